/-
  What each call answers, as one value: whatever the input.
-/
import Derived.Test.YtmfilcdljfpnfaaBitsW
namespace Go.Proofs.Ytmfilcdljfpnfaa
open Go.RowKit Go.Maps

instance (n : Nat) (a k : Int) : Decidable (Std n a k) := by unfold Std; infer_instance

def gotV (l : List UInt8) (a k : Int) : Int := if Std l.length a k then ((numAt l a.toNat k.toNat : Nat) : Int) else 0
def stdE (n : Nat) (a k : Int) : Int := if Std n a k then 0 else 2
theorem get_any (w : World) (A : Option Addr) (n cap B : Nat) (a k : Int) (l : List UInt8) (hr : Rd w B A l) (hn : l.length = n) (hl : n ≤ 140737488351232) :
    Calls Try.prog 10 #[.slice A n cap, .int .i64 a, .int .i64 k] w fun e w' => e = .returned (.tuple #[.int .i64 (gotV l a k), .int .i64 (stdE n a k)]) ∧ w = w' := by
  subst hn
  unfold gotV stdE
  by_cases h : Std l.length a k
  · rw [if_pos h, if_pos h]
    obtain ⟨h1, h2, h3, h4⟩ := h
    obtain ⟨a, rfl⟩ : ∃ x : Nat, a = x := ⟨a.toNat, by omega⟩
    obtain ⟨k, rfl⟩ : ∃ x : Nat, k = x := ⟨k.toNat, by omega⟩
    exact get_ok w A _ cap B a k l hr rfl hl (by omega) (by omega) (by omega)
  · rw [if_neg h, if_neg h]
    exact get_no w A _ cap a k hl h
theorem rget_any (w : World) (A : Option Addr) (n cap B : Nat) (a k : Int) (l : List UInt8) (hr : Rd w B A l) (hn : l.length = n) (hl : n ≤ 140737488351232) :
    Calls Try.prog 11 #[.slice A n cap, .int .i64 a, .int .i64 k] w fun e w' => e = .returned (.tuple #[.int .i64 (gotV l a k), .int .i64 (stdE n a k)]) ∧ w = w' := by
  subst hn
  unfold gotV stdE
  by_cases h : Std l.length a k
  · rw [if_pos h, if_pos h]
    obtain ⟨h1, h2, h3, h4⟩ := h
    obtain ⟨a, rfl⟩ : ∃ x : Nat, a = x := ⟨a.toNat, by omega⟩
    obtain ⟨k, rfl⟩ : ∃ x : Nat, k = x := ⟨k.toNat, by omega⟩
    exact rget_ok w A _ cap B a k l hr rfl hl (by omega) (by omega) (by omega)
  · rw [if_neg h, if_neg h]
    exact rget_no w A _ cap a k hl h

/-- Bytes of the call's own, or nil, and an error. -/
def ResB (w : World) (L : List UInt8) (E : Int) (e : Ending) (w' : World) : Prop :=
  ∃ A cap, e = .returned (.tuple #[.slice A L.length cap, .int .i64 E]) ∧ Own w' w.heap.size (.slice A L.length cap) L ∧ Fr (fun _ => False) w w'
theorem NewB2.res {w : World} {l : List UInt8} {e : Ending} {w' : World} (h : NewB2 w l e w') : ResB w l 0 e w' := by
  obtain ⟨A, cap, he, ho, _, hF⟩ := h
  exact ⟨A, cap, he, ho, hF⟩
theorem RefB.res {w : World} {e : Ending} {w' : World} (h : RefB w e w') : ResB w [] 2 e w' := ⟨none, 0, h.1, ⟨rfl, Or.inl ⟨rfl, rfl⟩⟩, h.2⟩
theorem res_none {w : World} {e : Ending} {w' : World} (h : e = .returned (.tuple #[.slice none 0 0, .int .i64 2]) ∧ w = w') : ResB w [] 2 e w' := by
  obtain ⟨h1, rfl⟩ := h
  exact RefB.res ⟨h1, Fr.refl _ _⟩

def putL2 (l : List UInt8) (a k N : Int) : List UInt8 := if Std l.length a k ∧ goesB N k.toNat = true then putL l a.toNat N.toNat k.toNat else []
def putE (l : List UInt8) (a k N : Int) : Int := if Std l.length a k ∧ goesB N k.toNat = true then 0 else 2
theorem put_any (w : World) (A : Option Addr) (n cap B : Nat) (a k N : Int) (l : List UInt8) (hr : Rd w B A l) (hn : l.length = n) (hB : B ≤ w.heap.size) (hA : A = none → cap = 0) (hl : n ≤ 140737488351232) :
    Calls Try.prog 12 #[.slice A n cap, .int .i64 a, .int .i64 k, .int .i64 N] w (ResB w (putL2 l a k N) (putE l a k N)) := by
  subst hn
  unfold putL2 putE
  by_cases h : Std l.length a k
  · obtain ⟨h1, h2, h3, h4⟩ := id h
    obtain ⟨k, rfl⟩ : ∃ x : Nat, k = x := ⟨k.toNat, by omega⟩
    by_cases hg : goesB N k = true
    · have hN := (goesB_iff N k).1 hg
      obtain ⟨a, rfl⟩ : ∃ x : Nat, a = x := ⟨a.toNat, by omega⟩
      obtain ⟨N, rfl⟩ : ∃ x : Nat, N = x := ⟨N.toNat, by omega⟩
      rw [if_pos ⟨h, hg⟩, if_pos ⟨h, hg⟩]
      exact (put_ok w A _ cap B a k N l hr rfl hB hA hl (by omega) (by omega) (by omega) hg).mono fun _ _ => NewB2.res
    · rw [if_neg (fun e => hg e.2), if_neg (fun e => hg e.2)]
      exact (put_no2 w A _ cap a k N hl h (by simpa using hg)).mono fun _ _ => res_none
  · rw [if_neg (fun e => h e.1), if_neg (fun e => h e.1)]
    exact (put_no w A _ cap a k N hl h).mono fun _ _ => res_none
theorem rput_any (w : World) (A : Option Addr) (n cap B : Nat) (a k N : Int) (l : List UInt8) (hr : Rd w B A l) (hn : l.length = n) (hB : B ≤ w.heap.size) (hA : A = none → cap = 0) (hl : n ≤ 140737488351232) (hN2 : N ≤ 9223372036854775807) :
    Calls Try.prog 13 #[.slice A n cap, .int .i64 a, .int .i64 k, .int .i64 N] w (ResB w (putL2 l a k N) (putE l a k N)) := by
  subst hn
  unfold putL2 putE
  by_cases h : Std l.length a k
  · obtain ⟨h1, h2, h3, h4⟩ := id h
    obtain ⟨k, rfl⟩ : ∃ x : Nat, k = x := ⟨k.toNat, by omega⟩
    by_cases h0 : N < 0
    · have hg : ¬ goesB N k = true := fun e => by have := (goesB_iff N k).1 e; omega
      rw [if_neg (fun e => hg e.2), if_neg (fun e => hg e.2)]
      exact (rput_neg w A _ cap a k N hl h h0).mono fun _ _ => RefB.res
    · obtain ⟨a, rfl⟩ : ∃ x : Nat, a = x := ⟨a.toNat, by omega⟩
      obtain ⟨N, rfl⟩ : ∃ x : Nat, N = x := ⟨N.toNat, by omega⟩
      have hc := rput_at w A _ cap B a k N l hr rfl hB hA hl (by omega) (by omega) (by omega) (by omega)
      by_cases hg : goesB N k = true
      · rw [if_pos ⟨h, hg⟩, if_pos ⟨h, hg⟩]
        exact hc.mono fun _ _ hh => (hh.1 hg).res
      · rw [if_neg (fun e => hg e.2), if_neg (fun e => hg e.2)]
        exact hc.mono fun _ _ hh => (hh.2 (by simpa using hg)).res
  · rw [if_neg (fun e => h e.1), if_neg (fun e => h e.1)]
    exact (rput_no w A _ cap a k N hl h).mono fun _ _ => RefB.res

/-- There is a bit i. -/
def In8 (n : Nat) (i : Int) : Prop := 0 ≤ i ∧ i / 8 < n
instance (n : Nat) (i : Int) : Decidable (In8 n i) := by unfold In8; infer_instance
def hasV (l : List UInt8) (i : Int) : Bool := if In8 l.length i then bitB l i.toNat else false
def in8E (n : Nat) (i : Int) : Int := if In8 n i then 0 else 2
theorem has_any (w : World) (A : Option Addr) (n cap B : Nat) (i : Int) (l : List UInt8) (hr : Rd w B A l) (hn : l.length = n) (hl : n ≤ 140737488351232) (hi2 : i ≤ 9223372036854775807) :
    Calls Try.prog 16 #[.slice A n cap, .int .i64 i] w fun e w' => e = .returned (.tuple #[.bool (hasV l i), .int .i64 (in8E n i)]) ∧ w = w' := by
  subst hn
  unfold hasV in8E
  by_cases h : In8 l.length i
  · rw [if_pos h, if_pos h]
    obtain ⟨h1, h2⟩ := h
    obtain ⟨i, rfl⟩ : ∃ x : Nat, i = x := ⟨i.toNat, by omega⟩
    exact has_ok w A _ cap B i l hr rfl (by omega) hl
  · rw [if_neg h, if_neg h]
    exact has_no w A _ cap i hi2 h
theorem rhas_any (w : World) (A : Option Addr) (n cap B : Nat) (i : Int) (l : List UInt8) (hr : Rd w B A l) (hn : l.length = n) (hl : n ≤ 140737488351232) (hi2 : i ≤ 9223372036854775807) :
    Calls Try.prog 17 #[.slice A n cap, .int .i64 i] w fun e w' => e = .returned (.tuple #[.bool (hasV l i), .int .i64 (in8E n i)]) ∧ w = w' := by
  subst hn
  unfold hasV in8E
  by_cases h : In8 l.length i
  · rw [if_pos h, if_pos h]
    obtain ⟨h1, h2⟩ := h
    obtain ⟨i, rfl⟩ : ∃ x : Nat, i = x := ⟨i.toNat, by omega⟩
    exact rhas_ok w A _ cap B i l hr rfl (by omega) hl
  · rw [if_neg h, if_neg h]
    exact rhas_no w A _ cap i hi2 h
def setL2 (l : List UInt8) (i : Int) (on : Bool) : List UInt8 := if In8 l.length i then setL l i.toNat on else []
theorem set_any (w : World) (A : Option Addr) (n cap B : Nat) (i : Int) (on : Bool) (l : List UInt8) (hr : Rd w B A l) (hn : l.length = n) (hB : B ≤ w.heap.size) (hA : A = none → cap = 0) (hl : n ≤ 140737488351232) (hi2 : i ≤ 9223372036854775807) :
    Calls Try.prog 18 #[.slice A n cap, .int .i64 i, .bool on] w (ResB w (setL2 l i on) (in8E n i)) := by
  subst hn
  unfold setL2 in8E
  by_cases h : In8 l.length i
  · rw [if_pos h, if_pos h]
    obtain ⟨h1, h2⟩ := h
    obtain ⟨i, rfl⟩ : ∃ x : Nat, i = x := ⟨i.toNat, by omega⟩
    exact (set_ok w A _ cap B i on l hr rfl hB hA hl (by omega)).mono fun _ _ => NewB2.res
  · rw [if_neg h, if_neg h]
    exact (set_no w A _ cap i on hi2 h).mono fun _ _ => res_none
theorem rset_any (w : World) (A : Option Addr) (n cap B : Nat) (i : Int) (on : Bool) (l : List UInt8) (hr : Rd w B A l) (hn : l.length = n) (hB : B ≤ w.heap.size) (hl : n ≤ 140737488351232) (hi2 : i ≤ 9223372036854775807) :
    Calls Try.prog 19 #[.slice A n cap, .int .i64 i, .bool on] w (ResB w (setL2 l i on) (in8E n i)) := by
  subst hn
  unfold setL2 in8E
  by_cases h : In8 l.length i
  · rw [if_pos h, if_pos h]
    obtain ⟨h1, h2⟩ := h
    obtain ⟨i, rfl⟩ : ∃ x : Nat, i = x := ⟨i.toNat, by omega⟩
    exact (rset_ok w A _ cap B i on l hr rfl hB hl (by omega)).mono fun _ _ => NewB2.res
  · rw [if_neg h, if_neg h]
    exact (rset_no w A _ cap i on hi2 h).mono fun _ _ => res_none

theorem putL2_len (l : List UInt8) (a k N : Int) : (putL2 l a k N).length ≤ l.length := by
  unfold putL2
  split
  · rw [putL_length]; exact Nat.le_refl _
  · simp
theorem setL2_len (l : List UInt8) (i : Int) (on : Bool) : (setL2 l i on).length ≤ l.length := by
  unfold setL2
  split
  · rw [setL_length]; exact Nat.le_refl _
  · simp
theorem i64_in {a : Int} (h : (Lit.int .i64 a).wf = true) : -9223372036854775808 ≤ a ∧ a ≤ 9223372036854775807 := by simpa using bounds_i64 h
end Go.Proofs.Ytmfilcdljfpnfaa
