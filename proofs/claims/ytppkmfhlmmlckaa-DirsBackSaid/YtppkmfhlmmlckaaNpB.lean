/-
  The program's closures on names; slices.IndexFunc and ContainsFunc at them; find.
-/
import Derived.Test.YtppkmfhlmmlckaaNpA
import Derived.Test.YtppkmfhlmmlckaaNmG
import Derived.Lib.Walk
import Derived.Shelf.Abstract
namespace Go.Proofs.Ytppkmfhlmmlckaa.nm
set_option maxRecDepth 100000
open Go.RowKit Go.Maps

abbrev aggN (x : Nm) : Value := .agg #[.string x.1, .int .i64 x.2]
/-- What is asked of a closure on entries. -/
def FnOk (w : World) (g : Nat) (lb : Array Value) (p : Nm → Bool) : Prop := ∀ (wr : World) (x : Nm), Fr (fun _ => False) w wr → Calls Try.prog g (#[aggN x] ++ lb) wr fun e w' => e = .returned (.bool (p x)) ∧ Fr (fun _ => False) wr w'

theorem named1 (w : World) (B : Nat) (s : ByteArray) (hB : w.heap[B]? = some (.cells #[.string s] 9 (0, 0))) : FnOk w 45 #[.pointer (some ⟨B, 0, none⟩)] (fun x => x.1.toList == s.toList) := fun wr x hF => by
  have hb : wr.heap[B]? = some (.cells #[.string s] 9 (0, 0)) := fr_keep hB hF
  have hc : (wr.alloc (.cells #[.string x.1, .int .i64 x.2] 41)).cell? ⟨B, 0, none⟩ = some (.string s) := (cellAt (fr_keep hb ((Fr.refl _ wr).alloc _)) 0).trans rfl
  have HF := Lib.hid ((Fr.refl (fun _ => False) wr).alloc (.cells #[.string x.1, .int .i64 x.2] 41))
  obtain ⟨xs, xi⟩ := x
  clear hb hB hF
  show Calls Try.prog 45 #[.agg #[.string xs, .int .i64 xi], .pointer (some ⟨B, 0, none⟩)] wr _
  go_enter Try.func45, Try.ntmps45
  go_wp2
  go_ret
  exact ⟨rfl, HF.out⟩
theorem greater1 (w : World) (B : Nat) (s : ByteArray) (hB : w.heap[B]? = some (.cells #[.string s] 9 (0, 0))) : FnOk w 46 #[.pointer (some ⟨B, 0, none⟩)] (fun x => !leS x.1 s) := fun wr x hF => by
  have hb : wr.heap[B]? = some (.cells #[.string s] 9 (0, 0)) := fr_keep hB hF
  have hc : (wr.alloc (.cells #[.string x.1, .int .i64 x.2] 41)).cell? ⟨B, 0, none⟩ = some (.string s) := (cellAt (fr_keep hb ((Fr.refl _ wr).alloc _)) 0).trans rfl
  have HF := Lib.hid ((Fr.refl (fun _ => False) wr).alloc (.cells #[.string x.1, .int .i64 x.2] 41))
  obtain ⟨xs, xi⟩ := x
  clear hb hB hF
  show Calls Try.prog 46 #[.agg #[.string xs, .int .i64 xi], .pointer (some ⟨B, 0, none⟩)] wr _
  go_enter Try.func46, Try.ntmps46
  go_wp2
  go_ret
  exact ⟨by unfold leS; rw [Bool.not_or]; rfl, HF.out⟩

/-- Where the first entry stands that a closure takes. -/
def idxZ (f n : Nat) : Int := if f < n then (f : Int) else -1
def NoP (l : List Nm) (p : Nm → Bool) (k : Nat) : Prop := ∀ j x, j < k → l[j]? = some x → p x = false
theorem NoP.next {l : List Nm} {p : Nm → Bool} {k : Nat} {x : Nm} (h : NoP l p k) (hx : l[k]? = some x) (hn : p x = false) : NoP l p (k + 1) := fun j z hj hz => by
  by_cases e : j = k
  · subst e
    rw [hx] at hz
    cases hz
    exact hn
  · exact h j z (by omega) hz
/-- f is where the first one stands. -/
structure IsAt (l : List Nm) (p : Nm → Bool) (f : Nat) : Prop where
  le : f ≤ l.length
  no : NoP l p f
  at_ : ∀ x, l[f]? = some x → p x = true
theorem IsAt.hit {l : List Nm} {p : Nm → Bool} {f k : Nat} {x : Nm} (h : IsAt l p f) (hn : NoP l p k) (hx : l[k]? = some x) (hp : p x = true) : f = k := by
  rcases Nat.lt_trichotomy f k with hlt | e | hlt
  · have hk := (List.getElem?_eq_some_iff.1 hx).1
    obtain ⟨y, hy⟩ : ∃ y, l[f]? = some y := ⟨_, List.getElem?_eq_getElem (by omega)⟩
    have h1 := h.at_ y hy
    rw [hn f y hlt hy] at h1
    cases h1
  · exact e
  · have h1 := h.no k x hlt hx
    rw [hp] at h1
    cases h1
theorem IsAt.miss {l : List Nm} {p : Nm → Bool} {f : Nat} (h : IsAt l p f) (hn : NoP l p l.length) : f = l.length := by
  rcases Nat.lt_or_ge f l.length with hlt | e
  · obtain ⟨y, hy⟩ : ∃ y, l[f]? = some y := ⟨_, List.getElem?_eq_getElem hlt⟩
    have h1 := h.at_ y hy
    rw [hn f y hlt hy] at h1
    cases h1
  · have := h.le
    omega

set_option maxHeartbeats 2000000 in
theorem index_any (w : World) (A : Option Addr) (cap : Nat) (l : List Nm) (g : Nat) (lb : Array Value) (p : Nm → Bool) (f : Nat) (eg : ∀ args w, (callFunc g args).run Try.prog w = .ok (.enter g args) w) (hr : RdN w w.heap.size A l) (hb : l.length ≤ 140737488351232) (hp : FnOk w g lb p) (hf : IsAt l p f) :
    Calls Try.prog 36 #[.slice A l.length cap, .func (.func g) #[] lb] w fun e w' => e = .returned (.int .i64 (idxZ f l.length)) ∧ Fr (fun _ => False) w w' := by
  obtain ⟨n, hn⟩ : ∃ n, n = l.length := ⟨_, rfl⟩
  rw [← hn] at hb ⊢
  have HR := Lib.hid hr
  have HN := Lib.hid hn
  have HP := Lib.hid hp
  have HA := Lib.hid hf
  obtain ⟨z, hz⟩ : ∃ z, z = idxZ f n := ⟨_, rfl⟩
  have HZ := Lib.hid hz
  rw [← hz]
  clear hr hn hp hf hz
  go_enter Try.func36, Try.ntmps36
  go_wp2_with fail
  go_loopw [5, 8] (fun _ i wr => ∃ k : Nat, k ≤ n ∧ i = .int .i64 k ∧ Hid (NoP l p k ∧ Fr (fun _ => False) w wr)) (fun _ i _ => n - (intOf i).toNat)
  case atStart => exact ⟨0, Nat.zero_le _, rfl, (show _ ∧ _ from ⟨fun j x h => by omega, Fr.refl _ w⟩)⟩
  case round =>
    obtain ⟨k, hk, rfl, HC⟩ := hrel
    by_cases hlt : k < n
    · obtain ⟨x, hx⟩ : ∃ x, l[k]? = some x := ⟨_, List.getElem?_eq_getElem (by have := HN.out; omega)⟩
      obtain ⟨b, o, rfl, _, p0, p1⟩ := (HR.out.still HC.out.2 (Nat.le_refl _)).at_ hx
      have hcall := HP.out wr x HC.out.2
      have HX := Lib.hid hx
      cases hq : p x with
      | true =>
        have HE := Lib.hid (HA.out.hit HC.out.1 hx hq)
        rw [hq] at hcall
        obtain ⟨xs, xi⟩ := x
        clear hx hq
        go_wp2_with (go_at_fn g; refine hcall.mono ?_; rintro e w' ⟨rfl, hF'⟩)
        have HF' := Lib.hid hF'
        clear hF' hcall
        go_wp2
        go_ret
        exact ⟨by rw [HZ.out, HE.out, idxZ, if_pos hlt]; rfl, HC.out.2.trans HF'.out (fun _ _ e => e)⟩
      | false =>
        have HE := Lib.hid (HC.out.1.next hx hq)
        rw [hq] at hcall
        obtain ⟨xs, xi⟩ := x
        clear hx hq
        go_wp2_with (go_at_fn g; refine hcall.mono ?_; rintro e w' ⟨rfl, hF'⟩)
        have HF' := Lib.hid hF'
        clear hF' hcall
        go_wp2
        go_roundw
        case rel => exact ⟨k + 1, by omega, by go_num, (show _ ∧ _ from ⟨HE.out, HC.out.2.trans HF'.out (fun _ _ e => e)⟩)⟩
        case measure => simp [intOf]; omega
    · obtain rfl : k = n := by omega
      have HE := Lib.hid (HA.out.miss (by rw [← HN.out]; exact HC.out.1))
      go_wp2_with fail
      go_ret
      exact ⟨by rw [HZ.out, HE.out, idxZ, if_neg (by have := HN.out; omega)]; rfl, HC.out.2⟩
end Go.Proofs.Ytppkmfhlmmlckaa.nm
