/-
  Put, the program's and the document's, where it puts.
-/
import Derived.Test.YtcdhakfmljjaoaaGreatDoorJB
namespace Go.Proofs.YtcdhakfmljjaoaaGreatDoor
set_option maxRecDepth 100000
open Go.RowKit Go.Maps

/-- What a loop that stores keeps. -/
def PutR (w wr : World) (A : Option Addr) (cap : Nat) (l : List UInt8) : Prop := Own wr w.heap.size (.slice A l.length cap) l ∧ Fr (fun _ => False) w wr
theorem PutR.step {w wr : World} {A : Option Addr} {cap : Nat} {l : List UInt8} (h : PutR w wr A cap l) {i : Nat} (hi : i < l.length) :
    ∃ g, A = some ⟨g, 0, none⟩ ∧ wr.cell? ⟨g, i, none⟩ = some (.int .u8 (l[i].toNat : Int)) ∧ wr.frozen? ⟨g, i, none⟩ = false ∧ ∀ c : UInt8, PutR w (wr.setCell ⟨g, i, none⟩ (.int .u8 (c.toNat : Int))) A cap (l.set i c) := by
  obtain ⟨g, hg, hb, hlt, hc, hf, hs⟩ := h.1.at_ hi
  exact ⟨g, hg, hc, hf, fun c => ⟨hs c, h.2.setCell (Or.inr hb) _⟩⟩

set_option maxRecDepth 100000 in
set_option maxHeartbeats 1000000 in
theorem put_ok (w : World) (A : Option Addr) (n cap B a k N : Nat) (l : List UInt8) (hr : Rd w B A l) (hn : l.length = n) (hB : B ≤ w.heap.size) (hA : A = none → cap = 0) (hl : n ≤ 140737488351232) (h1 : 1 ≤ k) (h4 : k ≤ 4) (hak : a + k ≤ n) (hg : goesB (N : Int) k = true) :
    Calls Tryz.prog 63 #[.slice A n cap, .int .i64 (a : Int), .int .i64 (k : Int), .int .i64 (N : Int)] w (NewB2 w (putL l a N k)) := by
  have HS := Lib.hid (show Std n a k from ⟨by omega, by omega, by omega, by omega⟩)
  have HC := Lib.hid (clone_any w A n cap B l hr hn hB hA hl)
  have HN := Lib.hid hn
  have HG := Lib.hid hg
  clear hr hn hB hA hg
  go_enter Tryz.func63, Tryz.ntmps63
  go_wp2_with (first
    | (go_at_call 85; refine (stands_ok _ _ _ _ _ _ hl HS.out).mono ?_; rintro e w' ⟨rfl, rfl⟩)
    | (go_at_call 86; refine (goes_any _ _ _ h4 h1 _ HG.out).mono ?_; rintro e w' ⟨rfl, rfl⟩))
  refine HC.out.mono ?_
  rintro e w1 ⟨A1, cap1, rfl, ho, hF⟩
  have H0 := Lib.hid (show PutR w w1 A1 cap1 (putL l a N 0) from ⟨ho, hF⟩)
  rw [HN.out]
  clear ho hF HC
  go_wp2_with fail
  go_loopw [11, 26] (fun _ i wr => ∃ j : Nat, j ≤ k ∧ i = .int .i64 j ∧ Hid (PutR w wr A1 cap1 (putL l a N j))) (fun _ i _ => k - (intOf i).toNat)
  case atStart => exact ⟨0, Nat.zero_le _, rfl, H0⟩
  case round =>
    obtain ⟨j, hj, rfl, HP⟩ := hrel
    clear H0
    by_cases hlt : j < k
    · have hlen : (putL l a N j).length = n := by rw [putL_length, HN.out]
      obtain ⟨g, rfl, hc, hf, hset⟩ := HP.out.step (i := a + j) (by rw [hlen]; omega)
      have hnew := hset (UInt8.ofNat (N / 256 ^ j))
      rw [show (putL l a N j).set (a + j) (UInt8.ofNat (N / 256 ^ j)) = putL l a N (j + 1) from rfl] at hnew
      have hb := byte_shr N j
      obtain ⟨X, hX⟩ : ∃ X : Int, X = (((UInt8.ofNat (N / 256 ^ j)).toNat : Nat) : Int) := ⟨_, rfl⟩
      rw [← hX] at hb hnew
      have HNew := Lib.hid hnew
      generalize ((putL l a N j)[a + j]'(by rw [hlen]; omega)).toNat = y at hc
      clear hnew hX hset hlen HP
      have hi1 : (0 : Int) ≤ (a : Int) + j := by omega
      have hi2 : (a : Int) + j < n := by omega
      go_wp2_with fail
      go_roundw
      case rel => exact ⟨j + 1, by omega, by go_num, HNew⟩
      case measure => simp [intOf]; omega
    · have hjk : j = k := by omega
      subst hjk
      have HL := Lib.hid (show n = (putL l a N j).length by rw [putL_length, HN.out])
      go_wp2_with fail
      go_ret2
      rw [HL.out] at *
      exact ⟨A1, cap1, rfl, HP.out.1, own_none HP.out.1, HP.out.2⟩

/-- A call that refuses behind memory that it made. -/
def RefB (w : World) (e : Ending) (w' : World) : Prop := e = .returned (.tuple #[.slice none 0 0, .int .i64 2]) ∧ Fr (fun _ => False) w w'

set_option maxHeartbeats 1000000 in
theorem rput_no (w : World) (A : Option Addr) (n cap : Nat) (a k m : Int) (hl : n ≤ 140737488351232) (h : ¬ Std n a k) :
    Calls Tryz.prog 42 #[.slice A n cap, .int .i64 a, .int .i64 k, .int .i64 m] w (RefB w) := by
  have H := Lib.hid h
  clear h
  go_enter Tryz.func42, Tryz.ntmps42
  go_wp2_with (go_at_call 64; refine (place_no _ _ _ _ _ _ hl H.out).mono ?_; rintro e w' ⟨rfl, rfl⟩)
  go_ret2
  exact ⟨rfl, Fr.refl _ _⟩
set_option maxHeartbeats 1000000 in
theorem rput_neg (w : World) (A : Option Addr) (n cap : Nat) (a k m : Int) (hl : n ≤ 140737488351232) (h : Std n a k) (hm : m < 0) :
    Calls Tryz.prog 42 #[.slice A n cap, .int .i64 a, .int .i64 k, .int .i64 m] w (RefB w) := by
  have H := Lib.hid h
  clear h
  go_enter Tryz.func42, Tryz.ntmps42
  go_wp2_with (go_at_call 64; refine (place_ok _ _ _ _ _ _ hl H.out).mono ?_; rintro e w' ⟨rfl, rfl⟩)
  go_ret2
  exact ⟨rfl, Fr.refl _ _⟩

def RPut (w : World) (l : List UInt8) (ok : Bool) (e : Ending) (w' : World) : Prop := (ok = true → NewB2 w l e w') ∧ (ok = false → RefB w e w')

set_option maxRecDepth 100000 in
set_option maxHeartbeats 2000000 in
theorem rput_at (w : World) (A : Option Addr) (n cap B a k N : Nat) (l : List UInt8) (hr : Rd w B A l) (hn : l.length = n) (hB : B ≤ w.heap.size) (hA : A = none → cap = 0) (hl : n ≤ 140737488351232) (h1 : 1 ≤ k) (h4 : k ≤ 4) (hak : a + k ≤ n) (hN : N ≤ 9223372036854775807) :
    Calls Tryz.prog 42 #[.slice A n cap, .int .i64 (a : Int), .int .i64 (k : Int), .int .i64 (N : Int)] w (RPut w (putL l a N k) (goesB (N : Int) k)) := by
  have HS := Lib.hid (show Std n a k from ⟨by omega, by omega, by omega, by omega⟩)
  obtain ⟨i0, hi, hz0, hz1, hz2⟩ := info_parts infoB
  have hO : (w.alloc (.cells #[] 5)).ownsRow w.heap.size 5 1 (.slice (some ⟨w.heap.size, 0, none⟩) 0 0) 0 [] := World.ownsRow_made w #[] 0 (Nat.le_refl _) (Nat.zero_le _) (by simp)
  have hF : Fr (fun _ => False) w (w.alloc (.cells #[] 5)) := (Fr.refl _ w).alloc _
  have HO := Lib.hid hO
  have HF := Lib.hid hF
  have HI := Lib.hid (⟨hi, hz0, hz1, hz2⟩ : _ ∧ _ ∧ _ ∧ _)
  have HN := Lib.hid hn
  clear hO hF hi hz0 hz1 hz2
  cases A with
  | none =>
    exfalso
    have hne : l ≠ [] := by intro e; subst e; simp at hn; omega
    obtain ⟨_, _, e, _⟩ := hr hne
    cases e
  | some ad =>
  have hr1 := hr.still HF.out hB
  have HR := Lib.hid hr1.src
  clear hr hA hn hr1
  go_enter Tryz.func42, Tryz.ntmps42
  go_wp2_with (first
    | (go_at_call 64; refine (place_ok _ _ _ _ _ _ hl HS.out).mono ?_; rintro e w' ⟨rfl, rfl⟩)
    | (at_builtin; refine wpList_append_own _ rfl (.tmp 21) (.tmp 22) 22 rfl w.heap.size 5 i0 (.int .u8 0) 1 1 Tryz.underlying22 HI.out.1 HI.out.2.1 HI.out.2.2.1 HI.out.2.2.2 rfl (by omega) _ 0 [] rfl HO.out ad n cap (bs l) rfl ?c1 HR.out (bs_one l) ?c2 ?c3 ?c4 ?c5))
  case c1 => rw [bs_length, HN.out]; omega
  case c2 => unfold maxLen; omega
  case c3 => omega
  case c4 => simp
  case c5 =>
  intro v' w1 hown hgrow hnil
  have hfr := HF.out.grown hgrow (fun k hk => Or.inr (by simp [Value.ownBlock] at hk; omega))
  obtain ⟨A1, cap1, e1, ho, hF⟩ := NewB.of_own (l := l) HN.out.symm rfl hnil hown hfr
  cases e1
  have H0 := Lib.hid (show PutR w w1 A1 cap1 (putL l a N 0) from ⟨ho, hF⟩)
  rw [HN.out]
  have HZ := Lib.hid (show (N : Int) = ((N / 256 ^ 0 : Nat) : Int) by rw [Nat.pow_zero, Nat.div_one])
  clear ho hF hown hgrow hnil hfr
  go_wp2_with fail
  go_loopw [3, 11] (fun v i wr => ∃ j : Nat, j ≤ k ∧ i = .int .i64 j ∧ v = .int .i64 ((N / 256 ^ j : Nat) : Int) ∧ Hid (PutR w wr A1 cap1 (putL l a N j))) (fun _ i _ => k - (intOf i).toNat)
  case atStart => exact ⟨0, Nat.zero_le _, rfl, by rw [← HZ.out], H0⟩
  case round =>
    obtain ⟨j, hj, rfl, rfl, HP⟩ := hrel
    clear H0
    by_cases hlt : j < k
    · have hlen : (putL l a N j).length = n := by rw [putL_length, HN.out]
      obtain ⟨g, rfl, hc, hf, hset⟩ := HP.out.step (i := a + j) (by rw [hlen]; omega)
      have hnew := hset (UInt8.ofNat (N / 256 ^ j))
      rw [show (putL l a N j).set (a + j) (UInt8.ofNat (N / 256 ^ j)) = putL l a N (j + 1) from rfl] at hnew
      have hb := byte_mod' N j
      have hd := Lib.hid (next_div N j)
      obtain ⟨X, hX⟩ : ∃ X : Int, X = (((UInt8.ofNat (N / 256 ^ j)).toNat : Nat) : Int) := ⟨_, rfl⟩
      rw [← hX] at hb hnew
      have HNew := Lib.hid hnew
      have hX0 : 0 ≤ X ∧ X < 256 := by rw [← hb]; omega
      generalize ((putL l a N j)[a + j]'(by rw [hlen]; omega)).toNat = y at hc
      have hqN : N / 256 ^ j ≤ N := Nat.div_le_self _ _
      obtain ⟨q, hq⟩ : ∃ q, q = N / 256 ^ j := ⟨_, rfl⟩
      rw [← hq] at hb hd hqN ⊢
      have hq63 : q ≤ 9223372036854775807 := by omega
      have hw : IntKind.u8.wrap X = X := by rw [wrap8]; omega
      have hw2 : IntKind.u8.wrap ((q : Int) % 256) = X := by rw [hb]; exact hw
      clear hnew hX hset hlen HP hq hX0 hqN
      have hi1 : (0 : Int) ≤ (a : Int) + j := by omega
      have hi2 : (a : Int) + j < n := by omega
      go_wp2_with fail
      go_roundw
      case rel => exact ⟨j + 1, by omega, by go_num, by rw [← hd.out], HNew⟩
      case measure => simp [intOf]; omega
    · have hjk : j = k := by omega
      subst hjk
      have HL := Lib.hid (show n = (putL l a N j).length by rw [putL_length, HN.out])
      have hpw : 0 < 256 ^ j := (p5 h4).2
      by_cases hg : goesB (N : Int) j = true
      · have h0 : N / 256 ^ j = 0 := Nat.div_eq_of_lt (by have := (goesB_iff N j).1 hg; omega)
        rw [h0]
        have HG := Lib.hid hg
        clear h0 hg hpw
        go_wp2_with fail
        go_ret2
        refine ⟨fun _ => ?_, fun e => by rw [HG.out] at e; cases e⟩
        rw [HL.out] at *
        exact ⟨A1, cap1, rfl, HP.out.1, own_none HP.out.1, HP.out.2⟩
      · have hg' : goesB (N : Int) j = false := by simpa using hg
        have h0 : 0 < N / 256 ^ j := Nat.div_pos (by have := mt (goesB_iff N j).2 hg; omega) hpw
        have HG := Lib.hid hg'
        generalize N / 256 ^ j = q at h0 ⊢
        clear hg hg' hpw
        go_wp2_with fail
        go_ret2
        exact ⟨(fun e => by rw [HG.out] at e; cases e), fun _ => ⟨rfl, HP.out.2⟩⟩
end Go.Proofs.YtcdhakfmljjaoaaGreatDoor
