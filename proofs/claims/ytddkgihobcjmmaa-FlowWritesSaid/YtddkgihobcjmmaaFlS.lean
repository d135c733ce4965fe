/-
  FlowPieces over what is asked of the program's readers.
-/
import Derived.Test.YtddkgihobcjmmaaFlR
namespace Go.Proofs.Ytddkgihobcjmmaa.fl
set_option maxRecDepth 100000
open Go.RowKit Go.Maps
set_option maxRecDepth 100000

section
variable {R : RP} {V : VP}
/-- Two readers that were made behind w0. -/
def RR (R : RP) (w0 w : World) (a1 : Addr) (b1 : List UInt8) (p1 : Nat) (a2 : Addr) (b2 : List UInt8) (p2 : Nat) : Prop :=
  ∃ S T, R w a1 b1 p1 S ∧ R w a2 b2 p2 T ∧ (∀ i, S i → w0.heap.size ≤ i ∧ ¬ T i) ∧ (∀ i, T i → w0.heap.size ≤ i) ∧ Fr (fun _ => False) w0 w
theorem RR.swap {w0 w : World} {a1 : Addr} {b1 : List UInt8} {p1 : Nat} {a2 : Addr} {b2 : List UInt8} {p2 : Nat} (h : RR R w0 w a1 b1 p1 a2 b2 p2) : RR R w0 w a2 b2 p2 a1 b1 p1 := by
  obtain ⟨S, T, h1, h2, h3, h4, h5⟩ := h
  exact ⟨T, S, h2, h1, fun i hi => ⟨h4 i hi, fun hs => (h3 i hs).2 hi⟩, fun i hi => (h3 i hi).1, h5⟩
theorem RR.still (HP : FlowP R V) {w0 w w' : World} {a1 : Addr} {b1 : List UInt8} {p1 : Nat} {a2 : Addr} {b2 : List UInt8} {p2 : Nat} (h : RR R w0 w a1 b1 p1 a2 b2 p2) (hF : Fr (fun _ => False) w w') : RR R w0 w' a1 b1 p1 a2 b2 p2 := by
  obtain ⟨S, T, h1, h2, h3, h4, h5⟩ := h
  exact ⟨S, T, HP.r_keep h1 hF (fun _ _ e => e), HP.r_keep h2 hF (fun _ _ e => e), h3, h4, h5.trans hF (fun _ _ e => e)⟩
theorem RR.aft (HP : FlowP R V) {w0 w w' : World} {a1 : Addr} {b1 : List UInt8} {p' : Nat} {a2 : Addr} {b2 : List UInt8} {p2 : Nat} {S T : Nat → Prop} (h2 : R w a2 b2 p2 T) (h3 : ∀ i, S i → w0.heap.size ≤ i ∧ ¬ T i) (h4 : ∀ i, T i → w0.heap.size ≤ i) (h5 : Fr (fun _ => False) w0 w) (h : RAft R w a1 b1 S p' w') : RR R w0 w' a1 b1 p' a2 b2 p2 := by
  obtain ⟨S', g1, g2, g3⟩ := h
  refine ⟨S', T, g1, HP.r_keep h2 g3 (fun i ht hs => (h3 i hs).2 ht), fun i hi => ?_, h4, h5.trans g3 (fun i hi hs => by have := (h3 i hs).1; omega)⟩
  rcases g2 i hi with hs | hs
  · exact h3 i hs
  · exact ⟨Nat.le_trans h5.size hs, fun ht => by have := (HP.r_in h2).1 i ht; omega⟩
theorem RR.take (HP : FlowP R V) {w0 w : World} {a1 : Addr} {b1 : List UInt8} {p1 : Nat} {a2 : Addr} {b2 : List UInt8} {p2 : Nat} (h : RR R w0 w a1 b1 p1 a2 b2 p2) (n : Int) (hn : Big n) : Calls Try.prog 12 #[.pointer (some a1), .int .i64 n] w fun e w' => e = .returned (.tuple #[.int .i64 (takeV (bitsOf b1) p1 n).1, .int .i64 (takeV (bitsOf b1) p1 n).2]) ∧ RR R w0 w' a1 b1 (takeA (bitsOf b1) p1 n) a2 b2 p2 := by
  obtain ⟨S, T, h1, h2, h3, h4, h5⟩ := h
  exact (HP.take w a1 b1 p1 S n h1 hn).mono fun e w' g => ⟨g.1, RR.aft HP h2 h3 h4 h5 g.2⟩
theorem RR.skip (HP : FlowP R V) {w0 w : World} {a1 : Addr} {b1 : List UInt8} {p1 : Nat} {a2 : Addr} {b2 : List UInt8} {p2 : Nat} (h : RR R w0 w a1 b1 p1 a2 b2 p2) (n : Int) (hn : Big n) : Calls Try.prog 16 #[.pointer (some a1), .int .i64 n] w fun e w' => e = .returned (.int .i64 (takeV (bitsOf b1) p1 n).2) ∧ RR R w0 w' a1 b1 (takeA (bitsOf b1) p1 n) a2 b2 p2 := by
  obtain ⟨S, T, h1, h2, h3, h4, h5⟩ := h
  exact (HP.skip w a1 b1 p1 S n h1 hn).mono fun e w' g => ⟨g.1, RR.aft HP h2 h3 h4 h5 g.2⟩
theorem RR.peek (HP : FlowP R V) {w0 w : World} {a1 : Addr} {b1 : List UInt8} {p1 : Nat} {a2 : Addr} {b2 : List UInt8} {p2 : Nat} (h : RR R w0 w a1 b1 p1 a2 b2 p2) (n : Int) (hn : Big n) : Calls Try.prog 14 #[.pointer (some a1), .int .i64 n] w fun e w' => e = .returned (.int .i64 (peekV (bitsOf b1) p1 n)) ∧ RR R w0 w' a1 b1 p1 a2 b2 p2 := by
  obtain ⟨S, T, h1, h2, h3, h4, h5⟩ := id h
  exact (HP.peek w a1 b1 p1 S n h1 hn).mono fun e w' g => ⟨g.1, h.still HP g.2.fr⟩
theorem RR.at_ (HP : FlowP R V) {w0 w : World} {a1 : Addr} {b1 : List UInt8} {p1 : Nat} {a2 : Addr} {b2 : List UInt8} {p2 : Nat} (h : RR R w0 w a1 b1 p1 a2 b2 p2) : Calls Try.prog 22 #[.pointer (some a1)] w fun e w' => e = .returned (.int .i64 (p1 : Int)) ∧ RR R w0 w' a1 b1 p1 a2 b2 p2 := by
  obtain ⟨S, T, h1, h2, h3, h4, h5⟩ := id h
  exact (HP.at_ w a1 b1 p1 S h1).mono fun e w' g => ⟨g.1, h.still HP g.2.fr⟩

/-- Taking in two pieces (mathematics). -/
theorem takeV_in {L : List Int} {p n : Nat} (hn : n ≤ 24) : takeV L p (n : Int) = (if (L.length : Int) - p < n then (0, 7) else (numI ((L.drop p).take n), 0)) ∧ takeA L p (n : Int) = (if (L.length : Int) - p < n then p else p + n) := by
  have h : ¬ ((n : Int) < 0 ∨ 24 < (n : Int)) := by omega
  exact ⟨by unfold takeV; rw [if_neg h]; rfl, by unfold takeA; rw [if_neg h]; rfl⟩
theorem num_pieces {L : List Int} {p n m : Nat} (h : p + n ≤ L.length) : numI ((L.drop p).take (n + m)) = numI ((L.drop p).take n) + 2 ^ n * numI ((L.drop (p + n)).take m) := by
  rw [List.take_add, numI_append, List.drop_drop]
  congr 2
  rw [List.length_take, List.length_drop]
  congr 1
  omega

set_option maxHeartbeats 4000000 in
theorem pieces_walk (HP : FlowP R V) (w : World) (A : Option Addr) (cap : Nat) (b : List UInt8) (sk n m : Int) (hr : Rd w w.heap.size A b) (hA : A = none → cap = 0) (hc : b.length ≤ cap) (hb : b.length ≤ 140737488351232) :
    Calls Try.prog 6 #[.slice A b.length cap, .int .i64 sk, .int .i64 n, .int .i64 m] w fun e w' => e = .returned (.bool true) ∧ Fr (fun _ => False) w w' := by
  have HPP := Lib.hid HP
  have HI := Lib.hid (⟨hr, hA, hc, hb⟩ : _ ∧ _ ∧ _ ∧ _)
  have HAn := Lib.hid (fun w2 : World => among_nat w2 n 13 (by omega) (by omega))
  have HAm := Lib.hid (fun w2 : World => among_nat w2 m 13 (by omega) (by omega))
  have HAs := Lib.hid (fun w2 : World => among_nat w2 sk 25 (by omega) (by omega))
  have HW := Lib.hid (fworks HP w)
  obtain ⟨q, hq⟩ : ∃ q, q = b.length := ⟨_, rfl⟩
  have HQ := Lib.hid hq
  rw [← hq]
  clear HP hr hA hc hb hq
  go_enter Try.func6, Try.ntmps6
  go_wp2_with fail
  refine HW.out.mono ?_
  rintro e w1 ⟨rfl, hF1⟩
  have HF1 := Lib.hid hF1
  clear hF1 HW
  go_wp2_with fail
  refine (HAn.out w1).mono ?_
  rintro e w' ⟨k, hk, rfl, rfl⟩
  go_wp2_with fail
  refine (HAm.out w1).mono ?_
  rintro e w' ⟨l, hl, rfl, rfl⟩
  have HN1 := Lib.hid (HPP.out.new w1 A cap b ((HI.out.1.still HF1.out (Nat.le_refl _)).more HF1.out.size) HI.out.2.1 HI.out.2.2.1 HI.out.2.2.2)
  rw [← HQ.out] at HN1
  go_wp2_with fail
  refine HN1.out.mono ?_
  rintro e w2 ⟨a1, S, rfl, hR, hS, hF2⟩
  have HR2 := Lib.hid (⟨hR, hS, HF1.out.trans hF2 (fun _ _ e => e)⟩ : _ ∧ _ ∧ _)
  have HN2 := Lib.hid (HPP.out.new w2 A cap b ((HI.out.1.still HR2.out.2.2 (Nat.le_refl _)).more HR2.out.2.2.size) HI.out.2.1 HI.out.2.2.1 HI.out.2.2.2)
  rw [← HQ.out] at HN2
  clear hR hS hF2 HN1
  go_wp2_with fail
  refine HN2.out.mono ?_
  rintro e w3 ⟨a2, T, rfl, hR, hT, hF3⟩
  have H3 : Hid (RR R w w3 a1 b 0 a2 b 0) := Lib.hid ⟨S, T, HPP.out.r_keep HR2.out.1 hF3 (fun _ _ e => e), hR, fun i hi => ⟨Nat.le_trans HF1.out.size (HR2.out.2.1 i hi), fun ht => by have := hT i ht; have := (HPP.out.r_in HR2.out.1).1 i hi; omega⟩, fun i hi => Nat.le_trans HR2.out.2.2.size (hT i hi), HR2.out.2.2.trans hF3 (fun _ _ e => e)⟩
  clear hR hT hF3 HN2 HR2
  go_wp2_with fail
  refine (HAs.out w3).mono ?_
  rintro e w' ⟨t, ht, rfl, rfl⟩
  obtain ⟨L, hL⟩ : ∃ L, L = bitsOf b := ⟨_, rfl⟩
  have HL := Lib.hid (⟨hL, by rw [hL, bitsOf_length, HQ.out], by rw [hL]; exact bitsOf_bits b⟩ : L = bitsOf b ∧ L.length = 8 * q ∧ AllBit L)
  have HS1 := Lib.hid (H3.out.skip HPP.out (t : Int) (by omega))
  rw [← hL] at HS1
  obtain ⟨z, hz⟩ : ∃ z, z = (takeV L 0 (t : Int)).2 := ⟨_, rfl⟩
  obtain ⟨p, hp⟩ : ∃ p, p = takeA L 0 (t : Int) := ⟨_, rfl⟩
  have HZ := Lib.hid (⟨hz, hp⟩ : _ ∧ _)
  rw [← hz, ← hp] at HS1
  clear hL hz hp
  go_wp2_with fail
  refine HS1.out.mono ?_
  rintro e w4 ⟨rfl, h4⟩
  have HS2 := Lib.hid (h4.swap.skip HPP.out (t : Int) (by omega))
  rw [← HL.out.1, ← HZ.out.1, ← HZ.out.2] at HS2
  clear h4 HS1
  go_wp2_with fail
  refine HS2.out.mono ?_
  rintro e w5 ⟨rfl, h5⟩
  have H5 := Lib.hid h5
  obtain ⟨c, hc⟩ : ∃ c, c = k + l := ⟨_, rfl⟩
  have HC := Lib.hid hc
  have hc24 : c ≤ 24 := by omega
  have hkl : (k : Int) + (l : Int) = (c : Int) := by omega
  have HKL := Lib.hid hkl
  clear h5 HS2 hc
  have HPK := Lib.hid (H5.out.peek HPP.out (c : Int) (by omega))
  rw [← HL.out.1] at HPK
  obtain ⟨pv, hpv⟩ : ∃ pv, pv = peekV L p (c : Int) := ⟨_, rfl⟩
  have HPV := Lib.hid hpv
  rw [← hpv] at HPK
  clear hpv
  go_wp2_with fail
  refine HPK.out.mono ?_
  rintro e w6 ⟨rfl, h6⟩
  have H6 := Lib.hid h6
  have HT1 := Lib.hid (H6.out.take HPP.out (c : Int) (by omega))
  rw [← HL.out.1, (takeV_in hc24).1, (takeV_in hc24).2] at HT1
  clear h6 HPK
  by_cases hsh : (L.length : Int) - p < c
  · rw [if_pos hsh, if_pos hsh] at HT1
    go_wp2_with fail
    refine HT1.out.mono ?_
    rintro e w7 ⟨rfl, h7⟩
    have HR1 := Lib.hid (h7.swap.take HPP.out (k : Int) (by omega))
    rw [← HL.out.1, (takeV_in (show k ≤ 24 by omega)).1, (takeV_in (show k ≤ 24 by omega)).2] at HR1
    clear h7 HT1
    by_cases hk2 : (L.length : Int) - p < k
    · rw [if_pos hk2, if_pos hk2] at HR1
      clear hsh hk2
      go_wp2_with fail
      refine HR1.out.mono ?_
      rintro e w8 ⟨rfl, h8⟩
      have HR2 := Lib.hid (h8.take HPP.out (l : Int) (by omega))
      obtain ⟨y1, hy1⟩ : ∃ y, y = (takeV (bitsOf b) p (l : Int)).1 := ⟨_, rfl⟩
      obtain ⟨y2, hy2⟩ : ∃ y, y = (takeV (bitsOf b) p (l : Int)).2 := ⟨_, rfl⟩
      rw [← hy1, ← hy2] at HR2
      clear h8 HR1 hy1 hy2
      go_wp2_with fail
      refine HR2.out.mono ?_
      rintro e w9 ⟨rfl, h9⟩
      have HF := Lib.hid (show Fr (fun _ => False) w w9 by obtain ⟨_, _, _, _, _, _, hF⟩ := h9; exact hF)
      clear h9
      go_wp2_with fail
      go_ret
      exact ⟨rfl, HF.out⟩
    · rw [if_neg hk2, if_neg hk2] at HR1
      obtain ⟨x, hx⟩ : ∃ x, x = numI ((L.drop p).take k) := ⟨_, rfl⟩
      rw [← hx] at HR1
      clear hx
      go_wp2_with fail
      refine HR1.out.mono ?_
      rintro e w8 ⟨rfl, h8⟩
      have HR2 := Lib.hid (h8.take HPP.out (l : Int) (by omega))
      rw [← HL.out.1, (takeV_in (show l ≤ 24 by omega)).1, if_pos (by have := HKL.out; omega)] at HR2
      clear h8 HR1 hsh hk2
      go_wp2_with fail
      refine HR2.out.mono ?_
      rintro e w9 ⟨rfl, h9⟩
      have HF := Lib.hid (show Fr (fun _ => False) w w9 by obtain ⟨_, _, _, _, _, _, hF⟩ := h9; exact hF)
      clear h9
      go_wp2_with fail
      go_ret
      exact ⟨rfl, HF.out⟩
  · rw [if_neg hsh, if_neg hsh] at HT1
    obtain ⟨X, hX⟩ : ∃ X, X = numI ((L.drop p).take k) := ⟨_, rfl⟩
    obtain ⟨Y, hY⟩ : ∃ Y, Y = numI ((L.drop (p + k)).take l) := ⟨_, rfl⟩
    obtain ⟨U, hU⟩ : ∃ U : Int, U = 2 ^ k * Y := ⟨_, rfl⟩
    have hXU : numI ((L.drop p).take c) = X + U := by rw [HC.out, num_pieces (by have := HC.out; omega), ← hX, ← hY, ← hU]
    have hall := numI_in _ (HL.out.2.2.sub ((List.take_sublist c _).trans (List.drop_sublist p _)))
    have hxin := numI_in _ (HL.out.2.2.sub ((List.take_sublist k _).trans (List.drop_sublist p _)))
    have hyin := numI_in _ (HL.out.2.2.sub ((List.take_sublist l _).trans (List.drop_sublist (p + k) _)))
    have hp24 : (2 : Int) ^ ((L.drop p).take c).length ≤ 2 ^ 24 := by exact_mod_cast Nat.pow_le_pow_right (n := 2) (by omega) (by rw [List.length_take]; omega)
    have hpy : (2 : Int) ^ ((L.drop (p + k)).take l).length ≤ 2 ^ 12 := by exact_mod_cast Nat.pow_le_pow_right (n := 2) (by omega) (by rw [List.length_take]; omega)
    rw [hXU] at HT1 hall
    rw [← hX] at hxin
    rw [← hY] at hyin
    have hx0 : 0 ≤ X := hxin.1
    have hu0 : 0 ≤ U := by rw [hU]; exact Int.mul_nonneg (Int.pow_nonneg (by omega)) hyin.1
    have hxu : X + U < 16777216 := by omega
    have hy0 : 0 ≤ Y ∧ Y < 4096 := by omega
    have HU := Lib.hid hU
    have hpv2 : pv = X + U := by rw [HPV.out]; unfold peekV; rw [if_neg (by omega), ← hXU]; rfl
    subst hpv2
    have HXY := Lib.hid (⟨hX, hY⟩ : _ ∧ _)
    clear hall hxin hyin hp24 hpy hXU hU hX hY
    obtain ⟨y0, y1⟩ := hy0
    go_wp2_with fail
    refine HT1.out.mono ?_
    rintro e w7 ⟨rfl, h7⟩
    have HR1 := Lib.hid (h7.swap.take HPP.out (k : Int) (by omega))
    rw [← HL.out.1, (takeV_in (show k ≤ 24 by omega)).1, (takeV_in (show k ≤ 24 by omega)).2, if_neg (by have := HKL.out; omega), if_neg (by have := HKL.out; omega), ← HXY.out.1] at HR1
    clear h7 HT1
    go_wp2_with fail
    refine HR1.out.mono ?_
    rintro e w8 ⟨rfl, h8⟩
    have HR2 := Lib.hid (h8.take HPP.out (l : Int) (by omega))
    rw [← HL.out.1, (takeV_in (show l ≤ 24 by omega)).1, (takeV_in (show l ≤ 24 by omega)).2, if_neg (by have := HKL.out; omega), if_neg (by have := HKL.out; omega), ← HXY.out.2, show p + k + l = p + c by rw [HC.out]; omega] at HR2
    clear h8 HR1 hsh
    go_wp2_with fail
    refine HR2.out.mono ?_
    rintro e w9 ⟨rfl, h9⟩
    have H9 := Lib.hid h9
    obtain ⟨pe, hpe⟩ : ∃ pe, pe = p + c := ⟨_, rfl⟩
    rw [← hpe] at H9
    clear h9 HR2 hpe
    go_wp2_with fail
    go_loop [18, 19] (fun v18 v19 => ∃ (i : Nat) (W : Int), i ≤ k ∧ 1 ≤ W ∧ W ≤ 4096 ∧ v19 = .int .i64 i ∧ v18 = .int .i64 W ∧ Hid (W = 2 ^ i)) (fun _ v => k - (intOf v).toNat)
    case atStart => exact ⟨0, 1, Nat.zero_le _, by omega, by omega, rfl, rfl, (show (1 : Int) = 2 ^ 0 from rfl)⟩
    case round =>
      obtain ⟨i, W, hi, hW0, hW1, rfl, rfl, HWW⟩ := hrel
      by_cases hlt : i < k
      · have HP2 := Lib.hid (show 2 * W = 2 ^ (i + 1) ∧ (2 : Int) ^ (i + 1) ≤ 2 ^ 12 from ⟨by rw [HWW.out, Int.pow_succ, Int.mul_comm], by exact_mod_cast Nat.pow_le_pow_right (n := 2) (by omega) (by omega)⟩)
        have hw2 : 2 * W ≤ 4096 := by have := HP2.out.1; have := HP2.out.2; omega
        go_wp2_with fail
        go_round
        case rel => exact ⟨i + 1, 2 * W, by omega, by omega, by omega, by go_num, by go_num, HP2.out.1⟩
        case measure => simp [intOf]; omega
      · obtain rfl : i = k := by omega
        have hwy : IntKind.i64.wrap (W * Y) = U := by rw [HU.out, ← HWW.out]; exact IntWalk.i64_in _ (by rw [HWW.out, ← HU.out]; omega)
        have HA1 := Lib.hid (H9.out.at_ HPP.out)
        go_wp2_with fail
        refine HA1.out.mono ?_
        rintro e w10 ⟨rfl, h10⟩
        have HA2 := Lib.hid (h10.swap.at_ HPP.out)
        clear h10 HA1
        go_wp2_with fail
        refine HA2.out.mono ?_
        rintro e w11 ⟨rfl, h11⟩
        have HF := Lib.hid (show Fr (fun _ => False) w w11 by obtain ⟨_, _, _, _, _, _, hF⟩ := h11; exact hF)
        clear h11
        go_wp2_with fail
        go_ret
        exact ⟨rfl, HF.out⟩
end
end Go.Proofs.Ytddkgihobcjmmaa.fl
