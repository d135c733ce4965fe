/-
  BitsRuns: runs sum up to all bits, those at odd places to those that are taken, and none but the first one is empty. The condition is the row's own: what is read is of bulk at most 1048576 (without it the runs of 2^47 bytes would be more than a slice bears).
-/
import Derived.Test.YtmfilcdljfpnfaaRows
import Derived.Test.YtmfilcdljfpnfaaBitsL
import Derived.Test.YtmfilcdljfpnfaaBitsN
import Derived.Test.YtmfilcdljfpnfaaUpto
import Derived.ProofKit
import Derived.OpenShut
import Derived.SizedLaws
import Derived.Deep.CondSized
namespace Go.Proofs.Ytmfilcdljfpnfaa.bitsRuns
open Go.ChangeShapes Go.WideShapes Go.ChangeAt Go.RowKit

theorem span_is (n : Nat) (m : Int) : ((spanN n m : Nat) : Int) = max 0 (min m (8 * (n : Int))) := by unfold spanN; omega
theorem sum_next (R : List Int) (j : Nat) : sumTo R (j + 1) = sumTo R j + R.getD j 0 := rfl
theorem odd_next (R : List Int) (j : Nat) (h : j % 2 = 1) : oddTo R (j + 1) = oddTo R j + R.getD j 0 := by rw [oddTo, if_pos h]
theorem odd_same (R : List Int) (j : Nat) (h : ¬ j % 2 = 1) : oddTo R (j + 1) = oddTo R j := by rw [oddTo, if_neg h]

set_option maxRecDepth 100000 in
set_option maxHeartbeats 4000000 in
theorem walk_zero (A : Option Addr) (cap n : Nat) (l : List UInt8) (m : Int) (W : World) (hr : Rd W W.heap.size A l) (hn : l.length = n) (hl : n ≤ 1048576) (hm : m ≤ 0) :
    Calls Try.prog 8 #[.slice A n cap, .int .i64 m] W fun e w' => e = .returned (.bool true) ∧ Fr (fun _ => False) W w' := by
  have HR := Lib.hid hr
  have HN := Lib.hid hn
  skip
  have hsp := spanN_le n m
  have hsi := span_is n m
  clear hr hn
  go_enter Try.func8, Try.ntmps8
  go_wp2_with fail
  refine (works_any W).mono ?_
  rintro e w1 ⟨rfl, hF⟩
  have G1 := Lib.hid hF
  have HR1 := Lib.hid (HR.out.still hF (Nat.le_refl _))
  clear hF
  go_wp2_with fail
  refine (runs_any w1 A n cap _ m l HR1.out HN.out G1.out.size (by omega)).mono ?_
  rintro e w2 ⟨A2, cap2, rfl, ho, hF2⟩
  have G2 := Lib.hid (G1.out.trans hF2 (fun _ _ e => e))
  have HR2 := Lib.hid (HR1.out.still hF2 G1.out.size)
  have HC := Lib.hid (count_any w2 A n cap _ m l HR2.out HN.out G2.out.size (by omega))
  have hlen := runsOf_length l (spanN n m)
  have HI := Lib.hid (ho.rd (runsOf_in l _ (by omega)))
  obtain ⟨k1, k2, k3, k4⟩ := runsOf_ok l (spanN n m)
  have HK1 := Lib.hid k1
  have HK2 := Lib.hid k2
  have HK3 := Lib.hid k3
  have HK4 := Lib.hid k4
  clear ho hF2 k1 k2 k3 k4
  generalize runsOf l (spanN n m) = R at hlen HI HK1 HK2 HK3 HK4 ⊢
  obtain ⟨S, hS⟩ : ∃ S, S = spanN n m := ⟨_, rfl⟩
  obtain ⟨C, hCt⟩ : ∃ C, C = cnt l (spanN n m) := ⟨_, rfl⟩
  rw [← hCt] at HK2 HC
  rw [← hS] at hsp hsi hlen HK1
  have hs1 : (S : Int) = 0 := by omega
  have HCT := Lib.hid hCt
  obtain ⟨L, hL⟩ : ∃ L, L = R.length := ⟨_, rfl⟩
  have HL := Lib.hid hL
  rw [← hL] at hlen HK1 HK2 ⊢
  clear hsi hS hCt hL
  go_wp2_with fail
  go_loop [6, 7, 8] (fun v t i => ∃ j : Nat, j ≤ L ∧ i = .int .i64 j ∧ v = .int .i64 (sumTo R j) ∧ t = .int .i64 (oddTo R j)) (fun _ _ i => L - (intOf i).toNat)
  case atStart => exact ⟨0, Nat.zero_le _, rfl, rfl, rfl⟩
  case round =>
    obtain ⟨j, hj, rfl, rfl, rfl⟩ := hrel
    by_cases hlt : j < L
    · have hjR : j < R.length := by have := HL.out; omega
      obtain ⟨blk, off, rfl, _, hc, hq0⟩ := HI.out.at_ hjR
      clear hq0
      have hx0 := HK4.out _ (List.getElem_mem hjR)
      have hg : R.getD j 0 = R[j] := by rw [List.getD_eq_getElem?_getD, List.getElem?_eq_getElem hjR, Option.getD_some]
      have hm1 := sumTo_mono R HK4.out j (L - j)
      have hm2 := sumTo_mono R HK4.out (j + 1) (L - (j + 1))
      rw [show j + (L - j) = L by omega, HK1.out] at hm1
      rw [show j + 1 + (L - (j + 1)) = L by omega, HK1.out] at hm2
      have hm3 := oddTo_in R HK4.out j
      have hn1 := sum_next R j
      have h0x := HK3.out j
      have ho1 := odd_next R j
      have ho2 := odd_same R j
      rw [hg] at hn1 ho1 h0x
      generalize R[j] = x at hc hx0 hn1 ho1 h0x
      have HN1 := Lib.hid hn1
      have HO1 := Lib.hid ho1
      have HO2 := Lib.hid ho2
      have H0X := Lib.hid h0x
      rw [hn1] at hm2
      generalize sumTo R j = a at hm1 hm2 hm3 HN1 ⊢
      generalize oddTo R j = b at hm3 HO1 HO2 ⊢
      obtain ⟨m1, m2⟩ := hm1
      obtain ⟨m3, m4⟩ := hm2
      obtain ⟨m5, m6⟩ := hm3
      clear hg hn1 ho1 ho2 h0x hjR
      have hi1 : (0 : Int) ≤ (j : Int) := by omega
      have hi2 : (j : Int) < L := by omega
      by_cases hj0 : j = 0
      · have HO := Lib.hid (HO2.out (by omega))
        subst hj0
        rw [Nat.add_zero] at hc
        go_wp2_with fail
        go_round
        case rel => exact ⟨0 + 1, by omega, by go_num, by rw [HN1.out], by rw [HO.out]⟩
        case measure => simp [intOf]; omega
      · exfalso
        have hx1 : 1 ≤ x := H0X.out (by omega) (by have := HL.out; omega)
        omega
    · obtain rfl : j = L := by omega
      rw [HK1.out, HK2.out]
      clear hlt
      go_wp2_with (go_at_call 22; refine HC.out.mono ?_; rintro e w3 ⟨rfl, hF3⟩)
      go_ret
      exact ⟨rfl, G2.out.trans hF3 (fun _ _ e => e)⟩

set_option maxRecDepth 100000 in
set_option maxHeartbeats 4000000 in
theorem walk_mid (A : Option Addr) (cap n : Nat) (l : List UInt8) (m : Int) (W : World) (hr : Rd W W.heap.size A l) (hn : l.length = n) (hl : n ≤ 1048576) (hm : 0 < m) (hm2 : m ≤ 8 * (n : Int)) :
    Calls Try.prog 8 #[.slice A n cap, .int .i64 m] W fun e w' => e = .returned (.bool true) ∧ Fr (fun _ => False) W w' := by
  have HR := Lib.hid hr
  have HN := Lib.hid hn
  skip
  have hsp := spanN_le n m
  have hsi := span_is n m
  clear hr hn
  go_enter Try.func8, Try.ntmps8
  go_wp2_with fail
  refine (works_any W).mono ?_
  rintro e w1 ⟨rfl, hF⟩
  have G1 := Lib.hid hF
  have HR1 := Lib.hid (HR.out.still hF (Nat.le_refl _))
  clear hF
  go_wp2_with fail
  refine (runs_any w1 A n cap _ m l HR1.out HN.out G1.out.size (by omega)).mono ?_
  rintro e w2 ⟨A2, cap2, rfl, ho, hF2⟩
  have G2 := Lib.hid (G1.out.trans hF2 (fun _ _ e => e))
  have HR2 := Lib.hid (HR1.out.still hF2 G1.out.size)
  have HC := Lib.hid (count_any w2 A n cap _ m l HR2.out HN.out G2.out.size (by omega))
  have hlen := runsOf_length l (spanN n m)
  have HI := Lib.hid (ho.rd (runsOf_in l _ (by omega)))
  obtain ⟨k1, k2, k3, k4⟩ := runsOf_ok l (spanN n m)
  have HK1 := Lib.hid k1
  have HK2 := Lib.hid k2
  have HK3 := Lib.hid k3
  have HK4 := Lib.hid k4
  clear ho hF2 k1 k2 k3 k4
  generalize runsOf l (spanN n m) = R at hlen HI HK1 HK2 HK3 HK4 ⊢
  obtain ⟨S, hS⟩ : ∃ S, S = spanN n m := ⟨_, rfl⟩
  obtain ⟨C, hCt⟩ : ∃ C, C = cnt l (spanN n m) := ⟨_, rfl⟩
  rw [← hCt] at HK2 HC
  rw [← hS] at hsp hsi hlen HK1
  have hs1 : (S : Int) = m := by omega
  have HCT := Lib.hid hCt
  obtain ⟨L, hL⟩ : ∃ L, L = R.length := ⟨_, rfl⟩
  have HL := Lib.hid hL
  rw [← hL] at hlen HK1 HK2 ⊢
  clear hsi hS hCt hL
  go_wp2_with fail
  go_loop [6, 7, 8] (fun v t i => ∃ j : Nat, j ≤ L ∧ i = .int .i64 j ∧ v = .int .i64 (sumTo R j) ∧ t = .int .i64 (oddTo R j)) (fun _ _ i => L - (intOf i).toNat)
  case atStart => exact ⟨0, Nat.zero_le _, rfl, rfl, rfl⟩
  case round =>
    obtain ⟨j, hj, rfl, rfl, rfl⟩ := hrel
    by_cases hlt : j < L
    · have hjR : j < R.length := by have := HL.out; omega
      obtain ⟨blk, off, rfl, _, hc, hq0⟩ := HI.out.at_ hjR
      clear hq0
      have hx0 := HK4.out _ (List.getElem_mem hjR)
      have hg : R.getD j 0 = R[j] := by rw [List.getD_eq_getElem?_getD, List.getElem?_eq_getElem hjR, Option.getD_some]
      have hm1 := sumTo_mono R HK4.out j (L - j)
      have hm2 := sumTo_mono R HK4.out (j + 1) (L - (j + 1))
      rw [show j + (L - j) = L by omega, HK1.out] at hm1
      rw [show j + 1 + (L - (j + 1)) = L by omega, HK1.out] at hm2
      have hm3 := oddTo_in R HK4.out j
      have hn1 := sum_next R j
      have h0x := HK3.out j
      have ho1 := odd_next R j
      have ho2 := odd_same R j
      rw [hg] at hn1 ho1 h0x
      generalize R[j] = x at hc hx0 hn1 ho1 h0x
      have HN1 := Lib.hid hn1
      have HO1 := Lib.hid ho1
      have HO2 := Lib.hid ho2
      have H0X := Lib.hid h0x
      rw [hn1] at hm2
      generalize sumTo R j = a at hm1 hm2 hm3 HN1 ⊢
      generalize oddTo R j = b at hm3 HO1 HO2 ⊢
      obtain ⟨m1, m2⟩ := hm1
      obtain ⟨m3, m4⟩ := hm2
      obtain ⟨m5, m6⟩ := hm3
      clear hg hn1 ho1 ho2 h0x hjR
      have hi1 : (0 : Int) ≤ (j : Int) := by omega
      have hi2 : (j : Int) < L := by omega
      by_cases hj0 : j = 0
      · have HO := Lib.hid (HO2.out (by omega))
        subst hj0
        rw [Nat.add_zero] at hc
        go_wp2_with fail
        go_round
        case rel => exact ⟨0 + 1, by omega, by go_num, by rw [HN1.out], by rw [HO.out]⟩
        case measure => simp [intOf]; omega
      · have hx1 : 1 ≤ x := H0X.out (by omega) (by have := HL.out; omega)
        have hj1 : (0 : Int) < (j : Int) := by omega
        clear hj0
        by_cases hp : j % 2 = 1
        · have HO := Lib.hid (HO1.out hp)
          have hp1 : (((j : Int) % 2) == 1) = true := by rw [beq_iff_eq]; omega
          clear hp
          go_wp2_with fail
          go_round
          case rel => exact ⟨j + 1, by omega, by go_num, by rw [HN1.out], by rw [HO.out]⟩
          case measure => simp [intOf]; omega
        · have HO := Lib.hid (HO2.out hp)
          have hp1 : (((j : Int) % 2) == 1) = false := by rw [beq_eq_false_iff_ne]; omega
          clear hp
          go_wp2_with fail
          go_round
          case rel => exact ⟨j + 1, by omega, by go_num, by rw [HN1.out], by rw [HO.out]⟩
          case measure => simp [intOf]; omega
    · obtain rfl : j = L := by omega
      rw [HK1.out, HK2.out]
      clear hlt
      go_wp2_with (go_at_call 22; refine HC.out.mono ?_; rintro e w3 ⟨rfl, hF3⟩)
      go_ret
      exact ⟨rfl, G2.out.trans hF3 (fun _ _ e => e)⟩

set_option maxRecDepth 100000 in
set_option maxHeartbeats 4000000 in
theorem walk_all (A : Option Addr) (cap n : Nat) (l : List UInt8) (m : Int) (W : World) (hr : Rd W W.heap.size A l) (hn : l.length = n) (hl : n ≤ 1048576) (hm : 8 * (n : Int) < m) (hm2 : 0 < 8 * (n : Int)) :
    Calls Try.prog 8 #[.slice A n cap, .int .i64 m] W fun e w' => e = .returned (.bool true) ∧ Fr (fun _ => False) W w' := by
  have HR := Lib.hid hr
  have HN := Lib.hid hn
  skip
  have hsp := spanN_le n m
  have hsi := span_is n m
  clear hr hn
  go_enter Try.func8, Try.ntmps8
  go_wp2_with fail
  refine (works_any W).mono ?_
  rintro e w1 ⟨rfl, hF⟩
  have G1 := Lib.hid hF
  have HR1 := Lib.hid (HR.out.still hF (Nat.le_refl _))
  clear hF
  go_wp2_with fail
  refine (runs_any w1 A n cap _ m l HR1.out HN.out G1.out.size (by omega)).mono ?_
  rintro e w2 ⟨A2, cap2, rfl, ho, hF2⟩
  have G2 := Lib.hid (G1.out.trans hF2 (fun _ _ e => e))
  have HR2 := Lib.hid (HR1.out.still hF2 G1.out.size)
  have HC := Lib.hid (count_any w2 A n cap _ m l HR2.out HN.out G2.out.size (by omega))
  have hlen := runsOf_length l (spanN n m)
  have HI := Lib.hid (ho.rd (runsOf_in l _ (by omega)))
  obtain ⟨k1, k2, k3, k4⟩ := runsOf_ok l (spanN n m)
  have HK1 := Lib.hid k1
  have HK2 := Lib.hid k2
  have HK3 := Lib.hid k3
  have HK4 := Lib.hid k4
  clear ho hF2 k1 k2 k3 k4
  generalize runsOf l (spanN n m) = R at hlen HI HK1 HK2 HK3 HK4 ⊢
  obtain ⟨S, hS⟩ : ∃ S, S = spanN n m := ⟨_, rfl⟩
  obtain ⟨C, hCt⟩ : ∃ C, C = cnt l (spanN n m) := ⟨_, rfl⟩
  rw [← hCt] at HK2 HC
  rw [← hS] at hsp hsi hlen HK1
  have hs1 : (S : Int) = 8 * (n : Int) := by omega
  have HCT := Lib.hid hCt
  obtain ⟨L, hL⟩ : ∃ L, L = R.length := ⟨_, rfl⟩
  have HL := Lib.hid hL
  rw [← hL] at hlen HK1 HK2 ⊢
  clear hsi hS hCt hL
  go_wp2_with fail
  go_loop [6, 7, 8] (fun v t i => ∃ j : Nat, j ≤ L ∧ i = .int .i64 j ∧ v = .int .i64 (sumTo R j) ∧ t = .int .i64 (oddTo R j)) (fun _ _ i => L - (intOf i).toNat)
  case atStart => exact ⟨0, Nat.zero_le _, rfl, rfl, rfl⟩
  case round =>
    obtain ⟨j, hj, rfl, rfl, rfl⟩ := hrel
    by_cases hlt : j < L
    · have hjR : j < R.length := by have := HL.out; omega
      obtain ⟨blk, off, rfl, _, hc, hq0⟩ := HI.out.at_ hjR
      clear hq0
      have hx0 := HK4.out _ (List.getElem_mem hjR)
      have hg : R.getD j 0 = R[j] := by rw [List.getD_eq_getElem?_getD, List.getElem?_eq_getElem hjR, Option.getD_some]
      have hm1 := sumTo_mono R HK4.out j (L - j)
      have hm2 := sumTo_mono R HK4.out (j + 1) (L - (j + 1))
      rw [show j + (L - j) = L by omega, HK1.out] at hm1
      rw [show j + 1 + (L - (j + 1)) = L by omega, HK1.out] at hm2
      have hm3 := oddTo_in R HK4.out j
      have hn1 := sum_next R j
      have h0x := HK3.out j
      have ho1 := odd_next R j
      have ho2 := odd_same R j
      rw [hg] at hn1 ho1 h0x
      generalize R[j] = x at hc hx0 hn1 ho1 h0x
      have HN1 := Lib.hid hn1
      have HO1 := Lib.hid ho1
      have HO2 := Lib.hid ho2
      have H0X := Lib.hid h0x
      rw [hn1] at hm2
      generalize sumTo R j = a at hm1 hm2 hm3 HN1 ⊢
      generalize oddTo R j = b at hm3 HO1 HO2 ⊢
      obtain ⟨m1, m2⟩ := hm1
      obtain ⟨m3, m4⟩ := hm2
      obtain ⟨m5, m6⟩ := hm3
      clear hg hn1 ho1 ho2 h0x hjR
      have hi1 : (0 : Int) ≤ (j : Int) := by omega
      have hi2 : (j : Int) < L := by omega
      by_cases hj0 : j = 0
      · have HO := Lib.hid (HO2.out (by omega))
        subst hj0
        rw [Nat.add_zero] at hc
        go_wp2_with fail
        go_round
        case rel => exact ⟨0 + 1, by omega, by go_num, by rw [HN1.out], by rw [HO.out]⟩
        case measure => simp [intOf]; omega
      · have hx1 : 1 ≤ x := H0X.out (by omega) (by have := HL.out; omega)
        have hj1 : (0 : Int) < (j : Int) := by omega
        clear hj0
        by_cases hp : j % 2 = 1
        · have HO := Lib.hid (HO1.out hp)
          have hp1 : (((j : Int) % 2) == 1) = true := by rw [beq_iff_eq]; omega
          clear hp
          go_wp2_with fail
          go_round
          case rel => exact ⟨j + 1, by omega, by go_num, by rw [HN1.out], by rw [HO.out]⟩
          case measure => simp [intOf]; omega
        · have HO := Lib.hid (HO2.out hp)
          have hp1 : (((j : Int) % 2) == 1) = false := by rw [beq_eq_false_iff_ne]; omega
          clear hp
          go_wp2_with fail
          go_round
          case rel => exact ⟨j + 1, by omega, by go_num, by rw [HN1.out], by rw [HO.out]⟩
          case measure => simp [intOf]; omega
    · obtain rfl : j = L := by omega
      rw [HK1.out, HK2.out]
      clear hlt
      go_wp2_with (go_at_call 22; refine HC.out.mono ?_; rintro e w3 ⟨rfl, hF3⟩)
      go_ret
      exact ⟨rfl, G2.out.trans hF3 (fun _ _ e => e)⟩

set_option maxRecDepth 100000 in
set_option maxHeartbeats 4000000 in
theorem walk_none (A : Option Addr) (cap n : Nat) (l : List UInt8) (m : Int) (W : World) (hr : Rd W W.heap.size A l) (hn : l.length = n) (hl : n ≤ 1048576) (hm : 8 * (n : Int) < m) (hn0 : 8 * (n : Int) ≤ 0) :
    Calls Try.prog 8 #[.slice A n cap, .int .i64 m] W fun e w' => e = .returned (.bool true) ∧ Fr (fun _ => False) W w' := by
  have HR := Lib.hid hr
  have HN := Lib.hid hn
  skip
  have hsp := spanN_le n m
  have hsi := span_is n m
  clear hr hn
  go_enter Try.func8, Try.ntmps8
  go_wp2_with fail
  refine (works_any W).mono ?_
  rintro e w1 ⟨rfl, hF⟩
  have G1 := Lib.hid hF
  have HR1 := Lib.hid (HR.out.still hF (Nat.le_refl _))
  clear hF
  go_wp2_with fail
  refine (runs_any w1 A n cap _ m l HR1.out HN.out G1.out.size (by omega)).mono ?_
  rintro e w2 ⟨A2, cap2, rfl, ho, hF2⟩
  have G2 := Lib.hid (G1.out.trans hF2 (fun _ _ e => e))
  have HR2 := Lib.hid (HR1.out.still hF2 G1.out.size)
  have HC := Lib.hid (count_any w2 A n cap _ m l HR2.out HN.out G2.out.size (by omega))
  have hlen := runsOf_length l (spanN n m)
  have HI := Lib.hid (ho.rd (runsOf_in l _ (by omega)))
  obtain ⟨k1, k2, k3, k4⟩ := runsOf_ok l (spanN n m)
  have HK1 := Lib.hid k1
  have HK2 := Lib.hid k2
  have HK3 := Lib.hid k3
  have HK4 := Lib.hid k4
  clear ho hF2 k1 k2 k3 k4
  generalize runsOf l (spanN n m) = R at hlen HI HK1 HK2 HK3 HK4 ⊢
  obtain ⟨S, hS⟩ : ∃ S, S = spanN n m := ⟨_, rfl⟩
  obtain ⟨C, hCt⟩ : ∃ C, C = cnt l (spanN n m) := ⟨_, rfl⟩
  rw [← hCt] at HK2 HC
  rw [← hS] at hsp hsi hlen HK1
  have hs1 : (S : Int) = 0 := by omega
  have HCT := Lib.hid hCt
  obtain ⟨L, hL⟩ : ∃ L, L = R.length := ⟨_, rfl⟩
  have HL := Lib.hid hL
  rw [← hL] at hlen HK1 HK2 ⊢
  clear hsi hS hCt hL
  go_wp2_with fail
  go_loop [6, 7, 8] (fun v t i => ∃ j : Nat, j ≤ L ∧ i = .int .i64 j ∧ v = .int .i64 (sumTo R j) ∧ t = .int .i64 (oddTo R j)) (fun _ _ i => L - (intOf i).toNat)
  case atStart => exact ⟨0, Nat.zero_le _, rfl, rfl, rfl⟩
  case round =>
    obtain ⟨j, hj, rfl, rfl, rfl⟩ := hrel
    by_cases hlt : j < L
    · have hjR : j < R.length := by have := HL.out; omega
      obtain ⟨blk, off, rfl, _, hc, hq0⟩ := HI.out.at_ hjR
      clear hq0
      have hx0 := HK4.out _ (List.getElem_mem hjR)
      have hg : R.getD j 0 = R[j] := by rw [List.getD_eq_getElem?_getD, List.getElem?_eq_getElem hjR, Option.getD_some]
      have hm1 := sumTo_mono R HK4.out j (L - j)
      have hm2 := sumTo_mono R HK4.out (j + 1) (L - (j + 1))
      rw [show j + (L - j) = L by omega, HK1.out] at hm1
      rw [show j + 1 + (L - (j + 1)) = L by omega, HK1.out] at hm2
      have hm3 := oddTo_in R HK4.out j
      have hn1 := sum_next R j
      have h0x := HK3.out j
      have ho1 := odd_next R j
      have ho2 := odd_same R j
      rw [hg] at hn1 ho1 h0x
      generalize R[j] = x at hc hx0 hn1 ho1 h0x
      have HN1 := Lib.hid hn1
      have HO1 := Lib.hid ho1
      have HO2 := Lib.hid ho2
      have H0X := Lib.hid h0x
      rw [hn1] at hm2
      generalize sumTo R j = a at hm1 hm2 hm3 HN1 ⊢
      generalize oddTo R j = b at hm3 HO1 HO2 ⊢
      obtain ⟨m1, m2⟩ := hm1
      obtain ⟨m3, m4⟩ := hm2
      obtain ⟨m5, m6⟩ := hm3
      clear hg hn1 ho1 ho2 h0x hjR
      have hi1 : (0 : Int) ≤ (j : Int) := by omega
      have hi2 : (j : Int) < L := by omega
      by_cases hj0 : j = 0
      · have HO := Lib.hid (HO2.out (by omega))
        subst hj0
        rw [Nat.add_zero] at hc
        go_wp2_with fail
        go_round
        case rel => exact ⟨0 + 1, by omega, by go_num, by rw [HN1.out], by rw [HO.out]⟩
        case measure => simp [intOf]; omega
      · exfalso
        have hx1 : 1 ≤ x := H0X.out (by omega) (by have := HL.out; omega)
        omega
    · obtain rfl : j = L := by omega
      rw [HK1.out, HK2.out]
      clear hlt
      go_wp2_with (go_at_call 22; refine HC.out.mono ?_; rintro e w3 ⟨rfl, hF3⟩)
      go_ret
      exact ⟨rfl, G2.out.trans hF3 (fun _ _ e => e)⟩

theorem walk (A : Option Addr) (cap : Nat) (l : List UInt8) (m : Int) (W : World) (hr : Rd W W.heap.size A l) (hl : l.length ≤ 1048576) :
    Calls Try.prog 8 #[.slice A l.length cap, .int .i64 m] W fun e w' => e = .returned (.bool true) ∧ Fr (fun _ => False) W w' := by
  by_cases h0 : m ≤ 0
  · exact walk_zero A cap _ l m W hr rfl hl h0
  · by_cases h1 : m ≤ 8 * (l.length : Int)
    · exact walk_mid A cap _ l m W hr rfl hl (by omega) h1
    · by_cases h2 : l.length = 0
      · exact walk_none A cap _ l m W hr rfl hl (by omega) (by omega)
      · exact walk_all A cap _ l m W hr rfl hl (by omega) (by omega)

/-! ### the row -/
theorem own : ownKnob Try.prog.godebug = none := by kernel_rfl
set_option maxRecDepth 100000 in
theorem lifted (os : Os) (started : os.Started) (H : Type) (enc : TypeId × Value → H) (F : Stop.Interp) :
    ReturnsInHanded {} Try.checked os 8 .any ((Rows.OpenSpec.upto Rows.bitsRunsSpec).pre6 enc Try.prog Try.f8 Rows.bitsRunsUptoRow.domain false) (((Rows.OpenSpec.upto Rows.bitsRunsSpec).at F).post enc Try.prog Try.f8 false true false false) := by
  refine returnsInHanded_of_cond_sized (C := Try.checked) (s := (Rows.OpenSpec.upto Rows.bitsRunsSpec)) (k := Rows.uptoSmall) rfl own started (by kernel_rfl) Try.func8
    (OpenSpec.witness (enc := enc) (C := Try.checked) (s := (Rows.OpenSpec.upto Rows.bitsRunsSpec)) (k := Rows.uptoSmall) rfl false ⟨#[], #[.slice none 0 0, .int .i64 0], []⟩ 8 (by kernel_rfl) (by kernel_rfl) (by kernel_rfl) (by kernel_rfl)
      (x := ([.nil, .lit (.int .i64 0)], [], [])) (by kernel_rfl) rfl (by kernel_rfl)) ?_
  intro W base args ds gs before hval0 hW _ hk hsz0 _
  have hval : ∀ (j : Nat) t v, Try.f8.params[j]? = some t → args[j]? = some v → Value.okWide Try.prog W .any base t v := hval0
  have hsz : (DataW.weightsEach Try.prog (Try.f8.params.toList ++ Rows.bitsRunsSpec.plain.varTypes Try.prog) (ds ++ gs)).all (· ≤ reachBytes) = true := hsz0
  have hW' := hW
  obtain ⟨p, q, hA0, hV, rfl, hfz, hnd⟩ := hW
  have hA : DataW.TrodAll enc Try.prog W 0 (fun _ => true) true Try.f8.params.toList args.toList ds p := hA0
  rw [Try.params8] at hA hval hsz
  obtain ⟨v0, vs0, d0, ds0, p0, q0, hargs, rfl, rfl, h0, r0⟩ := trodAll_cons hA
  obtain ⟨v1, vs1, d1, ds1, p1, q1, rfl, rfl, rfl, h1, r1⟩ := trodAll_cons r0
  obtain ⟨rfl, rfl, rfl⟩ := trodAll_nil r1
  obtain rfl : args = #[v0, v1] := by cases args; simp_all
  obtain ⟨rfl, rfl⟩ := trodVars_none hV
  obtain ⟨A0, cap0, l0, rfl, hr0, hA0, hc0, hl0⟩ := bytes_openN (N := 1048576) (fun _ => rfl) (fun el sp (e : d0 = .slice el sp) => bulk_slice hk (by rw [e]; simp)) (hval 0 22 v0 rfl rfl) h0
  obtain ⟨a1, rfl, rfl, rfl, w1⟩ := open_int Try.underlying3 (hval 1 3 v1 rfl rfl) h1
  clear hA0 hval0 hsz0
  simp only [List.append_nil] at hW'
  try simp only [List.nil_append] at hW'
  have hlt0 : ∀ x ∈ p0, x.block < W.heap.size := fun x hx => by simpa using hW'.lt x (by simp [hx])
  refine (walk A0 cap0 l0 a1 W hr0 (Nat.le_trans hc0 hl0)).mono fun e W' ⟨he, hg⟩ => ?_
  subst he
  have hB : Below W.heap.size W W' := hg.below (Nat.le_refl _) (fun _ _ e => e.elim)
  have t0 := Below.trod laidOut (by kernel_rfl) (of_decide_eq_true (by kernel_rfl)) h0 hB hlt0
  exact ⟨_, rfl, _, _, _, [], _, [], hW', trodAll_cons_mk (shut_bool Try.underlying4 _) trodAll_mk0, (trodAll_cons_mk t0 (trodAll_cons_mk (shut_int Try.underlying3 w1) trodAll_mk0)), rfl, hB.frame _, fun h => by cases h⟩

theorem over : Rows.bitsRunsUptoRow.holds Try.pinned (Rows.OpenSpec.upto Rows.bitsRunsSpec) :=
  OpenClaim.holds_of_cond 8 Try.f8 rfl rfl rfl rfl rfl rfl rfl ⟨rfl, rfl, rfl, rfl, rfl⟩ rfl rfl rfl rfl rfl (by kernel_rfl) Try.func8 (by kernel_rfl)
    (of_decide_eq_true (by kernel_rfl)) (by unfold Func.isWrapper; first | (rw [if_pos (by decide +kernel)]; kernel_rfl) | (rw [if_neg (by decide +kernel)]; exact ⟨rfl, rfl⟩))
    (fun os started H enc _ F => lifted os started H enc F)

theorem proved : Rows.BitsRunsUptoSaid := over
#print axioms proved

end Go.Proofs.Ytmfilcdljfpnfaa.bitsRuns
