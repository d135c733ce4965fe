/-
  BitsOne: setting a bit changes just that one, and how many there are by one at most, whatever the input. No condition.
-/
import Derived.Test.YtmfilcdljfpnfaaRows
import Derived.Test.YtmfilcdljfpnfaaBitsL
import Derived.ProofKit
import Derived.OpenShut
import Derived.SizedLaws
namespace Go.Proofs.Ytmfilcdljfpnfaa.bitsOne
open Go.ChangeShapes Go.WideShapes Go.ChangeAt Go.RowKit

theorem has_set (w : World) (A : Option Addr) (n cap B i : Nat) (l : List UInt8) (b : Bool) (hr : Rd w B A l) (hn : l.length = n) (hi : i < 8 * n) (hl : n ≤ 140737488351232) (hb : bitB l i = b) :
    Calls Try.prog 16 #[.slice A n cap, .int .i64 (i : Int)] w fun e w' => e = .returned (.tuple #[.bool b, .int .i64 0]) ∧ w = w' := by
  rw [← hb]
  exact has_ok w A n cap B i l hr hn (by omega) hl
theorem among_8 (w : World) (z : Int) (n : Nat) (h1 : 1 ≤ n) (h2 : n ≤ 140737488351232) :
    Calls Try.prog 27 #[.int .i64 z, .int .i64 (8 * (n : Int))] w fun e w' => ∃ k : Nat, k < 8 * n ∧ e = .returned (.int .i64 (k : Int)) ∧ w = w' := by
  have h := among_nat w z (8 * n) (by omega) (by omega)
  rw [show ((8 * n : Nat) : Int) = 8 * (n : Int) by omega] at h
  exact h
theorem span_all (n : Nat) : spanN n (8 * (n : Int)) = 8 * n := by unfold spanN; omega
theorem count_all (w : World) (A : Option Addr) (n cap B C : Nat) (l : List UInt8) (hr : Rd w B A l) (hn : l.length = n) (hB : B ≤ w.heap.size) (hl : n ≤ 140737488351232) (hC : cnt l (8 * n) = C) :
    Calls Try.prog 22 #[.slice A n cap, .int .i64 (8 * (n : Int))] w fun e w' => e = .returned (.int .i64 (C : Int)) ∧ Fr (fun _ => False) w w' := by
  have h := count_any w A n cap B (8 * (n : Int)) l hr hn hB hl
  rw [span_all, hC] at h
  exact h
theorem cnt_up (l : List UInt8) {i m : Nat} (h : i / 8 < l.length) (hi : i < m) (hb : bitB l i = false) : cnt (setL l i true) m = cnt l m + 1 := by
  have h1 := cnt_set l true h m
  rw [if_pos hi, hb] at h1
  simp at h1
  omega
theorem cnt_down (l : List UInt8) {i m : Nat} (h : i / 8 < l.length) (hi : i < m) (hb : bitB l i = true) : cnt l m = cnt (setL l i false) m + 1 := by
  have h1 := cnt_set l false h m
  rw [if_pos hi, hb] at h1
  simp at h1
  omega

set_option maxRecDepth 100000 in
set_option maxHeartbeats 4000000 in
theorem walk_true (A : Option Addr) (cap n : Nat) (l : List UInt8) (i0 o0 : Int) (W : World) (hr : Rd W W.heap.size A l) (hA : A = none → cap = 0) (hn : l.length = n) (hl : n ≤ 140737488351232) :
    Calls Try.prog 6 #[.slice A n cap, .int .i64 i0, .bool true, .int .i64 o0] W fun e w' => e = .returned (.bool true) ∧ Fr (fun _ => False) W w' := by
  have HR := Lib.hid hr
  have HN := Lib.hid hn
  have HA := Lib.hid hA
  clear hr hn hA
  by_cases h0 : n = 0
  · subst h0
    go_enter Try.func6, Try.ntmps6
    go_wp2_with fail
    refine (works_any W).mono ?_
    rintro e w1 ⟨rfl, hF⟩
    have HF := Lib.hid hF
    clear hF
    go_wp2_with fail
    go_ret
    exact ⟨rfl, HF.out⟩
  · have hn1 : 1 ≤ n := by omega
    have hn2 : ((n : Int) == 0) = false := by rw [beq_eq_false_iff_ne]; omega
    clear h0
    go_enter Try.func6, Try.ntmps6
    go_wp2_with fail
    refine (works_any W).mono ?_
    rintro e w1 ⟨rfl, hF⟩
    have HF := Lib.hid hF
    have HR1 := Lib.hid (HR.out.still hF (Nat.le_refl _))
    clear hF
    go_wp2_with fail
    refine (among_8 w1 i0 n hn1 hl).mono ?_
    rintro e w' ⟨i, hi, rfl, rfl⟩
    go_wp2_with fail
    refine (among_8 w1 o0 n hn1 hl).mono ?_
    rintro e w' ⟨o, ho, rfl, rfl⟩
    clear hn2
    have hi8 : i / 8 < l.length := by have := HN.out; omega
    have HSB := Lib.hid (setL_bit l true hi8)
    have HSL := Lib.hid (show (setL l i true).length = n by rw [setL_length, HN.out])
    cases hb : bitB l i with
    | false =>
      have HB := Lib.hid hb
      have HCC := Lib.hid (cnt_up l hi8 hi hb)
      clear hb
      obtain ⟨C1, hC1⟩ : ∃ C, C = cnt l (8 * n) := ⟨_, rfl⟩
      obtain ⟨C2, hC2⟩ : ∃ C, C = cnt (setL l i true) (8 * n) := ⟨_, rfl⟩
      have HC1 := Lib.hid hC1.symm
      have HC2 := Lib.hid hC2.symm
      have hr1 : C2 = C1 + 1 := by have := HCC.out; omega
      have hC3 : C1 ≤ 8 * n := by rw [hC1]; exact cnt_le _ _
      have hC4 : C2 ≤ 8 * n := by rw [hC2]; exact cnt_le _ _
      clear hC1 hC2 HCC
      by_cases hoi : o = i
      · subst hoi
        clear hi8
        go_wp2_with fail
        refine (has_set w1 A n cap _ o l false HR1.out HN.out (by omega) hl HB.out).mono ?_
        rintro e w' ⟨rfl, rfl⟩
        go_wp2_with fail
        refine (set_ok w1 A n cap _ o true l HR1.out HN.out HF.out.size HA.out hl (by omega)).mono ?_
        rintro e w2 ⟨A2, cap2, rfl, ho2, _, hF2⟩
        rw [HSL.out]
        have HF2 := Lib.hid (HF.out.trans hF2 (fun _ _ e => e))
        have HO2 := Lib.hid ho2.rd
        have HR2 := Lib.hid (HR1.out.still hF2 HF.out.size)
        clear ho2 hF2
        go_wp2_with fail
        refine (has_set w2 A2 n cap2 _ o (setL l o true) true HO2.out HSL.out (by omega) hl HSB.out).mono ?_
        rintro e w' ⟨rfl, rfl⟩
        go_wp2_with fail
        refine (has_set w2 A n cap _ o l false HR2.out HN.out (by omega) hl HB.out).mono ?_
        rintro e w' ⟨rfl, rfl⟩
        go_wp2_with fail
        refine (has_set w2 A2 n cap2 _ o (setL l o true) true HO2.out HSL.out (by omega) hl HSB.out).mono ?_
        rintro e w' ⟨rfl, rfl⟩
        go_wp2_with fail
        refine (count_all w2 A2 n cap2 _ C2 (setL l o true) HO2.out HSL.out (Nat.le_refl _) hl HC2.out).mono ?_
        rintro e w3 ⟨rfl, hF3⟩
        have HF3 := Lib.hid (HF2.out.trans hF3 (fun _ _ e => e))
        have HR3 := Lib.hid (HR2.out.still hF3 HF2.out.size)
        clear hF3
        go_wp2_with fail
        refine (count_all w3 A n cap _ C1 l HR3.out HN.out HF3.out.size hl HC1.out).mono ?_
        rintro e w4 ⟨rfl, hF4⟩
        have HF4 := Lib.hid (HF3.out.trans hF4 (fun _ _ e => e))
        clear hF4
        go_wp2_with fail
        go_ret
        exact ⟨rfl, HF4.out⟩
      · have hne : ((o : Int) != (i : Int)) = true := by rw [bne_iff_ne]; omega
        have HOB := Lib.hid (setL_other l true hi8 hoi)
        clear hi8 hoi
        obtain ⟨q, hq⟩ : ∃ q, q = bitB l o := ⟨_, rfl⟩
        have HQ := Lib.hid hq.symm
        clear hq
        go_wp2_with fail
        refine (has_set w1 A n cap _ i l false HR1.out HN.out (by omega) hl HB.out).mono ?_
        rintro e w' ⟨rfl, rfl⟩
        go_wp2_with fail
        refine (set_ok w1 A n cap _ i true l HR1.out HN.out HF.out.size HA.out hl (by omega)).mono ?_
        rintro e w2 ⟨A2, cap2, rfl, ho2, _, hF2⟩
        rw [HSL.out]
        have HF2 := Lib.hid (HF.out.trans hF2 (fun _ _ e => e))
        have HO2 := Lib.hid ho2.rd
        have HR2 := Lib.hid (HR1.out.still hF2 HF.out.size)
        clear ho2 hF2
        go_wp2_with fail
        refine (has_set w2 A2 n cap2 _ i (setL l i true) true HO2.out HSL.out (by omega) hl HSB.out).mono ?_
        rintro e w' ⟨rfl, rfl⟩
        go_wp2_with fail
        refine (has_set w2 A n cap _ o l q HR2.out HN.out (by omega) hl HQ.out).mono ?_
        rintro e w' ⟨rfl, rfl⟩
        go_wp2_with fail
        refine (has_set w2 A2 n cap2 _ o (setL l i true) q HO2.out HSL.out (by omega) hl (HOB.out.trans HQ.out)).mono ?_
        rintro e w' ⟨rfl, rfl⟩
        go_wp2_with fail
        refine (count_all w2 A2 n cap2 _ C2 (setL l i true) HO2.out HSL.out (Nat.le_refl _) hl HC2.out).mono ?_
        rintro e w3 ⟨rfl, hF3⟩
        have HF3 := Lib.hid (HF2.out.trans hF3 (fun _ _ e => e))
        have HR3 := Lib.hid (HR2.out.still hF3 HF2.out.size)
        clear hF3
        go_wp2_with fail
        refine (count_all w3 A n cap _ C1 l HR3.out HN.out HF3.out.size hl HC1.out).mono ?_
        rintro e w4 ⟨rfl, hF4⟩
        have HF4 := Lib.hid (HF3.out.trans hF4 (fun _ _ e => e))
        clear hF4
        go_wp2_with fail
        go_ret
        exact ⟨rfl, HF4.out⟩
    | true =>
      have HB := Lib.hid hb
      have HCC := Lib.hid (congrArg (fun L => cnt L (8 * n)) (setL_same l i hi8 true hb))
      clear hb
      obtain ⟨C1, hC1⟩ : ∃ C, C = cnt l (8 * n) := ⟨_, rfl⟩
      obtain ⟨C2, hC2⟩ : ∃ C, C = cnt (setL l i true) (8 * n) := ⟨_, rfl⟩
      have HC1 := Lib.hid hC1.symm
      have HC2 := Lib.hid hC2.symm
      have hr1 : C2 = C1 := by rw [hC1, hC2]; exact HCC.out
      have hC3 : C1 ≤ 8 * n := by rw [hC1]; exact cnt_le _ _
      have hC4 : C2 ≤ 8 * n := by rw [hC2]; exact cnt_le _ _
      clear hC1 hC2 HCC
      by_cases hoi : o = i
      · subst hoi
        clear hi8
        go_wp2_with fail
        refine (has_set w1 A n cap _ o l true HR1.out HN.out (by omega) hl HB.out).mono ?_
        rintro e w' ⟨rfl, rfl⟩
        go_wp2_with fail
        refine (set_ok w1 A n cap _ o true l HR1.out HN.out HF.out.size HA.out hl (by omega)).mono ?_
        rintro e w2 ⟨A2, cap2, rfl, ho2, _, hF2⟩
        rw [HSL.out]
        have HF2 := Lib.hid (HF.out.trans hF2 (fun _ _ e => e))
        have HO2 := Lib.hid ho2.rd
        have HR2 := Lib.hid (HR1.out.still hF2 HF.out.size)
        clear ho2 hF2
        go_wp2_with fail
        refine (has_set w2 A2 n cap2 _ o (setL l o true) true HO2.out HSL.out (by omega) hl HSB.out).mono ?_
        rintro e w' ⟨rfl, rfl⟩
        go_wp2_with fail
        refine (has_set w2 A n cap _ o l true HR2.out HN.out (by omega) hl HB.out).mono ?_
        rintro e w' ⟨rfl, rfl⟩
        go_wp2_with fail
        refine (has_set w2 A2 n cap2 _ o (setL l o true) true HO2.out HSL.out (by omega) hl HSB.out).mono ?_
        rintro e w' ⟨rfl, rfl⟩
        go_wp2_with fail
        refine (count_all w2 A2 n cap2 _ C2 (setL l o true) HO2.out HSL.out (Nat.le_refl _) hl HC2.out).mono ?_
        rintro e w3 ⟨rfl, hF3⟩
        have HF3 := Lib.hid (HF2.out.trans hF3 (fun _ _ e => e))
        have HR3 := Lib.hid (HR2.out.still hF3 HF2.out.size)
        clear hF3
        go_wp2_with fail
        refine (count_all w3 A n cap _ C1 l HR3.out HN.out HF3.out.size hl HC1.out).mono ?_
        rintro e w4 ⟨rfl, hF4⟩
        have HF4 := Lib.hid (HF3.out.trans hF4 (fun _ _ e => e))
        clear hF4
        go_wp2_with fail
        go_ret
        exact ⟨rfl, HF4.out⟩
      · have hne : ((o : Int) != (i : Int)) = true := by rw [bne_iff_ne]; omega
        have HOB := Lib.hid (setL_other l true hi8 hoi)
        clear hi8 hoi
        obtain ⟨q, hq⟩ : ∃ q, q = bitB l o := ⟨_, rfl⟩
        have HQ := Lib.hid hq.symm
        clear hq
        go_wp2_with fail
        refine (has_set w1 A n cap _ i l true HR1.out HN.out (by omega) hl HB.out).mono ?_
        rintro e w' ⟨rfl, rfl⟩
        go_wp2_with fail
        refine (set_ok w1 A n cap _ i true l HR1.out HN.out HF.out.size HA.out hl (by omega)).mono ?_
        rintro e w2 ⟨A2, cap2, rfl, ho2, _, hF2⟩
        rw [HSL.out]
        have HF2 := Lib.hid (HF.out.trans hF2 (fun _ _ e => e))
        have HO2 := Lib.hid ho2.rd
        have HR2 := Lib.hid (HR1.out.still hF2 HF.out.size)
        clear ho2 hF2
        go_wp2_with fail
        refine (has_set w2 A2 n cap2 _ i (setL l i true) true HO2.out HSL.out (by omega) hl HSB.out).mono ?_
        rintro e w' ⟨rfl, rfl⟩
        go_wp2_with fail
        refine (has_set w2 A n cap _ o l q HR2.out HN.out (by omega) hl HQ.out).mono ?_
        rintro e w' ⟨rfl, rfl⟩
        go_wp2_with fail
        refine (has_set w2 A2 n cap2 _ o (setL l i true) q HO2.out HSL.out (by omega) hl (HOB.out.trans HQ.out)).mono ?_
        rintro e w' ⟨rfl, rfl⟩
        go_wp2_with fail
        refine (count_all w2 A2 n cap2 _ C2 (setL l i true) HO2.out HSL.out (Nat.le_refl _) hl HC2.out).mono ?_
        rintro e w3 ⟨rfl, hF3⟩
        have HF3 := Lib.hid (HF2.out.trans hF3 (fun _ _ e => e))
        have HR3 := Lib.hid (HR2.out.still hF3 HF2.out.size)
        clear hF3
        go_wp2_with fail
        refine (count_all w3 A n cap _ C1 l HR3.out HN.out HF3.out.size hl HC1.out).mono ?_
        rintro e w4 ⟨rfl, hF4⟩
        have HF4 := Lib.hid (HF3.out.trans hF4 (fun _ _ e => e))
        clear hF4
        go_wp2_with fail
        go_ret
        exact ⟨rfl, HF4.out⟩

set_option maxRecDepth 100000 in
set_option maxHeartbeats 4000000 in
theorem walk_false (A : Option Addr) (cap n : Nat) (l : List UInt8) (i0 o0 : Int) (W : World) (hr : Rd W W.heap.size A l) (hA : A = none → cap = 0) (hn : l.length = n) (hl : n ≤ 140737488351232) :
    Calls Try.prog 6 #[.slice A n cap, .int .i64 i0, .bool false, .int .i64 o0] W fun e w' => e = .returned (.bool true) ∧ Fr (fun _ => False) W w' := by
  have HR := Lib.hid hr
  have HN := Lib.hid hn
  have HA := Lib.hid hA
  clear hr hn hA
  by_cases h0 : n = 0
  · subst h0
    go_enter Try.func6, Try.ntmps6
    go_wp2_with fail
    refine (works_any W).mono ?_
    rintro e w1 ⟨rfl, hF⟩
    have HF := Lib.hid hF
    clear hF
    go_wp2_with fail
    go_ret
    exact ⟨rfl, HF.out⟩
  · have hn1 : 1 ≤ n := by omega
    have hn2 : ((n : Int) == 0) = false := by rw [beq_eq_false_iff_ne]; omega
    clear h0
    go_enter Try.func6, Try.ntmps6
    go_wp2_with fail
    refine (works_any W).mono ?_
    rintro e w1 ⟨rfl, hF⟩
    have HF := Lib.hid hF
    have HR1 := Lib.hid (HR.out.still hF (Nat.le_refl _))
    clear hF
    go_wp2_with fail
    refine (among_8 w1 i0 n hn1 hl).mono ?_
    rintro e w' ⟨i, hi, rfl, rfl⟩
    go_wp2_with fail
    refine (among_8 w1 o0 n hn1 hl).mono ?_
    rintro e w' ⟨o, ho, rfl, rfl⟩
    clear hn2
    have hi8 : i / 8 < l.length := by have := HN.out; omega
    have HSB := Lib.hid (setL_bit l false hi8)
    have HSL := Lib.hid (show (setL l i false).length = n by rw [setL_length, HN.out])
    cases hb : bitB l i with
    | false =>
      have HB := Lib.hid hb
      have HCC := Lib.hid (congrArg (fun L => cnt L (8 * n)) (setL_same l i hi8 false hb))
      clear hb
      obtain ⟨C1, hC1⟩ : ∃ C, C = cnt l (8 * n) := ⟨_, rfl⟩
      obtain ⟨C2, hC2⟩ : ∃ C, C = cnt (setL l i false) (8 * n) := ⟨_, rfl⟩
      have HC1 := Lib.hid hC1.symm
      have HC2 := Lib.hid hC2.symm
      have hr1 : C2 = C1 := by rw [hC1, hC2]; exact HCC.out
      have hC3 : C1 ≤ 8 * n := by rw [hC1]; exact cnt_le _ _
      have hC4 : C2 ≤ 8 * n := by rw [hC2]; exact cnt_le _ _
      clear hC1 hC2 HCC
      by_cases hoi : o = i
      · subst hoi
        clear hi8
        go_wp2_with fail
        refine (has_set w1 A n cap _ o l false HR1.out HN.out (by omega) hl HB.out).mono ?_
        rintro e w' ⟨rfl, rfl⟩
        go_wp2_with fail
        refine (set_ok w1 A n cap _ o false l HR1.out HN.out HF.out.size HA.out hl (by omega)).mono ?_
        rintro e w2 ⟨A2, cap2, rfl, ho2, _, hF2⟩
        rw [HSL.out]
        have HF2 := Lib.hid (HF.out.trans hF2 (fun _ _ e => e))
        have HO2 := Lib.hid ho2.rd
        have HR2 := Lib.hid (HR1.out.still hF2 HF.out.size)
        clear ho2 hF2
        go_wp2_with fail
        refine (has_set w2 A2 n cap2 _ o (setL l o false) false HO2.out HSL.out (by omega) hl HSB.out).mono ?_
        rintro e w' ⟨rfl, rfl⟩
        go_wp2_with fail
        refine (has_set w2 A n cap _ o l false HR2.out HN.out (by omega) hl HB.out).mono ?_
        rintro e w' ⟨rfl, rfl⟩
        go_wp2_with fail
        refine (has_set w2 A2 n cap2 _ o (setL l o false) false HO2.out HSL.out (by omega) hl HSB.out).mono ?_
        rintro e w' ⟨rfl, rfl⟩
        go_wp2_with fail
        refine (count_all w2 A2 n cap2 _ C2 (setL l o false) HO2.out HSL.out (Nat.le_refl _) hl HC2.out).mono ?_
        rintro e w3 ⟨rfl, hF3⟩
        have HF3 := Lib.hid (HF2.out.trans hF3 (fun _ _ e => e))
        have HR3 := Lib.hid (HR2.out.still hF3 HF2.out.size)
        clear hF3
        go_wp2_with fail
        refine (count_all w3 A n cap _ C1 l HR3.out HN.out HF3.out.size hl HC1.out).mono ?_
        rintro e w4 ⟨rfl, hF4⟩
        have HF4 := Lib.hid (HF3.out.trans hF4 (fun _ _ e => e))
        clear hF4
        go_wp2_with fail
        go_ret
        exact ⟨rfl, HF4.out⟩
      · have hne : ((o : Int) != (i : Int)) = true := by rw [bne_iff_ne]; omega
        have HOB := Lib.hid (setL_other l false hi8 hoi)
        clear hi8 hoi
        obtain ⟨q, hq⟩ : ∃ q, q = bitB l o := ⟨_, rfl⟩
        have HQ := Lib.hid hq.symm
        clear hq
        go_wp2_with fail
        refine (has_set w1 A n cap _ i l false HR1.out HN.out (by omega) hl HB.out).mono ?_
        rintro e w' ⟨rfl, rfl⟩
        go_wp2_with fail
        refine (set_ok w1 A n cap _ i false l HR1.out HN.out HF.out.size HA.out hl (by omega)).mono ?_
        rintro e w2 ⟨A2, cap2, rfl, ho2, _, hF2⟩
        rw [HSL.out]
        have HF2 := Lib.hid (HF.out.trans hF2 (fun _ _ e => e))
        have HO2 := Lib.hid ho2.rd
        have HR2 := Lib.hid (HR1.out.still hF2 HF.out.size)
        clear ho2 hF2
        go_wp2_with fail
        refine (has_set w2 A2 n cap2 _ i (setL l i false) false HO2.out HSL.out (by omega) hl HSB.out).mono ?_
        rintro e w' ⟨rfl, rfl⟩
        go_wp2_with fail
        refine (has_set w2 A n cap _ o l q HR2.out HN.out (by omega) hl HQ.out).mono ?_
        rintro e w' ⟨rfl, rfl⟩
        go_wp2_with fail
        refine (has_set w2 A2 n cap2 _ o (setL l i false) q HO2.out HSL.out (by omega) hl (HOB.out.trans HQ.out)).mono ?_
        rintro e w' ⟨rfl, rfl⟩
        go_wp2_with fail
        refine (count_all w2 A2 n cap2 _ C2 (setL l i false) HO2.out HSL.out (Nat.le_refl _) hl HC2.out).mono ?_
        rintro e w3 ⟨rfl, hF3⟩
        have HF3 := Lib.hid (HF2.out.trans hF3 (fun _ _ e => e))
        have HR3 := Lib.hid (HR2.out.still hF3 HF2.out.size)
        clear hF3
        go_wp2_with fail
        refine (count_all w3 A n cap _ C1 l HR3.out HN.out HF3.out.size hl HC1.out).mono ?_
        rintro e w4 ⟨rfl, hF4⟩
        have HF4 := Lib.hid (HF3.out.trans hF4 (fun _ _ e => e))
        clear hF4
        go_wp2_with fail
        go_ret
        exact ⟨rfl, HF4.out⟩
    | true =>
      have HB := Lib.hid hb
      have HCC := Lib.hid (cnt_down l hi8 hi hb)
      clear hb
      obtain ⟨C1, hC1⟩ : ∃ C, C = cnt l (8 * n) := ⟨_, rfl⟩
      obtain ⟨C2, hC2⟩ : ∃ C, C = cnt (setL l i false) (8 * n) := ⟨_, rfl⟩
      have HC1 := Lib.hid hC1.symm
      have HC2 := Lib.hid hC2.symm
      have hr1 : C1 = C2 + 1 := by have := HCC.out; omega
      have hC3 : C1 ≤ 8 * n := by rw [hC1]; exact cnt_le _ _
      have hC4 : C2 ≤ 8 * n := by rw [hC2]; exact cnt_le _ _
      clear hC1 hC2 HCC
      by_cases hoi : o = i
      · subst hoi
        clear hi8
        go_wp2_with fail
        refine (has_set w1 A n cap _ o l true HR1.out HN.out (by omega) hl HB.out).mono ?_
        rintro e w' ⟨rfl, rfl⟩
        go_wp2_with fail
        refine (set_ok w1 A n cap _ o false l HR1.out HN.out HF.out.size HA.out hl (by omega)).mono ?_
        rintro e w2 ⟨A2, cap2, rfl, ho2, _, hF2⟩
        rw [HSL.out]
        have HF2 := Lib.hid (HF.out.trans hF2 (fun _ _ e => e))
        have HO2 := Lib.hid ho2.rd
        have HR2 := Lib.hid (HR1.out.still hF2 HF.out.size)
        clear ho2 hF2
        go_wp2_with fail
        refine (has_set w2 A2 n cap2 _ o (setL l o false) false HO2.out HSL.out (by omega) hl HSB.out).mono ?_
        rintro e w' ⟨rfl, rfl⟩
        go_wp2_with fail
        refine (has_set w2 A n cap _ o l true HR2.out HN.out (by omega) hl HB.out).mono ?_
        rintro e w' ⟨rfl, rfl⟩
        go_wp2_with fail
        refine (has_set w2 A2 n cap2 _ o (setL l o false) false HO2.out HSL.out (by omega) hl HSB.out).mono ?_
        rintro e w' ⟨rfl, rfl⟩
        go_wp2_with fail
        refine (count_all w2 A2 n cap2 _ C2 (setL l o false) HO2.out HSL.out (Nat.le_refl _) hl HC2.out).mono ?_
        rintro e w3 ⟨rfl, hF3⟩
        have HF3 := Lib.hid (HF2.out.trans hF3 (fun _ _ e => e))
        have HR3 := Lib.hid (HR2.out.still hF3 HF2.out.size)
        clear hF3
        go_wp2_with fail
        refine (count_all w3 A n cap _ C1 l HR3.out HN.out HF3.out.size hl HC1.out).mono ?_
        rintro e w4 ⟨rfl, hF4⟩
        have HF4 := Lib.hid (HF3.out.trans hF4 (fun _ _ e => e))
        clear hF4
        go_wp2_with fail
        go_ret
        exact ⟨rfl, HF4.out⟩
      · have hne : ((o : Int) != (i : Int)) = true := by rw [bne_iff_ne]; omega
        have HOB := Lib.hid (setL_other l false hi8 hoi)
        clear hi8 hoi
        obtain ⟨q, hq⟩ : ∃ q, q = bitB l o := ⟨_, rfl⟩
        have HQ := Lib.hid hq.symm
        clear hq
        go_wp2_with fail
        refine (has_set w1 A n cap _ i l true HR1.out HN.out (by omega) hl HB.out).mono ?_
        rintro e w' ⟨rfl, rfl⟩
        go_wp2_with fail
        refine (set_ok w1 A n cap _ i false l HR1.out HN.out HF.out.size HA.out hl (by omega)).mono ?_
        rintro e w2 ⟨A2, cap2, rfl, ho2, _, hF2⟩
        rw [HSL.out]
        have HF2 := Lib.hid (HF.out.trans hF2 (fun _ _ e => e))
        have HO2 := Lib.hid ho2.rd
        have HR2 := Lib.hid (HR1.out.still hF2 HF.out.size)
        clear ho2 hF2
        go_wp2_with fail
        refine (has_set w2 A2 n cap2 _ i (setL l i false) false HO2.out HSL.out (by omega) hl HSB.out).mono ?_
        rintro e w' ⟨rfl, rfl⟩
        go_wp2_with fail
        refine (has_set w2 A n cap _ o l q HR2.out HN.out (by omega) hl HQ.out).mono ?_
        rintro e w' ⟨rfl, rfl⟩
        go_wp2_with fail
        refine (has_set w2 A2 n cap2 _ o (setL l i false) q HO2.out HSL.out (by omega) hl (HOB.out.trans HQ.out)).mono ?_
        rintro e w' ⟨rfl, rfl⟩
        go_wp2_with fail
        refine (count_all w2 A2 n cap2 _ C2 (setL l i false) HO2.out HSL.out (Nat.le_refl _) hl HC2.out).mono ?_
        rintro e w3 ⟨rfl, hF3⟩
        have HF3 := Lib.hid (HF2.out.trans hF3 (fun _ _ e => e))
        have HR3 := Lib.hid (HR2.out.still hF3 HF2.out.size)
        clear hF3
        go_wp2_with fail
        refine (count_all w3 A n cap _ C1 l HR3.out HN.out HF3.out.size hl HC1.out).mono ?_
        rintro e w4 ⟨rfl, hF4⟩
        have HF4 := Lib.hid (HF3.out.trans hF4 (fun _ _ e => e))
        clear hF4
        go_wp2_with fail
        go_ret
        exact ⟨rfl, HF4.out⟩

theorem walk (A : Option Addr) (cap : Nat) (l : List UInt8) (i0 : Int) (on : Bool) (o0 : Int) (W : World) (hr : Rd W W.heap.size A l) (hA : A = none → cap = 0) (hl : l.length ≤ 140737488351232) :
    Calls Try.prog 6 #[.slice A l.length cap, .int .i64 i0, .bool on, .int .i64 o0] W fun e w' => e = .returned (.bool true) ∧ Fr (fun _ => False) W w' := by
  cases on
  · exact walk_false A cap _ l i0 o0 W hr hA rfl hl
  · exact walk_true A cap _ l i0 o0 W hr hA rfl hl

/-! ### the row -/
theorem own : ownKnob Try.prog.godebug = none := by kernel_rfl
set_option maxRecDepth 100000 in
theorem lifted (os : Os) (started : os.Started) (H : Type) (enc : TypeId × Value → H) :
    ReturnsInHanded {} Try.checked os 6 .any (Rows.bitsOneSpec.pre6 enc Try.prog Try.f6 Rows.bitsOneRow.domain false) (Rows.bitsOneSpec.post enc Try.prog Try.f6 false true false false) := by
  refine returnsInHanded_of_change_sized (C := Try.checked) own started (by kernel_rfl) Try.func6
    (ChangeSpec.witness6 (enc := enc) (C := Try.checked) false ⟨#[], #[.slice none 0 0, .int .i64 0, .bool false, .int .i64 0], []⟩ 8 (by kernel_rfl) (by kernel_rfl) (by kernel_rfl) (by kernel_rfl)) ?_
  intro W base args ds gs before hval0 hW _ hsz0 _
  have hval : ∀ (j : Nat) t v, Try.f6.params[j]? = some t → args[j]? = some v → Value.okWide Try.prog W .any base t v := hval0
  have hsz : (DataW.weightsEach Try.prog (Try.f6.params.toList ++ Rows.bitsOneSpec.plain.varTypes Try.prog) (ds ++ gs)).all (· ≤ reachBytes) = true := hsz0
  have hW' := hW
  obtain ⟨p, q, hA0, hV, rfl, hfz, hnd⟩ := hW
  have hA : DataW.TrodAll enc Try.prog W 0 (fun _ => true) true Try.f6.params.toList args.toList ds p := hA0
  rw [Try.params6] at hA hval hsz
  obtain ⟨v0, vs0, d0, ds0, p0, q0, hargs, rfl, rfl, h0, r0⟩ := trodAll_cons hA
  obtain ⟨v1, vs1, d1, ds1, p1, q1, rfl, rfl, rfl, h1, r1⟩ := trodAll_cons r0
  obtain ⟨v2, vs2, d2, ds2, p2, q2, rfl, rfl, rfl, h2, r2⟩ := trodAll_cons r1
  obtain ⟨v3, vs3, d3, ds3, p3, q3, rfl, rfl, rfl, h3, r3⟩ := trodAll_cons r2
  obtain ⟨rfl, rfl, rfl⟩ := trodAll_nil r3
  obtain rfl : args = #[v0, v1, v2, v3] := by cases args; simp_all
  obtain ⟨rfl, rfl⟩ := trodVars_none hV
  obtain ⟨A0, cap0, l0, rfl, hr0, hA0, hc0, hl0⟩ := bytes_open (fun _ => rfl) (fun el sp (e : d0 = .slice el sp) => sized_slice hsz (j := 0) (t := 22) (e := 5) rfl (by rw [e]; rfl) Try.underlying22) (hval 0 22 v0 rfl rfl) h0
  obtain ⟨a1, rfl, rfl, rfl, w1⟩ := open_int Try.underlying3 (hval 1 3 v1 rfl rfl) h1
  obtain ⟨a2, rfl, rfl, rfl⟩ := open_bool Try.underlying4 (hval 2 4 v2 rfl rfl) h2
  obtain ⟨a3, rfl, rfl, rfl, w3⟩ := open_int Try.underlying3 (hval 3 3 v3 rfl rfl) h3
  clear hA0 hval0 hsz0
  simp only [List.append_nil] at hW'
  try simp only [List.nil_append] at hW'
  have hlt0 : ∀ x ∈ p0, x.block < W.heap.size := fun x hx => by simpa using hW'.lt x (by simp [hx])
  refine (walk A0 cap0 l0 a1 a2 a3 W hr0 hA0 hl0).mono fun e W' ⟨he, hg⟩ => ?_
  subst he
  have hB : Below W.heap.size W W' := hg.below (Nat.le_refl _) (fun _ _ e => e.elim)
  have t0 := Below.trod laidOut (by kernel_rfl) (of_decide_eq_true (by kernel_rfl)) h0 hB hlt0
  exact ⟨_, rfl, _, _, _, [], _, [], hW', trodAll_cons_mk (shut_bool Try.underlying4 _) trodAll_mk0, (trodAll_cons_mk t0 (trodAll_cons_mk (shut_int Try.underlying3 w1) (trodAll_cons_mk (shut_bool Try.underlying4 a2) (trodAll_cons_mk (shut_int Try.underlying3 w3) trodAll_mk0)))), rfl, hB.frame _, fun h => by cases h⟩

theorem over : Rows.bitsOneRow.holds Try.pinned (OpenSpec.ofChange Rows.bitsOneSpec) :=
  OpenClaim.holds_of_wide 6 Try.f6 rfl rfl rfl rfl rfl rfl rfl ⟨rfl, rfl, rfl, rfl, rfl⟩ rfl rfl rfl rfl rfl (by kernel_rfl) Try.func6 (by kernel_rfl)
    (of_decide_eq_true (by kernel_rfl)) (by unfold Func.isWrapper; first | (rw [if_pos (by decide +kernel)]; kernel_rfl) | (rw [if_neg (by decide +kernel)]; exact ⟨rfl, rfl⟩))
    (fun os started H enc _ => lifted os started H enc)

theorem proved : Rows.BitsOneSaid := over
#print axioms proved

end Go.Proofs.Ytmfilcdljfpnfaa.bitsOne
