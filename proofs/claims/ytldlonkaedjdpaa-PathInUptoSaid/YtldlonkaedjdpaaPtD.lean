/-
  The document's Clean.
-/
import Derived.Test.YtldlonkaedjdpaaPtC
namespace Go.Proofs.Ytldlonkaedjdpaa.pt
set_option maxRecDepth 100000
open Go.RowKit Go.Maps
set_option maxRecDepth 100000

theorem dot_yes {l : Tx} (h : beginsB l [46, 47] = true) : dotL l = l.drop 2 ∧ 2 ≤ l.length := by
  unfold beginsB at h
  simp only [Bool.and_eq_true, decide_eq_true_eq] at h
  have h2 := h.1
  simp at h2
  refine ⟨?_, h2⟩
  unfold dotL
  rw [if_pos]
  rw [List.isPrefixOf_iff_prefix]
  exact ⟨l.drop 2, by conv => rhs; rw [← List.take_append_drop 2 l]
                      exact congrArg (· ++ l.drop 2) h.2.symm⟩
theorem dot_no {l : Tx} (h : beginsB l [46, 47] = false) : dotL l = l := by
  unfold dotL
  by_cases e : [46, 47].isPrefixOf l = true
  · exfalso
    obtain ⟨t, rfl⟩ := List.isPrefixOf_iff_prefix.1 e
    revert h
    unfold beginsB
    simp
  · rw [if_neg e]
theorem end_yes {l : Tx} (h : endsB l [47] = true) : endL l = l.take (l.length - 1) ∧ 1 ≤ l.length := by
  unfold endsB at h
  simp only [Bool.and_eq_true, decide_eq_true_eq] at h
  have h2 := h.1
  simp at h2
  refine ⟨?_, by omega⟩
  have e : l = l.take (l.length - 1) ++ [47] := by
    conv => lhs; rw [← List.take_append_drop (l.length - 1) l]
    exact congrArg (l.take (l.length - 1) ++ ·) h.2
  unfold endL
  rw [if_pos (by rw [e]; simp), List.dropLast_eq_take]
theorem end_no {l : Tx} (h : endsB l [47] = false) : endL l = l := by
  unfold endL
  by_cases e : l.getLast? = some 47
  · exfalso
    obtain ⟨ys, rfl⟩ := List.getLast?_eq_some_iff.1 e
    revert h
    unfold endsB
    simp
  · rw [if_neg e]
theorem clean_dot {l : Tx} (h : l = [46] ∨ l = [46, 47]) : cleanL l = ([], 0) := if_pos h
theorem clean_end {l a : Tx} (h : ¬ (l = [46] ∨ l = [46, 47])) (ha : endL (dotL l) = a) : cleanL l = if a = [] ∨ okT a = false then ([], 140) else (a, 0) := by unfold cleanL; rw [if_neg h, ha]
/-- What Clean answers. -/
def AnsC (w : World) (r : Tx × Int) (e : Ending) (w' : World) : Prop := e = .returned (.tuple #[.string (tx r.1), .int .i64 r.2]) ∧ Fr (fun _ => False) w w'
set_option maxHeartbeats 8000000 in
theorem rclean (w : World) (s : ByteArray) (hs : s.size ≤ maxLen) : Calls Try.prog 11 #[.string s] w (AnsC w (cleanL s.toList)) := by
  by_cases h1 : s.toList = [46]
  · rw [clean_dot (Or.inl h1)]
    have HF := Lib.hid (Fr.refl (fun _ => False) w)
    clear hs
    go_enter Try.func11, Try.ntmps11
    go_wp2_with fail
    go_ret2
    exact ⟨rfl, HF.out⟩
  by_cases h2 : s.toList = [46, 47]
  · rw [clean_dot (Or.inr h2)]
    have h1' : (s.toList == [46]) = false := beq_eq_false_iff_ne.2 h1
    have HF := Lib.hid (Fr.refl (fun _ => False) w)
    clear hs h1
    go_enter Try.func11, Try.ntmps11
    go_wp2_with fail
    go_ret2
    exact ⟨rfl, HF.out⟩
  have HCE := Lib.hid (fun a ha => clean_end (l := s.toList) (a := a) (by rintro (e | e); exact h1 e; exact h2 e) ha)
  have h1' : (s.toList == [46]) = false := beq_eq_false_iff_ne.2 h1
  have h2' : (s.toList == [46, 47]) = false := beq_eq_false_iff_ne.2 h2
  have HB1 := Lib.hid (bbegins w s ⟨#[46, 47]⟩)
  have hc1 : (⟨#[46, 47]⟩ : ByteArray).toList = [46, 47] := tx_toL [46, 47]
  have hc2 : (⟨#[47]⟩ : ByteArray).toList = [47] := tx_toL [47]
  rw [hc1] at HB1
  unfold maxLen at hs
  cases hb1 : beginsB s.toList [46, 47] with
  | true =>
    rw [hb1] at HB1
    have hd := dot_yes hb1
    rw [toL_len] at hd
    have h2s : 2 ≤ s.size := hd.2
    obtain ⟨S1, hS1⟩ : ∃ S1, S1 = s.extract 2 s.size := ⟨_, rfl⟩
    have hl1 : S1.toList = dotL s.toList := by rw [hS1, tx_ext, tx_toL, hd.1, List.take_of_length_le (by rw [List.length_drop, toL_len]; exact Nat.le_refl _)]
    have hx1 : s.extract 2 s.size = S1 := hS1.symm
    have hz1 : S1.size ≤ maxLen := by unfold maxLen; rw [← toL_len, hl1, hd.1, List.length_drop, toL_len]; omega
    clear hS1 hd
    have HB2 := Lib.hid (bends w S1 ⟨#[47]⟩ hz1)
    rw [hc2] at HB2
    cases hb2 : endsB S1.toList [47] with
    | true =>
      rw [hb2] at HB2
      have he := end_yes hb2
      rw [toL_len] at he
      have h1s : 1 ≤ S1.size := he.2
      obtain ⟨d, hd⟩ : ∃ d, d = S1.size - 1 := ⟨_, rfl⟩
      have hdi : (S1.size : Int) - 1 = (d : Int) := by omega
      have hdl : d ≤ S1.size := by omega
      have hd47 : d ≤ 9223372036854775807 := by unfold maxLen at hz1; omega
      obtain ⟨S2, hS2⟩ : ∃ S2, S2 = S1.extract 0 d := ⟨_, rfl⟩
      have hl2 : S2.toList = endL (dotL s.toList) := by rw [hS2, tx_ext, tx_toL, ← hl1, he.1, List.drop_zero, Nat.sub_zero, hd]
      have hx2 : S1.extract 0 d = S2 := hS2.symm
      have hz2 : S2.size ≤ maxLen := by unfold maxLen; rw [← toL_len, hl2, ← hl1, he.1, List.length_take, toL_len]; omega
      clear hS2 he hd
      have HA := HCE.out _ hl2.symm
      rw [HA]
      by_cases h0 : S2.toList = []
      · rw [if_pos (Or.inl h0)]
        have HF := Lib.hid (Fr.refl (fun _ => False) w)
        clear HA hl2 hl1 HCE hb1 hb2 hc1 hc2 h1 h2
        go_enter Try.func11, Try.ntmps11
        go_wp2_with (first
            | (go_at_call 30; refine HB1.out.mono ?_; rintro e w' ⟨rfl, rfl⟩)
            | (go_at_call 31; refine HB2.out.mono ?_; rintro e w' ⟨rfl, rfl⟩))
        go_ret2
        exact ⟨rfl, HF.out⟩
      have h0' := isE h0
      have HC := Lib.hid (rcheck w S2 hz2)
      cases hk : okT S2.toList with
      | false =>
        rw [if_pos (Or.inr rfl)]
        rw [checkZ_no hk] at HC
        clear HA hl2 hl1 HCE hb1 hb2 hc1 hc2 h1 h2 hk h0
        go_enter Try.func11, Try.ntmps11
        go_wp2_with (first
            | (go_at_call 30; refine HB1.out.mono ?_; rintro e w' ⟨rfl, rfl⟩)
            | (go_at_call 31; refine HB2.out.mono ?_; rintro e w' ⟨rfl, rfl⟩)
            | (go_at_call 13; refine HC.out.mono ?_; rintro e w' ⟨rfl, hF⟩))
        go_ret2
        exact ⟨rfl, hF⟩
      | true =>
        rw [if_neg (by rintro (e | e); exact h0 e; cases e)]
        rw [checkZ_ok hk] at HC
        have HTX := Lib.hid (tx_of S2)
        clear HA hl2 hl1 HCE hb1 hb2 hc1 hc2 h1 h2 hk h0
        go_enter Try.func11, Try.ntmps11
        go_wp2_with (first
            | (go_at_call 30; refine HB1.out.mono ?_; rintro e w' ⟨rfl, rfl⟩)
            | (go_at_call 31; refine HB2.out.mono ?_; rintro e w' ⟨rfl, rfl⟩)
            | (go_at_call 13; refine HC.out.mono ?_; rintro e w' ⟨rfl, hF⟩))
        go_ret2
        exact ⟨by rw [HTX.out]; rfl, hF⟩
    | false =>
      rw [hb2] at HB2
      have hl2 : S1.toList = endL (dotL s.toList) := by rw [← hl1]; exact (end_no hb2).symm
      have hz2 : S1.size ≤ maxLen := hz1
      have HA := HCE.out _ hl2.symm
      rw [HA]
      by_cases h0 : S1.toList = []
      · rw [if_pos (Or.inl h0)]
        have HF := Lib.hid (Fr.refl (fun _ => False) w)
        clear HA hl2 hl1 HCE hb1 hb2 hc1 hc2 h1 h2
        go_enter Try.func11, Try.ntmps11
        go_wp2_with (first
            | (go_at_call 30; refine HB1.out.mono ?_; rintro e w' ⟨rfl, rfl⟩)
            | (go_at_call 31; refine HB2.out.mono ?_; rintro e w' ⟨rfl, rfl⟩))
        go_ret2
        exact ⟨rfl, HF.out⟩
      have h0' := isE h0
      have HC := Lib.hid (rcheck w S1 hz2)
      cases hk : okT S1.toList with
      | false =>
        rw [if_pos (Or.inr rfl)]
        rw [checkZ_no hk] at HC
        clear HA hl2 hl1 HCE hb1 hb2 hc1 hc2 h1 h2 hk h0
        go_enter Try.func11, Try.ntmps11
        go_wp2_with (first
            | (go_at_call 30; refine HB1.out.mono ?_; rintro e w' ⟨rfl, rfl⟩)
            | (go_at_call 31; refine HB2.out.mono ?_; rintro e w' ⟨rfl, rfl⟩)
            | (go_at_call 13; refine HC.out.mono ?_; rintro e w' ⟨rfl, hF⟩))
        go_ret2
        exact ⟨rfl, hF⟩
      | true =>
        rw [if_neg (by rintro (e | e); exact h0 e; cases e)]
        rw [checkZ_ok hk] at HC
        have HTX := Lib.hid (tx_of S1)
        clear HA hl2 hl1 HCE hb1 hb2 hc1 hc2 h1 h2 hk h0
        go_enter Try.func11, Try.ntmps11
        go_wp2_with (first
            | (go_at_call 30; refine HB1.out.mono ?_; rintro e w' ⟨rfl, rfl⟩)
            | (go_at_call 31; refine HB2.out.mono ?_; rintro e w' ⟨rfl, rfl⟩)
            | (go_at_call 13; refine HC.out.mono ?_; rintro e w' ⟨rfl, hF⟩))
        go_ret2
        exact ⟨by rw [HTX.out]; rfl, hF⟩

  | false =>
    rw [hb1] at HB1
    have hl1 : s.toList = dotL s.toList := (dot_no hb1).symm
    have hz1 : s.size ≤ maxLen := hs
    have HB2 := Lib.hid (bends w s ⟨#[47]⟩ hz1)
    rw [hc2] at HB2
    cases hb2 : endsB s.toList [47] with
    | true =>
      rw [hb2] at HB2
      have he := end_yes hb2
      rw [toL_len] at he
      have h1s : 1 ≤ s.size := he.2
      obtain ⟨d, hd⟩ : ∃ d, d = s.size - 1 := ⟨_, rfl⟩
      have hdi : (s.size : Int) - 1 = (d : Int) := by omega
      have hdl : d ≤ s.size := by omega
      have hd47 : d ≤ 9223372036854775807 := by unfold maxLen at hz1; omega
      obtain ⟨S2, hS2⟩ : ∃ S2, S2 = s.extract 0 d := ⟨_, rfl⟩
      have hl2 : S2.toList = endL (dotL s.toList) := by rw [hS2, tx_ext, tx_toL, ← hl1, he.1, List.drop_zero, Nat.sub_zero, hd]
      have hx2 : s.extract 0 d = S2 := hS2.symm
      have hz2 : S2.size ≤ maxLen := by unfold maxLen; rw [← toL_len, hl2, ← hl1, he.1, List.length_take, toL_len]; omega
      clear hS2 he hd
      have HA := HCE.out _ hl2.symm
      rw [HA]
      by_cases h0 : S2.toList = []
      · rw [if_pos (Or.inl h0)]
        have HF := Lib.hid (Fr.refl (fun _ => False) w)
        clear HA hl2 hl1 HCE hb1 hb2 hc1 hc2 h1 h2
        go_enter Try.func11, Try.ntmps11
        go_wp2_with (first
            | (go_at_call 30; refine HB1.out.mono ?_; rintro e w' ⟨rfl, rfl⟩)
            | (go_at_call 31; refine HB2.out.mono ?_; rintro e w' ⟨rfl, rfl⟩))
        go_ret2
        exact ⟨rfl, HF.out⟩
      have h0' := isE h0
      have HC := Lib.hid (rcheck w S2 hz2)
      cases hk : okT S2.toList with
      | false =>
        rw [if_pos (Or.inr rfl)]
        rw [checkZ_no hk] at HC
        clear HA hl2 hl1 HCE hb1 hb2 hc1 hc2 h1 h2 hk h0
        go_enter Try.func11, Try.ntmps11
        go_wp2_with (first
            | (go_at_call 30; refine HB1.out.mono ?_; rintro e w' ⟨rfl, rfl⟩)
            | (go_at_call 31; refine HB2.out.mono ?_; rintro e w' ⟨rfl, rfl⟩)
            | (go_at_call 13; refine HC.out.mono ?_; rintro e w' ⟨rfl, hF⟩))
        go_ret2
        exact ⟨rfl, hF⟩
      | true =>
        rw [if_neg (by rintro (e | e); exact h0 e; cases e)]
        rw [checkZ_ok hk] at HC
        have HTX := Lib.hid (tx_of S2)
        clear HA hl2 hl1 HCE hb1 hb2 hc1 hc2 h1 h2 hk h0
        go_enter Try.func11, Try.ntmps11
        go_wp2_with (first
            | (go_at_call 30; refine HB1.out.mono ?_; rintro e w' ⟨rfl, rfl⟩)
            | (go_at_call 31; refine HB2.out.mono ?_; rintro e w' ⟨rfl, rfl⟩)
            | (go_at_call 13; refine HC.out.mono ?_; rintro e w' ⟨rfl, hF⟩))
        go_ret2
        exact ⟨by rw [HTX.out]; rfl, hF⟩
    | false =>
      rw [hb2] at HB2
      have hl2 : s.toList = endL (dotL s.toList) := by rw [← hl1]; exact (end_no hb2).symm
      have hz2 : s.size ≤ maxLen := hz1
      have HA := HCE.out _ hl2.symm
      rw [HA]
      by_cases h0 : s.toList = []
      · rw [if_pos (Or.inl h0)]
        have HF := Lib.hid (Fr.refl (fun _ => False) w)
        clear HA hl2 hl1 HCE hb1 hb2 hc1 hc2 h1 h2
        go_enter Try.func11, Try.ntmps11
        go_wp2_with (first
            | (go_at_call 30; refine HB1.out.mono ?_; rintro e w' ⟨rfl, rfl⟩)
            | (go_at_call 31; refine HB2.out.mono ?_; rintro e w' ⟨rfl, rfl⟩))
        go_ret2
        exact ⟨rfl, HF.out⟩
      have h0' := isE h0
      have HC := Lib.hid (rcheck w s hz2)
      cases hk : okT s.toList with
      | false =>
        rw [if_pos (Or.inr rfl)]
        rw [checkZ_no hk] at HC
        clear HA hl2 hl1 HCE hb1 hb2 hc1 hc2 h1 h2 hk h0
        go_enter Try.func11, Try.ntmps11
        go_wp2_with (first
            | (go_at_call 30; refine HB1.out.mono ?_; rintro e w' ⟨rfl, rfl⟩)
            | (go_at_call 31; refine HB2.out.mono ?_; rintro e w' ⟨rfl, rfl⟩)
            | (go_at_call 13; refine HC.out.mono ?_; rintro e w' ⟨rfl, hF⟩))
        go_ret2
        exact ⟨rfl, hF⟩
      | true =>
        rw [if_neg (by rintro (e | e); exact h0 e; cases e)]
        rw [checkZ_ok hk] at HC
        have HTX := Lib.hid (tx_of s)
        clear HA hl2 hl1 HCE hb1 hb2 hc1 hc2 h1 h2 hk h0
        go_enter Try.func11, Try.ntmps11
        go_wp2_with (first
            | (go_at_call 30; refine HB1.out.mono ?_; rintro e w' ⟨rfl, rfl⟩)
            | (go_at_call 31; refine HB2.out.mono ?_; rintro e w' ⟨rfl, rfl⟩)
            | (go_at_call 13; refine HC.out.mono ?_; rintro e w' ⟨rfl, hF⟩))
        go_ret2
        exact ⟨by rw [HTX.out]; rfl, hF⟩

end Go.Proofs.Ytldlonkaedjdpaa.pt
