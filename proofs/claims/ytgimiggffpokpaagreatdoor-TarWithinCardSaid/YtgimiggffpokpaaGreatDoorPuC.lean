/-
  The program's Parent, Base, Join, Under, Clean.
-/
import Derived.Test.YtgimiggffpokpaaGreatDoorPuB
import Derived.Test.YtgimiggffpokpaaGreatDoorShelf
namespace Go.Proofs.YtgimiggffpokpaaGreatDoor.pt
set_option maxRecDepth 100000
open Go.RowKit Go.Maps
set_option maxRecDepth 100000

/-- The library's last place of a / is the document's. -/
theorem last_cut (s : ByteArray) : CutZ s.toList (Lib.lastIndexByte s 47) := by
  have hget : ∀ j, j < s.size → ((s.toList[j]? = some 47 ↔ ((s.data[j]!).toNat : Int) = 47)) := fun j hj => by
    rw [toL_get s j hj, getElem!_pos s.data j hj]
    show some s.data[j] = some 47 ↔ _
    refine ⟨fun e => by rw [Option.some.inj e]; rfl, fun e => congrArg some (UInt8.toNat_inj.1 (by show s.data[j].toNat = 47; omega))⟩
  rcases Lib.lastIndexByte_spec s 47 with ⟨e1, e2⟩ | ⟨i, e1, e2, e3, e4⟩
  · refine Or.inl ⟨e1, fun hm => ?_⟩
    obtain ⟨j, hj, e⟩ := List.getElem_of_mem hm
    rw [toL_len] at hj
    exact e2 j hj ((hget j hj).1 (by rw [← e]; exact List.getElem?_eq_getElem _))
  · refine Or.inr ⟨i, e2, (hget i e1).2 e3, fun hm => ?_⟩
    obtain ⟨j, hj, e⟩ := List.getElem_of_mem hm
    rw [List.length_drop, toL_len] at hj
    have hj2 : i + 1 + j < s.size := by omega
    refine e4 (i + 1 + j) (by omega) hj2 ((hget _ hj2).1 ?_)
    rw [← e, List.getElem_drop]
    exact List.getElem?_eq_getElem _
theorem plast (w : World) (s : ByteArray) (hs : s.size ≤ 1099511627776) : Calls Tryz.prog 83 #[.string s, .int .u8 47] w fun e w' => (∃ z, e = .returned (.int .i64 z) ∧ CutZ s.toList z) ∧ w = w' :=
  (Any.strings_LastIndexByte Tryz.lastB s 47 (by omega) w).mono fun _ _ ⟨a, b⟩ => ⟨⟨_, a, last_cut s⟩, b.symm⟩
set_option maxHeartbeats 4000000 in
theorem punder (w : World) (s t : ByteArray) (hs : t.size ≤ 140737488355328) : Calls Tryz.prog 8 #[.string s, .string t] w fun e w' => e = .returned (.bool (underT s.toList t.toList)) ∧ w = w' := by
  have hs2 : t.size + 1 ≤ 9223372036854775807 := by omega
  clear hs
  by_cases h1 : t.toList = []
  · have HV := Lib.hid (show underT s.toList t.toList = true by unfold underT; rw [decide_eq_true h1]; rfl)
    rw [HV.out]
    go_enter Tryz.func8, Tryz.ntmps8
    go_wp2_with fail
    go_ret
    exact ⟨rfl, rfl⟩
  have h1' := isE h1
  by_cases h2 : s.toList = t.toList
  · have HV := Lib.hid (show underT s.toList t.toList = true by unfold underT; rw [decide_eq_true h2]; simp)
    rw [HV.out]
    clear h1
    go_enter Tryz.func8, Tryz.ntmps8
    go_wp2_with fail
    go_ret
    exact ⟨rfl, rfl⟩
  have h2' : (s.toList == t.toList) = false := beq_eq_false_iff_ne.2 h2
  have HB := Lib.hid (Any.strings_HasPrefix Tryz.hasP s (t ++ ⟨#[47]⟩) w)
  have HV := Lib.hid (show underT s.toList t.toList = Lib.hasPrefix s.data.toList (t ++ (⟨#[47]⟩ : ByteArray)).data.toList by
    rw [← toL, ← toL, app_47]
    unfold underT Lib.hasPrefix
    rw [decide_eq_false h1, decide_eq_false h2, Bool.false_or, Bool.false_or])
  rw [HV.out]
  clear h1 h2
  go_enter Tryz.func8, Tryz.ntmps8
  go_wp2_with (go_at_call 14; refine HB.out.mono ?_; rintro e w' ⟨rfl, rfl⟩)
  go_ret
  exact ⟨rfl, rfl⟩
/-! ### Clean -/
theorem trim_dot (l : Tx) : Lib.trimPrefix l [46, 47] = dotL l := rfl
theorem trim_end (l : Tx) : Lib.trimSuffix l [47] = endL l := by
  unfold Lib.trimSuffix Lib.hasSuffix endL
  have h : ([47] : Tx).isSuffixOf l = decide (l.getLast? = some 47) := by
    rw [Bool.eq_iff_iff, decide_eq_true_eq, List.isSuffixOf_iff_suffix]
    constructor
    · rintro ⟨a, rfl⟩; simp
    · intro e
      obtain ⟨a, rfl⟩ := List.getLast?_eq_some_iff.1 e
      exact ⟨a, rfl⟩
  rw [h]
  by_cases e : l.getLast? = some 47
  · rw [decide_eq_true e, if_pos rfl, if_pos e, List.dropLast_eq_take]
    rfl
  · rw [decide_eq_false e, if_neg (by simp), if_neg e]
set_option maxHeartbeats 8000000 in
theorem pclean (w : World) (s : ByteArray) (hs : s.size ≤ maxLen) : Calls Tryz.prog 50 #[.string s] w (AnsC w (cleanL s.toList)) := by
  have hs9 : s.size ≤ 9223372036854775807 := hs
  by_cases h1 : s.toList = [46]
  · obtain rfl : s = ⟨#[46]⟩ := by rw [← tx_of s, h1]
    rw [clean_dot (Or.inl h1)]
    have HF := Lib.hid (Fr.refl (fun _ => False) w)
    clear hs
    go_enter Tryz.func50, Tryz.ntmps50
    go_wp2_with fail
    go_ret2
    exact ⟨rfl, HF.out⟩
  by_cases h2 : s.toList = [46, 47]
  · obtain rfl : s = ⟨#[46, 47]⟩ := by rw [← tx_of s, h2]
    rw [clean_dot (Or.inr h2)]
    have HF := Lib.hid (Fr.refl (fun _ => False) w)
    clear hs h1
    go_enter Tryz.func50, Tryz.ntmps50
    go_wp2_with fail
    go_ret2
    exact ⟨rfl, HF.out⟩
  have h1' : (s.toList == [46]) = false := beq_eq_false_iff_ne.2 h1
  have h2' : (s.toList == [46, 47]) = false := beq_eq_false_iff_ne.2 h2
  have HB1 := Lib.hid (Any.strings_TrimPrefix Tryz.trimP s ⟨#[46, 47]⟩ w)
  rw [← toL, trim_dot] at HB1
  have hS1 : (⟨(dotL s.toList).toArray⟩ : ByteArray).toList = dotL s.toList := tx_toL _
  have hz1 : (⟨(dotL s.toList).toArray⟩ : ByteArray).size ≤ s.size := by
    show (tx (dotL s.toList)).size ≤ _
    rw [tx_size (dotL s.toList), ← toL_len]
    unfold dotL
    split
    · rw [List.length_drop]; omega
    · exact Nat.le_refl _
  obtain ⟨S1, hE1⟩ : ∃ S1 : ByteArray, S1 = ⟨(dotL s.toList).toArray⟩ := ⟨_, rfl⟩
  rw [← hE1] at hS1 hz1 HB1
  have HB2 := Lib.hid (Any.strings_TrimSuffix Tryz.trimS S1 ⟨#[47]⟩ w (by omega))
  rw [← toL, hS1, trim_end] at HB2
  have hS2 : (⟨(endL (dotL s.toList)).toArray⟩ : ByteArray).toList = endL (dotL s.toList) := tx_toL _
  have hz2 : (⟨(endL (dotL s.toList)).toArray⟩ : ByteArray).size ≤ s.size := by
    refine Nat.le_trans ?_ hz1
    show (tx (endL (dotL s.toList))).size ≤ _
    rw [tx_size (endL (dotL s.toList)), ← toL_len S1, hS1]
    unfold endL
    split
    · rw [List.length_dropLast]; omega
    · exact Nat.le_refl _
  obtain ⟨S2, hE2⟩ : ∃ S2 : ByteArray, S2 = ⟨(endL (dotL s.toList)).toArray⟩ := ⟨_, rfl⟩
  have HT := Lib.hid (show tx (endL (dotL s.toList)) = S2 from hE2.symm)
  rw [← hE2] at hS2 hz2 HB2
  clear hE1 hE2
  have HA := Lib.hid (clean_end (l := s.toList) (a := S2.toList) (by rintro (e | e); exact h1 e; exact h2 e) hS2.symm)
  by_cases h3 : S2.toList = []
  · rw [HA.out, if_pos (Or.inl h3)]
    obtain rfl : S2 = ⟨#[]⟩ := empty_tx h3
    have HF := Lib.hid (Fr.refl (fun _ => False) w)
    clear HA h1 h2 hS1 hS2 hz1 hz2 hs h3 HT
    go_enter Tryz.func50, Tryz.ntmps50
    go_wp2_with (first
      | (go_at_call 72; refine HB1.out.mono ?_; rintro e w' ⟨rfl, rfl⟩)
      | (go_at_call 71; refine HB2.out.mono ?_; rintro e w' ⟨rfl, rfl⟩))
    go_ret2
    exact ⟨rfl, HF.out⟩
  have h3' := isE h3
  have HC := Lib.hid (pcheck w S2 (by unfold maxLen; omega))
  cases hk : okT S2.toList with
  | false =>
    rw [HA.out, if_pos (Or.inr hk)]
    rw [checkZ_no hk] at HC
    clear HA h1 h2 hS1 hS2 hz1 hz2 hs h3 HT hk
    go_enter Tryz.func50, Tryz.ntmps50
    go_wp2_with (first
      | (go_at_call 72; refine HB1.out.mono ?_; rintro e w' ⟨rfl, rfl⟩)
      | (go_at_call 71; refine HB2.out.mono ?_; rintro e w' ⟨rfl, rfl⟩)
      | (go_at_call 6; refine HC.out.mono ?_; rintro e w' ⟨rfl, hF⟩; have HF := Lib.hid hF; clear hF))
    go_ret2
    exact ⟨rfl, HF.out⟩
  | true =>
    rw [HA.out, if_neg (by rintro (e | e); exact h3 e; rw [hk] at e; cases e)]
    have HT2 := Lib.hid (tx_of S2)
    rw [checkZ_ok hk] at HC
    clear HA h1 h2 hS1 hS2 hz1 hz2 hs h3 HT hk
    go_enter Tryz.func50, Tryz.ntmps50
    go_wp2_with (first
      | (go_at_call 72; refine HB1.out.mono ?_; rintro e w' ⟨rfl, rfl⟩)
      | (go_at_call 71; refine HB2.out.mono ?_; rintro e w' ⟨rfl, rfl⟩)
      | (go_at_call 6; refine HC.out.mono ?_; rintro e w' ⟨rfl, hF⟩; have HF := Lib.hid hF; clear hF))
    go_ret2
    exact ⟨by rw [HT2.out]; rfl, HF.out⟩
end Go.Proofs.YtgimiggffpokpaaGreatDoor.pt
