/-
  The document's Parent, Base, Join, Under.
-/
import Derived.Test.YtldlonkaedjdpaaPtD
namespace Go.Proofs.Ytldlonkaedjdpaa.pt
set_option maxRecDepth 100000
open Go.RowKit Go.Maps
set_option maxRecDepth 100000

/-- Where the last / stands. -/
def CutZ (l : Tx) (z : Int) : Prop := (z = -1 ∧ (47 : UInt8) ∉ l) ∨ ∃ i : Nat, z = i ∧ l[i]? = some 47 ∧ (47 : UInt8) ∉ l.drop (i + 1)
theorem cut_parts {l : Tx} {i : Nat} (h : l[i]? = some 47) (hn : (47 : UInt8) ∉ l.drop (i + 1)) : parentL l = l.take i ∧ baseL l = l.drop (i + 1) := by
  have hi := (List.getElem?_eq_some_iff.1 h).1
  have e : l = l.take i ++ 47 :: l.drop (i + 1) := by
    conv => lhs; rw [← List.take_append_drop i l, List.drop_eq_getElem_cons hi, (List.getElem?_eq_some_iff.1 h).2]
  have := parent_at (l.take i) hn
  rwa [← e] at this
set_option maxHeartbeats 4000000 in
theorem rcut (w : World) (s : ByteArray) (hs : s.size ≤ maxLen) : Calls Try.prog 40 #[.string s] w fun e w' => (∃ z, e = .returned (.int .i64 z) ∧ CutZ s.toList z) ∧ w = w' := by
  unfold maxLen at hs
  go_enter Try.func40, Try.ntmps40
  go_wp2_with fail
  go_loop [3] (fun v => ∃ (j : Nat) (z : Int), j ≤ s.size ∧ z ≤ (j : Int) - 1 ∧ (j : Int) - 1 ≤ z ∧ v = .int .i64 z ∧ Hid ((47 : UInt8) ∉ s.toList.drop j)) (fun v => (intOf v + 1).toNat)
  case atStart => exact ⟨s.size, (s.size : Int) - 1, Nat.le_refl _, by omega, by omega, rfl, (show (47 : UInt8) ∉ s.toList.drop s.size by rw [List.drop_of_length_le (by rw [toL_len]; exact Nat.le_refl _)]; simp)⟩
  case round =>
    obtain ⟨j, z, hj, hz1, hz2, rfl, HK⟩ := hrel
    by_cases hlt : 0 < j
    · obtain ⟨m, rfl⟩ : ∃ m, j = m + 1 := ⟨j - 1, by omega⟩
      obtain rfl : z = (m : Int) := by omega
      have hm : m < s.size := by omega
      have hx := toL_get s m hm
      by_cases hq : s[m] = 47
      · have hsi : (s[m].toNat : Int) = 47 := by rw [hq]; rfl
        have HE := Lib.hid (show CutZ s.toList (m : Int) from Or.inr ⟨m, rfl, by rw [hx, hq], HK.out⟩)
        clear hx hq hz1 hz2 hlt hj
        go_wp2_with fail
        go_ret
        exact ⟨⟨_, rfl, HE.out⟩, rfl⟩
      · have hsi : ((s[m].toNat : Int) == 47) = false := by
          rw [beq_eq_false_iff_ne]
          intro e
          exact hq (UInt8.toNat_inj.1 (by show s[m].toNat = 47; omega))
        have HE := Lib.hid (show (47 : UInt8) ∉ s.toList.drop m by
          have hl : m < s.toList.length := by rw [toL_len]; exact hm
          rw [List.drop_eq_getElem_cons hl]
          intro hc
          rcases List.mem_cons.1 hc with e | hc
          · have := List.getElem?_eq_getElem hl
            rw [hx] at this
            exact hq ((Option.some.inj this).trans e.symm)
          · exact HK.out hc)
        clear hx hq hz1 hz2 hlt
        go_wp2_with fail
        go_round
        case rel => exact ⟨m, (m : Int) - 1, by omega, by omega, by omega, rfl, HE⟩
        case measure => simp [intOf]
    · obtain rfl : j = 0 := by omega
      obtain rfl : z = -1 := by omega
      have HE := Lib.hid (show CutZ s.toList (-1) from Or.inl ⟨rfl, HK.out⟩)
      go_wp2_with fail
      go_ret
      exact ⟨⟨_, rfl, HE.out⟩, rfl⟩
theorem tx_app (a b : ByteArray) : a ++ b = tx (a.toList ++ b.toList) := by
  rw [toL, toL]
  apply ByteArray.ext
  simp
theorem app_47 (t : ByteArray) : (t ++ (⟨#[47]⟩ : ByteArray)).toList = t.toList ++ [47] := by
  rw [tx_app]
  refine (tx_toL _).trans ?_
  rw [show (⟨#[47]⟩ : ByteArray).toList = [47] from tx_toL [47]]
theorem CutZ.parent {l : Tx} {z : Int} (h : CutZ l z) : (z = -1 ∧ parentL l = [] ∧ baseL l = l) ∨ ∃ i : Nat, z = i ∧ i < l.length ∧ parentL l = l.take i ∧ baseL l = l.drop (i + 1) := by
  rcases h with ⟨h1, h2⟩ | ⟨i, h1, h2, h3⟩
  · exact Or.inl ⟨h1, parent_none h2⟩
  · exact Or.inr ⟨i, h1, (List.getElem?_eq_some_iff.1 h2).1, cut_parts h2 h3⟩
set_option maxHeartbeats 4000000 in
theorem rparent (w : World) (s : ByteArray) (hs : s.size ≤ maxLen) : Calls Try.prog 18 #[.string s] w fun e w' => e = .returned (.string (tx (parentL s.toList))) ∧ w = w' := by
  have HC := Lib.hid (rcut w s hs)
  have HL := Lib.hid (toL_len s)
  unfold maxLen at hs
  obtain ⟨X, hX⟩ : ∃ X, X = tx (parentL s.toList) := ⟨_, rfl⟩
  have HX := Lib.hid hX
  rw [← hX]
  clear hX
  go_enter Try.func18, Try.ntmps18
  go_wp2_with fail
  refine HC.out.mono ?_
  rintro e w' ⟨⟨z, rfl, hc⟩, rfl⟩
  rcases hc.parent with ⟨rfl, hp, -⟩ | ⟨i, rfl, hi, hp, -⟩
  · have HP := Lib.hid hp
    clear hc hp
    go_wp2_with fail
    go_ret
    exact ⟨by rw [HX.out, HP.out]; rfl, rfl⟩
  · have HP := Lib.hid hp
    have hi2 : i < s.size := by rw [← HL.out]; exact hi
    have HE := Lib.hid (show s.extract 0 i = tx (s.toList.take i) by rw [tx_ext]; simp)
    clear hc hp hi
    rcases Nat.eq_zero_or_pos i with h0 | h0
    · subst h0
      go_wp2_with fail
      go_ret
      exact ⟨by rw [HX.out, HP.out, List.take_zero]; rfl, rfl⟩
    · go_wp2_with fail
      go_ret
      exact ⟨by rw [HX.out, HP.out, ← HE.out]; rfl, rfl⟩
set_option maxHeartbeats 4000000 in
theorem rbase (w : World) (s : ByteArray) (hs : s.size ≤ maxLen) : Calls Try.prog 20 #[.string s] w fun e w' => e = .returned (.string (tx (baseL s.toList))) ∧ w = w' := by
  have HC := Lib.hid (rcut w s hs)
  have HL := Lib.hid (toL_len s)
  unfold maxLen at hs
  obtain ⟨X, hX⟩ : ∃ X, X = tx (baseL s.toList) := ⟨_, rfl⟩
  have HX := Lib.hid hX
  rw [← hX]
  clear hX
  go_enter Try.func20, Try.ntmps20
  go_wp2_with fail
  refine HC.out.mono ?_
  rintro e w' ⟨⟨z, rfl, hc⟩, rfl⟩
  rcases hc.parent with ⟨rfl, -, hp⟩ | ⟨i, rfl, hi, -, hp⟩
  · have HP := Lib.hid hp
    have HE := Lib.hid (tx_of s)
    clear hc hp
    go_wp2_with fail
    go_ret
    exact ⟨by rw [HX.out, HP.out, HE.out]; rfl, rfl⟩
  · have HP := Lib.hid hp
    have hi2 : i < s.size := by rw [← HL.out]; exact hi
    have hi3 : i + 1 ≤ s.size := hi2
    have HE := Lib.hid (show s.extract (i + 1) s.size = tx (s.toList.drop (i + 1)) by rw [tx_ext, List.take_of_length_le (by rw [List.length_drop, toL_len]; exact Nat.le_refl _)])
    clear hc hp hi
    go_wp2_with fail
    go_ret
    exact ⟨by rw [HX.out, HP.out, ← HE.out]; rfl, rfl⟩
set_option maxHeartbeats 4000000 in
theorem rjoin (w : World) (s t : ByteArray) (hs0 : s.size + t.size + 1 ≤ maxLen) : Calls Try.prog 22 #[.string s, .string t] w fun e w' => e = .returned (.string (tx (joinT s.toList t.toList))) ∧ w = w' := by
  have hs : s.size + t.size + 1 ≤ 9223372036854775807 := hs0
  clear hs0
  by_cases h1 : s.toList = []
  · have HV := Lib.hid (show joinT s.toList t.toList = t.toList by unfold joinT; rw [if_pos h1])
    rw [HV.out]
    have HT := Lib.hid (tx_of t)
    go_enter Try.func22, Try.ntmps22
    go_wp2_with fail
    go_ret
    exact ⟨by rw [HT.out]; rfl, rfl⟩
  have h1' := isE h1
  by_cases h2 : t.toList = []
  · have HV := Lib.hid (show joinT s.toList t.toList = s.toList by unfold joinT; rw [if_neg h1, if_pos h2])
    rw [HV.out]
    have HT := Lib.hid (tx_of s)
    go_enter Try.func22, Try.ntmps22
    go_wp2_with fail
    go_ret
    exact ⟨by rw [HT.out]; rfl, rfl⟩
  have h2' := isE h2
  have HV := Lib.hid (show joinT s.toList t.toList = s.toList ++ 47 :: t.toList by unfold joinT; rw [if_neg h1, if_neg h2])
  rw [HV.out]
  go_enter Try.func22, Try.ntmps22
  go_wp2_with fail
  go_ret
  exact ⟨by rw [tx_app (s ++ _) t, app_47, List.append_assoc]; rfl, rfl⟩
set_option maxHeartbeats 4000000 in
theorem runder (w : World) (s t : ByteArray) (hs0 : t.size + 1 ≤ maxLen) : Calls Try.prog 24 #[.string s, .string t] w fun e w' => e = .returned (.bool (underT s.toList t.toList)) ∧ w = w' := by
  have hs : t.size + 1 ≤ 9223372036854775807 := hs0
  clear hs0
  by_cases h1 : t.toList = []
  · have HV := Lib.hid (show underT s.toList t.toList = true by unfold underT; rw [decide_eq_true h1]; rfl)
    rw [HV.out]
    go_enter Try.func24, Try.ntmps24
    go_wp2_with fail
    go_ret
    exact ⟨rfl, rfl⟩
  have h1' := isE h1
  by_cases h2 : s.toList = t.toList
  · have HV := Lib.hid (show underT s.toList t.toList = true by unfold underT; rw [decide_eq_true h2]; simp)
    rw [HV.out]
    clear h1
    go_enter Try.func24, Try.ntmps24
    go_wp2_with fail
    go_ret
    exact ⟨rfl, rfl⟩
  have h2' : (s.toList == t.toList) = false := beq_eq_false_iff_ne.2 h2
  have HB := Lib.hid (bbegins w s (t ++ ⟨#[47]⟩))
  have HV := Lib.hid (show underT s.toList t.toList = beginsB s.toList (t ++ (⟨#[47]⟩ : ByteArray)).toList by
    rw [app_47]
    unfold underT beginsB
    rw [decide_eq_false h1, decide_eq_false h2, Bool.false_or, Bool.false_or]
    generalize t.toList ++ [47] = d
    rw [Bool.eq_iff_iff]
    simp only [List.isPrefixOf_iff_prefix, Bool.and_eq_true, decide_eq_true_eq]
    exact ⟨fun h => ⟨h.length_le, (List.prefix_iff_eq_take.1 h).symm⟩, fun h => List.prefix_iff_eq_take.2 h.2.symm⟩)
  rw [HV.out]
  clear h1 h2
  go_enter Try.func24, Try.ntmps24
  go_wp2_with (go_at_call 30; refine HB.out.mono ?_; rintro e w' ⟨rfl, rfl⟩)
  go_ret
  exact ⟨rfl, rfl⟩
end Go.Proofs.Ytldlonkaedjdpaa.pt
