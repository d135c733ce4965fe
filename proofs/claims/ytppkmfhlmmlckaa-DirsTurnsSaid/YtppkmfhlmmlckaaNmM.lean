/-
  What is added is found and is taken away; what a directory stays (mathematics).
-/
import Derived.Test.YtppkmfhlmmlckaaNmG
namespace Go.Proofs.Ytppkmfhlmmlckaa.nm
set_option maxRecDepth 100000
open Go.RowKit Go.Maps
set_option maxRecDepth 100000

theorem firstI_app : ∀ (a b : List Nm) (s : ByteArray), NoTo a s a.length → firstI (a ++ b) s = a.length + firstI b s
  | [], b, s, _ => by simp
  | x :: r, b, s, h => by
    rw [List.cons_append, firstI, if_neg (h 0 x (by simp) rfl), firstI_app r b s (NoTo.tail (by simpa using h)), List.length_cons]
    omega
theorem look_find : ∀ (l : List Nm) (s : ByteArray), l[firstI l s]? = l.find? (fun x => decide (x.1 = s))
  | [], _ => rfl
  | x :: r, s => by
    rw [firstI, List.find?_cons]
    by_cases h : x.1 = s
    · rw [if_pos h, decide_eq_true h]
      rfl
    · rw [if_neg h, decide_eq_false h, List.getElem?_cons_succ]
      exact look_find r s
/-- What Add asks for. -/
theorem addZ_ok {l : List Nm} {s : ByteArray} {n : Int} (h : addZ l s n = 0) : nmB s = true ∧ inB n = true ∧ NoTo l s l.length ∧ l.length < 256 := by
  unfold addZ at h
  by_cases h1 : (lookR l s).2 = 71
  · rw [if_pos h1] at h; cases h
  rw [if_neg h1] at h
  by_cases h2 : inB n = false
  · rw [if_pos h2] at h; cases h
  rw [if_neg h2] at h
  by_cases h3 : (lookR l s).2 = 0
  · rw [if_pos h3] at h; cases h
  rw [if_neg h3] at h
  by_cases h4 : 256 ≤ l.length
  · rw [if_pos h4] at h; cases h
  have hn : nmB s = true := by
    cases e : nmB s
    · exact absurd (by rw [lookR_no e]) h1
    · rfl
  refine ⟨hn, by simpa using h2, ?_, by omega⟩
  have hno := firstI_no l s
  have hle := firstI_le l s
  by_cases hk : firstI l s = l.length
  · rwa [hk] at hno
  · obtain ⟨x, hx⟩ : ∃ x, l[firstI l s]? = some x := ⟨_, List.getElem?_eq_getElem (by omega)⟩
    exact absurd (by unfold lookR; rw [if_pos hn, hx]) h3
theorem NoTo.take {l : List Nm} {s : ByteArray} (h : NoTo l s l.length) (k : Nat) : NoTo (l.take k) s (l.take k).length := fun j x hj hx => by
  rw [List.getElem?_take] at hx
  split at hx
  · exact h j x (List.getElem?_eq_some_iff.1 hx).1 hx
  · cases hx
theorem firstG_le : ∀ (l : List Nm) (s : ByteArray), firstG l s ≤ l.length
  | [], _ => Nat.le_refl _
  | y :: r, s => by
    rw [firstG, List.length_cons]
    split
    · have := firstG_le r s; omega
    · omega
theorem insL_length (l : List Nm) (s : ByteArray) (n : Int) : (insL l s n).length = l.length + 1 := by
  unfold insL
  rw [List.length_append, List.length_append, List.length_take, List.length_drop]
  have := firstG_le l s
  simp
  omega
theorem firstI_ins {l : List Nm} {s : ByteArray} {n : Int} (h : NoTo l s l.length) : firstI (insL l s n) s = firstG l s := by
  unfold insL
  rw [List.append_assoc, firstI_app _ _ _ (h.take _), List.singleton_append, firstI, if_pos rfl, List.length_take]
  have := firstG_le l s
  omega
theorem ins_get {l : List Nm} {s : ByteArray} {n : Int} : (insL l s n)[firstG l s]? = some (s, n) := by
  have hg := firstG_le l s
  unfold insL
  rw [List.append_assoc, List.getElem?_append_right (by rw [List.length_take]; omega), List.length_take]
  rw [show firstG l s - min (firstG l s) l.length = 0 by omega]
  rfl
/-- 7.4: what was added is found. -/
theorem look_ins {l : List Nm} {s : ByteArray} {n : Int} (h : addZ l s n = 0) : lookR (insL l s n) s = (n, 0) := by
  obtain ⟨h1, _, h3, _⟩ := addZ_ok h
  unfold lookR
  rw [if_pos h1, firstI_ins h3, ins_get]
/-- Others stay. -/
theorem look_other {l : List Nm} {s o : ByteArray} {n : Int} (ho : o ≠ s) : lookR (insL l s n) o = lookR l o := by
  unfold lookR
  rw [look_find, look_find]
  have e : (insL l s n).find? (fun x => decide (x.1 = o)) = l.find? (fun x => decide (x.1 = o)) := by
    unfold insL
    rw [List.find?_append, List.find?_append]
    have e1 : ([(s, n)] : List Nm).find? (fun x => decide (x.1 = o)) = none := by
      rw [List.find?_cons, decide_eq_false (fun e => ho e.symm)]
      rfl
    rw [e1, Option.or_none, ← List.find?_append, List.take_append_drop]
  rw [e]
/-- Removed again all is as it was. -/
theorem rm_ins {l : List Nm} {s : ByteArray} {n : Int} (h : addZ l s n = 0) : rmL (insL l s n) s = l := by
  obtain ⟨_, _, h3, _⟩ := addZ_ok h
  have hg := firstG_le l s
  unfold rmL
  rw [firstI_ins h3]
  unfold insL
  have hk : (l.take (firstG l s)).length = firstG l s := by rw [List.length_take]; omega
  rw [List.append_assoc, List.take_append_of_le_length (by omega), List.take_take, Nat.min_self, List.drop_append, hk]
  rw [List.drop_of_length_le (by omega), show firstG l s + 1 - firstG l s = 1 by omega]
  simp

/-! ### directories -/
theorem ok_pair {l : List Nm} (h : OkTo l l.length) : (∀ x ∈ l, itB x = true) ∧ l.Pairwise (fun a b => ltN a b = true) := by
  have hit : ∀ i x, l[i]? = some x → itB x = true := fun i x hx => (h i x (List.getElem?_eq_some_iff.1 hx).1 hx).1
  refine ⟨fun x hx => ?_, ?_⟩
  · obtain ⟨i, hi⟩ := List.mem_iff_getElem?.1 hx
    exact hit i x hi
  · have key : ∀ d i x y, l[i]? = some x → l[i + d + 1]? = some y → ltN x y = true := by
      intro d
      induction d with
      | zero => exact fun i x y hx hy => (h (i + 1) y (List.getElem?_eq_some_iff.1 hy).1 hy).2 i x rfl hx
      | succ d ih =>
        intro i x y hx hy
        have hy' := (List.getElem?_eq_some_iff.1 hy).1
        obtain ⟨z, hz⟩ : ∃ z, l[i + d + 1]? = some z := ⟨_, List.getElem?_eq_getElem (by omega)⟩
        exact less_trans _ _ _ (ih i x z hx hz) ((h (i + (d + 1) + 1) y hy' hy).2 (i + d + 1) z (by omega) hz)
    rw [List.pairwise_iff_getElem]
    intro i j hi hj hij
    have := key (j - i - 1) i l[i] l[j] (List.getElem?_eq_getElem hi) (by rw [show i + (j - i - 1) + 1 = j by omega]; exact List.getElem?_eq_getElem hj)
    exact this
theorem pair_ok {l : List Nm} (h1 : ∀ x ∈ l, itB x = true) (h2 : l.Pairwise (fun a b => ltN a b = true)) : OkTo l l.length := fun i x hi hx => by
  refine ⟨h1 x (List.mem_of_getElem? hx), fun j y hj hy => ?_⟩
  obtain ⟨p1, p2⟩ := List.getElem?_eq_some_iff.1 hx
  obtain ⟨q1, q2⟩ := List.getElem?_eq_some_iff.1 hy
  have := List.pairwise_iff_getElem.1 h2 j i q1 p1 (by omega)
  rwa [p2, q2] at this
theorem right_iff (l : List Nm) : RightN l ↔ (∀ x ∈ l, itB x = true) ∧ l.Pairwise (fun a b => ltN a b = true) ∧ l.length ≤ 256 :=
  ⟨fun h => ⟨(ok_pair h.1).1, (ok_pair h.1).2, h.2⟩, fun h => ⟨pair_ok h.1 h.2.1, h.2.2⟩⟩
theorem firstG_before : ∀ (l : List Nm) (s : ByteArray), ∀ x ∈ l.take (firstG l s), leS x.1 s = true
  | [], _, x, h => by simp [firstG] at h
  | y :: r, s, x, h => by
    rw [firstG] at h
    by_cases e : leS y.1 s = true
    · rw [if_pos e, List.take_succ_cons] at h
      rcases List.mem_cons.1 h with rfl | h
      · exact e
      · exact firstG_before r s x h
    · rw [if_neg e] at h
      cases h
theorem firstG_behind : ∀ (l : List Nm) (s : ByteArray), l.Pairwise (fun a b => ltN a b = true) → ∀ x ∈ l.drop (firstG l s), Op.bytesLess s.toList x.1.toList = true
  | [], _, _, x, h => by simp at h
  | y :: r, s, hp, x, h => by
    obtain ⟨h1, h2⟩ := List.pairwise_cons.1 hp
    rw [firstG] at h
    by_cases e : leS y.1 s = true
    · rw [if_pos e, List.drop_succ_cons] at h
      exact firstG_behind r s h2 x h
    · rw [if_neg e, List.drop_zero] at h
      have e2 : leS y.1 s = false := by simpa using e
      unfold leS at e2
      obtain ⟨a1, a2⟩ := Bool.or_eq_false_iff.1 e2
      have hy := less_total y.1.toList s.toList (by simpa using a2) a1
      rcases List.mem_cons.1 h with rfl | h
      · exact hy
      · exact less_trans _ _ _ hy (h1 x h)
/-- 7.5: Add makes a directory of one. -/
theorem right_ins {l : List Nm} {s : ByteArray} {n : Int} (hr : RightN l) (h : addZ l s n = 0) : RightN (insL l s n) := by
  obtain ⟨h1, h2, h3, h4⟩ := addZ_ok h
  obtain ⟨r1, r2, _⟩ := (right_iff l).1 hr
  rw [right_iff]
  refine ⟨fun x hx => ?_, ?_, by rw [insL_length]; omega⟩
  · unfold insL at hx
    rcases List.mem_append.1 hx with hx | hx
    · rcases List.mem_append.1 hx with hx | hx
      · exact r1 x (List.mem_of_mem_take hx)
      · obtain rfl := List.mem_singleton.1 hx
        unfold itB
        rw [h1, h2]
        rfl
    · exact r1 x (List.mem_of_mem_drop hx)
  · unfold insL
    have hb := firstG_behind l s r2
    have ha : ∀ x ∈ l.take (firstG l s), Op.bytesLess x.1.toList s.toList = true := fun x hx => by
      have h5 := firstG_before l s x hx
      unfold leS at h5
      rcases Bool.or_eq_true_iff.1 h5 with h5 | h5
      · exact h5
      · obtain ⟨i, hi⟩ := List.mem_iff_getElem?.1 (List.mem_of_mem_take hx)
        exact absurd (toL_inj (by simpa using h5)) (h3 i x (List.getElem?_eq_some_iff.1 hi).1 hi)
    rw [List.pairwise_append]
    refine ⟨?_, r2.sublist (List.drop_sublist _ _), fun x hx y hy => ?_⟩
    · rw [List.pairwise_append]
      refine ⟨r2.sublist (List.take_sublist _ _), by simp, fun x hx y hy => ?_⟩
      obtain rfl := List.mem_singleton.1 hy
      exact ha x hx
    · rcases List.mem_append.1 hx with hx | hx
      · exact less_trans _ _ _ (ha x hx) (hb y hy)
      · obtain rfl := List.mem_singleton.1 hx
        exact hb y hy
theorem look_ok {l : List Nm} {s : ByteArray} (h : (lookR l s).2 = 0) : nmB s = true ∧ firstI l s < l.length := by
  cases e : nmB s
  · rw [lookR_no e] at h; cases h
  refine ⟨rfl, ?_⟩
  have hle := firstI_le l s
  by_cases hk : firstI l s = l.length
  · have hn := firstI_no l s
    rw [hk] at hn
    rw [lookR_none e hn] at h
    cases h
  · omega
theorem rmL_length {l : List Nm} {s : ByteArray} (h : firstI l s < l.length) : (rmL l s).length + 1 = l.length := by
  unfold rmL
  rw [List.length_append, List.length_take, List.length_drop]
  omega
/-- .. and so does Remove. -/
theorem right_rm {l : List Nm} {s : ByteArray} (hr : RightN l) : RightN (rmL l s) := by
  obtain ⟨r1, r2, r3⟩ := (right_iff l).1 hr
  have hs : (rmL l s).Sublist l := by
    unfold rmL
    have h := (List.Sublist.refl (l.take (firstI l s))).append (List.drop_sublist_drop_left l (Nat.le_succ (firstI l s)))
    rwa [List.take_append_drop] at h
  rw [right_iff]
  exact ⟨fun x hx => r1 x (hs.subset hx), r2.sublist hs, Nat.le_trans hs.length_le r3⟩
end Go.Proofs.Ytppkmfhlmmlckaa.nm
