/-
  Plain mathematics: what the runs sum up to.
-/
import Derived.Test.YtmfilcdljfpnfaaBitsR
namespace Go.Proofs.Ytmfilcdljfpnfaa
open Go Go.RowKit

def sumTo (R : List Int) : Nat → Int
  | 0 => 0
  | j + 1 => sumTo R j + R.getD j 0
def oddTo (R : List Int) : Nat → Int
  | 0 => 0
  | j + 1 => if j % 2 = 1 then oddTo R j + R.getD j 0 else oddTo R j
theorem sumTo_congr (R R' : List Int) (j : Nat) (h : ∀ i, i < j → R.getD i 0 = R'.getD i 0) : sumTo R j = sumTo R' j := by
  induction j with
  | zero => rfl
  | succ j ih => rw [sumTo, sumTo, ih (fun i hi => h i (by omega)), h j (by omega)]
theorem oddTo_congr (R R' : List Int) (j : Nat) (h : ∀ i, i < j → R.getD i 0 = R'.getD i 0) : oddTo R j = oddTo R' j := by
  induction j with
  | zero => rfl
  | succ j ih => rw [oddTo, oddTo, ih (fun i hi => h i (by omega)), h j (by omega)]
theorem sumTo_mono (R : List Int) (h : ∀ x ∈ R, 0 ≤ x) (j d : Nat) : 0 ≤ sumTo R j ∧ sumTo R j ≤ sumTo R (j + d) := by
  have hg : ∀ i, 0 ≤ R.getD i 0 := by
    intro i
    by_cases hi : i < R.length
    · rw [List.getD_eq_getElem?_getD, List.getElem?_eq_getElem hi, Option.getD_some]; exact h _ (List.getElem_mem hi)
    · rw [List.getD_eq_getElem?_getD, List.getElem?_eq_none (by omega), Option.getD_none]; exact Int.le_refl _
  have h1 : ∀ j, 0 ≤ sumTo R j := by
    intro j
    induction j with
    | zero => exact Int.le_refl _
    | succ j ih => have := hg j; rw [sumTo]; omega
  refine ⟨h1 j, ?_⟩
  induction d with
  | zero => exact Int.le_refl _
  | succ d ih => have := hg (j + d); rw [← Nat.add_assoc, sumTo]; omega
theorem oddTo_in (R : List Int) (h : ∀ x ∈ R, 0 ≤ x) (j : Nat) : 0 ≤ oddTo R j ∧ oddTo R j ≤ sumTo R j := by
  have hg : ∀ i, 0 ≤ R.getD i 0 := by
    intro i
    by_cases hi : i < R.length
    · rw [List.getD_eq_getElem?_getD, List.getElem?_eq_getElem hi, Option.getD_some]; exact h _ (List.getElem_mem hi)
    · rw [List.getD_eq_getElem?_getD, List.getElem?_eq_none (by omega), Option.getD_none]; exact Int.le_refl _
  induction j with
  | zero => exact ⟨Int.le_refl _, Int.le_refl _⟩
  | succ j ih =>
    have := hg j
    rw [oddTo, sumTo]
    split <;> omega

theorem getD_set_ne (R : List Int) (i j : Nat) (v : Int) (h : j ≠ i) : (R.set i v).getD j 0 = R.getD j 0 := by
  rw [List.getD_eq_getElem?_getD, List.getElem?_set_ne (fun e => h e.symm), ← List.getD_eq_getElem?_getD]
theorem getD_set_same (R : List Int) (i : Nat) (v : Int) (h : i < R.length) : (R.set i v).getD i 0 = v := by
  rw [List.getD_eq_getElem?_getD, List.getElem?_set_self h, Option.getD_some]
theorem getD_append (R : List Int) (v : Int) (j : Nat) (h : j < R.length) : (R ++ [v]).getD j 0 = R.getD j 0 := by
  rw [List.getD_eq_getElem?_getD, List.getElem?_append_left h, ← List.getD_eq_getElem?_getD]
theorem getD_last (R : List Int) (v : Int) : (R ++ [v]).getD R.length 0 = v := by
  rw [List.getD_eq_getElem?_getD, List.getElem?_append_right (Nat.le_refl _)]
  simp

/-- The last run gets one more. -/
theorem bump_sums (R : List Int) {K : Nat} (hK : R.length = K + 1) : sumTo (bump R) (K + 1) = sumTo R (K + 1) + 1 ∧ oddTo (bump R) (K + 1) = oddTo R (K + 1) + (if K % 2 = 1 then 1 else 0) ∧ (bump R).getD K 0 = R.getD K 0 + 1 ∧ ∀ j, j ≠ K → (bump R).getD j 0 = R.getD j 0 := by
  have hb : bump R = R.set K (R.getD K 0 + 1) := by unfold bump; rw [hK]; rfl
  rw [hb]
  have h1 := getD_set_same R K (R.getD K 0 + 1) (by omega)
  have h2 : ∀ j, j ≠ K → (R.set K (R.getD K 0 + 1)).getD j 0 = R.getD j 0 := fun j hj => getD_set_ne R K j _ hj
  have h3 := sumTo_congr (R.set K (R.getD K 0 + 1)) R K (fun i hi => h2 i (by omega))
  have h4 := oddTo_congr (R.set K (R.getD K 0 + 1)) R K (fun i hi => h2 i (by omega))
  refine ⟨?_, ?_, h1, h2⟩
  · rw [sumTo, sumTo, h3, h1]; omega
  · rw [oddTo, oddTo, h4, h1]
    split <;> omega

/-- What is so of the runs of k bits. -/
def RunsOk (l : List UInt8) (k : Nat) (R : List Int) : Prop := ∃ K, R.length = K + 1 ∧ sumTo R (K + 1) = k ∧ oddTo R (K + 1) = (cnt l k : Int) ∧ ∀ j, 0 < j → j < K + 1 → 1 ≤ R.getD j 0
theorem runs_ok (l : List UInt8) (k : Nat) : RunsOk l k (runsTo l k) := by
  induction k with
  | zero => exact ⟨0, rfl, rfl, rfl, fun j h1 h2 => by omega⟩
  | succ k ih =>
    obtain ⟨K, hK, hs, ho, h1⟩ := ih
    rw [runsTo]
    unfold grow
    rw [hK]
    have hc : cnt l (k + 1) = cnt l k + (bitB l k).toNat := rfl
    by_cases hb : bitB l k = decide ((K + 1) % 2 = 1)
    · rw [if_pos hb]
      have hL : (runsTo l k ++ [0]).length = (K + 1) + 1 := by rw [List.length_append, hK]; rfl
      obtain ⟨b1, b2, b3, b4⟩ := bump_sums (runsTo l k ++ [0]) hL
      have e0 : (runsTo l k ++ [0]).getD (K + 1) 0 = 0 := by rw [← hK]; exact getD_last _ _
      have e1 := sumTo_congr (runsTo l k ++ [0]) (runsTo l k) (K + 1) (fun i hi => getD_append _ _ _ (by omega))
      have e2 := oddTo_congr (runsTo l k ++ [0]) (runsTo l k) (K + 1) (fun i hi => getD_append _ _ _ (by omega))
      refine ⟨K + 1, by rw [bump_length, hL], ?_, ?_, fun j hj1 hj2 => ?_⟩
      · rw [b1, sumTo, e0, e1, hs]; omega
      · rw [b2, oddTo, e0, e2, ho, hc, hb]
        by_cases hp : (K + 1) % 2 = 1
        · rw [if_pos hp, if_pos hp, decide_eq_true hp]; simp
        · rw [if_neg hp, if_neg hp, decide_eq_false hp]; simp
      · by_cases hj : j = K + 1
        · subst hj; rw [b3, e0]; omega
        · rw [b4 j hj, getD_append _ _ _ (by omega)]; exact h1 j hj1 (by omega)
    · rw [if_neg hb]
      obtain ⟨b1, b2, b3, b4⟩ := bump_sums (runsTo l k) hK
      refine ⟨K, by rw [bump_length, hK], ?_, ?_, fun j hj1 hj2 => ?_⟩
      · rw [b1, hs]; omega
      · rw [b2, ho, hc]
        have hbb : bitB l k = decide (K % 2 = 1) := by
          cases hx : bitB l k
          · rw [hx] at hb
            have : (K + 1) % 2 = 1 := by
              apply Decidable.byContradiction
              intro hn
              exact hb (decide_eq_false hn).symm
            exact (decide_eq_false (by omega)).symm
          · rw [hx] at hb
            have : ¬ (K + 1) % 2 = 1 := fun hn => hb (decide_eq_true hn).symm
            exact (decide_eq_true (by omega)).symm
        rw [hbb]
        by_cases hp : K % 2 = 1
        · rw [if_pos hp, decide_eq_true hp]; simp
        · rw [if_neg hp, decide_eq_false hp]; simp
      · by_cases hj : j = K
        · subst hj; rw [b3]; have := h1 j hj1 hj2; omega
        · rw [b4 j hj]; exact h1 j hj1 hj2
/-- .. as a loop over what Runs told meets it. -/
theorem runsOf_ok (l : List UInt8) (S : Nat) : sumTo (runsOf l S) (runsOf l S).length = S ∧ oddTo (runsOf l S) (runsOf l S).length = (cnt l S : Int) ∧ (∀ j, 0 < j → j < (runsOf l S).length → 1 ≤ (runsOf l S).getD j 0) ∧ ∀ x ∈ runsOf l S, 0 ≤ x := by
  by_cases h : S = 0
  · subst h
    exact ⟨rfl, rfl, fun j h1 h2 => by rw [runsOf_zero] at h2; simp at h2, fun x hx => by rw [runsOf_zero] at hx; cases hx⟩
  · rw [runsOf_pos l h]
    obtain ⟨K, hK, h1, h2, h3⟩ := runs_ok l S
    rw [hK]
    exact ⟨h1, h2, h3, fun x hx => (runs_in l S x hx).1⟩
end Go.Proofs.Ytmfilcdljfpnfaa
