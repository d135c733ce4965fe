/-
  The document's Clean.
-/
import Derived.Test.YtommhikkbbmgmaaPtC
namespace Go.Proofs.Ytommhikkbbmgmaa.pt
set_option maxRecDepth 100000
open Go.RowKit Go.Maps
set_option maxRecDepth 100000

theorem dot_yes {l : Tx} (h : beginsB l [46, 47] = true) : dotL l = l.drop 2 ∧ 2 ≤ l.length := by
  unfold beginsB at h
  simp only [Bool.and_eq_true, decide_eq_true_eq] at h
  have h2 := h.1
  simp at h2
  refine ⟨?_, h2⟩
  unfold dotL
  rw [if_pos]
  rw [List.isPrefixOf_iff_prefix]
  exact ⟨l.drop 2, by conv => rhs; rw [← List.take_append_drop 2 l]
                      exact congrArg (· ++ l.drop 2) h.2.symm⟩
theorem dot_no {l : Tx} (h : beginsB l [46, 47] = false) : dotL l = l := by
  unfold dotL
  by_cases e : [46, 47].isPrefixOf l = true
  · exfalso
    obtain ⟨t, rfl⟩ := List.isPrefixOf_iff_prefix.1 e
    revert h
    unfold beginsB
    simp
  · rw [if_neg e]
theorem end_yes {l : Tx} (h : endsB l [47] = true) : endL l = l.take (l.length - 1) ∧ 1 ≤ l.length := by
  unfold endsB at h
  simp only [Bool.and_eq_true, decide_eq_true_eq] at h
  have h2 := h.1
  simp at h2
  refine ⟨?_, by omega⟩
  have e : l = l.take (l.length - 1) ++ [47] := by
    conv => lhs; rw [← List.take_append_drop (l.length - 1) l]
    exact congrArg (l.take (l.length - 1) ++ ·) h.2
  unfold endL
  rw [if_pos (by rw [e]; simp), List.dropLast_eq_take]
theorem end_no {l : Tx} (h : endsB l [47] = false) : endL l = l := by
  unfold endL
  by_cases e : l.getLast? = some 47
  · exfalso
    obtain ⟨ys, rfl⟩ := List.getLast?_eq_some_iff.1 e
    revert h
    unfold endsB
    simp
  · rw [if_neg e]
theorem clean_dot {l : Tx} (h : l = [46] ∨ l = [46, 47]) : cleanL l = ([], 0) := if_pos h
theorem clean_end {l a : Tx} (h : ¬ (l = [46] ∨ l = [46, 47])) (ha : endL (dotL l) = a) : cleanL l = if a = [] ∨ okT a = false then ([], 140) else (a, 0) := by unfold cleanL; rw [if_neg h, ha]
/-- What Clean answers. -/
def AnsC (w : World) (r : Tx × Int) (e : Ending) (w' : World) : Prop := e = .returned (.tuple #[.string (tx r.1), .int .i64 r.2]) ∧ Fr (fun _ => False) w w'
end Go.Proofs.Ytommhikkbbmgmaa.pt
