/-
  The program's All.
-/
import Derived.Test.YtgimiggffpokpaaGreatDoorPuC
namespace Go.Proofs.YtgimiggffpokpaaGreatDoor.pt
set_option maxRecDepth 100000
open Go.RowKit Go.Maps
set_option maxRecDepth 100000
attribute [local go_sem] Oper.semAt_some

theorem join_app {c : UInt8} {qs : List Tx} (h2 : qs ≠ []) : ∀ {ps : List Tx}, ps ≠ [] → joinB c (ps ++ qs) = joinB c ps ++ c :: joinB c qs
  | [], h => absurd rfl h
  | [a], _ => by rw [List.singleton_append, join_cons h2]; rfl
  | a :: b :: r, _ => by
    have ih := join_app (c := c) h2 (ps := b :: r) (by simp)
    rw [List.cons_append, join_cons (by simp), ih, join_cons (by simp : b :: r ≠ []), List.append_assoc]
    rfl
theorem up_facts {l : Tx} {k : Nat} (h : k < (splitB 47 l).length) : (upTo l k).length ≤ l.length ∧ l.take (upTo l k).length = upTo l k ∧ (pkB l k).length ≤ (upTo l k).length := by
  have hne : (splitB 47 l).take (k + 1) ≠ [] := by
    intro e
    have := congrArg List.length e
    rw [List.length_take, List.length_nil] at this
    omega
  have hp : (pkB l k).length ≤ (upTo l k).length := by
    unfold upTo
    rw [List.take_succ_eq_append_getElem h]
    have hk : pkB l k = (splitB 47 l)[k] := by unfold pkB; rw [List.getElem?_eq_getElem h]; rfl
    rw [← hk]
    by_cases e : (splitB 47 l).take k = []
    · rw [e]; exact Nat.le_refl _
    · rw [join_snoc e, List.length_append, List.length_cons]; omega
  by_cases hd : (splitB 47 l).drop (k + 1) = []
  · have e : (splitB 47 l).take (k + 1) = splitB 47 l := by
      have := List.take_append_drop (k + 1) (splitB 47 l)
      rwa [hd, List.append_nil] at this
    have e2 : upTo l k = l := by unfold upTo; rw [e, join_split]
    rw [e2] at hp ⊢
    exact ⟨Nat.le_refl _, List.take_length, hp⟩
  · have e : l = upTo l k ++ 47 :: joinB 47 ((splitB 47 l).drop (k + 1)) := by
      unfold upTo
      rw [← join_app hd hne, List.take_append_drop, join_split]
    refine ⟨?_, ?_, hp⟩
    · conv => rhs; rw [e]
      rw [List.length_append]
      omega
    · conv => lhs; arg 2; rw [e]
      exact List.take_left
theorem up_next {l : Tx} {k : Nat} (h : k + 1 < (splitB 47 l).length) : (upTo l (k + 1)).length = (upTo l k).length + 1 + (pkB l (k + 1)).length := by
  have hk : pkB l (k + 1) = (splitB 47 l)[k + 1] := by unfold pkB; rw [List.getElem?_eq_getElem h]; rfl
  unfold upTo
  rw [List.take_succ_eq_append_getElem h, join_snoc (by intro e; have := congrArg List.length e; rw [List.length_take, List.length_nil] at this; omega), List.length_append, List.length_cons, ← hk]
  omega
theorem up_zero {l : Tx} : (upTo l 0).length = (pkB l 0).length := by
  unfold upTo pkB
  cases h : splitB 47 l with
  | nil => exact absurd h (split_ne _ _)
  | cons a r => rfl
/-- What All has gathered. -/
def alT (l : Tx) (k : Nat) : List Tx := (List.range k).map (upTo l)
theorem alT_length (l : Tx) (k : Nat) : (alT l k).length = k := by unfold alT; rw [List.length_map, List.length_range]
theorem alT_succ (l : Tx) (k : Nat) : alT l (k + 1) = alT l k ++ [upTo l k] := up_succ l k
theorem own_fr {w w' : World} {base n size : Nat} {e : TypeId} {v : Value} {xs : List Value} (h : w.ownsRow base e size v n xs) (hF : Fr (fun _ => False) w w') : w'.ownsRow base e size v n xs := by
  obtain ⟨h1, h2⟩ := h
  refine ⟨h1, ?_⟩
  rcases h2 with h2 | ⟨g, cap, cur, hv, hg, hh, r⟩
  · exact Or.inl h2
  · exact Or.inr ⟨g, cap, cur, hv, hg, (hF.block g (Array.getElem?_eq_some_iff.1 hh).1 id).trans hh, r⟩
theorem own_base {w : World} {base base' n size : Nat} {e : TypeId} {v : Value} {xs : List Value} (h : w.ownsRow base e size v n xs) (hb : base' ≤ base) : w.ownsRow base' e size v n xs := by
  obtain ⟨h1, h2⟩ := h
  refine ⟨h1, ?_⟩
  rcases h2 with h2 | ⟨g, cap, cur, hv, hg, r⟩
  · exact Or.inl h2
  · exact Or.inr ⟨g, cap, cur, hv, Nat.le_trans hb hg, r⟩
theorem own_block {w : World} {base n size : Nat} {e : TypeId} {v : Value} {xs : List Value} (h : w.ownsRow base e size v n xs) {q : Nat} (hq : v.ownBlock = some q) : base ≤ q := by
  rcases h.2 with ⟨rfl, _⟩ | ⟨g, cap, cur, rfl, hg, _⟩
  · cases hq
  · cases hq
    exact hg
theorem box_fr {w w' : World} {B : Nat} {t : TypeId} {v : Value} (h : Boxed w B t v) (hF : Fr (fun _ => False) w w') : Boxed w' B t v := (hF.block B h.lt id).trans h
end Go.Proofs.YtgimiggffpokpaaGreatDoor.pt
