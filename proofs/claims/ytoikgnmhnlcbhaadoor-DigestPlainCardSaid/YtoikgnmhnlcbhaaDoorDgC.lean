/-
  The document's block: the words of a block.
-/
import Derived.Test.YtoikgnmhnlcbhaaDoorDgB
import Derived.BigQuiet
namespace Go.Proofs.YtoikgnmhnlcbhaaDoor.dg
set_option maxRecDepth 100000
open Go.RowKit Go.Maps
set_option maxRecDepth 100000

theorem wordsV_length (b : Bts) (k : Nat) : (wordsV b k).length = k := by unfold wordsV; rw [List.length_map, List.length_range]
theorem wordsV_succ (b : Bts) (k : Nat) : wordsV b (k + 1) = wordsV b k ++ [BitVec.ofNat 32 (wordN b k)] := by
  unfold wordsV
  rw [List.range_succ, List.map_append]
  rfl
theorem wordN_part (b : Bts) (k : Nat) : wordN ((b.drop (4 * k)).take 4) 0 = wordN b k := by
  have h : ∀ j, j < 4 → ((b.drop (4 * k)).take 4).getD j 0 = b.getD (4 * k + j) 0 := fun j hj => by
    rw [List.getD_eq_getElem?_getD, List.getD_eq_getElem?_getD, List.getElem?_take_of_lt hj, List.getElem?_drop]
  unfold wordN
  have h0 := h 0 (by decide)
  have h1 := h 1 (by decide)
  have h2 := h 2 (by decide)
  have h3 := h 3 (by decide)
  simp only [Nat.mul_zero, Nat.zero_add] at *
  rw [h0, h1, h2, h3, Nat.add_zero]
theorem own_emptyW (w : World) : OwnW (w.alloc (.cells #[] 41)) w.heap.size (.slice (some ⟨w.heap.size, 0, none⟩) ([] : List W).length 0) [] := World.ownsRow_made w #[] 0 (Nat.le_refl _) (Nat.zero_le _) (by simp)
theorem OwnW.base {w : World} {b1 b2 : Nat} {v : Value} {l : List W} (h : OwnW w b1 v l) (hb : b2 ≤ b1) : OwnW w b2 v l := by
  refine ⟨h.1, ?_⟩
  rcases h.2 with e | ⟨g, cap, cur, e, hg, r⟩
  · exact Or.inl e
  · exact Or.inr ⟨g, cap, cur, e, by omega, r⟩
/-- Words of the call's own, not nil. -/
def Wd (w0 w : World) (v : Value) (l : List W) : Prop := ∃ A cap, v = .slice A l.length cap ∧ OwnW w w0.heap.size v l ∧ Fr (fun _ => False) w0 w ∧ v ≠ .slice none 0 0
theorem Wd.still {w0 w w' : World} {v : Value} {l : List W} (h : Wd w0 w v l) (hF : Fr (fun _ => False) w w') : Wd w0 w' v l := by
  obtain ⟨A, cap, rfl, h1, h2, h3⟩ := h
  exact ⟨A, cap, rfl, h1.kept hF, h2.trans hF (fun _ _ e => e), h3⟩
theorem wd_new (w : World) : Wd w (w.alloc (.cells #[] 41)) (.slice (some ⟨w.heap.size, 0, none⟩) 0 0) [] := ⟨_, 0, rfl, own_emptyW w, (Fr.refl _ w).alloc _, by simp⟩
section
variable {ops : Array Oper} {rest : List Oper} {o : Oper} {a : Act} {w : World} {Q : Exit → Act → World → Prop}
/-- One word appended. -/
theorem wpList_app1 (hgd : o.guard = none) (x y : Operand) (ho : o.op = .call { callee := .builtin .append, args := #[x, y], argTypes := #[39, 39] }) (w0 wr : World) (v : Value) (l : List W) (c : W) (hx : a.eval x = v) (hv : Wd w0 wr v l)
    (hw : w = wr.alloc (.cells #[.int .u32 (uw c)] 41)) (hy : a.eval y = .slice (some ⟨wr.heap.size, 0, none⟩) 1 1) (hl : l.length ≤ 100000)
    (h : ∀ A' cap' w', Wd w0 w' (.slice A' (l.length + 1) cap') (l ++ [c]) → wpList Tryd.prog ops Q rest (a.put o.dst (.slice A' (l.length + 1) cap')) w') : wpList Tryd.prog ops Q (o :: rest) a w := by
  obtain ⟨A, cap, rfl, h1, h2, h3⟩ := hv
  subst hw
  refine wpList_appW hgd x y ho w0 _ l hx (h1.kept ((Fr.refl _ _).alloc _)) (h2.alloc _) h3 ⟨wr.heap.size, 0, none⟩ 1 1 [c] hy rfl (fun j u hu => ?_) (by simp only [List.length_singleton]; omega) ?_
  · have hj : j = 0 := by
      have := (List.getElem?_eq_some_iff.1 hu).1
      rw [ws_length] at this
      simpa using this
    subst hj
    rw [add_plain, cellAt (heap_alloc_new _ _)]
    simpa [ws] using hu
  · intro A' cap' w' k1 k2 k3
    have e : (l ++ [c]).length = l.length + 1 := by rw [List.length_append]; rfl
    rw [e] at k1 k3 ⊢
    exact h A' cap' w' ⟨A', cap', by rw [e], k1, k2, k3⟩
end
/-- The first half: the words of the block. -/
structure BkI (w : World) (h : List W) (gh : Nat) (b : Bts) (blk off : Nat) : Prop where
  hl : h.length = 8
  bl : b.length = 64
  hr : RdW w w.heap.size (some ⟨gh, 0, none⟩) h
  br : Rd w w.heap.size (some ⟨blk, off, none⟩) b
end Go.Proofs.YtoikgnmhnlcbhaaDoor.dg
