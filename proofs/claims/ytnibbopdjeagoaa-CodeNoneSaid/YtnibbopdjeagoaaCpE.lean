/-
  The program's codes in memory; what New lays down, step by step.
-/
import Derived.Test.YtnibbopdjeagoaaCpD
import Derived.Deep.MidRow
import Derived.Deep.DeepCutAuto
namespace Go.Proofs.Ytnibbopdjeagoaa.cd
set_option maxRecDepth 100000
open Go.RowKit Go.Maps Go.Proofs.Ytnibbopdjeagoaa.fl
set_option maxRecDepth 100000

/-- A code's cells. -/
def codC (z : Int) (c : List Int) (a b : Value) : List Value := .int .i64 z :: (is c ++ [a, b])
theorem codC_0 (z : Int) (c : List Int) (a b : Value) : (codC z c a b)[0]? = some (.int .i64 z) := rfl
theorem codC_n {z : Int} {c : List Int} {a b : Value} {n : Nat} {x : Int} (h : c[n]? = some x) : (codC z c a b)[1 + n]? = some (.int .i64 x) := by
  have hlt := (List.getElem?_eq_some_iff.1 h).1
  show (Value.int .i64 z :: (is c ++ [a, b]))[1 + n]? = _
  rw [Nat.add_comm, List.getElem?_cons_succ, List.getElem?_append_left (by rw [is_length]; exact hlt), is_get, h]
  rfl
theorem codC_17 {z : Int} {c : List Int} {a b : Value} (h : c.length = 16) : (codC z c a b)[17]? = some a := by
  show (Value.int .i64 z :: (is c ++ [a, b]))[16 + 1]? = _
  rw [List.getElem?_cons_succ, List.getElem?_append_right (by rw [is_length]; omega), is_length, h]
  rfl
theorem codC_18 {z : Int} {c : List Int} {a b : Value} (h : c.length = 16) : (codC z c a b)[18]? = some b := by
  show (Value.int .i64 z :: (is c ++ [a, b]))[17 + 1]? = _
  rw [List.getElem?_cons_succ, List.getElem?_append_right (by rw [is_length]; omega), is_length, h]
  rfl
theorem codC_length (z : Int) (c : List Int) (a b : Value) : (codC z c a b).length = 3 + c.length := by
  unfold codC
  rw [List.length_cons, List.length_append, is_length]
  simp
  omega
abbrev codB (l : List Int) (a b : Value) : Obj := .cells (codC (mostW (wordsL l) : Nat) (cntL l) a b).toArray 60 (0, 0)
abbrev slA (g n : Nat) : Value := .slice (some ⟨g, 0, none⟩) n n
/-- The program's code of these lengths: its block, its words', its symbols'. -/
structure CodM (w : World) (g gw gs : Nat) (l sy : List Int) (S : Nat → Prop) : Prop where
  blk : w.heap[g]? = some (codB l (slA gw l.length) (slA gs (codesN l)))
  wds : w.heap[gw]? = some (.cells (lvs (wdL l l.length)).toArray 70 (0, 0))
  sym : w.heap[gs]? = some (.cells (is sy).toArray 3 (0, 0))
  srt : Sorted l sy l.length
  ok : okB l = true
  own : S g ∧ S gw ∧ S gs
  low : ∀ i, S i → i < w.heap.size
def PC : CP := fun w a l S => ∃ g gw gs sy, a = ⟨g, 0, none⟩ ∧ CodM w g gw gs l sy S
section
variable {w w' : World} {g gw gs : Nat} {l sy : List Int} {S S' : Nat → Prop}
theorem CodM.keep (h : CodM w g gw gs l sy S) (hF : Fr S' w w') (hS : ∀ i, S i → ¬ S' i) : CodM w' g gw gs l sy S :=
  ⟨(hF.block g (h.low _ h.own.1) (hS _ h.own.1)).trans h.blk, (hF.block gw (h.low _ h.own.2.1) (hS _ h.own.2.1)).trans h.wds, (hF.block gs (h.low _ h.own.2.2) (hS _ h.own.2.2)).trans h.sym, h.srt, h.ok, h.own, fun i hi => Nat.lt_of_lt_of_le (h.low i hi) hF.size⟩
theorem CodM.still (h : CodM w g gw gs l sy S) (hF : Fr (fun _ => False) w w') : CodM w' g gw gs l sy S := h.keep hF (fun _ _ e => e)
theorem CodM.reach (h : CodM w g gw gs l sy S) : w.cell? ⟨g, 0, none⟩ = some (.int .i64 (mostW (wordsL l) : Nat)) := by rw [cellAt h.blk, List.getElem?_toArray]; rfl
theorem CodM.count (h : CodM w g gw gs l sy S) {n : Nat} (hn : n < 16) : w.cell? ⟨g, 1 + n, none⟩ = some (.int .i64 (cn l n : Int)) := by rw [cellAt h.blk, List.getElem?_toArray]; exact codC_n (cntL_get l hn)
theorem CodM.words (h : CodM w g gw gs l sy S) : w.cell? ⟨g, 17, none⟩ = some (slA gw l.length) := by rw [cellAt h.blk, List.getElem?_toArray]; exact codC_17 (cntL_length l)
theorem CodM.syms (h : CodM w g gw gs l sy S) : w.cell? ⟨g, 18, none⟩ = some (slA gs (codesN l)) := by rw [cellAt h.blk, List.getElem?_toArray]; exact codC_18 (cntL_length l)
theorem CodM.word_at (h : CodM w g gw gs l sy S) {i : Nat} (hi : i < l.length) : w.cell? ⟨gw, i * 2, none⟩ = some (.int .i64 (wdI l i).1) ∧ w.cell? ⟨gw, i * 2 + 1, none⟩ = some (.int .i64 (wdI l i).2) := by
  have h2 := lvs_get (wdL l l.length) i _ (wdL_get hi)
  rw [if_pos hi] at h2
  rw [cellAt h.wds, cellAt h.wds, List.getElem?_toArray, List.getElem?_toArray, Nat.mul_comm]
  exact h2
theorem CodM.sym_at (h : CodM w g gw gs l sy S) {i n : Nat} (hi : Has l i n) : w.cell? ⟨gs, plN l i, none⟩ = some (.int .i64 (i : Int)) := by
  rw [cellAt h.sym, List.getElem?_toArray, is_get, h.srt.2 i n hi hi.at_]
  rfl
end
theorem most_in {l : List Int} (hb : inB l = true) : 1 ≤ mostW (wordsL l) ∧ mostW (wordsL l) ≤ 15 := by
  have : longW (wordsL l) ≤ 15 := long_le (fun w hw => by
    unfold wordsL at hw
    obtain ⟨i, hi, rfl⟩ := List.mem_map.1 hw
    rw [wordB_length]
    exact lenN_le15 hb i)
  unfold mostW
  omega

/-- Where the next code of each length stands, when k symbols have theirs. -/
def atL (l : List Int) (k : Nat) : List (Int × Int) := (List.range 16).map fun n => ((fiN l n : Int) + (cn (l.take k) n : Int), (shN l n : Int) + (cn (l.take k) n : Int))
theorem atL_length (l : List Int) (k : Nat) : (atL l k).length = 16 := by unfold atL; simp
theorem atL_get (l : List Int) (k : Nat) {n : Nat} (h : n < 16) : (atL l k)[n]? = some ((fiN l n : Int) + (cn (l.take k) n : Int), (shN l n : Int) + (cn (l.take k) n : Int)) := by
  unfold atL
  rw [List.getElem?_map, List.getElem?_range h]
  rfl
theorem atL_zero (l : List Int) : lvL l 15 = atL l 0 := by
  apply List.ext_getElem?
  intro i
  by_cases h : i < 16
  · rw [lvL_get l 15 h, atL_get l 0 h, if_pos (by omega), List.take_zero]
    have : cn [] i = 0 := by unfold cn cnt; split <;> simp
    rw [this]
    simp
  · rw [List.getElem?_eq_none (by rw [lvL_length]; omega), List.getElem?_eq_none (by rw [atL_length]; omega)]
theorem cn_take_succ {l : List Int} {k : Nat} {x : Int} (h : l[k]? = some x) (n : Nat) : cn (l.take (k + 1)) n = cn (l.take k) n + if n ≠ 0 ∧ x = n then 1 else 0 := by
  rw [List.take_add_one, h]
  exact cn_snoc _ _ _
theorem atL_skip {l : List Int} {k : Nat} (h : l[k]? = some 0) : atL l (k + 1) = atL l k := by
  apply List.ext_getElem?
  intro i
  by_cases hi : i < 16
  · rw [atL_get l _ hi, atL_get l _ hi, cn_take_succ h, if_neg (by omega), Nat.add_zero]
  · rw [List.getElem?_eq_none (by rw [atL_length]; omega), List.getElem?_eq_none (by rw [atL_length]; omega)]
theorem atL_next {l : List Int} {k n : Nat} (h : Has l k n) (hn : n ≤ 15) : atL l (k + 1) = (atL l k).set n ((fiN l n : Int) + (cn (l.take k) n : Int) + 1, (shN l n : Int) + (cn (l.take k) n : Int) + 1) := by
  apply List.ext_getElem?
  intro i
  by_cases hi : i < 16
  · rw [atL_get l _ hi, cn_take_succ h.1]
    by_cases e : n = i
    · subst e
      rw [List.getElem?_set_self (by rw [atL_length]; omega), if_pos ⟨by have := h.2; omega, rfl⟩]
      congr 2 <;> omega
    · rw [List.getElem?_set_ne e, atL_get l _ hi, if_neg (by omega), Nat.add_zero]
  · rw [List.getElem?_eq_none (by rw [atL_length]; omega), List.getElem?_eq_none (by rw [List.length_set, atL_length]; omega)]
/-- What lies there while the symbols get their words. -/
structure NwG (w : World) (l : List Int) (gc gw gs ga : Nat) (W L : List (Int × Int)) (sy : List Int) (wr : World) : Prop where
  cod : wr.heap[gc]? = some (codB l (slA gw l.length) (slA gs (codesN l)))
  wds : wr.heap[gw]? = some (.cells (lvs W).toArray 70 (0, 0))
  sym : wr.heap[gs]? = some (.cells (is sy).toArray 3 (0, 0))
  at_ : wr.heap[ga]? = some (.cells (lvs L).toArray 67 (0, 0))
  fr : Fr (fun _ => False) w wr
  ge : w.heap.size ≤ gc ∧ w.heap.size ≤ gw ∧ w.heap.size ≤ gs ∧ w.heap.size ≤ ga
  ne : gc ≠ gw ∧ gc ≠ gs ∧ gc ≠ ga ∧ gw ≠ gs ∧ gw ≠ ga ∧ gs ≠ ga
section
variable {w wr w' : World} {l sy : List Int} {gc gw gs ga : Nat} {W L : List (Int × Int)}
theorem NwG.drew (h : NwG w l gc gw gs ga W L sy wr) : NwG w l gc gw gs ga W L sy wr.drew := ⟨h.cod, h.wds, h.sym, h.at_, h.fr.drew, h.ge, h.ne⟩
theorem NwG.slW (h : NwG w l gc gw gs ga W L sy wr) : wr.cell? ⟨gc, 17, none⟩ = some (slA gw l.length) := by rw [cellAt h.cod, List.getElem?_toArray]; exact codC_17 (cntL_length l)
theorem NwG.slS (h : NwG w l gc gw gs ga W L sy wr) : wr.cell? ⟨gc, 18, none⟩ = some (slA gs (codesN l)) := by rw [cellAt h.cod, List.getElem?_toArray]; exact codC_18 (cntL_length l)
theorem NwG.lev (h : NwG w l gc gw gs ga W L sy wr) {n : Nat} {x : Int × Int} (hx : L[n]? = some x) : wr.cell? ⟨ga, n * 2, none⟩ = some (.int .i64 x.1) ∧ wr.cell? ⟨ga, n * 2 + 1, none⟩ = some (.int .i64 x.2) := by
  rw [cellAt h.at_, cellAt h.at_, List.getElem?_toArray, List.getElem?_toArray, Nat.mul_comm]
  exact lvs_get L n x hx
theorem NwG.setW (h : NwG w l gc gw gs ga W L sy wr) {k : Nat} {y : Int × Int} (hy : W[k]? = some y) :
    (wr.cell? ⟨gw, k * 2, none⟩ = some (.int .i64 y.1) ∧ wr.cell? ⟨gw, k * 2 + 1, none⟩ = some (.int .i64 y.2) ∧ wr.frozen? ⟨gw, k * 2, none⟩ = false ∧ wr.frozen? ⟨gw, k * 2 + 1, none⟩ = false) ∧
    ∀ a b : Int, NwG w l gc gw gs ga (W.set k (a, b)) L sy ((wr.setCell ⟨gw, k * 2, none⟩ (.int .i64 a)).setCell ⟨gw, k * 2 + 1, none⟩ (.int .i64 b)) := by
  obtain ⟨n1, n2, n3, n4, n5, n6⟩ := h.ne
  refine ⟨⟨?_, ?_, freeAt h.wds _, freeAt h.wds _⟩, fun a b => ⟨?_, ?_, ?_, ?_, (h.fr.setCell (p := ⟨gw, k * 2, none⟩) (Or.inr h.ge.2.1) _).setCell (p := ⟨gw, k * 2 + 1, none⟩) (Or.inr h.ge.2.1) _, h.ge, h.ne⟩⟩
  · rw [cellAt h.wds, List.getElem?_toArray, Nat.mul_comm]; exact (lvs_get W k y hy).1
  · rw [cellAt h.wds, List.getElem?_toArray, Nat.mul_comm]; exact (lvs_get W k y hy).2
  · rw [Below.heap_setCell _ _ _ _ n1, Below.heap_setCell _ _ _ _ n1]; exact h.cod
  · rw [heap_setCell_same _ _ _ _ _ _ (heap_setCell_same _ _ _ _ _ _ h.wds), ← lvs_set W k (a, b), Nat.mul_comm 2]; simp
  · rw [Below.heap_setCell _ _ _ _ n4.symm, Below.heap_setCell _ _ _ _ n4.symm]; exact h.sym
  · rw [Below.heap_setCell _ _ _ _ n5.symm, Below.heap_setCell _ _ _ _ n5.symm]; exact h.at_
theorem NwG.setL (h : NwG w l gc gw gs ga W L sy wr) {k : Nat} {y : Int × Int} (hy : L[k]? = some y) :
    (wr.cell? ⟨ga, k * 2, none⟩ = some (.int .i64 y.1) ∧ wr.cell? ⟨ga, k * 2 + 1, none⟩ = some (.int .i64 y.2) ∧ wr.frozen? ⟨ga, k * 2, none⟩ = false ∧ wr.frozen? ⟨ga, k * 2 + 1, none⟩ = false) ∧
    ∀ a b : Int, NwG w l gc gw gs ga W (L.set k (a, b)) sy ((wr.setCell ⟨ga, k * 2, none⟩ (.int .i64 a)).setCell ⟨ga, k * 2 + 1, none⟩ (.int .i64 b)) := by
  obtain ⟨n1, n2, n3, n4, n5, n6⟩ := h.ne
  refine ⟨⟨?_, ?_, freeAt h.at_ _, freeAt h.at_ _⟩, fun a b => ⟨?_, ?_, ?_, ?_, (h.fr.setCell (p := ⟨ga, k * 2, none⟩) (Or.inr h.ge.2.2.2) _).setCell (p := ⟨ga, k * 2 + 1, none⟩) (Or.inr h.ge.2.2.2) _, h.ge, h.ne⟩⟩
  · exact (h.lev hy).1
  · exact (h.lev hy).2
  · rw [Below.heap_setCell _ _ _ _ n3, Below.heap_setCell _ _ _ _ n3]; exact h.cod
  · rw [Below.heap_setCell _ _ _ _ n5, Below.heap_setCell _ _ _ _ n5]; exact h.wds
  · rw [Below.heap_setCell _ _ _ _ n6, Below.heap_setCell _ _ _ _ n6]; exact h.sym
  · rw [heap_setCell_same _ _ _ _ _ _ (heap_setCell_same _ _ _ _ _ _ h.at_), ← lvs_set L k (a, b), Nat.mul_comm 2]; simp
theorem NwG.setS (h : NwG w l gc gw gs ga W L sy wr) {k : Nat} {y : Int} (hy : sy[k]? = some y) :
    (wr.cell? ⟨gs, k, none⟩ = some (.int .i64 y) ∧ wr.frozen? ⟨gs, k, none⟩ = false) ∧ ∀ a : Int, NwG w l gc gw gs ga W L (sy.set k a) (wr.setCell ⟨gs, k, none⟩ (.int .i64 a)) := by
  obtain ⟨n1, n2, n3, n4, n5, n6⟩ := h.ne
  refine ⟨⟨?_, freeAt h.sym _⟩, fun a => ⟨?_, ?_, ?_, ?_, h.fr.setCell (p := ⟨gs, k, none⟩) (Or.inr h.ge.2.2.1) _, h.ge, h.ne⟩⟩
  · rw [cellAt h.sym, List.getElem?_toArray, is_get, hy]; rfl
  · rw [Below.heap_setCell _ _ _ _ n2]; exact h.cod
  · rw [Below.heap_setCell _ _ _ _ n4]; exact h.wds
  · rw [heap_setCell_same _ _ _ _ _ _ h.sym, ← is_set]; simp
  · rw [Below.heap_setCell _ _ _ _ n6.symm]; exact h.at_
end
end Go.Proofs.Ytnibbopdjeagoaa.cd
