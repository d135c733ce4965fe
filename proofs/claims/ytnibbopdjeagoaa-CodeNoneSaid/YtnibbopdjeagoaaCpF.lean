/-
  What New lays down, step by step: the code's block, its words, its symbols.
-/
import Derived.Test.YtnibbopdjeagoaaCpE
namespace Go.Proofs.Ytnibbopdjeagoaa.cd
set_option maxRecDepth 100000
open Go.RowKit Go.Maps Go.Proofs.Ytnibbopdjeagoaa.fl
set_option maxRecDepth 100000

theorem built_code (z : Int) (l : List Int) : Try.prog.built 60 [(0, .int .i64 z), (1, cnV (cntL l))] = some (codC z (cntL l) (.slice none 0 0) (.slice none 0 0)).toArray := by
  kernel_rfl
/-- A code's value, of counts that are not looked into. -/
def codV (z : Int) (c : List Int) : Array Value := (codC z c (.slice none 0 0) (.slice none 0 0)).toArray
/-- A step of a region that draws its order: an array is loaded. -/
theorem step_loadCn {ops : Array Oper} {o : Oper} {a : Act} {w : World} {K : Act → World → Prop} {Q : Exit → Act → World → Prop} {E : Prop} (hgd : o.guard = none) (x : Operand) (ho : o.op = .load 57 x) (g : Nat) (c : List Int) (hl : c.length = 16)
    (hx : a.eval x = .pointer (some ⟨g, 0, none⟩)) (hg : w.heap[g]? = some (.cells (is c).toArray 57 (0, 0))) (h : K (a.put o.dst (cnV c)) w) :
    if Region.wanted o (yielded ops a.tmps) = true then Oper.wp Try.prog o a w K Q else E := by
  have hw : Region.wanted o (yielded ops a.tmps) = true := by simp [Region.wanted, hgd]
  rw [if_pos hw]
  exact wp_load_row 57 x ho g hx 57 (is c).toArray (0, 0) _ hg Try.underlying57 rfl (by rw [List.size_toArray, is_length, hl]; exact infoCn) h
/-- What lies there when the code has its block. -/
structure Nw6 (w : World) (l : List Int) (gm gc : Nat) (wr : World) : Prop where
  mny : wr.heap[gm]? = some (.cells (is (cntL l)).toArray 57 (0, 0))
  cod : wr.heap[gc]? = some (codB l (.slice none 0 0) (.slice none 0 0))
  fr : Fr (fun _ => False) w wr
  ge : w.heap.size ≤ gm ∧ w.heap.size ≤ gc
  ne : gm ≠ gc
theorem nw6_of {w w4 w7 : World} {l : List Int} {gm z : Nat} {xs : List Int} (hz : z = mostW (wordsL l)) (hc : xs = cntL l) (h4 : w4.heap[gm]? = some (.cells (is xs).toArray 57 (0, 0))) (hF4 : Fr (fun _ => False) w w4) (hF7 : Fr (fun _ => False) w4 w7) (hge : w.heap.size ≤ gm) :
    Nw6 w l gm w7.heap.size (w7.alloc (.cells (codC z xs (.slice none 0 0) (.slice none 0 0)).toArray 60)) := by
  subst hz hc
  have hlt := lt_of_block h4
  exact ⟨((hF7.alloc _).block gm hlt id).trans h4, heap_alloc_new _ _, hF4.trans (hF7.alloc _) (fun _ _ e => e), ⟨hge, Nat.le_trans hF4.size hF7.size⟩, by have := hF7.size; omega⟩
abbrev wdZ (n : Nat) : List Value := lvs (List.replicate n (0, 0))
abbrev syZ (n : Nat) : List Value := is (List.replicate n 0)
theorem infoW : (Try.prog.info? 70).map (fun i => (i.zero, i.size, i.bytes)) = some (some (.agg #[.int .i64 0, .int .i64 0]), 2, 16) := by kernel_rfl
theorem made_get (z : Array Value) (n i : Nat) : (madeCells z n)[i]? = if i < n then some (z[i % z.size]!) else none := by
  unfold madeCells
  rw [Array.getElem?_map, Array.getElem?_range]
  split <;> rfl
theorem made_words (n : Nat) : madeCells (Value.agg #[.int .i64 0, .int .i64 0]).cells (n * 2) = (wdZ n).toArray := by
  apply Array.ext_getElem?
  intro i
  rw [made_get, List.getElem?_toArray]
  by_cases hi : i < n * 2
  · rw [if_pos hi]
    have hr : (List.replicate n ((0 : Int), (0 : Int)))[i / 2]? = some (0, 0) := by rw [List.getElem?_replicate, if_pos (by omega)]
    obtain ⟨e1, e2⟩ := lvs_get _ _ _ hr
    have e : (wdZ n)[i]? = some (.int .i64 0) := by
      rcases Nat.mod_two_eq_zero_or_one i with h | h
      · have h3 : i = 2 * (i / 2) := by omega
        rw [h3]; exact e1
      · have h3 : i = 2 * (i / 2) + 1 := by omega
        rw [h3]; exact e2
    rw [e]
    show some ((#[Value.int .i64 0, Value.int .i64 0] : Array Value)[i % 2]!) = _
    rcases Nat.mod_two_eq_zero_or_one i with h | h <;> rw [h] <;> rfl
  · rw [if_neg hi, List.getElem?_eq_none (by rw [lvs_length, List.length_replicate]; omega)]
theorem made_syms (n : Nat) : madeCells (Value.int .i64 0).cells (n * 1) = (syZ n).toArray := by
  apply Array.ext_getElem?
  intro i
  rw [made_get, List.getElem?_toArray, is_get, List.getElem?_replicate, Nat.mul_one]
  by_cases hi : i < n
  · rw [if_pos hi, if_pos hi]
    show some ((#[Value.int .i64 0] : Array Value)[i % 1]!) = _
    rw [Nat.mod_one]
    rfl
  · rw [if_neg hi, if_neg hi]
    rfl
theorem mk_words (w : World) (n : Nat) (h : n ≤ 288) : (Instr.makeSlice 58 (.int .i64 (n : Int)) (.int .i64 (n : Int))).run Try.prog w = .ok (slA w.heap.size n) (w.alloc (.cells (wdZ n).toArray 70)) := by
  obtain ⟨i0, hi, hz0, hz1, hz2⟩ := info_parts infoW
  have := run_make (P := Try.prog) w 58 70 i0 _ Try.underlying58 hi hz0 .i64 .i64 n n (by omega) (Int.le_refl _) (by rw [hz2]; omega) (by omega)
  rw [this, hz1, Int.toNat_natCast, made_words]
theorem mk_syms (w : World) (n : Nat) (h : n ≤ 288) : (Instr.makeSlice 22 (.int .i64 (n : Int)) (.int .i64 (n : Int))).run Try.prog w = .ok (slA w.heap.size n) (w.alloc (.cells (syZ n).toArray 3)) := by
  obtain ⟨i0, hi, hz0, hz1, hz2⟩ := info_parts infoI
  have := run_make (P := Try.prog) w 22 3 i0 _ Try.underlying22 hi hz0 .i64 .i64 n n (by omega) (Int.le_refl _) (by rw [hz2]; omega) (by omega)
  rw [this, hz1, Int.toNat_natCast, made_syms]
/-- .. and when it has its words and its symbols. -/
structure Nw7 (w : World) (l : List Int) (gm gc gw gs : Nat) (wr : World) : Prop where
  mny : wr.heap[gm]? = some (.cells (is (cntL l)).toArray 57 (0, 0))
  cod : wr.heap[gc]? = some (codB l (slA gw l.length) (slA gs (codesN l)))
  wds : wr.heap[gw]? = some (.cells (wdZ l.length).toArray 70 (0, 0))
  sym : wr.heap[gs]? = some (.cells (syZ (codesN l)).toArray 3 (0, 0))
  fr : Fr (fun _ => False) w wr
  ge : w.heap.size ≤ gm ∧ w.heap.size ≤ gc ∧ w.heap.size ≤ gw ∧ w.heap.size ≤ gs
  ne : gm ≠ gc ∧ gc ≠ gw ∧ gc ≠ gs ∧ gw ≠ gs ∧ gm ≠ gw ∧ gm ≠ gs
theorem codC_set {z : Int} {c : List Int} {a b : Value} (h : c.length = 16) (u v : Value) : ((codC z c a b).set 17 u).set 18 v = codC z c u v := by
  unfold codC
  rw [List.set_cons_succ, List.set_append_right _ _ (by rw [is_length]; omega), List.set_cons_succ, List.set_append_right _ _ (by rw [is_length]; omega), is_length, h]
  rfl
/-- The code's slices are laid. -/
theorem cod_laid {v : World} {l : List Int} {gc : Nat} {a b : Value} (h : v.heap[gc]? = some (codB l a b)) (x y : Value) :
    ((v.setCell ⟨gc, 17, none⟩ x).setCell ⟨gc, 18, none⟩ y).heap[gc]? = some (codB l x y) ∧ (∀ i, i ≠ gc → ((v.setCell ⟨gc, 17, none⟩ x).setCell ⟨gc, 18, none⟩ y).heap[i]? = v.heap[i]?) ∧ ((v.setCell ⟨gc, 17, none⟩ x).setCell ⟨gc, 18, none⟩ y).heap.size = v.heap.size := by
  refine ⟨?_, fun i hi => ?_, by simp [World.setCell]⟩
  · rw [heap_setCell_same _ _ _ _ _ _ (heap_setCell_same _ _ _ _ _ _ h), List.setIfInBounds_toArray, List.setIfInBounds_toArray, codC_set (cntL_length l)]
  · rw [Below.heap_setCell _ _ _ _ hi, Below.heap_setCell _ _ _ _ hi]
theorem fr_laid {w v : World} {gc : Nat} (h : Fr (fun _ => False) w v) (hg : w.heap.size ≤ gc) (x y : Value) : Fr (fun _ => False) w ((v.setCell ⟨gc, 17, none⟩ x).setCell ⟨gc, 18, none⟩ y) :=
  (h.setCell (p := ⟨gc, 17, none⟩) (Or.inr hg) _).setCell (p := ⟨gc, 18, none⟩) (Or.inr hg) _
theorem nw7_a {w wc w7 : World} {l : List Int} {gm gc n d : Nat} (hn : n = l.length) (hd : d = codesN l) (h : Nw6 w l gm gc wc) (hF : Fr (fun _ => False) (wc.alloc (.cells (wdZ n).toArray 70)).drew w7) :
    Nw7 w l gm gc wc.heap.size w7.heap.size (((w7.setCell ⟨gc, 17, none⟩ (slA wc.heap.size n)).setCell ⟨gc, 18, none⟩ (slA w7.heap.size d)).alloc (.cells (syZ d).toArray 3)) := by
  subst hn hd
  have hF7 : Fr (fun _ => False) wc w7 := (((Fr.refl _ wc).alloc _).drew).trans hF (fun _ _ e => e)
  have hc := (hF7.block gc (lt_of_block h.cod) id).trans h.cod
  have hlm := lt_of_block h.mny
  have hlc := lt_of_block h.cod
  have hsz := hF.size
  have hs1 : (wc.alloc (.cells (wdZ l.length).toArray 70)).drew.heap.size = wc.heap.size + 1 := World.size_alloc _ _
  obtain ⟨k1, k2, k3⟩ := cod_laid hc (slA wc.heap.size l.length) (slA w7.heap.size (codesN l))
  have hw : w7.heap[wc.heap.size]? = some (.cells (wdZ l.length).toArray 70 (0, 0)) := (hF.block wc.heap.size (by omega) id).trans (heap_alloc_new wc _)
  refine ⟨?_, ?_, ?_, ?_, (fr_laid (h.fr.trans hF7 (fun _ _ e => e)) h.ge.2 _ _).alloc _, ⟨h.ge.1, h.ge.2, h.fr.size, by have := h.fr.size; omega⟩, ⟨h.ne, by omega, by omega, by omega, by omega, by omega⟩⟩
  · rw [Below.heap_alloc _ _ _ (by omega), k2 gm h.ne]; exact (hF7.block gm hlm id).trans h.mny
  · rw [Below.heap_alloc _ _ _ (by omega)]; exact k1
  · rw [Below.heap_alloc _ _ _ (by omega), k2 _ (by omega)]; exact hw
  · have := heap_alloc_new ((w7.setCell ⟨gc, 17, none⟩ (slA wc.heap.size l.length)).setCell ⟨gc, 18, none⟩ (slA w7.heap.size (codesN l))) (.cells (syZ (codesN l)).toArray 3)
    rwa [k3] at this
theorem nw7_b {w wc w7 : World} {l : List Int} {gm gc n d : Nat} (hn : n = l.length) (hd : d = codesN l) (h : Nw6 w l gm gc wc) (hF7 : Fr (fun _ => False) wc w7) :
    Nw7 w l gm gc w7.heap.size (w7.heap.size + 1) ((((w7.setCell ⟨gc, 17, none⟩ (slA w7.heap.size n)).setCell ⟨gc, 18, none⟩ (slA (w7.heap.size + 1) d)).alloc (.cells (wdZ n).toArray 70)).alloc (.cells (syZ d).toArray 3)) := by
  subst hn hd
  have hc := (hF7.block gc (lt_of_block h.cod) id).trans h.cod
  have hlm := lt_of_block h.mny
  have hlc := lt_of_block h.cod
  have hsz := hF7.size
  obtain ⟨k1, k2, k3⟩ := cod_laid hc (slA w7.heap.size l.length) (slA (w7.heap.size + 1) (codesN l))
  have e0 := heap_alloc2_old ((w7.setCell ⟨gc, 17, none⟩ (slA w7.heap.size l.length)).setCell ⟨gc, 18, none⟩ (slA (w7.heap.size + 1) (codesN l))) (.cells (wdZ l.length).toArray 70) (.cells (syZ (codesN l)).toArray 3)
  have e1 := heap_alloc2_new ((w7.setCell ⟨gc, 17, none⟩ (slA w7.heap.size l.length)).setCell ⟨gc, 18, none⟩ (slA (w7.heap.size + 1) (codesN l))) (.cells (wdZ l.length).toArray 70) (.cells (syZ (codesN l)).toArray 3)
  rw [k3] at e0 e1
  refine ⟨?_, ?_, e0, e1, ((fr_laid (h.fr.trans hF7 (fun _ _ e => e)) h.ge.2 _ _).alloc _).alloc _, ⟨h.ge.1, h.ge.2, by have := h.fr.size; omega, by have := h.fr.size; omega⟩, ⟨h.ne, by omega, by omega, by omega, by omega, by omega⟩⟩
  · rw [Below.heap_alloc _ _ _ (by rw [World.size_alloc]; omega), Below.heap_alloc _ _ _ (by omega), k2 gm h.ne]; exact (hF7.block gm hlm id).trans h.mny
  · rw [Below.heap_alloc _ _ _ (by rw [World.size_alloc]; omega), Below.heap_alloc _ _ _ (by omega)]; exact k1
theorem nw7_c {w wc w7 : World} {l : List Int} {gm gc n d : Nat} (hn : n = l.length) (hd : d = codesN l) (h : Nw6 w l gm gc wc) (hF7 : Fr (fun _ => False) wc w7) :
    Nw7 w l gm gc (w7.heap.size + 1) w7.heap.size ((((w7.setCell ⟨gc, 17, none⟩ (slA (w7.heap.size + 1) n)).setCell ⟨gc, 18, none⟩ (slA w7.heap.size d)).alloc (.cells (syZ d).toArray 3)).alloc (.cells (wdZ n).toArray 70)) := by
  subst hn hd
  have hc := (hF7.block gc (lt_of_block h.cod) id).trans h.cod
  have hlm := lt_of_block h.mny
  have hlc := lt_of_block h.cod
  have hsz := hF7.size
  obtain ⟨k1, k2, k3⟩ := cod_laid hc (slA (w7.heap.size + 1) l.length) (slA w7.heap.size (codesN l))
  have e0 := heap_alloc2_old ((w7.setCell ⟨gc, 17, none⟩ (slA (w7.heap.size + 1) l.length)).setCell ⟨gc, 18, none⟩ (slA w7.heap.size (codesN l))) (.cells (syZ (codesN l)).toArray 3) (.cells (wdZ l.length).toArray 70)
  have e1 := heap_alloc2_new ((w7.setCell ⟨gc, 17, none⟩ (slA (w7.heap.size + 1) l.length)).setCell ⟨gc, 18, none⟩ (slA w7.heap.size (codesN l))) (.cells (syZ (codesN l)).toArray 3) (.cells (wdZ l.length).toArray 70)
  rw [k3] at e0 e1
  refine ⟨?_, ?_, e1, e0, ((fr_laid (h.fr.trans hF7 (fun _ _ e => e)) h.ge.2 _ _).alloc _).alloc _, ⟨h.ge.1, h.ge.2, by have := h.fr.size; omega, by have := h.fr.size; omega⟩, ⟨h.ne, by omega, by omega, by omega, by omega, by omega⟩⟩
  · rw [Below.heap_alloc _ _ _ (by rw [World.size_alloc]; omega), Below.heap_alloc _ _ _ (by omega), k2 gm h.ne]; exact (hF7.block gm hlm id).trans h.mny
  · rw [Below.heap_alloc _ _ _ (by rw [World.size_alloc]; omega), Below.heap_alloc _ _ _ (by omega)]; exact k1
theorem len16 {c : List Int} (h : c.length = 16) : ∃ x0 x1 x2 x3 x4 x5 x6 x7 x8 x9 x10 x11 x12 x13 x14 x15 : Int, c = [x0, x1, x2, x3, x4, x5, x6, x7, x8, x9, x10, x11, x12, x13, x14, x15] := by
  iterate 16 (rcases c with _ | ⟨_, c⟩; · simp at h)
  obtain rfl : c = [] := by simpa using h
  exact ⟨_, _, _, _, _, _, _, _, _, _, _, _, _, _, _, _, rfl⟩
/-- What lies there when k symbols have their words. -/
def NwS (w : World) (l : List Int) (gc gw gs ga k : Nat) (wr : World) : Prop := ∃ sy, NwG w l gc gw gs ga (wdL l k) (atL l k) sy wr ∧ Sorted l sy k
theorem NwS.start {w wc w8 w9 : World} {l : List Int} {gm gc gw gs : Nat} (h : Nw7 w l gm gc gw gs wc) (hF8 : Fr (fun _ => False) wc w8) (h9 : w9.heap[w8.heap.size]? = some (.cells (lvs (lvL l 15)).toArray 67 (0, 0))) (hF9 : Fr (fun _ => False) w8 w9) :
    NwS w l gc gw gs w8.heap.size 0 w9 := by
  have hF := hF8.trans hF9 (fun _ _ e => e)
  have l1 := lt_of_block h.cod
  have l2 := lt_of_block h.wds
  have l3 := lt_of_block h.sym
  have hz := hF8.size
  refine ⟨List.replicate (codesN l) 0, ⟨(hF.block _ l1 id).trans h.cod, by rw [wdL_zero]; exact (hF.block _ l2 id).trans h.wds, (hF.block _ l3 id).trans h.sym, by rw [← atL_zero]; exact h9, h.fr.trans hF (fun _ _ e => e), ⟨h.ge.2.1, h.ge.2.2.1, h.ge.2.2.2, Nat.le_trans h.fr.size hz⟩, ⟨h.ne.2.1, h.ne.2.2.1, by omega, h.ne.2.2.2.1, by omega, by omega⟩⟩, Sorted.zero (by simp)⟩
theorem NwS.skip {w wr : World} {l : List Int} {gc gw gs ga k : Nat} (h : NwS w l gc gw gs ga k wr) (hx : l[k]? = some 0) : NwS w l gc gw gs ga (k + 1) wr := by
  obtain ⟨sy, h1, h2⟩ := h
  have hk := (List.getElem?_eq_some_iff.1 hx).1
  have hl : lenN l k = 0 := by unfold lenN; rw [hx]; rfl
  refine ⟨sy, ?_, h2.skip hl⟩
  rw [wdL_skip hk hl, atL_skip hx]
  exact h1
/-- A symbol with a code: where its word and its place come from. -/
structure Sym (l : List Int) (k m F S : Nat) : Prop where
  has : Has l k m
  le : m ≤ 15
  f : F = fiN l m + cn (l.take k) m
  s : S = shN l m + cn (l.take k) m
theorem Sym.of {l : List Int} (hb : inB l = true) {k : Nat} {x : Int} (hx : l[k]? = some x) (h0 : x ≠ 0) : ∃ m F S : Nat, x = (m : Int) ∧ Sym l k m F S := by
  have h1 := (inB_iff _).1 hb x (List.mem_of_getElem? hx)
  refine ⟨x.toNat, _, _, by omega, ⟨⟨by rw [hx]; congr 1; omega, by omega⟩, by omega, rfl, rfl⟩⟩
section
variable {l : List Int} {k m F S : Nat}
theorem Sym.lev (h : Sym l k m F S) : (atL l k)[m]? = some ((F : Int), (S : Int)) := by
  rw [atL_get l k (by have := h.le; omega), h.f, h.s]
  rfl
theorem Sym.place (h : Sym l k m F S) : plN l k = S := by
  rw [h.has.place, h.s, cn_pos _ h.has.2]
theorem Sym.word (h : Sym l k m F S) : wdI l k = ((F : Int), (m : Int)) := by
  unfold wdI
  rw [h.has.len, if_pos (by have := h.has.2; omega), h.has.word, h.f, cn_pos _ h.has.2]
  obtain ⟨q, rfl⟩ : ∃ q, m = q + 1 := ⟨m - 1, by have := h.has.2; omega⟩
  rw [fi_succ, Nat.add_sub_cancel]
theorem Sym.small (h : Sym l k m F S) (ho : okB l = true) : F ≤ 66000 ∧ S < codesN l ∧ codesN l ≤ 288 ∧ 1 ≤ m ∧ m ≤ 15 ∧ k < l.length := by
  obtain ⟨h1, h2, _⟩ := (okB_iff l).1 ho
  have hb : inB l = true := (inB_iff l).2 h2
  have hf := fi_small ho h.le
  have hc : cn (l.take k) m ≤ 288 := Nat.le_trans (cn_le _ _) (by rw [List.length_take]; omega)
  have hp := h.has.place_all hb
  rw [h.place] at hp
  have hs := sh_le l 16
  rw [sh_all l hb] at hs
  exact ⟨by rw [h.f]; omega, hp, by omega, h.has.2, h.le, h.has.at_⟩
/-- The symbol has its word. -/
theorem Sym.next {w wr : World} {gc gw gs ga : Nat} {sy : List Int} (hb : inB l = true) (h : Sym l k m F S) (hs : Sorted l sy k) (hg : NwG w l gc gw gs ga ((wdL l k).set k ((F : Int), (m : Int))) ((atL l k).set m ((F : Int) + 1, (S : Int) + 1)) (sy.set S (k : Int)) wr) : NwS w l gc gw gs ga (k + 1) wr := by
  refine ⟨_, ?_, by have := hs.next hb h.has; rwa [h.place] at this⟩
  rw [wdL_next h.has.at_, h.word, atL_next h.has h.le]
  have e1 : ((fiN l m : Int) + (cn (l.take k) m : Int) + 1, (shN l m : Int) + (cn (l.take k) m : Int) + 1) = ((F : Int) + 1, (S : Int) + 1) := by
    rw [h.f, h.s]
    rfl
  rw [e1]
  exact hg
end
/-- What the law wants of New. -/
theorem NwS.done {w wr : World} {l : List Int} {gc gw gs ga : Nat} (ho : okB l = true) (h : NwS w l gc gw gs ga l.length wr) : ∃ S, PC wr ⟨gc, 0, none⟩ l S ∧ (∀ i, S i → w.heap.size ≤ i) ∧ Fr (fun _ => False) w wr := by
  obtain ⟨sy, h1, h2⟩ := h
  refine ⟨fun i => i = gc ∨ i = gw ∨ i = gs, ⟨gc, gw, gs, sy, rfl, ⟨h1.cod, h1.wds, h1.sym, h2, ho, ⟨Or.inl rfl, Or.inr (Or.inl rfl), Or.inr (Or.inr rfl)⟩, ?_⟩⟩, ?_, h1.fr⟩
  · rintro i (rfl | rfl | rfl)
    · exact lt_of_block h1.cod
    · exact lt_of_block h1.wds
    · exact lt_of_block h1.sym
  · rintro i (rfl | rfl | rfl)
    · exact h1.ge.1
    · exact h1.ge.2.1
    · exact h1.ge.2.2.1
end Go.Proofs.Ytnibbopdjeagoaa.cd
