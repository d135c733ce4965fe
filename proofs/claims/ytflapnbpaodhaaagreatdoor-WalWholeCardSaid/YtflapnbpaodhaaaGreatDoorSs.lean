/-
  slices.SortFunc at sectors with their homes.
-/
import Derived.Test.YtflapnbpaodhaaaGreatDoorSr
import Derived.Test.YtflapnbpaodhaaaGreatDoorShelfW
import Derived.Shelf.SlSortCmp.NoneTotal
namespace Go.Proofs.YtflapnbpaodhaaaGreatDoor.sq
set_option maxRecDepth 100000
open Go.RowKit Go.Shelf Go.Sort
set_option maxRecDepth 100000

theorem bkC_get : ∀ (zs : List Bk) (i : Nat) (x : Bk), zs[i]? = some x → (bkC zs)[i * 2]? = some (.int .i64 x.1) ∧ (bkC zs)[i * 2 + 1]? = some (bv x)
  | [], i, x, h => by simp at h
  | y :: r, 0, x, h => by
    simp at h
    subst h
    exact ⟨rfl, rfl⟩
  | y :: r, i + 1, x, h => by
    have := bkC_get r i x (by simpa using h)
    rw [show (i + 1) * 2 = i * 2 + 1 + 1 by omega]
    simpa [bkC] using this
theorem bkC_one : ∀ (zs : List Bk), ∀ u ∈ bkC zs, u.oneCell' = true
  | [], u, h => by cases h
  | x :: r, u, h => by
    rcases List.mem_cons.1 h with rfl | h
    · rfl
    · rcases List.mem_cons.1 h with rfl | h
      · rfl
      · exact bkC_one r u h

section
variable {w : World} {blk n : Nat} {d : Array Bk} {os : Array Obj}
theorem sortW_block {cur : Array Value} {t : TypeId} {fz : Nat × Nat} (off : Nat) (h : w.heap[blk]? = some (.cells cur t fz)) : ∃ cur', (sortWorldK bkL 2 w blk off n d os).heap[blk]? = some (.cells cur' t fz) := by
  have hlt := (Array.getElem?_eq_some_iff.1 h).1
  refine ⟨putCells id off (flatK bkL 2 d) cur, ?_⟩
  show ((w.heap.modify blk (onCells (putCells id off (flatK bkL 2 d)))) ++ os)[blk]? = _
  rw [Array.getElem?_append_left (by rw [Array.size_modify]; exact hlt), Array.getElem?_modify, if_pos rfl, h]
  rfl
theorem sortW_fr (off : Nat) : Fr (· = blk) w (sortWorldK bkL 2 w blk off n d os) := by
  refine ⟨rfl, rfl, rfl, ?_, fun i hi hne => ?_⟩
  · show w.heap.size ≤ ((w.heap.modify blk (onCells (putCells id off (flatK bkL 2 d)))) ++ os).size
    rw [Array.size_append, Array.size_modify]
    omega
  · show ((w.heap.modify blk (onCells (putCells id off (flatK bkL 2 d)))) ++ os)[i]? = _
    rw [Array.getElem?_append_left (by rw [Array.size_modify]; exact hi), Array.getElem?_modify, if_neg (fun e => hne e.symm)]
end

/-- Sectors in a block, as the sort holds them. -/
theorem flat_bkC (zs : List Bk) : flatK bkL 2 zs.toArray = (bkC zs).toArray := by
  refine ext_get! (by rw [size_flatK, List.size_toArray, List.size_toArray, bkC_length]) fun t ht => ?_
  rw [size_flatK, List.size_toArray] at ht
  rw [get_flatK _ _ _ t (by rw [List.size_toArray]; exact ht)]
  have hi : t / 2 < zs.length := by omega
  have hx : zs[t / 2]? = some zs[t / 2] := List.getElem?_eq_getElem hi
  obtain ⟨g0, g1⟩ := bkC_get zs (t / 2) _ hx
  have hlen : t < (bkC zs).length := by rw [bkC_length]; exact ht
  rw [getElem!_pos zs.toArray (t / 2) (by rw [List.size_toArray]; exact hi), getElem!_pos (bkC zs).toArray t (by rw [List.size_toArray]; exact hlen)]
  rw [List.getElem_toArray, List.getElem_toArray]
  rcases Nat.mod_two_eq_zero_or_one t with h | h
  · have e : t / 2 * 2 = t := by omega
    rw [e, List.getElem?_eq_getElem hlen] at g0
    rw [h, Option.some.inj g0]
    rfl
  · have e : t / 2 * 2 + 1 = t := by omega
    rw [e, List.getElem?_eq_getElem hlen] at g1
    rw [h, Option.some.inj g1]
    rfl
theorem holds_of_row {w : World} {g : Nat} {cur : Array Value} {t : TypeId} {zs : List Bk} (hg : w.heap[g]? = some (.cells cur t (0, 0))) (hx : cur.toList.take (zs.length * 2) = bkC zs) : HoldsK bkL 2 w g 0 zs.toArray := fun j hj => by
  rw [size_flatK, List.size_toArray] at hj
  have hlen : j < (bkC zs).length := by rw [bkC_length]; exact hj
  refine ⟨?_, freeAt hg _⟩
  rw [flat_bkC, getElem!_pos (bkC zs).toArray j (by rw [List.size_toArray]; exact hlen), List.getElem_toArray, cellAt hg, Nat.zero_add]
  obtain ⟨u, hu⟩ : ∃ u, (bkC zs)[j] = u := ⟨_, rfl⟩
  have h1 : (bkC zs)[j]? = some u := by rw [List.getElem?_eq_getElem hlen, hu]
  rw [hu]
  rw [← hx, List.getElem?_take, if_pos hj] at h1
  simpa using h1
theorem at_of_holds {w : World} {g : Nat} {zs : List Bk} (h : HoldsK bkL 2 w g 0 zs.toArray) {j : Nat} {x : Bk} (hx : zs[j]? = some x) : w.cell? ⟨g, j * 2, none⟩ = some (.int .i64 x.1) ∧ w.cell? ⟨g, j * 2 + 1, none⟩ = some (bv x) := by
  have hj := (List.getElem?_eq_some_iff.1 hx).1
  rw [List.getElem?_eq_getElem hj] at hx
  have c0 := (HoldsK.cell h (i := j) (c := 0) (by rw [List.size_toArray]; exact hj) (by omega)).1
  have c1 := (HoldsK.cell h (i := j) (c := 1) (by rw [List.size_toArray]; exact hj) (by omega)).1
  rw [getElem!_pos zs.toArray j (by rw [List.size_toArray]; exact hj), List.getElem_toArray, Option.some.inj hx, Nat.zero_add] at c0 c1
  exact ⟨c0, c1⟩

/-- What a sorted slice of sectors is. -/
def SortedAt (w w' : World) (v : Value) (zs ys : List Bk) : Prop :=
  ys.Perm zs ∧ ys.Pairwise (fun a b => a.1 ≤ b.1) ∧ (∃ p cap, v = .slice p ys.length cap ∧ (ys ≠ [] → ∃ g, p = some ⟨g, 0, none⟩ ∧ w.heap.size ≤ g ∧ ds.Ty w' 38 g ∧ ∀ j x, ys[j]? = some x → w'.cell? ⟨g, j * 2, none⟩ = some (.int .i64 x.1) ∧ w'.cell? ⟨g, j * 2 + 1, none⟩ = some (bv x))) ∧ Fr (fun _ => False) w w'

theorem sort_own (w0 w : World) (v : Value) (zs : List Bk) (hn : zs.length ≤ 1000000) (hv : w.ownsRow w0.heap.size 38 2 v zs.length (bkC zs)) (hnil : v = .slice none 0 0 ↔ zs = []) (hF : Fr (fun _ => False) w0 w) :
    Calls Tryz.prog 67 #[v, .func (.func 51) #[] #[]] w fun e w' => e = .returned (.tuple #[]) ∧ ∃ ys, SortedAt w0 w' v zs ys := by
  by_cases hz : zs = []
  · subst hz
    obtain rfl := hnil.2 rfl
    refine (AnyF.slices_SortFunc_none Tryz.sortF none 0 _ w).mono ?_
    rintro e w' ⟨rfl, rfl⟩
    exact ⟨rfl, [], List.Perm.refl _, List.Pairwise.nil, ⟨none, 0, rfl, fun h => absurd rfl h⟩, hF⟩
  · rcases hv.2 with ⟨e, _⟩ | ⟨g, cap, cur, rfl, hb, hg, hc, _, hs, hx⟩
    · exact absurd (hnil.1 e) hz
    · have hlt := (Array.getElem?_eq_some_iff.1 hg).1
      have hH := holds_of_row hg hx
      refine (AnyQ.slices_SortFunc Tryz.sortF 2 (fun w => Tryz.isAgg38 w) (fun w => Tryz.sizeOf38 w) bkL (fun _ => rfl) (fun x u hu => by simp [bkL] at hu; rcases hu with rfl | rfl <;> rfl) cfB swo 51 #[] g 0 cap zs.toArray w
        (enters_of Tryz.func51 (by kernel_rfl) rfl) (fun m os dk _ x y => rising1_any x y _) hH hlt (by rw [List.size_toArray]; omega)).mono ?_
      rintro e w' ⟨rfl, d', n, os, hp, hso, rfl⟩
      have hsz : d'.size = zs.length := by rw [hp.1, List.size_toArray]
      refine ⟨rfl, d'.toList, ?_, ?_, ⟨_, cap, congrArg (fun n => Value.slice (some ⟨g, 0, none⟩) n cap) ((Array.length_toList (xs := d')).trans hsz).symm, fun _ => ⟨g, rfl, hb, ?_, fun j x hjx => ?_⟩⟩, ?_⟩
      · have := hp.2.2
        rw [List.size_toArray, ← hsz, Array.extract_size] at this
        rw [hsz] at this
        have e2 : zs.toArray.extract 0 zs.length = zs.toArray := by rw [show zs.length = zs.toArray.size by rw [List.size_toArray], Array.extract_size]
        rw [e2] at this
        exact this
      · rw [List.pairwise_iff_getElem]
        intro i j hi hj hij
        rw [Array.length_toList] at hi hj
        have h1 := hso i j (Nat.zero_le _) hij (by rw [List.size_toArray, ← hsz]; exact hj)
        rw [getElem!_pos d' j hj, getElem!_pos d' i hi] at h1
        rw [Array.getElem_toList, Array.getElem_toList]
        unfold Go.Proofs.ltOf cfB cmpI at h1
        simp only [decide_eq_false_iff_not] at h1
        repeat' split at h1
        all_goals omega
      · obtain ⟨cur', hcur⟩ := sortW_block (d := d') (n := n) (os := os) 0 hg
        exact ⟨cur', hcur⟩
      · have hH2 : HoldsK bkL 2 (sortWorldK bkL 2 w g 0 n d' os) g 0 d'.toList.toArray := by
          rw [Array.toArray_toList]
          exact holdsK_sortWorldK bkL 2 w g 0 n zs.toArray d' os hlt hH (by rw [hsz, List.size_toArray])
        exact at_of_holds hH2 hjx
      · exact hd.fr_go hF (sortW_fr 0) (fun i e => by omega)
end Go.Proofs.YtflapnbpaodhaaaGreatDoor.sq
