/-
  valueOf.
-/
import Derived.Test.YtbmbibepcnpngaaArr
namespace Go.Proofs.Ytbmbibepcnpngaa
open Go.RowKit Go.Maps

theorem splice_whole {α : Type} (a b : List α) (h : a.length = b.length) : splice a 0 b = b := by
  simp [splice, h]

/-- The copy's hypotheses, as one fact. -/
structure CopyIn (w : World) (g : Nat) (old : List UInt8) (blk off : Nat) (l : List UInt8) : Prop where
  hg : w.heap[g]? = some (.cells (cellsOf old).toArray 68 (0, 0))
  hsrc : ∀ j v, (cellsOf l)[j]? = some v → w.cell? ((⟨blk, off, none⟩ : Addr).add j) = some v

theorem CopyIn.mk2 (w : World) (X Y : Obj) (blk off : Nat) (old l : List UInt8) (hY : Y = .cells (secC old) 68 (0, 0)) (hblk : blk < w.heap.size) (hc : ∀ j b, l[j]? = some b → w.cell? ⟨blk, off + j, none⟩ = some (.int .u8 (b.toNat : Int))) :
    CopyIn ((w.alloc X).alloc Y) (w.heap.size + 1) old blk off l := by
  subst hY
  refine ⟨heap_alloc2_new _ _ _, fun j v hv => ?_⟩
  rw [cellsOf_get] at hv
  cases hj : l[j]? with
  | none => simp [hj] at hv
  | some b =>
    simp only [hj, Option.map_some, Option.some.injEq] at hv
    subst hv
    have hadd : (⟨blk, off, none⟩ : Addr).add j = ⟨blk, off + j, none⟩ := by unfold Addr.add; split <;> simp_all
    rw [hadd, ← hc j b hj]
    refine World.cell?_of_block (w := w) ?_
    show ((w.alloc X).alloc _).heap[blk]? = _
    rw [Below.heap_alloc _ _ _ (by simp; omega), Below.heap_alloc _ _ _ hblk]

set_option maxHeartbeats 400000 in
theorem valueOf_any (w : World) (blk off len cap : Nat) (l : List UInt8) (hl : l.length = 256) (hlen : 256 ≤ len) (hblk : blk < w.heap.size) (hc : ∀ j b, l[j]? = some b → w.cell? ⟨blk, off + j, none⟩ = some (.int .u8 (b.toNat : Int))) :
    Calls Try.prog 39 #[.slice (some ⟨blk, off, none⟩) len cap] w fun e w' => e = .returned (secV l) ∧ Below w.heap.size w w' := by
  have HI := CopyIn.mk2 w (.cells (secC noughts) 68) (.cells (secC noughts) 68) blk off noughts l rfl hblk hc
  have hmin : 256 = Nat.min len 256 := (Nat.min_eq_right hlen).symm
  have HM : Hid ((cellsOf l).length = Nat.min len 256) := by show _ = _; rw [cellsOf_length, hl]; exact hmin
  have HF : Hid (0 + (cellsOf l).length ≤ (cellsOf noughts).length) := by show _ ≤ _; rw [cellsOf_length, cellsOf_length, hl, noughts_length]; omega
  have HE : Hid (splice (cellsOf noughts) 0 (cellsOf l) = cellsOf l) := splice_whole _ _ (by rw [cellsOf_length, cellsOf_length, hl, noughts_length])
  have HO : Hid (∀ w2, Below (w.heap.size + 1) ((w.alloc (.cells (secC noughts) 68)).alloc (.cells (secC noughts) 68)) w2 → w2.heap[w.heap.size]? = some (.cells (secC noughts) 68 (0, 0)) ∧ Below w.heap.size w w2) := fun w2 hB =>
    ⟨(hB.block _ (by omega)).trans (heap_alloc2_old _ _ _), (((Below.refl _ w).alloc (Nat.le_refl _) _).alloc (by simp) _).trans (hB.mono (by omega))⟩
  have HL := Lib.hid hl
  clear hc hl hmin
  go_enter Try.func39, Try.ntmps39
  go_wp2_with (first
    | ((with_reducible refine wpList_allocArr ?_ ?_ ?_); (exact rfl); (exact rfl))
    | ((with_reducible refine wpList_sliceArr ?_ (.tmp 3) ?_ _ ?_ ?_); (exact rfl); (exact rfl); (exact rfl))
    | ((with_reducible refine wpList_copy_splice ?_ (.tmp 4) (.tmp 5) 22 22 ?_ 5 Try.underlying22 infoByte (some ⟨w.heap.size + 1, 0, none⟩) (some ⟨blk, off, none⟩) 256 256 len cap ?_ ?_ (w.heap.size + 1) 0 (cellsOf noughts) 68 HI.hg (cellsOf l) HM.out ?_ HF.out (cellsOf_one l) (w.heap.size + 1) _ (Below.refl _ _) (Nat.le_refl _) ?_); (exact rfl); (exact rfl); (exact rfl); (exact rfl); (exact fun _ => ⟨rfl, _, rfl, HI.hsrc⟩); intro w2 HG HB; rw [HE.out] at HG; have HG1 : Hid (w2.heap[w.heap.size + 1]? = some (.cells (secC l) 68 (0, 0))) := HG; clear HG; have HG0 := Lib.hid (HO.out w2 HB); clear HB)
    | ((with_reducible refine wpList_loadArr ?_ (.tmp 3) ?_ (w.heap.size + 1) l HL.out ?_ HG1.out ?_); (exact rfl); (exact rfl); (exact rfl))
    | ((with_reducible refine wpList_storeArr ?_ (.tmp 2) (.tmp 7) ?_ w.heap.size l noughts HL.out noughts_length ?_ ?_ HG0.out.1 ?_); (exact rfl); (exact rfl); (exact rfl); (exact rfl); intro w3 h3 hF3 hs3; have H3 := Lib.hid h3; have HF3 := Lib.hid hF3; clear h3 hF3 hs3))
  go_frame
  refine bodyPost_ret (v := secV l) (results_arr rfl _ _ w.heap.size l HL.out rfl H3.out) rfl ⟨rfl, ?_⟩
  exact HG0.out.2.trans (HF3.out.below HG0.out.2.size (fun i hi e => by omega))

end Go.Proofs.Ytbmbibepcnpngaa
