/-
  Headers: headerFrom, number, with.
-/
import Derived.Test.YtflapnbpaodhaaaGreatDoorHdA
namespace Go.Proofs.YtflapnbpaodhaaaGreatDoor.hd
set_option maxRecDepth 100000
open Go.RowKit Go.Maps

theorem fr_go {S : Nat → Prop} {w a b : World} (h : Fr (fun _ => False) w a) (k : Fr S a b) (hS : ∀ i, S i → w.heap.size ≤ i) : Fr (fun _ => False) w b :=
  ((h.mono (S := S) (fun _ _ e => e.elim)).trans k (fun _ _ e => e)).mono (fun i hi e => by have := hS i e; omega)
/-- The copy's hypotheses, as one fact. -/
structure CopyIn (w : World) (g : Nat) (old : List UInt8) (blk off : Nat) (l : List UInt8) : Prop where
  hg : w.heap[g]? = some (.cells (cellsOf old).toArray 100 (0, 0))
  hsrc : ∀ j v, (cellsOf l)[j]? = some v → w.cell? ((⟨blk, off, none⟩ : Addr).add j) = some v

theorem CopyIn.mk2 (w : World) (X Y : Obj) (blk off : Nat) (old l : List UInt8) (hY : Y = .cells (secC old) 100 (0, 0)) (hblk : blk < w.heap.size) (hc : ∀ j b, l[j]? = some b → w.cell? ⟨blk, off + j, none⟩ = some (.int .u8 (b.toNat : Int))) :
    CopyIn ((w.alloc X).alloc Y) (w.heap.size + 1) old blk off l := by
  subst hY
  refine ⟨heap_alloc2_new _ _ _, fun j v hv => ?_⟩
  rw [cellsOf_get] at hv
  cases hj : l[j]? with
  | none => simp [hj] at hv
  | some b =>
    simp only [hj, Option.map_some, Option.some.injEq] at hv
    subst hv
    have hadd : (⟨blk, off, none⟩ : Addr).add j = ⟨blk, off + j, none⟩ := by unfold Addr.add; split <;> simp_all
    rw [hadd, ← hc j b hj]
    refine World.cell?_of_block (w := w) ?_
    show ((w.alloc X).alloc _).heap[blk]? = _
    rw [Below.heap_alloc _ _ _ (by simp; omega), Below.heap_alloc _ _ _ hblk]

set_option maxHeartbeats 400000 in
theorem headerFrom_any (w : World) (blk off len cap : Nat) (l : List UInt8) (hl : l.length = 256) (hlen : 256 ≤ len) (hblk : blk < w.heap.size) (hc : ∀ j b, l[j]? = some b → w.cell? ⟨blk, off + j, none⟩ = some (.int .u8 (b.toNat : Int))) :
    Calls Tryz.prog 60 #[.slice (some ⟨blk, off, none⟩) len cap] w fun e w' => e = .returned (secV l) ∧ Below w.heap.size w w' := by
  have HI := CopyIn.mk2 w (.cells (secC noughts) 100) (.cells (secC noughts) 100) blk off noughts l rfl hblk hc
  have hmin : 256 = Nat.min len 256 := (Nat.min_eq_right hlen).symm
  have HM : Hid ((cellsOf l).length = Nat.min len 256) := by show _ = _; rw [cellsOf_length, hl]; exact hmin
  have HF : Hid (0 + (cellsOf l).length ≤ (cellsOf noughts).length) := by show _ ≤ _; rw [cellsOf_length, cellsOf_length, hl, noughts_length]; omega
  have HE : Hid (splice (cellsOf noughts) 0 (cellsOf l) = cellsOf l) := splice_whole _ _ (by rw [cellsOf_length, cellsOf_length, hl, noughts_length])
  have HO : Hid (∀ w2, Below (w.heap.size + 1) ((w.alloc (.cells (secC noughts) 100)).alloc (.cells (secC noughts) 100)) w2 → w2.heap[w.heap.size]? = some (.cells (secC noughts) 100 (0, 0)) ∧ Below w.heap.size w w2) := fun w2 hB =>
    ⟨(hB.block _ (by omega)).trans (heap_alloc2_old _ _ _), (((Below.refl _ w).alloc (Nat.le_refl _) _).alloc (by simp) _).trans (hB.mono (by omega))⟩
  have HL := Lib.hid hl
  clear hc hl hmin
  go_enter Tryz.func60, Tryz.ntmps60
  go_wp2_with (first
    | ((with_reducible refine wpList_allocArr ?_ ?_ ?_); (exact rfl); (exact rfl))
    | ((with_reducible refine wpList_sliceArr ?_ (.tmp 3) ?_ _ ?_ ?_); (exact rfl); (exact rfl); (exact rfl))
    | ((with_reducible refine wpList_copy_splice ?_ (.tmp 4) (.tmp 5) 33 33 ?_ 5 Tryz.underlying33 infoByte (some ⟨w.heap.size + 1, 0, none⟩) (some ⟨blk, off, none⟩) 256 256 len cap ?_ ?_ (w.heap.size + 1) 0 (cellsOf noughts) 100 HI.hg (cellsOf l) HM.out ?_ HF.out (cellsOf_one l) (w.heap.size + 1) _ (Below.refl _ _) (Nat.le_refl _) ?_); (exact rfl); (exact rfl); (exact rfl); (exact rfl); (exact fun _ => ⟨rfl, _, rfl, HI.hsrc⟩); intro w2 HG HB; rw [HE.out] at HG; have HG1 : Hid (w2.heap[w.heap.size + 1]? = some (.cells (secC l) 100 (0, 0))) := HG; clear HG; have HG0 := Lib.hid (HO.out w2 HB); clear HB)
    | ((with_reducible refine wpList_loadArr ?_ (.tmp 3) ?_ (w.heap.size + 1) l HL.out ?_ HG1.out ?_); (exact rfl); (exact rfl); (exact rfl))
    | ((with_reducible refine wpList_storeArr ?_ (.tmp 2) (.tmp 7) ?_ w.heap.size l noughts HL.out noughts_length ?_ ?_ HG0.out.1 ?_); (exact rfl); (exact rfl); (exact rfl); (exact rfl); intro w3 h3 hF3 hs3; have H3 := Lib.hid h3; have HF3 := Lib.hid hF3; clear h3 hF3 hs3))
  go_frame
  refine bodyPost_ret (v := secV l) (results_arr rfl _ _ w.heap.size l HL.out rfl H3.out) rfl ⟨rfl, ?_⟩
  exact HG0.out.2.trans (HF3.out.below HG0.out.2.size (fun i hi e => by omega))


set_option maxHeartbeats 400000 in
/-- The number that stands in a header. -/
theorem number_ok (w : World) (l : List UInt8) (hl : l.length = 256) (a k : Nat) (h1 : 1 ≤ k) (h4 : k ≤ 4) (hak : a + k ≤ 256) :
    Calls Tryz.prog 78 #[secV l, .int .i64 (a : Int), .int .i64 (k : Int)] w fun e w' => e = .returned (.int .i64 ((numAt l a k : Nat) : Int)) ∧ Fr (fun _ => False) w w' := by
  have hR : Rd (w.alloc (.cells (secC l) 100)) (w.heap.size + 1) (some ⟨w.heap.size, 0, none⟩) l := rd_block (heap_alloc_new w _) (by omega)
  have HG := Lib.hid (get_ok (w.alloc (.cells (secC l) 100)) (some ⟨w.heap.size, 0, none⟩) 256 256 _ a k l hR hl (by omega) h1 h4 hak)
  have HF := Lib.hid ((Fr.refl (fun _ => False) w).alloc (.cells (secC l) 100))
  clear hR hl h1 h4 hak
  go_enter Tryz.func78, Tryz.ntmps78
  go_wp2_with (first
    | ((with_reducible refine wpList_boxArr ?_ (.tmp 0) ?_ l ?_ ?_); (exact rfl); (exact rfl); (exact rfl))
    | ((with_reducible refine wpList_sliceArr ?_ (.tmp 3) ?_ _ ?_ ?_); (exact rfl); (exact rfl); (exact rfl)))
  refine HG.out.mono ?_
  rintro e w' ⟨rfl, rfl⟩
  go_wp2_with fail
  go_ret
  exact ⟨rfl, HF.out⟩

set_option maxHeartbeats 400000 in
/-- A header with a number put in. -/
theorem with_ok (w : World) (l : List UInt8) (hl : l.length = 256) (a k N : Nat) (h1 : 1 ≤ k) (h4 : k ≤ 4) (hak : a + k ≤ 256) (hg : goesB (N : Int) k = true) :
    Calls Tryz.prog 75 #[secV l, .int .i64 (a : Int), .int .i64 (k : Int), .int .i64 (N : Int)] w fun e w' => e = .returned (secV (putL l a N k)) ∧ Fr (fun _ => False) w w' := by
  have hR : Rd ((w.alloc (.cells (secC l) 100)).alloc (.cells (secC noughts) 100)) (w.heap.size + 1) (some ⟨w.heap.size, 0, none⟩) l := rd_block (heap_alloc2_old w _ _) (by omega)
  have hlen : (putL l a N k).length = 256 := by rw [putL_length, hl]
  have HG := Lib.hid (put_ok ((w.alloc (.cells (secC l) 100)).alloc (.cells (secC noughts) 100)) (some ⟨w.heap.size, 0, none⟩) 256 256 _ a k N l hR hl (by simp) (by intro e; cases e) (by omega) h1 h4 hak hg)
  have HF := Lib.hid (((Fr.refl (fun _ => False) w).alloc (.cells (secC l) 100)).alloc (.cells (secC noughts) 100))
  have HR8 := Lib.hid (heap_alloc2_new w (.cells (secC l) 100) (.cells (secC noughts) 100))
  have HL := Lib.hid hlen
  clear hR hl h1 h4 hak hg hlen
  go_enter Tryz.func75, Tryz.ntmps75
  go_wp2_with (first
    | ((with_reducible refine wpList_boxArr ?_ (.tmp 0) ?_ l ?_ ?_); (exact rfl); (exact rfl); (exact rfl))
    | ((with_reducible refine wpList_allocArr ?_ ?_ ?_); (exact rfl); (exact rfl))
    | ((with_reducible refine wpList_sliceArr ?_ (.tmp 4) ?_ _ ?_ ?_); (exact rfl); (exact rfl); (exact rfl)))
  refine HG.out.mono ?_
  rintro e w2 ⟨A, cap, rfl, ho, _, hF2⟩
  obtain ⟨blk, off, rfl, hb, hc⟩ := ho.rd (by intro h; have := HL.out; rw [h] at this; simp at this)
  have hlt : w.heap.size + 1 < ((w.alloc (.cells (secC l) 100)).alloc (.cells (secC noughts) 100)).heap.size := by simp
  have HR2 := Lib.hid ((hF2.block _ hlt id).trans HR8.out)
  have HF3 := Lib.hid (HF.out.trans hF2 (fun _ _ e => e))
  have HH := Lib.hid (headerFrom_any w2 blk off 256 cap (putL l a N k) HL.out (Nat.le_refl _) hb hc)
  have hs2 := hF2.size
  rw [HL.out]
  clear ho hF2 hb hc
  go_wp2_with fail
  refine HH.out.mono ?_
  rintro e w3 ⟨rfl, hB3⟩
  have HR3 := Lib.hid ((hB3.block _ (by omega)).trans HR2.out)
  have HF4 := Lib.hid (HF3.out.trans (Fr.ofBelow (S := fun _ => False) hB3 (fun i hi _ => hi)) (fun _ _ e => e))
  clear hB3
  go_wp2_with ((with_reducible refine wpList_storeArr ?_ (.tmp 8) (.tmp 20) ?_ (w.heap.size + 1) (putL l a N k) noughts HL.out noughts_length ?_ ?_ HR3.out ?_); (exact rfl); (exact rfl); (exact rfl); (exact rfl); intro w4 h4 hF4 hs4; have H4 := Lib.hid h4; have HF5 := Lib.hid (fr_go HF4.out hF4 (fun i e => by omega)); clear h4 hF4 hs4)
  go_frame
  exact bodyPost_ret (v := secV (putL l a N k)) (results_arr rfl _ _ (w.heap.size + 1) (putL l a N k) HL.out rfl H4.out) rfl ⟨rfl, HF5.out⟩

end Go.Proofs.YtflapnbpaodhaaaGreatDoor.hd
