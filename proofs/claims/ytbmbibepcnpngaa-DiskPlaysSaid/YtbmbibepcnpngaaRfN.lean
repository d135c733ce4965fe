/-
  The document's disk: New.
-/
import Derived.Test.YtbmbibepcnpngaaRfB
import Derived.Deep.RegionHeld3
import Derived.Deep.AppendLies
import Derived.Deep.RegionLaw
namespace Go.Proofs.Ytbmbibepcnpngaa.rf
open Go.RowKit Go.Maps

theorem info2 : (Try.prog.info? 58).map (fun i => (i.zero, i.size, i.bytes)) = some (some (.slice none 0 0), 1, 24) := by kernel_rfl
theorem info1 : (Try.prog.info? 22).map (fun i => (i.zero, i.size, i.bytes)) = some (some (.slice none 0 0), 1, 24) := by kernel_rfl
def nought : List UInt8 := List.replicate 256 0
theorem byt_made (w : World) : Byt (fun _ => False) (w.alloc (.cells (zb 256) 5)) w.heap.size nought := ⟨id, _, heap_alloc_new w _, List.length_replicate, fun j b hj => by
  unfold zb
  rw [List.getElem?_toArray, bs_get]
  unfold nought at hj
  rw [hj]
  rfl⟩
/-- The struct so far, and the rows that it has. -/
structure NR (w wr : World) (v : Value) (j : Nat) : Prop where
  blk : wr.heap[w.heap.size]? = some (.cells #[v, .int .i64 (-1), .bool false, .int .i64 0] 52 (0, 0))
  row : ∃ xs, wr.ownsRow w.heap.size 58 1 v j xs ∧ ∀ i, i < j → ∃ h c, xs[i]? = some (.slice (some ⟨h, 0, none⟩) 1 c) ∧ Vls (fun _ => False) wr h [nought]
  fr : Fr (fun _ => False) w wr
theorem NR.c0 {w wr : World} {v : Value} {j : Nat} (h : NR w wr v j) : wr.cell? ⟨w.heap.size, 0, none⟩ = some v := by rw [cellAt h.blk]; rfl
theorem NR.f0 {w wr : World} {v : Value} {j : Nat} (h : NR w wr v j) : wr.frozen? ⟨w.heap.size, 0, none⟩ = false := freeAt h.blk 0

set_option maxHeartbeats 400000 in
theorem new_no (w : World) (n : Int) (h : n < 1 ∨ 4096 < n) : Calls Try.prog 10 #[.int .i64 n] w fun e w' => e = .returned (.tuple #[.pointer none, .int .i64 2]) ∧ w = w' := by
  rcases h with h | h
  · go_enter Try.func10, Try.ntmps10
    go_wp2_with fail
    go_ret2
    exact ⟨rfl, rfl⟩
  · have h2 : 1 ≤ n := by omega
    go_enter Try.func10, Try.ntmps10
    go_wp2_with fail
    go_ret2
    exact ⟨rfl, rfl⟩

theorem own_of_fr {w w' : World} {base : Nat} {E : TypeId} {v : Value} {n : Nat} {xs : List Value} {S : Nat → Prop} (h : w.ownsRow base E 1 v n xs) (hF : Fr S w w') (hS : ∀ i, S i → ¬ Ty w E i) : w'.ownsRow base E 1 v n xs := by
  obtain ⟨h1, h2⟩ := h
  refine ⟨h1, ?_⟩
  rcases h2 with h2 | ⟨g, cap, cur, hv, hg, hh, r⟩
  · exact Or.inl h2
  · exact Or.inr ⟨g, cap, cur, hv, hg, (hF.block g (Array.getElem?_eq_some_iff.1 hh).1 (fun e => hS g e ⟨cur, hh⟩)).trans hh, r⟩
theorem own_block {w : World} {base : Nat} {E : TypeId} {v : Value} {n k : Nat} {xs : List Value} (h : w.ownsRow base E 1 v n xs) (hk : v.ownBlock = some k) : base ≤ k ∧ Ty w E k := by
  rcases h.2 with ⟨e, _⟩ | ⟨g, cap, cur, e, hg, hh, _⟩
  · rw [e] at hk; cases hk
  · rw [e] at hk; cases hk; exact ⟨hg, cur, hh⟩
/-- The struct with one row more. -/
theorem NR.next {w wr wx w2 : World} {v v2 : Value} {j h c : Nat} (hR : NR w wr v j) {xs : List Value} (hx : ∀ i, i < j → ∃ h c, xs[i]? = some (.slice (some ⟨h, 0, none⟩) 1 c) ∧ Vls (fun _ => False) wr h [nought]) (hown : wr.ownsRow w.heap.size 58 1 v j xs) (hFx : Fr (fun _ => False) wr wx) (hv : Vls (fun _ => False) wx h [nought])
    (hown2 : w2.ownsRow w.heap.size 58 1 v2 (j + 1) (xs ++ [.slice (some ⟨h, 0, none⟩) 1 c])) (hg : wx.grownBy w2 v.ownBlock) : NR w (w2.setCell ⟨w.heap.size, 0, none⟩ v2) v2 (j + 1) := by
  have hox := own_of_fr hown hFx (fun _ e => e.elim)
  have hblx : wx.heap[w.heap.size]? = some (.cells #[v, .int .i64 (-1), .bool false, .int .i64 0] 52 (0, 0)) := (hFx.block _ (Array.getElem?_eq_some_iff.1 hR.blk).1 id).trans hR.blk
  have hF2 : Fr (fun i => v.ownBlock = some i) wx w2 := (Fr.refl _ wx).grown hg (fun k e => Or.inl e)
  have hty : ∀ i, v.ownBlock = some i → Ty wx 58 i := fun i e => (own_block hox e).2
  have hbl2 : w2.heap[w.heap.size]? = some (.cells #[v, .int .i64 (-1), .bool false, .int .i64 0] 52 (0, 0)) := (hF2.block _ (Array.getElem?_eq_some_iff.1 hblx).1 (fun e => (hty _ e).ne ⟨_, hblx⟩ tyU.2.2.2.2 rfl)).trans hblx
  have hF3 : Fr (fun i => i = w.heap.size) w2 (w2.setCell ⟨w.heap.size, 0, none⟩ v2) := fr_set w2 _ 0 v2
  have hxl : xs.length = j := by have := hown.1; omega
  have keep : ∀ h, Vls (fun _ => False) wx h [nought] → Vls (fun _ => False) (w2.setCell ⟨w.heap.size, 0, none⟩ v2) h [nought] := fun h hh =>
    (hh.kept hF2 (fun i e _ t => t.ne (hty i e) tyU.2.1 rfl) (fun i e t => t.ne (hty i e) tyU.2.2.2.1 rfl)).kept hF3 (fun i e _ t => t.ne (i := i) (j := w.heap.size) ⟨_, hbl2⟩ tyU.1 e) (fun i e t => t.ne (i := i) (j := w.heap.size) ⟨_, hbl2⟩ tyU.2.2.1 e)
  refine ⟨by rw [heap_setCell_same _ _ _ _ _ _ hbl2]; rfl, ⟨_, own_of_fr hown2 hF3 (fun i e t => t.ne (i := i) (j := w.heap.size) ⟨_, hbl2⟩ tyU.2.2.2.2 e), fun i hi => ?_⟩, ?_⟩
  · by_cases hij : i < j
    · obtain ⟨h', c', h1, h2⟩ := hx i hij
      exact ⟨h', c', by rw [List.getElem?_append_left (by omega)]; exact h1, keep _ (h2.kept hFx (fun _ e _ => e.elim) (fun _ e => e.elim))⟩
    · obtain rfl : i = j := by omega
      exact ⟨h, c, by rw [List.getElem?_append_right (by omega), hxl, Nat.sub_self]; rfl, keep _ hv⟩
  · exact ((hR.fr.trans hFx (fun _ _ e => e)).trans hF2 (fun i hi e => by have := (own_block hox e).1; omega)).trans hF3 (fun i hi e => by omega)
theorem NR.c2 {w wr wx w2 : World} {v : Value} {j : Nat} (hR : NR w wr v j) {xs : List Value} (hown : wr.ownsRow w.heap.size 58 1 v j xs) (hFx : Fr (fun _ => False) wr wx) (hg : wx.grownBy w2 v.ownBlock) : w2.cell? ⟨w.heap.size, 0, none⟩ = some v := by
  have hox := own_of_fr hown hFx (fun _ e => e.elim)
  have hblx := (hFx.block _ (Array.getElem?_eq_some_iff.1 hR.blk).1 id).trans hR.blk
  have hF2 : Fr (fun i => v.ownBlock = some i) wx w2 := (Fr.refl _ wx).grown hg (fun k e => Or.inl e)
  rw [cellAt ((hF2.block _ (Array.getElem?_eq_some_iff.1 hblx).1 (fun e => (own_block hox e).2.ne ⟨_, hblx⟩ tyU.2.2.2.2 rfl)).trans hblx)]
  rfl
theorem NR.f2 {w wr wx w2 : World} {v : Value} {j : Nat} (hR : NR w wr v j) {xs : List Value} (hown : wr.ownsRow w.heap.size 58 1 v j xs) (hFx : Fr (fun _ => False) wr wx) (hg : wx.grownBy w2 v.ownBlock) : w2.frozen? ⟨w.heap.size, 0, none⟩ = false := by
  have hox := own_of_fr hown hFx (fun _ e => e.elim)
  have hblx := (hFx.block _ (Array.getElem?_eq_some_iff.1 hR.blk).1 id).trans hR.blk
  have hF2 : Fr (fun i => v.ownBlock = some i) wx w2 := (Fr.refl _ wx).grown hg (fun k e => Or.inl e)
  exact freeAt ((hF2.block _ (Array.getElem?_eq_some_iff.1 hblx).1 (fun e => (own_block hox e).2.ne ⟨_, hblx⟩ tyU.2.2.2.2 rfl)).trans hblx) 0
theorem NR.drew {w wr : World} {v : Value} {j : Nat} (h : NR w wr v j) : NR w wr.drew v j := by
  obtain ⟨xs, h1, h2⟩ := h.row
  exact ⟨h.blk, ⟨xs, own_of_fr h1 (Fr.refl (fun _ => False) wr).drew (fun _ e => e.elim), fun i hi => by
    obtain ⟨h', c, h3, h4⟩ := h2 i hi
    exact ⟨h', c, h3, h4.kept (Fr.refl (fun _ => False) wr).drew (fun _ e _ => e.elim) (fun _ e => e.elim)⟩⟩, h.fr.drew⟩

theorem rows_made (wr : World) : Vls (fun _ => False) (((wr.alloc (.cells (zb 256) 5)).alloc (.cells #[.slice (some ⟨wr.heap.size, 0, none⟩) 256 256] 22)).alloc (.cells #[.slice (some ⟨wr.heap.size + 1, 0, none⟩) 1 1] 58)).drew (wr.heap.size + 1) [nought] := by
  have h := Vls.one (c := 256) (byt_made wr)
  rw [show (wr.alloc (.cells (zb 256) 5)).heap.size = wr.heap.size + 1 by simp] at h
  exact h.kept (((Fr.refl (fun _ => False) _).alloc _).drew) (fun _ e _ => e.elim) (fun _ e => e.elim)
theorem blk_made (wr : World) : (((wr.alloc (.cells (zb 256) 5)).alloc (.cells #[.slice (some ⟨wr.heap.size, 0, none⟩) 256 256] 22)).alloc (.cells #[.slice (some ⟨wr.heap.size + 1, 0, none⟩) 1 1] 58)).drew.heap[wr.heap.size + 2]? = some (.cells #[.slice (some ⟨wr.heap.size + 1, 0, none⟩) 1 1] 58 (0, 0)) := by
  have h := heap_alloc_new ((wr.alloc (.cells (zb 256) 5)).alloc (.cells #[.slice (some ⟨wr.heap.size, 0, none⟩) 256 256] 22)) (.cells #[.slice (some ⟨wr.heap.size + 1, 0, none⟩) 1 1] 58)
  rw [show ((wr.alloc (.cells (zb 256) 5)).alloc (.cells #[.slice (some ⟨wr.heap.size, 0, none⟩) 256 256] 22)).heap.size = wr.heap.size + 2 by simp] at h
  exact h
/-- The document's disk, new. -/
def NewR (w : World) (N : Nat) (e : Ending) (w' : World) : Prop := ∃ yb gv, e = .returned (.tuple #[.pointer (some ⟨yb, 0, none⟩), .int .i64 0]) ∧ RD (fun _ => False) w.heap.size w' yb gv N (fun _ => [nought]) (-1) false 0 ∧ Fr (fun _ => False) w w'
theorem NR.done {w wr : World} {v : Value} {N : Nat} (h : NR w wr v N) (hN : 1 ≤ N) : ∃ gv, RD (fun _ => False) w.heap.size wr w.heap.size gv N (fun _ => [nought]) (-1) false 0 := by
  obtain ⟨xs, hown, hx⟩ := h.row
  have hb := h.blk
  rcases id hown.2 with ⟨_, h0⟩ | ⟨g, cap, cur, rfl, hg, hh, hc, hm, hs, ht⟩
  · omega
  · refine ⟨g, Nat.le_refl _, hg, ⟨cap, hb⟩, ⟨cur, hh, fun j hj => ?_⟩⟩
    obtain ⟨h', c, h1, h2⟩ := hx j hj
    refine ⟨h', c, ?_, h2⟩
    rw [← ht] at h1
    rw [List.getElem?_take] at h1
    split at h1
    · rw [← Array.getElem?_toList]; exact h1
    · cases h1

set_option maxRecDepth 100000 in
set_option maxHeartbeats 2000000 in
theorem new_ok (w : World) (N : Nat) (h1 : 1 ≤ N) (h2 : N ≤ 4096) : Calls Try.prog 10 #[.int .i64 (N : Int)] w (NewR w N) := by
  obtain ⟨i0, hi, hz0, hz1, hz2⟩ := info_parts info2
  have HI := Lib.hid (⟨hi, hz0, hz1, hz2⟩ : _ ∧ _ ∧ _ ∧ _)
  clear hi hz0 hz1 hz2
  have hmk : ∀ w, (Instr.makeSlice 22 (.int .i64 256) (.int .i64 256)).run Try.prog w = .ok (.slice (some ⟨w.heap.size, 0, none⟩) 256 256) (w.alloc (.cells (zb 256) 5)) := fun w => run_make_bytes 256 (by omega) w
  have H0 := Lib.hid (show NR w (w.alloc (.cells #[.slice none 0 0, .int .i64 (-1), .bool false, .int .i64 0] 52)) (.slice none 0 0) 0 from ⟨heap_alloc_new w _, ⟨[], ⟨rfl, Or.inl ⟨rfl, rfl⟩⟩, fun i hi => by omega⟩, (Fr.refl _ w).alloc _⟩)
  go_enter Try.func10, Try.ntmps10
  go_wp2_with fail
  go_loopw [5] (fun i wr => ∃ j : Nat, j ≤ N ∧ i = .int .i64 j ∧ ∃ v, Hid (NR w wr v j)) (fun i _ => N - (intOf i).toNat)
  case atStart => exact ⟨0, Nat.zero_le _, rfl, _, H0⟩
  case round =>
    obtain ⟨j, hj, rfl, v, HR⟩ := hrel
    by_cases hlt : j < N
    · have c0 := HR.out.c0
      have f0 := HR.out.f0
      have hsz := HR.out.fr.size
      have hws : w.heap.size < wr.heap.size := (Array.getElem?_eq_some_iff.1 HR.out.blk).1
      obtain ⟨xs, hown, hxs⟩ := HR.out.row
      have HO := Lib.hid hown
      have HX := Lib.hid hxs
      have HK := Lib.hid (fun (w' : World) (hF : Fr (fun _ => False) wr w') => (World.cell?_of_block (w := wr) (w' := w') (a := ⟨w.heap.size, 0, none⟩) (hF.block _ hws id)).trans c0)
      have HFX := Lib.hid (show Fr (fun _ => False) wr (((wr.alloc (.cells (zb 256) 5)).alloc (.cells #[.slice (some ⟨wr.heap.size, 0, none⟩) 256 256] 22)).alloc (.cells #[.slice (some ⟨wr.heap.size + 1, 0, none⟩) 1 1] 58)).drew from ((((Fr.refl _ wr).alloc _).alloc _).alloc _).drew)
      have hc3 : ((((wr.alloc (.cells (zb 256) 5)).alloc (.cells #[.slice (some ⟨wr.heap.size, 0, none⟩) 256 256] 22)).alloc (.cells #[.slice (some ⟨wr.heap.size + 1, 0, none⟩) 1 1] 58)).drew).cell? ⟨w.heap.size, 0, none⟩ = some v := HK.out _ HFX.out
      have hc2 : (((wr.alloc (.cells (zb 256) 5)).alloc (.cells #[.slice (some ⟨wr.heap.size, 0, none⟩) 256 256] 22)).drew).cell? ⟨w.heap.size, 0, none⟩ = some v := HK.out _ (((Fr.refl _ wr).alloc _).alloc _).drew
      have hc1 : ((wr.alloc (.cells (zb 256) 5)).drew).cell? ⟨w.heap.size, 0, none⟩ = some v := HK.out _ ((Fr.refl _ wr).alloc _).drew
      have HV := Lib.hid (rows_made wr)
      have HBL := Lib.hid (blk_made wr)
      clear hown hxs
      go_wp2_with fail
      go_region_law
        (first
          | ((refine step_append_lies _ (by rfl) _ _ _ (by rfl) w.heap.size 58 i0 _ 1 24 Try.underlying50 HI.out.1 HI.out.2.1 HI.out.2.2.1 HI.out.2.2.2 rfl (by omega) v j xs (by rfl) (own_of_fr HO.out HFX.out (fun _ e => e.elim)) ⟨wr.heap.size + 2, 0, none⟩ 1 1 [.slice (some ⟨wr.heap.size + 1, 0, none⟩) 1 1] (by rfl) (by rfl) (World.news_of_block (cs := #[.slice (some ⟨wr.heap.size + 1, 0, none⟩) 1 1]) (t := 58) (fr := (0, 0)) HBL.out) (by simp [Value.oneCell']) (by omega) (by unfold maxLen; omega) (by omega) (by simp; omega) _ rfl ?_); intro gg cap2 w2 hown2 hgrow2 hat2 hlt2; have HN2 := Lib.hid (NR.next HR.out HX.out HO.out HFX.out HV.out hown2 hgrow2); have hg2 := NR.c2 HR.out HO.out HFX.out hgrow2; have hf2 := NR.f2 HR.out HO.out HFX.out hgrow2; clear hown2 hgrow2 hat2))
      all_goals
        go_wp2
        go_roundw
        case rel => exact ⟨j + 1, by omega, by go_num, _, (show _ from HN2.out)⟩
        case measure => simp [intOf]; omega
    · obtain rfl : j = N := by omega
      obtain ⟨gv, hd⟩ := HR.out.done h1
      have HD := Lib.hid hd
      clear hd
      go_wp2_with fail
      go_ret2
      exact ⟨_, gv, rfl, HD.out, HR.out.fr⟩
end Go.Proofs.Ytbmbibepcnpngaa.rf
