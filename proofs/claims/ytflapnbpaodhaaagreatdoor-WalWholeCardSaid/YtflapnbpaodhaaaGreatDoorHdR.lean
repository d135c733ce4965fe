/-
  The room's header.
-/
import Derived.Test.YtflapnbpaodhaaaGreatDoorHdO
import Derived.Deep.RegionHeld3
namespace Go.Proofs.YtflapnbpaodhaaaGreatDoor.hd
set_option maxRecDepth 100000
open Go.RowKit Go.Maps

set_option maxHeartbeats 4000000 in
theorem header_any (w : World) (hT : cr.Tab w) (pb at_ rc : Nat) (turn : Nat) (ht : turn < 4294967296) (p : Option Addr) (cap : Nat) (l : List (Int × List UInt8)) (hB : Bks w w.heap.size p l) (hn : l.length ≤ 100) (hh : ∀ x ∈ l, 0 ≤ x.1 ∧ x.1 < 65536) (hd : ∀ x ∈ l, x.2.length ≤ 1000000) :
    Calls Tryz.prog 45 #[roomV pb at_ rc, .int .i64 (turn : Int), .slice p l.length cap] w fun e w' => ∃ g, e = .returned (.agg #[.int .i64 (at_ : Int), .slice (some ⟨g, 0, none⟩) 256 256]) ∧ w.heap.size ≤ g ∧ w'.heap[g]? = some (.cells (secC (hdrL turn l)) 100 (0, 0)) ∧ Fr (fun _ => False) w w' := by
  have hF : Fr (fun _ => False) w ((w.alloc (.cells #[.pointer (some ⟨pb, 0, none⟩), .int .i64 (at_ : Int), .int .i64 (rc : Int)] 72)).alloc (.cells #[.int .i64 0, .slice none 0 0] 38)) := ((Fr.refl _ w).alloc _).alloc _
  have HF := Lib.hid hF
  have HB0 := Lib.hid (show BoxR ((w.alloc (.cells #[.pointer (some ⟨pb, 0, none⟩), .int .i64 (at_ : Int), .int .i64 (rc : Int)] 72)).alloc (.cells #[.int .i64 0, .slice none 0 0] 38)) w.heap.size pb at_ rc from heap_alloc2_old _ _ _)
  have HC0 := Lib.hid (heap_alloc2_new w (.cells #[.pointer (some ⟨pb, 0, none⟩), .int .i64 (at_ : Int), .int .i64 (rc : Int)] 72) (.cells #[.int .i64 0, .slice none 0 0] 38))
  have HH := Lib.hid (headerOf_any _ (hT.fr hF) turn ht p cap l (hB.kept hF (Nat.le_refl _) |>.more (by simp; omega)) hn hh hd)
  clear hT hF hB hn hh hd
  unfold roomV
  go_enter Tryz.func45, Tryz.ntmps45
  go_wp2_with fail
  refine (HH.out).mono ?_
  rintro e w4 ⟨rfl, hF4⟩
  have HB4 := Lib.hid (HB0.out.calm hF4)
  have HC4 := Lib.hid ((hF4.block _ (by simp) id).trans HC0.out)
  have HF4 := Lib.hid (HF.out.trans hF4 (fun _ _ e => e))
  clear hF4 HB0 HC0
  go_wp2_with (first
    | ((with_reducible refine wpList_allocArr ?_ ?_ ?_); (exact rfl); (exact rfl))
    | ((with_reducible refine wpList_storeArr ?_ (.tmp 7) (.tmp 10) ?_ w4.heap.size (hdrL turn l) noughts (hdrL_length turn l) noughts_length ?_ ?_ (heap_alloc_new _ _) ?_); (exact rfl); (exact rfl); (exact rfl); (exact rfl); intro w6 h6 hF6 hs6; have H6 := Lib.hid h6; have HF6 := Lib.hid hF6; clear h6 hF6 hs6))
  have HB6 := Lib.hid ((HF6.out.block _ (by have := (Array.getElem?_eq_some_iff.1 HB4.out).1; simp; omega) (by have := (Array.getElem?_eq_some_iff.1 HB4.out).1; omega)).trans ((Below.heap_alloc w4 _ _ (Array.getElem?_eq_some_iff.1 HB4.out).1).trans HB4.out))
  have HC6 := Lib.hid ((HF6.out.block _ (by have := (Array.getElem?_eq_some_iff.1 HC4.out).1; simp; omega) (by have := (Array.getElem?_eq_some_iff.1 HC4.out).1; omega)).trans ((Below.heap_alloc w4 _ _ (Array.getElem?_eq_some_iff.1 HC4.out).1).trans HC4.out))
  have r1 : w6.drew.cell? ⟨w.heap.size, 1, none⟩ = some (.int .i64 (at_ : Int)) := (show BoxR w6 w.heap.size pb at_ rc from HB6.out).c.2.1
  have r2 : w6.drew.cell? ⟨w.heap.size + 1, 0, none⟩ = some (.int .i64 0) := by show w6.cell? _ = _; rw [cellAt HC6.out]; rfl
  have r3 : w6.drew.cell? ⟨w.heap.size + 1, 1, none⟩ = some (.slice none 0 0) := by show w6.cell? _ = _; rw [cellAt HC6.out]; rfl
  have r4 : w6.drew.frozen? ⟨w.heap.size + 1, 0, none⟩ = false := freeAt (w := w6) HC6.out 0
  have r5 : w6.drew.frozen? ⟨w.heap.size + 1, 1, none⟩ = false := freeAt (w := w6) HC6.out 1
  have r6 : w6.cell? ⟨w.heap.size + 1, 1, none⟩ = some (.slice none 0 0) := r3
  have r7 : w6.frozen? ⟨w.heap.size + 1, 1, none⟩ = false := r5
  have hsl := run_sliceArr
  go_region
  all_goals
    go_wp2
  have hres : (((w6.setCell ⟨w.heap.size + 1, 0, none⟩ (.int .i64 (at_ : Int))).setCell ⟨w.heap.size + 1, 1, none⟩ (.slice (some ⟨w4.heap.size, 0, none⟩) 256 256)).drew).heap[w.heap.size + 1]? = some (.cells #[.int .i64 (at_ : Int), .slice (some ⟨w4.heap.size, 0, none⟩) 256 256] 38 (0, 0)) := by
    have h1 : (w6.setCell ⟨w.heap.size + 1, 0, none⟩ (.int .i64 (at_ : Int))).heap[w.heap.size + 1]? = some (.cells #[.int .i64 (at_ : Int), .slice none 0 0] 38 (0, 0)) := heap_setCell_same _ _ _ _ _ (.int .i64 (at_ : Int)) HC6.out
    exact heap_setCell_same _ _ _ _ _ (.slice (some ⟨w4.heap.size, 0, none⟩) 256 256) h1
  refine bodyPost_ret (v := .agg #[.int .i64 (at_ : Int), .slice (some ⟨w4.heap.size, 0, none⟩) 256 256]) (results_cell_row rfl _ _ (w.heap.size + 1) 38 #[.int .i64 (at_ : Int), .slice (some ⟨w4.heap.size, 0, none⟩) 256 256] (0, 0) _ rfl hres Tryz.underlying38 rfl (by kernel_rfl)) rfl ⟨w4.heap.size, rfl, ?_, ?_, ?_⟩
  · have := HF4.out.size
    omega
  · have hne : w4.heap.size ≠ w.heap.size + 1 := by have := (Array.getElem?_eq_some_iff.1 HC4.out).1; omega
    exact ((Below.heap_setCell _ _ _ _ (fun e => hne e)).trans (Below.heap_setCell _ _ _ _ (fun e => hne e))).trans H6.out
  · have hw6 : Fr (fun _ => False) w w6 := fr_go (HF4.out.alloc _) HF6.out (fun i e => by have := HF4.out.size; omega)
    exact ((hw6.setCell (p := ⟨w.heap.size + 1, 0, none⟩) (Or.inr (by simp)) _).setCell (p := ⟨w.heap.size + 1, 1, none⟩) (Or.inr (by simp)) _).drew
end Go.Proofs.YtflapnbpaodhaaaGreatDoor.hd
