/-
  The program's filled, digest.
-/
import Derived.Test.YtoikgnmhnlcbhaaDoorDhG
import Derived.Test.YtoikgnmhnlcbhaaDoorDgQ
import Derived.Laws.CopyOwn
import Derived.Laws.CopyRow
namespace Go.Proofs.YtoikgnmhnlcbhaaDoor.dg
set_option maxRecDepth 100000
open Go.RowKit Go.Maps
set_option maxRecDepth 100000

/-! ### filled -/
abbrev fillL (key : Bts) : Bts := key ++ List.replicate (64 - key.length) 0
set_option maxHeartbeats 4000000 in
theorem pfilled (w : World) (A : Option Addr) (c : Nat) (key : Bts) (hr : Rd w w.heap.size A key) (h0 : key ≠ []) (h64 : key.length ≤ 64) :
    Calls Tryd.prog 29 #[.slice A key.length c] w fun e w' => e = .returned (.slice (some ⟨w.heap.size, 0, none⟩) 64 64) ∧ w'.heap[w.heap.size]? = some (.cells (bs (fillL key)).toArray 5 (0, 0)) ∧ Fr (fun _ => False) w w' := by
  obtain ⟨blk, off, rfl, hb, hc⟩ := hr h0
  have hmk : (Instr.makeSlice 22 (.int .i64 64) (.int .i64 64)).run Tryd.prog w = .ok (.slice (some ⟨w.heap.size, 0, none⟩) 64 64) (w.alloc (.cells (zb 64) 5)) := run_make_bytes 64 (by decide) w
  obtain ⟨W1, hW1⟩ : ∃ W, W = w.alloc (.cells (zb 64) 5) := ⟨_, rfl⟩
  have hF1 : Fr (fun _ => False) w W1 := by rw [hW1]; exact (Fr.refl _ _).alloc _
  have hg : W1.heap[w.heap.size]? = some (.cells (zb 64) 5 (0, 0)) := by rw [hW1]; exact heap_alloc_new _ _
  have hsrc : ∀ j v, (bs key)[j]? = some v → W1.cell? (Addr.add ⟨blk, off, none⟩ j) = some v := fun j v hv => (Rd.src (hr.still hF1 (Nat.le_refl _))) j v hv
  obtain ⟨n, hn⟩ : ∃ n, n = key.length := ⟨_, rfl⟩
  have hmin : (bs key).length = Nat.min n 64 := by rw [bs_length, ← hn]; exact (Nat.min_eq_left (by omega)).symm
  have hzs : (zb 64).size = 64 := by decide +kernel
  have hfit : 0 + (bs key).length ≤ (zb 64).size := by rw [hzs, bs_length]; omega
  have hne : ((zb 64).toList.take 0 ++ bs key ++ (zb 64).toList.drop (0 + (bs key).length)).toArray = (bs (fillL key)).toArray := by
    congr 1
    rw [List.take_zero, List.nil_append, Nat.zero_add, bs_length]
    show bs key ++ (bs (List.replicate 64 0)).drop key.length = bs (key ++ _)
    rw [bs_append]
    congr 1
    unfold bs
    rw [← List.map_drop, List.drop_replicate]
  have HO := Lib.hid (show (W1.setRow w.heap.size ((zb 64).toList.take 0 ++ bs key ++ (zb 64).toList.drop (0 + (bs key).length)).toArray).heap[w.heap.size]? = some (.cells (bs (fillL key)).toArray 5 (0, 0)) ∧ Fr (fun _ => False) w (W1.setRow w.heap.size ((zb 64).toList.take 0 ++ bs key ++ (zb 64).toList.drop (0 + (bs key).length)).toArray) from by
    refine ⟨by rw [setRow_heap W1 _ _ _ _ _ hg, hne], ?_⟩
    exact hF1.trans (S' := (· = w.heap.size)) ⟨rfl, rfl, rfl, by simp [World.setRow], fun i _ hi => setRow_other W1 _ i _ hi⟩ (fun i hi e => by omega))
  have hcp := run_copy_row (P := Tryd.prog) W1 22 22 3 5 w.heap.size 0 64 64 ⟨blk, off, none⟩ n c (zb 64) 5 (bs key) Tryd.underlying22 infoByte hg hmin hsrc hfit (bs_one key)
  obtain ⟨W2, hW2⟩ : ∃ W, W = W1.setRow w.heap.size ((zb 64).toList.take 0 ++ bs key ++ (zb 64).toList.drop (0 + (bs key).length)).toArray := ⟨_, rfl⟩
  rw [← hW2] at hcp HO
  rw [hW1] at hcp
  rw [← hn]
  clear hr hb hc h0 h64 hn hne hW2 hsrc hg hF1 hW1
  go_enter Tryd.func29, Tryd.ntmps29
  go_wp2_with fail
  go_ret
  exact ⟨rfl, HO.out⟩
end Go.Proofs.YtoikgnmhnlcbhaaDoor.dg
