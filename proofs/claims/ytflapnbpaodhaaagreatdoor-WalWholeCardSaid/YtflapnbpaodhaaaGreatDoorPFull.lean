/-
  full, with its block's type.
-/
import Derived.Test.YtflapnbpaodhaaaGreatDoorJB
namespace Go.Proofs.YtflapnbpaodhaaaGreatDoor.play
set_option maxRecDepth 100000
open Go.RowKit Go.Maps

/-- A new sector of one byte, in a block of bytes. -/
def NewOne (w : World) (c : UInt8) (e : Ending) (w' : World) : Prop :=
  ∃ g, e = .returned (.slice (some ⟨g, 0, none⟩) 256 256) ∧ w.heap.size ≤ g ∧ w'.heap[g]? = some (.cells (secC (one c)) 5 (0, 0)) ∧ Fr (fun _ => False) w w'

set_option maxRecDepth 100000 in
set_option maxHeartbeats 1000000 in
theorem full_one (w : World) (c : UInt8) : Calls Tryz.prog 26 #[.int .u8 (c.toNat : Int)] w (NewOne w c) := by
  have HMK := run_makeByte w
  have h0 : FullAt w c 0 (w.alloc (.cells (secC noughts) 5)) := ⟨by rw [part_zero]; exact heap_alloc_new _ _, (Fr.refl _ w).alloc _⟩
  have H0 := Lib.hid h0
  clear h0
  go_enter Tryz.func26, Tryz.ntmps26
  go_wp2_with fail
  go_loopw [4] (fun i wr => ∃ k : Nat, k ≤ 256 ∧ i = .int .i64 k ∧ Hid (FullAt w c k wr)) (fun i _ => 256 - (intOf i).toNat)
  case atStart => exact ⟨0, Nat.zero_le _, rfl, H0⟩
  case round =>
    obtain ⟨k, hk, rfl, HF⟩ := hrel
    by_cases hlt : k < 256
    · have d1 : wr.cell? ⟨w.heap.size, k, none⟩ = some (.int .u8 (((part c k)[k]'(by rw [part_length c hk]; exact hlt)).toNat : Int)) := by
        rw [cellAt HF.out.own]
        simp [secC, cellsOf, part_length c hk, hlt]
      have f1 := freeAt HF.out.own k
      have hn : FullAt w c (k + 1) (wr.setCell ⟨w.heap.size, k, none⟩ (.int .u8 (c.toNat : Int))) := by
        refine ⟨?_, HF.out.fr.setCell (p := ⟨w.heap.size, k, none⟩) (Or.inr (Nat.le_refl _)) _⟩
        rw [heap_setCell_same _ _ _ _ _ _ HF.out.own, secC_set, part_set c hlt]
      have HN := Lib.hid hn
      clear hn
      go_wp2
      go_roundw
      case rel => exact ⟨k + 1, by omega, by go_num, HN⟩
      case measure => simp [intOf]; omega
    · have hkn : k = 256 := by omega
      subst hkn
      go_wp2
      go_ret
      refine ⟨w.heap.size, rfl, Nat.le_refl _, ?_, HF.out.fr⟩
      rw [← part_full]
      exact HF.out.own
end Go.Proofs.YtflapnbpaodhaaaGreatDoor.play
