/-
  The statements' works.
-/
import Derived.Test.YtmfilcdljfpnfaaBitsR
namespace Go.Proofs.Ytmfilcdljfpnfaa
open Go.RowKit Go.Maps

theorem rd_lit (w : World) (l : List UInt8) : Rd (w.alloc (.cells (bs l).toArray 5)) (w.heap.size + 1) (some ⟨w.heap.size, 0, none⟩) l := fun _ => ⟨_, 0, rfl, by omega, fun j x hj => by
  rw [cellAt (heap_alloc_new _ _), Nat.zero_add, List.getElem?_toArray, bs_get, hj]
  rfl⟩
theorem rdI_lit (w : World) (l : List Int) (hl : ∀ x ∈ l, -9223372036854775808 ≤ x ∧ x ≤ 9223372036854775807) : RdI (w.alloc (.cells (is l).toArray 3)) (w.heap.size + 1) (some ⟨w.heap.size, 0, none⟩) l := ⟨fun _ => ⟨_, 0, rfl, by omega, fun j x hj => by
  rw [cellAt (heap_alloc_new _ _), Nat.zero_add, List.getElem?_toArray, is_get, hj]
  rfl⟩, hl⟩
theorem put_lit (w : World) : Calls Try.prog 12 #[.slice (some ⟨w.heap.size, 0, none⟩) 3 3, .int .i64 1, .int .i64 2, .int .i64 258] (w.alloc (.cells #[.int .u8 0, .int .u8 0, .int .u8 0] 5))
    (NewB2 (w.alloc (.cells #[.int .u8 0, .int .u8 0, .int .u8 0] 5)) [0, 2, 1]) :=
  put_ok _ (some ⟨w.heap.size, 0, none⟩) 3 3 (w.heap.size + 1) 1 2 258 [0, 0, 0] (rd_lit w [0, 0, 0]) rfl (by simp) (fun e => by cases e) (by omega) (by omega) (by omega) (by omega) (by decide +kernel)
theorem get_lit (w : World) : Calls Try.prog 10 #[.slice (some ⟨w.heap.size, 0, none⟩) 3 3, .int .i64 1, .int .i64 2] (w.alloc (.cells #[.int .u8 0, .int .u8 2, .int .u8 1] 5))
    fun e w' => e = .returned (.tuple #[.int .i64 258, .int .i64 0]) ∧ (w.alloc (.cells #[.int .u8 0, .int .u8 2, .int .u8 1] 5)) = w' :=
  get_ok _ (some ⟨w.heap.size, 0, none⟩) 3 3 (w.heap.size + 1) 1 2 [0, 2, 1] (rd_lit w [0, 2, 1]) rfl (by omega) (by omega) (by omega) (by omega)
theorem same_lit (w : World) (A : Option Addr) (cap B : Nat) (hr : Rd w B A [0, 2, 1]) (hB : B ≤ w.heap.size) : Calls Try.prog 14 #[.slice A 3 cap, .slice (some ⟨w.heap.size, 0, none⟩) 3 3] (w.alloc (.cells #[.int .u8 0, .int .u8 2, .int .u8 1] 5))
    fun e w' => e = .returned (.bool true) ∧ Calm (w.alloc (.cells #[.int .u8 0, .int .u8 2, .int .u8 1] 5)) w' :=
  same_any _ A (some ⟨w.heap.size, 0, none⟩) B (w.heap.size + 1) cap 3 [0, 2, 1] [0, 2, 1] (hr.still ((Fr.refl _ w).alloc _) hB) (rd_lit w [0, 2, 1]) (by simp)
theorem first_lit (w : World) : Calls Try.prog 20 #[.slice (some ⟨w.heap.size, 0, none⟩) 2 2, .int .i64 0, .int .i64 16] (w.alloc (.cells #[.int .u8 255, .int .u8 1] 5))
    fun e w' => e = .returned (.int .i64 9) ∧ (w.alloc (.cells #[.int .u8 255, .int .u8 1] 5)) = w' :=
  first_pos _ (some ⟨w.heap.size, 0, none⟩) 2 2 (w.heap.size + 1) 0 16 [255, 1] (rd_lit w [255, 1]) rfl (by omega) (by omega) 9 (by decide +kernel)
theorem runs_lit (w : World) : Calls Try.prog 25 #[.slice (some ⟨w.heap.size, 0, none⟩) 1 1, .int .i64 8] (w.alloc (.cells #[.int .u8 12] 5))
    (NewI (w.alloc (.cells #[.int .u8 12] 5)) [2, 2, 4]) := by
  have h := runs_any _ (some ⟨w.heap.size, 0, none⟩) 1 1 (w.heap.size + 1) 8 [12] (rd_lit w [12]) rfl (by simp) (by omega)
  rw [show runsOf [12] (spanN 1 8) = [2, 2, 4] by decide +kernel] at h
  exact h
theorem sameI_lit (w : World) (A : Option Addr) (cap : Nat) (hr : RdI w w.heap.size A [2, 2, 4]) : Calls Try.prog 24 #[.slice A 3 cap, .slice (some ⟨w.heap.size, 0, none⟩) 3 3] (w.alloc (.cells #[.int .i64 2, .int .i64 2, .int .i64 4] 3))
    fun e w' => e = .returned (.bool true) ∧ Calm (w.alloc (.cells #[.int .i64 2, .int .i64 2, .int .i64 4] 3)) w' :=
  sameI_any _ A (some ⟨w.heap.size, 0, none⟩) w.heap.size (w.heap.size + 1) cap 3 [2, 2, 4] [2, 2, 4] (hr.still ((Fr.refl _ w).alloc _) (Nat.le_refl _)) (rdI_lit w [2, 2, 4] (by simp)) (by simp)

set_option maxRecDepth 100000 in
set_option maxHeartbeats 1000000 in
theorem works_any (w : World) : Calls Try.prog 15 #[] w fun e w' => e = .returned (.bool true) ∧ Fr (fun _ => False) w w' := by
  go_enter Try.func15, Try.ntmps15
  go_wp2_with fail
  refine (put_lit w).mono ?_
  rintro e w1 ⟨A1, cap1, rfl, ho, _, hF⟩
  have HF := Lib.hid (((Fr.refl (fun _ => False) w).alloc _).trans hF (fun _ _ e => e))
  have HO := Lib.hid ho.rd
  clear ho hF
  go_wp2_with fail
  refine (get_lit w1).mono ?_
  rintro e w' ⟨rfl, rfl⟩
  have HF2 := Lib.hid (HF.out.alloc (.cells #[.int .u8 0, .int .u8 2, .int .u8 1] 5))
  have HO2 := Lib.hid ((HO.out.still ((Fr.refl _ w1).alloc (.cells #[.int .u8 0, .int .u8 2, .int .u8 1] 5)) (Nat.le_refl _)).more (B' := (w1.alloc (.cells #[.int .u8 0, .int .u8 2, .int .u8 1] 5)).heap.size) (by simp))
  clear HF HO
  generalize w1.alloc (.cells #[.int .u8 0, .int .u8 2, .int .u8 1] 5) = w2 at HF2 HO2 ⊢
  go_wp2_with fail
  refine (same_lit w2 A1 cap1 _ HO2.out (Nat.le_refl _)).mono ?_
  rintro e w3 ⟨rfl, hC⟩
  have HF3 := Lib.hid ((HF2.out.alloc _).trans hC.fr (fun _ _ e => e))
  clear hC HF2 HO2
  go_wp2_with fail
  refine (first_lit w3).mono ?_
  rintro e w' ⟨rfl, rfl⟩
  have HF4 := Lib.hid (HF3.out.alloc (.cells #[.int .u8 255, .int .u8 1] 5))
  clear HF3
  generalize w3.alloc (.cells #[.int .u8 255, .int .u8 1] 5) = w4 at HF4 ⊢
  go_wp2_with fail
  refine (runs_lit w4).mono ?_
  rintro e w5 ⟨A2, cap2, rfl, ho, hF⟩
  have HF5 := Lib.hid ((HF4.out.alloc _).trans hF (fun _ _ e => e))
  have HO5 := Lib.hid (ho.rd (by simp))
  clear ho hF HF4
  go_wp2_with fail
  refine (sameI_lit w5 A2 cap2 HO5.out).mono ?_
  rintro e w6 ⟨rfl, hC⟩
  have HF6 := Lib.hid ((HF5.out.alloc _).trans hC.fr (fun _ _ e => e))
  clear hC HF5 HO5
  go_wp2_with fail
  go_ret
  exact ⟨rfl, HF6.out⟩
end Go.Proofs.Ytmfilcdljfpnfaa
