/-
  The law's works; base.Ints.
-/
import Derived.Test.YtnibbopdjeagoaaCdD
namespace Go.Proofs.Ytnibbopdjeagoaa.cd
set_option maxRecDepth 100000
open Go.RowKit Go.Maps Go.Proofs.Ytnibbopdjeagoaa.fl
set_option maxRecDepth 100000

theorem lit_rdI (w : World) (x : List Int) (cs : Array Value) (h : cs = (is x).toArray) (hb : ∀ y ∈ x, -9223372036854775808 ≤ y ∧ y ≤ 9223372036854775807) : RdI (w.alloc (.cells cs 3)) (w.alloc (.cells cs 3)).heap.size (some ⟨w.heap.size, 0, none⟩) x := ⟨fun _ => ⟨w.heap.size, 0, rfl, by rw [World.size_alloc]; omega, fun j y hj => by
  rw [cellAt (heap_alloc_new _ _), Nat.zero_add, h, List.getElem?_toArray, is_get, hj]
  rfl⟩, hb⟩
theorem ex_ok : okB [2, 1, 3, 3] = true := by decide
theorem ex_no1 : okB [1, 1, 1] = false := by decide
theorem ex_no2 : okB [2, 2] = false := by decide
theorem ex_sym : symV [2, 1, 3, 3] 2 = (6, 3, 0) := by decide
theorem ex_bits3 : bitsOf [3] = [1, 1, 0, 0, 0, 0, 0, 0] := by decide
theorem ex_read : rdC [2, 1, 3, 3] [1, 1, 0, 0, 0, 0, 0, 0] 0 = (2, 0, 3) := by decide
section
variable {R : RP} {V : VP} {C : CP}
set_option maxHeartbeats 4000000 in
theorem cworks (HF : FlowP R V) (HP : CodeP R V C) (w : World) : Calls Try.prog 21 #[] w fun e w' => e = .returned (.bool true) ∧ Fr (fun _ => False) w w' := by
  have HPP := Lib.hid (⟨HF, HP⟩ : _ ∧ _)
  have hF0 := (Fr.refl (fun _ => False) w).alloc (.cells #[.int .i64 2, .int .i64 1, .int .i64 3, .int .i64 3] 3)
  have HNW := Lib.hid (HP.new_ok (w.alloc (.cells #[.int .i64 2, .int .i64 1, .int .i64 3, .int .i64 3] 3)) (some ⟨w.heap.size, 0, none⟩) 4 [2, 1, 3, 3] (lit_rdI w [2, 1, 3, 3] _ rfl (by simp)) (fun e => by cases e) (Nat.le_refl _) (by simp) ex_ok)
  have HF0 := Lib.hid hF0
  clear HF HP hF0
  go_enter Try.func21, Try.ntmps21
  go_wp2_with fail
  refine HNW.out.mono ?_
  rintro e w1 ⟨a, S, rfl, hC, hS, hF1⟩
  have HC := Lib.hid (⟨hC, HF0.out.trans hF1 (fun _ _ e => e)⟩ : _ ∧ _)
  have HWD := Lib.hid (HPP.out.2.word w1 a _ S 2 hC (by omega))
  rw [ex_sym] at HWD
  clear hC hS hF1 HNW HF0
  go_wp2_with fail
  refine HWD.out.mono ?_
  rintro e w2 ⟨rfl, hF2⟩
  have HC2 := Lib.hid (⟨HPP.out.2.c_keep HC.out.1 hF2 (fun _ _ e => e), HC.out.2.trans hF2 (fun _ _ e => e)⟩ : C w2 a [2, 1, 3, 3] S ∧ Fr (fun _ => False) w w2)
  have HN2 := Lib.hid (HPP.out.2.new_no (w2.alloc (.cells #[.int .i64 1, .int .i64 1, .int .i64 1] 3)) (some ⟨w2.heap.size, 0, none⟩) 3 [1, 1, 1] (lit_rdI w2 [1, 1, 1] _ rfl (by simp)) (fun e => by cases e) (Nat.le_refl _) (by simp) ex_no1)
  clear hF2 HC HWD
  go_wp2_with fail
  refine HN2.out.mono ?_
  rintro e w3 ⟨rfl, hF3⟩
  have hF23 : Fr (fun _ => False) w2 w3 := ((Fr.refl (fun _ => False) w2).alloc _).trans hF3 (fun _ _ e => e)
  have HC3 := Lib.hid (⟨HPP.out.2.c_keep HC2.out.1 hF23 (fun _ _ e => e), HC2.out.2.trans hF23 (fun _ _ e => e)⟩ : C w3 a [2, 1, 3, 3] S ∧ Fr (fun _ => False) w w3)
  have HN3 := Lib.hid (HPP.out.2.new_no (w3.alloc (.cells #[.int .i64 2, .int .i64 2] 3)) (some ⟨w3.heap.size, 0, none⟩) 2 [2, 2] (lit_rdI w3 [2, 2] _ rfl (by simp)) (fun e => by cases e) (Nat.le_refl _) (by simp) ex_no2)
  clear hF3 hF23 HC2 HN2
  go_wp2_with fail
  refine HN3.out.mono ?_
  rintro e w4 ⟨rfl, hF4⟩
  have hF34 : Fr (fun _ => False) w3 w4 := ((Fr.refl (fun _ => False) w3).alloc _).trans hF4 (fun _ _ e => e)
  have hC4 := HPP.out.2.c_keep HC3.out.1 hF34 (fun _ _ e => e)
  have hF5 := (Fr.refl (fun _ => False) w4).alloc (.cells #[.int .u8 3] 5)
  have HC4 := Lib.hid (⟨HPP.out.2.c_keep hC4 hF5 (fun _ _ e => e), (HC3.out.2.trans hF34 (fun _ _ e => e)).trans hF5 (fun _ _ e => e)⟩ : C (w4.alloc (.cells #[.int .u8 3] 5)) a [2, 1, 3, 3] S ∧ Fr (fun _ => False) w (w4.alloc (.cells #[.int .u8 3] 5)))
  have HFN := Lib.hid (HPP.out.1.new (w4.alloc (.cells #[.int .u8 3] 5)) (some ⟨w4.heap.size, 0, none⟩) 1 [3] (lit_rd w4 [3] _ rfl) (fun e => by cases e) (Nat.le_refl _) (by simp))
  clear hF4 hF34 hC4 hF5 HC3 HN3
  go_wp2_with fail
  refine HFN.out.mono ?_
  rintro e w6 ⟨r, T, rfl, hR, hT, hF6⟩
  have HRD := Lib.hid (HPP.out.2.read w6 a [2, 1, 3, 3] S r [3] 0 T (HPP.out.2.c_keep HC4.out.1 hF6 (fun _ _ e => e)) hR (fun i hs ht => by have := (HPP.out.2.c_in HC4.out.1).1 i hs; have := hT i ht; omega))
  rw [ex_bits3, ex_read] at HRD
  have HF6 := Lib.hid (⟨HC4.out.2.trans hF6 (fun _ _ e => e), fun i hi => Nat.le_trans HC4.out.2.size (hT i hi)⟩ : Fr (fun _ => False) w w6 ∧ ∀ i, T i → w.heap.size ≤ i)
  clear hR hT hF6 HFN HC4
  go_wp2_with fail
  refine HRD.out.mono ?_
  rintro e w7 ⟨rfl, S', _, _, hF7⟩
  have HF7 := Lib.hid (HF6.out.1.trans hF7 (fun i hi ht => by have := HF6.out.2 i ht; omega))
  clear hF7 HRD HF6
  go_wp2_with fail
  go_ret
  exact ⟨rfl, HF7.out⟩
end
end Go.Proofs.Ytnibbopdjeagoaa.cd
