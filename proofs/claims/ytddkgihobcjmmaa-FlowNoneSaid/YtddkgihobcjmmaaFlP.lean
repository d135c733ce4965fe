/-
  FlowNone.
-/
import Derived.Test.YtddkgihobcjmmaaFlN
namespace Go.Proofs.Ytddkgihobcjmmaa.fl
set_option maxRecDepth 100000
open Go.RowKit Go.Maps
set_option maxRecDepth 100000

set_option maxHeartbeats 4000000 in
theorem none_walk {R : RP} {V : VP} (HP : FlowP R V) (w : World) (x : AF) :
    Calls Try.prog 7 #[.agg #[.int .i64 x.do_, .int .i64 x.n, .int .i64 x.bits, .slice x.A x.d.length x.cap]] w fun e w' => e = .returned (.bool true) ∧ Fr (fun _ => False) w w' := by
  have HPP := Lib.hid HP
  clear HP
  go_enter Try.func7, Try.ntmps7
  go_wp2_with fail
  obtain ⟨w0, hw0⟩ : ∃ w0, w0 = w.alloc (.cells #[.int .i64 x.do_, .int .i64 x.n, .int .i64 x.bits, .slice x.A x.d.length x.cap] 33) := ⟨_, rfl⟩
  have hz : (w.heap.size < w0.heap.size ∧ w0.cell? ⟨w.heap.size, 1, none⟩ = some (.int .i64 x.n) ∧ w0.cell? ⟨w.heap.size, 3, none⟩ = some (.slice x.A x.d.length x.cap)) ∧ Fr (fun _ => False) w w0 := by
    rw [hw0]
    exact ⟨⟨by simp, by rw [cellAt (heap_alloc_new _ _)]; rfl, by rw [cellAt (heap_alloc_new _ _)]; rfl⟩, (Fr.refl _ w).alloc _⟩
  rw [← hw0]
  have HZ := Lib.hid hz
  clear hw0 hz
  refine (fworks HPP.out w0).mono ?_
  rintro e w1 ⟨rfl, hF1⟩
  obtain ⟨g, hg⟩ : ∃ g, g = w.heap.size := ⟨_, rfl⟩
  have c1 : w1.cell? ⟨w.heap.size, 1, none⟩ = some (.int .i64 x.n) := (World.cell?_of_block (w := w0) (w' := w1) (a := ⟨w.heap.size, 1, none⟩) (hF1.block _ HZ.out.1.1 id)).trans HZ.out.1.2.1
  have c3 : w1.cell? ⟨w.heap.size, 3, none⟩ = some (.slice x.A x.d.length x.cap) := (World.cell?_of_block (w := w0) (w' := w1) (a := ⟨w.heap.size, 3, none⟩) (hF1.block _ HZ.out.1.1 id)).trans HZ.out.1.2.2
  have F1 := Lib.hid (show w.heap.size < w1.heap.size ∧ Fr (fun _ => False) w w1 from ⟨Nat.lt_of_lt_of_le HZ.out.1.1 hF1.size, HZ.out.2.trans hF1 (fun _ _ e => e)⟩)
  rw [← hg] at c1 c3 F1 ⊢
  clear hF1 HZ hg
  have k1 : ((w1.alloc (.cells #[.int .i64 0, .bool false, .slice none 0 0] 60)).alloc (.cells #[.int .i64 0, .bool false, .slice none 0 0] 61)).cell? ⟨g, 1, none⟩ = some (.int .i64 x.n) := (World.cell?_of_block (a := ⟨g, 1, none⟩) ((((Fr.refl (fun _ => False) w1).alloc _).alloc _).block g F1.out.1 id)).trans c1
  have k3 : ((w1.alloc (.cells #[.int .i64 0, .bool false, .slice none 0 0] 60)).alloc (.cells #[.int .i64 0, .bool false, .slice none 0 0] 61)).cell? ⟨g, 3, none⟩ = some (.slice x.A x.d.length x.cap) := (World.cell?_of_block (a := ⟨g, 3, none⟩) ((((Fr.refl (fun _ => False) w1).alloc _).alloc _).block g F1.out.1 id)).trans c3
  go_wp2_with fail
  obtain ⟨wz, hwz⟩ : ∃ wz, wz = (w1.alloc (.cells #[.int .i64 0, .bool false, .slice none 0 0] 60)).alloc (.cells #[.int .i64 0, .bool false, .slice none 0 0] 61) := ⟨_, rfl⟩
  have HN := Lib.hid (show NoR wz (.pointer none) ∧ NoR wz (.pointer (some ⟨w1.heap.size, 0, none⟩)) ∧ NoV wz (.pointer none) ∧ NoV wz (.pointer (some ⟨w1.heap.size + 1, 0, none⟩)) ∧ Fr (fun _ => False) w wz by
    rw [hwz]
    refine ⟨Or.inl rfl, Or.inr ⟨_, rfl, ?_⟩, Or.inl rfl, Or.inr ⟨_, rfl, ?_⟩, (F1.out.2.alloc _).alloc _⟩
    · exact heap_alloc_keep (heap_alloc_new _ _)
    · have h := heap_alloc_new (w1.alloc (.cells #[.int .i64 0, .bool false, .slice none 0 0] 60)) (.cells #[.int .i64 0, .bool false, .slice none 0 0] 61)
      simpa using h)
  rw [← hwz] at k1 k3 ⊢
  clear hwz c1 c3 F1
  refine (take_no HN.out.1 x.n).mono ?_
  rintro e w' ⟨rfl, rfl⟩
  go_wp2_with fail
  refine (take_no HN.out.2.1 x.n).mono ?_
  rintro e w' ⟨rfl, rfl⟩
  go_wp2_with fail
  refine (bytes_no HN.out.1 x.n).mono ?_
  rintro e w' ⟨rfl, rfl⟩
  go_wp2_with fail
  refine (bytes_no HN.out.2.1 x.n).mono ?_
  rintro e w' ⟨rfl, rfl⟩
  go_wp2_with fail
  refine (skip_no HN.out.1).mono ?_
  rintro e w' ⟨rfl, rfl⟩
  go_wp2_with fail
  refine (skip_no HN.out.2.1).mono ?_
  rintro e w' ⟨rfl, rfl⟩
  go_wp2_with fail
  refine (align_no HN.out.1).mono ?_
  rintro e w' ⟨rfl, rfl⟩
  go_wp2_with fail
  refine (align_no HN.out.2.1).mono ?_
  rintro e w' ⟨rfl, rfl⟩
  go_wp2_with fail
  refine (putw_no HN.out.2.2.1).mono ?_
  rintro e w' ⟨rfl, rfl⟩
  go_wp2_with fail
  refine (putw_no HN.out.2.2.2.1).mono ?_
  rintro e w' ⟨rfl, rfl⟩
  go_wp2_with fail
  refine (code_no HN.out.2.2.1).mono ?_
  rintro e w' ⟨rfl, rfl⟩
  go_wp2_with fail
  refine (code_no HN.out.2.2.2.1).mono ?_
  rintro e w' ⟨rfl, rfl⟩
  go_wp2_with fail
  refine (walign_no HN.out.2.2.1).mono ?_
  rintro e w' ⟨rfl, rfl⟩
  go_wp2_with fail
  refine (walign_no HN.out.2.2.2.1).mono ?_
  rintro e w' ⟨rfl, rfl⟩
  go_wp2_with fail
  refine (wbytes_no HN.out.2.2.1 _).mono ?_
  rintro e w' ⟨rfl, rfl⟩
  go_wp2_with fail
  refine (wbytes_no HN.out.2.2.2.1 _).mono ?_
  rintro e w' ⟨rfl, rfl⟩
  go_wp2_with fail
  refine (peek_no HN.out.1).mono ?_
  rintro e w' ⟨rfl, rfl⟩
  go_wp2_with fail
  refine (peek_no HN.out.2.1).mono ?_
  rintro e w' ⟨rfl, rfl⟩
  go_wp2_with fail
  refine (at_no HN.out.1).mono ?_
  rintro e w' ⟨rfl, rfl⟩
  go_wp2_with fail
  refine (at_no HN.out.2.1).mono ?_
  rintro e w' ⟨rfl, rfl⟩
  go_wp2_with fail
  refine (left_no HN.out.1).mono ?_
  rintro e w' ⟨rfl, rfl⟩
  go_wp2_with fail
  refine (left_no HN.out.2.1).mono ?_
  rintro e w' ⟨rfl, rfl⟩
  go_wp2_with fail
  refine (len_no HN.out.2.2.1).mono ?_
  rintro e w' ⟨rfl, rfl⟩
  go_wp2_with fail
  refine (len_no HN.out.2.2.2.1).mono ?_
  rintro e w' ⟨rfl, rfl⟩
  go_wp2_with fail
  refine (all_no HN.out.2.2.1).mono ?_
  rintro e w' ⟨rfl, rfl⟩
  go_wp2_with fail
  refine (all_no HN.out.2.2.2.1).mono ?_
  rintro e w' ⟨rfl, rfl⟩
  go_wp2_with fail
  go_ret
  exact ⟨rfl, HN.out.2.2.2.2⟩
end Go.Proofs.Ytddkgihobcjmmaa.fl
