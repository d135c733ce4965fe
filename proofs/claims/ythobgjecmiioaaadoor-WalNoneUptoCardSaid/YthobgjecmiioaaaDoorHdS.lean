/-
  The log's functions on no disk, and on a log that no call made.
-/
import Derived.Test.YthobgjecmiioaaaDoorHd7
namespace Go.Proofs.YthobgjecmiioaaaDoor.hd
set_option maxRecDepth 100000
open Go.RowKit Go.Maps ds
set_option maxRecDepth 100000

set_option maxHeartbeats 1000000 in
theorem roomOn_nil2 (w : World) (a b : Int) :
    Calls Tryd.prog 37 #[.pointer none, .int .i64 a, .int .i64 b] w fun e w' => e = .returned (.tuple #[.agg #[.pointer none, .int .i64 0, .int .i64 0], .int .i64 1]) ∧ Fr (fun _ => False) w w' := by
  have HS := Lib.hid (sectors_nil (w.alloc (.cells #[.pointer none, .int .i64 0, .int .i64 0] 43)))
  go_enter Tryd.func37, Tryd.ntmps37
  go_wp2_with fail
  refine HS.out.mono ?_
  rintro e w2 ⟨rfl, rfl⟩
  go_wp2_with fail
  exact bodyPost_ret (v := .tuple #[.agg #[.pointer none, .int .i64 0, .int .i64 0], .int .i64 1]) (results_room rfl _ _ w.heap.size #[.pointer none, .int .i64 0, .int .i64 0] (.int .i64 1) rfl rfl rfl (heap_alloc_new _ _)) rfl ⟨rfl, (Fr.refl _ w).alloc _⟩
set_option maxHeartbeats 1000000 in
theorem open_nil (w : World) (a b : Int) :
    Calls Tryd.prog 16 #[.pointer none, .int .i64 a, .int .i64 b] w fun e w' => e = .returned (.tuple #[.pointer none, .int .i64 1]) ∧ Fr (fun _ => False) w w' := by
  have HR := Lib.hid (roomOn_nil2 w a b)
  go_enter Tryd.func16, Tryd.ntmps16
  go_wp2_with fail
  refine HR.out.mono ?_
  rintro e w1 ⟨rfl, hF1⟩
  have HF := Lib.hid (hF1.alloc (.cells #[.pointer none, .int .i64 0, .int .i64 0] 43))
  clear hF1 HR
  go_wp2_with fail
  go_ret2
  exact ⟨rfl, HF.out⟩
set_option maxHeartbeats 1000000 in
theorem check_nil (w : World) (a b : Int) :
    Calls Tryd.prog 17 #[.pointer none, .int .i64 a, .int .i64 b] w fun e w' => e = .returned (.tuple #[.slice none 0 0, .int .i64 1]) ∧ Fr (fun _ => False) w w' := by
  have HR := Lib.hid (roomOn_nil2 w a b)
  go_enter Tryd.func17, Tryd.ntmps17
  go_wp2_with fail
  refine HR.out.mono ?_
  rintro e w1 ⟨rfl, hF1⟩
  have HF := Lib.hid (hF1.alloc (.cells #[.pointer none, .int .i64 0, .int .i64 0] 43))
  clear hF1 HR
  go_wp2_with fail
  go_ret2
  exact ⟨rfl, HF.out⟩
set_option maxHeartbeats 1000000 in
theorem format_nil (w : World) (a b : Int) :
    Calls Tryd.prog 18 #[.pointer none, .int .i64 a, .int .i64 b] w fun e w' => e = .returned (.int .i64 1) ∧ Fr (fun _ => False) w w' := by
  have HR := Lib.hid (roomOn_nil2 w a b)
  go_enter Tryd.func18, Tryd.ntmps18
  go_wp2_with fail
  refine HR.out.mono ?_
  rintro e w1 ⟨rfl, hF1⟩
  have HF := Lib.hid (hF1.alloc (.cells #[.pointer none, .int .i64 0, .int .i64 0] 43))
  clear hF1 HR
  go_wp2_with fail
  go_ret
  exact ⟨rfl, HF.out⟩
/-- A log that no call made. -/
def NoW (w : World) (v : Value) : Prop := v = .pointer none ∨ ∃ g, v = .pointer (some ⟨g, 0, none⟩) ∧ w.heap[g]? = some (.cells #[.pointer none, .int .i64 0, .int .i64 0, .int .i64 0, .bool false] 45 (0, 0))
theorem NoW.calm {w w' : World} {v : Value} (h : NoW w v) (hF : Fr (fun _ => False) w w') : NoW w' v := h.imp id fun ⟨g, e, hg⟩ => ⟨g, e, fr_blk hF hg⟩
theorem NoW.made {w : World} {v : Value} (h : NoW w v) : Calls Tryd.prog 31 #[v] w fun e w' => e = .returned (.bool false) ∧ w = w' := by
  rcases h with rfl | ⟨g, rfl, hg⟩
  · exact madeW_nil w
  · exact madeW_no w g (by rw [cellAt hg]; rfl)
section
variable {w : World} {v : Value} (h : NoW w v)
include h
set_option maxHeartbeats 1000000 in
theorem turn_none : Calls Tryd.prog 19 #[v] w fun e w' => e = .returned (.int .i64 0) ∧ w = w' := by
  have HM := Lib.hid h.made
  clear h
  go_enter Tryd.func19, Tryd.ntmps19
  go_wp2_with (go_at_call 31; refine HM.out.mono ?_; rintro e w' ⟨rfl, rfl⟩)
  go_ret
  exact ⟨rfl, rfl⟩
set_option maxHeartbeats 1000000 in
theorem home_none : Calls Tryd.prog 20 #[v] w fun e w' => e = .returned (.int .i64 0) ∧ w = w' := by
  have HM := Lib.hid h.made
  clear h
  go_enter Tryd.func20, Tryd.ntmps20
  go_wp2_with (go_at_call 31; refine HM.out.mono ?_; rintro e w' ⟨rfl, rfl⟩)
  go_ret
  exact ⟨rfl, rfl⟩
set_option maxHeartbeats 1000000 in
theorem cap_none : Calls Tryd.prog 21 #[v] w fun e w' => e = .returned (.int .i64 0) ∧ w = w' := by
  have HM := Lib.hid h.made
  clear h
  go_enter Tryd.func21, Tryd.ntmps21
  go_wp2_with (go_at_call 31; refine HM.out.mono ?_; rintro e w' ⟨rfl, rfl⟩)
  go_ret
  exact ⟨rfl, rfl⟩
set_option maxHeartbeats 1000000 in
theorem commit_none (l : Value) : Calls Tryd.prog 12 #[v, l] w fun e w' => e = .returned (.int .i64 1) ∧ w = w' := by
  have HM := Lib.hid h.made
  clear h
  go_enter Tryd.func12, Tryd.ntmps12
  go_wp2_with (go_at_call 31; refine HM.out.mono ?_; rintro e w' ⟨rfl, rfl⟩)
  go_ret
  exact ⟨rfl, rfl⟩
end
end Go.Proofs.YthobgjecmiioaaaDoor.hd
