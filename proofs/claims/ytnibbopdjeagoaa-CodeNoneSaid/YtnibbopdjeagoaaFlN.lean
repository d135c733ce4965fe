/-
  Readers and writers that no call made.
-/
import Derived.Test.YtnibbopdjeagoaaFlO
import Derived.Test.YtnibbopdjeagoaaFlR
namespace Go.Proofs.Ytnibbopdjeagoaa.fl
set_option maxRecDepth 100000
open Go.RowKit Go.Maps
set_option maxRecDepth 100000

/-- A reader that no call made. -/
def NoR (w : World) (v : Value) : Prop := v = .pointer none ∨ ∃ g, v = .pointer (some ⟨g, 0, none⟩) ∧ w.heap[g]? = some (.cells #[.int .i64 0, .bool false, .slice none 0 0] 79 (0, 0))
def NoV (w : World) (v : Value) : Prop := v = .pointer none ∨ ∃ g, v = .pointer (some ⟨g, 0, none⟩) ∧ w.heap[g]? = some (.cells #[.int .i64 0, .bool false, .slice none 0 0] 84 (0, 0))
theorem NoR.calm {w w' : World} {v : Value} (h : NoR w v) (hF : Fr (fun _ => False) w w') : NoR w' v := h.imp id fun ⟨g, e, hg⟩ => ⟨g, e, (hF.block g (lt_of_block hg) id).trans hg⟩
theorem NoV.calm {w w' : World} {v : Value} (h : NoV w v) (hF : Fr (fun _ => False) w w') : NoV w' v := h.imp id fun ⟨g, e, hg⟩ => ⟨g, e, (hF.block g (lt_of_block hg) id).trans hg⟩
set_option maxHeartbeats 1000000 in
theorem NoR.ok {w : World} {v : Value} (h : NoR w v) : Calls Try.prog 51 #[v] w fun e w' => e = .returned (.bool true) ∧ w = w' := by
  rcases h with rfl | ⟨g, rfl, hg⟩
  · go_enter Try.func51, Try.ntmps51
    go_wp2_with fail
    go_ret
    exact ⟨rfl, rfl⟩
  · have c1 : w.cell? ⟨g, 1, none⟩ = some (.bool false) := by rw [cellAt hg]; rfl
    clear hg
    go_enter Try.func51, Try.ntmps51
    go_wp2_with fail
    go_ret
    exact ⟨rfl, rfl⟩
set_option maxHeartbeats 1000000 in
theorem NoV.ok {w : World} {v : Value} (h : NoV w v) : Calls Try.prog 53 #[v] w fun e w' => e = .returned (.bool true) ∧ w = w' := by
  rcases h with rfl | ⟨g, rfl, hg⟩
  · go_enter Try.func53, Try.ntmps53
    go_wp2_with fail
    go_ret
    exact ⟨rfl, rfl⟩
  · have c1 : w.cell? ⟨g, 1, none⟩ = some (.bool false) := by rw [cellAt hg]; rfl
    clear hg
    go_enter Try.func53, Try.ntmps53
    go_wp2_with fail
    go_ret
    exact ⟨rfl, rfl⟩
set_option maxHeartbeats 1000000 in
theorem maytake_no {w : World} {v : Value} (h : NoR w v) (n : Int) : Calls Try.prog 60 #[v, .int .i64 n] w fun e w' => e = .returned (.int .i64 1) ∧ w = w' := by
  have HM := Lib.hid h.ok
  clear h
  go_enter Try.func60, Try.ntmps60
  go_wp2_with (go_at_call 51; refine HM.out.mono ?_; rintro e w' ⟨rfl, rfl⟩)
  go_ret
  exact ⟨rfl, rfl⟩
set_option maxHeartbeats 1000000 in
theorem take_no {w : World} {v : Value} (h : NoR w v) (n : Int) : Calls Try.prog 46 #[v, .int .i64 n] w fun e w' => e = .returned (.tuple #[.int .i64 0, .int .i64 1]) ∧ w = w' := by
  have HM := Lib.hid (maytake_no h n)
  clear h
  go_enter Try.func46, Try.ntmps46
  go_wp2_with (go_at_call 60; refine HM.out.mono ?_; rintro e w' ⟨rfl, rfl⟩)
  go_ret2
  exact ⟨rfl, rfl⟩
set_option maxHeartbeats 1000000 in
theorem at_no {w : World} {v : Value} (h : NoR w v) : Calls Try.prog 26 #[v] w fun e w' => e = .returned (.int .i64 0) ∧ w = w' := by
  have HM := Lib.hid h.ok
  clear h
  go_enter Try.func26, Try.ntmps26
  go_wp2_with (go_at_call 51; refine HM.out.mono ?_; rintro e w' ⟨rfl, rfl⟩)
  go_ret
  exact ⟨rfl, rfl⟩
set_option maxHeartbeats 1000000 in
theorem left_no {w : World} {v : Value} (h : NoR w v) : Calls Try.prog 32 #[v] w fun e w' => e = .returned (.int .i64 0) ∧ w = w' := by
  have HM := Lib.hid h.ok
  clear h
  go_enter Try.func32, Try.ntmps32
  go_wp2_with (go_at_call 51; refine HM.out.mono ?_; rintro e w' ⟨rfl, rfl⟩)
  go_ret
  exact ⟨rfl, rfl⟩
set_option maxHeartbeats 1000000 in
theorem mayput_no {w : World} {v : Value} (h : NoV w v) : Calls Try.prog 63 #[v, .int .i64 1, .int .i64 1] w fun e w' => e = .returned (.int .i64 1) ∧ w = w' := by
  have HM := Lib.hid h.ok
  clear h
  go_enter Try.func63, Try.ntmps63
  go_wp2_with (go_at_call 53; refine HM.out.mono ?_; rintro e w' ⟨rfl, rfl⟩)
  go_ret
  exact ⟨rfl, rfl⟩
set_option maxHeartbeats 1000000 in
theorem code_no {w : World} {v : Value} (h : NoV w v) : Calls Try.prog 52 #[v, .int .i64 1, .int .i64 1] w fun e w' => e = .returned (.int .i64 1) ∧ w = w' := by
  have HM := Lib.hid (mayput_no h)
  clear h
  go_enter Try.func52, Try.ntmps52
  go_wp2_with (go_at_call 63; refine HM.out.mono ?_; rintro e w' ⟨rfl, rfl⟩)
  go_ret
  exact ⟨rfl, rfl⟩
set_option maxHeartbeats 1000000 in
theorem len_no {w : World} {v : Value} (h : NoV w v) : Calls Try.prog 31 #[v] w fun e w' => e = .returned (.int .i64 0) ∧ w = w' := by
  have HM := Lib.hid h.ok
  clear h
  go_enter Try.func31, Try.ntmps31
  go_wp2_with (go_at_call 53; refine HM.out.mono ?_; rintro e w' ⟨rfl, rfl⟩)
  go_ret
  exact ⟨rfl, rfl⟩
set_option maxHeartbeats 1000000 in
theorem all_no {w : World} {v : Value} (h : NoV w v) : Calls Try.prog 30 #[v] w fun e w' => e = .returned (.slice none 0 0) ∧ w = w' := by
  have HM := Lib.hid h.ok
  clear h
  go_enter Try.func30, Try.ntmps30
  go_wp2_with (go_at_call 53; refine HM.out.mono ?_; rintro e w' ⟨rfl, rfl⟩)
  go_ret
  exact ⟨rfl, rfl⟩
end Go.Proofs.Ytnibbopdjeagoaa.fl
