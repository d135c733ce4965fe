/-
  How two sectors compare; a world behind a sort.
-/
import Derived.Test.YtflapnbpaodhaaaGreatDoorSq
import Derived.Shelf.SlSortCmp.WholeK
namespace Go.Proofs.YtflapnbpaodhaaaGreatDoor.sq
set_option maxRecDepth 100000
open Go.RowKit Go.Shelf Go.Sort
set_option maxRecDepth 100000

/-- cmp.Compare of whole numbers. -/
def cmpI (x y : Int) : Int := if x < y then -1 else if y < x then 1 else 0
set_option maxHeartbeats 1000000 in
theorem nan_int (x : Int) (w : World) : Calls Tryz.prog 69 #[.int .i64 x] w fun e w' => e = .returned (.bool false) ∧ w = w' := by
  go_enter Tryz.func69, Tryz.ntmps69
  go_wp2
  go_ret
  exact ⟨by simp, rfl⟩
set_option maxHeartbeats 1000000 in
theorem cmp_int (x y : Int) (w : World) : Calls Tryz.prog 52 #[.int .i64 x, .int .i64 y] w fun e w' => e = .returned (.int .i64 (cmpI x y)) ∧ w = w' := by
  have H1 := Lib.hid (nan_int x w)
  have H2 := Lib.hid (nan_int y w)
  unfold cmpI
  by_cases h1 : x < y
  · have h2 : ¬ y < x := by omega
    go_enter Tryz.func52, Tryz.ntmps52
    go_wp2_with (go_at_call 69; (first | refine H1.out.mono ?_ | refine H2.out.mono ?_); rintro e w' ⟨rfl, rfl⟩)
    go_ret
    exact ⟨by simp, rfl⟩
  · by_cases h2 : y < x
    · go_enter Tryz.func52, Tryz.ntmps52
      go_wp2_with (go_at_call 69; (first | refine H1.out.mono ?_ | refine H2.out.mono ?_); rintro e w' ⟨rfl, rfl⟩)
      go_ret
      exact ⟨by simp, rfl⟩
    · go_enter Tryz.func52, Tryz.ntmps52
      go_wp2_with (go_at_call 69; (first | refine H1.out.mono ?_ | refine H2.out.mono ?_); rintro e w' ⟨rfl, rfl⟩)
      go_ret
      exact ⟨by simp, rfl⟩

/-- A sector's cells. -/
def bkL (x : Bk) : List Value := [.int .i64 x.1, bv x]
def cfB (x y : Bk) : Int := cmpI x.1 y.1
set_option maxHeartbeats 1000000 in
theorem rising1_any (x y : Bk) (w : World) : Calls Tryz.prog 51 #[.agg (bkL x).toArray, .agg (bkL y).toArray] w fun e w' => e = .returned (.int .i64 (cfB x y)) ∧ ∃ q os', w' = Go.Sort.grow (w.drewN q) os' := by
  have HC := Lib.hid (cmp_int x.1 y.1 ((w.alloc (.cells #[.int .i64 x.1, bv x] 38)).alloc (.cells #[.int .i64 y.1, bv y] 38)))
  unfold bkL
  go_enter Tryz.func51, Tryz.ntmps51
  go_wp2_with (go_at_call 52; refine HC.out.mono ?_; rintro e w' ⟨rfl, rfl⟩)
  go_ret
  refine ⟨rfl, 0, #[Obj.cells #[.int .i64 x.1, bv x] 38 (0, 0), Obj.cells #[.int .i64 y.1, bv y] 38 (0, 0)], ?_⟩
  rw [alloc_eq_grow, alloc_eq_grow, grow_grow]
  rfl

theorem swo : SWO (Go.Proofs.ltOf cfB) := by
  refine ⟨fun x => ?_, fun x y z h k => ?_, fun x y z h k => ?_⟩
  all_goals
    unfold Go.Proofs.ltOf cfB cmpI at *
    simp only [decide_eq_true_eq, decide_eq_false_iff_not] at *
    repeat' split at *
    all_goals omega
end Go.Proofs.YtflapnbpaodhaaaGreatDoor.sq
