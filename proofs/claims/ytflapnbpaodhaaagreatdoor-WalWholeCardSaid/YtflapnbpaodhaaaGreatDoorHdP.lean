/-
  The room on a disk; steps, one behind the other.
-/
import Derived.Test.YtflapnbpaodhaaaGreatDoorHdW
namespace Go.Proofs.YtflapnbpaodhaaaGreatDoor.hd
set_option maxRecDepth 100000
open Go.RowKit Go.Maps ds

theorem results_room {fn : Func} {p q : Tmp} (h : fn.results = #[.cell p 72, .tmp q]) (tmps : Array Value) (w : World) (g : Nat) (cs : Array Value) (v : Value) (hs : cs.size = 3)
    (hp : tmps.getD p undef = .pointer (some ⟨g, 0, none⟩)) (hq : tmps.getD q undef = v) (hg : w.heap[g]? = some (.cells cs 72 (0, 0))) :
    (results fn tmps).run Tryz.prog w = .ok (.tuple #[.agg cs, v]) w := by
  have hp' : tmps[p]?.getD undef = .pointer (some ⟨g, 0, none⟩) := by simpa using hp
  have hq' : tmps[q]?.getD undef = v := by simpa using hq
  have hr := run_loadVar_row (P := Tryz.prog) w g 72 72 cs (0, 0) _ hg Tryz.underlying72 rfl (by rw [hs]; kernel_rfl)
  simp [results, h, hp', hq', asAddr, hr]

set_option maxHeartbeats 1000000 in
theorem roomOn_ok (w : World) (pb N at_ rc : Nat) (c0 : w.cell? ⟨pb, 0, none⟩ = some (.int .i64 N)) (hpb : pb < w.heap.size) (h1 : 1 ≤ rc) (h2 : rc ≤ 100) (h3 : at_ + rc < N) (h4 : N ≤ 4096) :
    Calls Tryz.prog 41 #[.pointer (some ⟨pb, 0, none⟩), .int .i64 (at_ : Int), .int .i64 (rc : Int)] w fun e w' => e = .returned (.tuple #[roomV pb at_ rc, .int .i64 0]) ∧ Fr (fun _ => False) w w' := by
  have hF := (Fr.refl (fun _ => False) w).alloc (.cells #[.pointer none, .int .i64 0, .int .i64 0] 72)
  have HS := Lib.hid (sectors_cell pb N (by omega) _ ((World.cell?_of_block (w := w) (a := ⟨pb, 0, none⟩) (hF.block pb hpb id)).trans c0))
  have HF := Lib.hid hF
  have HC := Lib.hid (heap_alloc_new w (.cells #[.pointer none, .int .i64 0, .int .i64 0] 72))
  have m1 : IntKind.i64.wrap ((N : Int) - 1) = (N : Int) - 1 := IntWalk.i64_in _ ⟨by omega, by omega⟩
  have m2 : IntKind.i64.wrap ((N : Int) - 1 - rc) = (N : Int) - 1 - rc := IntWalk.i64_in _ ⟨by omega, by omega⟩
  have t1 : ¬ (rc : Int) < 1 := by omega
  have t2 : ¬ (100 : Int) < rc := by omega
  have t3 : ¬ (at_ : Int) < 0 := by omega
  have t4 : ¬ (N : Int) - 1 - rc < at_ := by omega
  clear hF c0 hpb
  go_enter Tryz.func41, Tryz.ntmps41
  go_wp2_with fail
  refine HS.out.mono ?_
  rintro e w2 ⟨rfl, rfl⟩
  go_wp2_with fail
  exact bodyPost_ret (v := .tuple #[roomV pb at_ rc, .int .i64 0]) (results_room rfl _ _ w.heap.size #[.pointer (some ⟨pb, 0, none⟩), .int .i64 (at_ : Int), .int .i64 (rc : Int)] (.int .i64 0) rfl rfl rfl (heap_alloc_new _ _)) rfl ⟨rfl, (Fr.refl _ w).alloc _⟩

set_option maxHeartbeats 400000 in
theorem sectors_nil (w : World) : Calls Tryz.prog 59 #[.pointer none] w fun e w' => e = .returned (.int .i64 0) ∧ w = w' := by
  go_enter Tryz.func59, Tryz.ntmps59
  go_wp2_with (go_at_call 29; refine (made_nil _).mono ?_; rintro e w' ⟨rfl, rfl⟩)
  go_ret
  exact ⟨rfl, rfl⟩
set_option maxHeartbeats 1000000 in
theorem roomOn_nil (w : World) (a b : Int) :
    Calls Tryz.prog 41 #[.pointer none, .int .i64 a, .int .i64 b] w fun e w' => ∃ v, e = .returned (.tuple #[v, .int .i64 1]) ∧ Fr (fun _ => False) w w' := by
  have HS := Lib.hid (sectors_nil (w.alloc (.cells #[.pointer none, .int .i64 0, .int .i64 0] 72)))
  go_enter Tryz.func41, Tryz.ntmps41
  go_wp2_with fail
  refine HS.out.mono ?_
  rintro e w2 ⟨rfl, rfl⟩
  go_wp2_with fail
  exact bodyPost_ret (v := .tuple #[.agg #[.pointer none, .int .i64 0, .int .i64 0], .int .i64 1]) (results_room rfl _ _ w.heap.size #[.pointer none, .int .i64 0, .int .i64 0] (.int .i64 1) rfl rfl rfl (heap_alloc_new _ _)) rfl ⟨_, rfl, (Fr.refl _ w).alloc _⟩
end Go.Proofs.YtflapnbpaodhaaaGreatDoor.hd
