/-
  The program's cut, filled, digest.
-/
import Derived.Test.YtoikgnmhnlcbhaaDoorDhF
import Derived.Laws.CopyOwn
namespace Go.Proofs.YtoikgnmhnlcbhaaDoor.dg
set_option maxRecDepth 100000
open Go.RowKit Go.Maps
set_option maxRecDepth 100000

/-! ### cut -/
theorem cut_far (A : Option Addr) (n c k : Nat) (hk : k ≤ n) : ∀ w : World, (Instr.slice 22 (.slice A n c) (some (.int .i64 (k : Int))) none none).run Tryd.prog w = .ok (.slice (if c = k then A else A.map (·.add k)) (n - k) (c - k)) w := fun w => by
  rw [run_slice_l w 22 A n c Tryd.underlying22 .i64 k (by omega) (by omega)]
  have hs : (sizeOf (Tryd.prog.elem 22)).run Tryd.prog w = .ok 1 w := by kernel_rfl
  rw [hs]
  simp only [Result.andThen, sliced, Int.toNat_natCast, Nat.mul_one]
/-- The first block, and what is behind it. -/
def CutR (w : World) (B : Nat) (b : Bts) (e : Ending) (w' : World) : Prop :=
  ∃ A1 c1 A2 c2, e = .returned (.tuple #[.slice A1 (b.take 64).length c1, .slice A2 (b.drop 64).length c2]) ∧ Rd w B A1 (b.take 64) ∧ Rd w B A2 (b.drop 64) ∧ (b.drop 64).length ≤ c2 ∧ Calm w w'
set_option maxHeartbeats 4000000 in
theorem pcut (w : World) (B : Nat) (A : Option Addr) (c : Nat) (b : Bts) (hr : Rd w B A b) (hc : b.length ≤ c) : Calls Tryd.prog 28 #[.slice A b.length c] w (CutR w B b) := by
  obtain ⟨n, hn⟩ : ∃ n, n = b.length := ⟨_, rfl⟩
  obtain ⟨m, hm⟩ : ∃ m, m = (b.take 64).length := ⟨_, rfl⟩
  have hm1 : m = min 64 n := by rw [hm, List.length_take, hn]
  have h1 := fun w => cut_low w A n c m (by omega)
  have h2 := cut_far A n c m (by omega)
  obtain ⟨A2, hA2⟩ : ∃ x, x = (if c = m then A else A.map (·.add m)) := ⟨_, rfl⟩
  rw [← hA2] at h2
  have HR := Lib.hid (show ∀ w', Calm w w' → CutR w B b (.returned (.tuple #[.slice A m c, .slice A2 (n - m) (c - m)])) w' from by
    intro w' hC
    have hd : (b.drop 64).length = n - m := by rw [List.length_drop]; omega
    have hdm : b.drop 64 = b.drop m := by
      by_cases q : n ≤ 64
      · rw [List.drop_of_length_le (by omega), List.drop_of_length_le (by omega)]
      · rw [show m = 64 by omega]
    refine ⟨A, c, A2, c - m, by rw [← hm, hd], hr.take 64, ?_, by rw [hd]; omega, hC⟩
    rw [hdm, hA2]
    exact hr.drop (by omega))
  rw [← hn]
  by_cases q : n ≤ 64
  · obtain rfl : m = n := by omega
    have q2 : (m : Int) ≤ 64 := by omega
    have q3 : ¬ 64 < m := by omega
    have q4 : ¬ 64 < (m : Int) := by omega
    clear hm hm1 hA2 hr hn
    go_enter Tryd.func28, Tryd.ntmps28
    go_wp2_with fail
    go_quiet (fail)
    go_wp2_with fail
    go_ret2
    have HR := HR.out
    rw [Nat.sub_self] at HR
    exact HR _ ⟨nq, rfl⟩
  · obtain rfl : m = 64 := by omega
    have h1 : ∀ w : World, (Instr.slice 22 (.slice A n c) none (some (.int .i64 64)) none).run Tryd.prog w = .ok (.slice A 64 c) w := h1
    have h2 : ∀ w : World, (Instr.slice 22 (.slice A n c) (some (.int .i64 64)) none none).run Tryd.prog w = .ok (.slice A2 (n - 64) (c - 64)) w := h2
    have q5 : 64 < (n : Int) := by omega
    have q6 : 64 ≤ c := by omega
    have q7 : 64 ≤ n := by omega
    have q8 : (64 : Int) ≤ (c : Int) := by omega
    have q9 : (64 : Int) ≤ (n : Int) := by omega
    clear hm hm1 hA2 hr hn
    go_enter Tryd.func28, Tryd.ntmps28
    go_wp2_with fail
    go_quiet (fail)
    go_wp2_with fail
    go_ret2
    exact HR.out _ ⟨nq, rfl⟩
end Go.Proofs.YtoikgnmhnlcbhaaDoor.dg
