/-
  Two headers held against each other.
-/
import Derived.Test.YtflapnbpaodhaaaGreatDoorHdM
import Derived.ChangeKeysEq
namespace Go.Proofs.YtflapnbpaodhaaaGreatDoor.hd
set_option maxRecDepth 100000
open Go.RowKit Go.Maps ds
set_option maxRecDepth 100000

theorem plainU8 : Tryz.prog.plainKey 5 = true := by kernel_rfl
theorem noGuard : Tryz.prog.eqGuardType Tryz.prog.depth 100 = false := by kernel_rfl
theorem run_equal_u8 (d : Nat) (a b : UInt8) (w : World) : (Op.equalIn (d + 1) 5 (.int .u8 (a.toNat : Int)) (.int .u8 (b.toNat : Int))).run Tryz.prog w = .ok (decide (a = b)) w := by
  simp only [Op.equalIn, Sem.run_bind, run_underlying Tryz.underlying5, Result.andThen_ok]
  have : ((a.toNat : Int) == (b.toNat : Int)) = decide (a = b) := by
    rw [Bool.eq_iff_iff]
    simp [← UInt8.toNat_inj]
    omega
  simp [this]
theorem run_items (l m : List UInt8) (w : World) : ∀ (is : List Nat), (∀ i ∈ is, i < l.length ∧ i < m.length) →
    (Op.eqItems 9999 5 1 (secC l) (secC m) is).run Tryz.prog w = .ok (is.all fun i => decide (l[i]? = m[i]?)) w
  | [], _ => by simp [Op.eqItems]
  | i :: is, h => by
    obtain ⟨h1, h2⟩ := h i (by simp)
    have e1 : (secC l)[i * 1]? = some (.int .u8 (l[i].toNat : Int)) := by rw [Nat.mul_one]; show (cellsOf l).toArray[i]? = _; rw [List.getElem?_toArray, cellsOf_get, List.getElem?_eq_getElem h1]; rfl
    have e2 : (secC m)[i * 1]? = some (.int .u8 (m[i].toNat : Int)) := by rw [Nat.mul_one]; show (cellsOf m).toArray[i]? = _; rw [List.getElem?_toArray, cellsOf_get, List.getElem?_eq_getElem h2]; rfl
    have ih := run_items l m w is (fun j hj => h j (by simp [hj]))
    simp only [Op.eqItems, Sem.run_bind, run_part_plain w plainU8 e1, run_part_plain w plainU8 e2, Result.andThen_ok, run_equal_u8 9998]
    rw [List.all_cons, List.getElem?_eq_getElem h1, List.getElem?_eq_getElem h2]
    by_cases hq : l[i] = m[i]
    · simp [hq, ih]
    · simp [hq]
theorem run_equal_hd (l m : List UInt8) (hl : l.length = 256) (hm : m.length = 256) (w : World) : (Op.equalIn 10000 100 (.agg (cellsOf l).toArray) (.agg (cellsOf m).toArray)).run Tryz.prog w = .ok (decide (l = m)) w := by
  obtain ⟨i, hi, _⟩ := Option.map_eq_some_iff.1 infoByte
  rw [run_equalIn_array (w := w) 9999 _ _ Tryz.underlying100 hi, cellsU]
  have := run_items l m w (List.range 256) (fun i hi => by rw [hl, hm]; simpa using hi)
  refine this.trans ?_
  congr 1
  rw [Bool.eq_iff_iff, List.all_eq_true, decide_eq_true_iff]
  constructor
  · intro h
    apply List.ext_getElem?
    intro i
    by_cases hi : i < 256
    · simpa using h i (by simpa using hi)
    · rw [List.getElem?_eq_none (by omega), List.getElem?_eq_none (by omega)]
  · rintro rfl i _
    simp
/-- The test 'is it another one?', as an operation. -/
theorem yields_neq {ops : Array Oper} {S : World → Prop} {o : Oper} {a : Act} (l m : List UInt8) (hl : l.length = 256) (hm : m.length = 256) (x y : Operand) (r : TypeId) (ho : o.op = .binOp .neq 100 x y r) (hw : Region.wanted o (yielded ops a.tmps) = true)
    (hx : a.eval x = .agg (cellsOf l).toArray) (hy : a.eval y = .agg (cellsOf m).toArray) : YieldsIf Tryz.prog ops S o (.bool (!decide (l = m))) a := by
  refine Or.inl ⟨hw, fun w _ => ?_⟩
  unfold execOp
  simp only [ho, hx, hy, Sem.run_bind, run_eqGuard_agg w _ _ _ _ _ _ noGuard, run_neq_struct, Result.andThen_ok, run_equal_hd l m hl hm, Sem.run_pure]
end Go.Proofs.YtflapnbpaodhaaaGreatDoor.hd
