/-
  The program's arrays (counts of codes; where the codes of each length begin), as cells and as values; the operations on them.
-/
import Derived.Test.YtnibbopdjeagoaaCpM
import Derived.Laws.Rows
import Derived.Laws.Tables
import Derived.KernelRfl
namespace Go.Proofs.Ytnibbopdjeagoaa.cd
set_option maxRecDepth 100000
open Go.RowKit Go.Maps Go.Proofs.Ytnibbopdjeagoaa.fl
set_option maxRecDepth 100000

theorem infoCn : (Try.prog.info? 57).map (·.size) = some 16 := by kernel_rfl
theorem infoLv : (Try.prog.info? 67).map (·.size) = some 32 := by kernel_rfl
/-- Levels as cells. -/
def lvs (L : List (Int × Int)) : List Value := L.flatMap fun x => [.int .i64 x.1, .int .i64 x.2]
theorem lvs_length : ∀ L : List (Int × Int), (lvs L).length = 2 * L.length
  | [] => rfl
  | x :: L => by
    show ([Value.int .i64 x.1, Value.int .i64 x.2] ++ lvs L).length = _
    rw [List.length_append, lvs_length L]
    simp
    omega
theorem lvs_one (L : List (Int × Int)) : ∀ v ∈ lvs L, v.oneCell' = true := by
  intro v hv
  obtain ⟨x, _, hx⟩ := List.mem_flatMap.1 hv
  rcases List.mem_cons.1 hx with rfl | hx
  · rfl
  · rw [List.mem_singleton.1 hx]; rfl
theorem lvs_get : ∀ (L : List (Int × Int)) (k : Nat) (x : Int × Int), L[k]? = some x → (lvs L)[2 * k]? = some (.int .i64 x.1) ∧ (lvs L)[2 * k + 1]? = some (.int .i64 x.2)
  | [], k, x, h => by simp at h
  | y :: L, 0, x, h => by
    obtain rfl : y = x := by simpa using h
    exact ⟨rfl, rfl⟩
  | y :: L, k + 1, x, h => by
    have h2 := lvs_get L k x (by simpa using h)
    show (Value.int .i64 y.1 :: Value.int .i64 y.2 :: lvs L)[2 * k + 2]? = _ ∧ (Value.int .i64 y.1 :: Value.int .i64 y.2 :: lvs L)[2 * k + 3]? = _
    exact h2
theorem lvs_set : ∀ (L : List (Int × Int)) (k : Nat) (x : Int × Int), ((lvs L).set (2 * k) (.int .i64 x.1)).set (2 * k + 1) (.int .i64 x.2) = lvs (L.set k x)
  | [], k, x => by simp [lvs]
  | y :: L, 0, x => rfl
  | y :: L, k + 1, x => by
    show (Value.int .i64 y.1 :: Value.int .i64 y.2 :: (((lvs L).set (2 * k) (.int .i64 x.1)).set (2 * k + 1) (.int .i64 x.2))) = _
    rw [lvs_set L k x]
    rfl
abbrev cnV (c : List Int) : Value := .agg (is c).toArray
abbrev lvV (L : List (Int × Int)) : Value := .agg (lvs L).toArray
abbrev no16 : List Int := List.replicate 16 0
abbrev noL16 : List (Int × Int) := List.replicate 16 (0, 0)

theorem run_allocCn (w : World) : (Instr.alloc 57 true (.tuple #[])).run Try.prog w = .ok (.pointer (some ⟨w.heap.size, 0, none⟩)) (w.alloc (.cells (is no16).toArray 57)) := by
  kernel_rfl
theorem run_allocLv (w : World) : (Instr.alloc 67 true (.tuple #[])).run Try.prog w = .ok (.pointer (some ⟨w.heap.size, 0, none⟩)) (w.alloc (.cells (lvs noL16).toArray 67)) := by
  kernel_rfl
section
variable {ops : Array Oper} {rest : List Oper} {o : Oper} {a : Act} {w : World} {Q : Exit → Act → World → Prop}
theorem wpList_allocCn (hg : o.guard = none) (ho : o.op = .alloc 57)
    (h : wpList Try.prog ops Q rest (a.put o.dst (.pointer (some ⟨w.heap.size, 0, none⟩))) (w.alloc (.cells (is no16).toArray 57))) : wpList Try.prog ops Q (o :: rest) a w := by
  refine wpList_plain hg fun K hK => ?_
  unfold Oper.wp
  simp only [execOp, ho, Sem.run_bind, run_allocCn, Result.andThen]
  exact hK _ _ h
theorem wpList_allocLv (hg : o.guard = none) (ho : o.op = .alloc 67)
    (h : wpList Try.prog ops Q rest (a.put o.dst (.pointer (some ⟨w.heap.size, 0, none⟩))) (w.alloc (.cells (lvs noL16).toArray 67))) : wpList Try.prog ops Q (o :: rest) a w := by
  refine wpList_plain hg fun K hK => ?_
  unfold Oper.wp
  simp only [execOp, ho, Sem.run_bind, run_allocLv, Result.andThen]
  exact hK _ _ h
theorem all_one {cs : List Value} (h : ∀ v ∈ cs, v.oneCell' = true) : cs.toArray.all (·.oneCell') = true :=
  Array.all_eq_true_iff_forall_mem.2 (fun v hv => h v (by simpa using hv))
/-- A whole array is laid into its variable. -/
theorem wpList_storeA {T : TypeId} {n : Nat} (hi : (Try.prog.info? T).map (·.size) = some n) (hgd : o.guard = none) (x y : Operand) (ho : o.op = .store T x y) (g : Nat) (cs old : List Value) (hl : cs.length = n) (hol : old.length = n) (h1 : ∀ v ∈ cs, v.oneCell' = true)
    (hx : a.eval x = .pointer (some ⟨g, 0, none⟩)) (hy : a.eval y = .agg cs.toArray) (hg : w.heap[g]? = some (.cells old.toArray T (0, 0)))
    (h : ∀ w', w'.heap[g]? = some (.cells cs.toArray T (0, 0)) → Fr (· = g) w w' → w'.heap.size = w.heap.size → wpList Try.prog ops Q rest (a.put o.dst undef) w') : wpList Try.prog ops Q (o :: rest) a w :=
  wpList_store_row hgd T x y ho g cs.toArray hx hy T old.toArray hg (by rw [List.size_toArray, hl]; exact hi) (by rw [List.size_toArray, List.size_toArray, hl, hol]) (all_one h1)
    (h _ (setRow_heap w g _ _ _ _ hg) ⟨rfl, rfl, rfl, by simp [World.setRow], fun i _ hi => setRow_other w g i _ hi⟩ (by simp [World.setRow]))
theorem wpList_loadCn (hgd : o.guard = none) (x : Operand) (ho : o.op = .load 57 x) (g : Nat) (c : List Int) (hl : c.length = 16)
    (hx : a.eval x = .pointer (some ⟨g, 0, none⟩)) (hg : w.heap[g]? = some (.cells (is c).toArray 57 (0, 0)))
    (h : wpList Try.prog ops Q rest (a.put o.dst (cnV c)) w) : wpList Try.prog ops Q (o :: rest) a w :=
  wpList_load_row hgd 57 x ho g hx 57 (is c).toArray (0, 0) _ hg Try.underlying57 rfl (by rw [List.size_toArray, is_length, hl]; exact infoCn) h
theorem wpList_loadLv (hgd : o.guard = none) (x : Operand) (ho : o.op = .load 67 x) (g : Nat) (L : List (Int × Int)) (hl : L.length = 16)
    (hx : a.eval x = .pointer (some ⟨g, 0, none⟩)) (hg : w.heap[g]? = some (.cells (lvs L).toArray 67 (0, 0)))
    (h : wpList Try.prog ops Q rest (a.put o.dst (lvV L)) w) : wpList Try.prog ops Q (o :: rest) a w :=
  wpList_load_row hgd 67 x ho g hx 67 (lvs L).toArray (0, 0) _ hg Try.underlying67 rfl (by rw [List.size_toArray, lvs_length, hl]; exact infoLv) h
theorem wpList_boxCn (hg : o.guard = none) (x : Operand) (ho : o.op = .box 57 x) (c : List Int) (hx : a.eval x = cnV c)
    (h : wpList Try.prog ops Q rest (a.put o.dst (.pointer (some ⟨w.heap.size, 0, none⟩))) (w.alloc (.cells (is c).toArray 57))) : wpList Try.prog ops Q (o :: rest) a w := by
  have hc : (a.eval x).cells = (is c).toArray := by rw [hx]; rfl
  refine wpList_plain hg fun K hK => ?_
  unfold Oper.wp execOp
  simp only [ho, Sem.run_bind, Instr.box, newVar, newRow, run_newObj_alloc, Sem.run_pure, Result.andThen_ok, hc]
  exact hK _ _ h
/-- .. where the operation has a guard that lets it be done. -/
theorem wpList_loadCnG (x : Operand) (ho : o.op = .load 57 x) (g : Nat) (c : List Int) (hl : c.length = 16)
    (hw : Region.wanted o (yielded ops a.tmps) = true) (hx : a.eval x = .pointer (some ⟨g, 0, none⟩)) (hg : w.heap[g]? = some (.cells (is c).toArray 57 (0, 0)))
    (h : wpList Try.prog ops Q rest (a.put o.dst (cnV c)) w) : wpList Try.prog ops Q (o :: rest) a w :=
  wpList_step fun K hK => by
    rw [if_pos hw]
    exact wp_load_row 57 x ho g hx 57 (is c).toArray (0, 0) _ hg Try.underlying57 rfl (by rw [List.size_toArray, is_length, hl]; exact infoCn) (hK _ _ h)
/-- An element of an array that is a value. -/
theorem run_indexCn (w : World) (c : List Int) (hl : c.length = 16) (k : Nat) (x : Int) (hk : c[k]? = some x) : (Instr.index 57 (cnV c) (.int .i64 (k : Int))).run Try.prog w = .ok (.int .i64 x) w := by
  have hlt : k < 16 := by have := (List.getElem?_eq_some_iff.1 hk).1; omega
  have hc : (is c).toArray[k]? = some (.int .i64 x) := by rw [List.getElem?_toArray, is_get, hk]; rfl
  have hsz : (sizeOf 3).run Try.prog w = .ok 1 w := by kernel_rfl
  have hag : (isAgg 3).run Try.prog w = .ok false w := by kernel_rfl
  have hu : (underlying 57).run Try.prog w = .ok (.array 16 3) w := run_underlying Try.underlying57 w
  have h0 : (0 : Int) ≤ (k : Int) ∧ (k : Int) < (16 : Nat) := by omega
  unfold Instr.index part
  simp only [asIntOf, Sem.run_bind, Sem.run_pure, Result.andThen_ok, hu, h0, and_self, if_true, hsz, hag, Nat.mul_one, Int.toNat_natCast, hc, Bool.false_eq_true, if_false]
theorem wpList_indexCn (hgd : o.guard = none) (x y : Operand) (ho : o.op = .index 57 x y) (c : List Int) (hl : c.length = 16) (k : Nat) (z : Int) (hk : c[k]? = some z) (hx : a.eval x = cnV c) (hy : a.eval y = .int .i64 (k : Int))
    (h : wpList Try.prog ops Q rest (a.put o.dst (.int .i64 z)) w) : wpList Try.prog ops Q (o :: rest) a w := by
  refine wpList_plain hgd fun K hK => ?_
  unfold Oper.wp
  simp only [execOp, ho, hx, hy, Sem.run_bind, Sem.run_pure, run_indexCn w c hl k z hk, Result.andThen_ok]
  exact hK _ _ h
end
theorem results_Cn {fn : Func} {p : Tmp} (h : fn.results = #[.cell p 57]) (tmps : Array Value) (w : World) (g : Nat) (c : List Int) (hl : c.length = 16)
    (hp : tmps.getD p undef = .pointer (some ⟨g, 0, none⟩)) (hg : w.heap[g]? = some (.cells (is c).toArray 57 (0, 0))) : (results fn tmps).run Try.prog w = .ok (cnV c) w :=
  results_cell_row h tmps w g 57 (is c).toArray (0, 0) _ hp hg Try.underlying57 rfl (by rw [List.size_toArray, is_length, hl]; exact infoCn)
theorem results_Lv {fn : Func} {p : Tmp} (h : fn.results = #[.cell p 67]) (tmps : Array Value) (w : World) (g : Nat) (L : List (Int × Int)) (hl : L.length = 16)
    (hp : tmps.getD p undef = .pointer (some ⟨g, 0, none⟩)) (hg : w.heap[g]? = some (.cells (lvs L).toArray 67 (0, 0))) : (results fn tmps).run Try.prog w = .ok (lvV L) w :=
  results_cell_row h tmps w g 67 (lvs L).toArray (0, 0) _ hp hg Try.underlying67 rfl (by rw [List.size_toArray, lvs_length, hl]; exact infoLv)
end Go.Proofs.Ytnibbopdjeagoaa.cd
