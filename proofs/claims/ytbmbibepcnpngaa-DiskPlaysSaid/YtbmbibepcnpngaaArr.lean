/-
  A sector's value: an array of 256 bytes, as cells and as one value; the operations on it.
-/
import Derived.Test.YtbmbibepcnpngaaTake
import Derived.Laws.CopyOwn
import Derived.KernelRfl
namespace Go.Proofs.Ytbmbibepcnpngaa
open Go.RowKit Go.Maps

/-- Bytes as cells. -/
def cellsOf (l : List UInt8) : List Value := l.map fun b => Value.int .u8 (b.toNat : Int)
theorem cellsOf_length (l : List UInt8) : (cellsOf l).length = l.length := by simp [cellsOf]
theorem cellsOf_one (l : List UInt8) : ∀ v ∈ cellsOf l, v.oneCell' = true := by
  intro v hv
  obtain ⟨b, _, rfl⟩ := List.mem_map.1 hv
  rfl
theorem cellsOf_get (l : List UInt8) (j : Nat) : (cellsOf l)[j]? = (l[j]?).map fun b => Value.int .u8 (b.toNat : Int) := by simp [cellsOf]
theorem cellsOf_inj {l l' : List UInt8} (h : cellsOf l = cellsOf l') : l = l' := by
  unfold cellsOf at h
  refine (List.map_inj_right ?_).1 h
  intro a b hab
  simp only [Value.int.injEq, true_and] at hab
  exact UInt8.toNat_inj.1 (by omega)

/-- An array of bytes as one value. -/
def secC (l : List UInt8) : Array Value := (cellsOf l).toArray
def secV (l : List UInt8) : Value := .agg (secC l)
theorem secC_size (l : List UInt8) : (secC l).size = l.length := by simp [secC, cellsOf]
theorem secC_one (l : List UInt8) : (secC l).all (·.oneCell') = true := by
  rw [Array.all_eq_true_iff_forall_mem]
  intro v hv
  exact cellsOf_one l v (by simpa [secC] using hv)
theorem secV_inj {l l' : List UInt8} (h : secV l = secV l') : l = l' := by
  unfold secV secC at h
  simp only [Value.agg.injEq] at h
  exact cellsOf_inj (by simpa using congrArg Array.toList h)

/-- 256 noughts. -/
def noughts : List UInt8 := List.replicate 256 0
theorem noughts_length : noughts.length = 256 := List.length_replicate

theorem infoArr : (Try.prog.info? 68).map (·.size) = some 256 := by kernel_rfl
theorem infoByte : (Try.prog.info? 5).map (·.size) = some 1 := by kernel_rfl
theorem arrOk : ∀ d, Try.prog.underlying 68 = some d → (match d with | .struct _ | .array _ _ => true | _ => false) = true := by
  intro d h
  rw [Try.underlying68] at h
  cases h
  rfl
theorem zeroArr (w : World) : (zeroValue 68).run Try.prog w = .ok (secV noughts) w := by kernel_rfl
theorem run_allocArr (w : World) : (Instr.alloc 68 true (.tuple #[])).run Try.prog w = .ok (.pointer (some ⟨w.heap.size, 0, none⟩)) (w.alloc (.cells (secC noughts) 68)) := by
  kernel_rfl

theorem run_sliceArr (g : Nat) (w : World) : (Instr.sliceAt 68 (.pointer (some ⟨g, 0, none⟩)) none none none).run Try.prog w = .ok (.slice (some ⟨g, 0, none⟩) 256 256) w := by
  kernel_rfl

section
variable {ops : Array Oper} {rest : List Oper} {o : Oper} {a : Act} {w : World} {Q : Exit → Act → World → Prop}
theorem wpList_allocArr (hg : o.guard = none) (ho : o.op = .alloc 68)
    (h : wpList Try.prog ops Q rest (a.put o.dst (.pointer (some ⟨w.heap.size, 0, none⟩))) (w.alloc (.cells (secC noughts) 68))) : wpList Try.prog ops Q (o :: rest) a w := by
  refine wpList_plain hg fun K hK => ?_
  unfold Oper.wp
  simp only [execOp, ho, Sem.run_bind, run_allocArr, Result.andThen]
  exact hK _ _ h

theorem wpList_sliceArr (hgd : o.guard = none) (x : Operand) (ho : o.op = .slice 68 x none none none) (g : Nat) (hx : a.eval x = .pointer (some ⟨g, 0, none⟩))
    (h : wpList Try.prog ops Q rest (a.put o.dst (.slice (some ⟨g, 0, none⟩) 256 256)) w) : wpList Try.prog ops Q (o :: rest) a w := by
  refine wpList_plain hgd fun K hK => ?_
  unfold Oper.wp
  simp only [execOp, ho, hx, Option.map_none, Sem.run_bind, run_sliceArr, Result.andThen]
  exact hK _ _ h

/-- A whole array is laid into its variable. -/
theorem wpList_storeArr (hgd : o.guard = none) (x y : Operand) (ho : o.op = .store 68 x y) (g : Nat) (l old : List UInt8) (hl : l.length = 256) (hol : old.length = 256)
    (hx : a.eval x = .pointer (some ⟨g, 0, none⟩)) (hy : a.eval y = secV l) (hg : w.heap[g]? = some (.cells (secC old) 68 (0, 0)))
    (h : ∀ w', w'.heap[g]? = some (.cells (secC l) 68 (0, 0)) → Fr (· = g) w w' → w'.heap.size = w.heap.size → wpList Try.prog ops Q rest (a.put o.dst undef) w') : wpList Try.prog ops Q (o :: rest) a w :=
  wpList_store_row hgd 68 x y ho g (secC l) hx hy 68 (secC old) hg (by rw [secC_size, hl]; exact infoArr) (by rw [secC_size, secC_size, hl, hol]) (secC_one l)
    (h _ (setRow_heap w g _ _ _ _ hg) ⟨rfl, rfl, rfl, by simp [World.setRow], fun i _ hi => setRow_other w g i _ hi⟩ (by simp [World.setRow]))

theorem wpList_loadArr (hgd : o.guard = none) (x : Operand) (ho : o.op = .load 68 x) (g : Nat) (l : List UInt8) (hl : l.length = 256)
    (hx : a.eval x = .pointer (some ⟨g, 0, none⟩)) (hg : w.heap[g]? = some (.cells (secC l) 68 (0, 0)))
    (h : wpList Try.prog ops Q rest (a.put o.dst (secV l)) w) : wpList Try.prog ops Q (o :: rest) a w :=
  wpList_load_row hgd 68 x ho g hx 68 (secC l) (0, 0) _ hg Try.underlying68 rfl (by rw [secC_size, hl]; exact infoArr) h
end

/-- A result that is an array lies in its cell. -/
theorem results_arr {fn : Func} {p : Tmp} (h : fn.results = #[.cell p 68]) (tmps : Array Value) (w : World) (g : Nat) (l : List UInt8) (hl : l.length = 256)
    (hp : tmps.getD p undef = .pointer (some ⟨g, 0, none⟩)) (hg : w.heap[g]? = some (.cells (secC l) 68 (0, 0))) : (results fn tmps).run Try.prog w = .ok (secV l) w :=
  results_cell_row h tmps w g 68 (secC l) (0, 0) _ hp hg Try.underlying68 rfl (by rw [secC_size, hl]; exact infoArr)

/-- A slice of bytes that reads as l. -/
def Bytes (w : World) (v : Value) (l : List UInt8) : Prop :=
  ∃ p cap, v = .slice p l.length cap ∧ (0 < l.length → ∃ blk off, p = some ⟨blk, off, none⟩ ∧ ∀ j b, l[j]? = some b → w.cell? ⟨blk, off + j, none⟩ = some (.int .u8 (b.toNat : Int)))

end Go.Proofs.Ytbmbibepcnpngaa
