/-
  A header: an array of 256 bytes, as cells and as one value; the operations on it.
-/
import Derived.Test.YtflapnbpaodhaaaGreatDoorJA
import Derived.Test.YtflapnbpaodhaaaGreatDoorJD
namespace Go.Proofs.YtflapnbpaodhaaaGreatDoor.hd
set_option maxRecDepth 100000
open Go.RowKit Go.Maps

theorem infoArr : (Tryz.prog.info? 100).map (·.size) = some 256 := by kernel_rfl
theorem arrOk : ∀ d, Tryz.prog.underlying 100 = some d → (match d with | .struct _ | .array _ _ => true | _ => false) = true := by
  intro d h
  rw [Tryz.underlying100] at h
  cases h
  rfl
theorem zeroArr (w : World) : (zeroValue 100).run Tryz.prog w = .ok (secV noughts) w := by kernel_rfl
theorem run_allocArr (w : World) : (Instr.alloc 100 true (.tuple #[])).run Tryz.prog w = .ok (.pointer (some ⟨w.heap.size, 0, none⟩)) (w.alloc (.cells (secC noughts) 100)) := by
  kernel_rfl

theorem run_sliceArr (g : Nat) (w : World) : (Instr.sliceAt 100 (.pointer (some ⟨g, 0, none⟩)) none none none).run Tryz.prog w = .ok (.slice (some ⟨g, 0, none⟩) 256 256) w := by
  kernel_rfl

section
variable {ops : Array Oper} {rest : List Oper} {o : Oper} {a : Act} {w : World} {Q : Exit → Act → World → Prop}
theorem wpList_allocArr (hg : o.guard = none) (ho : o.op = .alloc 100)
    (h : wpList Tryz.prog ops Q rest (a.put o.dst (.pointer (some ⟨w.heap.size, 0, none⟩))) (w.alloc (.cells (secC noughts) 100))) : wpList Tryz.prog ops Q (o :: rest) a w := by
  refine wpList_plain hg fun K hK => ?_
  unfold Oper.wp
  simp only [execOp, ho, Sem.run_bind, run_allocArr, Result.andThen]
  exact hK _ _ h

theorem wpList_sliceArr (hgd : o.guard = none) (x : Operand) (ho : o.op = .slice 100 x none none none) (g : Nat) (hx : a.eval x = .pointer (some ⟨g, 0, none⟩))
    (h : wpList Tryz.prog ops Q rest (a.put o.dst (.slice (some ⟨g, 0, none⟩) 256 256)) w) : wpList Tryz.prog ops Q (o :: rest) a w := by
  refine wpList_plain hgd fun K hK => ?_
  unfold Oper.wp
  simp only [execOp, ho, hx, Option.map_none, Sem.run_bind, run_sliceArr, Result.andThen]
  exact hK _ _ h

/-- A whole array is laid into its variable. -/
theorem wpList_storeArr (hgd : o.guard = none) (x y : Operand) (ho : o.op = .store 100 x y) (g : Nat) (l old : List UInt8) (hl : l.length = 256) (hol : old.length = 256)
    (hx : a.eval x = .pointer (some ⟨g, 0, none⟩)) (hy : a.eval y = secV l) (hg : w.heap[g]? = some (.cells (secC old) 100 (0, 0)))
    (h : ∀ w', w'.heap[g]? = some (.cells (secC l) 100 (0, 0)) → Fr (· = g) w w' → w'.heap.size = w.heap.size → wpList Tryz.prog ops Q rest (a.put o.dst undef) w') : wpList Tryz.prog ops Q (o :: rest) a w :=
  wpList_store_row hgd 100 x y ho g (secC l) hx hy 100 (secC old) hg (by rw [secC_size, hl]; exact infoArr) (by rw [secC_size, secC_size, hl, hol]) (secC_one l)
    (h _ (setRow_heap w g _ _ _ _ hg) ⟨rfl, rfl, rfl, by simp [World.setRow], fun i _ hi => setRow_other w g i _ hi⟩ (by simp [World.setRow]))

theorem wpList_loadArr (hgd : o.guard = none) (x : Operand) (ho : o.op = .load 100 x) (g : Nat) (l : List UInt8) (hl : l.length = 256)
    (hx : a.eval x = .pointer (some ⟨g, 0, none⟩)) (hg : w.heap[g]? = some (.cells (secC l) 100 (0, 0)))
    (h : wpList Tryz.prog ops Q rest (a.put o.dst (secV l)) w) : wpList Tryz.prog ops Q (o :: rest) a w :=
  wpList_load_row hgd 100 x ho g hx 100 (secC l) (0, 0) _ hg Tryz.underlying100 rfl (by rw [secC_size, hl]; exact infoArr) h
end

/-- A result that is an array lies in its cell. -/
theorem results_arr {fn : Func} {p : Tmp} (h : fn.results = #[.cell p 100]) (tmps : Array Value) (w : World) (g : Nat) (l : List UInt8) (hl : l.length = 256)
    (hp : tmps.getD p undef = .pointer (some ⟨g, 0, none⟩)) (hg : w.heap[g]? = some (.cells (secC l) 100 (0, 0))) : (results fn tmps).run Tryz.prog w = .ok (secV l) w :=
  results_cell_row h tmps w g 100 (secC l) (0, 0) _ hp hg Tryz.underlying100 rfl (by rw [secC_size, hl]; exact infoArr)

theorem wpList_boxArr {ops : Array Oper} {rest : List Oper} {o : Oper} {a : Act} {w : World} {Q : Exit → Act → World → Prop} (hg : o.guard = none) (x : Operand) (ho : o.op = .box 100 x) (l : List UInt8) (hx : a.eval x = secV l)
    (h : wpList Tryz.prog ops Q rest (a.put o.dst (.pointer (some ⟨w.heap.size, 0, none⟩))) (w.alloc (.cells (secC l) 100))) : wpList Tryz.prog ops Q (o :: rest) a w := by
  have hc : (a.eval x).cells = secC l := by rw [hx]; rfl
  refine wpList_plain hg fun K hK => ?_
  unfold Oper.wp execOp
  simp only [ho, Sem.run_bind, Instr.box, newVar, newRow, run_newObj_alloc, Sem.run_pure, Result.andThen_ok, hc]
  exact hK _ _ h
theorem rd_block {w : World} {g B : Nat} {t : TypeId} {l : List UInt8} (h : w.heap[g]? = some (.cells (secC l) t (0, 0))) (hB : g < B) : Rd w B (some ⟨g, 0, none⟩) l := fun _ => ⟨g, 0, rfl, hB, fun j b hj => by
  rw [cellAt h, Nat.zero_add]
  show (cellsOf l).toArray[j]? = _
  rw [List.getElem?_toArray, cellsOf_get, hj]
  rfl⟩

end Go.Proofs.YtflapnbpaodhaaaGreatDoor.hd
