/-
  What is asked of the program's digests; digests held against each other; the law's works.
-/
import Derived.Test.YtoikgnmhnlcbhaaDoorDgI
import Derived.ChangeKeysEq
namespace Go.Proofs.YtoikgnmhnlcbhaaDoor.dg
set_option maxRecDepth 100000
open Go.RowKit Go.Maps
set_option maxRecDepth 100000

/-- The program's digests, as the chapter has them. D: what lies in the program's data. -/
structure DigP (D : World → Prop) : Prop where
  d_keep : ∀ {w w' : World}, D w → Fr (fun _ => False) w w' → D w'
  sum : ∀ (w : World) (B : Option Addr) (bc : Nat) (b : Bts), Rd w w.heap.size B b → (B = none → bc = 0) → b.length ≤ bc → b.length ≤ 100000 → D w → Calls Tryd.prog 9 #[.slice B b.length bc] w fun e w' => e = .returned (dgV (digV [] b)) ∧ Fr (fun _ => False) w w'
  keyed : ∀ (w : World) (A : Option Addr) (kc : Nat) (key : Bts) (B : Option Addr) (bc : Nat) (b : Bts), Rd w w.heap.size A key → (A = none → kc = 0) → key.length ≤ kc → key.length ≤ 140737488351232 → Rd w w.heap.size B b → (B = none → bc = 0) → b.length ≤ bc → b.length ≤ 100000 → D w → Calls Tryd.prog 17 #[.slice A key.length kc, .slice B b.length bc] w (DigR w (keyedV key b))
  hex : ∀ (w : World) (d : Bts), d.length = 32 → D w → Calls Tryd.prog 11 #[dgV d] w fun e w' => e = .returned (.string (tx (hexV d))) ∧ Fr (fun _ => False) w w'
  parse : ∀ (w : World) (s : Bts), s.length ≤ maxLen → D w → Calls Tryd.prog 19 #[.string (tx s)] w (DigR w (parseV s))
  of_ : ∀ (w : World) (b : Bts), b.length ≤ 100000 → D w → Calls Tryd.prog 13 #[.string (tx b)] w fun e w' => e = .returned (.string (tx (ofV b))) ∧ Fr (fun _ => False) w w'
  same : ∀ (w : World) (s : Bts) (B : Option Addr) (bc : Nat) (b : Bts), s.length ≤ maxLen → Rd w w.heap.size B b → (B = none → bc = 0) → b.length ≤ bc → b.length ≤ 100000 → D w → Calls Tryd.prog 21 #[.string (tx s), .slice B b.length bc] w fun e w' => e = .returned (.bool (decide (s = ofV b))) ∧ Fr (fun _ => False) w w'

/-! ### digests held against each other -/
theorem plainU8 : Tryd.prog.plainKey 5 = true := by kernel_rfl
theorem noGuard : Tryd.prog.eqGuardType Tryd.prog.depth 24 = false := by kernel_rfl
theorem run_equal_u8 (d : Nat) (a b : UInt8) (w : World) : (Op.equalIn (d + 1) 5 (.int .u8 (a.toNat : Int)) (.int .u8 (b.toNat : Int))).run Tryd.prog w = .ok (decide (a = b)) w := by
  simp only [Op.equalIn, Sem.run_bind, run_underlying Tryd.underlying5, Result.andThen_ok]
  have : ((a.toNat : Int) == (b.toNat : Int)) = decide (a = b) := by
    rw [Bool.eq_iff_iff]
    simp [← UInt8.toNat_inj]
    omega
  simp [this]
theorem run_items (l m : Bts) (w : World) : ∀ (is : List Nat), (∀ i ∈ is, i < l.length ∧ i < m.length) →
    (Op.eqItems 9999 5 1 (dgC l) (dgC m) is).run Tryd.prog w = .ok (is.all fun i => decide (l[i]? = m[i]?)) w
  | [], _ => by simp [Op.eqItems]
  | i :: is, h => by
    obtain ⟨h1, h2⟩ := h i (by simp)
    have e1 : (dgC l)[i * 1]? = some (.int .u8 (l[i].toNat : Int)) := by rw [Nat.mul_one]; show (bs l).toArray[i]? = _; rw [List.getElem?_toArray, bs_get, List.getElem?_eq_getElem h1]; rfl
    have e2 : (dgC m)[i * 1]? = some (.int .u8 (m[i].toNat : Int)) := by rw [Nat.mul_one]; show (bs m).toArray[i]? = _; rw [List.getElem?_toArray, bs_get, List.getElem?_eq_getElem h2]; rfl
    have ih := run_items l m w is (fun j hj => h j (by simp [hj]))
    simp only [Op.eqItems, Sem.run_bind, run_part_plain w plainU8 e1, run_part_plain w plainU8 e2, Result.andThen_ok, run_equal_u8 9998]
    rw [List.all_cons, List.getElem?_eq_getElem h1, List.getElem?_eq_getElem h2]
    by_cases hq : l[i] = m[i]
    · simp [hq, ih]
    · simp [hq]
theorem infoByte : (Tryd.prog.info? 5).map (·.size) = some 1 := by kernel_rfl
theorem run_equal_dg (l m : Bts) (hl : l.length = 32) (hm : m.length = 32) (w : World) : (Op.equalIn 10000 24 (dgV l) (dgV m)).run Tryd.prog w = .ok (decide (l = m)) w := by
  obtain ⟨i, hi, _⟩ := Option.map_eq_some_iff.1 infoByte
  rw [run_equalIn_array (w := w) 9999 _ _ Tryd.underlying24 hi, cellsU]
  have := run_items l m w (List.range 32) (fun i hi => by rw [hl, hm]; simpa using hi)
  refine this.trans ?_
  congr 1
  rw [Bool.eq_iff_iff, List.all_eq_true, decide_eq_true_iff]
  constructor
  · intro h
    apply List.ext_getElem?
    intro i
    by_cases hi : i < 32
    · simpa using h i (by simpa using hi)
    · rw [List.getElem?_eq_none (by omega), List.getElem?_eq_none (by omega)]
  · rintro rfl i _
    simp
section
variable {ops : Array Oper} {rest : List Oper} {o : Oper} {a : Act} {w : World} {Q : Exit → Act → World → Prop}
theorem wpList_eqDg (x y : Operand) (r : TypeId) (ho : o.op = .binOp .eql 24 x y r) (hw : Region.wanted o (yielded ops a.tmps) = true) (l m : Bts) (hl : l.length = 32) (hm : m.length = 32) (hx : a.eval x = dgV l) (hy : a.eval y = dgV m)
    (h : wpList Tryd.prog ops Q rest (a.put o.dst (.bool (decide (l = m)))) w) : wpList Tryd.prog ops Q (o :: rest) a w := by
  refine wpList_step fun K hK => ?_
  rw [if_pos hw]
  unfold Oper.wp execOp
  simp only [ho, hx, hy, Sem.run_bind, run_eqGuard_agg w _ _ _ _ _ _ noGuard, run_eql_struct, Result.andThen_ok, run_equal_dg l m hl hm, Sem.run_pure]
  exact hK _ _ h
theorem wpList_loadDgG (x : Operand) (ho : o.op = .load 24 x) (hw : Region.wanted o (yielded ops a.tmps) = true) (g : Nat) (l : Bts) (hl : l.length = 32)
    (hx : a.eval x = .pointer (some ⟨g, 0, none⟩)) (hg : w.heap[g]? = some (.cells (dgC l) 24 (0, 0)))
    (h : wpList Tryd.prog ops Q rest (a.put o.dst (dgV l)) w) : wpList Tryd.prog ops Q (o :: rest) a w :=
  wpList_step fun K hK => by
    rw [if_pos hw]
    exact wp_load_row 24 x ho g hx 24 (dgC l) (0, 0) _ hg Tryd.underlying24 rfl (by rw [dgC_size, hl]; exact infoDg) (hK _ _ h)
end
theorem run_loadDg (w : World) (g : Nat) (l : Bts) (hl : l.length = 32) (hg : w.heap[g]? = some (.cells (dgC l) 24 (0, 0))) : (Instr.loadAt 24 (.pointer (some ⟨g, 0, none⟩))).run Tryd.prog w = .ok (dgV l) w := by
  simp only [Instr.loadAt, Instr.sureAddr, Sem.run_bind, Sem.run_pure, Result.andThen_ok, run_loadVar_row w g 24 24 (dgC l) (0, 0) _ hg Tryd.underlying24 rfl (by rw [dgC_size, hl]; exact infoDg)]

/-! ### works -/
set_option maxHeartbeats 2000000 in
theorem works_any {D : World → Prop} (HP : DigP D) (w : World) (hD : D w) : Calls Tryd.prog 16 #[] w fun e w' => e = .returned (.bool true) ∧ Fr (fun _ => False) w w' := by
  have HPP := Lib.hid HP
  have H1 := Lib.hid (HP.of_ w [] (Nat.zero_le _) hD)
  have H2 := Lib.hid (fun w1 (hF : Fr (fun _ => False) w w1) => HP.of_ w1 [97, 98, 99] (by decide) (HP.d_keep hD hF))
  rw [works_text] at H1
  rw [works_abc] at H2
  clear HP hD
  go_enter Tryd.func16, Tryd.ntmps16
  go_wp2_with fail
  refine H1.out.mono ?_
  rintro e w1 ⟨rfl, hF1⟩
  have H3 := Lib.hid (H2.out w1 hF1)
  have HF1 := Lib.hid hF1
  clear hF1
  go_wp2_with fail
  refine H3.out.mono ?_
  rintro e w2 ⟨rfl, hF2⟩
  have HF2 := Lib.hid (HF1.out.trans hF2 (fun _ _ e => e))
  clear hF2
  go_wp2_with fail
  go_ret
  exact ⟨rfl, HF2.out⟩
end Go.Proofs.YtoikgnmhnlcbhaaDoor.dg
