/-
  A digest: an array of 32 bytes, as cells and as one value; messages: bytes and noughts appended.
-/
import Derived.Test.YtoikgnmhnlcbhaaDoorDgD
import Derived.Lib.AppendZerosOnto
import Derived.Lib.AppendStr
namespace Go.Proofs.YtoikgnmhnlcbhaaDoor.dg
set_option maxRecDepth 100000
open Go.RowKit Go.Maps
set_option maxRecDepth 100000

/-! ### thirty-two bytes -/
abbrev dgC (l : Bts) : Array Value := (bs l).toArray
abbrev dgV (l : Bts) : Value := .agg (dgC l)
abbrev no32 : Bts := List.replicate 32 0
theorem dgC_size (l : Bts) : (dgC l).size = l.length := by rw [List.size_toArray, bs_length]
theorem dgC_one (l : Bts) : (dgC l).all (·.oneCell') = true := Array.all_eq_true_iff_forall_mem.2 (fun v hv => bs_one l v (by simpa using hv))
theorem bs_inj {l l' : Bts} (h : bs l = bs l') : l = l' := by
  unfold bs at h
  refine (List.map_inj_right ?_).1 h
  intro a b hab
  simp only [Value.int.injEq, true_and] at hab
  exact UInt8.toNat_inj.1 (by omega)
theorem dgV_inj {l l' : Bts} (h : dgV l = dgV l') : l = l' := by
  simp only [dgV, Value.agg.injEq] at h
  exact bs_inj (by simpa using congrArg Array.toList h)
theorem infoDg : (Tryd.prog.info? 24).map (·.size) = some 32 := by kernel_rfl
theorem run_allocDg (w : World) : (Instr.alloc 24 true (.tuple #[])).run Tryd.prog w = .ok (.pointer (some ⟨w.heap.size, 0, none⟩)) (w.alloc (.cells (dgC no32) 24)) := by
  kernel_rfl
section
variable {ops : Array Oper} {rest : List Oper} {o : Oper} {a : Act} {w : World} {Q : Exit → Act → World → Prop}
theorem wpList_allocDg (hg : o.guard = none) (ho : o.op = .alloc 24)
    (h : wpList Tryd.prog ops Q rest (a.put o.dst (.pointer (some ⟨w.heap.size, 0, none⟩))) (w.alloc (.cells (dgC no32) 24))) : wpList Tryd.prog ops Q (o :: rest) a w := by
  refine wpList_plain hg fun K hK => ?_
  unfold Oper.wp
  simp only [execOp, ho, Sem.run_bind, run_allocDg, Result.andThen]
  exact hK _ _ h
/-- A whole array is laid into its variable. -/
theorem wpList_storeDg (hgd : o.guard = none) (x y : Operand) (ho : o.op = .store 24 x y) (g : Nat) (l old : Bts) (hl : l.length = 32) (hol : old.length = 32)
    (hx : a.eval x = .pointer (some ⟨g, 0, none⟩)) (hy : a.eval y = dgV l) (hg : w.heap[g]? = some (.cells (dgC old) 24 (0, 0)))
    (h : ∀ w', w'.heap[g]? = some (.cells (dgC l) 24 (0, 0)) → Fr (· = g) w w' → w'.heap.size = w.heap.size → wpList Tryd.prog ops Q rest (a.put o.dst undef) w') : wpList Tryd.prog ops Q (o :: rest) a w :=
  wpList_store_row hgd 24 x y ho g (dgC l) hx hy 24 (dgC old) hg (by rw [dgC_size, hl]; exact infoDg) (by rw [dgC_size, dgC_size, hl, hol]) (dgC_one l)
    (h _ (setRow_heap w g _ _ _ _ hg) ⟨rfl, rfl, rfl, by simp [World.setRow], fun i _ hi => setRow_other w g i _ hi⟩ (by simp [World.setRow]))
theorem wpList_loadDg (hgd : o.guard = none) (x : Operand) (ho : o.op = .load 24 x) (g : Nat) (l : Bts) (hl : l.length = 32)
    (hx : a.eval x = .pointer (some ⟨g, 0, none⟩)) (hg : w.heap[g]? = some (.cells (dgC l) 24 (0, 0)))
    (h : wpList Tryd.prog ops Q rest (a.put o.dst (dgV l)) w) : wpList Tryd.prog ops Q (o :: rest) a w :=
  wpList_load_row hgd 24 x ho g hx 24 (dgC l) (0, 0) _ hg Tryd.underlying24 rfl (by rw [dgC_size, hl]; exact infoDg) h
theorem wpList_boxDg (hg : o.guard = none) (x : Operand) (ho : o.op = .box 24 x) (l : Bts) (hx : a.eval x = dgV l)
    (h : wpList Tryd.prog ops Q rest (a.put o.dst (.pointer (some ⟨w.heap.size, 0, none⟩))) (w.alloc (.cells (dgC l) 24))) : wpList Tryd.prog ops Q (o :: rest) a w := by
  have hc : (a.eval x).cells = dgC l := by rw [hx]; rfl
  refine wpList_plain hg fun K hK => ?_
  unfold Oper.wp execOp
  simp only [ho, Sem.run_bind, Instr.box, newVar, newRow, run_newObj_alloc, Sem.run_pure, Result.andThen_ok, hc]
  exact hK _ _ h
end
/-- A digest of noughts that is built. -/
theorem zero_dg (w : World) : (zeroValue 24).run Tryd.prog w = .ok (dgV no32) w := by kernel_rfl
/-- A result that is a digest lies in its cell. -/
theorem results_dg {fn : Func} {p : Tmp} (h : fn.results = #[.cell p 24]) (tmps : Array Value) (w : World) (g : Nat) (l : Bts) (hl : l.length = 32)
    (hp : tmps.getD p undef = .pointer (some ⟨g, 0, none⟩)) (hg : w.heap[g]? = some (.cells (dgC l) 24 (0, 0))) : (results fn tmps).run Tryd.prog w = .ok (dgV l) w :=
  results_cell_row h tmps w g 24 (dgC l) (0, 0) _ hp hg Tryd.underlying24 rfl (by rw [dgC_size, hl]; exact infoDg)
theorem results_dg2 {fn : Func} {p q : Tmp} (h : fn.results = #[.cell p 24, .tmp q]) (tmps : Array Value) (w : World) (g : Nat) (l : Bts) (v : Value) (hl : l.length = 32)
    (hp : tmps.getD p undef = .pointer (some ⟨g, 0, none⟩)) (hv : tmps.getD q undef = v) (hg : w.heap[g]? = some (.cells (dgC l) 24 (0, 0))) :
    (results fn tmps).run Tryd.prog w = .ok (.tuple #[dgV l, v]) w := by
  have hp' : tmps[p]?.getD undef = .pointer (some ⟨g, 0, none⟩) := by simpa using hp
  have hq' : tmps[q]?.getD undef = v := by simpa using hv
  have hr := run_loadVar_row (P := Tryd.prog) w g 24 24 (dgC l) (0, 0) _ hg Tryd.underlying24 rfl (by rw [dgC_size, hl]; exact infoDg)
  simp [results, h, hp', hq', asAddr, hr]
/-- A digest in its cell: what lies in it, and one byte set. -/
theorem dg_cell {w : World} {g : Nat} {l : Bts} (h : w.heap[g]? = some (.cells (dgC l) 24 (0, 0))) (k : Nat) (hk : k < l.length) : w.cell? ⟨g, k, none⟩ = some (.int .u8 ((l.getD k 0).toNat : Int)) := by
  rw [cellAt h]
  show (bs l).toArray[k]? = _
  rw [List.getElem?_toArray, bs_get, List.getElem?_eq_getElem hk, List.getD_eq_getElem?_getD, List.getElem?_eq_getElem hk]
  rfl
theorem dg_set {w : World} {g : Nat} {l : Bts} (h : w.heap[g]? = some (.cells (dgC l) 24 (0, 0))) (k : Nat) (c : UInt8) : (w.setCell ⟨g, k, none⟩ (.int .u8 (c.toNat : Int))).heap[g]? = some (.cells (dgC (l.set k c)) 24 (0, 0)) := by
  have h1 := heap_setCell_same _ _ k _ _ (.int .u8 (c.toNat : Int)) h
  rw [h1]
  congr 2
  unfold dgC
  rw [← bs_set, List.setIfInBounds_toArray]
theorem ixDg (g k : Nat) (hk : k < 32) (i : Int) (hi : i = (k : Int)) (w : World) : (Instr.indexAt 24 (.pointer (some ⟨g, 0, none⟩)) (.int .i64 i)).run Tryd.prog w = .ok (.pointer (some ⟨g, k, none⟩)) w := by
  subst hi
  have hl : Tryd.prog.arrayLen 24 = 32 := by kernel_rfl
  have hs : (sizeOf (Tryd.prog.elem 24)).run Tryd.prog w = .ok 1 w := by kernel_rfl
  rw [run_indexAt_array w 24 ⟨g, 0, none⟩ .i64 k Tryd.underlying24, hl, if_pos ⟨by omega, by omega⟩, hs]
  simp only [Result.andThen, Int.toNat_natCast, Nat.mul_one, add_plain, Nat.zero_add]

/-! ### a message -/
/-- Bytes of the call's own, not nil. -/
def Md (w0 w : World) (v : Value) (l : Bts) : Prop := ∃ A cap, v = .slice A l.length cap ∧ Own w w0.heap.size v l ∧ Fr (fun _ => False) w0 w ∧ v ≠ .slice none 0 0
theorem Md.still {w0 w w' : World} {v : Value} {l : Bts} (h : Md w0 w v l) (hF : Fr (fun _ => False) w w') : Md w0 w' v l := by
  obtain ⟨A, cap, rfl, h1, h2, h3⟩ := h
  exact ⟨A, cap, rfl, h1.kept hF, h2.trans hF (fun _ _ e => e), h3⟩
theorem Md.fr {w0 w : World} {v : Value} {l : Bts} (h : Md w0 w v l) : Fr (fun _ => False) w0 w := by
  obtain ⟨_, _, _, _, h, _⟩ := h
  exact h
theorem own_emptyB (w : World) : Own (w.alloc (.cells #[] 5)) w.heap.size (.slice (some ⟨w.heap.size, 0, none⟩) ([] : Bts).length 0) [] := World.ownsRow_made w #[] 0 (Nat.le_refl _) (Nat.zero_le _) (by simp)
theorem md_new (w : World) : Md w (w.alloc (.cells #[] 5)) (.slice (some ⟨w.heap.size, 0, none⟩) 0 0) [] := ⟨_, 0, rfl, own_emptyB w, (Fr.refl _ w).alloc _, by simp⟩
theorem Md.base {w0 w1 w : World} {v : Value} {l : Bts} (h : Md w1 w v l) (hF : Fr (fun _ => False) w0 w1) : Md w0 w v l := by
  obtain ⟨A, c, e, ⟨h1, h2⟩, h3, h4⟩ := h
  refine ⟨A, c, e, ⟨h1, ?_⟩, hF.trans h3 (fun _ _ e => e), h4⟩
  rcases h2 with h2 | ⟨g, cap, cur, e, hg, r⟩
  · exact Or.inl h2
  · exact Or.inr ⟨g, cap, cur, e, Nat.le_trans hF.size hg, r⟩
section
variable {ops : Array Oper} {rest : List Oper} {o : Oper} {a : Act} {w : World} {Q : Exit → Act → World → Prop}
/-- Bytes appended, from wherever they lie. -/
theorem wpl_md (hgd : o.guard = none) (x y : Operand) (ho : o.op = .call { callee := .builtin .append, args := #[x, y], argTypes := #[22, 22] }) (w0 : World) (v : Value) (l : Bts) (hx : a.eval x = v) (hv : Md w0 w v l)
    (B : Nat) (A : Option Addr) (n cap : Nat) (m : Bts) (hy : a.eval y = .slice A n cap) (hn : n = m.length) (hA : A = none → cap = 0) (hs : Rd w B A m) (nn : Nat) (hnn : (l ++ m).length = nn) (hl : nn ≤ 1000000)
    (h : ∀ A' cap' w', Md w0 w' (.slice A' nn cap') (l ++ m) → wpList Tryd.prog ops Q rest (a.put o.dst (.slice A' nn cap')) w') : wpList Tryd.prog ops Q (o :: rest) a w := by
  obtain ⟨i0, hi, hz0, hz1, hz2⟩ := info_parts infoB
  obtain ⟨A0, c0, rfl, hown, hF, hne⟩ := hv
  subst hn
  subst hnn
  cases A with
  | none =>
    have hm : m = [] := by
      apply Decidable.byContradiction
      intro hne
      obtain ⟨_, _, e, _⟩ := hs hne
      cases e
    subst hm
    obtain rfl : cap = 0 := hA rfl
    refine wpList_append_own_none hgd x y 22 ho w0.heap.size 5 i0 1 Tryd.underlying22 hi _ l.length (bs l) hx hown hy ?_
    have := h A0 c0 w ⟨A0, c0, by rw [List.append_nil], by rw [List.append_nil]; exact hown, hF, by rw [List.append_nil]; exact hne⟩
    rw [List.append_nil] at this
    exact this
  | some ad =>
    refine wpList_append_own w hgd x y 22 ho w0.heap.size 5 i0 (.int .u8 0) 1 1 Tryd.underlying22 hi hz0 hz1 hz2 rfl (by omega) _ l.length (bs l) hx hown ad m.length cap (bs m) hy (by rw [bs_length]; omega) hs.src (bs_one m) (by rw [List.length_append] at hl; unfold maxLen; omega) (by rw [List.length_append] at hl; omega) hF.size ?_
    intro v' w' h1 h2 h3
    have hF2 : Fr (fun _ => False) w0 w' := hF.grown h2 (fun k hk => Or.inr (hown.lt k hk).1)
    have h4 : Own w' w0.heap.size v' (l ++ m) := by
      unfold Own
      rw [List.length_append, bs_append]
      exact h1
    have hv' : v' ≠ .slice none 0 0 := fun e => hne (h3.1 e).1
    rcases id h4.2 with ⟨e, _⟩ | ⟨g, cap', cur, e, r⟩
    · exact absurd e hv'
    · subst e
      exact h _ _ w' ⟨_, _, rfl, h4, hF2, hv'⟩
end
/-- So many noughts as a text. -/
def zs (k : Nat) : ByteArray := ⟨(List.replicate k (0 : UInt8)).toArray⟩
theorem zs_size (k : Nat) : (zs k).size = k := by
  show (List.replicate k (0 : UInt8)).toArray.size = k
  simp
theorem zs_cells (k : Nat) : Lib.strCells (zs k) = bs (List.replicate k 0) := by
  unfold Lib.strCells zs bs
  rfl
theorem zero_cells (k : Nat) : Builtin.zeroCells (Value.int .u8 0).cells k = (bs (List.replicate k 0)).toArray := by
  apply Array.ext'
  have h1 : (Value.int IntKind.u8 0).cells = #[.int .u8 0] := rfl
  rw [h1]
  unfold Builtin.zeroCells bs
  simp only [List.map_replicate]
  apply List.ext_getElem
  · simp
  · intro j h2 h3
    simp [Nat.mod_one]
/-- Noughts appended by their number are a text of noughts appended. -/
theorem run_append_number (w : World) (ty : TypeId) (A : Option Addr) (n c k : Nat) (h0 : 0 < k) (hb : n + k ≤ 1000000) :
    (Builtin.append_ #[22, 3] ty #[.slice A n c, .int .i64 (k : Int)]).run Tryd.prog w = (Builtin.append_ #[22, 9] ty #[.slice A n c, .string (zs k)]).run Tryd.prog w := by
  obtain ⟨i0, hi, hz0, hz1, hz2⟩ := info_parts infoB
  have hw : IntKind.i64.wrap (k : Int) = k := by rw [IntKind.wrap_i64]; omega
  have hneg : ¬ ((k : Int) < 0) := by omega
  have h48i : ¬ (281474976710656 < (k : Int) * (i0.bytes : Int)) := by rw [hz2]; omega
  have hns : ¬ (k * i0.size = 0) := by rw [hz1]; omega
  have hsz := zs_size k
  have hf : ∀ w', (Builtin.firstCells i0.size k (.string (zs k))).run Tryd.prog w' = .ok (bs (List.replicate k 0)).toArray w' := fun w' => by
    have := Lib.run_firstCells_string (P := Tryd.prog) w' i0.size (zs k)
    rw [hsz, zs_cells] at this
    exact this
  have hzc := zero_cells k
  have h63' : ¬ (9223372036854775807 < ((n : Int) + (k : Int))) := by omega
  have hbz : i0.bytes ≠ 0 := by rw [hz2]; decide
  by_cases hroom : n + k ≤ c
  · simp [Builtin.append_, run_underlying Tryd.underlying22, run_underlying Tryd.underlying3, run_underlying Tryd.underlying9, sizeOf, typeInfo, zeroValue, hi, hz0, asInt, asIntOf, hw, hneg, hns, h48i, Builtin.lenOf, hsz, hroom, hf, hzc]
  · have h48' : ¬ (281474976710656 < Builtin.nextslicecap (n + k) c * i0.bytes) := by
      rw [hz2]
      exact Nat.not_lt.2 (growslice_fits (by omega) (by omega))
    simp [Builtin.append_, run_underlying Tryd.underlying22, run_underlying Tryd.underlying3, run_underlying Tryd.underlying9, sizeOf, typeInfo, zeroValue, hi, hz0, asInt, asIntOf, hw, hneg, hns, h48i, Builtin.lenOf, hsz, hroom, hf, hzc, h63', hbz, h48', Question.forced]
section
variable {ops : Array Oper} {rest : List Oper} {o : Oper} {a : Act} {w : World} {Q : Exit → Act → World → Prop}
theorem wpl_mdN (hgd : o.guard = none) (x y : Operand) (ho : o.op = .call { callee := .builtin .append, args := #[x, y], argTypes := #[22, 3] }) (w0 : World) (v : Value) (l : Bts) (hx : a.eval x = v) (hv : Md w0 w v l)
    (k : Nat) (i : Int) (hi : i = (k : Int)) (hy : a.eval y = .int .i64 i) (h0 : 0 < k) (nn : Nat) (hnn : l.length + k = nn) (hl : nn ≤ 1000000)
    (h : ∀ A' cap' w', Md w0 w' (.slice A' nn cap') (l ++ List.replicate k 0) → wpList Tryd.prog ops Q rest (a.put o.dst (.slice A' nn cap')) w') : wpList Tryd.prog ops Q (o :: rest) a w := by
  obtain ⟨i0, hi0, hz0, hz1, hz2⟩ := info_parts infoB
  obtain ⟨A0, c0, rfl, hown, hF, hne⟩ := hv
  subst hi
  have hs := zs_size k
  obtain ⟨v', w', hr, h2, h3, h4⟩ := Lib.run_append_own_string (P := Tryd.prog) w w0.heap.size 22 9 o.type 5 i0 Tryd.underlying22 Tryd.underlying9 hi0 hz0 hz1 hz2 _ l.length (bs l) hown (zs k) (by rw [hs]; unfold maxLen; omega) (by rw [hs]; omega) hF.size
  rw [← run_append_number w o.type A0 l.length c0 k h0 (by omega)] at hr
  refine Lib.wpList_append_run w hgd x y 22 3 ho _ _ hx hy v' w' hr ?_
  have hF2 : Fr (fun _ => False) w0 w' := hF.grown h3 (fun k hk => Or.inr (hown.lt k hk).1)
  have h5 : Own w' w0.heap.size v' (l ++ List.replicate k 0) := by
    unfold Own
    rw [List.length_append, bs_append, ← zs_cells, List.length_replicate]
    rw [hs] at h2
    exact h2
  have hlen : (l ++ List.replicate k (0 : UInt8)).length = nn := by rw [List.length_append, List.length_replicate]; exact hnn
  have hv' : v' ≠ .slice none 0 0 := fun e => hne (h4.1 e).1
  rcases id h5.2 with ⟨e, _⟩ | ⟨g, cap', cur, e, r⟩
  · exact absurd e hv'
  · subst e
    rw [hlen] at h5 hv' ⊢
    exact h _ _ w' ⟨_, _, by rw [hlen], h5, hF2, hv'⟩
end
end Go.Proofs.YtoikgnmhnlcbhaaDoor.dg
