/-
  The program's tables; mixAll.
-/
import Derived.Test.YtoikgnmhnlcbhaaDoorDhA
import Derived.Deep.MidRow
import Derived.Laws.Rows
import Derived.KernelRfl
import Derived.StillTailTactics
namespace Go.Proofs.YtoikgnmhnlcbhaaDoor.dg
set_option maxRecDepth 100000
open Go.RowKit Go.Maps
set_option maxRecDepth 100000

/-! ### the tables -/
def rowC : List Value := [.int .u64 81985529216486895, .int .u64 16881918945140062035, .int .u64 13312731748010193300, .int .u64 8733003861693448440, .int .u64 10400822202260547645, .int .u64 3200383143768358425, .int .u64 14204332651957162635, .int .u64 15816291393287259690, .int .u64 8064173457993569445, .int .u64 11710614767857974480]
def foC : List Value := [.int .i64 0, .int .i64 4, .int .i64 8, .int .i64 12, .int .i64 1, .int .i64 5, .int .i64 9, .int .i64 13, .int .i64 2, .int .i64 6, .int .i64 10, .int .i64 14, .int .i64 3, .int .i64 7, .int .i64 11, .int .i64 15,
  .int .i64 0, .int .i64 5, .int .i64 10, .int .i64 15, .int .i64 1, .int .i64 6, .int .i64 11, .int .i64 12, .int .i64 2, .int .i64 7, .int .i64 8, .int .i64 13, .int .i64 3, .int .i64 4, .int .i64 9, .int .i64 14]
/-- What lies in the program's data. -/
structure DT (w : World) : Prop where
  iv : w.rangeAt 0 0 (ws ivL)
  rows : w.rangeAt 1 0 rowC
  fours : w.rangeAt 2 0 foC
  lt : 0 < w.heap.size ∧ 1 < w.heap.size ∧ 2 < w.heap.size
theorem range_keep {w w' : World} {S : Nat → Prop} {g : Nat} {cs : List Value} (h : w.rangeAt g 0 cs) (hF : Fr S w w') (hS : ¬ S g) : w'.rangeAt g 0 cs := fun j v hv => by
  have h1 := h j v hv
  exact (World.cell?_of_block (w := w) (w' := w') (hF.block g (block_lt_of_cell h1) hS)).trans h1
theorem DT.keep {w w' : World} {S : Nat → Prop} (h : DT w) (hF : Fr S w w') (h1 : ¬ S 0) (h2 : ¬ S 1) (h3 : ¬ S 2) : DT w' :=
  ⟨range_keep h.iv hF h1, range_keep h.rows hF h2, range_keep h.fours hF h3, by have := hF.size; have := h.lt; omega⟩
def rowsA : Value := .agg rowC.toArray
def foA : Value := .agg foC.toArray
theorem infoRows : (Tryd.prog.info? 65).map (·.size) = some 10 := by kernel_rfl
theorem infoFo : (Tryd.prog.info? 67).map (·.size) = some 32 := by kernel_rfl
theorem infoWs : (Tryd.prog.info? 59).map (·.size) = some 16 := by kernel_rfl
theorem ix_rows (w : World) (r : Nat) (hr : r < 10) : (Instr.index 65 rowsA (.int .i64 (r : Int))).run Tryd.prog w = .ok (.int .u64 ((rowN r 0 : Nat) : Int)) w := by
  rw [row_zero r hr]
  rcases (show r = 0 ∨ r = 1 ∨ r = 2 ∨ r = 3 ∨ r = 4 ∨ r = 5 ∨ r = 6 ∨ r = 7 ∨ r = 8 ∨ r = 9 by omega) with rfl | rfl | rfl | rfl | rfl | rfl | rfl | rfl | rfl | rfl <;> kernel_rfl
theorem ix_fo (w : World) (i : Nat) (hi : i < 8) : (Instr.index 67 foA (.int .i64 (i : Int))).run Tryd.prog w = .ok (foV (foN i 0) (foN i 1) (foN i 2) (foN i 3)) w := by
  rcases (show i = 0 ∨ i = 1 ∨ i = 2 ∨ i = 3 ∨ i = 4 ∨ i = 5 ∨ i = 6 ∨ i = 7 by omega) with rfl | rfl | rfl | rfl | rfl | rfl | rfl | rfl <;> kernel_rfl
abbrev wsV (v : List W) : Value := .agg (ws v).toArray
theorem wsC_size (v : List W) : (ws v).toArray.size = v.length := by rw [List.size_toArray, ws_length]
theorem wsC_one (v : List W) : (ws v).toArray.all (·.oneCell') = true := Array.all_eq_true_iff_forall_mem.2 (fun x hx => ws_one v x (by simpa using hx))
abbrev no16 : List W := List.replicate 16 0#32
theorem run_allocW (w : World) : (Instr.alloc 59 true (.tuple #[])).run Tryd.prog w = .ok (.pointer (some ⟨w.heap.size, 0, none⟩)) (w.alloc (.cells (ws no16).toArray 59)) := by
  kernel_rfl
section
variable {ops : Array Oper} {rest : List Oper} {o : Oper} {a : Act} {w : World} {Q : Exit → Act → World → Prop}
theorem wpList_loadRows (hgd : o.guard = none) (x : Operand) (ho : o.op = .load 65 x) (hx : a.eval x = .pointer (some ⟨1, 0, none⟩)) (hD : DT w)
    (h : wpList Tryd.prog ops Q rest (a.put o.dst rowsA) w) : wpList Tryd.prog ops Q (o :: rest) a w :=
  wpList_load_mid hgd _ x ho _ _ hx rowC _ hD.rows Tryd.underlying65 rfl infoRows h
theorem wpList_loadFo (hgd : o.guard = none) (x : Operand) (ho : o.op = .load 67 x) (hx : a.eval x = .pointer (some ⟨2, 0, none⟩)) (hD : DT w)
    (h : wpList Tryd.prog ops Q rest (a.put o.dst foA) w) : wpList Tryd.prog ops Q (o :: rest) a w :=
  wpList_load_mid hgd _ x ho _ _ hx foC _ hD.fours Tryd.underlying67 rfl infoFo h
theorem wpList_allocW (hg : o.guard = none) (ho : o.op = .alloc 59)
    (h : wpList Tryd.prog ops Q rest (a.put o.dst (.pointer (some ⟨w.heap.size, 0, none⟩))) (w.alloc (.cells (ws no16).toArray 59))) : wpList Tryd.prog ops Q (o :: rest) a w := by
  refine wpList_plain hg fun K hK => ?_
  unfold Oper.wp
  simp only [execOp, ho, Sem.run_bind, run_allocW, Result.andThen]
  exact hK _ _ h
theorem wpList_boxW (hg : o.guard = none) (x : Operand) (ho : o.op = .box 59 x) (v : List W) (hx : a.eval x = wsV v)
    (h : wpList Tryd.prog ops Q rest (a.put o.dst (.pointer (some ⟨w.heap.size, 0, none⟩))) (w.alloc (.cells (ws v).toArray 59))) : wpList Tryd.prog ops Q (o :: rest) a w := by
  have hc : (a.eval x).cells = (ws v).toArray := by rw [hx]; rfl
  refine wpList_plain hg fun K hK => ?_
  unfold Oper.wp execOp
  simp only [ho, Sem.run_bind, Instr.box, newVar, newRow, run_newObj_alloc, Sem.run_pure, Result.andThen_ok, hc]
  exact hK _ _ h
theorem wpList_storeW (hgd : o.guard = none) (x y : Operand) (ho : o.op = .store 59 x y) (g : Nat) (v old : List W) (hv : v.length = 16) (hg : WC w g old)
    (hx : a.eval x = .pointer (some ⟨g, 0, none⟩)) (hy : a.eval y = wsV v)
    (h : ∀ w', WC w' g v → Fr (· = g) w w' → w'.heap.size = w.heap.size → wpList Tryd.prog ops Q rest (a.put o.dst undef) w') : wpList Tryd.prog ops Q (o :: rest) a w :=
  wpList_store_row hgd _ x y ho g (ws v).toArray hx hy _ (ws old).toArray hg.blk (by rw [wsC_size, hv]; exact infoWs) (by rw [wsC_size, wsC_size, hv, hg.len]) (wsC_one v)
    (h _ ⟨setRow_heap w g _ _ _ _ hg.blk, hv⟩ ⟨rfl, rfl, rfl, by simp [World.setRow], fun i _ hi => setRow_other w g i _ hi⟩ (by simp [World.setRow]))
theorem wpList_loadW (hgd : o.guard = none) (x : Operand) (ho : o.op = .load 59 x) (g : Nat) (v : List W) (hg : WC w g v) (hx : a.eval x = .pointer (some ⟨g, 0, none⟩))
    (h : wpList Tryd.prog ops Q rest (a.put o.dst (wsV v)) w) : wpList Tryd.prog ops Q (o :: rest) a w :=
  wpList_load_row hgd _ x ho g hx _ (ws v).toArray (0, 0) _ hg.blk Tryd.underlying59 rfl (by rw [wsC_size, hg.len]; exact infoWs) h
end
theorem results_W {fn : Func} {p : Tmp} (h : fn.results = #[.cell p 59]) (tmps : Array Value) (w : World) (g : Nat) (v : List W) (hg : WC w g v)
    (hp : tmps.getD p undef = .pointer (some ⟨g, 0, none⟩)) : (results fn tmps).run Tryd.prog w = .ok (wsV v) w :=
  results_cell_row h tmps w g _ (ws v).toArray (0, 0) _ hp hg.blk Tryd.underlying59 rfl (by rw [wsC_size, hg.len]; exact infoWs)
theorem WC.new {w : World} {v : List W} (hv : v.length = 16) : WC (w.alloc (.cells (ws v).toArray 59)) w.heap.size v := ⟨heap_alloc_new _ _, hv⟩

/-! ### mixAll -/
theorem and15 (z : Nat) (hz : z < 18446744073709551616) : bits .and .u64 ((z : Int) / 72057594037927936) 15 = ((z / 72057594037927936 % 16 : Nat) : Int) := by
  obtain ⟨q, hq⟩ : ∃ q, q = z / 72057594037927936 := ⟨_, rfl⟩
  have h1 : (z : Int) / 72057594037927936 = (q : Int) := by omega
  have h2 : q < 256 := by omega
  rw [h1, ← hq]
  have : ∀ j : Fin 256, bits .and .u64 (j.val : Int) 15 = ((j.val % 16 : Nat) : Int) := by decide +kernel
  exact this ⟨q, h2⟩
theorem stsV_zero (m : List W) (r : Nat) (v : List W) : stsV m r v 0 = v := rfl
theorem roundsV_zero (m v : List W) : roundsV m v 0 = v := rfl
set_option maxHeartbeats 16000000 in
theorem pmixAll (w : World) (hT : DT w) (g : Nat) (v m : List W) (hm : m.length = 16) (HV : WC w g v) (hg : g ≠ 1 ∧ g ≠ 2 ∧ g ≠ 0) :
    Calls Tryd.prog 37 #[.pointer (some ⟨g, 0, none⟩), wsV m] w fun e w' => e = .returned (.tuple #[]) ∧ WC w' g (roundsV m v 10) ∧ Fr (· = g) w w' := by
  obtain ⟨W1, hW1⟩ : ∃ W, W = w.alloc (.cells (ws m).toArray 59) := ⟨_, rfl⟩
  obtain ⟨f, hf⟩ : ∃ f, f = w.heap.size := ⟨_, rfl⟩
  have hF1 : Fr (fun _ => False) w W1 := by rw [hW1]; exact (Fr.refl _ _).alloc _
  have HM1 : WC W1 f m := by rw [hW1, hf]; exact WC.new hm
  have HV1 : WC W1 g v := HV.keep hF1 id
  have hgf : f ≠ g := by have := HV.lt; omega
  have hT1 : DT W1 := hT.keep hF1 id id id
  have HS := Lib.hid (show WC W1 g (roundsV m v 0) ∧ WC W1 f m ∧ Fr (· = g) w W1 ∧ DT W1 from by rw [roundsV_zero]; exact ⟨HV1, HM1, hF1.mono (fun _ _ e => e.elim), hT1⟩)
  have HTa := Lib.hid (show DT (w.alloc (.cells (ws m).toArray 59)) from by rw [← hW1]; exact hT1)
  have HG := Lib.hid hg
  have HVL := Lib.hid HV.len
  clear HV HV1 HM1 hF1 hT hT1 hg
  go_enter Tryd.func37, Tryd.ntmps37
  go_wp2_with (first
    | ((with_reducible refine wpList_boxW ?_ (.tmp 1) ?_ m ?_ ?_); (exact rfl); (exact rfl); (exact rfl))
    | ((with_reducible refine wpList_loadRows ?_ (.global 1) ?_ ?_ HTa.out ?_); (exact rfl); (exact rfl); (exact rfl)))
  rw [← hW1, ← hf]
  clear hf hW1
  go_loopw [9] (fun u wr => ∃ k : Nat, k ≤ 10 ∧ u = .int .i64 (k : Int) ∧ Hid (WC wr g (roundsV m v k) ∧ WC wr f m ∧ Fr (· = g) w wr ∧ DT wr)) (fun u _ => 10 - (intOf u).toNat)
  case atStart => exact ⟨0, Nat.zero_le _, rfl, HS⟩
  case round =>
    obtain ⟨k, hk, rfl, HK⟩ := hrel
    by_cases hlt : k < 10
    · have hk10 : (k : Int) < 10 := by omega
      have hix := ix_rows wr k hlt
      have HK0 := Lib.hid (show WC wr g (stsV m k (roundsV m v k) 0) ∧ WC wr f m ∧ Fr (· = g) w wr ∧ DT wr from by rw [stsV_zero]; exact HK.out)
      go_wp2_with (first
        | ((with_reducible refine wpList_loadFo ?_ (.global 2) ?_ ?_ HK.out.2.2.2 ?_); (exact rfl); (exact rfl); (exact rfl)))
      go_loopw [5, 13] (fun u5 u wr2 => ∃ i : Nat, i ≤ 8 ∧ u5 = .int .u64 ((rowN k i : Nat) : Int) ∧ u = .int .i64 (i : Int) ∧ Hid (WC wr2 g (stsV m k (roundsV m v k) i) ∧ WC wr2 f m ∧ Fr (· = g) w wr2 ∧ DT wr2)) (fun _ u _ => 8 - (intOf u).toNat)
      case atStart => exact ⟨0, Nat.zero_le _, rfl, rfl, HK0⟩
      case round =>
        obtain ⟨i, hi, rfl, rfl, HI⟩ := hrel
        by_cases hlt8 : i < 8
        · have hi8 : (i : Int) < 8 := by omega
          have hif := ix_fo wr i hlt8
          have q1 : ((rowN k i : Nat) : Int) / 1152921504606846976 = ((rwN k (2 * i) : Nat) : Int) := by rw [← row_hi k i hlt hlt8]; omega
          have q2 : bits .and .u64 (((rowN k i : Nat) : Int) / 72057594037927936) 15 = ((rwN k (2 * i + 1) : Nat) : Int) := by rw [← row_lo k i hlt hlt8]; exact and15 _ (row_lt k i)
          have q3 : ((rowN k i : Nat) : Int) * 256 % 18446744073709551616 = ((rowN k (i + 1) : Nat) : Int) := by rw [← row_next k i]; omega
          have q4 := rw_lt k (2 * i)
          have q5 := rw_lt k (2 * i + 1)
          have HNX := Lib.hid (stsV_succ m k (roundsV m v k) i)
          have HL := Lib.hid (show i < 8 from hlt8)
          obtain ⟨x, hx⟩ : ∃ x, x = rwN k (2 * i) := ⟨_, rfl⟩
          obtain ⟨y, hy⟩ : ∃ y, y = rwN k (2 * i + 1) := ⟨_, rfl⟩
          have HST := Lib.hid (show stsV m k (roundsV m v k) (i + 1) = mixV (stsV m k (roundsV m v k) i) (foN i 0) (foN i 1) (foN i 2) (foN i 3) (at_ m x) (at_ m y) from by rw [HNX.out, hx, hy]; rfl)
          rw [← hx] at q1 q4
          rw [← hy] at q2 q5
          obtain ⟨z, hz⟩ : ∃ z, z = rowN k i := ⟨_, rfl⟩
          obtain ⟨z2, hz2⟩ : ∃ z, z = rowN k (i + 1) := ⟨_, rfl⟩
          have HZ2 := Lib.hid hz2
          rw [← hz] at q1 q2 q3 ⊢
          rw [← hz2] at q3
          obtain ⟨a, ha⟩ : ∃ a, a = foN i 0 := ⟨_, rfl⟩
          obtain ⟨b, hb⟩ : ∃ a, a = foN i 1 := ⟨_, rfl⟩
          obtain ⟨c, hc⟩ : ∃ a, a = foN i 2 := ⟨_, rfl⟩
          obtain ⟨d, hd⟩ : ∃ a, a = foN i 3 := ⟨_, rfl⟩
          have HFO := Lib.hid (show (a < 16 ∧ b < 16 ∧ c < 16 ∧ d < 16) ∧ a ≠ b ∧ a ≠ c ∧ a ≠ d ∧ b ≠ c ∧ b ≠ d ∧ c ≠ d from by
            rw [ha, hb, hc, hd]
            exact ⟨⟨fo_lt i 0 hlt8 (by decide), fo_lt i 1 hlt8 (by decide), fo_lt i 2 hlt8 (by decide), fo_lt i 3 hlt8 (by decide)⟩, fo_ne i 0 1 (by decide), fo_ne i 0 2 (by decide), fo_ne i 0 3 (by decide), fo_ne i 1 2 (by decide), fo_ne i 1 3 (by decide), fo_ne i 2 3 (by decide)⟩)
          rw [← ha, ← hb, ← hc, ← hd] at hif HST
          clear hx hy hz hz2 ha hb hc hd HNX hlt8
          go_wp2_with fail
          obtain ⟨f3, hf3⟩ : ∃ f, f = wr.heap.size := ⟨_, rfl⟩
          obtain ⟨W3, hW3⟩ : ∃ W, W = wr.alloc (.cells #[.int .i64 (a : Int), .int .i64 (b : Int), .int .i64 (c : Int), .int .i64 (d : Int)] 66) := ⟨_, rfl⟩
          have hF3 : Fr (fun _ => False) wr W3 := by rw [hW3]; exact (Fr.refl _ _).alloc _
          have hn : W3.heap[f3]? = some (.cells #[.int .i64 (a : Int), .int .i64 (b : Int), .int .i64 (c : Int), .int .i64 (d : Int)] 66 (0, 0)) := by rw [hW3, hf3]; exact heap_alloc_new _ _
          have m0 : W3.cell? ⟨f3, 0, none⟩ = some (.int .i64 (a : Int)) := by rw [cellAt hn]; rfl
          have m1 : W3.cell? ⟨f3, 1, none⟩ = some (.int .i64 (b : Int)) := by rw [cellAt hn]; rfl
          have m2 : W3.cell? ⟨f3, 2, none⟩ = some (.int .i64 (c : Int)) := by rw [cellAt hn]; rfl
          have m3 : W3.cell? ⟨f3, 3, none⟩ = some (.int .i64 (d : Int)) := by rw [cellAt hn]; rfl
          have e0 : W3.drew.cell? ⟨f3, 0, none⟩ = some (.int .i64 (a : Int)) := m0
          have e1 : W3.drew.cell? ⟨f3, 1, none⟩ = some (.int .i64 (b : Int)) := m1
          have e2 : W3.drew.cell? ⟨f3, 2, none⟩ = some (.int .i64 (c : Int)) := m2
          have e3 : W3.drew.cell? ⟨f3, 3, none⟩ = some (.int .i64 (d : Int)) := m3
          have HV3 := Lib.hid (HI.out.1.keep hF3.drew id)
          have HM3 := Lib.hid (HI.out.2.1.keep hF3.drew id)
          have HF3 := Lib.hid (HI.out.2.2.1.trans hF3.drew (fun _ _ e => e.elim))
          have HT3 := Lib.hid (HI.out.2.2.2.keep hF3.drew id id id)
          have c0 : W3.cell? ⟨f, x, none⟩ = some (.int .u32 (uw (at_ m x))) := HM3.out.cell x q4
          have c1 : W3.cell? ⟨f, y, none⟩ = some (.int .u32 (uw (at_ m y))) := HM3.out.cell y q5
          have d0 : W3.drew.cell? ⟨f, x, none⟩ = some (.int .u32 (uw (at_ m x))) := c0
          have d1 : W3.drew.cell? ⟨f, y, none⟩ = some (.int .u32 (uw (at_ m y))) := c1
          have q6 : (x : Int) < 16 := by omega
          have q7 : (y : Int) < 16 := by omega
          have HC := Lib.hid (pmix W3.drew g _ HV3.out a b c d HFO.out.1.1 HFO.out.1.2.1 HFO.out.1.2.2.1 HFO.out.1.2.2.2 HFO.out.2.1 HFO.out.2.2.1 HFO.out.2.2.2.1 HFO.out.2.2.2.2.1 HFO.out.2.2.2.2.2.1 HFO.out.2.2.2.2.2.2 (at_ m x) (at_ m y))
          rw [← HST.out] at HC
          rw [← hf3, ← hW3]
          clear hF3 hn q4 q5 hif hW3 hf3
          go_still_tail 11, (by kernel_rfl)
          change wpList _ _ _ _ _ W3.drew
          go_wp2_with (go_at_call 41; refine HC.out.mono ?_; rintro e w4 ⟨rfl, hV4, hF4⟩; have H4 := Lib.hid (show WC w4 g (stsV m k (roundsV m v k) (i + 1)) ∧ WC w4 f m ∧ Fr (· = g) w w4 ∧ DT w4 from ⟨hV4, HM3.out.keep hF4 hgf, HF3.out.trans hF4 (fun _ _ e => e), HT3.out.keep hF4 (Ne.symm HG.out.2.2) (Ne.symm HG.out.1) (Ne.symm HG.out.2.1)⟩); clear hV4 hF4)
          go_roundw
          case rel => exact ⟨i + 1, HL.out, by rw [IntKind.wrap_u64, q3, HZ2.out], by go_num, H4⟩
          case measure => simp [intOf]; have := HL.out; omega
        · obtain rfl : i = 8 := by omega
          have HN := Lib.hid (show WC wr g (roundsV m v (k + 1)) ∧ WC wr f m ∧ Fr (· = g) w wr ∧ DT wr from by rw [roundsV_succ, round_sts]; exact HI.out)
          clear HI HK HK0 HS
          go_wp2_with fail
          go_roundw
          case rel => exact ⟨k + 1, by omega, by go_num, HN⟩
          case measure => simp [intOf]; omega
    · obtain rfl : k = 10 := by omega
      go_wp2_with fail
      exact (show _ ∧ _ from ⟨rfl, .tuple #[], results_none rfl _ _ _, rfl, HK.out.1, HK.out.2.2.1⟩)
end Go.Proofs.YtoikgnmhnlcbhaaDoor.dg
