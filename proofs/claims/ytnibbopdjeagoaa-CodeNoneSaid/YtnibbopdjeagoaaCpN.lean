/-
  Codes that no call made; a reader and a writer that are none.
-/
import Derived.Test.YtnibbopdjeagoaaCdE
import Derived.Test.YtnibbopdjeagoaaCpI
import Derived.Test.YtnibbopdjeagoaaFlN
import Derived.Deep.DeepCutAuto
namespace Go.Proofs.Ytnibbopdjeagoaa.cd
set_option maxRecDepth 100000
open Go.RowKit Go.Maps Go.Proofs.Ytnibbopdjeagoaa.fl
set_option maxRecDepth 100000

abbrev noCode : Obj := .cells (codC 0 no16 (.slice none 0 0) (.slice none 0 0)).toArray 60 (0, 0)
theorem run_allocCode (w : World) : (Instr.alloc 60 true (.tuple #[])).run Try.prog w = .ok (.pointer (some ⟨w.heap.size, 0, none⟩)) (w.alloc noCode) := by
  kernel_rfl
theorem wpList_allocCode {ops : Array Oper} {rest : List Oper} {o : Oper} {a : Act} {w : World} {Q : Exit → Act → World → Prop} (hg : o.guard = none) (ho : o.op = .alloc 60)
    (h : wpList Try.prog ops Q rest (a.put o.dst (.pointer (some ⟨w.heap.size, 0, none⟩))) (w.alloc noCode)) : wpList Try.prog ops Q (o :: rest) a w := by
  refine wpList_plain hg fun K hK => ?_
  unfold Oper.wp
  simp only [execOp, ho, Sem.run_bind, run_allocCode, Result.andThen]
  exact hK _ _ h
/-- A code that no call made. -/
def NoC (w : World) (v : Value) : Prop := v = .pointer none ∨ ∃ g, v = .pointer (some ⟨g, 0, none⟩) ∧ w.heap[g]? = some noCode
theorem NoC.calm {w w' : World} {v : Value} (h : NoC w v) (hF : Fr (fun _ => False) w w') : NoC w' v := h.imp id fun ⟨g, e, hg⟩ => ⟨g, e, (hF.block g (lt_of_block hg) id).trans hg⟩
set_option maxHeartbeats 1000000 in
theorem NoC.missing {w : World} {v : Value} (h : NoC w v) : Calls Try.prog 44 #[v] w fun e w' => e = .returned (.bool true) ∧ w = w' := by
  rcases h with rfl | ⟨g, rfl, hg⟩
  · go_enter Try.func44, Try.ntmps44
    go_wp2_with fail
    go_ret
    exact ⟨rfl, rfl⟩
  · have c0 : w.cell? ⟨g, 0, none⟩ = some (.int .i64 0) := by rw [cellAt hg]; rfl
    clear hg
    go_enter Try.func44, Try.ntmps44
    go_wp2_with fail
    go_ret
    exact ⟨rfl, rfl⟩
set_option maxHeartbeats 1000000 in
theorem read_no {w : World} {v : Value} (h : NoC w v) (x : Value) : Calls Try.prog 24 #[v, x] w fun e w' => e = .returned (.tuple #[.int .i64 0, .int .i64 1]) ∧ w = w' := by
  have HM := Lib.hid h.missing
  clear h
  go_enter Try.func24, Try.ntmps24
  go_wp2_with fail
  go_step3
  go_wp2_with (go_at_call 44; refine HM.out.mono ?_; rintro e w' ⟨rfl, rfl⟩)
  rw [Exit.noGoto_ret]
  go_ret2
  exact ⟨rfl, rfl⟩
set_option maxHeartbeats 1000000 in
theorem word_no {w : World} {v : Value} (h : NoC w v) (s : Int) : Calls Try.prog 18 #[v, .int .i64 s] w fun e w' => e = .returned (.tuple #[.int .i64 0, .int .i64 0, .int .i64 1]) ∧ w = w' := by
  have HM := Lib.hid h.missing
  clear h
  go_enter Try.func18, Try.ntmps18
  go_wp2_with (go_at_call 44; refine HM.out.mono ?_; rintro e w' ⟨rfl, rfl⟩)
  go_ret3
  exact ⟨rfl, rfl⟩
set_option maxHeartbeats 1000000 in
theorem write_no {w : World} {v : Value} (h : NoC w v) (x : Value) (s : Int) : Calls Try.prog 29 #[v, x, .int .i64 s] w fun e w' => e = .returned (.int .i64 1) ∧ w = w' := by
  have HM := Lib.hid (word_no h s)
  clear h
  go_enter Try.func29, Try.ntmps29
  go_wp2_with (go_at_call 18; refine HM.out.mono ?_; rintro e w' ⟨rfl, rfl⟩)
  go_ret
  exact ⟨rfl, rfl⟩
set_option maxHeartbeats 1000000 in
theorem symbols_no {w : World} {v : Value} (h : NoC w v) : Calls Try.prog 20 #[v] w fun e w' => e = .returned (.int .i64 0) ∧ w = w' := by
  have HM := Lib.hid h.missing
  clear h
  go_enter Try.func20, Try.ntmps20
  go_wp2_with (go_at_call 44; refine HM.out.mono ?_; rintro e w' ⟨rfl, rfl⟩)
  go_ret
  exact ⟨rfl, rfl⟩
set_option maxHeartbeats 1000000 in
theorem mayput_none {w : World} {v : Value} (h : NoV w v) (n k : Int) : Calls Try.prog 63 #[v, .int .i64 n, .int .i64 k] w fun e w' => e = .returned (.int .i64 1) ∧ w = w' := by
  have HM := Lib.hid h.ok
  clear h
  go_enter Try.func63, Try.ntmps63
  go_wp2_with (go_at_call 53; refine HM.out.mono ?_; rintro e w' ⟨rfl, rfl⟩)
  go_ret
  exact ⟨rfl, rfl⟩
set_option maxHeartbeats 1000000 in
theorem code_none {w : World} {v : Value} (h : NoV w v) (n k : Int) : Calls Try.prog 52 #[v, .int .i64 n, .int .i64 k] w fun e w' => e = .returned (.int .i64 1) ∧ w = w' := by
  have HM := Lib.hid (mayput_none h n k)
  clear h
  go_enter Try.func52, Try.ntmps52
  go_wp2_with (go_at_call 63; refine HM.out.mono ?_; rintro e w' ⟨rfl, rfl⟩)
  go_ret
  exact ⟨rfl, rfl⟩
set_option maxHeartbeats 1000000 in
/-- A symbol that has a code is written to no writer. -/
theorem write_none {w : World} {g gw gs : Nat} {l sy : List Int} {S : Nat → Prop} (h : CodM w g gw gs l sy S) (c d : Int) (s : Int) (hs : Big s) (hv : symV l s = (c, d, 0)) : Calls Try.prog 29 #[.pointer (some ⟨g, 0, none⟩), .pointer none, .int .i64 s] w fun e w' => e = .returned (.int .i64 1) ∧ Fr (fun _ => False) w w' := by
  have HW := Lib.hid (pword h s hs)
  rw [hv] at HW
  clear h hv
  have HC := Lib.hid (fun wx => code_none (w := wx) (v := .pointer none) (Or.inl rfl) c d)
  go_enter Try.func29, Try.ntmps29
  go_wp2_with (first
    | (go_at_call 18; refine HW.out.mono ?_; rintro e w1 ⟨rfl, hF1⟩; have HF1 := Lib.hid hF1; clear hF1)
    | (go_at_call 52; refine (HC.out _).mono ?_; rintro e w2 ⟨rfl, rfl⟩))
  go_ret
  exact ⟨rfl, HF1.out⟩
set_option maxHeartbeats 2000000 in
theorem read_none {w : World} {g gw gs : Nat} {l sy : List Int} {S : Nat → Prop} (h : CodM w g gw gs l sy S) : Calls Try.prog 24 #[.pointer (some ⟨g, 0, none⟩), .pointer none] w fun e w' => e = .returned (.tuple #[.int .i64 0, .int .i64 1]) ∧ Fr (fun _ => False) w w' := by
  have HM := Lib.hid (pmissing h)
  have HTK := Lib.hid (fun wx => take_no (w := wx) (v := .pointer none) (Or.inl rfl) 1)
  have h1 := most_in h.inb
  have c0 := h.reach
  have hgs : g < w.heap.size := h.low g h.own.1
  obtain ⟨z, hz⟩ : ∃ z, z = mostW (wordsL l) := ⟨_, rfl⟩
  rw [← hz] at c0 h1
  have HNX := Lib.hid (fun wx => pnext wx 0 0 0 (by omega) (by omega) (by omega))
  have H0 := Lib.hid (show (w.alloc (.cells #[.int .i64 0, .int .i64 0] 66)).heap[w.heap.size]? = some (.cells #[.int .i64 0, .int .i64 0] 66 (0, 0)) ∧ CodM (w.alloc (.cells #[.int .i64 0, .int .i64 0] 66)) g gw gs l sy S ∧ Fr (fun _ => False) w (w.alloc (.cells #[.int .i64 0, .int .i64 0] 66)) from ⟨heap_alloc_new _ _, h.still ((Fr.refl _ w).alloc _), (Fr.refl _ w).alloc _⟩)
  have hor : bits .or .i64 0 0 = 0 := by decide
  clear hz h
  go_enter Try.func24, Try.ntmps24
  go_wp2_with fail
  go_step3
  go_wp2_with (go_at_call 44; refine HM.out.mono ?_; rintro e w' ⟨rfl, rfl⟩)
  go_step3
  go_wp2_with fail
  go_loopw [7, 8, 9, 10, 11, 12, 13, 20, 44, 48] (fun v7 v8 v9 _ _ _ _ i _ _ wr => v7 = .int .i64 0 ∧ v8 = .int .i64 0 ∧ v9 = .int .i64 110 ∧ i = .int .i64 0 ∧ Hid (wr.heap[w.heap.size]? = some (.cells #[.int .i64 0, .int .i64 0] 66 (0, 0)) ∧ CodM wr g gw gs l sy S ∧ Fr (fun _ => False) w wr)) (fun _ _ _ _ _ _ _ i _ _ _ => z - (intOf i).toNat)
  case atStart => exact ⟨rfl, rfl, rfl, rfl, H0⟩
  case round =>
    obtain ⟨rfl, rfl, rfl, rfl, HC⟩ := hrel
    have hz0 : (0 : Int) < (z : Int) := by omega
    have y0 := (cellAt HC.out.1 0).trans rfl
    have y1 := (cellAt HC.out.1 1).trans rfl
    have y2 : wr.cell? ⟨g, 1, none⟩ = some (.int .i64 0) := HC.out.2.1.count (n := 0) (by omega)
    have HD := Lib.hid ((Fr.refl (fun _ => False) wr).drew)
    have HLV := Lib.hid (show ∀ w', Fr (fun _ => False) wr w' → w'.cell? ⟨w.heap.size, 0, none⟩ = some (.int .i64 0) ∧ w'.cell? ⟨w.heap.size, 1, none⟩ = some (.int .i64 0) ∧ w'.frozen? ⟨w.heap.size, 0, none⟩ = false ∧ w'.frozen? ⟨w.heap.size, 1, none⟩ = false from fun w' hF => by
      have hb := (hF.block _ (lt_of_block HC.out.1) id).trans HC.out.1
      exact ⟨(cellAt hb 0).trans rfl, (cellAt hb 1).trans rfl, freeAt hb 0, freeAt hb 1⟩)
    go_upto_region 9 with (go_at_call 46; refine (HTK.out _).mono ?_; rintro e w1 ⟨rfl, rfl⟩)
    go_region_with
      (go_at_call 47; refine (HNX.out _).mono ?_; rintro e w2 ⟨rfl, hF2⟩; have HS2 := Lib.hid (HD.out.trans hF2 (fun _ _ e => e)); obtain ⟨a0, a1, b0, b1⟩ := HLV.out w2 HS2.out; clear hF2)
    all_goals
      have HE := Lib.hid (show Fr (fun _ => False) w ((w2.setCell ⟨w.heap.size, 0, none⟩ (.int .i64 0)).setCell ⟨w.heap.size, 1, none⟩ (.int .i64 0)) from ((HC.out.2.2.trans HS2.out (fun _ _ e => e)).setCell (p := ⟨w.heap.size, 0, none⟩) (Or.inr (Nat.le_refl _)) _).setCell (p := ⟨w.heap.size, 1, none⟩) (Or.inr (Nat.le_refl _)) _)
      go_wp2_with fail
      rw [Exit.noGoto_ret]
      go_ret2
      exact ⟨rfl, HE.out⟩
theorem ex_11 : okB [1, 1] = true := by decide
theorem ex_sym11 : symV [1, 1] 0 = (0, 1, 0) := by decide
set_option maxHeartbeats 8000000 in
theorem none_walk {R : RP} {V : VP} (HF : FlowP R V) (HP : CodeP R V PC) (w : World) (A : Option Addr) (cap : Nat) (b : List UInt8) (s : Int) (hr : Rd w w.heap.size A b) (hA : A = none → cap = 0) (hc : b.length ≤ cap) (hl : b.length ≤ 140737488351232) :
    Calls Try.prog 8 #[.slice A b.length cap, .int .i64 s] w fun e w' => e = .returned (.bool true) ∧ Fr (fun _ => False) w w' := by
  have HFF := Lib.hid HF
  have HPP := Lib.hid HP
  have HW := Lib.hid (cworks HF HP w)
  have HR := Lib.hid (⟨hr, hA, hc, hl⟩ : _ ∧ _ ∧ _ ∧ _)
  obtain ⟨n, hn⟩ : ∃ n, n = b.length := ⟨_, rfl⟩
  have HN := Lib.hid hn
  rw [← hn]
  clear HF HP hr hA hc hl hn
  go_enter Try.func8, Try.ntmps8
  go_wp2_with fail
  refine HW.out.mono ?_
  rintro e w1 ⟨rfl, hF1⟩
  obtain ⟨wz, hwz⟩ : ∃ wz, wz = w1.alloc noCode := ⟨_, rfl⟩
  have HZ := Lib.hid (show NoC wz (.pointer (some ⟨w1.heap.size, 0, none⟩)) ∧ Fr (fun _ => False) w wz by
    rw [hwz]
    exact ⟨Or.inr ⟨_, rfl, heap_alloc_new _ _⟩, hF1.alloc _⟩)
  have HNEW := Lib.hid (show ∀ wx, Fr (fun _ => False) wz wx → Calls Try.prog 22 #[.slice A n cap] wx fun e w' => (∃ a, e = .returned (.pointer (some a))) ∧ Fr (fun _ => False) wz w' from fun wx hF => by
    have hFw := HZ.out.2.trans hF (fun _ _ e => e)
    have h := HFF.out.new wx A cap b ((HR.out.1.still hFw (Nat.le_refl _)).more hFw.size) HR.out.2.1 HR.out.2.2.1 HR.out.2.2.2
    rw [← HN.out] at h
    exact h.mono fun e w' ⟨a, S, e1, _, _, e4⟩ => ⟨⟨a, e1⟩, hF.trans e4 (fun _ _ e => e)⟩)
  have HRD0 := Lib.hid (fun (wx : World) (x : Value) => read_no (w := wx) (v := .pointer none) (Or.inl rfl) x)
  have HRDZ := Lib.hid (fun (wx : World) (hF : Fr (fun _ => False) wz wx) (x : Value) => read_no (HZ.out.1.calm hF) x)
  have HWD0 := Lib.hid (fun (wx : World) => word_no (w := wx) (v := .pointer none) (Or.inl rfl) s)
  have HWDZ := Lib.hid (fun (wx : World) (hF : Fr (fun _ => False) wz wx) => word_no (HZ.out.1.calm hF) s)
  have HWc := Lib.hid (Fr.refl (fun _ => False) wz)
  clear HW hF1
  go_wp2_with ((with_reducible refine wpList_allocCode ?_ ?_ ?_); (exact rfl); (exact rfl))
  rw [← hwz]
  obtain ⟨gz, hgz⟩ : ∃ gz, gz = w1.heap.size := ⟨_, rfl⟩
  rw [← hgz] at HZ HRDZ HWDZ ⊢
  clear hwz hgz
  refine (HNEW.out _ HWc.out).mono ?_
  rintro e w3 ⟨⟨a, rfl⟩, hF⟩
  have HWd := Lib.hid hF
  clear hF HWc
  go_wp2_with fail
  refine (HRD0.out _ _).mono ?_
  rintro e w4 ⟨rfl, rfl⟩
  go_wp2_with fail
  refine (HNEW.out _ HWd.out).mono ?_
  rintro e w5 ⟨⟨a2, rfl⟩, hF⟩
  have HWe := Lib.hid hF
  clear hF HWd
  go_wp2_with fail
  refine (HRDZ.out _ HWe.out _).mono ?_
  rintro e w4 ⟨rfl, rfl⟩
  go_wp2_with fail
  refine (HWD0.out _).mono ?_
  rintro e w4 ⟨rfl, rfl⟩
  go_wp2_with fail
  refine (HWDZ.out _ HWe.out).mono ?_
  rintro e w4 ⟨rfl, rfl⟩
  go_wp2_with fail
  have HNC := Lib.hid (HPP.out.new_ok (w5.alloc (.cells #[.int .i64 1, .int .i64 1] 3)) (some ⟨w5.heap.size, 0, none⟩) 2 [1, 1] (lit_rdI w5 [1, 1] _ rfl (by simp)) (fun e => by cases e) (Nat.le_refl _) (by simp) ex_11)
  refine HNC.out.mono ?_
  rintro e w6 ⟨cc, S, rfl, hP, hS, hF6⟩
  obtain ⟨g, gw, gs, sy, rfl, hM⟩ := hP
  have hF56 := ((Fr.refl (fun _ => False) w5).alloc (.cells #[.int .i64 1, .int .i64 1] 3)).trans hF6 (fun _ _ e => e)
  have hzz := HWe.out.trans hF56 (fun _ _ e => e)
  have HZ6 := Lib.hid (⟨HZ.out.1.calm hzz, HZ.out.2.trans hzz (fun _ _ e => e)⟩ : NoC w6 (.pointer (some ⟨gz, 0, none⟩)) ∧ Fr (fun _ => False) w w6)
  have HRN := Lib.hid (read_none hM)
  have HWN := Lib.hid (fun (wx : World) (hF : Fr (fun _ => False) w6 wx) => write_none (hM.still hF) 0 1 0 (by omega) ex_sym11)
  have HWRT := Lib.hid (fun (wx : World) => HFF.out.write wx)
  have HWR0 := Lib.hid (fun (wx : World) (x : Value) => write_no (w := wx) (v := .pointer none) (Or.inl rfl) x s)
  have HWRZ := Lib.hid (fun (wx : World) (hF : Fr (fun _ => False) w6 wx) (x : Value) => write_no (HZ6.out.1.calm hF) x s)
  have HSY0 := Lib.hid (fun (wx : World) => symbols_no (w := wx) (v := .pointer none) (Or.inl rfl))
  have HSYZ := Lib.hid (fun (wx : World) (hF : Fr (fun _ => False) w6 wx) => symbols_no (HZ6.out.1.calm hF))
  clear hM hS hF6 hF56 hzz HNC HNEW HRD0 HRDZ HWD0 HWDZ HWe HZ
  go_wp2_with fail
  refine HRN.out.mono ?_
  rintro e w7 ⟨rfl, hF⟩
  have H7 := Lib.hid hF
  clear hF
  go_wp2_with fail
  refine (HWRT.out _).mono ?_
  rintro e w8 ⟨a8, S8, rfl, _, _, hF⟩
  have H8 := Lib.hid (H7.out.trans hF (fun _ _ e => e))
  clear hF
  go_wp2_with fail
  refine (HWR0.out _ _).mono ?_
  rintro e w4 ⟨rfl, rfl⟩
  go_wp2_with fail
  refine (HWRT.out _).mono ?_
  rintro e w9 ⟨a9, S9, rfl, _, _, hF⟩
  have H9 := Lib.hid (H8.out.trans hF (fun _ _ e => e))
  clear hF
  go_wp2_with fail
  refine (HWRZ.out _ H9.out _).mono ?_
  rintro e w4 ⟨rfl, rfl⟩
  go_wp2_with fail
  refine (HWN.out _ H9.out).mono ?_
  rintro e w10 ⟨rfl, hF⟩
  have H10 := Lib.hid (H9.out.trans hF (fun _ _ e => e))
  clear hF
  go_wp2_with fail
  refine (HSY0.out _).mono ?_
  rintro e w4 ⟨rfl, rfl⟩
  go_wp2_with fail
  refine (HSYZ.out _ H10.out).mono ?_
  rintro e w4 ⟨rfl, rfl⟩
  go_wp2_with fail
  go_ret
  exact ⟨rfl, HZ6.out.2.trans H10.out (fun _ _ e => e)⟩
end Go.Proofs.Ytnibbopdjeagoaa.cd
