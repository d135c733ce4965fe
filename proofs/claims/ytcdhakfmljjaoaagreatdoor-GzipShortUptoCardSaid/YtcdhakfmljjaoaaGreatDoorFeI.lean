/-
  The program's stream: the code for lengths.
-/
import Derived.Test.YtcdhakfmljjaoaaGreatDoorFeH
namespace Go.Proofs.YtcdhakfmljjaoaaGreatDoor.ft
set_option maxRecDepth 100000
open Go.RowKit Go.Maps Go.Proofs.YtcdhakfmljjaoaaGreatDoor.fl Go.Proofs.YtcdhakfmljjaoaaGreatDoor.cd
set_option maxRecDepth 100000

theorem order_at : ∀ k, k < 19 → ∀ s, s < 19 → (orderL.idxOf s = k ↔ s = orderL.getD k 0) := by decide +kernel
theorem order_in : ∀ k, k < 19 → orderL.getD k 0 < 19 ∧ orderL[k]? = some (orderL.getD k 0) := by decide +kernel
theorem firstL_length (v : List Int) : (firstL v).length = 19 := by unfold firstL; simp
theorem first_snoc (v : List Int) (x : Int) (h : v.length < 19) : firstL (v ++ [x]) = (firstL v).set (orderL.getD v.length 0) x := by
  apply List.ext_getElem?
  intro s
  by_cases hs : s < 19
  · have e1 : (firstL (v ++ [x]))[s]? = some ((((v ++ [x])[orderL.idxOf s]?).getD 0)) := by unfold firstL; rw [List.getElem?_map, List.getElem?_range hs]; rfl
    have e2 : (firstL v)[s]? = some (((v[orderL.idxOf s]?).getD 0)) := by unfold firstL; rw [List.getElem?_map, List.getElem?_range hs]; rfl
    have h2 := order_at v.length h s hs
    rw [e1]
    by_cases e : s = orderL.getD v.length 0
    · rw [← e, List.getElem?_set_self (by rw [firstL_length]; exact hs), h2.2 e, List.getElem?_append_right (Nat.le_refl _), Nat.sub_self]
      rfl
    · rw [List.getElem?_set_ne (fun e3 => e e3.symm), e2]
      have hne : orderL.idxOf s ≠ v.length := fun e3 => e (h2.1 e3)
      rcases Nat.lt_or_ge (orderL.idxOf s) v.length with h3 | h3
      · rw [List.getElem?_append_left h3]
      · rw [List.getElem?_eq_none (by rw [List.length_append]; simp; omega), List.getElem?_eq_none h3]
  · rw [List.getElem?_eq_none (by rw [firstL_length]; omega), List.getElem?_eq_none (by rw [List.length_set, firstL_length]; omega)]
theorem first_nil : firstL [] = List.replicate 19 0 := by decide +kernel
theorem first_in {v : List Int} (h : ∀ x ∈ v, 0 ≤ x ∧ x ≤ 7) : ∀ x ∈ firstL v, 0 ≤ x ∧ x ≤ 7 := by
  intro x hx
  unfold firstL at hx
  obtain ⟨s, _, rfl⟩ := List.mem_map.1 hx
  cases hv : v[orderL.idxOf s]? with
  | none => simp
  | some y => exact h y (List.mem_of_getElem? hv)
def codeM (n : Nat) : RdM (List Int) := bnd (manyM (tk 3) n) fun v => if okB (firstL v) = true then ret (firstL v) else err 110
def codeT (B : List Int) (U : Except Int (List Int × Nat)) : Except Int (List Int × Nat) := match U with
  | .error e => .error e
  | .ok (v, q) => (if okB (firstL v) = true then ret (firstL v) else err 110) B q
theorem codeM_T (n : Nat) (B : List Int) (p : Nat) : codeM n B p = codeT B (manyM (tk 3) n B p) := by
  unfold codeM codeT bnd
  cases manyM (tk 3) n B p with
  | error e => rfl
  | ok v => rfl
/-- Many numbers, of which some are read. -/
def manyR (n : Nat) (v : List Int) (B : List Int) (p : Nat) : Except Int (List Int × Nat) := match manyM (tk 3) n B p with
  | .error e => .error e
  | .ok (r, q) => .ok (v ++ r, q)
theorem manyR_all (n : Nat) (B : List Int) (p : Nat) : manyM (tk 3) n B p = manyR n [] B p := by
  unfold manyR
  cases manyM (tk 3) n B p with
  | error e => rfl
  | ok v => rfl
theorem manyR_zero (v B : List Int) (p : Nat) : manyR 0 v B p = .ok (v, p) := by
  unfold manyR manyM ret
  simp
theorem manyR_err {n : Nat} {v B : List Int} {p : Nat} {x : Int} (h : tk 3 B p = .error x) : manyR (n + 1) v B p = .error x := by
  unfold manyR
  rw [manyM, bnd_err h]
theorem manyR_next {n : Nat} {v B : List Int} {p q : Nat} {x : Int} (h : tk 3 B p = .ok (x, q)) : manyR (n + 1) v B p = manyR n (v ++ [x]) B q := by
  unfold manyR
  rw [manyM, bnd_of h]
  unfold bnd
  cases manyM (tk 3) n B q with
  | error e => rfl
  | ok v => simp [ret]
def z19 : List Int := List.replicate 19 0
theorem run_alloc19 (w : World) : (Instr.alloc 164 true (.tuple #[])).run Tryz.prog w = .ok (.pointer (some ⟨w.heap.size, 0, none⟩)) (w.alloc (.cells (is z19).toArray 164)) := by
  kernel_rfl
theorem wpList_alloc19 {ops : Array Oper} {rest : List Oper} {o : Oper} {a : Act} {w : World} {Q : Exit → Act → World → Prop} (hg : o.guard = none) (ho : o.op = .alloc 164)
    (h : wpList Tryz.prog ops Q rest (a.put o.dst (.pointer (some ⟨w.heap.size, 0, none⟩))) (w.alloc (.cells (is z19).toArray 164))) : wpList Tryz.prog ops Q (o :: rest) a w := by
  refine wpList_plain hg fun K hK => ?_
  unfold Oper.wp
  simp only [execOp, ho, Sem.run_bind, run_alloc19, Result.andThen]
  exact hK _ _ h
section
variable {E : En} {K : Nat → Prop} {w : World} {p : Nat} {out : By}
/-- What codeForLengths answers. -/
def CodeR (E : En) (K : Nat → Prop) (w : World) (out : By) (r : Except Int (List Int × Nat)) (e : Ending) (w' : World) : Prop := (∃ x : Int, x ≠ 0 ∧ r = .error x ∧ e = .returned (.tuple #[.pointer none, .int .i64 x]) ∧ Fr (fun _ => False) E.w0 w' ∧ Kp K w w') ∨ ∃ l q a S, r = .ok (l, q) ∧ e = .returned (.tuple #[.pointer (some a), .int .i64 0]) ∧ PC w' a l S ∧ JS E (fun i => K i ∨ S i) w' q out ∧ Kp K w w'
set_option maxHeartbeats 8000000 in
theorem pcodeFor (hT : Tabs E.w0) (h : JS E K w p out) (n : Nat) (hn : n ≤ 19) : Calls Tryz.prog 114 #[.pointer (some ⟨E.g, 0, none⟩), .int .i64 (n : Int)] w (CodeR E K w out (codeM n (bitsOf E.b) p)) := by
  have hA := (Fr.refl (fun _ => False) w).alloc (.cells (is z19).toArray 164)
  have hJ := h.new hA
  obtain ⟨wA, hwA⟩ : ∃ wA, wA = w.alloc (.cells (is z19).toArray 164) := ⟨_, rfl⟩
  have hn0 : wA.heap[w.heap.size]? = some (.cells (is (firstL [])).toArray 164 (0, 0)) := by rw [hwA, first_nil]; exact heap_alloc_new _ _
  rw [← hwA] at hA hJ
  obtain ⟨ga, hga⟩ : ∃ ga, ga = w.heap.size := ⟨_, rfl⟩
  have hJ1 : JS E (fun i => K i ∨ i = ga) wA p out := hJ.less (fun i hi => hi.imp id (fun e => by rw [e, hga]; exact ⟨Nat.le_refl _, lt_of_block hn0⟩))
  rw [← hga] at hn0
  have hkA := h.kp hA
  have hgF : ¬ E.F ga := fun e => by
    obtain ⟨_, _, _, _, _, _, f5⟩ := h.fx
    have := (f5 ga e).2
    omega
  have hgK : ¬ K ga := fun e => by have := (h.k ga e).2; omega
  have H0 := Lib.hid (⟨hJ1, hn0, hkA⟩ : _ ∧ _ ∧ _)
  have HG := Lib.hid (⟨hgF, hgK⟩ : _ ∧ _)
  have HT := Lib.hid hT
  obtain ⟨U, hU⟩ : ∃ U, U = manyM (tk 3) n (bitsOf E.b) p := ⟨_, rfl⟩
  have HU := Lib.hid hU
  have HM := Lib.hid (codeM_T n (bitsOf E.b) p)
  rw [← hU] at HM
  obtain ⟨Z, hZ⟩ : ∃ Z, Z = codeM n (bitsOf E.b) p := ⟨_, rfl⟩
  rw [← hZ] at HM ⊢
  clear h hA hJ hJ1 hn0 hkA hgF hgK hU hZ hT
  go_enter Tryz.func114, Tryz.ntmps114
  go_wp2_with (refine wpList_alloc19 rfl rfl ?_)
  rw [← hwA, ← hga]
  clear hwA hga
  go_loopw [7, 8, 9, 11] (fun _ _ _ v11 wr => ∃ (i p1 : Nat) (v : List Int), i ≤ n ∧ v11 = .int .i64 i ∧ Hid (v.length = i ∧ (∀ x ∈ v, 0 ≤ x ∧ x ≤ 7) ∧ JS E (fun i => K i ∨ i = ga) wr p1 out ∧ Kp K wA wr ∧ wr.heap[ga]? = some (.cells (is (firstL v)).toArray 164 (0, 0)) ∧ U = manyR (n - i) v (bitsOf E.b) p1)) (fun _ _ _ v _ => n - (intOf v).toNat)
  case atStart => exact ⟨0, p, [], Nat.zero_le _, rfl, (show _ ∧ _ from ⟨rfl, (fun x hx => by cases hx), H0.out.1, fun _ _ => rfl, H0.out.2.1, by rw [HU.out, manyR_all]; rfl⟩)⟩
  case round =>
    obtain ⟨i, p1, v, hi, rfl, HC⟩ := hrel
    by_cases hlt : i < n
    · have c0 := HC.out.2.2.1.c0
      obtain ⟨m, hm⟩ : ∃ m, n - i = m + 1 := ⟨n - i - 1, by omega⟩
      have HMM := Lib.hid hm
      rcases tk_two (n := 3) (by omega) E p1 with ht | ⟨x, ht, hx⟩
      · have HR := Lib.hid (HC.out.2.2.1.take_no (by omega) ht wr (Fr.refl _ _))
        have HE := Lib.hid (show Z = .error 7 by rw [HM.out, HC.out.2.2.2.2.2, HMM.out, manyR_err ht]; rfl)
        clear ht hm
        go_wp2_with (go_at_call 75; refine HR.out.mono ?_; rintro e w2 ⟨rfl, hf, hk⟩; have H2 := Lib.hid (⟨hf, (H0.out.2.2.trans HC.out.2.2.2.1).trans (hk.mono (fun _ e => Or.inl e))⟩ : _ ∧ _); clear hf hk)
        go_ret2
        exact Or.inl ⟨7, by decide, HE.out, rfl, H2.out⟩
      · have hx8 : x < 8 := hx
        have HR := Lib.hid (HC.out.2.2.1.take_ok (by omega) ht wr (Fr.refl _ _))
        obtain ⟨o, ho⟩ : ∃ o, o = orderL.getD i 0 := ⟨_, rfl⟩
        obtain ⟨ho1, ho2⟩ := order_in i (by omega)
        rw [← ho] at ho1 ho2
        have HTB := Lib.hid (show ∀ w1, Fr (fun _ => False) E.w0 w1 → w1.cell? ⟨5, i, none⟩ = some (.int .i64 (o : Int)) from fun w1 hF => (HT.out.keep hF).ord i o ho2)
        have HFS := Lib.hid (show firstL (v ++ [(x : Int)]) = (firstL v).set o x from by
          have := first_snoc v x (by have := HC.out.1; omega)
          rw [HC.out.1, ← ho] at this
          exact this)
        have HLT := Lib.hid (show ∃ y, (firstL v)[o]? = some y from ⟨_, List.getElem?_eq_getElem (by rw [firstL_length]; exact ho1)⟩)
        obtain ⟨y, hy⟩ := HLT.out
        have HY := Lib.hid hy
        have HUU := Lib.hid (show U = manyR (n - (i + 1)) (v ++ [(x : Int)]) (bitsOf E.b) (p1 + 3) by rw [HC.out.2.2.2.2.2, HMM.out, manyR_next ht, show n - (i + 1) = m by omega])
        have ho0 : (0 : Int) ≤ (o : Int) := by omega
        have ho9 : (o : Int) < 19 := by omega
        have hi0 : (0 : Int) ≤ (i : Int) := by omega
        have hi9 : (i : Int) < 19 := by omega
        clear ht hm ho ho2 hy HLT
        go_wp2_with (go_at_call 75; refine HR.out.mono ?_; rintro e w2 ⟨rfl, hf, hk⟩; have H2 := Lib.hid (⟨hf, hk⟩ : _ ∧ _); have b1 := (H2.out.2 ga (Or.inr rfl)).trans HC.out.2.2.2.2.1; have z0 := HTB.out w2 hf.fr; have z1 : w2.cell? ⟨ga, o, none⟩ = some (.int .i64 y) := (by rw [cellAt b1, List.getElem?_toArray, is_get, HY.out]; rfl); have z2 := freeAt b1 o; have HB1 := Lib.hid b1; clear hf hk b1)
        have hSet : Fr (· = ga) w2 (w2.setCell ⟨ga, o, none⟩ (.int .i64 (x : Int))) := (Fr.refl (· = ga) w2).setCell (p := ⟨ga, o, none⟩) (Or.inl rfl) _
        have HZ := Lib.hid (show (v ++ [(x : Int)]).length = i + 1 ∧ (∀ u ∈ v ++ [(x : Int)], 0 ≤ u ∧ u ≤ 7) ∧ JS E (fun i => K i ∨ i = ga) (w2.setCell ⟨ga, o, none⟩ (.int .i64 (x : Int))) (p1 + 3) out ∧ Kp K wA (w2.setCell ⟨ga, o, none⟩ (.int .i64 (x : Int))) ∧ (w2.setCell ⟨ga, o, none⟩ (.int .i64 (x : Int))).heap[ga]? = some (.cells (is (firstL (v ++ [(x : Int)]))).toArray 164 (0, 0)) ∧ U = manyR (n - (i + 1)) (v ++ [(x : Int)]) (bitsOf E.b) (p1 + 3) from by
          refine ⟨by rw [List.length_append, HC.out.1]; rfl, fun u hu => ?_, (H2.out.1.mine hSet (fun j hj => ⟨Or.inr hj, by rw [hj]; exact HG.out.1⟩)).less (fun _ e => Or.inl e), HC.out.2.2.2.1.trans ((H2.out.2.mono (fun _ e => Or.inl e)).trans (fun j hj => ?_)), ?_, HUU.out⟩
          · rcases List.mem_append.1 hu with e | e
            · exact HC.out.2.1 u e
            · rw [List.mem_singleton.1 e]; omega
          · exact hSet.block j ((H2.out.1.k j (Or.inl hj)).2) (fun e => HG.out.2 (by rw [← e]; exact hj))
          · rw [heap_setCell_same _ _ _ _ _ _ HB1.out, HFS.out, ← is_set]
            simp)
        clear hSet HB1 HUU HFS HR z0 z1 z2 c0
        go_wp2_with fail
        go_roundw
        case rel => exact ⟨i + 1, p1 + 3, _, by omega, by go_num, HZ⟩
        case measure => simp [intOf]; omega
    · obtain rfl : i = n := by omega
      have hb := HC.out.2.2.2.2.1
      have HRI := Lib.hid (show RdI wr wr.heap.size (some ⟨ga, 0, none⟩) (firstL v) from ⟨fun _ => ⟨ga, 0, rfl, lt_of_block hb, fun j x hj => by rw [Nat.zero_add, cellAt hb, List.getElem?_toArray, is_get, hj]; rfl⟩, fun x hx => by have := first_in HC.out.2.1 x hx; omega⟩)
      have HU2 := Lib.hid (show Z = (if okB (firstL v) = true then ret (firstL v) else err 110) (bitsOf E.b) p1 by rw [HM.out, HC.out.2.2.2.2.2, Nat.sub_self, manyR_zero]; rfl)
      have HCO := Lib.hid (pcodeOf wr (some ⟨ga, 0, none⟩) 19 (firstL v) HRI.out (by rw [firstL_length]; omega))
      rw [firstL_length] at HCO
      clear hb
      go_wp2_with fail
      refine HCO.out.mono ?_
      rintro e w2 (⟨hok, a, S, rfl, g1, g2, g3⟩ | ⟨hok, rfl, g3⟩)
      · have HE := Lib.hid (show Z = .ok (firstL v, p1) by rw [HU2.out, if_pos hok]; rfl)
        have hn2 := HC.out.2.2.1.new g3
        have H2 := Lib.hid (show PC w2 a (firstL v) S ∧ JS E (fun i => K i ∨ S i) w2 p1 out ∧ Kp K w w2 from ⟨g1, hn2.less (fun j hj => by
          rcases hj with hj | hj
          · exact Or.inl (Or.inl hj)
          · exact Or.inr ⟨g2 j hj, (code_all.c_in g1).1 j hj⟩), (H0.out.2.2.trans HC.out.2.2.2.1).trans ((HC.out.2.2.1.kp g3).mono (fun _ e => Or.inl e))⟩)
        clear g1 g2 g3 hn2
        go_wp2_with fail
        go_ret2
        exact Or.inr ⟨_, _, a, S, HE.out, rfl, H2.out⟩
      · have HE := Lib.hid (show Z = .error 110 by rw [HU2.out, hok]; rfl)
        have H2 := Lib.hid (show Fr (fun _ => False) E.w0 w2 ∧ Kp K w w2 from ⟨HC.out.2.2.1.fr.trans g3 (fun _ _ e => e), (H0.out.2.2.trans HC.out.2.2.2.1).trans ((HC.out.2.2.1.kp g3).mono (fun _ e => Or.inl e))⟩)
        clear g3
        go_wp2_with fail
        go_ret2
        exact Or.inl ⟨110, by decide, HE.out, rfl, H2.out⟩
end
end Go.Proofs.YtcdhakfmljjaoaaGreatDoor.ft
