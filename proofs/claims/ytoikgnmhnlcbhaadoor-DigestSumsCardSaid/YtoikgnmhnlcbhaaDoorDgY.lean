/-
  DigestPlain over what is asked of the program's digests.
-/
import Derived.Test.YtoikgnmhnlcbhaaDoorDgX
import Derived.Deep.RegionHeld3
namespace Go.Proofs.YtoikgnmhnlcbhaaDoor.dg
set_option maxRecDepth 100000
open Go.RowKit Go.Maps
set_option maxRecDepth 100000

theorem range_dg {w : World} {g : Nat} {l : Bts} (h : w.heap[g]? = some (.cells (dgC l) 24 (0, 0))) : w.rangeAt g 0 (bs l) := fun j v hj => by
  rw [cellAt h, Nat.zero_add]
  show (bs l).toArray[j]? = _
  rw [List.getElem?_toArray, hj]
theorem infoDgL (l : Bts) (hl : l.length = 32) : (Tryd.prog.info? 24).map (·.size) = some (bs l).length := by rw [bs_length, hl]; exact infoDg
theorem yields_eqDg {ops : Array Oper} {S : World → Prop} {o : Oper} {a : Act} (l m : Bts) (hl : l.length = 32) (hm : m.length = 32) (x y : Operand) (r : TypeId) (ho : o.op = .binOp .eql 24 x y r) (hw : Region.wanted o (yielded ops a.tmps) = true)
    (hx : a.eval x = dgV l) (hy : a.eval y = dgV m) : YieldsIf Tryd.prog ops S o (.bool (decide (l = m))) a := by
  refine Or.inl ⟨hw, fun w _ => ?_⟩
  unfold execOp
  simp only [ho, hx, hy, Sem.run_bind, run_eqGuard_agg w _ _ _ _ _ _ noGuard, run_eql_struct, Result.andThen_ok, run_equal_dg l m hl hm, Sem.run_pure]
theorem yields_sameDg {ops : Array Oper} {S : World → Prop} {o : Oper} {a : Act} (l : Bts) (hl : l.length = 32) (x y : Operand) (r : TypeId) (ho : o.op = .binOp .eql 24 x y r) (hw : Region.wanted o (yielded ops a.tmps) = true)
    (hx : a.eval x = dgV l) (hy : a.eval y = dgV l) : YieldsIf Tryd.prog ops S o (.bool true) a := by
  have h := yields_eqDg (ops := ops) (S := S) l l hl hl x y r ho hw hx hy
  rwa [decide_eq_true rfl] at h
theorem yields_loadDg {ops : Array Oper} {S : World → Prop} {o : Oper} {a : Act} (g : Nat) (l : Bts) (hl : l.length = 32) (x : Operand) (ho : o.op = .load 24 x) (hw : Region.wanted o (yielded ops a.tmps) = true)
    (hx : a.eval x = .pointer (some ⟨g, 0, none⟩)) (hS : ∀ w, S w → w.rangeAt g 0 (bs l)) : YieldsIf Tryd.prog ops S o (dgV l) a :=
  yieldsIf_load_mid hw 24 x ho g 0 hx (bs l) _ hS Tryd.underlying24 rfl (infoDgL l hl)
set_option maxHeartbeats 8000000 in
theorem plain_walk {D : World → Prop} (HP : DigP D) (w : World) (B : Option Addr) (bc : Nat) (b : Bts) (hrb : Rd w w.heap.size B b) (hBb : B = none → bc = 0) (hbc : b.length ≤ bc) (hD : D w) :
    Calls Tryd.prog 7 #[.slice B b.length bc] w fun e w' => e = .returned (.bool true) ∧ Fr (fun _ => False) w w' := by
  obtain ⟨b2, hb2⟩ : ∃ b2, b2 = b.take 20000 := ⟨_, rfl⟩
  have hm5 : b2.length ≤ 20000 := by rw [hb2, List.length_take]; omega
  have HG2 := Lib.hid (⟨by rw [hb2]; exact hrb.take 20000, hBb, by rw [hb2, List.length_take]; omega⟩ : Got w B bc b2)
  have HW := Lib.hid (works_any HP w hD)
  have hk0 : keyedV [] b2 = (digV [] b2, 0) := by unfold keyedV; rw [if_neg (by decide)]
  have HK := Lib.hid (fun wx (hF : Fr (fun _ => False) w wx) A1 (hA : A1 = none ∨ ∃ a, A1 = some a) => show Calls Tryd.prog 17 #[.slice A1 0 0, .slice B b2.length bc] wx (DigR wx (keyedV [] b2)) from HP.keyed wx A1 0 [] B bc b2 (Rd.nil _ _ _) (fun _ => rfl) (Nat.le_refl _) (by decide) (HG2.out.still hF).rd hBb HG2.out.le (by omega) (HP.d_keep hD hF))
  have HSU := Lib.hid (fun wx (hF : Fr (fun _ => False) w wx) => HP.sum wx B bc b2 (HG2.out.still hF).rd hBb HG2.out.le (by omega) (HP.d_keep hD hF))
  have hxl := digV_length [] b2
  have HHX := Lib.hid (fun wx (hF : Fr (fun _ => False) w wx) => HP.hex wx (digV [] b2) hxl (HP.d_keep hD hF))
  have HSA := Lib.hid (fun wx (hF : Fr (fun _ => False) w wx) => HP.same wx (ofV b2) B bc b2 (by show (hexV _).length ≤ _; rw [hexV_length, hxl]; decide) (HG2.out.still hF).rd hBb HG2.out.le (by omega) (HP.d_keep hD hF))
  rw [decide_eq_true rfl] at HSA
  rw [hk0] at HK
  have ho : ofV b2 = hexV (digV [] b2) := rfl
  rw [ho] at HSA
  obtain ⟨x, hx⟩ : ∃ x, x = digV [] b2 := ⟨_, rfl⟩
  obtain ⟨O, hO⟩ : ∃ O, O = tx (hexV x) := ⟨_, rfl⟩
  rw [← hx] at HK HSU hxl HHX HSA
  rw [← hO] at HHX HSA
  have HXL := Lib.hid hxl
  obtain ⟨m, hm⟩ : ∃ m, m = b2.length := ⟨_, rfl⟩
  obtain ⟨N, hN⟩ : ∃ N, N = b.length := ⟨_, rfl⟩
  rw [← hm] at HK HSU HSA hm5
  rw [← hN] at hbc ⊢
  have hmN : m = if 20000 < N then 20000 else N := by rw [hm, hN, hb2, List.length_take]; split <;> omega
  have hu := Tryd.underlying24
  have hi := infoDgL x hxl
  have heq : ∀ wx : World, (Op.equalIn 10000 24 (dgV x) (dgV x)).run Tryd.prog wx = .ok true wx := fun wx => by rw [run_equal_dg x x hxl hxl wx, decide_eq_true rfl]
  have hng := noGuard
  by_cases h5 : 20000 < N
  case' pos =>
    have h50 : (20000 : Int) < (N : Int) := by omega
    rw [if_pos h5] at hmN
    have hcut := cut_at 20000 B N bc (by omega) 20000 rfl m hmN
  case' neg =>
    have h50 : ¬ ((20000 : Int) < (m : Int)) := by omega
    rw [if_neg h5] at hmN
    rw [← hmN]
  all_goals
    clear HP hb2 hrb hBb hbc hD hxl hx hm hN hmN h5 hk0 ho hO
    go_enter Tryd.func7, Tryd.ntmps7
    go_wp2_with fail
    refine HW.out.mono ?_
    rintro e w1 ⟨rfl, hF1⟩
    have H1 := Lib.hid hF1
    clear hF1
    go_wp2_with fail
    refine (HK.out w1 H1.out none (Or.inl rfl)).mono ?_
    rintro e w2 ⟨rfl, hF2⟩
    have H2 := Lib.hid (H1.out.on hF2)
    clear hF2 H1
    go_wp2_with (first
      | ((with_reducible refine wpList_allocDg ?_ ?_ ?_); (exact rfl); (exact rfl))
      | ((with_reducible refine wpList_storeDg ?_ (.tmp 3) (.tmp 17) ?_ w2.heap.size x no32 HXL.out ?_ ?_ ?_ (heap_alloc_new w2 _) ?_); (exact rfl); (exact rfl); (exact rfl); (exact rfl); (exact rfl); intro w3 h3 hF3 hs3; have H3 := Lib.hid (show w3.heap[w2.heap.size]? = some (.cells (dgC x) 24 (0, 0)) ∧ Fr (fun _ => False) w w3 from ⟨h3, H2.out.on (dg_var hF3)⟩); clear h3 hF3 hs3))
    refine (HK.out _ (H3.out.2.alloc _) _ (Or.inr ⟨_, rfl⟩)).mono ?_
    rintro e w4 ⟨rfl, hF4⟩
    have H4 := Lib.hid (⟨var_keep H3.out.1 (((Fr.refl _ _).alloc _).on hF4), (H3.out.2.alloc _).on hF4⟩ : w4.heap[w2.heap.size]? = some (.cells (dgC x) 24 (0, 0)) ∧ Fr (fun _ => False) w w4)
    clear hF4 H3
    go_wp2_with (first
      | ((with_reducible refine wpList_allocDg ?_ ?_ ?_); (exact rfl); (exact rfl))
      | ((with_reducible refine wpList_storeDg ?_ (.tmp 5) (.tmp 23) ?_ w4.heap.size x no32 HXL.out ?_ ?_ ?_ (heap_alloc_new w4 _) ?_); (exact rfl); (exact rfl); (exact rfl); (exact rfl); (exact rfl); intro w5 h5 hF5 hs5; have H5 := Lib.hid (show w5.heap[w4.heap.size]? = some (.cells (dgC x) 24 (0, 0)) ∧ w5.heap[w2.heap.size]? = some (.cells (dgC x) 24 (0, 0)) ∧ Fr (fun _ => False) w w5 from ⟨h5, var_keep H4.out.1 (dg_var hF5), H4.out.2.on (dg_var hF5)⟩); clear h5 hF5 hs5))
    have HD := Lib.hid (fun wx (hF : Fr (fun _ => False) w5 wx) => (⟨range_dg (var_keep H5.out.2.1 hF), range_dg (var_keep H5.out.1 hF)⟩ : wx.rangeAt w2.heap.size 0 (bs x) ∧ wx.rangeAt w4.heap.size 0 (bs x)))
    have KF := Lib.hid ((Fr.refl (fun _ => False) w5).drew)
    -- BEGIN
    refine wp_region_held_drew (S := fun w' => w'.rangeAt w2.heap.size 0 (bs x) ∧ w'.rangeAt w4.heap.size 0 (bs x)) (by kernel_rfl) (HD.out _ KF.out) (fun hHeld => ?_)
    refine wpAnyH_take (i := 0) (v := ?_) (by simp only [List.getElem?_toArray, List.getElem?_cons_zero]; rfl) (by kernel_rfl) (by kernel_rfl) (by kernel_rfl) (by intro _ _ _ h; exact h) (Or.inl ⟨by rfl, ?_⟩) hHeld ?_
    rotate_left 1
    · intro wx hSw
      first
        | (go_simp; done)
        | (go_simp; with_reducible rfl)
        | with_reducible rfl
    simp only [Act.put, List.setIfInBounds_toArray, List.set_cons_zero, List.set_cons_succ]
    refine wpAnyH_take (i := 1) (v := ?_) (by simp only [List.getElem?_toArray, List.getElem?_cons_succ, List.getElem?_cons_zero]; rfl) (by kernel_rfl) (by kernel_rfl) (by kernel_rfl) (by intro _ _ _ h; exact h) (Or.inl ⟨by rfl, ?_⟩) hHeld ?_
    rotate_left 1
    · intro wx hSw
      first
        | (go_simp; done)
        | (go_simp; with_reducible rfl)
        | with_reducible rfl
    simp only [Act.put, List.setIfInBounds_toArray, List.set_cons_zero, List.set_cons_succ]
    refine wpAnyH_take (i := 2) (v := ?_) (by simp only [List.getElem?_toArray, List.getElem?_cons_succ, List.getElem?_cons_zero]; rfl) (by kernel_rfl) (by kernel_rfl) (by kernel_rfl) (by intro _ _ _ h; exact h) (Or.inl ⟨by rfl, ?_⟩) hHeld ?_
    rotate_left 1
    · intro wx hSw
      first
        | (go_simp; done)
        | (go_simp; with_reducible rfl)
        | with_reducible rfl
    simp only [Act.put, List.setIfInBounds_toArray, List.set_cons_zero, List.set_cons_succ]
    refine wpAnyH_take (i := 3) (v := ?_) (by simp only [List.getElem?_toArray, List.getElem?_cons_succ, List.getElem?_cons_zero]; rfl) (by kernel_rfl) (by kernel_rfl) (by kernel_rfl) (by intro _ _ _ h; exact h) (Or.inl ⟨by rfl, ?_⟩) hHeld ?_
    rotate_left 1
    · intro wx hSw
      first
        | (go_simp; done)
        | (go_simp; with_reducible rfl)
        | with_reducible rfl
    simp only [Act.put, List.setIfInBounds_toArray, List.set_cons_zero, List.set_cons_succ]
    refine wpAnyH_take (i := 4) (v := ?_) (by simp only [List.getElem?_toArray, List.getElem?_cons_succ, List.getElem?_cons_zero]; rfl) (by kernel_rfl) (by kernel_rfl) (by kernel_rfl) (by intro _ _ _ h; exact h) (Or.inl ⟨by rfl, ?_⟩) hHeld ?_
    rotate_left 1
    · intro wx hSw
      first
        | (go_simp; done)
        | (go_simp; with_reducible rfl)
        | with_reducible rfl
    simp only [Act.put, List.setIfInBounds_toArray, List.set_cons_zero, List.set_cons_succ]
    refine wpAnyH_take (i := 5) (v := ?_) (by simp only [List.getElem?_toArray, List.getElem?_cons_succ, List.getElem?_cons_zero]; rfl) (by kernel_rfl) (by kernel_rfl) (by kernel_rfl) (by intro _ _ _ h; exact h) (Or.inl ⟨by rfl, ?_⟩) hHeld ?_
    rotate_left 1
    · intro wx hSw
      first
        | (go_simp; done)
        | (go_simp; with_reducible rfl)
        | with_reducible rfl
    simp only [Act.put, List.setIfInBounds_toArray, List.set_cons_zero, List.set_cons_succ]
    refine wpAnyH_take (i := 6) (v := ?_) (by simp only [List.getElem?_toArray, List.getElem?_cons_succ, List.getElem?_cons_zero]; rfl) (by kernel_rfl) (by kernel_rfl) (by kernel_rfl) (by intro _ _ _ h; exact h) (Or.inl ⟨by rfl, ?_⟩) hHeld ?_
    rotate_left 1
    · intro wx hSw
      first
        | (go_simp; done)
        | (go_simp; with_reducible rfl)
        | with_reducible rfl
    simp only [Act.put, List.setIfInBounds_toArray, List.set_cons_zero, List.set_cons_succ]
    refine wpAnyH_take (i := 7) (v := dgV x) (by simp only [List.getElem?_toArray, List.getElem?_cons_succ, List.getElem?_cons_zero]; rfl) (by kernel_rfl) (by kernel_rfl) (by kernel_rfl) (by intro _ _ _ h; exact h) ?_ hHeld ?_
    · exact yields_loadDg w2.heap.size x HXL.out (.tmp 3) rfl rfl rfl (fun _ h => h.1)
    simp only [Act.put, List.setIfInBounds_toArray, List.set_cons_zero, List.set_cons_succ]
    refine wpAnyH_take (i := 8) (v := dgV x) (by simp only [List.getElem?_toArray, List.getElem?_cons_succ, List.getElem?_cons_zero]; rfl) (by kernel_rfl) (by kernel_rfl) (by kernel_rfl) (by intro _ _ _ h; exact h) ?_ hHeld ?_
    · exact yields_loadDg w4.heap.size x HXL.out (.tmp 5) rfl rfl rfl (fun _ h => h.2)
    simp only [Act.put, List.setIfInBounds_toArray, List.set_cons_zero, List.set_cons_succ]
    refine wpAnyH_take (i := 9) (v := .bool true) (by simp only [List.getElem?_toArray, List.getElem?_cons_succ, List.getElem?_cons_zero]; rfl) (by kernel_rfl) (by kernel_rfl) (by kernel_rfl) (by intro _ _ _ h; exact h) ?_ hHeld ?_
    · exact yields_sameDg x HXL.out (.tmp 32) (.tmp 33) 24 rfl rfl rfl rfl
    simp only [Act.put, List.setIfInBounds_toArray, List.set_cons_zero, List.set_cons_succ]
    refine wpAnyH_take (i := 10) (v := ?_) (by simp only [List.getElem?_toArray, List.getElem?_cons_succ, List.getElem?_cons_zero]; rfl) (by kernel_rfl) (by kernel_rfl) (by kernel_rfl) (by intro _ _ _ h; exact h) (Or.inl ⟨by rfl, ?_⟩) hHeld ?_
    rotate_left 1
    · intro wx hSw
      first
        | (go_simp; done)
        | (go_simp; with_reducible rfl)
        | with_reducible rfl
    simp only [Act.put, List.setIfInBounds_toArray, List.set_cons_zero, List.set_cons_succ]
    refine wpAnyH_take (i := 11) (v := ?_) (by simp only [List.getElem?_toArray, List.getElem?_cons_succ, List.getElem?_cons_zero]; rfl) (by kernel_rfl) (by kernel_rfl) (by kernel_rfl) (by intro _ _ _ h; exact h) (Or.inl ⟨by rfl, ?_⟩) hHeld ?_
    rotate_left 1
    · intro wx hSw
      first
        | (go_simp; done)
        | (go_simp; with_reducible rfl)
        | with_reducible rfl
    simp only [Act.put, List.setIfInBounds_toArray, List.set_cons_zero, List.set_cons_succ]
    refine wpAnyH_take (i := 12) (v := dgV x) (by simp only [List.getElem?_toArray, List.getElem?_cons_succ, List.getElem?_cons_zero]; rfl) (by kernel_rfl) (by kernel_rfl) (by kernel_rfl) (by intro _ _ _ h; exact h) ?_ hHeld ?_
    · exact yields_loadDg w2.heap.size x HXL.out (.tmp 3) rfl rfl rfl (fun _ h => h.1)
    simp only [Act.put, List.setIfInBounds_toArray, List.set_cons_zero, List.set_cons_succ]
    refine wpAnyH_take (i := 13) (v := ?_) (by simp only [List.getElem?_toArray, List.getElem?_cons_succ, List.getElem?_cons_zero]; rfl) (by kernel_rfl) (by kernel_rfl) (by kernel_rfl) (by intro _ _ _ h; exact h) (Or.inl ⟨by rfl, ?_⟩) hHeld ?_
    rotate_left 1
    · intro wx hSw
      first
        | (go_simp; done)
        | (go_simp; with_reducible rfl)
        | with_reducible rfl
    simp only [Act.put, List.setIfInBounds_toArray, List.set_cons_zero, List.set_cons_succ]
    refine wpAnyH_ready (rs := [14]) (by kernel_rfl) (by simp) ?_
    refine AllReadyH.cons (by simp only [List.getElem?_toArray, List.getElem?_cons_succ, List.getElem?_cons_zero]; rfl) (fun K0 hK => ?_) AllReadyH.nil
    go_simp
    refine (HSU.out _ (H5.out.2.2.on KF.out)).mono ?_
    rintro e wn ⟨rfl, hF⟩
    replace KF := Lib.hid (KF.out.on hF)
    clear hF
    go_wp2_with fail
    refine hK.out _ _ (HD.out _ KF.out) (fun hHeld => ?_)
    clear hK K0
    try simp only [Act.put, List.setIfInBounds_toArray, List.set_cons_zero, List.set_cons_succ]
    refine wpAnyH_take (i := 15) (v := .bool true) (by simp only [List.getElem?_toArray, List.getElem?_cons_succ, List.getElem?_cons_zero]; rfl) (by kernel_rfl) (by kernel_rfl) (by kernel_rfl) (by intro _ _ _ h; exact h) ?_ hHeld ?_
    · exact yields_sameDg x HXL.out (.tmp 37) (.tmp 39) 24 rfl rfl rfl rfl
    simp only [Act.put, List.setIfInBounds_toArray, List.set_cons_zero, List.set_cons_succ]
    refine wpAnyH_take (i := 16) (v := ?_) (by simp only [List.getElem?_toArray, List.getElem?_cons_succ, List.getElem?_cons_zero]; rfl) (by kernel_rfl) (by kernel_rfl) (by kernel_rfl) (by intro _ _ _ h; exact h) (Or.inl ⟨by rfl, ?_⟩) hHeld ?_
    rotate_left 1
    · intro wx hSw
      first
        | (go_simp; done)
        | (go_simp; with_reducible rfl)
        | with_reducible rfl
    simp only [Act.put, List.setIfInBounds_toArray, List.set_cons_zero, List.set_cons_succ]
    refine wpAnyH_take (i := 17) (v := ?_) (by simp only [List.getElem?_toArray, List.getElem?_cons_succ, List.getElem?_cons_zero]; rfl) (by kernel_rfl) (by kernel_rfl) (by kernel_rfl) (by intro _ _ _ h; exact h) (Or.inl ⟨by rfl, ?_⟩) hHeld ?_
    rotate_left 1
    · intro wx hSw
      first
        | (go_simp; done)
        | (go_simp; with_reducible rfl)
        | with_reducible rfl
    simp only [Act.put, List.setIfInBounds_toArray, List.set_cons_zero, List.set_cons_succ]
    refine wpAnyH_take (i := 18) (v := dgV x) (by simp only [List.getElem?_toArray, List.getElem?_cons_succ, List.getElem?_cons_zero]; rfl) (by kernel_rfl) (by kernel_rfl) (by kernel_rfl) (by intro _ _ _ h; exact h) ?_ hHeld ?_
    · exact yields_loadDg w2.heap.size x HXL.out (.tmp 3) rfl rfl rfl (fun _ h => h.1)
    simp only [Act.put, List.setIfInBounds_toArray, List.set_cons_zero, List.set_cons_succ]
    refine wpAnyH_take (i := 20) (v := ?_) (by simp only [List.getElem?_toArray, List.getElem?_cons_succ, List.getElem?_cons_zero]; rfl) (by kernel_rfl) (by kernel_rfl) (by kernel_rfl) (by intro _ _ _ h; exact h) (Or.inl ⟨by rfl, ?_⟩) hHeld ?_
    rotate_left 1
    · intro wx hSw
      first
        | (go_simp; done)
        | (go_simp; with_reducible rfl)
        | with_reducible rfl
    simp only [Act.put, List.setIfInBounds_toArray, List.set_cons_zero, List.set_cons_succ]
    refine wpAnyH_ready (rs := [19]) (by kernel_rfl) (by simp) ?_
    refine AllReadyH.cons (by simp only [List.getElem?_toArray, List.getElem?_cons_succ, List.getElem?_cons_zero]; rfl) (fun K0 hK => ?_) AllReadyH.nil
    go_simp
    refine (HHX.out _ (H5.out.2.2.on KF.out)).mono ?_
    rintro e wn ⟨rfl, hF⟩
    replace KF := Lib.hid (KF.out.on hF)
    clear hF
    go_wp2_with fail
    refine hK.out _ _ (HD.out _ KF.out) (fun hHeld => ?_)
    clear hK K0
    try simp only [Act.put, List.setIfInBounds_toArray, List.set_cons_zero, List.set_cons_succ]
    refine wpAnyH_ready (rs := [21]) (by kernel_rfl) (by simp) ?_
    refine AllReadyH.cons (by simp only [List.getElem?_toArray, List.getElem?_cons_succ, List.getElem?_cons_zero]; rfl) (fun K0 hK => ?_) AllReadyH.nil
    go_simp
    refine (HSA.out _ (H5.out.2.2.on KF.out)).mono ?_
    rintro e wn ⟨rfl, hF⟩
    replace KF := Lib.hid (KF.out.on hF)
    clear hF
    go_wp2_with fail
    refine hK.out _ _ (HD.out _ KF.out) (fun hHeld => ?_)
    clear hK K0
    try simp only [Act.put, List.setIfInBounds_toArray, List.set_cons_zero, List.set_cons_succ]
    refine wpAnyH_take (i := 22) (v := ?_) (by simp only [List.getElem?_toArray, List.getElem?_cons_succ, List.getElem?_cons_zero]; rfl) (by kernel_rfl) (by kernel_rfl) (by kernel_rfl) (by intro _ _ _ h; exact h) (Or.inl ⟨by rfl, ?_⟩) hHeld ?_
    rotate_left 1
    · intro wx hSw
      first
        | (go_simp; done)
        | (go_simp; with_reducible rfl)
        | with_reducible rfl
    simp only [Act.put, List.setIfInBounds_toArray, List.set_cons_zero, List.set_cons_succ]
    refine wpAnyH_take (i := 23) (v := ?_) (by simp only [List.getElem?_toArray, List.getElem?_cons_succ, List.getElem?_cons_zero]; rfl) (by kernel_rfl) (by kernel_rfl) (by kernel_rfl) (by intro _ _ _ h; exact h) (Or.inl ⟨by rfl, ?_⟩) hHeld ?_
    rotate_left 1
    · intro wx hSw
      first
        | (go_simp; done)
        | (go_simp; with_reducible rfl)
        | with_reducible rfl
    simp only [Act.put, List.setIfInBounds_toArray, List.set_cons_zero, List.set_cons_succ]
    refine wpAnyH_done (by kernel_rfl) ?_ _
    -- END
    all_goals
      go_wp2_with fail
      go_ret
      exact ⟨rfl, H5.out.2.2.on KF.out⟩
end Go.Proofs.YtoikgnmhnlcbhaaDoor.dg
