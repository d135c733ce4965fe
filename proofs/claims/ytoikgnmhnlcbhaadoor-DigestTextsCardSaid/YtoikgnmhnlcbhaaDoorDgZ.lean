/-
  DigestSums over what is asked of the program's digests.
-/
import Derived.Test.YtoikgnmhnlcbhaaDoorDgY
namespace Go.Proofs.YtoikgnmhnlcbhaaDoor.dg
set_option maxRecDepth 100000
open Go.RowKit Go.Maps
set_option maxRecDepth 100000

theorem yields_conv {ops : Array Oper} {S : World → Prop} {o : Oper} {a : Act} (v u : Value) (x : Operand) (ho : o.op = .convert 22 9 x) (hw : Region.wanted o (yielded ops a.tmps) = true)
    (hx : a.eval x = v) (hS : ∀ w, S w → (convert 22 9 v).run Tryd.prog w = .ok u w) : YieldsIf Tryd.prog ops S o u a := by
  refine Or.inl ⟨hw, fun w h => ?_⟩
  unfold execOp
  simp only [ho, hx, Sem.run_bind, hS w h, Result.andThen_ok, Sem.run_pure]
set_option maxHeartbeats 8000000 in
theorem sums_walk {D : World → Prop} (HP : DigP D) (w : World) (B : Option Addr) (bc : Nat) (b : Bts) (hrb : Rd w w.heap.size B b) (hBb : B = none → bc = 0) (hbc : b.length ≤ bc) (hD : D w) :
    Calls Tryd.prog 3 #[.slice B b.length bc] w fun e w' => e = .returned (.bool true) ∧ Fr (fun _ => False) w w' := by
  obtain ⟨b2, hb2⟩ : ∃ b2, b2 = b.take 5000 := ⟨_, rfl⟩
  have hm5 : b2.length ≤ 5000 := by rw [hb2, List.length_take]; omega
  have HG2 := Lib.hid (⟨by rw [hb2]; exact hrb.take 5000, hBb, by rw [hb2, List.length_take]; omega⟩ : Got w B bc b2)
  have HW := Lib.hid (fun wx (hF : Fr (fun _ => False) w wx) => works_any HP wx (HP.d_keep hD hF))
  have HB2 := Lib.hid (fun wx (hF : Fr (fun _ => False) w wx) => bytes_got wx B bc b2 (HG2.out.still hF) (by omega))
  have HSU := Lib.hid (fun wx (hF : Fr (fun _ => False) w wx) A1 c1 (h1 : Got wx A1 c1 b2) => HP.sum wx A1 c1 b2 h1.rd h1.nil h1.le (by omega) (HP.d_keep hD hF))
  have HRS := Lib.hid (fun wx (hF : Fr (fun _ => False) w wx) => rsum wx B bc b2 (HG2.out.still hF).rd hBb (by omega))
  have hxl := digV_length [] b2
  have HHX := Lib.hid (fun wx (hF : Fr (fun _ => False) w wx) => HP.hex wx (digV [] b2) hxl (HP.d_keep hD hF))
  have HRH := Lib.hid (fun wx => rhex wx (digV [] b2) hxl)
  have HOF := Lib.hid (fun wx (hF : Fr (fun _ => False) w wx) => HP.of_ wx b2 (by omega) (HP.d_keep hD hF))
  have HRO := Lib.hid (fun wx => rof wx b2 (by omega))
  have HSB := Lib.hid (fun wx (hF : Fr (fun _ => False) w wx) A1 c1 (h1 : Got wx A1 c1 b2) => same_got wx A1 B c1 bc b2 h1 (HG2.out.still hF) (by omega))
  obtain ⟨m, hm⟩ : ∃ m, m = b2.length := ⟨_, rfl⟩
  obtain ⟨N, hN⟩ : ∃ N, N = b.length := ⟨_, rfl⟩
  have HCV := Lib.hid (fun wx (hF : Fr (fun _ => False) w wx) => conv_got wx B bc b2 (HG2.out.still hF) m hm)
  obtain ⟨x, hx⟩ : ∃ x, x = digV [] b2 := ⟨_, rfl⟩
  obtain ⟨O, hO⟩ : ∃ O, O = tx (hexV x) := ⟨_, rfl⟩
  obtain ⟨U, hU⟩ : ∃ U, U = tx (ofV b2) := ⟨_, rfl⟩
  obtain ⟨T, hT⟩ : ∃ T, T = tx b2 := ⟨_, rfl⟩
  rw [← hx] at HSU HRS hxl HHX HRH
  rw [← hO] at HHX HRH
  rw [← hU, ← hT] at HOF HRO
  rw [← hT] at HCV
  have HXL := Lib.hid hxl
  rw [← hm] at HB2 HSU HRS HSB hm5
  rw [← hN] at hbc ⊢
  have hmN : m = if 5000 < N then 5000 else N := by rw [hm, hN, hb2, List.length_take]; split <;> omega
  by_cases h5 : 5000 < N
  case' pos =>
    have h50 : (5000 : Int) < (N : Int) := by omega
    rw [if_pos h5] at hmN
    have hcut := cut_at 5000 B N bc (by omega) 5000 rfl m hmN
  case' neg =>
    have h50 : ¬ ((5000 : Int) < (m : Int)) := by omega
    rw [if_neg h5] at hmN
    rw [← hmN]
  all_goals
    clear HP hb2 hrb hBb hbc hD hxl hx hm hN hmN h5 hO hU hT
    go_enter Tryd.func3, Tryd.ntmps3
    go_wp2_with fail
    refine (HB2.out w (Fr.refl _ _)).mono ?_
    rintro e w1 ⟨A1, c1, rfl, h1, hF1⟩
    have H1 := Lib.hid (⟨h1, hF1⟩ : Got w1 A1 c1 b2 ∧ Fr (fun _ => False) w w1)
    clear h1 hF1
    go_wp2_with fail
    refine (HSU.out w1 H1.out.2 A1 c1 H1.out.1).mono ?_
    rintro e w2 ⟨rfl, hF2⟩
    have H2 := Lib.hid (⟨H1.out.1.still hF2, H1.out.2.on hF2⟩ : Got w2 A1 c1 b2 ∧ Fr (fun _ => False) w w2)
    clear hF2 H1
    go_wp2_with (first
      | ((with_reducible refine wpList_allocDg ?_ ?_ ?_); (exact rfl); (exact rfl))
      | ((with_reducible refine wpList_storeDg ?_ (.tmp 4) (.tmp 13) ?_ w2.heap.size x no32 HXL.out ?_ ?_ ?_ (heap_alloc_new w2 _) ?_); (exact rfl); (exact rfl); (exact rfl); (exact rfl); (exact rfl); intro w3 h3 hF3 hs3; have H3 := Lib.hid (show w3.heap[w2.heap.size]? = some (.cells (dgC x) 24 (0, 0)) ∧ Got w3 A1 c1 b2 ∧ Fr (fun _ => False) w w3 from ⟨h3, H2.out.1.still (dg_var hF3), H2.out.2.on (dg_var hF3)⟩); clear h3 hF3 hs3))
    have HD := Lib.hid (fun wx (hF : Fr (fun _ => False) w3 wx) => (⟨range_dg (var_keep H3.out.1 hF), HCV.out wx (H3.out.2.2.on hF)⟩ : wx.rangeAt w2.heap.size 0 (bs x) ∧ (convert 22 9 (.slice B m bc)).run Tryd.prog wx = .ok (.string T) wx))
    have KF := Lib.hid ((Fr.refl (fun _ => False) w3).drew)
    -- BEGIN
    refine wp_region_held_drew (S := fun w' => w'.rangeAt w2.heap.size 0 (bs x) ∧ (convert 22 9 (.slice B m bc)).run Tryd.prog w' = .ok (.string T) w') (by kernel_rfl) (HD.out _ KF.out) (fun hHeld => ?_)
    refine wpAnyH_take (i := 0) (v := dgV x) (by simp only [List.getElem?_toArray, List.getElem?_cons_zero]; rfl) (by kernel_rfl) (by kernel_rfl) (by kernel_rfl) (by intro _ _ _ h; exact h) ?_ hHeld ?_
    · exact yields_loadDg w2.heap.size x HXL.out (.tmp 4) rfl rfl rfl (fun _ h => h.1)
    simp only [Act.put, List.setIfInBounds_toArray, List.set_cons_zero, List.set_cons_succ]
    refine wpAnyH_take (i := 1) (v := ?_) (by simp only [List.getElem?_toArray, List.getElem?_cons_succ, List.getElem?_cons_zero]; rfl) (by kernel_rfl) (by kernel_rfl) (by kernel_rfl) (by intro _ _ _ h; exact h) (Or.inl ⟨by rfl, ?_⟩) hHeld ?_
    rotate_left 1
    · intro wx hSw
      first
        | (go_simp; done)
        | (go_simp; with_reducible rfl)
        | with_reducible rfl
    simp only [Act.put, List.setIfInBounds_toArray, List.set_cons_zero, List.set_cons_succ]
    refine wpAnyH_ready (rs := [2]) (by kernel_rfl) (by simp) ?_
    refine AllReadyH.cons (by simp only [List.getElem?_toArray, List.getElem?_cons_succ, List.getElem?_cons_zero]; rfl) (fun K0 hK => ?_) AllReadyH.nil
    go_simp
    refine (HRS.out _ (H3.out.2.2.on KF.out)).mono ?_
    rintro e wn ⟨rfl, hF⟩
    replace KF := Lib.hid (KF.out.on hF)
    clear hF
    go_wp2_with fail
    refine hK.out _ _ (HD.out _ KF.out) (fun hHeld => ?_)
    clear hK K0
    try simp only [Act.put, List.setIfInBounds_toArray, List.set_cons_zero, List.set_cons_succ]
    refine wpAnyH_take (i := 3) (v := .bool true) (by simp only [List.getElem?_toArray, List.getElem?_cons_succ, List.getElem?_cons_zero]; rfl) (by kernel_rfl) (by kernel_rfl) (by kernel_rfl) (by intro _ _ _ h; exact h) ?_ hHeld ?_
    · exact yields_sameDg x HXL.out (.tmp 14) (.tmp 16) 24 rfl rfl rfl rfl
    simp only [Act.put, List.setIfInBounds_toArray, List.set_cons_zero, List.set_cons_succ]
    refine wpAnyH_take (i := 4) (v := ?_) (by simp only [List.getElem?_toArray, List.getElem?_cons_succ, List.getElem?_cons_zero]; rfl) (by kernel_rfl) (by kernel_rfl) (by kernel_rfl) (by intro _ _ _ h; exact h) (Or.inl ⟨by rfl, ?_⟩) hHeld ?_
    rotate_left 1
    · intro wx hSw
      first
        | (go_simp; done)
        | (go_simp; with_reducible rfl)
        | with_reducible rfl
    simp only [Act.put, List.setIfInBounds_toArray, List.set_cons_zero, List.set_cons_succ]
    refine wpAnyH_take (i := 5) (v := dgV x) (by simp only [List.getElem?_toArray, List.getElem?_cons_succ, List.getElem?_cons_zero]; rfl) (by kernel_rfl) (by kernel_rfl) (by kernel_rfl) (by intro _ _ _ h; exact h) ?_ hHeld ?_
    · exact yields_loadDg w2.heap.size x HXL.out (.tmp 4) rfl rfl rfl (fun _ h => h.1)
    simp only [Act.put, List.setIfInBounds_toArray, List.set_cons_zero, List.set_cons_succ]
    refine wpAnyH_take (i := 7) (v := dgV x) (by simp only [List.getElem?_toArray, List.getElem?_cons_succ, List.getElem?_cons_zero]; rfl) (by kernel_rfl) (by kernel_rfl) (by kernel_rfl) (by intro _ _ _ h; exact h) ?_ hHeld ?_
    · exact yields_loadDg w2.heap.size x HXL.out (.tmp 4) rfl rfl rfl (fun _ h => h.1)
    simp only [Act.put, List.setIfInBounds_toArray, List.set_cons_zero, List.set_cons_succ]
    refine wpAnyH_ready (rs := [6]) (by kernel_rfl) (by simp) ?_
    refine AllReadyH.cons (by simp only [List.getElem?_toArray, List.getElem?_cons_succ, List.getElem?_cons_zero]; rfl) (fun K0 hK => ?_) AllReadyH.nil
    go_simp
    refine (HHX.out _ (H3.out.2.2.on KF.out)).mono ?_
    rintro e wn ⟨rfl, hF⟩
    replace KF := Lib.hid (KF.out.on hF)
    clear hF
    go_wp2_with fail
    refine hK.out _ _ (HD.out _ KF.out) (fun hHeld => ?_)
    clear hK K0
    try simp only [Act.put, List.setIfInBounds_toArray, List.set_cons_zero, List.set_cons_succ]
    refine wpAnyH_ready (rs := [8]) (by kernel_rfl) (by simp) ?_
    refine AllReadyH.cons (by simp only [List.getElem?_toArray, List.getElem?_cons_succ, List.getElem?_cons_zero]; rfl) (fun K0 hK => ?_) AllReadyH.nil
    go_simp
    refine (HRH.out _).mono ?_
    rintro e wn ⟨rfl, hF⟩
    replace KF := Lib.hid (KF.out.on hF)
    clear hF
    go_wp2_with fail
    refine hK.out _ _ (HD.out _ KF.out) (fun hHeld => ?_)
    clear hK K0
    try simp only [Act.put, List.setIfInBounds_toArray, List.set_cons_zero, List.set_cons_succ]
    refine wpAnyH_take (i := 9) (v := ?_) (by simp only [List.getElem?_toArray, List.getElem?_cons_succ, List.getElem?_cons_zero]; rfl) (by kernel_rfl) (by kernel_rfl) (by kernel_rfl) (by intro _ _ _ h; exact h) (Or.inl ⟨by rfl, ?_⟩) hHeld ?_
    rotate_left 1
    · intro wx hSw
      first
        | (go_simp; done)
        | (go_simp; with_reducible rfl)
        | with_reducible rfl
    simp only [Act.put, List.setIfInBounds_toArray, List.set_cons_zero, List.set_cons_succ]
    refine wpAnyH_take (i := 10) (v := ?_) (by simp only [List.getElem?_toArray, List.getElem?_cons_succ, List.getElem?_cons_zero]; rfl) (by kernel_rfl) (by kernel_rfl) (by kernel_rfl) (by intro _ _ _ h; exact h) (Or.inl ⟨by rfl, ?_⟩) hHeld ?_
    rotate_left 1
    · intro wx hSw
      first
        | (go_simp; done)
        | (go_simp; with_reducible rfl)
        | with_reducible rfl
    simp only [Act.put, List.setIfInBounds_toArray, List.set_cons_zero, List.set_cons_succ]
    refine wpAnyH_take (i := 11) (v := ?_) (by simp only [List.getElem?_toArray, List.getElem?_cons_succ, List.getElem?_cons_zero]; rfl) (by kernel_rfl) (by kernel_rfl) (by kernel_rfl) (by intro _ _ _ h; exact h) (Or.inl ⟨by rfl, ?_⟩) hHeld ?_
    rotate_left 1
    · intro wx hSw
      first
        | (go_simp; done)
        | (go_simp; with_reducible rfl)
        | with_reducible rfl
    simp only [Act.put, List.setIfInBounds_toArray, List.set_cons_zero, List.set_cons_succ]
    refine wpAnyH_take (i := 12) (v := ?_) (by simp only [List.getElem?_toArray, List.getElem?_cons_succ, List.getElem?_cons_zero]; rfl) (by kernel_rfl) (by kernel_rfl) (by kernel_rfl) (by intro _ _ _ h; exact h) (Or.inl ⟨by rfl, ?_⟩) hHeld ?_
    rotate_left 1
    · intro wx hSw
      first
        | (go_simp; done)
        | (go_simp; with_reducible rfl)
        | with_reducible rfl
    simp only [Act.put, List.setIfInBounds_toArray, List.set_cons_zero, List.set_cons_succ]
    refine wpAnyH_take (i := 13) (v := .string T) (by simp only [List.getElem?_toArray, List.getElem?_cons_succ, List.getElem?_cons_zero]; rfl) (by kernel_rfl) (by kernel_rfl) (by kernel_rfl) (by intro _ _ _ h; exact h) ?_ hHeld ?_
    · exact yields_conv (.slice B m bc) (.string T) (.tmp 26) rfl rfl rfl (fun _ h => h.2)
    simp only [Act.put, List.setIfInBounds_toArray, List.set_cons_zero, List.set_cons_succ]
    refine wpAnyH_take (i := 15) (v := ?_) (by simp only [List.getElem?_toArray, List.getElem?_cons_succ, List.getElem?_cons_zero]; rfl) (by kernel_rfl) (by kernel_rfl) (by kernel_rfl) (by intro _ _ _ h; exact h) (Or.inl ⟨by rfl, ?_⟩) hHeld ?_
    rotate_left 1
    · intro wx hSw
      first
        | (go_simp; done)
        | (go_simp; with_reducible rfl)
        | with_reducible rfl
    simp only [Act.put, List.setIfInBounds_toArray, List.set_cons_zero, List.set_cons_succ]
    refine wpAnyH_take (i := 16) (v := .string T) (by simp only [List.getElem?_toArray, List.getElem?_cons_succ, List.getElem?_cons_zero]; rfl) (by kernel_rfl) (by kernel_rfl) (by kernel_rfl) (by intro _ _ _ h; exact h) ?_ hHeld ?_
    · exact yields_conv (.slice B m bc) (.string T) (.tmp 29) rfl rfl rfl (fun _ h => h.2)
    simp only [Act.put, List.setIfInBounds_toArray, List.set_cons_zero, List.set_cons_succ]
    refine wpAnyH_ready (rs := [14]) (by kernel_rfl) (by simp) ?_
    refine AllReadyH.cons (by simp only [List.getElem?_toArray, List.getElem?_cons_succ, List.getElem?_cons_zero]; rfl) (fun K0 hK => ?_) AllReadyH.nil
    go_simp
    refine (HOF.out _ (H3.out.2.2.on KF.out)).mono ?_
    rintro e wn ⟨rfl, hF⟩
    replace KF := Lib.hid (KF.out.on hF)
    clear hF
    go_wp2_with fail
    refine hK.out _ _ (HD.out _ KF.out) (fun hHeld => ?_)
    clear hK K0
    try simp only [Act.put, List.setIfInBounds_toArray, List.set_cons_zero, List.set_cons_succ]
    refine wpAnyH_ready (rs := [17]) (by kernel_rfl) (by simp) ?_
    refine AllReadyH.cons (by simp only [List.getElem?_toArray, List.getElem?_cons_succ, List.getElem?_cons_zero]; rfl) (fun K0 hK => ?_) AllReadyH.nil
    go_simp
    refine (HRO.out _).mono ?_
    rintro e wn ⟨rfl, hF⟩
    replace KF := Lib.hid (KF.out.on hF)
    clear hF
    go_wp2_with fail
    refine hK.out _ _ (HD.out _ KF.out) (fun hHeld => ?_)
    clear hK K0
    try simp only [Act.put, List.setIfInBounds_toArray, List.set_cons_zero, List.set_cons_succ]
    refine wpAnyH_take (i := 18) (v := ?_) (by simp only [List.getElem?_toArray, List.getElem?_cons_succ, List.getElem?_cons_zero]; rfl) (by kernel_rfl) (by kernel_rfl) (by kernel_rfl) (by intro _ _ _ h; exact h) (Or.inl ⟨by rfl, ?_⟩) hHeld ?_
    rotate_left 1
    · intro wx hSw
      first
        | (go_simp; done)
        | (go_simp; with_reducible rfl)
        | with_reducible rfl
    simp only [Act.put, List.setIfInBounds_toArray, List.set_cons_zero, List.set_cons_succ]
    refine wpAnyH_take (i := 19) (v := ?_) (by simp only [List.getElem?_toArray, List.getElem?_cons_succ, List.getElem?_cons_zero]; rfl) (by kernel_rfl) (by kernel_rfl) (by kernel_rfl) (by intro _ _ _ h; exact h) (Or.inl ⟨by rfl, ?_⟩) hHeld ?_
    rotate_left 1
    · intro wx hSw
      first
        | (go_simp; done)
        | (go_simp; with_reducible rfl)
        | with_reducible rfl
    simp only [Act.put, List.setIfInBounds_toArray, List.set_cons_zero, List.set_cons_succ]
    refine wpAnyH_take (i := 20) (v := ?_) (by simp only [List.getElem?_toArray, List.getElem?_cons_succ, List.getElem?_cons_zero]; rfl) (by kernel_rfl) (by kernel_rfl) (by kernel_rfl) (by intro _ _ _ h; exact h) (Or.inl ⟨by rfl, ?_⟩) hHeld ?_
    rotate_left 1
    · intro wx hSw
      first
        | (go_simp; done)
        | (go_simp; with_reducible rfl)
        | with_reducible rfl
    simp only [Act.put, List.setIfInBounds_toArray, List.set_cons_zero, List.set_cons_succ]
    refine wpAnyH_take (i := 21) (v := ?_) (by simp only [List.getElem?_toArray, List.getElem?_cons_succ, List.getElem?_cons_zero]; rfl) (by kernel_rfl) (by kernel_rfl) (by kernel_rfl) (by intro _ _ _ h; exact h) (Or.inl ⟨by rfl, ?_⟩) hHeld ?_
    rotate_left 1
    · intro wx hSw
      first
        | (go_simp; done)
        | (go_simp; with_reducible rfl)
        | with_reducible rfl
    simp only [Act.put, List.setIfInBounds_toArray, List.set_cons_zero, List.set_cons_succ]
    refine wpAnyH_take (i := 22) (v := ?_) (by simp only [List.getElem?_toArray, List.getElem?_cons_succ, List.getElem?_cons_zero]; rfl) (by kernel_rfl) (by kernel_rfl) (by kernel_rfl) (by intro _ _ _ h; exact h) (Or.inl ⟨by rfl, ?_⟩) hHeld ?_
    rotate_left 1
    · intro wx hSw
      first
        | (go_simp; done)
        | (go_simp; with_reducible rfl)
        | with_reducible rfl
    simp only [Act.put, List.setIfInBounds_toArray, List.set_cons_zero, List.set_cons_succ]
    refine wpAnyH_ready (rs := [23]) (by kernel_rfl) (by simp) ?_
    refine AllReadyH.cons (by simp only [List.getElem?_toArray, List.getElem?_cons_succ, List.getElem?_cons_zero]; rfl) (fun K0 hK => ?_) AllReadyH.nil
    go_simp
    refine (HSB.out _ (H3.out.2.2.on KF.out) A1 c1 (H3.out.2.1.still KF.out)).mono ?_
    rintro e wn ⟨rfl, hF⟩
    replace KF := Lib.hid (KF.out.on hF)
    clear hF
    go_wp2_with fail
    refine hK.out _ _ (HD.out _ KF.out) (fun hHeld => ?_)
    clear hK K0
    try simp only [Act.put, List.setIfInBounds_toArray, List.set_cons_zero, List.set_cons_succ]
    refine wpAnyH_take (i := 24) (v := ?_) (by simp only [List.getElem?_toArray, List.getElem?_cons_succ, List.getElem?_cons_zero]; rfl) (by kernel_rfl) (by kernel_rfl) (by kernel_rfl) (by intro _ _ _ h; exact h) (Or.inl ⟨by rfl, ?_⟩) hHeld ?_
    rotate_left 1
    · intro wx hSw
      first
        | (go_simp; done)
        | (go_simp; with_reducible rfl)
        | with_reducible rfl
    simp only [Act.put, List.setIfInBounds_toArray, List.set_cons_zero, List.set_cons_succ]
    refine wpAnyH_take (i := 25) (v := ?_) (by simp only [List.getElem?_toArray, List.getElem?_cons_succ, List.getElem?_cons_zero]; rfl) (by kernel_rfl) (by kernel_rfl) (by kernel_rfl) (by intro _ _ _ h; exact h) (Or.inl ⟨by rfl, ?_⟩) hHeld ?_
    rotate_left 1
    · intro wx hSw
      first
        | (go_simp; done)
        | (go_simp; with_reducible rfl)
        | with_reducible rfl
    simp only [Act.put, List.setIfInBounds_toArray, List.set_cons_zero, List.set_cons_succ]
    refine wpAnyH_ready (rs := [26]) (by kernel_rfl) (by simp) ?_
    refine AllReadyH.cons (by simp only [List.getElem?_toArray, List.getElem?_cons_succ, List.getElem?_cons_zero]; rfl) (fun K0 hK => ?_) AllReadyH.nil
    go_simp
    refine (HW.out _ (H3.out.2.2.on KF.out)).mono ?_
    rintro e wn ⟨rfl, hF⟩
    replace KF := Lib.hid (KF.out.on hF)
    clear hF
    go_wp2_with fail
    refine hK.out _ _ (HD.out _ KF.out) (fun hHeld => ?_)
    clear hK K0
    try simp only [Act.put, List.setIfInBounds_toArray, List.set_cons_zero, List.set_cons_succ]
    refine wpAnyH_take (i := 27) (v := ?_) (by simp only [List.getElem?_toArray, List.getElem?_cons_succ, List.getElem?_cons_zero]; rfl) (by kernel_rfl) (by kernel_rfl) (by kernel_rfl) (by intro _ _ _ h; exact h) (Or.inl ⟨by rfl, ?_⟩) hHeld ?_
    rotate_left 1
    · intro wx hSw
      first
        | (go_simp; done)
        | (go_simp; with_reducible rfl)
        | with_reducible rfl
    simp only [Act.put, List.setIfInBounds_toArray, List.set_cons_zero, List.set_cons_succ]
    refine wpAnyH_take (i := 28) (v := ?_) (by simp only [List.getElem?_toArray, List.getElem?_cons_succ, List.getElem?_cons_zero]; rfl) (by kernel_rfl) (by kernel_rfl) (by kernel_rfl) (by intro _ _ _ h; exact h) (Or.inl ⟨by rfl, ?_⟩) hHeld ?_
    rotate_left 1
    · intro wx hSw
      first
        | (go_simp; done)
        | (go_simp; with_reducible rfl)
        | with_reducible rfl
    simp only [Act.put, List.setIfInBounds_toArray, List.set_cons_zero, List.set_cons_succ]
    refine wpAnyH_done (by kernel_rfl) ?_ _
    -- END
    go_wp2_with fail
    go_ret
    exact ⟨rfl, H3.out.2.2.on KF.out⟩
end Go.Proofs.YtoikgnmhnlcbhaaDoor.dg
