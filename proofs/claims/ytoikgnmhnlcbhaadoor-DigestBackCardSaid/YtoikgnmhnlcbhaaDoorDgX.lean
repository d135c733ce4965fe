/-
  DigestTexts, DigestBack over what is asked of the program's digests.
-/
import Derived.Test.YtoikgnmhnlcbhaaDoorDgW
namespace Go.Proofs.YtoikgnmhnlcbhaaDoor.dg
set_option maxRecDepth 100000
open Go.RowKit Go.Maps
set_option maxRecDepth 100000

theorem conv_got (w : World) (A : Option Addr) (c : Nat) (l : Bts) (h : Got w A c l) (m : Nat) (hm : m = l.length) : (convert 22 9 (.slice A m c)).run Tryd.prog w = .ok (.string (tx l)) w := by
  subst hm
  cases A with
  | none =>
    have h0 : l = [] := by
      apply Decidable.byContradiction
      intro hne
      obtain ⟨_, _, e, _⟩ := h.rd hne
      cases e
    subst h0
    exact run_convert_bytes_nil (P := Tryd.prog) w 22 5 Tryd.underlying22 Tryd.underlying5 _ _ _ Tryd.underlying9
  | some ad =>
    refine run_convert_bytes_back (P := Tryd.prog) w 22 9 5 ad c l Tryd.underlying22 Tryd.underlying5 Tryd.underlying9 ?_
    intro j hj
    have := h.rd.src j (.int .u8 (l[j].toNat : Int)) (by rw [bs_get, List.getElem?_eq_getElem hj]; rfl)
    exact this
theorem tx_inj {a b : Bts} (h : tx a = tx b) : a = b := by rw [← tx_toL a, h, tx_toL]
/-- Two texts: the same, or their bytes are others. -/
theorem tx_dec (a b : Bts) : (a = b) ∨ (a ≠ b ∧ ((tx a).toList == (tx b).toList) = false) := by
  by_cases h : a = b
  · exact Or.inl h
  · exact Or.inr ⟨h, by rw [tx_toL, tx_toL]; exact beq_eq_false_iff_ne.2 h⟩
/-- A digest in a variable, kept. -/
theorem var_keep {w w' : World} {g : Nat} {o : Obj} (h : w.heap[g]? = some o) (hF : Fr (fun _ => False) w w') : w'.heap[g]? = some o := (hF.block g (Array.getElem?_eq_some_iff.1 h).1 id).trans h
set_option maxHeartbeats 8000000 in
theorem texts_walk {D : World → Prop} (HP : DigP D) (w : World) (s : Bts) (hs : s.length ≤ maxLen)
    (B : Option Addr) (bc : Nat) (b : Bts) (hrb : Rd w w.heap.size B b) (hBb : B = none → bc = 0) (hbc : b.length ≤ bc) (hD : D w) :
    Calls Tryd.prog 5 #[.string (tx s), .slice B b.length bc] w fun e w' => e = .returned (.bool true) ∧ Fr (fun _ => False) w w' := by
  obtain ⟨b2, hb2⟩ : ∃ b2, b2 = b.take 5000 := ⟨_, rfl⟩
  have hm5 : b2.length ≤ 5000 := by rw [hb2, List.length_take]; omega
  have HG2 := Lib.hid (⟨by rw [hb2]; exact hrb.take 5000, hBb, by rw [hb2, List.length_take]; omega⟩ : Got w B bc b2)
  have HW := Lib.hid (fun wx (hF : Fr (fun _ => False) w wx) => works_any HP wx (HP.d_keep hD hF))
  have HPA := Lib.hid (fun wx (hF : Fr (fun _ => False) w wx) => HP.parse wx s hs (HP.d_keep hD hF))
  have HRP := Lib.hid (fun wx => rparse wx s hs)
  have HOF := Lib.hid (fun wx => rof wx b2 (by omega))
  have HS1 := Lib.hid (fun wx (hF : Fr (fun _ => False) w wx) => HP.same wx s B bc b2 hs (HG2.out.still hF).rd hBb HG2.out.le (by omega) (HP.d_keep hD hF))
  have hol : (ofV b2).length = 64 := by show (hexV _).length = 64; rw [hexV_length, digV_length]
  have HS2 := Lib.hid (fun wx (hF : Fr (fun _ => False) w wx) => HP.same wx (ofV b2) B bc b2 (by rw [hol]; decide) (HG2.out.still hF).rd hBb HG2.out.le (by omega) (HP.d_keep hD hF))
  have hxl := parse_length s
  obtain ⟨⟨x, z⟩, hx⟩ : ∃ x, x = parseV s := ⟨_, rfl⟩
  rw [← hx] at HPA HRP hxl
  have HXL := Lib.hid (show x.length = 32 from hxl)
  obtain ⟨m, hm⟩ : ∃ m, m = b2.length := ⟨_, rfl⟩
  obtain ⟨N, hN⟩ : ∃ N, N = b.length := ⟨_, rfl⟩
  have HCV := Lib.hid (fun wx (hF : Fr (fun _ => False) w wx) => conv_got wx B bc b2 (HG2.out.still hF) m hm)
  obtain ⟨o, ho⟩ : ∃ o, o = ofV b2 := ⟨_, rfl⟩
  rw [← ho] at HOF HS1 HS2
  rw [decide_eq_true rfl] at HS2
  rw [← hm] at HS1 HS2 hm5
  rw [← hN] at hbc ⊢
  have hmN : m = if 5000 < N then 5000 else N := by rw [hm, hN, hb2, List.length_take]; split <;> omega
  obtain ⟨O, hO⟩ : ∃ O, O = tx o := ⟨_, rfl⟩
  obtain ⟨S, hS⟩ : ∃ S, S = tx s := ⟨_, rfl⟩
  obtain ⟨T, hT⟩ : ∃ T, T = tx b2 := ⟨_, rfl⟩
  have hcmp : (s = o ∧ S = O) ∨ (s ≠ o ∧ (S.toList == O.toList) = false) := by
    rcases tx_dec s o with h | h
    · exact Or.inl ⟨h, by rw [hS, hO, h]⟩
    · exact Or.inr (by rw [hS, hO]; exact h)
  rw [← hO] at HOF HS2
  rw [← hS] at HPA HRP HS1 ⊢
  rw [← hT] at HOF HCV
  clear HP hb2 hs hrb hBb hD hol hxl hx hm hN ho hO hS hT
  rcases hcmp with ⟨hso, hSO⟩ | ⟨hso, hSO⟩
  case' inl =>
    rw [decide_eq_true hso] at HS1
    rw [hSO] at HPA HRP HS1 ⊢
    clear hso hSO
  case' inr =>
    rw [decide_eq_false hso] at HS1
    clear hso
  all_goals
    by_cases h5 : 5000 < N
    case' pos =>
      have h50 : (5000 : Int) < (N : Int) := by omega
      rw [if_pos h5] at hmN
      have hcut := cut_at 5000 B N bc (by omega) 5000 rfl m hmN
    case' neg =>
      have h50 : ¬ ((5000 : Int) < (m : Int)) := by omega
      rw [if_neg h5] at hmN
      rw [← hmN]
    all_goals
      clear hmN h5 hbc
      go_enter Tryd.func5, Tryd.ntmps5
      go_wp2_with fail
      refine (HPA.out w (Fr.refl _ _)).mono ?_
      rintro e w1 ⟨rfl, hF1⟩
      have H1 := Lib.hid hF1
      clear hF1
      go_wp2_with (first
        | ((with_reducible refine wpList_allocDg ?_ ?_ ?_); (exact rfl); (exact rfl))
        | ((with_reducible refine wpList_storeDg ?_ (.tmp 5) (.tmp 18) ?_ w1.heap.size x no32 HXL.out ?_ ?_ ?_ (heap_alloc_new w1 _) ?_); (exact rfl); (exact rfl); (exact rfl); (exact rfl); (exact rfl); intro w2 h2 hF2 hs2; have H2 := Lib.hid (show w2.heap[w1.heap.size]? = some (.cells (dgC x) 24 (0, 0)) ∧ Fr (fun _ => False) w w2 from ⟨h2, H1.out.on (dg_var hF2)⟩); clear h2 hF2 hs2))
      refine (HRP.out w2).mono ?_
      rintro e w3 ⟨rfl, hF3⟩
      have H3 := Lib.hid (⟨var_keep H2.out.1 hF3, H2.out.2.on hF3⟩ : w3.heap[w1.heap.size]? = some (.cells (dgC x) 24 (0, 0)) ∧ Fr (fun _ => False) w w3)
      clear hF3 H2
      go_wp2_with (first
        | ((with_reducible refine wpList_allocDg ?_ ?_ ?_); (exact rfl); (exact rfl))
        | ((with_reducible refine wpList_storeDg ?_ (.tmp 7) (.tmp 23) ?_ w3.heap.size x no32 HXL.out ?_ ?_ ?_ (heap_alloc_new w3 _) ?_); (exact rfl); (exact rfl); (exact rfl); (exact rfl); (exact rfl); intro w4 h4 hF4 hs4; have H4 := Lib.hid (show w4.heap[w3.heap.size]? = some (.cells (dgC x) 24 (0, 0)) ∧ w4.heap[w1.heap.size]? = some (.cells (dgC x) 24 (0, 0)) ∧ Fr (fun _ => False) w w4 from ⟨h4, var_keep H3.out.1 (dg_var hF4), H3.out.2.on (dg_var hF4)⟩); have kc := HCV.out w4 H4.out.2.2; clear h4 hF4 hs4))
      refine (HOF.out w4).mono ?_
      rintro e w5 ⟨rfl, hF5⟩
      have H5 := Lib.hid (⟨var_keep H4.out.1 hF5, var_keep H4.out.2.1 hF5, H4.out.2.2.on hF5⟩ : w5.heap[w3.heap.size]? = some (.cells (dgC x) 24 (0, 0)) ∧ w5.heap[w1.heap.size]? = some (.cells (dgC x) 24 (0, 0)) ∧ Fr (fun _ => False) w w5)
      clear hF5 H4 kc
      go_wp2_with (first
        | ((with_reducible refine wpList_loadDg ?_ (.tmp 5) ?_ w1.heap.size x HXL.out ?_ H5.out.2.1 ?_); (exact rfl); (exact rfl); (exact rfl))
        | ((with_reducible refine wpList_loadDg ?_ (.tmp 7) ?_ w3.heap.size x HXL.out ?_ H5.out.1 ?_); (exact rfl); (exact rfl); (exact rfl))
        | ((with_reducible refine wpList_eqDg (.tmp 28) (.tmp 29) 24 ?_ ?_ x x HXL.out HXL.out ?_ ?_ ?_); (exact rfl); (exact rfl); (exact rfl); (exact rfl)))
      refine (HS1.out w5 H5.out.2.2).mono ?_
      rintro e w6 ⟨rfl, hF6⟩
      have H6 := Lib.hid (H5.out.2.2.on hF6)
      clear hF6 H5
      go_wp2_with fail
      refine (HS2.out w6 H6.out).mono ?_
      rintro e w7 ⟨rfl, hF7⟩
      have H7 := Lib.hid (H6.out.on hF7)
      clear hF7 H6
      go_wp2_with fail
      refine (HW.out w7 H7.out).mono ?_
      rintro e w8 ⟨rfl, hF8⟩
      have H8 := Lib.hid (H7.out.on hF8)
      clear hF8 H7
      go_wp2_with fail
      go_ret
      exact ⟨rfl, H8.out⟩
set_option maxHeartbeats 8000000 in
theorem back_walk {D : World → Prop} (HP : DigP D) (w : World) (d : Bts) (hd : d.length = 32) (s : Bts) (hs : s.length ≤ maxLen) (hD : D w) :
    Calls Tryd.prog 6 #[dgV d, .string (tx s)] w fun e w' => e = .returned (.bool true) ∧ Fr (fun _ => False) w w' := by
  have HDL := Lib.hid hd
  have HW := Lib.hid (fun wx (hF : Fr (fun _ => False) w wx) => works_any HP wx (HP.d_keep hD hF))
  have HHX := Lib.hid (fun wx (hF : Fr (fun _ => False) w wx) => HP.hex wx d hd (HP.d_keep hD hF))
  have HP1 := Lib.hid (fun wx (hF : Fr (fun _ => False) w wx) => HP.parse wx (hexV d) (by rw [hexV_length, hd]; decide) (HP.d_keep hD hF))
  rw [parse_hex hd] at HP1
  have HP2 := Lib.hid (fun wx (hF : Fr (fun _ => False) w wx) => HP.parse wx s hs (HP.d_keep hD hF))
  have hcase : (∃ x, parseV s = (x, 0) ∧ x.length = 32 ∧ hexV x = s) ∨ parseV s = (no32, 160) := by
    rcases parse_cases s with h | h
    · refine Or.inl ⟨(parseV s).1, Prod.ext rfl h, parse_length s, ?_⟩
      exact (parse_ok (d := (parseV s).1) (Prod.ext rfl h)).1
    · exact Or.inr h
  have HZ := Lib.hid (heap_alloc_new w (.cells (dgC d) 24))
  have HFA := Lib.hid ((Fr.refl (fun _ => False) w).alloc (.cells (dgC d) 24))
  obtain ⟨S, hS⟩ : ∃ S, S = tx s := ⟨_, rfl⟩
  obtain ⟨T, hT⟩ : ∃ T, T = tx (hexV d) := ⟨_, rfl⟩
  rw [← hS] at HP2 ⊢
  rw [← hT] at HHX HP1
  rcases hcase with ⟨x, hx, hxl, hxs⟩ | hx
  case' inl =>
    have HX2 := Lib.hid (fun wx (hF : Fr (fun _ => False) w wx) => HP.hex wx x hxl (HP.d_keep hD hF))
    rw [hxs, ← hS] at HX2
    rw [hx] at HP2
    have HXL := Lib.hid hxl
    clear hx hxs hxl
  case' inr =>
    rw [hx] at HP2
    obtain ⟨x, hx0⟩ : ∃ x, x = no32 := ⟨_, rfl⟩
    have HX0 := Lib.hid hx0
    have HXL := Lib.hid (show x.length = 32 from by rw [hx0]; rfl)
    rw [← hx0] at HP2
    clear hx hx0
  all_goals
    clear HP hs hD hS hT hd
    go_enter Tryd.func6, Tryd.ntmps6
    go_wp2_with ((with_reducible refine wpList_boxDg ?_ (.tmp 0) ?_ d ?_ ?_); (exact rfl); (exact rfl); (exact rfl))
    refine (HW.out _ HFA.out).mono ?_
    rintro e w1 ⟨rfl, hF1⟩
    have H1 := Lib.hid (⟨var_keep HZ.out hF1, HFA.out.on hF1⟩ : w1.heap[w.heap.size]? = some (.cells (dgC d) 24 (0, 0)) ∧ Fr (fun _ => False) w w1)
    clear hF1
    go_wp2_with ((with_reducible refine wpList_loadDg ?_ (.tmp 2) ?_ w.heap.size d HDL.out ?_ H1.out.1 ?_); (exact rfl); (exact rfl); (exact rfl))
    refine (HHX.out _ H1.out.2).mono ?_
    rintro e w2 ⟨rfl, hF2⟩
    have H2 := Lib.hid (⟨var_keep H1.out.1 hF2, H1.out.2.on hF2⟩ : w2.heap[w.heap.size]? = some (.cells (dgC d) 24 (0, 0)) ∧ Fr (fun _ => False) w w2)
    clear hF2 H1
    go_wp2_with fail
    refine (HP1.out _ H2.out.2).mono ?_
    rintro e w3 ⟨rfl, hF3⟩
    have H3 := Lib.hid (⟨var_keep H2.out.1 hF3, H2.out.2.on hF3⟩ : w3.heap[w.heap.size]? = some (.cells (dgC d) 24 (0, 0)) ∧ Fr (fun _ => False) w w3)
    clear hF3 H2
    go_wp2_with (first
      | ((with_reducible refine wpList_allocDg ?_ ?_ ?_); (exact rfl); (exact rfl))
      | ((with_reducible refine wpList_storeDg ?_ (.tmp 5) (.tmp 15) ?_ w3.heap.size d no32 HDL.out ?_ ?_ ?_ (heap_alloc_new w3 _) ?_); (exact rfl); (exact rfl); (exact rfl); (exact rfl); (exact rfl); intro w4 h4 hF4 hs4; have H4 := Lib.hid (show w4.heap[w3.heap.size]? = some (.cells (dgC d) 24 (0, 0)) ∧ w4.heap[w.heap.size]? = some (.cells (dgC d) 24 (0, 0)) ∧ Fr (fun _ => False) w w4 from ⟨h4, var_keep H3.out.1 (dg_var hF4), H3.out.2.on (dg_var hF4)⟩); clear h4 hF4 hs4))
    refine (HP2.out w4 H4.out.2.2).mono ?_
    rintro e w5 ⟨rfl, hF5⟩
    have H5 := Lib.hid (⟨var_keep H4.out.1 hF5, var_keep H4.out.2.1 hF5, H4.out.2.2.on hF5⟩ : w5.heap[w3.heap.size]? = some (.cells (dgC d) 24 (0, 0)) ∧ w5.heap[w.heap.size]? = some (.cells (dgC d) 24 (0, 0)) ∧ Fr (fun _ => False) w w5)
    clear hF5 H4
  · go_wp2_with (first
      | ((with_reducible refine wpList_allocDg ?_ ?_ ?_); (exact rfl); (exact rfl))
      | ((with_reducible refine wpList_storeDg ?_ (.tmp 7) (.tmp 20) ?_ w5.heap.size x no32 HXL.out ?_ ?_ ?_ (heap_alloc_new w5 _) ?_); (exact rfl); (exact rfl); (exact rfl); (exact rfl); (exact rfl); intro w6 h6 hF6 hs6; have H6 := Lib.hid (show w6.heap[w5.heap.size]? = some (.cells (dgC x) 24 (0, 0)) ∧ w6.heap[w3.heap.size]? = some (.cells (dgC d) 24 (0, 0)) ∧ w6.heap[w.heap.size]? = some (.cells (dgC d) 24 (0, 0)) ∧ Fr (fun _ => False) w w6 from ⟨h6, var_keep H5.out.1 (dg_var hF6), var_keep H5.out.2.1 (dg_var hF6), H5.out.2.2.on (dg_var hF6)⟩); clear h6 hF6 hs6)
      | ((with_reducible refine wpList_loadDg ?_ (.tmp 5) ?_ w3.heap.size d HDL.out ?_ H6.out.2.1 ?_); (exact rfl); (exact rfl); (exact rfl))
      | ((with_reducible refine wpList_loadDg ?_ (.tmp 2) ?_ w.heap.size d HDL.out ?_ H6.out.2.2.1 ?_); (exact rfl); (exact rfl); (exact rfl))
      | ((with_reducible refine wpList_eqDg (.tmp 22) (.tmp 23) 24 ?_ ?_ d d HDL.out HDL.out ?_ ?_ ?_); (exact rfl); (exact rfl); (exact rfl); (exact rfl))
      | ((with_reducible refine wpList_loadDgG (.tmp 7) ?_ ?_ w5.heap.size x HXL.out ?_ H6.out.1 ?_); (exact rfl); (exact rfl); (exact rfl))
      | ((with_reducible refine wpList_eqDg (.tmp 42) (.tmp 43) 24 ?_ ?_ x no32 HXL.out ?_ ?_ ?_ ?_); (exact rfl); (exact rfl); (exact rfl); (exact rfl); (exact rfl); rw [decide_eq_true HX0.out]))
    go_ret
    exact ⟨rfl, H6.out.2.2.2⟩
  · go_wp2_with (first
      | ((with_reducible refine wpList_allocDg ?_ ?_ ?_); (exact rfl); (exact rfl))
      | ((with_reducible refine wpList_storeDg ?_ (.tmp 7) (.tmp 20) ?_ w5.heap.size x no32 HXL.out ?_ ?_ ?_ (heap_alloc_new w5 _) ?_); (exact rfl); (exact rfl); (exact rfl); (exact rfl); (exact rfl); intro w6 h6 hF6 hs6; have H6 := Lib.hid (show w6.heap[w5.heap.size]? = some (.cells (dgC x) 24 (0, 0)) ∧ w6.heap[w3.heap.size]? = some (.cells (dgC d) 24 (0, 0)) ∧ w6.heap[w.heap.size]? = some (.cells (dgC d) 24 (0, 0)) ∧ Fr (fun _ => False) w w6 from ⟨h6, var_keep H5.out.1 (dg_var hF6), var_keep H5.out.2.1 (dg_var hF6), H5.out.2.2.on (dg_var hF6)⟩); clear h6 hF6 hs6)
      | ((with_reducible refine wpList_loadDg ?_ (.tmp 5) ?_ w3.heap.size d HDL.out ?_ H6.out.2.1 ?_); (exact rfl); (exact rfl); (exact rfl))
      | ((with_reducible refine wpList_loadDg ?_ (.tmp 2) ?_ w.heap.size d HDL.out ?_ H6.out.2.2.1 ?_); (exact rfl); (exact rfl); (exact rfl))
      | ((with_reducible refine wpList_eqDg (.tmp 22) (.tmp 23) 24 ?_ ?_ d d HDL.out HDL.out ?_ ?_ ?_); (exact rfl); (exact rfl); (exact rfl); (exact rfl))
      | ((with_reducible refine wpList_loadDgG (.tmp 7) ?_ ?_ w5.heap.size x HXL.out ?_ H6.out.1 ?_); (exact rfl); (exact rfl); (exact rfl)))
    refine (HX2.out _ H6.out.2.2.2).mono ?_
    rintro e w7 ⟨rfl, hF7⟩
    have H7 := Lib.hid (H6.out.2.2.2.on hF7)
    clear hF7 H6
    go_wp2_with fail
    go_ret
    exact ⟨rfl, H7.out⟩
end Go.Proofs.YtoikgnmhnlcbhaaDoor.dg
