/-
  DigestKeys over what is asked of the program's digests.
-/
import Derived.Test.YtoikgnmhnlcbhaaDoorDgQ
namespace Go.Proofs.YtoikgnmhnlcbhaaDoor.dg
set_option maxRecDepth 100000
open Go.RowKit Go.Maps
set_option maxRecDepth 100000

/-- A slice that reads as these bytes. -/
structure Got (w : World) (A : Option Addr) (c : Nat) (l : Bts) : Prop where
  rd : Rd w w.heap.size A l
  nil : A = none → c = 0
  le : l.length ≤ c
theorem Got.still {w w' : World} {A : Option Addr} {c : Nat} {l : Bts} (h : Got w A c l) (hF : Fr (fun _ => False) w w') : Got w' A c l := ⟨(h.rd.still hF (Nat.le_refl _)).more hF.size, h.nil, h.le⟩
theorem own_cap3 {w : World} {base n cap size : Nat} {t : TypeId} {A : Option Addr} {xs : List Value} (h : w.ownsRow base t size (.slice A n cap) n xs) : (A = none → cap = 0) ∧ n ≤ cap := by
  rcases h.2 with ⟨e, h0⟩ | ⟨g, cap', cur, e, hg, hh, hn, _⟩
  · cases e
    exact ⟨fun _ => rfl, Nat.le_refl _⟩
  · cases e
    exact ⟨fun e => (by cases e), hn⟩
theorem bytes_got (w : World) (A : Option Addr) (cap : Nat) (l : Bts) (h : Got w A cap l) (hl : l.length ≤ 140737488351232) :
    Calls Tryd.prog 8 #[.slice A l.length cap] w fun e w' => ∃ A1 c1, e = .returned (.slice A1 l.length c1) ∧ Got w' A1 c1 l ∧ Fr (fun _ => False) w w' := by
  refine (bytes_any w A cap l h.rd h.nil hl).mono ?_
  rintro e w' ⟨A1, c1, rfl, ho, hF⟩
  exact ⟨A1, c1, rfl, ⟨ho.rd, (own_cap3 ho).1, (own_cap3 ho).2⟩, hF⟩
theorem same_got (w : World) (A1 A2 : Option Addr) (c1 c2 : Nat) (l : Bts) (h1 : Got w A1 c1 l) (h2 : Got w A2 c2 l) (hl : l.length ≤ 140737488351232) :
    Calls Tryd.prog 15 #[.slice A1 l.length c1, .slice A2 l.length c2] w fun e w' => e = .returned (.bool true) ∧ Fr (fun _ => False) w w' := by
  refine (same_any w A1 A2 _ _ c1 c2 l l h1.rd h2.rd hl).mono ?_
  rintro e w' ⟨rfl, hC⟩
  exact ⟨by rw [decide_eq_true rfl], hC.fr⟩
theorem cut_at (k : Nat) (B : Option Addr) (n c : Nat) (hk : k ≤ c) (x : Int) (hx : x = (k : Int)) (m : Nat) (hm : m = k) (w : World) : (Instr.slice 22 (.slice B n c) none (some (.int .i64 x)) none).run Tryd.prog w = .ok (.slice B m c) w := by
  subst hx
  subst hm
  exact cut_low w B n c m hk
/-- Fr's of the worlds behind one another. -/
theorem _root_.Go.Proofs.YtoikgnmhnlcbhaaDoor.Fr.on {a b c : World} (h : Fr (fun _ => False) a b) (k : Fr (fun _ => False) b c) : Fr (fun _ => False) a c := h.trans k (fun _ _ e => e)
/-- A digest that is laid into a new variable. -/
theorem dg_var {w w' : World} {o : Obj} (hF : Fr (· = w.heap.size) (w.alloc o) w') : Fr (fun _ => False) w w' := ((Fr.refl (fun _ => False) w).alloc _).trans (hF.mono (S := fun i => w.heap.size ≤ i) (fun i e => by omega)) (fun _ hi e => absurd hi (by omega))
set_option maxHeartbeats 8000000 in
theorem keys_walk {D : World → Prop} (HP : DigP D) (w : World) (A : Option Addr) (kc : Nat) (key : Bts) (hrk : Rd w w.heap.size A key) (hAk : A = none → kc = 0) (hkc : key.length ≤ kc) (hkl : key.length ≤ 140737488351232)
    (B : Option Addr) (bc : Nat) (b : Bts) (hrb : Rd w w.heap.size B b) (hBb : B = none → bc = 0) (hbc : b.length ≤ bc) (hD : D w) :
    Calls Tryd.prog 4 #[.slice A key.length kc, .slice B b.length bc] w fun e w' => e = .returned (.bool true) ∧ Fr (fun _ => False) w w' := by
  obtain ⟨b2, hb2⟩ : ∃ b2, b2 = b.take 5000 := ⟨_, rfl⟩
  have hm5 : b2.length ≤ 5000 := by rw [hb2, List.length_take]; omega
  have HG1 := Lib.hid (⟨hrk, hAk, hkc⟩ : Got w A kc key)
  have HG2 := Lib.hid (⟨by rw [hb2]; exact hrb.take 5000, hBb, by rw [hb2, List.length_take]; omega⟩ : Got w B bc b2)
  have HW := Lib.hid (fun wx (hF : Fr (fun _ => False) w wx) => works_any HP wx (HP.d_keep hD hF))
  have HB1 := Lib.hid (fun wx (hF : Fr (fun _ => False) w wx) => bytes_got wx A kc key (HG1.out.still hF) hkl)
  have HB2 := Lib.hid (fun wx (hF : Fr (fun _ => False) w wx) => bytes_got wx B bc b2 (HG2.out.still hF) (by omega))
  have HK := Lib.hid (fun wx (hF : Fr (fun _ => False) w wx) A1 c1 B1 d1 (h1 : Got wx A1 c1 key) (h2 : Got wx B1 d1 b2) => HP.keyed wx A1 c1 key B1 d1 b2 h1.rd h1.nil h1.le hkl h2.rd h2.nil h2.le (by omega) (HP.d_keep hD hF))
  have HR := Lib.hid (fun wx (hF : Fr (fun _ => False) w wx) => rkeyed wx A kc key B bc b2 (HG1.out.still hF).rd hAk hkl (HG2.out.still hF).rd hBb (by omega))
  have HS1 := Lib.hid (fun wx (hF : Fr (fun _ => False) w wx) A1 c1 (h1 : Got wx A1 c1 key) => same_got wx A1 A c1 kc key h1 (HG1.out.still hF) hkl)
  have HS2 := Lib.hid (fun wx (hF : Fr (fun _ => False) w wx) A1 c1 (h1 : Got wx A1 c1 b2) => same_got wx A1 B c1 bc b2 h1 (HG2.out.still hF) (by omega))
  have hxl := keyed_length key b2
  obtain ⟨⟨x, z⟩, hx⟩ : ∃ x, x = keyedV key b2 := ⟨_, rfl⟩
  rw [← hx] at HK HR hxl
  have HXL := Lib.hid (show x.length = 32 from hxl)
  obtain ⟨n, hn⟩ : ∃ n, n = key.length := ⟨_, rfl⟩
  obtain ⟨m, hm⟩ : ∃ m, m = b2.length := ⟨_, rfl⟩
  obtain ⟨N, hN⟩ : ∃ N, N = b.length := ⟨_, rfl⟩
  rw [← hn] at HB1 HK HR HS1 hkc hkl ⊢
  rw [← hm] at HB2 HK HR HS2 hm5
  rw [← hN] at hbc ⊢
  have hmN : m = if 5000 < N then 5000 else N := by rw [hm, hN, hb2, List.length_take]; split <;> omega
  by_cases h5 : 5000 < N
  case' pos =>
    have h50 : (5000 : Int) < (N : Int) := by omega
    rw [if_pos h5] at hmN
    have hcut := cut_at 5000 B N bc (by omega) 5000 rfl m hmN
  case' neg =>
    have h50 : ¬ ((5000 : Int) < (m : Int)) := by omega
    rw [if_neg h5] at hmN
    rw [← hmN]
  all_goals
    clear HP hb2 hrk hAk hkc hkl hrb hBb hbc hD hxl hx hn hm hN hmN h5
    go_enter Tryd.func4, Tryd.ntmps4
    go_wp2_with fail
    refine (HB1.out w (Fr.refl _ _)).mono ?_
    rintro e w1 ⟨A1, c1, rfl, h1, hF1⟩
    have H1 := Lib.hid (⟨h1, hF1⟩ : _ ∧ _)
    clear h1 hF1
    go_wp2_with fail
    refine (HB2.out w1 H1.out.2).mono ?_
    rintro e w2 ⟨B1, d1, rfl, h2, hF2⟩
    have H2 := Lib.hid (⟨h2, H1.out.2.on hF2, H1.out.1.still hF2⟩ : _ ∧ _ ∧ _)
    clear h2 hF2 H1
    go_wp2_with fail
    refine (HK.out w2 H2.out.2.1 A1 c1 B1 d1 H2.out.2.2 H2.out.1).mono ?_
    rintro e w3 ⟨rfl, hF3⟩
    have H3 := Lib.hid (⟨H2.out.2.1.on hF3, H2.out.2.2.still hF3, H2.out.1.still hF3⟩ : Fr (fun _ => False) w w3 ∧ Got w3 A1 c1 key ∧ Got w3 B1 d1 b2)
    clear hF3 H2
    go_wp2_with (first
      | ((with_reducible refine wpList_allocDg ?_ ?_ ?_); (exact rfl); (exact rfl))
      | ((with_reducible refine wpList_storeDg ?_ (.tmp 7) (.tmp 24) ?_ w3.heap.size x no32 HXL.out ?_ ?_ ?_ (heap_alloc_new w3 _) ?_); (exact rfl); (exact rfl); (exact rfl); (exact rfl); (exact rfl); intro w4 h4 hF4 hs4; have H4 := Lib.hid (show w4.heap[w3.heap.size]? = some (.cells (dgC x) 24 (0, 0)) ∧ Fr (fun _ => False) w3 w4 from ⟨h4, dg_var hF4⟩); clear h4 hF4 hs4))
    refine (HR.out w4 (H3.out.1.on H4.out.2)).mono ?_
    rintro e w5 ⟨rfl, hF5⟩
    have hlt : w3.heap.size < w4.heap.size := (Array.getElem?_eq_some_iff.1 H4.out.1).1
    have H5 := Lib.hid (show w5.heap[w3.heap.size]? = some (.cells (dgC x) 24 (0, 0)) ∧ w3.heap.size < w5.heap.size ∧ Fr (fun _ => False) w3 w5 from ⟨(hF5.block _ hlt id).trans H4.out.1, Nat.lt_of_lt_of_le hlt hF5.size, H4.out.2.on hF5⟩)
    clear hF5 hlt H4
    go_wp2_with (first
      | ((with_reducible refine wpList_allocDg ?_ ?_ ?_); (exact rfl); (exact rfl))
      | ((with_reducible refine wpList_storeDg ?_ (.tmp 9) (.tmp 30) ?_ w5.heap.size x no32 HXL.out ?_ ?_ ?_ (heap_alloc_new w5 _) ?_); (exact rfl); (exact rfl); (exact rfl); (exact rfl); (exact rfl); intro w6 h6 hF6 hs6; have H6 := Lib.hid (show w6.heap[w5.heap.size]? = some (.cells (dgC x) 24 (0, 0)) ∧ w6.heap[w3.heap.size]? = some (.cells (dgC x) 24 (0, 0)) ∧ Fr (fun _ => False) w w6 ∧ Got w6 A1 c1 key ∧ Got w6 B1 d1 b2 from ⟨h6, ((dg_var hF6).block _ H5.out.2.1 id).trans H5.out.1, H3.out.1.on (H5.out.2.2.on (dg_var hF6)), H3.out.2.1.still (H5.out.2.2.on (dg_var hF6)), H3.out.2.2.still (H5.out.2.2.on (dg_var hF6))⟩); clear h6 hF6 hs6)
      | ((with_reducible refine wpList_loadDg ?_ (.tmp 7) ?_ w3.heap.size x HXL.out ?_ H6.out.2.1 ?_); (exact rfl); (exact rfl); (exact rfl))
      | ((with_reducible refine wpList_loadDg ?_ (.tmp 9) ?_ w5.heap.size x HXL.out ?_ H6.out.1 ?_); (exact rfl); (exact rfl); (exact rfl))
      | ((with_reducible refine wpList_eqDg (.tmp 32) (.tmp 33) 24 ?_ ?_ x x HXL.out HXL.out ?_ ?_ ?_); (exact rfl); (exact rfl); (exact rfl); (exact rfl)))
    refine (HS1.out w6 H6.out.2.2.1 A1 c1 H6.out.2.2.2.1).mono ?_
    rintro e w7 ⟨rfl, hF7⟩
    have H7 := Lib.hid (⟨H6.out.2.2.1.on hF7, H6.out.2.2.2.2.still hF7⟩ : _ ∧ _)
    clear hF7 H6
    go_wp2_with fail
    refine (HS2.out w7 H7.out.1 B1 d1 H7.out.2).mono ?_
    rintro e w8 ⟨rfl, hF8⟩
    have H8 := Lib.hid (H7.out.1.on hF8)
    clear hF8 H7
    go_wp2_with fail
    refine (HW.out w8 H8.out).mono ?_
    rintro e w9 ⟨rfl, hF9⟩
    have H9 := Lib.hid (H8.out.on hF9)
    clear hF9 H8
    go_wp2_with fail
    go_ret
    exact ⟨rfl, H9.out⟩
end Go.Proofs.YtoikgnmhnlcbhaaDoor.dg
