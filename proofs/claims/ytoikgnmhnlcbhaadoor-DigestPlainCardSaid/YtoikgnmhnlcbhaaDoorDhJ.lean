/-
  The program's Sum, Keyed, Hex.
-/
import Derived.Test.YtoikgnmhnlcbhaaDoorDhI
import Derived.Test.YtoikgnmhnlcbhaaDoorDgX
namespace Go.Proofs.YtoikgnmhnlcbhaaDoor.dg
set_option maxRecDepth 100000
open Go.RowKit Go.Maps
set_option maxRecDepth 100000

theorem no32_len : no32.length = 32 := rfl
/-! ### Sum, Keyed -/
set_option maxHeartbeats 4000000 in
theorem psum (w : World) (hT : DT w) (B : Option Addr) (bc : Nat) (b : Bts) (hb : Rd w w.heap.size B b) (hbc : b.length ≤ bc) (hbl : b.length ≤ 100000) :
    Calls Tryd.prog 9 #[.slice B b.length bc] w fun e w' => e = .returned (dgV (digV [] b)) ∧ Fr (fun _ => False) w w' := by
  have HF := Lib.hid ((Fr.refl (fun _ => False) w).alloc (.cells (dgC no32) 24))
  have HZ := Lib.hid (heap_alloc_new w (.cells (dgC no32) 24))
  have HK := Lib.hid (show Calls Tryd.prog 22 #[.slice none 0 0, .slice B b.length bc] (w.alloc (.cells (dgC no32) 24)) _ from
    pdigest _ (hT.keep HF.out id id id) none 0 [] B bc b (Rd.nil _ _ _) (Nat.zero_le _) ((hb.still HF.out (Nat.le_refl _)).more HF.out.size) hbc hbl)
  obtain ⟨m, hm⟩ : ∃ m, m = b.length := ⟨_, rfl⟩
  obtain ⟨d, hd⟩ : ∃ d, d = digV [] b := ⟨_, rfl⟩
  have hdl : d.length = 32 := by rw [hd]; exact digV_length _ _
  rw [← hm, ← hd] at HK
  rw [← hm, ← hd]
  have HDL := Lib.hid hdl
  clear hb hbc hm hd hdl hbl hT
  go_enter Tryd.func9, Tryd.ntmps9
  go_wp2_with (first
    | ((with_reducible refine wpList_allocDg ?_ ?_ ?_); (exact rfl); (exact rfl))
    | (go_at_call 22; refine HK.out.mono ?_; rintro e w2 ⟨rfl, hF2⟩; have H2 := Lib.hid (show w2.heap[w.heap.size]? = some (.cells (dgC no32) 24 (0, 0)) ∧ Fr (fun _ => False) w w2 from ⟨(hF2.block _ (size_up _ _) id).trans HZ.out, HF.out.trans hF2 (fun _ _ e => e)⟩); clear hF2)
    | ((with_reducible refine wpList_storeDg ?_ (.tmp 2) (.tmp 4) ?_ w.heap.size d no32 HDL.out ?_ ?_ ?_ H2.out.1 ?_); (exact rfl); (exact rfl); (exact rfl); (exact rfl); (exact rfl); intro w5 h5 hF5 hs5; have H5 := Lib.hid h5; have HF5 := Lib.hid hF5; clear h5 hF5 hs5))
  try go_frame
  exact bodyPost_ret (v := dgV d) (results_dg rfl _ _ w.heap.size d HDL.out rfl H5.out) rfl ⟨rfl, (H2.out.2.trans (HF5.out.mono (S := fun i => w.heap.size ≤ i) (fun i _ e => by omega)) (fun _ hi e => absurd hi (by omega)))⟩
set_option maxHeartbeats 4000000 in
theorem pkeyed (w : World) (hT : DT w) (A : Option Addr) (kc : Nat) (key : Bts) (B : Option Addr) (bc : Nat) (b : Bts) (hk : Rd w w.heap.size A key) (hk63 : key.length ≤ 140737488351232) (hb : Rd w w.heap.size B b) (hbc : b.length ≤ bc) (hbl : b.length ≤ 100000) :
    Calls Tryd.prog 17 #[.slice A key.length kc, .slice B b.length bc] w (DigR w (keyedV key b)) := by
  have HF := Lib.hid ((Fr.refl (fun _ => False) w).alloc (.cells (dgC no32) 24))
  have HZ := Lib.hid (heap_alloc_new w (.cells (dgC no32) 24))
  obtain ⟨n, hn⟩ : ∃ n, n = key.length := ⟨_, rfl⟩
  by_cases h32 : n ≤ 32
  · have e : keyedV key b = (digV key b, 0) := by unfold keyedV; rw [if_neg (by omega)]
    have HK := Lib.hid (pdigest _ (hT.keep HF.out id id id) A kc key B bc b ((hk.still HF.out (Nat.le_refl _)).more HF.out.size) (by omega) ((hb.still HF.out (Nat.le_refl _)).more HF.out.size) hbc hbl)
    rw [e]
    obtain ⟨m, hm⟩ : ∃ m, m = b.length := ⟨_, rfl⟩
    obtain ⟨d, hd⟩ : ∃ d, d = digV key b := ⟨_, rfl⟩
    have hdl : d.length = 32 := by rw [hd]; exact digV_length _ _
    rw [← hm, ← hn, ← hd] at HK
    rw [← hm, ← hn, ← hd]
    have HDL := Lib.hid hdl
    have g1 : ¬ 32 < n := by omega
    have g2 : ¬ (32 : Int) < (n : Int) := by omega
    have g3 : (n : Int) ≤ 32 := by omega
    clear hb hbc hm hd hdl hbl hT hk hk63 hn e
    go_enter Tryd.func17, Tryd.ntmps17
    go_wp2_with (first
      | ((with_reducible refine wpList_allocDg ?_ ?_ ?_); (exact rfl); (exact rfl))
      | (go_at_call 22; refine HK.out.mono ?_; rintro e w2 ⟨rfl, hF2⟩; have H2 := Lib.hid (show w2.heap[w.heap.size]? = some (.cells (dgC no32) 24 (0, 0)) ∧ Fr (fun _ => False) w w2 from ⟨(hF2.block _ (size_up _ _) id).trans HZ.out, HF.out.trans hF2 (fun _ _ e => e)⟩); clear hF2)
      | ((with_reducible refine wpList_storeDg ?_ (.tmp 4) (.tmp 12) ?_ w.heap.size d no32 HDL.out ?_ ?_ ?_ H2.out.1 ?_); (exact rfl); (exact rfl); (exact rfl); (exact rfl); (exact rfl); intro w5 h5 hF5 hs5; have H5 := Lib.hid h5; have HF5 := Lib.hid hF5; clear h5 hF5 hs5))
    try go_frame
    exact bodyPost_ret (v := .tuple #[dgV d, .int .i64 0]) (results_dg2 rfl _ _ w.heap.size d (.int .i64 0) HDL.out rfl rfl H5.out) rfl ⟨rfl, (H2.out.2.trans (HF5.out.mono (S := fun i => w.heap.size ≤ i) (fun i _ e => by omega)) (fun _ hi e => absurd hi (by omega)))⟩
  · have e : keyedV key b = (no32, 2) := by unfold keyedV; rw [if_pos (by omega)]
    rw [e]
    obtain ⟨m, hm⟩ : ∃ m, m = b.length := ⟨_, rfl⟩
    rw [← hm, ← hn]
    have g1 : 32 < n := by omega
    have g2 : (32 : Int) < (n : Int) := by omega
    have hz := fun w => zero_dg w
    clear hb hbc hm hbl hT hk hk63 hn e
    go_enter Tryd.func17, Tryd.ntmps17
    go_wp2_with (first
      | ((with_reducible refine wpList_allocDg ?_ ?_ ?_); (exact rfl); (exact rfl))
      | ((with_reducible refine wpList_storeDg ?_ (.tmp 4) (.tmp 9) ?_ w.heap.size no32 no32 no32_len no32_len ?_ ?_ HZ.out ?_); (exact rfl); (exact rfl); (exact rfl); (exact rfl); intro w5 h5 hF5 hs5; have H5 := Lib.hid h5; have HF5 := Lib.hid hF5; clear h5 hF5 hs5))
    try go_frame
    exact bodyPost_ret (v := .tuple #[dgV no32, .int .i64 2]) (results_dg2 rfl _ _ w.heap.size no32 (.int .i64 2) rfl rfl rfl H5.out) rfl ⟨rfl, (HF.out.trans (HF5.out.mono (S := fun i => w.heap.size ≤ i) (fun i _ e => by omega)) (fun _ hi e => absurd hi (by omega)))⟩

/-! ### Hex -/
/-- Bytes of the call's own, nil or not. -/
def OB (w0 w : World) (v : Value) (l : Bts) : Prop := ∃ A cap, v = .slice A l.length cap ∧ Own w w0.heap.size v l ∧ Fr (fun _ => False) w0 w
theorem ob_nil {w0 w : World} (hF : Fr (fun _ => False) w0 w) : OB w0 w (.slice none 0 0) [] := ⟨none, 0, rfl, World.ownsRow_nil w w0.heap.size 5 1, hF⟩
theorem OB.still {w0 w w' : World} {v : Value} {l : Bts} (h : OB w0 w v l) (hF : Fr (fun _ => False) w w') : OB w0 w' v l := by
  obtain ⟨A, cap, rfl, h1, h2⟩ := h
  exact ⟨A, cap, rfl, h1.kept hF, h2.trans hF (fun _ _ e => e)⟩
theorem ob_of {w0 w w' : World} {v v' : Value} {l l' : Bts} {n : Nat} (h : OB w0 w v l) (hn : n = l'.length) (h2 : w'.ownsRow w0.heap.size 5 1 v' n (bs l')) (h3 : w.grownBy w' v.ownBlock) : ∃ A' cap', v' = .slice A' n cap' ∧ OB w0 w' (.slice A' n cap') l' := by
  subst hn
  obtain ⟨A0, c0, rfl, hown, hF⟩ := h
  have hF2 : Fr (fun _ => False) w0 w' := hF.grown h3 (fun k hk => Or.inr (by
    rcases hown.2 with ⟨e, _⟩ | ⟨g, cap, cur, e, hg, _⟩
    · rw [e] at hk; cases hk
    · rw [e] at hk; cases hk; exact hg))
  rcases id h2.2 with ⟨rfl, h0⟩ | ⟨g, cap', cur, rfl, r⟩
  · exact ⟨none, 0, by rw [h0], by rw [h0]; exact ⟨none, 0, by rw [h0], by unfold Own; exact h2, hF2⟩⟩
  · exact ⟨some ⟨g, 0, none⟩, cap', rfl, _, _, rfl, h2, hF2⟩
section
variable {ops : Array Oper} {o : Oper} {a : Act} {w : World} {Q : Exit → Act → World → Prop}
theorem step_obB {K : Act → World → Prop} {E : Prop} (hgd : o.guard = none) (x y : Operand) (ho : o.op = .call { callee := .builtin .append, args := #[x, y], argTypes := #[22, 22] }) (w0 : World) (v : Value) (l : Bts) (hx : a.eval x = v) (hv : OB w0 w v l)
    (B : Nat) (ad : Addr) (n cap : Nat) (m : Bts) (hy : a.eval y = .slice (some ad) n cap) (hn : n = m.length) (hs : Rd w B (some ad) m) (nn : Nat) (hnn : nn = l.length + m.length) (hl : nn ≤ 1000000)
    (h : ∀ A' cap' w', OB w0 w' (.slice A' nn cap') (l ++ m) → K (a.put o.dst (.slice A' nn cap')) w') : if Region.wanted o (yielded ops a.tmps) = true then Oper.wp Tryd.prog o a w K Q else E := by
  have hw : Region.wanted o (yielded ops a.tmps) = true := by simp [Region.wanted, hgd]
  rw [if_pos hw]
  obtain ⟨i0, hi, hz0, hz1, hz2⟩ := info_parts infoB
  have hv2 := hv
  obtain ⟨A0, c0, rfl, hown, hF⟩ := hv
  subst hn
  subst hnn
  refine wp_append_own w x y 22 ho w0.heap.size 5 i0 (.int .u8 0) 1 1 Tryd.underlying22 hi hz0 hz1 hz2 rfl (by omega) _ l.length (bs l) hx hown ad m.length cap (bs m) hy (by rw [bs_length]; omega) hs.src (bs_one m) (by unfold maxLen; omega) (by omega) hF.size fun v' w' h1 h2 _ => ?_
  obtain ⟨A', cap', rfl, h4⟩ := ob_of (l' := l ++ m) hv2 (by rw [List.length_append]) (by rw [bs_append]; exact h1) h2
  exact h A' cap' w' h4
end
theorem ix_dg (w : World) (d : Bts) (k : Nat) (hd : d.length = 32) (hk : k < 32) : (Instr.index 24 (dgV d) (.int .i64 (k : Int))).run Tryd.prog w = .ok (.int .u8 ((d.getD k 0).toNat : Int)) w := by
  have hc : (dgC d)[k]? = some (.int .u8 ((d.getD k 0).toNat : Int)) := by
    show (bs d).toArray[k]? = _
    rw [List.getElem?_toArray, bs_get, List.getD_eq_getElem?_getD, List.getElem?_eq_getElem (by omega)]
    rfl
  have hsz : (sizeOf 5).run Tryd.prog w = .ok 1 w := by kernel_rfl
  have hag : (isAgg 5).run Tryd.prog w = .ok false w := by kernel_rfl
  have hu : (underlying 24).run Tryd.prog w = .ok (.array 32 5) w := run_underlying Tryd.underlying24 w
  have h0 : (0 : Int) ≤ (k : Int) ∧ (k : Int) < (32 : Nat) := by omega
  unfold Instr.index part
  simp only [asIntOf, Sem.run_bind, Sem.run_pure, Result.andThen_ok, hu, h0, and_self, if_true, hsz, hag, Nat.mul_one, Int.toNat_natCast, hc, Bool.false_eq_true, if_false]
theorem six_at (w : World) (q : Nat) (hq : q < 16) : (Instr.index 9 (.string ⟨#[48, 49, 50, 51, 52, 53, 54, 55, 56, 57, 97, 98, 99, 100, 101, 102]⟩) (.int .u8 (q : Int))).run Tryd.prog w = .ok (.int .u8 ((hexD q).toNat : Int)) w := by
  rw [run_index_string (P := Tryd.prog) w 9 _ .u8 q Tryd.underlying9, dif_pos ⟨by omega, by show (q : Int) < (16 : Nat); omega⟩]
  have : ∀ k : Fin 16, (⟨#[48, 49, 50, 51, 52, 53, 54, 55, 56, 57, 97, 98, 99, 100, 101, 102]⟩ : ByteArray)[k.val]'(k.isLt) = hexD k.val := by decide +kernel
  have h := this ⟨q, hq⟩
  congr 2
  rw [← h]
  rfl
theorem and15b (z : Nat) (hz : z < 256) : bits .and .u8 (z : Int) 15 = ((z % 16 : Nat) : Int) := by
  have : ∀ j : Fin 256, bits .and .u8 (j.val : Int) 15 = ((j.val % 16 : Nat) : Int) := by decide +kernel
  exact this ⟨z, hz⟩
theorem conv_ob {w0 w : World} {A : Option Addr} {n c : Nat} {l : Bts} (h : OB w0 w (.slice A n c) l) (hn : n = l.length) : (convert 22 9 (.slice A n c)).run Tryd.prog w = .ok (.string (tx l)) w := by
  obtain ⟨A1, c1, e, ho, hF⟩ := h
  cases e
  exact conv_got w A c l ⟨ho.rd, (own_cap3 ho).1, (own_cap3 ho).2⟩ _ rfl
theorem rd_two (w : World) (a b : UInt8) : Rd (w.alloc (.cells #[.int .u8 (a.toNat : Int), .int .u8 (b.toNat : Int)] 5)).drew (w.heap.size + 1) (some ⟨w.heap.size, 0, none⟩) [a, b] := fun _ => by
  refine ⟨w.heap.size, 0, rfl, by omega, fun j x hj => ?_⟩
  have hn : (w.alloc (.cells #[.int .u8 (a.toNat : Int), .int .u8 (b.toNat : Int)] 5)).drew.heap[w.heap.size]? = some (.cells #[.int .u8 (a.toNat : Int), .int .u8 (b.toNat : Int)] 5 (0, 0)) := heap_alloc_new _ _
  rw [cellAt hn, Nat.zero_add]
  rcases (show j = 0 ∨ j = 1 by have := (List.getElem?_eq_some_iff.1 hj).1; simp at this; omega) with rfl | rfl
  · cases hj; rfl
  · cases hj; rfl
set_option maxHeartbeats 8000000 in
theorem phex (w : World) (d : Bts) (hd : d.length = 32) : Calls Tryd.prog 11 #[dgV d] w fun e w' => e = .returned (.string (tx (hexV d))) ∧ Fr (fun _ => False) w w' := by
  have HD := Lib.hid hd
  clear hd
  have HZ := Lib.hid (heap_alloc_new w (.cells (dgC d) 24))
  have HF := Lib.hid ((Fr.refl (fun _ => False) w).alloc (.cells (dgC d) 24))
  go_enter Tryd.func11, Tryd.ntmps11
  go_wp2_with (first
    | ((with_reducible refine wpList_boxDg ?_ (.tmp 0) ?_ d ?_ ?_); (exact rfl); (exact rfl); (exact rfl))
    | ((with_reducible refine wpList_loadDg ?_ (.tmp 1) ?_ w.heap.size d HD.out ?_ HZ.out ?_); (exact rfl); (exact rfl); (exact rfl)))
  go_loopw [3, 7] (fun v3 v7 wr => ∃ (k n : Nat) (A : Option Addr) (c : Nat), k ≤ 32 ∧ v7 = .int .i64 (k : Int) ∧ v3 = .slice A n c ∧ Hid (n = 2 * k ∧ OB w wr (.slice A n c) (hexV (d.take k)))) (fun _ v _ => 32 - (intOf v).toNat)
  case atStart => exact ⟨0, 0, none, 0, Nat.zero_le _, rfl, rfl, Lib.hid ⟨rfl, ob_nil HF.out⟩⟩
  case round =>
    obtain ⟨k, n, A, cc, hk, rfl, rfl, HK⟩ := hrel
    by_cases hlt : k < 32
    · have hk32 : (k : Int) < 32 := by omega
      have hix := ix_dg wr d k HD.out hlt
      obtain ⟨c, hc⟩ : ∃ c, c = d.getD k 0 := ⟨_, rfl⟩
      obtain ⟨z, hz⟩ : ∃ z, z = c.toNat := ⟨_, rfl⟩
      have hz256 : z < 256 := by rw [hz]; exact c.toNat_lt
      rw [← hc, ← hz] at hix
      obtain ⟨q, hq⟩ : ∃ q, q = z / 16 := ⟨_, rfl⟩
      obtain ⟨r, hr⟩ : ∃ r, r = z % 16 := ⟨_, rfl⟩
      have hq1 : (z : Int) / 16 = (q : Int) := by omega
      have hr1 := and15b z hz256
      rw [← hr] at hr1
      have y1 := fun w => six_at w q (by omega)
      have y2 := fun w => six_at w r (by omega)
      have HNX := Lib.hid (show hexV (d.take k) ++ [hexD q, hexD r] = hexV (d.take (k + 1)) from by
        have hkd : k < d.length := by rw [HD.out]; exact hlt
        have hg : d[k] = c := by rw [hc, List.getD_eq_getElem?_getD, List.getElem?_eq_getElem hkd]; rfl
        rw [List.take_succ_eq_append_getElem hkd, hexV_snoc, hg, ← hz, ← hq, ← hr, List.append_assoc]
        rfl)
      obtain ⟨s1, hs1⟩ : ∃ x, x = hexD q := ⟨_, rfl⟩
      obtain ⟨s2, hs2⟩ : ∃ x, x = hexD r := ⟨_, rfl⟩
      have q16 : (q : Int) < 16 := by omega
      have r16 : (r : Int) < 16 := by omega
      rw [← hs1] at y1 HNX
      rw [← hs2] at y2 HNX
      clear hc hz hq hr hs1 hs2
      have HLN := Lib.hid (show (hexV (d.take k)).length = n ∧ n ≤ 64 from ⟨by rw [hexV_length, List.length_take, HD.out, HK.out.1]; omega, by have := HK.out.1; omega⟩)
      have HOa := Lib.hid (fun (o : Obj) => HK.out.2.still (((Fr.refl (fun _ => False) wr).alloc o).drew))
      have HRa := Lib.hid (rd_two wr s1 s2)
      go_wp2_with fail
      go_region_law (first
        | (refine step_obB (by rfl) (.tmp 10) (.tmp 17) (by rfl) w (.slice A n cc) (hexV (d.take k)) (by rfl) (HOa.out _) (wr.heap.size + 1) ⟨wr.heap.size, 0, none⟩ 2 2 [s1, s2] (by rfl) (by rfl) HRa.out (n + 2) (by rw [HLN.out.1]; rfl) (by have := HLN.out.2; omega) ?_; intro A' c' w' hO'; have HO' := Lib.hid hO'; clear hO'))
      all_goals
        have HNY := Lib.hid (show n + 2 = 2 * (k + 1) ∧ OB w w' (.slice A' (n + 2) c') (hexV (d.take (k + 1))) from ⟨by have := HK.out.1; omega, by rw [← HNX.out]; exact HO'.out⟩)
        go_wp2_with fail
        go_roundw
        case rel => exact ⟨k + 1, n + 2, A', c', by omega, by go_num, rfl, HNY⟩
        case measure => simp [intOf]; omega
    · obtain rfl : k = 32 := by omega
      have HE := Lib.hid (show OB w wr (.slice A n cc) (hexV d) ∧ n = (hexV d).length from by
        have h := HK.out.2
        rw [List.take_of_length_le (Nat.le_of_eq HD.out)] at h
        exact ⟨h, by rw [hexV_length, HD.out]; exact HK.out.1⟩)
      have hcv := conv_ob HE.out.1 HE.out.2
      go_wp2_with fail
      go_ret
      exact ⟨rfl, by obtain ⟨_, _, _, _, h⟩ := HE.out.1; exact h⟩
end Go.Proofs.YtoikgnmhnlcbhaaDoor.dg
