/-
  New makes a code.
-/
import Derived.Test.YtcdhakfmljjaoaaGreatDoorJG
namespace Go.Proofs.YtcdhakfmljjaoaaGreatDoor.cd
set_option maxRecDepth 100000
open Go.RowKit Go.Maps Go.Proofs.YtcdhakfmljjaoaaGreatDoor.fl
set_option maxRecDepth 100000

set_option maxHeartbeats 4000000 in
theorem pnew_ok (w : World) (A : Option Addr) (cap : Nat) (l : List Int) (hr : RdI w w.heap.size A l) (hb : l.length ≤ 140737488351232) (h : okB l = true) :
    Calls Tryz.prog 104 #[.slice A l.length cap] w fun e w' => ∃ a S, e = .returned (.tuple #[.pointer (some a), .int .i64 0]) ∧ PC w' a l S ∧ (∀ i, S i → w.heap.size ≤ i) ∧ Fr (fun _ => False) w w' := by
  obtain ⟨h1, h2, _⟩ := (okB_iff l).1 h
  have h2 : inB l = true := (inB_iff l).2 h2
  have HC := Lib.hid (contains_wrong w A cap l _ rfl hr hb)
  rw [any_wrong, h2] at HC
  have HN := Lib.hid (pcount w A cap l hr hb)
  have HM := Lib.hid (fun wx => pmayBe wx l hb)
  rw [may_ok h1 h2, h] at HM
  have HL := Lib.hid (cntL_length l)
  have HK := Lib.hid (cntL_cells l)
  have HRE := Lib.hid (fun wx => preach wx l h2)
  have HBE := Lib.hid (fun wx => pbegins wx l h)
  have HAL := Lib.hid (fun wx => pall wx l hb)
  have HR := Lib.hid hr
  have HOK := Lib.hid (⟨h, h2⟩ : _ ∧ _)
  obtain ⟨n, hn⟩ : ∃ n, n = l.length := ⟨_, rfl⟩
  rw [← hn] at HC HN h1 ⊢
  have HLN := Lib.hid hn
  clear hn hr h h2 hb
  have hu : Tryz.prog.underlying 153 = some (.array 16 3) := Tryz.underlying153
  have hi : (Tryz.prog.info? 153).map (·.size) = some (is (cntL l)).length := by rw [HK.out]; exact infoCn
  have hlen : (is (cntL l)).length = 16 := HK.out
  have hone : ∀ v ∈ is (cntL l), v.oneCell' = true := is_one _
  obtain ⟨z, hz⟩ : ∃ z, z = mostW (wordsL l) := ⟨_, rfl⟩
  have HZ := Lib.hid hz
  rw [← hz] at HRE
  have hbuild : Tryz.prog.built 157 [(0, .int .i64 (z : Int)), (1, cnV (cntL l))] = some (codV z (cntL l)) := built_code z l
  obtain ⟨c, hc⟩ : ∃ c, c = cntL l := ⟨_, rfl⟩
  rw [← hc] at HN HM HL HK HRE HBE HAL hi hlen hone hbuild
  have HCC := Lib.hid hc
  clear hz hc
  go_enter Tryz.func104, Tryz.ntmps104
  go_upto_region 6 with (first
    | (go_at_call 124; refine HC.out.mono ?_; rintro e w' ⟨rfl, rfl⟩)
    | (go_at_call 126; refine HN.out.mono ?_; rintro e w1 ⟨rfl, hF1⟩; have HF1 := Lib.hid hF1; have HA1 := Lib.hid (heap_alloc_new w1 (.cells (is no16).toArray 153)); clear hF1)
    | ((with_reducible refine wpList_allocCn ?_ ?_ ?_); (exact rfl); (exact rfl))
    | ((with_reducible refine wpList_storeA infoCn ?_ (.tmp 4) (.tmp 17) ?_ w1.heap.size (is c) (is no16) HK.out no16_cells (is_one _) ?_ ?_ HA1.out ?_); (exact rfl); (exact rfl); (exact rfl); (exact rfl); intro w3 h3 hF3 hs3; have H3 := Lib.hid h3; have HF3 := Lib.hid ((HF1.out.alloc _).trans (hF3.mono (S := fun i => w1.heap.size ≤ i) (fun i _ e => by omega)) (S := fun _ => False) (fun i hi e => absurd hi (by have := HF1.out.size; omega))); clear h3 hF3 hs3)
    | ((with_reducible refine wpList_loadCn ?_ (.tmp 4) ?_ w1.heap.size c HL.out ?_ H3.out ?_); (exact rfl); (exact rfl); (exact rfl))
    | (go_at_call 127; refine (HM.out _).mono ?_; rintro e w4 ⟨rfl, hF4⟩; have HF4 := Lib.hid (HF3.out.trans hF4 (fun _ _ e => e)); have H4 := Lib.hid ((hF4.block _ (lt_of_block H3.out) id).trans H3.out); clear hF4))
  have HGE := Lib.hid (show w.heap.size ≤ w1.heap.size from HF1.out.size)
  obtain ⟨gm, hgm⟩ : ∃ gm, gm = w1.heap.size := ⟨_, rfl⟩
  rw [← hgm] at H4 HGE ⊢
  clear HF3 H3 HA1 HC HN HM hgm
  clear HF1
  clear w3
  go_cut [5] (fun s5 wz => ∃ gc : Nat, s5 = .pointer (some ⟨gc, 0, none⟩) ∧ Hid (Nw6 w l gm gc wz))
  case first =>
    obtain ⟨x0, x1, x2, x3, x4, x5, x6, x7, x8, x9, x10, x11, x12, x13, x14, x15, rfl⟩ : ∃ x0 x1 x2 x3 x4 x5 x6 x7 x8 x9 x10 x11 x12 x13 x14 x15 : Int, c = [x0, x1, x2, x3, x4, x5, x6, x7, x8, x9, x10, x11, x12, x13, x14, x15] := len16 HL.out
    have HR4 := Lib.hid (show ∀ w', Fr (fun _ => False) w4 w' → w'.cell? ⟨gm, 0, none⟩ = some (.int .i64 x0) ∧ w'.cell? ⟨gm, 1, none⟩ = some (.int .i64 x1) ∧ w'.cell? ⟨gm, 2, none⟩ = some (.int .i64 x2) ∧ w'.cell? ⟨gm, 3, none⟩ = some (.int .i64 x3) ∧ w'.cell? ⟨gm, 4, none⟩ = some (.int .i64 x4) ∧ w'.cell? ⟨gm, 5, none⟩ = some (.int .i64 x5) ∧ w'.cell? ⟨gm, 6, none⟩ = some (.int .i64 x6) ∧ w'.cell? ⟨gm, 7, none⟩ = some (.int .i64 x7) ∧ w'.cell? ⟨gm, 8, none⟩ = some (.int .i64 x8) ∧ w'.cell? ⟨gm, 9, none⟩ = some (.int .i64 x9) ∧ w'.cell? ⟨gm, 10, none⟩ = some (.int .i64 x10) ∧ w'.cell? ⟨gm, 11, none⟩ = some (.int .i64 x11) ∧ w'.cell? ⟨gm, 12, none⟩ = some (.int .i64 x12) ∧ w'.cell? ⟨gm, 13, none⟩ = some (.int .i64 x13) ∧ w'.cell? ⟨gm, 14, none⟩ = some (.int .i64 x14) ∧ w'.cell? ⟨gm, 15, none⟩ = some (.int .i64 x15) from fun w' hF => by
      have hb := (hF.block _ (lt_of_block H4.out) id).trans H4.out
      simp only [cellAt hb]
      exact ⟨rfl, rfl, rfl, rfl, rfl, rfl, rfl, rfl, rfl, rfl, rfl, rfl, rfl, rfl, rfl, rfl⟩)
    have HD := Lib.hid ((Fr.refl (fun _ => False) w4).drew)
    obtain ⟨a0, a1, a2, a3, a4, a5, a6, a7, a8, a9, a10, a11, a12, a13, a14, a15⟩ := HR4.out _ (Fr.refl _ _)
    go_region_with
      (first
        | (go_at_call 128; refine (HRE.out _).mono ?_; rintro e w7 ⟨rfl, hF7⟩; have H7 := Lib.hid (HD.out.trans hF7 (fun _ _ e => e)); obtain ⟨b0, b1, b2, b3, b4, b5, b6, b7, b8, b9, b10, b11, b12, b13, b14, b15⟩ := HR4.out w7 H7.out; clear hF7))
    all_goals
      go_wp2_with fail
      go_meet
      exact ⟨_, rfl, nw6_of HZ.out HCC.out H4.out HF4.out H7.out HGE.out⟩
  obtain ⟨gc, rfl, H6⟩ := hcut
  obtain ⟨d, hd⟩ : ∃ d, d = shN l 16 := ⟨_, rfl⟩
  have HDD := Lib.hid (show d = codesN l by rw [hd]; exact sh_all l HOK.out.2)
  rw [← hd] at HAL
  have hd288 : d ≤ 288 := by
    have := sh_le l 16
    have := HLN.out
    omega
  clear hd
  have hmkW : ∀ wx : World, (Instr.makeSlice 155 (.int .i64 (n : Int)) (.int .i64 (n : Int))).run Tryz.prog wx = .ok (slA wx.heap.size n) (wx.alloc (.cells (wdZ n).toArray 163)) := fun wx => mk_words wx n h1
  have hmkS : ∀ wx : World, (Instr.makeSlice 66 (.int .i64 (d : Int)) (.int .i64 (d : Int))).run Tryz.prog wx = .ok (slA wx.heap.size d) (wx.alloc (.cells (syZ d).toArray 3)) := fun wx => mk_syms wx d hd288
  go_upto_region 7 with (fail)
  go_cut [5] (fun s5 wz => ∃ gw gs : Nat, s5 = .pointer (some ⟨gc, 0, none⟩) ∧ Hid (Nw7 w l gm gc gw gs wz))
  case first =>
    have HR4 := Lib.hid (show ∀ w', Fr (fun i => i = gc) wc w' → w'.rangeAt gm 0 (is c) ∧ gm < w'.heap.size from fun w' hF => ⟨fun j v hv => by
      rw [Nat.zero_add, cellAt ((hF.block _ (lt_of_block H6.out.mny) H6.out.ne).trans H6.out.mny), List.getElem?_toArray, ← HCC.out]
      exact hv, Nat.lt_of_lt_of_le (lt_of_block H6.out.mny) hF.size⟩)
    have HD := Lib.hid ((Fr.refl (fun i => i = gc) wc).drew)
    have HGC := Lib.hid (show ∀ w', Fr (fun _ => False) wc w' → w'.cell? ⟨gc, 17, none⟩ = some (.slice none 0 0) ∧ w'.cell? ⟨gc, 18, none⟩ = some (.slice none 0 0) ∧ w'.frozen? ⟨gc, 17, none⟩ = false ∧ w'.frozen? ⟨gc, 18, none⟩ = false ∧ gc < w'.heap.size from fun w' hF => by
      have hb := (hF.block gc (lt_of_block H6.out.cod) id).trans H6.out.cod
      exact ⟨by rw [cellAt hb, List.getElem?_toArray]; exact codC_17 (cntL_length l), by rw [cellAt hb, List.getElem?_toArray]; exact codC_18 (cntL_length l), freeAt hb _, freeAt hb _, lt_of_block hb⟩)
    have HD0 := Lib.hid ((Fr.refl (fun _ => False) wc).drew)
    go_region_held3 (fun w' => w'.rangeAt gm 0 (is c) ∧ gm < w'.heap.size)
      (first
        | exact HR4.out _ HD.out
        | exact HR4.out _ (HD.out.alloc _)
        | exact HR4.out _ H7m.out
        | exact HR4.out _ (H7m.out.alloc _)
        | exact HR4.out _ ((H7m.out.alloc _).alloc _)
        | exact HR4.out _ (H7m.out.setCell (Or.inl rfl) _)
        | exact HR4.out _ ((H7m.out.setCell (Or.inl rfl) _).alloc _)
        | exact HR4.out _ (((H7m.out.setCell (Or.inl rfl) _).alloc _).alloc _)
        | exact HR4.out _ ((H7m.out.setCell (Or.inl rfl) _).setCell (Or.inl rfl) _)
        | exact HR4.out _ (((H7m.out.setCell (Or.inl rfl) _).setCell (Or.inl rfl) _).alloc _)
        | exact HR4.out _ ((((H7m.out.setCell (Or.inl rfl) _).setCell (Or.inl rfl) _).alloc _).alloc _))
      (first
        | (go_at_call 129; refine (HAL.out _).mono ?_; rintro e w7 ⟨rfl, hF7⟩; have H7 : Hid (Fr (fun _ => False) wc w7) := Lib.hid (by first | exact HD0.out.trans hF7 (fun _ _ e => e) | exact (HD0.out.alloc _).trans hF7 (fun _ _ e => e)); have HF7 := Lib.hid hF7; have H7m := Lib.hid (H7.out.mono (S := fun i => i = gc) (fun _ _ e => e.elim)); obtain ⟨g17, g18, f17, f18, g7⟩ := HGC.out w7 H7.out; clear hF7))
    all_goals
      go_wp2_with fail
      go_meet
      first
        | (with_reducible exact ⟨_, _, rfl, Lib.hid (nw7_a HLN.out HDD.out H6.out HF7.out)⟩)
        | (with_reducible exact ⟨_, _, rfl, Lib.hid (nw7_b HLN.out HDD.out H6.out H7.out)⟩)
        | (with_reducible exact ⟨_, _, rfl, Lib.hid (nw7_c HLN.out HDD.out H6.out H7.out)⟩)
  obtain ⟨gw, gs, rfl, H7⟩ := hcut
  have HM7 := Lib.hid (show wc.heap[gm]? = some (.cells (is c).toArray 153 (0, 0)) by rw [HCC.out]; exact H7.out.mny)
  clear hmkW hmkS hbuild hone hlen hi hu
  go_wp2_with (first
    | ((with_reducible refine wpList_loadCn ?_ (.tmp 4) ?_ gm c HL.out ?_ HM7.out ?_); (exact rfl); (exact rfl); (exact rfl))
    | (go_at_call 130; refine (HBE.out _).mono ?_; rintro e w8 ⟨rfl, hF8⟩; have HF8 := Lib.hid hF8; have HA8 := Lib.hid (heap_alloc_new w8 (.cells (lvs noL16).toArray 160)); clear hF8)
    | ((with_reducible refine wpList_allocLv ?_ ?_ ?_); (exact rfl); (exact rfl))
    | ((with_reducible refine wpList_storeA infoLv ?_ (.tmp 6) (.tmp 39) ?_ w8.heap.size (lvs (lvL l 15)) (lvs noL16) (lvL_cells l 15) noL16_cells (lvs_one _) ?_ ?_ HA8.out ?_); (exact rfl); (exact rfl); (exact rfl); (exact rfl); intro w9 h9 hF9 hs9; have H9a := Lib.hid h9; have HF9 := Lib.hid (((Fr.refl (fun _ => False) w8).alloc (.cells (lvs noL16).toArray 160)).trans hF9 (fun i hi e => absurd hi (by omega))); clear h9 hF9 hs9))
  have H9 := Lib.hid (NwS.start H7.out HF8.out H9a.out HF9.out)
  obtain ⟨ga, hga⟩ : ∃ ga, ga = w8.heap.size := ⟨_, rfl⟩
  rw [← hga] at H9 ⊢
  clear H9a HF9 HF8 HA8 HM7 hga
  clear w8
  go_loopw [7, 8, 42] (fun _ _ i wr => ∃ k : Nat, k ≤ n ∧ i = .int .i64 k ∧ Hid (NwS w l gc gw gs ga k wr)) (fun _ _ i _ => n - (intOf i).toNat)
  case atStart => exact ⟨0, Nat.zero_le _, rfl, H9⟩
  case round =>
    obtain ⟨k, hk, rfl, HC⟩ := hrel
    by_cases hlt : k < n
    · obtain ⟨x, hx⟩ : ∃ x, l[k]? = some x := ⟨_, List.getElem?_eq_getElem (by have := HLN.out; omega)⟩
      obtain ⟨b, o, rfl, hbl, hcell⟩ := HR.out.1 (by rintro rfl; simp at hx)
      have p0 : wr.cell? ⟨b, o + k, none⟩ = some (.int .i64 x) := by
        obtain ⟨sy, g1, _⟩ := HC.out
        exact (World.cell?_of_block (w := w) (w' := wr) (a := ⟨b, o + k, none⟩) (g1.fr.block b hbl id)).trans (hcell k x hx)
      by_cases h0 : x = 0
      · subst h0
        have HN := Lib.hid (HC.out.skip hx)
        clear hx hbl hcell
        go_wp2_with fail
        go_roundw
        case rel => exact ⟨k + 1, by omega, by go_num, HN⟩
        case measure => simp [intOf]; omega
      · obtain ⟨m, F, S, rfl, hS⟩ := Sym.of HOK.out.2 hx h0
        have HS := Lib.hid hS
        obtain ⟨s1, s2, s3, s4, s5, s6⟩ := hS.small HOK.out.1
        have HX := Lib.hid HC.out
        obtain ⟨sy, g1, g2⟩ := HC.out
        have HSO := Lib.hid g2
        have HG := Lib.hid g1.drew
        rw [← HDD.out] at s2
        have hm0 : (0 : Int) < (m : Int) := by omega
        have hm1 : (0 : Int) ≤ (m : Int) := by omega
        have hm16 : (m : Int) < 16 := by omega
        have hk0 : (0 : Int) ≤ (k : Int) := by omega
        have hkn : (k : Int) < (n : Int) := by omega
        have hS0 : (0 : Int) ≤ (S : Int) := by omega
        have hSd : (S : Int) < (d : Int) := by omega
        have hwk : (wdL l k)[k]? = some (0, 0) := by rw [wdL_get s6, if_neg (by omega)]
        obtain ⟨q0, q1, r0, r1⟩ := (g1.setW hwk).1
        have HG1 := Lib.hid ((HG.out.setW hwk).2 (F : Int) (m : Int))
        have HG2 := Lib.hid ((g1.setW hwk).2 (F : Int) (m : Int)).drew
        have HK13 := Lib.hid (show ∀ w' W sy', NwG w l gc gw gs ga W (atL l k) sy' w' → w'.cell? ⟨gc, 17, none⟩ = some (slA gw n) ∧ w'.cell? ⟨ga, m * 2, none⟩ = some (.int .i64 (F : Int)) from fun w' W sy' h => ⟨by rw [HLN.out]; exact h.slW, (h.lev HS.out.lev).1⟩)
        have HK14 := Lib.hid (show ∀ w' W sy', NwG w l gc gw gs ga W (atL l k) sy' w' → w'.cell? ⟨gc, 18, none⟩ = some (slA gs d) ∧ w'.cell? ⟨ga, m * 2 + 1, none⟩ = some (.int .i64 (S : Int)) from fun w' W sy' h => ⟨by rw [HDD.out]; exact h.slS, (h.lev HS.out.lev).2⟩)
        clear hx hbl hcell hS g1 g2 hwk h0 HC
        go_wp2_with fail
        go_region_held3 (fun w' => w'.cell? ⟨gc, 17, none⟩ = some (slA gw n) ∧ w'.cell? ⟨ga, m * 2, none⟩ = some (.int .i64 (F : Int)))
          (first
            | exact HK13.out _ _ _ HG.out
            | exact HK13.out _ _ _ HG1.out)
          (fail)
        obtain ⟨w13, hw13⟩ : ∃ w13, w13 = ((wr.setCell ⟨gw, k * 2, none⟩ (.int .i64 (F : Int))).setCell ⟨gw, k * 2 + 1, none⟩ (.int .i64 (m : Int))).drew := ⟨_, rfl⟩
        rw [← hw13] at HG2 ⊢
        clear hw13 HG1 HG HK13 HX q0 q1 r0 r1 p0
        have hsS : sy[S]? = some (sy[S]'(by rw [HSO.out.1, ← HDD.out]; omega)) := List.getElem?_eq_getElem _
        obtain ⟨q0, r0⟩ := (HG2.out.setS hsS).1
        have HG3 := Lib.hid ((HG2.out.drew.setS hsS).2 (k : Int))
        have HG4 := Lib.hid ((HG2.out.setS hsS).2 (k : Int)).drew
        have HG2d := Lib.hid HG2.out.drew
        clear hsS
        go_wp2_with fail
        go_region_held3 (fun w' => w'.cell? ⟨gc, 18, none⟩ = some (slA gs d) ∧ w'.cell? ⟨ga, m * 2 + 1, none⟩ = some (.int .i64 (S : Int)))
          (first
            | exact HK14.out _ _ _ HG2d.out
            | exact HK14.out _ _ _ HG3.out)
          (fail)
        obtain ⟨w14, hw14⟩ : ∃ w14, w14 = (w13.setCell ⟨gs, S, none⟩ (.int .i64 (k : Int))).drew := ⟨_, rfl⟩
        rw [← hw14] at HG4 ⊢
        clear hw14 HG3 HG2 HG2d HK14 q0 r0
        obtain ⟨q0, q1, r0, r1⟩ := (HG4.out.setL HS.out.lev).1
        have HN := Lib.hid (HS.out.next HOK.out.2 HSO.out ((HG4.out.setL HS.out.lev).2 ((F : Int) + 1) ((S : Int) + 1)).drew)
        go_wp2_with fail
        go_region
        all_goals
          go_wp2_with fail
          go_roundw
          case rel => exact ⟨k + 1, by omega, by go_num, HN⟩
          case measure => simp [intOf]; omega
    · obtain rfl : k = n := by omega
      have HD := Lib.hid (NwS.done HOK.out.1 (by rw [← HLN.out]; exact HC.out))
      go_wp2_with fail
      go_ret2
      obtain ⟨S, e1, e2, e3⟩ := HD.out
      exact ⟨_, S, rfl, e1, e2, e3⟩
end Go.Proofs.YtcdhakfmljjaoaaGreatDoor.cd
