/-
  The document's Runs.
-/
import Derived.Test.YtcdhakfmljjaoaaGreatDoorFtS
import Derived.BigQuiet
import Derived.Deep.DeepCutAuto
import Derived.Deep.CutBlock
namespace Go.Proofs.YtcdhakfmljjaoaaGreatDoor.ft
set_option maxRecDepth 100000
open Go.RowKit Go.Maps Go.Proofs.YtcdhakfmljjaoaaGreatDoor.fl Go.Proofs.YtcdhakfmljjaoaaGreatDoor.cd
set_option maxRecDepth 100000

theorem own_low {w : World} {T : TypeId} {B B' n : Nat} {v : Value} {xs : List Value} (h : w.ownsRow B T 1 v n xs) (hB : B' ≤ B) : w.ownsRow B' T 1 v n xs := by
  obtain ⟨h1, h2⟩ := h
  refine ⟨h1, ?_⟩
  rcases h2 with h2 | ⟨g, cap, cur, hv, hg, r⟩
  · exact Or.inl h2
  · exact Or.inr ⟨g, cap, cur, hv, Nat.le_trans hB hg, r⟩
theorem FixW.at2 {w : World} {g hi : Nat} (h : FixW w (some ⟨g, 0, none⟩) hi) {s : Nat} (hs : s < 288) : ∃ A' c m, w.cell? ⟨g, s, none⟩ = some (.slice A' m c) ∧ Hid (m = (wordB fixI s).length ∧ SrcI w A' c (wordB fixI s)) ∧ m ≤ 9 := by
  obtain ⟨g', A', c, m, e, h1, h2, h3⟩ := h.at_ hs
  cases e
  exact ⟨A', c, m, h1, h2, h3⟩
theorem u8_288 (c : UInt8) : c.toNat < 288 := by have := c.toNat_lt; omega
theorem rns_at {b : By} {i : Nat} (hi : i < b.length) : rnsL rls (b.drop i) = litB b[i] ++ (runL rls b[i] (headN b[i] (b.drop (i + 1))) ++ rnsL rls (b.drop (i + 1 + headN b[i] (b.drop (i + 1))))) := by
  rw [List.drop_eq_getElem_cons hi, rnsL_cons, List.drop_drop]
theorem runs_i (T : List Int) : (T ++ endB).length = T.length + 7 := by rw [List.length_append, endB_len]
theorem pre_len {L X T : List Int} (h : L ++ X = T) : L.length + X.length = T.length := by rw [← h, List.length_append]
set_option maxHeartbeats 4000000 in
theorem rruns (w : World) (A : Option Addr) (cap : Nat) (b : By) (hr : Rd w w.heap.size A b) (hb : b.length ≤ 100000) :
    Calls Tryz.prog 27 #[.slice A b.length cap] w (NewB w (runsV rls b)) := by
  have HR := Lib.hid hr
  obtain ⟨n, hn⟩ : ∃ n, n = b.length := ⟨_, rfl⟩
  have HN := Lib.hid hn
  rw [← hn] at hb ⊢
  obtain ⟨T, hT⟩ : ∃ T, T = [1, 1, 0] ++ rnsL rls b := ⟨_, rfl⟩
  have hTl : T.length ≤ 900003 := by
    have h2 := rnsL_small rls_sym b
    rw [hT, List.length_append]
    show 3 + _ ≤ _
    omega
  have hTb : AllBit T := by
    rw [hT]
    exact AllBit.append (fun x hx => by simp at hx; omega) (rnsL_bits rls b)
  have hV : runsV rls b = packI (T ++ endB) := by rw [runsV_eq, hT, List.append_assoc]
  have HT := Lib.hid (⟨hT, hTl, hTb⟩ : _ ∧ _ ∧ _)
  rw [hV]
  clear hr hn hT hTl hTb hV
  go_enter Tryz.func27, Tryz.ntmps27
  go_wp2_with fail
  refine (rfixed w).mono ?_
  rintro e w1 ⟨A1, c1, rfl, ho1, hF1⟩
  have HW := Lib.hid (rwords w1 A1 c1 fixI (ho1.rd (by decide +kernel)) fix_ok)
  have hl : fixI.length = 288 := by decide +kernel
  rw [hl] at HW ⊢
  have HF1 := Lib.hid hF1
  clear ho1 hF1
  go_wp2_with fail
  refine HW.out.mono ?_
  rintro e w2 ⟨A2, c2, rfl, hW2, hF2⟩
  obtain ⟨hi, hhi⟩ : ∃ hi, FixW w2 A2 hi := ⟨w2.heap.size, ⟨⟨_, hW2⟩, Nat.le_refl _⟩⟩
  obtain ⟨g, _, _, _, rfl, _, _⟩ := hhi.at_ (s := 0) (by decide)
  have HFX := Lib.hid hhi
  have HF2 := Lib.hid (HF1.out.trans hF2 (fun _ _ e => e))
  have HX := Lib.hid (show OwL w2 (w2.alloc (.cells #[.int .i64 1, .int .i64 1, .int .i64 0] 3)) (.slice (some ⟨w2.heap.size, 0, none⟩) 3 3) [1, 1, 0] from ⟨ownI_made w2 [1, 1, 0] (by decide), (Fr.refl _ w2).alloc _⟩)
  clear hW2 hF2 HW HF1 hhi
  go_wp2_with fail
  go_loopw [4, 5, 6, 7, 8, 9] (fun v i _ _ _ _ wr => ∃ k : Nat, k ≤ n ∧ i = .int .i64 k ∧ Hid (∃ L, OwL w2 wr v L ∧ L ++ rnsL rls (b.drop k) = T)) (fun _ i _ _ _ _ _ => n - (intOf i).toNat)
  case atStart => exact ⟨0, Nat.zero_le _, rfl, (show ∃ _, _ from ⟨[1, 1, 0], HX.out, by rw [List.drop_zero, HT.out.1]⟩)⟩
  case round =>
    obtain ⟨k, hk, rfl, HL⟩ := hrel
    obtain ⟨L, hRn, hLe⟩ := HL.out
    have hLlen : L.length ≤ 900003 := by
      have h1 := pre_len hLe
      have := HT.out.2.1
      omega
    have HRn := Lib.hid hRn
    have HLe := Lib.hid hLe
    clear hRn hLe HL
    by_cases hlt : k < n
    · have hkb : k < b.length := by have := HN.out; omega
      obtain ⟨c, hc⟩ : ∃ c, c = b[k] := ⟨_, rfl⟩
      obtain ⟨r, hrr⟩ : ∃ r, r = b.drop (k + 1) := ⟨_, rfl⟩
      obtain ⟨hd, hhd⟩ : ∃ hd, hd = headN c r := ⟨_, rfl⟩
      obtain ⟨nn, hnn⟩ : ∃ nn, nn = hd + 1 := ⟨_, rfl⟩
      have HRG := Lib.hid (show ∀ j, r[j]? = b[k + 1 + j]? from fun j => by rw [hrr, List.getElem?_drop])
      obtain ⟨Z, hZ⟩ : ∃ Z, Z = rnsL rls (b.drop (k + nn)) := ⟨_, rfl⟩
      have HLN := Lib.hid (show L ++ (litB c ++ (runL rls c hd ++ Z)) = T by
        have e1 : k + nn = k + 1 + hd := by omega
        rw [← HLe.out, rns_at hkb, hZ, e1, hhd, hrr, hc])
      have HZ := Lib.hid hZ
      have HNN := Lib.hid hnn
      have hnk : k + nn ≤ n := by
        have h1 := headN_le c r
        rw [hrr, List.length_drop] at h1
        have := HN.out
        rw [hnn, hhd, hrr]
        omega
      have hdn : hd ≤ 100000 := by omega
      have HHD := Lib.hid hhd
      obtain ⟨blk, off, rfl, hblk, hcell⟩ := HR.out (by rintro rfl; simp at hkb)
      have HBC := Lib.hid (show ∀ (wx : World) (j : Nat) (y : UInt8), Fr (fun _ => False) w2 wx → b[j]? = some y → wx.cell? ⟨blk, off + j, none⟩ = some (.int .u8 (y.toNat : Int)) from fun wx j y hF hy => (World.cell?_of_block (w := w) (w' := wx) (a := ⟨blk, off + j, none⟩) ((HF2.out.trans hF (fun _ _ e => e)).block blk hblk id)).trans (hcell j y hy))
      have HKC := Lib.hid (show b[k]? = some c by rw [hc]; exact List.getElem?_eq_getElem hkb)
      have hk0 : (0 : Int) ≤ (k : Int) := by omega
      have hkn : (k : Int) < (n : Int) := by omega
      clear hc hrr hhd hkb hblk hcell hnn hZ HLe
      go_upto_block 2 with (fail)
      go_cut [6] (fun s6 wz => s6 = .int .i64 (nn : Int) ∧ Hid (OwL w2 wz u4 L))
      case first =>
        go_wp2_with fail
        go_loopw [6] (fun v6 wx => ∃ m : Nat, 1 ≤ m ∧ k + m ≤ n ∧ v6 = .int .i64 m ∧ Hid ((∀ j, j + 1 < m → r[j]? = some c) ∧ OwL w2 wx u4 L)) (fun v6 _ => n - (intOf v6).toNat)
        case atStart => exact ⟨1, Nat.le_refl _, by omega, rfl, (show _ ∧ _ from ⟨fun j hj => by omega, HRn.out⟩)⟩
        case round =>
          obtain ⟨m, hm1, hmn, rfl, HM⟩ := hrel
          obtain ⟨q, hq⟩ : ∃ q, q = k + m := ⟨_, rfl⟩
          have HQ := Lib.hid hq
          have hw1 : IntKind.i64.wrap ((k : Int) + (m : Int)) = (q : Int) := by rw [IntWalk.i64_in _ (by omega)]; omega
          have hw0 : (0 : Int) ≤ (q : Int) := by omega
          have HJ := Lib.hid (show r[m - 1]? = b[q]? by rw [HRG.out]; congr 1; omega)
          by_cases hin : q < n
          · have hinZ : (q : Int) < (n : Int) := by omega
            obtain ⟨y, hy⟩ : ∃ y, b[q]? = some y := ⟨_, List.getElem?_eq_getElem (by have := HN.out; omega)⟩
            have d1 := HBC.out _ q y HM.out.2.2 hy
            have d0 := HBC.out _ k c HM.out.2.2 HKC.out
            by_cases he : y = c
            · have HNX := Lib.hid (show ∀ j, j + 1 < m + 1 → r[j]? = some c from fun j hj => by
                by_cases e : j + 1 < m
                · exact HM.out.1 j e
                · have e2 : j = m - 1 := by omega
                  rw [e2, HJ.out, hy, he])
              obtain ⟨x, hx⟩ : ∃ x : Nat, x = c.toNat := ⟨_, rfl⟩
              rw [he, ← hx] at d1
              rw [← hx] at d0
              clear hx hy he hq
              go_wp2_with fail
              go_quiet (fail)
              go_wp2
              go_roundw
              case rel => exact ⟨m + 1, by omega, by have := HQ.out; omega, by go_num, (show _ ∧ _ from ⟨HNX.out, HM.out.2.still ((Fr.refl (fun _ => False) _).drewN nq)⟩)⟩
              case measure => simp [intOf]; have := HQ.out; omega
            · have HEX := Lib.hid (show hd + 1 = m by
                have h := headN_is (c := c) (r := r) (m := m - 1) (fun j hj => HM.out.1 j (by omega)) (by rw [HJ.out, hy]; intro e; exact he (Option.some.inj e))
                rw [HHD.out, h]
                omega)
              have hne : ((y.toNat : Int) == (c.toNat : Int)) = false := by
                rw [beq_eq_false_iff_ne]
                intro e
                exact he (UInt8.toNat_inj.1 (by omega))
              obtain ⟨x, hx⟩ : ∃ x : Nat, x = c.toNat := ⟨_, rfl⟩
              obtain ⟨z, hz⟩ : ∃ z : Nat, z = y.toNat := ⟨_, rfl⟩
              rw [← hx] at d0 hne
              rw [← hz] at d1 hne
              clear hx hz hy he hq
              go_wp2_with fail
              go_quiet (fail)
              go_wp2
              go_meet
              exact ⟨by rw [HNN.out, HEX.out], HM.out.2.still ((Fr.refl (fun _ => False) _).drewN nq)⟩
          · have hinZ : ¬ (q : Int) < (n : Int) := by omega
            have HEX := Lib.hid (show hd + 1 = m by
              have h := headN_is (c := c) (r := r) (m := m - 1) (fun j hj => HM.out.1 j (by omega)) (by rw [HJ.out, List.getElem?_eq_none (by have := HN.out; omega)]; simp)
              rw [HHD.out, h]
              omega)
            clear hq
            go_wp2_with fail
            go_quiet (fail)
            go_wp2
            go_meet
            exact ⟨by rw [HNN.out, HEX.out], HM.out.2.still ((Fr.refl (fun _ => False) _).drewN nq)⟩
      obtain ⟨rfl, HR1⟩ := hcut
      obtain ⟨x, hx⟩ : ∃ x : Nat, x = c.toNat := ⟨_, rfl⟩
      have hx8 : x < 288 := by rw [hx]; exact u8_288 c
      have HXC := Lib.hid (show wordB fixI x = litB c by rw [hx]; rfl)
      have HD0 := Lib.hid (show ∀ wx : World, Fr (fun _ => False) w2 wx → wx.cell? ⟨blk, off + k, none⟩ = some (.int .u8 (x : Int)) from fun wx hF => by rw [hx]; exact HBC.out wx k c hF HKC.out)
      clear hx
      have hx0 : (0 : Int) ≤ (x : Int) := by omega
      have hx288 : (x : Int) < 288 := by omega
      have d0 := HD0.out _ HR1.out.2
      obtain ⟨A', c', m, hcell, HA, hm9⟩ := (HFX.out.still HR1.out.2).at2 hx8
      rw [HXC.out] at HA
      have hnw : IntKind.i64.wrap ((nn : Int) - 1) = (hd : Int) := by have := HNN.out; rw [IntWalk.i64_in _ (by omega)]; omega
      go_upto_block 4 with (at_builtin; refine wpList_appI rfl (.tmp 38) (.tmp 45) rfl _ L rfl HR1.out A' m c' _ HA.out.1 rfl HA.out.2 (by omega) ?_; intro v2 wd ho2; have H2 := Lib.hid ho2; clear ho2)
      have HE2 := Lib.hid (show (L ++ litB c) ++ (runL rls c hd ++ Z) = T by rw [List.append_assoc]; exact HLN.out)
      clear hcell hnw hm9 HLN
      go_cut [4, 7] (fun s4 s7 wz => ∃ l : Nat, l ≤ hd ∧ s7 = .int .i64 l ∧ Hid (∃ L', OwL w2 wz s4 L' ∧ L' ++ ((List.replicate l c).flatMap litB ++ Z) = T))
      case first =>
        go_wp2_with fail
        go_loopw [4, 7, 8] (fun v4 v7 _ wx => ∃ l : Nat, l ≤ hd ∧ v7 = .int .i64 l ∧ Hid (∃ L', OwL w2 wx v4 L' ∧ L' ++ (runL rls c l ++ Z) = T)) (fun _ v7 _ _ => (intOf v7).toNat)
        case atStart => exact ⟨hd, Nat.le_refl _, rfl, (show ∃ _, _ from ⟨_, H2.out, HE2.out⟩)⟩
        case round =>
          obtain ⟨l, hlh, rfl, HL2⟩ := hrel
          obtain ⟨L', hO, hE⟩ := HL2.out
          have hLl : L'.length ≤ 900003 := by
            have h1 := pre_len hE
            have := HT.out.2.1
            omega
          have HO := Lib.hid hO
          have HE := Lib.hid hE
          clear hO hE HL2
          by_cases h3 : 3 ≤ l
          · obtain ⟨tk, htk⟩ : ∃ tk, tk = min l 258 := ⟨_, rfl⟩
            have htk3 : 3 ≤ tk := by omega
            have htk2 : tk ≤ 258 := by omega
            have htkl : tk ≤ l := by omega
            obtain ⟨AG, hAG⟩ : ∃ AG, AG = againB rls tk := ⟨_, rfl⟩
            have HAG := Lib.hid (fun wx hf => ragain wx (some ⟨g, 0, none⟩) c2 hi tk hf htk3 htk2)
            have HEN := Lib.hid (show (L' ++ AG) ++ (runL rls c (l - tk) ++ Z) = T by
              rw [← HE.out, runL_step rls c h3, ← htk, hAG, List.append_assoc, List.append_assoc])
            rw [← hAG] at HAG
            obtain ⟨ag, hag⟩ : ∃ ag, ag = AG.length := ⟨_, rfl⟩
            have HAL := Lib.hid hag
            have hagl : L'.length + ag ≤ 900003 := by
              have h1 := pre_len HEN.out
              rw [List.length_append] at h1
              have := HT.out.2.1
              omega
            have h4 : (4 : Int) ≤ (nn : Int) := by have := HNN.out; omega
            have h4n : 4 ≤ nn := by have := HNN.out; omega
            have h3z : (3 : Int) ≤ (l : Int) := by omega
            have hsub : IntKind.i64.wrap ((l : Int) - (tk : Int)) = ((l - tk : Nat) : Int) := by have := HNN.out; rw [IntWalk.i64_in _ (by omega)]; omega
            have hcs : (l < 258 ∧ tk = l) ∨ (l = 258 ∧ tk = 258) ∨ (258 < l ∧ tk = 258) := by omega
            have hlt1 : l - tk < l := by omega
            have hlt2 : l - tk ≤ hd := by omega
            obtain ⟨lt, hlt⟩ : ∃ lt, lt = l - tk := ⟨_, rfl⟩
            rw [← hlt] at hsub HEN hlt1 hlt2
            have HLT := Lib.hid hlt
            clear htk hAG hag hlt htk3 htk2 htkl
            rcases hcs with ⟨q1, rfl⟩ | ⟨rfl, rfl⟩ | ⟨q1, rfl⟩
            · have q2 : (tk : Int) < 258 := by omega
              go_wp2_with (first
                | (go_at_call 46; refine (HAG.out _ (HFX.out.still HO.out.2)).mono ?_; rintro e w3 ⟨A3, c3, rfl, ho3, hF3⟩; have H3 := Lib.hid (⟨HO.out.still hF3, srcI_own ho3⟩ : _ ∧ _); rw [← HAL.out]; clear ho3 hF3)
                | (at_builtin; refine wpList_appI rfl (.tmp 57) (.tmp 60) rfl _ L' rfl H3.out.1 A3 ag c3 AG HAL.out rfl H3.out.2 (by omega) ?_; intro v4 w4 ho4; have H4 := Lib.hid ho4; clear ho4))
              go_roundw
              case rel => exact ⟨lt, hlt2, (by have := HLT.out; first | go_num | (congr 1; omega)), (show ∃ _, _ from ⟨_, H4.out, HEN.out⟩)⟩
              case measure =>
                have := HLT.out
                simp [intOf] <;> omega
            · clear h3
              go_wp2_with (first
                | (go_at_call 46; refine (HAG.out _ (HFX.out.still HO.out.2)).mono ?_; rintro e w3 ⟨A3, c3, rfl, ho3, hF3⟩; have H3 := Lib.hid (⟨HO.out.still hF3, srcI_own ho3⟩ : _ ∧ _); rw [← HAL.out]; clear ho3 hF3)
                | (at_builtin; refine wpList_appI rfl (.tmp 57) (.tmp 60) rfl _ L' rfl H3.out.1 A3 ag c3 AG HAL.out rfl H3.out.2 (by omega) ?_; intro v4 w4 ho4; have H4 := Lib.hid ho4; clear ho4))
              go_roundw
              case rel => exact ⟨lt, hlt2, (by have := HLT.out; first | go_num | (congr 1; omega)), (show ∃ _, _ from ⟨_, H4.out, HEN.out⟩)⟩
              case measure =>
                have := HLT.out
                simp [intOf] <;> omega
            · have q2 : ¬ (l : Int) < 258 := by omega
              have q3 : (258 : Int) < (l : Int) := by omega
              go_wp2_with (first
                | (go_at_call 46; refine (HAG.out _ (HFX.out.still HO.out.2)).mono ?_; rintro e w3 ⟨A3, c3, rfl, ho3, hF3⟩; have H3 := Lib.hid (⟨HO.out.still hF3, srcI_own ho3⟩ : _ ∧ _); rw [← HAL.out]; clear ho3 hF3)
                | (at_builtin; refine wpList_appI rfl (.tmp 57) (.tmp 60) rfl _ L' rfl H3.out.1 A3 ag c3 AG HAL.out rfl H3.out.2 (by omega) ?_; intro v4 w4 ho4; have H4 := Lib.hid ho4; clear ho4))
              go_roundw
              case rel => exact ⟨lt, hlt2, (by have := HLT.out; first | go_num | (congr 1; omega)), (show ∃ _, _ from ⟨_, H4.out, HEN.out⟩)⟩
              case measure =>
                have := HLT.out
                simp [intOf] <;> omega
          · have h3z : ¬ (3 : Int) ≤ (l : Int) := by omega
            have HEN := Lib.hid (show L' ++ ((List.replicate l c).flatMap litB ++ Z) = T by rw [← runL_end rls c h3]; exact HE.out)
            by_cases h4 : (4 : Int) ≤ (nn : Int)
            · have h4n : 4 ≤ nn := by omega
              go_wp2_with fail
              go_meet
              exact ⟨l, hlh, rfl, (show ∃ _, _ from ⟨_, HO.out, HEN.out⟩)⟩
            · have h4n : ¬ 4 ≤ nn := by omega
              go_wp2_with fail
              go_meet
              exact ⟨l, hlh, rfl, (show ∃ _, _ from ⟨_, HO.out, HEN.out⟩)⟩
      obtain ⟨l, hlh, rfl, HL3⟩ := hcut
      obtain ⟨L3, hO, hE⟩ := HL3.out
      have HR3 := Lib.hid hO
      have HE3 := Lib.hid hE
      clear hO hE HL3 HE2 H2
      go_upto_block 6 with (fail)
      go_cut [4] (fun s4 wz => Hid (∃ L', OwL w2 wz s4 L' ∧ L' ++ Z = T))
      case first =>
        go_wp2_with fail
        go_loopw [4, 9] (fun v4 v9 wx => ∃ j : Nat, j ≤ l ∧ v9 = .int .i64 j ∧ Hid (∃ L', OwL w2 wx v4 L' ∧ L' ++ ((List.replicate (l - j) c).flatMap litB ++ Z) = T)) (fun _ v9 _ => l - (intOf v9).toNat)
        case atStart => exact ⟨0, Nat.zero_le _, rfl, (show ∃ _, _ from ⟨_, HR3.out, HE3.out⟩)⟩
        case round =>
          obtain ⟨j, hjl, rfl, HL4⟩ := hrel
          obtain ⟨L', hO, hE⟩ := HL4.out
          have HO := Lib.hid hO
          have HE := Lib.hid hE
          clear hO hE HL4
          by_cases hlt : j < l
          · have hjz : (j : Int) < (l : Int) := by omega
            have HEN := Lib.hid (show (L' ++ litB c) ++ ((List.replicate (l - (j + 1)) c).flatMap litB ++ Z) = T by
              have e1 : l - j = l - (j + 1) + 1 := by omega
              rw [← HE.out, e1, List.replicate_succ, List.flatMap_cons, List.append_assoc, List.append_assoc])
            obtain ⟨A5, c5, m5, hcell, HA, hm9⟩ := (HFX.out.still HO.out.2).at2 hx8
            rw [HXC.out] at HA
            have d0 := HD0.out _ HO.out.2
            have hLl : L'.length + m5 ≤ 900003 := by
              have h1 := pre_len HEN.out
              rw [List.length_append] at h1
              have := HT.out.2.1
              have := HA.out.1
              omega
            go_wp2_with (at_builtin; refine wpList_appI rfl (.tmp 70) (.tmp 77) rfl _ L' rfl HO.out A5 m5 c5 _ HA.out.1 rfl HA.out.2 (by omega) ?_; intro v4 w4 ho4; have H4 := Lib.hid ho4; clear ho4)
            go_roundw
            case rel => exact ⟨j + 1, by omega, by go_num, (show ∃ _, _ from ⟨_, H4.out, HEN.out⟩)⟩
            case measure => simp [intOf]; omega
          · have hjz : ¬ (j : Int) < (l : Int) := by omega
            have HEN := Lib.hid (show L' ++ Z = T by
              have e1 : l - j = 0 := by omega
              rw [← HE.out, e1]; rfl)
            go_wp2_with fail
            go_meet
            exact (show ∃ _, _ from ⟨_, HO.out, HEN.out⟩)
      have HL5 := Lib.hid hcut
      clear hcut
      obtain ⟨L5, hO, hE⟩ := HL5.out.out
      have HR5 := Lib.hid hO
      have HE5 := Lib.hid hE
      clear hO hE HL5 HE3 HR3
      obtain ⟨kn, hkn'⟩ : ∃ kn, kn = k + nn := ⟨_, rfl⟩
      have hknw : IntKind.i64.wrap ((k : Int) + (nn : Int)) = (kn : Int) := by rw [IntWalk.i64_in _ (by omega)]; omega
      rw [← hkn'] at HZ hnk
      have HKN := Lib.hid hkn'
      clear hkn'
      go_wp2_with fail
      go_roundw
      case rel => exact ⟨kn, hnk, by go_num, (show ∃ _, _ from ⟨_, HR5.out, by rw [← HZ.out]; exact HE5.out⟩)⟩
      case measure =>
        have := HKN.out
        have := HNN.out
        simp [intOf]
        omega
    · have hkn : ¬ (k : Int) < (n : Int) := by omega
      obtain rfl : k = n := by omega
      have HEN := Lib.hid (show L = T by
        rw [← HLe.out, HN.out, List.drop_length, rnsL_nil, List.append_nil])
      obtain ⟨A', c', m, hcell, HA, hm9⟩ := (HFX.out.still HRn.out.2).at2 (s := 256) (by decide)
      obtain ⟨TE, hTE⟩ : ∃ TE, TE = T ++ endB := ⟨_, rfl⟩
      obtain ⟨lte, hlte⟩ : ∃ lte, lte = TE.length := ⟨_, rfl⟩
      have HTE := Lib.hid (show L ++ wordB fixI 256 = TE by rw [hTE, HEN.out]; rfl)
      have HTN := Lib.hid hlte
      have HTB := Lib.hid (show AllBit TE by rw [hTE]; exact AllBit.append HT.out.2.2 (wordB_bits _ _))
      have hltn : lte ≤ 1000000 := by
        rw [hlte, hTE, runs_i]
        have := HT.out.2.1
        omega
      have HTQ := Lib.hid hTE
      clear hTE hlte
      go_wp2_with (first
        | (at_builtin; refine wpList_appI rfl (.tmp 82) (.tmp 85) rfl _ L rfl HRn.out A' m c' _ HA.out.1 rfl HA.out.2 (by omega) ?_; intro v4 w4 ho4; rw [HTE.out] at ho4; obtain ⟨A6, c6, rfl, ho6⟩ := OwnI.shape rfl rfl ho4.1; have H6 := Lib.hid (⟨ho6, ho4.2⟩ : _ ∧ _); rw [← HTN.out]; clear ho4 ho6)
        | (go_at_call 47; have HPK := Lib.hid (rpack _ A6 c6 TE (OwnI.rd H6.out.1 (bit_i64 HTB.out)) (by have := HTN.out; omega) HTB.out); rw [← HTN.out] at HPK; refine HPK.out.mono ?_; rintro e w7 ⟨A7, c7, rfl, ho7, hF7⟩; have H7 := Lib.hid (⟨ho7, hF7⟩ : _ ∧ _); clear ho7 hF7 HPK))
      go_ret
      have h7 := H7.out
      rw [HTQ.out] at h7
      refine ⟨A7, c7, by rw [← HTQ.out]; rfl, own_low h7.1 (Nat.le_trans HF2.out.size H6.out.2.size), ?_⟩
      exact (HF2.out.trans H6.out.2 (fun _ _ e => e)).trans h7.2 (fun _ _ e => e)
end Go.Proofs.YtcdhakfmljjaoaaGreatDoor.ft
