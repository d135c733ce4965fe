/-
  GzipSums over what is asked of the program's frames.
-/
import Derived.Test.YtcdhakfmljjaoaaGreatDoorGzW
namespace Go.Proofs.YtcdhakfmljjaoaaGreatDoor.gz
set_option maxRecDepth 100000
open Go.RowKit Go.Maps Go.Proofs.YtcdhakfmljjaoaaGreatDoor.fl Go.Proofs.YtcdhakfmljjaoaaGreatDoor.cd Go.Proofs.YtcdhakfmljjaoaaGreatDoor.ft
set_option maxRecDepth 100000

theorem quad_get {b : By} {p j : Nat} {y : UInt8} (hj : j < 4) (h : b[p + j]? = some y) : y.toNat = num ((b.drop p).take 4) / 256 ^ j % 256 := by
  refine num_get _ j y ?_
  rw [List.getElem?_take, if_pos hj, List.getElem?_drop]
  exact h
theorem quad_lt (b : By) (p : Nat) : num ((b.drop p).take 4) < 4294967296 := by
  have h := num_lt ((b.drop p).take 4)
  have h2 : ((b.drop p).take 4).length ≤ 4 := by rw [List.length_take]; omega
  have h3 : 256 ^ ((b.drop p).take 4).length ≤ 256 ^ 4 := Nat.pow_le_pow_right (by omega) h2
  have h4 : (256 : Nat) ^ 4 = 4294967296 := by decide
  omega
theorem wrap8v (x : Int) : IntKind.u8.wrap x = x % 256 := IntKind.wrap_u8 x
theorem pow_next (N j : Nat) : N / 256 ^ (j + 1) = N / 256 ^ j / 256 := by rw [Nat.pow_succ, Nat.div_div_eq_div_mul]

section
variable {D : World → Prop} {sum : By → Nat} {ls : Nat → Nat}
set_option maxHeartbeats 400000 in
theorem gsums_walk (HP : GzipP D sum ls) (w : World) (hD : D w) (A : Option Addr) (cap : Nat) (b : By) (hr : Rd w w.heap.size A b) (hA : A = none → cap = 0) (hc : b.length ≤ cap) (hb : b.length ≤ 140737488351232) :
    Calls Tryz.prog 7 #[.slice A b.length cap] w fun e w' => e = .returned (.bool true) ∧ Fr (fun _ => False) w w' := by
  have HPP := Lib.hid HP
  have HDD := Lib.hid (fun (wx : World) (h : Fr (fun _ => False) w wx) => HP.d_keep hD h)
  have HCUT : Hid (3000 < b.length → Rd w w.heap.size A (b.take 3000) ∧ 3000 = (b.take 3000).length) := Lib.hid fun h => ⟨hr.take 3000, by rw [List.length_take]; omega⟩
  obtain ⟨m, hm⟩ : ∃ n, n = b.length := ⟨_, rfl⟩
  have HI := Lib.hid (⟨hr, hm, hA⟩ : _ ∧ _ ∧ _)
  have hcn : m ≤ cap := by rw [hm]; exact hc
  have hbn : m ≤ 140737488351232 := by rw [hm]; exact hb
  have HW := Lib.hid (works_any HP w hD)
  rw [← hm]
  clear HP hD hr hA hc hb hm
  go_enter Tryz.func7, Tryz.ntmps7
  go_wp2_with fail
  refine HW.out.mono ?_
  rintro e w1 ⟨rfl, hF1⟩
  have HF1 := Lib.hid hF1
  clear hF1 HW
  go_upto_if 14 with (fail)
  go_cut [0] (fun s0 wz => ∃ (bb : By) (nb : Nat), s0 = .slice A nb cap ∧ w1 = wz ∧ nb ≤ cap ∧ nb ≤ 3000 ∧ Hid (Rd w w.heap.size A bb ∧ nb = bb.length))
  case first =>
    by_cases hbig : (3000 : Int) < m
    · have hkc : 3000 ≤ cap := by omega
      have HZ := Lib.hid (HCUT.out (by rw [← HI.out.2.1]; omega))
      go_wp2_with fail
      go_meet
      exact ⟨b.take 3000, 3000, rfl, rfl, hkc, Nat.le_refl _, HZ⟩
    · have h3 : m ≤ 3000 := by omega
      go_wp2_with fail
      go_meet
      exact ⟨b, m, rfl, rfl, hcn, h3, (show _ ∧ _ from ⟨HI.out.1, HI.out.2.1⟩)⟩
  obtain ⟨bb, nb, rfl, rfl, hnc, hn3, HBB⟩ := hcut
  clear hcn hbn HCUT
  have hop := HPP.out.opn w1 A cap bb 20000 ((HBB.out.1.still HF1.out (Nat.le_refl _)).more HF1.out.size) HI.out.2.2 (by rw [← HBB.out.2]; exact hnc) (by rw [← HBB.out.2]; omega) (by omega) (HDD.out _ HF1.out)
  obtain ⟨X, hX⟩ : ∃ X, X = (openV sum bb 20000).1 := ⟨_, rfl⟩
  obtain ⟨E, hE⟩ : ∃ E, E = (openV sum bb 20000).2 := ⟨_, rfl⟩
  obtain ⟨lx, hlx⟩ : ∃ lx, lx = X.length := ⟨_, rfl⟩
  rw [← hX, ← hE, ← hlx, ← HBB.out.2] at hop
  have HOP := Lib.hid hop
  clear hop
  by_cases h0 : E = 0
  · obtain ⟨k1, k2, k3, k4⟩ := open_ok (sum := sum) (b := bb) (most := 20000) (by omega) (by rw [hE] at h0; exact h0)
    obtain ⟨p, hp⟩ : ∃ p, p = nb - 8 := ⟨_, rfl⟩
    have hp8 : nb = p + 8 := by rw [HBB.out.2] at hp ⊢; omega
    have hp10 : 10 ≤ p := by rw [HBB.out.2] at hp; omega
    have hS : num ((bb.drop p).take 4) = sum X := by rw [hp, HBB.out.2, hX]; exact k2
    have hN : num ((bb.drop (p + 4)).take 4) = lx := by
      rw [show p + 4 = bb.length - 4 by rw [← HBB.out.2]; omega, hlx, hX]
      exact k3
    have hlx2 : lx ≤ 20000 := by rw [hlx, hX]; exact k4
    obtain ⟨S, hSS⟩ : ∃ S, S = sum X := ⟨_, rfl⟩
    have hS4 : S < 4294967296 := by rw [hSS, ← hS]; exact quad_lt _ _
    have HB1 := Lib.hid (show ∀ j y, j < 4 → bb[p + j]? = some y → y.toNat = S / 256 ^ j % 256 from fun j y hj h => by rw [hSS, ← hS]; exact quad_get hj h)
    have HB2 := Lib.hid (show ∀ j y, j < 4 → bb[p + 4 + j]? = some y → y.toNat = lx / 256 ^ j % 256 from fun j y hj h => by rw [← hN]; exact quad_get hj h)
    have HX := Lib.hid (⟨hlx, hSS⟩ : _ ∧ _)
    have hne : bb ≠ [] := by
      rintro rfl
      have := HBB.out.2
      simp at this
      omega
    obtain ⟨blk, off, rfl, hblk, hcell⟩ := HBB.out.1 hne
    have HC := Lib.hid (show ∀ (wx : World) (j : Nat) (y : UInt8), Fr (fun _ => False) w wx → bb[j]? = some y → wx.cell? ⟨blk, off + j, none⟩ = some (.int .u8 (y.toNat : Int)) from fun wx j y hF hy => (World.cell?_of_block (w := w) (w' := wx) (a := ⟨blk, off + j, none⟩) (hF.block blk hblk id)).trans (hcell j y hy))
    have hw8 : IntKind.i64.wrap ((nb : Int) - 8) = (p : Int) := by rw [IntWalk.i64_in _ (by omega)]; omega
    have hpc : p < cap := by omega
    have hp0 : (0 : Int) ≤ (p : Int) := by omega
    have hpn : (p : Int) ≤ (nb : Int) := by omega
    have h18 : ¬ (nb : Int) < 18 := by omega
    rw [h0] at HOP
    have HP8 := Lib.hid hp8
    clear k1 k2 k3 k4 hS hN hSS hX hE hlx hne hblk hcell h0 hp hp8
    go_wp2_with fail
    refine HOP.out.mono ?_
    rintro e w2 ⟨A3, c3, rfl, hR2, hF2⟩
    have hF02 := HF1.out.trans hF2 (fun _ _ e => e)
    have hcr := HPP.out.crc w2 A3 c3 X hR2 (by rw [← HX.out.1]; omega) (HDD.out _ hF02)
    rw [← HX.out.1, ← HX.out.2] at hcr
    have HCR := Lib.hid hcr
    have HF2 := Lib.hid hF02
    clear hcr hR2 hF2 hF02 HOP
    go_wp2_with fail
    refine HCR.out.mono ?_
    rintro e w3 ⟨rfl, hF3⟩
    have HF3 := Lib.hid (HF2.out.trans hF3 (fun _ _ e => e))
    clear hF3
    have hnp : nb - p = 8 := by have := HP8.out; omega
    have HG := Lib.hid (show ∀ j, j < 8 → ∃ y, bb[p + j]? = some y from fun j hj => ⟨_, List.getElem?_eq_getElem (by have := HP8.out; have := HBB.out.2; omega)⟩)
    go_wp2_with fail
    go_loopw [5, 7] (fun s5 i wr => ∃ j q : Nat, j ≤ 4 ∧ q < 4294967296 ∧ i = .int .i64 j ∧ s5 = .int .u32 q ∧ Hid (q = S / 256 ^ j ∧ Fr (fun _ => False) w wr)) (fun _ i _ => 4 - (intOf i).toNat)
    case atStart => exact ⟨0, S, by omega, hS4, rfl, rfl, (show _ ∧ _ from ⟨by rw [Nat.pow_zero, Nat.div_one], HF3.out⟩)⟩
    case round =>
      obtain ⟨j, q, hj, hq4, rfl, rfl, HQ⟩ := hrel
      by_cases hlt : j < 4
      · obtain ⟨y, hy⟩ := HG.out j (by omega)
        have hc := HC.out _ (p + j) y HQ.out.2 hy
        have hyq := HB1.out j y hlt hy
        rw [← HQ.out.1] at hyq
        rw [hyq, ← Nat.add_assoc] at hc
        obtain ⟨v, hv⟩ : ∃ v, v = q % 256 := ⟨_, rfl⟩
        rw [← hv] at hc
        obtain ⟨q2, hq2⟩ : ∃ q2, q2 = q / 256 := ⟨_, rfl⟩
        have HQ2 := Lib.hid (show q2 = S / 256 ^ (j + 1) by rw [pow_next, ← HQ.out.1, hq2])
        have e1 : (q : Int) % 256 = (v : Int) := by omega
        have e2 : (q : Int).tmod 256 = (v : Int) := by rw [Int.tmod_eq_emod_of_nonneg (by omega)]; exact e1
        have e3 : (q : Int) / 256 = (q2 : Int) := by omega
        have e4 : (q : Int).tdiv 256 = (q2 : Int) := by rw [Int.tdiv_eq_ediv_of_nonneg (by omega)]; exact e3
        have hv8 : v < 256 := by omega
        have e5 : IntKind.u8.wrap (v : Int) = (v : Int) := by rw [wrap8v]; omega
        have hq24 : q2 < 4294967296 := by omega
        have hj8 : (j : Int) < 8 := by omega
        have hj4 : (j : Int) < 4 := by omega
        have hj0 : (0 : Int) ≤ (j : Int) := by omega
        clear hy hyq hv hq2
        go_wp2_with fail
        go_roundw
        case rel => exact ⟨j + 1, q2, by omega, hq24, by go_num, by go_num, (show _ ∧ _ from ⟨HQ2.out, HQ.out.2⟩)⟩
        case measure => simp [intOf]; omega
      · have hj4 : ¬ (j : Int) < 4 := by omega
        have HFL := Lib.hid HQ.out.2
        clear HQ
        go_wp2_with fail
        go_loopw [8, 9] (fun s8 i wr => ∃ j q : Nat, j ≤ 4 ∧ q ≤ 20000 ∧ i = .int .i64 ((4 + j : Nat) : Int) ∧ s8 = .int .i64 q ∧ Hid (q = lx / 256 ^ j ∧ Fr (fun _ => False) w wr)) (fun _ i _ => 8 - (intOf i).toNat)
        case atStart => exact ⟨0, lx, by omega, hlx2, rfl, rfl, (show _ ∧ _ from ⟨by rw [Nat.pow_zero, Nat.div_one], HFL.out⟩)⟩
        case round =>
          obtain ⟨k, q3, hk, hq3, rfl, rfl, HQ⟩ := hrel
          obtain ⟨kk, hkk⟩ : ∃ kk, kk = 4 + k := ⟨_, rfl⟩
          rw [← hkk]
          have HKK := Lib.hid hkk
          by_cases hlt : k < 4
          · obtain ⟨y, hy⟩ := HG.out kk (by omega)
            have hc := HC.out _ (p + kk) y HQ.out.2 hy
            have hyq := HB2.out k y hlt (by rw [← hy, hkk]; congr 1; omega)
            rw [← HQ.out.1] at hyq
            rw [hyq, ← Nat.add_assoc] at hc
            obtain ⟨v, hv⟩ : ∃ v, v = q3 % 256 := ⟨_, rfl⟩
            rw [← hv] at hc
            obtain ⟨q2, hq2⟩ : ∃ q2, q2 = q3 / 256 := ⟨_, rfl⟩
            have HQ2 := Lib.hid (show q2 = lx / 256 ^ (k + 1) by rw [pow_next, ← HQ.out.1, hq2])
            have e1 : (q3 : Int) % 256 = (v : Int) := by omega
            have e2 : (q3 : Int).tmod 256 = (v : Int) := by rw [Int.tmod_eq_emod_of_nonneg (by omega)]; exact e1
            have e3 : (q3 : Int) / 256 = (q2 : Int) := by omega
            have e4 : (q3 : Int).tdiv 256 = (q2 : Int) := by rw [Int.tdiv_eq_ediv_of_nonneg (by omega)]; exact e3
            have hv8 : v < 256 := by omega
            have e5 : IntKind.u8.wrap (v : Int) = (v : Int) := by rw [wrap8v]; omega
            have hq24 : q2 ≤ 20000 := by omega
            have hj8 : (kk : Int) < 8 := by omega
            have hj0 : (0 : Int) ≤ (kk : Int) := by omega
            clear hy hyq hv hq2 hkk
            go_wp2_with fail
            go_roundw
            case rel => exact ⟨k + 1, q2, by omega, hq24, (by have := HKK.out; first | go_num | (congr 1; omega)), by go_num, (show _ ∧ _ from ⟨HQ2.out, HQ.out.2⟩)⟩
            case measure =>
              have := HKK.out
              simp [intOf] <;> omega
          · have hj8 : ¬ (kk : Int) < 8 := by omega
            have h0 : q3 = 0 := by
              have e : k = 4 := by omega
              rw [HQ.out.1, e]
              exact Nat.div_eq_of_lt (by have h4 : (256 : Nat) ^ 4 = 4294967296 := by decide
                                         omega)
            subst h0
            have HFE := Lib.hid HQ.out.2
            clear HQ hkk
            go_wp2_with fail
            go_ret
            exact ⟨rfl, HFE.out⟩
  · have hX0 : X = [] := by rw [hX]; exact open_no (by rw [← hE]; exact h0)
    have hl0 : lx = 0 := by rw [hlx, hX0]; rfl
    subst hl0
    have hE0 : (E != 0) = true := bne_iff_ne.2 h0
    have hE1 : (E == 0) = false := beq_eq_false_iff_ne.2 h0
    clear hX hE hlx hX0
    go_wp2_with fail
    refine HOP.out.mono ?_
    rintro e w2 ⟨A3, c3, rfl, hR2, hF2⟩
    have HF2 := Lib.hid (HF1.out.trans hF2 (fun _ _ e => e))
    clear hR2 hF2
    go_wp2_with fail
    go_ret
    exact ⟨rfl, HF2.out⟩
end
end Go.Proofs.YtcdhakfmljjaoaaGreatDoor.gz
