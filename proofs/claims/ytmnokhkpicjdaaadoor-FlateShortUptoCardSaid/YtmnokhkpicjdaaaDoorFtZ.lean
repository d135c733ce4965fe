/-
  FlateShort over what is asked of the program's streams.
-/
import Derived.Test.YtmnokhkpicjdaaaDoorFtY
namespace Go.Proofs.YtmnokhkpicjdaaaDoor.ft
set_option maxRecDepth 100000
open Go.RowKit Go.Maps Go.Proofs.YtmnokhkpicjdaaaDoor.fl Go.Proofs.YtmnokhkpicjdaaaDoor.cd
set_option maxRecDepth 100000

section
variable {D : World → Prop} {ls : Nat → Nat}
set_option maxHeartbeats 400000 in
theorem short_walk (HP : FlateP D ls) (w : World) (hD : D w) (A : Option Addr) (cap : Nat) (b : By) (z1 z2 : Int) (A2 : Option Addr) (cap2 : Nat) (mo : By) (hr : Rd w w.heap.size A b) (hA : A = none → cap = 0) (hc : b.length ≤ cap) (hl : cap ≤ 1048576) (hr2 : Rd w w.heap.size A2 mo) (hA2 : A2 = none → cap2 = 0) (hc2 : mo.length ≤ cap2) (hl2 : cap2 ≤ 1048576) :
    Calls Tryd.prog 4 #[.slice A b.length cap, .int .i64 z1, .int .i64 z2, .slice A2 mo.length cap2] w fun e w' => e = .returned (.bool true) ∧ Fr (fun _ => False) w w' := by
  have HPP := Lib.hid HP
  have HDD := Lib.hid (fun (wx : World) (h : Fr (fun _ => False) w wx) => HP.d_keep hD h)
  have HW := Lib.hid (works_any HP w hD)
  have HCUT : Hid (3000 < b.length → Rd w w.heap.size A (b.take 3000) ∧ 3000 = (b.take 3000).length) := Lib.hid fun h => ⟨hr.take 3000, by rw [List.length_take]; omega⟩
  obtain ⟨m, hm⟩ : ∃ n, n = b.length := ⟨_, rfl⟩
  have HI := Lib.hid (⟨hr, hm, hA⟩ : _ ∧ _ ∧ _)
  have hcn : m ≤ cap := by rw [hm]; exact hc
  obtain ⟨nm, hnm⟩ : ∃ n, n = mo.length := ⟨_, rfl⟩
  have hnm2 : nm ≤ 1048576 := by rw [hnm]; omega
  rw [← hm, ← hnm]
  obtain ⟨i0, hi, hz0, hz1, hz2⟩ := info_parts infoB
  have HII := Lib.hid (⟨hi, hz0, hz1, hz2⟩ : _ ∧ _ ∧ _ ∧ _)
  clear HP hD hr hA hc hm hi hz0 hz1 hz2
  cases A2 with
  | none =>
    have HM := Lib.hid (⟨hr2, hnm⟩ : Rd w w.heap.size none mo ∧ nm = mo.length)
    have HMO : Hid (mo = []) := Lib.hid (by
      apply Decidable.byContradiction
      intro hne
      obtain ⟨_, _, e, _⟩ := hr2 hne
      cases e)
    obtain rfl : cap2 = 0 := hA2 rfl
    obtain rfl : nm = 0 := by rw [hnm, HMO.out]; rfl
    clear hr2 hA2 hc2 hnm
    go_enter Tryd.func4, Tryd.ntmps4
    go_wp2_with fail
    refine HW.out.mono ?_
    rintro e w1 ⟨rfl, hF1⟩
    have HF1 := Lib.hid hF1
    clear hF1 HW
    go_upto_if 22 with (fail)
    go_cut [0] (fun s0 wz => ∃ (bb : By) (nb : Nat), s0 = .slice A nb cap ∧ w1 = wz ∧ nb ≤ cap ∧ nb ≤ 3000 ∧ Hid (Rd w w.heap.size A bb ∧ nb = bb.length))
    case first =>
      by_cases hbig : (3000 : Int) < m
      · have hkc : 3000 ≤ cap := by omega
        have HZ := Lib.hid (HCUT.out (by rw [← HI.out.2.1]; omega))
        go_wp2_with fail
        go_meet
        exact ⟨b.take 3000, 3000, rfl, rfl, hkc, Nat.le_refl _, HZ⟩
      · have h3 : m ≤ 3000 := by omega
        go_wp2_with fail
        go_meet
        exact ⟨b, m, rfl, rfl, hcn, h3, (show _ ∧ _ from ⟨HI.out.1, HI.out.2.1⟩)⟩
    obtain ⟨bb, nb, rfl, rfl, hnc, hn3, HBB⟩ := hcut
    clear hcn HCUT
    have HA1 := Lib.hid (fun w0 : World => among_nat w0 z1 5000 (by omega) (by omega))
    go_wp2_with fail
    refine (HA1.out w1).mono ?_
    rintro e w' ⟨k1, hk1, rfl, rfl⟩
    have HN1 := Lib.hid (HPP.out.inflate w1 A cap bb (k1 : Int) ((HBB.out.1.still HF1.out (Nat.le_refl _)).more HF1.out.size) HI.out.2.2 (by rw [← HBB.out.2]; exact hnc) (by rw [← HBB.out.2]; omega) (by omega) (HDD.out _ HF1.out))
    obtain ⟨v, hv⟩ : ∃ v, v = inflV bb (k1 : Int) := ⟨_, rfl⟩
    obtain ⟨x, hx⟩ : ∃ x, x = v.1 := ⟨_, rfl⟩
    obtain ⟨n, hn⟩ : ∃ x, x = v.2.1 := ⟨_, rfl⟩
    obtain ⟨z, hz⟩ : ∃ x, x = v.2.2 := ⟨_, rfl⟩
    rw [← hv, ← HBB.out.2, ← hx, ← hn, ← hz] at HN1
    by_cases hz0 : z = 0
    · have hsh := short_ok (b := bb) (most := k1) (by omega) (by rw [← hv, ← hz]; exact hz0)
      rw [← hv, ← hx, ← hn, ← HBB.out.2] at hsh
      obtain ⟨s1, s2, s3, s4, s5⟩ := hsh
      obtain ⟨lx, hlx⟩ : ∃ lx, lx = x.length := ⟨_, rfl⟩
      rw [← hlx] at HN1 s3
      subst hz0
      have HV := Lib.hid (⟨s4, s5, hx, hn, hz, hlx⟩ : (∀ more, inflV (bb.take n ++ more) (k1 : Int) = v) ∧ (∀ k, k < n → inflV (bb.take k) (k1 : Int) = ([], 0, 7)) ∧ x = v.1 ∧ n = v.2.1 ∧ 0 = v.2.2 ∧ lx = x.length)
      have hncap : n ≤ cap := by omega
      have hTL : ∀ k, k ≤ nb → (bb.take k).length = k := fun k hk => by rw [List.length_take, ← HBB.out.2]; omega
      have HTL := Lib.hid hTL
      clear hv hx hn hz hlx s4 s5 hTL HA1
      go_wp2_with fail
      refine HN1.out.mono ?_
      rintro e w2 ⟨A1, c1, rfl, hR1, hF2⟩
      have H2 := Lib.hid (⟨hR1, HF1.out.trans hF2 (fun _ _ e => e)⟩ : Rd w2 w2.heap.size A1 x ∧ Fr (fun _ => False) w w2)
      have HBY := Lib.hid (bytes_any w2 A cap (bb.take n) (((HBB.out.1.take n).still H2.out.2 (Nat.le_refl _)).more H2.out.2.size) HI.out.2.2 (by rw [HTL.out n s2]; omega))
      unfold NewB at HBY
      rw [HTL.out n s2] at HBY
      clear hR1 hF2 HN1
      go_wp2_with fail
      refine HBY.out.mono ?_
      rintro e w5 ⟨Ao, co, rfl, ho, hF5⟩
      have HO5 := Lib.hid (⟨by have h := ho; unfold Own at h; rwa [HTL.out n s2] at h, hF5⟩ : w5.ownsRow w2.heap.size 5 1 (.slice Ao n co) n (bs (bb.take n)) ∧ Fr (fun _ => False) w2 w5)
      clear ho hF5 HBY
      go_wp2_with (at_builtin; refine wpList_append_own_none rfl (.tmp 47) (.tmp 48) 22 rfl w2.heap.size 5 i0 1 Tryd.underlying22 HII.out.1 _ n (bs (bb.take n)) rfl HO5.out.1 rfl ?_)
      obtain ⟨p9, c9, e9, ho9⟩ := own_shapeB (l := bb.take n ++ mo) (by rw [HMO.out, List.append_nil]; exact (HTL.out n s2).symm) (by rw [HMO.out, List.append_nil]) HO5.out.1
      cases e9
      have HF9 := Lib.hid HO5.out.2
      have HIN : Hid (Calls Tryd.prog 12 #[.slice Ao (n) co, .int .i64 (k1 : Int)] w5 fun e w' => ∃ A' cap', e = .returned (.tuple #[.slice A' lx cap', .int .i64 (n : Int), .int .i64 0]) ∧ Rd w' w'.heap.size A' x ∧ Fr (fun _ => False) w5 w') := Lib.hid (by
        have h := HPP.out.inflate w5 Ao co (bb.take n ++ mo) (k1 : Int) (Own.rd ho9) (own_cap2 ho9).1 (own_cap2 ho9).2 (by rw [List.length_append, HTL.out n s2, ← HM.out.2]; omega) (by omega) (HDD.out _ (H2.out.2.trans HF9.out (fun _ _ e => e)))
        rw [HV.out.1 mo, HMO.out, List.append_nil, HTL.out n s2, ← HV.out.2.2.1, ← HV.out.2.2.2.1, ← HV.out.2.2.2.2.1, ← HV.out.2.2.2.2.2] at h
        exact h)
      clear ho9
      go_wp2_with fail
      refine HIN.out.mono ?_
      rintro e w10 ⟨Ay, cy, rfl, hRy, hF10⟩
      have hFw := HF9.out.trans hF10 (fun _ _ e => e)
      have HSM := Lib.hid (same_any w10 A1 Ay w10.heap.size w10.heap.size c1 cy x x ((H2.out.1.still hFw (Nat.le_refl _)).more hFw.size) hRy (by rw [← HV.out.2.2.2.2.2]; omega))
      rw [decide_eq_true rfl, ← HV.out.2.2.2.2.2] at HSM
      have HFW := Lib.hid (H2.out.2.trans hFw (fun _ _ e => e))
      clear hRy hF10 hFw HIN
      go_wp2_with fail
      refine HSM.out.mono ?_
      rintro e w11 ⟨rfl, hC⟩
      have HF11 := Lib.hid (HFW.out.trans hC.fr (fun _ _ e => e))
      have HA2 := Lib.hid (fun w0 : World => among_nat w0 z2 n s1 (by omega))
      clear hC HSM
      go_wp2_with fail
      refine (HA2.out w11).mono ?_
      rintro e w' ⟨k2, hk2, rfl, rfl⟩
      have hkcap : k2 ≤ cap := by omega
      have HIL : Hid (Calls Tryd.prog 12 #[.slice A k2 cap, .int .i64 (k1 : Int)] w11 fun e w' => ∃ A' cap', e = .returned (.tuple #[.slice A' 0 cap', .int .i64 0, .int .i64 7]) ∧ Fr (fun _ => False) w11 w') := Lib.hid (by
        have h := HPP.out.inflate w11 A cap (bb.take k2) (k1 : Int) (((HBB.out.1.take k2).still HF11.out (Nat.le_refl _)).more HF11.out.size) HI.out.2.2 (by rw [HTL.out k2 (by omega)]; exact hkcap) (by rw [HTL.out k2 (by omega)]; omega) (by omega) (HDD.out _ HF11.out)
        rw [HV.out.2.1 k2 hk2, HTL.out k2 (by omega)] at h
        exact h.mono fun e w' ⟨A', c', he, _, hF⟩ => ⟨A', c', he, hF⟩)
      clear HA2
      go_wp2_with fail
      refine HIL.out.mono ?_
      rintro e w12 ⟨Az, cz, rfl, hF12⟩
      have HF12 := Lib.hid (HF11.out.trans hF12 (fun _ _ e => e))
      clear hF12
      go_wp2_with fail
      go_ret
      exact ⟨rfl, HF12.out⟩
    · have hno := short_no (b := bb) (most := k1) (by omega) (by rw [← hv, ← hz]; exact hz0)
      rw [← hv, ← hx, ← hn] at hno
      obtain ⟨rfl, rfl⟩ := hno
      have hne : (z != 0) = true := by rw [bne_iff_ne]; exact hz0
      have HN2 : Hid (Calls Tryd.prog 12 #[.slice A nb cap, .int .i64 (k1 : Int)] w1 fun e w' => ∃ A' cap', e = .returned (.tuple #[.slice A' 0 cap', .int .i64 0, .int .i64 z]) ∧ Fr (fun _ => False) w1 w') := Lib.hid (HN1.out.mono fun e w' ⟨A', c', he, _, hF⟩ => ⟨A', c', he, hF⟩)
      clear hv hx hn hz hz0 HN1 HA1
      go_wp2_with fail
      refine HN2.out.mono ?_
      rintro e w2 ⟨A1, c1, rfl, hF2⟩
      have HF2 := Lib.hid (HF1.out.trans hF2 (fun _ _ e => e))
      clear hF2
      go_wp2_with fail
      go_ret
      exact ⟨rfl, HF2.out⟩
  | some ad =>
    have HM := Lib.hid (⟨hr2, hnm⟩ : Rd w w.heap.size (some ad) mo ∧ nm = mo.length)
    clear hr2 hA2 hc2 hnm
    go_enter Tryd.func4, Tryd.ntmps4
    go_wp2_with fail
    refine HW.out.mono ?_
    rintro e w1 ⟨rfl, hF1⟩
    have HF1 := Lib.hid hF1
    clear hF1 HW
    go_upto_if 22 with (fail)
    go_cut [0] (fun s0 wz => ∃ (bb : By) (nb : Nat), s0 = .slice A nb cap ∧ w1 = wz ∧ nb ≤ cap ∧ nb ≤ 3000 ∧ Hid (Rd w w.heap.size A bb ∧ nb = bb.length))
    case first =>
      by_cases hbig : (3000 : Int) < m
      · have hkc : 3000 ≤ cap := by omega
        have HZ := Lib.hid (HCUT.out (by rw [← HI.out.2.1]; omega))
        go_wp2_with fail
        go_meet
        exact ⟨b.take 3000, 3000, rfl, rfl, hkc, Nat.le_refl _, HZ⟩
      · have h3 : m ≤ 3000 := by omega
        go_wp2_with fail
        go_meet
        exact ⟨b, m, rfl, rfl, hcn, h3, (show _ ∧ _ from ⟨HI.out.1, HI.out.2.1⟩)⟩
    obtain ⟨bb, nb, rfl, rfl, hnc, hn3, HBB⟩ := hcut
    clear hcn HCUT
    have HA1 := Lib.hid (fun w0 : World => among_nat w0 z1 5000 (by omega) (by omega))
    go_wp2_with fail
    refine (HA1.out w1).mono ?_
    rintro e w' ⟨k1, hk1, rfl, rfl⟩
    have HN1 := Lib.hid (HPP.out.inflate w1 A cap bb (k1 : Int) ((HBB.out.1.still HF1.out (Nat.le_refl _)).more HF1.out.size) HI.out.2.2 (by rw [← HBB.out.2]; exact hnc) (by rw [← HBB.out.2]; omega) (by omega) (HDD.out _ HF1.out))
    obtain ⟨v, hv⟩ : ∃ v, v = inflV bb (k1 : Int) := ⟨_, rfl⟩
    obtain ⟨x, hx⟩ : ∃ x, x = v.1 := ⟨_, rfl⟩
    obtain ⟨n, hn⟩ : ∃ x, x = v.2.1 := ⟨_, rfl⟩
    obtain ⟨z, hz⟩ : ∃ x, x = v.2.2 := ⟨_, rfl⟩
    rw [← hv, ← HBB.out.2, ← hx, ← hn, ← hz] at HN1
    by_cases hz0 : z = 0
    · have hsh := short_ok (b := bb) (most := k1) (by omega) (by rw [← hv, ← hz]; exact hz0)
      rw [← hv, ← hx, ← hn, ← HBB.out.2] at hsh
      obtain ⟨s1, s2, s3, s4, s5⟩ := hsh
      obtain ⟨lx, hlx⟩ : ∃ lx, lx = x.length := ⟨_, rfl⟩
      rw [← hlx] at HN1 s3
      subst hz0
      have HV := Lib.hid (⟨s4, s5, hx, hn, hz, hlx⟩ : (∀ more, inflV (bb.take n ++ more) (k1 : Int) = v) ∧ (∀ k, k < n → inflV (bb.take k) (k1 : Int) = ([], 0, 7)) ∧ x = v.1 ∧ n = v.2.1 ∧ 0 = v.2.2 ∧ lx = x.length)
      have hncap : n ≤ cap := by omega
      have hTL : ∀ k, k ≤ nb → (bb.take k).length = k := fun k hk => by rw [List.length_take, ← HBB.out.2]; omega
      have HTL := Lib.hid hTL
      clear hv hx hn hz hlx s4 s5 hTL HA1
      go_wp2_with fail
      refine HN1.out.mono ?_
      rintro e w2 ⟨A1, c1, rfl, hR1, hF2⟩
      have H2 := Lib.hid (⟨hR1, HF1.out.trans hF2 (fun _ _ e => e)⟩ : Rd w2 w2.heap.size A1 x ∧ Fr (fun _ => False) w w2)
      have HBY := Lib.hid (bytes_any w2 A cap (bb.take n) (((HBB.out.1.take n).still H2.out.2 (Nat.le_refl _)).more H2.out.2.size) HI.out.2.2 (by rw [HTL.out n s2]; omega))
      unfold NewB at HBY
      rw [HTL.out n s2] at HBY
      clear hR1 hF2 HN1
      go_wp2_with fail
      refine HBY.out.mono ?_
      rintro e w5 ⟨Ao, co, rfl, ho, hF5⟩
      have HO5 := Lib.hid (⟨by have h := ho; unfold Own at h; rwa [HTL.out n s2] at h, hF5, Rd.src (HM.out.1.still (H2.out.2.trans hF5 (fun _ _ e => e)) (Nat.le_refl _))⟩ : w5.ownsRow w2.heap.size 5 1 (.slice Ao n co) n (bs (bb.take n)) ∧ Fr (fun _ => False) w2 w5 ∧ ∀ j u, (bs mo)[j]? = some u → w5.cell? (ad.add j) = some u)
      clear ho hF5 HBY
      go_wp2_with (at_builtin; refine wpList_append_own _ rfl (.tmp 47) (.tmp 48) 22 rfl w2.heap.size 5 i0 (.int .u8 0) 1 1 Tryd.underlying22 HII.out.1 HII.out.2.1 HII.out.2.2.1 HII.out.2.2.2 rfl (by omega) _ n (bs (bb.take n)) rfl HO5.out.1 ad nm cap2 (bs mo) rfl (by rw [bs_length, Nat.mul_one]; exact HM.out.2.symm) HO5.out.2.2 (bs_one mo) (by unfold maxLen; omega) (by omega) HO5.out.2.1.size ?_; intro v9 w9 hown9 hg9 _)
      obtain ⟨p9, c9, e9, ho9⟩ := own_shapeB (l := bb.take n ++ mo) (by rw [List.length_append, HTL.out n s2, ← HM.out.2]) (bs_append _ _).symm hown9
      subst e9
      have HF9 := Lib.hid (HO5.out.2.1.grown hg9 (fun q e => own_past_ge HO5.out.1 e))
      clear hown9 hg9
      have HIN : Hid (Calls Tryd.prog 12 #[.slice p9 (n + nm) c9, .int .i64 (k1 : Int)] w9 fun e w' => ∃ A' cap', e = .returned (.tuple #[.slice A' lx cap', .int .i64 (n : Int), .int .i64 0]) ∧ Rd w' w'.heap.size A' x ∧ Fr (fun _ => False) w9 w') := Lib.hid (by
        have h := HPP.out.inflate w9 p9 c9 (bb.take n ++ mo) (k1 : Int) (Own.rd ho9) (own_cap2 ho9).1 (own_cap2 ho9).2 (by rw [List.length_append, HTL.out n s2, ← HM.out.2]; omega) (by omega) (HDD.out _ (H2.out.2.trans HF9.out (fun _ _ e => e)))
        rw [HV.out.1 mo, List.length_append, HTL.out n s2, ← HM.out.2, ← HV.out.2.2.1, ← HV.out.2.2.2.1, ← HV.out.2.2.2.2.1, ← HV.out.2.2.2.2.2] at h
        exact h)
      clear ho9
      go_wp2_with fail
      refine HIN.out.mono ?_
      rintro e w10 ⟨Ay, cy, rfl, hRy, hF10⟩
      have hFw := HF9.out.trans hF10 (fun _ _ e => e)
      have HSM := Lib.hid (same_any w10 A1 Ay w10.heap.size w10.heap.size c1 cy x x ((H2.out.1.still hFw (Nat.le_refl _)).more hFw.size) hRy (by rw [← HV.out.2.2.2.2.2]; omega))
      rw [decide_eq_true rfl, ← HV.out.2.2.2.2.2] at HSM
      have HFW := Lib.hid (H2.out.2.trans hFw (fun _ _ e => e))
      clear hRy hF10 hFw HIN
      go_wp2_with fail
      refine HSM.out.mono ?_
      rintro e w11 ⟨rfl, hC⟩
      have HF11 := Lib.hid (HFW.out.trans hC.fr (fun _ _ e => e))
      have HA2 := Lib.hid (fun w0 : World => among_nat w0 z2 n s1 (by omega))
      clear hC HSM
      go_wp2_with fail
      refine (HA2.out w11).mono ?_
      rintro e w' ⟨k2, hk2, rfl, rfl⟩
      have hkcap : k2 ≤ cap := by omega
      have HIL : Hid (Calls Tryd.prog 12 #[.slice A k2 cap, .int .i64 (k1 : Int)] w11 fun e w' => ∃ A' cap', e = .returned (.tuple #[.slice A' 0 cap', .int .i64 0, .int .i64 7]) ∧ Fr (fun _ => False) w11 w') := Lib.hid (by
        have h := HPP.out.inflate w11 A cap (bb.take k2) (k1 : Int) (((HBB.out.1.take k2).still HF11.out (Nat.le_refl _)).more HF11.out.size) HI.out.2.2 (by rw [HTL.out k2 (by omega)]; exact hkcap) (by rw [HTL.out k2 (by omega)]; omega) (by omega) (HDD.out _ HF11.out)
        rw [HV.out.2.1 k2 hk2, HTL.out k2 (by omega)] at h
        exact h.mono fun e w' ⟨A', c', he, _, hF⟩ => ⟨A', c', he, hF⟩)
      clear HA2
      go_wp2_with fail
      refine HIL.out.mono ?_
      rintro e w12 ⟨Az, cz, rfl, hF12⟩
      have HF12 := Lib.hid (HF11.out.trans hF12 (fun _ _ e => e))
      clear hF12
      go_wp2_with fail
      go_ret
      exact ⟨rfl, HF12.out⟩
    · have hno := short_no (b := bb) (most := k1) (by omega) (by rw [← hv, ← hz]; exact hz0)
      rw [← hv, ← hx, ← hn] at hno
      obtain ⟨rfl, rfl⟩ := hno
      have hne : (z != 0) = true := by rw [bne_iff_ne]; exact hz0
      have HN2 : Hid (Calls Tryd.prog 12 #[.slice A nb cap, .int .i64 (k1 : Int)] w1 fun e w' => ∃ A' cap', e = .returned (.tuple #[.slice A' 0 cap', .int .i64 0, .int .i64 z]) ∧ Fr (fun _ => False) w1 w') := Lib.hid (HN1.out.mono fun e w' ⟨A', c', he, _, hF⟩ => ⟨A', c', he, hF⟩)
      clear hv hx hn hz hz0 HN1 HA1
      go_wp2_with fail
      refine HN2.out.mono ?_
      rintro e w2 ⟨A1, c1, rfl, hF2⟩
      have HF2 := Lib.hid (HF1.out.trans hF2 (fun _ _ e => e))
      clear hF2
      go_wp2_with fail
      go_ret
      exact ⟨rfl, HF2.out⟩
end
end Go.Proofs.YtmnokhkpicjdaaaDoor.ft
