/-
  FlateBack over what is asked of the program's streams.
-/
import Derived.Test.YtmnokhkpicjdaaaDoorFtX
namespace Go.Proofs.YtmnokhkpicjdaaaDoor.ft
set_option maxRecDepth 100000
open Go.RowKit Go.Maps Go.Proofs.YtmnokhkpicjdaaaDoor.fl Go.Proofs.YtmnokhkpicjdaaaDoor.cd
set_option maxRecDepth 100000

section
variable {D : World → Prop} {ls : Nat → Nat}
set_option maxHeartbeats 400000 in
theorem back_walk (HP : FlateP D ls) (w : World) (hD : D w) (A : Option Addr) (cap : Nat) (b : By) (A2 : Option Addr) (cap2 : Nat) (mo : By) (z1 : Int) (hr : Rd w w.heap.size A b) (hA : A = none → cap = 0) (hc : b.length ≤ cap) (hl : cap ≤ 1048576) (hr2 : Rd w w.heap.size A2 mo) (hA2 : A2 = none → cap2 = 0) (hc2 : mo.length ≤ cap2) (hl2 : cap2 ≤ 1048576) :
    Calls Tryd.prog 3 #[.slice A b.length cap, .slice A2 mo.length cap2, .int .i64 z1] w fun e w' => e = .returned (.bool true) ∧ Fr (fun _ => False) w w' := by
  have HPP := Lib.hid HP
  have HDD := Lib.hid (fun (wx : World) (h : Fr (fun _ => False) w wx) => HP.d_keep hD h)
  have HW := Lib.hid (works_any HP w hD)
  have HCUT : Hid (262144 < b.length → Rd w w.heap.size A (b.take 262144) ∧ 262144 = (b.take 262144).length) := Lib.hid fun h => ⟨hr.take 262144, by rw [List.length_take]; omega⟩
  obtain ⟨m, hm⟩ : ∃ n, n = b.length := ⟨_, rfl⟩
  have HI := Lib.hid (⟨hr, hm, hA⟩ : _ ∧ _ ∧ _)
  have hcn : m ≤ cap := by rw [hm]; exact hc
  obtain ⟨nm, hnm⟩ : ∃ n, n = mo.length := ⟨_, rfl⟩
  have hnm2 : nm ≤ 1048576 := by rw [hnm]; omega
  rw [← hm, ← hnm]
  obtain ⟨i0, hi, hz0, hz1, hz2⟩ := info_parts infoB
  have HII := Lib.hid (⟨hi, hz0, hz1, hz2⟩ : _ ∧ _ ∧ _ ∧ _)
  clear HP hD hr hA hc hm hi hz0 hz1 hz2
  cases A2 with
  | none =>
    have HM := Lib.hid (⟨hr2, hnm⟩ : Rd w w.heap.size none mo ∧ nm = mo.length)
    have HMO : Hid (mo = []) := Lib.hid (by
      apply Decidable.byContradiction
      intro hne
      obtain ⟨_, _, e, _⟩ := hr2 hne
      cases e)
    obtain rfl : cap2 = 0 := hA2 rfl
    obtain rfl : nm = 0 := by rw [hnm, HMO.out]; rfl
    clear hr2 hA2 hc2 hnm
    go_enter Tryd.func3, Tryd.ntmps3
    go_wp2_with fail
    refine HW.out.mono ?_
    rintro e w1 ⟨rfl, hF1⟩
    have HF1 := Lib.hid hF1
    clear hF1 HW
    go_upto_if 15 with (fail)
    go_cut [0] (fun s0 wz => ∃ (bb : By) (nb : Nat), s0 = .slice A nb cap ∧ w1 = wz ∧ nb ≤ cap ∧ nb ≤ 262144 ∧ Hid (Rd w w.heap.size A bb ∧ nb = bb.length))
    case first =>
      by_cases hbig : (262144 : Int) < m
      · have hkc : 262144 ≤ cap := by omega
        have HZ := Lib.hid (HCUT.out (by rw [← HI.out.2.1]; omega))
        go_wp2_with fail
        go_meet
        exact ⟨b.take 262144, 262144, rfl, rfl, hkc, Nat.le_refl _, HZ⟩
      · have h3 : m ≤ 262144 := by omega
        go_wp2_with fail
        go_meet
        exact ⟨b, m, rfl, rfl, hcn, h3, (show _ ∧ _ from ⟨HI.out.1, HI.out.2.1⟩)⟩
    obtain ⟨bb, nb, rfl, rfl, hnc, hn3, HBB⟩ := hcut
    clear hcn HCUT
    have HA3 := Lib.hid (fun w0 : World => among_nat w0 z1 3 (by omega) (by omega))
    have HLB := Lib.hid (⟨HI.out.2.2, by rw [← HBB.out.2]; exact hnc, by rw [← HBB.out.2]; exact hn3⟩ : (A = none → cap = 0) ∧ bb.length ≤ cap ∧ bb.length ≤ 262144)
    have HST := Lib.hid (HPP.out.store w1 A cap bb ((HBB.out.1.still HF1.out (Nat.le_refl _)).more HF1.out.size) HLB.out.1 HLB.out.2.1 HLB.out.2.2 (HDD.out _ HF1.out))
    unfold NewR at HST
    rw [← HBB.out.2] at HST
    obtain ⟨z, hz⟩ : ∃ z, z = storeV bb := ⟨_, rfl⟩
    obtain ⟨nz, hnz⟩ : ∃ nz, nz = z.length := ⟨_, rfl⟩
    have HZ0 := Lib.hid (⟨by rw [hz]; exact undo_store bb, by rw [hnz, hz, HBB.out.2]; exact store_small bb, hnz⟩ : Undo z bb ∧ nz ≤ 2 * nb + 20 ∧ nz = z.length)
    rw [← hz, ← hnz] at HST
    clear hz hnz
    go_wp2_with fail
    refine HST.out.mono ?_
    rintro e w2 ⟨Az, cz, rfl, hRz, hAz, hcz, hF2⟩
    have HS2 := Lib.hid (⟨hRz, hAz, hcz, HF1.out.trans hF2 (fun _ _ e => e)⟩ : Rd w2 w2.heap.size Az z ∧ (Az = none → cz = 0) ∧ nz ≤ cz ∧ Fr (fun _ => False) w w2)
    clear hRz hAz hcz hF2 HST
    go_wp2_with fail
    refine (HA3.out w2).mono ?_
    rintro e w' ⟨k, hk, rfl, rfl⟩
    have hk3 : k = 0 ∨ k = 1 ∨ k = 2 := by omega
    clear hk HA3
    rcases hk3 with rfl | rfl | rfl
    · have hnz := HZ0.out.2.1
      have HBY := Lib.hid (bytes_any w2 Az cz z HS2.out.1 HS2.out.2.1 (by have := HZ0.out.2.2; omega))
      unfold NewB at HBY
      rw [← HZ0.out.2.2] at HBY
      go_wp2_with fail
      refine HBY.out.mono ?_
      rintro e w5 ⟨Ao, co, rfl, ho, hF5⟩
      have HO5 := Lib.hid (⟨by have h := ho; unfold Own at h; rwa [← HZ0.out.2.2] at h, hF5⟩ : w5.ownsRow w2.heap.size 5 1 (.slice Ao nz co) nz (bs z) ∧ Fr (fun _ => False) w2 w5)
      clear ho hF5 HBY
      go_wp2_with (at_builtin; refine wpList_append_own_none rfl (.tmp 32) (.tmp 33) 22 rfl w2.heap.size 5 i0 1 Tryd.underlying22 HII.out.1 _ nz (bs z) rfl HO5.out.1 rfl ?_)
      obtain ⟨p9, c9, e9, ho9⟩ := own_shapeB (l := z ++ mo) (by rw [HMO.out, List.append_nil]; exact HZ0.out.2.2) (by rw [HMO.out, List.append_nil]) HO5.out.1
      cases e9
      have HF9 := Lib.hid HO5.out.2
      have HIN : Hid (Calls Tryd.prog 12 #[.slice Ao (nz) co, .int .i64 (nb : Int)] w5 fun e w' => ∃ A' cap', e = .returned (.tuple #[.slice A' nb cap', .int .i64 (nz : Int), .int .i64 0]) ∧ Rd w' w'.heap.size A' bb ∧ Fr (fun _ => False) w5 w') := Lib.hid (by
        have h := HPP.out.inflate w5 Ao co (z ++ mo) (nb : Int) (Own.rd ho9) (own_cap2 ho9).1 (own_cap2 ho9).2 (by rw [List.length_append, ← HZ0.out.2.2, ← HM.out.2]; omega) (by omega) (HDD.out _ (HS2.out.2.2.2.trans HF9.out (fun _ _ e => e)))
        have hu := HZ0.out.1.back HLB.out.2.2 mo
        rw [← HBB.out.2, ← HZ0.out.2.2] at hu
        rw [hu, HMO.out, List.append_nil, ← HZ0.out.2.2] at h
        have h2 := h
        simp only [← HBB.out.2] at h2
        exact h2)
      clear ho9
      go_wp2_with fail
      refine HIN.out.mono ?_
      rintro e w10 ⟨Ax, cx, rfl, hRx, hF10⟩
      have hFw := (HS2.out.2.2.2.trans HF9.out (fun _ _ e => e)).trans hF10 (fun _ _ e => e)
      have HSM := Lib.hid (same_any w10 Ax A w10.heap.size w10.heap.size cx cap bb bb hRx ((HBB.out.1.still hFw (Nat.le_refl _)).more hFw.size) (by have := HLB.out.2.2; omega))
      rw [decide_eq_true rfl, ← HBB.out.2] at HSM
      have HFW := Lib.hid (⟨hFw, HF9.out.trans hF10 (fun _ _ e => e)⟩ : Fr (fun _ => False) w w10 ∧ Fr (fun _ => False) w2 w10)
      clear hRx hF10 hFw HIN
      go_wp2_with fail
      refine HSM.out.mono ?_
      rintro e w11 ⟨rfl, hC⟩
      have HF11 := Lib.hid (⟨HFW.out.1.trans hC.fr (fun _ _ e => e), HFW.out.2.trans hC.fr (fun _ _ e => e)⟩ : Fr (fun _ => False) w w11 ∧ Fr (fun _ => False) w2 w11)
      clear hC HSM
      by_cases h0 : 0 < nb
      · have HIL : Hid (Calls Tryd.prog 12 #[.slice Az nz cz, .int .i64 ((nb : Int) - 1)] w11 fun e w' => ∃ A' cap', e = .returned (.tuple #[.slice A' 0 cap', .int .i64 0, .int .i64 3]) ∧ Fr (fun _ => False) w11 w') := Lib.hid (by
          have h := HPP.out.inflate w11 Az cz z ((nb : Int) - 1) ((HS2.out.1.still HF11.out.2 (Nat.le_refl _)).more HF11.out.2.size) HS2.out.2.1 (by rw [← HZ0.out.2.2]; exact HS2.out.2.2.1) (by rw [← HZ0.out.2.2]; omega) (by omega) (HDD.out _ HF11.out.1)
          have hu := HZ0.out.1.long HLB.out.2.2 (by rw [← HBB.out.2]; exact h0)
          rw [← HBB.out.2] at hu
          rw [hu, ← HZ0.out.2.2] at h
          exact h.mono fun e w' ⟨A', c', he, _, hF⟩ => ⟨A', c', he, hF⟩)
        go_wp2_with fail
        refine HIL.out.mono ?_
        rintro e w12 ⟨Ay2, cy2, rfl, hF12⟩
        have HF12 := Lib.hid (HF11.out.1.trans hF12 (fun _ _ e => e))
        clear hF12
        go_wp2_with fail
        go_ret
        exact ⟨rfl, HF12.out⟩
      · go_wp2_with fail
        go_ret
        exact ⟨rfl, HF11.out.1⟩
    · have HST := Lib.hid (HPP.out.fixed w2 A cap bb ((HBB.out.1.still HS2.out.2.2.2 (Nat.le_refl _)).more HS2.out.2.2.2.size) HLB.out.1 HLB.out.2.1 HLB.out.2.2 (HDD.out _ HS2.out.2.2.2))
      unfold NewR at HST
      rw [← HBB.out.2] at HST
      obtain ⟨z9, hz⟩ : ∃ z, z = fixedV bb := ⟨_, rfl⟩
      obtain ⟨nz9, hnz9⟩ : ∃ nz, nz = z9.length := ⟨_, rfl⟩
      have HZ9 := Lib.hid (⟨by rw [hz]; exact undo_fixed bb, by rw [hnz9, hz, HBB.out.2]; exact fixed_small bb, hnz9⟩ : Undo z9 bb ∧ nz9 ≤ 2 * nb + 20 ∧ nz9 = z9.length)
      rw [← hz, ← hnz9] at HST
      clear hz hnz9 HZ0
      have HZ0 := HZ9
      go_wp2_with fail
      refine HST.out.mono ?_
      rintro e w3 ⟨Ay, cy, rfl, hRz, hAz, hcz, hF2⟩
      have HS3 := Lib.hid (⟨hRz, hAz, hcz, HS2.out.2.2.2.trans hF2 (fun _ _ e => e)⟩ : Rd w3 w3.heap.size Ay z9 ∧ (Ay = none → cy = 0) ∧ nz9 ≤ cy ∧ Fr (fun _ => False) w w3)
      clear hRz hAz hcz hF2 HST HZ9
      have hnz := HZ0.out.2.1
      have HBY := Lib.hid (bytes_any w3 Ay cy z9 HS3.out.1 HS3.out.2.1 (by have := HZ0.out.2.2; omega))
      unfold NewB at HBY
      rw [← HZ0.out.2.2] at HBY
      go_wp2_with fail
      refine HBY.out.mono ?_
      rintro e w5 ⟨Ao, co, rfl, ho, hF5⟩
      have HO5 := Lib.hid (⟨by have h := ho; unfold Own at h; rwa [← HZ0.out.2.2] at h, hF5⟩ : w5.ownsRow w3.heap.size 5 1 (.slice Ao nz9 co) nz9 (bs z9) ∧ Fr (fun _ => False) w3 w5)
      clear ho hF5 HBY
      go_wp2_with (at_builtin; refine wpList_append_own_none rfl (.tmp 32) (.tmp 33) 22 rfl w3.heap.size 5 i0 1 Tryd.underlying22 HII.out.1 _ nz9 (bs z9) rfl HO5.out.1 rfl ?_)
      obtain ⟨p9, c9, e9, ho9⟩ := own_shapeB (l := z9 ++ mo) (by rw [HMO.out, List.append_nil]; exact HZ0.out.2.2) (by rw [HMO.out, List.append_nil]) HO5.out.1
      cases e9
      have HF9 := Lib.hid HO5.out.2
      have HIN : Hid (Calls Tryd.prog 12 #[.slice Ao (nz9) co, .int .i64 (nb : Int)] w5 fun e w' => ∃ A' cap', e = .returned (.tuple #[.slice A' nb cap', .int .i64 (nz9 : Int), .int .i64 0]) ∧ Rd w' w'.heap.size A' bb ∧ Fr (fun _ => False) w5 w') := Lib.hid (by
        have h := HPP.out.inflate w5 Ao co (z9 ++ mo) (nb : Int) (Own.rd ho9) (own_cap2 ho9).1 (own_cap2 ho9).2 (by rw [List.length_append, ← HZ0.out.2.2, ← HM.out.2]; omega) (by omega) (HDD.out _ (HS3.out.2.2.2.trans HF9.out (fun _ _ e => e)))
        have hu := HZ0.out.1.back HLB.out.2.2 mo
        rw [← HBB.out.2, ← HZ0.out.2.2] at hu
        rw [hu, HMO.out, List.append_nil, ← HZ0.out.2.2] at h
        have h2 := h
        simp only [← HBB.out.2] at h2
        exact h2)
      clear ho9
      go_wp2_with fail
      refine HIN.out.mono ?_
      rintro e w10 ⟨Ax, cx, rfl, hRx, hF10⟩
      have hFw := (HS3.out.2.2.2.trans HF9.out (fun _ _ e => e)).trans hF10 (fun _ _ e => e)
      have HSM := Lib.hid (same_any w10 Ax A w10.heap.size w10.heap.size cx cap bb bb hRx ((HBB.out.1.still hFw (Nat.le_refl _)).more hFw.size) (by have := HLB.out.2.2; omega))
      rw [decide_eq_true rfl, ← HBB.out.2] at HSM
      have HFW := Lib.hid (⟨hFw, HF9.out.trans hF10 (fun _ _ e => e)⟩ : Fr (fun _ => False) w w10 ∧ Fr (fun _ => False) w3 w10)
      clear hRx hF10 hFw HIN
      go_wp2_with fail
      refine HSM.out.mono ?_
      rintro e w11 ⟨rfl, hC⟩
      have HF11 := Lib.hid (⟨HFW.out.1.trans hC.fr (fun _ _ e => e), HFW.out.2.trans hC.fr (fun _ _ e => e)⟩ : Fr (fun _ => False) w w11 ∧ Fr (fun _ => False) w3 w11)
      clear hC HSM
      by_cases h0 : 0 < nb
      · have HIL : Hid (Calls Tryd.prog 12 #[.slice Ay nz9 cy, .int .i64 ((nb : Int) - 1)] w11 fun e w' => ∃ A' cap', e = .returned (.tuple #[.slice A' 0 cap', .int .i64 0, .int .i64 3]) ∧ Fr (fun _ => False) w11 w') := Lib.hid (by
          have h := HPP.out.inflate w11 Ay cy z9 ((nb : Int) - 1) ((HS3.out.1.still HF11.out.2 (Nat.le_refl _)).more HF11.out.2.size) HS3.out.2.1 (by rw [← HZ0.out.2.2]; exact HS3.out.2.2.1) (by rw [← HZ0.out.2.2]; omega) (by omega) (HDD.out _ HF11.out.1)
          have hu := HZ0.out.1.long HLB.out.2.2 (by rw [← HBB.out.2]; exact h0)
          rw [← HBB.out.2] at hu
          rw [hu, ← HZ0.out.2.2] at h
          exact h.mono fun e w' ⟨A', c', he, _, hF⟩ => ⟨A', c', he, hF⟩)
        go_wp2_with fail
        refine HIL.out.mono ?_
        rintro e w12 ⟨Ay2, cy2, rfl, hF12⟩
        have HF12 := Lib.hid (HF11.out.1.trans hF12 (fun _ _ e => e))
        clear hF12
        go_wp2_with fail
        go_ret
        exact ⟨rfl, HF12.out⟩
      · go_wp2_with fail
        go_ret
        exact ⟨rfl, HF11.out.1⟩
    · have HST := Lib.hid (HPP.out.runs w2 A cap bb ((HBB.out.1.still HS2.out.2.2.2 (Nat.le_refl _)).more HS2.out.2.2.2.size) HLB.out.1 HLB.out.2.1 HLB.out.2.2 (HDD.out _ HS2.out.2.2.2))
      unfold NewR at HST
      rw [← HBB.out.2] at HST
      obtain ⟨z9, hz⟩ : ∃ z, z = runsV ls bb := ⟨_, rfl⟩
      obtain ⟨nz9, hnz9⟩ : ∃ nz, nz = z9.length := ⟨_, rfl⟩
      have HZ9 := Lib.hid (⟨by rw [hz]; exact undo_runs HPP.out.lens bb, by rw [hnz9, hz, HBB.out.2]; exact runs_small HPP.out.lens bb, hnz9⟩ : Undo z9 bb ∧ nz9 ≤ 2 * nb + 20 ∧ nz9 = z9.length)
      rw [← hz, ← hnz9] at HST
      clear hz hnz9 HZ0
      have HZ0 := HZ9
      go_wp2_with fail
      refine HST.out.mono ?_
      rintro e w3 ⟨Ay, cy, rfl, hRz, hAz, hcz, hF2⟩
      have HS3 := Lib.hid (⟨hRz, hAz, hcz, HS2.out.2.2.2.trans hF2 (fun _ _ e => e)⟩ : Rd w3 w3.heap.size Ay z9 ∧ (Ay = none → cy = 0) ∧ nz9 ≤ cy ∧ Fr (fun _ => False) w w3)
      clear hRz hAz hcz hF2 HST HZ9
      have hnz := HZ0.out.2.1
      have HBY := Lib.hid (bytes_any w3 Ay cy z9 HS3.out.1 HS3.out.2.1 (by have := HZ0.out.2.2; omega))
      unfold NewB at HBY
      rw [← HZ0.out.2.2] at HBY
      go_wp2_with fail
      refine HBY.out.mono ?_
      rintro e w5 ⟨Ao, co, rfl, ho, hF5⟩
      have HO5 := Lib.hid (⟨by have h := ho; unfold Own at h; rwa [← HZ0.out.2.2] at h, hF5⟩ : w5.ownsRow w3.heap.size 5 1 (.slice Ao nz9 co) nz9 (bs z9) ∧ Fr (fun _ => False) w3 w5)
      clear ho hF5 HBY
      go_wp2_with (at_builtin; refine wpList_append_own_none rfl (.tmp 32) (.tmp 33) 22 rfl w3.heap.size 5 i0 1 Tryd.underlying22 HII.out.1 _ nz9 (bs z9) rfl HO5.out.1 rfl ?_)
      obtain ⟨p9, c9, e9, ho9⟩ := own_shapeB (l := z9 ++ mo) (by rw [HMO.out, List.append_nil]; exact HZ0.out.2.2) (by rw [HMO.out, List.append_nil]) HO5.out.1
      cases e9
      have HF9 := Lib.hid HO5.out.2
      have HIN : Hid (Calls Tryd.prog 12 #[.slice Ao (nz9) co, .int .i64 (nb : Int)] w5 fun e w' => ∃ A' cap', e = .returned (.tuple #[.slice A' nb cap', .int .i64 (nz9 : Int), .int .i64 0]) ∧ Rd w' w'.heap.size A' bb ∧ Fr (fun _ => False) w5 w') := Lib.hid (by
        have h := HPP.out.inflate w5 Ao co (z9 ++ mo) (nb : Int) (Own.rd ho9) (own_cap2 ho9).1 (own_cap2 ho9).2 (by rw [List.length_append, ← HZ0.out.2.2, ← HM.out.2]; omega) (by omega) (HDD.out _ (HS3.out.2.2.2.trans HF9.out (fun _ _ e => e)))
        have hu := HZ0.out.1.back HLB.out.2.2 mo
        rw [← HBB.out.2, ← HZ0.out.2.2] at hu
        rw [hu, HMO.out, List.append_nil, ← HZ0.out.2.2] at h
        have h2 := h
        simp only [← HBB.out.2] at h2
        exact h2)
      clear ho9
      go_wp2_with fail
      refine HIN.out.mono ?_
      rintro e w10 ⟨Ax, cx, rfl, hRx, hF10⟩
      have hFw := (HS3.out.2.2.2.trans HF9.out (fun _ _ e => e)).trans hF10 (fun _ _ e => e)
      have HSM := Lib.hid (same_any w10 Ax A w10.heap.size w10.heap.size cx cap bb bb hRx ((HBB.out.1.still hFw (Nat.le_refl _)).more hFw.size) (by have := HLB.out.2.2; omega))
      rw [decide_eq_true rfl, ← HBB.out.2] at HSM
      have HFW := Lib.hid (⟨hFw, HF9.out.trans hF10 (fun _ _ e => e)⟩ : Fr (fun _ => False) w w10 ∧ Fr (fun _ => False) w3 w10)
      clear hRx hF10 hFw HIN
      go_wp2_with fail
      refine HSM.out.mono ?_
      rintro e w11 ⟨rfl, hC⟩
      have HF11 := Lib.hid (⟨HFW.out.1.trans hC.fr (fun _ _ e => e), HFW.out.2.trans hC.fr (fun _ _ e => e)⟩ : Fr (fun _ => False) w w11 ∧ Fr (fun _ => False) w3 w11)
      clear hC HSM
      by_cases h0 : 0 < nb
      · have HIL : Hid (Calls Tryd.prog 12 #[.slice Ay nz9 cy, .int .i64 ((nb : Int) - 1)] w11 fun e w' => ∃ A' cap', e = .returned (.tuple #[.slice A' 0 cap', .int .i64 0, .int .i64 3]) ∧ Fr (fun _ => False) w11 w') := Lib.hid (by
          have h := HPP.out.inflate w11 Ay cy z9 ((nb : Int) - 1) ((HS3.out.1.still HF11.out.2 (Nat.le_refl _)).more HF11.out.2.size) HS3.out.2.1 (by rw [← HZ0.out.2.2]; exact HS3.out.2.2.1) (by rw [← HZ0.out.2.2]; omega) (by omega) (HDD.out _ HF11.out.1)
          have hu := HZ0.out.1.long HLB.out.2.2 (by rw [← HBB.out.2]; exact h0)
          rw [← HBB.out.2] at hu
          rw [hu, ← HZ0.out.2.2] at h
          exact h.mono fun e w' ⟨A', c', he, _, hF⟩ => ⟨A', c', he, hF⟩)
        go_wp2_with fail
        refine HIL.out.mono ?_
        rintro e w12 ⟨Ay2, cy2, rfl, hF12⟩
        have HF12 := Lib.hid (HF11.out.1.trans hF12 (fun _ _ e => e))
        clear hF12
        go_wp2_with fail
        go_ret
        exact ⟨rfl, HF12.out⟩
      · go_wp2_with fail
        go_ret
        exact ⟨rfl, HF11.out.1⟩
  | some ad =>
    have HM := Lib.hid (⟨hr2, hnm⟩ : Rd w w.heap.size (some ad) mo ∧ nm = mo.length)
    clear hr2 hA2 hc2 hnm
    go_enter Tryd.func3, Tryd.ntmps3
    go_wp2_with fail
    refine HW.out.mono ?_
    rintro e w1 ⟨rfl, hF1⟩
    have HF1 := Lib.hid hF1
    clear hF1 HW
    go_upto_if 15 with (fail)
    go_cut [0] (fun s0 wz => ∃ (bb : By) (nb : Nat), s0 = .slice A nb cap ∧ w1 = wz ∧ nb ≤ cap ∧ nb ≤ 262144 ∧ Hid (Rd w w.heap.size A bb ∧ nb = bb.length))
    case first =>
      by_cases hbig : (262144 : Int) < m
      · have hkc : 262144 ≤ cap := by omega
        have HZ := Lib.hid (HCUT.out (by rw [← HI.out.2.1]; omega))
        go_wp2_with fail
        go_meet
        exact ⟨b.take 262144, 262144, rfl, rfl, hkc, Nat.le_refl _, HZ⟩
      · have h3 : m ≤ 262144 := by omega
        go_wp2_with fail
        go_meet
        exact ⟨b, m, rfl, rfl, hcn, h3, (show _ ∧ _ from ⟨HI.out.1, HI.out.2.1⟩)⟩
    obtain ⟨bb, nb, rfl, rfl, hnc, hn3, HBB⟩ := hcut
    clear hcn HCUT
    have HA3 := Lib.hid (fun w0 : World => among_nat w0 z1 3 (by omega) (by omega))
    have HLB := Lib.hid (⟨HI.out.2.2, by rw [← HBB.out.2]; exact hnc, by rw [← HBB.out.2]; exact hn3⟩ : (A = none → cap = 0) ∧ bb.length ≤ cap ∧ bb.length ≤ 262144)
    have HST := Lib.hid (HPP.out.store w1 A cap bb ((HBB.out.1.still HF1.out (Nat.le_refl _)).more HF1.out.size) HLB.out.1 HLB.out.2.1 HLB.out.2.2 (HDD.out _ HF1.out))
    unfold NewR at HST
    rw [← HBB.out.2] at HST
    obtain ⟨z, hz⟩ : ∃ z, z = storeV bb := ⟨_, rfl⟩
    obtain ⟨nz, hnz⟩ : ∃ nz, nz = z.length := ⟨_, rfl⟩
    have HZ0 := Lib.hid (⟨by rw [hz]; exact undo_store bb, by rw [hnz, hz, HBB.out.2]; exact store_small bb, hnz⟩ : Undo z bb ∧ nz ≤ 2 * nb + 20 ∧ nz = z.length)
    rw [← hz, ← hnz] at HST
    clear hz hnz
    go_wp2_with fail
    refine HST.out.mono ?_
    rintro e w2 ⟨Az, cz, rfl, hRz, hAz, hcz, hF2⟩
    have HS2 := Lib.hid (⟨hRz, hAz, hcz, HF1.out.trans hF2 (fun _ _ e => e)⟩ : Rd w2 w2.heap.size Az z ∧ (Az = none → cz = 0) ∧ nz ≤ cz ∧ Fr (fun _ => False) w w2)
    clear hRz hAz hcz hF2 HST
    go_wp2_with fail
    refine (HA3.out w2).mono ?_
    rintro e w' ⟨k, hk, rfl, rfl⟩
    have hk3 : k = 0 ∨ k = 1 ∨ k = 2 := by omega
    clear hk HA3
    rcases hk3 with rfl | rfl | rfl
    · have hnz := HZ0.out.2.1
      have HBY := Lib.hid (bytes_any w2 Az cz z HS2.out.1 HS2.out.2.1 (by have := HZ0.out.2.2; omega))
      unfold NewB at HBY
      rw [← HZ0.out.2.2] at HBY
      go_wp2_with fail
      refine HBY.out.mono ?_
      rintro e w5 ⟨Ao, co, rfl, ho, hF5⟩
      have HO5 := Lib.hid (⟨by have h := ho; unfold Own at h; rwa [← HZ0.out.2.2] at h, hF5, Rd.src (HM.out.1.still (HS2.out.2.2.2.trans hF5 (fun _ _ e => e)) (Nat.le_refl _))⟩ : w5.ownsRow w2.heap.size 5 1 (.slice Ao nz co) nz (bs z) ∧ Fr (fun _ => False) w2 w5 ∧ ∀ j u, (bs mo)[j]? = some u → w5.cell? (ad.add j) = some u)
      clear ho hF5 HBY
      go_wp2_with (at_builtin; refine wpList_append_own _ rfl (.tmp 32) (.tmp 33) 22 rfl w2.heap.size 5 i0 (.int .u8 0) 1 1 Tryd.underlying22 HII.out.1 HII.out.2.1 HII.out.2.2.1 HII.out.2.2.2 rfl (by omega) _ nz (bs z) rfl HO5.out.1 ad nm cap2 (bs mo) rfl (by rw [bs_length, Nat.mul_one]; exact HM.out.2.symm) HO5.out.2.2 (bs_one mo) (by unfold maxLen; omega) (by omega) HO5.out.2.1.size ?_; intro v9 w9 hown9 hg9 _)
      obtain ⟨p9, c9, e9, ho9⟩ := own_shapeB (l := z ++ mo) (by rw [List.length_append, ← HZ0.out.2.2, ← HM.out.2]) (bs_append _ _).symm hown9
      subst e9
      have HF9 := Lib.hid (HO5.out.2.1.grown hg9 (fun q e => own_past_ge HO5.out.1 e))
      clear hown9 hg9
      have HIN : Hid (Calls Tryd.prog 12 #[.slice p9 (nz + nm) c9, .int .i64 (nb : Int)] w9 fun e w' => ∃ A' cap', e = .returned (.tuple #[.slice A' nb cap', .int .i64 (nz : Int), .int .i64 0]) ∧ Rd w' w'.heap.size A' bb ∧ Fr (fun _ => False) w9 w') := Lib.hid (by
        have h := HPP.out.inflate w9 p9 c9 (z ++ mo) (nb : Int) (Own.rd ho9) (own_cap2 ho9).1 (own_cap2 ho9).2 (by rw [List.length_append, ← HZ0.out.2.2, ← HM.out.2]; omega) (by omega) (HDD.out _ (HS2.out.2.2.2.trans HF9.out (fun _ _ e => e)))
        have hu := HZ0.out.1.back HLB.out.2.2 mo
        rw [← HBB.out.2, ← HZ0.out.2.2] at hu
        rw [hu, List.length_append, ← HZ0.out.2.2, ← HM.out.2] at h
        have h2 := h
        simp only [← HBB.out.2] at h2
        exact h2)
      clear ho9
      go_wp2_with fail
      refine HIN.out.mono ?_
      rintro e w10 ⟨Ax, cx, rfl, hRx, hF10⟩
      have hFw := (HS2.out.2.2.2.trans HF9.out (fun _ _ e => e)).trans hF10 (fun _ _ e => e)
      have HSM := Lib.hid (same_any w10 Ax A w10.heap.size w10.heap.size cx cap bb bb hRx ((HBB.out.1.still hFw (Nat.le_refl _)).more hFw.size) (by have := HLB.out.2.2; omega))
      rw [decide_eq_true rfl, ← HBB.out.2] at HSM
      have HFW := Lib.hid (⟨hFw, HF9.out.trans hF10 (fun _ _ e => e)⟩ : Fr (fun _ => False) w w10 ∧ Fr (fun _ => False) w2 w10)
      clear hRx hF10 hFw HIN
      go_wp2_with fail
      refine HSM.out.mono ?_
      rintro e w11 ⟨rfl, hC⟩
      have HF11 := Lib.hid (⟨HFW.out.1.trans hC.fr (fun _ _ e => e), HFW.out.2.trans hC.fr (fun _ _ e => e)⟩ : Fr (fun _ => False) w w11 ∧ Fr (fun _ => False) w2 w11)
      clear hC HSM
      by_cases h0 : 0 < nb
      · have HIL : Hid (Calls Tryd.prog 12 #[.slice Az nz cz, .int .i64 ((nb : Int) - 1)] w11 fun e w' => ∃ A' cap', e = .returned (.tuple #[.slice A' 0 cap', .int .i64 0, .int .i64 3]) ∧ Fr (fun _ => False) w11 w') := Lib.hid (by
          have h := HPP.out.inflate w11 Az cz z ((nb : Int) - 1) ((HS2.out.1.still HF11.out.2 (Nat.le_refl _)).more HF11.out.2.size) HS2.out.2.1 (by rw [← HZ0.out.2.2]; exact HS2.out.2.2.1) (by rw [← HZ0.out.2.2]; omega) (by omega) (HDD.out _ HF11.out.1)
          have hu := HZ0.out.1.long HLB.out.2.2 (by rw [← HBB.out.2]; exact h0)
          rw [← HBB.out.2] at hu
          rw [hu, ← HZ0.out.2.2] at h
          exact h.mono fun e w' ⟨A', c', he, _, hF⟩ => ⟨A', c', he, hF⟩)
        go_wp2_with fail
        refine HIL.out.mono ?_
        rintro e w12 ⟨Ay2, cy2, rfl, hF12⟩
        have HF12 := Lib.hid (HF11.out.1.trans hF12 (fun _ _ e => e))
        clear hF12
        go_wp2_with fail
        go_ret
        exact ⟨rfl, HF12.out⟩
      · go_wp2_with fail
        go_ret
        exact ⟨rfl, HF11.out.1⟩
    · have HST := Lib.hid (HPP.out.fixed w2 A cap bb ((HBB.out.1.still HS2.out.2.2.2 (Nat.le_refl _)).more HS2.out.2.2.2.size) HLB.out.1 HLB.out.2.1 HLB.out.2.2 (HDD.out _ HS2.out.2.2.2))
      unfold NewR at HST
      rw [← HBB.out.2] at HST
      obtain ⟨z9, hz⟩ : ∃ z, z = fixedV bb := ⟨_, rfl⟩
      obtain ⟨nz9, hnz9⟩ : ∃ nz, nz = z9.length := ⟨_, rfl⟩
      have HZ9 := Lib.hid (⟨by rw [hz]; exact undo_fixed bb, by rw [hnz9, hz, HBB.out.2]; exact fixed_small bb, hnz9⟩ : Undo z9 bb ∧ nz9 ≤ 2 * nb + 20 ∧ nz9 = z9.length)
      rw [← hz, ← hnz9] at HST
      clear hz hnz9 HZ0
      have HZ0 := HZ9
      go_wp2_with fail
      refine HST.out.mono ?_
      rintro e w3 ⟨Ay, cy, rfl, hRz, hAz, hcz, hF2⟩
      have HS3 := Lib.hid (⟨hRz, hAz, hcz, HS2.out.2.2.2.trans hF2 (fun _ _ e => e)⟩ : Rd w3 w3.heap.size Ay z9 ∧ (Ay = none → cy = 0) ∧ nz9 ≤ cy ∧ Fr (fun _ => False) w w3)
      clear hRz hAz hcz hF2 HST HZ9
      have hnz := HZ0.out.2.1
      have HBY := Lib.hid (bytes_any w3 Ay cy z9 HS3.out.1 HS3.out.2.1 (by have := HZ0.out.2.2; omega))
      unfold NewB at HBY
      rw [← HZ0.out.2.2] at HBY
      go_wp2_with fail
      refine HBY.out.mono ?_
      rintro e w5 ⟨Ao, co, rfl, ho, hF5⟩
      have HO5 := Lib.hid (⟨by have h := ho; unfold Own at h; rwa [← HZ0.out.2.2] at h, hF5, Rd.src (HM.out.1.still (HS3.out.2.2.2.trans hF5 (fun _ _ e => e)) (Nat.le_refl _))⟩ : w5.ownsRow w3.heap.size 5 1 (.slice Ao nz9 co) nz9 (bs z9) ∧ Fr (fun _ => False) w3 w5 ∧ ∀ j u, (bs mo)[j]? = some u → w5.cell? (ad.add j) = some u)
      clear ho hF5 HBY
      go_wp2_with (at_builtin; refine wpList_append_own _ rfl (.tmp 32) (.tmp 33) 22 rfl w3.heap.size 5 i0 (.int .u8 0) 1 1 Tryd.underlying22 HII.out.1 HII.out.2.1 HII.out.2.2.1 HII.out.2.2.2 rfl (by omega) _ nz9 (bs z9) rfl HO5.out.1 ad nm cap2 (bs mo) rfl (by rw [bs_length, Nat.mul_one]; exact HM.out.2.symm) HO5.out.2.2 (bs_one mo) (by unfold maxLen; omega) (by omega) HO5.out.2.1.size ?_; intro v9 w9 hown9 hg9 _)
      obtain ⟨p9, c9, e9, ho9⟩ := own_shapeB (l := z9 ++ mo) (by rw [List.length_append, ← HZ0.out.2.2, ← HM.out.2]) (bs_append _ _).symm hown9
      subst e9
      have HF9 := Lib.hid (HO5.out.2.1.grown hg9 (fun q e => own_past_ge HO5.out.1 e))
      clear hown9 hg9
      have HIN : Hid (Calls Tryd.prog 12 #[.slice p9 (nz9 + nm) c9, .int .i64 (nb : Int)] w9 fun e w' => ∃ A' cap', e = .returned (.tuple #[.slice A' nb cap', .int .i64 (nz9 : Int), .int .i64 0]) ∧ Rd w' w'.heap.size A' bb ∧ Fr (fun _ => False) w9 w') := Lib.hid (by
        have h := HPP.out.inflate w9 p9 c9 (z9 ++ mo) (nb : Int) (Own.rd ho9) (own_cap2 ho9).1 (own_cap2 ho9).2 (by rw [List.length_append, ← HZ0.out.2.2, ← HM.out.2]; omega) (by omega) (HDD.out _ (HS3.out.2.2.2.trans HF9.out (fun _ _ e => e)))
        have hu := HZ0.out.1.back HLB.out.2.2 mo
        rw [← HBB.out.2, ← HZ0.out.2.2] at hu
        rw [hu, List.length_append, ← HZ0.out.2.2, ← HM.out.2] at h
        have h2 := h
        simp only [← HBB.out.2] at h2
        exact h2)
      clear ho9
      go_wp2_with fail
      refine HIN.out.mono ?_
      rintro e w10 ⟨Ax, cx, rfl, hRx, hF10⟩
      have hFw := (HS3.out.2.2.2.trans HF9.out (fun _ _ e => e)).trans hF10 (fun _ _ e => e)
      have HSM := Lib.hid (same_any w10 Ax A w10.heap.size w10.heap.size cx cap bb bb hRx ((HBB.out.1.still hFw (Nat.le_refl _)).more hFw.size) (by have := HLB.out.2.2; omega))
      rw [decide_eq_true rfl, ← HBB.out.2] at HSM
      have HFW := Lib.hid (⟨hFw, HF9.out.trans hF10 (fun _ _ e => e)⟩ : Fr (fun _ => False) w w10 ∧ Fr (fun _ => False) w3 w10)
      clear hRx hF10 hFw HIN
      go_wp2_with fail
      refine HSM.out.mono ?_
      rintro e w11 ⟨rfl, hC⟩
      have HF11 := Lib.hid (⟨HFW.out.1.trans hC.fr (fun _ _ e => e), HFW.out.2.trans hC.fr (fun _ _ e => e)⟩ : Fr (fun _ => False) w w11 ∧ Fr (fun _ => False) w3 w11)
      clear hC HSM
      by_cases h0 : 0 < nb
      · have HIL : Hid (Calls Tryd.prog 12 #[.slice Ay nz9 cy, .int .i64 ((nb : Int) - 1)] w11 fun e w' => ∃ A' cap', e = .returned (.tuple #[.slice A' 0 cap', .int .i64 0, .int .i64 3]) ∧ Fr (fun _ => False) w11 w') := Lib.hid (by
          have h := HPP.out.inflate w11 Ay cy z9 ((nb : Int) - 1) ((HS3.out.1.still HF11.out.2 (Nat.le_refl _)).more HF11.out.2.size) HS3.out.2.1 (by rw [← HZ0.out.2.2]; exact HS3.out.2.2.1) (by rw [← HZ0.out.2.2]; omega) (by omega) (HDD.out _ HF11.out.1)
          have hu := HZ0.out.1.long HLB.out.2.2 (by rw [← HBB.out.2]; exact h0)
          rw [← HBB.out.2] at hu
          rw [hu, ← HZ0.out.2.2] at h
          exact h.mono fun e w' ⟨A', c', he, _, hF⟩ => ⟨A', c', he, hF⟩)
        go_wp2_with fail
        refine HIL.out.mono ?_
        rintro e w12 ⟨Ay2, cy2, rfl, hF12⟩
        have HF12 := Lib.hid (HF11.out.1.trans hF12 (fun _ _ e => e))
        clear hF12
        go_wp2_with fail
        go_ret
        exact ⟨rfl, HF12.out⟩
      · go_wp2_with fail
        go_ret
        exact ⟨rfl, HF11.out.1⟩
    · have HST := Lib.hid (HPP.out.runs w2 A cap bb ((HBB.out.1.still HS2.out.2.2.2 (Nat.le_refl _)).more HS2.out.2.2.2.size) HLB.out.1 HLB.out.2.1 HLB.out.2.2 (HDD.out _ HS2.out.2.2.2))
      unfold NewR at HST
      rw [← HBB.out.2] at HST
      obtain ⟨z9, hz⟩ : ∃ z, z = runsV ls bb := ⟨_, rfl⟩
      obtain ⟨nz9, hnz9⟩ : ∃ nz, nz = z9.length := ⟨_, rfl⟩
      have HZ9 := Lib.hid (⟨by rw [hz]; exact undo_runs HPP.out.lens bb, by rw [hnz9, hz, HBB.out.2]; exact runs_small HPP.out.lens bb, hnz9⟩ : Undo z9 bb ∧ nz9 ≤ 2 * nb + 20 ∧ nz9 = z9.length)
      rw [← hz, ← hnz9] at HST
      clear hz hnz9 HZ0
      have HZ0 := HZ9
      go_wp2_with fail
      refine HST.out.mono ?_
      rintro e w3 ⟨Ay, cy, rfl, hRz, hAz, hcz, hF2⟩
      have HS3 := Lib.hid (⟨hRz, hAz, hcz, HS2.out.2.2.2.trans hF2 (fun _ _ e => e)⟩ : Rd w3 w3.heap.size Ay z9 ∧ (Ay = none → cy = 0) ∧ nz9 ≤ cy ∧ Fr (fun _ => False) w w3)
      clear hRz hAz hcz hF2 HST HZ9
      have hnz := HZ0.out.2.1
      have HBY := Lib.hid (bytes_any w3 Ay cy z9 HS3.out.1 HS3.out.2.1 (by have := HZ0.out.2.2; omega))
      unfold NewB at HBY
      rw [← HZ0.out.2.2] at HBY
      go_wp2_with fail
      refine HBY.out.mono ?_
      rintro e w5 ⟨Ao, co, rfl, ho, hF5⟩
      have HO5 := Lib.hid (⟨by have h := ho; unfold Own at h; rwa [← HZ0.out.2.2] at h, hF5, Rd.src (HM.out.1.still (HS3.out.2.2.2.trans hF5 (fun _ _ e => e)) (Nat.le_refl _))⟩ : w5.ownsRow w3.heap.size 5 1 (.slice Ao nz9 co) nz9 (bs z9) ∧ Fr (fun _ => False) w3 w5 ∧ ∀ j u, (bs mo)[j]? = some u → w5.cell? (ad.add j) = some u)
      clear ho hF5 HBY
      go_wp2_with (at_builtin; refine wpList_append_own _ rfl (.tmp 32) (.tmp 33) 22 rfl w3.heap.size 5 i0 (.int .u8 0) 1 1 Tryd.underlying22 HII.out.1 HII.out.2.1 HII.out.2.2.1 HII.out.2.2.2 rfl (by omega) _ nz9 (bs z9) rfl HO5.out.1 ad nm cap2 (bs mo) rfl (by rw [bs_length, Nat.mul_one]; exact HM.out.2.symm) HO5.out.2.2 (bs_one mo) (by unfold maxLen; omega) (by omega) HO5.out.2.1.size ?_; intro v9 w9 hown9 hg9 _)
      obtain ⟨p9, c9, e9, ho9⟩ := own_shapeB (l := z9 ++ mo) (by rw [List.length_append, ← HZ0.out.2.2, ← HM.out.2]) (bs_append _ _).symm hown9
      subst e9
      have HF9 := Lib.hid (HO5.out.2.1.grown hg9 (fun q e => own_past_ge HO5.out.1 e))
      clear hown9 hg9
      have HIN : Hid (Calls Tryd.prog 12 #[.slice p9 (nz9 + nm) c9, .int .i64 (nb : Int)] w9 fun e w' => ∃ A' cap', e = .returned (.tuple #[.slice A' nb cap', .int .i64 (nz9 : Int), .int .i64 0]) ∧ Rd w' w'.heap.size A' bb ∧ Fr (fun _ => False) w9 w') := Lib.hid (by
        have h := HPP.out.inflate w9 p9 c9 (z9 ++ mo) (nb : Int) (Own.rd ho9) (own_cap2 ho9).1 (own_cap2 ho9).2 (by rw [List.length_append, ← HZ0.out.2.2, ← HM.out.2]; omega) (by omega) (HDD.out _ (HS3.out.2.2.2.trans HF9.out (fun _ _ e => e)))
        have hu := HZ0.out.1.back HLB.out.2.2 mo
        rw [← HBB.out.2, ← HZ0.out.2.2] at hu
        rw [hu, List.length_append, ← HZ0.out.2.2, ← HM.out.2] at h
        have h2 := h
        simp only [← HBB.out.2] at h2
        exact h2)
      clear ho9
      go_wp2_with fail
      refine HIN.out.mono ?_
      rintro e w10 ⟨Ax, cx, rfl, hRx, hF10⟩
      have hFw := (HS3.out.2.2.2.trans HF9.out (fun _ _ e => e)).trans hF10 (fun _ _ e => e)
      have HSM := Lib.hid (same_any w10 Ax A w10.heap.size w10.heap.size cx cap bb bb hRx ((HBB.out.1.still hFw (Nat.le_refl _)).more hFw.size) (by have := HLB.out.2.2; omega))
      rw [decide_eq_true rfl, ← HBB.out.2] at HSM
      have HFW := Lib.hid (⟨hFw, HF9.out.trans hF10 (fun _ _ e => e)⟩ : Fr (fun _ => False) w w10 ∧ Fr (fun _ => False) w3 w10)
      clear hRx hF10 hFw HIN
      go_wp2_with fail
      refine HSM.out.mono ?_
      rintro e w11 ⟨rfl, hC⟩
      have HF11 := Lib.hid (⟨HFW.out.1.trans hC.fr (fun _ _ e => e), HFW.out.2.trans hC.fr (fun _ _ e => e)⟩ : Fr (fun _ => False) w w11 ∧ Fr (fun _ => False) w3 w11)
      clear hC HSM
      by_cases h0 : 0 < nb
      · have HIL : Hid (Calls Tryd.prog 12 #[.slice Ay nz9 cy, .int .i64 ((nb : Int) - 1)] w11 fun e w' => ∃ A' cap', e = .returned (.tuple #[.slice A' 0 cap', .int .i64 0, .int .i64 3]) ∧ Fr (fun _ => False) w11 w') := Lib.hid (by
          have h := HPP.out.inflate w11 Ay cy z9 ((nb : Int) - 1) ((HS3.out.1.still HF11.out.2 (Nat.le_refl _)).more HF11.out.2.size) HS3.out.2.1 (by rw [← HZ0.out.2.2]; exact HS3.out.2.2.1) (by rw [← HZ0.out.2.2]; omega) (by omega) (HDD.out _ HF11.out.1)
          have hu := HZ0.out.1.long HLB.out.2.2 (by rw [← HBB.out.2]; exact h0)
          rw [← HBB.out.2] at hu
          rw [hu, ← HZ0.out.2.2] at h
          exact h.mono fun e w' ⟨A', c', he, _, hF⟩ => ⟨A', c', he, hF⟩)
        go_wp2_with fail
        refine HIL.out.mono ?_
        rintro e w12 ⟨Ay2, cy2, rfl, hF12⟩
        have HF12 := Lib.hid (HF11.out.1.trans hF12 (fun _ _ e => e))
        clear hF12
        go_wp2_with fail
        go_ret
        exact ⟨rfl, HF12.out⟩
      · go_wp2_with fail
        go_ret
        exact ⟨rfl, HF11.out.1⟩
end
end Go.Proofs.YtmnokhkpicjdaaaDoor.ft
