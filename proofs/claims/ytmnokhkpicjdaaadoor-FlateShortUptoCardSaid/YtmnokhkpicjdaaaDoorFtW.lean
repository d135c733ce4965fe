/-
  The law's works; FlateBounds and FlateRuns over what is asked of the program's streams.
-/
import Derived.Test.YtmnokhkpicjdaaaDoorJD
import Derived.Deep.DeepCutAuto
import Derived.Deep.CutBlock
namespace Go.Proofs.YtmnokhkpicjdaaaDoor.ft
set_option maxRecDepth 100000
open Go.RowKit Go.Maps Go.Proofs.YtmnokhkpicjdaaaDoor.fl Go.Proofs.YtmnokhkpicjdaaaDoor.cd
set_option maxRecDepth 100000

section
variable {D : World → Prop} {ls : Nat → Nat}
set_option maxHeartbeats 4000000 in
theorem works_any (HP : FlateP D ls) (w : World) (hD : D w) : Calls Tryd.prog 7 #[] w fun e w' => e = .returned (.bool true) ∧ Fr (fun _ => False) w w' := by
  have HPP := Lib.hid HP
  have HDD := Lib.hid (fun (wx : World) (h : Fr (fun _ => False) w wx) => HP.d_keep hD h)
  have hF0 := (Fr.refl (fun _ => False) w).alloc (.cells #[.int .u8 75, .int .u8 4, .int .u8 0] 5)
  have H1 : Hid (Calls Tryd.prog 12 #[.slice (some ⟨w.heap.size, 0, none⟩) 3 3, .int .i64 9] (w.alloc (.cells #[.int .u8 75, .int .u8 4, .int .u8 0] 5)) fun e w' => ∃ A' cap', e = .returned (.tuple #[.slice A' 1 cap', .int .i64 3, .int .i64 0]) ∧ Rd w' w'.heap.size A' [97] ∧ Fr (fun _ => False) (w.alloc (.cells #[.int .u8 75, .int .u8 4, .int .u8 0] 5)) w') := Lib.hid (by
    have h := HP.inflate (w.alloc (.cells #[.int .u8 75, .int .u8 4, .int .u8 0] 5)) (some ⟨w.heap.size, 0, none⟩) 3 [75, 4, 0] 9 (lit_rd w [75, 4, 0] _ rfl) (fun e => by cases e) (Nat.le_refl _) (by simp) (by omega) (HDD.out _ hF0)
    rw [ex_a] at h
    exact h)
  have HF0 := Lib.hid hF0
  clear HP hF0 hD
  go_enter Tryd.func7, Tryd.ntmps7
  go_wp2_with fail
  refine H1.out.mono ?_
  rintro e w1 ⟨A1, c1, rfl, hR1, hF1⟩
  have HR1 := Lib.hid (⟨hR1, HF0.out.trans hF1 (fun _ _ e => e)⟩ : _ ∧ _)
  have H2 : Hid (Calls Tryd.prog 12 #[.slice (some ⟨w1.heap.size, 0, none⟩) 5 5, .int .i64 0] (w1.alloc (.cells #[.int .u8 1, .int .u8 0, .int .u8 0, .int .u8 255, .int .u8 255] 5)) fun e w' => ∃ A' cap', e = .returned (.tuple #[.slice A' 0 cap', .int .i64 5, .int .i64 0]) ∧ Fr (fun _ => False) (w1.alloc (.cells #[.int .u8 1, .int .u8 0, .int .u8 0, .int .u8 255, .int .u8 255] 5)) w') := Lib.hid (by
    have h := HPP.out.inflate (w1.alloc (.cells #[.int .u8 1, .int .u8 0, .int .u8 0, .int .u8 255, .int .u8 255] 5)) (some ⟨w1.heap.size, 0, none⟩) 5 [1, 0, 0, 255, 255] 0 (lit_rd w1 [1, 0, 0, 255, 255] _ rfl) (fun e => by cases e) (Nat.le_refl _) (by simp) (by omega) (HDD.out _ (HR1.out.2.alloc _))
    rw [ex_b] at h
    exact h.mono fun e w' ⟨A', c', he, _, hF⟩ => ⟨A', c', he, hF⟩)
  clear hR1 hF1 H1 HF0
  go_wp2_with fail
  refine H2.out.mono ?_
  rintro e w2 ⟨A2, c2, rfl, hF2⟩
  have HF12 := Lib.hid (((Fr.refl (fun _ => False) w1).alloc _).trans hF2 (fun _ _ e => e))
  have H3 : Hid (Calls Tryd.prog 12 #[.slice (some ⟨w2.heap.size, 0, none⟩) 1 1, .int .i64 9] (w2.alloc (.cells #[.int .u8 6] 5)) fun e w' => ∃ A' cap', e = .returned (.tuple #[.slice A' 0 cap', .int .i64 0, .int .i64 110]) ∧ Fr (fun _ => False) (w2.alloc (.cells #[.int .u8 6] 5)) w') := Lib.hid (by
    have h := HPP.out.inflate (w2.alloc (.cells #[.int .u8 6] 5)) (some ⟨w2.heap.size, 0, none⟩) 1 [6] 9 (lit_rd w2 [6] _ rfl) (fun e => by cases e) (Nat.le_refl _) (by simp) (by omega) (HDD.out _ ((HR1.out.2.trans HF12.out (fun _ _ e => e)).alloc _))
    rw [ex_c] at h
    exact h.mono fun e w' ⟨A', c', he, _, hF⟩ => ⟨A', c', he, hF⟩)
  clear hF2 H2
  go_wp2_with fail
  refine H3.out.mono ?_
  rintro e w3 ⟨A3, c3, rfl, hF3⟩
  have hF13 := (HF12.out.trans ((Fr.refl (fun _ => False) w2).alloc _) (fun _ _ e => e)).trans hF3 (fun _ _ e => e)
  have HF3 := Lib.hid (HR1.out.2.trans hF13 (fun _ _ e => e))
  obtain ⟨blk, off, rfl, hblk, hc⟩ := HR1.out.1 (by simp)
  have hcv : (convert 22 9 (.slice (some ⟨blk, off, none⟩) 1 c1)).run Tryd.prog w3 = .ok (.string ⟨#[97]⟩) w3 :=
    run_convert_bytes_back (P := Tryd.prog) w3 22 9 5 ⟨blk, off, none⟩ c1 [97] Tryd.underlying22 Tryd.underlying5 Tryd.underlying9 (fun j hj => by
      rw [add_plain]
      exact (World.cell?_of_block (w := w1) (w' := w3) (a := ⟨blk, off + j, none⟩) (hF13.block blk hblk id)).trans (hc j _ (List.getElem?_eq_getElem hj)))
  clear hF3 H3 hF13 hblk hc
  go_wp2_with fail
  go_ret
  exact ⟨rfl, HF3.out⟩

set_option maxHeartbeats 4000000 in
theorem bounds_walk (HP : FlateP D ls) (w : World) (hD : D w) (A : Option Addr) (cap : Nat) (b : By) (z1 z2 : Int) (hr : Rd w w.heap.size A b) (hA : A = none → cap = 0) (hc : b.length ≤ cap) (hb : b.length ≤ 140737488351232) :
    Calls Tryd.prog 5 #[.slice A b.length cap, .int .i64 z1, .int .i64 z2] w fun e w' => e = .returned (.bool true) ∧ Fr (fun _ => False) w w' := by
  have HPP := Lib.hid HP
  have HDD := Lib.hid (fun (wx : World) (h : Fr (fun _ => False) w wx) => HP.d_keep hD h)
  have HCUT : Hid (3000 < b.length → Rd w w.heap.size A (b.take 3000) ∧ 3000 = (b.take 3000).length) := Lib.hid fun h => ⟨hr.take 3000, by rw [List.length_take]; omega⟩
  obtain ⟨m, hm⟩ : ∃ n, n = b.length := ⟨_, rfl⟩
  have HI := Lib.hid (⟨hr, hm, hA⟩ : _ ∧ _ ∧ _)
  have hcn : m ≤ cap := by rw [hm]; exact hc
  have hbn : m ≤ 140737488351232 := by rw [hm]; exact hb
  have HW := Lib.hid (works_any HP w hD)
  rw [← hm]
  clear HP hD hr hA hc hb hm
  go_enter Tryd.func5, Tryd.ntmps5
  go_wp2_with fail
  refine HW.out.mono ?_
  rintro e w1 ⟨rfl, hF1⟩
  have HF1 := Lib.hid hF1
  clear hF1 HW
  go_upto_if 17 with (fail)
  go_cut [0] (fun s0 wz => ∃ (bb : By) (nb : Nat), s0 = .slice A nb cap ∧ w1 = wz ∧ nb ≤ cap ∧ nb ≤ 3000 ∧ Hid (Rd w w.heap.size A bb ∧ nb = bb.length))
  case first =>
    by_cases hbig : (3000 : Int) < m
    · have hkc : 3000 ≤ cap := by omega
      have HZ := Lib.hid (HCUT.out (by rw [← HI.out.2.1]; omega))
      go_wp2_with fail
      go_meet
      exact ⟨b.take 3000, 3000, rfl, rfl, hkc, Nat.le_refl _, HZ⟩
    · have h3 : m ≤ 3000 := by omega
      go_wp2_with fail
      go_meet
      exact ⟨b, m, rfl, rfl, hcn, h3, (show _ ∧ _ from ⟨HI.out.1, HI.out.2.1⟩)⟩
  obtain ⟨bb, nb, rfl, rfl, hnc, hn3, HBB⟩ := hcut
  clear hcn hbn HCUT
  have HA1 := Lib.hid (fun w0 : World => among_nat w0 z1 5000 (by omega) (by omega))
  have HA2 := Lib.hid (fun w0 : World => among_nat w0 z2 5000 (by omega) (by omega))
  go_wp2_with fail
  refine (HA1.out w1).mono ?_
  rintro e w' ⟨k1, hk1, rfl, rfl⟩
  obtain ⟨v, hv⟩ : ∃ v, v = inflV bb (k1 : Int) := ⟨_, rfl⟩
  have HN1 := Lib.hid (HPP.out.inflate w1 A cap bb (k1 : Int) ((HBB.out.1.still HF1.out (Nat.le_refl _)).more HF1.out.size) HI.out.2.2 (by rw [← HBB.out.2]; exact hnc) (by rw [← HBB.out.2]; omega) (by omega) (HDD.out _ HF1.out))
  rw [← hv, ← HBB.out.2] at HN1
  obtain ⟨x, hx⟩ : ∃ x, x = v.1 := ⟨_, rfl⟩
  obtain ⟨n, hn⟩ : ∃ x, x = v.2.1 := ⟨_, rfl⟩
  obtain ⟨z, hz⟩ : ∃ x, x = v.2.2 := ⟨_, rfl⟩
  have HV := Lib.hid (⟨hv, hx, hn, hz⟩ : _ ∧ _ ∧ _ ∧ _)
  rw [← hx, ← hn, ← hz] at HN1
  clear hv hx hn hz HA1
  go_wp2_with fail
  refine HN1.out.mono ?_
  rintro e w2 ⟨A1, c1, rfl, hR1, hF2⟩
  have H2 := Lib.hid (⟨hR1, HF1.out.trans hF2 (fun _ _ e => e)⟩ : _ ∧ _)
  clear hR1 hF2 HN1
  go_wp2_with fail
  refine (HA2.out w2).mono ?_
  rintro e w' ⟨k2, hk2, rfl, rfl⟩
  obtain ⟨m2, hm2⟩ : ∃ m2, m2 = k1 + k2 := ⟨_, rfl⟩
  have hmm : (k1 : Int) + (k2 : Int) = (m2 : Int) := by omega
  have hbd := bounds_ok (b := bb) (most := k1) (by omega) (m2 := m2) (by omega) (by omega)
  rw [← HV.out.1, ← HV.out.2.1, ← HV.out.2.2.1, ← HV.out.2.2.2] at hbd
  have HN2 := Lib.hid (HPP.out.inflate w2 A cap bb (m2 : Int) ((HBB.out.1.still H2.out.2 (Nat.le_refl _)).more H2.out.2.size) HI.out.2.2 (by rw [← HBB.out.2]; exact hnc) (by rw [← HBB.out.2]; omega) (by omega) (HDD.out _ H2.out.2))
  rw [← HBB.out.2] at HN2 hbd
  obtain ⟨lx, hlx⟩ : ∃ lx, lx = x.length := ⟨_, rfl⟩
  have HLX := Lib.hid hlx
  rw [← hlx] at hbd ⊢
  obtain ⟨b1, b2, b3, b4⟩ := hbd
  by_cases hz0 : z = 0
  · have h3 := b3 hz0
    rw [h3, ← HV.out.2.1, ← HV.out.2.2.1, ← HV.out.2.2.2] at HN2
    subst hz0
    have hx9 : lx ≤ 5000 := by omega
    rw [← hlx] at HN2
    clear b3 b4 h3 hlx hm2 HA2
    go_wp2_with fail
    refine HN2.out.mono ?_
    rintro e w3 ⟨A2, c2, rfl, hR2, hF3⟩
    have HSM := Lib.hid (same_any w3 A1 A2 w3.heap.size w3.heap.size c1 c2 x x ((H2.out.1.still hF3 (Nat.le_refl _)).more hF3.size) hR2 (by rw [← HLX.out]; omega))
    rw [decide_eq_true rfl, ← HLX.out] at HSM
    have HF3 := Lib.hid (H2.out.2.trans hF3 (fun _ _ e => e))
    clear hR2 hF3 HN2
    go_wp2_with fail
    refine HSM.out.mono ?_
    rintro e w4 ⟨rfl, hC⟩
    have HF4 := Lib.hid (HF3.out.trans hC.fr (fun _ _ e => e))
    clear hC HSM
    go_wp2_with fail
    go_ret
    exact ⟨rfl, HF4.out⟩
  · have h4 := b4 hz0
    have hne : (z == 0) = false := by simpa using hz0
    obtain ⟨x2, hx2⟩ : ∃ x, x = (inflV bb (m2 : Int)).1.length := ⟨_, rfl⟩
    obtain ⟨n2, hn2⟩ : ∃ x, x = (inflV bb (m2 : Int)).2.1 := ⟨_, rfl⟩
    obtain ⟨zz, hzz⟩ : ∃ x, x = (inflV bb (m2 : Int)).2.2 := ⟨_, rfl⟩
    rw [← hx2, ← hn2, ← hzz] at HN2
    rw [← hzz] at h4
    clear b3 b4 hlx hm2 HA2 hx2 hn2 hzz hz0
    by_cases h33 : z = 3
    · subst h33
      clear h4
      go_wp2_with fail
      refine HN2.out.mono ?_
      rintro e w3 ⟨A2, c2, rfl, hR2, hF3⟩
      have HF3 := Lib.hid (H2.out.2.trans hF3 (fun _ _ e => e))
      clear hR2 hF3 HN2
      go_wp2_with fail
      go_ret
      exact ⟨rfl, HF3.out⟩
    · obtain rfl : z = zz := h4.resolve_left h33
      have hn33 : (z == 3) = false := by simpa using h33
      clear h4 h33
      go_wp2_with fail
      refine HN2.out.mono ?_
      rintro e w3 ⟨A2, c2, rfl, hR2, hF3⟩
      have HF3 := Lib.hid (H2.out.2.trans hF3 (fun _ _ e => e))
      clear hR2 hF3 HN2
      go_wp2_with fail
      go_ret
      exact ⟨rfl, HF3.out⟩
end
end Go.Proofs.YtmnokhkpicjdaaaDoor.ft
