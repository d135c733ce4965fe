/-
  GzipWrites over what is asked of the program's frames.
-/
import Derived.Test.YtcdhakfmljjaoaaGreatDoorGzX
import Derived.Test.YtcdhakfmljjaoaaGreatDoorGzT
namespace Go.Proofs.YtcdhakfmljjaoaaGreatDoor.gz
set_option maxRecDepth 100000
open Go.RowKit Go.Maps Go.Proofs.YtcdhakfmljjaoaaGreatDoor.fl Go.Proofs.YtcdhakfmljjaoaaGreatDoor.cd Go.Proofs.YtcdhakfmljjaoaaGreatDoor.ft
set_option maxRecDepth 100000

section
variable {D : World → Prop}
set_option maxHeartbeats 400000 in
theorem gwrites_walk (HP : GzipP D csum rls) (w : World) (hD : D w) (A : Option Addr) (cap : Nat) (b : By) (name note : ByteArray) (A2 : Option Addr) (cap2 : Nat) (ex : By) (hcb : Bool) (hr : Rd w w.heap.size A b) (hA : A = none → cap = 0) (hc : b.length ≤ cap) (hb : b.length ≤ 140737488351232) (hnm : name.size ≤ 1048576) (hnt : note.size ≤ 1048576) (hr2 : Rd w w.heap.size A2 ex) (hA2 : A2 = none → cap2 = 0) (hc2 : ex.length ≤ cap2) (hl2 : cap2 ≤ 1048576) :
    Calls Tryz.prog 3 #[.slice A b.length cap, .string name, .string note, .slice A2 ex.length cap2, .bool hcb] w fun e w' => e = .returned (.bool true) ∧ Fr (fun _ => False) w w' := by
  have HPP := Lib.hid HP
  have HDD := Lib.hid (fun (wx : World) (h : Fr (fun _ => False) w wx) => HP.d_keep hD h)
  have HCUT : Hid (2000 < b.length → Rd w w.heap.size A (b.take 2000) ∧ 2000 = (b.take 2000).length) := Lib.hid fun h => ⟨hr.take 2000, by rw [List.length_take]; omega⟩
  obtain ⟨m, hm⟩ : ∃ n, n = b.length := ⟨_, rfl⟩
  have HI := Lib.hid (⟨hr, hm, hA⟩ : _ ∧ _ ∧ _)
  obtain ⟨ne, hne⟩ : ∃ n, n = ex.length := ⟨_, rfl⟩
  have HE := Lib.hid (⟨hr2, hne, hA2, hc2, Nat.le_trans hc2 hl2⟩ : _ ∧ _ ∧ _ ∧ _ ∧ _)
  have hcn : m ≤ cap := by rw [hm]; exact hc
  have hbn : m ≤ 140737488351232 := by rw [hm]; exact hb
  have HW := Lib.hid (fun (wx : World) (h : Fr (fun _ => False) w wx) => works_any HP wx (HP.d_keep hD h))
  rw [← hm, ← hne]
  clear HP hD hr hA hc hb hm hr2 hA2 hc2 hl2 hne
  go_enter Tryz.func3, Tryz.ntmps3
  go_upto_if 20 with (fail)
  go_cut [0] (fun s0 wz => ∃ (bb : By) (nb : Nat), s0 = .slice A nb cap ∧ w = wz ∧ nb ≤ cap ∧ nb ≤ 2000 ∧ Hid (Rd w w.heap.size A bb ∧ nb = bb.length))
  case first =>
    by_cases hbig : (2000 : Int) < m
    · have hkc : 2000 ≤ cap := by omega
      have HZ := Lib.hid (HCUT.out (by rw [← HI.out.2.1]; omega))
      go_wp2_with fail
      go_meet
      exact ⟨b.take 2000, 2000, rfl, rfl, hkc, Nat.le_refl _, HZ⟩
    · have h3 : m ≤ 2000 := by omega
      go_wp2_with fail
      go_meet
      exact ⟨b, m, rfl, rfl, hcn, h3, (show _ ∧ _ from ⟨HI.out.1, HI.out.2.1⟩)⟩
  obtain ⟨bb, nb, rfl, rfl, hnc, hn3, HBB⟩ := hcut
  clear hcn hbn HCUT
  have hby := bytes_any w A cap bb HBB.out.1 HI.out.2.2 (by rw [← HBB.out.2]; omega)
  unfold NewB at hby
  rw [← HBB.out.2] at hby
  have HBY := Lib.hid hby
  clear hby
  go_wp2_with fail
  refine HBY.out.mono ?_
  rintro e w1 ⟨A3, c3, rfl, hO1, hF1⟩
  have hO1b : Own w1 w.heap.size (.slice A3 bb.length c3) bb := by rw [← HBB.out.2]; exact hO1
  have H1 := Lib.hid (⟨Own.rd hO1b, own_cap2 hO1b, hF1⟩ : _ ∧ _ ∧ _)
  have hby := bytes_any w1 A2 cap2 ex ((HE.out.1.still hF1 (Nat.le_refl _)).more hF1.size) HE.out.2.2.1 (by have := HE.out.2.2.2.2; omega)
  unfold NewB at hby
  rw [← HE.out.2.1] at hby
  have HBY2 := Lib.hid hby
  clear hby hO1 hO1b hF1 HBY
  go_wp2_with fail
  refine HBY2.out.mono ?_
  rintro e w2 ⟨A4, c4, rfl, hO2, hF2⟩
  have hO2b : Own w2 w1.heap.size (.slice A4 ex.length c4) ex := by rw [← HE.out.2.1]; exact hO2
  have hF02 := H1.out.2.2.trans hF2 (fun _ _ e => e)
  have hdr := HPP.out.dress w2 A3 c3 bb name note A4 c4 ex hcb ((H1.out.1.still hF2 (Nat.le_refl _)).more hF2.size) H1.out.2.1.1 H1.out.2.1.2 (by rw [← HBB.out.2]; omega) hnm hnt (Own.rd hO2b) (own_cap2 hO2b).1 (own_cap2 hO2b).2 HE.out.2.2.2.2 (HDD.out _ hF02)
  obtain ⟨X, hX⟩ : ∃ X, X = (dressV csum rls bb name.data.toList note.data.toList ex hcb).1 := ⟨_, rfl⟩
  obtain ⟨E, hE⟩ : ∃ E, E = (dressV csum rls bb name.data.toList note.data.toList ex hcb).2 := ⟨_, rfl⟩
  obtain ⟨lx, hlx⟩ : ∃ lx, lx = X.length := ⟨_, rfl⟩
  rw [← hX, ← hE, ← hlx, ← HBB.out.2, ← HE.out.2.1] at hdr
  have HDR := Lib.hid hdr
  have HX := Lib.hid (⟨hX, hE, hlx⟩ : _ ∧ _ ∧ _)
  have HF2 := Lib.hid hF02
  have H2 := Lib.hid (⟨(H1.out.1.still hF2 (Nat.le_refl _)).more hF2.size, H1.out.2.1⟩ : _ ∧ _)
  clear hdr hX hE hlx hO2 hO2b hF2 hF02 HBY2 H1
  go_wp2_with fail
  refine HDR.out.mono ?_
  rintro e w3 ⟨A5, c5, rfl, hR5, hA5, hc5, hF3⟩
  have H3 := Lib.hid (⟨hR5, HF2.out.trans hF3 (fun _ _ e => e), (H2.out.1.still hF3 (Nat.le_refl _)).more hF3.size, H2.out.2⟩ : _ ∧ _ ∧ _ ∧ _)
  have hdr := rdress w3 A cap bb name note A2 cap2 ex hcb ((HBB.out.1.still H3.out.2.1 (Nat.le_refl _)).more H3.out.2.1.size) (by rw [← HBB.out.2]; omega) hnm hnt ((HE.out.1.still H3.out.2.1 (Nat.le_refl _)).more H3.out.2.1.size) HE.out.2.2.1 HE.out.2.2.2.2
  unfold OutE at hdr
  rw [← HX.out.1, ← HX.out.2.1, ← HX.out.2.2, ← HBB.out.2, ← HE.out.2.1] at hdr
  have HDR2 := Lib.hid hdr
  clear hdr hR5 hA5 hc5 hF3 HDR H2
  go_wp2_with fail
  refine HDR2.out.mono ?_
  rintro e w4 ⟨A6, c6, rfl, hO6, hF4⟩
  have hO6b : Own w4 w3.heap.size (.slice A6 X.length c6) X := by rw [← HX.out.2.2]; exact hO6
  have hF04 := H3.out.2.1.trans hF4 (fun _ _ e => e)
  have H4 := Lib.hid (⟨hF04, (H3.out.1.still hF4 (Nat.le_refl _)).more hF4.size, Own.rd hO6b, (H3.out.2.2.1.still hF4 (Nat.le_refl _)).more hF4.size, H3.out.2.2.2⟩ : _ ∧ _ ∧ _ ∧ _ ∧ _)
  have hdr := rdress w4 A cap bb ⟨#[]⟩ ⟨#[]⟩ none 0 [] false ((HBB.out.1.still hF04 (Nat.le_refl _)).more hF04.size) (by rw [← HBB.out.2]; omega) (by decide) (by decide) (Rd.nil _ _ _) (fun _ => rfl) (by decide)
  obtain ⟨Z, hZ⟩ : ∃ Z, Z = wrapV csum rls bb := ⟨_, rfl⟩
  have hz : dressV csum rls bb (⟨#[]⟩ : ByteArray).data.toList (⟨#[]⟩ : ByteArray).data.toList [] false = (Z, 0) := by rw [hZ]; rfl
  obtain ⟨lz, hlz⟩ : ∃ lz, lz = Z.length := ⟨_, rfl⟩
  unfold OutE at hdr
  rw [hz, List.length_nil] at hdr
  rw [← HBB.out.2] at hdr
  have HDR3 : Hid (Calls Tryz.prog 10 #[.slice A nb cap, .string ⟨#[]⟩, .string ⟨#[]⟩, .slice none 0 0, .bool false] w4 fun e w' => ∃ A' c', e = .returned (.tuple #[.slice A' lz c', .int .i64 0]) ∧ Own w' w4.heap.size (.slice A' lz c') Z ∧ Fr (fun _ => False) w4 w') := Lib.hid (by
    rw [hlz]
    exact hdr)
  have hZl : Z.length ≤ 100000000 := by
    have h := wrap_small (sum := csum) rls_sym bb
    rw [← hZ, ← HBB.out.2] at h
    omega
  have HZ := Lib.hid (⟨hZ, hlz, hZl⟩ : _ ∧ _ ∧ _)
  clear hdr hz hZ hlz hZl hO6 hO6b hF4 hF04 HDR2 H3
  go_wp2_with fail
  refine HDR3.out.mono ?_
  rintro e w5 ⟨A7, c7, rfl, hO7, hF5⟩
  have hO7b : Own w5 w4.heap.size (.slice A7 Z.length c7) Z := by rw [← HZ.out.2.1]; exact hO7
  have hF05 := H4.out.1.trans hF5 (fun _ _ e => e)
  have H5 := Lib.hid (⟨hF05, (H4.out.2.1.still hF5 (Nat.le_refl _)).more hF5.size, (H4.out.2.2.1.still hF5 (Nat.le_refl _)).more hF5.size, (H4.out.2.2.2.1.still hF5 (Nat.le_refl _)).more hF5.size, Own.rd hO7b, H4.out.2.2.2.2⟩ : _ ∧ _ ∧ _ ∧ _ ∧ _ ∧ _)
  have hXl : X.length ≤ 100000000 := by
    rw [HX.out.1]
    unfold dressV
    split
    · have h := dress_small (sum := csum) rls_sym bb name.data.toList note.data.toList ex hcb
      have hnl : name.data.toList.length = name.size := by rw [Array.length_toList]; rfl
      have hnl2 : note.data.toList.length = note.size := by rw [Array.length_toList]; rfl
      have hex := HE.out.2.2.2.2
      rw [hnl, hnl2, ← HBB.out.2] at h
      show (dressB _ _ _ _ _ _ _).length ≤ _
      omega
    · exact Nat.zero_le _
  have HS1 := Lib.hid (same_any w5 A5 A6 _ _ c5 c6 X X H5.out.2.1 H5.out.2.2.1 (by omega))
  rw [decide_eq_true rfl, ← HX.out.2.2] at HS1
  clear hO7 hO7b hF5 hF05 HDR3 H4 hXl
  go_wp2_with fail
  refine HS1.out.mono ?_
  rintro e w6 ⟨rfl, hC⟩
  have hF06 := H5.out.1.trans hC.fr (fun _ _ e => e)
  have hR := (H5.out.2.2.2.1.still hC.fr (Nat.le_refl _)).more hC.fr.size
  have hwr := HPP.out.wrap w6 A3 c3 bb hR H5.out.2.2.2.2.2.1 H5.out.2.2.2.2.2.2 (by rw [← HBB.out.2]; omega) (HDD.out _ hF06)
  unfold NewB at hwr
  rw [← HZ.out.1, ← HZ.out.2.1, ← HBB.out.2] at hwr
  have HWR := Lib.hid hwr
  have H6 := Lib.hid (⟨hF06, hR, (H5.out.2.2.2.2.1.still hC.fr (Nat.le_refl _)).more hC.fr.size⟩ : _ ∧ _ ∧ _)
  clear hF06 hR hwr hC H5 HS1
  go_wp2_with fail
  refine HWR.out.mono ?_
  rintro e w7 ⟨A8, c8, rfl, hO8, hF7⟩
  have hO8b : Own w7 w6.heap.size (.slice A8 Z.length c8) Z := by rw [← HZ.out.2.1]; exact hO8
  have hF07 := H6.out.1.trans hF7 (fun _ _ e => e)
  have HS2 := Lib.hid (same_any w7 A8 A7 _ _ c8 c7 Z Z (Own.rd hO8b) (H6.out.2.2.still hF7 (Nat.le_refl _)) (by have := HZ.out.2.2; omega))
  rw [decide_eq_true rfl, ← HZ.out.2.1] at HS2
  have H7 := Lib.hid (⟨hF07, (H6.out.2.1.still hF7 (Nat.le_refl _)).more hF7.size⟩ : _ ∧ _)
  clear hO8 hO8b hF7 hF07 H6 HWR
  go_wp2_with fail
  refine HS2.out.mono ?_
  rintro e w8 ⟨rfl, hC⟩
  have hF08 := H7.out.1.trans hC.fr (fun _ _ e => e)
  have HS3 := Lib.hid (same_any w8 A3 A _ w.heap.size c3 cap bb bb ((H7.out.2.still hC.fr (Nat.le_refl _)).more hC.fr.size) (HBB.out.1.still hF08 (Nat.le_refl _)) (by rw [← HBB.out.2]; omega))
  rw [decide_eq_true rfl, ← HBB.out.2] at HS3
  have HF8 := Lib.hid hF08
  clear hC hF08 HS2 H7
  go_wp2_with fail
  refine HS3.out.mono ?_
  rintro e w9 ⟨rfl, hC⟩
  have HF9 := Lib.hid (HF8.out.trans hC.fr (fun _ _ e => e))
  clear hC HS3
  go_wp2_with fail
  refine (HW.out _ HF9.out).mono ?_
  rintro e wa ⟨rfl, hFa⟩
  have HFa := Lib.hid (HF9.out.trans hFa (fun _ _ e => e))
  clear hFa
  go_wp2_with fail
  go_ret
  exact ⟨rfl, HFa.out⟩
end
end Go.Proofs.YtcdhakfmljjaoaaGreatDoor.gz
