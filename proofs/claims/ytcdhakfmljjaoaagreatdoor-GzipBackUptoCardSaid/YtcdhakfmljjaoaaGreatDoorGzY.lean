/-
  GzipBack over what is asked of the program's frames.
-/
import Derived.Test.YtcdhakfmljjaoaaGreatDoorGzX
namespace Go.Proofs.YtcdhakfmljjaoaaGreatDoor.gz
set_option maxRecDepth 100000
open Go.RowKit Go.Maps Go.Proofs.YtcdhakfmljjaoaaGreatDoor.fl Go.Proofs.YtcdhakfmljjaoaaGreatDoor.cd Go.Proofs.YtcdhakfmljjaoaaGreatDoor.ft
set_option maxRecDepth 100000

section
variable {D : World → Prop} {sum : By → Nat} {ls : Nat → Nat}
set_option maxHeartbeats 400000 in
theorem gback_walk (HP : GzipP D sum ls) (w : World) (hD : D w) (A : Option Addr) (cap : Nat) (b : By) (name note : ByteArray) (A2 : Option Addr) (cap2 : Nat) (ex : By) (hcb : Bool) (hr : Rd w w.heap.size A b) (hA : A = none → cap = 0) (hc : b.length ≤ cap) (hb : b.length ≤ 140737488351232) (hnm : name.size ≤ 1048576) (hnt : note.size ≤ 1048576) (hr2 : Rd w w.heap.size A2 ex) (hA2 : A2 = none → cap2 = 0) (hc2 : ex.length ≤ cap2) (hl2 : cap2 ≤ 1048576) :
    Calls Tryz.prog 4 #[.slice A b.length cap, .string name, .string note, .slice A2 ex.length cap2, .bool hcb] w fun e w' => e = .returned (.bool true) ∧ Fr (fun _ => False) w w' := by
  have HPP := Lib.hid HP
  have HDD := Lib.hid (fun (wx : World) (h : Fr (fun _ => False) w wx) => HP.d_keep hD h)
  have HCUT : Hid (20000 < b.length → Rd w w.heap.size A (b.take 20000) ∧ 20000 = (b.take 20000).length) := Lib.hid fun h => ⟨hr.take 20000, by rw [List.length_take]; omega⟩
  obtain ⟨m, hm⟩ : ∃ n, n = b.length := ⟨_, rfl⟩
  have HI := Lib.hid (⟨hr, hm, hA⟩ : _ ∧ _ ∧ _)
  obtain ⟨ne, hne⟩ : ∃ n, n = ex.length := ⟨_, rfl⟩
  have HE := Lib.hid (⟨hr2, hne, hA2, hc2, Nat.le_trans hc2 hl2⟩ : _ ∧ _ ∧ _ ∧ _ ∧ _)
  have hcn : m ≤ cap := by rw [hm]; exact hc
  have hbn : m ≤ 140737488351232 := by rw [hm]; exact hb
  have HW := Lib.hid (works_any HP w hD)
  rw [← hm, ← hne]
  clear HP hD hr hA hc hb hm hr2 hA2 hc2 hl2 hne
  go_enter Tryz.func4, Tryz.ntmps4
  go_wp2_with fail
  refine HW.out.mono ?_
  rintro e w1 ⟨rfl, hF1⟩
  have HF1 := Lib.hid hF1
  clear hF1 HW
  go_upto_if 20 with (fail)
  go_cut [0] (fun s0 wz => ∃ (bb : By) (nb : Nat), s0 = .slice A nb cap ∧ w1 = wz ∧ nb ≤ cap ∧ nb ≤ 20000 ∧ Hid (Rd w w.heap.size A bb ∧ nb = bb.length))
  case first =>
    by_cases hbig : (20000 : Int) < m
    · have hkc : 20000 ≤ cap := by omega
      have HZ := Lib.hid (HCUT.out (by rw [← HI.out.2.1]; omega))
      go_wp2_with fail
      go_meet
      exact ⟨b.take 20000, 20000, rfl, rfl, hkc, Nat.le_refl _, HZ⟩
    · have h3 : m ≤ 20000 := by omega
      go_wp2_with fail
      go_meet
      exact ⟨b, m, rfl, rfl, hcn, h3, (show _ ∧ _ from ⟨HI.out.1, HI.out.2.1⟩)⟩
  obtain ⟨bb, nb, rfl, rfl, hnc, hn3, HBB⟩ := hcut
  clear hcn hbn HCUT
  have HWR := Lib.hid (HPP.out.wrap w1 A cap bb ((HBB.out.1.still HF1.out (Nat.le_refl _)).more HF1.out.size) HI.out.2.2 (by rw [← HBB.out.2]; exact hnc) (by rw [← HBB.out.2]; omega) (HDD.out _ HF1.out))
  have hback := wrap_back (sum := sum) (b := bb) (most := nb) HPP.out.lens HPP.out.small (by rw [← HBB.out.2]; exact Nat.le_refl _) (by omega)
  have hsm := wrap_small (sum := sum) HPP.out.lens bb
  obtain ⟨z, hz⟩ : ∃ z, z = wrapV sum ls bb := ⟨_, rfl⟩
  obtain ⟨lz, hlz⟩ : ∃ lz, lz = z.length := ⟨_, rfl⟩
  unfold NewB at HWR
  rw [← hz, ← hlz, ← HBB.out.2] at HWR
  rw [← hz] at hback
  rw [← hz, ← hlz, ← HBB.out.2] at hsm
  have hsz : lz ≤ 41000 := by omega
  have HZ := Lib.hid (⟨hback, hlz⟩ : _ ∧ _)
  clear hback hz hlz hsm
  go_wp2_with fail
  refine HWR.out.mono ?_
  rintro e w2 ⟨A3, c3, rfl, hO2, hF2⟩
  have hO2b : Own w2 w1.heap.size (.slice A3 z.length c3) z := by rw [← HZ.out.2]; exact hO2
  have hop := HPP.out.opn w2 A3 c3 z (nb : Int) (Own.rd hO2b) (own_cap2 hO2b).1 (own_cap2 hO2b).2 (by rw [← HZ.out.2]; omega) (by omega) (HDD.out _ (HF1.out.trans hF2 (fun _ _ e => e)))
  rw [HZ.out.1, ← HZ.out.2, ← HBB.out.2] at hop
  have HOP := Lib.hid hop
  have HF2 := Lib.hid (HF1.out.trans hF2 (fun _ _ e => e))
  clear hO2 hF2 hO2b hop HWR
  go_wp2_with fail
  refine HOP.out.mono ?_
  rintro e w3 ⟨A4, c4, rfl, hR3, hF3⟩
  have hF03 := HF2.out.trans hF3 (fun _ _ e => e)
  have HSM := Lib.hid (same_any w3 A4 A w3.heap.size w.heap.size c4 cap bb bb hR3 (HBB.out.1.still hF03 (Nat.le_refl _)) (by rw [← HBB.out.2]; omega))
  rw [decide_eq_true rfl, ← HBB.out.2] at HSM
  have HF3 := Lib.hid hF03
  clear hR3 hF3 hF03 HOP
  go_wp2_with fail
  refine HSM.out.mono ?_
  rintro e w4 ⟨rfl, hC⟩
  have HF4 := Lib.hid (HF3.out.trans hC.fr (fun _ _ e => e))
  clear hC HSM
  have hdr := HPP.out.dress w4 A cap bb name note A2 cap2 ex hcb ((HBB.out.1.still HF4.out (Nat.le_refl _)).more HF4.out.size) HI.out.2.2 (by rw [← HBB.out.2]; exact hnc) (by rw [← HBB.out.2]; omega) hnm hnt ((HE.out.1.still HF4.out (Nat.le_refl _)).more HF4.out.size) HE.out.2.2.1 HE.out.2.2.2.1 HE.out.2.2.2.2 (HDD.out _ HF4.out)
  by_cases hmay : mayD name.data.toList note.data.toList ex = true
  · obtain ⟨y, hy⟩ : ∃ y, y = dressB sum ls bb name.data.toList note.data.toList ex hcb := ⟨_, rfl⟩
    have hv : dressV sum ls bb name.data.toList note.data.toList ex hcb = (y, 0) := by
      unfold dressV
      rw [if_pos hmay, hy]
    have hsm := dress_small (sum := sum) HPP.out.lens bb name.data.toList note.data.toList ex hcb
    have hback := dress_back (hc := hcb) (b := bb) (most := nb) HPP.out.lens HPP.out.small hmay (by rw [← HBB.out.2]; exact Nat.le_refl _) (by omega)
    have hhead := dress_head (sum := sum) (hc := hcb) (ls := ls) (b := bb) hmay
    have h10 := hd_len sum name.data.toList note.data.toList ex hcb
    obtain ⟨at_, hat⟩ : ∃ n, n = (hdB sum name.data.toList note.data.toList ex hcb).length := ⟨_, rfl⟩
    have hnl : name.data.toList.length = name.size := by rw [Array.length_toList]; rfl
    have hnl2 : note.data.toList.length = note.size := by rw [Array.length_toList]; rfl
    obtain ⟨ly, hly⟩ : ∃ ly, ly = y.length := ⟨_, rfl⟩
    have hex := HE.out.2.2.2.2
    rw [hv, ← HBB.out.2, ← HE.out.2.1] at hdr
    rw [← hy, ← hly, hnl, hnl2, ← HBB.out.2] at hsm
    rw [← hy] at hback hhead
    rw [← hat] at hhead h10
    rw [← hly] at hhead
    obtain ⟨hh1, hh2⟩ := hhead
    have hsy : ly ≤ 3300000 := by omega
    have HY := Lib.hid (⟨hback, hh1, hly⟩ : _ ∧ _ ∧ _)
    have HDR : Hid (Calls Tryz.prog 9 #[.slice A nb cap, .string name, .string note, .slice A2 ne cap2, .bool hcb] w4 fun e w' => ∃ A' cap', e = .returned (.tuple #[.slice A' ly cap', .int .i64 0]) ∧ Rd w' w'.heap.size A' y ∧ (A' = none → cap' = 0) ∧ ly ≤ cap' ∧ Fr (fun _ => False) w4 w') := Lib.hid (by
      rw [hly]
      exact hdr)
    have ha10 : (10 : Int) ≤ at_ := by omega
    have haly : (at_ : Int) < ly := by omega
    clear hdr hv hy hback hh1 hly hsm hnl hnl2 hmay hat hex h10
    go_wp2_with fail
    refine HDR.out.mono ?_
    rintro e w5 ⟨A5, c5, rfl, hR5, hA5, hc5, hF5⟩
    have H5 := Lib.hid (⟨hR5, HF4.out.trans hF5 (fun _ _ e => e), hA5⟩ : _ ∧ _ ∧ _)
    have hhd := HPP.out.header w5 A5 c5 y hR5 hA5 (by rw [← HY.out.2.2]; exact hc5) (by rw [← HY.out.2.2]; omega) (HDD.out _ H5.out.2.1)
    rw [HY.out.2.1, ← HY.out.2.2] at hhd
    have HHD := Lib.hid hhd
    clear hhd hR5 hA5 hF5 HDR
    go_wp2_with fail
    refine HHD.out.mono ?_
    rintro e w6 ⟨rfl, hF6⟩
    have hF06 := H5.out.2.1.trans hF6 (fun _ _ e => e)
    have hop := HPP.out.opn w6 A5 c5 y (nb : Int) ((H5.out.1.still hF6 (Nat.le_refl _)).more hF6.size) H5.out.2.2 (by rw [← HY.out.2.2]; exact hc5) (by rw [← HY.out.2.2]; omega) (by omega) (HDD.out _ hF06)
    rw [HY.out.1, ← HY.out.2.2, ← HBB.out.2] at hop
    have HOP := Lib.hid hop
    have HF6 := Lib.hid hF06
    clear hop hF6 hF06 HHD
    go_wp2_with fail
    refine HOP.out.mono ?_
    rintro e w7 ⟨A7, c7, rfl, hR7, hF7⟩
    have hF07 := HF6.out.trans hF7 (fun _ _ e => e)
    have HSM := Lib.hid (same_any w7 A7 A w7.heap.size w.heap.size c7 cap bb bb hR7 (HBB.out.1.still hF07 (Nat.le_refl _)) (by rw [← HBB.out.2]; omega))
    rw [decide_eq_true rfl, ← HBB.out.2] at HSM
    have HF7 := Lib.hid hF07
    clear hR7 hF7 hF07 HOP
    go_wp2_with fail
    refine HSM.out.mono ?_
    rintro e w8 ⟨rfl, hC⟩
    have HF8 := Lib.hid (HF7.out.trans hC.fr (fun _ _ e => e))
    clear hC HSM
    go_wp2_with fail
    go_ret
    exact ⟨rfl, HF8.out⟩
  · have hv : dressV sum ls bb name.data.toList note.data.toList ex hcb = ([], 2) := by
      unfold dressV
      rw [if_neg hmay]
    rw [hv, ← HBB.out.2, ← HE.out.2.1] at hdr
    have HDR : Hid (Calls Tryz.prog 9 #[.slice A nb cap, .string name, .string note, .slice A2 ne cap2, .bool hcb] w4 fun e w' => ∃ A' cap', e = .returned (.tuple #[.slice A' 0 cap', .int .i64 2]) ∧ Fr (fun _ => False) w4 w') := Lib.hid (hdr.mono fun e w' ⟨A', c', he, _, _, _, hF⟩ => ⟨A', c', he, hF⟩)
    clear hdr hv hmay
    go_wp2_with fail
    refine HDR.out.mono ?_
    rintro e w5 ⟨A5, c5, rfl, hF5⟩
    have HF5 := Lib.hid (HF4.out.trans hF5 (fun _ _ e => e))
    clear hF5
    go_wp2_with fail
    go_ret
    exact ⟨rfl, HF5.out⟩
end
end Go.Proofs.YtcdhakfmljjaoaaGreatDoor.gz
