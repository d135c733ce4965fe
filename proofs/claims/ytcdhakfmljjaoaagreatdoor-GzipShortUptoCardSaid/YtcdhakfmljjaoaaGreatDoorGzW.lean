/-
  The law's works; GzipFinds over what is asked of the program's frames.
-/
import Derived.Test.YtcdhakfmljjaoaaGreatDoorGzQ
import Derived.Lib.SlBytesConst
namespace Go.Proofs.YtcdhakfmljjaoaaGreatDoor.gz
set_option maxRecDepth 100000
open Go.RowKit Go.Maps Go.Proofs.YtcdhakfmljjaoaaGreatDoor.fl Go.Proofs.YtcdhakfmljjaoaaGreatDoor.cd Go.Proofs.YtcdhakfmljjaoaaGreatDoor.ft
set_option maxRecDepth 100000

theorem wrap_back {sum : By → Nat} {ls : Nat → Nat} (hl : LenSym ls) (hs : ∀ b, sum b < 4294967296) {b : By} {most : Nat} (hb : b.length ≤ most) (hmx : most ≤ 262144) : openV sum (wrapV sum ls b) most = (b, 0) :=
  dress_back hl hs (by decide) hb hmx
theorem wrap_len (sum : By → Nat) (ls : Nat → Nat) (b : By) : 18 ≤ (wrapV sum ls b).length := by
  have := hd_len sum [] [] [] false
  unfold wrapV dressB
  rw [List.length_append, List.length_append, List.length_append, numL_len, numL_len]
  omega
theorem wrap_small {sum : By → Nat} {ls : Nat → Nat} (hl : LenSym ls) (b : By) : (wrapV sum ls b).length ≤ 2 * b.length + 100 := by
  have h := runs_small hl b
  have h2 : (hdB sum [] [] [] false).length = 10 := rfl
  unfold wrapV dressB
  rw [List.length_append, List.length_append, List.length_append, numL_len, numL_len, h2]
  omega

theorem u8_of2 {n : Int} (h : (Lit.int .u8 n).wf = true) : ∃ c : UInt8, n = (c.toNat : Int) := by
  have h1 : (decide (0 ≤ n) && decide (n ≤ 255)) = true := h
  have h2 : 0 ≤ n ∧ n ≤ 255 := by simpa using h1
  refine ⟨UInt8.ofNat n.toNat, ?_⟩
  rw [UInt8.toNat_ofNat']
  omega
theorem size_of {s : ByteArray} {n : Nat} (h : s.data.toList.length ≤ n) : s.size ≤ n := by
  rw [Array.length_toList] at h
  exact h
theorem lit_rdM (w : World) (x : List UInt8) (cs : Array Value) (fr : Nat × Nat) (h : cs = (bs x).toArray) : Rd (w.alloc (.cells cs 5 fr)) (w.alloc (.cells cs 5 fr)).heap.size (some ⟨w.heap.size, 0, none⟩) x := fun _ => ⟨w.heap.size, 0, rfl, by rw [World.size_alloc]; omega, fun j y hj => by
  rw [Nat.zero_add, World.cell?_alloc_mark, h]
  simp [bs_get, hj]⟩
/-- The one letter, framed. -/
def exZ : By := [31, 139, 8, 0, 0, 0, 0, 0, 0, 0, 75, 4, 0, 67, 190, 183, 232, 1, 0, 0, 0]
section
variable {D : World → Prop} {sum : By → Nat} {ls : Nat → Nat}
set_option maxHeartbeats 4000000 in
theorem works_any (HP : GzipP D sum ls) (w : World) (hD : D w) : Calls Tryz.prog 13 #[] w fun e w' => e = .returned (.bool true) ∧ Fr (fun _ => False) w w' := by
  have HPP := Lib.hid HP
  have HDD := Lib.hid (fun (wx : World) (h : Fr (fun _ => False) w wx) => HP.d_keep hD h)
  have hex : wrapV sum ls [97] = exZ := HP.ex
  have hopen : openV sum exZ (9 : Nat) = ([97], 0) := by
    rw [← hex]
    exact wrap_back HP.lens HP.small (by decide) (by decide)
  have HOP := Lib.hid hopen
  have hF0 := (Fr.refl (fun _ => False) w).alloc (.cells #[.int .u8 97] 5 (1, 2))
  have H1 : Hid (Calls Tryz.prog 12 #[.slice (some ⟨w.heap.size, 0, none⟩) 1 1] (w.alloc (.cells #[.int .u8 97] 5 (1, 2))) fun e w' => ∃ A' cap', e = .returned (.slice A' 21 cap') ∧ Own w' (w.alloc (.cells #[.int .u8 97] 5 (1, 2))).heap.size (.slice A' 21 cap') exZ ∧ Fr (fun _ => False) (w.alloc (.cells #[.int .u8 97] 5 (1, 2))) w') := Lib.hid (by
    have h := HP.wrap (w.alloc (.cells #[.int .u8 97] 5 (1, 2))) (some ⟨w.heap.size, 0, none⟩) 1 [97] (lit_rdM w [97] _ _ rfl) (fun e => by cases e) (Nat.le_refl _) (by simp) (HDD.out _ hF0)
    rw [hex] at h
    exact h)
  have HF0 := Lib.hid hF0
  clear HP hF0 hD hex hopen
  have kc : (convert 22 22 (.slice (some ⟨w.heap.size, 0, none⟩) 1 1)).run Tryz.prog (w.alloc (.cells #[.int .u8 97] 5)) = .ok (.slice (some ⟨w.heap.size, 0, none⟩) 1 1) (w.alloc (.cells #[.int .u8 97] 5 (1, 2))) := Lib.run_convert_bytes_const (P := Tryz.prog) w 22 5 #[.int .u8 97] 1 1 Tryz.underlying22 Tryz.underlying5
  go_enter Tryz.func13, Tryz.ntmps13
  go_wp2_with fail
  refine H1.out.mono ?_
  rintro e w1 ⟨A1, c1, rfl, hO1, hF1⟩
  have HR1 := Lib.hid (⟨Own.rd (l := exZ) hO1, HF0.out.trans hF1 (fun _ _ e => e), own_cap2 hO1⟩ : _ ∧ _ ∧ _)
  have H2 : Hid (Calls Tryz.prog 14 #[.slice A1 21 c1, .int .i64 9] w1 fun e w' => ∃ A' cap', e = .returned (.tuple #[.slice A' 1 cap', .int .i64 0]) ∧ Rd w' w'.heap.size A' [97] ∧ Fr (fun _ => False) w1 w') := Lib.hid (by
    have h := HPP.out.opn w1 A1 c1 exZ (9 : Nat) HR1.out.1 HR1.out.2.2.1 HR1.out.2.2.2 (by decide) (by omega) (HDD.out _ HR1.out.2.1)
    rw [HOP.out] at h
    exact h)
  clear hO1 hF1 H1 HF0
  go_wp2_with fail
  refine H2.out.mono ?_
  rintro e w2 ⟨A2, c2, rfl, hR2, hF2⟩
  have hF02 := HR1.out.2.1.trans hF2 (fun _ _ e => e)
  have hF3 := hF02.alloc (.cells (bs exZ).toArray 5)
  have hF13 := hF2.alloc (.cells (bs exZ).toArray 5)
  have hF23 := (Fr.refl (fun _ => False) w2).alloc (.cells (bs exZ).toArray 5)
  have HSM := Lib.hid (same_any (w2.alloc (.cells (bs exZ).toArray 5)) A1 (some ⟨w2.heap.size, 0, none⟩) _ _ c1 21 exZ exZ (HR1.out.1.still hF13 (Nat.le_refl _)) (lit_rd w2 exZ _ rfl) (by decide))
  rw [decide_eq_true rfl] at HSM
  have HF3 := Lib.hid (⟨hF3, hR2.still hF23 (Nat.le_refl _)⟩ : _ ∧ _)
  clear hR2 hF2 hF02 hF3 hF13 hF23 H2
  go_wp2_with fail
  refine HSM.out.mono ?_
  rintro e w4 ⟨rfl, hC⟩
  have HF4 := Lib.hid (HF3.out.1.trans hC.fr (fun _ _ e => e))
  obtain ⟨blk, off, rfl, hblk, hc⟩ := HF3.out.2.still hC.fr (by rw [World.size_alloc]; omega) (by simp)
  have hcv : (convert 22 9 (.slice (some ⟨blk, off, none⟩) 1 c2)).run Tryz.prog w4 = .ok (.string ⟨#[97]⟩) w4 :=
    run_convert_bytes_back (P := Tryz.prog) w4 22 9 5 ⟨blk, off, none⟩ c2 [97] Tryz.underlying22 Tryz.underlying5 Tryz.underlying9 (fun j hj => by
      rw [add_plain]
      exact hc j _ (List.getElem?_eq_getElem hj))
  clear hC HSM hblk hc
  go_wp2_with fail
  go_ret
  exact ⟨rfl, HF4.out⟩

set_option maxHeartbeats 4000000 in
theorem finds_walk (HP : GzipP D sum ls) (w : World) (hD : D w) (A : Option Addr) (cap : Nat) (b : By) (z1 : Int) (x : UInt8) (hr : Rd w w.heap.size A b) (hA : A = none → cap = 0) (hc : b.length ≤ cap) (hb : b.length ≤ 140737488351232) :
    Calls Tryz.prog 5 #[.slice A b.length cap, .int .i64 z1, .int .u8 (x.toNat : Int)] w fun e w' => e = .returned (.bool true) ∧ Fr (fun _ => False) w w' := by
  have HPP := Lib.hid HP
  have HDD := Lib.hid (fun (wx : World) (h : Fr (fun _ => False) w wx) => HP.d_keep hD h)
  have HCUT : Hid (2000 < b.length → Rd w w.heap.size A (b.take 2000) ∧ 2000 = (b.take 2000).length) := Lib.hid fun h => ⟨hr.take 2000, by rw [List.length_take]; omega⟩
  obtain ⟨m, hm⟩ : ∃ n, n = b.length := ⟨_, rfl⟩
  have HI := Lib.hid (⟨hr, hm, hA⟩ : _ ∧ _ ∧ _)
  have hcn : m ≤ cap := by rw [hm]; exact hc
  have hbn : m ≤ 140737488351232 := by rw [hm]; exact hb
  have HW := Lib.hid (works_any HP w hD)
  rw [← hm]
  clear HP hD hr hA hc hb hm
  go_enter Tryz.func5, Tryz.ntmps5
  go_wp2_with fail
  refine HW.out.mono ?_
  rintro e w1 ⟨rfl, hF1⟩
  have HF1 := Lib.hid hF1
  clear hF1 HW
  go_upto_if 15 with (fail)
  go_cut [0] (fun s0 wz => ∃ (bb : By) (nb : Nat), s0 = .slice A nb cap ∧ w1 = wz ∧ nb ≤ cap ∧ nb ≤ 2000 ∧ Hid (Rd w w.heap.size A bb ∧ nb = bb.length))
  case first =>
    by_cases hbig : (2000 : Int) < m
    · have hkc : 2000 ≤ cap := by omega
      have HZ := Lib.hid (HCUT.out (by rw [← HI.out.2.1]; omega))
      go_wp2_with fail
      go_meet
      exact ⟨b.take 2000, 2000, rfl, rfl, hkc, Nat.le_refl _, HZ⟩
    · have h3 : m ≤ 2000 := by omega
      go_wp2_with fail
      go_meet
      exact ⟨b, m, rfl, rfl, hcn, h3, (show _ ∧ _ from ⟨HI.out.1, HI.out.2.1⟩)⟩
  obtain ⟨bb, nb, rfl, rfl, hnc, hn3, HBB⟩ := hcut
  clear hcn hbn HCUT
  have HWR := Lib.hid (HPP.out.wrap w1 A cap bb ((HBB.out.1.still HF1.out (Nat.le_refl _)).more HF1.out.size) HI.out.2.2 (by rw [← HBB.out.2]; exact hnc) (by rw [← HBB.out.2]; omega) (HDD.out _ HF1.out))
  rw [← HBB.out.2] at HWR
  have hlo := wrap_len sum ls bb
  have hsm := wrap_small (sum := sum) HPP.out.lens bb
  have hfind := fun (j : Nat) (hj : j < 8) (hx : x ≠ 0) (hk : (wrapV sum ls bb).length - 8 + j < (wrapV sum ls bb).length) => wrap_found HPP.out.lens HPP.out.small (b := bb) (most := 2000) (by rw [← HBB.out.2]; exact hn3) (by omega) hj hx hk
  obtain ⟨z, hz⟩ : ∃ z, z = wrapV sum ls bb := ⟨_, rfl⟩
  rw [← hz] at HWR hlo hsm
  obtain ⟨lz, hlz⟩ : ∃ lz, lz = z.length := ⟨_, rfl⟩
  have HFD : Hid ((∀ (j : Nat) (hj : j < 8) (hx : x ≠ 0) (hk : lz - 8 + j < z.length), openV sum (z.set (lz - 8 + j) (z[lz - 8 + j] ^^^ x)) (2000 : Nat) = ([], 121)) ∧ lz = z.length) := Lib.hid ⟨by
    subst hlz
    subst hz
    exact hfind, hlz⟩
  unfold NewB at HWR
  rw [← hlz] at HWR hlo hsm
  have hsz : lz ≤ 5000 := by rw [← HBB.out.2] at hsm; omega
  clear hfind hz hlz hsm
  by_cases hx : x = 0
  · subst hx
    have t1 : (((0 : UInt8).toNat : Int) == 0) = true := by decide
    go_wp2_with fail
    refine HWR.out.mono ?_
    rintro e w2 ⟨A1, c1, rfl, _, hF2⟩
    have HF2 := Lib.hid (HF1.out.trans hF2 (fun _ _ e => e))
    clear hF2
    have h8 : (8 : Int) ≤ lz := by omega
    go_wp2_with fail
    go_ret
    exact ⟨rfl, HF2.out⟩
  · have t1 : ((x.toNat : Int) == 0) = false := by
      rw [beq_eq_false_iff_ne]
      intro e
      exact hx (UInt8.toNat_inj.1 (by rw [show (0 : UInt8).toNat = 0 from rfl]; omega))
    have HX := Lib.hid hx
    clear hx
    have HA1 := Lib.hid (fun w0 : World => among_nat w0 z1 8 (by omega) (by omega))
    have h8 : ¬ (lz : Int) < 8 := by omega
    go_wp2_with fail
    refine HWR.out.mono ?_
    rintro e w2 ⟨A1, c1, rfl, hO2, hF2⟩
    have HO2 := Lib.hid (⟨hO2, HF1.out.trans hF2 (fun _ _ e => e), trivial⟩ : _ ∧ _ ∧ True)
    clear hO2 hF2 HWR
    go_wp2_with fail
    refine (HA1.out w2).mono ?_
    rintro e w' ⟨j, hj, rfl, rfl⟩
    obtain ⟨k, hk⟩ : ∃ k, k = lz - 8 + j := ⟨_, rfl⟩
    have hkk : (lz : Int) - 8 + j = (k : Int) := by omega
    have hkl : k < lz := by omega
    have hkz : k < z.length := by rw [← HFD.out.2]; exact hkl
    have hown : Own w2 w1.heap.size (.slice A1 z.length c1) z := by rw [← HFD.out.2]; exact HO2.out.1
    obtain ⟨g, rfl, hg, _, hc, hf, hset⟩ := hown.at_ hkz
    have ho2 := hset (z[k] ^^^ x)
    have hF3 := HO2.out.2.1.setCell (p := ⟨g, k, none⟩) (Or.inr (Nat.le_trans HF1.out.size hg)) (.int .u8 ((z[k] ^^^ x).toNat : Int))
    have r1 := bits_xor8 z[k] x
    have hfd : openV sum (z.set k (z[k] ^^^ x)) (2000 : Nat) = ([], 121) := by
      subst hk
      exact HFD.out.1 j hj HX.out hkz
    have hcap := own_cap2 ho2
    have hlen : (z.set k (z[k] ^^^ x)).length = lz := by rw [List.length_set]; exact HFD.out.2.symm
    have hop := HPP.out.opn _ _ c1 (z.set k (z[k] ^^^ x)) (2000 : Nat) (Own.rd ho2) hcap.1 hcap.2 (by rw [hlen]; omega) (by omega) (HDD.out _ hF3)
    rw [hfd, hlen] at hop
    have HOP : Hid (Calls Tryz.prog 14 #[.slice (some ⟨g, 0, none⟩) lz c1, .int .i64 2000] (w2.setCell ⟨g, k, none⟩ (.int .u8 ((z[k] ^^^ x).toNat : Int))) fun e w' => ∃ A' cap', e = .returned (.tuple #[.slice A' 0 cap', .int .i64 121]) ∧ Fr (fun _ => False) (w2.setCell ⟨g, k, none⟩ (.int .u8 ((z[k] ^^^ x).toNat : Int))) w') := Lib.hid (hop.mono fun e w' ⟨A', c', he, _, hF⟩ => ⟨A', c', he, hF⟩)
    have HF3 := Lib.hid hF3
    generalize ((z[k] ^^^ x).toNat : Int) = y at r1 HOP HF3
    generalize (z[k].toNat : Int) = u at hc r1
    have hk0 : (0 : Int) ≤ k := by omega
    have hkn : (k : Int) < lz := by omega
    clear ho2 hset hF3 hfd hcap hlen hop hown hkz hg HO2 HFD hk
    go_wp2_with fail
    refine HOP.out.mono ?_
    rintro e w4 ⟨A4, c4, rfl, hF4⟩
    have HF4 := Lib.hid (HF3.out.trans hF4 (fun _ _ e => e))
    clear hF4
    go_wp2_with fail
    go_ret
    exact ⟨rfl, HF4.out⟩
end
end Go.Proofs.YtcdhakfmljjaoaaGreatDoor.gz
