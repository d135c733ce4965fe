/-
  GzipShort over what is asked of the program's frames.
-/
import Derived.Test.YtcdhakfmljjaoaaGreatDoorGzW
namespace Go.Proofs.YtcdhakfmljjaoaaGreatDoor.gz
set_option maxRecDepth 100000
open Go.RowKit Go.Maps Go.Proofs.YtcdhakfmljjaoaaGreatDoor.fl Go.Proofs.YtcdhakfmljjaoaaGreatDoor.cd Go.Proofs.YtcdhakfmljjaoaaGreatDoor.ft
set_option maxRecDepth 100000

theorem tx_len (t : By) : (txB t).length ≤ t.length + 1 := by
  unfold txB
  split <;> simp
theorem ex_len (t : By) : (exB t).length ≤ t.length + 2 := by
  unfold exB
  split
  · simp
  · rw [List.length_append, numL_len]
    omega
theorem hd_small (sum : By → Nat) (name note extra : By) (hc : Bool) : (hdB sum name note extra hc).length ≤ name.length + note.length + extra.length + 16 := by
  have h1 := tx_len name
  have h2 := tx_len note
  have h3 := ex_len extra
  have h4 : (hdS sum name note extra hc).length ≤ 2 := by
    unfold hdS
    split
    · rw [numL_len]; omega
    · simp
  unfold hdB hdA
  simp only [List.length_append, List.length_cons, List.length_nil]
  omega
theorem dress_small {sum : By → Nat} {ls : Nat → Nat} (hl : LenSym ls) (b name note extra : By) (hc : Bool) : (dressB sum ls b name note extra hc).length ≤ 2 * b.length + name.length + note.length + extra.length + 100 := by
  have h := runs_small hl b
  have h2 := hd_small sum name note extra hc
  unfold dressB
  rw [List.length_append, List.length_append, List.length_append, numL_len, numL_len]
  omega
theorem dress_len (sum : By → Nat) (ls : Nat → Nat) (b name note extra : By) (hc : Bool) : 18 ≤ (dressB sum ls b name note extra hc).length := by
  have := hd_len sum name note extra hc
  unfold dressB
  rw [List.length_append, List.length_append, List.length_append, numL_len, numL_len]
  omega

section
variable {D : World → Prop} {sum : By → Nat} {ls : Nat → Nat}
set_option maxHeartbeats 4000000 in
theorem gshort_walk (HP : GzipP D sum ls) (w : World) (hD : D w) (A : Option Addr) (cap : Nat) (b : By) (name : ByteArray) (hcb : Bool) (z1 : Int) (x : UInt8) (hr : Rd w w.heap.size A b) (hA : A = none → cap = 0) (hc : b.length ≤ cap) (hb : b.length ≤ 140737488351232) (hnm : name.size ≤ 1048576) :
    Calls Tryz.prog 6 #[.slice A b.length cap, .string name, .bool hcb, .int .i64 z1, .int .u8 (x.toNat : Int)] w fun e w' => e = .returned (.bool true) ∧ Fr (fun _ => False) w w' := by
  have HPP := Lib.hid HP
  have HDD := Lib.hid (fun (wx : World) (h : Fr (fun _ => False) w wx) => HP.d_keep hD h)
  have HCUT : Hid (2000 < b.length → Rd w w.heap.size A (b.take 2000) ∧ 2000 = (b.take 2000).length) := Lib.hid fun h => ⟨hr.take 2000, by rw [List.length_take]; omega⟩
  obtain ⟨m, hm⟩ : ∃ n, n = b.length := ⟨_, rfl⟩
  have HI := Lib.hid (⟨hr, hm, hA⟩ : _ ∧ _ ∧ _)
  have hcn : m ≤ cap := by rw [hm]; exact hc
  have hbn : m ≤ 140737488351232 := by rw [hm]; exact hb
  have HW := Lib.hid (works_any HP w hD)
  obtain ⟨i0, hi, hz0, hz1, hz2⟩ := info_parts infoB
  have HII := Lib.hid (⟨hi, hz0, hz1, hz2⟩ : _ ∧ _ ∧ _ ∧ _)
  rw [← hm]
  clear HP hD hr hA hc hb hm hi hz0 hz1 hz2
  go_enter Tryz.func6, Tryz.ntmps6
  go_wp2_with fail
  refine HW.out.mono ?_
  rintro e w1 ⟨rfl, hF1⟩
  have HF1 := Lib.hid hF1
  clear hF1 HW
  go_upto_if 21 with (fail)
  go_cut [0] (fun s0 wz => ∃ (bb : By) (nb : Nat), s0 = .slice A nb cap ∧ w1 = wz ∧ nb ≤ cap ∧ nb ≤ 2000 ∧ Hid (Rd w w.heap.size A bb ∧ nb = bb.length))
  case first =>
    by_cases hbig : (2000 : Int) < m
    · have hkc : 2000 ≤ cap := by omega
      have HZ := Lib.hid (HCUT.out (by rw [← HI.out.2.1]; omega))
      go_wp2_with fail
      go_meet
      exact ⟨b.take 2000, 2000, rfl, rfl, hkc, Nat.le_refl _, HZ⟩
    · have h3 : m ≤ 2000 := by omega
      go_wp2_with fail
      go_meet
      exact ⟨b, m, rfl, rfl, hcn, h3, (show _ ∧ _ from ⟨HI.out.1, HI.out.2.1⟩)⟩
  obtain ⟨bb, nb, rfl, rfl, hnc, hn3, HBB⟩ := hcut
  clear hcn hbn HCUT
  have hdr := HPP.out.dress w1 A cap bb name ⟨#[]⟩ none 0 [] hcb ((HBB.out.1.still HF1.out (Nat.le_refl _)).more HF1.out.size) HI.out.2.2 (by rw [← HBB.out.2]; exact hnc) (by rw [← HBB.out.2]; omega) hnm (by decide) (Rd.nil _ _ _) (fun _ => rfl) (Nat.le_refl _) (by decide) (HDD.out _ HF1.out)
  by_cases hmay : mayD name.data.toList [] [] = true
  · obtain ⟨z, hz⟩ : ∃ z, z = dressB sum ls bb name.data.toList [] [] hcb := ⟨_, rfl⟩
    have hv : dressV sum ls bb name.data.toList (⟨#[]⟩ : ByteArray).data.toList [] hcb = (z, 0) := by
      show (if mayD name.data.toList [] [] = true then _ else _) = _
      rw [if_pos hmay, hz]
    have hsm := dress_small (sum := sum) HPP.out.lens bb name.data.toList [] [] hcb
    have hlo := dress_len sum ls bb name.data.toList [] [] hcb
    have hshort := fun (k : Nat) (hk : k < (dressB sum ls bb name.data.toList [] [] hcb).length) => dress_short (most := 2000) HPP.out.lens HPP.out.small hmay (by rw [← HBB.out.2]; exact hn3) (by omega) hk
    have hmore := dress_more (hc := hcb) (most := 2000) HPP.out.lens HPP.out.small hmay (b := bb) (by rw [← HBB.out.2]; exact hn3) (by omega) x
    have hnl : name.data.toList.length = name.size := by rw [Array.length_toList]; rfl
    rw [hv, ← HBB.out.2] at hdr
    rw [← hz] at hsm hlo hshort hmore
    obtain ⟨lz, hlz⟩ : ∃ lz, lz = z.length := ⟨_, rfl⟩
    have HDR : Hid (Calls Tryz.prog 9 #[.slice A nb cap, .string name, .string ⟨#[]⟩, .slice none 0 0, .bool hcb] w1 fun e w' => ∃ A' cap', e = .returned (.tuple #[.slice A' lz cap', .int .i64 0]) ∧ Rd w' w'.heap.size A' z ∧ (A' = none → cap' = 0) ∧ lz ≤ cap' ∧ Fr (fun _ => False) w1 w') := Lib.hid (by
      rw [hlz]
      exact hdr)
    have HS := Lib.hid (⟨hshort, hmore, hlz⟩ : _ ∧ _ ∧ _)
    rw [← hlz, hnl, ← HBB.out.2] at hsm
    rw [← hlz] at hlo
    have hsz : lz ≤ 1060000 := by simp only [List.length_nil] at hsm; omega
    clear hdr hv hz hshort hmore hlz hsm hnl hmay
    have HA1 := Lib.hid (fun w0 : World => among_nat w0 z1 lz (by omega) (by omega))
    go_wp2_with fail
    refine HDR.out.mono ?_
    rintro e w2 ⟨A1, c1, rfl, hR2, hA2, hc2, hF2⟩
    have H2 := Lib.hid (⟨hR2, HF1.out.trans hF2 (fun _ _ e => e), hA2⟩ : _ ∧ _ ∧ _)
    clear hR2 hA2 hF2 HDR
    go_wp2_with fail
    refine (HA1.out w2).mono ?_
    rintro e w' ⟨k, hk, rfl, rfl⟩
    have hkc : k ≤ c1 := by omega
    have htk : (z.take k).length = k := by rw [List.length_take, ← HS.out.2.2]; omega
    have hop1 := HPP.out.opn w2 A1 c1 (z.take k) (2000 : Nat) (H2.out.1.take k) H2.out.2.2 (by rw [htk]; exact hkc) (by rw [htk]; omega) (by omega) (HDD.out _ H2.out.2.1)
    rw [HS.out.1 k (by rw [← HS.out.2.2]; exact hk), htk] at hop1
    have HOP1 : Hid (Calls Tryz.prog 14 #[.slice A1 k c1, .int .i64 2000] w2 fun e w' => ∃ A' cap', e = .returned (.tuple #[.slice A' 0 cap', .int .i64 7]) ∧ Fr (fun _ => False) w2 w') := Lib.hid (hop1.mono fun e w' ⟨A', c', he, _, hF⟩ => ⟨A', c', he, hF⟩)
    clear hop1 htk HA1
    go_wp2_with fail
    refine HOP1.out.mono ?_
    rintro e w3 ⟨A3, c3, rfl, hF3⟩
    have HBY := Lib.hid (bytes_any w3 A1 c1 z ((H2.out.1.still hF3 (Nat.le_refl _)).more hF3.size) H2.out.2.2 (by rw [← HS.out.2.2]; omega))
    unfold NewB at HBY
    rw [← HS.out.2.2] at HBY
    have HF3 := Lib.hid (H2.out.2.1.trans hF3 (fun _ _ e => e))
    clear hF3 HOP1
    go_wp2_with fail
    refine HBY.out.mono ?_
    rintro e w5 ⟨Ao, co, rfl, ho, hF5⟩
    have hF56 := (Fr.refl (fun _ => False) w5).alloc (.cells #[.int .u8 (x.toNat : Int)] 5)
    have hF6 := hF5.alloc (.cells #[.int .u8 (x.toNat : Int)] 5)
    have HO5 := Lib.hid (⟨by
      have h : Own (w5.alloc (.cells #[.int .u8 (x.toNat : Int)] 5)) w3.heap.size (.slice Ao lz co) z := Own.kept ho hF56
      unfold Own at h
      rwa [← HS.out.2.2] at h, hF6, Rd.src (lit_rd w5 [x] _ rfl)⟩ : (w5.alloc (.cells #[.int .u8 (x.toNat : Int)] 5)).ownsRow w3.heap.size 5 1 (.slice Ao lz co) lz (bs z) ∧ Fr (fun _ => False) w3 (w5.alloc (.cells #[.int .u8 (x.toNat : Int)] 5)) ∧ ∀ j u, (bs [x])[j]? = some u → (w5.alloc (.cells #[.int .u8 (x.toNat : Int)] 5)).cell? ((⟨w5.heap.size, 0, none⟩ : Addr).add j) = some u)
    clear ho hF5 hF56 hF6 HBY
    go_wp2_with (at_builtin; refine wpList_append_own _ rfl (.tmp 48) (.tmp 50) 22 rfl w3.heap.size 5 i0 (.int .u8 0) 1 1 Tryz.underlying22 HII.out.1 HII.out.2.1 HII.out.2.2.1 HII.out.2.2.2 rfl (by omega) _ lz (bs z) rfl HO5.out.1 ⟨w5.heap.size, 0, none⟩ 1 1 (bs [x]) rfl rfl HO5.out.2.2 (bs_one [x]) (by unfold maxLen; omega) (by omega) HO5.out.2.1.size ?_; intro v9 w9 hown9 hg9 _)
    obtain ⟨p9, c9, e9, ho9⟩ := own_shapeB (l := z ++ [x]) (by rw [List.length_append, ← HS.out.2.2]; rfl) (bs_append _ _).symm hown9
    subst e9
    have HF9 := Lib.hid (HF3.out.trans (HO5.out.2.1.grown hg9 (fun q e => own_past_ge HO5.out.1 e)) (fun _ _ e => e))
    clear hown9 hg9
    have HIN : Hid (Calls Tryz.prog 14 #[.slice p9 (lz + 1) c9, .int .i64 2000] w9 fun e w' => ∃ A' cap', e = .returned (.tuple #[.slice A' 0 cap', .int .i64 120]) ∧ Fr (fun _ => False) w9 w') := Lib.hid (by
      have h := HPP.out.opn w9 p9 c9 (z ++ [x]) (2000 : Nat) (Own.rd ho9) (own_cap2 ho9).1 (own_cap2 ho9).2 (by rw [List.length_append, ← HS.out.2.2]; simp only [List.length_cons, List.length_nil]; omega) (by omega) (HDD.out _ HF9.out)
      rw [HS.out.2.1, List.length_append, ← HS.out.2.2] at h
      exact h.mono fun e w' ⟨A', c', he, _, hF⟩ => ⟨A', c', he, hF⟩)
    clear ho9
    go_wp2_with fail
    refine HIN.out.mono ?_
    rintro e w10 ⟨Ay, cy, rfl, hF10⟩
    have HF10 := Lib.hid (HF9.out.trans hF10 (fun _ _ e => e))
    clear hF10
    go_wp2_with fail
    go_ret
    exact ⟨rfl, HF10.out⟩
  · have hv : dressV sum ls bb name.data.toList (⟨#[]⟩ : ByteArray).data.toList [] hcb = ([], 2) := by
      show (if mayD name.data.toList [] [] = true then _ else _) = _
      rw [if_neg hmay]
    rw [hv, ← HBB.out.2] at hdr
    have HDR : Hid (Calls Tryz.prog 9 #[.slice A nb cap, .string name, .string ⟨#[]⟩, .slice none 0 0, .bool hcb] w1 fun e w' => ∃ A' cap', e = .returned (.tuple #[.slice A' 0 cap', .int .i64 2]) ∧ Fr (fun _ => False) w1 w') := Lib.hid (hdr.mono fun e w' ⟨A', c', he, _, _, _, hF⟩ => ⟨A', c', he, hF⟩)
    clear hdr hv hmay
    go_wp2_with fail
    refine HDR.out.mono ?_
    rintro e w2 ⟨A1, c1, rfl, hF2⟩
    have HF2 := Lib.hid (HF1.out.trans hF2 (fun _ _ e => e))
    clear hF2
    go_wp2_with fail
    go_ret
    exact ⟨rfl, HF2.out⟩
end
end Go.Proofs.YtcdhakfmljjaoaaGreatDoor.gz
