/-
  FlateRuns over what is asked of the program's streams; how long streams are.
-/
import Derived.Test.YtmnokhkpicjdaaaDoorFtW
namespace Go.Proofs.YtmnokhkpicjdaaaDoor.ft
set_option maxRecDepth 100000
open Go.RowKit Go.Maps Go.Proofs.YtmnokhkpicjdaaaDoor.fl Go.Proofs.YtmnokhkpicjdaaaDoor.cd
set_option maxRecDepth 100000

theorem u8_of {n : Int} (h : (Lit.int .u8 n).wf = true) : ∃ c : UInt8, n = (c.toNat : Int) := by
  have h1 : (decide (0 ≤ n) && decide (n ≤ 255)) = true := h
  have h2 : 0 ≤ n ∧ n ≤ 255 := by simpa using h1
  refine ⟨UInt8.ofNat n.toNat, ?_⟩
  rw [UInt8.toNat_ofNat']
  omega
theorem like_set (c : UInt8) {i k : Nat} (h : i < k) : (List.replicate i c ++ List.replicate (k - i) 0).set i c = List.replicate (i + 1) c ++ List.replicate (k - (i + 1)) (0 : UInt8) := by
  obtain ⟨d, hd⟩ : ∃ d, k - i = d + 1 := ⟨k - i - 1, by omega⟩
  rw [hd, show k - (i + 1) = d by omega]
  clear hd h
  induction i with
  | zero => rfl
  | succ i ih =>
    rw [List.replicate_succ, List.cons_append, List.set_cons_succ, ih]
    rfl
section
variable {D : World → Prop} {ls : Nat → Nat}
set_option maxHeartbeats 4000000 in
theorem runs_walk (HP : FlateP D ls) (w : World) (hD : D w) (c : UInt8) (z1 : Int) :
    Calls Tryd.prog 6 #[.int .u8 (c.toNat : Int), .int .i64 z1] w fun e w' => e = .returned (.bool true) ∧ Fr (fun _ => False) w w' := by
  have HPP := Lib.hid HP
  have HDD := Lib.hid (fun (wx : World) (h : Fr (fun _ => False) w wx) => HP.d_keep hD h)
  have HW := Lib.hid (works_any HP w hD)
  have HA1 := Lib.hid (fun w0 : World => among_nat w0 z1 20000 (by omega) (by omega))
  clear HP hD
  go_enter Tryd.func6, Tryd.ntmps6
  go_wp2_with fail
  refine HW.out.mono ?_
  rintro e w1 ⟨rfl, hF1⟩
  have HF1 := Lib.hid hF1
  clear hF1 HW
  go_wp2_with fail
  refine (HA1.out w1).mono ?_
  rintro e w' ⟨k, hk, rfl, rfl⟩
  have hmk := run_make_bytes k (by omega)
  have H0 : Hid (Own (w1.alloc (.cells (zb k) 5)) w1.heap.size (.slice (some ⟨w1.heap.size, 0, none⟩) k k) (List.replicate 0 c ++ List.replicate (k - 0) 0) ∧ Fr (fun _ => False) w (w1.alloc (.cells (zb k) 5))) := Lib.hid ⟨by
    have h := own_zb w1 k (by omega)
    rw [List.length_replicate] at h
    exact h, HF1.out.alloc _⟩
  clear HA1
  go_wp2_with fail
  go_loopw [6] (fun v6 wr => ∃ i : Nat, i ≤ k ∧ v6 = .int .i64 i ∧ Hid (Own wr w1.heap.size (.slice (some ⟨w1.heap.size, 0, none⟩) k k) (List.replicate i c ++ List.replicate (k - i) 0) ∧ Fr (fun _ => False) w wr)) (fun v _ => k - (intOf v).toNat)
  case atStart => exact ⟨0, Nat.zero_le _, rfl, H0⟩
  case round =>
    obtain ⟨i, hi, rfl, HQ⟩ := hrel
    clear H0 hmk
    by_cases hlt : i < k
    · have hll : (List.replicate i c ++ List.replicate (k - i) (0 : UInt8)).length = k := by rw [List.length_append, List.length_replicate, List.length_replicate]; omega
      have hol := HQ.out.1
      have hol2 : Own wr w1.heap.size (.slice (some ⟨w1.heap.size, 0, none⟩) (List.replicate i c ++ List.replicate (k - i) (0 : UInt8)).length k) (List.replicate i c ++ List.replicate (k - i) 0) := by rw [hll]; exact hol
      obtain ⟨g, e, hg, hg2, hc, hf, hset⟩ := Own.at_ hol2 (k := i) (by omega)
      cases e
      have hnew := hset c
      rw [List.length_set, hll, like_set c hlt] at hnew
      have HNEW := Lib.hid (⟨hnew, HQ.out.2.setCell (p := ⟨w1.heap.size, i, none⟩) (Or.inr HF1.out.size) _⟩ : Own (wr.setCell ⟨w1.heap.size, i, none⟩ (.int .u8 (c.toNat : Int))) w1.heap.size (.slice (some ⟨w1.heap.size, 0, none⟩) k k) (List.replicate (i + 1) c ++ List.replicate (k - (i + 1)) 0) ∧ Fr (fun _ => False) w (wr.setCell ⟨w1.heap.size, i, none⟩ (.int .u8 (c.toNat : Int))))
      generalize ((List.replicate i c ++ List.replicate (k - i) (0 : UInt8))[i]'(by omega)).toNat = y at hc
      clear hset hnew hol hol2 hll hg hg2
      go_wp2_with fail
      go_roundw
      case rel => exact ⟨i + 1, by omega, by go_num, HNEW⟩
      case measure => simp [intOf]; omega
    · obtain rfl : i = k := by omega
      have hll : (List.replicate i c ++ List.replicate (i - i) (0 : UInt8)) = List.replicate i c := by simp
      have HQ2 : Hid (Own wr w1.heap.size (.slice (some ⟨w1.heap.size, 0, none⟩) i i) (List.replicate i c) ∧ Fr (fun _ => False) w wr) := Lib.hid (by
        have h := HQ.out
        rw [hll] at h
        exact h)
      have hrl : (List.replicate i c).length = i := List.length_replicate
      have hor : Own wr w1.heap.size (.slice (some ⟨w1.heap.size, 0, none⟩) (List.replicate i c).length i) (List.replicate i c) := by rw [hrl]; exact HQ2.out.1
      have HRN := Lib.hid (HPP.out.runs wr (some ⟨w1.heap.size, 0, none⟩) i (List.replicate i c) (Own.rd hor) (fun e => by cases e) (by rw [hrl]; exact Nat.le_refl _) (by rw [hrl]; omega) (HDD.out _ HQ2.out.2))
      rw [hrl] at HRN
      have hlike := runs_like HPP.out.lens c i
      have hback := (undo_runs HPP.out.lens (List.replicate i c)).back (by rw [hrl]; omega) []
      have hsm := runs_small HPP.out.lens (List.replicate i c)
      rw [List.append_nil, hrl] at hback
      rw [hrl] at hsm
      obtain ⟨z, hz⟩ : ∃ z, z = runsV ls (List.replicate i c) := ⟨_, rfl⟩
      rw [← hz] at HRN hlike hback hsm
      obtain ⟨lz, hlz⟩ : ∃ lz, lz = z.length := ⟨_, rfl⟩
      unfold NewR at HRN
      rw [← hlz] at HRN hlike hback hsm
      have HZ := Lib.hid (⟨hback, hlz, hrl⟩ : inflV z (i : Int) = (List.replicate i c, lz, 0) ∧ lz = z.length ∧ (List.replicate i c).length = i)
      have hdiv : ((i : Int)).tdiv 100 = ((i / 100 : Nat) : Int) := rfl
      obtain ⟨d, hd⟩ : ∃ d, d = i / 100 := ⟨_, rfl⟩
      rw [← hd] at hdiv hlike
      have hle : (lz : Int) ≤ 8 + (d : Int) := by omega
      have hd2 : d ≤ 200 := by omega
      clear hll hrl hor hlike hback hz hlz hd HQ
      go_wp2_with fail
      refine HRN.out.mono ?_
      rintro e w2 ⟨Az, cz, rfl, hRz, hAz, hcz, hF2⟩
      have hinf := HPP.out.inflate w2 Az cz z (i : Int) hRz hAz (by rw [← HZ.out.2.1]; exact hcz) (by rw [← HZ.out.2.1]; omega) (by omega) (HDD.out _ (HQ2.out.2.trans hF2 (fun _ _ e => e)))
      rw [HZ.out.1, ← HZ.out.2.1] at hinf
      have HIN : Hid (Calls Tryd.prog 12 #[.slice Az lz cz, .int .i64 (i : Int)] w2 fun e w' => ∃ A' cap', e = .returned (.tuple #[.slice A' i cap', .int .i64 (lz : Int), .int .i64 0]) ∧ Rd w' w'.heap.size A' (List.replicate i c) ∧ Fr (fun _ => False) w2 w') := Lib.hid (by
        have h := hinf
        rw [HZ.out.2.2] at h
        exact h)
      have HF2 := Lib.hid (⟨HQ2.out.2.trans hF2 (fun _ _ e => e), hF2⟩ : _ ∧ _)
      clear hRz hAz hcz hF2 HRN hinf
      go_wp2_with fail
      refine HIN.out.mono ?_
      rintro e w3 ⟨Ax, cx, rfl, hRx, hF3⟩
      have hor3 : Own w3 w1.heap.size (.slice (some ⟨w1.heap.size, 0, none⟩) (List.replicate i c).length i) (List.replicate i c) := by
        rw [HZ.out.2.2]
        exact (HQ2.out.1.kept HF2.out.2).kept hF3
      have HSM := Lib.hid (same_any w3 Ax (some ⟨w1.heap.size, 0, none⟩) w3.heap.size w3.heap.size cx i (List.replicate i c) (List.replicate i c) hRx (Own.rd hor3) (by rw [HZ.out.2.2]; omega))
      rw [decide_eq_true rfl, HZ.out.2.2] at HSM
      have HF3 := Lib.hid (HF2.out.1.trans hF3 (fun _ _ e => e))
      clear hRx hF3 hor3 HIN
      go_wp2_with fail
      refine HSM.out.mono ?_
      rintro e w4 ⟨rfl, hC⟩
      have HF4 := Lib.hid (HF3.out.trans hC.fr (fun _ _ e => e))
      clear hC HSM
      go_wp2_with fail
      go_ret
      exact ⟨rfl, HF4.out⟩
end
end Go.Proofs.YtmnokhkpicjdaaaDoor.ft
