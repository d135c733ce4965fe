/-
  slices.Equal and Write at the chapter's entry; Record at the chapter's key and value.
-/
import Derived.Test.YtgimiggffpokpaaGreatDoorTeO
namespace Go.Proofs.YtgimiggffpokpaaGreatDoor.ta
set_option maxRecDepth 100000
open Go.RowKit Go.Maps Go.Deep
open Go.Proofs.YtgimiggffpokpaaGreatDoor.pt (Tx tx tx_toL tx_size toL toL_len)
open Go.Proofs.YtgimiggffpokpaaGreatDoor.he (Bts Hd hdV sV DT)
set_option maxRecDepth 100000

theorem ob_out {w0 w : World} {A : Option Addr} {n c : Nat} {l : Bts} (h : OB w0 w (.slice A n c) l) : n = l.length ∧ Own w w0.heap.size (.slice A l.length c) l ∧ Fr (fun _ => False) w0 w := by
  obtain ⟨A', c', e, h1, h2⟩ := h
  injection e with e1 e2 e3
  subst e1 e2 e3
  exact ⟨rfl, h1, h2⟩
set_option maxHeartbeats 4000000 in
theorem pequalX (w : World) (A : Option Addr) (c g : Nat) (B1 B2 : Nat) (h1 : RdE w B1 A [exE]) (h2 : RdE w B2 (some ⟨g, 0, none⟩) [exE]) :
    Calls Tryz.prog 16 #[.slice A 1 c, .slice (some ⟨g, 0, none⟩) 1 1] w fun e w' => e = .returned (.bool true) ∧ Fr (fun _ => False) w w' := by
  obtain ⟨b1, o1, rfl, _, p0, p1, p2, p3⟩ := h1.at_ (k := 0) (x := exE) rfl
  obtain ⟨b2, o2, e2, _, q0, q1, q2, q3⟩ := h2.at_ (k := 0) (x := exE) rfl
  cases e2
  have P := Lib.hid (show w.cell? ⟨b1, o1, none⟩ = some (.string ⟨#[97]⟩) ∧ w.cell? ⟨b1, o1 + 1, none⟩ = some (.int .i64 1) ∧ w.cell? ⟨b1, o1 + 2, none⟩ = some (.int .i64 420) ∧ w.cell? ⟨b1, o1 + 3, none⟩ = some (.string ⟨#[104, 105]⟩) from by
    rw [show o1 + 0 * 4 = o1 by omega] at p0 p1 p2 p3
    exact ⟨p0, p1, p2, p3⟩)
  have Q := Lib.hid (show w.cell? ⟨g, 0, none⟩ = some (.string ⟨#[97]⟩) ∧ w.cell? ⟨g, 1, none⟩ = some (.int .i64 1) ∧ w.cell? ⟨g, 2, none⟩ = some (.int .i64 420) ∧ w.cell? ⟨g, 3, none⟩ = some (.string ⟨#[104, 105]⟩) from ⟨q0, q1, q2, q3⟩)
  clear h1 h2 p0 p1 p2 p3 q0 q1 q2 q3
  go_enter Tryz.func16, Tryz.ntmps16
  go_wp2_with fail
  go_loopw [5, 13] (fun _ v13 wr => ∃ i : Nat, i ≤ 1 ∧ v13 = .int .i64 (i : Int) ∧ Hid (Calm w wr)) (fun _ v _ => 1 - (intOf v).toNat)
  case atStart => exact ⟨0, by omega, rfl, Lib.hid (Calm.refl w)⟩
  case round =>
    obtain ⟨i, hi, rfl, HK⟩ := hrel
    rcases (show i = 0 ∨ i = 1 by omega) with rfl | rfl
    · obtain ⟨nz, hnz⟩ := HK.out
      have HNZ := Lib.hid hnz
      obtain ⟨p0, p1, p2, p3⟩ := P.out
      obtain ⟨q0, q1, q2, q3⟩ := Q.out
      subst hnz
      clear HK
      go_wp2_with fail
      go_quiet (fail)
      go_wp2_with fail
      go_roundw
      case rel => exact ⟨1, by omega, by go_num, Lib.hid ⟨nz + nq, rfl⟩⟩
      case measure => simp [intOf]
    · have HF := Lib.hid HK.out.fr
      clear HK
      go_wp2_with fail
      go_ret
      exact ⟨rfl, HF.out⟩
set_option maxHeartbeats 8000000 in
theorem pwriteX (w : World) (hD : DT w) (g : Nat) (hr : RdE w w.heap.size (some ⟨g, 0, none⟩) [exE]) :
    Calls Tryz.prog 9 #[.slice (some ⟨g, 0, none⟩) 1 1] w fun e w' => ∃ A cap, e = .returned (.tuple #[.slice A 2048 cap, .int .i64 0]) ∧ Own w' w.heap.size (.slice A 2048 cap) (exM ++ List.replicate 1024 0) ∧ Fr (fun _ => False) w w' := by
  have HD := Lib.hid hD
  have HR := Lib.hid hr
  have HMB := Lib.hid (fun wx (hF : Fr (fun _ => False) w wx) => pmembersX wx (hD.keep hF))
  have HL := Lib.hid (show (exM ++ List.replicate 1024 (0 : UInt8)).length = 2048 from by rw [List.length_append, exM_len, List.length_replicate])
  have HV := Lib.hid (show readV (exM ++ List.replicate 1024 0) = ([exE], 0) from by
    have h := ex_write.2.2
    rw [exW] at h
    exact h)
  obtain ⟨M, hM⟩ : ∃ M, M = exM := ⟨_, rfl⟩
  have HML := Lib.hid (show M.length = 1024 from by rw [hM]; exact exM_len)
  rw [← hM] at HMB HL HV ⊢
  clear hD hr hM
  go_enter Tryz.func9, Tryz.ntmps9
  go_wp2_with fail
  go_loopw [4, 6, 7, 8, 16] (fun v4 _ _ _ v16 wr => ∃ (i n c : Nat) (A : Option Addr), i ≤ 1 ∧ v16 = .int .i64 (i : Int) ∧ v4 = .slice A n c ∧ Hid (n = 1024 * i ∧ OB w wr (.slice A n c) (M.take (1024 * i)))) (fun _ _ _ _ v _ => 1 - (intOf v).toNat)
  case atStart => exact ⟨0, 0, 0, none, by omega, rfl, rfl, Lib.hid ⟨rfl, by rw [Nat.mul_zero, List.take_zero]; exact ob_nil (Fr.refl _ w)⟩⟩
  case round =>
    obtain ⟨i, n, c, A, hi, rfl, rfl, HK⟩ := hrel
    have HFK := Lib.hid HK.out.2.fr
    rcases (show i = 0 ∨ i = 1 by omega) with rfl | rfl
    · obtain ⟨b2, o2, e2, _, q0, q1, q2, q3⟩ := (HR.out.still HFK.out (Nat.le_refl _)).at_ (k := 0) (x := exE) rfl
      cases e2
      have q0 : (wr.cell? ⟨g, 0, none⟩) = some (.string ⟨#[97]⟩) := q0
      have q1 : (wr.cell? ⟨g, 1, none⟩) = some (.int .i64 1) := q1
      have q2 : (wr.cell? ⟨g, 2, none⟩) = some (.int .i64 420) := q2
      have q3 : (wr.cell? ⟨g, 3, none⟩) = some (.string ⟨#[104, 105]⟩) := q3
      have HMC := Lib.hid (fun o => HMB.out (wr.alloc o) (HFK.out.alloc o))
      go_wp2_with fail
      refine (HMC.out _).mono ?_
      rintro e w1 ⟨A1, c1, rfl, ho1⟩
      obtain ⟨-, how1, hF1⟩ := ob_out ho1
      obtain ⟨ga, hga, _, _, _⟩ : ∃ ga, A1 = some ⟨ga, 0, none⟩ ∧ True ∧ True ∧ True := by
        rcases how1.2 with ⟨e, h0⟩ | ⟨gg, cap, cur, e, _⟩
        · rw [HML.out] at h0; omega
        · cases e; exact ⟨gg, rfl, trivial, trivial, trivial⟩
      subst hga
      have HRD := Lib.hid (show Rd w1 w1.heap.size (some ⟨ga, 0, none⟩) M from how1.rd)
      have HOB := Lib.hid (show OB w w1 (.slice A n c) [] from by
        have h := HK.out.2
        rw [Nat.mul_zero, List.take_zero] at h
        exact (h.still ((Fr.refl _ _).alloc _)).still hF1)
      clear how1 hF1 q0 q1 q2 q3
      go_wp2_with (at_builtin; refine wpl_obB rfl (.tmp 27) (.tmp 28) rfl w _ [] rfl HOB.out _ ⟨ga, 0, none⟩ 1024 _ M rfl HML.out.symm HRD.out 1024 (by rw [HML.out]; rfl) (by omega) ?_; intro A2 c2 w2 h2; have HO2 := Lib.hid h2; clear h2)
      go_roundw
      case rel => exact ⟨1, 1024, c2, A2, by omega, by go_num, rfl, Lib.hid ⟨rfl, by rw [show M.take (1024 * 1) = M from List.take_of_length_le (by rw [HML.out]; omega)]; exact HO2.out⟩⟩
      case measure => simp [intOf]
    · obtain ⟨hn, ho⟩ := HK.out
      subst hn
      rw [show M.take (1024 * 1) = M from List.take_of_length_le (by rw [HML.out]; omega)] at ho
      have HO := Lib.hid ho
      clear HK HFK ho hi
      go_wp2_with (at_builtin; refine wpl_obN rfl (.tmp 31) (.const (.int .i64 1024)) rfl w _ M rfl HO.out 1024 1024 rfl rfl (by omega) 2048 (by rw [HML.out]) (by omega) ?_; intro A2 c2 w2 h2; have HO2 := Lib.hid h2; clear h2)
      obtain ⟨-, how, hF2⟩ := ob_out HO2.out
      have hmx := own_max how
      have hcap : 2048 ≤ c2 := by
        rcases how.2 with ⟨e, h0⟩ | ⟨gg, cap, cur, e, _, _, hn, _⟩
        · rw [HL.out] at h0; omega
        · cases e; rw [HL.out] at hn; exact hn
      have HRE := Lib.hid (pread w2 A2 c2 (M ++ List.replicate 1024 0) how.rd (by rw [HL.out]; exact hcap) hmx (by rw [HL.out]; omega) (HD.out.keep hF2))
      rw [HL.out, HV.out] at HRE
      have HFW := Lib.hid hF2
      clear how hF2 hmx hcap
      refine HRE.out.mono ?_
      rintro e w3 ⟨A3, c3, rfl, ho3, hF3⟩
      have HE := Lib.hid (pequalX w3 A3 c3 g w3.heap.size w.heap.size (OwnE.rd ho3) (HR.out.still (HFW.out.trans hF3 (fun _ _ e => e)) (Nat.le_refl _)))
      have HF3 := Lib.hid hF3
      clear hF3 ho3
      go_wp2_with fail
      refine HE.out.mono ?_
      rintro e w4 ⟨rfl, hF4⟩
      have HO4 := Lib.hid ((HO2.out.still HF3.out).still hF4)
      clear hF4
      go_wp2_with fail
      go_ret2
      obtain ⟨-, h5, h6⟩ := ob_out HO4.out
      rw [HL.out] at h5
      exact ⟨_, _, rfl, h5, h6⟩
end Go.Proofs.YtgimiggffpokpaaGreatDoor.ta
