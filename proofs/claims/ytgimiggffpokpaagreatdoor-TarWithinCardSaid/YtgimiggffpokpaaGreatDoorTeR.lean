/-
  Record at the chapter's key and value.
-/
import Derived.Test.YtgimiggffpokpaaGreatDoorTeA
namespace Go.Proofs.YtgimiggffpokpaaGreatDoor.ta
set_option maxRecDepth 100000
open Go.RowKit Go.Maps Go.Deep
open Go.Proofs.YtgimiggffpokpaaGreatDoor.pt (Tx tx tx_toL tx_size toL toL_len)
set_option maxRecDepth 100000

set_option maxHeartbeats 8000000 in
theorem precordX (w : World) : Calls Tryz.prog 10 #[.string ⟨#[112, 97, 116, 104]⟩, .string ⟨#[97]⟩] w fun e w' => e = .returned (.string ⟨#[57, 32, 112, 97, 116, 104, 61, 97, 10]⟩) ∧ Fr (fun _ => False) w w' := by
  obtain ⟨K, hK⟩ : ∃ K : ByteArray, K = ⟨#[112, 97, 116, 104]⟩ := ⟨_, rfl⟩
  obtain ⟨V, hV⟩ : ∃ V : ByteArray, V = ⟨#[97]⟩ := ⟨_, rfl⟩
  rw [← hK, ← hV]
  obtain ⟨B0, hB0⟩ : ∃ B0 : ByteArray, B0 = (⟨#[32]⟩ : ByteArray) ++ K ++ (⟨#[61]⟩ : ByteArray) ++ V ++ (⟨#[10]⟩ : ByteArray) := ⟨_, rfl⟩
  have HB0 := Lib.hid hB0
  have hs8 : B0.size = 8 := by rw [hB0, hK, hV]; rfl
  have HE := Lib.hid (show (⟨#[57]⟩ : ByteArray) ++ B0 = ⟨#[57, 32, 112, 97, 116, 104, 61, 97, 10]⟩ from by rw [hB0, hK, hV]; rfl)
  have k1 : K.size = 4 := by rw [hK]; rfl
  have k2 : V.size = 1 := by rw [hV]; rfl
  have I8 := Lib.hid (fun wx => (show Calls Tryz.prog 17 #[.int .i64 8] wx fun e w' => e = .returned (.string ⟨#[56]⟩) ∧ w' = wx from by
    have h := Any.strconv_Itoa_small Tryz.itoa 8 (by decide) wx
    rw [show Lib.decDigits 8 = [56] from by unfold Lib.decDigits; rfl] at h
    exact h))
  have I9 := Lib.hid (fun wx => (show Calls Tryz.prog 17 #[.int .i64 9] wx fun e w' => e = .returned (.string ⟨#[57]⟩) ∧ w' = wx from by
    have h := Any.strconv_Itoa_small Tryz.itoa 9 (by decide) wx
    rw [show Lib.decDigits 9 = [57] from by unfold Lib.decDigits; rfl] at h
    exact h))
  clear hB0 hK hV
  go_enter Tryz.func10, Tryz.ntmps10
  go_upto_region 2 with fail
  rw [← HB0.out]
  clear HB0 k1 k2
  go_wp2_with fail
  go_loopw [6, 7] (fun v6 v7 wr => ((v7 = .int .i64 (-1) ∧ v6 = .string ⟨#[]⟩) ∨ (v7 = .int .i64 8 ∧ v6 = .string ⟨#[56]⟩) ∨ (v7 = .int .i64 9 ∧ v6 = .string ⟨#[57]⟩)) ∧ Hid (w = wr)) (fun _ v _ => (9 - intOf v).toNat)
  case atStart => exact ⟨Or.inl ⟨rfl, rfl⟩, Lib.hid rfl⟩
  case round =>
    obtain ⟨hc, HW⟩ := hrel
    have hw := HW.out
    subst hw
    clear HW
    rcases hc with ⟨rfl, rfl⟩ | ⟨rfl, rfl⟩ | ⟨rfl, rfl⟩
    · go_wp2_with (go_at_call 17; refine (I8.out _).mono ?_; rintro e w' ⟨rfl, rfl⟩)
      go_roundw
      case rel => exact ⟨Or.inr (Or.inl ⟨by go_num, rfl⟩), trivial⟩
      case measure => simp [intOf]
    · go_wp2_with (go_at_call 17; refine (I9.out _).mono ?_; rintro e w' ⟨rfl, rfl⟩)
      go_roundw
      case rel => exact ⟨Or.inr (Or.inr ⟨by go_num, rfl⟩), trivial⟩
      case measure => simp [intOf]
    · go_wp2_with fail
      go_ret
      exact ⟨by rw [← HE.out]; rfl, Fr.refl _ _⟩
end Go.Proofs.YtgimiggffpokpaaGreatDoor.ta
