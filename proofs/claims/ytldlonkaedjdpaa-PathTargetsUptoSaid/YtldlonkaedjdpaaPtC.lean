/-
  The document's Check, Clean.
-/
import Derived.Test.YtldlonkaedjdpaaPtB
namespace Go.Proofs.Ytldlonkaedjdpaa.pt
set_option maxRecDepth 100000
open Go.RowKit Go.Maps
set_option maxRecDepth 100000

theorem checkZ_ok {l : Tx} (h : okT l = true) : checkZ l = 0 := if_pos h
theorem checkZ_no {l : Tx} (h : okT l = false) : checkZ l = 140 := if_neg (by rw [h]; simp)
theorem isE {s : ByteArray} (h : s.toList ≠ []) : s.toList.isEmpty = false := by rw [Bool.eq_false_iff]; intro e; exact h (List.isEmpty_iff.1 e)
theorem empty_tx {s : ByteArray} (h : s.toList = []) : s = ⟨#[]⟩ := by rw [← tx_of s, h]
set_option maxHeartbeats 4000000 in
theorem rcheck (w : World) (s : ByteArray) (hs : s.size ≤ maxLen) : Calls Try.prog 13 #[.string s] w fun e w' => e = .returned (.int .i64 (checkZ s.toList)) ∧ Fr (fun _ => False) w w' := by
  unfold maxLen at hs
  by_cases h1 : s.size ≤ 200
  case neg =>
    rw [checkZ_no (okT_long (by rw [toL_len]; omega))]
    have h2 : (200 : Int) < s.size := by omega
    go_enter Try.func13, Try.ntmps13
    go_wp2_with fail
    go_ret
    exact ⟨rfl, Fr.refl _ _⟩
  case pos =>
    have h1' : ¬ (200 : Int) < s.size := by omega
    by_cases h0 : s.toList = []
    · rw [checkZ_ok (show okT s.toList = true by rw [h0]; rfl)]
      go_enter Try.func13, Try.ntmps13
      go_wp2_with fail
      go_ret
      exact ⟨rfl, Fr.refl _ _⟩
    have h0' := isE h0
    have HSP := Lib.hid (bsplit w s 47 (by omega))
    have HNE := Lib.hid h0
    have HLEN := Lib.hid (show ∀ p ∈ splitB 47 s.toList, p.length ≤ 200 from fun p hp => Nat.le_trans (split_len.1 p hp) (by rw [toL_len]; exact h1))
    have HL2 := Lib.hid (show (splitB 47 s.toList).length ≤ 201 from Nat.le_trans split_len.2 (by rw [toL_len]; omega))
    have HS1 := Lib.hid (show s.toList.length ≤ 200 by rw [toL_len]; exact h1)
    obtain ⟨P, hP⟩ : ∃ P, P = splitB 47 s.toList := ⟨_, rfl⟩
    have HP := Lib.hid hP
    rw [← hP] at HSP HLEN HL2
    obtain ⟨z, hz⟩ : ∃ z, z = checkZ s.toList := ⟨_, rfl⟩
    have HZ := Lib.hid hz
    rw [← hz]
    clear hz hP h0
    go_enter Try.func13, Try.ntmps13
    go_wp2_with (go_at_call 34; refine HSP.out.mono ?_; rintro e w1 ⟨A, cap, rfl, ho, hF⟩)
    have HR := Lib.hid ho.rd
    have HF1 := Lib.hid hF
    obtain ⟨n, hn⟩ : ∃ n, n = P.length := ⟨_, rfl⟩
    have HN := Lib.hid hn
    rw [← hn]
    have hn2 : n ≤ 201 := by rw [hn]; exact HL2.out
    clear ho hF hn
    go_loopw [4] (fun v wr => ∃ k : Nat, k ≤ n ∧ v = .int .i64 k ∧ Hid (Names (P.take k) ∧ Fr (fun _ => False) w1 wr)) (fun v _ => n - (intOf v).toNat)
    case atStart => exact ⟨0, Nat.zero_le _, rfl, (show _ ∧ _ from ⟨by rw [List.take_zero]; exact Names.nil, Fr.refl _ _⟩)⟩
    case round =>
      obtain ⟨k, hk, rfl, HK⟩ := hrel
      by_cases hlt : k < n
      · have hkP : k < P.length := by rw [← HN.out]; exact hlt
        obtain ⟨x, hx⟩ : ∃ x, P[k]? = some x := ⟨_, List.getElem?_eq_getElem hkP⟩
        obtain ⟨blk, off, rfl, _, hc⟩ := (HR.out.still HK.out.2 (Nat.le_refl _)).at_ hx
        have HX := Lib.hid hx
        have HNM := Lib.hid (rname wr (tx x) (by rw [tx_size]; unfold maxLen; have := HLEN.out x (List.mem_of_getElem? hx); omega))
        rw [tx_toL] at HNM
        have h5 : (0 : Int) ≤ k := by omega
        have h6 : (k : Int) < n := by omega
        obtain ⟨T, hT⟩ : ∃ T, T = tx x := ⟨_, rfl⟩
        rw [← hT] at hc HNM
        cases hb : nmT x with
        | true =>
          rw [hb] at HNM
          have HE := Lib.hid (show Names (P.take (k + 1)) by rw [List.take_add_one, hx]; exact HK.out.1.snoc hb)
          clear hx hb hT hkP
          go_wp2_with (go_at_call 35; refine HNM.out.mono ?_; rintro e w2 ⟨rfl, rfl⟩)
          go_roundw
          case rel => exact ⟨k + 1, by omega, by go_num, (show _ ∧ _ from ⟨HE.out, HK.out.2⟩)⟩
          case measure => simp [intOf]; omega
        | false =>
          rw [hb] at HNM
          have HE := Lib.hid (show z = 140 by rw [HZ.out]; exact checkZ_no (okT_part HNE.out (by rw [← HP.out]; exact List.mem_of_getElem? hx) hb))
          clear hx hb hT hkP
          go_wp2_with (go_at_call 35; refine HNM.out.mono ?_; rintro e w2 ⟨rfl, rfl⟩)
          go_ret
          exact ⟨by rw [HE.out]; rfl, HF1.out.trans HK.out.2 (fun _ _ e => e)⟩
      · have hkn : k = n := by omega
        have HE := Lib.hid (show z = 0 by
          rw [HZ.out]
          refine checkZ_ok (okT_of HS1.out ?_)
          rw [← HP.out]
          have := HK.out.1
          rwa [List.take_of_length_le (by rw [← HN.out]; omega)] at this)
        clear hkn
        go_wp2_with fail
        go_ret
        exact ⟨by rw [HE.out]; rfl, HF1.out.trans HK.out.2 (fun _ _ e => e)⟩
end Go.Proofs.Ytldlonkaedjdpaa.pt
