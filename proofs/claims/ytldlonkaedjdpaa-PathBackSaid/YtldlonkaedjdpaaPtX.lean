/-
  Walk of PathBack.
-/
import Derived.Test.YtldlonkaedjdpaaPtW
import Derived.Deep.RegionHeld3
namespace Go.Proofs.Ytldlonkaedjdpaa.pt
set_option maxRecDepth 100000
open Go.RowKit Go.Maps
set_option maxRecDepth 100000

theorem wraps_i64 (n : Int) (h₀ : 0 ≤ n) (h₁ : n < 2 ^ 63) : IntKind.i64.wrap n = n := by rw [IntKind.wrap_i64]; omega
theorem up_last (l : Tx) {m : Nat} (h : m + 1 = (splitB 47 l).length) : upTo l m = l := by unfold upTo; rw [h, List.take_length, join_split]
set_option maxHeartbeats 8000000 in
theorem back_walk {cl : Tx → Tx × Int} (HP : PathP cl) (w : World) (s : ByteArray) (hs : s.size ≤ maxLen) : Calls Try.prog 7 #[.string s] w (TrueW w) := by
  have HW := Lib.hid (fun wx => works_any HP wx)
  have H1 := Lib.hid (fun wx => HP.check wx s hs)
  cases hk : okT s.toList with
  | false =>
    rw [checkZ_no hk] at H1
    clear HP hk hs
    go_enter Try.func7, Try.ntmps7
    go_wp2_with fail
    refine (HW.out _).mono ?_
    rintro e w1 ⟨rfl, hF1⟩
    have K1 := Lib.hid hF1
    clear hF1
    go_wp2_with fail
    refine (H1.out _).mono ?_
    rintro e w2 ⟨rfl, hF2⟩
    have K2 := Lib.hid (K1.out.trans hF2 (fun _ _ e => e))
    clear hF2
    go_wp2_with fail
    go_ret
    exact ⟨rfl, K2.out⟩
  | true =>
    rw [checkZ_ok hk] at H1
    by_cases h0 : s.toList = []
    · clear HP hk hs
      go_enter Try.func7, Try.ntmps7
      go_wp2_with fail
      refine (HW.out _).mono ?_
      rintro e w1 ⟨rfl, hF1⟩
      have K1 := Lib.hid hF1
      clear hF1
      go_wp2_with fail
      refine (H1.out _).mono ?_
      rintro e w2 ⟨rfl, hF2⟩
      have K2 := Lib.hid (K1.out.trans hF2 (fun _ _ e => e))
      clear hF2
      go_wp2_with fail
      go_ret
      exact ⟨rfl, K2.out⟩
    have h0' := isE h0
    have hs2 : s.size ≤ 200 := by rw [← toL_len]; exact okT_len hk
    have HPP := Lib.hid HP
    have HAL := Lib.hid (fun wx => HP.all wx s (by omega))
    have HPA := Lib.hid (fun wx => HP.parent wx s (by omega))
    have HBA := Lib.hid (fun wx => HP.base wx s (by omega))
    have hpl : (parentL s.toList).length ≤ 200 := Nat.le_trans (by have := join_drop_len (splitB 47 s.toList); rwa [join_split] at this) (okT_len hk)
    have hbl : (baseL s.toList).length ≤ 200 := by
      unfold baseL
      rw [List.getLastD_eq_getLast?, List.getLast?_eq_some_getLast (split_ne 47 s.toList)]
      exact Nat.le_trans (split_len.1 _ (List.getLast_mem _)) (okT_len hk)
    have HJN := Lib.hid (fun wx => HP.join wx (tx (parentL s.toList)) (tx (baseL s.toList)) (by rw [tx_size (parentL s.toList), tx_size (baseL s.toList)]; unfold maxLen; omega))
    rw [tx_toL (parentL s.toList), tx_toL (baseL s.toList), join_parts hk h0, tx_of] at HJN
    obtain ⟨X, hX⟩ : ∃ X, X = tx (parentL s.toList) := ⟨_, rfl⟩
    obtain ⟨Y, hY⟩ : ∃ Y, Y = tx (baseL s.toList) := ⟨_, rfl⟩
    rw [← hX] at HPA HJN
    rw [← hY] at HBA HJN
    obtain ⟨n, hn⟩ : ∃ n, n = (splitB 47 s.toList).length := ⟨_, rfl⟩
    have hn1 : 1 ≤ n := by rw [hn]; exact List.length_pos_iff.2 (split_ne 47 s.toList)
    have hn2 : n ≤ 201 := by rw [hn]; exact Nat.le_trans split_len.2 (by rw [toL_len]; omega)
    obtain ⟨m, hm⟩ : ∃ m, m = n - 1 := ⟨_, rfl⟩
    have hmi : (n : Int) - 1 = (m : Int) := by omega
    have hm0 : (0 : Int) ≤ (m : Int) := by omega
    have hmn : (m : Int) < (n : Int) := by omega
    have HLEN := Lib.hid (show (allL s.toList).length = n by rw [all_len h0, hn])
    have HGET := Lib.hid (fun (k : Nat) (h : k < n) => all_get (k := k) h0 (by rw [← hn]; exact h))
    have HFA := Lib.hid (fun (k : Nat) (h : k < n) => all_facts hk h0 (k := k) (by rw [← hn]; exact h))
    have HLA := Lib.hid (show upTo s.toList m = s.toList from up_last _ (by rw [← hn]; omega))
    have HMN := Lib.hid (show m < n by omega)
    have HTS := Lib.hid (tx_of s)
    clear HP hk h0 hX hY hn hpl hbl hm
    go_enter Try.func7, Try.ntmps7
    go_wp2_with fail
    refine (HW.out _).mono ?_
    rintro e w1 ⟨rfl, hF1⟩
    have K1 := Lib.hid hF1
    clear hF1
    go_wp2_with fail
    refine (H1.out _).mono ?_
    rintro e w2 ⟨rfl, hF2⟩
    have K2 := Lib.hid (K1.out.trans hF2 (fun _ _ e => e))
    clear hF2
    go_wp2_with fail
    refine (HAL.out _).mono ?_
    rintro e w3 ⟨A, cap, rfl, ho, hF3⟩
    rw [HLEN.out]
    have K3 := Lib.hid (⟨K2.out.trans hF3 (fun _ _ e => e), ho.rd⟩ : Fr (fun _ => False) w w3 ∧ RdS w3 w3.heap.size A (allL s.toList))
    clear hF3 ho
    obtain ⟨blk, off, rfl, hbk, cm⟩ := K3.out.2.at_ (HGET.out m HMN.out)
    rw [HLA.out, HTS.out] at cm
    go_wp2_with fail
    refine (HPA.out _).mono ?_
    rintro e w4 ⟨rfl, hF4⟩
    have K4 := Lib.hid hF4
    clear hF4
    go_wp2_with fail
    refine (HBA.out _).mono ?_
    rintro e w5 ⟨rfl, hF5⟩
    have K5 := Lib.hid (K4.out.trans hF5 (fun _ _ e => e))
    clear hF5
    go_wp2_with fail
    refine (HJN.out _).mono ?_
    rintro e w6 ⟨rfl, hF6⟩
    have K6 := Lib.hid (K5.out.trans hF6 (fun _ _ e => e))
    clear hF6 cm
    go_wp2_with fail
    go_loopw [4] (fun v wr => ∃ k : Nat, k ≤ n ∧ v = .int .i64 k ∧ Hid (Fr (fun _ => False) w3 wr)) (fun v _ => n - (intOf v).toNat)
    case atStart => exact ⟨0, Nat.zero_le _, rfl, K6.out⟩
    case round =>
      obtain ⟨k, hk, rfl, K⟩ := hrel
      by_cases hlt : k < n
      · obtain ⟨hf1, hf2, hf3⟩ := HFA.out k hlt
        have hg := HGET.out k hlt
        obtain ⟨x, hx⟩ : ∃ x, x = upTo s.toList k := ⟨_, rfl⟩
        rw [← hx] at hf1 hf2 hf3 hg
        have hT9 : (tx x).size ≤ 200 := by rw [tx_size x]; exact okT_len hf1
        have HC := Lib.hid (fun wx => HPP.out.check wx (tx x) (by unfold maxLen; omega))
        have HU := Lib.hid (fun wx => HPP.out.under wx s (tx x) (by omega) (by omega))
        have HT := Lib.hid (fun wx => HPP.out.parent wx (tx x) (by omega))
        rw [tx_toL x, checkZ_ok hf1] at HC
        rw [tx_toL x, hf2] at HU
        rw [tx_toL x] at HT
        have h5 : (0 : Int) ≤ k := by omega
        have h6 : (k : Int) < n := by omega
        have hc0 : ∀ wx : World, Fr (fun _ => False) w3 wx → wx.cell? ⟨blk, off + k, none⟩ = some (.string (tx x)) := fun wx hF => by
          obtain ⟨b2, o2, e, _, hc⟩ := (K3.out.2.still hF (Nat.le_refl _)).at_ hg
          cases e
          exact hc
        obtain ⟨T, hT⟩ : ∃ T, T = tx x := ⟨_, rfl⟩
        rw [← hT] at HC HU HT hc0
        rcases Nat.eq_zero_or_pos k with hk0 | hk0
        · subst hk0
          rw [Nat.add_zero] at hc0
          have HD := Lib.hid hc0
          have ck := hc0 wr K.out
          replace K := Lib.hid K.out.drew
          clear hf1 hf2 hf3 hg hx hT hT9 hc0
          go_wp2_with fail
          -- BEGIN
          refine wp_region_held_drew (S := fun w' => w'.cell? ⟨blk, off, none⟩ = some (.string T)) (by kernel_rfl) (HD.out _ K.out) (fun hHeld => ?_)
          refine wpAnyH_take (i := 0) (v := ?_) (by simp only [List.getElem?_toArray, List.getElem?_cons_zero]; rfl) (by kernel_rfl) (by kernel_rfl) (by kernel_rfl) (by intro _ _ _ h; exact h) (Or.inl ⟨by rfl, ?_⟩) hHeld ?_
          rotate_left 1
          · intro wx hSw
            first
              | (go_simp; done)
              | (go_simp; with_reducible rfl)
              | with_reducible rfl
          simp only [Act.put, List.setIfInBounds_toArray, List.set_cons_zero, List.set_cons_succ]
          refine wpAnyH_take (i := 1) (v := ?_) (by simp only [List.getElem?_toArray, List.getElem?_cons_succ, List.getElem?_cons_zero]; rfl) (by kernel_rfl) (by kernel_rfl) (by kernel_rfl) (by intro _ _ _ h; exact h) (Or.inl ⟨by rfl, ?_⟩) hHeld ?_
          rotate_left 1
          · intro wx hSw
            first
              | (go_simp; done)
              | (go_simp; with_reducible rfl)
              | with_reducible rfl
          simp only [Act.put, List.setIfInBounds_toArray, List.set_cons_zero, List.set_cons_succ]
          refine wpAnyH_take (i := 2) (v := ?_) (by simp only [List.getElem?_toArray, List.getElem?_cons_succ, List.getElem?_cons_zero]; rfl) (by kernel_rfl) (by kernel_rfl) (by kernel_rfl) (by intro _ _ _ h; exact h) (Or.inl ⟨by rfl, ?_⟩) hHeld ?_
          rotate_left 1
          · intro wx hSw
            first
              | (go_simp; done)
              | (go_simp; with_reducible rfl)
              | with_reducible rfl
          simp only [Act.put, List.setIfInBounds_toArray, List.set_cons_zero, List.set_cons_succ]
          refine wpAnyH_take (i := 3) (v := ?_) (by simp only [List.getElem?_toArray, List.getElem?_cons_succ, List.getElem?_cons_zero]; rfl) (by kernel_rfl) (by kernel_rfl) (by kernel_rfl) (by intro _ _ _ h; exact h) (Or.inl ⟨by rfl, ?_⟩) hHeld ?_
          rotate_left 1
          · intro wx hSw
            first
              | (go_simp; done)
              | (go_simp; with_reducible rfl)
              | with_reducible rfl
          simp only [Act.put, List.setIfInBounds_toArray, List.set_cons_zero, List.set_cons_succ]
          refine wpAnyH_ready (rs := [4]) (by kernel_rfl) (by simp) ?_
          refine AllReadyH.cons (by simp only [List.getElem?_toArray, List.getElem?_cons_succ, List.getElem?_cons_zero]; rfl) (fun K0 hK => ?_) AllReadyH.nil
          go_simp
          refine (HC.out _).mono ?_
          rintro e wn ⟨rfl, hF⟩
          replace K := Lib.hid (K.out.trans hF (fun _ _ e => e))
          clear hF
          go_wp2_with fail
          refine hK.out _ _ (HD.out _ K.out) (fun hHeld => ?_)
          clear hK K0
          try simp only [Act.put, List.setIfInBounds_toArray, List.set_cons_zero, List.set_cons_succ]
          refine wpAnyH_take (i := 5) (v := ?_) (by simp only [List.getElem?_toArray, List.getElem?_cons_succ, List.getElem?_cons_zero]; rfl) (by kernel_rfl) (by kernel_rfl) (by kernel_rfl) (by intro _ _ _ h; exact h) (Or.inl ⟨by rfl, ?_⟩) hHeld ?_
          rotate_left 1
          · intro wx hSw
            first
              | (go_simp; done)
              | (go_simp; with_reducible rfl)
              | with_reducible rfl
          simp only [Act.put, List.setIfInBounds_toArray, List.set_cons_zero, List.set_cons_succ]
          refine wpAnyH_take (i := 6) (v := ?_) (by simp only [List.getElem?_toArray, List.getElem?_cons_succ, List.getElem?_cons_zero]; rfl) (by kernel_rfl) (by kernel_rfl) (by kernel_rfl) (by intro _ _ _ h; exact h) (Or.inl ⟨by rfl, ?_⟩) hHeld ?_
          rotate_left 1
          · intro wx hSw
            first
              | (go_simp; done)
              | (go_simp; with_reducible rfl)
              | with_reducible rfl
          simp only [Act.put, List.setIfInBounds_toArray, List.set_cons_zero, List.set_cons_succ]
          refine wpAnyH_take (i := 7) (v := ?_) (by simp only [List.getElem?_toArray, List.getElem?_cons_succ, List.getElem?_cons_zero]; rfl) (by kernel_rfl) (by kernel_rfl) (by kernel_rfl) (by intro _ _ _ h; exact h) (Or.inl ⟨by rfl, ?_⟩) hHeld ?_
          rotate_left 1
          · intro wx hSw
            first
              | (go_simp; done)
              | (go_simp; with_reducible rfl)
              | with_reducible rfl
          simp only [Act.put, List.setIfInBounds_toArray, List.set_cons_zero, List.set_cons_succ]
          refine wpAnyH_take (i := 8) (v := ?_) (by simp only [List.getElem?_toArray, List.getElem?_cons_succ, List.getElem?_cons_zero]; rfl) (by kernel_rfl) (by kernel_rfl) (by kernel_rfl) (by intro _ _ _ h; exact h) (Or.inl ⟨by rfl, ?_⟩) hHeld ?_
          rotate_left 1
          · intro wx hSw
            first
              | (go_simp; done)
              | (go_simp; with_reducible rfl)
              | with_reducible rfl
          simp only [Act.put, List.setIfInBounds_toArray, List.set_cons_zero, List.set_cons_succ]
          refine wpAnyH_take (i := 9) (v := ?_) (by simp only [List.getElem?_toArray, List.getElem?_cons_succ, List.getElem?_cons_zero]; rfl) (by kernel_rfl) (by kernel_rfl) (by kernel_rfl) (by intro _ _ _ h; exact h) (Or.inl ⟨by rfl, ?_⟩) hHeld ?_
          rotate_left 1
          · intro wx hSw
            first
              | (go_simp; done)
              | (go_simp; with_reducible rfl)
              | with_reducible rfl
          simp only [Act.put, List.setIfInBounds_toArray, List.set_cons_zero, List.set_cons_succ]
          refine wpAnyH_take (i := 10) (v := ?_) (by simp only [List.getElem?_toArray, List.getElem?_cons_succ, List.getElem?_cons_zero]; rfl) (by kernel_rfl) (by kernel_rfl) (by kernel_rfl) (by intro _ _ _ h; exact h) (Or.inl ⟨by rfl, ?_⟩) hHeld ?_
          rotate_left 1
          · intro wx hSw
            first
              | (go_simp; done)
              | (go_simp; with_reducible rfl)
              | with_reducible rfl
          simp only [Act.put, List.setIfInBounds_toArray, List.set_cons_zero, List.set_cons_succ]
          refine wpAnyH_take (i := 11) (v := ?_) (by simp only [List.getElem?_toArray, List.getElem?_cons_succ, List.getElem?_cons_zero]; rfl) (by kernel_rfl) (by kernel_rfl) (by kernel_rfl) (by intro _ _ _ h; exact h) (Or.inl ⟨by rfl, ?_⟩) hHeld ?_
          rotate_left 1
          · intro wx hSw
            first
              | (go_simp; done)
              | (go_simp; with_reducible rfl)
              | with_reducible rfl
          simp only [Act.put, List.setIfInBounds_toArray, List.set_cons_zero, List.set_cons_succ]
          refine wpAnyH_ready (rs := [12]) (by kernel_rfl) (by simp) ?_
          refine AllReadyH.cons (by simp only [List.getElem?_toArray, List.getElem?_cons_succ, List.getElem?_cons_zero]; rfl) (fun K0 hK => ?_) AllReadyH.nil
          go_simp
          refine (HU.out _).mono ?_
          rintro e wn ⟨rfl, hF⟩
          replace K := Lib.hid (K.out.trans hF (fun _ _ e => e))
          clear hF
          go_wp2_with fail
          refine hK.out _ _ (HD.out _ K.out) (fun hHeld => ?_)
          clear hK K0
          try simp only [Act.put, List.setIfInBounds_toArray, List.set_cons_zero, List.set_cons_succ]
          refine wpAnyH_take (i := 13) (v := ?_) (by simp only [List.getElem?_toArray, List.getElem?_cons_succ, List.getElem?_cons_zero]; rfl) (by kernel_rfl) (by kernel_rfl) (by kernel_rfl) (by intro _ _ _ h; exact h) (Or.inl ⟨by rfl, ?_⟩) hHeld ?_
          rotate_left 1
          · intro wx hSw
            first
              | (go_simp; done)
              | (go_simp; with_reducible rfl)
              | with_reducible rfl
          simp only [Act.put, List.setIfInBounds_toArray, List.set_cons_zero, List.set_cons_succ]
          refine wpAnyH_take (i := 14) (v := ?_) (by simp only [List.getElem?_toArray, List.getElem?_cons_succ, List.getElem?_cons_zero]; rfl) (by kernel_rfl) (by kernel_rfl) (by kernel_rfl) (by intro _ _ _ h; exact h) (Or.inl ⟨by rfl, ?_⟩) hHeld ?_
          rotate_left 1
          · intro wx hSw
            first
              | (go_simp; done)
              | (go_simp; with_reducible rfl)
              | with_reducible rfl
          simp only [Act.put, List.setIfInBounds_toArray, List.set_cons_zero, List.set_cons_succ]
          refine wpAnyH_take (i := 15) (v := ?_) (by simp only [List.getElem?_toArray, List.getElem?_cons_succ, List.getElem?_cons_zero]; rfl) (by kernel_rfl) (by kernel_rfl) (by kernel_rfl) (by intro _ _ _ h; exact h) (Or.inl ⟨by rfl, ?_⟩) hHeld ?_
          rotate_left 1
          · intro wx hSw
            first
              | (go_simp; done)
              | (go_simp; with_reducible rfl)
              | with_reducible rfl
          simp only [Act.put, List.setIfInBounds_toArray, List.set_cons_zero, List.set_cons_succ]
          refine wpAnyH_take (i := 16) (v := ?_) (by simp only [List.getElem?_toArray, List.getElem?_cons_succ, List.getElem?_cons_zero]; rfl) (by kernel_rfl) (by kernel_rfl) (by kernel_rfl) (by intro _ _ _ h; exact h) (Or.inl ⟨by rfl, ?_⟩) hHeld ?_
          rotate_left 1
          · intro wx hSw
            first
              | (go_simp; done)
              | (go_simp; with_reducible rfl)
              | with_reducible rfl
          simp only [Act.put, List.setIfInBounds_toArray, List.set_cons_zero, List.set_cons_succ]
          refine wpAnyH_take (i := 17) (v := ?_) (by simp only [List.getElem?_toArray, List.getElem?_cons_succ, List.getElem?_cons_zero]; rfl) (by kernel_rfl) (by kernel_rfl) (by kernel_rfl) (by intro _ _ _ h; exact h) (Or.inl ⟨by rfl, ?_⟩) hHeld ?_
          rotate_left 1
          · intro wx hSw
            first
              | (go_simp; done)
              | (go_simp; with_reducible rfl)
              | with_reducible rfl
          simp only [Act.put, List.setIfInBounds_toArray, List.set_cons_zero, List.set_cons_succ]
          refine wpAnyH_take (i := 18) (v := ?_) (by simp only [List.getElem?_toArray, List.getElem?_cons_succ, List.getElem?_cons_zero]; rfl) (by kernel_rfl) (by kernel_rfl) (by kernel_rfl) (by intro _ _ _ h; exact h) (Or.inl ⟨by rfl, ?_⟩) hHeld ?_
          rotate_left 1
          · intro wx hSw
            first
              | (go_simp; done)
              | (go_simp; with_reducible rfl)
              | with_reducible rfl
          simp only [Act.put, List.setIfInBounds_toArray, List.set_cons_zero, List.set_cons_succ]
          refine wpAnyH_take (i := 19) (v := undef) (by simp only [List.getElem?_toArray, List.getElem?_cons_succ, List.getElem?_cons_zero]; rfl) (by kernel_rfl) (by kernel_rfl) (by kernel_rfl) (by intro _ _ _ h; exact h) (Or.inr ⟨by rfl, rfl⟩) hHeld ?_
          simp only [Act.put, List.setIfInBounds_toArray, List.set_cons_zero, List.set_cons_succ]
          refine wpAnyH_take (i := 20) (v := undef) (by simp only [List.getElem?_toArray, List.getElem?_cons_succ, List.getElem?_cons_zero]; rfl) (by kernel_rfl) (by kernel_rfl) (by kernel_rfl) (by intro _ _ _ h; exact h) (Or.inr ⟨by rfl, rfl⟩) hHeld ?_
          simp only [Act.put, List.setIfInBounds_toArray, List.set_cons_zero, List.set_cons_succ]
          refine wpAnyH_take (i := 21) (v := undef) (by simp only [List.getElem?_toArray, List.getElem?_cons_succ, List.getElem?_cons_zero]; rfl) (by kernel_rfl) (by kernel_rfl) (by kernel_rfl) (by intro _ _ _ h; exact h) (Or.inr ⟨by rfl, rfl⟩) hHeld ?_
          simp only [Act.put, List.setIfInBounds_toArray, List.set_cons_zero, List.set_cons_succ]
          refine wpAnyH_take (i := 22) (v := undef) (by simp only [List.getElem?_toArray, List.getElem?_cons_succ, List.getElem?_cons_zero]; rfl) (by kernel_rfl) (by kernel_rfl) (by kernel_rfl) (by intro _ _ _ h; exact h) (Or.inr ⟨by rfl, rfl⟩) hHeld ?_
          simp only [Act.put, List.setIfInBounds_toArray, List.set_cons_zero, List.set_cons_succ]
          refine wpAnyH_take (i := 23) (v := undef) (by simp only [List.getElem?_toArray, List.getElem?_cons_succ, List.getElem?_cons_zero]; rfl) (by kernel_rfl) (by kernel_rfl) (by kernel_rfl) (by intro _ _ _ h; exact h) (Or.inr ⟨by rfl, rfl⟩) hHeld ?_
          simp only [Act.put, List.setIfInBounds_toArray, List.set_cons_zero, List.set_cons_succ]
          refine wpAnyH_take (i := 24) (v := undef) (by simp only [List.getElem?_toArray, List.getElem?_cons_succ, List.getElem?_cons_zero]; rfl) (by kernel_rfl) (by kernel_rfl) (by kernel_rfl) (by intro _ _ _ h; exact h) (Or.inr ⟨by rfl, rfl⟩) hHeld ?_
          simp only [Act.put, List.setIfInBounds_toArray, List.set_cons_zero, List.set_cons_succ]
          refine wpAnyH_take (i := 25) (v := undef) (by simp only [List.getElem?_toArray, List.getElem?_cons_succ, List.getElem?_cons_zero]; rfl) (by kernel_rfl) (by kernel_rfl) (by kernel_rfl) (by intro _ _ _ h; exact h) (Or.inr ⟨by rfl, rfl⟩) hHeld ?_
          simp only [Act.put, List.setIfInBounds_toArray, List.set_cons_zero, List.set_cons_succ]
          refine wpAnyH_take (i := 26) (v := undef) (by simp only [List.getElem?_toArray, List.getElem?_cons_succ, List.getElem?_cons_zero]; rfl) (by kernel_rfl) (by kernel_rfl) (by kernel_rfl) (by intro _ _ _ h; exact h) (Or.inr ⟨by rfl, rfl⟩) hHeld ?_
          simp only [Act.put, List.setIfInBounds_toArray, List.set_cons_zero, List.set_cons_succ]
          refine wpAnyH_take (i := 27) (v := undef) (by simp only [List.getElem?_toArray, List.getElem?_cons_succ, List.getElem?_cons_zero]; rfl) (by kernel_rfl) (by kernel_rfl) (by kernel_rfl) (by intro _ _ _ h; exact h) (Or.inr ⟨by rfl, rfl⟩) hHeld ?_
          simp only [Act.put, List.setIfInBounds_toArray, List.set_cons_zero, List.set_cons_succ]
          refine wpAnyH_take (i := 28) (v := undef) (by simp only [List.getElem?_toArray, List.getElem?_cons_succ, List.getElem?_cons_zero]; rfl) (by kernel_rfl) (by kernel_rfl) (by kernel_rfl) (by intro _ _ _ h; exact h) (Or.inr ⟨by rfl, rfl⟩) hHeld ?_
          simp only [Act.put, List.setIfInBounds_toArray, List.set_cons_zero, List.set_cons_succ]
          refine wpAnyH_take (i := 29) (v := undef) (by simp only [List.getElem?_toArray, List.getElem?_cons_succ, List.getElem?_cons_zero]; rfl) (by kernel_rfl) (by kernel_rfl) (by kernel_rfl) (by intro _ _ _ h; exact h) (Or.inr ⟨by rfl, rfl⟩) hHeld ?_
          simp only [Act.put, List.setIfInBounds_toArray, List.set_cons_zero, List.set_cons_succ]
          refine wpAnyH_take (i := 30) (v := ?_) (by simp only [List.getElem?_toArray, List.getElem?_cons_succ, List.getElem?_cons_zero]; rfl) (by kernel_rfl) (by kernel_rfl) (by kernel_rfl) (by intro _ _ _ h; exact h) (Or.inl ⟨by rfl, ?_⟩) hHeld ?_
          rotate_left 1
          · intro wx hSw
            first
              | (go_simp; done)
              | (go_simp; with_reducible rfl)
              | with_reducible rfl
          simp only [Act.put, List.setIfInBounds_toArray, List.set_cons_zero, List.set_cons_succ]
          refine wpAnyH_take (i := 31) (v := ?_) (by simp only [List.getElem?_toArray, List.getElem?_cons_succ, List.getElem?_cons_zero]; rfl) (by kernel_rfl) (by kernel_rfl) (by kernel_rfl) (by intro _ _ _ h; exact h) (Or.inl ⟨by rfl, ?_⟩) hHeld ?_
          rotate_left 1
          · intro wx hSw
            first
              | (go_simp; done)
              | (go_simp; with_reducible rfl)
              | with_reducible rfl
          simp only [Act.put, List.setIfInBounds_toArray, List.set_cons_zero, List.set_cons_succ]
          refine wpAnyH_done (by kernel_rfl) ?_ _
          -- END
          all_goals
            go_wp2_with fail
            go_roundw
            case rel => exact ⟨1, by omega, by go_num, K.out⟩
            case measure => simp [intOf]; omega
        · obtain ⟨j, rfl⟩ : ∃ j, k = j + 1 := ⟨k - 1, by omega⟩
          have hpj := hf3 j rfl
          rw [hpj] at HT
          have hgj := HGET.out j (by omega)
          have hcj : ∀ wx : World, Fr (fun _ => False) w3 wx → wx.cell? ⟨blk, off + j, none⟩ = some (.string (tx (upTo s.toList j))) := fun wx hF => by
            obtain ⟨b2, o2, e, _, hc⟩ := (K3.out.2.still hF (Nat.le_refl _)).at_ hgj
            cases e
            exact hc
          obtain ⟨k, hk'⟩ : ∃ k, k = j + 1 := ⟨_, rfl⟩
          rw [← hk'] at hk hlt h5 h6 hc0 ⊢
          have hkj : IntKind.i64.wrap ((k : Int) - 1) = (j : Int) := by rw [wraps_i64 _ (by omega) (by omega)]; omega
          have hkj2 : (k : Int) - 1 = (j : Int) := by omega
          have hj0 : (0 : Int) ≤ j := by omega
          have hj1 : (j : Int) < n := by omega
          have hk9 : (0 : Int) < k := by omega
          have hk8 : 0 < k := by omega
          have hkj3 : IntKind.i64.wrap (j : Int) = (j : Int) := wraps_i64 _ (by omega) (by omega)
          have hj2 : j < n := by omega
          obtain ⟨U, hU⟩ : ∃ U, U = tx (upTo s.toList j) := ⟨_, rfl⟩
          rw [← hU] at hcj HT
          have HD := Lib.hid (fun wx hF => (⟨hc0 wx hF, hcj wx hF⟩ : _ ∧ _))
          replace K := Lib.hid K.out.drew
          have HK1 := Lib.hid hk'
          clear hf1 hf2 hf3 hg hx hT hT9 hc0 hcj hgj hpj hU hk' hk0
          go_wp2_with fail
          go_region_held3 (fun w' => w'.cell? ⟨blk, off + k, none⟩ = some (.string T) ∧ w'.cell? ⟨blk, off + j, none⟩ = some (.string U))
            (exact HD.out _ K.out)
            (first
              | (go_at_call 12; refine (HC.out _).mono ?_; rintro e wn ⟨rfl, hF⟩; replace K := Lib.hid (K.out.trans hF (fun _ _ e => e)); clear hF)
              | (go_at_call 23; refine (HU.out _).mono ?_; rintro e wn ⟨rfl, hF⟩; replace K := Lib.hid (K.out.trans hF (fun _ _ e => e)); clear hF)
              | (go_at_call 17; refine (HT.out _).mono ?_; rintro e wn ⟨rfl, hF⟩; replace K := Lib.hid (K.out.trans hF (fun _ _ e => e)); clear hF))
          all_goals
            go_wp2_with fail
            go_roundw
            case rel => exact ⟨k + 1, by omega, by go_num, K.out⟩
            case measure => simp [intOf]; omega
      · have hkn : ¬ (k : Int) < (n : Int) := by omega
        go_wp2_with fail
        go_ret
        exact ⟨rfl, K3.out.1.trans K.out (fun _ _ e => e)⟩
end Go.Proofs.Ytldlonkaedjdpaa.pt
