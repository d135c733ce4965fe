/-
  CodeApart over what is asked of the program's codes.
-/
import Derived.Test.YtnibbopdjeagoaaCdE
namespace Go.Proofs.Ytnibbopdjeagoaa.cd
set_option maxRecDepth 100000
open Go.RowKit Go.Maps Go.Proofs.Ytnibbopdjeagoaa.fl
set_option maxRecDepth 100000

theorem rdI_more {w : World} {B B' : Nat} {A : Option Addr} {l : List Int} (h : RdI w B A l) (hB : B ≤ B') : RdI w B' A l := ⟨fun hne => by
  obtain ⟨blk, off, hp, hb, hc⟩ := h.1 hne
  exact ⟨blk, off, hp, Nat.lt_of_lt_of_le hb hB, hc⟩, h.2⟩
theorem sym_yes {l : List Int} {s : Int} (h : hasB l s = true) : symV l s = (((wordN l s.toNat : Nat) : Int), ((lenN l s.toNat : Nat) : Int), 0) := if_pos h
theorem sym_no {l : List Int} {s : Int} (h : hasB l s = false) : symV l s = (0, 0, 5) := by unfold symV; rw [h]; rfl
theorem word_in {l : List Int} (h : okB l = true) {s : Int} (hs : hasB l s = true) : wordN l s.toNat ≤ 32768 ∧ lenN l s.toNat ≤ 15 ∧ 1 ≤ lenN l s.toNat := by
  have h1 := has_of h hs
  have h2 := lenN_le h s.toNat
  have h3 := h1.small (by have := ((okB_iff l).1 h).2.2; omega) h2
  have h4 : 2 ^ lenN l s.toNat ≤ 2 ^ 15 := Nat.pow_le_pow_right (by omega) h2
  exact ⟨by omega, h2, h1.2⟩
section
variable {R : RP} {V : VP} {C : CP}
set_option maxHeartbeats 8000000 in
theorem apart_walk (HF : FlowP R V) (HP : CodeP R V C) (w : World) (A : Option Addr) (cap : Nat) (l : List Int) (a b : Int) (hr : RdI w w.heap.size A l) (hA : A = none → cap = 0) (hc : l.length ≤ cap) (hl : l.length ≤ 140737488351232) :
    Calls Try.prog 6 #[.slice A l.length cap, .int .i64 a, .int .i64 b] w fun e w' => e = .returned (.bool true) ∧ Fr (fun _ => False) w w' := by
  have HPP := Lib.hid (⟨HF, HP⟩ : _ ∧ _)
  have HI := Lib.hid (⟨hr, hA, hc, hl⟩ : _ ∧ _ ∧ _ ∧ _)
  have HW := Lib.hid (cworks HF HP w)
  obtain ⟨n, hn⟩ : ∃ n, n = l.length := ⟨_, rfl⟩
  have HN := Lib.hid hn
  have hn8 : n ≤ 140737488351232 := by omega
  rw [← hn]
  clear HF HP hr hA hc hl hn
  go_enter Try.func6, Try.ntmps6
  go_wp2_with fail
  refine HW.out.mono ?_
  rintro e w1 ⟨rfl, hF1⟩
  have HF1 := Lib.hid hF1
  clear hF1 HW
  have hr1 := rdI_more (HI.out.1.still HF1.out (Nat.le_refl _)) HF1.out.size
  cases hok : okB l with
  | false =>
    have HNW := Lib.hid (HPP.out.2.new_no w1 A cap l hr1 HI.out.2.1 HI.out.2.2.1 HI.out.2.2.2 hok)
    rw [← HN.out] at HNW
    clear hok hr1
    go_wp2_with fail
    refine HNW.out.mono ?_
    rintro e w2 ⟨rfl, hF2⟩
    have HF2 := Lib.hid (HF1.out.trans hF2 (fun _ _ e => e))
    clear hF2 HNW
    go_wp2_with fail
    go_ret
    exact ⟨rfl, HF2.out⟩
  | true =>
    have HNW := Lib.hid (HPP.out.2.new_ok w1 A cap l hr1 HI.out.2.1 HI.out.2.2.1 HI.out.2.2.2 hok)
    rw [← HN.out] at HNW
    have HOK := Lib.hid hok
    clear hok hr1
    go_wp2_with fail
    refine HNW.out.mono ?_
    rintro e w2 ⟨c, S, rfl, hC, hS, hF2⟩
    have HC := Lib.hid (⟨hC, HF1.out.trans hF2 (fun _ _ e => e)⟩ : C w2 c l S ∧ Fr (fun _ => False) w w2)
    clear hC hS hF2 HNW
    by_cases h0 : n = 0
    · subst h0
      go_wp2_with fail
      go_ret
      exact ⟨rfl, HC.out.2⟩
    have hpos : 1 ≤ n := by omega
    have hz : ((n : Int) == 0) = false := by simpa using h0
    have HA1 := Lib.hid (fun w0 : World => among_nat w0 a n hpos (by omega))
    have HA2 := Lib.hid (fun w0 : World => among_nat w0 b n hpos (by omega))
    go_wp2_with fail
    refine (HA1.out w2).mono ?_
    rintro e w' ⟨i, hi, rfl, rfl⟩
    go_wp2_with fail
    refine (HA2.out w2).mono ?_
    rintro e w' ⟨j, hj, rfl, rfl⟩
    clear HA1 HA2 hz h0
    have HW1 := Lib.hid (HPP.out.2.word w2 c l S (i : Int) HC.out.1 (by omega))
    cases h1 : hasB l (i : Int) with
    | false =>
      rw [sym_no h1] at HW1
      clear h1
      go_wp2_with fail
      refine HW1.out.mono ?_
      rintro e w3 ⟨rfl, hF3⟩
      have HC3 := Lib.hid (⟨HPP.out.2.c_keep HC.out.1 hF3 (fun _ _ e => e), HC.out.2.trans hF3 (fun _ _ e => e)⟩ : C w3 c l S ∧ Fr (fun _ => False) w w3)
      have HW2 := Lib.hid (HPP.out.2.word w3 c l S (j : Int) HC3.out.1 (by omega))
      obtain ⟨x1, hx1⟩ : ∃ x, x = (symV l (j : Int)).1 := ⟨_, rfl⟩
      obtain ⟨x2, hx2⟩ : ∃ x, x = (symV l (j : Int)).2.1 := ⟨_, rfl⟩
      obtain ⟨x3, hx3⟩ : ∃ x, x = (symV l (j : Int)).2.2 := ⟨_, rfl⟩
      rw [← hx1, ← hx2, ← hx3] at HW2
      clear hF3 HW1 hx1 hx2 hx3
      go_wp2_with fail
      refine HW2.out.mono ?_
      rintro e w4 ⟨rfl, hF4⟩
      have HF4 := Lib.hid (HC3.out.2.trans hF4 (fun _ _ e => e))
      clear hF4 HW2
      go_wp2_with fail
      go_ret
      exact ⟨rfl, HF4.out⟩
    | true =>
      have hw1 := word_in HOK.out h1
      have hs1 := has_of HOK.out h1
      rw [sym_yes h1] at HW1
      rw [Int.toNat_natCast] at HW1 hw1 hs1
      obtain ⟨X, hX⟩ : ∃ X, X = wordN l i := ⟨_, rfl⟩
      obtain ⟨N, hN⟩ : ∃ N, N = lenN l i := ⟨_, rfl⟩
      rw [← hX, ← hN] at HW1 hw1
      rw [← hN] at hs1
      have HS1 := Lib.hid (⟨hs1, hX⟩ : _ ∧ _)
      obtain ⟨hX8, hN15, hN1⟩ := hw1
      clear h1 hs1 hX hN
      go_wp2_with fail
      refine HW1.out.mono ?_
      rintro e w3 ⟨rfl, hF3⟩
      have HC3 := Lib.hid (⟨HPP.out.2.c_keep HC.out.1 hF3 (fun _ _ e => e), HC.out.2.trans hF3 (fun _ _ e => e)⟩ : C w3 c l S ∧ Fr (fun _ => False) w w3)
      have HW2 := Lib.hid (HPP.out.2.word w3 c l S (j : Int) HC3.out.1 (by omega))
      clear hF3 HW1
      cases h2 : hasB l (j : Int) with
      | false =>
        rw [sym_no h2] at HW2
        clear h2
        go_wp2_with fail
        refine HW2.out.mono ?_
        rintro e w4 ⟨rfl, hF4⟩
        have HF4 := Lib.hid (HC3.out.2.trans hF4 (fun _ _ e => e))
        clear hF4 HW2
        go_wp2_with fail
        go_ret
        exact ⟨rfl, HF4.out⟩
      | true =>
        have hw2 := word_in HOK.out h2
        have hs2 := has_of HOK.out h2
        rw [sym_yes h2] at HW2
        rw [Int.toNat_natCast] at HW2 hw2 hs2
        obtain ⟨Z, hZ⟩ : ∃ X, X = wordN l j := ⟨_, rfl⟩
        obtain ⟨M, hM⟩ : ∃ N, N = lenN l j := ⟨_, rfl⟩
        rw [← hZ, ← hM] at HW2 hw2
        rw [← hM] at hs2
        have HS2 := Lib.hid (⟨hs2, hZ⟩ : _ ∧ _)
        obtain ⟨hZ8, hM15, hM1⟩ := hw2
        clear h2 hs2 hZ hM
        by_cases hij : i = j
        · subst hij
          go_wp2_with fail
          refine HW2.out.mono ?_
          rintro e w4 ⟨rfl, hF4⟩
          have HF4 := Lib.hid (HC3.out.2.trans hF4 (fun _ _ e => e))
          clear hF4 HW2
          go_wp2_with fail
          go_ret
          exact ⟨rfl, HF4.out⟩
        · have hne : ((i : Int) == (j : Int)) = false := by
            rw [beq_eq_false_iff_ne]
            omega
          have HAP := Lib.hid (fun h : N ≤ M => apart HS1.out.1 HS2.out.1 hij h)
          rw [← HS1.out.2, ← HS2.out.2] at HAP
          clear hij
          go_wp2_with fail
          refine HW2.out.mono ?_
          rintro e w4 ⟨rfl, hF4⟩
          have HF4 := Lib.hid (HC3.out.2.trans hF4 (fun _ _ e => e))
          clear hF4 HW2
          go_wp2_with fail
          go_loop [12, 13] (fun v12 v13 => ∃ (Y m : Nat), m ≤ M ∧ Y ≤ 32768 ∧ v12 = .int .i64 Y ∧ v13 = .int .i64 m ∧ Hid (Y = Z / 2 ^ (M - m) ∧ (m = M ∨ N ≤ m))) (fun _ v => (intOf v).toNat)
          case atStart => exact ⟨Z, M, Nat.le_refl _, hZ8, rfl, rfl, (show _ ∧ _ from ⟨by rw [Nat.sub_self, Nat.pow_zero, Nat.div_one], Or.inl rfl⟩)⟩
          case round =>
            obtain ⟨Y, m, hm, hY, rfl, rfl, HY⟩ := hrel
            by_cases hlt : N < m
            · have hdiv : ((Y : Int)).tdiv 2 = ((Y / 2 : Nat) : Int) := rfl
              have HS := Lib.hid (⟨by rw [HY.out.1, Nat.div_div_eq_div_mul, ← Nat.pow_succ, show (M - m).succ = M - (m - 1) by omega], Or.inr (by omega)⟩ : Y / 2 = Z / 2 ^ (M - (m - 1)) ∧ (m - 1 = M ∨ N ≤ m - 1))
              go_wp2_with fail
              go_round
              case rel => exact ⟨Y / 2, m - 1, by omega, by omega, by first | rfl | go_num, by go_num, HS⟩
              case measure => simp [intOf]; omega
            · by_cases hlt2 : m < N
              · go_wp2_with fail
                go_ret
                exact ⟨rfl, HF4.out⟩
              · have hmN : m = N := by omega
                have hne2 : ((X : Int) != (Y : Int)) = true := by
                  rw [bne_iff_ne]
                  have h3 := HY.out.1
                  have h4 := HAP.out (by omega)
                  rw [← hmN, ← h3] at h4
                  omega
                go_wp2_with fail
                go_ret
                exact ⟨rfl, HF4.out⟩
end
end Go.Proofs.Ytnibbopdjeagoaa.cd
