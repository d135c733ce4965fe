/-
  The program's writer: many bits, lowest or highest first.
-/
import Derived.Test.YtnibbopdjeagoaaFmB
import Derived.Lib.Walk
import Derived.Shelf.Abstract
namespace Go.Proofs.Ytnibbopdjeagoaa.fl
set_option maxRecDepth 100000
open Go.RowKit Go.Maps
set_option maxRecDepth 100000

theorem enters_bit : ∀ (args : Array Value) (w : World), (callFunc 65 args).run Try.prog w = .ok (.enter 65 args) w := enters_of Try.func65 (by kernel_rfl) rfl
theorem WrA.refl {w : World} {g cap : Nat} {A : Option Addr} {S : Nat → Prop} {L : List Int} (h : WrM w g A cap L.length (packI L) S) : WrA w g S L w := ⟨A, cap, S, h, fun _ e => Or.inl e, Fr.refl _ _⟩
theorem and_one (x : Int) (h0 : 0 ≤ x) (h1 : x < 2 ^ 63) : bits .and .i64 x 1 = x % 2 := by
  have := and_low (i := 1) h0 h1 (by omega)
  exact this
section
variable {w : World} {g cap : Nat} {A : Option Addr} {S : Nat → Prop}
/-- One bit more, behind some. -/
theorem wbit_next {L : List Int} {wr : World} (h : WrA w g S L wr) (hb : AllBit L) (x : Int) (hx : x = 0 ∨ x = 1) (hl : L.length ≤ 2000000) :
    Calls Try.prog 65 #[.pointer (some ⟨g, 0, none⟩), .int .i64 x] wr fun e w' => (∃ v, e = .returned v) ∧ WrA w g S (L ++ [x]) w' := by
  obtain ⟨A1, c1, T, h1, h2, h3⟩ := h
  refine (wbit h1 hb x hx hl).mono ?_
  rintro e w' ⟨he, A2, c2, U, k1, k2, k3⟩
  refine ⟨he, A2, c2, U, k1, fun i hi => ?_, h3.trans k3 (fun i hi e => (h2 i e).elim id (fun e2 => absurd hi (by omega)))⟩
  rcases k2 i hi with e | e
  · exact h2 i e
  · exact Or.inr (Nat.le_trans h3.size e)
theorem rev_take_succ {n : Int} {K i : Nat} (h : i < K) : (lowI n K).reverse.take (i + 1) = (lowI n K).reverse.take i ++ [n / 2 ^ (K - 1 - i) % 2] := by
  rw [List.take_add_one, rev_get h]; rfl
set_option maxHeartbeats 4000000 in
theorem highest_any {L : List Int} (h : WrM w g A cap L.length (packI L) S) (hb : AllBit L) (hl : L.length ≤ 1000000) (n : Int) (K : Nat) (hn : 0 ≤ n) (hn2 : n < 2 ^ 24) (hK : K ≤ 24) :
    Calls Try.prog 64 #[.int .i64 n, .int .i64 (K : Int), .func (.func 65) #[.pointer (some ⟨g, 0, none⟩)] #[]] w fun e w' => (∃ v, e = .returned v) ∧ WrA w g S (L ++ (lowI n K).reverse) w' := by
  have H0 := Lib.hid (WrA.refl h)
  have HB := Lib.hid hb
  clear h hb
  go_enter Try.func64, Try.ntmps64
  go_wp2_with fail
  go_loopw [6, 8] (fun _ v8 wr => ∃ i : Nat, i ≤ K ∧ v8 = .int .i64 i ∧ Hid (WrA w g S (L ++ (lowI n K).reverse.take i) wr)) (fun _ v _ => K - (intOf v).toNat)
  case atStart => exact ⟨0, Nat.zero_le _, rfl, (show WrA w g S (L ++ (lowI n K).reverse.take 0) w by rw [List.take_zero, List.append_nil]; exact H0.out)⟩
  case round =>
    obtain ⟨i, hi, rfl, HC⟩ := hrel
    by_cases hlt : i < K
    · obtain ⟨t, ht⟩ : ∃ t, t = K - 1 - i := ⟨_, rfl⟩
      have hx : n / 2 ^ t % 2 = 0 ∨ n / 2 ^ t % 2 = 1 := by omega
      have hd0 : 0 ≤ n / 2 ^ t := Int.ediv_nonneg hn (Int.pow_nonneg (by omega))
      have hd1 : n / 2 ^ t ≤ n := Int.ediv_le_self _ hn
      have hand := and_one (n / 2 ^ t) hd0 (by omega)
      have HX := Lib.hid (wbit_next HC.out (HB.out.append ((show AllBit (lowI n K).reverse from fun y hy => low_bits K n y (List.mem_reverse.1 hy)).sub (List.take_sublist _ _))) (n / 2 ^ t % 2) hx (by rw [List.length_append, List.length_take, List.length_reverse, lowI_length]; omega))
      rw [List.append_assoc, ht, ← rev_take_succ hlt, ← ht] at HX
      obtain ⟨x, hxx⟩ : ∃ x, x = n / 2 ^ t % 2 := ⟨_, rfl⟩
      rw [← hxx] at HX hand
      have hti : (K : Int) - 1 - (i : Int) = (t : Int) := by omega
      have htK : t ≤ 24 := by omega
      clear hx hxx H0 ht
      go_wp2_with fail
      refine HX.out.mono ?_
      rintro e w' ⟨⟨v, rfl⟩, HC2⟩
      have HCC := Lib.hid HC2
      clear HC2 HX HC
      go_wp2_with fail
      go_roundw
      case rel => exact ⟨i + 1, by omega, by go_num, HCC⟩
      case measure => simp [intOf]; omega
    · obtain rfl : i = K := by omega
      have HZ := Lib.hid (show WrA w g S (L ++ (lowI n i).reverse) wr by have := HC.out; rwa [List.take_of_length_le (by rw [List.length_reverse, lowI_length]; exact Nat.le_refl _)] at this)
      go_wp2_with fail
      go_end0
      exact ⟨⟨_, rfl⟩, HZ.out⟩
end
end Go.Proofs.Ytnibbopdjeagoaa.fl
