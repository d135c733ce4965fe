/-
  The calls of bits, and the document's: maps.
-/
import Derived.Test.YtmfilcdljfpnfaaBitsP
namespace Go.Proofs.Ytmfilcdljfpnfaa
open Go.RowKit Go.Maps

set_option maxHeartbeats 400000 in
theorem within_ok (w : World) (A : Option Addr) (n cap i : Nat) (hl : n ≤ 140737488351232) (hi : i / 8 < n) :
    Calls Try.prog 32 #[.slice A n cap, .int .i64 (i : Int)] w fun e w' => e = .returned (.bool true) ∧ w = w' := by
  have h1 : (i : Int) / 8 < n := by omega
  go_enter Try.func32, Try.ntmps32
  go_wp2_with fail
  go_ret
  exact ⟨by simp, rfl⟩
set_option maxHeartbeats 400000 in
theorem within_no (w : World) (A : Option Addr) (n cap : Nat) (i : Int) (hz2 : i ≤ 9223372036854775807) (h : ¬ (0 ≤ i ∧ i / 8 < n)) :
    Calls Try.prog 32 #[.slice A n cap, .int .i64 i] w fun e w' => e = .returned (.bool false) ∧ w = w' := by
  by_cases h0 : 0 ≤ i
  · have h1 : (n : Int) ≤ i / 8 := by omega
    clear h
    go_enter Try.func32, Try.ntmps32
    go_wp2_with fail
    go_ret
    exact ⟨by simp; omega, rfl⟩
  · clear h
    have h1 : i < 0 := by omega
    clear h0
    go_enter Try.func32, Try.ntmps32
    go_wp2_with fail
    go_ret
    exact ⟨rfl, rfl⟩

set_option maxHeartbeats 400000 in
theorem bit_any (w : World) (A : Option Addr) (n cap B i : Nat) (l : List UInt8) (hr : Rd w B A l) (hn : l.length = n) (hi : i / 8 < n) (hl : n ≤ 140737488351232) :
    Calls Try.prog 33 #[.slice A n cap, .int .i64 (i : Int)] w fun e w' => e = .returned (.int .i64 (bitI l i)) ∧ w = w' := by
  have hk : i / 8 < l.length := by omega
  obtain ⟨blk, off, rfl, _, hc⟩ := hr.at_ hk
  have ha := and_one l hk
  generalize l[i / 8] = x at hc ha
  have hi1 : (0 : Int) ≤ (i : Int) / 8 := by omega
  have hi2 : (i : Int) / 8 < n := by omega
  clear hr hn hk
  go_enter Try.func33, Try.ntmps33
  go_wp2_with fail
  go_ret
  exact ⟨rfl, rfl⟩

set_option maxHeartbeats 400000 in
theorem rbit_any (w : World) (A : Option Addr) (n cap B i : Nat) (l : List UInt8) (hr : Rd w B A l) (hn : l.length = n) (hi : i / 8 < n) (hl : n ≤ 140737488351232) :
    Calls Try.prog 34 #[.slice A n cap, .int .i64 (i : Int)] w fun e w' => e = .returned (.bool (bitB l i)) ∧ w = w' := by
  have hk : i / 8 < l.length := by omega
  obtain ⟨blk, off, rfl, _, hc⟩ := hr.at_ hk
  have HL := Lib.hid (last_bit l hk)
  have hx := l[i / 8].toNat_lt
  generalize l[i / 8].toNat = x at hc HL hx
  have hi1 : (0 : Int) ≤ (i : Int) / 8 := by omega
  have hi2 : (i : Int) / 8 < n := by omega
  have H0 := Lib.hid (show (x : Int) = ((x / 2 ^ 0 : Nat) : Int) by rw [Nat.pow_zero, Nat.div_one])
  clear hr hn hk
  go_enter Try.func34, Try.ntmps34
  go_wp2_with fail
  go_loop [5, 6] (fun v j => ∃ k : Nat, k ≤ i % 8 ∧ j = .int .i64 k ∧ v = .int .i64 ((x / 2 ^ k : Nat) : Int)) (fun _ j => i % 8 - (intOf j).toNat)
  case atStart => exact ⟨0, Nat.zero_le _, rfl, by rw [← H0.out]⟩
  case round =>
    obtain ⟨k, hk, rfl, rfl⟩ := hrel
    by_cases hlt : k < i % 8
    · have h1 : (k : Int) < (i : Int) % 8 := by omega
      have HH := Lib.hid (halves x k)
      have hq : x / 2 ^ k ≤ x := Nat.div_le_self _ _
      generalize x / 2 ^ k = q at HH hq ⊢
      go_wp2_with fail
      go_round
      case rel => exact ⟨k + 1, by omega, by go_num, by rw [← HH.out]⟩
      case measure => simp [intOf]; omega
    · have h1 : (i : Int) % 8 ≤ (k : Int) := by omega
      have hkk : k = i % 8 := by omega
      have HK := Lib.hid hkk
      have hq : x / 2 ^ k ≤ x := Nat.div_le_self _ _
      obtain ⟨q, hq2⟩ : ∃ q, q = x / 2 ^ k := ⟨_, rfl⟩
      rw [← hq2] at hq ⊢
      have HQ := Lib.hid hq2
      clear hkk hq2 hlt
      go_wp2_with fail
      go_ret
      have h := HL.out
      rw [← HK.out, ← HQ.out] at h
      exact ⟨by rw [← h]; rfl, rfl⟩

/-! ### Has -/
set_option maxHeartbeats 400000 in
theorem has_no (w : World) (A : Option Addr) (n cap : Nat) (i : Int) (hz2 : i ≤ 9223372036854775807) (h : ¬ (0 ≤ i ∧ i / 8 < n)) :
    Calls Try.prog 16 #[.slice A n cap, .int .i64 i] w fun e w' => e = .returned (.tuple #[.bool false, .int .i64 2]) ∧ w = w' := by
  have H := Lib.hid h
  clear h
  go_enter Try.func16, Try.ntmps16
  go_wp2_with (go_at_call 32; refine (within_no _ _ _ _ _ hz2 H.out).mono ?_; rintro e w' ⟨rfl, rfl⟩)
  go_ret2
  exact ⟨rfl, rfl⟩
theorem bitI_is (l : List UInt8) (i : Nat) : (bitI l i == 1) = bitB l i := by unfold bitI; cases bitB l i <;> rfl
theorem bitI_no (l : List UInt8) (i : Nat) : (bitI l i == 0) = !bitB l i := by unfold bitI; cases bitB l i <;> rfl
set_option maxHeartbeats 400000 in
theorem has_ok (w : World) (A : Option Addr) (n cap B i : Nat) (l : List UInt8) (hr : Rd w B A l) (hn : l.length = n) (hi : i / 8 < n) (hl : n ≤ 140737488351232) :
    Calls Try.prog 16 #[.slice A n cap, .int .i64 (i : Int)] w fun e w' => e = .returned (.tuple #[.bool (bitB l i), .int .i64 0]) ∧ w = w' := by
  have HW := Lib.hid (within_ok w A n cap i hl hi)
  have HB := Lib.hid (bit_any w A n cap B i l hr hn hi hl)
  have HI := bitI_is l i
  generalize bitI l i = z at HB HI
  generalize bitB l i = z2 at HI
  clear hr hn
  go_enter Try.func16, Try.ntmps16
  go_wp2_with (first
    | (go_at_call 32; refine HW.out.mono ?_; rintro e w' ⟨rfl, rfl⟩)
    | (go_at_call 33; refine HB.out.mono ?_; rintro e w' ⟨rfl, rfl⟩))
  go_ret2
  exact ⟨rfl, rfl⟩
set_option maxHeartbeats 400000 in
theorem rhas_no (w : World) (A : Option Addr) (n cap : Nat) (i : Int) (hz2 : i ≤ 9223372036854775807) (h : ¬ (0 ≤ i ∧ i / 8 < n)) :
    Calls Try.prog 17 #[.slice A n cap, .int .i64 i] w fun e w' => e = .returned (.tuple #[.bool false, .int .i64 2]) ∧ w = w' := by
  by_cases h0 : 0 ≤ i
  · have h1 : (n : Int) ≤ i / 8 := by omega
    clear h
    go_enter Try.func17, Try.ntmps17
    go_wp2_with fail
    go_ret2
    exact ⟨rfl, rfl⟩
  · have h1 : i < 0 := by omega
    clear h h0
    go_enter Try.func17, Try.ntmps17
    go_wp2_with fail
    all_goals first | (exfalso; omega) | (go_ret2; exact ⟨rfl, rfl⟩)
set_option maxHeartbeats 400000 in
theorem rhas_ok (w : World) (A : Option Addr) (n cap B i : Nat) (l : List UInt8) (hr : Rd w B A l) (hn : l.length = n) (hi : i / 8 < n) (hl : n ≤ 140737488351232) :
    Calls Try.prog 17 #[.slice A n cap, .int .i64 (i : Int)] w fun e w' => e = .returned (.tuple #[.bool (bitB l i), .int .i64 0]) ∧ w = w' := by
  have h1 : (i : Int) / 8 < n := by omega
  have HB := Lib.hid (rbit_any w A n cap B i l hr hn hi hl)
  generalize bitB l i = z2 at HB
  clear hr hn
  go_enter Try.func17, Try.ntmps17
  go_wp2_with (go_at_call 34; refine HB.out.mono ?_; rintro e w' ⟨rfl, rfl⟩)
  go_ret2
  exact ⟨rfl, rfl⟩

/-! ### span -/
def spanN (n : Nat) (m : Int) : Nat := (max 0 (min m (8 * (n : Int)))).toNat
set_option maxHeartbeats 400000 in
theorem span_any (w : World) (A : Option Addr) (n cap : Nat) (m : Int) (hl : n ≤ 140737488351232) :
    Calls Try.prog 35 #[.slice A n cap, .int .i64 m] w fun e w' => e = .returned (.int .i64 ((spanN n m : Nat) : Int)) ∧ w = w' := by
  have hs : ((spanN n m : Nat) : Int) = max 0 (min m (8 * (n : Int))) := by unfold spanN; omega
  generalize ((spanN n m : Nat) : Int) = S at hs
  have HS := Lib.hid hs
  clear hs
  by_cases h1 : m ≤ 8 * (n : Int)
  · by_cases h2 : m ≤ 0
    · go_enter Try.func35, Try.ntmps35
      go_wp2_with fail
      go_ret
      exact ⟨by rw [HS.out]; simp; omega, rfl⟩
    · have h3 : 0 < m := by omega
      clear h2
      go_enter Try.func35, Try.ntmps35
      go_wp2_with fail
      go_ret
      exact ⟨by rw [HS.out]; simp; omega, rfl⟩
  · have h3 : 8 * (n : Int) < m := by omega
    clear h1
    by_cases h2 : n = 0
    · subst h2
      go_enter Try.func35, Try.ntmps35
      go_wp2_with fail
      go_ret
      exact ⟨by rw [HS.out]; simp; omega, rfl⟩
    · have h4 : 0 < 8 * (n : Int) := by omega
      clear h2
      go_enter Try.func35, Try.ntmps35
      go_wp2_with fail
      go_ret
      exact ⟨by rw [HS.out]; simp; omega, rfl⟩
set_option maxHeartbeats 400000 in
theorem rspan_any (w : World) (A : Option Addr) (n cap : Nat) (m : Int) (hl : n ≤ 140737488351232) :
    Calls Try.prog 36 #[.slice A n cap, .int .i64 m] w fun e w' => e = .returned (.int .i64 ((spanN n m : Nat) : Int)) ∧ w = w' := by
  have hs : ((spanN n m : Nat) : Int) = max 0 (min m (8 * (n : Int))) := by unfold spanN; omega
  generalize ((spanN n m : Nat) : Int) = S at hs
  have HS := Lib.hid hs
  clear hs
  by_cases h1 : m ≤ 8 * (n : Int)
  · by_cases h2 : m ≤ 0
    · go_enter Try.func36, Try.ntmps36
      go_wp2_with fail
      go_ret
      exact ⟨by rw [HS.out]; simp; omega, rfl⟩
    · have h3 : 0 < m := by omega
      clear h2
      go_enter Try.func36, Try.ntmps36
      go_wp2_with fail
      go_ret
      exact ⟨by rw [HS.out]; simp; omega, rfl⟩
  · have h3 : 8 * (n : Int) < m := by omega
    clear h1
    by_cases h2 : n = 0
    · subst h2
      go_enter Try.func36, Try.ntmps36
      go_wp2_with fail
      go_ret
      exact ⟨by rw [HS.out]; simp; omega, rfl⟩
    · have h4 : 0 < 8 * (n : Int) := by omega
      clear h2
      go_enter Try.func36, Try.ntmps36
      go_wp2_with fail
      go_ret
      exact ⟨by rw [HS.out]; simp; omega, rfl⟩
end Go.Proofs.Ytmfilcdljfpnfaa
