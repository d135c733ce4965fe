/-
  First and Count, the program's and the document's.
-/
import Derived.Test.YtmfilcdljfpnfaaBitsS
namespace Go.Proofs.Ytmfilcdljfpnfaa
open Go.RowKit Go.Maps

theorem spanN_le (n : Nat) (m : Int) : spanN n m ≤ 8 * n := by unfold spanN; omega
theorem ff_next (l : List UInt8) (a d : Nat) (z : Int) (hd : 0 < d) (h : bitB l a = true) (hz : ff l a d = z) : ff l (a + 1) (d - 1) = z := by
  obtain ⟨e, rfl⟩ : ∃ e, d = e + 1 := ⟨d - 1, by omega⟩
  rw [← hz, ff_set l a e h]
  rfl
theorem ff_here (l : List UInt8) (a d : Nat) (z : Int) (hd : 0 < d) (h : bitB l a = false) (hz : ff l a d = z) : z = a := by
  obtain ⟨e, rfl⟩ : ∃ e, d = e + 1 := ⟨d - 1, by omega⟩
  rw [← hz, ff_free l a e h]
theorem ff_end (l : List UInt8) (a d : Nat) (z : Int) (hd : d = 0) (hz : ff l a d = z) : z = -1 := by subst hd; rw [← hz]; rfl
theorem bitI_val (l : List UInt8) (i : Nat) : bitI l i = if bitB l i then 1 else 0 := rfl

set_option maxHeartbeats 1000000 in
theorem first_pos (w : World) (A : Option Addr) (n cap B : Nat) (a : Nat) (m : Int) (l : List UInt8) (hr : Rd w B A l) (hn : l.length = n) (hl : n ≤ 140737488351232) (ha : a ≤ 9223372036854775807) (z : Int) (hz : ff l a (spanN n m - a) = z) :
    Calls Try.prog 20 #[.slice A n cap, .int .i64 (a : Int), .int .i64 m] w fun e w' => e = .returned (.int .i64 z) ∧ w = w' := by
  have HR := Lib.hid hr
  have HN := Lib.hid hn
  have hsp := spanN_le n m
  have HS := Lib.hid (span_any w A n cap m hl)
  generalize spanN n m = S at hz hsp HS
  have HZ := Lib.hid hz
  clear hr hn hz
  go_enter Try.func20, Try.ntmps20
  go_wp2_with (go_at_call 35; refine HS.out.mono ?_; rintro e w' ⟨rfl, rfl⟩)
  go_loop [7, 15] (fun _ i => ∃ j : Nat, j ≤ S - a ∧ i = .int .i64 j ∧ Hid (ff l (a + j) (S - a - j) = z)) (fun _ i => S - a - (intOf i).toNat)
  case atStart => exact ⟨0, Nat.zero_le _, rfl, HZ⟩
  case round =>
    obtain ⟨j, hj, rfl, HF⟩ := hrel
    by_cases hlt : j < S - a
    · have hlt2 : (j : Int) < (S : Int) - a := by omega
      have hB := bit_any w A n cap B (a + j) l HR.out HN.out (by omega) hl
      rw [Int.natCast_add] at hB
      cases hb : bitB l (a + j) with
      | true =>
        have HNX := Lib.hid (ff_next l (a + j) _ z (by omega) hb HF.out)
        rw [bitI_val, hb, if_pos rfl] at hB
        have HB := Lib.hid hB
        clear hB hb
        go_wp2_with (go_at_call 33; refine HB.out.mono ?_; rintro e w' ⟨rfl, rfl⟩)
        go_round
        case rel => exact ⟨j + 1, by omega, by go_num, (show _ from by have h := HNX.out; rwa [show S - a - j - 1 = S - a - (j + 1) by omega] at h)⟩
        case measure => simp [intOf]; omega
      | false =>
        have HNX := Lib.hid (ff_here l (a + j) _ z (by omega) hb HF.out)
        rw [bitI_val, hb, if_neg (by decide)] at hB
        have HB := Lib.hid hB
        clear hB hb
        go_wp2_with (go_at_call 33; refine HB.out.mono ?_; rintro e w' ⟨rfl, rfl⟩)
        go_ret
        exact ⟨by rw [HNX.out]; go_num, rfl⟩
    · have hlt2 : (S : Int) - a ≤ (j : Int) := by omega
      have HNX := Lib.hid (ff_end l (a + j) _ z (by omega) HF.out)
      clear hlt
      go_wp2_with fail
      go_ret
      exact ⟨by rw [HNX.out]; rfl, rfl⟩

set_option maxHeartbeats 1000000 in
theorem first_neg (w : World) (A : Option Addr) (n cap B : Nat) (f : Int) (m : Int) (l : List UInt8) (hr : Rd w B A l) (hn : l.length = n) (hl : n ≤ 140737488351232) (hf : f < 0) (z : Int) (hz : ff l 0 (spanN n m - 0) = z) :
    Calls Try.prog 20 #[.slice A n cap, .int .i64 f, .int .i64 m] w fun e w' => e = .returned (.int .i64 z) ∧ w = w' := by
  have HR := Lib.hid hr
  have HN := Lib.hid hn
  have hsp := spanN_le n m
  have HS := Lib.hid (span_any w A n cap m hl)
  generalize spanN n m = S at hz hsp HS
  have HZ := Lib.hid hz
  clear hr hn hz
  go_enter Try.func20, Try.ntmps20
  go_wp2_with (go_at_call 35; refine HS.out.mono ?_; rintro e w' ⟨rfl, rfl⟩)
  go_loop [7, 15] (fun _ i => ∃ j : Nat, j ≤ S - 0 ∧ i = .int .i64 j ∧ Hid (ff l (0 + j) (S - 0 - j) = z)) (fun _ i => S - 0 - (intOf i).toNat)
  case atStart => exact ⟨0, Nat.zero_le _, rfl, HZ⟩
  case round =>
    obtain ⟨j, hj, rfl, HF⟩ := hrel
    by_cases hlt : j < S - 0
    · have hlt2 : (j : Int) < (S : Int) - 0 := by omega
      have hB := bit_any w A n cap B (0 + j) l HR.out HN.out (by omega) hl
      rw [show ((0 + j : Nat) : Int) = (j : Int) by omega] at hB
      cases hb : bitB l (0 + j) with
      | true =>
        have HNX := Lib.hid (ff_next l (0 + j) _ z (by omega) hb HF.out)
        rw [bitI_val, hb, if_pos rfl] at hB
        have HB := Lib.hid hB
        clear hB hb
        go_wp2_with (go_at_call 33; refine HB.out.mono ?_; rintro e w' ⟨rfl, rfl⟩)
        go_round
        case rel => exact ⟨j + 1, by omega, by go_num, (show _ from by have h := HNX.out; rwa [show S - 0 - j - 1 = S - 0 - (j + 1) by omega] at h)⟩
        case measure => simp [intOf]; omega
      | false =>
        have HNX := Lib.hid (ff_here l (0 + j) _ z (by omega) hb HF.out)
        rw [bitI_val, hb, if_neg (by decide)] at hB
        have HB := Lib.hid hB
        clear hB hb
        go_wp2_with (go_at_call 33; refine HB.out.mono ?_; rintro e w' ⟨rfl, rfl⟩)
        go_ret
        exact ⟨by rw [HNX.out]; rw [Nat.zero_add]; rfl, rfl⟩
    · have hlt2 : S ≤ j := by omega
      have HNX := Lib.hid (ff_end l (0 + j) _ z (by omega) HF.out)
      clear hlt
      go_wp2_with fail
      go_ret
      exact ⟨by rw [HNX.out]; rfl, rfl⟩

set_option maxHeartbeats 1000000 in
theorem rfirst_pos (w : World) (A : Option Addr) (n cap B : Nat) (a : Nat) (m : Int) (l : List UInt8) (hr : Rd w B A l) (hn : l.length = n) (hl : n ≤ 140737488351232) (ha0 : 0 < a) (z : Int) (hz : ff l a (spanN n m - a) = z) :
    Calls Try.prog 21 #[.slice A n cap, .int .i64 (a : Int), .int .i64 m] w fun e w' => e = .returned (.int .i64 z) ∧ w = w' := by
  have HR := Lib.hid hr
  have HN := Lib.hid hn
  have hsp := spanN_le n m
  have HS := Lib.hid (rspan_any w A n cap m hl)
  generalize spanN n m = S at hz hsp HS
  have HZ := Lib.hid hz
  clear hr hn hz
  go_enter Try.func21, Try.ntmps21
  go_wp2_with fail
  go_loop [7] (fun i => ∃ p : Nat, i = .int .i64 p ∧ Hid (ff l p (S - p) = z)) (fun i => S - (intOf i).toNat)
  case atStart => exact ⟨a, rfl, HZ⟩
  case round =>
    obtain ⟨p, rfl, HF⟩ := hrel
    by_cases hlt : p < S
    · have hB := rbit_any w A n cap B p l HR.out HN.out (by omega) hl
      cases hb : bitB l p with
      | true =>
        have HNX := Lib.hid (ff_next l p _ z (by omega) hb HF.out)
        rw [hb] at hB
        have HB := Lib.hid hB
        clear hB hb
        go_wp2_with (first
          | (go_at_call 36; refine HS.out.mono ?_; rintro e w' ⟨rfl, rfl⟩)
          | (go_at_call 34; refine HB.out.mono ?_; rintro e w' ⟨rfl, rfl⟩))
        go_round
        case rel => exact ⟨p + 1, by go_num, (show _ from by have h := HNX.out; rwa [show S - p - 1 = S - (p + 1) by omega] at h)⟩
        case measure => simp [intOf]; omega
      | false =>
        have HNX := Lib.hid (ff_here l p _ z (by omega) hb HF.out)
        rw [hb] at hB
        have HB := Lib.hid hB
        clear hB hb
        go_wp2_with (first
          | (go_at_call 36; refine HS.out.mono ?_; rintro e w' ⟨rfl, rfl⟩)
          | (go_at_call 34; refine HB.out.mono ?_; rintro e w' ⟨rfl, rfl⟩))
        go_ret
        exact ⟨by rw [HNX.out]; rfl, rfl⟩
    · have hlt2 : S ≤ p := by omega
      have HNX := Lib.hid (ff_end l p _ z (by omega) HF.out)
      clear hlt
      go_wp2_with (go_at_call 36; refine HS.out.mono ?_; rintro e w' ⟨rfl, rfl⟩)
      go_ret
      exact ⟨by rw [HNX.out]; rfl, rfl⟩

set_option maxHeartbeats 1000000 in
theorem rfirst_neg (w : World) (A : Option Addr) (n cap B : Nat) (f : Int) (m : Int) (l : List UInt8) (hr : Rd w B A l) (hn : l.length = n) (hl : n ≤ 140737488351232) (hf : f ≤ 0) (z : Int) (hz : ff l 0 (spanN n m - 0) = z) :
    Calls Try.prog 21 #[.slice A n cap, .int .i64 f, .int .i64 m] w fun e w' => e = .returned (.int .i64 z) ∧ w = w' := by
  have HR := Lib.hid hr
  have HN := Lib.hid hn
  have hsp := spanN_le n m
  have HS := Lib.hid (rspan_any w A n cap m hl)
  generalize spanN n m = S at hz hsp HS
  have HZ := Lib.hid hz
  clear hr hn hz
  go_enter Try.func21, Try.ntmps21
  go_wp2_with fail
  go_loop [7] (fun i => ∃ p : Nat, i = .int .i64 p ∧ Hid (ff l p (S - p) = z)) (fun i => S - (intOf i).toNat)
  case atStart => exact ⟨0, rfl, HZ⟩
  case round =>
    obtain ⟨p, rfl, HF⟩ := hrel
    by_cases hlt : p < S
    · have hB := rbit_any w A n cap B p l HR.out HN.out (by omega) hl
      cases hb : bitB l p with
      | true =>
        have HNX := Lib.hid (ff_next l p _ z (by omega) hb HF.out)
        rw [hb] at hB
        have HB := Lib.hid hB
        clear hB hb
        go_wp2_with (first
          | (go_at_call 36; refine HS.out.mono ?_; rintro e w' ⟨rfl, rfl⟩)
          | (go_at_call 34; refine HB.out.mono ?_; rintro e w' ⟨rfl, rfl⟩))
        go_round
        case rel => exact ⟨p + 1, by go_num, (show _ from by have h := HNX.out; rwa [show S - p - 1 = S - (p + 1) by omega] at h)⟩
        case measure => simp [intOf]; omega
      | false =>
        have HNX := Lib.hid (ff_here l p _ z (by omega) hb HF.out)
        rw [hb] at hB
        have HB := Lib.hid hB
        clear hB hb
        go_wp2_with (first
          | (go_at_call 36; refine HS.out.mono ?_; rintro e w' ⟨rfl, rfl⟩)
          | (go_at_call 34; refine HB.out.mono ?_; rintro e w' ⟨rfl, rfl⟩))
        go_ret
        exact ⟨by rw [HNX.out]; rfl, rfl⟩
    · have hlt2 : S ≤ p := by omega
      have HNX := Lib.hid (ff_end l p _ z (by omega) HF.out)
      clear hlt
      go_wp2_with (go_at_call 36; refine HS.out.mono ?_; rintro e w' ⟨rfl, rfl⟩)
      go_ret
      exact ⟨by rw [HNX.out]; rfl, rfl⟩

theorem first_any (w : World) (A : Option Addr) (n cap B : Nat) (f m : Int) (l : List UInt8) (hr : Rd w B A l) (hn : l.length = n) (hl : n ≤ 140737488351232) (hf2 : f ≤ 9223372036854775807) :
    Calls Try.prog 20 #[.slice A n cap, .int .i64 f, .int .i64 m] w fun e w' => e = .returned (.int .i64 (ff l f.toNat (spanN n m - f.toNat))) ∧ w = w' := by
  by_cases h : 0 ≤ f
  · obtain ⟨a, rfl⟩ : ∃ a : Nat, f = a := ⟨f.toNat, by omega⟩
    exact first_pos w A n cap B a m l hr hn hl (by omega) _ rfl
  · rw [show f.toNat = 0 by omega]
    exact first_neg w A n cap B f m l hr hn hl (by omega) _ rfl
theorem rfirst_any (w : World) (A : Option Addr) (n cap B : Nat) (f m : Int) (l : List UInt8) (hr : Rd w B A l) (hn : l.length = n) (hl : n ≤ 140737488351232) :
    Calls Try.prog 21 #[.slice A n cap, .int .i64 f, .int .i64 m] w fun e w' => e = .returned (.int .i64 (ff l f.toNat (spanN n m - f.toNat))) ∧ w = w' := by
  by_cases h : 0 < f
  · obtain ⟨a, rfl⟩ : ∃ a : Nat, f = a := ⟨f.toNat, by omega⟩
    exact rfirst_pos w A n cap B a m l hr hn hl (by omega) _ rfl
  · rw [show f.toNat = 0 by omega]
    exact rfirst_neg w A n cap B f m l hr hn hl (by omega) _ rfl

/-! ### Count -/
set_option maxHeartbeats 1000000 in
theorem rcount_any (w : World) (A : Option Addr) (n cap B : Nat) (m : Int) (l : List UInt8) (hr : Rd w B A l) (hn : l.length = n) (hl : n ≤ 140737488351232) :
    Calls Try.prog 23 #[.slice A n cap, .int .i64 m] w fun e w' => e = .returned (.int .i64 ((cnt l (spanN n m) : Nat) : Int)) ∧ w = w' := by
  have HR := Lib.hid hr
  have HN := Lib.hid hn
  have hsp := spanN_le n m
  have HS := Lib.hid (rspan_any w A n cap m hl)
  generalize spanN n m = S at hsp HS ⊢
  clear hr hn
  go_enter Try.func23, Try.ntmps23
  go_wp2_with fail
  go_loop [5, 6] (fun v i => ∃ j : Nat, j ≤ S ∧ i = .int .i64 j ∧ v = .int .i64 ((cnt l j : Nat) : Int)) (fun _ i => S - (intOf i).toNat)
  case atStart => exact ⟨0, Nat.zero_le _, rfl, rfl⟩
  case round =>
    obtain ⟨j, hj, rfl, rfl⟩ := hrel
    by_cases hlt : j < S
    · have hB := rbit_any w A n cap B j l HR.out HN.out (by omega) hl
      have hcl := cnt_le l j
      have HC := Lib.hid (show cnt l (j + 1) = cnt l j + (bitB l j).toNat from rfl)
      cases hb : bitB l j with
      | true =>
        rw [hb] at hB HC
        have HB := Lib.hid hB
        clear hB hb
        generalize cnt l j = C at HC hcl ⊢
        go_wp2_with (first
          | (go_at_call 36; refine HS.out.mono ?_; rintro e w' ⟨rfl, rfl⟩)
          | (go_at_call 34; refine HB.out.mono ?_; rintro e w' ⟨rfl, rfl⟩))
        go_round
        case rel => exact ⟨j + 1, by omega, by go_num, by rw [HC.out]; go_num⟩
        case measure => simp [intOf]; omega
      | false =>
        rw [hb] at hB HC
        have HB := Lib.hid hB
        clear hB hb
        generalize cnt l j = C at HC hcl ⊢
        go_wp2_with (first
          | (go_at_call 36; refine HS.out.mono ?_; rintro e w' ⟨rfl, rfl⟩)
          | (go_at_call 34; refine HB.out.mono ?_; rintro e w' ⟨rfl, rfl⟩))
        go_round
        case rel => exact ⟨j + 1, by omega, by go_num, by rw [HC.out]; rfl⟩
        case measure => simp [intOf]; omega
    · obtain rfl : j = S := by omega
      go_wp2_with (go_at_call 36; refine HS.out.mono ?_; rintro e w' ⟨rfl, rfl⟩)
      go_ret
      exact ⟨rfl, rfl⟩

set_option maxHeartbeats 1000000 in
theorem count_any (w : World) (A : Option Addr) (n cap B : Nat) (m : Int) (l : List UInt8) (hr : Rd w B A l) (hn : l.length = n) (hB : B ≤ w.heap.size) (hl : n ≤ 140737488351232) :
    Calls Try.prog 22 #[.slice A n cap, .int .i64 m] w fun e w' => e = .returned (.int .i64 ((cnt l (spanN n m) : Nat) : Int)) ∧ Fr (fun _ => False) w w' := by
  have HR := Lib.hid hr
  have HN := Lib.hid hn
  have hsp := spanN_le n m
  have HS := Lib.hid (fun w => span_any w A n cap m hl)
  generalize spanN n m = S at hsp HS ⊢
  clear hr hn
  go_enter Try.func22, Try.ntmps22
  go_wp2_with (go_at_call 35; refine (HS.out _).mono ?_; rintro e w' ⟨rfl, rfl⟩)
  go_loopw [6, 10] (fun _ i wr => ∃ j a b : Nat, j ≤ S ∧ a + b = j ∧ i = .int .i64 j ∧ wr = w.alloc (.cells #[.int .i64 (a : Int), .int .i64 (b : Int)] 46) ∧ Hid (b = cnt l j)) (fun _ i _ => S - (intOf i).toNat)
  case atStart => exact ⟨0, 0, 0, Nat.zero_le _, rfl, rfl, rfl, (show _ from rfl)⟩
  case round =>
    obtain ⟨j, a, b, hj, hab, rfl, rfl, HC⟩ := hrel
    by_cases hlt : j < S
    · have hF : Fr (fun _ => False) w (w.alloc (.cells #[.int .i64 (a : Int), .int .i64 (b : Int)] 46)) := (Fr.refl _ w).alloc _
      have hBt := bit_any _ A n cap B j l (HR.out.still hF hB) HN.out (by omega) hl
      cases hb : bitB l j with
      | true =>
        rw [bitI_val, hb, if_pos rfl] at hBt
        have HB := Lib.hid hBt
        have HC2 := Lib.hid (show b + 1 = cnt l (j + 1) by rw [cnt, hb, ← HC.out]; rfl)
        clear hBt hb hF
        have hab1 : (a : Int) + b ≤ 1125899906842624 := by omega
        go_wp2_with (go_at_call 33; refine HB.out.mono ?_; rintro e w' ⟨rfl, rfl⟩)
        go_roundw
        case rel => exact ⟨j + 1, a, b + 1, by omega, by omega, by go_num, by go_num, HC2⟩
        case measure => simp [intOf]; omega
      | false =>
        rw [bitI_val, hb, if_neg (by decide)] at hBt
        have HB := Lib.hid hBt
        have HC2 := Lib.hid (show b = cnt l (j + 1) by rw [cnt, hb, ← HC.out]; rfl)
        clear hBt hb hF
        have hab1 : (a : Int) + b ≤ 1125899906842624 := by omega
        go_wp2_with (go_at_call 33; refine HB.out.mono ?_; rintro e w' ⟨rfl, rfl⟩)
        go_roundw
        case rel => exact ⟨j + 1, a + 1, b, by omega, by omega, by go_num, by go_num, HC2⟩
        case measure => simp [intOf]; omega
    · obtain rfl : j = S := by omega
      go_wp2_with fail
      go_ret
      exact ⟨by rw [← HC.out]; rfl, (Fr.refl _ w).alloc _⟩
end Go.Proofs.Ytmfilcdljfpnfaa
