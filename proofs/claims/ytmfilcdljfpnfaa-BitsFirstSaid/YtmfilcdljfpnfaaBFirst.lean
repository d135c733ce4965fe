/-
  BitsFirst: the bit that is found is free, and all between are taken, whatever the input. No condition.
-/
import Derived.Test.YtmfilcdljfpnfaaRows
import Derived.Test.YtmfilcdljfpnfaaBitsL
import Derived.ProofKit
import Derived.OpenShut
import Derived.SizedLaws
namespace Go.Proofs.Ytmfilcdljfpnfaa.bitsFirst
open Go.ChangeShapes Go.WideShapes Go.ChangeAt Go.RowKit

theorem has_set (w : World) (A : Option Addr) (n cap B i : Nat) (l : List UInt8) (b : Bool) (hr : Rd w B A l) (hn : l.length = n) (hi : i / 8 < n) (hl : n ≤ 140737488351232) (hb : bitB l i = b) :
    Calls Try.prog 16 #[.slice A n cap, .int .i64 (i : Int)] w fun e w' => e = .returned (.tuple #[.bool b, .int .i64 0]) ∧ w = w' := by
  rw [← hb]
  exact has_ok w A n cap B i l hr hn hi hl

set_option maxRecDepth 100000 in
set_option maxHeartbeats 2000000 in
theorem walk_neg_le_none (A : Option Addr) (cap n a : Nat) (f : Int) (l : List UInt8) (m : Int) (W : World) (hr : Rd W W.heap.size A l) (hn : l.length = n) (hl : n ≤ 140737488351232) (hf : f ≤ 0) (ha : a = 0) (hm : m ≤ 8 * (n : Int))
    (hff : ff l a (spanN n m - a) = -1) (hall : ∀ i : Nat, a ≤ i → (i : Int) < m → bitB l i = true) :
    Calls Try.prog 7 #[.slice A n cap, .int .i64 f, .int .i64 m] W fun e w' => e = .returned (.bool true) ∧ Fr (fun _ => False) W w' := by
  have HR := Lib.hid hr
  have HN := Lib.hid hn
  have HFF := Lib.hid hff
  have HALL := Lib.hid hall
  have HA0 := Lib.hid ha
  clear ha
  clear hr hn hff hall
  go_enter Try.func7, Try.ntmps7
  go_wp2_with fail
  refine (works_any W).mono ?_
  rintro e w1 ⟨rfl, hF⟩
  have HF := Lib.hid hF
  have HR1 := Lib.hid (HR.out.still hF (Nat.le_refl _))
  clear hF
  go_wp2_with fail
  refine (first_any w1 A n cap _ f m l HR1.out HN.out hl (by omega)).mono ?_
  rw [show (f).toNat = a by rw [HA0.out]; omega, HFF.out]
  rintro e w' ⟨rfl, rfl⟩
  go_wp2_with fail
  go_loop [11] (fun i => ∃ p : Nat, i = .int .i64 p ∧ a ≤ p) (fun i => (m - intOf i).toNat)
  case atStart => exact ⟨a, by rw [HA0.out]; rfl, Nat.le_refl _⟩
  case round =>
    obtain ⟨p, rfl, hp⟩ := hrel
    by_cases hlt : (p : Int) < m
    · have HB := Lib.hid (has_set w1 A n cap _ p l true HR1.out HN.out (by omega) hl (HALL.out p hp hlt))
      go_wp2_with (go_at_call 16; refine HB.out.mono ?_; rintro e w' ⟨rfl, rfl⟩)
      go_round
      case rel => exact ⟨p + 1, by go_num, by omega⟩
      case measure => simp [intOf]; omega
    · have hge : m ≤ (p : Int) := by omega
      clear hlt
      go_wp2_with fail
      go_ret
      exact ⟨rfl, HF.out⟩

set_option maxRecDepth 100000 in
set_option maxHeartbeats 2000000 in
theorem walk_neg_le_some (A : Option Addr) (cap n a k : Nat) (f : Int) (l : List UInt8) (m : Int) (W : World) (hr : Rd W W.heap.size A l) (hn : l.length = n) (hl : n ≤ 140737488351232) (hf : f ≤ 0) (ha : a = 0) (hm : m ≤ 8 * (n : Int))
    (hff : ff l a (spanN n m - a) = (k : Int)) (hall : ∀ i : Nat, a ≤ i → (i : Int) < (k : Int) → bitB l i = true) (hk2 : (k : Int) < m) (hkb : bitB l k = false) :
    Calls Try.prog 7 #[.slice A n cap, .int .i64 f, .int .i64 m] W fun e w' => e = .returned (.bool true) ∧ Fr (fun _ => False) W w' := by
  have HR := Lib.hid hr
  have HN := Lib.hid hn
  have HFF := Lib.hid hff
  have HALL := Lib.hid hall
  have HKB := Lib.hid hkb
  clear hkb
  have HA0 := Lib.hid ha
  clear ha
  clear hr hn hff hall
  go_enter Try.func7, Try.ntmps7
  go_wp2_with fail
  refine (works_any W).mono ?_
  rintro e w1 ⟨rfl, hF⟩
  have HF := Lib.hid hF
  have HR1 := Lib.hid (HR.out.still hF (Nat.le_refl _))
  clear hF
  go_wp2_with fail
  refine (first_any w1 A n cap _ f m l HR1.out HN.out hl (by omega)).mono ?_
  rw [show (f).toNat = a by rw [HA0.out]; omega, HFF.out]
  rintro e w' ⟨rfl, rfl⟩
  have HK := Lib.hid (has_set w1 A n cap _ k l false HR1.out HN.out (by omega) hl HKB.out)
  go_wp2_with (go_at_call 16; refine HK.out.mono ?_; rintro e w' ⟨rfl, rfl⟩)
  go_loop [11] (fun i => ∃ p : Nat, i = .int .i64 p ∧ a ≤ p) (fun i => ((k : Int) - intOf i).toNat)
  case atStart => exact ⟨a, by rw [HA0.out]; rfl, Nat.le_refl _⟩
  case round =>
    obtain ⟨p, rfl, hp⟩ := hrel
    by_cases hlt : (p : Int) < (k : Int)
    · have HB := Lib.hid (has_set w1 A n cap _ p l true HR1.out HN.out (by omega) hl (HALL.out p hp hlt))
      go_wp2_with (go_at_call 16; refine HB.out.mono ?_; rintro e w' ⟨rfl, rfl⟩)
      go_round
      case rel => exact ⟨p + 1, by go_num, by omega⟩
      case measure => simp [intOf]; omega
    · have hge : (k : Int) ≤ (p : Int) := by omega
      clear hlt
      go_wp2_with fail
      go_ret
      exact ⟨rfl, HF.out⟩

set_option maxRecDepth 100000 in
set_option maxHeartbeats 2000000 in
theorem walk_neg_gt_none (A : Option Addr) (cap n a : Nat) (f : Int) (l : List UInt8) (m : Int) (W : World) (hr : Rd W W.heap.size A l) (hn : l.length = n) (hl : n ≤ 140737488351232) (hf : f ≤ 0) (ha : a = 0) (hm : 8 * (n : Int) < m)
    (hff : ff l a (spanN n m - a) = -1) (hall : ∀ i : Nat, a ≤ i → (i : Int) < 8 * (n : Int) → bitB l i = true) :
    Calls Try.prog 7 #[.slice A n cap, .int .i64 f, .int .i64 m] W fun e w' => e = .returned (.bool true) ∧ Fr (fun _ => False) W w' := by
  have HR := Lib.hid hr
  have HN := Lib.hid hn
  have HFF := Lib.hid hff
  have HALL := Lib.hid hall
  have HA0 := Lib.hid ha
  clear ha
  clear hr hn hff hall
  go_enter Try.func7, Try.ntmps7
  go_wp2_with fail
  refine (works_any W).mono ?_
  rintro e w1 ⟨rfl, hF⟩
  have HF := Lib.hid hF
  have HR1 := Lib.hid (HR.out.still hF (Nat.le_refl _))
  clear hF
  go_wp2_with fail
  refine (first_any w1 A n cap _ f m l HR1.out HN.out hl (by omega)).mono ?_
  rw [show (f).toNat = a by rw [HA0.out]; omega, HFF.out]
  rintro e w' ⟨rfl, rfl⟩
  go_wp2_with fail
  go_loop [11] (fun i => ∃ p : Nat, i = .int .i64 p ∧ a ≤ p) (fun i => (8 * (n : Int) - intOf i).toNat)
  case atStart => exact ⟨a, by rw [HA0.out]; rfl, Nat.le_refl _⟩
  case round =>
    obtain ⟨p, rfl, hp⟩ := hrel
    by_cases hlt : (p : Int) < 8 * (n : Int)
    · have HB := Lib.hid (has_set w1 A n cap _ p l true HR1.out HN.out (by omega) hl (HALL.out p hp hlt))
      go_wp2_with (go_at_call 16; refine HB.out.mono ?_; rintro e w' ⟨rfl, rfl⟩)
      go_round
      case rel => exact ⟨p + 1, by go_num, by omega⟩
      case measure => simp [intOf]; omega
    · have hge : 8 * (n : Int) ≤ (p : Int) := by omega
      clear hlt
      go_wp2_with fail
      go_ret
      exact ⟨rfl, HF.out⟩

set_option maxRecDepth 100000 in
set_option maxHeartbeats 2000000 in
theorem walk_neg_gt_some (A : Option Addr) (cap n a k : Nat) (f : Int) (l : List UInt8) (m : Int) (W : World) (hr : Rd W W.heap.size A l) (hn : l.length = n) (hl : n ≤ 140737488351232) (hf : f ≤ 0) (ha : a = 0) (hm : 8 * (n : Int) < m)
    (hff : ff l a (spanN n m - a) = (k : Int)) (hall : ∀ i : Nat, a ≤ i → (i : Int) < (k : Int) → bitB l i = true) (hk2 : (k : Int) < 8 * (n : Int)) (hkb : bitB l k = false) :
    Calls Try.prog 7 #[.slice A n cap, .int .i64 f, .int .i64 m] W fun e w' => e = .returned (.bool true) ∧ Fr (fun _ => False) W w' := by
  have HR := Lib.hid hr
  have HN := Lib.hid hn
  have HFF := Lib.hid hff
  have HALL := Lib.hid hall
  have HKB := Lib.hid hkb
  clear hkb
  have HA0 := Lib.hid ha
  clear ha
  clear hr hn hff hall
  go_enter Try.func7, Try.ntmps7
  go_wp2_with fail
  refine (works_any W).mono ?_
  rintro e w1 ⟨rfl, hF⟩
  have HF := Lib.hid hF
  have HR1 := Lib.hid (HR.out.still hF (Nat.le_refl _))
  clear hF
  go_wp2_with fail
  refine (first_any w1 A n cap _ f m l HR1.out HN.out hl (by omega)).mono ?_
  rw [show (f).toNat = a by rw [HA0.out]; omega, HFF.out]
  rintro e w' ⟨rfl, rfl⟩
  have HK := Lib.hid (has_set w1 A n cap _ k l false HR1.out HN.out (by omega) hl HKB.out)
  go_wp2_with (go_at_call 16; refine HK.out.mono ?_; rintro e w' ⟨rfl, rfl⟩)
  go_loop [11] (fun i => ∃ p : Nat, i = .int .i64 p ∧ a ≤ p) (fun i => ((k : Int) - intOf i).toNat)
  case atStart => exact ⟨a, by rw [HA0.out]; rfl, Nat.le_refl _⟩
  case round =>
    obtain ⟨p, rfl, hp⟩ := hrel
    by_cases hlt : (p : Int) < (k : Int)
    · have HB := Lib.hid (has_set w1 A n cap _ p l true HR1.out HN.out (by omega) hl (HALL.out p hp hlt))
      go_wp2_with (go_at_call 16; refine HB.out.mono ?_; rintro e w' ⟨rfl, rfl⟩)
      go_round
      case rel => exact ⟨p + 1, by go_num, by omega⟩
      case measure => simp [intOf]; omega
    · have hge : (k : Int) ≤ (p : Int) := by omega
      clear hlt
      go_wp2_with fail
      go_ret
      exact ⟨rfl, HF.out⟩

set_option maxRecDepth 100000 in
set_option maxHeartbeats 2000000 in
theorem walk_pos_le_none (A : Option Addr) (cap n a : Nat) (l : List UInt8) (m : Int) (W : World) (hr : Rd W W.heap.size A l) (hn : l.length = n) (hl : n ≤ 140737488351232) (ha0 : 0 < a) (ha : a ≤ 9223372036854775807) (hm : m ≤ 8 * (n : Int))
    (hff : ff l a (spanN n m - a) = -1) (hall : ∀ i : Nat, a ≤ i → (i : Int) < m → bitB l i = true) :
    Calls Try.prog 7 #[.slice A n cap, .int .i64 (a : Int), .int .i64 m] W fun e w' => e = .returned (.bool true) ∧ Fr (fun _ => False) W w' := by
  have HR := Lib.hid hr
  have HN := Lib.hid hn
  have HFF := Lib.hid hff
  have HALL := Lib.hid hall
  skip
  clear hr hn hff hall
  go_enter Try.func7, Try.ntmps7
  go_wp2_with fail
  refine (works_any W).mono ?_
  rintro e w1 ⟨rfl, hF⟩
  have HF := Lib.hid hF
  have HR1 := Lib.hid (HR.out.still hF (Nat.le_refl _))
  clear hF
  go_wp2_with fail
  refine (first_any w1 A n cap _ (a : Int) m l HR1.out HN.out hl (by omega)).mono ?_
  rw [show ((a : Int)).toNat = a by omega, HFF.out]
  rintro e w' ⟨rfl, rfl⟩
  go_wp2_with fail
  go_loop [11] (fun i => ∃ p : Nat, i = .int .i64 p ∧ a ≤ p) (fun i => (m - intOf i).toNat)
  case atStart => exact ⟨a, rfl, Nat.le_refl _⟩
  case round =>
    obtain ⟨p, rfl, hp⟩ := hrel
    by_cases hlt : (p : Int) < m
    · have HB := Lib.hid (has_set w1 A n cap _ p l true HR1.out HN.out (by omega) hl (HALL.out p hp hlt))
      go_wp2_with (go_at_call 16; refine HB.out.mono ?_; rintro e w' ⟨rfl, rfl⟩)
      go_round
      case rel => exact ⟨p + 1, by go_num, by omega⟩
      case measure => simp [intOf]; omega
    · have hge : m ≤ (p : Int) := by omega
      clear hlt
      go_wp2_with fail
      go_ret
      exact ⟨rfl, HF.out⟩

set_option maxRecDepth 100000 in
set_option maxHeartbeats 2000000 in
theorem walk_pos_le_some (A : Option Addr) (cap n a k : Nat) (l : List UInt8) (m : Int) (W : World) (hr : Rd W W.heap.size A l) (hn : l.length = n) (hl : n ≤ 140737488351232) (ha0 : 0 < a) (ha : a ≤ 9223372036854775807) (hm : m ≤ 8 * (n : Int))
    (hff : ff l a (spanN n m - a) = (k : Int)) (hall : ∀ i : Nat, a ≤ i → (i : Int) < (k : Int) → bitB l i = true) (hk1 : a ≤ k) (hk2 : (k : Int) < m) (hkb : bitB l k = false) :
    Calls Try.prog 7 #[.slice A n cap, .int .i64 (a : Int), .int .i64 m] W fun e w' => e = .returned (.bool true) ∧ Fr (fun _ => False) W w' := by
  have HR := Lib.hid hr
  have HN := Lib.hid hn
  have HFF := Lib.hid hff
  have HALL := Lib.hid hall
  have HKB := Lib.hid hkb
  clear hkb
  have hkd : decide (k < a) = false := decide_eq_false (by omega)
  clear hk1
  clear hr hn hff hall
  go_enter Try.func7, Try.ntmps7
  go_wp2_with fail
  refine (works_any W).mono ?_
  rintro e w1 ⟨rfl, hF⟩
  have HF := Lib.hid hF
  have HR1 := Lib.hid (HR.out.still hF (Nat.le_refl _))
  clear hF
  go_wp2_with fail
  refine (first_any w1 A n cap _ (a : Int) m l HR1.out HN.out hl (by omega)).mono ?_
  rw [show ((a : Int)).toNat = a by omega, HFF.out]
  rintro e w' ⟨rfl, rfl⟩
  have HK := Lib.hid (has_set w1 A n cap _ k l false HR1.out HN.out (by omega) hl HKB.out)
  go_wp2_with (go_at_call 16; refine HK.out.mono ?_; rintro e w' ⟨rfl, rfl⟩)
  go_loop [11] (fun i => ∃ p : Nat, i = .int .i64 p ∧ a ≤ p) (fun i => ((k : Int) - intOf i).toNat)
  case atStart => exact ⟨a, rfl, Nat.le_refl _⟩
  case round =>
    obtain ⟨p, rfl, hp⟩ := hrel
    by_cases hlt : (p : Int) < (k : Int)
    · have HB := Lib.hid (has_set w1 A n cap _ p l true HR1.out HN.out (by omega) hl (HALL.out p hp hlt))
      go_wp2_with (go_at_call 16; refine HB.out.mono ?_; rintro e w' ⟨rfl, rfl⟩)
      go_round
      case rel => exact ⟨p + 1, by go_num, by omega⟩
      case measure => simp [intOf]; omega
    · have hge : (k : Int) ≤ (p : Int) := by omega
      clear hlt
      go_wp2_with fail
      go_ret
      exact ⟨rfl, HF.out⟩

set_option maxRecDepth 100000 in
set_option maxHeartbeats 2000000 in
theorem walk_pos_gt_none (A : Option Addr) (cap n a : Nat) (l : List UInt8) (m : Int) (W : World) (hr : Rd W W.heap.size A l) (hn : l.length = n) (hl : n ≤ 140737488351232) (ha0 : 0 < a) (ha : a ≤ 9223372036854775807) (hm : 8 * (n : Int) < m)
    (hff : ff l a (spanN n m - a) = -1) (hall : ∀ i : Nat, a ≤ i → (i : Int) < 8 * (n : Int) → bitB l i = true) :
    Calls Try.prog 7 #[.slice A n cap, .int .i64 (a : Int), .int .i64 m] W fun e w' => e = .returned (.bool true) ∧ Fr (fun _ => False) W w' := by
  have HR := Lib.hid hr
  have HN := Lib.hid hn
  have HFF := Lib.hid hff
  have HALL := Lib.hid hall
  skip
  clear hr hn hff hall
  go_enter Try.func7, Try.ntmps7
  go_wp2_with fail
  refine (works_any W).mono ?_
  rintro e w1 ⟨rfl, hF⟩
  have HF := Lib.hid hF
  have HR1 := Lib.hid (HR.out.still hF (Nat.le_refl _))
  clear hF
  go_wp2_with fail
  refine (first_any w1 A n cap _ (a : Int) m l HR1.out HN.out hl (by omega)).mono ?_
  rw [show ((a : Int)).toNat = a by omega, HFF.out]
  rintro e w' ⟨rfl, rfl⟩
  go_wp2_with fail
  go_loop [11] (fun i => ∃ p : Nat, i = .int .i64 p ∧ a ≤ p) (fun i => (8 * (n : Int) - intOf i).toNat)
  case atStart => exact ⟨a, rfl, Nat.le_refl _⟩
  case round =>
    obtain ⟨p, rfl, hp⟩ := hrel
    by_cases hlt : (p : Int) < 8 * (n : Int)
    · have HB := Lib.hid (has_set w1 A n cap _ p l true HR1.out HN.out (by omega) hl (HALL.out p hp hlt))
      go_wp2_with (go_at_call 16; refine HB.out.mono ?_; rintro e w' ⟨rfl, rfl⟩)
      go_round
      case rel => exact ⟨p + 1, by go_num, by omega⟩
      case measure => simp [intOf]; omega
    · have hge : 8 * (n : Int) ≤ (p : Int) := by omega
      clear hlt
      go_wp2_with fail
      go_ret
      exact ⟨rfl, HF.out⟩

set_option maxRecDepth 100000 in
set_option maxHeartbeats 2000000 in
theorem walk_pos_gt_some (A : Option Addr) (cap n a k : Nat) (l : List UInt8) (m : Int) (W : World) (hr : Rd W W.heap.size A l) (hn : l.length = n) (hl : n ≤ 140737488351232) (ha0 : 0 < a) (ha : a ≤ 9223372036854775807) (hm : 8 * (n : Int) < m)
    (hff : ff l a (spanN n m - a) = (k : Int)) (hall : ∀ i : Nat, a ≤ i → (i : Int) < (k : Int) → bitB l i = true) (hk1 : a ≤ k) (hk2 : (k : Int) < 8 * (n : Int)) (hkb : bitB l k = false) :
    Calls Try.prog 7 #[.slice A n cap, .int .i64 (a : Int), .int .i64 m] W fun e w' => e = .returned (.bool true) ∧ Fr (fun _ => False) W w' := by
  have HR := Lib.hid hr
  have HN := Lib.hid hn
  have HFF := Lib.hid hff
  have HALL := Lib.hid hall
  have HKB := Lib.hid hkb
  clear hkb
  have hkd : decide (k < a) = false := decide_eq_false (by omega)
  clear hk1
  clear hr hn hff hall
  go_enter Try.func7, Try.ntmps7
  go_wp2_with fail
  refine (works_any W).mono ?_
  rintro e w1 ⟨rfl, hF⟩
  have HF := Lib.hid hF
  have HR1 := Lib.hid (HR.out.still hF (Nat.le_refl _))
  clear hF
  go_wp2_with fail
  refine (first_any w1 A n cap _ (a : Int) m l HR1.out HN.out hl (by omega)).mono ?_
  rw [show ((a : Int)).toNat = a by omega, HFF.out]
  rintro e w' ⟨rfl, rfl⟩
  have HK := Lib.hid (has_set w1 A n cap _ k l false HR1.out HN.out (by omega) hl HKB.out)
  go_wp2_with (go_at_call 16; refine HK.out.mono ?_; rintro e w' ⟨rfl, rfl⟩)
  go_loop [11] (fun i => ∃ p : Nat, i = .int .i64 p ∧ a ≤ p) (fun i => ((k : Int) - intOf i).toNat)
  case atStart => exact ⟨a, rfl, Nat.le_refl _⟩
  case round =>
    obtain ⟨p, rfl, hp⟩ := hrel
    by_cases hlt : (p : Int) < (k : Int)
    · have HB := Lib.hid (has_set w1 A n cap _ p l true HR1.out HN.out (by omega) hl (HALL.out p hp hlt))
      go_wp2_with (go_at_call 16; refine HB.out.mono ?_; rintro e w' ⟨rfl, rfl⟩)
      go_round
      case rel => exact ⟨p + 1, by go_num, by omega⟩
      case measure => simp [intOf]; omega
    · have hge : (k : Int) ≤ (p : Int) := by omega
      clear hlt
      go_wp2_with fail
      go_ret
      exact ⟨rfl, HF.out⟩

theorem walk (A : Option Addr) (cap : Nat) (l : List UInt8) (f m : Int) (W : World) (hr : Rd W W.heap.size A l) (hl : l.length ≤ 140737488351232) (hf2 : f ≤ 9223372036854775807) :
    Calls Try.prog 7 #[.slice A l.length cap, .int .i64 f, .int .i64 m] W fun e w' => e = .returned (.bool true) ∧ Fr (fun _ => False) W w' := by
  have hS : ∀ i : Nat, i < spanN l.length m ↔ (i : Int) < m ∧ (i : Int) < 8 * (l.length : Int) := by intro i; unfold spanN; omega
  by_cases hf : f ≤ 0
  · by_cases hm : m ≤ 8 * (l.length : Int)
    · rcases ff_spec l (spanN l.length m - 0) 0 with ⟨h1, h2⟩ | ⟨k, h1, h2, h3, h4, h5⟩
      · exact walk_neg_le_none A cap _ 0 f l m W hr rfl hl hf rfl hm h1 (fun i hi hi2 => h2 i hi (by have := (hS i).2 ⟨by omega, by omega⟩; omega))
      · exact walk_neg_le_some A cap _ 0 k f l m W hr rfl hl hf rfl hm h1 (fun i hi hi2 => h5 i hi (by omega)) ((hS k).1 (by omega)).1 h4
    · rcases ff_spec l (spanN l.length m - 0) 0 with ⟨h1, h2⟩ | ⟨k, h1, h2, h3, h4, h5⟩
      · exact walk_neg_gt_none A cap _ 0 f l m W hr rfl hl hf rfl (by omega) h1 (fun i hi hi2 => h2 i hi (by have := (hS i).2 ⟨by omega, by omega⟩; omega))
      · exact walk_neg_gt_some A cap _ 0 k f l m W hr rfl hl hf rfl (by omega) h1 (fun i hi hi2 => h5 i hi (by omega)) ((hS k).1 (by omega)).2 h4
  · obtain ⟨a, rfl⟩ : ∃ x : Nat, f = x := ⟨f.toNat, by omega⟩
    by_cases hm : m ≤ 8 * (l.length : Int)
    · rcases ff_spec l (spanN l.length m - a) a with ⟨h1, h2⟩ | ⟨k, h1, h2, h3, h4, h5⟩
      · exact walk_pos_le_none A cap _ a l m W hr rfl hl (by omega) (by omega) hm h1 (fun i hi hi2 => h2 i hi (by have := (hS i).2 ⟨by omega, by omega⟩; omega))
      · exact walk_pos_le_some A cap _ a k l m W hr rfl hl (by omega) (by omega) hm h1 (fun i hi hi2 => h5 i hi (by omega)) h2 ((hS k).1 (by omega)).1 h4
    · rcases ff_spec l (spanN l.length m - a) a with ⟨h1, h2⟩ | ⟨k, h1, h2, h3, h4, h5⟩
      · exact walk_pos_gt_none A cap _ a l m W hr rfl hl (by omega) (by omega) (by omega) h1 (fun i hi hi2 => h2 i hi (by have := (hS i).2 ⟨by omega, by omega⟩; omega))
      · exact walk_pos_gt_some A cap _ a k l m W hr rfl hl (by omega) (by omega) (by omega) h1 (fun i hi hi2 => h5 i hi (by omega)) h2 ((hS k).1 (by omega)).2 h4

/-! ### the row -/
theorem own : ownKnob Try.prog.godebug = none := by kernel_rfl
set_option maxRecDepth 100000 in
theorem lifted (os : Os) (started : os.Started) (H : Type) (enc : TypeId × Value → H) :
    ReturnsInHanded {} Try.checked os 7 .any (Rows.bitsFirstSpec.pre6 enc Try.prog Try.f7 Rows.bitsFirstRow.domain false) (Rows.bitsFirstSpec.post enc Try.prog Try.f7 false true false false) := by
  refine returnsInHanded_of_change_sized (C := Try.checked) own started (by kernel_rfl) Try.func7
    (ChangeSpec.witness6 (enc := enc) (C := Try.checked) false ⟨#[], #[.slice none 0 0, .int .i64 0, .int .i64 0], []⟩ 8 (by kernel_rfl) (by kernel_rfl) (by kernel_rfl) (by kernel_rfl)) ?_
  intro W base args ds gs before hval0 hW _ hsz0 _
  have hval : ∀ (j : Nat) t v, Try.f7.params[j]? = some t → args[j]? = some v → Value.okWide Try.prog W .any base t v := hval0
  have hsz : (DataW.weightsEach Try.prog (Try.f7.params.toList ++ Rows.bitsFirstSpec.plain.varTypes Try.prog) (ds ++ gs)).all (· ≤ reachBytes) = true := hsz0
  have hW' := hW
  obtain ⟨p, q, hA0, hV, rfl, hfz, hnd⟩ := hW
  have hA : DataW.TrodAll enc Try.prog W 0 (fun _ => true) true Try.f7.params.toList args.toList ds p := hA0
  rw [Try.params7] at hA hval hsz
  obtain ⟨v0, vs0, d0, ds0, p0, q0, hargs, rfl, rfl, h0, r0⟩ := trodAll_cons hA
  obtain ⟨v1, vs1, d1, ds1, p1, q1, rfl, rfl, rfl, h1, r1⟩ := trodAll_cons r0
  obtain ⟨v2, vs2, d2, ds2, p2, q2, rfl, rfl, rfl, h2, r2⟩ := trodAll_cons r1
  obtain ⟨rfl, rfl, rfl⟩ := trodAll_nil r2
  obtain rfl : args = #[v0, v1, v2] := by cases args; simp_all
  obtain ⟨rfl, rfl⟩ := trodVars_none hV
  obtain ⟨A0, cap0, l0, rfl, hr0, hA0, hc0, hl0⟩ := bytes_open (fun _ => rfl) (fun el sp (e : d0 = .slice el sp) => sized_slice hsz (j := 0) (t := 22) (e := 5) rfl (by rw [e]; rfl) Try.underlying22) (hval 0 22 v0 rfl rfl) h0
  obtain ⟨a1, rfl, rfl, rfl, w1⟩ := open_int Try.underlying3 (hval 1 3 v1 rfl rfl) h1
  obtain ⟨a2, rfl, rfl, rfl, w2⟩ := open_int Try.underlying3 (hval 2 3 v2 rfl rfl) h2
  clear hA0 hval0 hsz0
  simp only [List.append_nil] at hW'
  try simp only [List.nil_append] at hW'
  have hlt0 : ∀ x ∈ p0, x.block < W.heap.size := fun x hx => by simpa using hW'.lt x (by simp [hx])
  refine (walk A0 cap0 l0 a1 a2 W hr0 hl0 (i64_in w1).2).mono fun e W' ⟨he, hg⟩ => ?_
  subst he
  have hB : Below W.heap.size W W' := hg.below (Nat.le_refl _) (fun _ _ e => e.elim)
  have t0 := Below.trod laidOut (by kernel_rfl) (of_decide_eq_true (by kernel_rfl)) h0 hB hlt0
  exact ⟨_, rfl, _, _, _, [], _, [], hW', trodAll_cons_mk (shut_bool Try.underlying4 _) trodAll_mk0, (trodAll_cons_mk t0 (trodAll_cons_mk (shut_int Try.underlying3 w1) (trodAll_cons_mk (shut_int Try.underlying3 w2) trodAll_mk0))), rfl, hB.frame _, fun h => by cases h⟩

theorem over : Rows.bitsFirstRow.holds Try.pinned (OpenSpec.ofChange Rows.bitsFirstSpec) :=
  OpenClaim.holds_of_wide 7 Try.f7 rfl rfl rfl rfl rfl rfl rfl ⟨rfl, rfl, rfl, rfl, rfl⟩ rfl rfl rfl rfl rfl (by kernel_rfl) Try.func7 (by kernel_rfl)
    (of_decide_eq_true (by kernel_rfl)) (by unfold Func.isWrapper; first | (rw [if_pos (by decide +kernel)]; kernel_rfl) | (rw [if_neg (by decide +kernel)]; exact ⟨rfl, rfl⟩))
    (fun os started H enc _ => lifted os started H enc)

theorem proved : Rows.BitsFirstSaid := over
#print axioms proved

end Go.Proofs.Ytmfilcdljfpnfaa.bitsFirst
