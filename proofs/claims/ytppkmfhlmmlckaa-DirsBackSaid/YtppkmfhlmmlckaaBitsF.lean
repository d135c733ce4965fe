/-
  The calls of bits, and the document's: numbers.
-/
import Derived.Test.YtppkmfhlmmlckaaBitsM
import Derived.Test.YtppkmfhlmmlckaaBy
import Derived.Lib.SliceRun
import Derived.KernelRfl
namespace Go.Proofs.Ytppkmfhlmmlckaa
set_option maxRecDepth 100000
open Go.RowKit Go.Maps

/-- So many bytes stand there. -/
def Std (n : Nat) (a k : Int) : Prop := 1 ≤ k ∧ k ≤ 4 ∧ 0 ≤ a ∧ a ≤ (n : Int) - k

set_option maxHeartbeats 400000 in
theorem stands_ok (w : World) (A : Option Addr) (n cap : Nat) (a k : Int) (hl : n ≤ 140737488351232) (h : Std n a k) :
    Calls Try.prog 42 #[.slice A n cap, .int .i64 a, .int .i64 k] w fun e w' => e = .returned (.bool true) ∧ w = w' := by
  obtain ⟨h1, h2, h3, h4⟩ := h
  go_enter Try.func42, Try.ntmps42
  go_wp2_with fail
  go_ret
  exact ⟨by simp, rfl⟩
set_option maxHeartbeats 400000 in
theorem stands_no (w : World) (A : Option Addr) (n cap : Nat) (a k : Int) (hl : n ≤ 140737488351232) (h : ¬ Std n a k) :
    Calls Try.prog 42 #[.slice A n cap, .int .i64 a, .int .i64 k] w fun e w' => e = .returned (.bool false) ∧ w = w' := by
  have H := Lib.hid h
  clear h
  go_enter Try.func42, Try.ntmps42
  go_wp2_with fail
  all_goals go_ret
  all_goals
    refine ⟨?_, rfl⟩
    have h := H.out
    unfold Std at h
    simp
    try omega
set_option maxHeartbeats 400000 in
theorem place_ok (w : World) (A : Option Addr) (n cap : Nat) (a k : Int) (hl : n ≤ 140737488351232) (h : Std n a k) :
    Calls Try.prog 41 #[.slice A n cap, .int .i64 a, .int .i64 k] w fun e w' => e = .returned (.bool true) ∧ w = w' := by
  obtain ⟨h1, h2, h3, h4⟩ := h
  have h5 : a ≤ n := by omega
  go_enter Try.func41, Try.ntmps41
  go_wp2_with fail
  go_ret
  exact ⟨by simp; omega, rfl⟩
set_option maxHeartbeats 400000 in
theorem place_no (w : World) (A : Option Addr) (n cap : Nat) (a k : Int) (hl : n ≤ 140737488351232) (h : ¬ Std n a k) :
    Calls Try.prog 41 #[.slice A n cap, .int .i64 a, .int .i64 k] w fun e w' => e = .returned (.bool false) ∧ w = w' := by
  have H := Lib.hid h
  clear h
  go_enter Try.func41, Try.ntmps41
  go_wp2_with fail
  all_goals go_ret
  all_goals
    refine ⟨?_, rfl⟩
    have h := H.out
    unfold Std at h
    simp
    try omega

set_option maxHeartbeats 400000 in
theorem goes_any (w : World) (n : Int) (k : Nat) (hk : k ≤ 4) (h1 : 1 ≤ k) (b : Bool) (hb : goesB n k = b) :
    Calls Try.prog 43 #[.int .i64 n, .int .i64 (k : Int)] w fun e w' => e = .returned (.bool b) ∧ w = w' := by
  have HB := Lib.hid (show (n / 2 ^ (8 * k) == 0) = b from hb)
  clear hb
  go_enter Try.func43, Try.ntmps43
  go_wp2_with fail
  go_ret
  exact ⟨by rw [← HB.out]; rfl, rfl⟩

/-! ### Get -/
set_option maxHeartbeats 1000000 in
theorem get_no (w : World) (A : Option Addr) (n cap : Nat) (a k : Int) (hl : n ≤ 140737488351232) (h : ¬ Std n a k) :
    Calls Try.prog 40 #[.slice A n cap, .int .i64 a, .int .i64 k] w fun e w' => e = .returned (.tuple #[.int .i64 0, .int .i64 2]) ∧ w = w' := by
  have H := Lib.hid h
  clear h
  go_enter Try.func40, Try.ntmps40
  go_wp2_with (go_at_call 42; refine (stands_no _ _ _ _ _ _ hl H.out).mono ?_; rintro e w' ⟨rfl, rfl⟩)
  go_ret2
  exact ⟨rfl, rfl⟩
set_option maxHeartbeats 1000000 in
theorem rget_no (w : World) (A : Option Addr) (n cap : Nat) (a k : Int) (hl : n ≤ 140737488351232) (h : ¬ Std n a k) :
    Calls Try.prog 27 #[.slice A n cap, .int .i64 a, .int .i64 k] w fun e w' => e = .returned (.tuple #[.int .i64 0, .int .i64 2]) ∧ w = w' := by
  have H := Lib.hid h
  clear h
  go_enter Try.func27, Try.ntmps27
  go_wp2_with (go_at_call 41; refine (place_no _ _ _ _ _ _ hl H.out).mono ?_; rintro e w' ⟨rfl, rfl⟩)
  go_ret2
  exact ⟨rfl, rfl⟩
set_option maxHeartbeats 1000000 in
theorem get_ok (w : World) (A : Option Addr) (n cap B a k : Nat) (l : List UInt8) (hr : Rd w B A l) (hn : l.length = n) (hl : n ≤ 140737488351232) (h1 : 1 ≤ k) (h4 : k ≤ 4) (hak : a + k ≤ n) :
    Calls Try.prog 40 #[.slice A n cap, .int .i64 (a : Int), .int .i64 (k : Int)] w fun e w' => e = .returned (.tuple #[.int .i64 ((numAt l a k : Nat) : Int), .int .i64 0]) ∧ w = w' := by
  have HS := Lib.hid (show Std n a k from ⟨by omega, by omega, by omega, by omega⟩)
  have HR := Lib.hid hr
  have HN := Lib.hid hn
  have HZ := Lib.hid (numAt_zero l a)
  clear hr hn
  go_enter Try.func40, Try.ntmps40
  go_wp2_with (go_at_call 42; refine (stands_ok _ _ _ _ _ _ hl HS.out).mono ?_; rintro e w' ⟨rfl, rfl⟩)
  go_loop [8, 9, 16] (fun v _ i => ∃ j : Nat, j ≤ k ∧ i = .int .i64 j ∧ v = .int .i64 ((numAt l a j : Nat) : Int)) (fun _ _ i => k - (intOf i).toNat)
  case atStart => exact ⟨0, Nat.zero_le _, rfl, by rw [HZ.out]; rfl⟩
  case round =>
    obtain ⟨j, hj, rfl, rfl⟩ := hrel
    by_cases hlt : j < k
    · have hjl : a + j < l.length := by have := HN.out; omega
      obtain ⟨blk, off, rfl, _, hc⟩ := HR.out.at_ hjl
      have hor := or_step l hjl (by omega)
      have hsm := numAt_small l a (k := j) (by omega)
      have hsm2 := numAt_small l a (k := j + 1) (by omega)
      have hx := l[a + j].toNat_lt
      obtain ⟨x, hxx⟩ : ∃ x, x = l[a + j].toNat := ⟨_, rfl⟩
      rw [← hxx] at hc hor hx
      obtain ⟨N1, hN1⟩ : ∃ N, N = numAt l a (j + 1) := ⟨_, rfl⟩
      rw [← hN1] at hor hsm2
      have HN1 := Lib.hid hN1
      generalize numAt l a j = N0 at hor hsm ⊢
      clear hjl hxx hN1
      have hi1 : (0 : Int) ≤ (a : Int) + j := by omega
      have hi2 : (a : Int) + j < n := by omega
      go_wp2_with fail
      go_round
      case rel => exact ⟨j + 1, by omega, by go_num, by rw [HN1.out]⟩
      case measure => simp [intOf]; omega
    · have hjk : j = k := by omega
      subst hjk
      go_wp2_with fail
      go_ret2
      exact ⟨rfl, rfl⟩
end Go.Proofs.Ytppkmfhlmmlckaa
