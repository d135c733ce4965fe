/-
  The calls of crc, and the document's.
-/
import Derived.Test.YtccagamldlpefaaDoorCrcS
import Derived.Test.YtccagamldlpefaaDoorBy
import Derived.Laws.MakeOwn
namespace Go.Proofs.YtccagamldlpefaaDoor
open Go.RowKit Go.Maps

theorem zeros_snoc (k : Nat) : zeros (k + 1) = zeros k ++ [0] := by unfold zeros; rw [List.replicate_succ']
theorem zeros_length (k : Nat) : (zeros k).length = k := List.length_replicate
theorem run_take (c : W32) (l : List UInt8) {k : Nat} (h : k < l.length) : run c (l.take (k + 1)) = step (run c (l.take k)) l[k] := by
  rw [List.take_succ_eq_append_getElem h, run_snoc]

theorem step_zero (w : World) (hT : Tab w) (c : W32) : Calls Tryd.prog 21 #[.int .u32 (uv c), .int .u8 0] w fun e w' => e = .returned (.int .u32 (uv (step c 0))) ∧ w = w' :=
  step_any w hT c 0

set_option maxHeartbeats 400000 in
theorem noughts_any (w : World) (hT : Tab w) (c : W32) (z : Int) (hz : z ≤ 65536) :
    Calls Tryd.prog 23 #[.int .u32 (uv c), .int .i64 z] w fun e w' => e = .returned (.int .u32 (uv (run c (zeros z.toNat)))) ∧ w = w' := by
  obtain ⟨n, hn⟩ : ∃ n, n = z.toNat := ⟨_, rfl⟩
  rw [← hn]
  have h1 : 0 < n → (n : Int) = z := by omega
  have h2 : z ≤ (n : Int) := by omega
  have hn6 : n ≤ 65536 := by omega
  have HT := Lib.hid hT
  clear hn hT
  go_enter Tryd.func23, Tryd.ntmps23
  go_wp2_with fail
  go_loop [0, 6] (fun v i => ∃ k : Nat, k ≤ n ∧ i = .int .i64 k ∧ v = .int .u32 (uv (run c (zeros k)))) (fun _ i => n - (intOf i).toNat)
  case atStart => exact ⟨0, Nat.zero_le _, rfl, rfl⟩
  case round =>
    obtain ⟨k, hk, rfl, rfl⟩ := hrel
    by_cases hlt : k < n
    · have hlz : (k : Int) < z := by omega
      have HS := Lib.hid (show run c (zeros (k + 1)) = step (run c (zeros k)) 0 by rw [zeros_snoc, run_snoc])
      clear h1 h2
      go_wp2_with (go_at_call 21; refine (step_zero _ HT.out _).mono ?_; rintro e w' ⟨rfl, rfl⟩)
      go_round
      case rel => exact ⟨k + 1, by omega, by go_num, by rw [HS.out]⟩
      case measure => simp [intOf]; omega
    · have hkn : k = n := by omega
      subst hkn
      clear h1
      go_wp2_with fail
      go_ret
      exact ⟨rfl, rfl⟩

theorem uv_not_lit (a : W32) : bits .xor .u32 IntKind.u32.max (uv a) = uv (~~~ a) := uv_not a
theorem uv_not_lit' (a : W32) : bits .xor .u32 (uv a) 4294967295 = uv (~~~ a) := by
  have h := bits_xor a (BitVec.allOnes 32)
  rw [BitVec.xor_allOnes] at h
  exact h

set_option maxHeartbeats 400000 in
theorem more_any (w : World) (hT : Tab w) (s : W32) (A : Option Addr) (cap B : Nat) (l : List UInt8) (hr : Rd w B A l) (hl : l.length ≤ 9223372036854775807) :
    Calls Tryd.prog 12 #[.int .u32 (uv s), .slice A l.length cap] w fun e w' => e = .returned (.int .u32 (uv (crcMore s l))) ∧ w = w' := by
  obtain ⟨n, hn⟩ : ∃ n, n = l.length := ⟨_, rfl⟩
  rw [← hn] at hl ⊢
  have HT := Lib.hid hT
  have HR := Lib.hid hr
  have HN := Lib.hid hn
  have r1 := uv_not_lit s
  have r2 := fun l => uv_not_lit (run (~~~ s) l)
  have R2 := Lib.hid r2
  clear hn hT hr r2
  go_enter Tryd.func12, Tryd.ntmps12
  go_wp2_with fail
  go_loop [5, 7, 12] (fun v _ i => ∃ k : Nat, k ≤ n ∧ i = .int .i64 k ∧ v = .int .u32 (uv (run (~~~ s) (l.take k)))) (fun _ _ i => n - (intOf i).toNat)
  case atStart => exact ⟨0, Nat.zero_le _, rfl, rfl⟩
  case round =>
    obtain ⟨k, hk, rfl, rfl⟩ := hrel
    clear r1
    by_cases hlt : k < n
    · have hk1 : k < l.length := by have := HN.out; omega
      obtain ⟨blk, off, rfl, _, hc⟩ := HR.out.at_ hk1
      have HS := Lib.hid (run_take (~~~ s) l hk1)
      generalize l[k] = b at hc HS
      clear hk1
      go_wp2_with (go_at_call 21; refine (step_any _ HT.out _ b).mono ?_; rintro e w' ⟨rfl, rfl⟩)
      go_round
      case rel => exact ⟨k + 1, by omega, by go_num, by rw [HS.out]⟩
      case measure => simp [intOf]; omega
    · have hkn : k = n := by omega
      subst hkn
      have ht : l.take k = l := List.take_of_length_le (by have := HN.out; omega)
      have r3 := R2.out l
      rw [ht]
      go_wp2_with fail
      go_ret
      exact ⟨rfl, rfl⟩

set_option maxHeartbeats 400000 in
theorem sum_any (w : World) (hT : Tab w) (A : Option Addr) (cap B : Nat) (l : List UInt8) (hr : Rd w B A l) (hl : l.length ≤ 9223372036854775807) :
    Calls Tryd.prog 10 #[.slice A l.length cap] w fun e w' => e = .returned (.int .u32 (uv (crcMore 0#32 l))) ∧ w = w' := by
  have HM := Lib.hid (more_any w hT 0#32 A cap B l hr hl)
  clear hT hr hl
  go_enter Tryd.func10, Tryd.ntmps10
  go_wp2_with (go_at_call 12; refine HM.out.mono ?_; rintro e w' ⟨rfl, rfl⟩)
  go_ret
  exact ⟨rfl, rfl⟩

set_option maxHeartbeats 400000 in
theorem rmore_any (w : World) (s : W32) (A : Option Addr) (cap B : Nat) (l : List UInt8) (hr : Rd w B A l) (hl : l.length ≤ 9223372036854775807) :
    Calls Tryd.prog 13 #[.int .u32 (uv s), .slice A l.length cap] w fun e w' => e = .returned (.int .u32 (uv (crcMore s l))) ∧ w = w' := by
  obtain ⟨n, hn⟩ : ∃ n, n = l.length := ⟨_, rfl⟩
  rw [← hn] at hl ⊢
  have HR := Lib.hid hr
  have HN := Lib.hid hn
  have r1 := uv_not_lit' s
  have r2 := fun l => uv_not_lit' (run (~~~ s) l)
  have R2 := Lib.hid r2
  clear hn hr r2
  go_enter Tryd.func13, Tryd.ntmps13
  go_wp2_with fail
  go_loop [5, 6] (fun v i => ∃ k : Nat, k ≤ n ∧ i = .int .i64 k ∧ v = .int .u32 (uv (run (~~~ s) (l.take k)))) (fun _ i => n - (intOf i).toNat)
  case atStart => exact ⟨0, Nat.zero_le _, rfl, rfl⟩
  case round =>
    obtain ⟨k, hk, rfl, rfl⟩ := hrel
    clear r1
    by_cases hlt : k < n
    · have hk1 : k < l.length := by have := HN.out; omega
      obtain ⟨blk, off, rfl, _, hc⟩ := HR.out.at_ hk1
      have HS := Lib.hid (run_take (~~~ s) l hk1)
      generalize l[k] = b at hc HS
      clear hk1
      go_wp2_with (go_at_call 22; refine (rstep_any _ _ b).mono ?_; rintro e w' ⟨rfl, rfl⟩)
      go_round
      case rel => exact ⟨k + 1, by omega, by go_num, by rw [HS.out]⟩
      case measure => simp [intOf]; omega
    · have hkn : k = n := by omega
      subst hkn
      have ht : l.take k = l := List.take_of_length_le (by have := HN.out; omega)
      have r3 := R2.out l
      rw [ht]
      go_wp2_with fail
      go_ret
      exact ⟨rfl, rfl⟩

set_option maxHeartbeats 400000 in
theorem rsum_any (w : World) (A : Option Addr) (cap B : Nat) (l : List UInt8) (hr : Rd w B A l) (hl : l.length ≤ 9223372036854775807) :
    Calls Tryd.prog 11 #[.slice A l.length cap] w fun e w' => e = .returned (.int .u32 (uv (crcMore 0#32 l))) ∧ w = w' := by
  have HM := Lib.hid (rmore_any w 0#32 A cap B l hr hl)
  clear hr hl
  go_enter Tryd.func11, Tryd.ntmps11
  go_wp2_with (go_at_call 13; refine HM.out.mono ?_; rintro e w' ⟨rfl, rfl⟩)
  go_ret
  exact ⟨rfl, rfl⟩

def zn (z : Int) : Nat := (min z 65536).toNat

theorem noughts_at (w : World) (hT : Tab w) (c : W32) (z y : Int) (h : y = min z 65536) :
    Calls Tryd.prog 23 #[.int .u32 (uv c), .int .i64 y] w fun e w' => e = .returned (.int .u32 (uv (run c (zeros (zn z))))) ∧ w = w' := by
  unfold zn
  rw [← h]
  exact noughts_any w hT c y (by omega)

set_option maxHeartbeats 400000 in
theorem zeros_any (w : World) (hT : Tab w) (s : W32) (z : Int) :
    Calls Tryd.prog 14 #[.int .u32 (uv s), .int .i64 z] w fun e w' => e = .returned (.int .u32 (uv (crcMore s (zeros (zn z))))) ∧ w = w' := by
  have r1 := uv_not_lit s
  have r2 := uv_not_lit (run (~~~ s) (zeros (zn z)))
  have r4 : bits .xor .u32 IntKind.u32.max (uv (run (~~~ s) (zeros (zn z)))) = uv (crcMore s (zeros (zn z))) := r2
  have hn := noughts_at w hT (~~~ s) z
  generalize uv (crcMore s (zeros (zn z))) = Q at r4
  generalize uv (run (~~~ s) (zeros (zn z))) = R at r4 hn
  have hsg : IntKind.u32.signed = false := rfl
  clear r2
  by_cases hz : z ≤ 65536
  · have HN := Lib.hid (hn z (by omega))
    clear hT hn
    go_enter Tryd.func14, Tryd.ntmps14
    go_wp2_with (go_at_call 23; refine HN.out.mono ?_; rintro e w' ⟨rfl, rfl⟩)
    go_ret
    exact ⟨rfl, rfl⟩
  · have HN := Lib.hid (hn 65536 (by omega))
    have hz' : 65536 < z := by omega
    clear hT hz hn
    go_enter Tryd.func14, Tryd.ntmps14
    go_wp2_with (go_at_call 23; refine HN.out.mono ?_; rintro e w' ⟨rfl, rfl⟩)
    go_ret
    exact ⟨rfl, rfl⟩

end Go.Proofs.YtccagamldlpefaaDoor
