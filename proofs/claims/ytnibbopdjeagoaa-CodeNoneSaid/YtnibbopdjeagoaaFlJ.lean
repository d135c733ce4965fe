/-
  The program's reader: its next number.
-/
import Derived.Test.YtnibbopdjeagoaaFlI
namespace Go.Proofs.Ytnibbopdjeagoaa.fl
set_option maxRecDepth 100000
open Go.RowKit Go.Maps
set_option maxRecDepth 100000

theorem or_step {j z x : Nat} {l : List Int} (hj : j < 4) (hz : (z : Int) = numI l) (hb : AllBit l) (hl : l.length = 8 * j) (hx : x < 256) : ∃ z' : Nat, z' < 4294967296 ∧ bits .or .i64 (z : Int) (wrap64 ((x : Int) * 2 ^ (8 * j))) = (z' : Int) ∧ (z' : Int) = numI (l ++ lowI (x : Int) 8) := by
  have h1 := numI_in l hb
  rw [hl, ← hz] at h1
  have h2 : numI (lowI (x : Int) 8) = x := by rw [numI_low]; omega
  have h3 : numI (l ++ lowI (x : Int) 8) = z + x * 2 ^ (8 * j) := by rw [numI_append, h2, hl, ← hz, Int.mul_comm]
  have h4 := numI_in (l ++ lowI (x : Int) 8) (hb.append (low_bits 8 _))
  rw [List.length_append, lowI_length, hl, h3] at h4
  have h5 : (2 : Int) ^ (8 * j + 8) ≤ 2 ^ 32 := by exact_mod_cast Nat.pow_le_pow_right (n := 2) (by omega) (by omega : 8 * j + 8 ≤ 32)
  have h6 : (0 : Int) ≤ (x : Int) * 2 ^ (8 * j) := Int.mul_nonneg (by omega) (Int.pow_nonneg (by omega))
  have h7 : (z : Int) + x * 2 ^ (8 * j) < 4294967296 := by omega
  refine ⟨((z : Int) + x * 2 ^ (8 * j)).toNat, by omega, ?_, by rw [h3]; omega⟩
  rw [IntWalk.wrap64_in _ ⟨by omega, by omega⟩, or_up (by omega) h1.2 (by omega) (by omega) (by omega)]
  omega

theorem next_end {z n r : Nat} (hz : z < 4294967296) (hn : n ≤ 24) : bits .and .i64 ((z : Int) / 2 ^ r) (wrap64 (wrap64 (2 ^ n) - 1)) = (z : Int) / 2 ^ r % 2 ^ n := by
  have h1 : (2 : Int) ^ n ≤ 2 ^ 24 := by exact_mod_cast Nat.pow_le_pow_right (n := 2) (by omega) hn
  have h2 : (0 : Int) < 2 ^ n := Int.pow_pos (by omega)
  have h3 : (0 : Int) < 2 ^ r := Int.pow_pos (by omega)
  have h4 : (0 : Int) ≤ (z : Int) / 2 ^ r := Int.ediv_nonneg (by omega) (by omega)
  have h5 : (z : Int) / 2 ^ r ≤ z := Int.ediv_le_self _ (by omega)
  rw [IntWalk.wrap64_in (2 ^ n) ⟨by omega, by omega⟩, IntWalk.wrap64_in _ ⟨by omega, by omega⟩, and_low h4 (by omega) (by omega)]

section
variable {w : World} {g cap p : Nat} {A : Option Addr} {b : List UInt8} {S : Nat → Prop}
set_option maxHeartbeats 4000000 in
theorem pnext (h : RdX w g A cap b p S) (n : Nat) (hn : n ≤ 24) : Calls Try.prog 61 #[.pointer (some ⟨g, 0, none⟩), .int .i64 (n : Int)] w fun e w' => e = .returned (.int .i64 (numI (((bitsOf b).drop p).take n))) ∧ Calm w w' := by
  have HV := Lib.hid (next_math h.le hn)
  obtain ⟨k, hk⟩ : ∃ k, k = p / 8 := ⟨_, rfl⟩
  obtain ⟨N, hN⟩ : ∃ N, N = b.length := ⟨_, rfl⟩
  have c0 := h.c0
  have c2 := h.c2
  have hkN : k ≤ N := by have := h.le; omega
  have hNc : N ≤ cap := by have := h.cap; omega
  have hN47 : N ≤ 140737488351232 := by have := h.len; omega
  have hp := h.p64
  have HR := Lib.hid (h.rd.drop (k := k) h.cap)
  rw [← hk] at HV
  rw [← hN] at c2
  have hsl : ∀ wx : World, (Instr.slice 39 (.slice A N cap) (some (.int .i64 (k : Int))) none none).run Try.prog wx = .ok (.slice (if cap = k then A else A.map (·.add k)) (N - k) (cap - k)) wx := fun wx => by
    rw [run_slice_l wx 39 A N cap Try.underlying39 .i64 k (by omega) (by omega)]
    have hs : (sizeOf (Try.prog.elem 39)).run Try.prog wx = .ok 1 wx := by kernel_rfl
    rw [hs]
    simp only [Result.andThen, sliced, Int.toNat_natCast, Nat.mul_one]
  obtain ⟨A', hA'⟩ : ∃ A', A' = (if cap = k then A else A.map (·.add k)) := ⟨_, rfl⟩
  rw [← hA'] at hsl HR
  obtain ⟨c, hc⟩ : ∃ c, c = b.drop k := ⟨_, rfl⟩
  rw [← hc] at HR HV
  obtain ⟨M, hM⟩ : ∃ M, M = N - k := ⟨_, rfl⟩
  have HM := Lib.hid (show c.length = M by rw [hc, List.length_drop, hM, hN])
  rw [← hM] at hsl
  obtain ⟨C, hC⟩ : ∃ C, C = cap - k := ⟨_, rfl⟩
  rw [← hC] at hsl
  have hMC : M ≤ C := by omega
  have hM47 : M ≤ 140737488351232 := by omega
  have hdiv : (p : Int) / 8 = (k : Int) := by omega
  obtain ⟨m, hm⟩ : ∃ m, m = min 4 M := ⟨_, rfl⟩
  have hm4 : m ≤ 4 := by omega
  have hmM : m ≤ M := by omega
  have hlow : ∀ wx : World, (Instr.slice 39 (.slice A' M C) none (some (.int .i64 (m : Int))) none).run Try.prog wx = .ok (.slice A' m C) wx := fun wx => cut_low wx A' M C m (by omega)
  have HMM := Lib.hid (show c.take 4 = c.take m by
    rw [hm]
    rcases Nat.le_total 4 M with e | e
    · rw [Nat.min_eq_left e]
    · rw [Nat.min_eq_right e, List.take_of_length_le (i := 4) (by rw [HM.out]; exact e), List.take_of_length_le (i := M) (by rw [HM.out]; exact Nat.le_refl _)])
  rw [HMM.out] at HV
  rcases Nat.lt_or_ge M 4 with hM4 | hM4
  · obtain rfl : m = M := by omega
    clear h hk hN hNc hN47 hA' hc hM hC hkN hm
    go_enter Try.func61, Try.ntmps61
    go_wp2_with fail
    go_quiet (fail)
    go_wp2_with fail
    clear hsl hlow
    go_loopw [6, 7, 8, 26] (fun v6 _ _ v26 wr => ∃ (j z : Nat), j ≤ m ∧ z < 4294967296 ∧ v6 = .int .i64 z ∧ v26 = .int .i64 j ∧ Hid ((z : Int) = numI (bitsOf (c.take j)) ∧ Calm w wr)) (fun _ _ _ v _ => m - (intOf v).toNat)
    case atStart => exact ⟨0, 0, Nat.zero_le _, by omega, rfl, rfl, (show _ ∧ _ from ⟨by simp [bitsOf, numI], nq, rfl⟩)⟩
    case round =>
      obtain ⟨j, z, hj, hz, rfl, rfl, HC⟩ := hrel
      by_cases hlt : j < m
      · have hjc : j < c.length := by have := HM.out; omega
        obtain ⟨blk, off, rfl, _, hcell⟩ := (HR.out.calm HC.out.2).at_ hjc
        obtain ⟨x, hx⟩ : ∃ x, x = c[j].toNat := ⟨_, rfl⟩
        have hx8 : x < 256 := by rw [hx]; exact c[j].toNat_lt
        rw [← hx] at hcell
        have HS := Lib.hid (bitsOf_snoc (List.getElem?_eq_getElem hjc))
        rw [← hx] at HS
        clear hjc hx
        go_wp2_with fail
        go_roundw
        case rel =>
          obtain ⟨z', h1, h2, h3⟩ := or_step (j := j) (l := bitsOf (c.take j)) (by omega) HC.out.1 (bitsOf_bits _) (by rw [bitsOf_length, List.length_take, HM.out]; omega) hx8
          exact ⟨j + 1, z', by omega, h1, by rw [h2], by go_num, (show _ ∧ _ from ⟨by rw [h3, HS.out], HC.out.2⟩)⟩
        case measure => simp [intOf]; omega
      · obtain rfl : j = m := by omega
        have HC2 := HC.out.2
        have c0' := (HC2.cell ⟨g, 0, none⟩).trans c0
        go_wp2_with fail
        go_quiet (fail)
        go_wp2
        go_ret
        exact ⟨by rw [← HV.out, ← HC.out.1, ← next_end hz hn]; rfl, HC2.trans ⟨nq, rfl⟩⟩
  · obtain rfl : m = 4 := by omega
    clear h hk hN hNc hN47 hA' hc hM hC hkN hm
    go_enter Try.func61, Try.ntmps61
    go_wp2_with fail
    go_quiet (fail)
    go_wp2_with fail
    clear hsl hlow
    go_loopw [6, 7, 8, 26] (fun v6 _ _ v26 wr => ∃ (j z : Nat), j ≤ 4 ∧ z < 4294967296 ∧ v6 = .int .i64 z ∧ v26 = .int .i64 j ∧ Hid ((z : Int) = numI (bitsOf (c.take j)) ∧ Calm w wr)) (fun _ _ _ v _ => 4 - (intOf v).toNat)
    case atStart => exact ⟨0, 0, Nat.zero_le _, by omega, rfl, rfl, (show _ ∧ _ from ⟨by simp [bitsOf, numI], nq, rfl⟩)⟩
    case round =>
      obtain ⟨j, z, hj, hz, rfl, rfl, HC⟩ := hrel
      by_cases hlt : j < 4
      · have hjc : j < c.length := by have := HM.out; omega
        obtain ⟨blk, off, rfl, _, hcell⟩ := (HR.out.calm HC.out.2).at_ hjc
        obtain ⟨x, hx⟩ : ∃ x, x = c[j].toNat := ⟨_, rfl⟩
        have hx8 : x < 256 := by rw [hx]; exact c[j].toNat_lt
        rw [← hx] at hcell
        have HS := Lib.hid (bitsOf_snoc (List.getElem?_eq_getElem hjc))
        rw [← hx] at HS
        clear hjc hx
        go_wp2_with fail
        go_roundw
        case rel =>
          obtain ⟨z', h1, h2, h3⟩ := or_step (j := j) (l := bitsOf (c.take j)) (by omega) HC.out.1 (bitsOf_bits _) (by rw [bitsOf_length, List.length_take, HM.out]; omega) hx8
          exact ⟨j + 1, z', by omega, h1, by rw [h2], by go_num, (show _ ∧ _ from ⟨by rw [h3, HS.out], HC.out.2⟩)⟩
        case measure => simp [intOf]; omega
      · obtain rfl : j = 4 := by omega
        have HC2 := HC.out.2
        have c0' := (HC2.cell ⟨g, 0, none⟩).trans c0
        go_wp2_with fail
        go_quiet (fail)
        go_wp2
        go_ret
        exact ⟨by rw [← HV.out, ← HC.out.1, ← next_end hz hn]; rfl, HC2.trans ⟨nq, rfl⟩⟩
end
end Go.Proofs.Ytnibbopdjeagoaa.fl
