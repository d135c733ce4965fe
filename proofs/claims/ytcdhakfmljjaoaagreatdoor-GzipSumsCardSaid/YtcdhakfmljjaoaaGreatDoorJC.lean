/-
  Texts that belong together, joined: FlJ FlK FlL FmA FmB FmC FmD FlZ.
-/
import Derived.Test.YtcdhakfmljjaoaaGreatDoorJB
import Derived.Maps.AppendAt
import Derived.BigRegion
import Derived.Lib.Walk
import Derived.Shelf.Abstract

/-
  The program's reader: its next number.
-/

namespace Go.Proofs.YtcdhakfmljjaoaaGreatDoor.fl
set_option maxRecDepth 100000
open Go.RowKit Go.Maps
set_option maxRecDepth 100000

theorem or_step {j z x : Nat} {l : List Int} (hj : j < 4) (hz : (z : Int) = numI l) (hb : AllBit l) (hl : l.length = 8 * j) (hx : x < 256) : ∃ z' : Nat, z' < 4294967296 ∧ bits .or .i64 (z : Int) (wrap64 ((x : Int) * 2 ^ (8 * j))) = (z' : Int) ∧ (z' : Int) = numI (l ++ lowI (x : Int) 8) := by
  have h1 := numI_in l hb
  rw [hl, ← hz] at h1
  have h2 : numI (lowI (x : Int) 8) = x := by rw [numI_low]; omega
  have h3 : numI (l ++ lowI (x : Int) 8) = z + x * 2 ^ (8 * j) := by rw [numI_append, h2, hl, ← hz, Int.mul_comm]
  have h4 := numI_in (l ++ lowI (x : Int) 8) (hb.append (low_bits 8 _))
  rw [List.length_append, lowI_length, hl, h3] at h4
  have h5 : (2 : Int) ^ (8 * j + 8) ≤ 2 ^ 32 := by exact_mod_cast Nat.pow_le_pow_right (n := 2) (by omega) (by omega : 8 * j + 8 ≤ 32)
  have h6 : (0 : Int) ≤ (x : Int) * 2 ^ (8 * j) := Int.mul_nonneg (by omega) (Int.pow_nonneg (by omega))
  have h7 : (z : Int) + x * 2 ^ (8 * j) < 4294967296 := by omega
  refine ⟨((z : Int) + x * 2 ^ (8 * j)).toNat, by omega, ?_, by rw [h3]; omega⟩
  rw [IntWalk.wrap64_in _ ⟨by omega, by omega⟩, or_up (by omega) h1.2 (by omega) (by omega) (by omega)]
  omega

theorem next_end {z n r : Nat} (hz : z < 4294967296) (hn : n ≤ 24) : bits .and .i64 ((z : Int) / 2 ^ r) (wrap64 (wrap64 (2 ^ n) - 1)) = (z : Int) / 2 ^ r % 2 ^ n := by
  have h1 : (2 : Int) ^ n ≤ 2 ^ 24 := by exact_mod_cast Nat.pow_le_pow_right (n := 2) (by omega) hn
  have h2 : (0 : Int) < 2 ^ n := Int.pow_pos (by omega)
  have h3 : (0 : Int) < 2 ^ r := Int.pow_pos (by omega)
  have h4 : (0 : Int) ≤ (z : Int) / 2 ^ r := Int.ediv_nonneg (by omega) (by omega)
  have h5 : (z : Int) / 2 ^ r ≤ z := Int.ediv_le_self _ (by omega)
  rw [IntWalk.wrap64_in (2 ^ n) ⟨by omega, by omega⟩, IntWalk.wrap64_in _ ⟨by omega, by omega⟩, and_low h4 (by omega) (by omega)]

section
variable {w : World} {g cap p : Nat} {A : Option Addr} {b : List UInt8} {S : Nat → Prop}
set_option maxHeartbeats 4000000 in
theorem pnext (h : RdX w g A cap b p S) (n : Nat) (hn : n ≤ 24) : Calls Tryz.prog 96 #[.pointer (some ⟨g, 0, none⟩), .int .i64 (n : Int)] w fun e w' => e = .returned (.int .i64 (numI (((bitsOf b).drop p).take n))) ∧ Calm w w' := by
  have HV := Lib.hid (next_math h.le hn)
  obtain ⟨k, hk⟩ : ∃ k, k = p / 8 := ⟨_, rfl⟩
  obtain ⟨N, hN⟩ : ∃ N, N = b.length := ⟨_, rfl⟩
  have c0 := h.c0
  have c2 := h.c2
  have hkN : k ≤ N := by have := h.le; omega
  have hNc : N ≤ cap := by have := h.cap; omega
  have hN47 : N ≤ 140737488351232 := by have := h.len; omega
  have hp := h.p64
  have HR := Lib.hid (h.rd.drop (k := k) h.cap)
  rw [← hk] at HV
  rw [← hN] at c2
  have hsl : ∀ wx : World, (Instr.slice 22 (.slice A N cap) (some (.int .i64 (k : Int))) none none).run Tryz.prog wx = .ok (.slice (if cap = k then A else A.map (·.add k)) (N - k) (cap - k)) wx := fun wx => by
    rw [run_slice_l wx 22 A N cap Tryz.underlying22 .i64 k (by omega) (by omega)]
    have hs : (sizeOf (Tryz.prog.elem 22)).run Tryz.prog wx = .ok 1 wx := by kernel_rfl
    rw [hs]
    simp only [Result.andThen, sliced, Int.toNat_natCast, Nat.mul_one]
  obtain ⟨A', hA'⟩ : ∃ A', A' = (if cap = k then A else A.map (·.add k)) := ⟨_, rfl⟩
  rw [← hA'] at hsl HR
  obtain ⟨c, hc⟩ : ∃ c, c = b.drop k := ⟨_, rfl⟩
  rw [← hc] at HR HV
  obtain ⟨M, hM⟩ : ∃ M, M = N - k := ⟨_, rfl⟩
  have HM := Lib.hid (show c.length = M by rw [hc, List.length_drop, hM, hN])
  rw [← hM] at hsl
  obtain ⟨C, hC⟩ : ∃ C, C = cap - k := ⟨_, rfl⟩
  rw [← hC] at hsl
  have hMC : M ≤ C := by omega
  have hM47 : M ≤ 140737488351232 := by omega
  have hdiv : (p : Int) / 8 = (k : Int) := by omega
  obtain ⟨m, hm⟩ : ∃ m, m = min 4 M := ⟨_, rfl⟩
  have hm4 : m ≤ 4 := by omega
  have hmM : m ≤ M := by omega
  have hlow : ∀ wx : World, (Instr.slice 22 (.slice A' M C) none (some (.int .i64 (m : Int))) none).run Tryz.prog wx = .ok (.slice A' m C) wx := fun wx => cut_low wx A' M C m (by omega)
  have HMM := Lib.hid (show c.take 4 = c.take m by
    rw [hm]
    rcases Nat.le_total 4 M with e | e
    · rw [Nat.min_eq_left e]
    · rw [Nat.min_eq_right e, List.take_of_length_le (i := 4) (by rw [HM.out]; exact e), List.take_of_length_le (i := M) (by rw [HM.out]; exact Nat.le_refl _)])
  rw [HMM.out] at HV
  rcases Nat.lt_or_ge M 4 with hM4 | hM4
  · obtain rfl : m = M := by omega
    clear h hk hN hNc hN47 hA' hc hM hC hkN hm
    go_enter Tryz.func96, Tryz.ntmps96
    go_wp2_with fail
    go_quiet (fail)
    go_wp2_with fail
    clear hsl hlow
    go_loopw [6, 7, 8, 26] (fun v6 _ _ v26 wr => ∃ (j z : Nat), j ≤ m ∧ z < 4294967296 ∧ v6 = .int .i64 z ∧ v26 = .int .i64 j ∧ Hid ((z : Int) = numI (bitsOf (c.take j)) ∧ Calm w wr)) (fun _ _ _ v _ => m - (intOf v).toNat)
    case atStart => exact ⟨0, 0, Nat.zero_le _, by omega, rfl, rfl, (show _ ∧ _ from ⟨by simp [bitsOf, numI], nq, rfl⟩)⟩
    case round =>
      obtain ⟨j, z, hj, hz, rfl, rfl, HC⟩ := hrel
      by_cases hlt : j < m
      · have hjc : j < c.length := by have := HM.out; omega
        obtain ⟨blk, off, rfl, _, hcell⟩ := (HR.out.calm HC.out.2).at_ hjc
        obtain ⟨x, hx⟩ : ∃ x, x = c[j].toNat := ⟨_, rfl⟩
        have hx8 : x < 256 := by rw [hx]; exact c[j].toNat_lt
        rw [← hx] at hcell
        have HS := Lib.hid (bitsOf_snoc (List.getElem?_eq_getElem hjc))
        rw [← hx] at HS
        clear hjc hx
        go_wp2_with fail
        go_roundw
        case rel =>
          obtain ⟨z', h1, h2, h3⟩ := or_step (j := j) (l := bitsOf (c.take j)) (by omega) HC.out.1 (bitsOf_bits _) (by rw [bitsOf_length, List.length_take, HM.out]; omega) hx8
          exact ⟨j + 1, z', by omega, h1, by rw [h2], by go_num, (show _ ∧ _ from ⟨by rw [h3, HS.out], HC.out.2⟩)⟩
        case measure => simp [intOf]; omega
      · obtain rfl : j = m := by omega
        have HC2 := HC.out.2
        have c0' := (HC2.cell ⟨g, 0, none⟩).trans c0
        go_wp2_with fail
        go_quiet (fail)
        go_wp2
        go_ret
        exact ⟨by rw [← HV.out, ← HC.out.1, ← next_end hz hn]; rfl, HC2.trans ⟨nq, rfl⟩⟩
  · obtain rfl : m = 4 := by omega
    clear h hk hN hNc hN47 hA' hc hM hC hkN hm
    go_enter Tryz.func96, Tryz.ntmps96
    go_wp2_with fail
    go_quiet (fail)
    go_wp2_with fail
    clear hsl hlow
    go_loopw [6, 7, 8, 26] (fun v6 _ _ v26 wr => ∃ (j z : Nat), j ≤ 4 ∧ z < 4294967296 ∧ v6 = .int .i64 z ∧ v26 = .int .i64 j ∧ Hid ((z : Int) = numI (bitsOf (c.take j)) ∧ Calm w wr)) (fun _ _ _ v _ => 4 - (intOf v).toNat)
    case atStart => exact ⟨0, 0, Nat.zero_le _, by omega, rfl, rfl, (show _ ∧ _ from ⟨by simp [bitsOf, numI], nq, rfl⟩)⟩
    case round =>
      obtain ⟨j, z, hj, hz, rfl, rfl, HC⟩ := hrel
      by_cases hlt : j < 4
      · have hjc : j < c.length := by have := HM.out; omega
        obtain ⟨blk, off, rfl, _, hcell⟩ := (HR.out.calm HC.out.2).at_ hjc
        obtain ⟨x, hx⟩ : ∃ x, x = c[j].toNat := ⟨_, rfl⟩
        have hx8 : x < 256 := by rw [hx]; exact c[j].toNat_lt
        rw [← hx] at hcell
        have HS := Lib.hid (bitsOf_snoc (List.getElem?_eq_getElem hjc))
        rw [← hx] at HS
        clear hjc hx
        go_wp2_with fail
        go_roundw
        case rel =>
          obtain ⟨z', h1, h2, h3⟩ := or_step (j := j) (l := bitsOf (c.take j)) (by omega) HC.out.1 (bitsOf_bits _) (by rw [bitsOf_length, List.length_take, HM.out]; omega) hx8
          exact ⟨j + 1, z', by omega, h1, by rw [h2], by go_num, (show _ ∧ _ from ⟨by rw [h3, HS.out], HC.out.2⟩)⟩
        case measure => simp [intOf]; omega
      · obtain rfl : j = 4 := by omega
        have HC2 := HC.out.2
        have c0' := (HC2.cell ⟨g, 0, none⟩).trans c0
        go_wp2_with fail
        go_quiet (fail)
        go_wp2
        go_ret
        exact ⟨by rw [← HV.out, ← HC.out.1, ← next_end hz hn]; rfl, HC2.trans ⟨nq, rfl⟩⟩
end
end Go.Proofs.YtcdhakfmljjaoaaGreatDoor.fl

/-
  The program's reader: Take, Peek, Skip, Align, Bytes, New.
-/
namespace Go.Proofs.YtcdhakfmljjaoaaGreatDoor.fl
set_option maxRecDepth 100000
open Go.RowKit Go.Maps
set_option maxRecDepth 100000

theorem mayD {n : Int} (h : n < 0 ∨ 24 < n) : (decide (0 ≤ n) && decide (n ≤ 24)) = false := by
  rcases h with h | h
  · rw [decide_eq_false (by omega)]; rfl
  · rw [decide_eq_false (p := n ≤ 24) (by omega), Bool.and_false]
theorem mayD' {n : Int} (h : ¬ (n < 0 ∨ 24 < n)) : (decide (0 ≤ n) && decide (n ≤ 24)) = true := by
  rw [decide_eq_true (by omega), decide_eq_true (by omega)]; rfl
section
variable {w : World} {g cap p : Nat} {A : Option Addr} {b : List UInt8} {S : Nat → Prop}
set_option maxHeartbeats 4000000 in
theorem pmaytake (h : RdX w g A cap b p S) (n : Int) (hn : Big n) : Calls Tryz.prog 95 #[.pointer (some ⟨g, 0, none⟩), .int .i64 n] w fun e w' => e = .returned (.int .i64 (takeV (bitsOf b) p n).2) ∧ Calm w w' := by
  have HM := Lib.hid (pmissing h)
  have HL := Lib.hid (pleft h)
  have HB := Lib.hid (pmaybe w n hn)
  have hle := h.le
  have hlen := h.len
  have hbl := bitsOf_length b
  obtain ⟨l, hl⟩ : ∃ l, l = 8 * b.length - p := ⟨_, rfl⟩
  rw [← hl] at HL
  by_cases h1 : n < 0 ∨ 24 < n
  · have HV := Lib.hid (show (takeV (bitsOf b) p n).2 = 2 by unfold takeV; rw [if_pos h1])
    rw [mayD h1] at HB
    rw [HV.out]
    clear h hl h1
    go_enter Tryz.func95, Tryz.ntmps95
    go_wp2_with (first
      | (go_at_call 77; refine HM.out.mono ?_; rintro e w' ⟨rfl, rfl⟩)
      | (go_at_call 108; refine HB.out.mono ?_; rintro e w' ⟨rfl, rfl⟩))
    go_ret
    exact ⟨rfl, Calm.refl _⟩
  rw [mayD' h1] at HB
  obtain ⟨N, rfl⟩ : ∃ N : Nat, n = N := ⟨n.toNat, by omega⟩
  by_cases h2 : (l : Int) < N
  · have HV := Lib.hid (show (takeV (bitsOf b) p N).2 = 7 by unfold takeV; rw [if_neg h1, if_pos (by omega)])
    rw [HV.out]
    have h3 : l < N := by omega
    clear h hl h1 hn hle hlen hbl
    go_enter Tryz.func95, Tryz.ntmps95
    go_wp2_with (first
      | (go_at_call 77; refine HM.out.mono ?_; rintro e w' ⟨rfl, rfl⟩)
      | (go_at_call 108; refine HB.out.mono ?_; rintro e w' ⟨rfl, rfl⟩)
      | (go_at_call 109; refine HL.out.mono ?_; rintro e w' ⟨rfl, nl, rfl⟩))
    go_ret
    exact ⟨rfl, nl, rfl⟩
  · have HV := Lib.hid (show (takeV (bitsOf b) p N).2 = 0 by unfold takeV; rw [if_neg h1, if_neg (by omega)])
    rw [HV.out]
    have h3 : ¬ l < N := by omega
    clear h hl h1 hn hle hlen hbl
    go_enter Tryz.func95, Tryz.ntmps95
    go_wp2_with (first
      | (go_at_call 77; refine HM.out.mono ?_; rintro e w' ⟨rfl, rfl⟩)
      | (go_at_call 108; refine HB.out.mono ?_; rintro e w' ⟨rfl, rfl⟩)
      | (go_at_call 109; refine HL.out.mono ?_; rintro e w' ⟨rfl, nl, rfl⟩))
    go_ret
    exact ⟨rfl, nl, rfl⟩
/-- A reader behind a call. -/
def RdA (w : World) (g : Nat) (A : Option Addr) (cap : Nat) (b : List UInt8) (S : Nat → Prop) (p : Nat) (w' : World) : Prop := RdX w' g A cap b p S ∧ Fr S w w'
theorem rdA_move {w1 : World} (h : RdX w g A cap b p S) (hc : Calm w w1) (q : Nat) (hq : q ≤ 8 * b.length) : RdA w g A cap b S q (w1.setCell ⟨g, 0, none⟩ (.int .i64 (q : Int))) :=
  ⟨(h.still hc.fr).move q hq, (hc.fr.mono (fun _ _ e => e.elim)).trans ((h.still hc.fr).fr _) (fun _ _ e => e)⟩
theorem rdA_fr {w1 : World} (h : RdX w g A cap b p S) (hc : Fr (fun _ => False) w w1) (q : Nat) (hq : q ≤ 8 * b.length) : RdA w g A cap b S q (w1.setCell ⟨g, 0, none⟩ (.int .i64 (q : Int))) :=
  ⟨(h.still hc).move q hq, (hc.mono (fun _ _ e => e.elim)).trans ((h.still hc).fr _) (fun _ _ e => e)⟩
theorem rdA_calm {w1 : World} (h : RdX w g A cap b p S) (hc : Calm w w1) : RdA w g A cap b S p w1 := ⟨h.still hc.fr, hc.fr.mono (fun _ _ e => e.elim)⟩
theorem rdA_still {w1 : World} (h : RdX w g A cap b p S) (hc : Fr (fun _ => False) w w1) : RdA w g A cap b S p w1 := ⟨h.still hc, hc.mono (fun _ _ e => e.elim)⟩
theorem takeA_of {L : List Int} {p : Nat} {n : Int} (h : (takeV L p n).2 ≠ 0) : takeV L p n = (0, (takeV L p n).2) ∧ takeA L p n = p := by
  unfold takeV takeA at *
  by_cases h1 : n < 0 ∨ 24 < n
  · rw [if_pos h1, if_pos h1]; exact ⟨rfl, rfl⟩
  · rw [if_neg h1] at h ⊢
    rw [if_neg h1]
    by_cases h2 : (L.length : Int) - p < n
    · rw [if_pos h2, if_pos h2]; exact ⟨rfl, rfl⟩
    · rw [if_neg h2] at h
      exact absurd rfl h
theorem takeA_ok {L : List Int} {p : Nat} {n : Int} (h : (takeV L p n).2 = 0) : ∃ N : Nat, n = N ∧ N ≤ 24 ∧ (N : Int) ≤ L.length - p ∧ takeV L p n = (numI ((L.drop p).take N), 0) ∧ takeA L p n = p + N := by
  unfold takeV takeA at *
  by_cases h1 : n < 0 ∨ 24 < n
  · rw [if_pos h1] at h
    cases h
  · rw [if_neg h1] at h ⊢
    by_cases h2 : (L.length : Int) - p < n
    · rw [if_pos h2] at h
      cases h
    · rw [if_neg h2, if_neg h1, if_neg h2]
      exact ⟨n.toNat, by omega, by omega, by omega, rfl, rfl⟩
set_option maxHeartbeats 4000000 in
theorem ptake (h : RdX w g A cap b p S) (n : Int) (hn : Big n) : Calls Tryz.prog 75 #[.pointer (some ⟨g, 0, none⟩), .int .i64 n] w fun e w' => e = .returned (.tuple #[.int .i64 (takeV (bitsOf b) p n).1, .int .i64 (takeV (bitsOf b) p n).2]) ∧ RdA w g A cap b S (takeA (bitsOf b) p n) w' := by
  have HM := Lib.hid (pmaytake h n hn)
  by_cases h0 : (takeV (bitsOf b) p n).2 = 0
  · obtain ⟨N, rfl, hN, hl, hv, ha⟩ := takeA_ok h0
    rw [h0] at HM
    rw [hv, ha]
    rw [bitsOf_length] at hl
    have hle := h.le
    have hp := h.p64
    have HC := Lib.hid (fun nd => pnext (h.still ((Fr.refl _ w).drewN nd)) N hN)
    obtain ⟨u, hu⟩ : ∃ u, u = numI (((bitsOf b).drop p).take N) := ⟨_, rfl⟩
    rw [← hu] at HC ⊢
    have HX := Lib.hid h
    have c0 : ∀ nd, (w.drewN nd).cell? ⟨g, 0, none⟩ = some (.int .i64 (p : Int)) := fun nd => (h.still ((Fr.refl _ w).drewN nd)).c0
    have f0 : ∀ nd, (w.drewN nd).frozen? ⟨g, 0, none⟩ = false := fun nd => (h.still ((Fr.refl _ w).drewN nd)).f0
    clear h hu h0 hv ha hn
    go_enter Tryz.func75, Tryz.ntmps75
    go_wp2_with (first
      | (go_at_call 95; refine HM.out.mono ?_; rintro e w' ⟨rfl, nl, rfl⟩)
      | (go_at_call 96; refine (HC.out _).mono ?_; rintro e w' ⟨rfl, nm, rfl⟩))
    go_ret2
    exact ⟨rfl, rdA_move HX.out ⟨nl + nm, rfl⟩ (p + N) (by omega)⟩
  · obtain ⟨hv, ha⟩ := takeA_of h0
    rw [hv, ha]
    obtain ⟨z, hz⟩ : ∃ z, z = (takeV (bitsOf b) p n).2 := ⟨_, rfl⟩
    rw [← hz] at HM h0 ⊢
    have HX := Lib.hid h
    clear h hz hv ha hn
    go_enter Tryz.func75, Tryz.ntmps75
    go_wp2_with (go_at_call 95; refine HM.out.mono ?_; rintro e w' ⟨rfl, nl, rfl⟩)
    go_ret2
    exact ⟨rfl, rdA_calm HX.out ⟨nl, rfl⟩⟩
set_option maxHeartbeats 4000000 in
theorem palign (h : RdX w g A cap b p S) : Calls Tryz.prog 131 #[.pointer (some ⟨g, 0, none⟩)] w fun e w' => e = .returned (.int .i64 0) ∧ RdA w g A cap b S (alignA p) w' := by
  have HM := Lib.hid (pmissing h)
  have HX := Lib.hid h
  have c0 := h.c0
  have c1 := h.c1
  have f0 := h.f0
  have hp := h.p64
  have HR := Lib.hid (fun wx => prest wx p true hp)
  have ha : p + (8 - p % 8) % 8 = alignA p := by unfold alignA; omega
  have HL := Lib.hid (show alignA p ≤ 8 * b.length by have := h.le; unfold alignA; omega)
  obtain ⟨r, hr⟩ : ∃ r, r = (8 - p % 8) % 8 := ⟨_, rfl⟩
  rw [← hr] at HR ha
  have hr8 : r < 8 := by omega
  have HE := Lib.hid (show ∀ w1 : World, Fr (fun _ => False) w w1 → RdA w g A cap b S (alignA p) (w1.setCell ⟨g, 0, none⟩ (.int .i64 (IntKind.i64.wrap ((p : Int) + (r : Int))))) by
    intro w1 hF
    rw [wraps_i64 _ (by omega) (by omega), show (p : Int) + (r : Int) = ((alignA p : Nat) : Int) by omega]
    exact rdA_fr h hF _ HL.out)
  clear h ha hr HL
  go_enter Tryz.func131, Tryz.ntmps131
  go_wp2_with (go_at_call 77; refine HM.out.mono ?_; rintro e w' ⟨rfl, rfl⟩)
  go_region_with ((go_at_call 141; refine (HR.out _).mono ?_; rintro e w1 ⟨rfl, hF⟩; have hF0 : Fr (fun _ => False) w w1 := (by first | exact (Fr.refl _ w).drew.trans hF (fun _ _ e => e) | exact ((Fr.refl _ w).drewN _).trans hF (fun _ _ e => e)); have c0' := (HX.out.still hF0).c0; have f0' := (HX.out.still hF0).f0))
  all_goals
    clear c0' f0' c0 f0
    go_wp2_with fail
    go_ret
    exact ⟨rfl, HE.out w1 hF0⟩
end
end Go.Proofs.YtcdhakfmljjaoaaGreatDoor.fl

/-
  The program's reader: Bytes, New.
-/
namespace Go.Proofs.YtcdhakfmljjaoaaGreatDoor.fl
set_option maxRecDepth 100000
open Go.RowKit Go.Maps
set_option maxRecDepth 100000

theorem ownB_low {w : World} {B B' : Nat} {v : Value} {l : List UInt8} (h : Own w B v l) (hB : B' ≤ B) : Own w B' v l := by
  obtain ⟨h1, h2⟩ := h
  refine ⟨h1, ?_⟩
  rcases h2 with h2 | ⟨g, cap, cur, hv, hg, r⟩
  · exact Or.inl h2
  · exact Or.inr ⟨g, cap, cur, hv, Nat.le_trans hB hg, r⟩
/-- What the program's Bytes answers. -/
def AnsP (w : World) (g : Nat) (A : Option Addr) (cap : Nat) (b : List UInt8) (S : Nat → Prop) (r : List UInt8 × Int) (p : Nat) (e : Ending) (w' : World) : Prop :=
  ∃ A' cap', e = .returned (.tuple #[.slice A' r.1.length cap', .int .i64 r.2]) ∧ Own w' w.heap.size (.slice A' r.1.length cap') r.1 ∧ RdX w' g A cap b p S ∧ Fr S w w'
section
variable {w : World} {g cap p : Nat} {A : Option Addr} {b : List UInt8} {S : Nat → Prop}
theorem ansP_none {w1 : World} (h : RdX w g A cap b p S) (hF : Fr (fun _ => False) w w1) (z : Int) : AnsP w g A cap b S ([], z) p (.returned (.tuple #[.slice none 0 0, .int .i64 z])) w1 := ⟨none, 0, rfl, ⟨rfl, Or.inl ⟨rfl, rfl⟩⟩, h.still hF, hF.mono (fun _ _ e => e.elim)⟩
set_option maxHeartbeats 4000000 in
theorem pbytes (h : RdX w g A cap b p S) (n : Int) (hn : Big n) : Calls Tryz.prog 112 #[.pointer (some ⟨g, 0, none⟩), .int .i64 n] w (AnsP w g A cap b S (bytesV (bitsOf b) p n) (bytesA (bitsOf b) p n)) := by
  have HM := Lib.hid (pmissing h)
  have HX := Lib.hid h
  have hp := h.p64
  have HW := Lib.hid (fun wx => pwithin wx p true hp)
  have HL := Lib.hid (fun w1 (hF : Fr (fun _ => False) w w1) => pleft (h.still hF))
  have c0 := h.c0
  have c1 := h.c1
  by_cases h1 : n < 0
  · have HV := Lib.hid (show bytesV (bitsOf b) p n = ([], 2) ∧ bytesA (bitsOf b) p n = p by unfold bytesV bytesA; rw [if_pos (Or.inl h1), if_pos (Or.inl h1)]; exact ⟨rfl, rfl⟩)
    rw [HV.out.1, HV.out.2]
    clear h c0 c1
    go_enter Tryz.func112, Tryz.ntmps112
    go_wp2_with (go_at_call 77; refine HM.out.mono ?_; rintro e w' ⟨rfl, rfl⟩)
    go_ret2
    exact ansP_none HX.out (Fr.refl _ _) 2
  obtain ⟨N, rfl⟩ : ∃ N : Nat, n = N := ⟨n.toNat, by omega⟩
  by_cases h2 : p % 8 = 0
  case neg =>
    have HV := Lib.hid (show bytesV (bitsOf b) p N = ([], 2) ∧ bytesA (bitsOf b) p N = p by unfold bytesV bytesA; rw [if_pos (Or.inr h2), if_pos (Or.inr h2)]; exact ⟨rfl, rfl⟩)
    rw [HV.out.1, HV.out.2]
    rw [decide_eq_true h2] at HW
    clear h h2
    go_enter Tryz.func112, Tryz.ntmps112
    go_wp2_with (first
      | (go_at_call 77; refine HM.out.mono ?_; rintro e w' ⟨rfl, rfl⟩)
      | (go_at_call 132; refine (HW.out _).mono ?_; rintro e w1 ⟨rfl, hF⟩))
    go_ret2
    exact ansP_none HX.out hF 2
  case pos =>
    rw [decide_eq_false (by omega)] at HW
    have hle := h.le
    have hlen := h.len
    have hcap := h.cap
    obtain ⟨k, hk⟩ : ∃ k, k = p / 8 := ⟨_, rfl⟩
    obtain ⟨l, hl⟩ : ∃ l, l = 8 * b.length - p := ⟨_, rfl⟩
    obtain ⟨q, hq⟩ : ∃ q, q = l / 8 := ⟨_, rfl⟩
    rw [← hl] at HL
    have hdl : (l : Int) / 8 = (q : Int) := by omega
    have hbl := bitsOf_length b
    have hor : ¬ ((N : Int) < 0 ∨ p % 8 ≠ 0) := by omega
    by_cases h3 : q < N
    · have HV := Lib.hid (show bytesV (bitsOf b) p N = ([], 7) ∧ bytesA (bitsOf b) p N = p by unfold bytesV bytesA; rw [if_neg hor, if_neg hor, if_pos (by omega), if_pos (by omega)]; exact ⟨rfl, rfl⟩)
      rw [HV.out.1, HV.out.2]
      have hl50 : l ≤ 1125899906842624 := by omega
      clear h h2 hk hl hq hbl hor hle hlen hcap
      go_enter Tryz.func112, Tryz.ntmps112
      go_wp2_with (first
        | (go_at_call 77; refine HM.out.mono ?_; rintro e w' ⟨rfl, rfl⟩)
        | (go_at_call 132; refine (HW.out _).mono ?_; rintro e w1 ⟨rfl, hF⟩)
        | (go_at_call 109; refine (HL.out _ hF).mono ?_; rintro e w' ⟨rfl, nl, rfl⟩))
      go_ret2
      exact ansP_none HX.out (hF.drewN nl) 7
    · have HV := Lib.hid (show bytesV (bitsOf b) p N = ((b.drop k).take N, 0) ∧ bytesA (bitsOf b) p N = p + 8 * N by
        unfold bytesV bytesA
        rw [if_neg hor, if_neg hor, if_neg (by omega), if_neg (by omega)]
        refine ⟨?_, rfl⟩
        rw [show p = 8 * k by omega, Int.toNat_natCast, pack_part b k N (by omega)])
      rw [HV.out.1, HV.out.2]
      have hdp : (p : Int) / 8 = (k : Int) := by omega
      have hl50 : l ≤ 1125899906842624 := by omega
      have HE := Lib.hid (show ∀ w1 : World, Fr (fun _ => False) w w1 → RdA w g A cap b S (p + 8 * N) (w1.setCell ⟨g, 0, none⟩ (.int .i64 ((p : Int) + 8 * (N : Int)))) by
        intro w1 hF
        rw [show (p : Int) + 8 * (N : Int) = ((p + 8 * N : Nat) : Int) by omega]
        exact rdA_fr h hF _ (by omega))
      obtain ⟨n, hn⟩ : ∃ n, n = b.length := ⟨_, rfl⟩
      have hkN : k + N ≤ n := by omega
      have hnc : n ≤ cap := by omega
      have hn47 : n ≤ 140737488351232 := by omega
      have hsl : ∀ wx : World, (Instr.slice 22 (.slice A n cap) (some (.int .i64 (k : Int))) (some (.int .i64 ((k : Int) + (N : Int)))) none).run Tryz.prog wx = .ok (.slice (if cap = k then A else A.map (·.add k)) N (cap - k)) wx := fun wx => by
        rw [run_slice_lh wx 22 A n cap Tryz.underlying22 .i64 .i64 k (k + N) (by omega) (by omega) (by omega)]
        have hs : (sizeOf (Tryz.prog.elem 22)).run Tryz.prog wx = .ok 1 wx := by kernel_rfl
        rw [hs]
        simp only [Result.andThen, sliced, Int.toNat_natCast, Nat.mul_one, show ((k : Int) + (N : Int)).toNat = k + N by omega, Nat.add_sub_cancel_left]
      have HC := Lib.hid (fun w2 (h2 : RdX w2 g A cap b (p + 8 * N) S) => clone_any w2 (if cap = k then A else A.map (·.add k)) N (cap - k) w2.heap.size ((b.drop k).take N) ((h2.rd.drop (k := k) h2.cap).take N) (by rw [List.length_take, List.length_drop]; omega) (Nat.le_refl _) (fun e => by
        by_cases hck : cap = k
        · omega
        · rw [if_neg hck] at e
          cases A with
          | none => have := h2.nil rfl; omega
          | some a => cases e) (by omega))
      obtain ⟨A2, hA2⟩ : ∃ A2, A2 = (if cap = k then A else A.map (·.add k)) := ⟨_, rfl⟩
      obtain ⟨C2, hC2⟩ : ∃ C2, C2 = cap - k := ⟨_, rfl⟩
      rw [← hA2, ← hC2] at hsl HC
      have hT : ((b.drop k).take N).length = N := by rw [List.length_take, List.length_drop]; omega
      obtain ⟨D, hD⟩ : ∃ D, D = (b.drop k).take N := ⟨_, rfl⟩
      rw [← hD] at HC hT ⊢
      have HT := Lib.hid hT
      have h3' : ¬ q < N := h3
      have hN47 : N ≤ 140737488351232 := by omega
      have hp2 : p + 8 * N ≤ 1125899906842624 := by omega
      have HN := Lib.hid hn
      clear h h2 hk hl hq hbl hor hle hlen hcap hA2 hC2 h3 hn hT hD HV
      go_enter Tryz.func112, Tryz.ntmps112
      go_wp2_with (first
        | (go_at_call 77; refine HM.out.mono ?_; rintro e w' ⟨rfl, rfl⟩)
        | (go_at_call 132; refine (HW.out _).mono ?_; rintro e w1 ⟨rfl, hF⟩)
        | (go_at_call 109; refine (HL.out _ hF).mono ?_; rintro e w' ⟨rfl, nl, rfl⟩; have d0 := (HX.out.still (hF.drewN nl)).c0; have d2 := (HX.out.still (hF.drewN nl)).c2; have f0 := (HX.out.still (hF.drewN nl)).f0; rw [← HN.out] at d2)
        | (go_at_call 71; refine (HC.out _ (HE.out _ (hF.drewN nl)).1).mono ?_; rintro e w2 ⟨A1, cap1, rfl, ho, hF2⟩))
      go_ret2
      exact ⟨A1, cap1, rfl, ownB_low ho (Nat.le_trans hF.size (by simp [World.setCell])), (HE.out _ (hF.drewN nl)).1.still hF2, (HE.out _ (hF.drewN nl)).2.trans hF2 (fun _ _ e => e.elim)⟩
theorem rdX_new {w1 : World} {A1 : Option Addr} {cap1 : Nat} {b : List UInt8} {B : Nat} (ho : Own w1 B (.slice A1 b.length cap1) b) (hl : b.length ≤ 140737488351232) :
    RdX (w1.alloc (.cells #[.int .i64 0, .bool true, .slice A1 b.length cap1] 105)) w1.heap.size A1 cap1 b 0 (fun i => i = w1.heap.size ∨ (Value.slice A1 b.length cap1).ownBlock = some i) :=
  ⟨heap_alloc_new _ _, Or.inl rfl, fun hne => by
    have h0 : 0 < b.length := List.length_pos_iff.2 hne
    obtain ⟨g, rfl, hg, hlt, _⟩ := ho.at_ h0
    refine ⟨g, rfl, Or.inr rfl, by omega, fun j x hj => ?_⟩
    obtain ⟨g', off, e, _, hc⟩ := ho.rd hne
    cases e
    have := hc j x hj
    rw [Nat.zero_add] at this
    exact (World.cell?_of_block (w := w1) (Below.heap_alloc _ _ _ hlt)).trans this, (own_cap2 ho).1, (own_cap2 ho).2, by omega, hl, fun i hi => by
    rw [World.size_alloc]
    rcases hi with rfl | hi
    · omega
    · rcases ho.2 with ⟨e, _⟩ | ⟨g, c, cur, e, _, hh, _⟩
      · rw [e] at hi; cases hi
      · rw [e] at hi
        cases hi
        have := (Array.getElem?_eq_some_iff.1 hh).1
        show g < w1.heap.size + 1
        omega⟩
set_option maxHeartbeats 4000000 in
theorem pnew (w : World) (A : Option Addr) (cap : Nat) (b : List UInt8) (hr : Rd w w.heap.size A b) (hA : A = none → cap = 0) (hl : b.length ≤ 140737488351232) :
    Calls Tryz.prog 52 #[.slice A b.length cap] w fun e w' => ∃ a S, e = .returned (.pointer (some a)) ∧ PR w' a b 0 S ∧ (∀ i, S i → w.heap.size ≤ i) ∧ Fr (fun _ => False) w w' := by
  have HC0 := Lib.hid (clone_any w A b.length cap w.heap.size b hr rfl (Nat.le_refl _) hA hl)
  obtain ⟨n, hn⟩ : ∃ n, n = b.length := ⟨_, rfl⟩
  have HE := Lib.hid (show ∀ (w1 : World) (A1 : Option Addr) (cap1 : Nat), Own w1 w.heap.size (.slice A1 n cap1) b → Fr (fun _ => False) w w1 → ∃ a S, (Ending.returned (.pointer (some ⟨w1.heap.size, 0, none⟩))) = .returned (.pointer (some a)) ∧ PR (w1.alloc (.cells #[.int .i64 0, .bool true, .slice A1 n cap1] 105)) a b 0 S ∧ (∀ i, S i → w.heap.size ≤ i) ∧ Fr (fun _ => False) w (w1.alloc (.cells #[.int .i64 0, .bool true, .slice A1 n cap1] 105)) by
    intro w1 A1 cap1 ho hF
    subst hn
    refine ⟨_, _, rfl, ⟨_, _, _, rfl, rdX_new ho hl⟩, fun i hi => ?_, hF.alloc _⟩
    rcases hi with rfl | hi
    · exact hF.size
    · rcases ho.2 with ⟨e, _⟩ | ⟨g, c, cur, e, hg, _⟩
      · rw [e] at hi; cases hi
      · rw [e] at hi
        cases hi
        exact hg)
  rw [← hn] at HC0 ⊢
  have HN := Lib.hid hn
  clear hr hA hl hn
  go_enter Tryz.func52, Tryz.ntmps52
  go_wp2_with (go_at_call 71; refine HC0.out.mono ?_; rintro e w1 ⟨A1, cap1, rfl, ho, hF⟩; rw [← HN.out] at ho ⊢)
  go_ret
  exact HE.out w1 A1 cap1 ho hF
end
end Go.Proofs.YtcdhakfmljjaoaaGreatDoor.fl

/-
  The program's writer: its cells; its small methods.
-/

namespace Go.Proofs.YtcdhakfmljjaoaaGreatDoor.fl
set_option maxRecDepth 100000
open Go.RowKit Go.Maps
set_option maxRecDepth 100000

/-- The program's writer that stands at p, of bytes B: its block g, its bytes' row A; both, and no other, lie in S. -/
structure WrM (w : World) (g : Nat) (A : Option Addr) (cap : Nat) (p : Nat) (B : List UInt8) (S : Nat → Prop) : Prop where
  blk : w.heap[g]? = some (.cells #[.int .i64 (p : Int), .bool true, .slice A B.length cap] 126 (0, 0))
  own : S g
  row : Own w 0 (.slice A B.length cap) B
  off : ∀ n c, (Value.slice A n c).ownBlock ≠ some g
  sub : ∀ n c q, (Value.slice A n c).ownBlock = some q → S q
  low : ∀ i, S i → i < w.heap.size
def PV : VP := fun w a L S => ∃ g A cap, a = ⟨g, 0, none⟩ ∧ WrM w g A cap L.length (packI L) S ∧ AllBit L
theorem blk_any {A : Option Addr} {n c n' c' : Nat} : (Value.slice A n c).ownBlock = (Value.slice A n' c').ownBlock := by cases A <;> rfl
theorem own_keep {w w' : World} {B0 : Nat} {v : Value} {l : List UInt8} (h : Own w B0 v l) (hk : ∀ q, v.ownBlock = some q → w'.heap[q]? = w.heap[q]?) : Own w' B0 v l := by
  obtain ⟨h1, h2⟩ := h
  refine ⟨h1, ?_⟩
  rcases h2 with h2 | ⟨g, cap, cur, rfl, hg, hh, r⟩
  · exact Or.inl h2
  · exact Or.inr ⟨g, cap, cur, rfl, hg, (hk g rfl).trans hh, r⟩
section
variable {w w' : World} {g cap p : Nat} {A : Option Addr} {B : List UInt8} {S S' : Nat → Prop}
theorem WrM.keep (h : WrM w g A cap p B S) (hF : Fr S' w w') (hS : ∀ i, S i → ¬ S' i) : WrM w' g A cap p B S :=
  ⟨(hF.block g (h.low g h.own) (hS g h.own)).trans h.blk, h.own, own_keep h.row (fun q hq => hF.block q (h.low q (h.sub _ _ q hq)) (hS q (h.sub _ _ q hq))), h.off, h.sub, fun i hi => Nat.lt_of_lt_of_le (h.low i hi) hF.size⟩
theorem WrM.still (h : WrM w g A cap p B S) (hF : Fr (fun _ => False) w w') : WrM w' g A cap p B S := h.keep hF (fun _ _ e => e)
theorem WrM.c0 (h : WrM w g A cap p B S) : w.cell? ⟨g, 0, none⟩ = some (.int .i64 (p : Int)) := (cellAt h.blk 0).trans rfl
theorem WrM.c1 (h : WrM w g A cap p B S) : w.cell? ⟨g, 1, none⟩ = some (.bool true) := (cellAt h.blk 1).trans rfl
theorem WrM.c2 (h : WrM w g A cap p B S) : w.cell? ⟨g, 2, none⟩ = some (.slice A B.length cap) := (cellAt h.blk 2).trans rfl
theorem WrM.f0 (h : WrM w g A cap p B S) : w.frozen? ⟨g, 0, none⟩ = false := freeAt h.blk 0
theorem WrM.f2 (h : WrM w g A cap p B S) : w.frozen? ⟨g, 2, none⟩ = false := freeAt h.blk 2
/-- It stands elsewhere. -/
theorem WrM.move (h : WrM w g A cap p B S) (q : Nat) : WrM (w.setCell ⟨g, 0, none⟩ (.int .i64 (q : Int))) g A cap q B S ∧ Fr S w (w.setCell ⟨g, 0, none⟩ (.int .i64 (q : Int))) :=
  ⟨⟨by rw [heap_setCell_same _ _ _ _ _ _ h.blk]; rfl, h.own, own_keep h.row (fun k hk => Below.heap_setCell _ _ _ _ (fun e => h.off _ _ (hk.trans (congrArg some e)))), h.off, h.sub, fun i hi => by
    have := h.low i hi
    simpa [World.setCell] using this⟩, (Fr.refl S w).setCell (p := ⟨g, 0, none⟩) (Or.inl h.own) _⟩
/-- A byte of its bytes. -/
theorem WrM.at_ (h : WrM w g A cap p B S) {k : Nat} (hk : k < B.length) : ∃ q, A = some ⟨q, 0, none⟩ ∧ q ≠ g ∧ w.cell? ⟨q, k, none⟩ = some (.int .u8 (B[k].toNat : Int)) ∧ w.frozen? ⟨q, k, none⟩ = false ∧
    ∀ c : UInt8, WrM (w.setCell ⟨q, k, none⟩ (.int .u8 (c.toNat : Int))) g A cap p (B.set k c) S ∧ Fr S w (w.setCell ⟨q, k, none⟩ (.int .u8 (c.toNat : Int))) := by
  obtain ⟨q, rfl, _, hq, hc, hf, hs⟩ := h.row.at_ hk
  have hne : q ≠ g := fun e => h.off 0 0 (by subst e; rfl)
  refine ⟨q, rfl, hne, hc, hf, fun c => ⟨⟨?_, h.own, hs c, h.off, h.sub, fun i hi => ?_⟩, (Fr.refl S w).setCell (p := ⟨q, k, none⟩) (Or.inl (h.sub 0 0 q rfl)) _⟩⟩
  · rw [Below.heap_setCell _ _ _ _ (fun e => hne e.symm), h.blk, List.length_set]
  · have := h.low i hi
    simpa [World.setCell] using this
/-- Its bytes have grown. -/
theorem WrM.grow (h : WrM w g A cap p B S) {w1 : World} {v : Value} {n m : Nat} {B' : List UInt8} {xs : List Value} (hn : n = B'.length) (hx : xs = bs B') (hown : w1.ownsRow 0 5 1 v n xs) (hg : w.grownBy w1 (Value.slice A m cap).ownBlock)
    (hat : v.ownBlock = (Value.slice A m cap).ownBlock ∨ v.ownBlock = some w.heap.size) : ∃ A' cap', v = .slice A' n cap' ∧ WrM (w1.setCell ⟨g, 2, none⟩ v) g A' cap' p B' (fun i => S i ∨ (w.heap.size ≤ i ∧ i < w1.heap.size)) ∧ Fr S w (w1.setCell ⟨g, 2, none⟩ v) := by
  subst hn
  subst hx
  have hgs := h.low g h.own
  have hF : Fr S w w1 := (Fr.refl S w).grown hg (fun k hk => Or.inl (h.sub _ _ k hk))
  have hb1 : w1.heap[g]? = some (.cells #[.int .i64 (p : Int), .bool true, .slice A B.length cap] 126 (0, 0)) := (hg.block g hgs (fun e => h.off m cap e.symm)).trans h.blk
  have hFF : Fr S w (w1.setCell ⟨g, 2, none⟩ v) := hF.setCell (p := ⟨g, 2, none⟩) (Or.inl h.own) _
  have hrow : Own w1 0 v B' := hown
  obtain ⟨A', cap', rfl⟩ : ∃ A' cap', v = .slice A' B'.length cap' := by
    rcases hown.2 with ⟨e, e2⟩ | ⟨q, c, cur, e, _⟩
    · exact ⟨none, 0, by rw [e, e2]⟩
    · exact ⟨some ⟨q, 0, none⟩, c, e⟩
  have hq : ∀ n c q, (Value.slice A' n c).ownBlock = some q → q ≠ g ∧ (S q ∨ (w.heap.size ≤ q ∧ q < w1.heap.size)) := by
    intro n c q hq
    rw [blk_any (n' := B'.length) (c' := cap')] at hq
    rcases hat with e | e
    · rw [hq] at e
      exact ⟨fun e2 => h.off m cap (by rw [← e, e2]), Or.inl (h.sub _ _ q e.symm)⟩
    · rw [hq] at e
      cases e
      refine ⟨by omega, Or.inr ⟨Nat.le_refl _, ?_⟩⟩
      rcases hown.2 with ⟨e, _⟩ | ⟨q, c, cur, e, _, hh, _⟩
      · rw [e] at hq; cases hq
      · rw [e] at hq
        have hlt := (Array.getElem?_eq_some_iff.1 hh).1
        cases hq
        exact hlt
  refine ⟨A', cap', rfl, ⟨by rw [heap_setCell_same _ _ _ _ _ _ hb1]; rfl, Or.inl h.own, own_keep hrow (fun q e => Below.heap_setCell _ _ _ _ (hq _ _ q e).1), fun n c e => (hq n c g e).1 rfl, fun n c q e => (hq n c q e).2, fun i hi => ?_⟩, hFF⟩
  have hsz : (w1.setCell ⟨g, 2, none⟩ (.slice A' B'.length cap')).heap.size = w1.heap.size := by simp [World.setCell]
  rw [hsz]
  rcases hi with hi | hi
  · exact Nat.lt_of_lt_of_le (h.low i hi) hF.size
  · exact hi.2
/-- .. and lies in fewer blocks' names. -/
theorem WrM.rd (h : WrM w g A cap p B S) : Rd w w.heap.size A B := h.row.rd
end
section
variable {w : World} {g cap p : Nat} {A : Option Addr} {B : List UInt8} {S : Nat → Prop}
set_option maxHeartbeats 2000000 in
theorem wmissing (h : WrM w g A cap p B S) : Calls Tryz.prog 102 #[.pointer (some ⟨g, 0, none⟩)] w fun e w' => e = .returned (.bool false) ∧ w = w' := by
  have c1 := h.c1
  clear h
  go_enter Tryz.func102, Tryz.ntmps102
  go_wp2_with fail
  go_ret
  exact ⟨rfl, rfl⟩
set_option maxHeartbeats 2000000 in
theorem wall (h : WrM w g A cap p B S) (hB : B.length ≤ 140737488351232) : Calls Tryz.prog 84 #[.pointer (some ⟨g, 0, none⟩)] w (NewB w B) := by
  have HM := Lib.hid (wmissing h)
  have c2 := h.c2
  have HC := Lib.hid (clone_any w A B.length cap w.heap.size B h.row.rd rfl (Nat.le_refl _) (own_cap2 h.row).1 hB)
  obtain ⟨n, hn⟩ : ∃ n, n = B.length := ⟨_, rfl⟩
  rw [← hn] at c2 HC
  have HN := Lib.hid hn
  clear h hn hB
  go_enter Tryz.func84, Tryz.ntmps84
  go_wp2_with (first
    | (go_at_call 102; refine HM.out.mono ?_; rintro e w' ⟨rfl, rfl⟩)
    | (go_at_call 71; refine HC.out.mono ?_; rintro e w1 ⟨A1, cap1, rfl, ho, hF⟩))
  go_ret
  exact ⟨A1, cap1, rfl, ho, hF⟩
/-- Does a number go into so many bits? By its form in the code. -/
theorem shr_low {n : Int} {K : Nat} (hK : K ≤ 24) : lowB n K = decide (n / 2 ^ K = 0) := by
  have hp : (0 : Int) < 2 ^ K := Int.pow_pos (by omega)
  unfold lowB mayB
  rw [decide_eq_true (by omega : (0 : Int) ≤ K), decide_eq_true (by omega : (K : Int) ≤ 24), Int.toNat_natCast]
  by_cases h : 0 ≤ n
  · rw [decide_eq_true h]; rfl
  · rw [decide_eq_false h, decide_eq_false]
    · rfl
    · intro e
      have := Int.ediv_lt_of_lt_mul (a := n) (b := 0) hp (by omega)
      omega
set_option maxHeartbeats 4000000 in
theorem wmayput (h : WrM w g A cap p B S) (n k : Int) (hk : Big k) : Calls Tryz.prog 119 #[.pointer (some ⟨g, 0, none⟩), .int .i64 n, .int .i64 k] w fun e w' => e = .returned (.int .i64 (putZ n k)) ∧ w = w' := by
  have HM := Lib.hid (wmissing h)
  have HB := Lib.hid (pmaybe w k hk)
  by_cases h1 : k < 0 ∨ 24 < k
  · have HV := Lib.hid (show putZ n k = 2 by
      unfold putZ lowB mayB
      rcases h1 with h1 | h1
      · rw [decide_eq_false (p := 0 ≤ k) (by omega)]; rfl
      · rw [decide_eq_false (p := k ≤ 24) (by omega), Bool.and_false]; rfl)
    rw [mayD h1] at HB
    rw [HV.out]
    clear h h1
    go_enter Tryz.func119, Tryz.ntmps119
    go_wp2_with (first
      | (go_at_call 102; refine HM.out.mono ?_; rintro e w' ⟨rfl, rfl⟩)
      | (go_at_call 108; refine HB.out.mono ?_; rintro e w' ⟨rfl, rfl⟩))
    go_ret
    exact ⟨rfl, rfl⟩
  rw [mayD' h1] at HB
  obtain ⟨K, rfl⟩ : ∃ K : Nat, k = K := ⟨k.toNat, by omega⟩
  have hK : K ≤ 24 := by omega
  have HZ := shr_low (n := n) hK
  by_cases h2 : n / 2 ^ K = 0
  · have HV := Lib.hid (show putZ n K = 0 by unfold putZ; rw [HZ, decide_eq_true h2]; rfl)
    rw [HV.out]
    clear h h1 HZ
    go_enter Tryz.func119, Tryz.ntmps119
    go_wp2_with (first
      | (go_at_call 102; refine HM.out.mono ?_; rintro e w' ⟨rfl, rfl⟩)
      | (go_at_call 108; refine HB.out.mono ?_; rintro e w' ⟨rfl, rfl⟩))
    go_ret
    exact ⟨rfl, rfl⟩
  · have HV := Lib.hid (show putZ n K = 2 by unfold putZ; rw [HZ, decide_eq_false h2]; rfl)
    rw [HV.out]
    have hne : (n / 2 ^ K != 0) = true := bne_iff_ne.2 h2
    clear h h1 HZ h2
    go_enter Tryz.func119, Tryz.ntmps119
    go_wp2_with (first
      | (go_at_call 102; refine HM.out.mono ?_; rintro e w' ⟨rfl, rfl⟩)
      | (go_at_call 108; refine HB.out.mono ?_; rintro e w' ⟨rfl, rfl⟩))
    go_ret
    exact ⟨rfl, rfl⟩
end
end Go.Proofs.YtcdhakfmljjaoaaGreatDoor.fl

/-
  The program's writer: a bit more.
-/

namespace Go.Proofs.YtcdhakfmljjaoaaGreatDoor.fl
set_option maxRecDepth 100000
open Go.RowKit Go.Maps
set_option maxRecDepth 100000

/-- A writer of the bits L behind a call. -/
def WrA (w : World) (g : Nat) (S : Nat → Prop) (L : List Int) (w' : World) : Prop := ∃ A' cap' S', WrM w' g A' cap' L.length (packI L) S' ∧ (∀ i, S' i → S i ∨ w.heap.size ≤ i) ∧ Fr S w w'
theorem or_up8 {x y : Int} {i : Nat} (hy0 : 0 ≤ y) (hy : y < 2 ^ i) (hi : i < 8) (hx : x = 0 ∨ x = 1) : bits .or .u8 y (IntKind.u8.wrap (wrap64 (x * 2 ^ i))) = y + x * 2 ^ i := by
  have h1 : (2 : Int) ^ i ≤ 2 ^ 7 := by exact_mod_cast Nat.pow_le_pow_right (n := 2) (by omega) (by omega : i ≤ 7)
  have h2 : (0 : Int) < 2 ^ i := Int.pow_pos (by omega)
  rcases hx with rfl | rfl
  · rw [Int.zero_mul, Int.add_zero]
    obtain ⟨b, rfl⟩ := Int.eq_ofNat_of_zero_le hy0
    have := (bits_nat .u8 8 (by decide) wraps_u8 b 0 (by omega) (by omega)).2
    rw [Nat.or_zero] at this
    rw [IntWalk.wrap64_in 0 ⟨by omega, by omega⟩, wraps_u8 0 (by omega) (by omega)]
    exact this
  · rw [Int.one_mul, IntWalk.wrap64_in _ ⟨by omega, by omega⟩, wraps_u8 _ (by omega) (by omega)]
    obtain ⟨b, rfl⟩ := Int.eq_ofNat_of_zero_le hy0
    have hb : b < 2 ^ i := by exact_mod_cast hy
    have hc : ((2 : Int) ^ i) = ((2 ^ i : Nat) : Int) := by simp
    have hi2 : 2 ^ i < 2 ^ 8 := Nat.pow_lt_pow_right (by omega) hi
    rw [hc, (bits_nat .u8 8 (by decide) wraps_u8 b (2 ^ i) (by omega) hi2).2, Nat.or_comm]
    have := Nat.two_pow_add_eq_or_of_lt hb 1
    rw [Nat.mul_one] at this
    rw [← this]
    omega
theorem byte_up {x y : Int} {i : Nat} (hy0 : 0 ≤ y) (hy : y < 2 ^ i) (hi : i < 8) (hx : x = 0 ∨ x = 1) : ∃ V : Int, V = ((UInt8.ofNat (y + x * 2 ^ i).toNat).toNat : Int) ∧ bits .or .u8 y (wrap64 (x * 2 ^ i) % 256) = V := by
  refine ⟨_, rfl, ?_⟩
  rw [← IntKind.wrap_u8]
  rw [or_up8 hy0 hy hi hx]
  have h1 : (2 : Int) ^ i ≤ 2 ^ 7 := by exact_mod_cast Nat.pow_le_pow_right (n := 2) (by omega) (by omega : i ≤ 7)
  have h2 : (0 : Int) < 2 ^ i := Int.pow_pos (by omega)
  have h3 : 0 ≤ y + x * 2 ^ i ∧ y + x * 2 ^ i < 256 := by rcases hx with rfl | rfl <;> omega
  rw [UInt8.toNat_ofNat']
  omega
theorem WrA.still {w w1 w2 : World} {g : Nat} {S : Nat → Prop} {L : List Int} (h : WrA w g S L w1) (hF : Fr (fun _ => False) w1 w2) : WrA w g S L w2 := by
  obtain ⟨A, c, T, h1, h2, h3⟩ := h
  exact ⟨A, c, T, h1.still hF, h2, h3.trans hF (fun _ _ e => e.elim)⟩
/-- The last step of a bit: its byte is set, the place goes on. -/
theorem wr_step {w w1 : World} {g p k : Nat} {A : Option Addr} {cap : Nat} {S T : Nat → Prop} {M : List UInt8} {y c : UInt8} {L' : List Int} (h : WrM w1 g A cap p (M ++ [y]) T) (hT : ∀ i, T i → S i ∨ w.heap.size ≤ i) (hF : Fr S w w1) (hk : M.length = k) (he : packI L' = M ++ [c]) (hl : L'.length = p + 1) :
    ∃ q, A = some ⟨q, 0, none⟩ ∧ q ≠ g ∧ w1.cell? ⟨q, k, none⟩ = some (.int .u8 (y.toNat : Int)) ∧ w1.frozen? ⟨q, k, none⟩ = false ∧ WrA w g S L' (((w1.setCell ⟨q, k, none⟩ (.int .u8 (c.toNat : Int))).setCell ⟨g, 0, none⟩ (.int .i64 ((p : Int) + 1))).drew) := by
  obtain ⟨q, e, hne, hc, hf, hs⟩ := h.at_ (k := k) (by rw [List.length_append, hk]; simp)
  obtain ⟨s1, s2⟩ := hs c
  obtain ⟨m1, m2⟩ := s1.move (p + 1)
  refine ⟨q, e, hne, by rw [hc]; simp [← hk], hf, A, cap, T, ?_, hT, ?_⟩
  · have es : (M ++ [y]).set k c = M ++ [c] := by rw [← hk]; simp
    rw [es] at m1
    rw [hl, he]
    exact m1.still (Fr.refl _ _).drew
  · exact (hF.trans (s2.trans m2 (fun _ _ e => e)) (fun i hi e => (hT i e).elim id (fun e2 => absurd hi (by omega)))).drew
theorem wr_grow {w w1 w2 : World} {g p m cap : Nat} {A : Option Addr} {S : Nat → Prop} {B : List UInt8} {v2 : Value} (h : WrM w g A cap p B S) (hF : Fr (fun _ => False) w w1) (hm : m = B.length) (hown : w2.ownsRow 0 5 1 v2 (m + 1) (bs B ++ [.int .u8 0]))
    (hg : (w1.alloc (.cells #[.int .u8 0] 5)).grownBy w2 (Value.slice A m cap).ownBlock) (hat : v2.ownBlock = (Value.slice A m cap).ownBlock ∨ v2.ownBlock = some (w1.alloc (.cells #[.int .u8 0] 5)).heap.size) :
    ∃ A2 cap2, v2 = .slice A2 (m + 1) cap2 ∧ w2.cell? ⟨g, 2, none⟩ = some (.slice A m cap) ∧ w2.frozen? ⟨g, 2, none⟩ = false ∧ Hid (∃ T, WrM (w2.setCell ⟨g, 2, none⟩ (.slice A2 (m + 1) cap2)) g A2 cap2 p (B ++ [0]) T ∧ (∀ i, T i → S i ∨ w.heap.size ≤ i) ∧ Fr S w (w2.setCell ⟨g, 2, none⟩ (.slice A2 (m + 1) cap2))) := by
  have hFa := hF.alloc (.cells #[.int .u8 0] 5)
  obtain ⟨A2, cap2, rfl, h1, h2⟩ := (h.still hFa).grow (B' := B ++ [0]) (by rw [List.length_append, hm]; rfl) (by rw [bs_append]; rfl) hown hg hat
  have hb := (hg.block g ((h.still hFa).low g h.own) (fun e => h.off m cap e.symm)).trans (h.still hFa).blk
  refine ⟨A2, cap2, rfl, by rw [cellAt hb, hm]; rfl, freeAt hb 2, ⟨_, h1, fun i hi => ?_, (hFa.mono (fun _ _ e => e.elim)).trans h2 (fun _ _ e => e)⟩⟩
  rcases hi with hi | hi
  · exact Or.inl hi
  · exact Or.inr (Nat.le_trans hFa.size hi.1)
section
variable {w : World} {g cap : Nat} {A : Option Addr} {S : Nat → Prop}
set_option maxHeartbeats 4000000 in
theorem wbit {L : List Int} (h : WrM w g A cap L.length (packI L) S) (hb : AllBit L) (x : Int) (hx : x = 0 ∨ x = 1) (hl : L.length ≤ 5000000) :
    Calls Tryz.prog 121 #[.pointer (some ⟨g, 0, none⟩), .int .i64 x] w fun e w' => (∃ v, e = .returned v) ∧ WrA w g S (L ++ [x]) w' := by
  obtain ⟨p, hp⟩ : ∃ p, p = L.length := ⟨_, rfl⟩
  rw [← hp] at h
  have HW := Lib.hid (fun wx => pwithin wx p true (by omega))
  have HX := Lib.hid h
  have c0 := h.c0
  have c1 := h.c1
  obtain ⟨r, hr⟩ : ∃ r, r = p % 8 := ⟨_, rfl⟩
  obtain ⟨k, hk⟩ : ∃ k, k = p / 8 := ⟨_, rfl⟩
  have hdk : (p : Int) / 8 = (k : Int) := by omega
  have hdr : (p : Int) % 8 = (r : Int) := by omega
  obtain ⟨m, hm⟩ : ∃ m, m = (packI L).length := ⟨_, rfl⟩
  have hm9 : m ≤ 5000000 := by rw [hm, packI_length]; omega
  have HM := Lib.hid hm
  have hk0 : (0 : Int) ≤ (k : Int) := by omega
  have hr8 : r < 8 := by omega
  by_cases h0 : p % 8 = 0
  · have hkm : k = m := by rw [hm, packI_length]; omega
    have h00 : ¬ (p % 8 ≠ 0) := fun e => e h0
    rw [decide_eq_false h00] at HW
    have he := pack_snoc0 (L := L) (x := x) (by omega)
    obtain ⟨V, hV, hor⟩ := byte_up (y := 0) (i := r) (by omega) (Int.pow_pos (by omega)) hr8 hx
    have hr0 : r = 0 := by omega
    have hV2 : V = ((UInt8.ofNat x.toNat).toNat : Int) := by rw [hV, hr0]; simp
    have HE := Lib.hid he
    have HLN := Lib.hid (show (L ++ [x]).length = p + 1 by rw [List.length_append, ← hp]; rfl)
    have HV := Lib.hid hV2
    obtain ⟨i0, hi, hz0, hz1, hz2⟩ := info_parts infoB
    have HI := Lib.hid (⟨hi, hz0, hz1, hz2⟩ : _ ∧ _ ∧ _ ∧ _)
    have hk1 : (k : Int) < (m : Int) + 1 := by omega
    have hk2 : (k : Int) < ((m + 1 : Nat) : Int) := by omega
    have hk3 : k < m + 1 := by omega
    have HKM := Lib.hid hkm
    clear hV hr hk hb h0 h00 he hr0 hV2 hi hz0 hz1 hz2 hp hm h hkm
    go_enter Tryz.func121, Tryz.ntmps121
    go_wp2_with (first
      | (go_at_call 132; refine (HW.out _).mono ?_; rintro e w1 ⟨rfl, hF⟩; have d0 := (HX.out.still hF).c0; have d2 := (HX.out.still hF).c2; have f2 := (HX.out.still hF).f2; rw [← HM.out] at d2; have HF := Lib.hid hF; clear hF)
      | (at_builtin; refine wpList_append_own_at _ rfl (.tmp 14) (.tmp 15) 22 rfl 0 5 i0 (.int .u8 0) 1 1 Tryz.underlying22 HI.out.1 HI.out.2.1 HI.out.2.2.1 HI.out.2.2.2 rfl (by omega) _ m (bs (packI L)) rfl (by rw [HM.out]; exact (HX.out.still (HF.out.alloc _)).row) ⟨w1.heap.size, 0, none⟩ 1 1 [.int .u8 0] rfl rfl (fun j u hu => by rw [add_plain, cellAt (heap_alloc_new _ _), Nat.zero_add, ← Array.getElem?_toList]; exact hu) (fun u hu => by obtain rfl := List.mem_singleton.1 hu; rfl) (by unfold maxLen; omega) (by omega) (Nat.zero_le _) ?_; intro v2 w2 hown hg _ hat; obtain ⟨A2, cap2, hv, e2, g2, HG⟩ := wr_grow HX.out HF.out HM.out hown hg hat; subst hv; clear hown hg hat))
    obtain ⟨w3, hw3⟩ : ∃ w3, w3 = w2.setCell ⟨g, 2, none⟩ (.slice A2 (m + 1) cap2) := ⟨_, rfl⟩
    rw [← hw3]
    have HG3 := HG.out
    rw [← hw3] at HG3
    obtain ⟨T, hW3, hT, hF3⟩ := HG3
    have d0 := hW3.c0
    have d2 := hW3.c2
    have f0 := hW3.f0
    obtain ⟨q, hA, hne, dk, fk, HR⟩ := wr_step hW3 hT hF3 (HM.out.symm.trans HKM.out.symm) HE.out HLN.out
    rw [← HV.out] at HR
    have HRR := Lib.hid HR
    have hn : (packI L ++ [(0 : UInt8)]).length = m + 1 := by rw [List.length_append, HM.out]; rfl
    rw [hn, hA] at d2
    have dk : w3.cell? ⟨q, k, none⟩ = some (.int .u8 0) := dk
    clear hA HR hF3 hW3 hT hw3 HG hn
    go_region
    go_wp2_with fail
    go_end0
    exact ⟨⟨_, rfl⟩, HRR.out⟩
  · rw [decide_eq_true h0] at HW
    obtain ⟨l, z, e1, e2, e3, e4, e5⟩ := pack_snoc (L := L) (x := x) (by omega)
    obtain ⟨y, hy⟩ : ∃ y : Nat, (y : Int) = numI z := ⟨(numI z).toNat, by have := numI_in z (hb.sub e4); omega⟩
    have hyr : (y : Int) < 2 ^ r := by have := (numI_in z (hb.sub e4)).2; rw [e3, ← hp, ← hr] at this; omega
    obtain ⟨V, hV, hor⟩ := byte_up (by omega) hyr hr8 hx
    rw [← hp, ← hr, ← hy] at e5
    rw [← hy, Int.toNat_natCast] at e1
    rw [← hp, ← hk] at e2
    have hy8 : (UInt8.ofNat y).toNat = y := by
      have : (2 : Int) ^ r ≤ 2 ^ 7 := by exact_mod_cast Nat.pow_le_pow_right (n := 2) (by omega) (by omega : r ≤ 7)
      rw [UInt8.toNat_ofNat']
      omega
    have hkm : k < m := by rw [hm, e1, List.length_append, e2]; simp
    have hk1 : (k : Int) < (m : Int) := by omega
    have HQ := Lib.hid (show ∀ w1 : World, Fr (fun _ => False) w w1 → ∃ q, A = some ⟨q, 0, none⟩ ∧ q ≠ g ∧ w1.cell? ⟨q, k, none⟩ = some (.int .u8 (y : Int)) ∧ w1.frozen? ⟨q, k, none⟩ = false ∧ WrA w g S (L ++ [x]) (((w1.setCell ⟨q, k, none⟩ (.int .u8 V)).setCell ⟨g, 0, none⟩ (.int .i64 ((p : Int) + 1))).drew) by
      intro w1 hF
      have h1 := h.still hF
      rw [e1] at h1
      have := wr_step h1 (fun i hi => Or.inl hi) (hF.mono (fun _ _ e => e.elim)) e2 e5 (by rw [List.length_append, ← hp]; rfl)
      rw [hy8, ← hV] at this
      exact this)
    clear hV e1 e2 e3 e4 e5 hy hyr hy8 h hr hk hp hm hb h0
    go_enter Tryz.func121, Tryz.ntmps121
    go_wp2_with (go_at_call 132; refine (HW.out _).mono ?_; rintro e w1 ⟨rfl, hF⟩; have d0 := (HX.out.still hF).c0; have d2 := (HX.out.still hF).c2; have f0 := (HX.out.still hF).f0; rw [← HM.out] at d2; obtain ⟨q, hA, hne, dk, fk, HR⟩ := HQ.out w1 hF; rw [hA] at d2; have HRR := Lib.hid HR; clear hA HR hF)
    go_region
    go_wp2_with fail
    go_end0
    exact ⟨⟨_, rfl⟩, HRR.out⟩
end
end Go.Proofs.YtcdhakfmljjaoaaGreatDoor.fl

/-
  The program's writer: many bits, lowest or highest first.
-/


namespace Go.Proofs.YtcdhakfmljjaoaaGreatDoor.fl
set_option maxRecDepth 100000
open Go.RowKit Go.Maps
set_option maxRecDepth 100000

theorem enters_bit : ∀ (args : Array Value) (w : World), (callFunc 121 args).run Tryz.prog w = .ok (.enter 121 args) w := enters_of Tryz.func121 (by kernel_rfl) rfl
theorem WrA.refl {w : World} {g cap : Nat} {A : Option Addr} {S : Nat → Prop} {L : List Int} (h : WrM w g A cap L.length (packI L) S) : WrA w g S L w := ⟨A, cap, S, h, fun _ e => Or.inl e, Fr.refl _ _⟩
theorem and_one (x : Int) (h0 : 0 ≤ x) (h1 : x < 2 ^ 63) : bits .and .i64 x 1 = x % 2 := by
  have := and_low (i := 1) h0 h1 (by omega)
  exact this
section
variable {w : World} {g cap : Nat} {A : Option Addr} {S : Nat → Prop}
/-- One bit more, behind some. -/
theorem wbit_next {L : List Int} {wr : World} (h : WrA w g S L wr) (hb : AllBit L) (x : Int) (hx : x = 0 ∨ x = 1) (hl : L.length ≤ 5000000) :
    Calls Tryz.prog 121 #[.pointer (some ⟨g, 0, none⟩), .int .i64 x] wr fun e w' => (∃ v, e = .returned v) ∧ WrA w g S (L ++ [x]) w' := by
  obtain ⟨A1, c1, T, h1, h2, h3⟩ := h
  refine (wbit h1 hb x hx hl).mono ?_
  rintro e w' ⟨he, A2, c2, U, k1, k2, k3⟩
  refine ⟨he, A2, c2, U, k1, fun i hi => ?_, h3.trans k3 (fun i hi e => (h2 i e).elim id (fun e2 => absurd hi (by omega)))⟩
  rcases k2 i hi with e | e
  · exact h2 i e
  · exact Or.inr (Nat.le_trans h3.size e)
set_option maxHeartbeats 4000000 in
theorem lowest_any {L : List Int} (h : WrM w g A cap L.length (packI L) S) (hb : AllBit L) (hl : L.length ≤ 4000000) (n : Int) (K : Nat) (hn : 0 ≤ n) (hn2 : n < 2 ^ 24) (hK : K ≤ 24) :
    Calls Tryz.prog 120 #[.int .i64 n, .int .i64 (K : Int), .func (.func 121) #[.pointer (some ⟨g, 0, none⟩)] #[]] w fun e w' => (∃ v, e = .returned v) ∧ WrA w g S (L ++ lowI n K) w' := by
  have H0 := Lib.hid (WrA.refl h)
  have HB := Lib.hid hb
  clear h hb
  go_enter Tryz.func120, Tryz.ntmps120
  go_wp2_with fail
  go_loopw [6, 8] (fun _ v8 wr => ∃ i : Nat, i ≤ K ∧ v8 = .int .i64 i ∧ Hid (WrA w g S (L ++ lowI n i) wr)) (fun _ v _ => K - (intOf v).toNat)
  case atStart => exact ⟨0, Nat.zero_le _, rfl, (show WrA w g S (L ++ lowI n 0) w by rw [lowI, List.append_nil]; exact H0.out)⟩
  case round =>
    obtain ⟨i, hi, rfl, HC⟩ := hrel
    by_cases hlt : i < K
    · have hx : n / 2 ^ i % 2 = 0 ∨ n / 2 ^ i % 2 = 1 := by omega
      have hd0 : 0 ≤ n / 2 ^ i := Int.ediv_nonneg hn (Int.pow_nonneg (by omega))
      have hd1 : n / 2 ^ i ≤ n := Int.ediv_le_self _ hn
      have hand := and_one (n / 2 ^ i) hd0 (by omega)
      have HX := Lib.hid (wbit_next HC.out (HB.out.append (low_bits i n)) (n / 2 ^ i % 2) hx (by rw [List.length_append, lowI_length]; omega))
      rw [List.append_assoc, ← lowI_snoc] at HX
      obtain ⟨x, hxx⟩ : ∃ x, x = n / 2 ^ i % 2 := ⟨_, rfl⟩
      rw [← hxx] at HX hand
      clear hx hxx H0
      go_wp2_with fail
      refine HX.out.mono ?_
      rintro e w' ⟨⟨v, rfl⟩, HC2⟩
      have HCC := Lib.hid HC2
      clear HC2 HX HC
      go_wp2_with fail
      go_roundw
      case rel => exact ⟨i + 1, by omega, by go_num, HCC⟩
      case measure => simp [intOf]; omega
    · obtain rfl : i = K := by omega
      go_wp2_with fail
      go_end0
      exact ⟨⟨_, rfl⟩, HC.out⟩
theorem rev_take_succ {n : Int} {K i : Nat} (h : i < K) : (lowI n K).reverse.take (i + 1) = (lowI n K).reverse.take i ++ [n / 2 ^ (K - 1 - i) % 2] := by
  rw [List.take_add_one, rev_get h]; rfl
set_option maxHeartbeats 4000000 in
theorem highest_any {L : List Int} (h : WrM w g A cap L.length (packI L) S) (hb : AllBit L) (hl : L.length ≤ 4000000) (n : Int) (K : Nat) (hn : 0 ≤ n) (hn2 : n < 2 ^ 24) (hK : K ≤ 24) :
    Calls Tryz.prog 137 #[.int .i64 n, .int .i64 (K : Int), .func (.func 121) #[.pointer (some ⟨g, 0, none⟩)] #[]] w fun e w' => (∃ v, e = .returned v) ∧ WrA w g S (L ++ (lowI n K).reverse) w' := by
  have H0 := Lib.hid (WrA.refl h)
  have HB := Lib.hid hb
  clear h hb
  go_enter Tryz.func137, Tryz.ntmps137
  go_wp2_with fail
  go_loopw [6, 8] (fun _ v8 wr => ∃ i : Nat, i ≤ K ∧ v8 = .int .i64 i ∧ Hid (WrA w g S (L ++ (lowI n K).reverse.take i) wr)) (fun _ v _ => K - (intOf v).toNat)
  case atStart => exact ⟨0, Nat.zero_le _, rfl, (show WrA w g S (L ++ (lowI n K).reverse.take 0) w by rw [List.take_zero, List.append_nil]; exact H0.out)⟩
  case round =>
    obtain ⟨i, hi, rfl, HC⟩ := hrel
    by_cases hlt : i < K
    · obtain ⟨t, ht⟩ : ∃ t, t = K - 1 - i := ⟨_, rfl⟩
      have hx : n / 2 ^ t % 2 = 0 ∨ n / 2 ^ t % 2 = 1 := by omega
      have hd0 : 0 ≤ n / 2 ^ t := Int.ediv_nonneg hn (Int.pow_nonneg (by omega))
      have hd1 : n / 2 ^ t ≤ n := Int.ediv_le_self _ hn
      have hand := and_one (n / 2 ^ t) hd0 (by omega)
      have HX := Lib.hid (wbit_next HC.out (HB.out.append ((show AllBit (lowI n K).reverse from fun y hy => low_bits K n y (List.mem_reverse.1 hy)).sub (List.take_sublist _ _))) (n / 2 ^ t % 2) hx (by rw [List.length_append, List.length_take, List.length_reverse, lowI_length]; omega))
      rw [List.append_assoc, ht, ← rev_take_succ hlt, ← ht] at HX
      obtain ⟨x, hxx⟩ : ∃ x, x = n / 2 ^ t % 2 := ⟨_, rfl⟩
      rw [← hxx] at HX hand
      have hti : (K : Int) - 1 - (i : Int) = (t : Int) := by omega
      have htK : t ≤ 24 := by omega
      clear hx hxx H0 ht
      go_wp2_with fail
      refine HX.out.mono ?_
      rintro e w' ⟨⟨v, rfl⟩, HC2⟩
      have HCC := Lib.hid HC2
      clear HC2 HX HC
      go_wp2_with fail
      go_roundw
      case rel => exact ⟨i + 1, by omega, by go_num, HCC⟩
      case measure => simp [intOf]; omega
    · obtain rfl : i = K := by omega
      have HZ := Lib.hid (show WrA w g S (L ++ (lowI n i).reverse) wr by have := HC.out; rwa [List.take_of_length_le (by rw [List.length_reverse, lowI_length]; exact Nat.le_refl _)] at this)
      go_wp2_with fail
      go_end0
      exact ⟨⟨_, rfl⟩, HZ.out⟩
end
end Go.Proofs.YtcdhakfmljjaoaaGreatDoor.fl

/-
  The program's writer: Put, Code, Align, Bytes, Write.
-/
namespace Go.Proofs.YtcdhakfmljjaoaaGreatDoor.fl
set_option maxRecDepth 100000
open Go.RowKit Go.Maps
set_option maxRecDepth 100000

theorem lowB_nat {n k : Int} (h : lowB n k = true) : ∃ K : Nat, k = K ∧ K ≤ 24 ∧ 0 ≤ n ∧ n < 2 ^ 24 ∧ lowL n k = lowI n K := by
  unfold lowB at h
  obtain ⟨h1, h2⟩ := Bool.and_eq_true_iff.1 h
  obtain ⟨a, b, c⟩ := (mayB_iff n k).1 h1
  refine ⟨k.toNat, by omega, by omega, c, ?_, by unfold lowL; rw [if_pos h1]⟩
  have hd := of_decide_eq_true h2
  have hp : (0 : Int) < 2 ^ k.toNat := Int.pow_pos (by omega)
  have he : (2 : Int) ^ k.toNat ≤ 2 ^ 24 := by exact_mod_cast Nat.pow_le_pow_right (n := 2) (by omega) (by omega : k.toNat ≤ 24)
  have := Int.emod_add_mul_ediv n (2 ^ k.toNat)
  rw [hd, Int.mul_zero] at this
  have := Int.emod_lt_of_pos n hp
  omega
section
variable {w : World} {g cap : Nat} {A : Option Addr} {S : Nat → Prop}
set_option maxHeartbeats 4000000 in
theorem wput {L : List Int} (h : WrM w g A cap L.length (packI L) S) (hb : AllBit L) (hl : L.length ≤ 4000000) (n k : Int) (hk : Big k) :
    Calls Tryz.prog 100 #[.pointer (some ⟨g, 0, none⟩), .int .i64 n, .int .i64 k] w fun e w' => e = .returned (.int .i64 (putZ n k)) ∧ WrA w g S (putL' L n k) w' := by
  have HM := Lib.hid (wmayput h n k hk)
  have hmf : ∀ (fn : Fn) (first cap : Array Value) (w : World), (Instr.makeFunc fn first cap).run Tryz.prog w = .ok (.func fn first cap) w := fun _ _ _ _ => rfl
  by_cases h1 : lowB n k = true
  · obtain ⟨K, rfl, hK, hn, hn2, hL⟩ := lowB_nat h1
    have HV := Lib.hid (show putZ n K = 0 by unfold putZ; rw [if_pos h1])
    have HP := Lib.hid (show putL' L n K = L ++ lowI n K by unfold putL'; rw [if_pos h1, hL])
    rw [HV.out] at HM ⊢
    rw [HP.out]
    have HB := Lib.hid (lowest_any h hb hl n K hn hn2 hK)
    clear h hb h1 hL hk
    go_enter Tryz.func100, Tryz.ntmps100
    go_wp2_with (first
      | (go_at_call 119; refine HM.out.mono ?_; rintro e w' ⟨rfl, rfl⟩)
      | (go_at_call 120; refine HB.out.mono ?_; rintro e w' ⟨⟨v, rfl⟩, HC⟩))
    go_ret
    exact ⟨rfl, HC⟩
  · have HV := Lib.hid (show putZ n k = 2 by unfold putZ; rw [if_neg h1])
    have HP := Lib.hid (show putL' L n k = L by unfold putL'; rw [if_neg h1])
    rw [HV.out] at HM ⊢
    rw [HP.out]
    have HB := Lib.hid (WrA.refl h)
    clear h hb h1 hk
    go_enter Tryz.func100, Tryz.ntmps100
    go_wp2_with (go_at_call 119; refine HM.out.mono ?_; rintro e w' ⟨rfl, rfl⟩)
    go_ret
    exact ⟨rfl, HB.out⟩
set_option maxHeartbeats 4000000 in
theorem wcode {L : List Int} (h : WrM w g A cap L.length (packI L) S) (hb : AllBit L) (hl : L.length ≤ 4000000) (n k : Int) (hk : Big k) :
    Calls Tryz.prog 123 #[.pointer (some ⟨g, 0, none⟩), .int .i64 n, .int .i64 k] w fun e w' => e = .returned (.int .i64 (putZ n k)) ∧ WrA w g S (codeL L n k) w' := by
  have HM := Lib.hid (wmayput h n k hk)
  have hmf : ∀ (fn : Fn) (first cap : Array Value) (w : World), (Instr.makeFunc fn first cap).run Tryz.prog w = .ok (.func fn first cap) w := fun _ _ _ _ => rfl
  by_cases h1 : lowB n k = true
  · obtain ⟨K, rfl, hK, hn, hn2, hL⟩ := lowB_nat h1
    have HV := Lib.hid (show putZ n K = 0 by unfold putZ; rw [if_pos h1])
    have HP := Lib.hid (show codeL L n K = L ++ (lowI n K).reverse by unfold codeL; rw [if_pos h1, hL])
    rw [HV.out] at HM ⊢
    rw [HP.out]
    have HB := Lib.hid (highest_any h hb hl n K hn hn2 hK)
    clear h hb h1 hL hk
    go_enter Tryz.func123, Tryz.ntmps123
    go_wp2_with (first
      | (go_at_call 119; refine HM.out.mono ?_; rintro e w' ⟨rfl, rfl⟩)
      | (go_at_call 137; refine HB.out.mono ?_; rintro e w' ⟨⟨v, rfl⟩, HC⟩))
    go_ret
    exact ⟨rfl, HC⟩
  · have HV := Lib.hid (show putZ n k = 2 by unfold putZ; rw [if_neg h1])
    have HP := Lib.hid (show codeL L n k = L by unfold codeL; rw [if_neg h1])
    rw [HV.out] at HM ⊢
    rw [HP.out]
    have HB := Lib.hid (WrA.refl h)
    clear h hb h1 hk
    go_enter Tryz.func123, Tryz.ntmps123
    go_wp2_with (go_at_call 119; refine HM.out.mono ?_; rintro e w' ⟨rfl, rfl⟩)
    go_ret
    exact ⟨rfl, HB.out⟩
set_option maxHeartbeats 4000000 in
theorem pwrite (w : World) : Calls Tryz.prog 79 #[] w fun e w' => ∃ a S, e = .returned (.pointer (some a)) ∧ PV w' a [] S ∧ (∀ i, S i → w.heap.size ≤ i) ∧ Fr (fun _ => False) w w' := by
  have HE := Lib.hid (show PV (w.alloc (.cells #[.int .i64 0, .bool true, .slice none 0 0] 126)) ⟨w.heap.size, 0, none⟩ [] (fun i => i = w.heap.size) from
    ⟨w.heap.size, none, 0, rfl, ⟨heap_alloc_new _ _, rfl, ⟨rfl, Or.inl ⟨rfl, rfl⟩⟩, (fun _ _ e => by cases e), (fun _ _ _ e => by cases e), (fun i hi => by rw [World.size_alloc, hi]; omega)⟩, (fun x hx => by cases hx)⟩)
  have HF := Lib.hid ((Fr.refl (fun _ => False) w).alloc (.cells #[.int .i64 0, .bool true, .slice none 0 0] 126))
  go_enter Tryz.func79, Tryz.ntmps79
  go_wp2_with fail
  go_ret
  exact ⟨_, _, rfl, HE.out, fun i hi => by rw [hi]; exact Nat.le_refl _, HF.out⟩
end
/-- What an append of bytes leaves. -/
theorem wr_append {w w1 w2 : World} {g p m nd cap : Nat} {A : Option Addr} {S : Nat → Prop} {B d : List UInt8} {v2 : Value} (h : WrM w g A cap p B S) (hF : Fr (fun _ => False) w w1) (hm : m = B.length) (hd : nd = d.length) (hown : w2.ownsRow 0 5 1 v2 (m + nd) (bs B ++ bs d))
    (hg : w1.grownBy w2 (Value.slice A m cap).ownBlock) (hat : v2.ownBlock = (Value.slice A m cap).ownBlock ∨ v2.ownBlock = some w1.heap.size) :
    ∃ A2 cap2, v2 = .slice A2 (m + nd) cap2 ∧ w2.cell? ⟨g, 2, none⟩ = some (.slice A m cap) ∧ w2.frozen? ⟨g, 2, none⟩ = false ∧ w2.cell? ⟨g, 0, none⟩ = some (.int .i64 (p : Int)) ∧ w2.frozen? ⟨g, 0, none⟩ = false ∧ Hid (∃ T, WrM (w2.setCell ⟨g, 2, none⟩ (.slice A2 (m + nd) cap2)) g A2 cap2 p (B ++ d) T ∧ (∀ i, T i → S i ∨ w.heap.size ≤ i) ∧ Fr S w (w2.setCell ⟨g, 2, none⟩ (.slice A2 (m + nd) cap2))) := by
  obtain ⟨A2, cap2, rfl, h1, h2⟩ := (h.still hF).grow (B' := B ++ d) (by rw [List.length_append, hm, hd]) (by rw [bs_append]) hown hg hat
  have hb := (hg.block g ((h.still hF).low g h.own) (fun e => h.off m cap e.symm)).trans (h.still hF).blk
  refine ⟨A2, cap2, rfl, by rw [cellAt hb, hm]; rfl, freeAt hb 2, (cellAt hb 0).trans rfl, freeAt hb 0, ⟨_, h1, fun i hi => ?_, (hF.mono (fun _ _ e => e.elim)).trans h2 (fun _ _ e => e)⟩⟩
  rcases hi with hi | hi
  · exact Or.inl hi
  · exact Or.inr (Nat.le_trans hF.size hi.1)
section
variable {w : World} {g cap : Nat} {A : Option Addr} {S : Nat → Prop}
end
end Go.Proofs.YtcdhakfmljjaoaaGreatDoor.fl

/-
  The program's readers and writers, all of their contracts.
-/
namespace Go.Proofs.YtcdhakfmljjaoaaGreatDoor.fl
set_option maxRecDepth 100000
open Go.RowKit Go.Maps

theorem raft {w w' : World} {g cap p : Nat} {A : Option Addr} {b : List UInt8} {S : Nat → Prop} (h : RdA w g A cap b S p w') : RAft PR w ⟨g, 0, none⟩ b S p w' := ⟨S, ⟨g, A, cap, rfl, h.1⟩, fun _ e => Or.inl e, h.2⟩
theorem vaft {w w' : World} {g : Nat} {S : Nat → Prop} {L : List Int} (h : WrA w g S L w') (hb : AllBit L) : VAft PV w ⟨g, 0, none⟩ S L w' := by
  obtain ⟨A, cap, T, h1, h2, h3⟩ := h
  exact ⟨T, ⟨g, A, cap, rfl, h1, hb⟩, h2, h3⟩
theorem putL'_bits {L : List Int} (h : AllBit L) (n k : Int) : AllBit (putL' L n k) := by
  unfold putL'
  by_cases e : lowB n k = true
  · rw [if_pos e]; exact h.append (lowL_bits n k)
  · rw [if_neg e]; exact h
theorem codeL_bits {L : List Int} (h : AllBit L) (n k : Int) : AllBit (codeL L n k) := by
  unfold codeL
  by_cases e : lowB n k = true
  · rw [if_pos e]; exact h.append (fun y hy => lowL_bits n k y (List.mem_reverse.1 hy))
  · rw [if_neg e]; exact h
theorem wbL_bits {L : List Int} (h : AllBit L) (d : List UInt8) : AllBit (wbL L d) := by
  unfold wbL
  by_cases e : L.length % 8 = 0
  · rw [if_pos e]; exact h.append (bitsOf_bits d)
  · rw [if_neg e]; exact h
theorem flow_all : FlowP PR PV where
  r_keep := fun ⟨g, A, cap, e, h⟩ hF hS => ⟨g, A, cap, e, h.keep hF hS⟩
  r_in := fun ⟨_, _, _, _, h⟩ => ⟨h.low, h.le⟩
  new := fun w A cap b hr hA _ hl => pnew w A cap b hr hA hl
  take := fun w a b p S n ⟨g, A, cap, e, h⟩ hn => by subst e; exact (ptake h n hn).mono fun _ _ ⟨e, k⟩ => ⟨e, raft k⟩
  align := fun w a b p S ⟨g, A, cap, e, h⟩ => by subst e; exact (palign h).mono fun _ _ ⟨e, k⟩ => ⟨e, raft k⟩
  bytes := fun w a b p S n ⟨g, A, cap, e, h⟩ hn => by
    subst e
    refine (pbytes h n hn).mono fun _ w' ⟨A', cap', e, ho, h1, h2⟩ => ⟨A', cap', S, e, ho, ⟨g, A, cap, rfl, h1⟩, fun i hi => ⟨Or.inl hi, fun hq => ?_⟩, h2⟩
    rcases ho.2 with ⟨e2, _⟩ | ⟨q, c, cur, e2, hge, _⟩
    · rw [e2] at hq; cases hq
    · rw [e2] at hq
      cases hq
      exact absurd (h.low _ hi) (Nat.not_lt.2 hge)
  at_ := fun w a b p S ⟨g, A, cap, e, h⟩ => by subst e; exact (pat h).mono fun _ _ ⟨e, k⟩ => ⟨e, by subst k; exact Calm.refl _⟩
  v_keep := fun ⟨g, A, cap, e, h, hb⟩ hF hS => ⟨g, A, cap, e, h.keep hF hS, hb⟩
  v_in := fun ⟨_, _, _, _, h, hb⟩ => ⟨h.low, hb⟩
  write := pwrite
  put := fun w a L S n k ⟨g, A, cap, e, h, hb⟩ hl _ hk => by subst e; exact (wput h hb hl n k hk).mono fun _ _ ⟨e, r⟩ => ⟨e, vaft r (putL'_bits hb n k)⟩
  code := fun w a L S n k ⟨g, A, cap, e, h, hb⟩ hl _ hk => by subst e; exact (wcode h hb hl n k hk).mono fun _ _ ⟨e, r⟩ => ⟨e, vaft r (codeL_bits hb n k)⟩
  all := fun w a L S ⟨g, A, cap, e, h, hb⟩ hl => by
    subst e
    refine (wall h (by rw [packI_length]; omega)).mono fun _ w' ⟨A', cap', e, ho, hF⟩ => ⟨A', cap', S, e, ho, ⟨g, A, cap, rfl, h.still hF, hb⟩, fun i hi => ⟨Or.inl hi, fun hq => ?_⟩, hF.mono (fun _ _ e => e.elim)⟩
    rcases ho.2 with ⟨e2, _⟩ | ⟨q, c, cur, e2, hge, _⟩
    · rw [e2] at hq; cases hq
    · rw [e2] at hq
      cases hq
      exact absurd (h.low _ hi) (Nat.not_lt.2 hge)
end Go.Proofs.YtcdhakfmljjaoaaGreatDoor.fl
