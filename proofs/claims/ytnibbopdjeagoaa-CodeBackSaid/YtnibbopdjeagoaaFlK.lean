/-
  The program's reader: Take, Peek, Skip, Align, Bytes, New.
-/
import Derived.Test.YtnibbopdjeagoaaFlJ
namespace Go.Proofs.Ytnibbopdjeagoaa.fl
set_option maxRecDepth 100000
open Go.RowKit Go.Maps
set_option maxRecDepth 100000

theorem mayD {n : Int} (h : n < 0 ∨ 24 < n) : (decide (0 ≤ n) && decide (n ≤ 24)) = false := by
  rcases h with h | h
  · rw [decide_eq_false (by omega)]; rfl
  · rw [decide_eq_false (p := n ≤ 24) (by omega), Bool.and_false]
theorem mayD' {n : Int} (h : ¬ (n < 0 ∨ 24 < n)) : (decide (0 ≤ n) && decide (n ≤ 24)) = true := by
  rw [decide_eq_true (by omega), decide_eq_true (by omega)]; rfl
section
variable {w : World} {g cap p : Nat} {A : Option Addr} {b : List UInt8} {S : Nat → Prop}
set_option maxHeartbeats 4000000 in
theorem pmaytake (h : RdX w g A cap b p S) (n : Int) (hn : Big n) : Calls Try.prog 60 #[.pointer (some ⟨g, 0, none⟩), .int .i64 n] w fun e w' => e = .returned (.int .i64 (takeV (bitsOf b) p n).2) ∧ Calm w w' := by
  have HM := Lib.hid (pmissing h)
  have HL := Lib.hid (pleft h)
  have HB := Lib.hid (pmaybe w n hn)
  have hle := h.le
  have hlen := h.len
  have hbl := bitsOf_length b
  obtain ⟨l, hl⟩ : ∃ l, l = 8 * b.length - p := ⟨_, rfl⟩
  rw [← hl] at HL
  by_cases h1 : n < 0 ∨ 24 < n
  · have HV := Lib.hid (show (takeV (bitsOf b) p n).2 = 2 by unfold takeV; rw [if_pos h1])
    rw [mayD h1] at HB
    rw [HV.out]
    clear h hl h1
    go_enter Try.func60, Try.ntmps60
    go_wp2_with (first
      | (go_at_call 51; refine HM.out.mono ?_; rintro e w' ⟨rfl, rfl⟩)
      | (go_at_call 68; refine HB.out.mono ?_; rintro e w' ⟨rfl, rfl⟩))
    go_ret
    exact ⟨rfl, Calm.refl _⟩
  rw [mayD' h1] at HB
  obtain ⟨N, rfl⟩ : ∃ N : Nat, n = N := ⟨n.toNat, by omega⟩
  by_cases h2 : (l : Int) < N
  · have HV := Lib.hid (show (takeV (bitsOf b) p N).2 = 7 by unfold takeV; rw [if_neg h1, if_pos (by omega)])
    rw [HV.out]
    have h3 : l < N := by omega
    clear h hl h1 hn hle hlen hbl
    go_enter Try.func60, Try.ntmps60
    go_wp2_with (first
      | (go_at_call 51; refine HM.out.mono ?_; rintro e w' ⟨rfl, rfl⟩)
      | (go_at_call 68; refine HB.out.mono ?_; rintro e w' ⟨rfl, rfl⟩)
      | (go_at_call 54; refine HL.out.mono ?_; rintro e w' ⟨rfl, nl, rfl⟩))
    go_ret
    exact ⟨rfl, nl, rfl⟩
  · have HV := Lib.hid (show (takeV (bitsOf b) p N).2 = 0 by unfold takeV; rw [if_neg h1, if_neg (by omega)])
    rw [HV.out]
    have h3 : ¬ l < N := by omega
    clear h hl h1 hn hle hlen hbl
    go_enter Try.func60, Try.ntmps60
    go_wp2_with (first
      | (go_at_call 51; refine HM.out.mono ?_; rintro e w' ⟨rfl, rfl⟩)
      | (go_at_call 68; refine HB.out.mono ?_; rintro e w' ⟨rfl, rfl⟩)
      | (go_at_call 54; refine HL.out.mono ?_; rintro e w' ⟨rfl, nl, rfl⟩))
    go_ret
    exact ⟨rfl, nl, rfl⟩
/-- A reader behind a call. -/
def RdA (w : World) (g : Nat) (A : Option Addr) (cap : Nat) (b : List UInt8) (S : Nat → Prop) (p : Nat) (w' : World) : Prop := RdX w' g A cap b p S ∧ Fr S w w'
theorem rdA_move {w1 : World} (h : RdX w g A cap b p S) (hc : Calm w w1) (q : Nat) (hq : q ≤ 8 * b.length) : RdA w g A cap b S q (w1.setCell ⟨g, 0, none⟩ (.int .i64 (q : Int))) :=
  ⟨(h.still hc.fr).move q hq, (hc.fr.mono (fun _ _ e => e.elim)).trans ((h.still hc.fr).fr _) (fun _ _ e => e)⟩
theorem rdA_fr {w1 : World} (h : RdX w g A cap b p S) (hc : Fr (fun _ => False) w w1) (q : Nat) (hq : q ≤ 8 * b.length) : RdA w g A cap b S q (w1.setCell ⟨g, 0, none⟩ (.int .i64 (q : Int))) :=
  ⟨(h.still hc).move q hq, (hc.mono (fun _ _ e => e.elim)).trans ((h.still hc).fr _) (fun _ _ e => e)⟩
theorem rdA_calm {w1 : World} (h : RdX w g A cap b p S) (hc : Calm w w1) : RdA w g A cap b S p w1 := ⟨h.still hc.fr, hc.fr.mono (fun _ _ e => e.elim)⟩
theorem rdA_still {w1 : World} (h : RdX w g A cap b p S) (hc : Fr (fun _ => False) w w1) : RdA w g A cap b S p w1 := ⟨h.still hc, hc.mono (fun _ _ e => e.elim)⟩
theorem takeA_of {L : List Int} {p : Nat} {n : Int} (h : (takeV L p n).2 ≠ 0) : takeV L p n = (0, (takeV L p n).2) ∧ takeA L p n = p := by
  unfold takeV takeA at *
  by_cases h1 : n < 0 ∨ 24 < n
  · rw [if_pos h1, if_pos h1]; exact ⟨rfl, rfl⟩
  · rw [if_neg h1] at h ⊢
    rw [if_neg h1]
    by_cases h2 : (L.length : Int) - p < n
    · rw [if_pos h2, if_pos h2]; exact ⟨rfl, rfl⟩
    · rw [if_neg h2] at h
      exact absurd rfl h
theorem takeA_ok {L : List Int} {p : Nat} {n : Int} (h : (takeV L p n).2 = 0) : ∃ N : Nat, n = N ∧ N ≤ 24 ∧ (N : Int) ≤ L.length - p ∧ takeV L p n = (numI ((L.drop p).take N), 0) ∧ takeA L p n = p + N := by
  unfold takeV takeA at *
  by_cases h1 : n < 0 ∨ 24 < n
  · rw [if_pos h1] at h
    cases h
  · rw [if_neg h1] at h ⊢
    by_cases h2 : (L.length : Int) - p < n
    · rw [if_pos h2] at h
      cases h
    · rw [if_neg h2, if_neg h1, if_neg h2]
      exact ⟨n.toNat, by omega, by omega, by omega, rfl, rfl⟩
set_option maxHeartbeats 4000000 in
theorem ptake (h : RdX w g A cap b p S) (n : Int) (hn : Big n) : Calls Try.prog 46 #[.pointer (some ⟨g, 0, none⟩), .int .i64 n] w fun e w' => e = .returned (.tuple #[.int .i64 (takeV (bitsOf b) p n).1, .int .i64 (takeV (bitsOf b) p n).2]) ∧ RdA w g A cap b S (takeA (bitsOf b) p n) w' := by
  have HM := Lib.hid (pmaytake h n hn)
  by_cases h0 : (takeV (bitsOf b) p n).2 = 0
  · obtain ⟨N, rfl, hN, hl, hv, ha⟩ := takeA_ok h0
    rw [h0] at HM
    rw [hv, ha]
    rw [bitsOf_length] at hl
    have hle := h.le
    have hp := h.p64
    have HC := Lib.hid (fun nd => pnext (h.still ((Fr.refl _ w).drewN nd)) N hN)
    obtain ⟨u, hu⟩ : ∃ u, u = numI (((bitsOf b).drop p).take N) := ⟨_, rfl⟩
    rw [← hu] at HC ⊢
    have HX := Lib.hid h
    have c0 : ∀ nd, (w.drewN nd).cell? ⟨g, 0, none⟩ = some (.int .i64 (p : Int)) := fun nd => (h.still ((Fr.refl _ w).drewN nd)).c0
    have f0 : ∀ nd, (w.drewN nd).frozen? ⟨g, 0, none⟩ = false := fun nd => (h.still ((Fr.refl _ w).drewN nd)).f0
    clear h hu h0 hv ha hn
    go_enter Try.func46, Try.ntmps46
    go_wp2_with (first
      | (go_at_call 60; refine HM.out.mono ?_; rintro e w' ⟨rfl, nl, rfl⟩)
      | (go_at_call 61; refine (HC.out _).mono ?_; rintro e w' ⟨rfl, nm, rfl⟩))
    go_ret2
    exact ⟨rfl, rdA_move HX.out ⟨nl + nm, rfl⟩ (p + N) (by omega)⟩
  · obtain ⟨hv, ha⟩ := takeA_of h0
    rw [hv, ha]
    obtain ⟨z, hz⟩ : ∃ z, z = (takeV (bitsOf b) p n).2 := ⟨_, rfl⟩
    rw [← hz] at HM h0 ⊢
    have HX := Lib.hid h
    clear h hz hv ha hn
    go_enter Try.func46, Try.ntmps46
    go_wp2_with (go_at_call 60; refine HM.out.mono ?_; rintro e w' ⟨rfl, nl, rfl⟩)
    go_ret2
    exact ⟨rfl, rdA_calm HX.out ⟨nl, rfl⟩⟩
end
end Go.Proofs.Ytnibbopdjeagoaa.fl
