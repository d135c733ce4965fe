/-
  The document's reader: Take.
-/
import Derived.Test.YtnibbopdjeagoaaFlD
namespace Go.Proofs.Ytnibbopdjeagoaa.fl
set_option maxRecDepth 100000
open Go.RowKit Go.Maps
set_option maxRecDepth 100000

theorem quiet_id {f : FuncId} {args : Array Value} {w : World} {v : Value} (h : Calls Try.prog f args w fun e w' => e = .returned v ∧ w = w') : Calls Try.prog f args w fun e w' => e = .returned v ∧ w' = w := h.mono fun _ _ h => ⟨h.1, h.2.symm⟩
theorem part_rd {w : World} {lo yb : Nat} {A : Option Addr} {L : List Int} {cap : Nat} (h : RdT w lo yb A L) (hb : AllBit L) (hc : L.length ≤ cap) (a b : Nat) : RdI w yb (if cap = a then A else A.map (·.add a)) ((L.drop a).take (b - a)) := by
  refine ⟨fun hne => ?_, bit_i64 (hb.sub ((List.take_sublist _ _).trans (List.drop_sublist _ _)))⟩
  have ha : a < L.length := by
    apply Decidable.byContradiction
    intro hn
    exact hne (by rw [List.drop_of_length_le (by omega)]; simp)
  obtain ⟨blk, off, rfl, _, h2, hcell⟩ := h (by rintro rfl; simp at ha)
  rw [if_neg (by omega)]
  refine ⟨blk, off + a, by simp [add_plain], h2, fun j x hj => ?_⟩
  rw [List.getElem?_take] at hj
  split at hj
  · rw [List.getElem?_drop] at hj
    have := hcell (a + j) x hj
    rwa [← Nat.add_assoc] at this
  · cases hj

set_option maxHeartbeats 4000000 in
theorem rtake (w : World) (lo yb at_ : Nat) (L : List Int) (n : Int) (h : YR w lo yb L at_) (hlo : lo ≤ yb) (hn : n ≤ 9223372036854775807) :
    Calls Try.prog 49 #[.pointer (some ⟨yb, 0, none⟩), .int .i64 n] w fun e w' => e = .returned (.tuple #[.int .i64 (takeV L at_ n).1, .int .i64 (takeV L at_ n).2]) ∧ YR w' lo yb L (takeA L at_ n) ∧ Fr (fun i => i = yb) w w' := by
  obtain ⟨A, cap, hb, hcap, hrd⟩ := id h.cell
  have c0 : w.cell? ⟨yb, 0, none⟩ = some (.slice A L.length cap) := (cellAt hb 0).trans rfl
  have c1 : w.cell? ⟨yb, 1, none⟩ = some (.int .i64 (at_ : Int)) := (cellAt hb 1).trans rfl
  have f1 : w.frozen? ⟨yb, 1, none⟩ = false := freeAt hb 1
  have HY := Lib.hid (⟨h, hlo⟩ : _ ∧ _)
  obtain ⟨q, hq⟩ : ∃ q, q = L.length := ⟨_, rfl⟩
  have HQ := Lib.hid hq
  have hq8 : q ≤ 100000000 := by rw [hq]; exact h.len
  have haq : at_ ≤ q := by rw [hq]; exact h.le
  have hqc : q ≤ cap := by rw [hq]; exact hcap
  rw [← hq] at c0
  clear hb hrd h hcap hq
  by_cases h1 : n < 0
  · have HV := Lib.hid (⟨if_pos (Or.inl h1), if_pos (Or.inl h1)⟩ : takeV L at_ n = (0, 2) ∧ takeA L at_ n = at_)
    rw [HV.out.1, HV.out.2]
    clear c0 c1 f1 hqc haq hq8
    go_enter Try.func49, Try.ntmps49
    go_wp2_with fail
    go_ret2
    exact ⟨rfl, HY.out.1, Fr.refl _ _⟩
  by_cases h2 : 24 < n
  · have HV := Lib.hid (⟨if_pos (Or.inr h2), if_pos (Or.inr h2)⟩ : takeV L at_ n = (0, 2) ∧ takeA L at_ n = at_)
    rw [HV.out.1, HV.out.2]
    clear c0 c1 f1 hqc haq hq8
    go_enter Try.func49, Try.ntmps49
    go_wp2_with fail
    go_ret2
    exact ⟨rfl, HY.out.1, Fr.refl _ _⟩
  obtain ⟨N, rfl⟩ : ∃ N : Nat, n = N := ⟨n.toNat, by omega⟩
  have hor : ¬ ((N : Int) < 0 ∨ 24 < (N : Int)) := by omega
  by_cases h3 : (q : Int) - at_ < N
  · have HV := Lib.hid (⟨by unfold takeV; rw [if_neg hor, if_pos (by rw [← HQ.out]; exact h3)], by unfold takeA; rw [if_neg hor, if_pos (by rw [← HQ.out]; exact h3)]⟩ : takeV L at_ (N : Int) = (0, 7) ∧ takeA L at_ (N : Int) = at_)
    rw [HV.out.1, HV.out.2]
    clear hor f1
    go_enter Try.func49, Try.ntmps49
    go_wp2_with fail
    go_quiet (fail)
    go_wp2_with fail
    go_ret2
    exact ⟨rfl, HY.out.1.kept ((Fr.refl (fun _ => False) w).drewN _) (fun _ _ _ e => e) HY.out.2, (Fr.refl _ w).drewN _⟩
  · have HV := Lib.hid (⟨by unfold takeV; rw [if_neg hor, if_neg (by rw [← HQ.out]; exact h3)]; rfl, by unfold takeA; rw [if_neg hor, if_neg (by rw [← HQ.out]; exact h3)]; rfl⟩ : takeV L at_ (N : Int) = (numI ((L.drop at_).take N), 0) ∧ takeA L at_ (N : Int) = at_ + N)
    rw [HV.out.1, HV.out.2]
    obtain ⟨u, hu⟩ : ∃ u, u = numI ((L.drop at_).take N) := ⟨_, rfl⟩
    have HU := Lib.hid hu
    rw [← hu]
    have hN : N ≤ 24 := by omega
    have haN : at_ + N ≤ q := by omega
    clear hor hu h1 h2
    go_enter Try.func49, Try.ntmps49
    go_wp2_with fail
    go_quiet (fail)
    go_wp2_with fail
    obtain ⟨q2, hq2⟩ : ∃ q2, q2 = at_ + N := ⟨_, rfl⟩
    have hY2 := (HY.out.1.kept ((Fr.refl (fun _ => False) w).drewN nq) (fun _ _ _ e => e) HY.out.2).move q2 (by rw [hq2, ← HQ.out]; exact haN)
    have hF2 : Fr (fun i => i = yb) w ((w.drewN nq).setCell ⟨yb, 1, none⟩ (.int .i64 (q2 : Int))) := ((Fr.refl (fun i => i = yb) w).drewN nq).setCell (p := ⟨yb, 1, none⟩) (Or.inl rfl) _
    rw [show (at_ : Int) + (N : Int) = (q2 : Int) by omega]
    obtain ⟨w2, hw2⟩ : ∃ w2, w2 = (w.drewN nq).setCell ⟨yb, 1, none⟩ (.int .i64 (q2 : Int)) := ⟨_, rfl⟩
    rw [← hw2] at hY2 hF2 ⊢
    obtain ⟨A2, cap2, hb2, hcap2, hrd2⟩ := id hY2.cell
    have d0 : w2.cell? ⟨yb, 0, none⟩ = some (.slice A2 L.length cap2) := (cellAt hb2 0).trans rfl
    have d1 : w2.cell? ⟨yb, 1, none⟩ = some (.int .i64 (q2 : Int)) := (cellAt hb2 1).trans rfl
    rw [← HQ.out] at d0
    have hsl : ∀ wx : World, (Instr.slice 22 (.slice A2 q cap2) (some (.int .i64 (at_ : Int))) (some (.int .i64 (q2 : Int))) none).run Try.prog wx = .ok (.slice (if cap2 = at_ then A2 else A2.map (·.add at_)) (q2 - at_) (cap2 - at_)) wx := fun wx => cutI wx A2 q cap2 at_ q2 (by omega) (by rw [← HQ.out] at hcap2; omega)
    have hpr := part_rd hrd2 HY.out.1.bits hcap2 at_ q2
    have hpl : ((L.drop at_).take (q2 - at_)).length = q2 - at_ := by rw [List.length_take, List.length_drop, ← HQ.out]; omega
    obtain ⟨A3, hA3⟩ : ∃ A3, A3 = (if cap2 = at_ then A2 else A2.map (·.add at_)) := ⟨_, rfl⟩
    rw [← hA3] at hsl hpr
    have hqN : q2 - at_ = N := by omega
    rw [hqN] at hsl hpr hpl
    have HNU := Lib.hid (fun (m : Nat) => quiet_id (rnumber (w2.drewN m) A3 (cap2 - at_) yb ((L.drop at_).take N) (hpr.still ((Fr.refl (fun _ => False) w2).drewN m) (Nat.le_of_lt (Array.getElem?_eq_some_iff.1 hb2).1)) (by rw [hpl]; exact hN) (HY.out.1.bits.sub ((List.take_sublist _ _).trans (List.drop_sublist _ _)))))
    rw [hpl, ← HU.out] at HNU
    have hwr : IntKind.i64.wrap ((q2 : Int) - N) = at_ := by rw [show (q2 : Int) - N = at_ by omega]; exact IntWalk.i64_in _ (by omega)
    have HZ := Lib.hid (⟨hY2, hF2⟩ : _ ∧ _)
    have HQ2 := Lib.hid hq2
    clear hw2 hY2 hF2 hb2 hcap2 hrd2 hpr hpl hA3 c0 c1 f1 hqN hq2
    go_quiet ((go_at_call 62; exact Calls.quiet_of_same (HNU.out _)))
    go_wp2_with fail
    go_ret2
    rw [← HQ2.out]
    exact ⟨rfl, HZ.out.1.kept ((Fr.refl (fun _ => False) w2).drewN _) (fun _ _ _ e => e) HY.out.2, HZ.out.2.drewN _⟩
end Go.Proofs.Ytnibbopdjeagoaa.fl
