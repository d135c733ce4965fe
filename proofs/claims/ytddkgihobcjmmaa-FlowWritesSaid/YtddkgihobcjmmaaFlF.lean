/-
  The document's reader: Peek, Align, Bytes.
-/
import Derived.Test.YtddkgihobcjmmaaFlE
import Derived.StillTailTactics
namespace Go.Proofs.Ytddkgihobcjmmaa.fl
set_option maxRecDepth 100000
open Go.RowKit Go.Maps
set_option maxRecDepth 100000

def peekV (L : List Int) (at_ : Nat) (n : Int) : Int := if n < 0 ∨ 24 < n then 0 else numI ((L.drop at_).take n.toNat)

set_option maxHeartbeats 4000000 in
theorem rpeek (w : World) (lo yb at_ : Nat) (L : List Int) (n : Int) (h : YR w lo yb L at_) (hn : n ≤ 9223372036854775807) :
    Calls Try.prog 15 #[.pointer (some ⟨yb, 0, none⟩), .int .i64 n] w fun e w' => e = .returned (.int .i64 (peekV L at_ n)) ∧ Calm w w' := by
  obtain ⟨A, cap, hb, hcap, hrd⟩ := id h.cell
  have hyb := (Array.getElem?_eq_some_iff.1 hb).1
  have c0 : w.cell? ⟨yb, 0, none⟩ = some (.slice A L.length cap) := (cellAt hb 0).trans rfl
  have c1 : w.cell? ⟨yb, 1, none⟩ = some (.int .i64 (at_ : Int)) := (cellAt hb 1).trans rfl
  have HY := Lib.hid (⟨h, hrd, hcap, hyb⟩ : _ ∧ _ ∧ _ ∧ _)
  obtain ⟨q, hq⟩ : ∃ q, q = L.length := ⟨_, rfl⟩
  have HQ := Lib.hid hq
  have hq8 : q ≤ 100000000 := by rw [hq]; exact h.len
  have haq : at_ ≤ q := by rw [hq]; exact h.le
  have hqc : q ≤ cap := by rw [hq]; exact hcap
  rw [← hq] at c0
  clear hb hrd h hcap hq hyb
  by_cases h1 : n < 0
  · have HV := Lib.hid (show peekV L at_ n = 0 from if_pos (Or.inl h1))
    rw [HV.out]
    clear c0 c1 hqc haq hq8
    go_enter Try.func15, Try.ntmps15
    go_wp2_with fail
    go_ret
    exact ⟨rfl, Calm.refl _⟩
  by_cases h2 : 24 < n
  · have HV := Lib.hid (show peekV L at_ n = 0 from if_pos (Or.inr h2))
    rw [HV.out]
    clear c0 c1 hqc haq hq8
    go_enter Try.func15, Try.ntmps15
    go_wp2_with fail
    go_ret
    exact ⟨rfl, Calm.refl _⟩
  obtain ⟨N, rfl⟩ : ∃ N : Nat, n = N := ⟨n.toNat, by omega⟩
  have hor : ¬ ((N : Int) < 0 ∨ 24 < (N : Int)) := by omega
  have HV := Lib.hid (by unfold peekV; rw [if_neg hor]; rfl : peekV L at_ (N : Int) = numI ((L.drop at_).take N))
  rw [HV.out]
  obtain ⟨u, hu⟩ : ∃ u, u = numI ((L.drop at_).take N) := ⟨_, rfl⟩
  have HU := Lib.hid hu
  rw [← hu]
  have hN : N ≤ 24 := by omega
  obtain ⟨b, hbe⟩ : ∃ b, b = min (at_ + N) q := ⟨_, rfl⟩
  have hb1 : at_ ≤ b := by omega
  have hb2 : b ≤ q := by omega
  have hb3 : b - at_ ≤ 24 := by omega
  have hsl : ∀ wx : World, (Instr.slice 28 (.slice A q cap) (some (.int .i64 (at_ : Int))) (some (.int .i64 (b : Int))) none).run Try.prog wx = .ok (.slice (if cap = at_ then A else A.map (·.add at_)) (b - at_) (cap - at_)) wx := fun wx => cutI wx A q cap at_ b hb1 (by omega)
  have hpr := part_rd HY.out.2.1 HY.out.1.bits HY.out.2.2.1 at_ b
  have hpl : ((L.drop at_).take (b - at_)).length = b - at_ := by rw [List.length_take, List.length_drop, ← HQ.out]; omega
  have hue : u = numI ((L.drop at_).take (b - at_)) := by
    rw [HU.out]
    rcases Nat.lt_or_ge q (at_ + N) with h | h
    · rw [List.take_of_length_le (by rw [List.length_drop, ← HQ.out]; omega), List.take_of_length_le (by rw [List.length_drop, ← HQ.out]; omega)]
    · rw [show b - at_ = N by omega]
  obtain ⟨A3, hA3⟩ : ∃ A3, A3 = (if cap = at_ then A else A.map (·.add at_)) := ⟨_, rfl⟩
  rw [← hA3] at hsl hpr
  obtain ⟨m, hm⟩ : ∃ m, m = b - at_ := ⟨_, rfl⟩
  rw [← hm] at hsl hpr hpl hue hb3
  have HNU := Lib.hid (fun (d : Nat) => quiet_id (rnumber (w.drewN d) A3 (cap - at_) yb ((L.drop at_).take m) (hpr.still ((Fr.refl (fun _ => False) w).drewN d) (Nat.le_of_lt HY.out.2.2.2)) (by rw [hpl]; exact hb3) (HY.out.1.bits.sub ((List.take_sublist _ _).trans (List.drop_sublist _ _)))))
  rw [hpl, ← hue] at HNU
  rcases Nat.lt_or_ge q (at_ + N) with h4 | h4
  · have hbq : b = q := by omega
    rw [hbq] at hsl
    have h4i : (q : Int) < (at_ : Int) + N := by omega
    clear hor hu h1 h2 hpr hpl hue hA3 hm hbe hbq hb1 hb2 h4
    go_enter Try.func15, Try.ntmps15
    go_wp2_with fail
    go_quiet ((go_at_call 38; exact Calls.quiet_of_same (HNU.out _)))
    go_wp2_with fail
    go_ret
    exact ⟨rfl, ⟨_, rfl⟩⟩
  · have hbq : (b : Int) = (at_ : Int) + N := by omega
    rw [hbq] at hsl
    have h4i : (at_ : Int) + N ≤ q := by omega
    clear hor hu h1 h2 hpr hpl hue hA3 hm hbe hbq hb1 hb2 h4
    go_enter Try.func15, Try.ntmps15
    go_wp2_with fail
    go_quiet ((go_at_call 38; exact Calls.quiet_of_same (HNU.out _)))
    go_wp2_with fail
    go_ret
    exact ⟨rfl, ⟨_, rfl⟩⟩

def alignA (at_ : Nat) : Nat := 8 * ((at_ + 7) / 8)
def atOf (w : World) (yb : Nat) : Nat := match w.cell? ⟨yb, 1, none⟩ with
  | some (.int _ a) => a.toNat
  | _ => 0
theorem atOf_of {w : World} {lo yb a : Nat} {L : List Int} (h : YR w lo yb L a) : atOf w yb = a := by
  obtain ⟨A, cap, hb, _, _⟩ := h.cell
  have c1 : w.cell? ⟨yb, 1, none⟩ = some (.int .i64 (a : Int)) := (cellAt hb 1).trans rfl
  unfold atOf
  rw [c1]
  rfl
set_option maxHeartbeats 2000000 in
theorem ralign (w : World) (lo yb at_ : Nat) (L : List Int) (h : YR w lo yb L at_) (hlo : lo ≤ yb) (h8 : L.length % 8 = 0) :
    Calls Try.prog 18 #[.pointer (some ⟨yb, 0, none⟩)] w fun e w' => (∃ v, e = .returned v) ∧ YR w' lo yb L (alignA at_) ∧ Fr (fun i => i = yb) w w' := by
  have HL := Lib.hid (⟨h8, hlo, h.le, h.len⟩ : _ ∧ _ ∧ _ ∧ _)
  have H0 := Lib.hid h
  clear h h8 hlo
  go_enter Try.func18, Try.ntmps18
  go_wp2_with fail
  go_loopw [] (fun wr => ∃ a : Nat, Hid (at_ ≤ a ∧ a ≤ alignA at_ ∧ YR wr lo yb L a ∧ Fr (fun i => i = yb) w wr)) (fun wr => alignA at_ - atOf wr yb)
  case atStart => exact ⟨at_, (show _ ∧ _ from ⟨Nat.le_refl _, by unfold alignA; omega, H0.out, Fr.refl _ _⟩)⟩
  case round =>
    obtain ⟨a, HK⟩ := hrel
    clear H0
    obtain ⟨A, cap, hb, hcap, hrd⟩ := HK.out.2.2.1.cell
    have c1 : wr.cell? ⟨yb, 1, none⟩ = some (.int .i64 (a : Int)) := (cellAt hb 1).trans rfl
    have f1 : wr.frozen? ⟨yb, 1, none⟩ = false := freeAt hb 1
    have ha8 : a ≤ 100000000 := Nat.le_trans HK.out.2.2.1.le HL.out.2.2.2
    have hmod : ((a : Int)).tmod 8 = ((a % 8 : Nat) : Int) := rfl
    obtain ⟨r, hr⟩ : ∃ r, r = a % 8 := ⟨_, rfl⟩
    rw [← hr] at hmod
    clear hb hcap hrd
    by_cases h0 : r = 0
    · subst h0
      have HE := Lib.hid (show a = alignA at_ by
        have h1 := HK.out.1
        have h2 := HK.out.2.1
        unfold alignA at *
        omega)
      clear hr
      go_wp2_with fail
      go_end0
      exact ⟨⟨_, rfl⟩, by rw [← HE.out]; exact HK.out.2.2.1, HK.out.2.2.2⟩
    · have HN := Lib.hid (show a + 1 ≤ alignA at_ by
        have h1 := HK.out.1
        have h2 := HK.out.2.1
        unfold alignA at *
        omega)
      have HM := Lib.hid (show alignA at_ ≤ L.length by
        have h1 := HL.out.1
        have h2 := HL.out.2.2.1
        unfold alignA
        omega)
      have hr0 : (((r : Nat) : Int) != 0) = true := by rw [bne_iff_ne]; omega
      have hA : Hid (atOf wr yb = a) := Lib.hid (by unfold atOf; rw [c1]; rfl)
      clear hr h0
      go_wp2_with fail
      have hm : YR (wr.setCell ⟨yb, 1, none⟩ (.int .i64 ((a : Int) + 1))) lo yb L (a + 1) := HK.out.2.2.1.move (a + 1) (Nat.le_trans HN.out HM.out)
      refine ⟨⟨a + 1, ⟨Nat.le_succ_of_le HK.out.1, HN.out, hm, HK.out.2.2.2.setCell (p := ⟨yb, 1, none⟩) (Or.inl rfl) _⟩⟩, ?_⟩
      rw [atOf_of hm, hA.out]
      have := HN.out
      omega

def bytesV (L : List Int) (at_ : Nat) (n : Int) : List UInt8 × Int := if n < 0 ∨ at_ % 8 ≠ 0 then ([], 2) else if (((L.length - at_) / 8 : Nat) : Int) < n then ([], 7) else (packI ((L.drop at_).take (8 * n.toNat)), 0)
def bytesA (L : List Int) (at_ : Nat) (n : Int) : Nat := if n < 0 ∨ at_ % 8 ≠ 0 then at_ else if (((L.length - at_) / 8 : Nat) : Int) < n then at_ else at_ + 8 * n.toNat

/-- What Bytes answers. -/
def AnsY (w : World) (lo yb : Nat) (L : List Int) (r : List UInt8 × Int) (a : Nat) (e : Ending) (w' : World) : Prop :=
  ∃ A' cap', e = .returned (.tuple #[.slice A' r.1.length cap', .int .i64 r.2]) ∧ Rd w' w'.heap.size A' r.1 ∧ YR w' lo yb L a ∧ Fr (fun i => i = yb) w w'
theorem RdI.up {w : World} {B B' : Nat} {A : Option Addr} {l : List Int} (h : RdI w B A l) (hB : B ≤ B') : RdI w B' A l := ⟨fun hne => by
  obtain ⟨blk, off, e, h2, hc⟩ := h.1 hne
  exact ⟨blk, off, e, by omega, hc⟩, h.2⟩
set_option maxHeartbeats 4000000 in
theorem rbytesR (w : World) (lo yb at_ : Nat) (L : List Int) (n : Int) (h : YR w lo yb L at_) (hlo : lo ≤ yb) (hn : n ≤ 9223372036854775807) :
    Calls Try.prog 20 #[.pointer (some ⟨yb, 0, none⟩), .int .i64 n] w (AnsY w lo yb L (bytesV L at_ n) (bytesA L at_ n)) := by
  obtain ⟨A, cap, hb, hcap, hrd⟩ := id h.cell
  have c0 : w.cell? ⟨yb, 0, none⟩ = some (.slice A L.length cap) := (cellAt hb 0).trans rfl
  have c1 : w.cell? ⟨yb, 1, none⟩ = some (.int .i64 (at_ : Int)) := (cellAt hb 1).trans rfl
  have f1 : w.frozen? ⟨yb, 1, none⟩ = false := freeAt hb 1
  have HY := Lib.hid (⟨h, hlo⟩ : _ ∧ _)
  obtain ⟨q, hq⟩ : ∃ q, q = L.length := ⟨_, rfl⟩
  have HQ := Lib.hid hq
  have hq8 : q ≤ 100000000 := by rw [hq]; exact h.len
  have haq : at_ ≤ q := by rw [hq]; exact h.le
  have hqc : q ≤ cap := by rw [hq]; exact hcap
  rw [← hq] at c0
  clear hb hrd h hcap hq
  by_cases h1 : n < 0
  · have HV := Lib.hid (show bytesV L at_ n = ([], 2) ∧ bytesA L at_ n = at_ from ⟨if_pos (Or.inl h1), if_pos (Or.inl h1)⟩)
    rw [HV.out.1, HV.out.2]
    clear c0 c1 f1 hqc haq hq8
    go_enter Try.func20, Try.ntmps20
    go_wp2_with fail
    go_ret2
    exact ⟨none, 0, rfl, Rd.nil _ _ _, HY.out.1, Fr.refl _ _⟩
  have hmod : ((at_ : Int)).tmod 8 = ((at_ % 8 : Nat) : Int) := rfl
  obtain ⟨r, hr⟩ : ∃ r, r = at_ % 8 := ⟨_, rfl⟩
  rw [← hr] at hmod
  have HR := Lib.hid hr
  clear hr
  by_cases h2 : r = 0
  case neg =>
    have hor : n < 0 ∨ at_ % 8 ≠ 0 := Or.inr (by rw [← HR.out]; exact h2)
    have HV := Lib.hid (show bytesV L at_ n = ([], 2) ∧ bytesA L at_ n = at_ from ⟨if_pos hor, if_pos hor⟩)
    rw [HV.out.1, HV.out.2]
    have hr0 : (((r : Nat) : Int) != 0) = true := by rw [bne_iff_ne]; omega
    clear c0 f1 hqc haq hq8 hor h2
    go_enter Try.func20, Try.ntmps20
    go_wp2_with fail
    go_ret2
    exact ⟨none, 0, rfl, Rd.nil _ _ _, HY.out.1, Fr.refl _ _⟩
  case pos =>
    subst h2
    obtain ⟨N, rfl⟩ : ∃ N : Nat, n = N := ⟨n.toNat, by omega⟩
    have hor : ¬ ((N : Int) < 0 ∨ at_ % 8 ≠ 0) := by have := HR.out; omega
    obtain ⟨qd, hqd⟩ : ∃ qd, qd = (q - at_) / 8 := ⟨_, rfl⟩
    have hdiv : ((q : Int) - (at_ : Int)).tdiv 8 = (qd : Int) := by rw [show (q : Int) - (at_ : Int) = ((q - at_ : Nat) : Int) by omega, hqd]; rfl
    have HQD := Lib.hid (show ((L.length - at_) / 8 : Nat) = qd by rw [← HQ.out, hqd])
    have hqd8 : 8 * qd ≤ q - at_ := by omega
    clear hqd
    by_cases h3 : (qd : Int) < N
    · have HV := Lib.hid (show bytesV L at_ (N : Int) = ([], 7) ∧ bytesA L at_ (N : Int) = at_ from ⟨by unfold bytesV; rw [if_neg hor, HQD.out, if_pos h3], by unfold bytesA; rw [if_neg hor, HQD.out, if_pos h3]⟩)
      rw [HV.out.1, HV.out.2]
      clear hor f1
      go_enter Try.func20, Try.ntmps20
      go_wp2_with fail
      go_quiet (fail)
      go_wp2_with fail
      go_ret2
      exact ⟨none, 0, rfl, Rd.nil _ _ _, HY.out.1.kept ((Fr.refl (fun _ => False) w).drewN _) (fun _ _ _ e => e) HY.out.2, (Fr.refl _ w).drewN _⟩
    · have HV := Lib.hid (show bytesV L at_ (N : Int) = (packI ((L.drop at_).take (8 * N)), 0) ∧ bytesA L at_ (N : Int) = at_ + 8 * N from ⟨by unfold bytesV; rw [if_neg hor, HQD.out, if_neg h3]; rfl, by unfold bytesA; rw [if_neg hor, HQD.out, if_neg h3]; rfl⟩)
      rw [HV.out.1, HV.out.2]
      have hN : N ≤ qd := by omega
      clear hor h1
      go_enter Try.func20, Try.ntmps20
      go_wp2_with fail
      go_quiet (fail)
      go_wp2_with fail
      obtain ⟨q2, hq2⟩ : ∃ q2, q2 = at_ + 8 * N := ⟨_, rfl⟩
      have hY2 := (HY.out.1.kept ((Fr.refl (fun _ => False) w).drewN nq) (fun _ _ _ e => e) HY.out.2).move q2 (by rw [hq2, ← HQ.out]; omega)
      have hF2 : Fr (fun i => i = yb) w ((w.drewN nq).setCell ⟨yb, 1, none⟩ (.int .i64 (q2 : Int))) := ((Fr.refl (fun i => i = yb) w).drewN nq).setCell (p := ⟨yb, 1, none⟩) (Or.inl rfl) _
      rw [show (at_ : Int) + 8 * (N : Int) = (q2 : Int) by omega]
      obtain ⟨w2, hw2⟩ : ∃ w2, w2 = (w.drewN nq).setCell ⟨yb, 1, none⟩ (.int .i64 (q2 : Int)) := ⟨_, rfl⟩
      rw [← hw2] at hY2 hF2 ⊢
      obtain ⟨A2, cap2, hb2, hcap2, hrd2⟩ := id hY2.cell
      have hyb2 := (Array.getElem?_eq_some_iff.1 hb2).1
      have d0 : w2.cell? ⟨yb, 0, none⟩ = some (.slice A2 L.length cap2) := (cellAt hb2 0).trans rfl
      have d1 : w2.cell? ⟨yb, 1, none⟩ = some (.int .i64 (q2 : Int)) := (cellAt hb2 1).trans rfl
      rw [← HQ.out] at d0
      have hsl : ∀ wx : World, (Instr.slice 28 (.slice A2 q cap2) (some (.int .i64 (at_ : Int))) (some (.int .i64 (q2 : Int))) none).run Try.prog wx = .ok (.slice (if cap2 = at_ then A2 else A2.map (·.add at_)) (q2 - at_) (cap2 - at_)) wx := fun wx => cutI wx A2 q cap2 at_ q2 (by omega) (by rw [← HQ.out] at hcap2; omega)
      have hpr := part_rd hrd2 HY.out.1.bits hcap2 at_ q2
      have hpl : ((L.drop at_).take (q2 - at_)).length = q2 - at_ := by rw [List.length_take, List.length_drop, ← HQ.out]; omega
      obtain ⟨A3, hA3⟩ : ∃ A3, A3 = (if cap2 = at_ then A2 else A2.map (·.add at_)) := ⟨_, rfl⟩
      rw [← hA3] at hsl hpr
      have hqN : q2 - at_ = 8 * N := by omega
      rw [hqN] at hsl hpr hpl
      obtain ⟨m, hm⟩ : ∃ m, m = 8 * N := ⟨_, rfl⟩
      rw [← hm] at hsl hpr hpl ⊢
      have HPK := Lib.hid (rpack w2.drew A3 (cap2 - at_) ((L.drop at_).take m) (RdI.up (hpr.still ((Fr.refl (fun _ => False) w2).drew) (Nat.le_of_lt hyb2)) (Nat.le_of_lt hyb2)) (by rw [hpl]; omega) (HY.out.1.bits.sub ((List.take_sublist _ _).trans (List.drop_sublist _ _))))
      rw [hpl] at HPK
      have hwr : IntKind.i64.wrap ((q2 : Int) - 8 * (N : Int)) = at_ := by rw [show (q2 : Int) - 8 * (N : Int) = at_ by omega]; exact IntWalk.i64_in _ (by omega)
      have HZ := Lib.hid (⟨hY2, hF2⟩ : _ ∧ _)
      have HQ2 := Lib.hid (⟨hq2, hm⟩ : _ ∧ _)
      obtain ⟨pb, hpb⟩ : ∃ pb, pb = packI ((L.drop at_).take m) := ⟨_, rfl⟩
      rw [← hpb] at HPK
      have HPB := Lib.hid hpb
      clear hpb
      have hNb : N ≤ 12500000 := by omega
      have hw8 : IntKind.i64.wrap (8 * (N : Int)) = 8 * (N : Int) := IntWalk.i64_in _ (by omega)
      clear hw2 hY2 hF2 hb2 hcap2 hrd2 hpr hpl hA3 c0 c1 f1 hqN hq2 hm hmod hdiv h3 hqd8 hN
      go_still_tail 16, (by kernel_rfl)
      change wpList _ _ _ _ _ w2.drew
      go_wp2_with fail
      refine HPK.out.mono ?_
      rintro e w3 ⟨A9, c9, rfl, ho9, hF9⟩
      have HF9 := Lib.hid (⟨ho9, (Fr.refl (fun _ => False) w2).drew.trans hF9 (fun _ _ e => e)⟩ : _ ∧ _)
      clear ho9 hF9
      go_wp2
      go_ret2
      obtain ⟨rfl, rfl⟩ := HQ2.out
      obtain rfl := HPB.out
      exact ⟨A9, c9, rfl, Own.rd HF9.out.1, HZ.out.1.kept HF9.out.2 (fun _ _ _ e => e) HY.out.2, HZ.out.2.trans (HF9.out.2.mono (fun _ _ e => e.elim)) (fun _ _ e => e)⟩
end Go.Proofs.Ytddkgihobcjmmaa.fl
