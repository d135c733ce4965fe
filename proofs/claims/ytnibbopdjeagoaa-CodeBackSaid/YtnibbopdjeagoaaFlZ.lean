/-
  The program's readers and writers, all of their contracts.
-/
import Derived.Test.YtnibbopdjeagoaaFmD
namespace Go.Proofs.Ytnibbopdjeagoaa.fl
set_option maxRecDepth 100000
open Go.RowKit Go.Maps

theorem raft {w w' : World} {g cap p : Nat} {A : Option Addr} {b : List UInt8} {S : Nat → Prop} (h : RdA w g A cap b S p w') : RAft PR w ⟨g, 0, none⟩ b S p w' := ⟨S, ⟨g, A, cap, rfl, h.1⟩, fun _ e => Or.inl e, h.2⟩
theorem vaft {w w' : World} {g : Nat} {S : Nat → Prop} {L : List Int} (h : WrA w g S L w') (hb : AllBit L) : VAft PV w ⟨g, 0, none⟩ S L w' := by
  obtain ⟨A, cap, T, h1, h2, h3⟩ := h
  exact ⟨T, ⟨g, A, cap, rfl, h1, hb⟩, h2, h3⟩
theorem putL'_bits {L : List Int} (h : AllBit L) (n k : Int) : AllBit (putL' L n k) := by
  unfold putL'
  by_cases e : lowB n k = true
  · rw [if_pos e]; exact h.append (lowL_bits n k)
  · rw [if_neg e]; exact h
theorem codeL_bits {L : List Int} (h : AllBit L) (n k : Int) : AllBit (codeL L n k) := by
  unfold codeL
  by_cases e : lowB n k = true
  · rw [if_pos e]; exact h.append (fun y hy => lowL_bits n k y (List.mem_reverse.1 hy))
  · rw [if_neg e]; exact h
theorem wbL_bits {L : List Int} (h : AllBit L) (d : List UInt8) : AllBit (wbL L d) := by
  unfold wbL
  by_cases e : L.length % 8 = 0
  · rw [if_pos e]; exact h.append (bitsOf_bits d)
  · rw [if_neg e]; exact h
theorem flow_all : FlowP PR PV where
  r_keep := fun ⟨g, A, cap, e, h⟩ hF hS => ⟨g, A, cap, e, h.keep hF hS⟩
  r_in := fun ⟨_, _, _, _, h⟩ => ⟨h.low, h.le⟩
  new := fun w A cap b hr hA _ hl => pnew w A cap b hr hA hl
  take := fun w a b p S n ⟨g, A, cap, e, h⟩ hn => by subst e; exact (ptake h n hn).mono fun _ _ ⟨e, k⟩ => ⟨e, raft k⟩
  at_ := fun w a b p S ⟨g, A, cap, e, h⟩ => by subst e; exact (pat h).mono fun _ _ ⟨e, k⟩ => ⟨e, by subst k; exact Calm.refl _⟩
  left := fun w a b p S ⟨g, A, cap, e, h⟩ => by subst e; exact pLeft h
  v_keep := fun ⟨g, A, cap, e, h, hb⟩ hF hS => ⟨g, A, cap, e, h.keep hF hS, hb⟩
  v_in := fun ⟨_, _, _, _, h, hb⟩ => ⟨h.low, hb⟩
  write := pwrite
  code := fun w a L S n k ⟨g, A, cap, e, h, hb⟩ hl _ hk => by subst e; exact (wcode h hb hl n k hk).mono fun _ _ ⟨e, r⟩ => ⟨e, vaft r (codeL_bits hb n k)⟩
  all := fun w a L S ⟨g, A, cap, e, h, hb⟩ hl => by
    subst e
    refine (wall h (by rw [packI_length]; omega)).mono fun _ w' ⟨A', cap', e, ho, hF⟩ => ⟨A', cap', S, e, ho, ⟨g, A, cap, rfl, h.still hF, hb⟩, fun i hi => ⟨Or.inl hi, fun hq => ?_⟩, hF.mono (fun _ _ e => e.elim)⟩
    rcases ho.2 with ⟨e2, _⟩ | ⟨q, c, cur, e2, hge, _⟩
    · rw [e2] at hq; cases hq
    · rw [e2] at hq
      cases hq
      exact absurd (h.low _ hi) (Nat.not_lt.2 hge)
  len := fun w a L S ⟨g, A, cap, e, h, _⟩ => by subst e; exact (wlen h).mono fun _ _ ⟨e, k⟩ => ⟨e, by subst k; exact Calm.refl _⟩
end Go.Proofs.Ytnibbopdjeagoaa.fl
