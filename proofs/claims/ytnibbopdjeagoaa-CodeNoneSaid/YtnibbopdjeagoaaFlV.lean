/-
  The program's writer beside the law's list of bits.
-/
import Derived.Test.YtnibbopdjeagoaaFlT
import Derived.Test.YtnibbopdjeagoaaFlH
namespace Go.Proofs.Ytnibbopdjeagoaa.fl
set_option maxRecDepth 100000
open Go.RowKit Go.Maps
set_option maxRecDepth 100000

section
variable {R : RP} {V : VP}
/-- The program's writer has the bits L; X: blocks of the law's. -/
structure JW (V : VP) (w0 : World) (a : Addr) (X : Nat → Prop) (w : World) (L : List Int) : Prop where
  v : ∃ S, V w a L S ∧ ∀ i, S i → w0.heap.size ≤ i ∧ ¬ X i
  fr : Fr (fun _ => False) w0 w
  x : ∀ i, X i → w0.heap.size ≤ i ∧ i < w.heap.size
variable {w0 w w' : World} {a : Addr} {X : Nat → Prop} {L : List Int}
theorem JW.xaft (HP : FlowP R V) (h : JW V w0 a X w L) (hF : Fr X w w') : JW V w0 a X w' L := by
  obtain ⟨S, g1, g2⟩ := h.v
  exact ⟨⟨S, HP.v_keep g1 hF (fun i hs e => (g2 i hs).2 e), g2⟩, h.fr.trans hF (fun i hi e => by have := (h.x i e).1; omega), fun i hi => ⟨(h.x i hi).1, Nat.lt_of_lt_of_le (h.x i hi).2 hF.size⟩⟩
theorem JW.still (HP : FlowP R V) (h : JW V w0 a X w L) (hF : Fr (fun _ => False) w w') : JW V w0 a X w' L := h.xaft HP (hF.mono (fun _ _ e => e.elim))
theorem JW.less {Y : Nat → Prop} (h : JW V w0 a X w L) (hY : ∀ i, Y i → X i) : JW V w0 a Y w L := by
  obtain ⟨S, g1, g2⟩ := h.v
  exact ⟨⟨S, g1, fun i hs => ⟨(g2 i hs).1, fun e => (g2 i hs).2 (hY i e)⟩⟩, h.fr, fun i e => h.x i (hY i e)⟩
/-- New blocks are the law's, too. -/
theorem JW.fresh (HP : FlowP R V) (h : JW V w0 a X w L) (hF : Fr X w w') : JW V w0 a (fun i => X i ∨ (w.heap.size ≤ i ∧ i < w'.heap.size)) w' L := by
  have hj := h.xaft HP hF
  obtain ⟨S, g1, g2⟩ := h.v
  refine ⟨⟨S, HP.v_keep g1 hF (fun i hs e => (g2 i hs).2 e), fun i hs => ⟨(g2 i hs).1, fun e => ?_⟩⟩, hj.fr, fun i e => ?_⟩
  · rcases e with e | e
    · exact (g2 i hs).2 e
    · have := (HP.v_in g1).1 i hs
      omega
  · rcases e with e | e
    · exact hj.x i e
    · exact ⟨Nat.le_trans h.fr.size e.1, e.2⟩
theorem JW.aft {S : Nat → Prop} {L' : List Int} (h : JW V w0 a X w L) (hS : ∀ i, S i → w0.heap.size ≤ i ∧ ¬ X i) (g : VAft V w a S L' w') : Kp X w w' ∧ JW V w0 a X w' L' := by
  obtain ⟨S', g1, g2, g3⟩ := g
  refine ⟨fun i hi => g3.block i (h.x i hi).2 (fun hs => (hS i hs).2 hi), ⟨⟨S', g1, fun i hi => ?_⟩, h.fr.trans g3 (fun i hi hs => by have := (hS i hs).1; omega), fun i hi => ⟨(h.x i hi).1, Nat.lt_of_lt_of_le (h.x i hi).2 g3.size⟩⟩⟩
  rcases g2 i hi with hs | hs
  · exact hS i hs
  · exact ⟨Nat.le_trans h.fr.size hs, fun e => by have := (h.x i e).2; omega⟩
theorem JW.code (HP : FlowP R V) (h : JW V w0 a X w L) (n k : Int) (hL : L.length ≤ 1000000) (hn : Big n) (hk : Big k) : Calls Try.prog 52 #[.pointer (some a), .int .i64 n, .int .i64 k] w fun e w' => e = .returned (.int .i64 (putZ n k)) ∧ Kp X w w' ∧ JW V w0 a X w' (codeL L n k) := by
  obtain ⟨S, g1, g2⟩ := h.v
  exact (HP.code w a L S n k g1 hL hn hk).mono fun _ _ g => ⟨g.1, h.aft g2 g.2⟩
theorem JW.len (HP : FlowP R V) (h : JW V w0 a X w L) : Calls Try.prog 31 #[.pointer (some a)] w fun e w' => e = .returned (.int .i64 (L.length : Int)) ∧ Calm w w' := by
  obtain ⟨S, g1, g2⟩ := h.v
  exact HP.len w a L S g1
theorem JW.all (HP : FlowP R V) (h : JW V w0 a X w L) (hL : L.length ≤ 1000000) : Calls Try.prog 30 #[.pointer (some a)] w fun e w' => ∃ A cap, e = .returned (.slice A (packI L).length cap) ∧ Own w' w.heap.size (.slice A (packI L).length cap) (packI L) ∧ Kp X w w' ∧ JW V w0 a (fun i => X i ∨ (Value.slice A (packI L).length cap).ownBlock = some i) w' L := by
  obtain ⟨S, g1, g2⟩ := h.v
  refine (HP.all w a L S g1 hL).mono fun _ _ g => ?_
  obtain ⟨A, cap, S', rfl, ho, k1, k2, k3⟩ := g
  obtain ⟨hk, hj⟩ := h.aft g2 ⟨S', k1, fun i hi => (k2 i hi).1, k3⟩
  refine ⟨A, cap, rfl, ho, hk, ⟨⟨S', k1, fun i hi => ?_⟩, hj.fr, fun i hi => ?_⟩⟩
  · rcases (k2 i hi).1 with hs | hs
    · exact ⟨(g2 i hs).1, fun e => e.elim (g2 i hs).2 (k2 i hi).2⟩
    · exact ⟨Nat.le_trans h.fr.size hs, fun e => e.elim (fun e => by have := (h.x i e).2; omega) (k2 i hi).2⟩
  · rcases hi with e | e
    · exact hj.x i e
    · have hl := World.ownsRow.lt ho i e
      have := h.fr.size
      omega
theorem JW.bits (HP : FlowP R V) (h : JW V w0 a X w L) : AllBit L := by
  obtain ⟨S, g1, _⟩ := h.v
  exact (HP.v_in g1).2
theorem ownI_kp {B : Nat} {v : Value} {l : List Int} (h : OwnI w B v l) (hk : ∀ g, v.ownBlock = some g → w'.heap[g]? = w.heap[g]?) : OwnI w' B v l := by
  obtain ⟨h1, h2⟩ := h
  refine ⟨h1, ?_⟩
  rcases h2 with h2 | ⟨g, cap, cur, hv, hg, hh, r⟩
  · exact Or.inl h2
  · exact Or.inr ⟨g, cap, cur, hv, hg, (hk g (by rw [hv]; rfl)).trans hh, r⟩
end
end Go.Proofs.Ytnibbopdjeagoaa.fl
