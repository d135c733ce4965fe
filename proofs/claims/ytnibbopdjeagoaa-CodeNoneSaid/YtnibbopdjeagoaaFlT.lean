/-
  The program's reader beside the document's.
-/
import Derived.Test.YtnibbopdjeagoaaFlR
namespace Go.Proofs.Ytnibbopdjeagoaa.fl
set_option maxRecDepth 100000
open Go.RowKit Go.Maps
set_option maxRecDepth 100000

section
variable {R : RP} {V : VP}
/-- The program's reader stands at p, the document's at q; X: other blocks of the law's, made behind both. -/
structure J (R : RP) (w0 : World) (ob lo yb : Nat) (Ao : Option Addr) (a : Addr) (b : List UInt8) (X : Nat → Prop) (w : World) (p q : Nat) : Prop where
  r : ∃ S, R w a b p S ∧ (∀ i, S i → ob ≤ i ∧ ¬ (lo ≤ i ∧ i ≤ yb) ∧ ¬ X i)
  y : YR w lo yb (bitsOf b) q
  o : Rd w ob Ao b
  fr : Fr (fun _ => False) w0 w
  h1 : w0.heap.size ≤ ob
  h2 : ob ≤ lo
  h3 : lo ≤ yb
  h4 : yb < w.heap.size
  x : ∀ i, X i → yb < i ∧ i < w.heap.size
variable {w0 w w' : World} {ob lo yb p q : Nat} {Ao : Option Addr} {a : Addr} {b : List UInt8} {X : Nat → Prop}
theorem J.still (HP : FlowP R V) (h : J R w0 ob lo yb Ao a b X w p q) (hF : Fr (fun _ => False) w w') : J R w0 ob lo yb Ao a b X w' p q := by
  obtain ⟨S, g1, g2⟩ := h.r
  have := hF.size
  exact ⟨⟨S, HP.r_keep g1 hF (fun _ _ e => e), g2⟩, h.y.kept hF (fun _ _ _ e => e) h.h3, h.o.still hF (by have := h.h2; have := h.h3; have := h.h4; omega), h.fr.trans hF (fun _ _ e => e), h.h1, h.h2, h.h3, Nat.lt_of_lt_of_le h.h4 hF.size, fun i hi => ⟨(h.x i hi).1, Nat.lt_of_lt_of_le (h.x i hi).2 hF.size⟩⟩
theorem J.aft {S : Nat → Prop} {p' : Nat} (h : J R w0 ob lo yb Ao a b X w p q) (hS : ∀ i, S i → ob ≤ i ∧ ¬ (lo ≤ i ∧ i ≤ yb) ∧ ¬ X i) (g : RAft R w a b S p' w') : J R w0 ob lo yb Ao a b X w' p' q := by
  obtain ⟨S', g1, g2, g3⟩ := g
  have h1 := h.h1
  have h2 := h.h2
  have h3 := h.h3
  have h4 := h.h4
  refine ⟨⟨S', g1, fun i hi => ?_⟩, h.y.kept g3 (fun i a1 a2 hs => (hS i hs).2.1 ⟨a1, a2⟩) h.h3, h.o.kept g3 (by omega) (fun i hi hs => by have := (hS i hs).1; omega), h.fr.trans g3 (fun i hi hs => by have := (hS i hs).1; omega), h1, h2, h3, Nat.lt_of_lt_of_le h4 g3.size, fun i hi => ⟨(h.x i hi).1, Nat.lt_of_lt_of_le (h.x i hi).2 g3.size⟩⟩
  rcases g2 i hi with hs | hs
  · exact hS i hs
  · exact ⟨by omega, fun hh => by omega, fun hx => by have := (h.x i hx).2; omega⟩
theorem J.yaft (HP : FlowP R V) {q' : Nat} (h : J R w0 ob lo yb Ao a b X w p q) (hy : YR w' lo yb (bitsOf b) q') (hF : Fr (fun i => i = yb) w w') : J R w0 ob lo yb Ao a b X w' p q' := by
  obtain ⟨S, g1, g2⟩ := h.r
  have h1 := h.h1
  have h2 := h.h2
  have h3 := h.h3
  have h4 := h.h4
  exact ⟨⟨S, HP.r_keep g1 hF (fun i hs e => (g2 i hs).2.1 ⟨by omega, by omega⟩), g2⟩, hy, h.o.kept hF (by omega) (fun i hi e => by omega), h.fr.trans hF (fun i hi e => by omega), h1, h2, h3, Nat.lt_of_lt_of_le h4 hF.size, fun i hi => ⟨(h.x i hi).1, Nat.lt_of_lt_of_le (h.x i hi).2 hF.size⟩⟩
theorem J.xaft (HP : FlowP R V) (h : J R w0 ob lo yb Ao a b X w p q) (hF : Fr X w w') : J R w0 ob lo yb Ao a b X w' p q := by
  obtain ⟨S, g1, g2⟩ := h.r
  have h1 := h.h1
  have h2 := h.h2
  have h3 := h.h3
  have h4 := h.h4
  exact ⟨⟨S, HP.r_keep g1 hF (fun i hs e => (g2 i hs).2.2 e), g2⟩, h.y.kept hF (fun i a1 a2 e => by have := (h.x i e).1; omega) h3, h.o.kept hF (by omega) (fun i hi e => by have := (h.x i e).1; omega), h.fr.trans hF (fun i hi e => by have := (h.x i e).1; omega), h1, h2, h3, Nat.lt_of_lt_of_le h4 hF.size, fun i hi => ⟨(h.x i hi).1, Nat.lt_of_lt_of_le (h.x i hi).2 hF.size⟩⟩
theorem J.less {Y : Nat → Prop} (h : J R w0 ob lo yb Ao a b X w p q) (hY : ∀ i, Y i → X i) : J R w0 ob lo yb Ao a b Y w p q := by
  obtain ⟨S, g1, g2⟩ := h.r
  exact ⟨⟨S, g1, fun i hs => ⟨(g2 i hs).1, (g2 i hs).2.1, fun e => (g2 i hs).2.2 (hY i e)⟩⟩, h.y, h.o, h.fr, h.h1, h.h2, h.h3, h.h4, fun i e => h.x i (hY i e)⟩
theorem J.alloc (HP : FlowP R V) (h : J R w0 ob lo yb Ao a b X w p q) (o : Obj) : J R w0 ob lo yb Ao a b (fun i => X i ∨ i = w.heap.size) (w.alloc o) p q := by
  have hj := h.still HP ((Fr.refl (fun _ => False) w).alloc o)
  obtain ⟨S, g1, g2⟩ := h.r
  have hs : (w.alloc o).heap.size = w.heap.size + 1 := World.size_alloc _ _
  have h4 := h.h4
  refine ⟨⟨S, HP.r_keep g1 ((Fr.refl (fun _ => False) w).alloc o) (fun _ _ e => e), fun i hi => ⟨(g2 i hi).1, (g2 i hi).2.1, fun e => ?_⟩⟩, hj.y, hj.o, hj.fr, hj.h1, hj.h2, hj.h3, hj.h4, fun i e => ?_⟩
  · rcases e with e | e
    · exact (g2 i hi).2.2 e
    · have := (HP.r_in g1).1 i hi
      omega
  · rcases e with e | e
    · have := h.x i e
      omega
    · omega
/-- What stays in the law's other blocks. -/
def Kp (X : Nat → Prop) (w w' : World) : Prop := ∀ i, X i → w'.heap[i]? = w.heap[i]?
theorem kp_of {S : Nat → Prop} (h : J R w0 ob lo yb Ao a b X w p q) (hF : Fr S w w') (hS : ∀ i, X i → ¬ S i) : Kp X w w' := fun i hi => hF.block i (h.x i hi).2 (hS i hi)
theorem J.take (HP : FlowP R V) (h : J R w0 ob lo yb Ao a b X w p q) (n : Int) (hn : Big n) : Calls Try.prog 46 #[.pointer (some a), .int .i64 n] w fun e w' => e = .returned (.tuple #[.int .i64 (takeV (bitsOf b) p n).1, .int .i64 (takeV (bitsOf b) p n).2]) ∧ Kp X w w' ∧ J R w0 ob lo yb Ao a b X w' (takeA (bitsOf b) p n) q := by
  obtain ⟨S, g1, g2⟩ := h.r
  exact (HP.take w a b p S n g1 hn).mono fun e w' g => ⟨g.1, by obtain ⟨S', k1, k2, k3⟩ := g.2; exact kp_of h k3 (fun i hx hs => (g2 i hs).2.2 hx), h.aft g2 g.2⟩
theorem J.at_ (HP : FlowP R V) (h : J R w0 ob lo yb Ao a b X w p q) : Calls Try.prog 26 #[.pointer (some a)] w fun e w' => e = .returned (.int .i64 (p : Int)) ∧ Calm w w' := by
  obtain ⟨S, g1, g2⟩ := h.r
  exact HP.at_ w a b p S g1
theorem J.left (HP : FlowP R V) (h : J R w0 ob lo yb Ao a b X w p q) : Calls Try.prog 32 #[.pointer (some a)] w fun e w' => e = .returned (.int .i64 ((8 * b.length - p : Nat) : Int)) ∧ Calm w w' := by
  obtain ⟨S, g1, g2⟩ := h.r
  exact HP.left w a b p S g1
theorem J.ytake (HP : FlowP R V) (h : J R w0 ob lo yb Ao a b X w p q) (n : Int) (hn : Big n) : Calls Try.prog 49 #[.pointer (some ⟨yb, 0, none⟩), .int .i64 n] w fun e w' => e = .returned (.tuple #[.int .i64 (takeV (bitsOf b) q n).1, .int .i64 (takeV (bitsOf b) q n).2]) ∧ Kp X w w' ∧ J R w0 ob lo yb Ao a b X w' p (takeA (bitsOf b) q n) :=
  (rtake w lo yb q (bitsOf b) n h.y h.h3 hn.2).mono fun _ _ g => ⟨g.1, kp_of h g.2.2 (fun i hx e => by have := (h.x i hx).1; omega), h.yaft HP g.2.1 g.2.2⟩
end
end Go.Proofs.Ytnibbopdjeagoaa.fl
