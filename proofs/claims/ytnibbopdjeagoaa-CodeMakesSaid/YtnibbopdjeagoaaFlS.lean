/-
  FlowPieces over what is asked of the program's readers.
-/
import Derived.Test.YtnibbopdjeagoaaFlR
namespace Go.Proofs.Ytnibbopdjeagoaa.fl
set_option maxRecDepth 100000
open Go.RowKit Go.Maps
set_option maxRecDepth 100000

section
variable {R : RP} {V : VP}
/-- Two readers that were made behind w0. -/
def RR (R : RP) (w0 w : World) (a1 : Addr) (b1 : List UInt8) (p1 : Nat) (a2 : Addr) (b2 : List UInt8) (p2 : Nat) : Prop :=
  ∃ S T, R w a1 b1 p1 S ∧ R w a2 b2 p2 T ∧ (∀ i, S i → w0.heap.size ≤ i ∧ ¬ T i) ∧ (∀ i, T i → w0.heap.size ≤ i) ∧ Fr (fun _ => False) w0 w
theorem RR.swap {w0 w : World} {a1 : Addr} {b1 : List UInt8} {p1 : Nat} {a2 : Addr} {b2 : List UInt8} {p2 : Nat} (h : RR R w0 w a1 b1 p1 a2 b2 p2) : RR R w0 w a2 b2 p2 a1 b1 p1 := by
  obtain ⟨S, T, h1, h2, h3, h4, h5⟩ := h
  exact ⟨T, S, h2, h1, fun i hi => ⟨h4 i hi, fun hs => (h3 i hs).2 hi⟩, fun i hi => (h3 i hi).1, h5⟩
theorem RR.still (HP : FlowP R V) {w0 w w' : World} {a1 : Addr} {b1 : List UInt8} {p1 : Nat} {a2 : Addr} {b2 : List UInt8} {p2 : Nat} (h : RR R w0 w a1 b1 p1 a2 b2 p2) (hF : Fr (fun _ => False) w w') : RR R w0 w' a1 b1 p1 a2 b2 p2 := by
  obtain ⟨S, T, h1, h2, h3, h4, h5⟩ := h
  exact ⟨S, T, HP.r_keep h1 hF (fun _ _ e => e), HP.r_keep h2 hF (fun _ _ e => e), h3, h4, h5.trans hF (fun _ _ e => e)⟩
theorem RR.aft (HP : FlowP R V) {w0 w w' : World} {a1 : Addr} {b1 : List UInt8} {p' : Nat} {a2 : Addr} {b2 : List UInt8} {p2 : Nat} {S T : Nat → Prop} (h2 : R w a2 b2 p2 T) (h3 : ∀ i, S i → w0.heap.size ≤ i ∧ ¬ T i) (h4 : ∀ i, T i → w0.heap.size ≤ i) (h5 : Fr (fun _ => False) w0 w) (h : RAft R w a1 b1 S p' w') : RR R w0 w' a1 b1 p' a2 b2 p2 := by
  obtain ⟨S', g1, g2, g3⟩ := h
  refine ⟨S', T, g1, HP.r_keep h2 g3 (fun i ht hs => (h3 i hs).2 ht), fun i hi => ?_, h4, h5.trans g3 (fun i hi hs => by have := (h3 i hs).1; omega)⟩
  rcases g2 i hi with hs | hs
  · exact h3 i hs
  · exact ⟨Nat.le_trans h5.size hs, fun ht => by have := (HP.r_in h2).1 i ht; omega⟩
theorem RR.take (HP : FlowP R V) {w0 w : World} {a1 : Addr} {b1 : List UInt8} {p1 : Nat} {a2 : Addr} {b2 : List UInt8} {p2 : Nat} (h : RR R w0 w a1 b1 p1 a2 b2 p2) (n : Int) (hn : Big n) : Calls Try.prog 46 #[.pointer (some a1), .int .i64 n] w fun e w' => e = .returned (.tuple #[.int .i64 (takeV (bitsOf b1) p1 n).1, .int .i64 (takeV (bitsOf b1) p1 n).2]) ∧ RR R w0 w' a1 b1 (takeA (bitsOf b1) p1 n) a2 b2 p2 := by
  obtain ⟨S, T, h1, h2, h3, h4, h5⟩ := h
  exact (HP.take w a1 b1 p1 S n h1 hn).mono fun e w' g => ⟨g.1, RR.aft HP h2 h3 h4 h5 g.2⟩
theorem RR.at_ (HP : FlowP R V) {w0 w : World} {a1 : Addr} {b1 : List UInt8} {p1 : Nat} {a2 : Addr} {b2 : List UInt8} {p2 : Nat} (h : RR R w0 w a1 b1 p1 a2 b2 p2) : Calls Try.prog 26 #[.pointer (some a1)] w fun e w' => e = .returned (.int .i64 (p1 : Int)) ∧ RR R w0 w' a1 b1 p1 a2 b2 p2 := by
  obtain ⟨S, T, h1, h2, h3, h4, h5⟩ := id h
  exact (HP.at_ w a1 b1 p1 S h1).mono fun e w' g => ⟨g.1, h.still HP g.2.fr⟩

/-- Taking in two pieces (mathematics). -/
theorem takeV_in {L : List Int} {p n : Nat} (hn : n ≤ 24) : takeV L p (n : Int) = (if (L.length : Int) - p < n then (0, 7) else (numI ((L.drop p).take n), 0)) ∧ takeA L p (n : Int) = (if (L.length : Int) - p < n then p else p + n) := by
  have h : ¬ ((n : Int) < 0 ∨ 24 < (n : Int)) := by omega
  exact ⟨by unfold takeV; rw [if_neg h]; rfl, by unfold takeA; rw [if_neg h]; rfl⟩
theorem num_pieces {L : List Int} {p n m : Nat} (h : p + n ≤ L.length) : numI ((L.drop p).take (n + m)) = numI ((L.drop p).take n) + 2 ^ n * numI ((L.drop (p + n)).take m) := by
  rw [List.take_add, numI_append, List.drop_drop]
  congr 2
  rw [List.length_take, List.length_drop]
  congr 1
  omega

end
end Go.Proofs.Ytnibbopdjeagoaa.fl
