/-
  A reader and a writer side by side; the law's works.
-/
import Derived.Test.YtnibbopdjeagoaaFlQ
namespace Go.Proofs.Ytnibbopdjeagoaa.fl
set_option maxRecDepth 100000
open Go.RowKit Go.Maps
set_option maxRecDepth 100000

section
variable {R : RP} {V : VP}
/-- A reader and a writer that were made behind w0. -/
def Two (R : RP) (V : VP) (w0 w : World) (a : Addr) (b : List UInt8) (p : Nat) (a2 : Addr) (L : List Int) : Prop :=
  ∃ S T, R w a b p S ∧ V w a2 L T ∧ (∀ i, S i → w0.heap.size ≤ i ∧ ¬ T i) ∧ (∀ i, T i → w0.heap.size ≤ i) ∧ Fr (fun _ => False) w0 w
theorem Two.still (HP : FlowP R V) {w0 w w' : World} {a : Addr} {b : List UInt8} {p : Nat} {a2 : Addr} {L : List Int} (h : Two R V w0 w a b p a2 L) (hF : Fr (fun _ => False) w w') : Two R V w0 w' a b p a2 L := by
  obtain ⟨S, T, h1, h2, h3, h4, h5⟩ := h
  exact ⟨S, T, HP.r_keep h1 hF (fun _ _ e => e), HP.v_keep h2 hF (fun _ _ e => e), h3, h4, h5.trans hF (fun _ _ e => e)⟩
theorem Two.r_aft (HP : FlowP R V) {w0 w w' : World} {a : Addr} {b : List UInt8} {p' : Nat} {a2 : Addr} {L : List Int} {S T : Nat → Prop} (h2 : V w a2 L T) (h3 : ∀ i, S i → w0.heap.size ≤ i ∧ ¬ T i) (h4 : ∀ i, T i → w0.heap.size ≤ i) (h5 : Fr (fun _ => False) w0 w) (h : RAft R w a b S p' w') : Two R V w0 w' a b p' a2 L := by
  obtain ⟨S', g1, g2, g3⟩ := h
  refine ⟨S', T, g1, HP.v_keep h2 g3 (fun i ht hs => (h3 i hs).2 ht), fun i hi => ?_, h4, h5.trans g3 (fun i hi hs => by have := (h3 i hs).1; omega)⟩
  rcases g2 i hi with hs | hs
  · exact h3 i hs
  · exact ⟨Nat.le_trans h5.size hs, fun ht => by have := (HP.v_in h2).1 i ht; omega⟩
theorem Two.v_aft (HP : FlowP R V) {w0 w w' : World} {a : Addr} {b : List UInt8} {p : Nat} {a2 : Addr} {L' : List Int} {S T : Nat → Prop} (h1 : R w a b p S) (h3 : ∀ i, S i → w0.heap.size ≤ i ∧ ¬ T i) (h4 : ∀ i, T i → w0.heap.size ≤ i) (h5 : Fr (fun _ => False) w0 w) (h : VAft V w a2 T L' w') : Two R V w0 w' a b p a2 L' := by
  obtain ⟨T', g1, g2, g3⟩ := h
  refine ⟨S, T', HP.r_keep h1 g3 (fun i hs => (h3 i hs).2), g1, fun i hi => ⟨(h3 i hi).1, fun ht => ?_⟩, fun i hi => ?_, h5.trans g3 (fun i hi ht => by have := h4 i ht; omega)⟩
  · rcases g2 i ht with e | e
    · exact (h3 i hi).2 e
    · have := (HP.r_in h1).1 i hi
      omega
  · rcases g2 i hi with e | e
    · exact h4 i e
    · exact Nat.le_trans h5.size e
theorem Two.take (HP : FlowP R V) {w0 w : World} {a : Addr} {b : List UInt8} {p : Nat} {a2 : Addr} {L : List Int} (h : Two R V w0 w a b p a2 L) (n : Int) (hn : Big n) : Calls Try.prog 46 #[.pointer (some a), .int .i64 n] w fun e w' => e = .returned (.tuple #[.int .i64 (takeV (bitsOf b) p n).1, .int .i64 (takeV (bitsOf b) p n).2]) ∧ Two R V w0 w' a b (takeA (bitsOf b) p n) a2 L := by
  obtain ⟨S, T, h1, h2, h3, h4, h5⟩ := h
  exact (HP.take w a b p S n h1 hn).mono fun e w' g => ⟨g.1, Two.r_aft HP h2 h3 h4 h5 g.2⟩
theorem Two.at_ (HP : FlowP R V) {w0 w : World} {a : Addr} {b : List UInt8} {p : Nat} {a2 : Addr} {L : List Int} (h : Two R V w0 w a b p a2 L) : Calls Try.prog 26 #[.pointer (some a)] w fun e w' => e = .returned (.int .i64 (p : Int)) ∧ Two R V w0 w' a b p a2 L := by
  obtain ⟨S, T, h1, h2, h3, h4, h5⟩ := id h
  exact (HP.at_ w a b p S h1).mono fun e w' g => ⟨g.1, h.still HP g.2.fr⟩
theorem Two.left (HP : FlowP R V) {w0 w : World} {a : Addr} {b : List UInt8} {p : Nat} {a2 : Addr} {L : List Int} (h : Two R V w0 w a b p a2 L) : Calls Try.prog 32 #[.pointer (some a)] w fun e w' => e = .returned (.int .i64 ((8 * b.length - p : Nat) : Int)) ∧ Two R V w0 w' a b p a2 L := by
  obtain ⟨S, T, h1, h2, h3, h4, h5⟩ := id h
  exact (HP.left w a b p S h1).mono fun e w' g => ⟨g.1, h.still HP g.2.fr⟩
theorem Two.len (HP : FlowP R V) {w0 w : World} {a : Addr} {b : List UInt8} {p : Nat} {a2 : Addr} {L : List Int} (h : Two R V w0 w a b p a2 L) : Calls Try.prog 31 #[.pointer (some a2)] w fun e w' => e = .returned (.int .i64 (L.length : Int)) ∧ Two R V w0 w' a b p a2 L := by
  obtain ⟨S, T, h1, h2, h3, h4, h5⟩ := id h
  exact (HP.len w a2 L T h2).mono fun e w' g => ⟨g.1, h.still HP g.2.fr⟩
theorem Two.code (HP : FlowP R V) {w0 w : World} {a : Addr} {b : List UInt8} {p : Nat} {a2 : Addr} {L : List Int} (h : Two R V w0 w a b p a2 L) (n k : Int) (hL : L.length ≤ 1000000) (hn : Big n) (hk : Big k) : Calls Try.prog 52 #[.pointer (some a2), .int .i64 n, .int .i64 k] w fun e w' => e = .returned (.int .i64 (putZ n k)) ∧ Two R V w0 w' a b p a2 (codeL L n k) := by
  obtain ⟨S, T, h1, h2, h3, h4, h5⟩ := h
  exact (HP.code w a2 L T n k h2 hL hn hk).mono fun e w' g => ⟨g.1, Two.v_aft HP h1 h3 h4 h5 g.2⟩
theorem Two.all (HP : FlowP R V) {w0 w : World} {a : Addr} {b : List UInt8} {p : Nat} {a2 : Addr} {L : List Int} (h : Two R V w0 w a b p a2 L) (hL : L.length ≤ 1000000) : Calls Try.prog 30 #[.pointer (some a2)] w fun e w' => ∃ A cap, e = .returned (.slice A (packI L).length cap) ∧ Rd w' w'.heap.size A (packI L) ∧ Two R V w0 w' a b p a2 L := by
  obtain ⟨S, T, h1, h2, h3, h4, h5⟩ := h
  refine (HP.all w a2 L T h2 hL).mono fun e w' g => ?_
  obtain ⟨A, cap, T', rfl, ho, g1, g2, g3⟩ := g
  exact ⟨A, cap, rfl, Own.rd ho, Two.v_aft HP h1 h3 h4 h5 ⟨T', g1, fun i hi => (g2 i hi).1, g3⟩⟩

theorem lit_rd (w : World) (x : List UInt8) (cs : Array Value) (h : cs = (bs x).toArray) : Rd (w.alloc (.cells cs 5)) (w.alloc (.cells cs 5)).heap.size (some ⟨w.heap.size, 0, none⟩) x := fun _ => ⟨w.heap.size, 0, rfl, by rw [World.size_alloc]; omega, fun j y hj => by
  rw [cellAt (heap_alloc_new _ _), Nat.zero_add, h, List.getElem?_toArray, bs_get, hj]
  rfl⟩

end
end Go.Proofs.Ytnibbopdjeagoaa.fl
