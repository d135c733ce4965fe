/-
  The document's reader.
-/
import Derived.Test.YtnibbopdjeagoaaFlC
import Derived.Deep.QuietTactic
import Derived.Deep.RegionLaw
import Derived.Deep.Quiet
namespace Go.Proofs.Ytnibbopdjeagoaa.fl
set_option maxRecDepth 100000
open Go.RowKit Go.Maps
set_option maxRecDepth 100000

/-- A slice of numbers whose row lies in blocks from lo on, below hi. -/
def RdT (w : World) (lo hi : Nat) (A : Option Addr) (l : List Int) : Prop :=
  l ≠ [] → ∃ blk off, A = some ⟨blk, off, none⟩ ∧ lo ≤ blk ∧ blk < hi ∧ ∀ j x, l[j]? = some x → w.cell? ⟨blk, off + j, none⟩ = some (.int .i64 x)
theorem RdT.kept {w w' : World} {lo hi : Nat} {A : Option Addr} {l : List Int} (h : RdT w lo hi A l) {S : Nat → Prop} (hF : Fr S w w') (hB : hi ≤ w.heap.size) (hS : ∀ i, lo ≤ i → i < hi → ¬ S i) : RdT w' lo hi A l := fun hne => by
  obtain ⟨blk, off, e, h1, h2, hc⟩ := h hne
  exact ⟨blk, off, e, h1, h2, fun j x hj => (World.cell?_of_block (w := w) (w' := w') (hF.block blk (by omega) (hS blk h1 h2))).trans (hc j x hj)⟩
theorem RdT.rdI {w : World} {lo hi : Nat} {A : Option Addr} {l : List Int} (h : RdT w lo hi A l) (hb : AllBit l) : RdI w hi A l := ⟨fun hne => by
  obtain ⟨blk, off, e, _, h2, hc⟩ := h hne
  exact ⟨blk, off, e, h2, hc⟩, bit_i64 hb⟩
/-- The document's reader: it stands at a bit of L; its bits lie from block lo on, below its own. -/
structure YR (w : World) (lo yb : Nat) (L : List Int) (at_ : Nat) : Prop where
  cell : ∃ A cap, w.heap[yb]? = some (.cells #[.slice A L.length cap, .int .i64 (at_ : Int)] 45 (0, 0)) ∧ L.length ≤ cap ∧ RdT w lo yb A L
  le : at_ ≤ L.length
  bits : AllBit L
  len : L.length ≤ 100000000
theorem YR.kept {w w' : World} {lo yb at_ : Nat} {L : List Int} (h : YR w lo yb L at_) {S : Nat → Prop} (hF : Fr S w w') (hS : ∀ i, lo ≤ i → i ≤ yb → ¬ S i) (hlo : lo ≤ yb) : YR w' lo yb L at_ := by
  obtain ⟨A, cap, h1, h2, h3⟩ := h.cell
  have hlt := (Array.getElem?_eq_some_iff.1 h1).1
  exact ⟨⟨A, cap, (hF.block yb hlt (hS yb hlo (Nat.le_refl _))).trans h1, h2, h3.kept hF (Nat.le_of_lt hlt) (fun i a b => hS i a (Nat.le_of_lt b))⟩, h.le, h.bits, h.len⟩
/-- It stands elsewhere. -/
theorem YR.move {w : World} {lo yb at_ : Nat} {L : List Int} (h : YR w lo yb L at_) (q : Nat) (hq : q ≤ L.length) : YR (w.setCell ⟨yb, 1, none⟩ (.int .i64 (q : Int))) lo yb L q := by
  obtain ⟨A, cap, h1, h2, h3⟩ := h.cell
  have hlt := (Array.getElem?_eq_some_iff.1 h1).1
  refine ⟨⟨A, cap, ?_, h2, ?_⟩, hq, h.bits, h.len⟩
  · rw [heap_setCell_same _ _ _ _ _ _ h1]
    rfl
  · exact h3.kept ((Fr.refl (fun i => i = yb) w).setCell (p := ⟨yb, 1, none⟩) (Or.inl rfl) _) (Nat.le_of_lt hlt) (fun i _ b e => by omega)

def takeV (L : List Int) (at_ : Nat) (n : Int) : Int × Int := if n < 0 ∨ 24 < n then (0, 2) else if (L.length : Int) - at_ < n then (0, 7) else (numI ((L.drop at_).take n.toNat), 0)
def takeA (L : List Int) (at_ : Nat) (n : Int) : Nat := if n < 0 ∨ 24 < n then at_ else if (L.length : Int) - at_ < n then at_ else at_ + n.toNat
/-- L[a:b] of a reader's bits. -/
theorem cutI (w : World) (A : Option Addr) (n c a b : Nat) (hab : a ≤ b) (hb : b ≤ c) :
    (Instr.slice 22 (.slice A n c) (some (.int .i64 (a : Int))) (some (.int .i64 (b : Int))) none).run Try.prog w = .ok (.slice (if c = a then A else A.map (·.add a)) (b - a) (c - a)) w := by
  rw [run_slice_lh w 22 A n c Try.underlying22 .i64 .i64 a b (by omega) (by omega) (by omega)]
  have hs : (sizeOf (Try.prog.elem 22)).run Try.prog w = .ok 1 w := by kernel_rfl
  rw [hs]
  simp only [Result.andThen, sliced, Int.toNat_natCast, Nat.mul_one]
end Go.Proofs.Ytnibbopdjeagoaa.fl
