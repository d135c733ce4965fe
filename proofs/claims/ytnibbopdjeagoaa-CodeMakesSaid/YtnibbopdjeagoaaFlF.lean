/-
  The document's reader: Peek, Align, Bytes.
-/
import Derived.Test.YtnibbopdjeagoaaFlE
import Derived.StillTailTactics
namespace Go.Proofs.Ytnibbopdjeagoaa.fl
set_option maxRecDepth 100000
open Go.RowKit Go.Maps
set_option maxRecDepth 100000

def peekV (L : List Int) (at_ : Nat) (n : Int) : Int := if n < 0 ∨ 24 < n then 0 else numI ((L.drop at_).take n.toNat)

def alignA (at_ : Nat) : Nat := 8 * ((at_ + 7) / 8)
def atOf (w : World) (yb : Nat) : Nat := match w.cell? ⟨yb, 1, none⟩ with
  | some (.int _ a) => a.toNat
  | _ => 0
theorem atOf_of {w : World} {lo yb a : Nat} {L : List Int} (h : YR w lo yb L a) : atOf w yb = a := by
  obtain ⟨A, cap, hb, _, _⟩ := h.cell
  have c1 : w.cell? ⟨yb, 1, none⟩ = some (.int .i64 (a : Int)) := (cellAt hb 1).trans rfl
  unfold atOf
  rw [c1]
  rfl
def bytesV (L : List Int) (at_ : Nat) (n : Int) : List UInt8 × Int := if n < 0 ∨ at_ % 8 ≠ 0 then ([], 2) else if (((L.length - at_) / 8 : Nat) : Int) < n then ([], 7) else (packI ((L.drop at_).take (8 * n.toNat)), 0)
def bytesA (L : List Int) (at_ : Nat) (n : Int) : Nat := if n < 0 ∨ at_ % 8 ≠ 0 then at_ else if (((L.length - at_) / 8 : Nat) : Int) < n then at_ else at_ + 8 * n.toNat

/-- What Bytes answers. -/
def AnsY (w : World) (lo yb : Nat) (L : List Int) (r : List UInt8 × Int) (a : Nat) (e : Ending) (w' : World) : Prop :=
  ∃ A' cap', e = .returned (.tuple #[.slice A' r.1.length cap', .int .i64 r.2]) ∧ Rd w' w'.heap.size A' r.1 ∧ YR w' lo yb L a ∧ Fr (fun i => i = yb) w w'
theorem RdI.up {w : World} {B B' : Nat} {A : Option Addr} {l : List Int} (h : RdI w B A l) (hB : B ≤ B') : RdI w B' A l := ⟨fun hne => by
  obtain ⟨blk, off, e, h2, hc⟩ := h.1 hne
  exact ⟨blk, off, e, by omega, hc⟩, h.2⟩
end Go.Proofs.Ytnibbopdjeagoaa.fl
