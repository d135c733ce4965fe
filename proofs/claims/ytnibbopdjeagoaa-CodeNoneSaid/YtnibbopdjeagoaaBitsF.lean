/-
  The calls of bits, and the document's: numbers.
-/
import Derived.Test.YtnibbopdjeagoaaBitsM
import Derived.Test.YtnibbopdjeagoaaBy
import Derived.Lib.SliceRun
import Derived.KernelRfl
namespace Go.Proofs.Ytnibbopdjeagoaa
set_option maxRecDepth 100000
open Go.RowKit Go.Maps

/-- So many bytes stand there. -/
def Std (n : Nat) (a k : Int) : Prop := 1 ≤ k ∧ k ≤ 4 ∧ 0 ≤ a ∧ a ≤ (n : Int) - k

/-! ### Get -/
end Go.Proofs.Ytnibbopdjeagoaa
