/-
  DERIVED. GIVEN WITH THE SEED: THE CARDS: each row of YthobgjecmiioaaaDoorRows.lean that lists a variable, with what it lists TIED to the program's text (the seventh form; the later family's looks); each row that meets fmt, with fmt's text TOLD by the authors' own Lean function (tested against real Go, not proved from fmt's source: count such statements apart). THE CARD IS WHAT COUNTS. Prove the row's statement (the work); the ties are given (YthobgjecmiioaaaDoorTie.lean); close each card by the builder's one call (the guide's Derived/Test/ToyasCard.lean, 'card_holds'). Laid BY PROGRAM, IN A SANDBOX (cutbox-door.mjs). By AI agents, Wed Nov 11 2026. No macro, syntax, notation, axiom, sorry.
-/
import Derived.Test.YthobgjecmiioaaaDoorRows
import GoSem.ClaimSeven
namespace Go.Proofs.YthobgjecmiioaaaDoor
namespace Rows

/-- THE TIED CARD OF 'sutlerlaw04.WalCosts'. -/
def walCostsCard : Claim7 := { stood := { row := walCostsRow, standIns := [], harness := (true, "d0c3db32c943e428db68b319533622e35ed895097126f97a1a019fd02a134a63"), looks := false }, kinds := [], alts := [], laidByText := true, laidKinds := [.data], laidTests := true, laidLooks := .later }
def WalCostsCardSaid : Prop := Claim7.holds Tryd.pinned (.plain (OpenSpec.ofChange walCostsSpec)) walCostsCard

/-- THE TIED CARD OF 'sutlerlaw04.WalNone'. -/
def walNoneCard : Claim7 := { stood := { row := walNoneRow, standIns := [], harness := (true, "d0c3db32c943e428db68b319533622e35ed895097126f97a1a019fd02a134a63"), looks := false }, kinds := [], alts := [], laidByText := true, laidKinds := [.data], laidTests := true, laidLooks := .later }
def WalNoneCardSaid : Prop := Claim7.holds Tryd.pinned (.plain (OpenSpec.ofChange walNoneSpec)) walNoneCard

/-- THE SECOND FORM's CARD OF 'sutlerlaw04.WalCosts'. -/
def walCostsUptoCard : Claim7 := { stood := { row := walCostsUptoRow, standIns := [], harness := (true, "d0c3db32c943e428db68b319533622e35ed895097126f97a1a019fd02a134a63"), looks := false }, kinds := [], alts := [], laidByText := true, laidKinds := [.data], laidTests := true, laidLooks := .later }
def WalCostsUptoCardSaid : Prop := Claim7.holds Tryd.pinned (.plain (OpenSpec.upto walCostsSpec)) walCostsUptoCard

/-- THE SECOND FORM's CARD OF 'sutlerlaw04.WalNone'. -/
def walNoneUptoCard : Claim7 := { stood := { row := walNoneUptoRow, standIns := [], harness := (true, "d0c3db32c943e428db68b319533622e35ed895097126f97a1a019fd02a134a63"), looks := false }, kinds := [], alts := [], laidByText := true, laidKinds := [.data], laidTests := true, laidLooks := .later }
def WalNoneUptoCardSaid : Prop := Claim7.holds Tryd.pinned (.plain (OpenSpec.upto walNoneSpec)) walNoneUptoCard
end Rows
end Go.Proofs.YthobgjecmiioaaaDoor
