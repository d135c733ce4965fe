/-
  DERIVED. GIVEN WITH THE SEED: THE CARDS: each row of YtgimiggffpokpaaGreatDoorRows.lean that lists a variable, with what it lists TIED to the program's text (the seventh form; the later family's looks); each row that meets fmt, with fmt's text TOLD by the authors' own Lean function (tested against real Go, not proved from fmt's source: count such statements apart). THE CARD IS WHAT COUNTS. Prove the row's statement (the work); the ties are given (YtgimiggffpokpaaGreatDoorTie.lean); close each card by the builder's one call (the guide's Derived/Test/ToyasCard.lean, 'card_holds'). Laid BY PROGRAM, IN A SANDBOX (cutbox-door.mjs). By AI agents, Wed Nov 11 2026. No macro, syntax, notation, axiom, sorry.
-/
import Derived.Test.YtgimiggffpokpaaGreatDoorRows
import GoSem.ClaimSeven
namespace Go.Proofs.YtgimiggffpokpaaGreatDoor
namespace Rows

/-- THE TIED CARD OF 'sutlerlaw15.TarWithin'. -/
def tarWithinCard : Claim7 := { stood := { row := tarWithinRow, standIns := [], harness := (true, "85fbd5a146b52e95907b3e2c312c8a948ab003be740219eb808685f046e615f2"), looks := true }, kinds := [], alts := [], laidByText := true, laidKinds := [.data, .data, .data, .data, .sentinel, .sentinel, .data, .pinned], laidTests := true, laidLooks := .later }
def TarWithinCardSaid : Prop := Claim7.holds Tryz.pinned (.plain (OpenSpec.ofChange tarWithinSpec)) tarWithinCard

/-- THE SECOND FORM's CARD OF 'sutlerlaw15.TarWithin'. -/
def tarWithinUptoCard : Claim7 := { stood := { row := tarWithinUptoRow, standIns := [], harness := (true, "85fbd5a146b52e95907b3e2c312c8a948ab003be740219eb808685f046e615f2"), looks := true }, kinds := [], alts := [], laidByText := true, laidKinds := [.data, .data, .data, .data, .sentinel, .sentinel, .data, .pinned], laidTests := true, laidLooks := .later }
def TarWithinUptoCardSaid : Prop := Claim7.holds Tryz.pinned (.plain (OpenSpec.upto tarWithinSpec)) tarWithinUptoCard
end Rows
end Go.Proofs.YtgimiggffpokpaaGreatDoor
