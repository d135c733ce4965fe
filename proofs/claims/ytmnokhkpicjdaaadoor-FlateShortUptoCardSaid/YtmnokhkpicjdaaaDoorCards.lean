/-
  DERIVED. GIVEN WITH THE SEED: THE CARDS: each row of YtmnokhkpicjdaaaDoorRows.lean that lists a variable, with what it lists TIED to the program's text (the seventh form; the later family's looks); each row that meets fmt, with fmt's text TOLD by the authors' own Lean function (tested against real Go, not proved from fmt's source: count such statements apart). THE CARD IS WHAT COUNTS. Prove the row's statement (the work); the ties are given (YtmnokhkpicjdaaaDoorTie.lean); close each card by the builder's one call (the guide's Derived/Test/ToyasCard.lean, 'card_holds'). Laid BY PROGRAM, IN A SANDBOX (cutbox-door.mjs). By AI agents, Wed Nov 11 2026. No macro, syntax, notation, axiom, sorry.
-/
import Derived.Test.YtmnokhkpicjdaaaDoorRows
import GoSem.ClaimSeven
namespace Go.Proofs.YtmnokhkpicjdaaaDoor
namespace Rows

/-- THE TIED CARD OF 'sutlerlaw11.FlateBack'. -/
def flateBackCard : Claim7 := { stood := { row := flateBackRow, standIns := [], harness := (true, "4dbaabad052ac31a333aaf2f0b1e1b22a8c88f1b5f010c98c3e66228dce494b1"), looks := false }, kinds := [], alts := [], laidByText := true, laidKinds := [.data, .data, .data, .data, .data], laidTests := true, laidLooks := .later }
def FlateBackCardSaid : Prop := Claim7.holds Tryd.pinned (.plain (OpenSpec.ofChange flateBackSpec)) flateBackCard

/-- THE TIED CARD OF 'sutlerlaw11.FlateShort'. -/
def flateShortCard : Claim7 := { stood := { row := flateShortRow, standIns := [], harness := (true, "4dbaabad052ac31a333aaf2f0b1e1b22a8c88f1b5f010c98c3e66228dce494b1"), looks := false }, kinds := [], alts := [], laidByText := true, laidKinds := [.data, .data, .data, .data, .data], laidTests := true, laidLooks := .later }
def FlateShortCardSaid : Prop := Claim7.holds Tryd.pinned (.plain (OpenSpec.ofChange flateShortSpec)) flateShortCard

/-- THE TIED CARD OF 'sutlerlaw11.FlateBounds'. -/
def flateBoundsCard : Claim7 := { stood := { row := flateBoundsRow, standIns := [], harness := (true, "4dbaabad052ac31a333aaf2f0b1e1b22a8c88f1b5f010c98c3e66228dce494b1"), looks := false }, kinds := [], alts := [], laidByText := true, laidKinds := [.data, .data, .data, .data, .data], laidTests := true, laidLooks := .later }
def FlateBoundsCardSaid : Prop := Claim7.holds Tryd.pinned (.plain (OpenSpec.ofChange flateBoundsSpec)) flateBoundsCard

/-- THE TIED CARD OF 'sutlerlaw11.FlateRuns'. -/
def flateRunsCard : Claim7 := { stood := { row := flateRunsRow, standIns := [], harness := (true, "4dbaabad052ac31a333aaf2f0b1e1b22a8c88f1b5f010c98c3e66228dce494b1"), looks := false }, kinds := [], alts := [], laidByText := true, laidKinds := [.data, .data, .data, .data, .data], laidTests := true, laidLooks := .later }
def FlateRunsCardSaid : Prop := Claim7.holds Tryd.pinned (.plain (OpenSpec.ofChange flateRunsSpec)) flateRunsCard

/-- THE SECOND FORM's CARD OF 'sutlerlaw11.FlateBack'. -/
def flateBackUptoCard : Claim7 := { stood := { row := flateBackUptoRow, standIns := [], harness := (true, "4dbaabad052ac31a333aaf2f0b1e1b22a8c88f1b5f010c98c3e66228dce494b1"), looks := false }, kinds := [], alts := [], laidByText := true, laidKinds := [.data, .data, .data, .data, .data], laidTests := true, laidLooks := .later }
def FlateBackUptoCardSaid : Prop := Claim7.holds Tryd.pinned (.plain (OpenSpec.upto flateBackSpec)) flateBackUptoCard

/-- THE SECOND FORM's CARD OF 'sutlerlaw11.FlateShort'. -/
def flateShortUptoCard : Claim7 := { stood := { row := flateShortUptoRow, standIns := [], harness := (true, "4dbaabad052ac31a333aaf2f0b1e1b22a8c88f1b5f010c98c3e66228dce494b1"), looks := false }, kinds := [], alts := [], laidByText := true, laidKinds := [.data, .data, .data, .data, .data], laidTests := true, laidLooks := .later }
def FlateShortUptoCardSaid : Prop := Claim7.holds Tryd.pinned (.plain (OpenSpec.upto flateShortSpec)) flateShortUptoCard

/-- THE SECOND FORM's CARD OF 'sutlerlaw11.FlateBounds'. -/
def flateBoundsUptoCard : Claim7 := { stood := { row := flateBoundsUptoRow, standIns := [], harness := (true, "4dbaabad052ac31a333aaf2f0b1e1b22a8c88f1b5f010c98c3e66228dce494b1"), looks := false }, kinds := [], alts := [], laidByText := true, laidKinds := [.data, .data, .data, .data, .data], laidTests := true, laidLooks := .later }
def FlateBoundsUptoCardSaid : Prop := Claim7.holds Tryd.pinned (.plain (OpenSpec.upto flateBoundsSpec)) flateBoundsUptoCard

/-- THE SECOND FORM's CARD OF 'sutlerlaw11.FlateRuns'. -/
def flateRunsUptoCard : Claim7 := { stood := { row := flateRunsUptoRow, standIns := [], harness := (true, "4dbaabad052ac31a333aaf2f0b1e1b22a8c88f1b5f010c98c3e66228dce494b1"), looks := false }, kinds := [], alts := [], laidByText := true, laidKinds := [.data, .data, .data, .data, .data], laidTests := true, laidLooks := .later }
def FlateRunsUptoCardSaid : Prop := Claim7.holds Tryd.pinned (.plain (OpenSpec.upto flateRunsSpec)) flateRunsUptoCard
end Rows
end Go.Proofs.YtmnokhkpicjdaaaDoor
