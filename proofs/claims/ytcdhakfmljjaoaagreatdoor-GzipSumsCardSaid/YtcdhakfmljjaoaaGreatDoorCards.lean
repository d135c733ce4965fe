/-
  DERIVED. GIVEN WITH THE SEED: THE CARDS: each row of YtcdhakfmljjaoaaGreatDoorRows.lean that lists a variable, with what it lists TIED to the program's text (the seventh form; the later family's looks); each row that meets fmt, with fmt's text TOLD by the authors' own Lean function (tested against real Go, not proved from fmt's source: count such statements apart). THE CARD IS WHAT COUNTS. Prove the row's statement (the work); the ties are given (YtcdhakfmljjaoaaGreatDoorTie.lean); close each card by the builder's one call (the guide's Derived/Test/ToyasCard.lean, 'card_holds'). Laid BY PROGRAM, IN A SANDBOX (cutbox-door.mjs). By AI agents, Wed Nov 11 2026. No macro, syntax, notation, axiom, sorry.
-/
import Derived.Test.YtcdhakfmljjaoaaGreatDoorRows
import GoSem.ClaimSeven
namespace Go.Proofs.YtcdhakfmljjaoaaGreatDoor
namespace Rows

/-- THE TIED CARD OF 'sutlerlaw12.GzipWrites'. -/
def gzipWritesCard : Claim7 := { stood := { row := gzipWritesRow, standIns := [], harness := (true, "f26b0fcd6d6000f04011a6ab1bb9b974193beaf0bb280a8427f63c72d49bc7c8"), looks := false }, kinds := [], alts := [], laidByText := true, laidKinds := [.data, .data, .data, .data, .data, .data, .data], laidTests := true, laidLooks := .later }
def GzipWritesCardSaid : Prop := Claim7.holds Tryz.pinned (.plain (OpenSpec.ofChange gzipWritesSpec)) gzipWritesCard

/-- THE TIED CARD OF 'sutlerlaw12.GzipBack'. -/
def gzipBackCard : Claim7 := { stood := { row := gzipBackRow, standIns := [], harness := (true, "f26b0fcd6d6000f04011a6ab1bb9b974193beaf0bb280a8427f63c72d49bc7c8"), looks := false }, kinds := [], alts := [], laidByText := true, laidKinds := [.data, .data, .data, .data, .data, .data, .data], laidTests := true, laidLooks := .later }
def GzipBackCardSaid : Prop := Claim7.holds Tryz.pinned (.plain (OpenSpec.ofChange gzipBackSpec)) gzipBackCard

/-- THE TIED CARD OF 'sutlerlaw12.GzipFinds'. -/
def gzipFindsCard : Claim7 := { stood := { row := gzipFindsRow, standIns := [], harness := (true, "f26b0fcd6d6000f04011a6ab1bb9b974193beaf0bb280a8427f63c72d49bc7c8"), looks := false }, kinds := [], alts := [], laidByText := true, laidKinds := [.data, .data, .data, .data, .data, .data, .data], laidTests := true, laidLooks := .later }
def GzipFindsCardSaid : Prop := Claim7.holds Tryz.pinned (.plain (OpenSpec.ofChange gzipFindsSpec)) gzipFindsCard

/-- THE TIED CARD OF 'sutlerlaw12.GzipShort'. -/
def gzipShortCard : Claim7 := { stood := { row := gzipShortRow, standIns := [], harness := (true, "f26b0fcd6d6000f04011a6ab1bb9b974193beaf0bb280a8427f63c72d49bc7c8"), looks := false }, kinds := [], alts := [], laidByText := true, laidKinds := [.data, .data, .data, .data, .data, .data, .data], laidTests := true, laidLooks := .later }
def GzipShortCardSaid : Prop := Claim7.holds Tryz.pinned (.plain (OpenSpec.ofChange gzipShortSpec)) gzipShortCard

/-- THE TIED CARD OF 'sutlerlaw12.GzipSums'. -/
def gzipSumsCard : Claim7 := { stood := { row := gzipSumsRow, standIns := [], harness := (true, "f26b0fcd6d6000f04011a6ab1bb9b974193beaf0bb280a8427f63c72d49bc7c8"), looks := false }, kinds := [], alts := [], laidByText := true, laidKinds := [.data, .data, .data, .data, .data, .data, .data], laidTests := true, laidLooks := .later }
def GzipSumsCardSaid : Prop := Claim7.holds Tryz.pinned (.plain (OpenSpec.ofChange gzipSumsSpec)) gzipSumsCard

/-- THE SECOND FORM's CARD OF 'sutlerlaw12.GzipWrites'. -/
def gzipWritesUptoCard : Claim7 := { stood := { row := gzipWritesUptoRow, standIns := [], harness := (true, "f26b0fcd6d6000f04011a6ab1bb9b974193beaf0bb280a8427f63c72d49bc7c8"), looks := false }, kinds := [], alts := [], laidByText := true, laidKinds := [.data, .data, .data, .data, .data, .data, .data], laidTests := true, laidLooks := .later }
def GzipWritesUptoCardSaid : Prop := Claim7.holds Tryz.pinned (.plain (OpenSpec.upto gzipWritesSpec)) gzipWritesUptoCard

/-- THE SECOND FORM's CARD OF 'sutlerlaw12.GzipBack'. -/
def gzipBackUptoCard : Claim7 := { stood := { row := gzipBackUptoRow, standIns := [], harness := (true, "f26b0fcd6d6000f04011a6ab1bb9b974193beaf0bb280a8427f63c72d49bc7c8"), looks := false }, kinds := [], alts := [], laidByText := true, laidKinds := [.data, .data, .data, .data, .data, .data, .data], laidTests := true, laidLooks := .later }
def GzipBackUptoCardSaid : Prop := Claim7.holds Tryz.pinned (.plain (OpenSpec.upto gzipBackSpec)) gzipBackUptoCard

/-- THE SECOND FORM's CARD OF 'sutlerlaw12.GzipFinds'. -/
def gzipFindsUptoCard : Claim7 := { stood := { row := gzipFindsUptoRow, standIns := [], harness := (true, "f26b0fcd6d6000f04011a6ab1bb9b974193beaf0bb280a8427f63c72d49bc7c8"), looks := false }, kinds := [], alts := [], laidByText := true, laidKinds := [.data, .data, .data, .data, .data, .data, .data], laidTests := true, laidLooks := .later }
def GzipFindsUptoCardSaid : Prop := Claim7.holds Tryz.pinned (.plain (OpenSpec.upto gzipFindsSpec)) gzipFindsUptoCard

/-- THE SECOND FORM's CARD OF 'sutlerlaw12.GzipShort'. -/
def gzipShortUptoCard : Claim7 := { stood := { row := gzipShortUptoRow, standIns := [], harness := (true, "f26b0fcd6d6000f04011a6ab1bb9b974193beaf0bb280a8427f63c72d49bc7c8"), looks := false }, kinds := [], alts := [], laidByText := true, laidKinds := [.data, .data, .data, .data, .data, .data, .data], laidTests := true, laidLooks := .later }
def GzipShortUptoCardSaid : Prop := Claim7.holds Tryz.pinned (.plain (OpenSpec.upto gzipShortSpec)) gzipShortUptoCard

/-- THE SECOND FORM's CARD OF 'sutlerlaw12.GzipSums'. -/
def gzipSumsUptoCard : Claim7 := { stood := { row := gzipSumsUptoRow, standIns := [], harness := (true, "f26b0fcd6d6000f04011a6ab1bb9b974193beaf0bb280a8427f63c72d49bc7c8"), looks := false }, kinds := [], alts := [], laidByText := true, laidKinds := [.data, .data, .data, .data, .data, .data, .data], laidTests := true, laidLooks := .later }
def GzipSumsUptoCardSaid : Prop := Claim7.holds Tryz.pinned (.plain (OpenSpec.upto gzipSumsSpec)) gzipSumsUptoCard
end Rows
end Go.Proofs.YtcdhakfmljjaoaaGreatDoor
