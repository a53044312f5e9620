/-
  DERIVED. GIVEN WITH THE SEED: THE CARDS: each row of YtimdkcchjanpaaaGreatDoorRows.lean that lists a variable, with what it lists TIED to the program's text (the seventh form; the later family's looks); each row that meets fmt, with fmt's text TOLD by the authors' own Lean function (tested against real Go, not proved from fmt's source: count such statements apart). THE CARD IS WHAT COUNTS. Prove the row's statement (the work); the ties are given (YtimdkcchjanpaaaGreatDoorTie.lean); close each card by the builder's one call (the guide's Derived/Test/ToyasCard.lean, 'card_holds'). Laid BY PROGRAM, IN A SANDBOX (cutbox-door.mjs). By AI agents, Wed Nov 11 2026. No macro, syntax, notation, axiom, sorry.
-/
import Derived.Test.YtimdkcchjanpaaaGreatDoorRows
import GoSem.ClaimSeven
namespace Go.Proofs.YtimdkcchjanpaaaGreatDoor
namespace Rows

/-- THE TIED CARD OF 'signalboxlaw17.DrvOnce'. -/
def drvOnceCard : Claim7 := { stood := { row := drvOnceRow, standIns := [], harness := (true, "4480b77842c395957e19f5a644f53de92d1e6738e7b00ebb8e998476ef902ce2"), looks := false }, kinds := [], alts := [], laidByText := true, laidKinds := [.data, .data], laidTests := true, laidLooks := .later }
def DrvOnceCardSaid : Prop := Claim7.holds Tryz.pinned (.plain (OpenSpec.ofChange drvOnceSpec)) drvOnceCard

/-- THE TIED CARD OF 'signalboxlaw17.DrvBusy'. -/
def drvBusyCard : Claim7 := { stood := { row := drvBusyRow, standIns := [], harness := (true, "4480b77842c395957e19f5a644f53de92d1e6738e7b00ebb8e998476ef902ce2"), looks := false }, kinds := [], alts := [], laidByText := true, laidKinds := [.data, .data], laidTests := true, laidLooks := .later }
def DrvBusyCardSaid : Prop := Claim7.holds Tryz.pinned (.plain (OpenSpec.ofChange drvBusySpec)) drvBusyCard

/-- THE TIED CARD OF 'signalboxlaw17.DrvNil'. -/
def drvNilCard : Claim7 := { stood := { row := drvNilRow, standIns := [], harness := (true, "4480b77842c395957e19f5a644f53de92d1e6738e7b00ebb8e998476ef902ce2"), looks := false }, kinds := [], alts := [], laidByText := true, laidKinds := [.data, .data], laidTests := true, laidLooks := .later }
def DrvNilCardSaid : Prop := Claim7.holds Tryz.pinned (.plain (OpenSpec.ofChange drvNilSpec)) drvNilCard

/-- THE SECOND FORM's CARD OF 'signalboxlaw17.DrvOnce'. -/
def drvOnceUptoCard : Claim7 := { stood := { row := drvOnceUptoRow, standIns := [], harness := (true, "4480b77842c395957e19f5a644f53de92d1e6738e7b00ebb8e998476ef902ce2"), looks := false }, kinds := [], alts := [], laidByText := true, laidKinds := [.data, .data], laidTests := true, laidLooks := .later }
def DrvOnceUptoCardSaid : Prop := Claim7.holds Tryz.pinned (.plain (OpenSpec.upto drvOnceSpec)) drvOnceUptoCard

/-- THE SECOND FORM's CARD OF 'signalboxlaw17.DrvBusy'. -/
def drvBusyUptoCard : Claim7 := { stood := { row := drvBusyUptoRow, standIns := [], harness := (true, "4480b77842c395957e19f5a644f53de92d1e6738e7b00ebb8e998476ef902ce2"), looks := false }, kinds := [], alts := [], laidByText := true, laidKinds := [.data, .data], laidTests := true, laidLooks := .later }
def DrvBusyUptoCardSaid : Prop := Claim7.holds Tryz.pinned (.plain (OpenSpec.upto drvBusySpec)) drvBusyUptoCard

/-- THE SECOND FORM's CARD OF 'signalboxlaw17.DrvNil'. -/
def drvNilUptoCard : Claim7 := { stood := { row := drvNilUptoRow, standIns := [], harness := (true, "4480b77842c395957e19f5a644f53de92d1e6738e7b00ebb8e998476ef902ce2"), looks := false }, kinds := [], alts := [], laidByText := true, laidKinds := [.data, .data], laidTests := true, laidLooks := .later }
def DrvNilUptoCardSaid : Prop := Claim7.holds Tryz.pinned (.plain (OpenSpec.upto drvNilSpec)) drvNilUptoCard
end Rows
end Go.Proofs.YtimdkcchjanpaaaGreatDoor
