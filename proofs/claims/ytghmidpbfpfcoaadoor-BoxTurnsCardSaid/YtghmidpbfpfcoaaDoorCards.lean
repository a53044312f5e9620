/-
  DERIVED. GIVEN WITH THE SEED: THE CARDS: each row of YtghmidpbfpfcoaaDoorRows.lean that lists a variable, with what it lists TIED to the program's text (the seventh form; the later family's looks); each row that meets fmt, with fmt's text TOLD by the authors' own Lean function (tested against real Go, not proved from fmt's source: count such statements apart). THE CARD IS WHAT COUNTS. Prove the row's statement (the work); the ties are given (YtghmidpbfpfcoaaDoorTie.lean); close each card by the builder's one call (the guide's Derived/Test/ToyasCard.lean, 'card_holds'). Laid BY PROGRAM, IN A SANDBOX (cutbox-door.mjs). By AI agents, Wed Nov 11 2026. No macro, syntax, notation, axiom, sorry.
-/
import Derived.Test.YtghmidpbfpfcoaaDoorRows
import GoSem.ClaimSeven
namespace Go.Proofs.YtghmidpbfpfcoaaDoor
namespace Rows

/-- THE TIED CARD OF 'signalboxlaw13.BoxPlays'. -/
def boxPlaysCard : Claim7 := { stood := { row := boxPlaysRow, standIns := [], harness := (true, "3f2bc1b4b47e890b19ebefccdc024a270878fc340f8012b67a19f15e730d7494"), looks := false }, kinds := [], alts := [], laidByText := true, laidKinds := [.data], laidTests := true, laidLooks := .later }
def BoxPlaysCardSaid : Prop := Claim7.holds Tryd.pinned (.plain (OpenSpec.ofChange boxPlaysSpec)) boxPlaysCard

/-- THE TIED CARD OF 'signalboxlaw13.BoxTurns'. -/
def boxTurnsCard : Claim7 := { stood := { row := boxTurnsRow, standIns := [], harness := (true, "3f2bc1b4b47e890b19ebefccdc024a270878fc340f8012b67a19f15e730d7494"), looks := false }, kinds := [], alts := [], laidByText := true, laidKinds := [.data], laidTests := true, laidLooks := .later }
def BoxTurnsCardSaid : Prop := Claim7.holds Tryd.pinned (.plain (OpenSpec.ofChange boxTurnsSpec)) boxTurnsCard

/-- THE TIED CARD OF 'signalboxlaw13.BoxNil'. -/
def boxNilCard : Claim7 := { stood := { row := boxNilRow, standIns := [], harness := (true, "3f2bc1b4b47e890b19ebefccdc024a270878fc340f8012b67a19f15e730d7494"), looks := false }, kinds := [], alts := [], laidByText := true, laidKinds := [.data], laidTests := true, laidLooks := .later }
def BoxNilCardSaid : Prop := Claim7.holds Tryd.pinned (.plain (OpenSpec.ofChange boxNilSpec)) boxNilCard

/-- THE SECOND FORM's CARD OF 'signalboxlaw13.BoxPlays'. -/
def boxPlaysUptoCard : Claim7 := { stood := { row := boxPlaysUptoRow, standIns := [], harness := (true, "3f2bc1b4b47e890b19ebefccdc024a270878fc340f8012b67a19f15e730d7494"), looks := false }, kinds := [], alts := [], laidByText := true, laidKinds := [.data], laidTests := true, laidLooks := .later }
def BoxPlaysUptoCardSaid : Prop := Claim7.holds Tryd.pinned (.plain (OpenSpec.upto boxPlaysSpec)) boxPlaysUptoCard

/-- THE SECOND FORM's CARD OF 'signalboxlaw13.BoxTurns'. -/
def boxTurnsUptoCard : Claim7 := { stood := { row := boxTurnsUptoRow, standIns := [], harness := (true, "3f2bc1b4b47e890b19ebefccdc024a270878fc340f8012b67a19f15e730d7494"), looks := false }, kinds := [], alts := [], laidByText := true, laidKinds := [.data], laidTests := true, laidLooks := .later }
def BoxTurnsUptoCardSaid : Prop := Claim7.holds Tryd.pinned (.plain (OpenSpec.upto boxTurnsSpec)) boxTurnsUptoCard

/-- THE SECOND FORM's CARD OF 'signalboxlaw13.BoxNil'. -/
def boxNilUptoCard : Claim7 := { stood := { row := boxNilUptoRow, standIns := [], harness := (true, "3f2bc1b4b47e890b19ebefccdc024a270878fc340f8012b67a19f15e730d7494"), looks := false }, kinds := [], alts := [], laidByText := true, laidKinds := [.data], laidTests := true, laidLooks := .later }
def BoxNilUptoCardSaid : Prop := Claim7.holds Tryd.pinned (.plain (OpenSpec.upto boxNilSpec)) boxNilUptoCard
end Rows
end Go.Proofs.YtghmidpbfpfcoaaDoor
