/-
  DERIVED. GIVEN WITH THE SEED: THE CARDS: each row of YtlfhomahbacmpaaDoorRows.lean that lists a variable, with what it lists TIED to the program's text (the seventh form; the later family's looks); each row that meets fmt, with fmt's text TOLD by the authors' own Lean function (tested against real Go, not proved from fmt's source: count such statements apart). THE CARD IS WHAT COUNTS. Prove the row's statement (the work); the ties are given (YtlfhomahbacmpaaDoorTie.lean); close each card by the builder's one call (the guide's Derived/Test/ToyasCard.lean, 'card_holds'). Laid BY PROGRAM, IN A SANDBOX (cutbox-door.mjs). By AI agents, Wed Nov 11 2026. No macro, syntax, notation, axiom, sorry.
-/
import Derived.Test.YtlfhomahbacmpaaDoorRows
import GoSem.ClaimSeven
namespace Go.Proofs.YtlfhomahbacmpaaDoor
namespace Rows

/-- THE TIED CARD OF 'signalboxlaw09.ArbRaces'. -/
def arbRacesCard : Claim7 := { stood := { row := arbRacesRow, standIns := [], harness := (true, "7caa3201abddfc6d557cc7aed1151615f5ef1c1c0b9cb62f736434503475c2b0"), looks := false }, kinds := [], alts := [], laidByText := true, laidKinds := [.data], laidTests := true, laidLooks := .later }
def ArbRacesCardSaid : Prop := Claim7.holds Tryd.pinned (.plain (OpenSpec.ofChange arbRacesSpec)) arbRacesCard

/-- THE TIED CARD OF 'signalboxlaw09.ArbLeast'. -/
def arbLeastCard : Claim7 := { stood := { row := arbLeastRow, standIns := [], harness := (true, "7caa3201abddfc6d557cc7aed1151615f5ef1c1c0b9cb62f736434503475c2b0"), looks := false }, kinds := [], alts := [], laidByText := true, laidKinds := [.data], laidTests := true, laidLooks := .later }
def ArbLeastCardSaid : Prop := Claim7.holds Tryd.pinned (.plain (OpenSpec.ofChange arbLeastSpec)) arbLeastCard

/-- THE TIED CARD OF 'signalboxlaw09.ArbKeys'. -/
def arbKeysCard : Claim7 := { stood := { row := arbKeysRow, standIns := [], harness := (true, "7caa3201abddfc6d557cc7aed1151615f5ef1c1c0b9cb62f736434503475c2b0"), looks := false }, kinds := [], alts := [], laidByText := true, laidKinds := [.data], laidTests := true, laidLooks := .later }
def ArbKeysCardSaid : Prop := Claim7.holds Tryd.pinned (.plain (OpenSpec.ofChange arbKeysSpec)) arbKeysCard

/-- THE TIED CARD OF 'signalboxlaw09.ArbShown'. -/
def arbShownCard : Claim7 := { stood := { row := arbShownRow, standIns := [], harness := (true, "7caa3201abddfc6d557cc7aed1151615f5ef1c1c0b9cb62f736434503475c2b0"), looks := false }, kinds := [], alts := [], laidByText := true, laidKinds := [.data], laidTests := true, laidLooks := .later }
def ArbShownCardSaid : Prop := Claim7.holds Tryd.pinned (.plain (OpenSpec.ofChange arbShownSpec)) arbShownCard

/-- THE TIED CARD OF 'signalboxlaw09.ArbOut'. -/
def arbOutCard : Claim7 := { stood := { row := arbOutRow, standIns := [], harness := (true, "7caa3201abddfc6d557cc7aed1151615f5ef1c1c0b9cb62f736434503475c2b0"), looks := false }, kinds := [], alts := [], laidByText := true, laidKinds := [.data], laidTests := true, laidLooks := .later }
def ArbOutCardSaid : Prop := Claim7.holds Tryd.pinned (.plain (OpenSpec.ofChange arbOutSpec)) arbOutCard

/-- THE SECOND FORM's CARD OF 'signalboxlaw09.ArbRaces'. -/
def arbRacesUptoCard : Claim7 := { stood := { row := arbRacesUptoRow, standIns := [], harness := (true, "7caa3201abddfc6d557cc7aed1151615f5ef1c1c0b9cb62f736434503475c2b0"), looks := false }, kinds := [], alts := [], laidByText := true, laidKinds := [.data], laidTests := true, laidLooks := .later }
def ArbRacesUptoCardSaid : Prop := Claim7.holds Tryd.pinned (.plain (OpenSpec.upto arbRacesSpec)) arbRacesUptoCard

/-- THE SECOND FORM's CARD OF 'signalboxlaw09.ArbLeast'. -/
def arbLeastUptoCard : Claim7 := { stood := { row := arbLeastUptoRow, standIns := [], harness := (true, "7caa3201abddfc6d557cc7aed1151615f5ef1c1c0b9cb62f736434503475c2b0"), looks := false }, kinds := [], alts := [], laidByText := true, laidKinds := [.data], laidTests := true, laidLooks := .later }
def ArbLeastUptoCardSaid : Prop := Claim7.holds Tryd.pinned (.plain (OpenSpec.upto arbLeastSpec)) arbLeastUptoCard

/-- THE SECOND FORM's CARD OF 'signalboxlaw09.ArbKeys'. -/
def arbKeysUptoCard : Claim7 := { stood := { row := arbKeysUptoRow, standIns := [], harness := (true, "7caa3201abddfc6d557cc7aed1151615f5ef1c1c0b9cb62f736434503475c2b0"), looks := false }, kinds := [], alts := [], laidByText := true, laidKinds := [.data], laidTests := true, laidLooks := .later }
def ArbKeysUptoCardSaid : Prop := Claim7.holds Tryd.pinned (.plain (OpenSpec.upto arbKeysSpec)) arbKeysUptoCard

/-- THE SECOND FORM's CARD OF 'signalboxlaw09.ArbShown'. -/
def arbShownUptoCard : Claim7 := { stood := { row := arbShownUptoRow, standIns := [], harness := (true, "7caa3201abddfc6d557cc7aed1151615f5ef1c1c0b9cb62f736434503475c2b0"), looks := false }, kinds := [], alts := [], laidByText := true, laidKinds := [.data], laidTests := true, laidLooks := .later }
def ArbShownUptoCardSaid : Prop := Claim7.holds Tryd.pinned (.plain (OpenSpec.upto arbShownSpec)) arbShownUptoCard

/-- THE SECOND FORM's CARD OF 'signalboxlaw09.ArbOut'. -/
def arbOutUptoCard : Claim7 := { stood := { row := arbOutUptoRow, standIns := [], harness := (true, "7caa3201abddfc6d557cc7aed1151615f5ef1c1c0b9cb62f736434503475c2b0"), looks := false }, kinds := [], alts := [], laidByText := true, laidKinds := [.data], laidTests := true, laidLooks := .later }
def ArbOutUptoCardSaid : Prop := Claim7.holds Tryd.pinned (.plain (OpenSpec.upto arbOutSpec)) arbOutUptoCard
end Rows
end Go.Proofs.YtlfhomahbacmpaaDoor
