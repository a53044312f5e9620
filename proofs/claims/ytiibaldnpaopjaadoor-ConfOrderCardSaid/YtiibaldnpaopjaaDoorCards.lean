/-
  DERIVED. GIVEN WITH THE SEED: THE CARDS: each row of YtiibaldnpaopjaaDoorRows.lean that lists a variable, with what it lists TIED to the program's text (the seventh form; the later family's looks); each row that meets fmt, with fmt's text TOLD by the authors' own Lean function (tested against real Go, not proved from fmt's source: count such statements apart). THE CARD IS WHAT COUNTS. Prove the row's statement (the work); the ties are given (YtiibaldnpaopjaaDoorTie.lean); close each card by the builder's one call (the guide's Derived/Test/ToyasCard.lean, 'card_holds'). Laid BY PROGRAM, IN A SANDBOX (cutbox-door.mjs). By AI agents, Wed Nov 11 2026. No macro, syntax, notation, axiom, sorry.
-/
import Derived.Test.YtiibaldnpaopjaaDoorRows
import GoSem.ClaimSeven
namespace Go.Proofs.YtiibaldnpaopjaaDoor
namespace Rows

/-- THE TIED CARD OF 'signalboxlaw10.ConfTells'. -/
def confTellsCard : Claim7 := { stood := { row := confTellsRow, standIns := [], harness := (true, "9c094a5b2dbc4e619646c0b65e5ab829738f1d0afde57dd22ef08c223d22bfa6"), looks := false }, kinds := [], alts := [], laidByText := true, laidKinds := [.data], laidTests := true, laidLooks := .later }
def ConfTellsCardSaid : Prop := Claim7.holds Tryd.pinned (.plain (OpenSpec.ofChange confTellsSpec)) confTellsCard

/-- THE TIED CARD OF 'signalboxlaw10.ConfPlays'. -/
def confPlaysCard : Claim7 := { stood := { row := confPlaysRow, standIns := [], harness := (true, "9c094a5b2dbc4e619646c0b65e5ab829738f1d0afde57dd22ef08c223d22bfa6"), looks := false }, kinds := [], alts := [], laidByText := true, laidKinds := [.data], laidTests := true, laidLooks := .later }
def ConfPlaysCardSaid : Prop := Claim7.holds Tryd.pinned (.plain (OpenSpec.ofChange confPlaysSpec)) confPlaysCard

/-- THE TIED CARD OF 'signalboxlaw10.ConfOrder'. -/
def confOrderCard : Claim7 := { stood := { row := confOrderRow, standIns := [], harness := (true, "9c094a5b2dbc4e619646c0b65e5ab829738f1d0afde57dd22ef08c223d22bfa6"), looks := false }, kinds := [], alts := [], laidByText := true, laidKinds := [.data], laidTests := true, laidLooks := .later }
def ConfOrderCardSaid : Prop := Claim7.holds Tryd.pinned (.plain (OpenSpec.ofChange confOrderSpec)) confOrderCard

/-- THE TIED CARD OF 'signalboxlaw10.ConfOff'. -/
def confOffCard : Claim7 := { stood := { row := confOffRow, standIns := [], harness := (true, "9c094a5b2dbc4e619646c0b65e5ab829738f1d0afde57dd22ef08c223d22bfa6"), looks := false }, kinds := [], alts := [], laidByText := true, laidKinds := [.data], laidTests := true, laidLooks := .later }
def ConfOffCardSaid : Prop := Claim7.holds Tryd.pinned (.plain (OpenSpec.ofChange confOffSpec)) confOffCard

/-- THE SECOND FORM's CARD OF 'signalboxlaw10.ConfTells'. -/
def confTellsUptoCard : Claim7 := { stood := { row := confTellsUptoRow, standIns := [], harness := (true, "9c094a5b2dbc4e619646c0b65e5ab829738f1d0afde57dd22ef08c223d22bfa6"), looks := false }, kinds := [], alts := [], laidByText := true, laidKinds := [.data], laidTests := true, laidLooks := .later }
def ConfTellsUptoCardSaid : Prop := Claim7.holds Tryd.pinned (.plain (OpenSpec.upto confTellsSpec)) confTellsUptoCard

/-- THE SECOND FORM's CARD OF 'signalboxlaw10.ConfPlays'. -/
def confPlaysUptoCard : Claim7 := { stood := { row := confPlaysUptoRow, standIns := [], harness := (true, "9c094a5b2dbc4e619646c0b65e5ab829738f1d0afde57dd22ef08c223d22bfa6"), looks := false }, kinds := [], alts := [], laidByText := true, laidKinds := [.data], laidTests := true, laidLooks := .later }
def ConfPlaysUptoCardSaid : Prop := Claim7.holds Tryd.pinned (.plain (OpenSpec.upto confPlaysSpec)) confPlaysUptoCard

/-- THE SECOND FORM's CARD OF 'signalboxlaw10.ConfOrder'. -/
def confOrderUptoCard : Claim7 := { stood := { row := confOrderUptoRow, standIns := [], harness := (true, "9c094a5b2dbc4e619646c0b65e5ab829738f1d0afde57dd22ef08c223d22bfa6"), looks := false }, kinds := [], alts := [], laidByText := true, laidKinds := [.data], laidTests := true, laidLooks := .later }
def ConfOrderUptoCardSaid : Prop := Claim7.holds Tryd.pinned (.plain (OpenSpec.upto confOrderSpec)) confOrderUptoCard

/-- THE SECOND FORM's CARD OF 'signalboxlaw10.ConfOff'. -/
def confOffUptoCard : Claim7 := { stood := { row := confOffUptoRow, standIns := [], harness := (true, "9c094a5b2dbc4e619646c0b65e5ab829738f1d0afde57dd22ef08c223d22bfa6"), looks := false }, kinds := [], alts := [], laidByText := true, laidKinds := [.data], laidTests := true, laidLooks := .later }
def ConfOffUptoCardSaid : Prop := Claim7.holds Tryd.pinned (.plain (OpenSpec.upto confOffSpec)) confOffUptoCard
end Rows
end Go.Proofs.YtiibaldnpaopjaaDoor
