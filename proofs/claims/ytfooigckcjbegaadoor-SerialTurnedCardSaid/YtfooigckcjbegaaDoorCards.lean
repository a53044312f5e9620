/-
  DERIVED. GIVEN WITH THE SEED: THE CARDS: each row of YtfooigckcjbegaaDoorRows.lean that lists a variable, with what it lists TIED to the program's text (the seventh form; the later family's looks); each row that meets fmt, with fmt's text TOLD by the authors' own Lean function (tested against real Go, not proved from fmt's source: count such statements apart). THE CARD IS WHAT COUNTS. Prove the row's statement (the work); the ties are given (YtfooigckcjbegaaDoorTie.lean); close each card by the builder's one call (the guide's Derived/Test/ToyasCard.lean, 'card_holds'). Laid BY PROGRAM, IN A SANDBOX (cutbox-door.mjs). By AI agents, Wed Nov 11 2026. No macro, syntax, notation, axiom, sorry.
-/
import Derived.Test.YtfooigckcjbegaaDoorRows
import GoSem.ClaimSeven
namespace Go.Proofs.YtfooigckcjbegaaDoor
namespace Rows

/-- THE TIED CARD OF 'signalboxlaw08.SerialSends'. -/
def serialSendsCard : Claim7 := { stood := { row := serialSendsRow, standIns := [], harness := (true, "e064d5a259d048043ab04ec0da28ad6ce58ec1665a4038cd1ce0c149850e5fcf"), looks := true }, kinds := [], alts := [], laidByText := true, laidKinds := [.data], laidTests := true, laidLooks := .later }
def SerialSendsCardSaid : Prop := Claim7.holds Tryd.pinned (.plain (OpenSpec.ofChange serialSendsSpec)) serialSendsCard

/-- THE TIED CARD OF 'signalboxlaw08.SerialHears'. -/
def serialHearsCard : Claim7 := { stood := { row := serialHearsRow, standIns := [], harness := (true, "e064d5a259d048043ab04ec0da28ad6ce58ec1665a4038cd1ce0c149850e5fcf"), looks := true }, kinds := [], alts := [], laidByText := true, laidKinds := [.data], laidTests := true, laidLooks := .later }
def SerialHearsCardSaid : Prop := Claim7.holds Tryd.pinned (.plain (OpenSpec.ofChange serialHearsSpec)) serialHearsCard

/-- THE TIED CARD OF 'signalboxlaw08.SerialApart'. -/
def serialApartCard : Claim7 := { stood := { row := serialApartRow, standIns := [], harness := (true, "e064d5a259d048043ab04ec0da28ad6ce58ec1665a4038cd1ce0c149850e5fcf"), looks := true }, kinds := [], alts := [], laidByText := true, laidKinds := [.data], laidTests := true, laidLooks := .later }
def SerialApartCardSaid : Prop := Claim7.holds Tryd.pinned (.plain (OpenSpec.ofChange serialApartSpec)) serialApartCard

/-- THE TIED CARD OF 'signalboxlaw08.SerialTurned'. -/
def serialTurnedCard : Claim7 := { stood := { row := serialTurnedRow, standIns := [], harness := (true, "e064d5a259d048043ab04ec0da28ad6ce58ec1665a4038cd1ce0c149850e5fcf"), looks := true }, kinds := [], alts := [], laidByText := true, laidKinds := [.data], laidTests := true, laidLooks := .later }
def SerialTurnedCardSaid : Prop := Claim7.holds Tryd.pinned (.plain (OpenSpec.ofChange serialTurnedSpec)) serialTurnedCard

/-- THE SECOND FORM's CARD OF 'signalboxlaw08.SerialSends'. -/
def serialSendsUptoCard : Claim7 := { stood := { row := serialSendsUptoRow, standIns := [], harness := (true, "e064d5a259d048043ab04ec0da28ad6ce58ec1665a4038cd1ce0c149850e5fcf"), looks := true }, kinds := [], alts := [], laidByText := true, laidKinds := [.data], laidTests := true, laidLooks := .later }
def SerialSendsUptoCardSaid : Prop := Claim7.holds Tryd.pinned (.plain (OpenSpec.upto serialSendsSpec)) serialSendsUptoCard

/-- THE SECOND FORM's CARD OF 'signalboxlaw08.SerialHears'. -/
def serialHearsUptoCard : Claim7 := { stood := { row := serialHearsUptoRow, standIns := [], harness := (true, "e064d5a259d048043ab04ec0da28ad6ce58ec1665a4038cd1ce0c149850e5fcf"), looks := true }, kinds := [], alts := [], laidByText := true, laidKinds := [.data], laidTests := true, laidLooks := .later }
def SerialHearsUptoCardSaid : Prop := Claim7.holds Tryd.pinned (.plain (OpenSpec.upto serialHearsSpec)) serialHearsUptoCard

/-- THE SECOND FORM's CARD OF 'signalboxlaw08.SerialApart'. -/
def serialApartUptoCard : Claim7 := { stood := { row := serialApartUptoRow, standIns := [], harness := (true, "e064d5a259d048043ab04ec0da28ad6ce58ec1665a4038cd1ce0c149850e5fcf"), looks := true }, kinds := [], alts := [], laidByText := true, laidKinds := [.data], laidTests := true, laidLooks := .later }
def SerialApartUptoCardSaid : Prop := Claim7.holds Tryd.pinned (.plain (OpenSpec.upto serialApartSpec)) serialApartUptoCard

/-- THE SECOND FORM's CARD OF 'signalboxlaw08.SerialTurned'. -/
def serialTurnedUptoCard : Claim7 := { stood := { row := serialTurnedUptoRow, standIns := [], harness := (true, "e064d5a259d048043ab04ec0da28ad6ce58ec1665a4038cd1ce0c149850e5fcf"), looks := true }, kinds := [], alts := [], laidByText := true, laidKinds := [.data], laidTests := true, laidLooks := .later }
def SerialTurnedUptoCardSaid : Prop := Claim7.holds Tryd.pinned (.plain (OpenSpec.upto serialTurnedSpec)) serialTurnedUptoCard
end Rows
end Go.Proofs.YtfooigckcjbegaaDoor
