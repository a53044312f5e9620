/-
  DERIVED. GIVEN WITH THE SEED: THE CARDS: each row of YtpgfifacfkllfaaDoorRows.lean that lists a variable, with what it lists TIED to the program's text (the seventh form; the later family's looks); each row that meets fmt, with fmt's text TOLD by the authors' own Lean function (tested against real Go, not proved from fmt's source: count such statements apart). THE CARD IS WHAT COUNTS. Prove the row's statement (the work); the ties are given (YtpgfifacfkllfaaDoorTie.lean); close each card by the builder's one call (the guide's Derived/Test/ToyasCard.lean, 'card_holds'). Laid BY PROGRAM, IN A SANDBOX (cutbox-door.mjs). By AI agents, Wed Nov 11 2026. No macro, syntax, notation, axiom, sorry.
-/
import Derived.Test.YtpgfifacfkllfaaDoorRows
import GoSem.ClaimSeven
namespace Go.Proofs.YtpgfifacfkllfaaDoor
namespace Rows

/-- THE TIED CARD OF 'signalboxlaw12.BusPlays'. -/
def busPlaysCard : Claim7 := { stood := { row := busPlaysRow, standIns := [], harness := (true, "6e027788e1f91ba347fd6d63338466e74ae4cf3232f700f2206b58a546838141"), looks := false }, kinds := [], alts := [], laidByText := true, laidKinds := [.data], laidTests := true, laidLooks := .later }
def BusPlaysCardSaid : Prop := Claim7.holds Tryd.pinned (.plain (OpenSpec.ofChange busPlaysSpec)) busPlaysCard

/-- THE TIED CARD OF 'signalboxlaw12.BusLeast'. -/
def busLeastCard : Claim7 := { stood := { row := busLeastRow, standIns := [], harness := (true, "6e027788e1f91ba347fd6d63338466e74ae4cf3232f700f2206b58a546838141"), looks := false }, kinds := [], alts := [], laidByText := true, laidKinds := [.data], laidTests := true, laidLooks := .later }
def BusLeastCardSaid : Prop := Claim7.holds Tryd.pinned (.plain (OpenSpec.ofChange busLeastSpec)) busLeastCard

/-- THE TIED CARD OF 'signalboxlaw12.BusOnce'. -/
def busOnceCard : Claim7 := { stood := { row := busOnceRow, standIns := [], harness := (true, "6e027788e1f91ba347fd6d63338466e74ae4cf3232f700f2206b58a546838141"), looks := false }, kinds := [], alts := [], laidByText := true, laidKinds := [.data], laidTests := true, laidLooks := .later }
def BusOnceCardSaid : Prop := Claim7.holds Tryd.pinned (.plain (OpenSpec.ofChange busOnceSpec)) busOnceCard

/-- THE TIED CARD OF 'signalboxlaw12.BusBack'. -/
def busBackCard : Claim7 := { stood := { row := busBackRow, standIns := [], harness := (true, "6e027788e1f91ba347fd6d63338466e74ae4cf3232f700f2206b58a546838141"), looks := false }, kinds := [], alts := [], laidByText := true, laidKinds := [.data], laidTests := true, laidLooks := .later }
def BusBackCardSaid : Prop := Claim7.holds Tryd.pinned (.plain (OpenSpec.ofChange busBackSpec)) busBackCard

/-- THE TIED CARD OF 'signalboxlaw12.BusNil'. -/
def busNilCard : Claim7 := { stood := { row := busNilRow, standIns := [], harness := (true, "6e027788e1f91ba347fd6d63338466e74ae4cf3232f700f2206b58a546838141"), looks := false }, kinds := [], alts := [], laidByText := true, laidKinds := [.data], laidTests := true, laidLooks := .later }
def BusNilCardSaid : Prop := Claim7.holds Tryd.pinned (.plain (OpenSpec.ofChange busNilSpec)) busNilCard

/-- THE SECOND FORM's CARD OF 'signalboxlaw12.BusPlays'. -/
def busPlaysUptoCard : Claim7 := { stood := { row := busPlaysUptoRow, standIns := [], harness := (true, "6e027788e1f91ba347fd6d63338466e74ae4cf3232f700f2206b58a546838141"), looks := false }, kinds := [], alts := [], laidByText := true, laidKinds := [.data], laidTests := true, laidLooks := .later }
def BusPlaysUptoCardSaid : Prop := Claim7.holds Tryd.pinned (.plain (OpenSpec.upto busPlaysSpec)) busPlaysUptoCard

/-- THE SECOND FORM's CARD OF 'signalboxlaw12.BusLeast'. -/
def busLeastUptoCard : Claim7 := { stood := { row := busLeastUptoRow, standIns := [], harness := (true, "6e027788e1f91ba347fd6d63338466e74ae4cf3232f700f2206b58a546838141"), looks := false }, kinds := [], alts := [], laidByText := true, laidKinds := [.data], laidTests := true, laidLooks := .later }
def BusLeastUptoCardSaid : Prop := Claim7.holds Tryd.pinned (.plain (OpenSpec.upto busLeastSpec)) busLeastUptoCard

/-- THE SECOND FORM's CARD OF 'signalboxlaw12.BusOnce'. -/
def busOnceUptoCard : Claim7 := { stood := { row := busOnceUptoRow, standIns := [], harness := (true, "6e027788e1f91ba347fd6d63338466e74ae4cf3232f700f2206b58a546838141"), looks := false }, kinds := [], alts := [], laidByText := true, laidKinds := [.data], laidTests := true, laidLooks := .later }
def BusOnceUptoCardSaid : Prop := Claim7.holds Tryd.pinned (.plain (OpenSpec.upto busOnceSpec)) busOnceUptoCard

/-- THE SECOND FORM's CARD OF 'signalboxlaw12.BusBack'. -/
def busBackUptoCard : Claim7 := { stood := { row := busBackUptoRow, standIns := [], harness := (true, "6e027788e1f91ba347fd6d63338466e74ae4cf3232f700f2206b58a546838141"), looks := false }, kinds := [], alts := [], laidByText := true, laidKinds := [.data], laidTests := true, laidLooks := .later }
def BusBackUptoCardSaid : Prop := Claim7.holds Tryd.pinned (.plain (OpenSpec.upto busBackSpec)) busBackUptoCard

/-- THE SECOND FORM's CARD OF 'signalboxlaw12.BusNil'. -/
def busNilUptoCard : Claim7 := { stood := { row := busNilUptoRow, standIns := [], harness := (true, "6e027788e1f91ba347fd6d63338466e74ae4cf3232f700f2206b58a546838141"), looks := false }, kinds := [], alts := [], laidByText := true, laidKinds := [.data], laidTests := true, laidLooks := .later }
def BusNilUptoCardSaid : Prop := Claim7.holds Tryd.pinned (.plain (OpenSpec.upto busNilSpec)) busNilUptoCard
end Rows
end Go.Proofs.YtpgfifacfkllfaaDoor
