/-
  DERIVED. GIVEN WITH THE SEED: THE CARDS: each row of YtmmcjmejcngajaaGreatDoorRows.lean that lists a variable, with what it lists TIED to the program's text (the seventh form; the later family's looks); each row that meets fmt, with fmt's text TOLD by the authors' own Lean function (tested against real Go, not proved from fmt's source: count such statements apart). THE CARD IS WHAT COUNTS. Prove the row's statement (the work); the ties are given (YtmmcjmejcngajaaGreatDoorTie.lean); close each card by the builder's one call (the guide's Derived/Test/ToyasCard.lean, 'card_holds'). Laid BY PROGRAM, IN A SANDBOX (cutbox-door.mjs). By AI agents, Wed Nov 11 2026. No macro, syntax, notation, axiom, sorry.
-/
import Derived.Test.YtmmcjmejcngajaaGreatDoorRows
import GoSem.ClaimSeven
namespace Go.Proofs.YtmmcjmejcngajaaGreatDoor
namespace Rows

/-- THE TIED CARD OF 'signalboxlaw14.CtrlPlays'. -/
def ctrlPlaysCard : Claim7 := { stood := { row := ctrlPlaysRow, standIns := [], harness := (true, "cef00facf456b3fd0cdd2c74cf4e8a2ec766a65ce437d8163fd9151d45b3258d"), looks := false }, kinds := [], alts := [], laidByText := true, laidKinds := [.data, .data], laidTests := true, laidLooks := .later }
def CtrlPlaysCardSaid : Prop := Claim7.holds Tryz.pinned (.plain (OpenSpec.ofChange ctrlPlaysSpec)) ctrlPlaysCard

/-- THE SECOND FORM's CARD OF 'signalboxlaw14.CtrlPlays'. -/
def ctrlPlaysUptoCard : Claim7 := { stood := { row := ctrlPlaysUptoRow, standIns := [], harness := (true, "cef00facf456b3fd0cdd2c74cf4e8a2ec766a65ce437d8163fd9151d45b3258d"), looks := false }, kinds := [], alts := [], laidByText := true, laidKinds := [.data, .data], laidTests := true, laidLooks := .later }
def CtrlPlaysUptoCardSaid : Prop := Claim7.holds Tryz.pinned (.plain (OpenSpec.upto ctrlPlaysSpec)) ctrlPlaysUptoCard
end Rows
end Go.Proofs.YtmmcjmejcngajaaGreatDoor
