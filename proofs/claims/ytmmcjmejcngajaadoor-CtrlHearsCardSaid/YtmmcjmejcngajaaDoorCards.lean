/-
  DERIVED. GIVEN WITH THE SEED: THE CARDS: each row of YtmmcjmejcngajaaDoorRows.lean that lists a variable, with what it lists TIED to the program's text (the seventh form; the later family's looks); each row that meets fmt, with fmt's text TOLD by the authors' own Lean function (tested against real Go, not proved from fmt's source: count such statements apart). THE CARD IS WHAT COUNTS. Prove the row's statement (the work); the ties are given (YtmmcjmejcngajaaDoorTie.lean); close each card by the builder's one call (the guide's Derived/Test/ToyasCard.lean, 'card_holds'). Laid BY PROGRAM, IN A SANDBOX (cutbox-door.mjs). By AI agents, Wed Nov 11 2026. No macro, syntax, notation, axiom, sorry.
-/
import Derived.Test.YtmmcjmejcngajaaDoorRows
import GoSem.ClaimSeven
namespace Go.Proofs.YtmmcjmejcngajaaDoor
namespace Rows

/-- THE TIED CARD OF 'signalboxlaw14.CtrlHears'. -/
def ctrlHearsCard : Claim7 := { stood := { row := ctrlHearsRow, standIns := [], harness := (true, "60589c8e4f12ddf1e59da316c302ba02fd6cf14ab076ba3226eba4cd6833445d"), looks := false }, kinds := [], alts := [], laidByText := true, laidKinds := [.data, .data], laidTests := true, laidLooks := .later }
def CtrlHearsCardSaid : Prop := Claim7.holds Tryd.pinned (.plain (OpenSpec.ofChange ctrlHearsSpec)) ctrlHearsCard

/-- THE TIED CARD OF 'signalboxlaw14.CtrlBits'. -/
def ctrlBitsCard : Claim7 := { stood := { row := ctrlBitsRow, standIns := [], harness := (true, "60589c8e4f12ddf1e59da316c302ba02fd6cf14ab076ba3226eba4cd6833445d"), looks := false }, kinds := [], alts := [], laidByText := true, laidKinds := [.data, .data], laidTests := true, laidLooks := .later }
def CtrlBitsCardSaid : Prop := Claim7.holds Tryd.pinned (.plain (OpenSpec.ofChange ctrlBitsSpec)) ctrlBitsCard

/-- THE TIED CARD OF 'signalboxlaw14.CtrlNil'. -/
def ctrlNilCard : Claim7 := { stood := { row := ctrlNilRow, standIns := [], harness := (true, "60589c8e4f12ddf1e59da316c302ba02fd6cf14ab076ba3226eba4cd6833445d"), looks := false }, kinds := [], alts := [], laidByText := true, laidKinds := [.data, .data], laidTests := true, laidLooks := .later }
def CtrlNilCardSaid : Prop := Claim7.holds Tryd.pinned (.plain (OpenSpec.ofChange ctrlNilSpec)) ctrlNilCard

/-- THE SECOND FORM's CARD OF 'signalboxlaw14.CtrlHears'. -/
def ctrlHearsUptoCard : Claim7 := { stood := { row := ctrlHearsUptoRow, standIns := [], harness := (true, "60589c8e4f12ddf1e59da316c302ba02fd6cf14ab076ba3226eba4cd6833445d"), looks := false }, kinds := [], alts := [], laidByText := true, laidKinds := [.data, .data], laidTests := true, laidLooks := .later }
def CtrlHearsUptoCardSaid : Prop := Claim7.holds Tryd.pinned (.plain (OpenSpec.upto ctrlHearsSpec)) ctrlHearsUptoCard

/-- THE SECOND FORM's CARD OF 'signalboxlaw14.CtrlBits'. -/
def ctrlBitsUptoCard : Claim7 := { stood := { row := ctrlBitsUptoRow, standIns := [], harness := (true, "60589c8e4f12ddf1e59da316c302ba02fd6cf14ab076ba3226eba4cd6833445d"), looks := false }, kinds := [], alts := [], laidByText := true, laidKinds := [.data, .data], laidTests := true, laidLooks := .later }
def CtrlBitsUptoCardSaid : Prop := Claim7.holds Tryd.pinned (.plain (OpenSpec.upto ctrlBitsSpec)) ctrlBitsUptoCard

/-- THE SECOND FORM's CARD OF 'signalboxlaw14.CtrlNil'. -/
def ctrlNilUptoCard : Claim7 := { stood := { row := ctrlNilUptoRow, standIns := [], harness := (true, "60589c8e4f12ddf1e59da316c302ba02fd6cf14ab076ba3226eba4cd6833445d"), looks := false }, kinds := [], alts := [], laidByText := true, laidKinds := [.data, .data], laidTests := true, laidLooks := .later }
def CtrlNilUptoCardSaid : Prop := Claim7.holds Tryd.pinned (.plain (OpenSpec.upto ctrlNilSpec)) ctrlNilUptoCard
end Rows
end Go.Proofs.YtmmcjmejcngajaaDoor
