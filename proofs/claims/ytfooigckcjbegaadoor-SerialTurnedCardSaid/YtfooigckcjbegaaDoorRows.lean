/-
  NARROWER THAN 'FOR EVERY INPUT', by the rows' own cells (each row's printed sentence says how): SerialSends: laid · SerialHears: laid · SerialApart: laid · SerialTurned: laid.
  DERIVED. THE GIVEN ROWS OF THIS SEAT. 4 by the template 'for every input the law returns true; each argument reads behind the call as it read before'; 0 by the template 'total and deterministic' (their statements: YtfooigckcjbegaaDoorTotals.lean).
  GIVEN WITH THE SEED: the statements are not yours to turn. If you find one false, say at which input.
  Laid BY PROGRAM, IN A SANDBOX (cutbox-rows.mjs): the forced cells as the released guide's own fill.sh prints them over the translation 9ef93bf685eecadd… (all of the seat's roots in one cut). By AI agents, Wed Nov 11 2026. No macro, syntax, notation, axiom, sorry.
-/
import Derived.Test.YtfooigckcjbegaaDoorChecked
import GoSem.Claim
import GoSem.ClaimJoined
import GoSem.ClaimMapViews
import Derived.JoinedTies
import Derived.KernelRfl
namespace Go.Proofs.YtfooigckcjbegaaDoor
/- THE CELL 'sum', in the pinned program and in every row, IS THE sha256 OF THE DUMP (.gsa) THAT YtfooigckcjbegaaDoorProg.lean LOADS. Nothing in Lean hashes anything: it is a label: what it is worth is what the hold of that sum in a sandbox is worth. -/
noncomputable def Tryd.pinned : Pinned := { name := "ytfooigckcjbegaadoor", sum := "9ef93bf685eecadd4c3d570c214aacd2cb93895ef6ba956d4fb04929f128be8d", checked := Tryd.checked }
namespace Rows
def none {H : Type} : Left H := { results := [], args := [] }

/- WHAT THE LISTED PACKAGE-LEVEL VARIABLES READ AS WHEN THE CALL BEGINS. Each datum BY PROGRAM (the guide's laid-datum.mjs) off the statement by which the dump's own 'gosem.cut.vars' lays the variable. In a bare row this is a premise. The card (YtfooigckcjbegaaDoorCards.lean) ties it to the program's text. -/
def laid_signalbox_frame_lengths {H : Type} : DataW H := .agg [.lit (.int .i64 0), .lit (.int .i64 1), .lit (.int .i64 2), .lit (.int .i64 3), .lit (.int .i64 4), .lit (.int .i64 5), .lit (.int .i64 6), .lit (.int .i64 7), .lit (.int .i64 8), .lit (.int .i64 12), .lit (.int .i64 16), .lit (.int .i64 20), .lit (.int .i64 24), .lit (.int .i64 32), .lit (.int .i64 48), .lit (.int .i64 64)]

/-- 'signalboxlaw08.SerialSends': WHATEVER THE INPUT: true; the input reads as it did. -/
def serialSendsSpec : ChangeSpec := { name := "serialSends", fn := fun _ => fun
  | [d] => { results := [.lit (.bool true)], args := [d] }
  | _ => none }
def serialSendsRow : OpenClaim := { program := "ytfooigckcjbegaadoor", sum := "9ef93bf685eecadd4c3d570c214aacd2cb93895ef6ba956d4fb04929f128be8d", func := "signalbox/signalboxlaw08.SerialSends", spec := "serialSends", inPlace := ["internal/abi.NoEscape"], unfollowed := true, recurses := true, named := ["signalbox/frame.lengths"], apart := false, laid := [("signalbox/frame.lengths", laid_signalbox_frame_lengths)] }
def SerialSendsSaid : Prop := serialSendsRow.holds Tryd.pinned (OpenSpec.ofChange serialSendsSpec)

/-- ITS FALSE NEIGHBOUR: 'it returns false'. Refute it at one input. -/
def serialSendsWrong : ChangeSpec := { name := "serialSends", fn := fun _ => fun
  | [d] => { results := [.lit (.bool false)], args := [d] }
  | _ => none }
def SerialSendsWrongFalsely : Prop := serialSendsRow.holds Tryd.pinned (OpenSpec.ofChange serialSendsWrong)

/-- 'signalboxlaw08.SerialHears': WHATEVER THE INPUT: true; the input reads as it did. -/
def serialHearsSpec : ChangeSpec := { name := "serialHears", fn := fun _ => fun
  | [d] => { results := [.lit (.bool true)], args := [d] }
  | _ => none }
def serialHearsRow : OpenClaim := { program := "ytfooigckcjbegaadoor", sum := "9ef93bf685eecadd4c3d570c214aacd2cb93895ef6ba956d4fb04929f128be8d", func := "signalbox/signalboxlaw08.SerialHears", spec := "serialHears", inPlace := ["internal/abi.NoEscape"], unfollowed := true, recurses := true, named := ["signalbox/frame.lengths"], apart := false, laid := [("signalbox/frame.lengths", laid_signalbox_frame_lengths)] }
def SerialHearsSaid : Prop := serialHearsRow.holds Tryd.pinned (OpenSpec.ofChange serialHearsSpec)

/-- ITS FALSE NEIGHBOUR: 'it returns false'. Refute it at one input. -/
def serialHearsWrong : ChangeSpec := { name := "serialHears", fn := fun _ => fun
  | [d] => { results := [.lit (.bool false)], args := [d] }
  | _ => none }
def SerialHearsWrongFalsely : Prop := serialHearsRow.holds Tryd.pinned (OpenSpec.ofChange serialHearsWrong)

/-- 'signalboxlaw08.SerialApart': WHATEVER THE INPUT: true; the input reads as it did. -/
def serialApartSpec : ChangeSpec := { name := "serialApart", fn := fun _ => fun
  | [d1, d2] => { results := [.lit (.bool true)], args := [d1, d2] }
  | _ => none }
def serialApartRow : OpenClaim := { program := "ytfooigckcjbegaadoor", sum := "9ef93bf685eecadd4c3d570c214aacd2cb93895ef6ba956d4fb04929f128be8d", func := "signalbox/signalboxlaw08.SerialApart", spec := "serialApart", inPlace := ["internal/abi.NoEscape"], unfollowed := true, recurses := true, named := ["signalbox/frame.lengths"], apart := false, laid := [("signalbox/frame.lengths", laid_signalbox_frame_lengths)] }
def SerialApartSaid : Prop := serialApartRow.holds Tryd.pinned (OpenSpec.ofChange serialApartSpec)

/-- ITS FALSE NEIGHBOUR: 'it returns false'. Refute it at one input. -/
def serialApartWrong : ChangeSpec := { name := "serialApart", fn := fun _ => fun
  | [d1, d2] => { results := [.lit (.bool false)], args := [d1, d2] }
  | _ => none }
def SerialApartWrongFalsely : Prop := serialApartRow.holds Tryd.pinned (OpenSpec.ofChange serialApartWrong)

/-- 'signalboxlaw08.SerialTurned': WHATEVER THE INPUT: true; the input reads as it did. -/
def serialTurnedSpec : ChangeSpec := { name := "serialTurned", fn := fun _ => fun
  | [d1, d2] => { results := [.lit (.bool true)], args := [d1, d2] }
  | _ => none }
def serialTurnedRow : OpenClaim := { program := "ytfooigckcjbegaadoor", sum := "9ef93bf685eecadd4c3d570c214aacd2cb93895ef6ba956d4fb04929f128be8d", func := "signalbox/signalboxlaw08.SerialTurned", spec := "serialTurned", inPlace := ["internal/abi.NoEscape"], unfollowed := true, recurses := true, named := ["signalbox/frame.lengths"], apart := false, laid := [("signalbox/frame.lengths", laid_signalbox_frame_lengths)] }
def SerialTurnedSaid : Prop := serialTurnedRow.holds Tryd.pinned (OpenSpec.ofChange serialTurnedSpec)

/-- ITS FALSE NEIGHBOUR: 'it returns false'. Refute it at one input. -/
def serialTurnedWrong : ChangeSpec := { name := "serialTurned", fn := fun _ => fun
  | [d1, d2] => { results := [.lit (.bool false)], args := [d1, d2] }
  | _ => none }
def SerialTurnedWrongFalsely : Prop := serialTurnedRow.holds Tryd.pinned (OpenSpec.ofChange serialTurnedWrong)

/- THE SECOND FORM. 'bulk': how many values and letters a reading holds, each counted each time it is reached (what is shared counts as often as it is met; a slice's spare places count too). A statement '..UptoSaid' is the law's where the arguments, and the package variables that the reading takes, are together of bulk at most 1048576: NARROWER than '..Said'. Prove '..Said' where nothing that the law and all that it calls make is longer than what came in: it says more and counts as full. Else prove '..UptoSaid'. A law counts once. -/
mutual
def uptoBulk {H : Type} : DataW H → Nat
  | .lit (.string bytes) => bytes.length + 1
  | .lit _ => 1
  | .nil => 1
  | .ptr d => uptoBulk d + 1
  | .slice elems spare => uptoBulkAll elems + uptoBulkAll spare + 1
  | .agg parts => uptoBulkAll parts + 1
  | .iface _ d => uptoBulk d + 1
  | .map entries => uptoBulkEntries entries + 1
  | .held _ => 1
def uptoBulkAll {H : Type} : List (DataW H) → Nat
  | [] => 0
  | d :: r => uptoBulk d + uptoBulkAll r
def uptoBulkEntries {H : Type} : List (Lit × DataW H) → Nat
  | [] => 0
  | x :: r => uptoBulkEntry x + uptoBulkEntries r
def uptoBulkEntry {H : Type} : Lit × DataW H → Nat
  | (.string bytes, d) => bytes.length + uptoBulk d + 1
  | (_, d) => uptoBulk d + 1
 end
def uptoSmall : (H : Type) → List (DataW H) → Bool := fun _ ds => decide (uptoBulkAll ds ≤ 1048576)
def OpenSpec.upto (s : _root_.Go.ChangeSpec) : _root_.Go.OpenSpec := { _root_.Go.OpenSpec.ofChange s with cond := some uptoSmall }

/-- 'signalboxlaw08.SerialSends', WHERE WHAT IT READS IS OF BULK AT MOST 1048576: true; the input reads as it did. -/
def serialSendsUptoRow : OpenClaim := { program := "ytfooigckcjbegaadoor", sum := "9ef93bf685eecadd4c3d570c214aacd2cb93895ef6ba956d4fb04929f128be8d", func := "signalbox/signalboxlaw08.SerialSends", spec := "serialSends", inPlace := ["internal/abi.NoEscape"], unfollowed := true, recurses := true, named := ["signalbox/frame.lengths"], apart := false, laid := [("signalbox/frame.lengths", laid_signalbox_frame_lengths)], narrowed := true }
def SerialSendsUptoSaid : Prop := serialSendsUptoRow.holds Tryd.pinned (OpenSpec.upto serialSendsSpec)

/-- 'signalboxlaw08.SerialHears', WHERE WHAT IT READS IS OF BULK AT MOST 1048576: true; the input reads as it did. -/
def serialHearsUptoRow : OpenClaim := { program := "ytfooigckcjbegaadoor", sum := "9ef93bf685eecadd4c3d570c214aacd2cb93895ef6ba956d4fb04929f128be8d", func := "signalbox/signalboxlaw08.SerialHears", spec := "serialHears", inPlace := ["internal/abi.NoEscape"], unfollowed := true, recurses := true, named := ["signalbox/frame.lengths"], apart := false, laid := [("signalbox/frame.lengths", laid_signalbox_frame_lengths)], narrowed := true }
def SerialHearsUptoSaid : Prop := serialHearsUptoRow.holds Tryd.pinned (OpenSpec.upto serialHearsSpec)

/-- 'signalboxlaw08.SerialApart', WHERE WHAT IT READS IS OF BULK AT MOST 1048576: true; the input reads as it did. -/
def serialApartUptoRow : OpenClaim := { program := "ytfooigckcjbegaadoor", sum := "9ef93bf685eecadd4c3d570c214aacd2cb93895ef6ba956d4fb04929f128be8d", func := "signalbox/signalboxlaw08.SerialApart", spec := "serialApart", inPlace := ["internal/abi.NoEscape"], unfollowed := true, recurses := true, named := ["signalbox/frame.lengths"], apart := false, laid := [("signalbox/frame.lengths", laid_signalbox_frame_lengths)], narrowed := true }
def SerialApartUptoSaid : Prop := serialApartUptoRow.holds Tryd.pinned (OpenSpec.upto serialApartSpec)

/-- 'signalboxlaw08.SerialTurned', WHERE WHAT IT READS IS OF BULK AT MOST 1048576: true; the input reads as it did. -/
def serialTurnedUptoRow : OpenClaim := { program := "ytfooigckcjbegaadoor", sum := "9ef93bf685eecadd4c3d570c214aacd2cb93895ef6ba956d4fb04929f128be8d", func := "signalbox/signalboxlaw08.SerialTurned", spec := "serialTurned", inPlace := ["internal/abi.NoEscape"], unfollowed := true, recurses := true, named := ["signalbox/frame.lengths"], apart := false, laid := [("signalbox/frame.lengths", laid_signalbox_frame_lengths)], narrowed := true }
def SerialTurnedUptoSaid : Prop := serialTurnedUptoRow.holds Tryd.pinned (OpenSpec.upto serialTurnedSpec)

end Rows
end Go.Proofs.YtfooigckcjbegaaDoor
