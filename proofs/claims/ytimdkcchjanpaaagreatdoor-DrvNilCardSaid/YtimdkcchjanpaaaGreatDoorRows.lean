/-
  NARROWER THAN 'FOR EVERY INPUT', by the rows' own cells (each row's printed sentence says how): DrvOnce: laid · DrvBusy: laid · DrvNil: laid.
  DERIVED. THE GIVEN ROWS OF THIS SEAT. 3 by the template 'for every input the law returns true; each argument reads behind the call as it read before'; 0 by the template 'total and deterministic' (their statements: YtimdkcchjanpaaaGreatDoorTotals.lean).
  GIVEN WITH THE SEED: the statements are not yours to turn. If you find one false, say at which input.
  Laid BY PROGRAM, IN A SANDBOX (cutbox-rows.mjs): the forced cells as the released guide's own fill.sh prints them over the translation a9c018184a492941… (all of the seat's roots in one cut). By AI agents, Wed Nov 11 2026. No macro, syntax, notation, axiom, sorry.
-/
import Derived.Test.YtimdkcchjanpaaaGreatDoorChecked
import GoSem.Claim
import GoSem.ClaimJoined
import GoSem.ClaimMapViews
import Derived.JoinedTies
import Derived.KernelRfl
namespace Go.Proofs.YtimdkcchjanpaaaGreatDoor
/- THE CELL 'sum', in the pinned program and in every row, IS THE sha256 OF THE DUMP (.gsa) THAT YtimdkcchjanpaaaGreatDoorProg.lean LOADS. Nothing in Lean hashes anything: it is a label: what it is worth is what the hold of that sum in a sandbox is worth. -/
noncomputable def Tryz.pinned : Pinned := { name := "ytimdkcchjanpaaagreatdoor", sum := "a9c018184a4929412a5348f61b002235005ced70d68b4148ec45ab399f941680", checked := Tryz.checked }
namespace Rows
def none {H : Type} : Left H := { results := [], args := [] }

/- WHAT THE LISTED PACKAGE-LEVEL VARIABLES READ AS WHEN THE CALL BEGINS. Each datum BY PROGRAM (the guide's laid-datum.mjs) off the statement by which the dump's own 'gosem.cut.vars' lays the variable. In a bare row this is a premise. The card (YtimdkcchjanpaaaGreatDoorCards.lean) ties it to the program's text. -/
def laid_signalbox_frame_lengths {H : Type} : DataW H := .agg [.lit (.int .i64 0), .lit (.int .i64 1), .lit (.int .i64 2), .lit (.int .i64 3), .lit (.int .i64 4), .lit (.int .i64 5), .lit (.int .i64 6), .lit (.int .i64 7), .lit (.int .i64 8), .lit (.int .i64 12), .lit (.int .i64 16), .lit (.int .i64 20), .lit (.int .i64 24), .lit (.int .i64 32), .lit (.int .i64 48), .lit (.int .i64 64)]
def laid_signalbox_frame_marks {H : Type} : DataW H := .agg [.agg [.lit (.int .i64 1), .lit (.int .u32 2147483648)], .agg [.lit (.int .i64 2), .lit (.int .u32 1073741824)], .agg [.lit (.int .i64 4), .lit (.int .u32 536870912)]]

/-- 'signalboxlaw17.DrvOnce': WHATEVER THE INPUT: true; the input reads as it did. -/
def drvOnceSpec : ChangeSpec := { name := "drvOnce", fn := fun _ => fun
  | [d1, d2] => { results := [.lit (.bool true)], args := [d1, d2] }
  | _ => none }
def drvOnceRow : OpenClaim := { program := "ytimdkcchjanpaaagreatdoor", sum := "a9c018184a4929412a5348f61b002235005ced70d68b4148ec45ab399f941680", func := "signalbox/signalboxlaw17.DrvOnce", spec := "drvOnce", inPlace := ["slices.overlaps[int]"], unfollowed := true, recurses := true, named := ["signalbox/frame.lengths", "signalbox/frame.marks"], apart := false, laid := [("signalbox/frame.lengths", laid_signalbox_frame_lengths), ("signalbox/frame.marks", laid_signalbox_frame_marks)] }
def DrvOnceSaid : Prop := drvOnceRow.holds Tryz.pinned (OpenSpec.ofChange drvOnceSpec)

/-- ITS FALSE NEIGHBOUR: 'it returns false'. Refute it at one input. -/
def drvOnceWrong : ChangeSpec := { name := "drvOnce", fn := fun _ => fun
  | [d1, d2] => { results := [.lit (.bool false)], args := [d1, d2] }
  | _ => none }
def DrvOnceWrongFalsely : Prop := drvOnceRow.holds Tryz.pinned (OpenSpec.ofChange drvOnceWrong)

/-- 'signalboxlaw17.DrvBusy': WHATEVER THE INPUT: true; the input reads as it did. -/
def drvBusySpec : ChangeSpec := { name := "drvBusy", fn := fun _ => fun
  | [d1, d2] => { results := [.lit (.bool true)], args := [d1, d2] }
  | _ => none }
def drvBusyRow : OpenClaim := { program := "ytimdkcchjanpaaagreatdoor", sum := "a9c018184a4929412a5348f61b002235005ced70d68b4148ec45ab399f941680", func := "signalbox/signalboxlaw17.DrvBusy", spec := "drvBusy", inPlace := ["slices.overlaps[int]"], unfollowed := true, recurses := true, named := ["signalbox/frame.lengths", "signalbox/frame.marks"], apart := false, laid := [("signalbox/frame.lengths", laid_signalbox_frame_lengths), ("signalbox/frame.marks", laid_signalbox_frame_marks)] }
def DrvBusySaid : Prop := drvBusyRow.holds Tryz.pinned (OpenSpec.ofChange drvBusySpec)

/-- ITS FALSE NEIGHBOUR: 'it returns false'. Refute it at one input. -/
def drvBusyWrong : ChangeSpec := { name := "drvBusy", fn := fun _ => fun
  | [d1, d2] => { results := [.lit (.bool false)], args := [d1, d2] }
  | _ => none }
def DrvBusyWrongFalsely : Prop := drvBusyRow.holds Tryz.pinned (OpenSpec.ofChange drvBusyWrong)

/-- 'signalboxlaw17.DrvNil': WHATEVER THE INPUT: true; the input reads as it did. -/
def drvNilSpec : ChangeSpec := { name := "drvNil", fn := fun _ => fun
  | [d1, d2] => { results := [.lit (.bool true)], args := [d1, d2] }
  | _ => none }
def drvNilRow : OpenClaim := { program := "ytimdkcchjanpaaagreatdoor", sum := "a9c018184a4929412a5348f61b002235005ced70d68b4148ec45ab399f941680", func := "signalbox/signalboxlaw17.DrvNil", spec := "drvNil", inPlace := ["slices.overlaps[int]"], unfollowed := true, recurses := true, named := ["signalbox/frame.lengths", "signalbox/frame.marks"], apart := false, laid := [("signalbox/frame.lengths", laid_signalbox_frame_lengths), ("signalbox/frame.marks", laid_signalbox_frame_marks)] }
def DrvNilSaid : Prop := drvNilRow.holds Tryz.pinned (OpenSpec.ofChange drvNilSpec)

/-- ITS FALSE NEIGHBOUR: 'it returns false'. Refute it at one input. -/
def drvNilWrong : ChangeSpec := { name := "drvNil", fn := fun _ => fun
  | [d1, d2] => { results := [.lit (.bool false)], args := [d1, d2] }
  | _ => none }
def DrvNilWrongFalsely : Prop := drvNilRow.holds Tryz.pinned (OpenSpec.ofChange drvNilWrong)

/- THE SECOND FORM. 'bulk': how many values and letters a reading holds, each counted each time it is reached (what is shared counts as often as it is met; a slice's spare places count too). A statement '..UptoSaid' is the law's where the arguments, and the package variables that the reading takes, are together of bulk at most 1048576: NARROWER than '..Said'. Prove '..Said' where nothing that the law and all that it calls make is longer than what came in: it says more and counts as full. Else prove '..UptoSaid'. A law counts once. -/
mutual
def uptoBulk {H : Type} : DataW H → Nat
  | .lit (.string bytes) => bytes.length + 1
  | .lit _ => 1
  | .nil => 1
  | .ptr d => uptoBulk d + 1
  | .slice elems spare => uptoBulkAll elems + uptoBulkAll spare + 1
  | .agg parts => uptoBulkAll parts + 1
  | .iface _ d => uptoBulk d + 1
  | .map entries => uptoBulkEntries entries + 1
  | .held _ => 1
def uptoBulkAll {H : Type} : List (DataW H) → Nat
  | [] => 0
  | d :: r => uptoBulk d + uptoBulkAll r
def uptoBulkEntries {H : Type} : List (Lit × DataW H) → Nat
  | [] => 0
  | x :: r => uptoBulkEntry x + uptoBulkEntries r
def uptoBulkEntry {H : Type} : Lit × DataW H → Nat
  | (.string bytes, d) => bytes.length + uptoBulk d + 1
  | (_, d) => uptoBulk d + 1
 end
def uptoSmall : (H : Type) → List (DataW H) → Bool := fun _ ds => decide (uptoBulkAll ds ≤ 1048576)
def OpenSpec.upto (s : _root_.Go.ChangeSpec) : _root_.Go.OpenSpec := { _root_.Go.OpenSpec.ofChange s with cond := some uptoSmall }

/-- 'signalboxlaw17.DrvOnce', WHERE WHAT IT READS IS OF BULK AT MOST 1048576: true; the input reads as it did. -/
def drvOnceUptoRow : OpenClaim := { program := "ytimdkcchjanpaaagreatdoor", sum := "a9c018184a4929412a5348f61b002235005ced70d68b4148ec45ab399f941680", func := "signalbox/signalboxlaw17.DrvOnce", spec := "drvOnce", inPlace := ["slices.overlaps[int]"], unfollowed := true, recurses := true, named := ["signalbox/frame.lengths", "signalbox/frame.marks"], apart := false, laid := [("signalbox/frame.lengths", laid_signalbox_frame_lengths), ("signalbox/frame.marks", laid_signalbox_frame_marks)], narrowed := true }
def DrvOnceUptoSaid : Prop := drvOnceUptoRow.holds Tryz.pinned (OpenSpec.upto drvOnceSpec)

/-- 'signalboxlaw17.DrvBusy', WHERE WHAT IT READS IS OF BULK AT MOST 1048576: true; the input reads as it did. -/
def drvBusyUptoRow : OpenClaim := { program := "ytimdkcchjanpaaagreatdoor", sum := "a9c018184a4929412a5348f61b002235005ced70d68b4148ec45ab399f941680", func := "signalbox/signalboxlaw17.DrvBusy", spec := "drvBusy", inPlace := ["slices.overlaps[int]"], unfollowed := true, recurses := true, named := ["signalbox/frame.lengths", "signalbox/frame.marks"], apart := false, laid := [("signalbox/frame.lengths", laid_signalbox_frame_lengths), ("signalbox/frame.marks", laid_signalbox_frame_marks)], narrowed := true }
def DrvBusyUptoSaid : Prop := drvBusyUptoRow.holds Tryz.pinned (OpenSpec.upto drvBusySpec)

/-- 'signalboxlaw17.DrvNil', WHERE WHAT IT READS IS OF BULK AT MOST 1048576: true; the input reads as it did. -/
def drvNilUptoRow : OpenClaim := { program := "ytimdkcchjanpaaagreatdoor", sum := "a9c018184a4929412a5348f61b002235005ced70d68b4148ec45ab399f941680", func := "signalbox/signalboxlaw17.DrvNil", spec := "drvNil", inPlace := ["slices.overlaps[int]"], unfollowed := true, recurses := true, named := ["signalbox/frame.lengths", "signalbox/frame.marks"], apart := false, laid := [("signalbox/frame.lengths", laid_signalbox_frame_lengths), ("signalbox/frame.marks", laid_signalbox_frame_marks)], narrowed := true }
def DrvNilUptoSaid : Prop := drvNilUptoRow.holds Tryz.pinned (OpenSpec.upto drvNilSpec)

end Rows
end Go.Proofs.YtimdkcchjanpaaaGreatDoor
