/-
  NARROWER THAN 'FOR EVERY INPUT', by the rows' own cells (each row's printed sentence says how): BoxPlays: laid · BoxTurns: laid · BoxNil: laid.
  DERIVED. THE GIVEN ROWS OF THIS SEAT. 3 by the template 'for every input the law returns true; each argument reads behind the call as it read before'; 0 by the template 'total and deterministic' (their statements: YtghmidpbfpfcoaaDoorTotals.lean).
  GIVEN WITH THE SEED: the statements are not yours to turn. If you find one false, say at which input.
  Laid BY PROGRAM, IN A SANDBOX (cutbox-rows.mjs): the forced cells as the released guide's own fill.sh prints them over the translation 67613ccdf823a810… (all of the seat's roots in one cut). By AI agents, Wed Nov 11 2026. No macro, syntax, notation, axiom, sorry.
-/
import Derived.Test.YtghmidpbfpfcoaaDoorChecked
import GoSem.Claim
import GoSem.ClaimJoined
import GoSem.ClaimMapViews
import Derived.JoinedTies
import Derived.KernelRfl
namespace Go.Proofs.YtghmidpbfpfcoaaDoor
/- THE CELL 'sum', in the pinned program and in every row, IS THE sha256 OF THE DUMP (.gsa) THAT YtghmidpbfpfcoaaDoorProg.lean LOADS. Nothing in Lean hashes anything: it is a label: what it is worth is what the hold of that sum in a sandbox is worth. -/
noncomputable def Tryd.pinned : Pinned := { name := "ytghmidpbfpfcoaadoor", sum := "67613ccdf823a81098e650a6812cfdb0fffa65c13ce560050db1be276fb09912", checked := Tryd.checked }
namespace Rows
def none {H : Type} : Left H := { results := [], args := [] }

/- WHAT THE LISTED PACKAGE-LEVEL VARIABLES READ AS WHEN THE CALL BEGINS. Each datum BY PROGRAM (the guide's laid-datum.mjs) off the statement by which the dump's own 'gosem.cut.vars' lays the variable. In a bare row this is a premise. The card (YtghmidpbfpfcoaaDoorCards.lean) ties it to the program's text. -/
def laid_signalbox_frame_lengths {H : Type} : DataW H := .agg [.lit (.int .i64 0), .lit (.int .i64 1), .lit (.int .i64 2), .lit (.int .i64 3), .lit (.int .i64 4), .lit (.int .i64 5), .lit (.int .i64 6), .lit (.int .i64 7), .lit (.int .i64 8), .lit (.int .i64 12), .lit (.int .i64 16), .lit (.int .i64 20), .lit (.int .i64 24), .lit (.int .i64 32), .lit (.int .i64 48), .lit (.int .i64 64)]

/-- 'signalboxlaw13.BoxPlays': WHATEVER THE INPUT: true; the input reads as it did. -/
def boxPlaysSpec : ChangeSpec := { name := "boxPlays", fn := fun _ => fun
  | [d1, d2] => { results := [.lit (.bool true)], args := [d1, d2] }
  | _ => none }
def boxPlaysRow : OpenClaim := { program := "ytghmidpbfpfcoaadoor", sum := "67613ccdf823a81098e650a6812cfdb0fffa65c13ce560050db1be276fb09912", func := "signalbox/signalboxlaw13.BoxPlays", spec := "boxPlays", inPlace := ["slices.overlaps[int]"], unfollowed := true, recurses := true, named := ["signalbox/frame.lengths"], apart := false, laid := [("signalbox/frame.lengths", laid_signalbox_frame_lengths)] }
def BoxPlaysSaid : Prop := boxPlaysRow.holds Tryd.pinned (OpenSpec.ofChange boxPlaysSpec)

/-- ITS FALSE NEIGHBOUR: 'it returns false'. Refute it at one input. -/
def boxPlaysWrong : ChangeSpec := { name := "boxPlays", fn := fun _ => fun
  | [d1, d2] => { results := [.lit (.bool false)], args := [d1, d2] }
  | _ => none }
def BoxPlaysWrongFalsely : Prop := boxPlaysRow.holds Tryd.pinned (OpenSpec.ofChange boxPlaysWrong)

/-- 'signalboxlaw13.BoxTurns': WHATEVER THE INPUT: true; the input reads as it did. -/
def boxTurnsSpec : ChangeSpec := { name := "boxTurns", fn := fun _ => fun
  | [d] => { results := [.lit (.bool true)], args := [d] }
  | _ => none }
def boxTurnsRow : OpenClaim := { program := "ytghmidpbfpfcoaadoor", sum := "67613ccdf823a81098e650a6812cfdb0fffa65c13ce560050db1be276fb09912", func := "signalbox/signalboxlaw13.BoxTurns", spec := "boxTurns", inPlace := ["slices.overlaps[int]"], unfollowed := true, recurses := true, named := ["signalbox/frame.lengths"], apart := false, laid := [("signalbox/frame.lengths", laid_signalbox_frame_lengths)] }
def BoxTurnsSaid : Prop := boxTurnsRow.holds Tryd.pinned (OpenSpec.ofChange boxTurnsSpec)

/-- ITS FALSE NEIGHBOUR: 'it returns false'. Refute it at one input. -/
def boxTurnsWrong : ChangeSpec := { name := "boxTurns", fn := fun _ => fun
  | [d] => { results := [.lit (.bool false)], args := [d] }
  | _ => none }
def BoxTurnsWrongFalsely : Prop := boxTurnsRow.holds Tryd.pinned (OpenSpec.ofChange boxTurnsWrong)

/-- 'signalboxlaw13.BoxNil': WHATEVER THE INPUT: true; the input reads as it did. -/
def boxNilSpec : ChangeSpec := { name := "boxNil", fn := fun _ => fun
  | [d1, d2] => { results := [.lit (.bool true)], args := [d1, d2] }
  | _ => none }
def boxNilRow : OpenClaim := { program := "ytghmidpbfpfcoaadoor", sum := "67613ccdf823a81098e650a6812cfdb0fffa65c13ce560050db1be276fb09912", func := "signalbox/signalboxlaw13.BoxNil", spec := "boxNil", inPlace := ["slices.overlaps[int]"], unfollowed := true, recurses := true, named := ["signalbox/frame.lengths"], apart := false, laid := [("signalbox/frame.lengths", laid_signalbox_frame_lengths)] }
def BoxNilSaid : Prop := boxNilRow.holds Tryd.pinned (OpenSpec.ofChange boxNilSpec)

/-- ITS FALSE NEIGHBOUR: 'it returns false'. Refute it at one input. -/
def boxNilWrong : ChangeSpec := { name := "boxNil", fn := fun _ => fun
  | [d1, d2] => { results := [.lit (.bool false)], args := [d1, d2] }
  | _ => none }
def BoxNilWrongFalsely : Prop := boxNilRow.holds Tryd.pinned (OpenSpec.ofChange boxNilWrong)

/- THE SECOND FORM. 'bulk': how many values and letters a reading holds, each counted each time it is reached (what is shared counts as often as it is met; a slice's spare places count too). A statement '..UptoSaid' is the law's where the arguments, and the package variables that the reading takes, are together of bulk at most 1048576: NARROWER than '..Said'. Prove '..Said' where nothing that the law and all that it calls make is longer than what came in: it says more and counts as full. Else prove '..UptoSaid'. A law counts once. -/
mutual
def uptoBulk {H : Type} : DataW H → Nat
  | .lit (.string bytes) => bytes.length + 1
  | .lit _ => 1
  | .nil => 1
  | .ptr d => uptoBulk d + 1
  | .slice elems spare => uptoBulkAll elems + uptoBulkAll spare + 1
  | .agg parts => uptoBulkAll parts + 1
  | .iface _ d => uptoBulk d + 1
  | .map entries => uptoBulkEntries entries + 1
  | .held _ => 1
def uptoBulkAll {H : Type} : List (DataW H) → Nat
  | [] => 0
  | d :: r => uptoBulk d + uptoBulkAll r
def uptoBulkEntries {H : Type} : List (Lit × DataW H) → Nat
  | [] => 0
  | x :: r => uptoBulkEntry x + uptoBulkEntries r
def uptoBulkEntry {H : Type} : Lit × DataW H → Nat
  | (.string bytes, d) => bytes.length + uptoBulk d + 1
  | (_, d) => uptoBulk d + 1
 end
def uptoSmall : (H : Type) → List (DataW H) → Bool := fun _ ds => decide (uptoBulkAll ds ≤ 1048576)
def OpenSpec.upto (s : _root_.Go.ChangeSpec) : _root_.Go.OpenSpec := { _root_.Go.OpenSpec.ofChange s with cond := some uptoSmall }

/-- 'signalboxlaw13.BoxPlays', WHERE WHAT IT READS IS OF BULK AT MOST 1048576: true; the input reads as it did. -/
def boxPlaysUptoRow : OpenClaim := { program := "ytghmidpbfpfcoaadoor", sum := "67613ccdf823a81098e650a6812cfdb0fffa65c13ce560050db1be276fb09912", func := "signalbox/signalboxlaw13.BoxPlays", spec := "boxPlays", inPlace := ["slices.overlaps[int]"], unfollowed := true, recurses := true, named := ["signalbox/frame.lengths"], apart := false, laid := [("signalbox/frame.lengths", laid_signalbox_frame_lengths)], narrowed := true }
def BoxPlaysUptoSaid : Prop := boxPlaysUptoRow.holds Tryd.pinned (OpenSpec.upto boxPlaysSpec)

/-- 'signalboxlaw13.BoxTurns', WHERE WHAT IT READS IS OF BULK AT MOST 1048576: true; the input reads as it did. -/
def boxTurnsUptoRow : OpenClaim := { program := "ytghmidpbfpfcoaadoor", sum := "67613ccdf823a81098e650a6812cfdb0fffa65c13ce560050db1be276fb09912", func := "signalbox/signalboxlaw13.BoxTurns", spec := "boxTurns", inPlace := ["slices.overlaps[int]"], unfollowed := true, recurses := true, named := ["signalbox/frame.lengths"], apart := false, laid := [("signalbox/frame.lengths", laid_signalbox_frame_lengths)], narrowed := true }
def BoxTurnsUptoSaid : Prop := boxTurnsUptoRow.holds Tryd.pinned (OpenSpec.upto boxTurnsSpec)

/-- 'signalboxlaw13.BoxNil', WHERE WHAT IT READS IS OF BULK AT MOST 1048576: true; the input reads as it did. -/
def boxNilUptoRow : OpenClaim := { program := "ytghmidpbfpfcoaadoor", sum := "67613ccdf823a81098e650a6812cfdb0fffa65c13ce560050db1be276fb09912", func := "signalbox/signalboxlaw13.BoxNil", spec := "boxNil", inPlace := ["slices.overlaps[int]"], unfollowed := true, recurses := true, named := ["signalbox/frame.lengths"], apart := false, laid := [("signalbox/frame.lengths", laid_signalbox_frame_lengths)], narrowed := true }
def BoxNilUptoSaid : Prop := boxNilUptoRow.holds Tryd.pinned (OpenSpec.upto boxNilSpec)

end Rows
end Go.Proofs.YtghmidpbfpfcoaaDoor
