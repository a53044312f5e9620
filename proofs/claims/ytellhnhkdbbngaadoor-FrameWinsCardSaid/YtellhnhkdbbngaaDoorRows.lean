/-
  NARROWER THAN 'FOR EVERY INPUT', by the rows' own cells (each row's printed sentence says how): FrameRight: laid · FrameSizes: laid · FrameOf: laid · FrameBack: laid · FrameKeys: laid · FrameOrder: laid · FrameWins: laid.
  DERIVED. THE GIVEN ROWS OF THIS SEAT. 7 by the template 'for every input the law returns true; each argument reads behind the call as it read before'; 0 by the template 'total and deterministic' (their statements: YtellhnhkdbbngaaDoorTotals.lean).
  GIVEN WITH THE SEED: the statements are not yours to turn. If you find one false, say at which input.
  Laid BY PROGRAM, IN A SANDBOX (cutbox-rows.mjs): the forced cells as the released guide's own fill.sh prints them over the translation d69be916cb8d9966… (all of the seat's roots in one cut). By AI agents, Wed Nov 11 2026. No macro, syntax, notation, axiom, sorry.
-/
import Derived.Test.YtellhnhkdbbngaaDoorChecked
import GoSem.Claim
import GoSem.ClaimJoined
import GoSem.ClaimMapViews
import Derived.JoinedTies
import Derived.KernelRfl
namespace Go.Proofs.YtellhnhkdbbngaaDoor
/- THE CELL 'sum', in the pinned program and in every row, IS THE sha256 OF THE DUMP (.gsa) THAT YtellhnhkdbbngaaDoorProg.lean LOADS. Nothing in Lean hashes anything: it is a label: what it is worth is what the hold of that sum in a sandbox is worth. -/
noncomputable def Tryd.pinned : Pinned := { name := "ytellhnhkdbbngaadoor", sum := "d69be916cb8d9966ca1b5bc0756f2981d5425876c7df9252e7f718ad918cd3e1", checked := Tryd.checked }
namespace Rows
def none {H : Type} : Left H := { results := [], args := [] }

/- WHAT THE LISTED PACKAGE-LEVEL VARIABLES READ AS WHEN THE CALL BEGINS. Each datum BY PROGRAM (the guide's laid-datum.mjs) off the statement by which the dump's own 'gosem.cut.vars' lays the variable. In a bare row this is a premise. The card (YtellhnhkdbbngaaDoorCards.lean) ties it to the program's text. -/
def laid_signalbox_frame_lengths {H : Type} : DataW H := .agg [.lit (.int .i64 0), .lit (.int .i64 1), .lit (.int .i64 2), .lit (.int .i64 3), .lit (.int .i64 4), .lit (.int .i64 5), .lit (.int .i64 6), .lit (.int .i64 7), .lit (.int .i64 8), .lit (.int .i64 12), .lit (.int .i64 16), .lit (.int .i64 20), .lit (.int .i64 24), .lit (.int .i64 32), .lit (.int .i64 48), .lit (.int .i64 64)]
def laid_signalbox_frame_marks {H : Type} : DataW H := .agg [.agg [.lit (.int .i64 1), .lit (.int .u32 2147483648)], .agg [.lit (.int .i64 2), .lit (.int .u32 1073741824)], .agg [.lit (.int .i64 4), .lit (.int .u32 536870912)]]

/-- 'signalboxlaw02.FrameRight': WHATEVER THE INPUT: true; the input reads as it did. -/
def frameRightSpec : ChangeSpec := { name := "frameRight", fn := fun _ => fun
  | [d] => { results := [.lit (.bool true)], args := [d] }
  | _ => none }
def frameRightRow : OpenClaim := { program := "ytellhnhkdbbngaadoor", sum := "d69be916cb8d9966ca1b5bc0756f2981d5425876c7df9252e7f718ad918cd3e1", func := "signalbox/signalboxlaw02.FrameRight", spec := "frameRight", unfollowed := true, recurses := true, named := ["signalbox/frame.lengths", "signalbox/frame.marks"], apart := false, laid := [("signalbox/frame.lengths", laid_signalbox_frame_lengths), ("signalbox/frame.marks", laid_signalbox_frame_marks)] }
def FrameRightSaid : Prop := frameRightRow.holds Tryd.pinned (OpenSpec.ofChange frameRightSpec)

/-- ITS FALSE NEIGHBOUR: 'it returns false'. Refute it at one input. -/
def frameRightWrong : ChangeSpec := { name := "frameRight", fn := fun _ => fun
  | [d] => { results := [.lit (.bool false)], args := [d] }
  | _ => none }
def FrameRightWrongFalsely : Prop := frameRightRow.holds Tryd.pinned (OpenSpec.ofChange frameRightWrong)

/-- 'signalboxlaw02.FrameSizes': WHATEVER THE INPUT: true; the input reads as it did. -/
def frameSizesSpec : ChangeSpec := { name := "frameSizes", fn := fun _ => fun
  | [d] => { results := [.lit (.bool true)], args := [d] }
  | _ => none }
def frameSizesRow : OpenClaim := { program := "ytellhnhkdbbngaadoor", sum := "d69be916cb8d9966ca1b5bc0756f2981d5425876c7df9252e7f718ad918cd3e1", func := "signalbox/signalboxlaw02.FrameSizes", spec := "frameSizes", unfollowed := true, recurses := true, named := ["signalbox/frame.lengths", "signalbox/frame.marks"], apart := false, laid := [("signalbox/frame.lengths", laid_signalbox_frame_lengths), ("signalbox/frame.marks", laid_signalbox_frame_marks)] }
def FrameSizesSaid : Prop := frameSizesRow.holds Tryd.pinned (OpenSpec.ofChange frameSizesSpec)

/-- ITS FALSE NEIGHBOUR: 'it returns false'. Refute it at one input. -/
def frameSizesWrong : ChangeSpec := { name := "frameSizes", fn := fun _ => fun
  | [d] => { results := [.lit (.bool false)], args := [d] }
  | _ => none }
def FrameSizesWrongFalsely : Prop := frameSizesRow.holds Tryd.pinned (OpenSpec.ofChange frameSizesWrong)

/-- 'signalboxlaw02.FrameOf': WHATEVER THE INPUT: true; the input reads as it did. -/
def frameOfSpec : ChangeSpec := { name := "frameOf", fn := fun _ => fun
  | [d1, d2] => { results := [.lit (.bool true)], args := [d1, d2] }
  | _ => none }
def frameOfRow : OpenClaim := { program := "ytellhnhkdbbngaadoor", sum := "d69be916cb8d9966ca1b5bc0756f2981d5425876c7df9252e7f718ad918cd3e1", func := "signalbox/signalboxlaw02.FrameOf", spec := "frameOf", unfollowed := true, recurses := true, named := ["signalbox/frame.lengths", "signalbox/frame.marks"], apart := false, laid := [("signalbox/frame.lengths", laid_signalbox_frame_lengths), ("signalbox/frame.marks", laid_signalbox_frame_marks)] }
def FrameOfSaid : Prop := frameOfRow.holds Tryd.pinned (OpenSpec.ofChange frameOfSpec)

/-- ITS FALSE NEIGHBOUR: 'it returns false'. Refute it at one input. -/
def frameOfWrong : ChangeSpec := { name := "frameOf", fn := fun _ => fun
  | [d1, d2] => { results := [.lit (.bool false)], args := [d1, d2] }
  | _ => none }
def FrameOfWrongFalsely : Prop := frameOfRow.holds Tryd.pinned (OpenSpec.ofChange frameOfWrong)

/-- 'signalboxlaw02.FrameBack': WHATEVER THE INPUT: true; the input reads as it did. -/
def frameBackSpec : ChangeSpec := { name := "frameBack", fn := fun _ => fun
  | [d] => { results := [.lit (.bool true)], args := [d] }
  | _ => none }
def frameBackRow : OpenClaim := { program := "ytellhnhkdbbngaadoor", sum := "d69be916cb8d9966ca1b5bc0756f2981d5425876c7df9252e7f718ad918cd3e1", func := "signalbox/signalboxlaw02.FrameBack", spec := "frameBack", unfollowed := true, recurses := true, named := ["signalbox/frame.lengths", "signalbox/frame.marks"], apart := false, laid := [("signalbox/frame.lengths", laid_signalbox_frame_lengths), ("signalbox/frame.marks", laid_signalbox_frame_marks)] }
def FrameBackSaid : Prop := frameBackRow.holds Tryd.pinned (OpenSpec.ofChange frameBackSpec)

/-- ITS FALSE NEIGHBOUR: 'it returns false'. Refute it at one input. -/
def frameBackWrong : ChangeSpec := { name := "frameBack", fn := fun _ => fun
  | [d] => { results := [.lit (.bool false)], args := [d] }
  | _ => none }
def FrameBackWrongFalsely : Prop := frameBackRow.holds Tryd.pinned (OpenSpec.ofChange frameBackWrong)

/-- 'signalboxlaw02.FrameKeys': WHATEVER THE INPUT: true; the input reads as it did. -/
def frameKeysSpec : ChangeSpec := { name := "frameKeys", fn := fun _ => fun
  | [d1, d2] => { results := [.lit (.bool true)], args := [d1, d2] }
  | _ => none }
def frameKeysRow : OpenClaim := { program := "ytellhnhkdbbngaadoor", sum := "d69be916cb8d9966ca1b5bc0756f2981d5425876c7df9252e7f718ad918cd3e1", func := "signalbox/signalboxlaw02.FrameKeys", spec := "frameKeys", unfollowed := true, recurses := true, named := ["signalbox/frame.lengths", "signalbox/frame.marks"], apart := false, laid := [("signalbox/frame.lengths", laid_signalbox_frame_lengths), ("signalbox/frame.marks", laid_signalbox_frame_marks)] }
def FrameKeysSaid : Prop := frameKeysRow.holds Tryd.pinned (OpenSpec.ofChange frameKeysSpec)

/-- ITS FALSE NEIGHBOUR: 'it returns false'. Refute it at one input. -/
def frameKeysWrong : ChangeSpec := { name := "frameKeys", fn := fun _ => fun
  | [d1, d2] => { results := [.lit (.bool false)], args := [d1, d2] }
  | _ => none }
def FrameKeysWrongFalsely : Prop := frameKeysRow.holds Tryd.pinned (OpenSpec.ofChange frameKeysWrong)

/-- 'signalboxlaw02.FrameOrder': WHATEVER THE INPUT: true; the input reads as it did. -/
def frameOrderSpec : ChangeSpec := { name := "frameOrder", fn := fun _ => fun
  | [d1, d2, d3] => { results := [.lit (.bool true)], args := [d1, d2, d3] }
  | _ => none }
def frameOrderRow : OpenClaim := { program := "ytellhnhkdbbngaadoor", sum := "d69be916cb8d9966ca1b5bc0756f2981d5425876c7df9252e7f718ad918cd3e1", func := "signalbox/signalboxlaw02.FrameOrder", spec := "frameOrder", unfollowed := true, recurses := true, named := ["signalbox/frame.lengths", "signalbox/frame.marks"], apart := false, laid := [("signalbox/frame.lengths", laid_signalbox_frame_lengths), ("signalbox/frame.marks", laid_signalbox_frame_marks)] }
def FrameOrderSaid : Prop := frameOrderRow.holds Tryd.pinned (OpenSpec.ofChange frameOrderSpec)

/-- ITS FALSE NEIGHBOUR: 'it returns false'. Refute it at one input. -/
def frameOrderWrong : ChangeSpec := { name := "frameOrder", fn := fun _ => fun
  | [d1, d2, d3] => { results := [.lit (.bool false)], args := [d1, d2, d3] }
  | _ => none }
def FrameOrderWrongFalsely : Prop := frameOrderRow.holds Tryd.pinned (OpenSpec.ofChange frameOrderWrong)

/-- 'signalboxlaw02.FrameWins': WHATEVER THE INPUT: true; the input reads as it did. -/
def frameWinsSpec : ChangeSpec := { name := "frameWins", fn := fun _ => fun
  | [d1, d2, d3] => { results := [.lit (.bool true)], args := [d1, d2, d3] }
  | _ => none }
def frameWinsRow : OpenClaim := { program := "ytellhnhkdbbngaadoor", sum := "d69be916cb8d9966ca1b5bc0756f2981d5425876c7df9252e7f718ad918cd3e1", func := "signalbox/signalboxlaw02.FrameWins", spec := "frameWins", unfollowed := true, recurses := true, named := ["signalbox/frame.lengths", "signalbox/frame.marks"], apart := false, laid := [("signalbox/frame.lengths", laid_signalbox_frame_lengths), ("signalbox/frame.marks", laid_signalbox_frame_marks)] }
def FrameWinsSaid : Prop := frameWinsRow.holds Tryd.pinned (OpenSpec.ofChange frameWinsSpec)

/-- ITS FALSE NEIGHBOUR: 'it returns false'. Refute it at one input. -/
def frameWinsWrong : ChangeSpec := { name := "frameWins", fn := fun _ => fun
  | [d1, d2, d3] => { results := [.lit (.bool false)], args := [d1, d2, d3] }
  | _ => none }
def FrameWinsWrongFalsely : Prop := frameWinsRow.holds Tryd.pinned (OpenSpec.ofChange frameWinsWrong)

/- THE SECOND FORM. 'bulk': how many values and letters a reading holds, each counted each time it is reached (what is shared counts as often as it is met; a slice's spare places count too). A statement '..UptoSaid' is the law's where the arguments, and the package variables that the reading takes, are together of bulk at most 1048576: NARROWER than '..Said'. Prove '..Said' where nothing that the law and all that it calls make is longer than what came in: it says more and counts as full. Else prove '..UptoSaid'. A law counts once. -/
mutual
def uptoBulk {H : Type} : DataW H → Nat
  | .lit (.string bytes) => bytes.length + 1
  | .lit _ => 1
  | .nil => 1
  | .ptr d => uptoBulk d + 1
  | .slice elems spare => uptoBulkAll elems + uptoBulkAll spare + 1
  | .agg parts => uptoBulkAll parts + 1
  | .iface _ d => uptoBulk d + 1
  | .map entries => uptoBulkEntries entries + 1
  | .held _ => 1
def uptoBulkAll {H : Type} : List (DataW H) → Nat
  | [] => 0
  | d :: r => uptoBulk d + uptoBulkAll r
def uptoBulkEntries {H : Type} : List (Lit × DataW H) → Nat
  | [] => 0
  | x :: r => uptoBulkEntry x + uptoBulkEntries r
def uptoBulkEntry {H : Type} : Lit × DataW H → Nat
  | (.string bytes, d) => bytes.length + uptoBulk d + 1
  | (_, d) => uptoBulk d + 1
 end
def uptoSmall : (H : Type) → List (DataW H) → Bool := fun _ ds => decide (uptoBulkAll ds ≤ 1048576)
def OpenSpec.upto (s : _root_.Go.ChangeSpec) : _root_.Go.OpenSpec := { _root_.Go.OpenSpec.ofChange s with cond := some uptoSmall }

/-- 'signalboxlaw02.FrameRight', WHERE WHAT IT READS IS OF BULK AT MOST 1048576: true; the input reads as it did. -/
def frameRightUptoRow : OpenClaim := { program := "ytellhnhkdbbngaadoor", sum := "d69be916cb8d9966ca1b5bc0756f2981d5425876c7df9252e7f718ad918cd3e1", func := "signalbox/signalboxlaw02.FrameRight", spec := "frameRight", unfollowed := true, recurses := true, named := ["signalbox/frame.lengths", "signalbox/frame.marks"], apart := false, laid := [("signalbox/frame.lengths", laid_signalbox_frame_lengths), ("signalbox/frame.marks", laid_signalbox_frame_marks)], narrowed := true }
def FrameRightUptoSaid : Prop := frameRightUptoRow.holds Tryd.pinned (OpenSpec.upto frameRightSpec)

/-- 'signalboxlaw02.FrameSizes', WHERE WHAT IT READS IS OF BULK AT MOST 1048576: true; the input reads as it did. -/
def frameSizesUptoRow : OpenClaim := { program := "ytellhnhkdbbngaadoor", sum := "d69be916cb8d9966ca1b5bc0756f2981d5425876c7df9252e7f718ad918cd3e1", func := "signalbox/signalboxlaw02.FrameSizes", spec := "frameSizes", unfollowed := true, recurses := true, named := ["signalbox/frame.lengths", "signalbox/frame.marks"], apart := false, laid := [("signalbox/frame.lengths", laid_signalbox_frame_lengths), ("signalbox/frame.marks", laid_signalbox_frame_marks)], narrowed := true }
def FrameSizesUptoSaid : Prop := frameSizesUptoRow.holds Tryd.pinned (OpenSpec.upto frameSizesSpec)

/-- 'signalboxlaw02.FrameOf', WHERE WHAT IT READS IS OF BULK AT MOST 1048576: true; the input reads as it did. -/
def frameOfUptoRow : OpenClaim := { program := "ytellhnhkdbbngaadoor", sum := "d69be916cb8d9966ca1b5bc0756f2981d5425876c7df9252e7f718ad918cd3e1", func := "signalbox/signalboxlaw02.FrameOf", spec := "frameOf", unfollowed := true, recurses := true, named := ["signalbox/frame.lengths", "signalbox/frame.marks"], apart := false, laid := [("signalbox/frame.lengths", laid_signalbox_frame_lengths), ("signalbox/frame.marks", laid_signalbox_frame_marks)], narrowed := true }
def FrameOfUptoSaid : Prop := frameOfUptoRow.holds Tryd.pinned (OpenSpec.upto frameOfSpec)

/-- 'signalboxlaw02.FrameBack', WHERE WHAT IT READS IS OF BULK AT MOST 1048576: true; the input reads as it did. -/
def frameBackUptoRow : OpenClaim := { program := "ytellhnhkdbbngaadoor", sum := "d69be916cb8d9966ca1b5bc0756f2981d5425876c7df9252e7f718ad918cd3e1", func := "signalbox/signalboxlaw02.FrameBack", spec := "frameBack", unfollowed := true, recurses := true, named := ["signalbox/frame.lengths", "signalbox/frame.marks"], apart := false, laid := [("signalbox/frame.lengths", laid_signalbox_frame_lengths), ("signalbox/frame.marks", laid_signalbox_frame_marks)], narrowed := true }
def FrameBackUptoSaid : Prop := frameBackUptoRow.holds Tryd.pinned (OpenSpec.upto frameBackSpec)

/-- 'signalboxlaw02.FrameKeys', WHERE WHAT IT READS IS OF BULK AT MOST 1048576: true; the input reads as it did. -/
def frameKeysUptoRow : OpenClaim := { program := "ytellhnhkdbbngaadoor", sum := "d69be916cb8d9966ca1b5bc0756f2981d5425876c7df9252e7f718ad918cd3e1", func := "signalbox/signalboxlaw02.FrameKeys", spec := "frameKeys", unfollowed := true, recurses := true, named := ["signalbox/frame.lengths", "signalbox/frame.marks"], apart := false, laid := [("signalbox/frame.lengths", laid_signalbox_frame_lengths), ("signalbox/frame.marks", laid_signalbox_frame_marks)], narrowed := true }
def FrameKeysUptoSaid : Prop := frameKeysUptoRow.holds Tryd.pinned (OpenSpec.upto frameKeysSpec)

/-- 'signalboxlaw02.FrameOrder', WHERE WHAT IT READS IS OF BULK AT MOST 1048576: true; the input reads as it did. -/
def frameOrderUptoRow : OpenClaim := { program := "ytellhnhkdbbngaadoor", sum := "d69be916cb8d9966ca1b5bc0756f2981d5425876c7df9252e7f718ad918cd3e1", func := "signalbox/signalboxlaw02.FrameOrder", spec := "frameOrder", unfollowed := true, recurses := true, named := ["signalbox/frame.lengths", "signalbox/frame.marks"], apart := false, laid := [("signalbox/frame.lengths", laid_signalbox_frame_lengths), ("signalbox/frame.marks", laid_signalbox_frame_marks)], narrowed := true }
def FrameOrderUptoSaid : Prop := frameOrderUptoRow.holds Tryd.pinned (OpenSpec.upto frameOrderSpec)

/-- 'signalboxlaw02.FrameWins', WHERE WHAT IT READS IS OF BULK AT MOST 1048576: true; the input reads as it did. -/
def frameWinsUptoRow : OpenClaim := { program := "ytellhnhkdbbngaadoor", sum := "d69be916cb8d9966ca1b5bc0756f2981d5425876c7df9252e7f718ad918cd3e1", func := "signalbox/signalboxlaw02.FrameWins", spec := "frameWins", unfollowed := true, recurses := true, named := ["signalbox/frame.lengths", "signalbox/frame.marks"], apart := false, laid := [("signalbox/frame.lengths", laid_signalbox_frame_lengths), ("signalbox/frame.marks", laid_signalbox_frame_marks)], narrowed := true }
def FrameWinsUptoSaid : Prop := frameWinsUptoRow.holds Tryd.pinned (OpenSpec.upto frameWinsSpec)

end Rows
end Go.Proofs.YtellhnhkdbbngaaDoor
