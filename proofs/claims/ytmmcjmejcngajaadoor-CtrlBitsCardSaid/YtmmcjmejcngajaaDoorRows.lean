/-
  NARROWER THAN 'FOR EVERY INPUT', by the rows' own cells (each row's printed sentence says how): CtrlHears: laid · CtrlBits: laid · CtrlNil: laid.
  DERIVED. THE GIVEN ROWS OF THIS SEAT. 3 by the template 'for every input the law returns true; each argument reads behind the call as it read before'; 0 by the template 'total and deterministic' (their statements: YtmmcjmejcngajaaDoorTotals.lean).
  GIVEN WITH THE SEED: the statements are not yours to turn. If you find one false, say at which input.
  Laid BY PROGRAM, IN A SANDBOX (cutbox-rows.mjs): the forced cells as the released guide's own fill.sh prints them over the translation ace9f11da9de7937… (all of the seat's roots in one cut). By AI agents, Wed Nov 11 2026. No macro, syntax, notation, axiom, sorry.
-/
import Derived.Test.YtmmcjmejcngajaaDoorChecked
import GoSem.Claim
import GoSem.ClaimJoined
import GoSem.ClaimMapViews
import Derived.JoinedTies
import Derived.KernelRfl
namespace Go.Proofs.YtmmcjmejcngajaaDoor
/- THE CELL 'sum', in the pinned program and in every row, IS THE sha256 OF THE DUMP (.gsa) THAT YtmmcjmejcngajaaDoorProg.lean LOADS. Nothing in Lean hashes anything: it is a label: what it is worth is what the hold of that sum in a sandbox is worth. -/
noncomputable def Tryd.pinned : Pinned := { name := "ytmmcjmejcngajaadoor", sum := "ace9f11da9de79379b6e53dc260e20ac02267807a43111f7f29a8573cb386e9a", checked := Tryd.checked }
namespace Rows
def none {H : Type} : Left H := { results := [], args := [] }

/- WHAT THE LISTED PACKAGE-LEVEL VARIABLES READ AS WHEN THE CALL BEGINS. Each datum BY PROGRAM (the guide's laid-datum.mjs) off the statement by which the dump's own 'gosem.cut.vars' lays the variable. In a bare row this is a premise. The card (YtmmcjmejcngajaaDoorCards.lean) ties it to the program's text. -/
def laid_signalbox_frame_lengths {H : Type} : DataW H := .agg [.lit (.int .i64 0), .lit (.int .i64 1), .lit (.int .i64 2), .lit (.int .i64 3), .lit (.int .i64 4), .lit (.int .i64 5), .lit (.int .i64 6), .lit (.int .i64 7), .lit (.int .i64 8), .lit (.int .i64 12), .lit (.int .i64 16), .lit (.int .i64 20), .lit (.int .i64 24), .lit (.int .i64 32), .lit (.int .i64 48), .lit (.int .i64 64)]
def laid_signalbox_frame_marks {H : Type} : DataW H := .agg [.agg [.lit (.int .i64 1), .lit (.int .u32 2147483648)], .agg [.lit (.int .i64 2), .lit (.int .u32 1073741824)], .agg [.lit (.int .i64 4), .lit (.int .u32 536870912)]]

/-- 'signalboxlaw14.CtrlHears': WHATEVER THE INPUT: true; the input reads as it did. -/
def ctrlHearsSpec : ChangeSpec := { name := "ctrlHears", fn := fun _ => fun
  | [d1, d2, d3] => { results := [.lit (.bool true)], args := [d1, d2, d3] }
  | _ => none }
def ctrlHearsRow : OpenClaim := { program := "ytmmcjmejcngajaadoor", sum := "ace9f11da9de79379b6e53dc260e20ac02267807a43111f7f29a8573cb386e9a", func := "signalbox/signalboxlaw14.CtrlHears", spec := "ctrlHears", unfollowed := true, recurses := true, named := ["signalbox/frame.lengths", "signalbox/frame.marks"], apart := false, laid := [("signalbox/frame.lengths", laid_signalbox_frame_lengths), ("signalbox/frame.marks", laid_signalbox_frame_marks)] }
def CtrlHearsSaid : Prop := ctrlHearsRow.holds Tryd.pinned (OpenSpec.ofChange ctrlHearsSpec)

/-- ITS FALSE NEIGHBOUR: 'it returns false'. Refute it at one input. -/
def ctrlHearsWrong : ChangeSpec := { name := "ctrlHears", fn := fun _ => fun
  | [d1, d2, d3] => { results := [.lit (.bool false)], args := [d1, d2, d3] }
  | _ => none }
def CtrlHearsWrongFalsely : Prop := ctrlHearsRow.holds Tryd.pinned (OpenSpec.ofChange ctrlHearsWrong)

/-- 'signalboxlaw14.CtrlBits': WHATEVER THE INPUT: true; the input reads as it did. -/
def ctrlBitsSpec : ChangeSpec := { name := "ctrlBits", fn := fun _ => fun
  | [d1, d2] => { results := [.lit (.bool true)], args := [d1, d2] }
  | _ => none }
def ctrlBitsRow : OpenClaim := { program := "ytmmcjmejcngajaadoor", sum := "ace9f11da9de79379b6e53dc260e20ac02267807a43111f7f29a8573cb386e9a", func := "signalbox/signalboxlaw14.CtrlBits", spec := "ctrlBits", inPlace := ["slices.overlaps[int]"], unfollowed := true, recurses := true, named := ["signalbox/frame.lengths", "signalbox/frame.marks"], apart := false, laid := [("signalbox/frame.lengths", laid_signalbox_frame_lengths), ("signalbox/frame.marks", laid_signalbox_frame_marks)] }
def CtrlBitsSaid : Prop := ctrlBitsRow.holds Tryd.pinned (OpenSpec.ofChange ctrlBitsSpec)

/-- ITS FALSE NEIGHBOUR: 'it returns false'. Refute it at one input. -/
def ctrlBitsWrong : ChangeSpec := { name := "ctrlBits", fn := fun _ => fun
  | [d1, d2] => { results := [.lit (.bool false)], args := [d1, d2] }
  | _ => none }
def CtrlBitsWrongFalsely : Prop := ctrlBitsRow.holds Tryd.pinned (OpenSpec.ofChange ctrlBitsWrong)

/-- 'signalboxlaw14.CtrlNil': WHATEVER THE INPUT: true; the input reads as it did. -/
def ctrlNilSpec : ChangeSpec := { name := "ctrlNil", fn := fun _ => fun
  | [d] => { results := [.lit (.bool true)], args := [d] }
  | _ => none }
def ctrlNilRow : OpenClaim := { program := "ytmmcjmejcngajaadoor", sum := "ace9f11da9de79379b6e53dc260e20ac02267807a43111f7f29a8573cb386e9a", func := "signalbox/signalboxlaw14.CtrlNil", spec := "ctrlNil", inPlace := ["slices.overlaps[int]"], unfollowed := true, recurses := true, named := ["signalbox/frame.lengths", "signalbox/frame.marks"], apart := false, laid := [("signalbox/frame.lengths", laid_signalbox_frame_lengths), ("signalbox/frame.marks", laid_signalbox_frame_marks)] }
def CtrlNilSaid : Prop := ctrlNilRow.holds Tryd.pinned (OpenSpec.ofChange ctrlNilSpec)

/-- ITS FALSE NEIGHBOUR: 'it returns false'. Refute it at one input. -/
def ctrlNilWrong : ChangeSpec := { name := "ctrlNil", fn := fun _ => fun
  | [d] => { results := [.lit (.bool false)], args := [d] }
  | _ => none }
def CtrlNilWrongFalsely : Prop := ctrlNilRow.holds Tryd.pinned (OpenSpec.ofChange ctrlNilWrong)

/- THE SECOND FORM. 'bulk': how many values and letters a reading holds, each counted each time it is reached (what is shared counts as often as it is met; a slice's spare places count too). A statement '..UptoSaid' is the law's where the arguments, and the package variables that the reading takes, are together of bulk at most 1048576: NARROWER than '..Said'. Prove '..Said' where nothing that the law and all that it calls make is longer than what came in: it says more and counts as full. Else prove '..UptoSaid'. A law counts once. -/
mutual
def uptoBulk {H : Type} : DataW H → Nat
  | .lit (.string bytes) => bytes.length + 1
  | .lit _ => 1
  | .nil => 1
  | .ptr d => uptoBulk d + 1
  | .slice elems spare => uptoBulkAll elems + uptoBulkAll spare + 1
  | .agg parts => uptoBulkAll parts + 1
  | .iface _ d => uptoBulk d + 1
  | .map entries => uptoBulkEntries entries + 1
  | .held _ => 1
def uptoBulkAll {H : Type} : List (DataW H) → Nat
  | [] => 0
  | d :: r => uptoBulk d + uptoBulkAll r
def uptoBulkEntries {H : Type} : List (Lit × DataW H) → Nat
  | [] => 0
  | x :: r => uptoBulkEntry x + uptoBulkEntries r
def uptoBulkEntry {H : Type} : Lit × DataW H → Nat
  | (.string bytes, d) => bytes.length + uptoBulk d + 1
  | (_, d) => uptoBulk d + 1
 end
def uptoSmall : (H : Type) → List (DataW H) → Bool := fun _ ds => decide (uptoBulkAll ds ≤ 1048576)
def OpenSpec.upto (s : _root_.Go.ChangeSpec) : _root_.Go.OpenSpec := { _root_.Go.OpenSpec.ofChange s with cond := some uptoSmall }

/-- 'signalboxlaw14.CtrlHears', WHERE WHAT IT READS IS OF BULK AT MOST 1048576: true; the input reads as it did. -/
def ctrlHearsUptoRow : OpenClaim := { program := "ytmmcjmejcngajaadoor", sum := "ace9f11da9de79379b6e53dc260e20ac02267807a43111f7f29a8573cb386e9a", func := "signalbox/signalboxlaw14.CtrlHears", spec := "ctrlHears", unfollowed := true, recurses := true, named := ["signalbox/frame.lengths", "signalbox/frame.marks"], apart := false, laid := [("signalbox/frame.lengths", laid_signalbox_frame_lengths), ("signalbox/frame.marks", laid_signalbox_frame_marks)], narrowed := true }
def CtrlHearsUptoSaid : Prop := ctrlHearsUptoRow.holds Tryd.pinned (OpenSpec.upto ctrlHearsSpec)

/-- 'signalboxlaw14.CtrlBits', WHERE WHAT IT READS IS OF BULK AT MOST 1048576: true; the input reads as it did. -/
def ctrlBitsUptoRow : OpenClaim := { program := "ytmmcjmejcngajaadoor", sum := "ace9f11da9de79379b6e53dc260e20ac02267807a43111f7f29a8573cb386e9a", func := "signalbox/signalboxlaw14.CtrlBits", spec := "ctrlBits", inPlace := ["slices.overlaps[int]"], unfollowed := true, recurses := true, named := ["signalbox/frame.lengths", "signalbox/frame.marks"], apart := false, laid := [("signalbox/frame.lengths", laid_signalbox_frame_lengths), ("signalbox/frame.marks", laid_signalbox_frame_marks)], narrowed := true }
def CtrlBitsUptoSaid : Prop := ctrlBitsUptoRow.holds Tryd.pinned (OpenSpec.upto ctrlBitsSpec)

/-- 'signalboxlaw14.CtrlNil', WHERE WHAT IT READS IS OF BULK AT MOST 1048576: true; the input reads as it did. -/
def ctrlNilUptoRow : OpenClaim := { program := "ytmmcjmejcngajaadoor", sum := "ace9f11da9de79379b6e53dc260e20ac02267807a43111f7f29a8573cb386e9a", func := "signalbox/signalboxlaw14.CtrlNil", spec := "ctrlNil", inPlace := ["slices.overlaps[int]"], unfollowed := true, recurses := true, named := ["signalbox/frame.lengths", "signalbox/frame.marks"], apart := false, laid := [("signalbox/frame.lengths", laid_signalbox_frame_lengths), ("signalbox/frame.marks", laid_signalbox_frame_marks)], narrowed := true }
def CtrlNilUptoSaid : Prop := ctrlNilUptoRow.holds Tryd.pinned (OpenSpec.upto ctrlNilSpec)

end Rows
end Go.Proofs.YtmmcjmejcngajaaDoor
