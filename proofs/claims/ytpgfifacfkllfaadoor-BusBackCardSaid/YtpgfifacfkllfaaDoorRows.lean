/-
  NARROWER THAN 'FOR EVERY INPUT', by the rows' own cells (each row's printed sentence says how): BusPlays: laid · BusLeast: laid · BusOnce: laid · BusBack: laid · BusNil: laid.
  DERIVED. THE GIVEN ROWS OF THIS SEAT. 5 by the template 'for every input the law returns true; each argument reads behind the call as it read before'; 0 by the template 'total and deterministic' (their statements: YtpgfifacfkllfaaDoorTotals.lean).
  GIVEN WITH THE SEED: the statements are not yours to turn. If you find one false, say at which input.
  Laid BY PROGRAM, IN A SANDBOX (cutbox-rows.mjs): the forced cells as the released guide's own fill.sh prints them over the translation 58102d1e9cfdee91… (all of the seat's roots in one cut). By AI agents, Wed Nov 11 2026. No macro, syntax, notation, axiom, sorry.
-/
import Derived.Test.YtpgfifacfkllfaaDoorChecked
import GoSem.Claim
import GoSem.ClaimJoined
import GoSem.ClaimMapViews
import Derived.JoinedTies
import Derived.KernelRfl
namespace Go.Proofs.YtpgfifacfkllfaaDoor
/- THE CELL 'sum', in the pinned program and in every row, IS THE sha256 OF THE DUMP (.gsa) THAT YtpgfifacfkllfaaDoorProg.lean LOADS. Nothing in Lean hashes anything: it is a label: what it is worth is what the hold of that sum in a sandbox is worth. -/
noncomputable def Tryd.pinned : Pinned := { name := "ytpgfifacfkllfaadoor", sum := "58102d1e9cfdee91bf27233cbdff465925539f8b14e0542771612196e11a671f", checked := Tryd.checked }
namespace Rows
def none {H : Type} : Left H := { results := [], args := [] }

/- WHAT THE LISTED PACKAGE-LEVEL VARIABLES READ AS WHEN THE CALL BEGINS. Each datum BY PROGRAM (the guide's laid-datum.mjs) off the statement by which the dump's own 'gosem.cut.vars' lays the variable. In a bare row this is a premise. The card (YtpgfifacfkllfaaDoorCards.lean) ties it to the program's text. -/
def laid_signalbox_frame_lengths {H : Type} : DataW H := .agg [.lit (.int .i64 0), .lit (.int .i64 1), .lit (.int .i64 2), .lit (.int .i64 3), .lit (.int .i64 4), .lit (.int .i64 5), .lit (.int .i64 6), .lit (.int .i64 7), .lit (.int .i64 8), .lit (.int .i64 12), .lit (.int .i64 16), .lit (.int .i64 20), .lit (.int .i64 24), .lit (.int .i64 32), .lit (.int .i64 48), .lit (.int .i64 64)]

/-- 'signalboxlaw12.BusPlays': WHATEVER THE INPUT: true; the input reads as it did. -/
def busPlaysSpec : ChangeSpec := { name := "busPlays", fn := fun _ => fun
  | [d1, d2, d3] => { results := [.lit (.bool true)], args := [d1, d2, d3] }
  | _ => none }
def busPlaysRow : OpenClaim := { program := "ytpgfifacfkllfaadoor", sum := "58102d1e9cfdee91bf27233cbdff465925539f8b14e0542771612196e11a671f", func := "signalbox/signalboxlaw12.BusPlays", spec := "busPlays", unfollowed := true, recurses := true, named := ["signalbox/frame.lengths"], apart := false, laid := [("signalbox/frame.lengths", laid_signalbox_frame_lengths)] }
def BusPlaysSaid : Prop := busPlaysRow.holds Tryd.pinned (OpenSpec.ofChange busPlaysSpec)

/-- ITS FALSE NEIGHBOUR: 'it returns false'. Refute it at one input. -/
def busPlaysWrong : ChangeSpec := { name := "busPlays", fn := fun _ => fun
  | [d1, d2, d3] => { results := [.lit (.bool false)], args := [d1, d2, d3] }
  | _ => none }
def BusPlaysWrongFalsely : Prop := busPlaysRow.holds Tryd.pinned (OpenSpec.ofChange busPlaysWrong)

/-- 'signalboxlaw12.BusLeast': WHATEVER THE INPUT: true; the input reads as it did. -/
def busLeastSpec : ChangeSpec := { name := "busLeast", fn := fun _ => fun
  | [d1, d2, d3] => { results := [.lit (.bool true)], args := [d1, d2, d3] }
  | _ => none }
def busLeastRow : OpenClaim := { program := "ytpgfifacfkllfaadoor", sum := "58102d1e9cfdee91bf27233cbdff465925539f8b14e0542771612196e11a671f", func := "signalbox/signalboxlaw12.BusLeast", spec := "busLeast", unfollowed := true, recurses := true, named := ["signalbox/frame.lengths"], apart := false, laid := [("signalbox/frame.lengths", laid_signalbox_frame_lengths)] }
def BusLeastSaid : Prop := busLeastRow.holds Tryd.pinned (OpenSpec.ofChange busLeastSpec)

/-- ITS FALSE NEIGHBOUR: 'it returns false'. Refute it at one input. -/
def busLeastWrong : ChangeSpec := { name := "busLeast", fn := fun _ => fun
  | [d1, d2, d3] => { results := [.lit (.bool false)], args := [d1, d2, d3] }
  | _ => none }
def BusLeastWrongFalsely : Prop := busLeastRow.holds Tryd.pinned (OpenSpec.ofChange busLeastWrong)

/-- 'signalboxlaw12.BusOnce': WHATEVER THE INPUT: true; the input reads as it did. -/
def busOnceSpec : ChangeSpec := { name := "busOnce", fn := fun _ => fun
  | [d1, d2, d3] => { results := [.lit (.bool true)], args := [d1, d2, d3] }
  | _ => none }
def busOnceRow : OpenClaim := { program := "ytpgfifacfkllfaadoor", sum := "58102d1e9cfdee91bf27233cbdff465925539f8b14e0542771612196e11a671f", func := "signalbox/signalboxlaw12.BusOnce", spec := "busOnce", unfollowed := true, recurses := true, named := ["signalbox/frame.lengths"], apart := false, laid := [("signalbox/frame.lengths", laid_signalbox_frame_lengths)] }
def BusOnceSaid : Prop := busOnceRow.holds Tryd.pinned (OpenSpec.ofChange busOnceSpec)

/-- ITS FALSE NEIGHBOUR: 'it returns false'. Refute it at one input. -/
def busOnceWrong : ChangeSpec := { name := "busOnce", fn := fun _ => fun
  | [d1, d2, d3] => { results := [.lit (.bool false)], args := [d1, d2, d3] }
  | _ => none }
def BusOnceWrongFalsely : Prop := busOnceRow.holds Tryd.pinned (OpenSpec.ofChange busOnceWrong)

/-- 'signalboxlaw12.BusBack': WHATEVER THE INPUT: true; the input reads as it did. -/
def busBackSpec : ChangeSpec := { name := "busBack", fn := fun _ => fun
  | [d1, d2] => { results := [.lit (.bool true)], args := [d1, d2] }
  | _ => none }
def busBackRow : OpenClaim := { program := "ytpgfifacfkllfaadoor", sum := "58102d1e9cfdee91bf27233cbdff465925539f8b14e0542771612196e11a671f", func := "signalbox/signalboxlaw12.BusBack", spec := "busBack", unfollowed := true, recurses := true, named := ["signalbox/frame.lengths"], apart := false, laid := [("signalbox/frame.lengths", laid_signalbox_frame_lengths)] }
def BusBackSaid : Prop := busBackRow.holds Tryd.pinned (OpenSpec.ofChange busBackSpec)

/-- ITS FALSE NEIGHBOUR: 'it returns false'. Refute it at one input. -/
def busBackWrong : ChangeSpec := { name := "busBack", fn := fun _ => fun
  | [d1, d2] => { results := [.lit (.bool false)], args := [d1, d2] }
  | _ => none }
def BusBackWrongFalsely : Prop := busBackRow.holds Tryd.pinned (OpenSpec.ofChange busBackWrong)

/-- 'signalboxlaw12.BusNil': WHATEVER THE INPUT: true; the input reads as it did. -/
def busNilSpec : ChangeSpec := { name := "busNil", fn := fun _ => fun
  | [d1, d2] => { results := [.lit (.bool true)], args := [d1, d2] }
  | _ => none }
def busNilRow : OpenClaim := { program := "ytpgfifacfkllfaadoor", sum := "58102d1e9cfdee91bf27233cbdff465925539f8b14e0542771612196e11a671f", func := "signalbox/signalboxlaw12.BusNil", spec := "busNil", unfollowed := true, recurses := true, named := ["signalbox/frame.lengths"], apart := false, laid := [("signalbox/frame.lengths", laid_signalbox_frame_lengths)] }
def BusNilSaid : Prop := busNilRow.holds Tryd.pinned (OpenSpec.ofChange busNilSpec)

/-- ITS FALSE NEIGHBOUR: 'it returns false'. Refute it at one input. -/
def busNilWrong : ChangeSpec := { name := "busNil", fn := fun _ => fun
  | [d1, d2] => { results := [.lit (.bool false)], args := [d1, d2] }
  | _ => none }
def BusNilWrongFalsely : Prop := busNilRow.holds Tryd.pinned (OpenSpec.ofChange busNilWrong)

/- THE SECOND FORM. 'bulk': how many values and letters a reading holds, each counted each time it is reached (what is shared counts as often as it is met; a slice's spare places count too). A statement '..UptoSaid' is the law's where the arguments, and the package variables that the reading takes, are together of bulk at most 1048576: NARROWER than '..Said'. Prove '..Said' where nothing that the law and all that it calls make is longer than what came in: it says more and counts as full. Else prove '..UptoSaid'. A law counts once. -/
mutual
def uptoBulk {H : Type} : DataW H → Nat
  | .lit (.string bytes) => bytes.length + 1
  | .lit _ => 1
  | .nil => 1
  | .ptr d => uptoBulk d + 1
  | .slice elems spare => uptoBulkAll elems + uptoBulkAll spare + 1
  | .agg parts => uptoBulkAll parts + 1
  | .iface _ d => uptoBulk d + 1
  | .map entries => uptoBulkEntries entries + 1
  | .held _ => 1
def uptoBulkAll {H : Type} : List (DataW H) → Nat
  | [] => 0
  | d :: r => uptoBulk d + uptoBulkAll r
def uptoBulkEntries {H : Type} : List (Lit × DataW H) → Nat
  | [] => 0
  | x :: r => uptoBulkEntry x + uptoBulkEntries r
def uptoBulkEntry {H : Type} : Lit × DataW H → Nat
  | (.string bytes, d) => bytes.length + uptoBulk d + 1
  | (_, d) => uptoBulk d + 1
 end
def uptoSmall : (H : Type) → List (DataW H) → Bool := fun _ ds => decide (uptoBulkAll ds ≤ 1048576)
def OpenSpec.upto (s : _root_.Go.ChangeSpec) : _root_.Go.OpenSpec := { _root_.Go.OpenSpec.ofChange s with cond := some uptoSmall }

/-- 'signalboxlaw12.BusPlays', WHERE WHAT IT READS IS OF BULK AT MOST 1048576: true; the input reads as it did. -/
def busPlaysUptoRow : OpenClaim := { program := "ytpgfifacfkllfaadoor", sum := "58102d1e9cfdee91bf27233cbdff465925539f8b14e0542771612196e11a671f", func := "signalbox/signalboxlaw12.BusPlays", spec := "busPlays", unfollowed := true, recurses := true, named := ["signalbox/frame.lengths"], apart := false, laid := [("signalbox/frame.lengths", laid_signalbox_frame_lengths)], narrowed := true }
def BusPlaysUptoSaid : Prop := busPlaysUptoRow.holds Tryd.pinned (OpenSpec.upto busPlaysSpec)

/-- 'signalboxlaw12.BusLeast', WHERE WHAT IT READS IS OF BULK AT MOST 1048576: true; the input reads as it did. -/
def busLeastUptoRow : OpenClaim := { program := "ytpgfifacfkllfaadoor", sum := "58102d1e9cfdee91bf27233cbdff465925539f8b14e0542771612196e11a671f", func := "signalbox/signalboxlaw12.BusLeast", spec := "busLeast", unfollowed := true, recurses := true, named := ["signalbox/frame.lengths"], apart := false, laid := [("signalbox/frame.lengths", laid_signalbox_frame_lengths)], narrowed := true }
def BusLeastUptoSaid : Prop := busLeastUptoRow.holds Tryd.pinned (OpenSpec.upto busLeastSpec)

/-- 'signalboxlaw12.BusOnce', WHERE WHAT IT READS IS OF BULK AT MOST 1048576: true; the input reads as it did. -/
def busOnceUptoRow : OpenClaim := { program := "ytpgfifacfkllfaadoor", sum := "58102d1e9cfdee91bf27233cbdff465925539f8b14e0542771612196e11a671f", func := "signalbox/signalboxlaw12.BusOnce", spec := "busOnce", unfollowed := true, recurses := true, named := ["signalbox/frame.lengths"], apart := false, laid := [("signalbox/frame.lengths", laid_signalbox_frame_lengths)], narrowed := true }
def BusOnceUptoSaid : Prop := busOnceUptoRow.holds Tryd.pinned (OpenSpec.upto busOnceSpec)

/-- 'signalboxlaw12.BusBack', WHERE WHAT IT READS IS OF BULK AT MOST 1048576: true; the input reads as it did. -/
def busBackUptoRow : OpenClaim := { program := "ytpgfifacfkllfaadoor", sum := "58102d1e9cfdee91bf27233cbdff465925539f8b14e0542771612196e11a671f", func := "signalbox/signalboxlaw12.BusBack", spec := "busBack", unfollowed := true, recurses := true, named := ["signalbox/frame.lengths"], apart := false, laid := [("signalbox/frame.lengths", laid_signalbox_frame_lengths)], narrowed := true }
def BusBackUptoSaid : Prop := busBackUptoRow.holds Tryd.pinned (OpenSpec.upto busBackSpec)

/-- 'signalboxlaw12.BusNil', WHERE WHAT IT READS IS OF BULK AT MOST 1048576: true; the input reads as it did. -/
def busNilUptoRow : OpenClaim := { program := "ytpgfifacfkllfaadoor", sum := "58102d1e9cfdee91bf27233cbdff465925539f8b14e0542771612196e11a671f", func := "signalbox/signalboxlaw12.BusNil", spec := "busNil", unfollowed := true, recurses := true, named := ["signalbox/frame.lengths"], apart := false, laid := [("signalbox/frame.lengths", laid_signalbox_frame_lengths)], narrowed := true }
def BusNilUptoSaid : Prop := busNilUptoRow.holds Tryd.pinned (OpenSpec.upto busNilSpec)

end Rows
end Go.Proofs.YtpgfifacfkllfaaDoor
