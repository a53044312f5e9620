/-
  NARROWER THAN 'FOR EVERY INPUT', by the rows' own cells (each row's printed sentence says how): MatchHits: laid · MatchLists: laid · MatchExact: laid.
  DERIVED. THE GIVEN ROWS OF THIS SEAT. 3 by the template 'for every input the law returns true; each argument reads behind the call as it read before'; 0 by the template 'total and deterministic' (their statements: YtohoedhaomkafaaDoorTotals.lean).
  GIVEN WITH THE SEED: the statements are not yours to turn. If you find one false, say at which input.
  Laid BY PROGRAM, IN A SANDBOX (cutbox-rows.mjs): the forced cells as the released guide's own fill.sh prints them over the translation b8540736aaf07956… (all of the seat's roots in one cut). By AI agents, Wed Nov 11 2026. No macro, syntax, notation, axiom, sorry.
-/
import Derived.Test.YtohoedhaomkafaaDoorChecked
import GoSem.Claim
import GoSem.ClaimJoined
import GoSem.ClaimMapViews
import Derived.JoinedTies
import Derived.KernelRfl
namespace Go.Proofs.YtohoedhaomkafaaDoor
/- THE CELL 'sum', in the pinned program and in every row, IS THE sha256 OF THE DUMP (.gsa) THAT YtohoedhaomkafaaDoorProg.lean LOADS. Nothing in Lean hashes anything: it is a label: what it is worth is what the hold of that sum in a sandbox is worth. -/
noncomputable def Tryd.pinned : Pinned := { name := "ytohoedhaomkafaadoor", sum := "b8540736aaf079568360adc3c605e05774e77e0bc9f525a17424693fdc890812", checked := Tryd.checked }
namespace Rows
def none {H : Type} : Left H := { results := [], args := [] }

/- WHAT THE LISTED PACKAGE-LEVEL VARIABLES READ AS WHEN THE CALL BEGINS. Each datum BY PROGRAM (the guide's laid-datum.mjs) off the statement by which the dump's own 'gosem.cut.vars' lays the variable. In a bare row this is a premise. The card (YtohoedhaomkafaaDoorCards.lean) ties it to the program's text. -/
def laid_signalbox_frame_lengths {H : Type} : DataW H := .agg [.lit (.int .i64 0), .lit (.int .i64 1), .lit (.int .i64 2), .lit (.int .i64 3), .lit (.int .i64 4), .lit (.int .i64 5), .lit (.int .i64 6), .lit (.int .i64 7), .lit (.int .i64 8), .lit (.int .i64 12), .lit (.int .i64 16), .lit (.int .i64 20), .lit (.int .i64 24), .lit (.int .i64 32), .lit (.int .i64 48), .lit (.int .i64 64)]
def laid_signalbox_frame_marks {H : Type} : DataW H := .agg [.agg [.lit (.int .i64 1), .lit (.int .u32 2147483648)], .agg [.lit (.int .i64 2), .lit (.int .u32 1073741824)], .agg [.lit (.int .i64 4), .lit (.int .u32 536870912)]]

/-- 'signalboxlaw05.MatchHits': WHATEVER THE INPUT: true; the input reads as it did. -/
def matchHitsSpec : ChangeSpec := { name := "matchHits", fn := fun _ => fun
  | [d1, d2, d3] => { results := [.lit (.bool true)], args := [d1, d2, d3] }
  | _ => none }
def matchHitsRow : OpenClaim := { program := "ytohoedhaomkafaadoor", sum := "b8540736aaf079568360adc3c605e05774e77e0bc9f525a17424693fdc890812", func := "signalbox/signalboxlaw05.MatchHits", spec := "matchHits", unfollowed := true, recurses := true, named := ["signalbox/frame.lengths", "signalbox/frame.marks"], apart := false, laid := [("signalbox/frame.lengths", laid_signalbox_frame_lengths), ("signalbox/frame.marks", laid_signalbox_frame_marks)] }
def MatchHitsSaid : Prop := matchHitsRow.holds Tryd.pinned (OpenSpec.ofChange matchHitsSpec)

/-- ITS FALSE NEIGHBOUR: 'it returns false'. Refute it at one input. -/
def matchHitsWrong : ChangeSpec := { name := "matchHits", fn := fun _ => fun
  | [d1, d2, d3] => { results := [.lit (.bool false)], args := [d1, d2, d3] }
  | _ => none }
def MatchHitsWrongFalsely : Prop := matchHitsRow.holds Tryd.pinned (OpenSpec.ofChange matchHitsWrong)

/-- 'signalboxlaw05.MatchLists': WHATEVER THE INPUT: true; the input reads as it did. -/
def matchListsSpec : ChangeSpec := { name := "matchLists", fn := fun _ => fun
  | [d1, d2, d3, d4] => { results := [.lit (.bool true)], args := [d1, d2, d3, d4] }
  | _ => none }
def matchListsRow : OpenClaim := { program := "ytohoedhaomkafaadoor", sum := "b8540736aaf079568360adc3c605e05774e77e0bc9f525a17424693fdc890812", func := "signalbox/signalboxlaw05.MatchLists", spec := "matchLists", unfollowed := true, recurses := true, named := ["signalbox/frame.lengths", "signalbox/frame.marks"], apart := false, laid := [("signalbox/frame.lengths", laid_signalbox_frame_lengths), ("signalbox/frame.marks", laid_signalbox_frame_marks)] }
def MatchListsSaid : Prop := matchListsRow.holds Tryd.pinned (OpenSpec.ofChange matchListsSpec)

/-- ITS FALSE NEIGHBOUR: 'it returns false'. Refute it at one input. -/
def matchListsWrong : ChangeSpec := { name := "matchLists", fn := fun _ => fun
  | [d1, d2, d3, d4] => { results := [.lit (.bool false)], args := [d1, d2, d3, d4] }
  | _ => none }
def MatchListsWrongFalsely : Prop := matchListsRow.holds Tryd.pinned (OpenSpec.ofChange matchListsWrong)

/-- 'signalboxlaw05.MatchExact': WHATEVER THE INPUT: true; the input reads as it did. -/
def matchExactSpec : ChangeSpec := { name := "matchExact", fn := fun _ => fun
  | [d1, d2, d3] => { results := [.lit (.bool true)], args := [d1, d2, d3] }
  | _ => none }
def matchExactRow : OpenClaim := { program := "ytohoedhaomkafaadoor", sum := "b8540736aaf079568360adc3c605e05774e77e0bc9f525a17424693fdc890812", func := "signalbox/signalboxlaw05.MatchExact", spec := "matchExact", unfollowed := true, recurses := true, named := ["signalbox/frame.lengths", "signalbox/frame.marks"], apart := false, laid := [("signalbox/frame.lengths", laid_signalbox_frame_lengths), ("signalbox/frame.marks", laid_signalbox_frame_marks)] }
def MatchExactSaid : Prop := matchExactRow.holds Tryd.pinned (OpenSpec.ofChange matchExactSpec)

/-- ITS FALSE NEIGHBOUR: 'it returns false'. Refute it at one input. -/
def matchExactWrong : ChangeSpec := { name := "matchExact", fn := fun _ => fun
  | [d1, d2, d3] => { results := [.lit (.bool false)], args := [d1, d2, d3] }
  | _ => none }
def MatchExactWrongFalsely : Prop := matchExactRow.holds Tryd.pinned (OpenSpec.ofChange matchExactWrong)

/- THE SECOND FORM. 'bulk': how many values and letters a reading holds, each counted each time it is reached (what is shared counts as often as it is met; a slice's spare places count too). A statement '..UptoSaid' is the law's where the arguments, and the package variables that the reading takes, are together of bulk at most 1048576: NARROWER than '..Said'. Prove '..Said' where nothing that the law and all that it calls make is longer than what came in: it says more and counts as full. Else prove '..UptoSaid'. A law counts once. -/
mutual
def uptoBulk {H : Type} : DataW H → Nat
  | .lit (.string bytes) => bytes.length + 1
  | .lit _ => 1
  | .nil => 1
  | .ptr d => uptoBulk d + 1
  | .slice elems spare => uptoBulkAll elems + uptoBulkAll spare + 1
  | .agg parts => uptoBulkAll parts + 1
  | .iface _ d => uptoBulk d + 1
  | .map entries => uptoBulkEntries entries + 1
  | .held _ => 1
def uptoBulkAll {H : Type} : List (DataW H) → Nat
  | [] => 0
  | d :: r => uptoBulk d + uptoBulkAll r
def uptoBulkEntries {H : Type} : List (Lit × DataW H) → Nat
  | [] => 0
  | x :: r => uptoBulkEntry x + uptoBulkEntries r
def uptoBulkEntry {H : Type} : Lit × DataW H → Nat
  | (.string bytes, d) => bytes.length + uptoBulk d + 1
  | (_, d) => uptoBulk d + 1
 end
def uptoSmall : (H : Type) → List (DataW H) → Bool := fun _ ds => decide (uptoBulkAll ds ≤ 1048576)
def OpenSpec.upto (s : _root_.Go.ChangeSpec) : _root_.Go.OpenSpec := { _root_.Go.OpenSpec.ofChange s with cond := some uptoSmall }

/-- 'signalboxlaw05.MatchHits', WHERE WHAT IT READS IS OF BULK AT MOST 1048576: true; the input reads as it did. -/
def matchHitsUptoRow : OpenClaim := { program := "ytohoedhaomkafaadoor", sum := "b8540736aaf079568360adc3c605e05774e77e0bc9f525a17424693fdc890812", func := "signalbox/signalboxlaw05.MatchHits", spec := "matchHits", unfollowed := true, recurses := true, named := ["signalbox/frame.lengths", "signalbox/frame.marks"], apart := false, laid := [("signalbox/frame.lengths", laid_signalbox_frame_lengths), ("signalbox/frame.marks", laid_signalbox_frame_marks)], narrowed := true }
def MatchHitsUptoSaid : Prop := matchHitsUptoRow.holds Tryd.pinned (OpenSpec.upto matchHitsSpec)

/-- 'signalboxlaw05.MatchLists', WHERE WHAT IT READS IS OF BULK AT MOST 1048576: true; the input reads as it did. -/
def matchListsUptoRow : OpenClaim := { program := "ytohoedhaomkafaadoor", sum := "b8540736aaf079568360adc3c605e05774e77e0bc9f525a17424693fdc890812", func := "signalbox/signalboxlaw05.MatchLists", spec := "matchLists", unfollowed := true, recurses := true, named := ["signalbox/frame.lengths", "signalbox/frame.marks"], apart := false, laid := [("signalbox/frame.lengths", laid_signalbox_frame_lengths), ("signalbox/frame.marks", laid_signalbox_frame_marks)], narrowed := true }
def MatchListsUptoSaid : Prop := matchListsUptoRow.holds Tryd.pinned (OpenSpec.upto matchListsSpec)

/-- 'signalboxlaw05.MatchExact', WHERE WHAT IT READS IS OF BULK AT MOST 1048576: true; the input reads as it did. -/
def matchExactUptoRow : OpenClaim := { program := "ytohoedhaomkafaadoor", sum := "b8540736aaf079568360adc3c605e05774e77e0bc9f525a17424693fdc890812", func := "signalbox/signalboxlaw05.MatchExact", spec := "matchExact", unfollowed := true, recurses := true, named := ["signalbox/frame.lengths", "signalbox/frame.marks"], apart := false, laid := [("signalbox/frame.lengths", laid_signalbox_frame_lengths), ("signalbox/frame.marks", laid_signalbox_frame_marks)], narrowed := true }
def MatchExactUptoSaid : Prop := matchExactUptoRow.holds Tryd.pinned (OpenSpec.upto matchExactSpec)

end Rows
end Go.Proofs.YtohoedhaomkafaaDoor
