/-
  No cell of these rows narrows 'for every input' (looked for: loops, veiled, ifaces, maps, wideKeys, modest, calm, conditions, laid).
  DERIVED. THE GIVEN ROWS OF THIS SEAT. 5 by the template 'for every input the law returns true; each argument reads behind the call as it read before'; 0 by the template 'total and deterministic' (their statements: YtpapdonodgedoaaTotals.lean).
  GIVEN WITH THE SEED: the statements are not yours to turn. If you find one false, say at which input.
  Laid BY PROGRAM, IN A SANDBOX (cutbox-rows.mjs): the forced cells as the released guide's own fill.sh prints them over the translation 3b1d403a07f65c70… (all of the seat's roots in one cut). By AI agents, Wed Nov 11 2026. No macro, syntax, notation, axiom, sorry.
-/
import Derived.Test.YtpapdonodgedoaaChecked
import GoSem.Claim
import GoSem.ClaimJoined
import GoSem.ClaimMapViews
import Derived.JoinedTies
import Derived.KernelRfl
namespace Go.Proofs.Ytpapdonodgedoaa
/- THE CELL 'sum', in the pinned program and in every row, IS THE sha256 OF THE DUMP (.gsa) THAT YtpapdonodgedoaaProg.lean LOADS. Nothing in Lean hashes anything: it is a label: what it is worth is what the hold of that sum in a sandbox is worth. -/
noncomputable def Try.pinned : Pinned := { name := "ytpapdonodgedoaa", sum := "3b1d403a07f65c70481a3705ce66f97d63ed008cda46cfd77ca3cc195fcc21de", checked := Try.checked }
namespace Rows
def none {H : Type} : Left H := { results := [], args := [] }

/-- 'signalboxlaw06.StuffPuts': WHATEVER THE INPUT: true; the input reads as it did. -/
def stuffPutsSpec : ChangeSpec := { name := "stuffPuts", fn := fun _ => fun
  | [d] => { results := [.lit (.bool true)], args := [d] }
  | _ => none }
def stuffPutsRow : OpenClaim := { program := "ytpapdonodgedoaa", sum := "3b1d403a07f65c70481a3705ce66f97d63ed008cda46cfd77ca3cc195fcc21de", func := "signalbox/signalboxlaw06.StuffPuts", spec := "stuffPuts", inPlace := ["internal/abi.NoEscape"], unfollowed := true, recurses := true, apart := false }
def StuffPutsSaid : Prop := stuffPutsRow.holds Try.pinned (OpenSpec.ofChange stuffPutsSpec)

/-- ITS FALSE NEIGHBOUR: 'it returns false'. Refute it at one input. -/
def stuffPutsWrong : ChangeSpec := { name := "stuffPuts", fn := fun _ => fun
  | [d] => { results := [.lit (.bool false)], args := [d] }
  | _ => none }
def StuffPutsWrongFalsely : Prop := stuffPutsRow.holds Try.pinned (OpenSpec.ofChange stuffPutsWrong)

/-- 'signalboxlaw06.StuffTakes': WHATEVER THE INPUT: true; the input reads as it did. -/
def stuffTakesSpec : ChangeSpec := { name := "stuffTakes", fn := fun _ => fun
  | [d] => { results := [.lit (.bool true)], args := [d] }
  | _ => none }
def stuffTakesRow : OpenClaim := { program := "ytpapdonodgedoaa", sum := "3b1d403a07f65c70481a3705ce66f97d63ed008cda46cfd77ca3cc195fcc21de", func := "signalbox/signalboxlaw06.StuffTakes", spec := "stuffTakes", inPlace := ["internal/abi.NoEscape"], unfollowed := true, recurses := true, apart := false }
def StuffTakesSaid : Prop := stuffTakesRow.holds Try.pinned (OpenSpec.ofChange stuffTakesSpec)

/-- ITS FALSE NEIGHBOUR: 'it returns false'. Refute it at one input. -/
def stuffTakesWrong : ChangeSpec := { name := "stuffTakes", fn := fun _ => fun
  | [d] => { results := [.lit (.bool false)], args := [d] }
  | _ => none }
def StuffTakesWrongFalsely : Prop := stuffTakesRow.holds Try.pinned (OpenSpec.ofChange stuffTakesWrong)

/-- 'signalboxlaw06.StuffBack': WHATEVER THE INPUT: true; the input reads as it did. -/
def stuffBackSpec : ChangeSpec := { name := "stuffBack", fn := fun _ => fun
  | [d] => { results := [.lit (.bool true)], args := [d] }
  | _ => none }
def stuffBackRow : OpenClaim := { program := "ytpapdonodgedoaa", sum := "3b1d403a07f65c70481a3705ce66f97d63ed008cda46cfd77ca3cc195fcc21de", func := "signalbox/signalboxlaw06.StuffBack", spec := "stuffBack", inPlace := ["internal/abi.NoEscape"], unfollowed := true, recurses := true, apart := false }
def StuffBackSaid : Prop := stuffBackRow.holds Try.pinned (OpenSpec.ofChange stuffBackSpec)

/-- ITS FALSE NEIGHBOUR: 'it returns false'. Refute it at one input. -/
def stuffBackWrong : ChangeSpec := { name := "stuffBack", fn := fun _ => fun
  | [d] => { results := [.lit (.bool false)], args := [d] }
  | _ => none }
def StuffBackWrongFalsely : Prop := stuffBackRow.holds Try.pinned (OpenSpec.ofChange stuffBackWrong)

/-- 'signalboxlaw06.StuffTurns': WHATEVER THE INPUT: true; the input reads as it did. -/
def stuffTurnsSpec : ChangeSpec := { name := "stuffTurns", fn := fun _ => fun
  | [d] => { results := [.lit (.bool true)], args := [d] }
  | _ => none }
def stuffTurnsRow : OpenClaim := { program := "ytpapdonodgedoaa", sum := "3b1d403a07f65c70481a3705ce66f97d63ed008cda46cfd77ca3cc195fcc21de", func := "signalbox/signalboxlaw06.StuffTurns", spec := "stuffTurns", inPlace := ["internal/abi.NoEscape"], unfollowed := true, recurses := true, apart := false }
def StuffTurnsSaid : Prop := stuffTurnsRow.holds Try.pinned (OpenSpec.ofChange stuffTurnsSpec)

/-- ITS FALSE NEIGHBOUR: 'it returns false'. Refute it at one input. -/
def stuffTurnsWrong : ChangeSpec := { name := "stuffTurns", fn := fun _ => fun
  | [d] => { results := [.lit (.bool false)], args := [d] }
  | _ => none }
def StuffTurnsWrongFalsely : Prop := stuffTurnsRow.holds Try.pinned (OpenSpec.ofChange stuffTurnsWrong)

/-- 'signalboxlaw06.StuffAhead': WHATEVER THE INPUT: true; the input reads as it did. -/
def stuffAheadSpec : ChangeSpec := { name := "stuffAhead", fn := fun _ => fun
  | [d1, d2] => { results := [.lit (.bool true)], args := [d1, d2] }
  | _ => none }
def stuffAheadRow : OpenClaim := { program := "ytpapdonodgedoaa", sum := "3b1d403a07f65c70481a3705ce66f97d63ed008cda46cfd77ca3cc195fcc21de", func := "signalbox/signalboxlaw06.StuffAhead", spec := "stuffAhead", inPlace := ["internal/abi.NoEscape"], unfollowed := true, recurses := true, apart := false }
def StuffAheadSaid : Prop := stuffAheadRow.holds Try.pinned (OpenSpec.ofChange stuffAheadSpec)

/-- ITS FALSE NEIGHBOUR: 'it returns false'. Refute it at one input. -/
def stuffAheadWrong : ChangeSpec := { name := "stuffAhead", fn := fun _ => fun
  | [d1, d2] => { results := [.lit (.bool false)], args := [d1, d2] }
  | _ => none }
def StuffAheadWrongFalsely : Prop := stuffAheadRow.holds Try.pinned (OpenSpec.ofChange stuffAheadWrong)

/- THE SECOND FORM. 'bulk': how many values and letters a reading holds, each counted each time it is reached (what is shared counts as often as it is met; a slice's spare places count too). A statement '..UptoSaid' is the law's where the arguments, and the package variables that the reading takes, are together of bulk at most 1048576: NARROWER than '..Said'. Prove '..Said' where nothing that the law and all that it calls make is longer than what came in: it says more and counts as full. Else prove '..UptoSaid'. A law counts once. -/
mutual
def uptoBulk {H : Type} : DataW H → Nat
  | .lit (.string bytes) => bytes.length + 1
  | .lit _ => 1
  | .nil => 1
  | .ptr d => uptoBulk d + 1
  | .slice elems spare => uptoBulkAll elems + uptoBulkAll spare + 1
  | .agg parts => uptoBulkAll parts + 1
  | .iface _ d => uptoBulk d + 1
  | .map entries => uptoBulkEntries entries + 1
  | .held _ => 1
def uptoBulkAll {H : Type} : List (DataW H) → Nat
  | [] => 0
  | d :: r => uptoBulk d + uptoBulkAll r
def uptoBulkEntries {H : Type} : List (Lit × DataW H) → Nat
  | [] => 0
  | x :: r => uptoBulkEntry x + uptoBulkEntries r
def uptoBulkEntry {H : Type} : Lit × DataW H → Nat
  | (.string bytes, d) => bytes.length + uptoBulk d + 1
  | (_, d) => uptoBulk d + 1
 end
def uptoSmall : (H : Type) → List (DataW H) → Bool := fun _ ds => decide (uptoBulkAll ds ≤ 1048576)
def OpenSpec.upto (s : _root_.Go.ChangeSpec) : _root_.Go.OpenSpec := { _root_.Go.OpenSpec.ofChange s with cond := some uptoSmall }

/-- 'signalboxlaw06.StuffPuts', WHERE WHAT IT READS IS OF BULK AT MOST 1048576: true; the input reads as it did. -/
def stuffPutsUptoRow : OpenClaim := { program := "ytpapdonodgedoaa", sum := "3b1d403a07f65c70481a3705ce66f97d63ed008cda46cfd77ca3cc195fcc21de", func := "signalbox/signalboxlaw06.StuffPuts", spec := "stuffPuts", inPlace := ["internal/abi.NoEscape"], unfollowed := true, recurses := true, apart := false, narrowed := true }
def StuffPutsUptoSaid : Prop := stuffPutsUptoRow.holds Try.pinned (OpenSpec.upto stuffPutsSpec)

/-- 'signalboxlaw06.StuffTakes', WHERE WHAT IT READS IS OF BULK AT MOST 1048576: true; the input reads as it did. -/
def stuffTakesUptoRow : OpenClaim := { program := "ytpapdonodgedoaa", sum := "3b1d403a07f65c70481a3705ce66f97d63ed008cda46cfd77ca3cc195fcc21de", func := "signalbox/signalboxlaw06.StuffTakes", spec := "stuffTakes", inPlace := ["internal/abi.NoEscape"], unfollowed := true, recurses := true, apart := false, narrowed := true }
def StuffTakesUptoSaid : Prop := stuffTakesUptoRow.holds Try.pinned (OpenSpec.upto stuffTakesSpec)

/-- 'signalboxlaw06.StuffBack', WHERE WHAT IT READS IS OF BULK AT MOST 1048576: true; the input reads as it did. -/
def stuffBackUptoRow : OpenClaim := { program := "ytpapdonodgedoaa", sum := "3b1d403a07f65c70481a3705ce66f97d63ed008cda46cfd77ca3cc195fcc21de", func := "signalbox/signalboxlaw06.StuffBack", spec := "stuffBack", inPlace := ["internal/abi.NoEscape"], unfollowed := true, recurses := true, apart := false, narrowed := true }
def StuffBackUptoSaid : Prop := stuffBackUptoRow.holds Try.pinned (OpenSpec.upto stuffBackSpec)

/-- 'signalboxlaw06.StuffTurns', WHERE WHAT IT READS IS OF BULK AT MOST 1048576: true; the input reads as it did. -/
def stuffTurnsUptoRow : OpenClaim := { program := "ytpapdonodgedoaa", sum := "3b1d403a07f65c70481a3705ce66f97d63ed008cda46cfd77ca3cc195fcc21de", func := "signalbox/signalboxlaw06.StuffTurns", spec := "stuffTurns", inPlace := ["internal/abi.NoEscape"], unfollowed := true, recurses := true, apart := false, narrowed := true }
def StuffTurnsUptoSaid : Prop := stuffTurnsUptoRow.holds Try.pinned (OpenSpec.upto stuffTurnsSpec)

/-- 'signalboxlaw06.StuffAhead', WHERE WHAT IT READS IS OF BULK AT MOST 1048576: true; the input reads as it did. -/
def stuffAheadUptoRow : OpenClaim := { program := "ytpapdonodgedoaa", sum := "3b1d403a07f65c70481a3705ce66f97d63ed008cda46cfd77ca3cc195fcc21de", func := "signalbox/signalboxlaw06.StuffAhead", spec := "stuffAhead", inPlace := ["internal/abi.NoEscape"], unfollowed := true, recurses := true, apart := false, narrowed := true }
def StuffAheadUptoSaid : Prop := stuffAheadUptoRow.holds Try.pinned (OpenSpec.upto stuffAheadSpec)

end Rows
end Go.Proofs.Ytpapdonodgedoaa
