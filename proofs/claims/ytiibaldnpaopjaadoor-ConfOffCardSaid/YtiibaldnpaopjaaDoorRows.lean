/-
  NARROWER THAN 'FOR EVERY INPUT', by the rows' own cells (each row's printed sentence says how): ConfTells: laid · ConfPlays: laid · ConfOrder: laid · ConfOff: laid.
  DERIVED. THE GIVEN ROWS OF THIS SEAT. 4 by the template 'for every input the law returns true; each argument reads behind the call as it read before'; 0 by the template 'total and deterministic' (their statements: YtiibaldnpaopjaaDoorTotals.lean).
  GIVEN WITH THE SEED: the statements are not yours to turn. If you find one false, say at which input.
  Laid BY PROGRAM, IN A SANDBOX (cutbox-rows.mjs): the forced cells as the released guide's own fill.sh prints them over the translation 3246f9d9bd2ce2f0… (all of the seat's roots in one cut). By AI agents, Wed Nov 11 2026. No macro, syntax, notation, axiom, sorry.
-/
import Derived.Test.YtiibaldnpaopjaaDoorChecked
import GoSem.Claim
import GoSem.ClaimJoined
import GoSem.ClaimMapViews
import Derived.JoinedTies
import Derived.KernelRfl
namespace Go.Proofs.YtiibaldnpaopjaaDoor
/- THE CELL 'sum', in the pinned program and in every row, IS THE sha256 OF THE DUMP (.gsa) THAT YtiibaldnpaopjaaDoorProg.lean LOADS. Nothing in Lean hashes anything: it is a label: what it is worth is what the hold of that sum in a sandbox is worth. -/
noncomputable def Tryd.pinned : Pinned := { name := "ytiibaldnpaopjaadoor", sum := "3246f9d9bd2ce2f0337560f4fa03c1fd7ee5c83348b93ff6c7d6453ab2398230", checked := Tryd.checked }
namespace Rows
def none {H : Type} : Left H := { results := [], args := [] }

/- WHAT THE LISTED PACKAGE-LEVEL VARIABLES READ AS WHEN THE CALL BEGINS. Each datum BY PROGRAM (the guide's laid-datum.mjs) off the statement by which the dump's own 'gosem.cut.vars' lays the variable. In a bare row this is a premise. The card (YtiibaldnpaopjaaDoorCards.lean) ties it to the program's text. -/
def laid_signalbox_conf_words {H : Type} : DataW H := .agg [.lit (.string [97, 99, 116, 105, 118, 101]), .lit (.string [119, 97, 114, 110, 101, 100]), .lit (.string [112, 97, 115, 115, 105, 118, 101]), .lit (.string [111, 102, 102])]

/-- 'signalboxlaw10.ConfTells': WHATEVER THE INPUT: true; the input reads as it did. -/
def confTellsSpec : ChangeSpec := { name := "confTells", fn := fun _ => fun
  | [d1, d2] => { results := [.lit (.bool true)], args := [d1, d2] }
  | _ => none }
def confTellsRow : OpenClaim := { program := "ytiibaldnpaopjaadoor", sum := "3246f9d9bd2ce2f0337560f4fa03c1fd7ee5c83348b93ff6c7d6453ab2398230", func := "signalbox/signalboxlaw10.ConfTells", spec := "confTells", named := ["signalbox/conf.words"], apart := false, laid := [("signalbox/conf.words", laid_signalbox_conf_words)] }
def ConfTellsSaid : Prop := confTellsRow.holds Tryd.pinned (OpenSpec.ofChange confTellsSpec)

/-- ITS FALSE NEIGHBOUR: 'it returns false'. Refute it at one input. -/
def confTellsWrong : ChangeSpec := { name := "confTells", fn := fun _ => fun
  | [d1, d2] => { results := [.lit (.bool false)], args := [d1, d2] }
  | _ => none }
def ConfTellsWrongFalsely : Prop := confTellsRow.holds Tryd.pinned (OpenSpec.ofChange confTellsWrong)

/-- 'signalboxlaw10.ConfPlays': WHATEVER THE INPUT: true; the input reads as it did. -/
def confPlaysSpec : ChangeSpec := { name := "confPlays", fn := fun _ => fun
  | [d1, d2] => { results := [.lit (.bool true)], args := [d1, d2] }
  | _ => none }
def confPlaysRow : OpenClaim := { program := "ytiibaldnpaopjaadoor", sum := "3246f9d9bd2ce2f0337560f4fa03c1fd7ee5c83348b93ff6c7d6453ab2398230", func := "signalbox/signalboxlaw10.ConfPlays", spec := "confPlays", named := ["signalbox/conf.words"], apart := false, laid := [("signalbox/conf.words", laid_signalbox_conf_words)] }
def ConfPlaysSaid : Prop := confPlaysRow.holds Tryd.pinned (OpenSpec.ofChange confPlaysSpec)

/-- ITS FALSE NEIGHBOUR: 'it returns false'. Refute it at one input. -/
def confPlaysWrong : ChangeSpec := { name := "confPlays", fn := fun _ => fun
  | [d1, d2] => { results := [.lit (.bool false)], args := [d1, d2] }
  | _ => none }
def ConfPlaysWrongFalsely : Prop := confPlaysRow.holds Tryd.pinned (OpenSpec.ofChange confPlaysWrong)

/-- 'signalboxlaw10.ConfOrder': WHATEVER THE INPUT: true; the input reads as it did. -/
def confOrderSpec : ChangeSpec := { name := "confOrder", fn := fun _ => fun
  | [d] => { results := [.lit (.bool true)], args := [d] }
  | _ => none }
def confOrderRow : OpenClaim := { program := "ytiibaldnpaopjaadoor", sum := "3246f9d9bd2ce2f0337560f4fa03c1fd7ee5c83348b93ff6c7d6453ab2398230", func := "signalbox/signalboxlaw10.ConfOrder", spec := "confOrder", named := ["signalbox/conf.words"], apart := false, laid := [("signalbox/conf.words", laid_signalbox_conf_words)] }
def ConfOrderSaid : Prop := confOrderRow.holds Tryd.pinned (OpenSpec.ofChange confOrderSpec)

/-- ITS FALSE NEIGHBOUR: 'it returns false'. Refute it at one input. -/
def confOrderWrong : ChangeSpec := { name := "confOrder", fn := fun _ => fun
  | [d] => { results := [.lit (.bool false)], args := [d] }
  | _ => none }
def ConfOrderWrongFalsely : Prop := confOrderRow.holds Tryd.pinned (OpenSpec.ofChange confOrderWrong)

/-- 'signalboxlaw10.ConfOff': WHATEVER THE INPUT: true; the input reads as it did. -/
def confOffSpec : ChangeSpec := { name := "confOff", fn := fun _ => fun
  | [d1, d2] => { results := [.lit (.bool true)], args := [d1, d2] }
  | _ => none }
def confOffRow : OpenClaim := { program := "ytiibaldnpaopjaadoor", sum := "3246f9d9bd2ce2f0337560f4fa03c1fd7ee5c83348b93ff6c7d6453ab2398230", func := "signalbox/signalboxlaw10.ConfOff", spec := "confOff", named := ["signalbox/conf.words"], apart := false, laid := [("signalbox/conf.words", laid_signalbox_conf_words)] }
def ConfOffSaid : Prop := confOffRow.holds Tryd.pinned (OpenSpec.ofChange confOffSpec)

/-- ITS FALSE NEIGHBOUR: 'it returns false'. Refute it at one input. -/
def confOffWrong : ChangeSpec := { name := "confOff", fn := fun _ => fun
  | [d1, d2] => { results := [.lit (.bool false)], args := [d1, d2] }
  | _ => none }
def ConfOffWrongFalsely : Prop := confOffRow.holds Tryd.pinned (OpenSpec.ofChange confOffWrong)

/- THE SECOND FORM. 'bulk': how many values and letters a reading holds, each counted each time it is reached (what is shared counts as often as it is met; a slice's spare places count too). A statement '..UptoSaid' is the law's where the arguments, and the package variables that the reading takes, are together of bulk at most 1048576: NARROWER than '..Said'. Prove '..Said' where nothing that the law and all that it calls make is longer than what came in: it says more and counts as full. Else prove '..UptoSaid'. A law counts once. -/
mutual
def uptoBulk {H : Type} : DataW H → Nat
  | .lit (.string bytes) => bytes.length + 1
  | .lit _ => 1
  | .nil => 1
  | .ptr d => uptoBulk d + 1
  | .slice elems spare => uptoBulkAll elems + uptoBulkAll spare + 1
  | .agg parts => uptoBulkAll parts + 1
  | .iface _ d => uptoBulk d + 1
  | .map entries => uptoBulkEntries entries + 1
  | .held _ => 1
def uptoBulkAll {H : Type} : List (DataW H) → Nat
  | [] => 0
  | d :: r => uptoBulk d + uptoBulkAll r
def uptoBulkEntries {H : Type} : List (Lit × DataW H) → Nat
  | [] => 0
  | x :: r => uptoBulkEntry x + uptoBulkEntries r
def uptoBulkEntry {H : Type} : Lit × DataW H → Nat
  | (.string bytes, d) => bytes.length + uptoBulk d + 1
  | (_, d) => uptoBulk d + 1
 end
def uptoSmall : (H : Type) → List (DataW H) → Bool := fun _ ds => decide (uptoBulkAll ds ≤ 1048576)
def OpenSpec.upto (s : _root_.Go.ChangeSpec) : _root_.Go.OpenSpec := { _root_.Go.OpenSpec.ofChange s with cond := some uptoSmall }

/-- 'signalboxlaw10.ConfTells', WHERE WHAT IT READS IS OF BULK AT MOST 1048576: true; the input reads as it did. -/
def confTellsUptoRow : OpenClaim := { program := "ytiibaldnpaopjaadoor", sum := "3246f9d9bd2ce2f0337560f4fa03c1fd7ee5c83348b93ff6c7d6453ab2398230", func := "signalbox/signalboxlaw10.ConfTells", spec := "confTells", named := ["signalbox/conf.words"], apart := false, laid := [("signalbox/conf.words", laid_signalbox_conf_words)], narrowed := true }
def ConfTellsUptoSaid : Prop := confTellsUptoRow.holds Tryd.pinned (OpenSpec.upto confTellsSpec)

/-- 'signalboxlaw10.ConfPlays', WHERE WHAT IT READS IS OF BULK AT MOST 1048576: true; the input reads as it did. -/
def confPlaysUptoRow : OpenClaim := { program := "ytiibaldnpaopjaadoor", sum := "3246f9d9bd2ce2f0337560f4fa03c1fd7ee5c83348b93ff6c7d6453ab2398230", func := "signalbox/signalboxlaw10.ConfPlays", spec := "confPlays", named := ["signalbox/conf.words"], apart := false, laid := [("signalbox/conf.words", laid_signalbox_conf_words)], narrowed := true }
def ConfPlaysUptoSaid : Prop := confPlaysUptoRow.holds Tryd.pinned (OpenSpec.upto confPlaysSpec)

/-- 'signalboxlaw10.ConfOrder', WHERE WHAT IT READS IS OF BULK AT MOST 1048576: true; the input reads as it did. -/
def confOrderUptoRow : OpenClaim := { program := "ytiibaldnpaopjaadoor", sum := "3246f9d9bd2ce2f0337560f4fa03c1fd7ee5c83348b93ff6c7d6453ab2398230", func := "signalbox/signalboxlaw10.ConfOrder", spec := "confOrder", named := ["signalbox/conf.words"], apart := false, laid := [("signalbox/conf.words", laid_signalbox_conf_words)], narrowed := true }
def ConfOrderUptoSaid : Prop := confOrderUptoRow.holds Tryd.pinned (OpenSpec.upto confOrderSpec)

/-- 'signalboxlaw10.ConfOff', WHERE WHAT IT READS IS OF BULK AT MOST 1048576: true; the input reads as it did. -/
def confOffUptoRow : OpenClaim := { program := "ytiibaldnpaopjaadoor", sum := "3246f9d9bd2ce2f0337560f4fa03c1fd7ee5c83348b93ff6c7d6453ab2398230", func := "signalbox/signalboxlaw10.ConfOff", spec := "confOff", named := ["signalbox/conf.words"], apart := false, laid := [("signalbox/conf.words", laid_signalbox_conf_words)], narrowed := true }
def ConfOffUptoSaid : Prop := confOffUptoRow.holds Tryd.pinned (OpenSpec.upto confOffSpec)

end Rows
end Go.Proofs.YtiibaldnpaopjaaDoor
