/-
  NARROWER THAN 'FOR EVERY INPUT', by the rows' own cells (each row's printed sentence says how): WireEncodes: laid · WireDecodes: laid · WireApart: laid · WirePacks: laid · WireUnpacks: laid.
  DERIVED. THE GIVEN ROWS OF THIS SEAT. 5 by the template 'for every input the law returns true; each argument reads behind the call as it read before'; 0 by the template 'total and deterministic' (their statements: YtimlaopmhcipmaaDoorTotals.lean).
  GIVEN WITH THE SEED: the statements are not yours to turn. If you find one false, say at which input.
  Laid BY PROGRAM, IN A SANDBOX (cutbox-rows.mjs): the forced cells as the released guide's own fill.sh prints them over the translation 620eb89bfdcef91b… (all of the seat's roots in one cut). By AI agents, Wed Nov 11 2026. No macro, syntax, notation, axiom, sorry.
-/
import Derived.Test.YtimlaopmhcipmaaDoorChecked
import GoSem.Claim
import GoSem.ClaimJoined
import GoSem.ClaimMapViews
import Derived.JoinedTies
import Derived.KernelRfl
namespace Go.Proofs.YtimlaopmhcipmaaDoor
/- THE CELL 'sum', in the pinned program and in every row, IS THE sha256 OF THE DUMP (.gsa) THAT YtimlaopmhcipmaaDoorProg.lean LOADS. Nothing in Lean hashes anything: it is a label: what it is worth is what the hold of that sum in a sandbox is worth. -/
noncomputable def Tryd.pinned : Pinned := { name := "ytimlaopmhcipmaadoor", sum := "620eb89bfdcef91b56ea6ee50151a66d29519d9c87e0c06a7b4ef5b7ee3f70e2", checked := Tryd.checked }
namespace Rows
def none {H : Type} : Left H := { results := [], args := [] }

/- WHAT THE LISTED PACKAGE-LEVEL VARIABLES READ AS WHEN THE CALL BEGINS. Each datum BY PROGRAM (the guide's laid-datum.mjs) off the statement by which the dump's own 'gosem.cut.vars' lays the variable. In a bare row this is a premise. The card (YtimlaopmhcipmaaDoorCards.lean) ties it to the program's text. -/
def laid_signalbox_frame_lengths {H : Type} : DataW H := .agg [.lit (.int .i64 0), .lit (.int .i64 1), .lit (.int .i64 2), .lit (.int .i64 3), .lit (.int .i64 4), .lit (.int .i64 5), .lit (.int .i64 6), .lit (.int .i64 7), .lit (.int .i64 8), .lit (.int .i64 12), .lit (.int .i64 16), .lit (.int .i64 20), .lit (.int .i64 24), .lit (.int .i64 32), .lit (.int .i64 48), .lit (.int .i64 64)]
def laid_signalbox_frame_marks {H : Type} : DataW H := .agg [.agg [.lit (.int .i64 1), .lit (.int .u32 2147483648)], .agg [.lit (.int .i64 2), .lit (.int .u32 1073741824)], .agg [.lit (.int .i64 4), .lit (.int .u32 536870912)]]
def laid_signalbox_wire_marks {H : Type} : DataW H := .agg [.agg [.lit (.int .i64 16), .lit (.int .u8 1)], .agg [.lit (.int .i64 32), .lit (.int .u8 2)], .agg [.lit (.int .i64 8), .lit (.int .u8 4)]]

/-- 'signalboxlaw03.WireEncodes': WHATEVER THE INPUT: true; the input reads as it did. -/
def wireEncodesSpec : ChangeSpec := { name := "wireEncodes", fn := fun _ => fun
  | [d] => { results := [.lit (.bool true)], args := [d] }
  | _ => none }
def wireEncodesRow : OpenClaim := { program := "ytimlaopmhcipmaadoor", sum := "620eb89bfdcef91b56ea6ee50151a66d29519d9c87e0c06a7b4ef5b7ee3f70e2", func := "signalbox/signalboxlaw03.WireEncodes", spec := "wireEncodes", inPlace := ["internal/abi.NoEscape", "internal/bytealg.MakeNoZero"], unfollowed := true, recurses := true, named := ["signalbox/frame.lengths", "signalbox/frame.marks", "signalbox/wire.marks"], apart := false, laid := [("signalbox/frame.lengths", laid_signalbox_frame_lengths), ("signalbox/frame.marks", laid_signalbox_frame_marks), ("signalbox/wire.marks", laid_signalbox_wire_marks)] }
def WireEncodesSaid : Prop := wireEncodesRow.holds Tryd.pinned (OpenSpec.ofChange wireEncodesSpec)

/-- ITS FALSE NEIGHBOUR: 'it returns false'. Refute it at one input. -/
def wireEncodesWrong : ChangeSpec := { name := "wireEncodes", fn := fun _ => fun
  | [d] => { results := [.lit (.bool false)], args := [d] }
  | _ => none }
def WireEncodesWrongFalsely : Prop := wireEncodesRow.holds Tryd.pinned (OpenSpec.ofChange wireEncodesWrong)

/-- 'signalboxlaw03.WireDecodes': WHATEVER THE INPUT: true; the input reads as it did. -/
def wireDecodesSpec : ChangeSpec := { name := "wireDecodes", fn := fun _ => fun
  | [d] => { results := [.lit (.bool true)], args := [d] }
  | _ => none }
def wireDecodesRow : OpenClaim := { program := "ytimlaopmhcipmaadoor", sum := "620eb89bfdcef91b56ea6ee50151a66d29519d9c87e0c06a7b4ef5b7ee3f70e2", func := "signalbox/signalboxlaw03.WireDecodes", spec := "wireDecodes", inPlace := ["internal/abi.NoEscape", "internal/bytealg.MakeNoZero"], unfollowed := true, recurses := true, named := ["signalbox/frame.lengths", "signalbox/frame.marks", "signalbox/wire.marks"], apart := false, laid := [("signalbox/frame.lengths", laid_signalbox_frame_lengths), ("signalbox/frame.marks", laid_signalbox_frame_marks), ("signalbox/wire.marks", laid_signalbox_wire_marks)] }
def WireDecodesSaid : Prop := wireDecodesRow.holds Tryd.pinned (OpenSpec.ofChange wireDecodesSpec)

/-- ITS FALSE NEIGHBOUR: 'it returns false'. Refute it at one input. -/
def wireDecodesWrong : ChangeSpec := { name := "wireDecodes", fn := fun _ => fun
  | [d] => { results := [.lit (.bool false)], args := [d] }
  | _ => none }
def WireDecodesWrongFalsely : Prop := wireDecodesRow.holds Tryd.pinned (OpenSpec.ofChange wireDecodesWrong)

/-- 'signalboxlaw03.WireApart': WHATEVER THE INPUT: true; the input reads as it did. -/
def wireApartSpec : ChangeSpec := { name := "wireApart", fn := fun _ => fun
  | [d1, d2] => { results := [.lit (.bool true)], args := [d1, d2] }
  | _ => none }
def wireApartRow : OpenClaim := { program := "ytimlaopmhcipmaadoor", sum := "620eb89bfdcef91b56ea6ee50151a66d29519d9c87e0c06a7b4ef5b7ee3f70e2", func := "signalbox/signalboxlaw03.WireApart", spec := "wireApart", inPlace := ["internal/abi.NoEscape", "internal/bytealg.MakeNoZero"], unfollowed := true, recurses := true, named := ["signalbox/frame.lengths", "signalbox/frame.marks", "signalbox/wire.marks"], apart := false, laid := [("signalbox/frame.lengths", laid_signalbox_frame_lengths), ("signalbox/frame.marks", laid_signalbox_frame_marks), ("signalbox/wire.marks", laid_signalbox_wire_marks)] }
def WireApartSaid : Prop := wireApartRow.holds Tryd.pinned (OpenSpec.ofChange wireApartSpec)

/-- ITS FALSE NEIGHBOUR: 'it returns false'. Refute it at one input. -/
def wireApartWrong : ChangeSpec := { name := "wireApart", fn := fun _ => fun
  | [d1, d2] => { results := [.lit (.bool false)], args := [d1, d2] }
  | _ => none }
def WireApartWrongFalsely : Prop := wireApartRow.holds Tryd.pinned (OpenSpec.ofChange wireApartWrong)

/-- 'signalboxlaw03.WirePacks': WHATEVER THE INPUT: true; the input reads as it did. -/
def wirePacksSpec : ChangeSpec := { name := "wirePacks", fn := fun _ => fun
  | [d] => { results := [.lit (.bool true)], args := [d] }
  | _ => none }
def wirePacksRow : OpenClaim := { program := "ytimlaopmhcipmaadoor", sum := "620eb89bfdcef91b56ea6ee50151a66d29519d9c87e0c06a7b4ef5b7ee3f70e2", func := "signalbox/signalboxlaw03.WirePacks", spec := "wirePacks", inPlace := ["internal/abi.NoEscape", "internal/bytealg.MakeNoZero"], unfollowed := true, recurses := true, named := ["signalbox/frame.lengths", "signalbox/frame.marks", "signalbox/wire.marks"], apart := false, laid := [("signalbox/frame.lengths", laid_signalbox_frame_lengths), ("signalbox/frame.marks", laid_signalbox_frame_marks), ("signalbox/wire.marks", laid_signalbox_wire_marks)] }
def WirePacksSaid : Prop := wirePacksRow.holds Tryd.pinned (OpenSpec.ofChange wirePacksSpec)

/-- ITS FALSE NEIGHBOUR: 'it returns false'. Refute it at one input. -/
def wirePacksWrong : ChangeSpec := { name := "wirePacks", fn := fun _ => fun
  | [d] => { results := [.lit (.bool false)], args := [d] }
  | _ => none }
def WirePacksWrongFalsely : Prop := wirePacksRow.holds Tryd.pinned (OpenSpec.ofChange wirePacksWrong)

/-- 'signalboxlaw03.WireUnpacks': WHATEVER THE INPUT: true; the input reads as it did. -/
def wireUnpacksSpec : ChangeSpec := { name := "wireUnpacks", fn := fun _ => fun
  | [d] => { results := [.lit (.bool true)], args := [d] }
  | _ => none }
def wireUnpacksRow : OpenClaim := { program := "ytimlaopmhcipmaadoor", sum := "620eb89bfdcef91b56ea6ee50151a66d29519d9c87e0c06a7b4ef5b7ee3f70e2", func := "signalbox/signalboxlaw03.WireUnpacks", spec := "wireUnpacks", inPlace := ["internal/abi.NoEscape", "internal/bytealg.MakeNoZero"], unfollowed := true, recurses := true, named := ["signalbox/frame.lengths", "signalbox/frame.marks", "signalbox/wire.marks"], apart := false, laid := [("signalbox/frame.lengths", laid_signalbox_frame_lengths), ("signalbox/frame.marks", laid_signalbox_frame_marks), ("signalbox/wire.marks", laid_signalbox_wire_marks)] }
def WireUnpacksSaid : Prop := wireUnpacksRow.holds Tryd.pinned (OpenSpec.ofChange wireUnpacksSpec)

/-- ITS FALSE NEIGHBOUR: 'it returns false'. Refute it at one input. -/
def wireUnpacksWrong : ChangeSpec := { name := "wireUnpacks", fn := fun _ => fun
  | [d] => { results := [.lit (.bool false)], args := [d] }
  | _ => none }
def WireUnpacksWrongFalsely : Prop := wireUnpacksRow.holds Tryd.pinned (OpenSpec.ofChange wireUnpacksWrong)

/- THE SECOND FORM. 'bulk': how many values and letters a reading holds, each counted each time it is reached (what is shared counts as often as it is met; a slice's spare places count too). A statement '..UptoSaid' is the law's where the arguments, and the package variables that the reading takes, are together of bulk at most 1048576: NARROWER than '..Said'. Prove '..Said' where nothing that the law and all that it calls make is longer than what came in: it says more and counts as full. Else prove '..UptoSaid'. A law counts once. -/
mutual
def uptoBulk {H : Type} : DataW H → Nat
  | .lit (.string bytes) => bytes.length + 1
  | .lit _ => 1
  | .nil => 1
  | .ptr d => uptoBulk d + 1
  | .slice elems spare => uptoBulkAll elems + uptoBulkAll spare + 1
  | .agg parts => uptoBulkAll parts + 1
  | .iface _ d => uptoBulk d + 1
  | .map entries => uptoBulkEntries entries + 1
  | .held _ => 1
def uptoBulkAll {H : Type} : List (DataW H) → Nat
  | [] => 0
  | d :: r => uptoBulk d + uptoBulkAll r
def uptoBulkEntries {H : Type} : List (Lit × DataW H) → Nat
  | [] => 0
  | x :: r => uptoBulkEntry x + uptoBulkEntries r
def uptoBulkEntry {H : Type} : Lit × DataW H → Nat
  | (.string bytes, d) => bytes.length + uptoBulk d + 1
  | (_, d) => uptoBulk d + 1
 end
def uptoSmall : (H : Type) → List (DataW H) → Bool := fun _ ds => decide (uptoBulkAll ds ≤ 1048576)
def OpenSpec.upto (s : _root_.Go.ChangeSpec) : _root_.Go.OpenSpec := { _root_.Go.OpenSpec.ofChange s with cond := some uptoSmall }

/-- 'signalboxlaw03.WireEncodes', WHERE WHAT IT READS IS OF BULK AT MOST 1048576: true; the input reads as it did. -/
def wireEncodesUptoRow : OpenClaim := { program := "ytimlaopmhcipmaadoor", sum := "620eb89bfdcef91b56ea6ee50151a66d29519d9c87e0c06a7b4ef5b7ee3f70e2", func := "signalbox/signalboxlaw03.WireEncodes", spec := "wireEncodes", inPlace := ["internal/abi.NoEscape", "internal/bytealg.MakeNoZero"], unfollowed := true, recurses := true, named := ["signalbox/frame.lengths", "signalbox/frame.marks", "signalbox/wire.marks"], apart := false, laid := [("signalbox/frame.lengths", laid_signalbox_frame_lengths), ("signalbox/frame.marks", laid_signalbox_frame_marks), ("signalbox/wire.marks", laid_signalbox_wire_marks)], narrowed := true }
def WireEncodesUptoSaid : Prop := wireEncodesUptoRow.holds Tryd.pinned (OpenSpec.upto wireEncodesSpec)

/-- 'signalboxlaw03.WireDecodes', WHERE WHAT IT READS IS OF BULK AT MOST 1048576: true; the input reads as it did. -/
def wireDecodesUptoRow : OpenClaim := { program := "ytimlaopmhcipmaadoor", sum := "620eb89bfdcef91b56ea6ee50151a66d29519d9c87e0c06a7b4ef5b7ee3f70e2", func := "signalbox/signalboxlaw03.WireDecodes", spec := "wireDecodes", inPlace := ["internal/abi.NoEscape", "internal/bytealg.MakeNoZero"], unfollowed := true, recurses := true, named := ["signalbox/frame.lengths", "signalbox/frame.marks", "signalbox/wire.marks"], apart := false, laid := [("signalbox/frame.lengths", laid_signalbox_frame_lengths), ("signalbox/frame.marks", laid_signalbox_frame_marks), ("signalbox/wire.marks", laid_signalbox_wire_marks)], narrowed := true }
def WireDecodesUptoSaid : Prop := wireDecodesUptoRow.holds Tryd.pinned (OpenSpec.upto wireDecodesSpec)

/-- 'signalboxlaw03.WireApart', WHERE WHAT IT READS IS OF BULK AT MOST 1048576: true; the input reads as it did. -/
def wireApartUptoRow : OpenClaim := { program := "ytimlaopmhcipmaadoor", sum := "620eb89bfdcef91b56ea6ee50151a66d29519d9c87e0c06a7b4ef5b7ee3f70e2", func := "signalbox/signalboxlaw03.WireApart", spec := "wireApart", inPlace := ["internal/abi.NoEscape", "internal/bytealg.MakeNoZero"], unfollowed := true, recurses := true, named := ["signalbox/frame.lengths", "signalbox/frame.marks", "signalbox/wire.marks"], apart := false, laid := [("signalbox/frame.lengths", laid_signalbox_frame_lengths), ("signalbox/frame.marks", laid_signalbox_frame_marks), ("signalbox/wire.marks", laid_signalbox_wire_marks)], narrowed := true }
def WireApartUptoSaid : Prop := wireApartUptoRow.holds Tryd.pinned (OpenSpec.upto wireApartSpec)

/-- 'signalboxlaw03.WirePacks', WHERE WHAT IT READS IS OF BULK AT MOST 1048576: true; the input reads as it did. -/
def wirePacksUptoRow : OpenClaim := { program := "ytimlaopmhcipmaadoor", sum := "620eb89bfdcef91b56ea6ee50151a66d29519d9c87e0c06a7b4ef5b7ee3f70e2", func := "signalbox/signalboxlaw03.WirePacks", spec := "wirePacks", inPlace := ["internal/abi.NoEscape", "internal/bytealg.MakeNoZero"], unfollowed := true, recurses := true, named := ["signalbox/frame.lengths", "signalbox/frame.marks", "signalbox/wire.marks"], apart := false, laid := [("signalbox/frame.lengths", laid_signalbox_frame_lengths), ("signalbox/frame.marks", laid_signalbox_frame_marks), ("signalbox/wire.marks", laid_signalbox_wire_marks)], narrowed := true }
def WirePacksUptoSaid : Prop := wirePacksUptoRow.holds Tryd.pinned (OpenSpec.upto wirePacksSpec)

/-- 'signalboxlaw03.WireUnpacks', WHERE WHAT IT READS IS OF BULK AT MOST 1048576: true; the input reads as it did. -/
def wireUnpacksUptoRow : OpenClaim := { program := "ytimlaopmhcipmaadoor", sum := "620eb89bfdcef91b56ea6ee50151a66d29519d9c87e0c06a7b4ef5b7ee3f70e2", func := "signalbox/signalboxlaw03.WireUnpacks", spec := "wireUnpacks", inPlace := ["internal/abi.NoEscape", "internal/bytealg.MakeNoZero"], unfollowed := true, recurses := true, named := ["signalbox/frame.lengths", "signalbox/frame.marks", "signalbox/wire.marks"], apart := false, laid := [("signalbox/frame.lengths", laid_signalbox_frame_lengths), ("signalbox/frame.marks", laid_signalbox_frame_marks), ("signalbox/wire.marks", laid_signalbox_wire_marks)], narrowed := true }
def WireUnpacksUptoSaid : Prop := wireUnpacksUptoRow.holds Tryd.pinned (OpenSpec.upto wireUnpacksSpec)

end Rows
end Go.Proofs.YtimlaopmhcipmaaDoor
