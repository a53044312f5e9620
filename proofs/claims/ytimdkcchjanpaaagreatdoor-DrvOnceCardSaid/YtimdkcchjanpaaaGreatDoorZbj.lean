/- A config's filters and calls (of nine cells) as a caller gives them: rows read as lists. Parted out of CtlVa. -/
import Derived.Test.YtimdkcchjanpaaaGreatDoorZaq
import Derived.Test.YtimdkcchjanpaaaGreatDoorZar
import Derived.Test.YtimdkcchjanpaaaGreatDoorZan
namespace Go.Proofs.YtimdkcchjanpaaaGreatDoor
open Go.RowKit
set_option linter.unusedVariables false
def cfOf:List Value → Flt
  | [.int _ i, .int _ m, .bool v] => ⟨i.toNat,m.toNat,v⟩
  | _ => ⟨0,0,false⟩
abbrev cfSh:List Sh := [.int .u32, .int .u32, .bool]
theorem cfOf_c (l:List Value) (h:FitsAll cfSh l):flC (cfOf l) = l:=by
  obtain ⟨v0,l0,rfl,⟨a0,rfl,w0⟩,h0⟩:=FitsAll.cons h
  obtain ⟨v1,l1,rfl,⟨a1,rfl,w1⟩,h1⟩:=FitsAll.cons h0
  obtain ⟨v2,l2,rfl,⟨a2,rfl⟩,h2⟩:=FitsAll.cons h1
  obtain rfl:=FitsAll.nil h2
  have e:∀ a:Int,(Lit.int .u32 a).wf = true → ((a.toNat:Nat):Int) = a:=fun a h => by
    simp [Lit.wf,IntKind.min,IntKind.max,IntKind.signed,IntKind.bits] at h; omega
  simp only [cfOf,flC,e a0 w0,e a1 w1]
theorem cf_fits {f:Flt} (h:FitsAll cfSh (flC f)):f.fits:=by
  obtain ⟨v0,l0,e0,⟨a0,rfl,w0⟩,h0⟩:=FitsAll.cons h
  obtain ⟨v1,l1,e1,⟨a1,rfl,w1⟩,h1⟩:=FitsAll.cons h0
  unfold flC at e0
  injection e0 with e2 e3
  rw [← e3] at e1
  injection e1 with e4 e5
  injection e2 with _ e2
  injection e4 with _ e4
  simp [Lit.wf,IntKind.min,IntKind.max,IntKind.signed,IntKind.bits] at w0 w1
  unfold Flt.fits
  omega
def op9Oc:List Value → Op9
  | [.int _ k, .int _ m, .int _ i, .int _ n, .int _ l, .string d, .int _ fr, .int _ t, .bool lp] => ⟨k,m,⟨⟨i,n,l,d⟩,fr,t,lp⟩⟩
  | _ => ⟨0,0,pk0⟩
abbrev op9Sc:List Sh := [.int .i64, .int .i64, .int .i64, .int .i64, .int .i64, .str, .int .i64, .int .i64, .bool]
theorem op9Oc_c (l:List Value) (h:FitsAll op9Sc l):opC9 (op9Oc l) = l:=by
  obtain ⟨v0,l0,rfl,⟨a0,rfl,_⟩,h0⟩:=FitsAll.cons h
  obtain ⟨v1,l1,rfl,⟨a1,rfl,_⟩,h1⟩:=FitsAll.cons h0
  obtain ⟨v2,l2,rfl,⟨a2,rfl,_⟩,h2⟩:=FitsAll.cons h1
  obtain ⟨v3,l3,rfl,⟨a3,rfl,_⟩,h3⟩:=FitsAll.cons h2
  obtain ⟨v4,l4,rfl,⟨a4,rfl,_⟩,h4⟩:=FitsAll.cons h3
  obtain ⟨v5,l5,rfl,⟨a5,rfl,_⟩,h5⟩:=FitsAll.cons h4
  obtain ⟨v6,l6,rfl,⟨a6,rfl,_⟩,h6⟩:=FitsAll.cons h5
  obtain ⟨v7,l7,rfl,⟨a7,rfl,_⟩,h7⟩:=FitsAll.cons h6
  obtain ⟨v8,l8,rfl,⟨a8,rfl⟩,h8⟩:=FitsAll.cons h7
  obtain rfl:=FitsAll.nil h8
  rfl
theorem wf_i64c {n:Int} (h:(Lit.int .i64 n).wf = true) : -9223372036854775808 ≤ n ∧ n ≤ 9223372036854775807:=by
  simpa [Lit.wf,show IntKind.i64.min = -9223372036854775808 from rfl] using h
theorem op9c_fits {o:Op9} (h:FitsAll op9Sc (opC9 o)):o.p.ok ∧ (-9223372036854775808 ≤ o.b ∧ o.b ≤ 9223372036854775807):=by
  obtain ⟨⟨a0,e0,h0⟩,⟨a1,e1,h1⟩,⟨a2,e2,h2⟩,⟨a3,e3,h3⟩,_⟩:=h
  injection e3 with _ e3
  injection e1 with _ e1
  have h4:=wf_i64c h3
  have h5:=wf_i64c h1
  unfold Pk.ok
  omega
end Go.Proofs.YtimdkcchjanpaaaGreatDoor
