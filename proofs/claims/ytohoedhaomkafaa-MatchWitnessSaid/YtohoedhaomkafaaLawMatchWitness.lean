/- Which is the least word that one filter hits, and another one does not, or that there is none, is as the document says.
   Proved: Rows.MatchWitnessSaid, for every input, without further condition. -/
import Derived.Test.YtohoedhaomkafaaMatE
import Derived.Test.YtohoedhaomkafaaGenT
import Derived.Test.YtohoedhaomkafaaGenS
import Derived.Test.YtohoedhaomkafaaRows
import Derived.WalkKit
import Derived.ProofKit
import Derived.OpenShut
import Derived.ShutString
import Derived.ChangeOld
import Derived.Below
import Derived.Lib.SmallJoins
import Derived.LaidMore
import Derived.Stop.Joined
namespace Go.Proofs.Ytohoedhaomkafaa.matchWitness
open Go.ChangeShapes Go.WideShapes Go.ChangeAt Go.RowKit Go.Joins
open Go.ChangeMaps (open_string shut_string)
set_option linter.unusedVariables false

theorem own : ownKnob Try.prog.godebug = none := by kernel_rfl
theorem laidOut : laidOutB Try.prog = true := by kernel_rfl

set_option maxRecDepth 100000 in
theorem lifted (os : Os) (started : os.Started) (H : Type) (enc : TypeId × Value → H) :
    ReturnsInHanded {} Try.checked os 3 .any (Rows.matchWitnessSpec.pre6 enc Try.prog Try.f3 Rows.matchWitnessRow.domain false) (Rows.matchWitnessSpec.post enc Try.prog Try.f3 false true false false) := by
  refine returnsInHanded_of_change (C := Try.checked) own started (by kernel_rfl) Try.func3
    (ChangeSpec.witness6 (enc := enc) (C := Try.checked) false ⟨#[], #[.agg #[.int .u32 0, .int .u32 0, .bool false], .agg #[.int .u32 0, .int .u32 0, .bool false]], []⟩ 8 (by kernel_rfl) (by kernel_rfl) (by kernel_rfl) (by kernel_rfl)) ?_
  intro W base args ds gs before hval0 hW hcnd _
  have hval : ∀ (j : Nat) t v, Try.f3.params[j]? = some t → args[j]? = some v → Value.okWide Try.prog W .any base t v := hval0
  have hW' := hW
  obtain ⟨p, q, hA0, hV, rfl, hfz, hnd⟩ := hW
  have hA : DataW.TrodAll enc Try.prog W 0 (fun _ => true) true Try.f3.params.toList args.toList ds p := hA0
  rw [Try.params3] at hA hval
  obtain ⟨v0, vs0, d0, ds0, p0, q0, hargs, rfl, rfl, h0, r0⟩ := trodAll_cons hA
  obtain ⟨v1, vs1, d1, ds1, p1, q1, rfl, rfl, rfl, h1, r1⟩ := trodAll_cons r0
  obtain ⟨rfl, rfl, rfl⟩ := trodAll_nil r1
  obtain rfl : args = #[v0, v1] := by cases args; simp_all
  obtain ⟨rfl, rfl⟩ := trodVars_none hV
  have k0 := h0
  have lt0 : ∀ x ∈ p0, x.block < W.heap.size := by obtain ⟨m, hm⟩ := k0; exact DataW.trod_lt m _ _ _ hm
  obtain ⟨l0, rfl, f0_0⟩ := open_flat (k := 8) (s := [.int .u32, .int .u32, .bool]) Try.underlying24 (by kernel_rfl) (hval 0 24 v0 rfl rfl) h0
  obtain ⟨x0_0, r0_0, rfl, ⟨a0_0, rfl, w0_0⟩, f0_1⟩ := FitsAll.cons f0_0
  obtain ⟨x0_1, r0_1, rfl, ⟨a0_1, rfl, w0_1⟩, f0_2⟩ := FitsAll.cons f0_1
  obtain ⟨x0_2, r0_2, rfl, ⟨a0_2, rfl⟩, f0_3⟩ := FitsAll.cons f0_2
  obtain rfl := FitsAll.nil f0_3
  have k1 := h1
  have lt1 : ∀ x ∈ p1, x.block < W.heap.size := by obtain ⟨m, hm⟩ := k1; exact DataW.trod_lt m _ _ _ hm
  obtain ⟨l1, rfl, f1_0⟩ := open_flat (k := 8) (s := [.int .u32, .int .u32, .bool]) Try.underlying24 (by kernel_rfl) (hval 1 24 v1 rfl rfl) h1
  obtain ⟨x1_0, r1_0, rfl, ⟨a1_0, rfl, w1_0⟩, f1_1⟩ := FitsAll.cons f1_0
  obtain ⟨x1_1, r1_1, rfl, ⟨a1_1, rfl, w1_1⟩, f1_2⟩ := FitsAll.cons f1_1
  obtain ⟨x1_2, r1_2, rfl, ⟨a1_2, rfl⟩, f1_3⟩ := FitsAll.cons f1_2
  obtain rfl := FitsAll.nil f1_3
  clear hA0 hval0
  refine (matchWitness_walk a0_0 a0_1 a0_2 a1_0 a1_1 a1_2 w0_0 w0_1 w1_0 w1_1 W).mono fun e W' ⟨he, bel⟩ => ?_
  subst he
  exact ⟨_, rfl, _, _, _, [], _, [], hW', trodAll_mk1 (shut_bool Try.underlying4 _), (trodAll_cons_mk (Below.trod laidOut (by kernel_rfl) (of_decide_eq_true (by kernel_rfl)) k0 bel lt0) (trodAll_cons_mk (Below.trod laidOut (by kernel_rfl) (of_decide_eq_true (by kernel_rfl)) k1 bel lt1) trodAll_mk0)), rfl, bel.frame _, fun h => by cases h⟩

theorem over : Rows.matchWitnessRow.holds Try.pinned (OpenSpec.ofChange Rows.matchWitnessSpec) :=
  OpenClaim.holds_of_wide 3 Try.f3 rfl rfl rfl rfl rfl rfl rfl ⟨rfl, rfl, rfl, rfl, rfl⟩ rfl rfl rfl rfl rfl (by kernel_rfl) Try.func3 (by kernel_rfl)
    (of_decide_eq_true (by kernel_rfl)) (by unfold Func.isWrapper; first | (rw [if_pos (by decide +kernel)]; kernel_rfl) | (rw [if_neg (by decide +kernel)]; exact ⟨rfl, rfl⟩))
    (fun os started H enc _ => lifted os started H enc)

theorem proved : Rows.MatchWitnessSaid := over
#print axioms proved
end Go.Proofs.Ytohoedhaomkafaa.matchWitness
