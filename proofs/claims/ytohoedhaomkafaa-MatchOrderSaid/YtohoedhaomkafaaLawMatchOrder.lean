/- Each filter covers itself; covering goes on; what covers nothing covers what is covered by all.
   Proved: Rows.MatchOrderSaid, for every input, without further condition. -/
import Derived.Test.YtohoedhaomkafaaMatE
import Derived.Test.YtohoedhaomkafaaGenT
import Derived.Test.YtohoedhaomkafaaGenS
import Derived.Test.YtohoedhaomkafaaRows
import Derived.WalkKit
import Derived.ProofKit
import Derived.OpenShut
import Derived.ShutString
import Derived.ChangeOld
import Derived.Below
import Derived.Lib.SmallJoins
import Derived.LaidMore
import Derived.Stop.Joined
namespace Go.Proofs.Ytohoedhaomkafaa.matchOrder
open Go.ChangeShapes Go.WideShapes Go.ChangeAt Go.RowKit Go.Joins
open Go.ChangeMaps (open_string shut_string)
set_option linter.unusedVariables false

theorem own : ownKnob Try.prog.godebug = none := by kernel_rfl
theorem laidOut : laidOutB Try.prog = true := by kernel_rfl

set_option maxRecDepth 100000 in
theorem lifted (os : Os) (started : os.Started) (H : Type) (enc : TypeId × Value → H) :
    ReturnsInHanded {} Try.checked os 5 .any (Rows.matchOrderSpec.pre6 enc Try.prog Try.f5 Rows.matchOrderRow.domain false) (Rows.matchOrderSpec.post enc Try.prog Try.f5 false true false false) := by
  refine returnsInHanded_of_change (C := Try.checked) own started (by kernel_rfl) Try.func5
    (ChangeSpec.witness6 (enc := enc) (C := Try.checked) false ⟨#[], #[.agg #[.int .u32 0, .int .u32 0, .bool false], .agg #[.int .u32 0, .int .u32 0, .bool false], .agg #[.int .u32 0, .int .u32 0, .bool false]], []⟩ 8 (by kernel_rfl) (by kernel_rfl) (by kernel_rfl) (by kernel_rfl)) ?_
  intro W base args ds gs before hval0 hW hcnd _
  have hval : ∀ (j : Nat) t v, Try.f5.params[j]? = some t → args[j]? = some v → Value.okWide Try.prog W .any base t v := hval0
  have hW' := hW
  obtain ⟨p, q, hA0, hV, rfl, hfz, hnd⟩ := hW
  have hA : DataW.TrodAll enc Try.prog W 0 (fun _ => true) true Try.f5.params.toList args.toList ds p := hA0
  rw [Try.params5] at hA hval
  obtain ⟨v0, vs0, d0, ds0, p0, q0, hargs, rfl, rfl, h0, r0⟩ := trodAll_cons hA
  obtain ⟨v1, vs1, d1, ds1, p1, q1, rfl, rfl, rfl, h1, r1⟩ := trodAll_cons r0
  obtain ⟨v2, vs2, d2, ds2, p2, q2, rfl, rfl, rfl, h2, r2⟩ := trodAll_cons r1
  obtain ⟨rfl, rfl, rfl⟩ := trodAll_nil r2
  obtain rfl : args = #[v0, v1, v2] := by cases args; simp_all
  obtain ⟨rfl, rfl⟩ := trodVars_none hV
  have k0 := h0
  have lt0 : ∀ x ∈ p0, x.block < W.heap.size := by obtain ⟨m, hm⟩ := k0; exact DataW.trod_lt m _ _ _ hm
  obtain ⟨l0, rfl, f0_0⟩ := open_flat (k := 8) (s := [.int .u32, .int .u32, .bool]) Try.underlying24 (by kernel_rfl) (hval 0 24 v0 rfl rfl) h0
  obtain ⟨x0_0, r0_0, rfl, ⟨a0_0, rfl, w0_0⟩, f0_1⟩ := FitsAll.cons f0_0
  obtain ⟨x0_1, r0_1, rfl, ⟨a0_1, rfl, w0_1⟩, f0_2⟩ := FitsAll.cons f0_1
  obtain ⟨x0_2, r0_2, rfl, ⟨a0_2, rfl⟩, f0_3⟩ := FitsAll.cons f0_2
  obtain rfl := FitsAll.nil f0_3
  have k1 := h1
  have lt1 : ∀ x ∈ p1, x.block < W.heap.size := by obtain ⟨m, hm⟩ := k1; exact DataW.trod_lt m _ _ _ hm
  obtain ⟨l1, rfl, f1_0⟩ := open_flat (k := 8) (s := [.int .u32, .int .u32, .bool]) Try.underlying24 (by kernel_rfl) (hval 1 24 v1 rfl rfl) h1
  obtain ⟨x1_0, r1_0, rfl, ⟨a1_0, rfl, w1_0⟩, f1_1⟩ := FitsAll.cons f1_0
  obtain ⟨x1_1, r1_1, rfl, ⟨a1_1, rfl, w1_1⟩, f1_2⟩ := FitsAll.cons f1_1
  obtain ⟨x1_2, r1_2, rfl, ⟨a1_2, rfl⟩, f1_3⟩ := FitsAll.cons f1_2
  obtain rfl := FitsAll.nil f1_3
  have k2 := h2
  have lt2 : ∀ x ∈ p2, x.block < W.heap.size := by obtain ⟨m, hm⟩ := k2; exact DataW.trod_lt m _ _ _ hm
  obtain ⟨l2, rfl, f2_0⟩ := open_flat (k := 8) (s := [.int .u32, .int .u32, .bool]) Try.underlying24 (by kernel_rfl) (hval 2 24 v2 rfl rfl) h2
  obtain ⟨x2_0, r2_0, rfl, ⟨a2_0, rfl, w2_0⟩, f2_1⟩ := FitsAll.cons f2_0
  obtain ⟨x2_1, r2_1, rfl, ⟨a2_1, rfl, w2_1⟩, f2_2⟩ := FitsAll.cons f2_1
  obtain ⟨x2_2, r2_2, rfl, ⟨a2_2, rfl⟩, f2_3⟩ := FitsAll.cons f2_2
  obtain rfl := FitsAll.nil f2_3
  clear hA0 hval0
  refine (matchOrder_walk a0_0 a0_1 a0_2 a1_0 a1_1 a1_2 a2_0 a2_1 a2_2 w0_0 w0_1 w1_0 w1_1 w2_0 w2_1 W).mono fun e W' ⟨he, bel⟩ => ?_
  subst he
  exact ⟨_, rfl, _, _, _, [], _, [], hW', trodAll_mk1 (shut_bool Try.underlying4 _), (trodAll_cons_mk (Below.trod laidOut (by kernel_rfl) (of_decide_eq_true (by kernel_rfl)) k0 bel lt0) (trodAll_cons_mk (Below.trod laidOut (by kernel_rfl) (of_decide_eq_true (by kernel_rfl)) k1 bel lt1) (trodAll_cons_mk (Below.trod laidOut (by kernel_rfl) (of_decide_eq_true (by kernel_rfl)) k2 bel lt2) trodAll_mk0))), rfl, bel.frame _, fun h => by cases h⟩

theorem over : Rows.matchOrderRow.holds Try.pinned (OpenSpec.ofChange Rows.matchOrderSpec) :=
  OpenClaim.holds_of_wide 5 Try.f5 rfl rfl rfl rfl rfl rfl rfl ⟨rfl, rfl, rfl, rfl, rfl⟩ rfl rfl rfl rfl rfl (by kernel_rfl) Try.func5 (by kernel_rfl)
    (of_decide_eq_true (by kernel_rfl)) (by unfold Func.isWrapper; first | (rw [if_pos (by decide +kernel)]; kernel_rfl) | (rw [if_neg (by decide +kernel)]; exact ⟨rfl, rfl⟩))
    (fun os started H enc _ => lifted os started H enc)

theorem proved : Rows.MatchOrderSaid := over
#print axioms proved
end Go.Proofs.Ytohoedhaomkafaa.matchOrder
