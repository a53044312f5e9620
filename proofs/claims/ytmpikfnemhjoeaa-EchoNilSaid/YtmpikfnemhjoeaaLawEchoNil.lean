/- Of a table that is nil each call answers that it is nil, or nothing, whatever it is given.
   Proved: Rows.EchoNilSaid, for every input, without further condition. -/
import Derived.Test.YtmpikfnemhjoeaaZao
import Derived.Test.YtmpikfnemhjoeaaZaa
import Derived.Test.YtmpikfnemhjoeaaRows
import Derived.WalkKit
import Derived.ProofKit
import Derived.OpenShut
import Derived.ShutString
import Derived.ChangeOld
import Derived.Below
import Derived.Lib.SmallJoins
import Derived.LaidMore
import Derived.Stop.Joined
namespace Go.Proofs.Ytmpikfnemhjoeaa.echoNil
open Go.ChangeShapes Go.WideShapes Go.ChangeAt Go.RowKit Go.Joins
open Go.ChangeMaps (open_string shut_string)
set_option linter.unusedVariables false

theorem own : ownKnob Try.prog.godebug = none := by kernel_rfl
theorem laidOut : laidOutB Try.prog = true := by kernel_rfl

set_option maxRecDepth 100000 in
theorem lifted (os : Os) (started : os.Started) (H : Type) (enc : TypeId × Value → H) :
    ReturnsInHanded {} Try.checked os 5 .any (Rows.echoNilSpec.pre6 enc Try.prog Try.f5 Rows.echoNilRow.domain false) (Rows.echoNilSpec.post enc Try.prog Try.f5 false true false false) := by
  refine returnsInHanded_of_change (C := Try.checked) own started (by kernel_rfl) Try.func5
    (ChangeSpec.witness6 (enc := enc) (C := Try.checked) false ⟨#[], #[.int .i64 0, .agg #[.int .i64 0, .int .i64 0, .int .i64 0, .string ByteArray.empty, .int .i64 0, .int .i64 0, .bool false]], []⟩ 8 (by kernel_rfl) (by kernel_rfl) (by kernel_rfl) (by kernel_rfl)) ?_
  intro W base args ds gs before hval0 hW hcnd _
  have hval : ∀ (j : Nat) t v, Try.f5.params[j]? = some t → args[j]? = some v → Value.okWide Try.prog W .any base t v := hval0
  have hW' := hW
  obtain ⟨p, q, hA0, hV, rfl, hfz, hnd⟩ := hW
  have hA : DataW.TrodAll enc Try.prog W 0 (fun _ => true) true Try.f5.params.toList args.toList ds p := hA0
  rw [Try.params5] at hA hval
  obtain ⟨v0, vs0, d0, ds0, p0, q0, hargs, rfl, rfl, h0, r0⟩ := trodAll_cons hA
  obtain ⟨v1, vs1, d1, ds1, p1, q1, rfl, rfl, rfl, h1, r1⟩ := trodAll_cons r0
  obtain ⟨rfl, rfl, rfl⟩ := trodAll_nil r1
  obtain rfl : args = #[v0, v1] := by cases args; simp_all
  obtain ⟨rfl, rfl⟩ := trodVars_none hV
  have k0 := h0
  have lt0 : ∀ x ∈ p0, x.block < W.heap.size := by obtain ⟨m, hm⟩ := k0; exact DataW.trod_lt m _ _ _ hm
  obtain ⟨a0, rfl, _, _, w0⟩ := open_int Try.underlying3 (hval 0 3 v0 rfl rfl) h0
  have k1 := h1
  have lt1 : ∀ x ∈ p1, x.block < W.heap.size := by obtain ⟨m, hm⟩ := k1; exact DataW.trod_lt m _ _ _ hm
  obtain ⟨l1, rfl, f1_0⟩ := open_flat (k := 8) (s := [.int .i64, .int .i64, .int .i64, .str, .int .i64, .int .i64, .bool]) Try.underlying32 (by kernel_rfl) (hval 1 32 v1 rfl rfl) h1
  obtain ⟨x1_0, r1_0, rfl, ⟨a1_0, rfl, w1_0⟩, f1_1⟩ := FitsAll.cons f1_0
  obtain ⟨x1_1, r1_1, rfl, ⟨a1_1, rfl, w1_1⟩, f1_2⟩ := FitsAll.cons f1_1
  obtain ⟨x1_2, r1_2, rfl, ⟨a1_2, rfl, w1_2⟩, f1_3⟩ := FitsAll.cons f1_2
  obtain ⟨x1_3, r1_3, rfl, ⟨a1_3, rfl, w1_3⟩, f1_4⟩ := FitsAll.cons f1_3
  obtain ⟨x1_4, r1_4, rfl, ⟨a1_4, rfl, w1_4⟩, f1_5⟩ := FitsAll.cons f1_4
  obtain ⟨x1_5, r1_5, rfl, ⟨a1_5, rfl, w1_5⟩, f1_6⟩ := FitsAll.cons f1_5
  obtain ⟨x1_6, r1_6, rfl, ⟨a1_6, rfl⟩, f1_7⟩ := FitsAll.cons f1_6
  obtain rfl := FitsAll.nil f1_7
  clear hA0 hval0
  refine (echoNil_real a0 a1_0 a1_1 a1_2 a1_3 a1_4 a1_5 a1_6 w0 w1_0 w1_1 w1_2 w1_3 w1_4 w1_5 W).mono fun e W' ⟨he, bel⟩ => ?_
  subst he
  exact ⟨_, rfl, _, _, _, [], _, [], hW', trodAll_mk1 (shut_bool Try.underlying4 _), (trodAll_cons_mk (Below.trod laidOut (by kernel_rfl) (of_decide_eq_true (by kernel_rfl)) k0 bel lt0) (trodAll_cons_mk (Below.trod laidOut (by kernel_rfl) (of_decide_eq_true (by kernel_rfl)) k1 bel lt1) trodAll_mk0)), rfl, bel.frame _, fun h => by cases h⟩

theorem over : Rows.echoNilRow.holds Try.pinned (OpenSpec.ofChange Rows.echoNilSpec) :=
  OpenClaim.holds_of_wide 5 Try.f5 rfl rfl rfl rfl rfl rfl rfl ⟨rfl, rfl, rfl, rfl, rfl⟩ rfl rfl rfl rfl rfl (by kernel_rfl) Try.func5 (by kernel_rfl)
    (of_decide_eq_true (by kernel_rfl)) (by unfold Func.isWrapper; first | (rw [if_pos (by decide +kernel)]; kernel_rfl) | (rw [if_neg (by decide +kernel)]; exact ⟨rfl, rfl⟩))
    (fun os started H enc _ => lifted os started H enc)

theorem proved : Rows.EchoNilSaid := over
#print axioms proved
end Go.Proofs.Ytmpikfnemhjoeaa.echoNil
