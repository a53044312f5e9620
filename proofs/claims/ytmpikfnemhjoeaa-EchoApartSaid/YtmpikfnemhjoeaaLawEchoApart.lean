/- What is put at one of a table's places, and got from there, turns nothing of what stands at another one.
   Proved: Rows.EchoApartSaid, for every input, without further condition. -/
import Derived.Test.YtmpikfnemhjoeaaZas
import Derived.Test.YtmpikfnemhjoeaaZaa
import Derived.Test.YtmpikfnemhjoeaaRows
import Derived.WalkKit
import Derived.ProofKit
import Derived.OpenShut
import Derived.ShutString
import Derived.ChangeOld
import Derived.Below
import Derived.Lib.SmallJoins
import Derived.LaidMore
import Derived.Stop.Joined
namespace Go.Proofs.Ytmpikfnemhjoeaa.echoApart
open Go.ChangeShapes Go.WideShapes Go.ChangeAt Go.RowKit Go.Joins
open Go.ChangeMaps (open_string shut_string)
set_option linter.unusedVariables false

theorem own : ownKnob Try.prog.godebug = none := by kernel_rfl
theorem laidOut : laidOutB Try.prog = true := by kernel_rfl

set_option maxRecDepth 100000 in
theorem lifted (os : Os) (started : os.Started) (H : Type) (enc : TypeId × Value → H) :
    ReturnsInHanded {} Try.checked os 4 .any (Rows.echoApartSpec.pre6 enc Try.prog Try.f4 Rows.echoApartRow.domain false) (Rows.echoApartSpec.post enc Try.prog Try.f4 false true false false) := by
  refine returnsInHanded_of_change (C := Try.checked) own started (by kernel_rfl) Try.func4
    (ChangeSpec.witness6 (enc := enc) (C := Try.checked) false ⟨#[], #[.int .i64 0, .int .i64 0, .int .i64 0, .agg #[.int .i64 0, .int .i64 0, .int .i64 0, .string ByteArray.empty, .int .i64 0, .int .i64 0, .bool false], .agg #[.int .i64 0, .int .i64 0, .int .i64 0, .string ByteArray.empty, .int .i64 0, .int .i64 0, .bool false]], []⟩ 8 (by kernel_rfl) (by kernel_rfl) (by kernel_rfl) (by kernel_rfl)) ?_
  intro W base args ds gs before hval0 hW hcnd _
  have hval : ∀ (j : Nat) t v, Try.f4.params[j]? = some t → args[j]? = some v → Value.okWide Try.prog W .any base t v := hval0
  have hW' := hW
  obtain ⟨p, q, hA0, hV, rfl, hfz, hnd⟩ := hW
  have hA : DataW.TrodAll enc Try.prog W 0 (fun _ => true) true Try.f4.params.toList args.toList ds p := hA0
  rw [Try.params4] at hA hval
  obtain ⟨v0, vs0, d0, ds0, p0, q0, hargs, rfl, rfl, h0, r0⟩ := trodAll_cons hA
  obtain ⟨v1, vs1, d1, ds1, p1, q1, rfl, rfl, rfl, h1, r1⟩ := trodAll_cons r0
  obtain ⟨v2, vs2, d2, ds2, p2, q2, rfl, rfl, rfl, h2, r2⟩ := trodAll_cons r1
  obtain ⟨v3, vs3, d3, ds3, p3, q3, rfl, rfl, rfl, h3, r3⟩ := trodAll_cons r2
  obtain ⟨v4, vs4, d4, ds4, p4, q4, rfl, rfl, rfl, h4, r4⟩ := trodAll_cons r3
  obtain ⟨rfl, rfl, rfl⟩ := trodAll_nil r4
  obtain rfl : args = #[v0, v1, v2, v3, v4] := by cases args; simp_all
  obtain ⟨rfl, rfl⟩ := trodVars_none hV
  have k0 := h0
  have lt0 : ∀ x ∈ p0, x.block < W.heap.size := by obtain ⟨m, hm⟩ := k0; exact DataW.trod_lt m _ _ _ hm
  obtain ⟨a0, rfl, _, _, w0⟩ := open_int Try.underlying3 (hval 0 3 v0 rfl rfl) h0
  have k1 := h1
  have lt1 : ∀ x ∈ p1, x.block < W.heap.size := by obtain ⟨m, hm⟩ := k1; exact DataW.trod_lt m _ _ _ hm
  obtain ⟨a1, rfl, _, _, w1⟩ := open_int Try.underlying3 (hval 1 3 v1 rfl rfl) h1
  have k2 := h2
  have lt2 : ∀ x ∈ p2, x.block < W.heap.size := by obtain ⟨m, hm⟩ := k2; exact DataW.trod_lt m _ _ _ hm
  obtain ⟨a2, rfl, _, _, w2⟩ := open_int Try.underlying3 (hval 2 3 v2 rfl rfl) h2
  have k3 := h3
  have lt3 : ∀ x ∈ p3, x.block < W.heap.size := by obtain ⟨m, hm⟩ := k3; exact DataW.trod_lt m _ _ _ hm
  obtain ⟨l3, rfl, f3_0⟩ := open_flat (k := 8) (s := [.int .i64, .int .i64, .int .i64, .str, .int .i64, .int .i64, .bool]) Try.underlying32 (by kernel_rfl) (hval 3 32 v3 rfl rfl) h3
  obtain ⟨x3_0, r3_0, rfl, ⟨a3_0, rfl, w3_0⟩, f3_1⟩ := FitsAll.cons f3_0
  obtain ⟨x3_1, r3_1, rfl, ⟨a3_1, rfl, w3_1⟩, f3_2⟩ := FitsAll.cons f3_1
  obtain ⟨x3_2, r3_2, rfl, ⟨a3_2, rfl, w3_2⟩, f3_3⟩ := FitsAll.cons f3_2
  obtain ⟨x3_3, r3_3, rfl, ⟨a3_3, rfl, w3_3⟩, f3_4⟩ := FitsAll.cons f3_3
  obtain ⟨x3_4, r3_4, rfl, ⟨a3_4, rfl, w3_4⟩, f3_5⟩ := FitsAll.cons f3_4
  obtain ⟨x3_5, r3_5, rfl, ⟨a3_5, rfl, w3_5⟩, f3_6⟩ := FitsAll.cons f3_5
  obtain ⟨x3_6, r3_6, rfl, ⟨a3_6, rfl⟩, f3_7⟩ := FitsAll.cons f3_6
  obtain rfl := FitsAll.nil f3_7
  have k4 := h4
  have lt4 : ∀ x ∈ p4, x.block < W.heap.size := by obtain ⟨m, hm⟩ := k4; exact DataW.trod_lt m _ _ _ hm
  obtain ⟨l4, rfl, f4_0⟩ := open_flat (k := 8) (s := [.int .i64, .int .i64, .int .i64, .str, .int .i64, .int .i64, .bool]) Try.underlying32 (by kernel_rfl) (hval 4 32 v4 rfl rfl) h4
  obtain ⟨x4_0, r4_0, rfl, ⟨a4_0, rfl, w4_0⟩, f4_1⟩ := FitsAll.cons f4_0
  obtain ⟨x4_1, r4_1, rfl, ⟨a4_1, rfl, w4_1⟩, f4_2⟩ := FitsAll.cons f4_1
  obtain ⟨x4_2, r4_2, rfl, ⟨a4_2, rfl, w4_2⟩, f4_3⟩ := FitsAll.cons f4_2
  obtain ⟨x4_3, r4_3, rfl, ⟨a4_3, rfl, w4_3⟩, f4_4⟩ := FitsAll.cons f4_3
  obtain ⟨x4_4, r4_4, rfl, ⟨a4_4, rfl, w4_4⟩, f4_5⟩ := FitsAll.cons f4_4
  obtain ⟨x4_5, r4_5, rfl, ⟨a4_5, rfl, w4_5⟩, f4_6⟩ := FitsAll.cons f4_5
  obtain ⟨x4_6, r4_6, rfl, ⟨a4_6, rfl⟩, f4_7⟩ := FitsAll.cons f4_6
  obtain rfl := FitsAll.nil f4_7
  clear hA0 hval0
  refine (echoApart_real a0 a1 a2 a3_0 a3_1 a3_2 a3_3 a3_4 a3_5 a3_6 a4_0 a4_1 a4_2 a4_3 a4_4 a4_5 a4_6 w0 w1 w2 w3_0 w3_1 w3_2 w3_3 w3_4 w3_5 w4_0 w4_1 w4_2 w4_3 w4_4 w4_5 W).mono fun e W' ⟨he, bel⟩ => ?_
  subst he
  exact ⟨_, rfl, _, _, _, [], _, [], hW', trodAll_mk1 (shut_bool Try.underlying4 _), (trodAll_cons_mk (Below.trod laidOut (by kernel_rfl) (of_decide_eq_true (by kernel_rfl)) k0 bel lt0) (trodAll_cons_mk (Below.trod laidOut (by kernel_rfl) (of_decide_eq_true (by kernel_rfl)) k1 bel lt1) (trodAll_cons_mk (Below.trod laidOut (by kernel_rfl) (of_decide_eq_true (by kernel_rfl)) k2 bel lt2) (trodAll_cons_mk (Below.trod laidOut (by kernel_rfl) (of_decide_eq_true (by kernel_rfl)) k3 bel lt3) (trodAll_cons_mk (Below.trod laidOut (by kernel_rfl) (of_decide_eq_true (by kernel_rfl)) k4 bel lt4) trodAll_mk0))))), rfl, bel.frame _, fun h => by cases h⟩

theorem over : Rows.echoApartRow.holds Try.pinned (OpenSpec.ofChange Rows.echoApartSpec) :=
  OpenClaim.holds_of_wide 4 Try.f4 rfl rfl rfl rfl rfl rfl rfl ⟨rfl, rfl, rfl, rfl, rfl⟩ rfl rfl rfl rfl rfl (by kernel_rfl) Try.func4 (by kernel_rfl)
    (of_decide_eq_true (by kernel_rfl)) (by unfold Func.isWrapper; first | (rw [if_pos (by decide +kernel)]; kernel_rfl) | (rw [if_neg (by decide +kernel)]; exact ⟨rfl, rfl⟩))
    (fun os started H enc _ => lifted os started H enc)

theorem proved : Rows.EchoApartSaid := over
#print axioms proved
end Go.Proofs.Ytmpikfnemhjoeaa.echoApart
