/- Of a driver that is nil each call answers that it is nil, or nothing, whatever it is given.
   Proved: Rows.DrvNilCardSaid, for every input, without further condition. -/
import Derived.Test.YtimdkcchjanpaaaGreatDoorZbm
import Derived.Test.YtimdkcchjanpaaaGreatDoorZaa
import Derived.Test.YtimdkcchjanpaaaGreatDoorRows
import Derived.Test.YtimdkcchjanpaaaGreatDoorCards
import Derived.Test.YtimdkcchjanpaaaGreatDoorTie
import Derived.WalkKit
import Derived.ProofKit
import Derived.OpenShut
import Derived.ShutString
import Derived.ChangeOld
import Derived.Below
import Derived.Lib.SmallJoins
import Derived.LaidMore
import Derived.Stop.Joined
import Derived.SevenTiedAt
namespace Go.Proofs.YtimdkcchjanpaaaGreatDoor.drvNil
open Go.ChangeShapes Go.WideShapes Go.ChangeAt Go.RowKit Go.Joins
open Go.ChangeMaps (open_string shut_string)
set_option linter.unusedVariables false

theorem own : ownKnob Tryz.prog.godebug = none := by kernel_rfl
theorem laidOut : laidOutB Tryz.prog = true := by kernel_rfl

def laidL : List (String × DataW Unit) := [("signalbox/frame.lengths", Rows.laid_signalbox_frame_lengths), ("signalbox/frame.marks", Rows.laid_signalbox_frame_marks)]
theorem door_met (os : Os) (args : Array Value) : laidMetH Tryz.prog laidL ((World.doorLaid Tryz.prog 400 os).forCall (fun _ _ => 0) ⟨#[], args, []⟩).memory :=
  laidMetH_of_parts3 (fuel := 8) (laidMet_of_run' 8 (by kernel_rfl) (by kernel_rfl)) (by kernel_rfl) (by kernel_rfl)
theorem tabs_of {W : World} (h : laidMetH Tryz.prog laidL W) : Tabs W := by
  rw [MakeChecks.laidMetH_plain _ _ _ (by kernel_rfl)] at h
  obtain ⟨ps, ⟨g0, t0, cs0, f0, p0, q0, hg0, ht0, hv0, hd0, ⟨g1, t1, cs1, f1, p1, q1, hg1, ht1, hv1, hd1, _, _⟩, _⟩, _, _⟩ := h
  obtain rfl := Option.some.inj ((show Tryz.prog.globalNamed "signalbox/frame.lengths" = some 1 by kernel_rfl).symm.trans hg0)
  obtain rfl := Option.some.inj ((show (Tryz.prog.globals[1]?).map (·.type) = some 196 by kernel_rfl).symm.trans ht0)
  have b0 := var_cells (k := 8) (m := 8) (q := []) (known := lenCells) (by kernel_rfl) hg0 hv0 hd0 (by kernel_rfl)
  obtain rfl := Option.some.inj ((show Tryz.prog.globalNamed "signalbox/frame.marks" = some 0 by kernel_rfl).symm.trans hg1)
  obtain rfl := Option.some.inj ((show (Tryz.prog.globals[0]?).map (·.type) = some 189 by kernel_rfl).symm.trans ht1)
  have b1 := var_cells (k := 8) (m := 8) (q := []) (known := markCells) (by kernel_rfl) hg1 hv1 hd1 (by kernel_rfl)
  exact ⟨b0, b1⟩

set_option maxRecDepth 100000 in
theorem lifted (os : Os) (started : os.Started) (H : Type) (enc : TypeId × Value → H) :
    ReturnsInHanded {} Tryz.checked os 5 .any (fun w args => (Rows.drvNilSpec.pre enc Tryz.prog Tryz.f5 Rows.drvNilRow.domain false w args ∧ laidMetH Tryz.prog laidL w) ∧ sizedMet enc Tryz.prog Tryz.f5 (OpenSpec.ofChange Rows.drvNilSpec) false w args) (Rows.drvNilSpec.post enc Tryz.prog Tryz.f5 false true false false) := by
  refine returnsInHanded_of_change_and (C := Tryz.checked) (X := fun w _ => laidMetH Tryz.prog laidL w) (fun _ _ _ hh h => h.of_heap hh) own started (by kernel_rfl) Tryz.func5
    (ChangeSpec.witness_shaped (enc := enc) (C := Tryz.checked) (os := os) (X := fun w _ => laidMetH Tryz.prog laidL w) false (World.doorLaid Tryz.prog 400 os) #[.int .i64 0, .agg #[.int .i64 0, .int .i64 0, .int .i64 0, .string ByteArray.empty, .int .i64 0, .int .i64 0, .bool false]] 8 rfl (World.shaped_of_RefB (by kernel_rfl) (by kernel_rfl)) (by kernel_rfl) (by kernel_rfl) (by kernel_rfl) (door_met os _)) ?_
  intro W base args ds gs before hval0 hW hcnd _ hL _
  have hval : ∀ (j : Nat) t v, Tryz.f5.params[j]? = some t → args[j]? = some v → Value.okWide Tryz.prog W .any base t v := hval0
  have hW' := hW
  obtain ⟨p, q, hA0, hV, rfl, hfz, hnd⟩ := hW
  have hA : DataW.TrodAll enc Tryz.prog W 0 (fun _ => true) true Tryz.f5.params.toList args.toList ds p := hA0
  rw [Tryz.params5] at hA hval
  obtain ⟨v0, vs0, d0, ds0, p0, q0, hargs, rfl, rfl, h0, r0⟩ := trodAll_cons hA
  obtain ⟨v1, vs1, d1, ds1, p1, q1, rfl, rfl, rfl, h1, r1⟩ := trodAll_cons r0
  obtain ⟨rfl, rfl, rfl⟩ := trodAll_nil r1
  obtain rfl : args = #[v0, v1] := by cases args; simp_all
  obtain ⟨rfl, rfl⟩ := trodVars_none hV
  have k0 := h0
  have lt0 : ∀ x ∈ p0, x.block < W.heap.size := by obtain ⟨m, hm⟩ := k0; exact DataW.trod_lt m _ _ _ hm
  obtain ⟨a0, rfl, _, _, w0⟩ := open_int Tryz.underlying3 (hval 0 3 v0 rfl rfl) h0
  have k1 := h1
  have lt1 : ∀ x ∈ p1, x.block < W.heap.size := by obtain ⟨m, hm⟩ := k1; exact DataW.trod_lt m _ _ _ hm
  obtain ⟨l1, rfl, f1_0⟩ := open_flat (k := 8) (s := [.int .i64, .int .i64, .int .i64, .str, .int .i64, .int .i64, .bool]) Tryz.underlying37 (by kernel_rfl) (hval 1 37 v1 rfl rfl) h1
  obtain ⟨x1_0, r1_0, rfl, ⟨a1_0, rfl, w1_0⟩, f1_1⟩ := FitsAll.cons f1_0
  obtain ⟨x1_1, r1_1, rfl, ⟨a1_1, rfl, w1_1⟩, f1_2⟩ := FitsAll.cons f1_1
  obtain ⟨x1_2, r1_2, rfl, ⟨a1_2, rfl, w1_2⟩, f1_3⟩ := FitsAll.cons f1_2
  obtain ⟨x1_3, r1_3, rfl, ⟨a1_3, rfl, w1_3⟩, f1_4⟩ := FitsAll.cons f1_3
  obtain ⟨x1_4, r1_4, rfl, ⟨a1_4, rfl, w1_4⟩, f1_5⟩ := FitsAll.cons f1_4
  obtain ⟨x1_5, r1_5, rfl, ⟨a1_5, rfl, w1_5⟩, f1_6⟩ := FitsAll.cons f1_5
  obtain ⟨x1_6, r1_6, rfl, ⟨a1_6, rfl⟩, f1_7⟩ := FitsAll.cons f1_6
  obtain rfl := FitsAll.nil f1_7
  have hT_Tabs := tabs_of hL
  clear hA0 hval0
  refine (drvNil_real a0 a1_0 a1_1 a1_2 a1_3 a1_4 a1_5 a1_6 w0 w1_0 w1_1 w1_2 w1_3 w1_4 w1_5 W hT_Tabs).mono fun e W' ⟨he, bel⟩ => ?_
  subst he
  exact ⟨_, rfl, _, _, _, [], _, [], hW', trodAll_mk1 (shut_bool Tryz.underlying4 _), (trodAll_cons_mk (Below.trod laidOut (by kernel_rfl) (of_decide_eq_true (by kernel_rfl)) k0 bel lt0) (trodAll_cons_mk (Below.trod laidOut (by kernel_rfl) (of_decide_eq_true (by kernel_rfl)) k1 bel lt1) trodAll_mk0)), rfl, bel.frame _, fun h => by cases h⟩

theorem over : Rows.drvNilRow.holds Tryz.pinned (OpenSpec.ofChange Rows.drvNilSpec) :=
  OpenClaim.holds_of_wide 5 Tryz.f5 rfl rfl rfl rfl rfl rfl rfl ⟨rfl, rfl, rfl, rfl, rfl⟩ rfl rfl rfl rfl rfl (by kernel_rfl) Tryz.func5 (by kernel_rfl)
    (of_decide_eq_true (by kernel_rfl)) (by unfold Func.isWrapper; first | (rw [if_pos (by decide +kernel)]; kernel_rfl) | (rw [if_neg (by decide +kernel)]; exact ⟨rfl, rfl⟩))
    (fun os started H enc _ => lifted os started H enc)

theorem proved : Rows.DrvNilCardSaid :=
  Claim7.holds_tied_plain_at .later [] [.data, .data] true (true, "4480b77842c395957e19f5a644f53de92d1e6738e7b00ebb8e998476ef902ce2") false
    over (fun _ h => by cases h) (by kernel_rfl) (fun _ h => by cases h) drvNil_row_tie rfl ⟨rfl, rfl⟩ (by kernel_rfl) rfl
    (fun f fn hf hfn => by
      obtain rfl : f = 5 := Option.some.inj ((show Tryz.prog.funcNamed "signalbox/signalboxlaw17.DrvNil" = some 5 by kernel_rfl).symm.trans hf) |>.symm
      obtain rfl : fn = Tryz.f5 := (Option.some.inj (Tryz.func5.symm.trans hfn)).symm
      exact ⟨by kernel_rfl, fun j t ht => by
        rw [Tryz.params5] at ht
        have hm : t ∈ [3, 37] := by simpa using Array.mem_of_getElem? ht
        have hall : ([3, 37].all fun u => !Tryz.prog.wantsStandIn u) = true := by kernel_rfl
        exact (show Tryz.prog.wantsStandIn t = false by simpa using List.all_eq_true.1 hall t hm)⟩)
    (by kernel_rfl)
#print axioms proved
end Go.Proofs.YtimdkcchjanpaaaGreatDoor.drvNil
