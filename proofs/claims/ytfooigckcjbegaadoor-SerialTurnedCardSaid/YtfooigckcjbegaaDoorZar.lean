/- Serial: walk of SerialTurned. -/
import Derived.Test.YtfooigckcjbegaaDoorZaq
import Derived.Test.YtfooigckcjbegaaDoorZad
namespace Go.Proofs.YtfooigckcjbegaaDoor
open Go.RowKit
set_option linter.unusedVariables false

/-- an operation that lays a new block, whose value is hidden, and which is newer than the region -/
theorem sec_newer {P : Program} {ops : Array Oper} {W : World} {sec : List Tmp} {F : Tmp → Value → World → Prop} {o : Oper} {h : Act} {rest : List Oper} {Q : Act → Prop} {s : Tmp} {mk : World → Value} {ob : World → Obj} (hw : Region.wanted o (yielded ops h.tmps) = true) (hn : noSel o = true) (hl : secOpenL ops sec o = true) (hd : o.dst = some s) (hs : sec.contains s = true)
    (hrun : ∀ w, (execOp h.eval o).run P w = .ok (.value (mk w)) (w.alloc (ob w))) (hF : ∀ w, Below W.heap.size W w → F s (mk w) (w.alloc (ob w))) (hk : wpSec P ops W sec F Q rest (h.put o.dst undef)) : wpSec P ops W sec F Q (o :: rest) h := by
  unfold wpSec
  rw [if_pos hw]
  refine ⟨undef, fun a w hb hlk => ?_, hk⟩
  rw [eval_open hl (noSel_spec hn) hlk, hrun w]
  refine ⟨(Below.refl _ _).alloc (Nat.le_refl _) _, ?_⟩
  unfold secGood
  rw [hd]
  simp only
  rw [if_pos (by simpa using hs)]
  exact hF w hb
def NewF (W : World) (v : Value) (w : World) : Prop := ∃ g, v = .pointer (some ⟨g, 0, none⟩) ∧ BoxF w g 0 0 0 (ByteArray.mk #[]) ∧ W.heap.size ≤ g
theorem NewF.later {W w w' : World} {v : Value} (h : NewF W v w) (hb : Below w.heap.size w w') : NewF W v w' := by
  obtain ⟨g, h1, h2, h3⟩ := h
  exact ⟨g, h1, h2.later hb, h3⟩
theorem NewF.made {W w : World} (hb : Below W.heap.size W w) : NewF W (.pointer (some ⟨w.heap.size, 0, none⟩)) (w.alloc (.cells #[.int .i64 0, .int .i64 0, .int .i64 0, .string (ByteArray.mk #[])] 23)) := ⟨_, rfl, BoxF.made w 0 0 0 _, hb.size⟩
theorem setCell_id {w : World} {g o : Nat} {v : Value} {c : Array Value} {t : TypeId} (h : w.heap[g]? = some (.cells c t (0, 0))) (hv : c.setIfInBounds o v = c) : w.setCell ⟨g, o, none⟩ v = w := by
  have hh : (w.setCell ⟨g, o, none⟩ v).heap = w.heap := by
    apply Array.ext_getElem?
    intro i
    by_cases hi : i = g
    · subst hi
      rw [heap_setCell_same w i o c t v h, h, hv]
    · exact Below.heap_setCell _ _ _ _ hi
  cases w
  simp only [World.setCell] at hh ⊢
  rw [hh]
theorem put_zero {w : World} {g : Nat} (h : BoxF w g 0 0 0 (ByteArray.mk #[])) : (((w.setCell ⟨g, 0, none⟩ (.int .i64 0)).setCell ⟨g, 1, none⟩ (.int .i64 0)).setCell ⟨g, 2, none⟩ (.int .i64 0)).setCell ⟨g, 3, none⟩ (.string (ByteArray.mk #[])) = w := by
  rw [setCell_id h rfl, setCell_id h rfl, setCell_id h rfl, setCell_id h rfl]
theorem turned_nobody {i n l : Int} {D A B : List Int} {x : Int} {s : ByteArray} (h : sendL i n l D = A ++ x :: B) (hs : byL s = A ++ oth x :: B) : NoSend s := by
  intro i' n' l' d' _ e
  exact sendL_turned h (e.symm.trans hs)
theorem cut_at {s : ByteArray} {k : Nat} (h : k < s.size) : byL s = byL (s.extract 0 k) ++ bt s k :: byL (s.extract (k + 1) s.size) := by
  rw [byL_extract, byL_extract, List.drop_zero, List.take_of_length_le (l := byL s) (i := s.size) (by rw [byL_len]; exact Nat.le_refl _), ← byL_drop h, List.take_append_drop]

set_option maxHeartbeats 4000000 in
theorem serialTurned_walk (i n l : Int) (d : ByteArray) (at_ : Int) (wi : (Lit.int .i64 i).wf = true) (wn : (Lit.int .i64 n).wf = true) (wl : (Lit.int .i64 l).wf = true) (wd : d.size ≤ maxLen) (wa : (Lit.int .i64 at_).wf = true) (w : World) (hT : Tabs w) :
    Calls Tryd.prog 6 #[.agg #[.int .i64 i, .int .i64 n, .int .i64 l, .string d], .int .i64 at_] w fun e w' => e = .returned (.bool true) ∧ Below w.heap.size w w' := by
  obtain ⟨n0, n1⟩ := Go.bounds_i64 wn
  have HN : Hid (-9223372036854775808 ≤ n ∧ n ≤ 9223372036854775807) := Lib.hid (by omega)
  have HB0 : Hid (Below w.heap.size w (w.alloc (.cells #[.int .i64 i, .int .i64 n, .int .i64 l, .string d] 23))) := Lib.hid ((Below.refl _ _).alloc (Nat.le_refl _) _)
  have HT := Lib.hid hT
  clear wi wn wl wd n0 n1 hT wa
  cases hp : plainF i n l d.size
  · have HP := Lib.hid hp
    clear hp
    go_enter Tryd.func6, Tryd.ntmps6
    go_wp2_with fail
    refine (kSend_f HP.out HN.out.1 HN.out.2 _ (HT.out.below HB0.out)).mono ?_
    rintro e w1 ⟨rfl, hb1⟩
    have HB1 := Lib.hid (fbelow_t HB0.out hb1)
    clear hb1
    go_wp2_with fail
    refine (seralive_any _ (HT.out.below HB1.out)).mono ?_
    rintro e w5 ⟨rfl, hb5⟩
    go_wp2
    go_ret
    exact ⟨rfl, fbelow_t HB1.out hb5⟩
  have HP := Lib.hid hp
  obtain ⟨s, hs⟩ : ∃ s, strOfNums (sendL i n l (byL d)) = s := ⟨_, rfl⟩
  have HS := Lib.hid hs
  have hsb := sent_by hs
  have hs2 : s.size ≤ 1000 := by
    have h1 := (sendL_len i n l (byL d)).2
    have h2 := (plain_parts hp).d8
    rw [← hsb, byL_len, byL_len] at h1
    split at h1 <;> omega
  have hbit : bitsB (byL s) = true := by rw [hsb]; exact sendL_bits ..
  by_cases hlo : at_ < 0
  · clear hp hs hsb hbit
    go_enter Tryd.func6, Tryd.ntmps6
    go_wp2_with fail
    refine (kSend_t HP.out HS.out _ (HT.out.below HB0.out)).mono ?_
    rintro e w1 ⟨rfl, hb1⟩
    have HB1 := Lib.hid (fbelow_t HB0.out hb1)
    clear hb1
    go_wp2_with fail
    refine (seralive_any _ (HT.out.below HB1.out)).mono ?_
    rintro e w5 ⟨rfl, hb5⟩
    go_wp2
    go_ret
    exact ⟨rfl, fbelow_t HB1.out hb5⟩
  obtain ⟨k, rfl⟩ := Int.eq_ofNat_of_zero_le (show 0 ≤ at_ by omega)
  by_cases hhi : s.size ≤ k
  · have hhi2 : (s.size : Int) ≤ (k : Int) := by omega
    clear hp hs hsb hbit hhi
    go_enter Tryd.func6, Tryd.ntmps6
    go_wp2_with fail
    refine (kSend_t HP.out HS.out _ (HT.out.below HB0.out)).mono ?_
    rintro e w1 ⟨rfl, hb1⟩
    have HB1 := Lib.hid (fbelow_t HB0.out hb1)
    clear hb1
    go_wp2_with fail
    refine (seralive_any _ (HT.out.below HB1.out)).mono ?_
    rintro e w5 ⟨rfl, hb5⟩
    go_wp2
    go_ret
    exact ⟨rfl, fbelow_t HB1.out hb5⟩
  have hks : k < s.size := by omega
  have hhi2 : ¬ (s.size : Int) ≤ (k : Int) := by omega
  have hcut := cut_at hks
  have hix : ∀ w, (Instr.index 9 (.string s) (.int .i64 (k : Int))).run Tryd.prog w = .ok (.int .u8 (bt s k)) w := fun w => index_bt Tryd.underlying9 hks w
  have hk1 := fun w => cut_head (Nat.le_of_lt hks) w
  have hk2 : ∀ w, (Instr.sliceAt 9 (.string s) (some (.int .i64 ((k : Int) + 1))) none none).run Tryd.prog w = .ok (.string (s.extract (k + 1) s.size)) w := fun w => by
    have := cut_tail (s := s) (k := k + 1) hks w
    rwa [show (((k + 1 : Nat) : Int)) = (k : Int) + 1 by omega] at this
  obtain ⟨a, ha⟩ : ∃ a, s.extract 0 k = a := ⟨_, rfl⟩
  obtain ⟨b, hb⟩ : ∃ b, s.extract (k + 1) s.size = b := ⟨_, rfl⟩
  rw [ha] at hk1 hcut
  rw [hb] at hk2 hcut
  have hsz : s.size = a.size + (1 + b.size) := by
    have := congrArg List.length hcut
    rw [byL_len, List.length_append, List.length_cons, byL_len, byL_len] at this
    omega
  rw [hcut, bitsB_app, bitsB_cons] at hbit
  obtain ⟨x, hx⟩ : ∃ x, bt s k = x := ⟨_, rfl⟩
  rw [hx] at hix hcut hbit
  have hxb : x = 48 ∨ x = 49 := by
    simp only [Bool.and_eq_true] at hbit
    exact (isBit_iff _).1 hbit.2.1
  clear ha hb hx hbit
  have hkk : wrap64 ((k : Int) + 1) = (k : Int) + 1 := by unfold wrap64; omega
  rcases hxb with rfl | rfl
  · obtain ⟨y, hy⟩ : ∃ y, a ++ ByteArray.mk #[49] = y := ⟨_, rfl⟩
    obtain ⟨z, hz⟩ : ∃ z, y ++ b = z := ⟨_, rfl⟩
    have zy : y.size = a.size + 1 := by rw [← hy, ByteArray.size_append]; rfl
    have zz : z.size = y.size + b.size := by rw [← hz, ByteArray.size_append]
    have z1 : (ByteArray.mk #[49]).size = 1 := rfl
    have hzb : byL z = byL a ++ oth 48 :: byL b := by
      rw [← hz, ← hy, byL_app, byL_app, show byL (ByteArray.mk #[49]) = [oth 48] by decide +kernel, List.append_assoc]; rfl
    have HZ : Hid (NoSend z) := Lib.hid (turned_nobody (hsb.symm.trans hcut) hzb)
    have HZZ : Hid (z.size ≤ 1000000) := Lib.hid (by omega)
    have s1 : ¬ 9223372036854775807 < a.size + (ByteArray.mk #[49]).size := by omega
    have s2 : ¬ 9223372036854775807 < y.size + b.size := by omega
    clear hp hs hsb hhi hcut hzb
    go_enter Tryd.func6, Tryd.ntmps6
    go_wp2_with fail
    refine (kSend_t HP.out HS.out _ (HT.out.below HB0.out)).mono ?_
    rintro e w1 ⟨rfl, hb1⟩
    have HB1 := Lib.hid (fbelow_t HB0.out hb1)
    clear hb1
    go_wp2_with fail
    refine wp_region_sec 16 [8] (fun _ v w => NewF w1 v w) (fun _ _ _ _ h hb => h.later hb) (by kernel_rfl) (by kernel_rfl) (by kernel_rfl) (by kernel_rfl) (by kernel_rfl) ?_
    simp only [List.take_succ_cons, List.take_zero, List.drop_succ_cons, List.drop_zero]
    refine sec_plain (by rfl) (by rfl) (by rfl) (by rfl) ?_
    intro K hK
    go_big_quiet_op
    go_big_quiet_on
    refine sec_plain (by rfl) (by rfl) (by rfl) (by rfl) ?_
    intro K hK
    go_big_quiet_op
    go_big_quiet_on
    refine sec_plain (by rfl) (by rfl) (by rfl) (by rfl) ?_
    intro K hK
    go_big_quiet_op
    go_big_quiet_on
    refine sec_plain (by rfl) (by rfl) (by rfl) (by rfl) ?_
    intro K hK
    go_big_quiet_op
    go_big_quiet_on
    refine sec_plain (by rfl) (by rfl) (by rfl) (by rfl) ?_
    intro K hK
    go_big_quiet_op
    go_big_quiet_on
    refine sec_plain (by rfl) (by rfl) (by rfl) (by rfl) ?_
    intro K hK
    go_big_quiet_op
    go_big_quiet_on
    refine sec_plain (by rfl) (by rfl) (by rfl) (by rfl) ?_
    intro K hK
    go_big_quiet_op
    go_big_quiet_on
    refine sec_plain (by rfl) (by rfl) (by rfl) (by rfl) ?_
    intro K hK
    go_big_quiet_op
    go_big_quiet_on
    refine sec_plain (by rfl) (by rfl) (by rfl) (by rfl) ?_
    intro K hK
    go_big_quiet_op
    go_big_quiet_on
    refine sec_plain (by rfl) (by rfl) (by rfl) (by rfl) ?_
    intro K hK
    go_big_quiet_op
    go_big_quiet_on
    refine sec_call (v := .tuple #[.agg #[.int .i64 0, .int .i64 0, .int .i64 0, .string (ByteArray.mk #[])], .int .i64 3]) (by rfl) (by rfl) (by rfl) (by rfl) (by rfl) ?_ ?_
    · intro m K hK
      go_big_quiet_op
      exact ⟨_, fun q => Later.call (kHear_f HZ.out HZZ.out _ (HT.out.below (fbelow_t (fbelow_t HB1.out m.h) q.h))), hK⟩
    simp only [Act.put, List.setIfInBounds_toArray, List.set_cons_succ, List.set_cons_zero]
    refine sec_plain (by rfl) (by rfl) (by rfl) (by rfl) ?_
    intro K hK
    go_big_quiet_op
    go_big_quiet_on
    refine sec_plain (by rfl) (by rfl) (by rfl) (by rfl) ?_
    intro K hK
    go_big_quiet_op
    go_big_quiet_on
    refine sec_plain (by rfl) (by rfl) (by rfl) (by rfl) ?_
    intro K hK
    go_big_quiet_op
    go_big_quiet_on
    refine sec_newer (s := 8) (mk := fun w => .pointer (some ⟨w.heap.size, 0, none⟩)) (ob := fun w => .cells #[.int .i64 0, .int .i64 0, .int .i64 0, .string (ByteArray.mk #[])] 23) (by rfl) (by rfl) (by rfl) (by rfl) (by rfl) (fun _ => by kernel_rfl) (fun w hb => NewF.made hb) ?_
    simp only [Act.put, List.setIfInBounds_toArray, List.set_cons_succ, List.set_cons_zero]
    unfold wpSec
    rw [if_pos (by rfl)]
    refine ⟨undef, fun a w3 hb hl => ?_, ?_⟩
    · have h8 := hl 8 (by decide)
      have h44 := hl 44 (by decide)
      rw [if_pos (by decide)] at h8
      rw [if_neg (by decide)] at h44
      obtain ⟨g, hg, hbox, _⟩ := h8
      have e44 : a.tmps.getD 44 undef = .agg #[.int .i64 0, .int .i64 0, .int .i64 0, .string (ByteArray.mk #[])] := h44
      clear hl h44
      obtain ⟨c0, c1, c2, c3⟩ := hbox.cells
      have e0 := hbox.liveO 0
      have e1 := hbox.liveO 1
      have e2 := hbox.liveO 2
      have e3 := hbox.liveO 3
      have hid := put_zero hbox
      simp only [execOp, Act.eval, hg, e44]
      simp [go_sem, c0, c1, c2, c3, e0, e1, e2, e3]
      rw [hid]
      exact ⟨Below.refl _ _, trivial⟩
    intro xs m hF
    obtain ⟨g, hg, hbox, hge⟩ := hF 8 (by simp)
    simp only [secFill, hg, Act.put, List.setIfInBounds_toArray, List.set_cons_succ, List.set_cons_zero]
    clear hF hg
    have HBX := Lib.hid hbox
    have HB2 := Lib.hid (fbelow_t HB1.out m.h)
    clear hbox hge
    generalize m.w = w2 at HBX HB2 ⊢
    clear m HB1
    obtain ⟨q0, q1, q2, q3⟩ := HBX.out.cells
    go_wp2_with fail
    refine (seralive_any _ (HT.out.below HB2.out)).mono ?_
    rintro e w5 ⟨rfl, hb5⟩
    go_wp2
    go_ret
    exact ⟨rfl, fbelow_t HB2.out hb5⟩
  · obtain ⟨y, hy⟩ : ∃ y, a ++ ByteArray.mk #[48] = y := ⟨_, rfl⟩
    obtain ⟨z, hz⟩ : ∃ z, y ++ b = z := ⟨_, rfl⟩
    have zy : y.size = a.size + 1 := by rw [← hy, ByteArray.size_append]; rfl
    have zz : z.size = y.size + b.size := by rw [← hz, ByteArray.size_append]
    have z1 : (ByteArray.mk #[48]).size = 1 := rfl
    have hzb : byL z = byL a ++ oth 49 :: byL b := by
      rw [← hz, ← hy, byL_app, byL_app, show byL (ByteArray.mk #[48]) = [oth 49] by decide +kernel, List.append_assoc]; rfl
    have HZ : Hid (NoSend z) := Lib.hid (turned_nobody (hsb.symm.trans hcut) hzb)
    have HZZ : Hid (z.size ≤ 1000000) := Lib.hid (by omega)
    have s1 : ¬ 9223372036854775807 < a.size + (ByteArray.mk #[48]).size := by omega
    have s2 : ¬ 9223372036854775807 < y.size + b.size := by omega
    clear hp hs hsb hhi hcut hzb
    go_enter Tryd.func6, Tryd.ntmps6
    go_wp2_with fail
    refine (kSend_t HP.out HS.out _ (HT.out.below HB0.out)).mono ?_
    rintro e w1 ⟨rfl, hb1⟩
    have HB1 := Lib.hid (fbelow_t HB0.out hb1)
    clear hb1
    go_wp2_with fail
    refine wp_region_sec 16 [8] (fun _ v w => NewF w1 v w) (fun _ _ _ _ h hb => h.later hb) (by kernel_rfl) (by kernel_rfl) (by kernel_rfl) (by kernel_rfl) (by kernel_rfl) ?_
    simp only [List.take_succ_cons, List.take_zero, List.drop_succ_cons, List.drop_zero]
    refine sec_plain (by rfl) (by rfl) (by rfl) (by rfl) ?_
    intro K hK
    go_big_quiet_op
    go_big_quiet_on
    refine sec_plain (by rfl) (by rfl) (by rfl) (by rfl) ?_
    intro K hK
    go_big_quiet_op
    go_big_quiet_on
    refine sec_plain (by rfl) (by rfl) (by rfl) (by rfl) ?_
    intro K hK
    go_big_quiet_op
    go_big_quiet_on
    refine sec_plain (by rfl) (by rfl) (by rfl) (by rfl) ?_
    intro K hK
    go_big_quiet_op
    go_big_quiet_on
    refine sec_plain (by rfl) (by rfl) (by rfl) (by rfl) ?_
    intro K hK
    go_big_quiet_op
    go_big_quiet_on
    refine sec_plain (by rfl) (by rfl) (by rfl) (by rfl) ?_
    intro K hK
    go_big_quiet_op
    go_big_quiet_on
    refine sec_plain (by rfl) (by rfl) (by rfl) (by rfl) ?_
    intro K hK
    go_big_quiet_op
    go_big_quiet_on
    refine sec_plain (by rfl) (by rfl) (by rfl) (by rfl) ?_
    intro K hK
    go_big_quiet_op
    go_big_quiet_on
    refine sec_plain (by rfl) (by rfl) (by rfl) (by rfl) ?_
    intro K hK
    go_big_quiet_op
    go_big_quiet_on
    refine sec_plain (by rfl) (by rfl) (by rfl) (by rfl) ?_
    intro K hK
    go_big_quiet_op
    go_big_quiet_on
    refine sec_call (v := .tuple #[.agg #[.int .i64 0, .int .i64 0, .int .i64 0, .string (ByteArray.mk #[])], .int .i64 3]) (by rfl) (by rfl) (by rfl) (by rfl) (by rfl) ?_ ?_
    · intro m K hK
      go_big_quiet_op
      exact ⟨_, fun q => Later.call (kHear_f HZ.out HZZ.out _ (HT.out.below (fbelow_t (fbelow_t HB1.out m.h) q.h))), hK⟩
    simp only [Act.put, List.setIfInBounds_toArray, List.set_cons_succ, List.set_cons_zero]
    refine sec_plain (by rfl) (by rfl) (by rfl) (by rfl) ?_
    intro K hK
    go_big_quiet_op
    go_big_quiet_on
    refine sec_plain (by rfl) (by rfl) (by rfl) (by rfl) ?_
    intro K hK
    go_big_quiet_op
    go_big_quiet_on
    refine sec_plain (by rfl) (by rfl) (by rfl) (by rfl) ?_
    intro K hK
    go_big_quiet_op
    go_big_quiet_on
    refine sec_newer (s := 8) (mk := fun w => .pointer (some ⟨w.heap.size, 0, none⟩)) (ob := fun w => .cells #[.int .i64 0, .int .i64 0, .int .i64 0, .string (ByteArray.mk #[])] 23) (by rfl) (by rfl) (by rfl) (by rfl) (by rfl) (fun _ => by kernel_rfl) (fun w hb => NewF.made hb) ?_
    simp only [Act.put, List.setIfInBounds_toArray, List.set_cons_succ, List.set_cons_zero]
    unfold wpSec
    rw [if_pos (by rfl)]
    refine ⟨undef, fun a w3 hb hl => ?_, ?_⟩
    · have h8 := hl 8 (by decide)
      have h44 := hl 44 (by decide)
      rw [if_pos (by decide)] at h8
      rw [if_neg (by decide)] at h44
      obtain ⟨g, hg, hbox, _⟩ := h8
      have e44 : a.tmps.getD 44 undef = .agg #[.int .i64 0, .int .i64 0, .int .i64 0, .string (ByteArray.mk #[])] := h44
      clear hl h44
      obtain ⟨c0, c1, c2, c3⟩ := hbox.cells
      have e0 := hbox.liveO 0
      have e1 := hbox.liveO 1
      have e2 := hbox.liveO 2
      have e3 := hbox.liveO 3
      have hid := put_zero hbox
      simp only [execOp, Act.eval, hg, e44]
      simp [go_sem, c0, c1, c2, c3, e0, e1, e2, e3]
      rw [hid]
      exact ⟨Below.refl _ _, trivial⟩
    intro xs m hF
    obtain ⟨g, hg, hbox, hge⟩ := hF 8 (by simp)
    simp only [secFill, hg, Act.put, List.setIfInBounds_toArray, List.set_cons_succ, List.set_cons_zero]
    clear hF hg
    have HBX := Lib.hid hbox
    have HB2 := Lib.hid (fbelow_t HB1.out m.h)
    clear hbox hge
    generalize m.w = w2 at HBX HB2 ⊢
    clear m HB1
    obtain ⟨q0, q1, q2, q3⟩ := HBX.out.cells
    go_wp2_with fail
    refine (seralive_any _ (HT.out.below HB2.out)).mono ?_
    rintro e w5 ⟨rfl, hb5⟩
    go_wp2
    go_ret
    exact ⟨rfl, fbelow_t HB2.out hb5⟩
end Go.Proofs.YtfooigckcjbegaaDoor
