/- Frame: the walk of FrameBack. -/
import Derived.Test.YtellhnhkdbbngaaDoorFrmY
import Derived.Laws.Concat
namespace Go.Proofs.YtellhnhkdbbngaaDoor
open Go.RowKit
set_option linter.unusedVariables false

theorem word_back {i n : Int} (i0 : 0 ≤ i) (i1 : i ≤ 536870911) (n0 : 0 ≤ n) (n8 : n < 8) : wordN i n % 536870912 = i ∧ nOf (wordN i n) = n ∧ 0 ≤ wordN i n ∧ wordN i n < 4294967296 ∧ wR (wordN i n) = fR n := by
  have : n = 0 ∨ n = 1 ∨ n = 2 ∨ n = 3 ∨ n = 4 ∨ n = 5 ∨ n = 6 ∨ n = 7 := by omega
  have key : ∀ e r x : Bool, ∀ W : Int, W = i + 2147483648 * b01 e + 1073741824 * b01 r + 536870912 * b01 x → W % 536870912 = i ∧ wE W = e ∧ wR W = r ∧ wX W = x ∧ 0 ≤ W ∧ W < 4294967296 := by
    intro e r x W hW
    unfold wE wR wX
    cases e <;> cases r <;> cases x <;> simp only [b01, if_true, if_false, Bool.false_eq_true, decide_eq_true_eq, decide_eq_false_iff_not] at hW ⊢ <;> omega
  have hW : wordN i n = i + 2147483648 * b01 (fE n) + 1073741824 * b01 (fR n) + 536870912 * b01 (fX n) := rfl
  obtain ⟨h1, h2, h3, h4, h5, h6⟩ := key _ _ _ _ hW
  refine ⟨h1, ?_, h5, h6, h3⟩
  unfold nOf
  rw [h2, h3, h4]
  rcases this with rfl | rfl | rfl | rfl | rfl | rfl | rfl | rfl <;> decide

def xs (k : Nat) : ByteArray := ByteArray.mk (List.replicate k (120 : UInt8)).toArray
theorem xs_size (k : Nat) : (xs k).size = k := by simp [xs, ByteArray.size]
theorem xs_add (k : Nat) (h : k ≤ 100) (w : World) : (Op.stringOp .add (xs k) (ByteArray.mk #[120])).run Tryd.prog w = .ok (.string (xs (k + 1))) w := by
  rw [run_string_add_sum w _ _ (by rw [xs_size]; have : (ByteArray.mk #[120]).size = 1 := rfl; omega)]
  have e : xs k ++ ByteArray.mk #[120] = xs (k + 1) := by
    apply ByteArray.ext
    apply Array.toList_inj.1
    simp [xs, ByteArray.data_append, List.replicate_succ']
  rw [e]
theorem empty_of {d : ByteArray} (h : d.size = 0) : d = ByteArray.mk #[] := by
  obtain ⟨⟨l⟩⟩ := d
  cases l
  · rfl
  · simp [ByteArray.size] at h

set_option maxHeartbeats 4000000 in
theorem back_out {i n l : Int} {d : ByteArray} (hn : -9223372036854775808 ≤ n ∧ n ≤ 9223372036854775807) (h : okF i n l d.size = false ∨ (okF i n l d.size = true ∧ 8 ≤ n)) (w : World) (hT : Tabs w) :
    Calls Tryd.prog 6 #[.agg #[.int .i64 i, .int .i64 n, .int .i64 l, .string d]] w fun e w' => e = .returned (.bool true) ∧ Below w.heap.size w w' := by
  have HT := Lib.hid hT
  have HN := Lib.hid hn
  clear hT hn
  rcases h with h | ⟨h, h8⟩
  · have HO := Lib.hid h
    clear h
    go_enter Tryd.func6, Tryd.ntmps6
    go_wp2_with fail
    refine (right_f HO.out _ (HT.out.alloc _) HN.out.1 HN.out.2).mono ?_
    rintro e w1 ⟨rfl, hb1⟩
    have T1 := Lib.hid ((HT.out.alloc _).below hb1)
    go_wp2_with fail
    refine (falive_any _ T1.out).mono ?_
    rintro e w2 ⟨rfl, hb2⟩
    go_wp2
    go_ret
    exact ⟨rfl, fbelow_t (fbelow_a _ hb1) hb2⟩
  · have HO := Lib.hid h
    clear h
    go_enter Tryd.func6, Tryd.ntmps6
    go_wp2_with fail
    refine (right_t HO.out _ (HT.out.alloc _)).mono ?_
    rintro e w1 ⟨rfl, hb1⟩
    have T1 := Lib.hid ((HT.out.alloc _).below hb1)
    obtain ⟨hc1, hf1⟩ := fbcell hb1
    go_wp2_with fail
    refine (falive_any _ T1.out).mono ?_
    rintro e w2 ⟨rfl, hb2⟩
    go_wp2
    go_ret
    exact ⟨rfl, fbelow_t (fbelow_a _ hb1) hb2⟩

/-- what Of makes of a frame's word and data -/
theorem of_back {i n l : Int} {d D : ByteArray} (g : Good i n l d.size) (h : okF i n l d.size = true) (n8 : n < 8) (hD : (D.size : Int) = l) (hd : dOf (wordN i n) D = d) (w : World) (hT : Tabs w) :
    Calls Tryd.prog 21 #[.int .u32 (wordN i n), .string D] w fun e w' => e = .returned (.tuple #[.agg #[.int .i64 i, .int .i64 n, .int .i64 l, .string d], .int .i64 0]) ∧ Below w.heap.size w w' := by
  obtain ⟨h1, h2, h3, h4, h5⟩ := word_back g.i0 g.top g.n0 n8
  have hl : l ≤ 64 := by
    have := g.ln
    unfold lenOk at this
    split at this
    · simp at this; omega
    · split at this
      · have hl := this
        apply Classical.byContradiction
        intro hc
        rw [isLen_hi (by omega)] at hl
        cases hl
      · simp at this; omega
  have := of_t (W := wordN i n) (d := D) h3 h4 (by unfold maxLen; omega) (by unfold okOf; rw [h1, h2, hd, hD]; exact h) w hT
  rw [h1, h2, hd, hD] at this
  exact this

def backRel (l : Int) (v i : Value) : Prop := ∃ k : Nat, (k : Int) ≤ l ∧ i = .int .i64 k ∧ v = .string (xs k)

set_option maxHeartbeats 4000000 in
theorem back_in {i n l : Int} {d : ByteArray} (h : okF i n l d.size = true) (n8 : n < 8) (w : World) (hT : Tabs w) :
    Calls Tryd.prog 6 #[.agg #[.int .i64 i, .int .i64 n, .int .i64 l, .string d]] w fun e w' => e = .returned (.bool true) ∧ Below w.heap.size w w' := by
  have HT := Lib.hid hT
  have g := good h
  have n0 := g.n0
  have HO := Lib.hid h
  have HB := fun D hD hd => Lib.hid (of_back (D := D) g h n8 hD hd)
  obtain ⟨_, _, W0, W1, hwr⟩ := word_back g.i0 g.top g.n0 n8
  have HW := Lib.hid (word_t h)
  have hdt := g.dt
  have hln := g.ln
  have hD0 : fD n = false := by unfold fD; simp; omega
  have l8 : 0 ≤ l ∧ l ≤ 8 := by
    unfold lenOk at hln
    rw [hD0] at hln
    split at hln <;> simp at hln <;> omega
  obtain ⟨l0, l8⟩ := l8
  obtain ⟨Wd, hWd⟩ : ∃ Wd, wordN i n = Wd := ⟨_, rfl⟩
  simp only [hWd] at HB HW W0 W1 hwr
  unfold datOk at hdt
  clear hT h hln hD0 hWd g
  cases hr : fR n
  · rw [hr] at hdt hwr
    simp only [Bool.false_eq_true, if_false, decide_eq_true_eq] at hdt
    have HB' : Hid (∀ w, Tabs w → Calls Tryd.prog 21 #[.int .u32 Wd, .string d] w fun e w' => e = .returned (.tuple #[.agg #[.int .i64 i, .int .i64 n, .int .i64 l, .string d], .int .i64 0]) ∧ Below w.heap.size w w') := (HB d hdt (by unfold dOf; rw [hwr]; rfl))
    have hnl : ¬ ((d.size : Int) < l) := by omega
    clear HB hr hwr hdt
    go_enter Tryd.func6, Tryd.ntmps6
    go_wp2_with fail
    refine (right_t HO.out _ (HT.out.alloc _)).mono ?_
    rintro e w1 ⟨rfl, hb1⟩
    have T1 := Lib.hid ((HT.out.alloc _).below hb1)
    obtain ⟨hc1, hf1⟩ := fbcell hb1
    have hz1 : w.heap.size < w1.heap.size := by have := hb1.size; simp only [World.size_alloc] at this; omega
    have t1 : decide ((d.size : Int) < l) = false := by simp; omega
    go_wp2_with fail
    refine wp_loop_rounds 1 ?_
    rw [rounds_succ]
    go_wp2_with fail
    refine (HW.out _ T1.out).mono ?_
    rintro e w2 ⟨rfl, hb2⟩
    have T2 := Lib.hid (T1.out.below hb2)
    obtain ⟨hc2, hf2⟩ := fbcell hb2
    have hz2 : w.heap.size < w2.heap.size := Nat.lt_of_lt_of_le hz1 hb2.size
    go_wp2_with fail
    refine (HB'.out _ T2.out).mono ?_
    rintro e w3 ⟨rfl, hb3⟩
    have T3 := Lib.hid (T2.out.below hb3)
    obtain ⟨hc3, hf3⟩ := fbcell hb3
    have hz3 : w.heap.size < w3.heap.size := Nat.lt_of_lt_of_le hz2 hb3.size
    go_wp2_with fail
    refine (falive_any _ (T3.out.alloc _)).mono ?_
    rintro e w4 ⟨rfl, hb4⟩
    go_wp2
    go_ret
    exact ⟨rfl, fbelow_t (fbelow_t (fbelow_t (fbelow_a _ hb1) hb2) hb3) (fbelow_a _ hb4)⟩
  · rw [hr] at hdt hwr
    simp only [if_true, decide_eq_true_eq] at hdt
    obtain rfl := empty_of hdt
    have HB' : Hid (∀ k : Nat, (k : Int) = l → ∀ w, Tabs w → Calls Tryd.prog 21 #[.int .u32 Wd, .string (xs k)] w fun e w' => e = .returned (.tuple #[.agg #[.int .i64 i, .int .i64 n, .int .i64 l, .string (ByteArray.mk #[])], .int .i64 0]) ∧ Below w.heap.size w w') :=
      Lib.hid (fun k hk => (HB (xs k) (by rw [xs_size]; exact hk) (by unfold dOf; rw [hwr]; rfl)).out)
    clear HB hr hwr hdt
    go_enter Tryd.func6, Tryd.ntmps6
    go_wp2_with fail
    refine (right_t HO.out _ (HT.out.alloc _)).mono ?_
    rintro e w1 ⟨rfl, hb1⟩
    have T1 := Lib.hid ((HT.out.alloc _).below hb1)
    obtain ⟨hc1, hf1⟩ := fbcell hb1
    have hz1 : w.heap.size < w1.heap.size := by have := hb1.size; simp only [World.size_alloc] at this; omega
    go_wp2_with fail
    go_loop [3, 4] (fun v i => backRel l v i) (fun _ i => 8 - (intOf i).toNat)
    case atStart => exact ⟨0, by omega, rfl, rfl⟩
    case round =>
      obtain ⟨k, hk, rfl, rfl⟩ := hrel
      have hsz : ((xs k).size : Int) = (k : Int) := by rw [xs_size]
      by_cases hp : (k : Int) < l
      · have ha := xs_add k (by omega)
        go_wp2
        go_round
        case rel => exact ⟨k + 1, by omega, by go_num, rfl⟩
        case measure => simp [intOf]; omega
      · have hkl := Lib.hid (show (k : Int) = l by omega)
        have t1 : decide ((k : Int) < l) = false := by simp; omega
        go_wp2_with fail
        refine (HW.out _ T1.out).mono ?_
        rintro e w2 ⟨rfl, hb2⟩
        have T2 := Lib.hid (T1.out.below hb2)
        obtain ⟨hc2, hf2⟩ := fbcell hb2
        have hz2 : w.heap.size < w2.heap.size := Nat.lt_of_lt_of_le hz1 hb2.size
        go_wp2_with fail
        refine (HB'.out k hkl.out _ T2.out).mono ?_
        rintro e w3 ⟨rfl, hb3⟩
        have T3 := Lib.hid (T2.out.below hb3)
        obtain ⟨hc3, hf3⟩ := fbcell hb3
        have hz3 : w.heap.size < w3.heap.size := Nat.lt_of_lt_of_le hz2 hb3.size
        go_wp2_with fail
        refine (falive_any _ (T3.out.alloc _)).mono ?_
        rintro e w4 ⟨rfl, hb4⟩
        go_wp2
        go_ret
        exact ⟨rfl, fbelow_t (fbelow_t (fbelow_t (fbelow_a _ hb1) hb2) hb3) (fbelow_a _ hb4)⟩

theorem frameBack_walk (i n l : Int) (d : ByteArray) (_wi : (Lit.int .i64 i).wf = true) (wn : (Lit.int .i64 n).wf = true) (_wl : (Lit.int .i64 l).wf = true) (_wd : d.size ≤ maxLen) (w : World) (hT : Tabs w) :
    Calls Tryd.prog 6 #[.agg #[.int .i64 i, .int .i64 n, .int .i64 l, .string d]] w fun e w' => e = .returned (.bool true) ∧ Below w.heap.size w w' := by
  cases ho : okF i n l d.size
  · exact back_out (Go.bounds_i64 wn) (.inl ho) w hT
  · by_cases h8 : 8 ≤ n
    · exact back_out (Go.bounds_i64 wn) (.inr ⟨ho, h8⟩) w hT
    · exact back_in ho (by omega) w hT

end Go.Proofs.YtellhnhkdbbngaaDoor
