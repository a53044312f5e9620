/- Frame: alive. -/
import Derived.Test.YtellhnhkdbbngaaDoorFrmK
namespace Go.Proofs.YtellhnhkdbbngaaDoor
open Go.RowKit
set_option linter.unusedVariables false

def s12 : ByteArray := ⟨#[1, 2]⟩
set_option maxHeartbeats 2000000 in
theorem falive_any (w : World) (hT : Tabs w) :
    Calls Tryd.prog 14 #[] w fun e w' => e = .returned (.bool true) ∧ Below w.heap.size w w' := by
  have HT := Lib.hid hT
  have h1 : okF 291 0 2 (ByteArray.mk #[1, 2]).size = true := by decide +kernel
  have h2 : okF 2048 0 0 (ByteArray.mk #[]).size = false := by decide +kernel
  have h3 : wordV 291 0 2 (ByteArray.mk #[1, 2]).size = 291 := by decide +kernel
  have h4 : keyV 291 0 2 (ByteArray.mk #[1, 2]).size = 1220542464 := by decide +kernel
  have h5 : isLen 12 = true := by decide +kernel
  have h6 : codeN 12 = 9 := by decide +kernel
  have H1 := Lib.hid h1
  have H2 := Lib.hid h2
  have H3 := Lib.hid h3
  have H4 := Lib.hid h4
  have H5 := Lib.hid h5
  have H6 := Lib.hid h6
  clear hT h1 h2 h3 h4 h5 h6
  go_enter Tryd.func14, Tryd.ntmps14
  go_wp2_with fail
  refine (code_t 12 _ (HT.out.alloc _) H5.out).mono ?_
  rw [H6.out]
  rintro e w1 ⟨rfl, hb1⟩
  have hT1 := Lib.hid ((HT.out.alloc _).below hb1)
  obtain ⟨hc1, hf1⟩ := fbcell hb1
  have hz1 : w.heap.size < w1.heap.size := by have := hb1.size; simp only [World.size_alloc] at this; omega
  go_wp2_with fail
  refine (right_t H1.out _ hT1.out).mono ?_
  rintro e w2 ⟨rfl, hb2⟩
  have hT2 := Lib.hid (hT1.out.below hb2)
  obtain ⟨hc2, hf2⟩ := fbcell hb2
  have hz2 : w.heap.size < w2.heap.size := Nat.lt_of_lt_of_le hz1 hb2.size
  go_wp2_with fail
  refine (word_v H3.out _ hT2.out (by decide) (by decide)).mono ?_
  rintro e w3 ⟨rfl, hb3⟩
  have hT3 := Lib.hid (hT2.out.below hb3)
  obtain ⟨hc3, hf3⟩ := fbcell hb3
  have hz3 : w.heap.size < w3.heap.size := Nat.lt_of_lt_of_le hz2 hb3.size
  go_wp2_with fail
  refine (key_v H4.out _ hT3.out (by decide) (by decide)).mono ?_
  rintro e w4 ⟨rfl, hb4⟩
  have hT4 := Lib.hid (hT3.out.below hb4)
  go_wp2_with fail
  refine (right_f H2.out _ hT4.out (by decide) (by decide)).mono ?_
  rintro e w5 ⟨rfl, hb5⟩
  go_wp2
  go_ret
  exact ⟨rfl, fbelow_t (fbelow_t (fbelow_t (fbelow_t (fbelow_a _ hb1) hb2) hb3) hb4) hb5⟩

/-! ### FrameSizes -/
theorem codeN_bd (n : Int) : -1 ≤ codeN n ∧ codeN n < 16 := by unfold codeN; (repeat' split) <;> omega
theorem code_vt {n c : Int} (h : codeN n = c) (h0 : 0 ≤ c) (w : World) (hT : Tabs w) :
    Calls Tryd.prog 15 #[.int .i64 n] w fun e w' => e = .returned (.tuple #[.int .i64 c, .bool true]) ∧ Below w.heap.size w w' := by
  rw [← h]; exact code_t n w hT (by unfold isLen; rw [h]; simpa using h0)
theorem code_vf {n c : Int} (h : codeN n = c) (h0 : c < 0) (w : World) (hT : Tabs w) :
    Calls Tryd.prog 15 #[.int .i64 n] w fun e w' => e = .returned (.tuple #[.int .i64 0, .bool false]) ∧ Below w.heap.size w w' :=
  code_f n w hT (by unfold isLen; rw [h]; simpa using h0)
theorem rcode_v {n c : Int} (h : codeN n = c) (w : World) :
    Calls Tryd.prog 16 #[.int .i64 n] w fun e w' => e = .returned (.int .i64 c) ∧ Below w.heap.size w w' := by rw [← h]; exact rcode_any n w
theorem size_v {k : Nat} {s : Int} (h : lenAt k = s) (hk : k < 16) (w : World) (hT : Tabs w) :
    Calls Tryd.prog 17 #[.int .i64 k] w fun e w' => e = .returned (.tuple #[.int .i64 s, .bool true]) ∧ Below w.heap.size w w' := by
  rw [← h]; exact (size_t k w hT hk).mono fun _ _ ⟨h1, h2⟩ => ⟨h1, by rw [← h2]; exact Below.refl _ _⟩
theorem lens_nn : ∀ k : Fin 16, 0 ≤ lens.getD k.val 0 := by decide
theorem fit_vt {n f : Int} (h : fitN n = f) (h0 : 0 ≤ f) (w : World) (hT : Tabs w) :
    Calls Tryd.prog 19 #[.int .i64 n] w fun e w' => e = .returned (.tuple #[.int .i64 f, .bool true]) ∧ Below w.heap.size w w' := by
  rcases fitC_cases n with hc | ⟨k, hk, hc⟩
  · rw [← fitN_f hc] at h; omega
  · rw [← h, ← fitN_t hc]; exact fit_t n k w hT hk hc
theorem fit_vf {n f : Int} (h : fitN n = f) (h0 : f < 0) (w : World) (hT : Tabs w) :
    Calls Tryd.prog 19 #[.int .i64 n] w fun e w' => e = .returned (.tuple #[.int .i64 0, .bool false]) ∧ Below w.heap.size w w' := by
  rcases fitC_cases n with hc | ⟨k, hk, hc⟩
  · exact fit_f n w hT hc
  · rw [← fitN_t hc] at h
    have := lens_nn ⟨k, hk⟩
    simp only at this
    omega
theorem rfit_v {n f : Int} (h : fitN n = f) (w : World) :
    Calls Tryd.prog 20 #[.int .i64 n] w fun e w' => e = .returned (.int .i64 f) ∧ Below w.heap.size w w' := by rw [← h]; exact rfit_any n w
theorem rsizes_v {k : Nat} {s : Int} (h : lenAt k = s) (hk : k < 16) (w : World) :
    Calls Tryd.prog 18 #[] w fun e w' => e = .returned (.slice (some ⟨w.heap.size, 0, none⟩) 16 16) ∧ w'.cell? ⟨w.heap.size, k, none⟩ = some (.int .i64 s) ∧ Below w.heap.size w w' := by
  rw [← h]; exact (rsizes_any w).mono fun _ _ ⟨h1, h2, h3⟩ => ⟨h1, h2 k hk, h3⟩

theorem codeN_len {k : Nat} (hk : k < 16) : codeN (lenAt k) = k := code_at ⟨k, hk⟩
set_option maxHeartbeats 4000000 in
theorem sizes_in (k : Nat) (hk : k < 16) (w : World) (hT : Tabs w) :
    Calls Tryd.prog 4 #[.int .i64 (k : Int)] w fun e w' => e = .returned (.bool true) ∧ Below w.heap.size w w' := by
  have T0 := Lib.hid hT
  obtain ⟨c, hc⟩ : ∃ c, codeN (k : Int) = c := ⟨_, rfl⟩
  have cb := codeN_bd (k : Int)
  rw [hc] at cb
  obtain ⟨s, hs⟩ : ∃ s, lenAt k = s := ⟨_, rfl⟩
  have HK : Hid (codeN s = k) := by rw [← hs]; exact codeN_len hk
  obtain ⟨f, hf⟩ : ∃ f, fitN (k : Int) = f := ⟨_, rfl⟩
  have HC := Lib.hid hc
  have HS := Lib.hid hs
  have HF := Lib.hid hf
  clear hT hc hs hf
  by_cases c1 : c < 0
  · have c0 : c < 0 := c1
    have c2 : decide (0 ≤ c) = false := by simp; omega
    by_cases f1 : f < 0
    · have f0 : f < 0 := f1
      have f2 : decide (0 ≤ f) = false := by simp; omega
      go_enter Tryd.func4, Tryd.ntmps4
      go_wp2_with fail
      refine (code_vf HC.out c0 _ T0.out).mono ?_
      rintro e w1 ⟨rfl, hb1⟩
      have T1 := Lib.hid (T0.out.below hb1)
      go_wp2_with fail
      refine (rcode_v HC.out _).mono ?_
      rintro e w2 ⟨rfl, hb2⟩
      have T2 := Lib.hid (T1.out.below hb2)
      go_wp2_with fail
      refine (size_v HS.out hk _ T2.out).mono ?_
      rintro e w3 ⟨rfl, hb3⟩
      have T3 := Lib.hid (T2.out.below hb3)
      go_wp2_with fail
      refine (rsizes_v HS.out hk _).mono ?_
      rintro e w4 ⟨rfl, hcl4, hb4⟩
      have T4 := Lib.hid (T3.out.below hb4)
      go_wp2_with fail
      refine (fit_vf HF.out f0 _ T4.out).mono ?_
      rintro e w5 ⟨rfl, hb5⟩
      have T5 := Lib.hid (T4.out.below hb5)
      go_wp2_with fail
      refine (rfit_v HF.out _).mono ?_
      rintro e w6 ⟨rfl, hb6⟩
      have T6 := Lib.hid (T5.out.below hb6)
      go_wp2_with fail
      refine (code_vt HK.out (Int.natCast_nonneg _) _ T6.out).mono ?_
      rintro e w7 ⟨rfl, hb7⟩
      have T7 := Lib.hid (T6.out.below hb7)
      go_wp2_with fail
      refine (falive_any _ T7.out).mono ?_
      rintro e w8 ⟨rfl, hb8⟩
      have T8 := Lib.hid (T7.out.below hb8)
      go_wp2
      go_ret
      exact ⟨rfl, fbelow_t (fbelow_t (fbelow_t (fbelow_t (fbelow_t (fbelow_t (fbelow_t (hb1) hb2) hb3) hb4) hb5) hb6) hb7) hb8⟩
    · have f0 : 0 ≤ f := by omega
      have f2 : decide (0 ≤ f) = true := by simp; omega
      go_enter Tryd.func4, Tryd.ntmps4
      go_wp2_with fail
      refine (code_vf HC.out c0 _ T0.out).mono ?_
      rintro e w1 ⟨rfl, hb1⟩
      have T1 := Lib.hid (T0.out.below hb1)
      go_wp2_with fail
      refine (rcode_v HC.out _).mono ?_
      rintro e w2 ⟨rfl, hb2⟩
      have T2 := Lib.hid (T1.out.below hb2)
      go_wp2_with fail
      refine (size_v HS.out hk _ T2.out).mono ?_
      rintro e w3 ⟨rfl, hb3⟩
      have T3 := Lib.hid (T2.out.below hb3)
      go_wp2_with fail
      refine (rsizes_v HS.out hk _).mono ?_
      rintro e w4 ⟨rfl, hcl4, hb4⟩
      have T4 := Lib.hid (T3.out.below hb4)
      go_wp2_with fail
      refine (fit_vt HF.out f0 _ T4.out).mono ?_
      rintro e w5 ⟨rfl, hb5⟩
      have T5 := Lib.hid (T4.out.below hb5)
      go_wp2_with fail
      refine (rfit_v HF.out _).mono ?_
      rintro e w6 ⟨rfl, hb6⟩
      have T6 := Lib.hid (T5.out.below hb6)
      go_wp2_with fail
      refine (rfit_v HF.out _).mono ?_
      rintro e w7 ⟨rfl, hb7⟩
      have T7 := Lib.hid (T6.out.below hb7)
      go_wp2_with fail
      refine (code_vt HK.out (Int.natCast_nonneg _) _ T7.out).mono ?_
      rintro e w8 ⟨rfl, hb8⟩
      have T8 := Lib.hid (T7.out.below hb8)
      go_wp2_with fail
      refine (falive_any _ T8.out).mono ?_
      rintro e w9 ⟨rfl, hb9⟩
      have T9 := Lib.hid (T8.out.below hb9)
      go_wp2
      go_ret
      exact ⟨rfl, fbelow_t (fbelow_t (fbelow_t (fbelow_t (fbelow_t (fbelow_t (fbelow_t (fbelow_t (hb1) hb2) hb3) hb4) hb5) hb6) hb7) hb8) hb9⟩
  · have c0 : 0 ≤ c := by omega
    have c2 : decide (0 ≤ c) = true := by simp; omega
    by_cases f1 : f < 0
    · have f0 : f < 0 := f1
      have f2 : decide (0 ≤ f) = false := by simp; omega
      go_enter Tryd.func4, Tryd.ntmps4
      go_wp2_with fail
      refine (code_vt HC.out c0 _ T0.out).mono ?_
      rintro e w1 ⟨rfl, hb1⟩
      have T1 := Lib.hid (T0.out.below hb1)
      go_wp2_with fail
      refine (rcode_v HC.out _).mono ?_
      rintro e w2 ⟨rfl, hb2⟩
      have T2 := Lib.hid (T1.out.below hb2)
      go_wp2_with fail
      refine (rcode_v HC.out _).mono ?_
      rintro e w3 ⟨rfl, hb3⟩
      have T3 := Lib.hid (T2.out.below hb3)
      go_wp2_with fail
      refine (size_v HS.out hk _ T3.out).mono ?_
      rintro e w4 ⟨rfl, hb4⟩
      have T4 := Lib.hid (T3.out.below hb4)
      go_wp2_with fail
      refine (rsizes_v HS.out hk _).mono ?_
      rintro e w5 ⟨rfl, hcl5, hb5⟩
      have T5 := Lib.hid (T4.out.below hb5)
      go_wp2_with fail
      refine (fit_vf HF.out f0 _ T5.out).mono ?_
      rintro e w6 ⟨rfl, hb6⟩
      have T6 := Lib.hid (T5.out.below hb6)
      go_wp2_with fail
      refine (rfit_v HF.out _).mono ?_
      rintro e w7 ⟨rfl, hb7⟩
      have T7 := Lib.hid (T6.out.below hb7)
      go_wp2_with fail
      refine (code_vt HK.out (Int.natCast_nonneg _) _ T7.out).mono ?_
      rintro e w8 ⟨rfl, hb8⟩
      have T8 := Lib.hid (T7.out.below hb8)
      go_wp2_with fail
      refine (falive_any _ T8.out).mono ?_
      rintro e w9 ⟨rfl, hb9⟩
      have T9 := Lib.hid (T8.out.below hb9)
      go_wp2
      go_ret
      exact ⟨rfl, fbelow_t (fbelow_t (fbelow_t (fbelow_t (fbelow_t (fbelow_t (fbelow_t (fbelow_t (hb1) hb2) hb3) hb4) hb5) hb6) hb7) hb8) hb9⟩
    · have f0 : 0 ≤ f := by omega
      have f2 : decide (0 ≤ f) = true := by simp; omega
      go_enter Tryd.func4, Tryd.ntmps4
      go_wp2_with fail
      refine (code_vt HC.out c0 _ T0.out).mono ?_
      rintro e w1 ⟨rfl, hb1⟩
      have T1 := Lib.hid (T0.out.below hb1)
      go_wp2_with fail
      refine (rcode_v HC.out _).mono ?_
      rintro e w2 ⟨rfl, hb2⟩
      have T2 := Lib.hid (T1.out.below hb2)
      go_wp2_with fail
      refine (rcode_v HC.out _).mono ?_
      rintro e w3 ⟨rfl, hb3⟩
      have T3 := Lib.hid (T2.out.below hb3)
      go_wp2_with fail
      refine (size_v HS.out hk _ T3.out).mono ?_
      rintro e w4 ⟨rfl, hb4⟩
      have T4 := Lib.hid (T3.out.below hb4)
      go_wp2_with fail
      refine (rsizes_v HS.out hk _).mono ?_
      rintro e w5 ⟨rfl, hcl5, hb5⟩
      have T5 := Lib.hid (T4.out.below hb5)
      go_wp2_with fail
      refine (fit_vt HF.out f0 _ T5.out).mono ?_
      rintro e w6 ⟨rfl, hb6⟩
      have T6 := Lib.hid (T5.out.below hb6)
      go_wp2_with fail
      refine (rfit_v HF.out _).mono ?_
      rintro e w7 ⟨rfl, hb7⟩
      have T7 := Lib.hid (T6.out.below hb7)
      go_wp2_with fail
      refine (rfit_v HF.out _).mono ?_
      rintro e w8 ⟨rfl, hb8⟩
      have T8 := Lib.hid (T7.out.below hb8)
      go_wp2_with fail
      refine (code_vt HK.out (Int.natCast_nonneg _) _ T8.out).mono ?_
      rintro e w9 ⟨rfl, hb9⟩
      have T9 := Lib.hid (T8.out.below hb9)
      go_wp2_with fail
      refine (falive_any _ T9.out).mono ?_
      rintro e w10 ⟨rfl, hb10⟩
      have T10 := Lib.hid (T9.out.below hb10)
      go_wp2
      go_ret
      exact ⟨rfl, fbelow_t (fbelow_t (fbelow_t (fbelow_t (fbelow_t (fbelow_t (fbelow_t (fbelow_t (fbelow_t (hb1) hb2) hb3) hb4) hb5) hb6) hb7) hb8) hb9) hb10⟩

set_option maxHeartbeats 4000000 in
theorem sizes_out (n : Int) (hr : n < 0 ∨ 16 ≤ n) (w : World) (hT : Tabs w) :
    Calls Tryd.prog 4 #[.int .i64 n] w fun e w' => e = .returned (.bool true) ∧ Below w.heap.size w w' := by
  have T0 := Lib.hid hT
  have HR := Lib.hid hr
  obtain ⟨c, hc⟩ : ∃ c, codeN n = c := ⟨_, rfl⟩
  obtain ⟨f, hf⟩ : ∃ f, fitN n = f := ⟨_, rfl⟩
  have HC := Lib.hid hc
  have HF := Lib.hid hf
  clear hT hc hf hr
  by_cases n0 : n < 0
  all_goals
    have n1 := HR.out
    try (have n2 : decide (0 ≤ n) = false := by simp; omega)
    try (have n2 : decide (0 ≤ n) = true := by simp; omega)
    try (have n3 : decide (n < 16) = false := by simp; omega)
    clear n1
    by_cases c1 : c < 0
    · have c0 : c < 0 := c1
      have c2 : decide (0 ≤ c) = false := by simp; omega
      by_cases f1 : f < 0
      · have f0 : f < 0 := f1
        have f2 : decide (0 ≤ f) = false := by simp; omega
        go_enter Tryd.func4, Tryd.ntmps4
        go_wp2_with fail
        refine (code_vf HC.out c0 _ T0.out).mono ?_
        rintro e w1 ⟨rfl, hb1⟩
        have T1 := Lib.hid (T0.out.below hb1)
        go_wp2_with fail
        refine (rcode_v HC.out _).mono ?_
        rintro e w2 ⟨rfl, hb2⟩
        have T2 := Lib.hid (T1.out.below hb2)
        go_wp2_with fail
        refine (size_f _ _ HR.out).mono ?_
        rintro e _ ⟨rfl, rfl⟩
        go_wp2_with fail
        refine (fit_vf HF.out f0 _ T2.out).mono ?_
        rintro e w3 ⟨rfl, hb3⟩
        have T3 := Lib.hid (T2.out.below hb3)
        go_wp2_with fail
        refine (rfit_v HF.out _).mono ?_
        rintro e w4 ⟨rfl, hb4⟩
        have T4 := Lib.hid (T3.out.below hb4)
        go_wp2_with fail
        refine (falive_any _ T4.out).mono ?_
        rintro e w5 ⟨rfl, hb5⟩
        have T5 := Lib.hid (T4.out.below hb5)
        go_wp2
        go_ret
        exact ⟨rfl, fbelow_t (fbelow_t (fbelow_t (fbelow_t (hb1) hb2) hb3) hb4) hb5⟩
      · have f0 : 0 ≤ f := by omega
        have f2 : decide (0 ≤ f) = true := by simp; omega
        go_enter Tryd.func4, Tryd.ntmps4
        go_wp2_with fail
        refine (code_vf HC.out c0 _ T0.out).mono ?_
        rintro e w1 ⟨rfl, hb1⟩
        have T1 := Lib.hid (T0.out.below hb1)
        go_wp2_with fail
        refine (rcode_v HC.out _).mono ?_
        rintro e w2 ⟨rfl, hb2⟩
        have T2 := Lib.hid (T1.out.below hb2)
        go_wp2_with fail
        refine (size_f _ _ HR.out).mono ?_
        rintro e _ ⟨rfl, rfl⟩
        go_wp2_with fail
        refine (fit_vt HF.out f0 _ T2.out).mono ?_
        rintro e w3 ⟨rfl, hb3⟩
        have T3 := Lib.hid (T2.out.below hb3)
        go_wp2_with fail
        refine (rfit_v HF.out _).mono ?_
        rintro e w4 ⟨rfl, hb4⟩
        have T4 := Lib.hid (T3.out.below hb4)
        go_wp2_with fail
        refine (rfit_v HF.out _).mono ?_
        rintro e w5 ⟨rfl, hb5⟩
        have T5 := Lib.hid (T4.out.below hb5)
        go_wp2_with fail
        refine (falive_any _ T5.out).mono ?_
        rintro e w6 ⟨rfl, hb6⟩
        have T6 := Lib.hid (T5.out.below hb6)
        go_wp2
        go_ret
        exact ⟨rfl, fbelow_t (fbelow_t (fbelow_t (fbelow_t (fbelow_t (hb1) hb2) hb3) hb4) hb5) hb6⟩
    · have c0 : 0 ≤ c := by omega
      have c2 : decide (0 ≤ c) = true := by simp; omega
      by_cases f1 : f < 0
      · have f0 : f < 0 := f1
        have f2 : decide (0 ≤ f) = false := by simp; omega
        go_enter Tryd.func4, Tryd.ntmps4
        go_wp2_with fail
        refine (code_vt HC.out c0 _ T0.out).mono ?_
        rintro e w1 ⟨rfl, hb1⟩
        have T1 := Lib.hid (T0.out.below hb1)
        go_wp2_with fail
        refine (rcode_v HC.out _).mono ?_
        rintro e w2 ⟨rfl, hb2⟩
        have T2 := Lib.hid (T1.out.below hb2)
        go_wp2_with fail
        refine (rcode_v HC.out _).mono ?_
        rintro e w3 ⟨rfl, hb3⟩
        have T3 := Lib.hid (T2.out.below hb3)
        go_wp2_with fail
        refine (size_f _ _ HR.out).mono ?_
        rintro e _ ⟨rfl, rfl⟩
        go_wp2_with fail
        refine (fit_vf HF.out f0 _ T3.out).mono ?_
        rintro e w4 ⟨rfl, hb4⟩
        have T4 := Lib.hid (T3.out.below hb4)
        go_wp2_with fail
        refine (rfit_v HF.out _).mono ?_
        rintro e w5 ⟨rfl, hb5⟩
        have T5 := Lib.hid (T4.out.below hb5)
        go_wp2_with fail
        refine (falive_any _ T5.out).mono ?_
        rintro e w6 ⟨rfl, hb6⟩
        have T6 := Lib.hid (T5.out.below hb6)
        go_wp2
        go_ret
        exact ⟨rfl, fbelow_t (fbelow_t (fbelow_t (fbelow_t (fbelow_t (hb1) hb2) hb3) hb4) hb5) hb6⟩
      · have f0 : 0 ≤ f := by omega
        have f2 : decide (0 ≤ f) = true := by simp; omega
        go_enter Tryd.func4, Tryd.ntmps4
        go_wp2_with fail
        refine (code_vt HC.out c0 _ T0.out).mono ?_
        rintro e w1 ⟨rfl, hb1⟩
        have T1 := Lib.hid (T0.out.below hb1)
        go_wp2_with fail
        refine (rcode_v HC.out _).mono ?_
        rintro e w2 ⟨rfl, hb2⟩
        have T2 := Lib.hid (T1.out.below hb2)
        go_wp2_with fail
        refine (rcode_v HC.out _).mono ?_
        rintro e w3 ⟨rfl, hb3⟩
        have T3 := Lib.hid (T2.out.below hb3)
        go_wp2_with fail
        refine (size_f _ _ HR.out).mono ?_
        rintro e _ ⟨rfl, rfl⟩
        go_wp2_with fail
        refine (fit_vt HF.out f0 _ T3.out).mono ?_
        rintro e w4 ⟨rfl, hb4⟩
        have T4 := Lib.hid (T3.out.below hb4)
        go_wp2_with fail
        refine (rfit_v HF.out _).mono ?_
        rintro e w5 ⟨rfl, hb5⟩
        have T5 := Lib.hid (T4.out.below hb5)
        go_wp2_with fail
        refine (rfit_v HF.out _).mono ?_
        rintro e w6 ⟨rfl, hb6⟩
        have T6 := Lib.hid (T5.out.below hb6)
        go_wp2_with fail
        refine (falive_any _ T6.out).mono ?_
        rintro e w7 ⟨rfl, hb7⟩
        have T7 := Lib.hid (T6.out.below hb7)
        go_wp2
        go_ret
        exact ⟨rfl, fbelow_t (fbelow_t (fbelow_t (fbelow_t (fbelow_t (fbelow_t (hb1) hb2) hb3) hb4) hb5) hb6) hb7⟩

theorem frameSizes_walk (n : Int) (_h : (Lit.int .i64 n).wf = true) (w : World) (hT : Tabs w) :
    Calls Tryd.prog 4 #[.int .i64 n] w fun e w' => e = .returned (.bool true) ∧ Below w.heap.size w w' := by
  by_cases h : 0 ≤ n ∧ n < 16
  · obtain ⟨k, rfl⟩ := Int.eq_ofNat_of_zero_le h.1
    exact sizes_in k (by omega) w hT
  · exact sizes_out n (by omega) w hT

end Go.Proofs.YtellhnhkdbbngaaDoor
