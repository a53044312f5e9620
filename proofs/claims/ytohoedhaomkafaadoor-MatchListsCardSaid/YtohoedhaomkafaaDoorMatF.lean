/- Match: contracts of carries, Match, Exact, Told, and of the document's Match, Told. -/
import Derived.Test.YtohoedhaomkafaaDoorMatE
namespace Go.Proofs.YtohoedhaomkafaaDoor
open Go.RowKit
set_option linter.unusedVariables false

theorem laterTabs {W : World} (n : Later W) (h : Tabs W) : Tabs n.w := h.below n.h
/-- may the frame be, and does it tell of no error? -/
def carB (i n l : Int) (sz : Nat) : Bool := okF i n l sz && !fX n
theorem word_nat (i n l : Int) (sz : Nat) : ∃ v : Nat, wordV i n l sz = (v : Int) ∧ v < 4294967296 := by
  unfold wordV
  cases ho : okF i n l sz
  · exact ⟨0, rfl, by decide⟩
  · have g := good ho
    have h0 := g.i0
    have h1 := g.top
    have hw : 0 ≤ wordN i n ∧ wordN i n < 4294967296 := by
      unfold wordN b01
      cases fE n <;> cases fR n <;> cases fX n <;> simp <;> omega
    obtain ⟨v, hv⟩ := Int.eq_ofNat_of_zero_le hw.1
    exact ⟨v, by simpa using hv, by omega⟩

set_option maxHeartbeats 1000000 in
theorem carries_v {i n l : Int} {d : ByteArray} {q : Bool} (h : carB i n l d.size = q) (w : World) (hT : Tabs w) (hn1 : -9223372036854775808 ≤ n) (hn2 : n ≤ 9223372036854775807) :
    Calls Tryd.prog 20 #[.agg #[.int .i64 i, .int .i64 n, .int .i64 l, .string d]] w fun e w' => e = .returned (.bool q) ∧ Below w.heap.size w w' := by
  have HT := Lib.hid hT
  cases ho : okF i n l d.size
  · have H := Lib.hid ho
    have HQ : Hid (false = q) := Lib.hid (by rw [← h]; unfold carB; rw [ho]; rfl)
    clear h ho hT
    go_enter Tryd.func20, Tryd.ntmps20
    go_wp2_with fail
    refine (right_f H.out _ (HT.out.alloc _) hn1 hn2).mono ?_
    rintro e w1 ⟨rfl, hb⟩
    go_wp2
    go_ret
    exact ⟨fret_bool HQ.out, fbelow_a _ hb⟩
  · have H := Lib.hid ho
    cases hx : fX n
    · have HQ : Hid (true = q) := Lib.hid (by rw [← h]; unfold carB; rw [ho, hx]; rfl)
      have a4 := and4_f hx
      clear h ho hT hx
      go_enter Tryd.func20, Tryd.ntmps20
      go_wp2_with fail
      refine (right_t H.out _ (HT.out.alloc _)).mono ?_
      rintro e w1 ⟨rfl, hb⟩
      obtain ⟨hc1, hf1⟩ := fbcell hb
      have z1 : w.heap.size < w1.heap.size := by have := hb.size; simp only [World.size_alloc] at this; omega
      go_wp2
      go_ret
      exact ⟨fret_bool HQ.out, fbelow_a _ hb⟩
    · have HQ : Hid (false = q) := Lib.hid (by rw [← h]; unfold carB; rw [ho, hx]; rfl)
      have a4 := and4_t hx
      clear h ho hT hx
      go_enter Tryd.func20, Tryd.ntmps20
      go_wp2_with fail
      refine (right_t H.out _ (HT.out.alloc _)).mono ?_
      rintro e w1 ⟨rfl, hb⟩
      obtain ⟨hc1, hf1⟩ := fbcell hb
      have z1 : w.heap.size < w1.heap.size := by have := hb.size; simp only [World.size_alloc] at this; omega
      go_wp2
      go_ret
      exact ⟨fret_bool HQ.out, fbelow_a _ hb⟩

set_option maxHeartbeats 1000000 in
theorem match_v {f : Flt} {i n l : Int} {d : ByteArray} {v : Nat} {q : Bool} (c : Bool) (hc : carB i n l d.size = c) (hv : wordV i n l d.size = (v : Int)) (hvl : v < 4294967296) (h : (c && hitN f v) = q) (hf : f.fits)
    (w : World) (hT : Tabs w) (hn1 : -9223372036854775808 ≤ n) (hn2 : n ≤ 9223372036854775807) :
    Calls Tryd.prog 8 #[.agg #[.int .u32 f.i, .int .u32 f.m, .bool f.v], .agg #[.int .i64 i, .int .i64 n, .int .i64 l, .string d]] w fun e w' => e = .returned (.bool q) ∧ Below w.heap.size w w' := by
  have HT := Lib.hid hT
  have HC := Lib.hid hc
  have HV := Lib.hid hv
  have HVL := Lib.hid hvl
  have HF := Lib.hid hf
  have HN := Lib.hid (And.intro hn1 hn2)
  have H := Lib.hid h
  have hl := later_cells
  clear hT hc hv hvl hf hn1 hn2 h
  cases c
  · go_enter Tryd.func8, Tryd.ntmps8
    go_wp2_with fail
    refine wp_region_later (by kernel_rfl) (by kernel_rfl) ?_
    repeat (go_big_quiet_step (fail))
    go_big_quiet_step (exact Later.call (carries_v HC.out _ (laterTabs _ ((HT.out.alloc _).alloc _)) HN.out.1 HN.out.2))
    repeat (go_big_quiet_step (fail))
    refine wpQuiet_nil ?_
    rintro w1 ⟨m, rfl⟩
    go_wp2
    go_ret
    exact ⟨fret_bool H.out, fbelow_a _ (fbelow_a _ m.h)⟩
  · have HQ : Hid (hitN f v = q) := Lib.hid (by rw [← H.out]; rfl)
    go_enter Tryd.func8, Tryd.ntmps8
    go_wp2_with fail
    refine wp_region_later (by kernel_rfl) (by kernel_rfl) ?_
    repeat (go_big_quiet_step (fail))
    go_big_quiet_step (exact Later.call (carries_v HC.out _ (laterTabs _ ((HT.out.alloc _).alloc _)) HN.out.1 HN.out.2))
    repeat (go_big_quiet_step (fail))
    go_big_quiet_step (exact Later.call (word_v HV.out _ (laterTabs _ ((HT.out.alloc _).alloc _)) HN.out.1 HN.out.2))
    repeat (go_big_quiet_step (fail))
    go_big_quiet_step (exact Later.call (mhit_v HQ.out HF.out HVL.out _))
    repeat (go_big_quiet_step (fail))
    refine wpQuiet_nil ?_
    rintro w1 ⟨m, rfl⟩
    go_wp2
    go_ret
    exact ⟨rfl, fbelow_a _ (fbelow_a _ m.h)⟩

set_option maxHeartbeats 1000000 in
theorem rmatch_v {f : Flt} {i n l : Int} {d : ByteArray} {v : Nat} {q : Bool} (c : Bool) (hc : carB i n l d.size = c) (hv : wordV i n l d.size = (v : Int)) (hvl : v < 4294967296) (h : (c && hitN f v) = q) (hf : f.fits)
    (w : World) :
    Calls Tryd.prog 9 #[.agg #[.int .u32 f.i, .int .u32 f.m, .bool f.v], .agg #[.int .i64 i, .int .i64 n, .int .i64 l, .string d]] w fun e w' => e = .returned (.bool q) ∧ Below w.heap.size w w' := by
  have HV := Lib.hid hv
  have HVL := Lib.hid hvl
  have HF := Lib.hid hf
  have H := Lib.hid h
  have hl := later_cells
  clear hv hvl hf h
  cases ho : okF i n l d.size
  · have HO := Lib.hid ho
    have HQ : Hid (false = q) := Lib.hid (by rw [← H.out, ← hc]; unfold carB; rw [ho]; rfl)
    clear hc ho
    go_enter Tryd.func9, Tryd.ntmps9
    go_wp2_with fail
    refine wp_region_later (by kernel_rfl) (by kernel_rfl) ?_
    repeat (go_big_quiet_step (fail))
    go_big_quiet_step (exact Later.call (rright_v HO.out _))
    repeat (go_big_quiet_step (fail))
    refine wpQuiet_nil ?_
    rintro w1 ⟨m, rfl⟩
    go_wp2
    go_ret
    exact ⟨fret_bool HQ.out, fbelow_a _ (fbelow_a _ m.h)⟩
  · have HO := Lib.hid ho
    have g := good ho
    have HG := Lib.hid (And.intro g.n0 g.n1)
    cases hx : fX n
    · have HX := Lib.hid hx
      have HQ : Hid (hitN f v = q) := Lib.hid (by rw [← H.out, ← hc]; unfold carB; rw [ho, hx]; rfl)
      clear hc ho hx g
      go_enter Tryd.func9, Tryd.ntmps9
      go_wp2_with fail
      refine wp_region_later (by kernel_rfl) (by kernel_rfl) ?_
      repeat (go_big_quiet_step (fail))
      go_big_quiet_step (exact Later.call (rright_v HO.out _))
      repeat (go_big_quiet_step (fail))
      go_big_quiet_step (exact Later.call (has4 HX.out HG.out.1 HG.out.2 _ _ _ _))
      repeat (go_big_quiet_step (fail))
      go_big_quiet_step (exact Later.call (rword_v HV.out _))
      repeat (go_big_quiet_step (fail))
      go_big_quiet_step (exact Later.call (rhit_v HQ.out HF.out HVL.out _))
      repeat (go_big_quiet_step (fail))
      refine wpQuiet_nil ?_
      rintro w1 ⟨m, rfl⟩
      go_wp2
      go_ret
      exact ⟨rfl, fbelow_a _ (fbelow_a _ m.h)⟩
    · have HX := Lib.hid hx
      have HQ : Hid (false = q) := Lib.hid (by rw [← H.out, ← hc]; unfold carB; rw [ho, hx]; rfl)
      clear hc ho hx g
      go_enter Tryd.func9, Tryd.ntmps9
      go_wp2_with fail
      refine wp_region_later (by kernel_rfl) (by kernel_rfl) ?_
      repeat (go_big_quiet_step (fail))
      go_big_quiet_step (exact Later.call (rright_v HO.out _))
      repeat (go_big_quiet_step (fail))
      go_big_quiet_step (exact Later.call (has4 HX.out HG.out.1 HG.out.2 _ _ _ _))
      repeat (go_big_quiet_step (fail))
      refine wpQuiet_nil ?_
      rintro w1 ⟨m, rfl⟩
      go_wp2
      go_ret
      exact ⟨fret_bool HQ.out, fbelow_a _ (fbelow_a _ m.h)⟩

/-! ### Told -/
def toldB (e : Nat) (i n l : Int) (sz : Nat) : Bool := okF i n l sz && fX n && !((e &&& i.toNat) == 0)

set_option maxHeartbeats 1000000 in
theorem told_v {e : Nat} {i n l : Int} {d : ByteArray} {q : Bool} (h : toldB e i n l d.size = q) (he : e < 4294967296) (w : World) (hT : Tabs w) (hn1 : -9223372036854775808 ≤ n) (hn2 : n ≤ 9223372036854775807) :
    Calls Tryd.prog 13 #[.int .u32 e, .agg #[.int .i64 i, .int .i64 n, .int .i64 l, .string d]] w fun e w' => e = .returned (.bool q) ∧ Below w.heap.size w w' := by
  have HT := Lib.hid hT
  cases ho : okF i n l d.size
  · have H := Lib.hid ho
    have HQ : Hid (false = q) := Lib.hid (by rw [← h]; unfold toldB; rw [ho]; rfl)
    clear h ho hT
    go_enter Tryd.func13, Tryd.ntmps13
    go_wp2_with fail
    refine (right_f H.out _ (HT.out.alloc _) hn1 hn2).mono ?_
    rintro e w1 ⟨rfl, hb⟩
    go_wp2
    go_ret
    exact ⟨fret_bool HQ.out, fbelow_a _ hb⟩
  · have H := Lib.hid ho
    have g := good ho
    obtain ⟨k, rfl⟩ := Int.eq_ofNat_of_zero_le g.i0
    have hk := g.top
    cases hx : fX n
    · have HQ : Hid (false = q) := Lib.hid (by rw [← h]; unfold toldB; rw [ho, hx]; rfl)
      have a4 := and4_f hx
      clear h ho hT hx g
      go_enter Tryd.func13, Tryd.ntmps13
      go_wp2_with fail
      refine (right_t H.out _ (HT.out.alloc _)).mono ?_
      rintro e w1 ⟨rfl, hb⟩
      obtain ⟨hc1, hf1⟩ := fbcell hb
      have z1 : w.heap.size < w1.heap.size := by have := hb.size; simp only [World.size_alloc] at this; omega
      go_wp2
      go_ret
      exact ⟨fret_bool HQ.out, fbelow_a _ hb⟩
    · have a4 := and4_t hx
      have e1 := u32_and e k he (by omega)
      have HQ : Hid ((!((e &&& k) == 0)) = q) := Lib.hid (by rw [← h]; unfold toldB; rw [ho, hx]; rfl)
      clear h ho hT hx g
      generalize (e &&& k : Nat) = x at e1 HQ
      go_enter Tryd.func13, Tryd.ntmps13
      go_wp2_with fail
      refine (right_t H.out _ (HT.out.alloc _)).mono ?_
      rintro e w1 ⟨rfl, hb⟩
      obtain ⟨hc1, hf1⟩ := fbcell hb
      have z1 : w.heap.size < w1.heap.size := by have := hb.size; simp only [World.size_alloc] at this; omega
      go_wp2
      go_ret
      exact ⟨fret_bool (by rw [← HQ.out, Bool.eq_iff_iff]; simp), fbelow_a _ hb⟩

/-- have they one of the first k bits in common? -/
theorem told_bits {e k : Nat} (hk : k < 536870912) : (e &&& k = 0) ↔ ∀ j, j < 29 → (e.testBit j && k.testBit j) = false := by
  constructor
  · intro h j _
    rw [← Nat.testBit_and, h, Nat.zero_testBit]
  · intro h
    apply Nat.eq_of_testBit_eq
    intro j
    rw [Nat.testBit_and, Nat.zero_testBit]
    by_cases hj : j < 29
    · exact h j hj
    · have : k.testBit j = false := by
        apply Nat.testBit_lt_two_pow
        have : 2 ^ 29 ≤ 2 ^ j := Nat.pow_le_pow_right (by decide) (by omega)
        omega
      rw [this, Bool.and_false]

set_option maxHeartbeats 1000000 in
theorem rtold_v {e : Nat} {i n l : Int} {d : ByteArray} {q : Bool} (h : toldB e i n l d.size = q) (he : e < 4294967296) (w : World) :
    Calls Tryd.prog 14 #[.int .u32 e, .agg #[.int .i64 i, .int .i64 n, .int .i64 l, .string d]] w fun e w' => e = .returned (.bool q) ∧ Below w.heap.size w w' := by
  cases ho : okF i n l d.size
  · have H := Lib.hid ho
    have HQ : Hid (false = q) := Lib.hid (by rw [← h]; unfold toldB; rw [ho]; rfl)
    clear h ho
    go_enter Tryd.func14, Tryd.ntmps14
    go_wp2_with fail
    refine (rright_v H.out _).mono ?_
    rintro e w1 ⟨rfl, hb⟩
    go_wp2
    go_ret
    exact ⟨fret_bool HQ.out, fbelow_a _ hb⟩
  · have H := Lib.hid ho
    have g := good ho
    obtain ⟨k, rfl⟩ := Int.eq_ofNat_of_zero_le g.i0
    have hk := g.top
    have HG := Lib.hid (And.intro g.n0 g.n1)
    cases hx : fX n
    · have HQ : Hid (false = q) := Lib.hid (by rw [← h]; unfold toldB; rw [ho, hx]; rfl)
      have HX := Lib.hid hx
      clear h ho hx g
      go_enter Tryd.func14, Tryd.ntmps14
      go_wp2_with fail
      refine (rright_v H.out _).mono ?_
      rintro e w1 ⟨rfl, hb⟩
      obtain ⟨hc1, hf1⟩ := fbcell hb
      have z1 : w.heap.size < w1.heap.size := by have := hb.size; simp only [World.size_alloc] at this; omega
      go_wp2_with fail
      refine (has4 HX.out HG.out.1 HG.out.2 _ _ _ _).mono ?_
      rintro e w2 ⟨rfl, hb2⟩
      have HB2 := Lib.hid (fbelow_t (fbelow_a _ hb) hb2)
      go_wp2
      go_ret
      exact ⟨fret_bool HQ.out, HB2.out⟩
    · have HQ : Hid ((!((e &&& k) == 0)) = q) := Lib.hid (by rw [← h]; unfold toldB; rw [ho, hx]; rfl)
      have HX := Lib.hid hx
      have HE := Lib.hid he
      have HB := Lib.hid (told_bits (e := e) (k := k) (by omega))
      clear h ho hx g he
      go_enter Tryd.func14, Tryd.ntmps14
      go_wp2_with fail
      refine (rright_v H.out _).mono ?_
      rintro e' w1 ⟨rfl, hb⟩
      obtain ⟨hc1, hf1⟩ := fbcell hb
      have z1 : w.heap.size < w1.heap.size := by have := hb.size; simp only [World.size_alloc] at this; omega
      go_wp2_with fail
      refine (has4 HX.out HG.out.1 HG.out.2 _ _ _ _).mono ?_
      rintro e' w2 ⟨rfl, hb2⟩
      have HB2 := Lib.hid (fbelow_t (fbelow_a _ hb) hb2)
      have hci : w2.cell? ⟨w.heap.size, 0, none⟩ = some (.int .i64 k) := by
        rw [(fbcell hb2).1 _ _ z1, hc1 _ _ (by simp)]; simp [go_sem]
      clear hb hb2 hc1 hf1 z1
      go_wp2
      go_loop [5] (fun i => ∃ j : Nat, j ≤ 29 ∧ i = .int .i64 j ∧ Hid (∀ x, x < j → (e.testBit x && k.testBit x) = false)) (fun i => 29 - (intOf i).toNat)
      case atStart => exact ⟨0, by omega, rfl, Lib.hid (fun x hx => absurd hx (Nat.not_lt_zero _))⟩
      case round =>
        obtain ⟨j, hj, rfl, HJ⟩ := hrel
        by_cases hlt : j < 29
        · generalize h1 : e.testBit j = q1
          have H1 := Lib.hid h1
          generalize h2 : k.testBit j = q2
          have H2 := Lib.hid h2
          have HN : Hid ((q1 && q2) = false → ∀ x, x < j + 1 → (e.testBit x && k.testBit x) = false) := Lib.hid (fun hf x hx => by
            by_cases e2 : x = j
            · subst e2; rw [h1, h2]; exact hf
            · exact HJ.out x (by omega))
          clear h1 h2
          go_wp2_with fail
          refine (rbit_v H1.out HE.out (by omega) _).mono ?_
          rintro e' w3 ⟨rfl, rfl⟩
          cases q1
          · go_wp2
            go_round
            case rel => exact ⟨j + 1, by omega, by go_num, Lib.hid (HN.out (by trivial))⟩
            case measure => simp [intOf]; omega
          · go_wp2_with fail
            refine (rbit_v H2.out (by omega) (by omega) _).mono ?_
            rintro e' w3 ⟨rfl, rfl⟩
            cases q2
            · go_wp2
              go_round
              case rel => exact ⟨j + 1, by omega, by go_num, Lib.hid (HN.out (by trivial))⟩
              case measure => simp [intOf]; omega
            · go_wp2
              go_ret
              refine ⟨fret_bool ?_, HB2.out⟩
              rw [← HQ.out]
              cases hz : ((e &&& k) == 0)
              · rfl
              · have := HB.out.1 (by simpa using hz) j hlt
                rw [H1.out, H2.out] at this
                cases this
        · obtain rfl : j = 29 := by omega
          have hz := HB.out.2 HJ.out
          have HQ2 : Hid (false = q) := Lib.hid (by rw [← HQ.out, hz]; rfl)
          clear hz
          go_wp2
          go_ret
          exact ⟨fret_bool HQ2.out, HB2.out⟩

/-! ### Exact -/
/-- Exact's filter -/
def exF (i n l : Int) (sz v : Nat) : Flt := if okF i n l sz then ⟨v, 4294967295, false⟩ else ⟨0, 0, false⟩
theorem exF_fits {i n l : Int} {sz v : Nat} (hv : v < 4294967296) : (exF i n l sz v).fits := by
  unfold exF
  split
  · exact ⟨hv, by show (4294967295 : Nat) < 4294967296; decide⟩
  · exact ⟨by decide, by decide⟩

set_option maxHeartbeats 1000000 in
theorem exact_v {f : Flt} {i n l : Int} {d : ByteArray} {v : Nat} (h : exF i n l d.size v = f) (hv : wordV i n l d.size = (v : Int)) (w : World) (hT : Tabs w) (hn1 : -9223372036854775808 ≤ n) (hn2 : n ≤ 9223372036854775807) :
    Calls Tryd.prog 17 #[.agg #[.int .i64 i, .int .i64 n, .int .i64 l, .string d]] w fun e w' => e = .returned (.agg #[.int .u32 f.i, .int .u32 f.m, .bool f.v]) ∧ Below w.heap.size w w' := by
  have HT := Lib.hid hT
  have HV := Lib.hid hv
  cases ho : okF i n l d.size
  · have H := Lib.hid ho
    have HQ : Hid (⟨0, 0, false⟩ = f) := Lib.hid (by rw [← h]; unfold exF; rw [ho]; rfl)
    clear h ho hT hv
    go_enter Tryd.func17, Tryd.ntmps17
    go_wp2_with fail
    refine (right_f H.out _ ((HT.out.alloc _).alloc _) hn1 hn2).mono ?_
    rintro e w1 ⟨rfl, hb⟩
    obtain ⟨hc1, hf1⟩ := fbcell hb
    have z1 : w.heap.size < w1.heap.size := by have := hb.size; simp only [World.size_alloc] at this; omega
    have z2 : w.heap.size + 1 < w1.heap.size := by have := hb.size; simp only [World.size_alloc] at this; omega
    have c0 : w1.cell? ⟨w.heap.size + 1, 0, none⟩ = some (.int .u32 0) := by rw [hc1 _ _ (by simp only [World.size_alloc]; omega)]; simp [go_sem]
    have c1 : w1.cell? ⟨w.heap.size + 1, 1, none⟩ = some (.int .u32 0) := by rw [hc1 _ _ (by simp only [World.size_alloc]; omega)]; simp [go_sem]
    have c2 : w1.cell? ⟨w.heap.size + 1, 2, none⟩ = some (.bool false) := by rw [hc1 _ _ (by simp only [World.size_alloc]; omega)]; simp [go_sem]
    go_wp2
    refine bodyPost_ret (v := .agg #[.int .u32 0, .int .u32 0, .bool false]) (by simp [results, Tryd.results17, go_sem, c0, c1, c2]) rfl ⟨by rw [← HQ.out]; rfl, ?_⟩
    have hbb := fbelow_a _ (fbelow_a _ hb)
    exact (((hbb.setCell (p := ⟨w.heap.size + 1, 0, none⟩) (Nat.le_add_right _ _) _).setCell (p := ⟨w.heap.size + 1, 1, none⟩) (Nat.le_add_right _ _) _).setCell (p := ⟨w.heap.size + 1, 2, none⟩) (Nat.le_add_right _ _) _)
  · have H := Lib.hid ho
    have HQ : Hid (⟨v, 4294967295, false⟩ = f) := Lib.hid (by rw [← h]; unfold exF; rw [ho]; rfl)
    have HN := Lib.hid (And.intro hn1 hn2)
    clear h ho hT hv hn1 hn2
    go_enter Tryd.func17, Tryd.ntmps17
    go_wp2_with fail
    refine (right_t H.out _ ((HT.out.alloc _).alloc _)).mono ?_
    rintro e w0 ⟨rfl, hb0⟩
    obtain ⟨hc0, hf0⟩ := fbcell hb0
    have y1 : w.heap.size < w0.heap.size := by have := hb0.size; simp only [World.size_alloc] at this; omega
    have y2 : w.heap.size + 1 < w0.heap.size := by have := hb0.size; simp only [World.size_alloc] at this; omega
    have HT0 := Lib.hid (((HT.out.alloc _).alloc _).below hb0)
    have b0 : w0.cell? ⟨w.heap.size + 1, 0, none⟩ = some (.int .u32 0) := by rw [hc0 _ _ (by simp only [World.size_alloc]; omega)]; simp [go_sem]
    have b1 : w0.cell? ⟨w.heap.size + 1, 1, none⟩ = some (.int .u32 0) := by rw [hc0 _ _ (by simp only [World.size_alloc]; omega)]; simp [go_sem]
    have b2 : w0.cell? ⟨w.heap.size + 1, 2, none⟩ = some (.bool false) := by rw [hc0 _ _ (by simp only [World.size_alloc]; omega)]; simp [go_sem]
    go_wp2_with fail
    refine (word_v HV.out _ HT0.out HN.out.1 HN.out.2).mono ?_
    rintro e w1 ⟨rfl, hb1⟩
    obtain ⟨hc1, hf1⟩ := fbcell hb1
    have z1 : w.heap.size < w1.heap.size := Nat.lt_of_lt_of_le y1 hb1.size
    have z2 : w.heap.size + 1 < w1.heap.size := Nat.lt_of_lt_of_le y2 hb1.size
    have c0 : w1.cell? ⟨w.heap.size + 1, 0, none⟩ = some (.int .u32 0) := by rw [hc1 _ _ y2]; exact b0
    have c1 : w1.cell? ⟨w.heap.size + 1, 1, none⟩ = some (.int .u32 0) := by rw [hc1 _ _ y2]; exact b1
    have c2 : w1.cell? ⟨w.heap.size + 1, 2, none⟩ = some (.bool false) := by rw [hc1 _ _ y2]; exact b2
    go_wp2
    refine bodyPost_ret (v := .agg #[.int .u32 v, .int .u32 4294967295, .bool false]) (by simp [results, Tryd.results17, go_sem, c0, c1, c2]) rfl ⟨by rw [← HQ.out]; rfl, ?_⟩
    have hbb := fbelow_t (fbelow_a _ (fbelow_a _ hb0)) hb1
    exact (((hbb.setCell (p := ⟨w.heap.size + 1, 0, none⟩) (Nat.le_add_right _ _) _).setCell (p := ⟨w.heap.size + 1, 1, none⟩) (Nat.le_add_right _ _) _).setCell (p := ⟨w.heap.size + 1, 2, none⟩) (Nat.le_add_right _ _) _)

end Go.Proofs.YtohoedhaomkafaaDoor
