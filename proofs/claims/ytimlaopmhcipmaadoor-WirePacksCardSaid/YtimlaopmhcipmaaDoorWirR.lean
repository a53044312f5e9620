/- Wire: told, as numbers and bytes; contracts of strings.Clone, told. -/
import Derived.Test.YtimlaopmhcipmaaDoorWirQ
namespace Go.Proofs.YtimlaopmhcipmaaDoor
open Go.RowKit
set_option linter.unusedVariables false

theorem Below.allocL {w w1 : World} (h : Below w.heap.size w w1) (o : Obj) : Below w.heap.size w (w1.alloc o) := h.alloc h.size o
theorem clone_any (s : ByteArray) (hs : s.size ≤ maxLen) (hz : s.size ≤ 281474976710656) (w : World) :
    Calls Tryd.prog 48 #[.string s] w fun e w' => e = .returned (.string s) ∧ Below w.heap.size w w' := by
  go_enter Tryd.func48, Tryd.ntmps48
  go_wp2_with fail
  refine (Tryd.stringslite_Clone s _ hz).mono ?_
  rintro e w1 ⟨rfl, hb⟩
  go_wp2
  go_ret
  exact ⟨rfl, hb⟩

/-- the frame that 'told' reads, and whether it can -/
def midS (s : ByteArray) : ByteArray := s.extract 8 16
def toldN (s : ByteArray) : Int := nOf (num4 s 0) + flagN (bt s 5)
def toldD (s : ByteArray) : ByteArray := if wR (num4 s 0) then ByteArray.mk #[] else decD s
def toldF (s : ByteArray) : Fr := ⟨num4 s 0 % 536870912, toldN s, bt s 4, toldD s⟩
def toldOk (s : ByteArray) : Bool := decide (s.size ≠ 0) && decide ((s.size : Int) = longN s) && decide (bt s 4 + 8 ≤ s.size) && okOf (num4 s 0) (midS s)

theorem longN_cases (s : ByteArray) : longN s = 0 ∨ longN s = 16 ∨ longN s = 72 := by
  unfold longN; split
  · exact .inl rfl
  · split
    · exact .inr (.inr rfl)
    · exact .inr (.inl rfl)
theorem flagN_bd (b : Int) : 0 ≤ flagN b ∧ flagN b ≤ 56 := by unfold flagN; have := b01_bd (fE b); have := b01_bd (fR b); have := b01_bd (fX b); omega
theorem or_flags (W b : Int) : bits .or .i64 (nOf W) (flagN b) = nOf W + flagN b := by
  have h1 := nOf_bd W
  have h2 := flagN_bd b
  rw [show bits .or .i64 (nOf W) (flagN b) = bits .or .i64 (flagN b) (nOf W) by simp only [bits, BitVec.or_comm], or_join (flagN b) (nOf W) 3 h2.1 (by unfold flagN; omega) (by omega) h1.1 (by omega) (by omega)]
  omega
theorem toldN_bd (W b : Int) : 0 ≤ nOf W + flagN b ∧ nOf W + flagN b ≤ 63 := by
  have h1 := nOf_bd W
  have h2 := flagN_bd b
  omega
theorem toldN_R (W b : Int) : fR (nOf W + flagN b) = wR W := by
  unfold nOf flagN
  have : ∀ e r x a b c : Bool, fR (b01 e + 2 * b01 r + 4 * b01 x + (16 * b01 a + 32 * b01 b + 8 * b01 c)) = r := by decide
  exact this _ _ _ _ _ _

set_option maxHeartbeats 400000 in
theorem told_1 {s : ByteArray} (h : s.size = 0) (w : World) :
    Calls Tryd.prog 28 #[.string s] w fun e w' => e = .returned (.tuple #[.agg #[.int .i64 0, .int .i64 0, .int .i64 0, .string (ByteArray.mk #[])], .bool false]) ∧ Below w.heap.size w w' := by
  obtain rfl := empty_sz h
  go_enter Tryd.func28, Tryd.ntmps28
  go_wp2
  exact bodyPost_ret (v := .tuple #[.agg #[.int .i64 0, .int .i64 0, .int .i64 0, .string (ByteArray.mk #[])], .bool false]) (by simp [results, Tryd.results28, go_sem]) rfl ⟨rfl, (Below.refl _ _).alloc (Nat.le_refl _) _⟩
set_option maxHeartbeats 400000 in
theorem told_2 {s : ByteArray} (hs : s.size ≤ maxLen) (h : s.size ≠ 0) (h2 : (s.size : Int) ≠ longN s) (w : World) :
    Calls Tryd.prog 28 #[.string s] w fun e w' => e = .returned (.tuple #[.agg #[.int .i64 0, .int .i64 0, .int .i64 0, .string (ByteArray.mk #[])], .bool false]) ∧ Below w.heap.size w w' := by
  have hn : s.toList.isEmpty = false := by rw [nilB]; simpa using h
  have hn2 : s.toList ≠ [] := fun e => by rw [e] at hn; cases hn
  obtain ⟨v, hv⟩ : ∃ v, longN s = v := ⟨_, rfl⟩
  rw [hv] at h2
  have HV := Lib.hid hv
  have HS := Lib.hid hs
  have e1 : ((s.size : Int) == v) = false := by simpa using h2
  have e2 : ((s.size : Int) != v) = true := by simpa using h2
  clear hv h h2 hs
  go_enter Tryd.func28, Tryd.ntmps28
  go_wp2_with fail
  refine (long_v HV.out HS.out _).mono ?_
  rintro e w1 ⟨rfl, rfl⟩
  go_wp2
  exact bodyPost_ret (v := .tuple #[.agg #[.int .i64 0, .int .i64 0, .int .i64 0, .string (ByteArray.mk #[])], .bool false]) (by simp [results, Tryd.results28, go_sem]) rfl ⟨rfl, (Below.refl _ _).alloc (Nat.le_refl _) _⟩

/-- of a text as long as it says -/
theorem long_eq {s : ByteArray} (h : s.size ≠ 0) (h2 : (s.size : Int) = longN s) : 16 ≤ s.size ∧ s.size ≤ 72 := by
  rcases longN_cases s with e | e | e <;> omega

set_option maxHeartbeats 400000 in
theorem told_3 {s : ByteArray} (h : s.size ≠ 0) (h2 : (s.size : Int) = longN s) (h3 : ¬ bt s 4 + 8 ≤ s.size) (w : World) :
    Calls Tryd.prog 28 #[.string s] w fun e w' => e = .returned (.tuple #[.agg #[.int .i64 0, .int .i64 0, .int .i64 0, .string (ByteArray.mk #[])], .bool false]) ∧ Below w.heap.size w w' := by
  have hn : s.toList.isEmpty = false := by rw [nilB]; simpa using h
  have hn2 : s.toList ≠ [] := fun e => by rw [e] at hn; cases hn
  obtain ⟨s0, s1⟩ := long_eq h h2
  have HV : Hid (longN s = s.size) := Lib.hid h2.symm
  have HS : Hid (s.size ≤ maxLen) := Lib.hid (by unfold maxLen; omega)
  have hi : ∀ w, (Instr.index 9 (.string s) (.int .i64 4)).run Tryd.prog w = .ok (.int .u8 (bt s 4)) w := index_bt (k := 4) Tryd.underlying9 (by omega)
  have hx0 := (bt_lt s 4).1
  have hx1 := (bt_lt s 4).2
  have h4 : (s.size : Int) - 8 < bt s 4 := by omega
  have e1 : ((s.size : Int) == (s.size : Int)) = true := by simp
  have e2 : ((s.size : Int) != (s.size : Int)) = false := by simp
  clear h h2 h3
  generalize bt s 4 = x at hi hx0 hx1 h4
  go_enter Tryd.func28, Tryd.ntmps28
  go_wp2_with fail
  refine (long_v HV.out HS.out _).mono ?_
  rintro e w1 ⟨rfl, rfl⟩
  go_wp2
  exact bodyPost_ret (v := .tuple #[.agg #[.int .i64 0, .int .i64 0, .int .i64 0, .string (ByteArray.mk #[])], .bool false]) (by simp [results, Tryd.results28, go_sem]) rfl ⟨rfl, (Below.refl _ _).alloc (Nat.le_refl _) _⟩

set_option maxHeartbeats 1000000 in
theorem told_4 {s : ByteArray} (h : s.size ≠ 0) (h2 : (s.size : Int) = longN s) (h3 : bt s 4 + 8 ≤ s.size) (h5 : okOf (num4 s 0) (midS s) = false) (w : World) (hT : TabA w) :
    Calls Tryd.prog 28 #[.string s] w fun e w' => e = .returned (.tuple #[.agg #[.int .i64 0, .int .i64 0, .int .i64 0, .string (ByteArray.mk #[])], .bool false]) ∧ Below w.heap.size w w' := by
  have HT := Lib.hid hT
  have H5 := Lib.hid h5
  have hn : s.toList.isEmpty = false := by rw [nilB]; simpa using h
  have hn2 : s.toList ≠ [] := fun e => by rw [e] at hn; cases hn
  obtain ⟨s0, s1⟩ := long_eq h h2
  have HV : Hid (longN s = s.size) := Lib.hid h2.symm
  have HS : Hid (s.size ≤ maxLen) := Lib.hid (by unfold maxLen; omega)
  have hi : ∀ w, (Instr.index 9 (.string s) (.int .i64 4)).run Tryd.prog w = .ok (.int .u8 (bt s 4)) w := index_bt (k := 4) Tryd.underlying9 (by omega)
  have hx0 := (bt_lt s 4).1
  have hx1 := (bt_lt s 4).2
  have h4 : bt s 4 ≤ (s.size : Int) - 8 := by omega
  have e1 : ((s.size : Int) == (s.size : Int)) = true := by simp
  have e2 : ((s.size : Int) != (s.size : Int)) = false := by simp
  have HN := Lib.hid (num4_lt s 0)
  have HM : Hid ((midS s).size ≤ maxLen) := Lib.hid (by unfold midS maxLen; rw [sub_size _ _ _ (by omega)]; omega)
  clear h h2 h3 hT h5
  generalize bt s 4 = x at hi hx0 hx1 h4
  go_enter Tryd.func28, Tryd.ntmps28
  go_wp2_with fail
  refine (long_v HV.out HS.out _).mono ?_
  rintro e w1 ⟨rfl, rfl⟩
  go_wp2_with fail
  refine (get_yes s 0 _ HS.out (by omega)).mono ?_
  rintro e w1 ⟨rfl, rfl⟩
  go_wp2_with fail
  refine (of_f HN.out.1 (by have := HN.out.2; omega) HM.out H5.out _ (HT.out.alloc _).1).mono ?_
  rintro e w1 ⟨rfl, hb⟩
  obtain ⟨hc, hf⟩ := fbcell hb
  have hz : w.heap.size < w1.heap.size := by have := hb.size; simp only [World.size_alloc] at this; omega
  have c0 : w1.cell? ⟨w.heap.size, 0, none⟩ = some (.int .i64 0) := by rw [hc _ _ (by simp only [World.size_alloc]; omega)]; simp [go_sem]
  have c1 : w1.cell? ⟨w.heap.size, 1, none⟩ = some (.int .i64 0) := by rw [hc _ _ (by simp only [World.size_alloc]; omega)]; simp [go_sem]
  have c2 : w1.cell? ⟨w.heap.size, 2, none⟩ = some (.int .i64 0) := by rw [hc _ _ (by simp only [World.size_alloc]; omega)]; simp [go_sem]
  have c3 : w1.cell? ⟨w.heap.size, 3, none⟩ = some (.string (ByteArray.mk #[])) := by rw [hc _ _ (by simp only [World.size_alloc]; omega)]; simp [go_sem]
  go_wp2
  refine bodyPost_ret (v := .tuple #[.agg #[.int .i64 0, .int .i64 0, .int .i64 0, .string (ByteArray.mk #[])], .bool false]) (by simp [results, Tryd.results28, go_sem, c0, c1, c2, c3, hz]) rfl ⟨rfl, ?_⟩
  have hbb := fbelow_a _ hb
  exact Below.allocL ((((hbb.setCell (p := ⟨w.heap.size, 0, none⟩) (Nat.le_refl _) _).setCell (p := ⟨w.heap.size, 1, none⟩) (Nat.le_refl _) _).setCell (p := ⟨w.heap.size, 2, none⟩) (Nat.le_refl _) _).setCell (p := ⟨w.heap.size, 3, none⟩) (Nat.le_refl _) _) _

set_option maxHeartbeats 2000000 in
theorem told_5r {s : ByteArray} (h : s.size ≠ 0) (h2 : (s.size : Int) = longN s) (h3 : bt s 4 + 8 ≤ s.size) (h5 : okOf (num4 s 0) (midS s) = true) (hr : wR (num4 s 0) = true) (w : World) (hT : TabA w) :
    Calls Tryd.prog 28 #[.string s] w fun e w' => e = .returned (.tuple #[.agg #[.int .i64 (toldF s).i, .int .i64 (toldF s).n, .int .i64 (toldF s).l, .string (toldF s).d], .bool true]) ∧ Below w.heap.size w w' := by
  have HT := Lib.hid hT
  have H5 := Lib.hid h5
  have hn : s.toList.isEmpty = false := by rw [nilB]; simpa using h
  have hn2 : s.toList ≠ [] := fun e => by rw [e] at hn; cases hn
  obtain ⟨s0, s1⟩ := long_eq h h2
  have HV : Hid (longN s = s.size) := Lib.hid h2.symm
  have HS : Hid (s.size ≤ maxLen) := Lib.hid (by unfold maxLen; omega)
  have hi : ∀ w, (Instr.index 9 (.string s) (.int .i64 4)).run Tryd.prog w = .ok (.int .u8 (bt s 4)) w := index_bt (k := 4) Tryd.underlying9 (by omega)
  have hj : ∀ w, (Instr.index 9 (.string s) (.int .i64 5)).run Tryd.prog w = .ok (.int .u8 (bt s 5)) w := index_bt (k := 5) Tryd.underlying9 (by omega)
  have hx0 := (bt_lt s 4).1
  have hx1 := (bt_lt s 4).2
  have HY := Lib.hid (bt_lt s 5)
  have h4 : bt s 4 ≤ (s.size : Int) - 8 := by omega
  have e1 : ((s.size : Int) == (s.size : Int)) = true := by simp
  have e2 : ((s.size : Int) != (s.size : Int)) = false := by simp
  have HN := Lib.hid (num4_lt s 0)
  have HM : Hid ((midS s).size ≤ maxLen) := Lib.hid (by unfold midS maxLen; rw [sub_size _ _ _ (by omega)]; omega)
  have HR := Lib.hid hr
  have hor := or_flags (num4 s 0) (bt s 5)
  have hbd := toldN_bd (num4 s 0) (bt s 5)
  have hnd := nOf_bd (num4 s 0)
  have hfd := flagN_bd (bt s 5)
  have hRR := toldN_R (num4 s 0) (bt s 5)
  rw [hr] at hRR
  have ha2 : bits .and .i64 (nOf (num4 s 0) + flagN (bt s 5)) 2 = 2 := and2_t hRR
  have hdD : dOf (num4 s 0) (midS s) = ByteArray.mk #[] := by unfold dOf; rw [hr]; rfl
  have HD : Hid (toldF s = ⟨num4 s 0 % 536870912, nOf (num4 s 0) + flagN (bt s 5), bt s 4, ByteArray.mk #[]⟩) := Lib.hid (by unfold toldF toldN toldD; rw [hr]; rfl)
  have HX : Hid (s.extract 8 (8 + bt s 4).toNat = decD s) := Lib.hid (by have := (bt_lt s 4).1; unfold decD decN; rw [show (8 + bt s 4).toNat = 8 + (bt s 4).toNat by omega])
  have HZ : Hid ((decD s).size ≤ 72) := Lib.hid (by unfold decD decN; rw [sub_size _ _ _ (by omega)]; omega)
  have hsub : ∀ w, (Instr.sliceAt 9 (.string s) (some (.int .i64 8)) (some (.int .i64 16)) none).run Tryd.prog w = .ok (.string (midS s)) w := fun w => by
    unfold midS
    simp [go_sem]
    intro hlt
    omega
  clear h h2 h3 hT h5 hr hRR
  generalize bt s 4 = x at hi hx0 hx1 h4 HD HX
  generalize bt s 5 = y at hj HY hor hbd hfd ha2 HD
  go_enter Tryd.func28, Tryd.ntmps28
  go_wp2_with fail
  refine (long_v HV.out HS.out _).mono ?_
  rintro e w1 ⟨rfl, rfl⟩
  go_wp2_with fail
  refine (get_yes s 0 _ HS.out (by omega)).mono ?_
  rintro e w1 ⟨rfl, rfl⟩
  go_wp2_with fail
  refine (of_t HN.out.1 (by have := HN.out.2; omega) HM.out H5.out _ (HT.out.alloc _).1).mono ?_
  rintro e w1 ⟨rfl, hb⟩
  rw [hdD]
  obtain ⟨hc, hf⟩ := fbcell hb
  have hz : w.heap.size < w1.heap.size := by have := hb.size; simp only [World.size_alloc] at this; omega
  go_wp2_with fail
  have hT1 : Hid (TabA (w1.alloc (.cells #[.int .i64 (num4 s 0 % 536870912), .int .i64 (nOf (num4 s 0)), .int .i64 (midS s).size, .string (ByteArray.mk #[])] 23))) := Lib.hid (((HT.out.alloc _).below hb).alloc _)
  have hcl := later_cells (w1.alloc (.cells #[.int .i64 (num4 s 0 % 536870912), .int .i64 (nOf (num4 s 0)), .int .i64 (midS s).size, .string (ByteArray.mk #[])] 23))
  refine wp_region_sec 7 [] (fun _ _ _ => True) (fun _ _ _ _ _ _ => trivial) (by kernel_rfl) (by kernel_rfl) (by kernel_rfl) (by kernel_rfl) (by kernel_rfl) ?_
  simp only [List.take_succ_cons, List.take_zero, List.drop_succ_cons, List.drop_zero]
  refine sec_plain (by rfl) (by rfl) (by rfl) (by rfl) ?_
  intro K hK
  go_big_quiet_op
  go_big_quiet_on
  refine sec_plain (by rfl) (by rfl) (by rfl) (by rfl) ?_
  intro K hK
  go_big_quiet_op
  go_big_quiet_on
  refine sec_plain (by rfl) (by rfl) (by rfl) (by rfl) ?_
  intro K hK
  go_big_quiet_op
  go_big_quiet_on
  refine sec_plain (by rfl) (by rfl) (by rfl) (by rfl) ?_
  intro K hK
  go_big_quiet_op
  go_big_quiet_on
  refine sec_call (v := .int .i64 (flagN y)) (by rfl) (by rfl) (by rfl) (by rfl) (by rfl) ?_ ?_
  · intro m K hK
    go_big_quiet_op
    exact ⟨_, fun q => Later.call (flagsOf_any y HY.out.1 HY.out.2 _ ((hT1.out.below m.h).below q.h).2), hK⟩
  simp only [Act.put, List.setIfInBounds_toArray, List.set_cons_succ, List.set_cons_zero]
  refine sec_plain (by rfl) (by rfl) (by rfl) (by rfl) ?_
  intro K hK
  go_big_quiet_op
  go_big_quiet_on
  refine sec_plain (by rfl) (by rfl) (by rfl) (by rfl) ?_
  intro K hK
  go_big_quiet_op
  go_big_quiet_on
  intro xs m hF
  simp only [secFill]
  clear xs hF hcl
  obtain ⟨hmc, hmf⟩ := fbcell m.h
  have c0 : m.w.cell? ⟨w.heap.size, 0, none⟩ = some (.int .i64 0) := by rw [hmc _ _ (by simp only [World.size_alloc]; omega), World.cell?_alloc_lt _ _ _ hz, hc _ _ (by simp only [World.size_alloc]; omega)]; simp [go_sem]
  have c1 : m.w.cell? ⟨w.heap.size, 1, none⟩ = some (.int .i64 0) := by rw [hmc _ _ (by simp only [World.size_alloc]; omega), World.cell?_alloc_lt _ _ _ hz, hc _ _ (by simp only [World.size_alloc]; omega)]; simp [go_sem]
  have c2 : m.w.cell? ⟨w.heap.size, 2, none⟩ = some (.int .i64 0) := by rw [hmc _ _ (by simp only [World.size_alloc]; omega), World.cell?_alloc_lt _ _ _ hz, hc _ _ (by simp only [World.size_alloc]; omega)]; simp [go_sem]
  have c3 : m.w.cell? ⟨w.heap.size, 3, none⟩ = some (.string (ByteArray.mk #[])) := by rw [hmc _ _ (by simp only [World.size_alloc]; omega), World.cell?_alloc_lt _ _ _ hz, hc _ _ (by simp only [World.size_alloc]; omega)]; simp [go_sem]
  have hne : w1.heap.size ≠ w.heap.size := by omega
  have HBB := Lib.hid (fbelow_t (Below.allocL (fbelow_a _ hb) _) m.h)
  have hle : w.heap.size ≤ w1.heap.size := by omega
  go_wp2
  refine bodyPost_ret (v := .tuple #[.agg #[.int .i64 (num4 s 0 % 536870912), .int .i64 (nOf (num4 s 0) + flagN y), .int .i64 x, .string (ByteArray.mk #[])], .bool true]) (by simp [results, Tryd.results28, go_sem, c0, c1, c2, c3]) rfl ⟨by rw [HD.out], ?_⟩
  exact ((((((HBB.out.setCell (p := ⟨w1.heap.size, 1, none⟩) hle _).setCell (p := ⟨w1.heap.size, 2, none⟩) hle _).setCell (p := ⟨w.heap.size, 0, none⟩) (Nat.le_refl _) _).setCell (p := ⟨w.heap.size, 1, none⟩) (Nat.le_refl _) _).setCell (p := ⟨w.heap.size, 2, none⟩) (Nat.le_refl _) _).setCell (p := ⟨w.heap.size, 3, none⟩) (Nat.le_refl _) _)

set_option maxHeartbeats 2000000 in
theorem told_5d {s : ByteArray} (h : s.size ≠ 0) (h2 : (s.size : Int) = longN s) (h3 : bt s 4 + 8 ≤ s.size) (h5 : okOf (num4 s 0) (midS s) = true) (hr : wR (num4 s 0) = false) (w : World) (hT : TabA w) :
    Calls Tryd.prog 28 #[.string s] w fun e w' => e = .returned (.tuple #[.agg #[.int .i64 (toldF s).i, .int .i64 (toldF s).n, .int .i64 (toldF s).l, .string (toldF s).d], .bool true]) ∧ Below w.heap.size w w' := by
  have HT := Lib.hid hT
  have H5 := Lib.hid h5
  have hn : s.toList.isEmpty = false := by rw [nilB]; simpa using h
  have hn2 : s.toList ≠ [] := fun e => by rw [e] at hn; cases hn
  obtain ⟨s0, s1⟩ := long_eq h h2
  have HV : Hid (longN s = s.size) := Lib.hid h2.symm
  have HS : Hid (s.size ≤ maxLen) := Lib.hid (by unfold maxLen; omega)
  have hi : ∀ w, (Instr.index 9 (.string s) (.int .i64 4)).run Tryd.prog w = .ok (.int .u8 (bt s 4)) w := index_bt (k := 4) Tryd.underlying9 (by omega)
  have hj : ∀ w, (Instr.index 9 (.string s) (.int .i64 5)).run Tryd.prog w = .ok (.int .u8 (bt s 5)) w := index_bt (k := 5) Tryd.underlying9 (by omega)
  have hx0 := (bt_lt s 4).1
  have hx1 := (bt_lt s 4).2
  have HY := Lib.hid (bt_lt s 5)
  have h4 : bt s 4 ≤ (s.size : Int) - 8 := by omega
  have e1 : ((s.size : Int) == (s.size : Int)) = true := by simp
  have e2 : ((s.size : Int) != (s.size : Int)) = false := by simp
  have HN := Lib.hid (num4_lt s 0)
  have HM : Hid ((midS s).size ≤ maxLen) := Lib.hid (by unfold midS maxLen; rw [sub_size _ _ _ (by omega)]; omega)
  have HR := Lib.hid hr
  have hor := or_flags (num4 s 0) (bt s 5)
  have hbd := toldN_bd (num4 s 0) (bt s 5)
  have hnd := nOf_bd (num4 s 0)
  have hfd := flagN_bd (bt s 5)
  have hRR := toldN_R (num4 s 0) (bt s 5)
  rw [hr] at hRR
  have ha2 : bits .and .i64 (nOf (num4 s 0) + flagN (bt s 5)) 2 = 0 := and2_f hRR
  have hdD : dOf (num4 s 0) (midS s) = midS s := by unfold dOf; rw [hr]; rfl
  have HD : Hid (toldF s = ⟨num4 s 0 % 536870912, nOf (num4 s 0) + flagN (bt s 5), bt s 4, decD s⟩) := Lib.hid (by unfold toldF toldN toldD; rw [hr]; rfl)
  have HX : Hid (s.extract 8 (8 + bt s 4).toNat = decD s) := Lib.hid (by have := (bt_lt s 4).1; unfold decD decN; rw [show (8 + bt s 4).toNat = 8 + (bt s 4).toNat by omega])
  have HZ : Hid ((decD s).size ≤ 72) := Lib.hid (by unfold decD decN; rw [sub_size _ _ _ (by omega)]; omega)
  have hsub : ∀ w, (Instr.sliceAt 9 (.string s) (some (.int .i64 8)) (some (.int .i64 16)) none).run Tryd.prog w = .ok (.string (midS s)) w := fun w => by
    unfold midS
    simp [go_sem]
    intro hlt
    omega
  clear h h2 h3 hT h5 hr hRR
  generalize bt s 4 = x at hi hx0 hx1 h4 HD HX
  generalize bt s 5 = y at hj HY hor hbd hfd ha2 HD
  go_enter Tryd.func28, Tryd.ntmps28
  go_wp2_with fail
  refine (long_v HV.out HS.out _).mono ?_
  rintro e w1 ⟨rfl, rfl⟩
  go_wp2_with fail
  refine (get_yes s 0 _ HS.out (by omega)).mono ?_
  rintro e w1 ⟨rfl, rfl⟩
  go_wp2_with fail
  refine (of_t HN.out.1 (by have := HN.out.2; omega) HM.out H5.out _ (HT.out.alloc _).1).mono ?_
  rintro e w1 ⟨rfl, hb⟩
  rw [hdD]
  obtain ⟨hc, hf⟩ := fbcell hb
  have hz : w.heap.size < w1.heap.size := by have := hb.size; simp only [World.size_alloc] at this; omega
  go_wp2_with fail
  have hT1 : Hid (TabA (w1.alloc (.cells #[.int .i64 (num4 s 0 % 536870912), .int .i64 (nOf (num4 s 0)), .int .i64 (midS s).size, .string (midS s)] 23))) := Lib.hid (((HT.out.alloc _).below hb).alloc _)
  have hcl := later_cells (w1.alloc (.cells #[.int .i64 (num4 s 0 % 536870912), .int .i64 (nOf (num4 s 0)), .int .i64 (midS s).size, .string (midS s)] 23))
  refine wp_region_sec 7 [] (fun _ _ _ => True) (fun _ _ _ _ _ _ => trivial) (by kernel_rfl) (by kernel_rfl) (by kernel_rfl) (by kernel_rfl) (by kernel_rfl) ?_
  simp only [List.take_succ_cons, List.take_zero, List.drop_succ_cons, List.drop_zero]
  refine sec_plain (by rfl) (by rfl) (by rfl) (by rfl) ?_
  intro K hK
  go_big_quiet_op
  go_big_quiet_on
  refine sec_plain (by rfl) (by rfl) (by rfl) (by rfl) ?_
  intro K hK
  go_big_quiet_op
  go_big_quiet_on
  refine sec_plain (by rfl) (by rfl) (by rfl) (by rfl) ?_
  intro K hK
  go_big_quiet_op
  go_big_quiet_on
  refine sec_plain (by rfl) (by rfl) (by rfl) (by rfl) ?_
  intro K hK
  go_big_quiet_op
  go_big_quiet_on
  refine sec_call (v := .int .i64 (flagN y)) (by rfl) (by rfl) (by rfl) (by rfl) (by rfl) ?_ ?_
  · intro m K hK
    go_big_quiet_op
    exact ⟨_, fun q => Later.call (flagsOf_any y HY.out.1 HY.out.2 _ ((hT1.out.below m.h).below q.h).2), hK⟩
  simp only [Act.put, List.setIfInBounds_toArray, List.set_cons_succ, List.set_cons_zero]
  refine sec_plain (by rfl) (by rfl) (by rfl) (by rfl) ?_
  intro K hK
  go_big_quiet_op
  go_big_quiet_on
  refine sec_plain (by rfl) (by rfl) (by rfl) (by rfl) ?_
  intro K hK
  go_big_quiet_op
  go_big_quiet_on
  intro xs m hF
  simp only [secFill]
  clear xs hF hcl
  obtain ⟨hmc, hmf⟩ := fbcell m.h
  have c0 : m.w.cell? ⟨w.heap.size, 0, none⟩ = some (.int .i64 0) := by rw [hmc _ _ (by simp only [World.size_alloc]; omega), World.cell?_alloc_lt _ _ _ hz, hc _ _ (by simp only [World.size_alloc]; omega)]; simp [go_sem]
  have c1 : m.w.cell? ⟨w.heap.size, 1, none⟩ = some (.int .i64 0) := by rw [hmc _ _ (by simp only [World.size_alloc]; omega), World.cell?_alloc_lt _ _ _ hz, hc _ _ (by simp only [World.size_alloc]; omega)]; simp [go_sem]
  have c2 : m.w.cell? ⟨w.heap.size, 2, none⟩ = some (.int .i64 0) := by rw [hmc _ _ (by simp only [World.size_alloc]; omega), World.cell?_alloc_lt _ _ _ hz, hc _ _ (by simp only [World.size_alloc]; omega)]; simp [go_sem]
  have c3 : m.w.cell? ⟨w.heap.size, 3, none⟩ = some (.string (ByteArray.mk #[])) := by rw [hmc _ _ (by simp only [World.size_alloc]; omega), World.cell?_alloc_lt _ _ _ hz, hc _ _ (by simp only [World.size_alloc]; omega)]; simp [go_sem]
  have hne : w1.heap.size ≠ w.heap.size := by omega
  have HBB := Lib.hid (fbelow_t (Below.allocL (fbelow_a _ hb) _) m.h)
  have hle : w.heap.size ≤ w1.heap.size := by omega
  go_wp2_with fail
  rw [HX.out]
  have HB2 := Lib.hid ((HBB.out.setCell (p := ⟨w1.heap.size, 1, none⟩) hle (.int .i64 (nOf (num4 s 0) + flagN y))).setCell (p := ⟨w1.heap.size, 2, none⟩) hle (.int .i64 x))
  have hzz : w1.heap.size < m.w.heap.size := by have := m.h.size; simp only [World.size_alloc] at this; omega
  refine (clone_any (decD s) (by have := HZ.out; unfold maxLen; omega) (by have := HZ.out; omega) _).mono ?_
  rintro e w2 ⟨rfl, hb3⟩
  obtain ⟨hc3, hf3⟩ := fbcell hb3
  have hz3 : w1.heap.size < w2.heap.size := by have := hb3.size; simp [World.setCell] at this; omega
  have HB3 := Lib.hid (fbelow_t HB2.out hb3)
  have hs3 : ((m.w.setCell { block := w1.heap.size, off := 1 } (.int .i64 (nOf (num4 s 0) + flagN y))).setCell { block := w1.heap.size, off := 2 } (.int .i64 x)).heap.size = m.w.heap.size := by simp [World.setCell]
  have hzw : w.heap.size < m.w.heap.size := by omega
  have hzw2 : w.heap.size < w2.heap.size := by omega
  have g0 : w2.cell? ⟨w.heap.size, 0, none⟩ = some (.int .i64 0) := by rw [hc3 _ _ (by rw [hs3]; omega)]; simp [go_sem, c0]
  have g1 : w2.cell? ⟨w.heap.size, 1, none⟩ = some (.int .i64 0) := by rw [hc3 _ _ (by rw [hs3]; omega)]; simp [go_sem, c1]
  have g2 : w2.cell? ⟨w.heap.size, 2, none⟩ = some (.int .i64 0) := by rw [hc3 _ _ (by rw [hs3]; omega)]; simp [go_sem, c2]
  have g3 : w2.cell? ⟨w.heap.size, 3, none⟩ = some (.string (ByteArray.mk #[])) := by rw [hc3 _ _ (by rw [hs3]; omega)]; simp [go_sem, c3]
  clear HX
  go_wp2_with fail
  refine bodyPost_ret (v := .tuple #[.agg #[.int .i64 (num4 s 0 % 536870912), .int .i64 (nOf (num4 s 0) + flagN y), .int .i64 x, .string (decD s)], .bool true]) (by simp [results, Tryd.results28, go_sem, g0, g1, g2, g3]) rfl ⟨by rw [HD.out], ?_⟩
  exact (((((HB3.out.setCell (p := ⟨w1.heap.size, 3, none⟩) hle _).setCell (p := ⟨w.heap.size, 0, none⟩) (Nat.le_refl _) _).setCell (p := ⟨w.heap.size, 1, none⟩) (Nat.le_refl _) _).setCell (p := ⟨w.heap.size, 2, none⟩) (Nat.le_refl _) _).setCell (p := ⟨w.heap.size, 3, none⟩) (Nat.le_refl _) _)

end Go.Proofs.YtimlaopmhcipmaaDoor
