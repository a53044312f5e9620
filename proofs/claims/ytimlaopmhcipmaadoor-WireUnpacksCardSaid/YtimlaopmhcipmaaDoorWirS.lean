/- Wire: told in two words; what it has to do with the plain bytes; contracts of Decode. -/
import Derived.Test.YtimlaopmhcipmaaDoorWirR
namespace Go.Proofs.YtimlaopmhcipmaaDoor
open Go.RowKit
set_option linter.unusedVariables false

theorem told_f {s : ByteArray} (hs : s.size ≤ maxLen) (h : toldOk s = false) (w : World) (hT : TabA w) :
    Calls Tryd.prog 28 #[.string s] w fun e w' => e = .returned (.tuple #[.agg #[.int .i64 0, .int .i64 0, .int .i64 0, .string (ByteArray.mk #[])], .bool false]) ∧ Below w.heap.size w w' := by
  by_cases h1 : s.size = 0
  · exact told_1 h1 w
  by_cases h2 : (s.size : Int) = longN s
  · by_cases h3 : bt s 4 + 8 ≤ s.size
    · cases h5 : okOf (num4 s 0) (midS s)
      · exact told_4 h1 h2 h3 h5 w hT
      · exfalso
        unfold toldOk at h
        rw [decide_eq_true h1, decide_eq_true h2, decide_eq_true h3, h5] at h
        cases h
    · exact told_3 h1 h2 h3 w
  · exact told_2 hs h1 h2 w
theorem toldOk_parts {s : ByteArray} (h : toldOk s = true) : s.size ≠ 0 ∧ (s.size : Int) = longN s ∧ bt s 4 + 8 ≤ s.size ∧ okOf (num4 s 0) (midS s) = true := by
  unfold toldOk at h
  simpa [and_assoc] using h
theorem told_t {s : ByteArray} (h : toldOk s = true) (w : World) (hT : TabA w) :
    Calls Tryd.prog 28 #[.string s] w fun e w' => e = .returned (.tuple #[.agg #[.int .i64 (toldF s).i, .int .i64 (toldF s).n, .int .i64 (toldF s).l, .string (toldF s).d], .bool true]) ∧ Below w.heap.size w w' := by
  obtain ⟨h1, h2, h3, h5⟩ := toldOk_parts h
  cases hr : wR (num4 s 0)
  · exact told_5d h1 h2 h3 h5 hr w hT
  · exact told_5r h1 h2 h3 h5 hr w hT

/-! ### the plain side -/
theorem seq_beq (a b : ByteArray) : (a.toList == b.toList) = decide (a = b) := by
  rw [Bool.eq_iff_iff, beq_iff_eq, decide_eq_true_eq, ByteArray.toList_eq, ByteArray.toList_eq]
  exact ⟨fun h => ByteArray.ext (Array.toList_inj.1 h), fun h => by rw [h]⟩
theorem flag_small {b : Int} (h : b = 0) : flagN b = 0 := by subst h; rfl
theorem flag_fd {b : Int} (h0 : 0 ≤ b) (h7 : b ≤ 7) (h4 : b / 4 = 1) : flagN b = 8 + 16 * (b % 2) + 32 * (b / 2 % 2) := by
  have : b = 4 ∨ b = 5 ∨ b = 6 ∨ b = 7 := by omega
  rcases this with rfl | rfl | rfl | rfl <;> rfl
theorem mid_size {s : ByteArray} (h : 16 ≤ s.size) : (midS s).size = 8 := by unfold midS; rw [sub_size _ _ _ h]
theorem dOf_mid {s : ByteArray} (h : 16 ≤ s.size) (W : Int) : (dOf W (midS s)).size = if wR W then 0 else 8 := by
  unfold dOf; cases wR W
  · simp [mid_size h]
  · rfl
theorem nOf_parts (W : Int) : fE (nOf W) = wE W ∧ fR (nOf W) = wR W ∧ fX (nOf W) = wX W ∧ fD (nOf W) = false ∧ fB (nOf W) = false ∧ fS (nOf W) = false := by
  unfold nOf
  have : ∀ e r x : Bool, fE (b01 e + 2 * b01 r + 4 * b01 x) = e ∧ fR (b01 e + 2 * b01 r + 4 * b01 x) = r ∧ fX (b01 e + 2 * b01 r + 4 * b01 x) = x ∧ fD (b01 e + 2 * b01 r + 4 * b01 x) = false ∧ fB (b01 e + 2 * b01 r + 4 * b01 x) = false ∧ fS (b01 e + 2 * b01 r + 4 * b01 x) = false := by decide
  exact this _ _ _
/-- with eight bytes a word is a frame's, if it is with any -/
theorem okOf_mid {s d : ByteArray} (hs : 16 ≤ s.size) {W : Int} (h : okOf W d = true) : okOf W (midS s) = true := by
  have hb := nOf_bd W
  obtain ⟨pE, pR, pX, pD, pB, pS⟩ := nOf_parts W
  unfold okOf at h ⊢
  have g := good h
  unfold okF
  rw [g.fl]
  have hid : idOk (W % 536870912) (nOf W) = true := by unfold idOk; rw [decide_eq_true g.i0, decide_eq_true g.i1]; rfl
  rw [hid, dOf_mid hs, mid_size hs]
  unfold lenOk datOk
  rw [pX, pD, pR]
  cases wX W <;> cases wR W <;> simp
/-- what is asked of Fd's word is enough for one of no Fd -/
theorem okOf_fd {s : ByteArray} (hs : 16 ≤ s.size) {W n l : Int} {sz : Nat} (h : okF (W % 536870912) n l sz = true) (hE : fE n = wE W) (hX : fX n = false) (h2 : W / 536870912 % 4 = 0) : okOf W (midS s) = true := by
  have g := good h
  obtain ⟨pE, pR, pX, pD, pB, pS⟩ := nOf_parts W
  have hr : wR W = false := by unfold wR; simp; omega
  have hx : wX W = false := by unfold wX; simp; omega
  have hb := nOf_bd W
  unfold okOf okF
  have hfl : okFl (nOf W) = true := by
    rw [okFl_parts hb.1 (by omega), pE, pR, pX, pD, pB, pS, hr, hx]; rfl
  have hid : idOk (W % 536870912) (nOf W) = true := by
    unfold idOk topN
    rw [pE, pX, hx, decide_eq_true g.i0]
    have := g.i1
    unfold topN at this
    rw [hE, hX] at this
    rw [decide_eq_true this]
    rfl
  rw [hfl, hid, dOf_mid hs, mid_size hs]
  unfold lenOk datOk
  rw [pX, pD, pR, hr, hx]
  rfl

theorem dec_told {s : ByteArray} (h : decOk s = true) : toldOk s = true ∧ toldF s = decF s := by
  have hk := dec_ok h
  unfold decOk decPre at h
  simp only [Bool.and_eq_true, Bool.or_eq_true, decide_eq_true_eq, beq_iff_eq, zeroB_iff] at h
  obtain ⟨⟨⟨⟨⟨⟨⟨⟨⟨hsz, h6⟩, h7⟩, hfd⟩, hm0⟩, hm7⟩, hn8⟩, hz⟩, hi⟩, hrz⟩ := h
  have hN : ((decN s : Nat) : Int) = bt s 4 := by unfold decN; have := bt_lt s 4; omega
  have hDs : (decD s).size = decN s := by unfold decD; rw [sub_size _ _ _ (by omega)]; omega
  have hb0 := (bt_lt s 5).1
  have h16 : 16 ≤ s.size := by omega
  unfold decIs at hi
  cases hf : isFd s
  · have hf' := hf
    unfold isFd at hf'
    simp at hf'
    rw [hf] at hm0 hi
    have hm : bt s 5 = 0 := by simpa using hm0
    simp only [Bool.false_eq_true, if_false] at hi
    have hok := okOf_mid h16 hi
    refine ⟨?_, ?_⟩
    · have a1 : longN s = 16 := by unfold longN; rw [if_neg (by omega), hm]; rfl
      unfold toldOk
      rw [hok, a1, decide_eq_true (show s.size ≠ 0 by omega), decide_eq_true (show (s.size : Int) = 16 by omega), decide_eq_true (show bt s 4 + 8 ≤ s.size by omega)]
      rfl
    · unfold toldF decF toldN toldD dOf
      rw [hf, flag_small hm]
      simp only [Bool.false_eq_true, if_false, Int.add_zero]
      rw [hDs, hN]
  · have hf' := hf
    unfold isFd at hf'
    simp at hf'
    rw [hf] at hfd hi
    have hm4 : bt s 5 / 4 = 1 := by simpa using hfd.symm
    simp only [if_true, Bool.and_eq_true, decide_eq_true_eq] at hi
    have e1 : decF s = ⟨num4 s 0 % 536870912, decFl s, bt s 4, decD s⟩ := by unfold decF; rw [hf]; rfl
    have hfl : decFl s = 8 + b01 (wE (num4 s 0)) + 16 * b01 (decide (bt s 5 % 2 = 1)) + 32 * b01 (decide (bt s 5 / 2 % 2 = 1)) := by
      have a1 := mod2_b01 (bt s 5)
      have a2 := mod2_b01 (bt s 5 / 2)
      unfold decFl
      rw [← a1, ← a2]
    obtain ⟨pE, pR, pX, pD, pB, pS⟩ := fd_parts (wE (num4 s 0)) (decide (bt s 5 % 2 = 1)) (decide (bt s 5 / 2 % 2 = 1))
    rw [← hfl] at pE pR pX pD pB pS
    have hi1 := hi.1
    rw [e1] at hi1
    have hok := okOf_fd h16 hi1 pE pX hi.2
    have hr : wR (num4 s 0) = false := by unfold wR; simp; omega
    have hx : wX (num4 s 0) = false := by unfold wX; simp; omega
    refine ⟨?_, ?_⟩
    · have hX5 : fX (bt s 5) = true := by unfold fX; simp; omega
      have a1 : longN s = 72 := by unfold longN; rw [if_neg (by omega), hX5]; rfl
      unfold toldOk
      rw [hok, a1, decide_eq_true (show s.size ≠ 0 by omega), decide_eq_true (show (s.size : Int) = 72 by omega), decide_eq_true (show bt s 4 + 8 ≤ s.size by omega)]
      rfl
    · rw [e1]
      unfold toldF toldN toldD
      rw [hr, flag_fd hb0 hm7 hm4]
      unfold nOf decFl
      rw [hr, hx]
      have b0 : b01 false = 0 := rfl
      rw [b0]
      simp only [Bool.false_eq_true, if_false]
      congr 1
      omega
theorem told_dec {s : ByteArray} (h : (toldF s).ok = true) (he : encS (toldF s) = s) : decOk s = true ∧ decF s = toldF s := by
  have h1 := enc_ok h
  have h2 := enc_dec h
  rw [he] at h1 h2
  exact ⟨h1, h2⟩
def fr0 : Fr := ⟨0, 0, 0, ByteArray.mk #[]⟩
theorem fr0_ok : fr0.ok = true := by decide +kernel
theorem toldF_n (s : ByteArray) : 0 ≤ (toldF s).n ∧ (toldF s).n ≤ 63 := toldN_bd (num4 s 0) (bt s 5)

set_option maxHeartbeats 1000000 in
theorem decode_a {s : ByteArray} (hs : s.size ≤ maxLen) (h : toldOk s = false) (w : World) (hT : TabA w) :
    Calls Tryd.prog 11 #[.string s] w fun e w' => e = .returned (.tuple #[.agg #[.int .i64 0, .int .i64 0, .int .i64 0, .string (ByteArray.mk #[])], .int .i64 3]) ∧ Below w.heap.size w w' := by
  have HT := Lib.hid hT
  have HS := Lib.hid hs
  have H := Lib.hid h
  clear hs h
  clear hT
  go_enter Tryd.func11, Tryd.ntmps11
  go_wp2_with fail
  refine (told_f HS.out H.out _ (HT.out.alloc _)).mono ?_
  rintro e w1 ⟨rfl, hb1⟩
  obtain ⟨hc1, hf1⟩ := fbcell hb1
  have hz1 : w.heap.size < w1.heap.size := by have := hb1.size; simp only [World.size_alloc] at this; omega
  have HB1 := Lib.hid (fbelow_a _ hb1)
  have HT1 : Hid (TabA w1) := Lib.hid ((HT.out.alloc _).below hb1)
  have c0 : w1.cell? ⟨w.heap.size, 0, none⟩ = some (.int .i64 0) := by rw [hc1 _ _ (by simp only [World.size_alloc]; omega)]; simp [go_sem]
  have c1 : w1.cell? ⟨w.heap.size, 1, none⟩ = some (.int .i64 0) := by rw [hc1 _ _ (by simp only [World.size_alloc]; omega)]; simp [go_sem]
  have c2 : w1.cell? ⟨w.heap.size, 2, none⟩ = some (.int .i64 0) := by rw [hc1 _ _ (by simp only [World.size_alloc]; omega)]; simp [go_sem]
  have c3 : w1.cell? ⟨w.heap.size, 3, none⟩ = some (.string (ByteArray.mk #[])) := by rw [hc1 _ _ (by simp only [World.size_alloc]; omega)]; simp [go_sem]
  go_wp2_with fail
  refine (encode_t (f := fr0) fr0_ok _ (HT1.out.alloc _)).mono ?_
  rintro e w2 ⟨rfl, hb2⟩
  obtain ⟨hc2, hf2⟩ := fbcell hb2
  have hz2 : w1.heap.size < w2.heap.size := by have := hb2.size; simp only [World.size_alloc] at this; omega
  have hz3 : w.heap.size < w2.heap.size := by omega
  have HB2 := Lib.hid (fbelow_t (Below.allocL HB1.out _) hb2)
  have d0 : w2.cell? ⟨w.heap.size, 0, none⟩ = some (.int .i64 0) := by rw [hc2 _ _ (by simp only [World.size_alloc]; omega), World.cell?_alloc_lt _ _ _ hz1]; exact c0
  have d1 : w2.cell? ⟨w.heap.size, 1, none⟩ = some (.int .i64 0) := by rw [hc2 _ _ (by simp only [World.size_alloc]; omega), World.cell?_alloc_lt _ _ _ hz1]; exact c1
  have d2 : w2.cell? ⟨w.heap.size, 2, none⟩ = some (.int .i64 0) := by rw [hc2 _ _ (by simp only [World.size_alloc]; omega), World.cell?_alloc_lt _ _ _ hz1]; exact c2
  have d3 : w2.cell? ⟨w.heap.size, 3, none⟩ = some (.string (ByteArray.mk #[])) := by rw [hc2 _ _ (by simp only [World.size_alloc]; omega), World.cell?_alloc_lt _ _ _ hz1]; exact c3
  go_wp2
  refine bodyPost_ret (v := .tuple #[.agg #[.int .i64 0, .int .i64 0, .int .i64 0, .string (ByteArray.mk #[])], .int .i64 3]) (by simp [results, Tryd.results11, go_sem, d0, d1, d2, d3]) rfl ⟨rfl, ?_⟩
  exact ((((HB2.out.setCell (p := ⟨w.heap.size, 0, none⟩) (Nat.le_refl _) _).setCell (p := ⟨w.heap.size, 1, none⟩) (Nat.le_refl _) _).setCell (p := ⟨w.heap.size, 2, none⟩) (Nat.le_refl _) _).setCell (p := ⟨w.heap.size, 3, none⟩) (Nat.le_refl _) _)

set_option maxHeartbeats 1000000 in
theorem decode_b {s : ByteArray} (h : toldOk s = true) (h2 : (toldF s).ok = false) (w : World) (hT : TabA w) :
    Calls Tryd.prog 11 #[.string s] w fun e w' => e = .returned (.tuple #[.agg #[.int .i64 0, .int .i64 0, .int .i64 0, .string (ByteArray.mk #[])], .int .i64 3]) ∧ Below w.heap.size w w' := by
  have HT := Lib.hid hT
  have H := Lib.hid h
  have H2 := Lib.hid h2
  clear h h2
  clear hT
  go_enter Tryd.func11, Tryd.ntmps11
  go_wp2_with fail
  refine (told_t H.out _ (HT.out.alloc _)).mono ?_
  rintro e w1 ⟨rfl, hb1⟩
  obtain ⟨hc1, hf1⟩ := fbcell hb1
  have hz1 : w.heap.size < w1.heap.size := by have := hb1.size; simp only [World.size_alloc] at this; omega
  have HB1 := Lib.hid (fbelow_a _ hb1)
  have HT1 : Hid (TabA w1) := Lib.hid ((HT.out.alloc _).below hb1)
  have c0 : w1.cell? ⟨w.heap.size, 0, none⟩ = some (.int .i64 0) := by rw [hc1 _ _ (by simp only [World.size_alloc]; omega)]; simp [go_sem]
  have c1 : w1.cell? ⟨w.heap.size, 1, none⟩ = some (.int .i64 0) := by rw [hc1 _ _ (by simp only [World.size_alloc]; omega)]; simp [go_sem]
  have c2 : w1.cell? ⟨w.heap.size, 2, none⟩ = some (.int .i64 0) := by rw [hc1 _ _ (by simp only [World.size_alloc]; omega)]; simp [go_sem]
  have c3 : w1.cell? ⟨w.heap.size, 3, none⟩ = some (.string (ByteArray.mk #[])) := by rw [hc1 _ _ (by simp only [World.size_alloc]; omega)]; simp [go_sem]
  go_wp2_with fail
  refine (encode_f H2.out _ (HT1.out.alloc _) (by have := toldF_n s; omega) (by have := toldF_n s; omega)).mono ?_
  rintro e w2 ⟨rfl, hb2⟩
  obtain ⟨hc2, hf2⟩ := fbcell hb2
  have hz2 : w1.heap.size < w2.heap.size := by have := hb2.size; simp only [World.size_alloc] at this; omega
  have hz3 : w.heap.size < w2.heap.size := by omega
  have HB2 := Lib.hid (fbelow_t (Below.allocL HB1.out _) hb2)
  have d0 : w2.cell? ⟨w.heap.size, 0, none⟩ = some (.int .i64 0) := by rw [hc2 _ _ (by simp only [World.size_alloc]; omega), World.cell?_alloc_lt _ _ _ hz1]; exact c0
  have d1 : w2.cell? ⟨w.heap.size, 1, none⟩ = some (.int .i64 0) := by rw [hc2 _ _ (by simp only [World.size_alloc]; omega), World.cell?_alloc_lt _ _ _ hz1]; exact c1
  have d2 : w2.cell? ⟨w.heap.size, 2, none⟩ = some (.int .i64 0) := by rw [hc2 _ _ (by simp only [World.size_alloc]; omega), World.cell?_alloc_lt _ _ _ hz1]; exact c2
  have d3 : w2.cell? ⟨w.heap.size, 3, none⟩ = some (.string (ByteArray.mk #[])) := by rw [hc2 _ _ (by simp only [World.size_alloc]; omega), World.cell?_alloc_lt _ _ _ hz1]; exact c3
  go_wp2
  refine bodyPost_ret (v := .tuple #[.agg #[.int .i64 0, .int .i64 0, .int .i64 0, .string (ByteArray.mk #[])], .int .i64 3]) (by simp [results, Tryd.results11, go_sem, d0, d1, d2, d3]) rfl ⟨rfl, ?_⟩
  exact ((((HB2.out.setCell (p := ⟨w.heap.size, 0, none⟩) (Nat.le_refl _) _).setCell (p := ⟨w.heap.size, 1, none⟩) (Nat.le_refl _) _).setCell (p := ⟨w.heap.size, 2, none⟩) (Nat.le_refl _) _).setCell (p := ⟨w.heap.size, 3, none⟩) (Nat.le_refl _) _)

set_option maxHeartbeats 1000000 in
theorem decode_c {s : ByteArray} (h : toldOk s = true) (h2 : (toldF s).ok = true) (h3 : encS (toldF s) ≠ s) (w : World) (hT : TabA w) :
    Calls Tryd.prog 11 #[.string s] w fun e w' => e = .returned (.tuple #[.agg #[.int .i64 0, .int .i64 0, .int .i64 0, .string (ByteArray.mk #[])], .int .i64 3]) ∧ Below w.heap.size w w' := by
  have HT := Lib.hid hT
  have H := Lib.hid h
  have H2 := Lib.hid h2
  have e1 : ((encS (toldF s)).toList == s.toList) = false := by rw [seq_beq]; simpa using h3
  have e2 : ((encS (toldF s)).toList != s.toList) = true := by rw [bne, seq_beq]; simpa using h3
  clear h h2 h3
  clear hT
  go_enter Tryd.func11, Tryd.ntmps11
  go_wp2_with fail
  refine (told_t H.out _ (HT.out.alloc _)).mono ?_
  rintro e w1 ⟨rfl, hb1⟩
  obtain ⟨hc1, hf1⟩ := fbcell hb1
  have hz1 : w.heap.size < w1.heap.size := by have := hb1.size; simp only [World.size_alloc] at this; omega
  have HB1 := Lib.hid (fbelow_a _ hb1)
  have HT1 : Hid (TabA w1) := Lib.hid ((HT.out.alloc _).below hb1)
  have c0 : w1.cell? ⟨w.heap.size, 0, none⟩ = some (.int .i64 0) := by rw [hc1 _ _ (by simp only [World.size_alloc]; omega)]; simp [go_sem]
  have c1 : w1.cell? ⟨w.heap.size, 1, none⟩ = some (.int .i64 0) := by rw [hc1 _ _ (by simp only [World.size_alloc]; omega)]; simp [go_sem]
  have c2 : w1.cell? ⟨w.heap.size, 2, none⟩ = some (.int .i64 0) := by rw [hc1 _ _ (by simp only [World.size_alloc]; omega)]; simp [go_sem]
  have c3 : w1.cell? ⟨w.heap.size, 3, none⟩ = some (.string (ByteArray.mk #[])) := by rw [hc1 _ _ (by simp only [World.size_alloc]; omega)]; simp [go_sem]
  go_wp2_with fail
  refine (encode_t H2.out _ (HT1.out.alloc _)).mono ?_
  rintro e w2 ⟨rfl, hb2⟩
  obtain ⟨hc2, hf2⟩ := fbcell hb2
  have hz2 : w1.heap.size < w2.heap.size := by have := hb2.size; simp only [World.size_alloc] at this; omega
  have hz3 : w.heap.size < w2.heap.size := by omega
  have HB2 := Lib.hid (fbelow_t (Below.allocL HB1.out _) hb2)
  have d0 : w2.cell? ⟨w.heap.size, 0, none⟩ = some (.int .i64 0) := by rw [hc2 _ _ (by simp only [World.size_alloc]; omega), World.cell?_alloc_lt _ _ _ hz1]; exact c0
  have d1 : w2.cell? ⟨w.heap.size, 1, none⟩ = some (.int .i64 0) := by rw [hc2 _ _ (by simp only [World.size_alloc]; omega), World.cell?_alloc_lt _ _ _ hz1]; exact c1
  have d2 : w2.cell? ⟨w.heap.size, 2, none⟩ = some (.int .i64 0) := by rw [hc2 _ _ (by simp only [World.size_alloc]; omega), World.cell?_alloc_lt _ _ _ hz1]; exact c2
  have d3 : w2.cell? ⟨w.heap.size, 3, none⟩ = some (.string (ByteArray.mk #[])) := by rw [hc2 _ _ (by simp only [World.size_alloc]; omega), World.cell?_alloc_lt _ _ _ hz1]; exact c3
  go_wp2
  refine bodyPost_ret (v := .tuple #[.agg #[.int .i64 0, .int .i64 0, .int .i64 0, .string (ByteArray.mk #[])], .int .i64 3]) (by simp [results, Tryd.results11, go_sem, d0, d1, d2, d3]) rfl ⟨rfl, ?_⟩
  exact ((((HB2.out.setCell (p := ⟨w.heap.size, 0, none⟩) (Nat.le_refl _) _).setCell (p := ⟨w.heap.size, 1, none⟩) (Nat.le_refl _) _).setCell (p := ⟨w.heap.size, 2, none⟩) (Nat.le_refl _) _).setCell (p := ⟨w.heap.size, 3, none⟩) (Nat.le_refl _) _)

set_option maxHeartbeats 1000000 in
theorem decode_d {s : ByteArray} (h : toldOk s = true) (h2 : (toldF s).ok = true) (h3 : encS (toldF s) = s) (h4 : decF s = toldF s) (w : World) (hT : TabA w) :
    Calls Tryd.prog 11 #[.string s] w fun e w' => e = .returned (.tuple #[.agg #[.int .i64 (decF s).i, .int .i64 (decF s).n, .int .i64 (decF s).l, .string (decF s).d], .int .i64 0]) ∧ Below w.heap.size w w' := by
  have HT := Lib.hid hT
  have H := Lib.hid h
  have H2 := Lib.hid h2
  have HD := Lib.hid h4
  have e1 : ((encS (toldF s)).toList == s.toList) = true := by rw [seq_beq]; simpa using h3
  have e2 : ((encS (toldF s)).toList != s.toList) = false := by rw [bne, seq_beq]; simpa using h3
  clear h h2 h3 h4
  clear hT
  go_enter Tryd.func11, Tryd.ntmps11
  go_wp2_with fail
  refine (told_t H.out _ (HT.out.alloc _)).mono ?_
  rintro e w1 ⟨rfl, hb1⟩
  obtain ⟨hc1, hf1⟩ := fbcell hb1
  have hz1 : w.heap.size < w1.heap.size := by have := hb1.size; simp only [World.size_alloc] at this; omega
  have HB1 := Lib.hid (fbelow_a _ hb1)
  have HT1 : Hid (TabA w1) := Lib.hid ((HT.out.alloc _).below hb1)
  have c0 : w1.cell? ⟨w.heap.size, 0, none⟩ = some (.int .i64 0) := by rw [hc1 _ _ (by simp only [World.size_alloc]; omega)]; simp [go_sem]
  have c1 : w1.cell? ⟨w.heap.size, 1, none⟩ = some (.int .i64 0) := by rw [hc1 _ _ (by simp only [World.size_alloc]; omega)]; simp [go_sem]
  have c2 : w1.cell? ⟨w.heap.size, 2, none⟩ = some (.int .i64 0) := by rw [hc1 _ _ (by simp only [World.size_alloc]; omega)]; simp [go_sem]
  have c3 : w1.cell? ⟨w.heap.size, 3, none⟩ = some (.string (ByteArray.mk #[])) := by rw [hc1 _ _ (by simp only [World.size_alloc]; omega)]; simp [go_sem]
  go_wp2_with fail
  refine (encode_t H2.out _ (HT1.out.alloc _)).mono ?_
  rintro e w2 ⟨rfl, hb2⟩
  obtain ⟨hc2, hf2⟩ := fbcell hb2
  have hz2 : w1.heap.size < w2.heap.size := by have := hb2.size; simp only [World.size_alloc] at this; omega
  have hz3 : w.heap.size < w2.heap.size := by omega
  have HB2 := Lib.hid (fbelow_t (Below.allocL HB1.out _) hb2)
  have d0 : w2.cell? ⟨w.heap.size, 0, none⟩ = some (.int .i64 0) := by rw [hc2 _ _ (by simp only [World.size_alloc]; omega), World.cell?_alloc_lt _ _ _ hz1]; exact c0
  have d1 : w2.cell? ⟨w.heap.size, 1, none⟩ = some (.int .i64 0) := by rw [hc2 _ _ (by simp only [World.size_alloc]; omega), World.cell?_alloc_lt _ _ _ hz1]; exact c1
  have d2 : w2.cell? ⟨w.heap.size, 2, none⟩ = some (.int .i64 0) := by rw [hc2 _ _ (by simp only [World.size_alloc]; omega), World.cell?_alloc_lt _ _ _ hz1]; exact c2
  have d3 : w2.cell? ⟨w.heap.size, 3, none⟩ = some (.string (ByteArray.mk #[])) := by rw [hc2 _ _ (by simp only [World.size_alloc]; omega), World.cell?_alloc_lt _ _ _ hz1]; exact c3
  go_wp2
  refine bodyPost_ret (v := .tuple #[.agg #[.int .i64 (toldF s).i, .int .i64 (toldF s).n, .int .i64 (toldF s).l, .string (toldF s).d], .int .i64 0]) (by simp [results, Tryd.results11, go_sem, d0, d1, d2, d3]) rfl ⟨by rw [HD.out], ?_⟩
  exact ((((HB2.out.setCell (p := ⟨w.heap.size, 0, none⟩) (Nat.le_refl _) _).setCell (p := ⟨w.heap.size, 1, none⟩) (Nat.le_refl _) _).setCell (p := ⟨w.heap.size, 2, none⟩) (Nat.le_refl _) _).setCell (p := ⟨w.heap.size, 3, none⟩) (Nat.le_refl _) _)

theorem decode_f {s : ByteArray} (hs : s.size ≤ maxLen) (h : decOk s = false) (w : World) (hT : TabA w) :
    Calls Tryd.prog 11 #[.string s] w fun e w' => e = .returned (.tuple #[.agg #[.int .i64 0, .int .i64 0, .int .i64 0, .string (ByteArray.mk #[])], .int .i64 3]) ∧ Below w.heap.size w w' := by
  cases h1 : toldOk s
  · exact decode_a hs h1 w hT
  · cases h2 : (toldF s).ok
    · exact decode_b h1 h2 w hT
    · by_cases h3 : encS (toldF s) = s
      · rw [(told_dec h2 h3).1] at h
        cases h
      · exact decode_c h1 h2 h3 w hT
theorem decode_t {s : ByteArray} (h : decOk s = true) (w : World) (hT : TabA w) :
    Calls Tryd.prog 11 #[.string s] w fun e w' => e = .returned (.tuple #[.agg #[.int .i64 (decF s).i, .int .i64 (decF s).n, .int .i64 (decF s).l, .string (decF s).d], .int .i64 0]) ∧ Below w.heap.size w w' := by
  obtain ⟨h1, h2⟩ := dec_told h
  exact decode_d h1 (by rw [h2]; exact dec_ok h) (by rw [h2]; exact dec_enc h) h2.symm w hT

end Go.Proofs.YtimlaopmhcipmaaDoor
