/- Dump: numbers' digits, read: plain; contracts of the document's Dec, part. Dump: contracts of the document's part, Line. Dump: contracts of the document's Line (printed by gen_line.py). Dump: which lines are entries': plain; contracts of the document's entry. Dump: contracts of the document's entry (printed by gen_entry.py). -/
import Derived.Test.YtpjlomgiljpadaaDoorDmpAf
namespace Go.Proofs.YtpjlomgiljpadaaDoor
open Go.RowKit
set_option linter.unusedVariables false

def isD (c : Int) : Prop := 48 ≤ c ∧ c ≤ 57
def valD (L : List Int) : Int := L.foldl (fun n c => 10 * n + (c - 48)) 0
theorem valD_snoc (L : List Int) (c : Int) : valD (L ++ [c]) = 10 * valD L + (c - 48) := by simp [valD]
theorem decL_small {n : Int} (h0 : 0 ≤ n) (h1 : n < 10) : decL n = [48 + n] := by
  obtain ⟨k, rfl⟩ := Int.eq_ofNat_of_zero_le h0
  unfold decL
  rw [Lib.itoa_nonneg, Lib.decDigits_one (by omega)]
  simp; omega
theorem decL_big {n : Int} (h : 10 ≤ n) : decL n = decL (n / 10) ++ [48 + n % 10] := by
  obtain ⟨k, rfl⟩ := Int.eq_ofNat_of_zero_le (show 0 ≤ n by omega)
  unfold decL
  rw [Lib.itoa_nonneg, Lib.decDigits, dif_neg (by omega)]
  have e : (k : Int) / 10 = ((k / 10 : Nat) : Int) := by omega
  rw [e, Lib.itoa_nonneg, List.map_append]
  congr 1
  simp; omega
theorem valD_dec {n : Int} (h : 0 ≤ n) : valD (decL n) = n := by
  obtain ⟨k, rfl⟩ := Int.eq_ofNat_of_zero_le h
  induction k using Nat.strongRecOn with
  | _ k ih =>
    by_cases h10 : k < 10
    · rw [decL_small (by omega) (by omega)]; simp [valD]; omega
    · rw [decL_big (by omega), valD_snoc]
      have e : (k : Int) / 10 = ((k / 10 : Nat) : Int) := by omega
      rw [e, ih (k / 10) (by omega) (by omega)]
      omega
theorem decL_inj {a b : Int} (ha : 0 ≤ a) (hb : 0 ≤ b) (h : decL a = decL b) : a = b := by rw [← valD_dec ha, h, valD_dec hb]
theorem decL_ne (n : Int) (h : 0 ≤ n) : decL n ≠ [] := by
  by_cases h10 : n < 10
  · rw [decL_small h h10]; simp
  · rw [decL_big (by omega)]; simp
theorem decL_isD {n : Int} (h : 0 ≤ n) : ∀ c ∈ decL n, isD c := decL_digit h
theorem valD_nn' : ∀ L : List Int, (∀ c ∈ L, isD c) → 0 ≤ valD L := by
  refine snoc_ind ?_ ?_
  · intro _; decide
  · intro L c ih h
    rw [valD_snoc]
    have := ih fun x hx => h x (List.mem_append_left _ hx)
    have := h c (by simp)
    unfold isD at this
    omega
theorem valD_nn {L : List Int} (h : ∀ c ∈ L, isD c) : 0 ≤ valD L := valD_nn' L h
theorem valD_pre' (A : List Int) : ∀ B : List Int, (∀ c ∈ A ++ B, isD c) → valD A ≤ valD (A ++ B) := by
  refine snoc_ind ?_ ?_
  · intro _; simp
  · intro L c ih h
    have h1 : ∀ x ∈ A ++ L, isD x := fun x hx => h x (by rw [← List.append_assoc]; exact List.mem_append_left _ hx)
    have := ih h1
    have := valD_nn h1
    have hc := h c (by simp)
    unfold isD at hc
    rw [← List.append_assoc, valD_snoc]
    omega
theorem valD_pre {A B : List Int} (h : ∀ c ∈ A ++ B, isD c) : valD A ≤ valD (A ++ B) := valD_pre' A B h
/-- digits without a needless nought are their number's -/
theorem dec_valD' : ∀ R : List Int, (∀ c ∈ R, isD c) → R ≠ [] → (R.length = 1 ∨ R.head? ≠ some 48) → decL (valD R) = R ∧ (R.head? ≠ some 48 → 1 ≤ valD R) := by
  refine snoc_ind ?_ ?_
  · intro _ h; exact absurd rfl h
  · intro L c ih h _ hh
    have hc := h c (by simp)
    unfold isD at hc
    rw [valD_snoc]
    cases hL : L with
    | nil =>
      have : 10 * valD ([] : List Int) + (c - 48) = c - 48 := by simp [valD]
      rw [this, decL_small (by omega) (by omega)]
      refine ⟨by simp; omega, fun h => ?_⟩
      simp only [List.nil_append, List.head?_cons, ne_eq, Option.some.injEq] at h
      omega
    | cons x t =>
      rw [← hL]
      have hne : L ≠ [] := by rw [hL]; simp
      have hhd : L.head? ≠ some 48 := by
        rcases hh with hh | hh
        · rw [List.length_append, hL] at hh; simp at hh
        · rw [hL] at hh ⊢; simpa using hh
      obtain ⟨i1, i2⟩ := ih (fun x hx => h x (List.mem_append_left _ hx)) hne (.inr hhd)
      have i3 := i2 hhd
      refine ⟨?_, fun _ => by omega⟩
      rw [decL_big (by omega), show (10 * valD L + (c - 48)) / 10 = valD L by omega, show (10 * valD L + (c - 48)) % 10 = c - 48 by omega, i1]
      congr 2
      omega
theorem dec_valD {R : List Int} (h : ∀ c ∈ R, isD c) (h0 : R ≠ []) (h1 : R.length = 1 ∨ R.head? ≠ some 48) : decL (valD R) = R := (dec_valD' R h h0 h1).1
/-- digits, and what begins with none: there is one way -/
theorem run_uniq : ∀ {A B r t : List Int}, (∀ c ∈ A, isD c) → (∀ c ∈ B, isD c) → (∀ c u, r = c :: u → ¬ isD c) → (∀ c u, t = c :: u → ¬ isD c) → A ++ r = B ++ t → A = B ∧ r = t
  | [], [], r, t, _, _, _, _, h => ⟨rfl, h⟩
  | [], b :: B, r, t, _, hB, hr, _, h => absurd (hB b (by simp)) (hr b (B ++ t) h)
  | a :: A, [], r, t, hA, _, _, ht, h => absurd (hA a (by simp)) (ht a (A ++ r) h.symm)
  | a :: A, b :: B, r, t, hA, hB, hr, ht, h => by
    simp only [List.cons_append, List.cons.injEq] at h
    obtain ⟨rfl, h⟩ := h
    obtain ⟨rfl, h2⟩ := run_uniq (fun c hc => hA c (by simp [hc])) (fun c hc => hB c (by simp [hc])) hr ht h
    exact ⟨rfl, h2⟩

/-! ### Dec -/
def rdecRel (n0 : Int) (a s i : Value) : Prop := ∃ (j : Nat) (m : Int) (S : List Int), j ≤ 19 ∧ i = .int .i64 j ∧ a = .int .i64 m ∧ 0 ≤ m ∧ m ≤ n0 ∧ m < 10 ^ (19 - j) ∧ s = .string (strOfNums S) ∧ S.length = j ∧ (if j = 0 then m = n0 else if m = 0 then S = decL n0 else decL m ++ S = decL n0)
theorem pow_step {m : Int} {j : Nat} (h : m < 10 ^ (19 - j)) (hj : j < 19) (h0 : 0 ≤ m) : m / 10 < 10 ^ (19 - (j + 1)) := by
  have e : (10 : Int) ^ (19 - j) = 10 * 10 ^ (19 - (j + 1)) := by
    rw [show 19 - j = (19 - (j + 1)) + 1 by omega, Int.pow_succ]; omega
  rw [e] at h
  generalize (10 : Int) ^ (19 - (j + 1)) = p at *
  omega
set_option maxHeartbeats 2000000 in
theorem rdec_v {n : Int} {D : ByteArray} (hD : decS n = D) (h0 : 0 ≤ n) (h1 : n ≤ 9223372036854775807) (w : World) :
    Calls Tryd.prog 36 #[.int .i64 n] w fun e w' => e = .returned (.string D) ∧ Below w.heap.size w w' := by
  have HD := Lib.hid hD
  have hcv := conv1
  clear hD
  have H1 := Lib.hid h1
  clear h1
  go_enter Tryd.func36, Tryd.ntmps36
  go_wp2_with fail
  go_loopw [0, 3, 4] (fun a s i wr => rdecRel n a s i ∧ Below w.heap.size w wr) (fun _ _ i _ => 20 - (intOf i).toNat)
  case atStart => exact ⟨⟨0, n, [], Nat.zero_le _, rfl, rfl, h0, Int.le_refl _, by have := H1.out; have e : (10 : Int) ^ (19 - 0) = 10000000000000000000 := by decide
                                                                                   omega, rfl, rfl, rfl⟩, Below.refl _ _⟩
  case round =>
    obtain ⟨⟨j, m, S, hj, rfl, rfl, m0, mn, mp, rfl, hl, he⟩, hbw⟩ := hrel
    have HE := Lib.hid he
    have HBW := Lib.hid hbw
    have HMP := Lib.hid mp
    have HMN := Lib.hid mn
    clear he hbw mp mn
    by_cases hgo : j = 0 ∨ 0 < m
    · have hj19 : j < 19 := by
        rcases hgo with h | h
        · omega
        · apply Classical.byContradiction
          intro hc
          have := HMP.out
          rw [show 19 - j = 0 by omega] at this
          simp at this; omega
      have g1 : decide ((j : Int) < 20) = true := decide_eq_true (by omega)
      have hr : m.tmod 10 = m % 10 := Int.tmod_eq_emod_of_nonneg m0
      have hq : m.tdiv 10 = m / 10 := Int.tdiv_eq_ediv_of_nonneg m0
      obtain ⟨Y, hY⟩ : ∃ Y, strOfNums S = Y := ⟨_, rfl⟩
      have hYs : Y.size = j := by rw [← hY, strOfNums_size, hl]
      have r0 : 0 ≤ m % 10 := by omega
      have r1 : m % 10 < 10 := by omega
      have q1 : ¬ 9223372036854775807 < (strOfNums [48 + m % 10]).size + Y.size := by rw [strOfNums_size]; show ¬ _ < 1 + _; omega
      have HREL : Hid (rdecRel n (.int .i64 (m / 10)) (.string (strOfNums [48 + m % 10] ++ Y)) (.int .i64 ((j : Int) + 1))) := Lib.hid ⟨j + 1, m / 10, [48 + m % 10] ++ S, by omega, by simp, rfl, by omega, by have := HMN.out; omega, pow_step HMP.out hj19 m0, by rw [nums_app, hY], by simp [hl], by
        rw [if_neg (by omega)]
        have hcase := HE.out
        by_cases h10 : m < 10
        · rw [if_pos (by omega)]
          by_cases hj0 : j = 0
          · rw [if_pos hj0] at hcase
            have : S = [] := List.length_eq_zero_iff.1 (by omega)
            rw [this, ← hcase, decL_small m0 h10, show m % 10 = m by omega]; rfl
          · rw [if_neg hj0, if_neg (by omega)] at hcase
            rw [← hcase, decL_small m0 h10, show m % 10 = m by omega]
        · rw [if_neg (by omega)]
          by_cases hj0 : j = 0
          · rw [if_pos hj0] at hcase
            have : S = [] := List.length_eq_zero_iff.1 (by omega)
            rw [this, ← hcase, decL_big (n := m) (by omega)]; simp
          · rw [if_neg hj0, if_neg (by omega)] at hcase
            rw [← hcase, decL_big (n := m) (by omega)]; simp⟩
      have HW : Hid (wrap64 (m / 10) = m / 10) := Lib.hid (by have := H1.out; have := HMN.out; unfold wrap64; omega)
      rw [hY]
      have HM : Hid (20 - (intOf (.int .i64 ((j : Int) + 1))).toNat < 20 - (intOf (.int .i64 (j : Int))).toNat) := Lib.hid (by simp [intOf]; omega)
      by_cases hj0 : j = 0
      · subst hj0
        clear hY hgo
        go_wp2_with fail
        go_roundw
        case rel => exact ⟨by rw [HW.out]; exact HREL.out, Below.allocL HBW.out _⟩
        case measure => exact HM.out
      · have e1 : ((j : Int) == 0) = false := by simp; omega
        have e2 : decide (0 < m) = true := decide_eq_true (hgo.resolve_left hj0)
        clear hY hgo hj0
        go_wp2_with fail
        go_roundw
        case rel => exact ⟨by rw [HW.out]; exact HREL.out, Below.allocL HBW.out _⟩
        case measure => exact HM.out
    · have hj0 : j ≠ 0 := fun h => hgo (.inl h)
      have hm0 : m = 0 := by have : ¬ 0 < m := fun h => hgo (.inr h)
                             omega
      subst hm0
      have HL : Hid (strOfNums S = D) := Lib.hid (by
        have := HE.out
        rw [if_neg hj0, if_pos rfl] at this
        rw [this, ← HD.out, decS_nums])
      have e1 : ((j : Int) == 0) = false := by simp; omega
      have g1 : decide ((j : Int) < 20) = true := decide_eq_true (by omega)
      clear hgo hj0
      go_wp2_with fail
      go_ret
      exact ⟨by rw [← HL.out]; rfl, HBW.out⟩

/-! ### part -/
def PartYes (s : ByteArray) (at_ : Nat) (w : World) (e : Ending) (w' : World) : Prop :=
  ∃ (n : Int) (i : Nat), e = .returned (.tuple #[.int .i64 n, .int .i64 i]) ∧ w = w' ∧ 0 ≤ n ∧ n ≤ 9223372036854775807 ∧ i ≤ s.size ∧ (byL s).drop at_ = decL n ++ (byL s).drop i ∧ (∀ c u, (byL s).drop i = c :: u → ¬ isD c)
def noPart (s : ByteArray) (at_ : Nat) : Prop := ∀ n r, 0 ≤ n → n ≤ 9223372036854775807 → (byL s).drop at_ = decL n ++ r → ∃ c u, r = c :: u ∧ isD c
def PartNo (s : ByteArray) (at_ : Nat) (w : World) (e : Ending) (w' : World) : Prop :=
  ∃ i : Int, e = .returned (.tuple #[.int .i64 (-1), .int .i64 i]) ∧ w = w' ∧ noPart s at_
def PartPost (s : ByteArray) (at_ : Nat) (w : World) (e : Ending) (w' : World) : Prop := PartYes s at_ w e w' ∨ PartNo s at_ w e w'
def partRel (s : ByteArray) (at_ k : Nat) (a : Int) : Prop := ∃ R : List Int, (byL s).drop at_ = R ++ (byL s).drop k ∧ (∀ c ∈ R, isD c) ∧ valD R = a ∧ R.length = k - at_ ∧ at_ ≤ k
theorem partRel_step {s : ByteArray} {at_ k : Nat} {a : Int} (h : partRel s at_ k a) (hk : k < s.size) (hd : isD (bt s k)) : partRel s at_ (k + 1) (10 * a + bt s k - 48) := by
  obtain ⟨R, h1, h2, h3, h4, h5⟩ := h
  refine ⟨R ++ [bt s k], ?_, ?_, ?_, ?_, by omega⟩
  · rw [h1, byL_drop hk]; simp
  · intro c hc
    rcases List.mem_append.1 hc with hc | hc
    · exact h2 c hc
    · simp only [List.mem_singleton] at hc; subst hc; exact hd
  · rw [valD_snoc, h3]; omega
  · rw [List.length_append, h4]; simp; omega
/-- a run of digits whose number is too great is none's beginning -/
theorem noPart_big {s : ByteArray} {at_ k : Nat} {a : Int} (h : partRel s at_ k a) (hb : 9223372036854775807 < a) : noPart s at_ := by
  obtain ⟨R, h1, h2, h3, _⟩ := h
  intro n r n0 n1 hn
  apply Classical.byContradiction
  intro hc
  have hr : ∀ c u, r = c :: u → ¬ isD c := fun c u e hd => hc ⟨c, u, e, hd⟩
  -- the run lies within the number's digits
  have key : ∀ {R D r t : List Int}, (∀ c ∈ R, isD c) → (∀ c u, r = c :: u → ¬ isD c) → R ++ t = D ++ r → ∃ B, D = R ++ B := by
    intro R
    induction R with
    | nil => intro D r t _ _ _; exact ⟨D, rfl⟩
    | cons x R ih =>
      intro D r t hR hr h
      cases D with
      | nil => exact absurd (hR x (by simp)) (hr x (R ++ t) h.symm)
      | cons d D =>
        simp only [List.cons_append, List.cons.injEq] at h
        obtain ⟨rfl, h⟩ := h
        obtain ⟨B, rfl⟩ := ih (fun c hc => hR c (by simp [hc])) hr h
        exact ⟨B, rfl⟩
  obtain ⟨B, hB⟩ := key h2 hr (h1.symm.trans hn)
  have hd := decL_isD n0
  rw [hB] at hd
  have := valD_pre hd
  rw [← hB, valD_dec n0, h3] at this
  omega
theorem noPart_none {s : ByteArray} {at_ : Nat} (h : ∀ c u, (byL s).drop at_ = c :: u → ¬ isD c) : noPart s at_ := by
  intro n r n0 n1 hn
  exfalso
  cases hd : decL n with
  | nil => exact decL_ne n n0 hd
  | cons c u =>
    rw [hd] at hn
    exact h c (u ++ r) hn (decL_isD n0 c (by rw [hd]; simp))
theorem decL_lead {n : Int} (h0 : 0 ≤ n) {c : Int} {u : List Int} (h : decL n = c :: u) (hc : c = 48) : u = [] := by
  by_cases h10 : n < 10
  · rw [decL_small h0 h10] at h
    simp at h; exact h.2.symm ▸ rfl
  · exfalso
    have hl : u ≠ [] := by
      intro hu
      subst hu
      have := congrArg List.length h
      have h2 : 2 ≤ (decL n).length := by
        rw [decL_big (by omega), List.length_append]
        have := List.length_pos_iff.2 (decL_ne (n / 10) (by omega))
        simp; omega
      rw [h] at h2; simp at h2
    -- a number from ten on begins with no nought
    have key : ∀ k : Nat, 1 ≤ k → (decL (k : Int)).head? ≠ some 48 := by
      intro k
      induction k using Nat.strongRecOn with
      | _ k ih =>
        intro hk
        by_cases hs : k < 10
        · rw [decL_small (by omega) (by omega)]; simp; omega
        · rw [decL_big (by omega)]
          have e : (k : Int) / 10 = ((k / 10 : Nat) : Int) := by omega
          rw [e]
          have := ih (k / 10) (by omega) (by omega)
          have hne := decL_ne ((k / 10 : Nat) : Int) (by omega)
          cases hd : decL ((k / 10 : Nat) : Int) with
          | nil => exact absurd hd hne
          | cons x t => rw [hd] at this; simpa using this
    obtain ⟨k, rfl⟩ := Int.eq_ofNat_of_zero_le h0
    have := key k (by omega)
    rw [h, hc] at this
    exact this rfl
theorem noPart_nought {s : ByteArray} {at_ k : Nat} {a : Int} (h : partRel s at_ k a) (h0 : at_ < s.size) (h48 : bt s at_ = 48) (hk : at_ + 1 < k) : noPart s at_ := by
  obtain ⟨R, h1, h2, h3, h4, h5⟩ := h
  intro n r n0 n1 hn
  rw [byL_drop h0] at h1 hn
  cases hd : decL n with
  | nil => exact absurd hd (decL_ne n n0)
  | cons c u =>
    rw [hd] at hn
    simp only [List.cons_append, List.cons.injEq] at hn
    have hu := decL_lead n0 hd (by rw [← hn.1]; exact h48)
    subst hu
    match R, h4, h1, h2 with
    | [], h4, _, _ => simp at h4; omega
    | [_], h4, _, _ => simp at h4; omega
    | x :: y :: R, _, h1, h2 =>
      simp only [List.cons_append, List.cons.injEq] at h1
      refine ⟨y, R ++ (byL s).drop k, ?_, h2 y (by simp)⟩
      rw [← h1.2, hn.2]; rfl
theorem decL_len {n : Int} (h0 : 0 ≤ n) (h1 : n ≤ 9223372036854775807) : (decL n).length ≤ 19 := by
  rw [← byL_dec, byL_len]; exact (decS_size h0 h1).2
theorem noPart_long {s : ByteArray} {at_ k : Nat} {a : Int} (h : partRel s at_ k a) (hk : k < s.size) (hd : isD (bt s k)) (h19 : k = at_ + 19) : noPart s at_ := by
  obtain ⟨R, h1, h2, h3, h4, h5⟩ := h
  intro n r n0 n1 hn
  have hl := decL_len n0 n1
  rw [byL_drop hk] at h1
  rw [hn] at h1
  have e : R ++ bt s k :: (byL s).drop (k + 1) = (R ++ [bt s k]) ++ (byL s).drop (k + 1) := by simp
  rw [e] at h1
  have h20 : (R ++ [bt s k]).length = 20 := by rw [List.length_append, h4]; simp; omega
  have hall : ∀ c ∈ R ++ [bt s k], isD c := by
    intro c hc
    rcases List.mem_append.1 hc with hc | hc
    · exact h2 c hc
    · simp only [List.mem_singleton] at hc; subst hc; exact hd
  cases hr : r with
  | nil =>
    exfalso
    rw [hr, List.append_nil] at h1
    have := congrArg List.length h1
    rw [List.length_append, h20] at this; omega
  | cons c u =>
    refine ⟨c, u, rfl, ?_⟩
    rw [hr] at h1
    have hg := congrArg (fun l => l[(decL n).length]?) h1
    rw [List.getElem?_append_right (Nat.le_refl _), Nat.sub_self, List.getElem?_cons_zero, List.getElem?_append_left (by rw [h20]; omega)] at hg
    exact hall c (List.mem_of_getElem? hg.symm)
theorem part_yes {s : ByteArray} {at_ k : Nat} {a : Int} (h : partRel s at_ k a) (hk0 : at_ < k) (h48 : bt s at_ ≠ 48 ∨ k = at_ + 1) (has : at_ < s.size) : (byL s).drop at_ = decL a ++ (byL s).drop k := by
  obtain ⟨R, h1, h2, h3, h4, h5⟩ := h
  have hne : R ≠ [] := fun e => by rw [e] at h4; simp at h4; omega
  have : decL a = R := by
    rw [← h3]
    refine dec_valD h2 hne ?_
    rcases h48 with h48 | h48
    · right
      rw [byL_drop has] at h1
      cases R with
      | nil => exact absurd rfl hne
      | cons x R =>
        simp only [List.cons_append, List.cons.injEq] at h1
        rw [← h1.1]
        simpa using h48
    · left; rw [h4]; omega
  rw [this]; exact h1

end Go.Proofs.YtpjlomgiljpadaaDoor

namespace Go.Proofs.YtpjlomgiljpadaaDoor
open Go.RowKit
set_option linter.unusedVariables false

theorem isD_dec (c : Int) : isD c ↔ (decide (48 ≤ c) && decide (c ≤ 57)) = true := by unfold isD; simp
set_option maxHeartbeats 4000000 in
set_option maxRecDepth 100000 in
theorem part_any {s : ByteArray} {at_ : Nat} (hat : at_ ≤ s.size) (hs : s.size ≤ 1000000) (w : World) :
    Calls Tryd.prog 59 #[.string s, .int .i64 at_] w (PartPost s at_ w) := by
  have hati : (at_ : Int) ≤ 1000000 := by omega
  go_enter Tryd.func59, Tryd.ntmps59
  go_wp2_with fail
  go_loop [6, 7] (fun n i => ∃ (k : Nat) (a : Int), n = .int .i64 a ∧ i = .int .i64 k ∧ k ≤ s.size ∧ at_ ≤ k ∧ k ≤ at_ + 19 ∧ 0 ≤ a ∧ Hid (partRel s at_ k a ∧ a ≤ 9223372036854775807)) (fun _ i => s.size - (intOf i).toNat)
  case atStart => exact ⟨at_, 0, rfl, rfl, hat, Nat.le_refl _, by omega, Int.le_refl _, Lib.hid ⟨⟨[], rfl, (fun c hc => by cases hc), rfl, by show 0 = _; omega, Nat.le_refl _⟩, by omega⟩⟩
  case round =>
    obtain ⟨k, a, rfl, rfl, hk, hk1, hk2, a0, HP⟩ := hrel
    by_cases hgo : k < s.size ∧ isD (bt s k) ∧ k < at_ + 19
    · obtain ⟨hlt, hdg, h19⟩ := hgo
      have hi0 : ∀ w, (Instr.index 9 (.string s) (.int .i64 k)).run Tryd.prog w = .ok (.int .u8 (bt s k)) w := index_bt Tryd.underlying9 hlt
      have HD := Lib.hid hdg
      have d1 : decide (48 ≤ bt s k) = true := decide_eq_true hdg.1
      have d2 : decide (bt s k ≤ 57) = true := decide_eq_true hdg.2
      have d3 : decide ((k : Int) < (at_ : Int) + 19) = true := decide_eq_true (by omega)
      have HSTEP := Lib.hid (partRel_step HP.out.1 hlt hdg)
      obtain ⟨c, hc⟩ : ∃ c, bt s k = c := ⟨_, rfl⟩
      rw [hc] at hi0 d1 d2 HSTEP
      have hcb : 48 ≤ c ∧ c ≤ 57 := by rw [← hc]; exact hdg
      clear hdg hc
      by_cases hbig : 922337203685477580 < a
      · have g1 : decide (922337203685477580 < a) = true := decide_eq_true hbig
        have HNO := Lib.hid (noPart_big HSTEP.out (by omega))
        clear hbig hk1 hk2 h19
        go_wp2_with fail
        go_ret2
        exact .inr ⟨_, rfl, rfl, HNO.out⟩
      have g1 : decide (922337203685477580 < a) = false := decide_eq_false hbig
      by_cases heq : a = 922337203685477580
      · have g2 : (a == 922337203685477580) = true := by simpa using heq
        by_cases hc55 : 55 < c
        · have g3 : decide (55 < c) = true := decide_eq_true hc55
          have HNO := Lib.hid (noPart_big HSTEP.out (by omega))
          clear hbig heq hc55 hk1 hk2 h19
          go_wp2_with fail
          go_ret2
          exact .inr ⟨_, rfl, rfl, HNO.out⟩
        · have g3 : decide (55 < c) = false := decide_eq_false hc55
          have HST2 : Hid (partRel s at_ (k + 1) (10 * a + c - 48) ∧ 10 * a + c - 48 ≤ 9223372036854775807) := Lib.hid ⟨HSTEP.out, by omega⟩
          have HAB : Hid (a ≤ 922337203685477580) := Lib.hid (by omega)
          clear hbig heq hc55
          have HW : Hid (wrap64 (wrap64 (wrap64 (10 * a) + c) - 48) = 10 * a + c - 48) := Lib.hid (by unfold wrap64; have := HAB.out; have := HST2.out.2; omega)
          go_wp2_with fail
          exact ⟨⟨k + 1, 10 * a + c - 48, by rw [HW.out], by simp, by omega, by omega, by omega, by omega, HST2⟩, by simp [intOf]; omega⟩
      · have g2 : (a == 922337203685477580) = false := by simpa using heq
        have HST2 : Hid (partRel s at_ (k + 1) (10 * a + c - 48) ∧ 10 * a + c - 48 ≤ 9223372036854775807) := Lib.hid ⟨HSTEP.out, by omega⟩
        have HAB : Hid (a ≤ 922337203685477580) := Lib.hid (by omega)
        clear hbig heq
        have HW : Hid (wrap64 (wrap64 (wrap64 (10 * a) + c) - 48) = 10 * a + c - 48) := Lib.hid (by unfold wrap64; have := HAB.out; have := HST2.out.2; omega)
        go_wp2_with fail
        exact ⟨⟨k + 1, 10 * a + c - 48, by rw [HW.out], by simp, by omega, by omega, by omega, by omega, HST2⟩, by simp [intOf]; omega⟩
    · by_cases hend : k < s.size
      · have hi0 : ∀ w, (Instr.index 9 (.string s) (.int .i64 k)).run Tryd.prog w = .ok (.int .u8 (bt s k)) w := index_bt Tryd.underlying9 hend
        have hb := bt_lt s k
        by_cases hlow : 48 ≤ bt s k
        · have d1 : decide (48 ≤ bt s k) = true := decide_eq_true hlow
          by_cases hhigh : bt s k ≤ 57
          · have d2 : decide (bt s k ≤ 57) = true := decide_eq_true hhigh
            have h19 : k = at_ + 19 := by
              apply Classical.byContradiction
              intro hc
              exact hgo ⟨hend, ⟨hlow, hhigh⟩, by omega⟩
            have d3 : decide ((k : Int) < (at_ : Int) + 19) = false := decide_eq_false (by omega)
            have HST : Hid (k < s.size ∧ isD (bt s k) ∧ k = at_ + 19) := Lib.hid ⟨hend, ⟨hlow, hhigh⟩, h19⟩
            clear hgo h19
            have hA : k ≠ at_ := by have := HST.out.2.2; omega
            have e1 : ((k : Int) == (at_ : Int)) = false := by simp; omega
            have has : at_ < s.size := by omega
            have hiA : ∀ w, (Instr.index 9 (.string s) (.int .i64 at_)).run Tryd.prog w = .ok (.int .u8 (bt s at_)) w := index_bt Tryd.underlying9 has
            have hbA := bt_lt s at_
            have hak : (at_ : Int) < (k : Int) := by omega
            have HAK : Hid (at_ < k ∧ k = k) := Lib.hid ⟨by omega, rfl⟩
            by_cases h48 : bt s at_ = 48
            · have z1 : (bt s at_ == 48) = true := by simpa using h48
              by_cases hk1' : at_ + 1 < k
              · have z2 : decide ((at_ : Int) + 1 < (k : Int)) = true := decide_eq_true (by omega)
                have HNO : Hid (noPart s at_) := Lib.hid (noPart_nought HP.out.1 has h48 hk1')
                go_wp2_with fail
                go_ret2
                exact .inr ⟨_, rfl, rfl, HNO.out⟩
              · have z2 : decide ((at_ : Int) + 1 < (k : Int)) = false := decide_eq_false (by omega)
                have HNO : Hid (noPart s at_) := Lib.hid (noPart_long HP.out.1 HST.out.1 HST.out.2.1 HST.out.2.2)
                go_wp2_with fail
                go_ret2
                exact .inr ⟨_, rfl, rfl, HNO.out⟩
            · have z1 : (bt s at_ == 48) = false := by simpa using h48
              have HNO : Hid (noPart s at_) := Lib.hid (noPart_long HP.out.1 HST.out.1 HST.out.2.1 HST.out.2.2)
              go_wp2_with fail
              go_ret2
              exact .inr ⟨_, rfl, rfl, HNO.out⟩
          · have d2 : decide (bt s k ≤ 57) = false := decide_eq_false hhigh
            have HST : Hid (∀ c u, (byL s).drop k = c :: u → ¬ isD c) := Lib.hid (fun c u h hd => by rw [byL_drop hend] at h; simp only [List.cons.injEq] at h; rw [← h.1] at hd; exact hhigh hd.2)
            clear hgo
            by_cases hA : k = at_
            · have e1 : ((k : Int) == (at_ : Int)) = true := by simp; omega
              have HNO : Hid (noPart s at_) := Lib.hid (noPart_none (by rw [← hA]; exact HST.out))
              clear hA
              go_wp2_with fail
              go_ret2
              exact .inr ⟨_, rfl, rfl, HNO.out⟩
            have e1 : ((k : Int) == (at_ : Int)) = false := by simp; omega
            have has : at_ < s.size := by omega
            have hiA : ∀ w, (Instr.index 9 (.string s) (.int .i64 at_)).run Tryd.prog w = .ok (.int .u8 (bt s at_)) w := index_bt Tryd.underlying9 has
            have hbA := bt_lt s at_
            have hak : (at_ : Int) < (k : Int) := by omega
            have HAK : Hid (at_ < k ∧ k = k) := Lib.hid ⟨by omega, rfl⟩
            by_cases h48 : bt s at_ = 48
            · have z1 : (bt s at_ == 48) = true := by simpa using h48
              by_cases hk1' : at_ + 1 < k
              · have z2 : decide ((at_ : Int) + 1 < (k : Int)) = true := decide_eq_true (by omega)
                have HNO : Hid (noPart s at_) := Lib.hid (noPart_nought HP.out.1 has h48 hk1')
                go_wp2_with fail
                go_ret2
                exact .inr ⟨_, rfl, rfl, HNO.out⟩
              · have z2 : decide ((at_ : Int) + 1 < (k : Int)) = false := decide_eq_false (by omega)
                have HY := Lib.hid (part_yes HP.out.1 (by omega) (.inr (by omega)) has)
                clear h48 hA
                go_wp2_with fail
                go_ret2
                exact .inl ⟨a, k, rfl, rfl, a0, HP.out.2, hk, HY.out, HST.out⟩
            · have z1 : (bt s at_ == 48) = false := by simpa using h48
              have HY := Lib.hid (part_yes HP.out.1 (by omega) (.inl h48) has)
              clear h48 hA
              go_wp2_with fail
              go_ret2
              exact .inl ⟨a, k, rfl, rfl, a0, HP.out.2, hk, HY.out, HST.out⟩
        · have d1 : decide (48 ≤ bt s k) = false := decide_eq_false hlow
          have HST : Hid (∀ c u, (byL s).drop k = c :: u → ¬ isD c) := Lib.hid (fun c u h hd => by rw [byL_drop hend] at h; simp only [List.cons.injEq] at h; rw [← h.1] at hd; exact hlow hd.1)
          clear hgo
          by_cases hA : k = at_
          · have e1 : ((k : Int) == (at_ : Int)) = true := by simp; omega
            have HNO : Hid (noPart s at_) := Lib.hid (noPart_none (by rw [← hA]; exact HST.out))
            clear hA
            go_wp2_with fail
            go_ret2
            exact .inr ⟨_, rfl, rfl, HNO.out⟩
          have e1 : ((k : Int) == (at_ : Int)) = false := by simp; omega
          have has : at_ < s.size := by omega
          have hiA : ∀ w, (Instr.index 9 (.string s) (.int .i64 at_)).run Tryd.prog w = .ok (.int .u8 (bt s at_)) w := index_bt Tryd.underlying9 has
          have hbA := bt_lt s at_
          have hak : (at_ : Int) < (k : Int) := by omega
          have HAK : Hid (at_ < k ∧ k = k) := Lib.hid ⟨by omega, rfl⟩
          by_cases h48 : bt s at_ = 48
          · have z1 : (bt s at_ == 48) = true := by simpa using h48
            by_cases hk1' : at_ + 1 < k
            · have z2 : decide ((at_ : Int) + 1 < (k : Int)) = true := decide_eq_true (by omega)
              have HNO : Hid (noPart s at_) := Lib.hid (noPart_nought HP.out.1 has h48 hk1')
              go_wp2_with fail
              go_ret2
              exact .inr ⟨_, rfl, rfl, HNO.out⟩
            · have z2 : decide ((at_ : Int) + 1 < (k : Int)) = false := decide_eq_false (by omega)
              have HY := Lib.hid (part_yes HP.out.1 (by omega) (.inr (by omega)) has)
              clear h48 hA
              go_wp2_with fail
              go_ret2
              exact .inl ⟨a, k, rfl, rfl, a0, HP.out.2, hk, HY.out, HST.out⟩
          · have z1 : (bt s at_ == 48) = false := by simpa using h48
            have HY := Lib.hid (part_yes HP.out.1 (by omega) (.inl h48) has)
            clear h48 hA
            go_wp2_with fail
            go_ret2
            exact .inl ⟨a, k, rfl, rfl, a0, HP.out.2, hk, HY.out, HST.out⟩
      · have HST : Hid (∀ c u, (byL s).drop k = c :: u → ¬ isD c) := Lib.hid (fun c u h hd => by rw [List.drop_eq_nil_of_le (by rw [byL_len]; omega)] at h; cases h)
        have hge : ¬ (k : Int) < (s.size : Int) := by omega
        clear hgo
        by_cases hA : k = at_
        · have e1 : ((k : Int) == (at_ : Int)) = true := by simp; omega
          have HNO : Hid (noPart s at_) := Lib.hid (noPart_none (by rw [← hA]; exact HST.out))
          clear hA
          go_wp2_with fail
          go_ret2
          exact .inr ⟨_, rfl, rfl, HNO.out⟩
        have e1 : ((k : Int) == (at_ : Int)) = false := by simp; omega
        have has : at_ < s.size := by omega
        have hiA : ∀ w, (Instr.index 9 (.string s) (.int .i64 at_)).run Tryd.prog w = .ok (.int .u8 (bt s at_)) w := index_bt Tryd.underlying9 has
        have hbA := bt_lt s at_
        have hak : (at_ : Int) < (k : Int) := by omega
        have HAK : Hid (at_ < k ∧ k = k) := Lib.hid ⟨by omega, rfl⟩
        by_cases h48 : bt s at_ = 48
        · have z1 : (bt s at_ == 48) = true := by simpa using h48
          by_cases hk1' : at_ + 1 < k
          · have z2 : decide ((at_ : Int) + 1 < (k : Int)) = true := decide_eq_true (by omega)
            have HNO : Hid (noPart s at_) := Lib.hid (noPart_nought HP.out.1 has h48 hk1')
            go_wp2_with fail
            go_ret2
            exact .inr ⟨_, rfl, rfl, HNO.out⟩
          · have z2 : decide ((at_ : Int) + 1 < (k : Int)) = false := decide_eq_false (by omega)
            have HY := Lib.hid (part_yes HP.out.1 (by omega) (.inr (by omega)) has)
            clear h48 hA
            go_wp2_with fail
            go_ret2
            exact .inl ⟨a, k, rfl, rfl, a0, HP.out.2, hk, HY.out, HST.out⟩
        · have z1 : (bt s at_ == 48) = false := by simpa using h48
          have HY := Lib.hid (part_yes HP.out.1 (by omega) (.inl h48) has)
          clear h48 hA
          go_wp2_with fail
          go_ret2
          exact .inl ⟨a, k, rfl, rfl, a0, HP.out.2, hk, HY.out, HST.out⟩

end Go.Proofs.YtpjlomgiljpadaaDoor

namespace Go.Proofs.YtpjlomgiljpadaaDoor
open Go.RowKit
set_option linter.unusedVariables false

set_option maxHeartbeats 2000000 in
theorem rline_f {i n l : Int} {d : ByteArray} {node slot : Int} (h : okF i n l d.size = false ∨ node < 0 ∨ slot < 0) (w : World) :
    Calls Tryd.prog 17 #[enV i n l d node slot] w fun e w' => e = .returned (.string (ByteArray.mk #[])) ∧ Below w.heap.size w w' := by
  cases hq : okF i n l d.size
  · have HQ := Lib.hid hq
    clear hq h
    go_enter Tryd.func17, Tryd.ntmps17
    go_wp2_with fail
    refine (rright_v HQ.out _).mono ?_
    rintro e w1 ⟨rfl, hb⟩
    have HB := Lib.hid hb
    clear hb
    go_wp2_with fail
    go_ret
    exact ⟨rfl, fbelow_a _ HB.out⟩
  · have HQ := Lib.hid hq
    rw [hq] at h
    have h' := h.resolve_left (by decide)
    clear hq h
    by_cases hn : node < 0
    · have dn : decide (node < 0) = true := decide_eq_true hn
      clear h' hn
      go_enter Tryd.func17, Tryd.ntmps17
      go_wp2_with fail
      refine (rright_v HQ.out _).mono ?_
      rintro e w1 ⟨rfl, hb⟩
      obtain ⟨hc, hf⟩ := fbcell hb
      have HB := Lib.hid hb
      clear hb
      go_wp2_with fail
      go_ret
      exact ⟨rfl, fbelow_a _ HB.out⟩
    · have dn : decide (node < 0) = false := decide_eq_false hn
      have ds : decide (slot < 0) = true := decide_eq_true (h'.resolve_left hn)
      clear h' hn
      go_enter Tryd.func17, Tryd.ntmps17
      go_wp2_with fail
      refine (rright_v HQ.out _).mono ?_
      rintro e w1 ⟨rfl, hb⟩
      obtain ⟨hc, hf⟩ := fbcell hb
      have HB := Lib.hid hb
      clear hb
      go_wp2_with fail
      go_ret
      exact ⟨rfl, fbelow_a _ HB.out⟩

set_option maxHeartbeats 4000000 in
theorem rline_t {e : En} (h : e.ok = true) (hfit : e.fits) (w : World) :
    Calls Tryd.prog 17 #[enV e.f.i e.f.n e.f.l e.f.d e.node e.slot] w fun r w' => r = .returned (.string (lineS e)) ∧ Below w.heap.size w w' := by
  obtain ⟨⟨i, n, l, d⟩, node, slot⟩ := e
  obtain ⟨h1, h2, h3⟩ := En.parts h
  obtain ⟨f1, f2⟩ := hfit
  simp only at h1 h2 h3 f1 f2
  obtain ⟨S, hS⟩ : ∃ S, decS slot = S := ⟨_, rfl⟩
  obtain ⟨N, hN⟩ : ∃ N, decS node = N := ⟨_, rfl⟩
  obtain ⟨X, hX⟩ : ∃ X, tellS ⟨i, n, l, d⟩ = X := ⟨_, rfl⟩
  have hSs : S.size ≤ 19 := by rw [← hS]; exact (decS_size h3 f2).2
  have hNs : N.size ≤ 19 := by rw [← hN]; exact (decS_size h2 f1).2
  have hXs : X.size ≤ 139 := by rw [← hX, tellS_size]; exact tellL_len h1
  have HL : Hid (ByteArray.mk #[40] ++ S ++ ByteArray.mk #[41, 32, 110] ++ N ++ ByteArray.mk #[32] ++ X ++ strOfNums [10] = lineS ⟨⟨i, n, l, d⟩, node, slot⟩) := Lib.hid (by unfold lineS; simp only; rw [hS, hN, hX]; rfl)
  have e40 : (ByteArray.mk #[40]).size = 1 := rfl
  have e41 : (ByteArray.mk #[41, 32, 110]).size = 3 := rfl
  have e32 : (ByteArray.mk #[32]).size = 1 := rfl
  have e10 : (strOfNums [10]).size = 1 := rfl
  have q1 : ¬ 9223372036854775807 < (ByteArray.mk #[40]).size + S.size := by omega
  have q2 : ¬ 9223372036854775807 < (ByteArray.mk #[40] ++ S).size + (ByteArray.mk #[41, 32, 110]).size := by simp only [ByteArray.size_append]; omega
  have q3 : ¬ 9223372036854775807 < (ByteArray.mk #[40] ++ S ++ ByteArray.mk #[41, 32, 110]).size + N.size := by simp only [ByteArray.size_append]; omega
  have q4 : ¬ 9223372036854775807 < (ByteArray.mk #[40] ++ S ++ ByteArray.mk #[41, 32, 110] ++ N).size + (ByteArray.mk #[32]).size := by simp only [ByteArray.size_append]; omega
  have q5 : ¬ 9223372036854775807 < (ByteArray.mk #[40] ++ S ++ ByteArray.mk #[41, 32, 110] ++ N ++ ByteArray.mk #[32]).size + X.size := by simp only [ByteArray.size_append]; omega
  have q6 : ¬ 9223372036854775807 < (ByteArray.mk #[40] ++ S ++ ByteArray.mk #[41, 32, 110] ++ N ++ ByteArray.mk #[32] ++ X).size + (strOfNums [10]).size := by simp only [ByteArray.size_append]; omega
  have H := Lib.hid h1
  have HQ : Hid (okF i n l d.size = true) := Lib.hid h1
  have HS := Lib.hid hS
  have HN := Lib.hid hN
  have HX := Lib.hid hX
  have dn : decide (node < 0) = false := decide_eq_false (by omega)
  have ds : decide (slot < 0) = false := decide_eq_false (by omega)
  clear h h1 hS hN hX e40 e41 e32 e10
  go_enter Tryd.func17, Tryd.ntmps17
  go_wp2_with fail
  refine (rright_v HQ.out _).mono ?_
  rintro r w1 ⟨rfl, hb⟩
  obtain ⟨hc, hf⟩ := fbcell hb
  have hz : w.heap.size < w1.heap.size := by have := hb.size; simp only [World.size_alloc] at this; omega
  have hlc := later_cells w1
  have HB1 := Lib.hid (fbelow_a _ hb)
  clear hb
  go_wp2_with fail
  refine wp_region_sec 17 [31] (fun _ v w' => isBytes 5 [10] v w') (fun _ _ _ _ h hb => isBytes_later h hb) (by kernel_rfl) (by kernel_rfl) (by kernel_rfl) (by kernel_rfl) (by kernel_rfl) ?_
  simp only [List.take_succ_cons, List.take_zero, List.drop_succ_cons, List.drop_zero]
  refine sec_plain (by rfl) (by rfl) (by rfl) (by rfl) ?_
  intro K hK
  go_big_quiet_op
  go_big_quiet_on
  refine sec_plain (by rfl) (by rfl) (by rfl) (by rfl) ?_
  intro K hK
  go_big_quiet_op
  go_big_quiet_on
  refine sec_call (v := .string S) (by rfl) (by rfl) (by rfl) (by rfl) (by rfl) ?_ ?_
  · intro m K hK
    go_big_quiet_op
    exact ⟨_, fun q => Later.call (rdec_v HS.out h3 f2 _), hK⟩
  simp only [Act.put, List.setIfInBounds_toArray, List.set_cons_succ, List.set_cons_zero]
  refine sec_plain (by rfl) (by rfl) (by rfl) (by rfl) ?_
  intro K hK
  go_big_quiet_op
  go_big_quiet_on
  refine sec_plain (by rfl) (by rfl) (by rfl) (by rfl) ?_
  intro K hK
  go_big_quiet_op
  go_big_quiet_on
  refine sec_plain (by rfl) (by rfl) (by rfl) (by rfl) ?_
  intro K hK
  go_big_quiet_op
  go_big_quiet_on
  refine sec_plain (by rfl) (by rfl) (by rfl) (by rfl) ?_
  intro K hK
  go_big_quiet_op
  go_big_quiet_on
  refine sec_call (v := .string N) (by rfl) (by rfl) (by rfl) (by rfl) (by rfl) ?_ ?_
  · intro m K hK
    go_big_quiet_op
    exact ⟨_, fun q => Later.call (rdec_v HN.out h2 f1 _), hK⟩
  simp only [Act.put, List.setIfInBounds_toArray, List.set_cons_succ, List.set_cons_zero]
  refine sec_plain (by rfl) (by rfl) (by rfl) (by rfl) ?_
  intro K hK
  go_big_quiet_op
  go_big_quiet_on
  refine sec_plain (by rfl) (by rfl) (by rfl) (by rfl) ?_
  intro K hK
  go_big_quiet_op
  go_big_quiet_on
  refine sec_plain (by rfl) (by rfl) (by rfl) (by rfl) ?_
  intro K hK
  go_big_quiet_op
  go_big_quiet_on
  refine sec_plain (by rfl) (by rfl) (by rfl) (by rfl) ?_
  intro K hK
  go_big_quiet_op
  go_big_quiet_on
  refine sec_call (v := .string X) (by rfl) (by rfl) (by rfl) (by rfl) (by rfl) ?_ ?_
  · intro m K hK
    go_big_quiet_op
    exact ⟨_, fun q => Later.call (rtell_v (f := ⟨i, n, l, d⟩) H.out HX.out _), hK⟩
  simp only [Act.put, List.setIfInBounds_toArray, List.set_cons_succ, List.set_cons_zero]
  refine sec_plain (by rfl) (by rfl) (by rfl) (by rfl) ?_
  intro K hK
  go_big_quiet_op
  go_big_quiet_on
  refine sec_new (s := 31) (mk := fun w => .slice (some ⟨w.heap.size, 0, none⟩) 1 1) (ob := fun w => .cells #[.int .u8 10] 5) (by rfl) (by rfl) (by rfl) (by rfl) (by rfl) (fun _ => by kernel_rfl) (fun w => isBytes_new w 5 [10]) ?_
  simp only [Act.put, List.setIfInBounds_toArray, List.set_cons_succ, List.set_cons_zero]
  refine sec_read (v := .string (strOfNums [10])) (by rfl) (by rfl) (fun a w hb hl => ?_) ?_
  · have h18 := hl 31 (by decide)
    rw [if_pos (by decide)] at h18
    have := isBytes_string (P := Tryd.prog) Tryd.underlying56 Tryd.underlying5 Tryd.underlying9 h18
    show (do pure (.value (← convert 56 9 (a.tmps.getD 31 undef))) : Sem Next).run Tryd.prog w = _
    rw [Sem.run_bind, this]
    rfl
  simp only [Act.put, List.setIfInBounds_toArray, List.set_cons_succ, List.set_cons_zero]
  refine sec_plain (by rfl) (by rfl) (by rfl) (by rfl) ?_
  intro K hK
  go_big_quiet_op
  go_big_quiet_on
  intro xs m hF
  simp only [secFill, Act.put, List.setIfInBounds_toArray, List.set_cons_succ, List.set_cons_zero]
  generalize xs 31 = v31
  clear hF xs
  have HB2 := Lib.hid (HB1.out.trans (m.h.mono HB1.out.size))
  go_wp2
  go_ret
  exact ⟨by rw [← HL.out]; rfl, HB2.out⟩

end Go.Proofs.YtpjlomgiljpadaaDoor

namespace Go.Proofs.YtpjlomgiljpadaaDoor
open Go.RowKit
set_option linter.unusedVariables false

def En.good (e : En) : Prop := e.ok = true ∧ e.fits
/-- L, with a byte 10 behind it, is the line of e -/
def isEnt (L : List Int) (e : En) : Prop := e.good ∧ lineL e = L ++ [10]
theorem not_isD {c : Int} (h : c < 48 ∨ 57 < c) : ¬ isD c := by unfold isD; omega
theorem isEnt_iff {L : List Int} {e : En} : isEnt L e ↔ e.good ∧ L = 40 :: (decL e.slot ++ 41 :: 32 :: 110 :: (decL e.node ++ 32 :: tellL e.f)) := by
  have h : lineL e = (40 :: (decL e.slot ++ 41 :: 32 :: 110 :: (decL e.node ++ 32 :: tellL e.f))) ++ [10] := by unfold lineL; simp
  unfold isEnt
  rw [h]
  constructor
  · rintro ⟨a, b⟩; exact ⟨a, (List.append_cancel_right b).symm⟩
  · rintro ⟨a, rfl⟩; exact ⟨a, rfl⟩
theorem head_no {x : Int} {R : List Int} (h : ¬ isD x) : ∀ c u, x :: R = c :: u → ¬ isD c := fun c u e => by simp only [List.cons.injEq] at e; rw [← e.1]; exact h
theorem isEnt_uniq {L : List Int} {e e' : En} (h : isEnt L e) (h' : isEnt L e') : e = e' := by
  obtain ⟨⟨a1, a2⟩, h1⟩ := isEnt_iff.1 h
  obtain ⟨⟨b1, b2⟩, h2⟩ := isEnt_iff.1 h'
  obtain ⟨f1, n1, s1⟩ := En.parts a1
  obtain ⟨f2, n2, s2⟩ := En.parts b1
  rw [h1] at h2
  simp only [List.cons.injEq, true_and] at h2
  obtain ⟨x1, x2⟩ := run_uniq (decL_isD s1) (decL_isD s2) (head_no (not_isD (by omega))) (head_no (not_isD (by omega))) h2
  simp only [List.cons.injEq, true_and] at x2
  obtain ⟨y1, y2⟩ := run_uniq (decL_isD n1) (decL_isD n2) (head_no (not_isD (by omega))) (head_no (not_isD (by omega))) x2
  simp only [List.cons.injEq, true_and] at y2
  have q1 := decL_inj s1 s2 x1
  have q2 := decL_inj n1 n2 y1
  have q3 := tell_inj f1 f2 y2
  obtain ⟨f, nd, sl⟩ := e
  obtain ⟨f', nd', sl'⟩ := e'
  simp only at q1 q2 q3
  subst q1 q2 q3
  rfl

/-! ### the result's block -/
def enCs (i n l : Int) (d : ByteArray) (a b : Int) : Obj := .cells #[.int .i64 i, .int .i64 n, .int .i64 l, .string d, .int .i64 a, .int .i64 b] 39
abbrev enZ : Obj := enCs 0 0 0 (ByteArray.mk #[]) 0 0
structure R6 (w wv : World) : Prop where
  below : Below w.heap.size w wv
  r : wv.heap[w.heap.size]? = some enZ
section
variable {w wv wv' : World}
theorem R6.start : R6 w (w.alloc enZ) := ⟨(Below.refl _ _).alloc (Nat.le_refl _) _, heap_alloc_new _ _⟩
theorem R6.later (h : R6 w wv) (hb : Below wv.heap.size wv wv') : R6 w wv' := ⟨h.below.trans (hb.mono h.below.size), by rw [hb.block _ (lt_of_heap h.r)]; exact h.r⟩
theorem R6.alloc (h : R6 w wv) (o : Obj) : R6 w (wv.alloc o) := h.later ((Below.refl _ _).alloc (Nat.le_refl _) o)
theorem R6.size (h : R6 w wv) : w.heap.size < wv.heap.size := lt_of_heap h.r
theorem R6.setOther (h : R6 w wv) {k : Nat} (hk : w.heap.size < k) (j : Nat) (v : Value) : R6 w (wv.setCell ⟨k, j, none⟩ v) :=
  ⟨h.below.setCell (p := ⟨k, j, none⟩) (by simp only; omega) _, by rw [Below.heap_setCell _ _ _ _ (by simp only; omega)]; exact h.r⟩
theorem R6.done (h : R6 w wv) (a b c e f g : Value) : Below w.heap.size w ((((((wv.setCell ⟨w.heap.size, 0, none⟩ a).setCell ⟨w.heap.size, 1, none⟩ b).setCell ⟨w.heap.size, 2, none⟩ c).setCell ⟨w.heap.size, 3, none⟩ e).setCell ⟨w.heap.size, 4, none⟩ f).setCell ⟨w.heap.size, 5, none⟩ g) :=
  ((((((h.below.setCell (p := ⟨w.heap.size, 0, none⟩) (Nat.le_refl _) _).setCell (p := ⟨w.heap.size, 1, none⟩) (Nat.le_refl _) _).setCell (p := ⟨w.heap.size, 2, none⟩) (Nat.le_refl _) _).setCell (p := ⟨w.heap.size, 3, none⟩) (Nat.le_refl _) _).setCell (p := ⟨w.heap.size, 4, none⟩) (Nat.le_refl _) _).setCell (p := ⟨w.heap.size, 5, none⟩) (Nat.le_refl _) _)
theorem cells6 {k : Nat} {i n l : Int} {d : ByteArray} {a b : Int} (h : wv.heap[k]? = some (enCs i n l d a b)) :
    (wv.cell? ⟨k, 0, none⟩ = some (.int .i64 i) ∧ wv.cell? ⟨k, 1, none⟩ = some (.int .i64 n) ∧ wv.cell? ⟨k, 2, none⟩ = some (.int .i64 l) ∧ wv.cell? ⟨k, 3, none⟩ = some (.string d) ∧ wv.cell? ⟨k, 4, none⟩ = some (.int .i64 a) ∧ wv.cell? ⟨k, 5, none⟩ = some (.int .i64 b)) ∧
    wv.frozen? ⟨k, 0, none⟩ = false ∧ wv.frozen? ⟨k, 1, none⟩ = false ∧ wv.frozen? ⟨k, 2, none⟩ = false ∧ wv.frozen? ⟨k, 3, none⟩ = false ∧ wv.frozen? ⟨k, 4, none⟩ = false ∧ wv.frozen? ⟨k, 5, none⟩ = false := by
  unfold enCs at h
  refine ⟨⟨?_, ?_, ?_, ?_, ?_, ?_⟩, ?_, ?_, ?_, ?_, ?_, ?_⟩
  · rw [cell_of_row _ _ _ _ _ _ h]; rfl
  · rw [cell_of_row _ _ _ _ _ _ h]; rfl
  · rw [cell_of_row _ _ _ _ _ _ h]; rfl
  · rw [cell_of_row _ _ _ _ _ _ h]; rfl
  · rw [cell_of_row _ _ _ _ _ _ h]; rfl
  · rw [cell_of_row _ _ _ _ _ _ h]; rfl
  all_goals simp [World.frozen?, h]
end

/-! ### entry -/
def entPost (L : List Int) (w : World) (r : Ending) (w' : World) : Prop :=
  Below w.heap.size w w' ∧ ((∃ e, isEnt L e ∧ r = .returned (.tuple #[enV e.f.i e.f.n e.f.l e.f.d e.node e.slot, .bool true])) ∨ ((∀ e, ¬ isEnt L e) ∧ r = .returned (.tuple #[enV 0 0 0 (ByteArray.mk #[]) 0 0, .bool false])))
theorem entPost_n {L : List Int} {w w' : World} (h : ∀ e, ¬ isEnt L e) (hb : Below w.heap.size w w') : entPost L w (.returned (.tuple #[.agg #[.int .i64 0, .int .i64 0, .int .i64 0, .string (ByteArray.mk #[]), .int .i64 0, .int .i64 0], .bool false])) w' := ⟨hb, .inr ⟨h, rfl⟩⟩
theorem entPost_y {L : List Int} {i n l : Int} {d : ByteArray} {a b : Int} {w w' : World} (h : isEnt L ⟨⟨i, n, l, d⟩, a, b⟩) (hb : Below w.heap.size w w') : entPost L w (.returned (.tuple #[.agg #[.int .i64 i, .int .i64 n, .int .i64 l, .string d, .int .i64 a, .int .i64 b], .bool true])) w' := ⟨hb, .inl ⟨_, h, rfl⟩⟩
theorem ent_no0 {s : ByteArray} (h : s.size = 0 ∨ bt s 0 ≠ 40) : ∀ e, ¬ isEnt (byL s) e := by
  intro e he
  obtain ⟨_, h1⟩ := isEnt_iff.1 he
  rcases h with h | h
  · have := congrArg List.length h1
    rw [byL_len, h] at this; simp at this
  · apply h
    rw [← byL_getD, h1]; rfl
/-- what is known behind the first number -/
theorem ent_slot {s : ByteArray} {e : En} (he : isEnt (byL s) e) : (byL s).drop 1 = decL e.slot ++ 41 :: 32 :: 110 :: (decL e.node ++ 32 :: tellL e.f) ∧ 0 ≤ e.slot ∧ 0 ≤ e.node ∧ e.slot ≤ 9223372036854775807 ∧ e.node ≤ 9223372036854775807 ∧ e.f.ok = true := by
  obtain ⟨⟨a1, a2⟩, h1⟩ := isEnt_iff.1 he
  obtain ⟨f1, n1, s1⟩ := En.parts a1
  rw [h1]
  exact ⟨rfl, s1, n1, a2.2, a2.1, f1⟩
theorem ent_no1 {s : ByteArray} (h : noPart s 1) : ∀ e, ¬ isEnt (byL s) e := by
  intro e he
  obtain ⟨h1, h2, _, h3, _⟩ := ent_slot he
  obtain ⟨c, u, h4, h5⟩ := h _ _ h2 h3 h1
  simp only [List.cons.injEq] at h4
  rw [← h4.1] at h5
  exact not_isD (by omega) h5
theorem ent_rest1 {s : ByteArray} {e : En} {n : Int} {i : Nat} (he : isEnt (byL s) e) (n0 : 0 ≤ n) (hd : (byL s).drop 1 = decL n ++ (byL s).drop i) (hno : ∀ c u, (byL s).drop i = c :: u → ¬ isD c) :
    n = e.slot ∧ (byL s).drop i = 41 :: 32 :: 110 :: (decL e.node ++ 32 :: tellL e.f) := by
  obtain ⟨h1, h2, _⟩ := ent_slot he
  rw [hd] at h1
  obtain ⟨x1, x2⟩ := run_uniq (decL_isD n0) (decL_isD h2) hno (head_no (not_isD (by omega))) h1
  exact ⟨decL_inj n0 h2 x1, x2⟩
theorem drop_three {L R : List Int} {i : Nat} (h : L.drop i = 41 :: 32 :: 110 :: R) : i + 3 ≤ L.length ∧ (L.take (i + 3)).drop i = [41, 32, 110] ∧ L.drop (i + 3) = R := by
  have hl := congrArg List.length h
  rw [List.length_drop] at hl
  simp at hl
  refine ⟨by omega, ?_, ?_⟩
  · rw [List.drop_take, h, show i + 3 - i = 3 by omega]; rfl
  · rw [← List.drop_drop, h]; rfl
theorem ent_no2 {s : ByteArray} {n : Int} {i : Nat} (n0 : 0 ≤ n) (hd : (byL s).drop 1 = decL n ++ (byL s).drop i) (hno : ∀ c u, (byL s).drop i = c :: u → ¬ isD c) (h : s.size < i + 3 ∨ s.extract i (i + 3) ≠ ByteArray.mk #[41, 32, 110]) : ∀ e, ¬ isEnt (byL s) e := by
  intro e he
  obtain ⟨_, h1⟩ := ent_rest1 he n0 hd hno
  obtain ⟨a, b, _⟩ := drop_three h1
  rw [byL_len] at a
  rcases h with h | h
  · omega
  · apply h
    apply byL_inj
    rw [byL_extract, b]; rfl
theorem three_back {s : ByteArray} {i : Nat} (h3 : i + 3 ≤ s.size) (h : s.extract i (i + 3) = ByteArray.mk #[41, 32, 110]) : (byL s).drop i = 41 :: 32 :: 110 :: (byL s).drop (i + 3) := by
  have := congrArg byL h
  rw [byL_extract, List.drop_take, show i + 3 - i = 3 by omega] at this
  rw [← List.take_append_drop 3 ((byL s).drop i), this, List.drop_drop]
  rfl
theorem ent_no3 {s : ByteArray} {n : Int} {i : Nat} (n0 : 0 ≤ n) (hd : (byL s).drop 1 = decL n ++ (byL s).drop i) (hno : ∀ c u, (byL s).drop i = c :: u → ¬ isD c) (h : noPart s (i + 3)) : ∀ e, ¬ isEnt (byL s) e := by
  intro e he
  obtain ⟨_, h1⟩ := ent_rest1 he n0 hd hno
  obtain ⟨_, h2, h3, h4, h5, _⟩ := ent_slot he
  obtain ⟨_, _, c⟩ := drop_three h1
  obtain ⟨x, u, h6, h7⟩ := h _ _ h3 h5 c
  simp only [List.cons.injEq] at h6
  rw [← h6.1] at h7
  exact not_isD (by omega) h7
theorem ent_rest2 {s : ByteArray} {e : En} {n m : Int} {i k : Nat} (he : isEnt (byL s) e) (n0 : 0 ≤ n) (hd : (byL s).drop 1 = decL n ++ (byL s).drop i) (hno : ∀ c u, (byL s).drop i = c :: u → ¬ isD c)
    (m0 : 0 ≤ m) (hd2 : (byL s).drop (i + 3) = decL m ++ (byL s).drop k) (hno2 : ∀ c u, (byL s).drop k = c :: u → ¬ isD c) : m = e.node ∧ (byL s).drop k = 32 :: tellL e.f := by
  obtain ⟨_, h1⟩ := ent_rest1 he n0 hd hno
  obtain ⟨_, h2, h3, h4, h5, _⟩ := ent_slot he
  obtain ⟨_, _, c⟩ := drop_three h1
  rw [hd2] at c
  obtain ⟨x1, x2⟩ := run_uniq (decL_isD m0) (decL_isD h3) hno2 (head_no (not_isD (by omega))) c
  exact ⟨decL_inj m0 h3 x1, x2⟩
theorem ent_no4 {s : ByteArray} {n m : Int} {i k : Nat} (n0 : 0 ≤ n) (hd : (byL s).drop 1 = decL n ++ (byL s).drop i) (hno : ∀ c u, (byL s).drop i = c :: u → ¬ isD c)
    (m0 : 0 ≤ m) (hd2 : (byL s).drop (i + 3) = decL m ++ (byL s).drop k) (hno2 : ∀ c u, (byL s).drop k = c :: u → ¬ isD c) (h : ¬ k < s.size ∨ bt s k ≠ 32) : ∀ e, ¬ isEnt (byL s) e := by
  intro e he
  obtain ⟨_, h1⟩ := ent_rest2 he n0 hd hno m0 hd2 hno2
  rcases h with h | h
  · rw [List.drop_eq_nil_of_le (by rw [byL_len]; omega)] at h1; cases h1
  · by_cases hk : k < s.size
    · rw [byL_drop hk] at h1
      simp only [List.cons.injEq] at h1
      exact h h1.1
    · rw [List.drop_eq_nil_of_le (by rw [byL_len]; omega)] at h1; cases h1
theorem ent_no5 {s T : ByteArray} {n m : Int} {i k : Nat} (n0 : 0 ≤ n) (hd : (byL s).drop 1 = decL n ++ (byL s).drop i) (hno : ∀ c u, (byL s).drop i = c :: u → ¬ isD c)
    (m0 : 0 ≤ m) (hd2 : (byL s).drop (i + 3) = decL m ++ (byL s).drop k) (hno2 : ∀ c u, (byL s).drop k = c :: u → ¬ isD c) (hk : k < s.size) (hT : s.extract (k + 1) s.size = T)
    (h : readO (byL T) = none ∨ ∃ f, readO (byL T) = some f ∧ tellS f ≠ T) : ∀ e, ¬ isEnt (byL s) e := by
  intro e he
  obtain ⟨_, h1⟩ := ent_rest2 he n0 hd hno m0 hd2 hno2
  obtain ⟨_, _, _, _, _, hf⟩ := ent_slot he
  have hTL : byL T = tellL e.f := by
    rw [← hT, byL_extract, List.take_of_length_le (by rw [byL_len]; exact Nat.le_refl _)]
    rw [byL_drop hk] at h1
    simp only [List.cons.injEq] at h1
    exact h1.2
  have hr : readO (byL T) = some e.f := by rw [hTL]; exact tell_read hf
  rcases h with h | ⟨f, h2, h3⟩
  · rw [h] at hr; cases hr
  · rw [h2] at hr
    obtain rfl := Option.some.inj hr
    apply h3
    apply byL_inj
    rw [byL_tell hf, hTL]
theorem ent_yes {s T : ByteArray} {n m : Int} {i k : Nat} {f : Fr} (hs0 : 0 < s.size) (h40 : bt s 0 = 40) (n0 : 0 ≤ n) (n1 : n ≤ 9223372036854775807) (hd : (byL s).drop 1 = decL n ++ (byL s).drop i) (h3 : i + 3 ≤ s.size) (hV : s.extract i (i + 3) = ByteArray.mk #[41, 32, 110])
    (m0 : 0 ≤ m) (m1 : m ≤ 9223372036854775807) (hd2 : (byL s).drop (i + 3) = decL m ++ (byL s).drop k) (hk : k < s.size) (h32 : bt s k = 32) (hT : s.extract (k + 1) s.size = T) (hf : f.ok = true) (ht : tellS f = T) : isEnt (byL s) ⟨f, m, n⟩ := by
  refine isEnt_iff.2 ⟨⟨by unfold En.ok; simp [hf, m0, n0], m1, n1⟩, ?_⟩
  simp only
  have e0 := byL_drop hs0
  rw [List.drop_zero] at e0
  rw [e0, h40, hd, three_back h3 hV, hd2, byL_drop hk, h32]
  have hTL : byL T = (byL s).drop (k + 1) := by rw [← hT, byL_extract, List.take_of_length_le (by rw [byL_len]; exact Nat.le_refl _)]
  rw [← hTL, ← ht, byL_tell hf]

end Go.Proofs.YtpjlomgiljpadaaDoor

namespace Go.Proofs.YtpjlomgiljpadaaDoor
open Go.RowKit
set_option linter.unusedVariables false

theorem lit_n : (ByteArray.mk #[41, 32, 110]).toList = [41, 32, 110] := by rw [ByteArray.toList_eq]

set_option maxHeartbeats 8000000 in
set_option maxRecDepth 100000 in
theorem entry_any {s : ByteArray} (hs : s.size ≤ 1000000) (w : World) :
    Calls Tryd.prog 40 #[.string s] w (entPost (byL s) w) := by
  by_cases h0 : s.size = 0
  · have HN := Lib.hid (ent_no0 (s := s) (.inl h0))
    have := empty_of h0
    subst this
    go_enter Tryd.func40, Tryd.ntmps40
    go_wp2_with fail
    refine bodyPost_ret (v := .tuple #[.agg #[.int .i64 0, .int .i64 0, .int .i64 0, .string (ByteArray.mk #[]), .int .i64 0, .int .i64 0], .bool false]) (by simp [results, Tryd.results40, go_sem]) rfl (entPost_n HN.out ?_)
    exact (Below.refl _ _).alloc (Nat.le_refl _) _
  have hp : 0 < s.size := by omega
  obtain ⟨x1, x2, x3⟩ := empty_f hp
  have hi0 : ∀ w, (Instr.index 9 (.string s) (.int .i64 0)).run Tryd.prog w = .ok (.int .u8 (bt s 0)) w := index_bt (k := 0) Tryd.underlying9 hp
  have hb0 := bt_lt s 0
  by_cases h40 : bt s 0 = 40
  rotate_left
  · have HN := Lib.hid (ent_no0 (s := s) (.inr h40))
    have e1 : (bt s 0 != 40) = true := by simpa using h40
    clear h40
    go_enter Tryd.func40, Tryd.ntmps40
    go_wp2_with fail
    refine bodyPost_ret (v := .tuple #[.agg #[.int .i64 0, .int .i64 0, .int .i64 0, .string (ByteArray.mk #[]), .int .i64 0, .int .i64 0], .bool false]) (by simp [results, Tryd.results40, go_sem]) rfl (entPost_n HN.out ?_)
    exact (Below.refl _ _).alloc (Nat.le_refl _) _
  have e1 : (bt s 0 != 40) = false := by simpa using h40
  have H40 := Lib.hid h40
  clear h40 h0
  have HS := Lib.hid hs
  go_enter Tryd.func40, Tryd.ntmps40
  go_wp2_with fail
  refine (part_any (s := s) (at_ := 1) (by omega) HS.out _).mono ?_
  rintro e w1 (⟨n, i, rfl, rfl, n0, n1, hin, hd, hno⟩ | ⟨i, rfl, rfl, hno⟩)
  rotate_left
  · have HN := Lib.hid (ent_no1 hno)
    clear hno
    go_wp2_with fail
    refine bodyPost_ret (v := .tuple #[.agg #[.int .i64 0, .int .i64 0, .int .i64 0, .string (ByteArray.mk #[]), .int .i64 0, .int .i64 0], .bool false]) (by simp [results, Tryd.results40, go_sem]) rfl (entPost_n HN.out ?_)
    exact (Below.refl _ _).alloc (Nat.le_refl _) _
  have dn : decide (n < 0) = false := decide_eq_false (by omega)
  have HD := Lib.hid hd
  have HNO := Lib.hid hno
  have HN1 := Lib.hid n1
  have hin' : (i : Int) ≤ (s.size : Int) := by omega
  clear hd hno n1
  by_cases h3 : s.size < i + 3
  · have HN := Lib.hid (ent_no2 n0 HD.out HNO.out (.inl h3))
    have d3 : decide ((s.size : Int) - (i : Int) < 3) = true := decide_eq_true (by omega)
    clear h3
    go_wp2_with fail
    refine bodyPost_ret (v := .tuple #[.agg #[.int .i64 0, .int .i64 0, .int .i64 0, .string (ByteArray.mk #[]), .int .i64 0, .int .i64 0], .bool false]) (by simp [results, Tryd.results40, go_sem]) rfl (entPost_n HN.out ?_)
    exact (Below.refl _ _).alloc (Nat.le_refl _) _
  have d3 : decide ((s.size : Int) - (i : Int) < 3) = false := decide_eq_false (by omega)
  have hi3 : (i : Int) + 3 ≤ (s.size : Int) := by omega
  have hi3n : i + 3 ≤ s.size := by omega
  obtain ⟨V, hV⟩ : ∃ V, s.extract i (i + 3) = V := ⟨_, rfl⟩
  have HV := Lib.hid hV
  by_cases hVe : V = ByteArray.mk #[41, 32, 110]
  rotate_left
  · have HN := Lib.hid (ent_no2 n0 HD.out HNO.out (.inr (by rw [HV.out]; exact hVe)))
    have s1 : (V.toList == (ByteArray.mk #[41, 32, 110]).toList) = false := by rw [seq_beq]; exact decide_eq_false hVe
    have s2 : (V.toList == [41, 32, 110]) = false := by rw [← lit_n]; exact s1
    clear hVe h3
    go_wp2_with fail
    refine bodyPost_ret (v := .tuple #[.agg #[.int .i64 0, .int .i64 0, .int .i64 0, .string (ByteArray.mk #[]), .int .i64 0, .int .i64 0], .bool false]) (by simp [results, Tryd.results40, go_sem]) rfl (entPost_n HN.out ?_)
    exact (Below.refl _ _).alloc (Nat.le_refl _) _
  have s1 : (V.toList == (ByteArray.mk #[41, 32, 110]).toList) = true := by rw [seq_beq]; exact decide_eq_true hVe
  have s2 : (V.toList == [41, 32, 110]) = true := by rw [← lit_n]; exact s1
  have HVE := Lib.hid hVe
  clear hVe h3
  go_wp2_with fail
  refine (part_any (s := s) (at_ := i + 3) hi3n HS.out _).mono ?_
  rintro e w1 (⟨m, k, rfl, rfl, m0, m1, hkn, hd, hno⟩ | ⟨k, rfl, rfl, hno⟩)
  rotate_left
  · have HN := Lib.hid (ent_no3 n0 HD.out HNO.out hno)
    clear hno
    go_wp2_with fail
    refine bodyPost_ret (v := .tuple #[.agg #[.int .i64 0, .int .i64 0, .int .i64 0, .string (ByteArray.mk #[]), .int .i64 0, .int .i64 0], .bool false]) (by simp [results, Tryd.results40, go_sem]) rfl (entPost_n HN.out ?_)
    exact (Below.refl _ _).alloc (Nat.le_refl _) _
  have dm : decide (m < 0) = false := decide_eq_false (by omega)
  have HD2 := Lib.hid hd
  have HNO2 := Lib.hid hno
  have HM1 := Lib.hid m1
  clear hd hno m1
  by_cases hk : k < s.size
  rotate_left
  · have HN := Lib.hid (ent_no4 n0 HD.out HNO.out m0 HD2.out HNO2.out (.inl hk))
    have dk : decide ((s.size : Int) ≤ (k : Int)) = true := decide_eq_true (by omega)
    have dk' : (s.size : Int) ≤ (k : Int) := by omega
    have dk2 : decide (s.size ≤ k) = true := decide_eq_true (by omega)
    clear hk
    go_wp2_with fail
    refine bodyPost_ret (v := .tuple #[.agg #[.int .i64 0, .int .i64 0, .int .i64 0, .string (ByteArray.mk #[]), .int .i64 0, .int .i64 0], .bool false]) (by simp [results, Tryd.results40, go_sem]) rfl (entPost_n HN.out ?_)
    exact (Below.refl _ _).alloc (Nat.le_refl _) _
  have dk : decide ((s.size : Int) ≤ (k : Int)) = false := decide_eq_false (by omega)
  have dk2 : decide (s.size ≤ k) = false := decide_eq_false (by omega)
  have hik : ∀ w, (Instr.index 9 (.string s) (.int .i64 k)).run Tryd.prog w = .ok (.int .u8 (bt s k)) w := index_bt Tryd.underlying9 hk
  have hkb := bt_lt s k
  by_cases h32 : bt s k = 32
  rotate_left
  · have HN := Lib.hid (ent_no4 n0 HD.out HNO.out m0 HD2.out HNO2.out (.inr h32))
    have e2 : (bt s k != 32) = true := by simpa using h32
    clear h32
    go_wp2_with fail
    refine bodyPost_ret (v := .tuple #[.agg #[.int .i64 0, .int .i64 0, .int .i64 0, .string (ByteArray.mk #[]), .int .i64 0, .int .i64 0], .bool false]) (by simp [results, Tryd.results40, go_sem]) rfl (entPost_n HN.out ?_)
    exact (Below.refl _ _).alloc (Nat.le_refl _) _
  have e2 : (bt s k != 32) = false := by simpa using h32
  have H32 := Lib.hid h32
  clear h32
  obtain ⟨T, hT⟩ : ∃ T, s.extract (k + 1) s.size = T := ⟨_, rfl⟩
  have HTT := Lib.hid hT
  have hTs : T.size ≤ 1000000 := by rw [← hT, sub_size _ _ _ (Nat.le_refl _)]; omega
  have HTS := Lib.hid hTs
  cases hr : readO (byL T)
  · have HN := Lib.hid (ent_no5 n0 HD.out HNO.out m0 HD2.out HNO2.out hk HTT.out (.inl hr))
    have HR := Lib.hid hr
    clear hr
    go_wp2_with fail
    refine (rread_f HTS.out HR.out _).mono ?_
    rintro e w2 ⟨rfl, hb⟩
    have HR6 := Lib.hid (R6.later R6.start hb)
    clear hb
    obtain ⟨⟨c0, c1, c2, c3, c4, c5⟩, v0, v1, v2, v3, v4, v5⟩ := cells6 HR6.out.r
    have hz := HR6.out.size
    go_wp2_with fail
    refine wp_region_later (by kernel_rfl) (by kernel_rfl) ?_
    repeat (go_big_quiet_step (fail))
    refine wpQuiet_nil ?_
    rintro w3 ⟨q, rfl⟩
    have HR7 := Lib.hid ((HR6.out.alloc _).later q.h)
    generalize q.w = qw at HR7 ⊢
    clear q c0 c1 c2 c3 c4 c5 v0 v1 v2 v3 v4 v5 hz
    obtain ⟨⟨c0, c1, c2, c3, c4, c5⟩, v0, v1, v2, v3, v4, v5⟩ := cells6 HR7.out.r
    have hz := HR7.out.size
    go_wp2_with fail
    refine bodyPost_ret (v := .tuple #[.agg #[.int .i64 0, .int .i64 0, .int .i64 0, .string (ByteArray.mk #[]), .int .i64 0, .int .i64 0], .bool false]) (by simp [results, Tryd.results40, go_sem, c0, c1, c2, c3, c4, c5]) rfl (entPost_n HN.out ?_)
    exact HR7.out.done _ _ _ _ _ _
  rename_i f
  have HR := Lib.hid hr
  have HFK := Lib.hid (readO_ok hr)
  obtain ⟨X, hX⟩ : ∃ X, tellS f = X := ⟨_, rfl⟩
  have HX := Lib.hid hX
  by_cases hXT : X = T
  rotate_left
  · have HN := Lib.hid (ent_no5 n0 HD.out HNO.out m0 HD2.out HNO2.out hk HTT.out (.inr ⟨f, hr, by rw [hX]; exact hXT⟩))
    have t1 : (X.toList == T.toList) = false := by rw [seq_beq]; exact decide_eq_false hXT
    have t2 : (X.toList != T.toList) = true := by unfold bne; rw [t1]; rfl
    clear hr hX hXT
    go_wp2_with fail
    refine (rread_t HTS.out HR.out _).mono ?_
    rintro e w2 ⟨rfl, hb⟩
    have HR6 := Lib.hid (R6.later R6.start hb)
    clear hb
    obtain ⟨⟨c0, c1, c2, c3, c4, c5⟩, v0, v1, v2, v3, v4, v5⟩ := cells6 HR6.out.r
    have hz := HR6.out.size
    go_wp2_with fail
    have hlc := later_cells (w2.alloc (.cells #[.int .i64 f.i, .int .i64 f.n, .int .i64 f.l, .string f.d] 23))
    refine wp_region_later (by kernel_rfl) (by kernel_rfl) ?_
    repeat (go_big_quiet_step (fail))
    go_big_quiet_step (exact Later.call (rtell_v HFK.out HX.out _))
    repeat (go_big_quiet_step (fail))
    refine wpQuiet_nil ?_
    rintro w3 ⟨q, rfl⟩
    have HR7 := Lib.hid ((HR6.out.alloc _).later q.h)
    generalize q.w = qw at HR7 ⊢
    clear q c0 c1 c2 c3 c4 c5 v0 v1 v2 v3 v4 v5 hz hlc
    obtain ⟨⟨c0, c1, c2, c3, c4, c5⟩, v0, v1, v2, v3, v4, v5⟩ := cells6 HR7.out.r
    have hz := HR7.out.size
    go_wp2_with fail
    refine bodyPost_ret (v := .tuple #[.agg #[.int .i64 0, .int .i64 0, .int .i64 0, .string (ByteArray.mk #[]), .int .i64 0, .int .i64 0], .bool false]) (by simp [results, Tryd.results40, go_sem, c0, c1, c2, c3, c4, c5]) rfl (entPost_n HN.out ?_)
    exact HR7.out.done _ _ _ _ _ _
  have t1 : (X.toList == T.toList) = true := by rw [seq_beq]; exact decide_eq_true hXT
  have t2 : (X.toList != T.toList) = false := by unfold bne; rw [t1]; rfl
  have HY := Lib.hid (ent_yes (f := f) hp H40.out n0 HN1.out HD.out hi3n (HV.out.trans HVE.out) m0 HM1.out HD2.out hk H32.out HTT.out HFK.out (hX.trans hXT))
  clear hr hX hXT
  go_wp2_with fail
  refine (rread_t HTS.out HR.out _).mono ?_
  rintro e w2 ⟨rfl, hb⟩
  have HR6 := Lib.hid (R6.later R6.start hb)
  clear hb
  obtain ⟨⟨c0, c1, c2, c3, c4, c5⟩, v0, v1, v2, v3, v4, v5⟩ := cells6 HR6.out.r
  have hz := HR6.out.size
  go_wp2_with fail
  have hlc := later_cells (w2.alloc (.cells #[.int .i64 f.i, .int .i64 f.n, .int .i64 f.l, .string f.d] 23))
  refine wp_region_later (by kernel_rfl) (by kernel_rfl) ?_
  repeat (go_big_quiet_step (fail))
  go_big_quiet_step (exact Later.call (rtell_v HFK.out HX.out _))
  repeat (go_big_quiet_step (fail))
  refine wpQuiet_nil ?_
  rintro w3 ⟨q, rfl⟩
  have HR7 := Lib.hid ((HR6.out.alloc _).later q.h)
  have hfr : q.w.heap[w2.heap.size]? = some (frCs f.i f.n f.l f.d) := by
    rw [q.h.block _ (by simp)]; exact heap_alloc_new _ _
  generalize q.w = qw at HR7 hfr ⊢
  obtain ⟨g0, g1, g2, g3, _, _, _, _⟩ := cells4 hfr
  clear q c0 c1 c2 c3 c4 c5 v0 v1 v2 v3 v4 v5 hz hlc hfr
  obtain ⟨⟨c0, c1, c2, c3, c4, c5⟩, v0, v1, v2, v3, v4, v5⟩ := cells6 HR7.out.r
  have hz := HR7.out.size
  go_wp2_with fail
  refine bodyPost_ret (v := .tuple #[.agg #[.int .i64 f.i, .int .i64 f.n, .int .i64 f.l, .string f.d, .int .i64 m, .int .i64 n], .bool true]) (by simp [results, Tryd.results40, go_sem, c0, c1, c2, c3, c4, c5]) rfl (entPost_y HY.out ?_)
  exact HR7.out.done _ _ _ _ _ _

end Go.Proofs.YtpjlomgiljpadaaDoor
