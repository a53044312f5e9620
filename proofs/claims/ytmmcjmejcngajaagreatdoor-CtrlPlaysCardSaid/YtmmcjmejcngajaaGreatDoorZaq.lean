/- Match: the contract of the document's Witness. Match: the chapter's example; walks of MatchWitness, MatchCovers, MatchOrder. (Printed by gen_e.py.) Match: contracts of carries, Match, Exact, Told, and of the document's Match, Told. Match: contracts of Any, and of the document's Any. Ctrl, the document's side: what a controller is in memory; what is stored into it. -/
import Derived.Test.YtmmcjmejcngajaaGreatDoorZap
import Derived.Test.YtmmcjmejcngajaaGreatDoorZao
namespace Go.Proofs.YtmmcjmejcngajaaGreatDoor
open Go.RowKit
set_option linter.unusedVariables false

/-- the bit of the document's base -/
def wbN (a b : Flt) (k : Nat) : Bool := if !b.v && b.m.testBit k then b.i.testBit k else a.v && a.m.testBit k && a.i.testBit k
/-- the base, behind so many rounds -/
def baseN (a b : Flt) : Nat → Nat
  | 0 => 0
  | s + 1 => 2 * baseN a b s + (if wbN a b (31 - s) then 1 else 0)
theorem baseN_bd (a b : Flt) : ∀ s, s ≤ 32 → baseN a b s < 2 ^ s
  | 0, _ => by simp [baseN]
  | s + 1, h => by
    have ih := baseN_bd a b s (by omega)
    unfold baseN
    rw [Nat.pow_succ]
    split <;> omega
theorem baseN_lt (a b : Flt) {s : Nat} (h : s ≤ 32) : baseN a b s < 4294967296 := by
  have h1 := baseN_bd a b s h
  have : 2 ^ s ≤ 2 ^ 32 := Nat.pow_le_pow_right (by decide) h
  omega
theorem baseN_bit (a b : Flt) : ∀ s k, s ≤ 32 → (baseN a b s).testBit k = (decide (k < s) && wbN a b (32 - s + k))
  | 0, k, _ => by simp [baseN]
  | s + 1, 0, h => by
    unfold baseN
    rw [Nat.testBit_zero, show 32 - (s + 1) + 0 = 31 - s by omega]
    cases wbN a b (31 - s) <;> simp <;> omega
  | s + 1, k + 1, h => by
    have ih := baseN_bit a b s k (by omega)
    unfold baseN
    rw [Nat.testBit_succ, show (2 * baseN a b s + (if wbN a b (31 - s) then 1 else 0)) / 2 = baseN a b s by split <;> omega, ih, show 32 - (s + 1) + (k + 1) = 32 - s + k by omega]
    simp
theorem base_bit (a b : Flt) (k : Nat) : (baseN a b 32).testBit k = (decide (k < 32) && wbN a b k) := by
  have := baseN_bit a b 32 k (by omega)
  simpa using this
/-- if any word is hit by b, and not by a, the base is what none may lack -/
theorem base_low {a b : Flt} {u : Nat} (ha : a.fits) (hb : b.fits) (h : bothN (turnF a) b u = true) : baseN a b 32 = lowN (turnF a) b := by
  have hab := h
  unfold bothN at hab
  rw [Bool.and_eq_true] at hab
  apply Nat.eq_of_testBit_eq
  intro k
  rw [base_bit, Bool.eq_iff_iff, low_bit, ask_bit, ask_bit]
  have hA : (turnF a).v = (!a.v) := rfl
  have hA1 : (turnF a).i = a.i := rfl
  have hA2 : (turnF a).m = a.m := rfl
  rw [hA, hA1, hA2]
  unfold wbN
  rw [Bool.and_eq_true, decide_eq_true_eq]
  constructor
  · rintro ⟨hk, hw⟩
    cases hv : b.v <;> rw [hv] at hw <;> cases hm : b.m.testBit k <;> rw [hm] at hw <;> simp at hw
    · exact .inl ⟨by simp [hw.1.1], hw.2, hw.1.2⟩
    · exact .inr ⟨rfl, hw, rfl⟩
    · exact .inl ⟨by simp [hw.1.1], hw.2, hw.1.2⟩
    · exact .inl ⟨by simp [hw.1.1], hw.2, hw.1.2⟩
  · rintro (⟨hv, hi, hm⟩ | ⟨hv, hi, hm⟩)
    · refine ⟨bit_lt ha.2 hm, ?_⟩
      have hv' : a.v = true := by simpa using hv
      have hu := (hit_pos (f := turnF a) hv u).1 hab.1 k hm
      rw [hA1, hi] at hu
      cases hbv : b.v
      · cases hbm : b.m.testBit k
        · simp [hv', hi, hm]
        · have := (hit_pos hbv u).1 hab.2 k hbm
          rw [hu] at this
          simp [← this]
      · simp [hv', hi, hm]
    · exact ⟨bit_lt hb.2 hm, by simp [hv, hi, hm]⟩

/-- the document's candidate -/
def candN (n i k : Nat) : Nat := flipN (flipN n i) k
theorem cand_lt {n i k : Nat} (h : n < 4294967296) : candN n i k < 4294967296 := flip_lt (flip_lt h)
theorem cand_0 (n : Nat) : candN n 32 32 = n := rfl
theorem cand_1 {n i : Nat} (hi : i < 32) (h : n.testBit i = false) : candN n i 32 = n + 2 ^ i := by
  unfold candN flipN
  rw [if_pos (show 31 < 32 by decide), if_neg (by omega), h]
  rfl
theorem cand_2 {n i j : Nat} (hi : i < 32) (hj : j < i) (h : n.testBit i = false) (h' : n.testBit j = false) : candN n i j = n + 2 ^ i + 2 ^ j := by
  have hb : (n + 2 ^ i).testBit j = false := by
    rw [← or_pow_add _ _ h, Nat.testBit_or, h', Nat.testBit_two_pow]
    simp; omega
  unfold candN flipN
  rw [if_neg (show ¬ 31 < j by omega), if_neg (show ¬ 31 < i by omega), h]
  simp only [Bool.false_eq_true, if_false]
  rw [hb]
  simp

/-- what was found among the first t candidates -/
def Best (P : Nat → Bool) (n t c : Nat) (q : Bool) : Prop :=
  (q = true ∧ c < 4294967296 ∧ P c = true ∧ ∀ i k, k ≤ 32 → i * 33 + k < t → P (candN n i k) = true → c ≤ candN n i k) ∨
  (q = false ∧ c = 0 ∧ ∀ i k, k ≤ 32 → i * 33 + k < t → P (candN n i k) = false)
theorem Best.start (P : Nat → Bool) (n : Nat) : Best P n 0 0 false := .inr ⟨rfl, rfl, fun _ _ _ h => absurd h (Nat.not_lt_zero _)⟩
theorem Best.miss {P : Nat → Bool} {n t c i k : Nat} {q : Bool} (h : Best P n t c q) (ht : t = i * 33 + k) (hk : k ≤ 32) (hp : P (candN n i k) = false) : Best P n (t + 1) c q := by
  subst ht
  have hcase : ∀ i' k', k' ≤ 32 → i' * 33 + k' < i * 33 + k + 1 → i' * 33 + k' < i * 33 + k ∨ (i' = i ∧ k' = k) := by omega
  rcases h with ⟨hq, hc, hpc, hl⟩ | ⟨hq, hc, hl⟩
  · refine .inl ⟨hq, hc, hpc, fun i' k' hk' hlt hp' => ?_⟩
    rcases hcase i' k' hk' hlt with h | ⟨rfl, rfl⟩
    · exact hl i' k' hk' h hp'
    · rw [hp] at hp'; cases hp'
  · refine .inr ⟨hq, hc, fun i' k' hk' hlt => ?_⟩
    rcases hcase i' k' hk' hlt with h | ⟨rfl, rfl⟩
    · exact hl i' k' hk' h
    · exact hp
theorem Best.first {P : Nat → Bool} {n t c i k : Nat} (h : Best P n t c false) (ht : t = i * 33 + k) (hk : k ≤ 32) (hn : n < 4294967296) (hp : P (candN n i k) = true) : Best P n (t + 1) (candN n i k) true := by
  subst ht
  have hcase : ∀ i' k', k' ≤ 32 → i' * 33 + k' < i * 33 + k + 1 → i' * 33 + k' < i * 33 + k ∨ (i' = i ∧ k' = k) := by omega
  rcases h with ⟨hq, _⟩ | ⟨hq, hc, hl⟩
  · cases hq
  · refine .inl ⟨rfl, cand_lt hn, hp, fun i' k' hk' hlt hp' => ?_⟩
    rcases hcase i' k' hk' hlt with h | ⟨rfl, rfl⟩
    · rw [hl i' k' hk' h] at hp'; cases hp'
    · exact Nat.le_refl _
theorem Best.less {P : Nat → Bool} {n t c i k : Nat} (h : Best P n t c true) (ht : t = i * 33 + k) (hk : k ≤ 32) (hn : n < 4294967296) (hp : P (candN n i k) = true) (hlt : candN n i k < c) : Best P n (t + 1) (candN n i k) true := by
  subst ht
  have hcase : ∀ i' k', k' ≤ 32 → i' * 33 + k' < i * 33 + k + 1 → i' * 33 + k' < i * 33 + k ∨ (i' = i ∧ k' = k) := by omega
  rcases h with ⟨hq, hc, hpc, hl⟩ | ⟨hq, _⟩
  · refine .inl ⟨rfl, cand_lt hn, hp, fun i' k' hk' hlt' hp' => ?_⟩
    rcases hcase i' k' hk' hlt' with h | ⟨rfl, rfl⟩
    · have := hl i' k' hk' h hp'; omega
    · exact Nat.le_refl _
  · cases hq
theorem Best.more {P : Nat → Bool} {n t c i k : Nat} (h : Best P n t c true) (ht : t = i * 33 + k) (hk : k ≤ 32) (hge : c ≤ candN n i k) : Best P n (t + 1) c true := by
  subst ht
  have hcase : ∀ i' k', k' ≤ 32 → i' * 33 + k' < i * 33 + k + 1 → i' * 33 + k' < i * 33 + k ∨ (i' = i ∧ k' = k) := by omega
  rcases h with ⟨hq, hc, hpc, hl⟩ | ⟨hq, _⟩
  · refine .inl ⟨rfl, hc, hpc, fun i' k' hk' hlt' hp' => ?_⟩
    rcases hcase i' k' hk' hlt' with h | ⟨rfl, rfl⟩
    · exact hl i' k' hk' h hp'
    · exact hge
  · cases hq
theorem Best.bd {P : Nat → Bool} {n t c : Nat} {q : Bool} (h : Best P n t c q) : c < 4294967296 := by
  rcases h with ⟨_, hc, _⟩ | ⟨_, hc, _⟩
  · exact hc
  · omega
/-- the least word is among the candidates -/
theorem Best.least {a b : Flt} {c : Nat} {q : Bool} (ha : a.fits) (hb : b.fits) (h : Best (bothN (turnF a) b) (baseN a b 32) 1089 c q) : Least (bothN (turnF a) b) c q := by
  have key : ∀ u, u < 4294967296 → bothN (turnF a) b u = true → (∀ x, x < u → bothN (turnF a) b x = false) → ∃ i k, k ≤ 32 ∧ i * 33 + k < 1089 ∧ u = candN (baseN a b 32) i k := by
    intro u hu hp hl
    rw [base_low ha hb hp]
    rcases least_form hu hp hl with e | ⟨i, hi, hil, e | ⟨j, hj, hjl, e⟩⟩
    · exact ⟨32, 32, by omega, by omega, by rw [cand_0]; exact e⟩
    · exact ⟨i, 32, by omega, by omega, by rw [cand_1 hi hil]; exact e⟩
    · exact ⟨i, j, by omega, by omega, by rw [cand_2 hi hj hil hjl]; exact e⟩
  rcases h with ⟨hq, hc, hpc, hl⟩ | ⟨hq, hc, hl⟩
  · obtain ⟨u, hu, hpu, hlu⟩ := least_below (c + 1) c (by omega) hpc
    obtain ⟨i, k, hk, hlt, e⟩ := key u (by omega) hpu hlu
    have := hl i k hk hlt (by rw [← e]; exact hpu)
    have : u = c := by omega
    subst this
    exact .inl ⟨hq, hc, hpu, hlu⟩
  · refine .inr ⟨hq, hc, fun x hx => ?_⟩
    cases hpx : bothN (turnF a) b x
    · rfl
    · exfalso
      obtain ⟨u, hu, hpu, hlu⟩ := least_below (x + 1) x (by omega) hpx
      obtain ⟨i, k, hk, hlt, e⟩ := key u (by omega) hpu hlu
      rw [e, hl i k hk hlt] at hpu
      cases hpu
theorem Boxes.two (w : World) (a b : Flt) (t t' : TypeId) : Boxes ((w.alloc (.cells #[.int .u32 a.i, .int .u32 a.m, .bool a.v] t)).alloc (.cells #[.int .u32 b.i, .int .u32 b.m, .bool b.v] t')) w.heap.size a b ∧
    Below w.heap.size w ((w.alloc (.cells #[.int .u32 a.i, .int .u32 a.m, .bool a.v] t)).alloc (.cells #[.int .u32 b.i, .int .u32 b.m, .bool b.v] t')) :=
  ⟨⟨(FlAt.made w a _ _ rfl).below (fbelow_a _ (Below.refl _ _)) (by simp), FlAt.made _ b _ _ (by simp), by simp⟩, fbelow_a _ (fbelow_a _ (Below.refl _ _))⟩
theorem both_turn (a b : Flt) (u : Nat) : bothN (turnF a) b u = (hitN b u && !hitN a u) := by
  unfold bothN; rw [hit_turn, Bool.and_comm]

theorem base_next (a b : Flt) (s k : Nat) (h : s + (k + 1) = 32) : ((baseN a b (s + 1) : Nat) : Int) = 2 * (baseN a b s : Int) + (if (if !b.v && b.m.testBit k then b.i.testBit k else a.v && a.m.testBit k && a.i.testBit k) = true then 1 else 0) := by
  have : baseN a b (s + 1) = 2 * baseN a b s + (if wbN a b (31 - s) then 1 else 0) := rfl
  rw [this, show 31 - s = k by omega]
  show _ = 2 * (baseN a b s : Int) + (if wbN a b k = true then 1 else 0)
  cases wbN a b k <;> simp

end Go.Proofs.YtmmcjmejcngajaaGreatDoor

namespace Go.Proofs.YtmmcjmejcngajaaGreatDoor
open Go.RowKit
set_option linter.unusedVariables false

theorem least_no {P : Nat → Bool} (h : ∀ u, u < 4294967296 → P u = false) : Least P 0 false := .inr ⟨rfl, rfl, h⟩
theorem Least.no {P : Nat → Bool} {c : Nat} (h : Least P c false) : c = 0 ∧ ∀ u, u < 4294967296 → P u = false := by
  rcases h with ⟨hq, _⟩ | ⟨_, hc, hl⟩
  · cases hq
  · exact ⟨hc, hl⟩
theorem Least.yes {P : Nat → Bool} {c : Nat} (h : Least P c true) : c < 4294967296 ∧ P c = true ∧ ∀ u, u < c → P u = false := by
  rcases h with ⟨_, hc, hp, hl⟩ | ⟨hq, _⟩
  · exact ⟨hc, hp, hl⟩
  · cases hq
theorem ex_some : Least (bothN (turnF ⟨257, 2047, false⟩) ⟨256, 1792, false⟩) 256 true := by
  refine .inl ⟨rfl, by decide, by decide, fun u hu => ?_⟩
  rw [both_turn]
  cases h : hitN ⟨256, 1792, false⟩ u
  · rfl
  · exfalso
    have := (hit_pos (f := ⟨256, 1792, false⟩) rfl u).1 h 8 (by decide)
    have h2 := Nat.ge_two_pow_of_testBit (x := u) (i := 8) (this.trans (by decide))
    omega
theorem ex_none : Least (bothN (turnF ⟨256, 1792, false⟩) ⟨257, 2047, false⟩) 0 false := by
  refine least_no fun u hu => ?_
  rw [both_turn]
  cases h : hitN ⟨257, 2047, false⟩ u
  · rfl
  · have hs := (hit_pos (f := ⟨257, 2047, false⟩) rfl u).1 h
    have : hitN ⟨256, 1792, false⟩ u = true := by
      refine (hit_pos (f := ⟨256, 1792, false⟩) rfl u).2 fun k hk => ?_
      have hk' : (1792).testBit k = true := hk
      have hlt : k < 11 := by
        apply Decidable.byContradiction
        intro hn
        have h1 := Nat.ge_two_pow_of_testBit hk'
        have h2 : 2 ^ 11 ≤ 2 ^ k := Nat.pow_le_pow_right (by decide) (by omega)
        omega
      have key : ∀ k : Fin 11, (1792).testBit k.val = true → (2047).testBit k.val = true ∧ (257).testBit k.val = (256).testBit k.val := by decide
      have := key ⟨k, hlt⟩ hk'
      exact (hs k this.1).trans this.2
    rw [this]
    rfl

theorem cover_self (a : Flt) : Least (bothN (turnF a) a) 0 false := least_no fun u _ => by rw [both_turn]; cases hitN a u <;> rfl
theorem cover_all (a : Flt) : Least (bothN (turnF ⟨0, 0, false⟩) a) 0 false := least_no fun u _ => by
  rw [both_turn]
  have : hitN ⟨0, 0, false⟩ u = true := by unfold hitN; simp
  rw [this]; cases hitN a u <;> rfl
theorem cover_none (a : Flt) : Least (bothN (turnF a) ⟨0, 0, true⟩) 0 false := least_no fun u _ => by
  rw [both_turn]
  have : hitN ⟨0, 0, true⟩ u = false := by unfold hitN; simp
  rw [this]; rfl
theorem cover_on {a b c : Flt} {x y : Nat} (h : Least (bothN (turnF a) b) x false) (h' : Least (bothN (turnF b) c) y false) : Least (bothN (turnF a) c) 0 false := least_no fun u hu => by
  have h1 := h.no.2 u hu
  have h2 := h'.no.2 u hu
  rw [both_turn] at h1 h2 ⊢
  revert h1 h2
  cases hitN a u <;> cases hitN b u <;> cases hitN c u <;> simp

end Go.Proofs.YtmmcjmejcngajaaGreatDoor

namespace Go.Proofs.YtmmcjmejcngajaaGreatDoor
open Go.RowKit
set_option linter.unusedVariables false

theorem mlaterTabs {W : World} (n : Later W) (h : Tabs W) : Tabs n.w := h.below n.h
/-- may the frame be, and does it tell of no error? -/
def carB (i n l : Int) (sz : Nat) : Bool := okF i n l sz && !fX n
theorem word_nat (i n l : Int) (sz : Nat) : ∃ v : Nat, wordV i n l sz = (v : Int) ∧ v < 4294967296 := by
  unfold wordV
  cases ho : okF i n l sz
  · exact ⟨0, rfl, by decide⟩
  · have g := good ho
    have h0 := g.i0
    have h1 := g.top
    have hw : 0 ≤ wordN i n ∧ wordN i n < 4294967296 := by
      unfold wordN b01
      cases fE n <;> cases fR n <;> cases fX n <;> simp <;> omega
    obtain ⟨v, hv⟩ := Int.eq_ofNat_of_zero_le hw.1
    exact ⟨v, by simpa using hv, by omega⟩

set_option maxHeartbeats 1000000 in
theorem carries_v {i n l : Int} {d : ByteArray} {q : Bool} (h : carB i n l d.size = q) (w : World) (hT : Tabs w) (hn1 : -9223372036854775808 ≤ n) (hn2 : n ≤ 9223372036854775807) :
    Calls Tryz.prog 62 #[.agg #[.int .i64 i, .int .i64 n, .int .i64 l, .string d]] w fun e w' => e = .returned (.bool q) ∧ Below w.heap.size w w' := by
  have HT := Lib.hid hT
  cases ho : okF i n l d.size
  · have H := Lib.hid ho
    have HQ : Hid (false = q) := Lib.hid (by rw [← h]; unfold carB; rw [ho]; rfl)
    clear h ho hT
    go_enter Tryz.func62, Tryz.ntmps62
    go_wp2_with fail
    refine (right_f H.out _ (HT.out.alloc _) hn1 hn2).mono ?_
    rintro e w1 ⟨rfl, hb⟩
    go_wp2
    go_ret
    exact ⟨fret_bool HQ.out, fbelow_a _ hb⟩
  · have H := Lib.hid ho
    cases hx : fX n
    · have HQ : Hid (true = q) := Lib.hid (by rw [← h]; unfold carB; rw [ho, hx]; rfl)
      have a4 := and4_f hx
      clear h ho hT hx
      go_enter Tryz.func62, Tryz.ntmps62
      go_wp2_with fail
      refine (right_t H.out _ (HT.out.alloc _)).mono ?_
      rintro e w1 ⟨rfl, hb⟩
      obtain ⟨hc1, hf1⟩ := fbcell hb
      have z1 : w.heap.size < w1.heap.size := by have := hb.size; simp only [World.size_alloc] at this; omega
      go_wp2
      go_ret
      exact ⟨fret_bool HQ.out, fbelow_a _ hb⟩
    · have HQ : Hid (false = q) := Lib.hid (by rw [← h]; unfold carB; rw [ho, hx]; rfl)
      have a4 := and4_t hx
      clear h ho hT hx
      go_enter Tryz.func62, Tryz.ntmps62
      go_wp2_with fail
      refine (right_t H.out _ (HT.out.alloc _)).mono ?_
      rintro e w1 ⟨rfl, hb⟩
      obtain ⟨hc1, hf1⟩ := fbcell hb
      have z1 : w.heap.size < w1.heap.size := by have := hb.size; simp only [World.size_alloc] at this; omega
      go_wp2
      go_ret
      exact ⟨fret_bool HQ.out, fbelow_a _ hb⟩

set_option maxHeartbeats 1000000 in
theorem rmatch_v {f : Flt} {i n l : Int} {d : ByteArray} {v : Nat} {q : Bool} (c : Bool) (hc : carB i n l d.size = c) (hv : wordV i n l d.size = (v : Int)) (hvl : v < 4294967296) (h : (c && hitN f v) = q) (hf : f.fits)
    (w : World) :
    Calls Tryz.prog 73 #[.agg #[.int .u32 f.i, .int .u32 f.m, .bool f.v], .agg #[.int .i64 i, .int .i64 n, .int .i64 l, .string d]] w fun e w' => e = .returned (.bool q) ∧ Below w.heap.size w w' := by
  have HV := Lib.hid hv
  have HVL := Lib.hid hvl
  have HF := Lib.hid hf
  have H := Lib.hid h
  have hl := later_cells
  clear hv hvl hf h
  cases ho : okF i n l d.size
  · have HO := Lib.hid ho
    have HQ : Hid (false = q) := Lib.hid (by rw [← H.out, ← hc]; unfold carB; rw [ho]; rfl)
    clear hc ho
    go_enter Tryz.func73, Tryz.ntmps73
    go_wp2_with fail
    refine wp_region_later (by kernel_rfl) (by kernel_rfl) ?_
    repeat (go_big_quiet_step (fail))
    go_big_quiet_step (exact Later.call (rright_v HO.out _))
    repeat (go_big_quiet_step (fail))
    refine wpQuiet_nil ?_
    rintro w1 ⟨m, rfl⟩
    go_wp2
    go_ret
    exact ⟨fret_bool HQ.out, fbelow_a _ (fbelow_a _ m.h)⟩
  · have HO := Lib.hid ho
    have g := good ho
    have HG := Lib.hid (And.intro g.n0 g.n1)
    cases hx : fX n
    · have HX := Lib.hid hx
      have HQ : Hid (hitN f v = q) := Lib.hid (by rw [← H.out, ← hc]; unfold carB; rw [ho, hx]; rfl)
      clear hc ho hx g
      go_enter Tryz.func73, Tryz.ntmps73
      go_wp2_with fail
      refine wp_region_later (by kernel_rfl) (by kernel_rfl) ?_
      repeat (go_big_quiet_step (fail))
      go_big_quiet_step (exact Later.call (rright_v HO.out _))
      repeat (go_big_quiet_step (fail))
      go_big_quiet_step (exact Later.call (has4 HX.out HG.out.1 HG.out.2 _ _ _ _))
      repeat (go_big_quiet_step (fail))
      go_big_quiet_step (exact Later.call (rword_v HV.out _))
      repeat (go_big_quiet_step (fail))
      go_big_quiet_step (exact Later.call (rhit_v HQ.out HF.out HVL.out _))
      repeat (go_big_quiet_step (fail))
      refine wpQuiet_nil ?_
      rintro w1 ⟨m, rfl⟩
      go_wp2
      go_ret
      exact ⟨rfl, fbelow_a _ (fbelow_a _ m.h)⟩
    · have HX := Lib.hid hx
      have HQ : Hid (false = q) := Lib.hid (by rw [← H.out, ← hc]; unfold carB; rw [ho, hx]; rfl)
      clear hc ho hx g
      go_enter Tryz.func73, Tryz.ntmps73
      go_wp2_with fail
      refine wp_region_later (by kernel_rfl) (by kernel_rfl) ?_
      repeat (go_big_quiet_step (fail))
      go_big_quiet_step (exact Later.call (rright_v HO.out _))
      repeat (go_big_quiet_step (fail))
      go_big_quiet_step (exact Later.call (has4 HX.out HG.out.1 HG.out.2 _ _ _ _))
      repeat (go_big_quiet_step (fail))
      refine wpQuiet_nil ?_
      rintro w1 ⟨m, rfl⟩
      go_wp2
      go_ret
      exact ⟨fret_bool HQ.out, fbelow_a _ (fbelow_a _ m.h)⟩

/-! ### Told -/
def toldB (e : Nat) (i n l : Int) (sz : Nat) : Bool := okF i n l sz && fX n && !((e &&& i.toNat) == 0)

/-- have they one of the first k bits in common? -/
theorem told_bits {e k : Nat} (hk : k < 536870912) : (e &&& k = 0) ↔ ∀ j, j < 29 → (e.testBit j && k.testBit j) = false := by
  constructor
  · intro h j _
    rw [← Nat.testBit_and, h, Nat.zero_testBit]
  · intro h
    apply Nat.eq_of_testBit_eq
    intro j
    rw [Nat.testBit_and, Nat.zero_testBit]
    by_cases hj : j < 29
    · exact h j hj
    · have : k.testBit j = false := by
        apply Nat.testBit_lt_two_pow
        have : 2 ^ 29 ≤ 2 ^ j := Nat.pow_le_pow_right (by decide) (by omega)
        omega
      rw [this, Bool.and_false]

/-! ### Exact -/
/-- Exact's filter -/
def exF (i n l : Int) (sz v : Nat) : Flt := if okF i n l sz then ⟨v, 4294967295, false⟩ else ⟨0, 0, false⟩
theorem exF_fits {i n l : Int} {sz v : Nat} (hv : v < 4294967296) : (exF i n l sz v).fits := by
  unfold exF
  split
  · exact ⟨hv, by show (4294967295 : Nat) < 4294967296; decide⟩
  · exact ⟨by decide, by decide⟩

end Go.Proofs.YtmmcjmejcngajaaGreatDoor

namespace Go.Proofs.YtmmcjmejcngajaaGreatDoor
open Go.RowKit
set_option linter.unusedVariables false

/-- does one let it through; with join, does each? -/
def anyB (c : Bool) (L : List Flt) (join : Bool) (v : Nat) : Bool := c && decide (0 < cntN L v) && (decide (cntN L v = L.length) || !join)

set_option maxHeartbeats 1000000 in
theorem any_v {L : List Flt} {s : Value} {join : Bool} {i n l : Int} {d : ByteArray} {v : Nat} {q : Bool} (c : Bool) (hc : carB i n l d.size = c) (hv : wordV i n l d.size = (v : Int)) (hvl : v < 4294967296) (h : anyB c L join v = q) (hfit : ∀ f ∈ L, f.fits)
    (w : World) (hs : SlL w w.heap.size s L) (hT : Tabs w) (hn1 : -9223372036854775808 ≤ n) (hn2 : n ≤ 9223372036854775807) :
    Calls Tryz.prog 48 #[s, .bool join, .agg #[.int .i64 i, .int .i64 n, .int .i64 l, .string d]] w fun e w' => e = .returned (.bool q) ∧ Below w.heap.size w w' := by
  have HT := Lib.hid hT
  have HC := Lib.hid hc
  have HV := Lib.hid hv
  have HVL := Lib.hid hvl
  have HF := Lib.hid hfit
  have HS := Lib.hid hs
  have HN := Lib.hid (And.intro hn1 hn2)
  have H := Lib.hid h
  obtain ⟨A, cap, rfl, hm, _⟩ := hs
  unfold maxLen at hm
  clear hT hc hv hvl hfit hn1 hn2 h
  cases c
  · go_enter Tryz.func48, Tryz.ntmps48
    go_wp2_with fail
    refine (carries_v HC.out _ (HT.out.alloc _) HN.out.1 HN.out.2).mono ?_
    rintro e w1 ⟨rfl, hb⟩
    go_wp2
    go_ret
    exact ⟨fret_bool H.out, fbelow_a _ hb⟩
  · have hle := cntN_le L v
    have HQ : Hid ((decide (0 < cntN L v) && (decide (cntN L v = L.length) || !join)) = q) := Lib.hid (by rw [← H.out]; simp [anyB])
    clear H
    generalize hcn : cntN L v = x at hle HQ
    have HX := Lib.hid hcn
    clear hcn
    go_enter Tryz.func48, Tryz.ntmps48
    go_wp2_with fail
    refine (carries_v HC.out _ (HT.out.alloc _) HN.out.1 HN.out.2).mono ?_
    rintro e w1 ⟨rfl, hb1⟩
    obtain ⟨hc1, hf1⟩ := fbcell hb1
    have z1 : w.heap.size < w1.heap.size := by have := hb1.size; simp only [World.size_alloc] at this; omega
    have HT1 := Lib.hid ((HT.out.alloc _).below hb1)
    have HB1 := Lib.hid (fbelow_a _ hb1)
    go_wp2_with fail
    refine (word_v HV.out _ HT1.out HN.out.1 HN.out.2).mono ?_
    rintro e w2 ⟨rfl, hb2⟩
    have HB2 := Lib.hid (fbelow_t HB1.out hb2)
    go_wp2_with fail
    refine (hits_any _ (HS.out.later HB2.out) HF.out HVL.out).mono ?_
    rintro e w3 ⟨rfl, hb3⟩
    have HB3 := Lib.hid (fbelow_t HB2.out hb3)
    clear hb1 hb2 hb3 hc1 hf1 z1
    rw [HX.out]
    by_cases h0 : 0 < x
    · by_cases h1 : x = L.length
      · subst h1
        go_wp2
        go_ret
        exact ⟨fret_bool (by rw [← HQ.out]; simp [h0]), HB3.out⟩
      · cases join <;>
        · go_wp2
          go_ret
          exact ⟨fret_bool (by rw [← HQ.out]; simp [h0, h1] <;> omega), HB3.out⟩
    · obtain rfl : x = 0 := by omega
      go_wp2
      go_ret
      exact ⟨fret_bool (by rw [← HQ.out]; simp), HB3.out⟩

/-- how many the document counts -/
def cntC (c : Bool) (L : List Flt) (v : Nat) : Nat := if c then cntN L v else 0
theorem cntC_snoc (c : Bool) (L : List Flt) (f : Flt) (v : Nat) : cntC c (L ++ [f]) v = cntC c L v + (if (c && hitN f v) = true then 1 else 0) := by
  unfold cntC
  cases c
  · simp
  · simp [cntN_snoc]
theorem cntC_le (c : Bool) (L : List Flt) (v : Nat) : cntC c L v ≤ L.length := by
  unfold cntC
  split
  · exact cntN_le L v
  · omega
theorem anyB_cnt (c : Bool) (L : List Flt) (v : Nat) : anyB c L true v = (decide (0 < cntC c L v) && decide (cntC c L v = L.length)) ∧ anyB c L false v = decide (0 < cntC c L v) := by
  unfold anyB cntC
  cases c <;> simp

set_option maxHeartbeats 1000000 in
theorem rany_v {L : List Flt} {s : Value} {join : Bool} {i n l : Int} {d : ByteArray} {v : Nat} {q : Bool} (c : Bool) (hc : carB i n l d.size = c) (hv : wordV i n l d.size = (v : Int)) (hvl : v < 4294967296) (h : anyB c L join v = q) (hfit : ∀ f ∈ L, f.fits)
    (w : World) (hs : SlL w w.heap.size s L) :
    Calls Tryz.prog 55 #[s, .bool join, .agg #[.int .i64 i, .int .i64 n, .int .i64 l, .string d]] w fun e w' => e = .returned (.bool q) ∧ Below w.heap.size w w' := by
  have HC := Lib.hid hc
  have HV := Lib.hid hv
  have HVL := Lib.hid hvl
  have HF := Lib.hid hfit
  have HS := Lib.hid hs
  have H := Lib.hid h
  have hl := later_cells
  obtain ⟨A, cap, rfl, hm, _⟩ := hs
  unfold maxLen at hm
  clear hc hv hvl hfit h
  go_enter Tryz.func55, Tryz.ntmps55
  go_wp2
  go_loopw [7, 8] (fun m k wr => ∃ j : Nat, j ≤ L.length ∧ k = .int .i64 j ∧ m = .int .i64 (cntC c (L.take j) v) ∧ Hid (Below w.heap.size w wr ∧ w.heap.size < wr.heap.size ∧ ∀ o u, (w.alloc (.cells #[.int .i64 i, .int .i64 n, .int .i64 l, .string d] 33)).cell? ⟨w.heap.size, o, none⟩ = some u → wr.cell? ⟨w.heap.size, o, none⟩ = some u)) (fun _ k _ => L.length - (intOf k).toNat)
  case atStart => exact ⟨0, by omega, rfl, by unfold cntC cntN; simp, Lib.hid ⟨fbelow_a _ (Below.refl _ _), by simp, fun _ _ h => h⟩⟩
  case round =>
    obtain ⟨k, hk, rfl, rfl, HW⟩ := hrel
    have hcl := cntC_le c (L.take k) v
    by_cases hlt : k < L.length
    · obtain ⟨x, cap1, hv, hxb, hcell⟩ := (HS.out.later HW.out.1).at_ hlt
      injection hv with hA hn hc
      subst hA hc
      have a0 : ∀ m : Later wr, m.w.cell? (x.add (k * 3)) = some (.int .u32 (L[k]'hlt).i) := fun m => (m.h.cell (by rw [addr_block]; exact hxb)).trans (hcell 0 _ rfl)
      have a1 : ∀ m : Later wr, m.w.cell? ⟨(x.add (k * 3)).block, (x.add (k * 3)).off + 1, none⟩ = some (.int .u32 (L[k]'hlt).m) := fun m => (m.h.cell (p := ⟨(x.add (k * 3)).block, (x.add (k * 3)).off + 1, none⟩) (by rw [addr_block]; exact hxb)).trans (hcell 1 _ rfl)
      have a2 : ∀ m : Later wr, m.w.cell? ⟨(x.add (k * 3)).block, (x.add (k * 3)).off + 2, none⟩ = some (.bool (L[k]'hlt).v) := fun m => (m.h.cell (p := ⟨(x.add (k * 3)).block, (x.add (k * 3)).off + 2, none⟩) (by rw [addr_block]; exact hxb)).trans (hcell 2 _ rfl)
      have z0 := HW.out.2.1
      have x0 : wr.cell? ⟨w.heap.size, 0, none⟩ = some (.int .i64 i) := HW.out.2.2 0 _ (by simp [go_sem])
      have x1 : wr.cell? ⟨w.heap.size, 1, none⟩ = some (.int .i64 n) := HW.out.2.2 1 _ (by simp [go_sem])
      have x2 : wr.cell? ⟨w.heap.size, 2, none⟩ = some (.int .i64 l) := HW.out.2.2 2 _ (by simp [go_sem])
      have x3 : wr.cell? ⟨w.heap.size, 3, none⟩ = some (.string d) := HW.out.2.2 3 _ (by simp [go_sem])
      have hk1 : (k : Int) < (L.length : Int) := by omega
      have hk0 : (0 : Int) ≤ (k : Int) := by omega
      have HFi : Hid ((L[k]'hlt).fits) := Lib.hid (HF.out _ (List.getElem_mem hlt))
      have HSn : Hid (cntC c (L.take (k + 1)) v = cntC c (L.take k) v + (if (c && hitN (L[k]'hlt) v) = true then 1 else 0)) := Lib.hid (by rw [List.take_succ_eq_append_getElem hlt, cntC_snoc])
      have HCL : cntC c (L.take k) v < 9223372036854775807 := by have := List.length_take_le k L; omega
      clear hcell hxb hcl
      generalize L[k]'hlt = f at a0 a1 a2 HFi HSn
      generalize hq : (c && hitN f v) = q1 at HSn
      have HQ := Lib.hid hq
      clear hq
      go_wp2_with fail
      refine wp_region_later (by kernel_rfl) (by kernel_rfl) ?_
      repeat (go_big_quiet_step (fail))
      go_big_quiet_step (exact Later.call (rmatch_v c HC.out HV.out HVL.out HQ.out HFi.out _))
      repeat (go_big_quiet_step (fail))
      refine wpQuiet_nil ?_
      rintro w1 ⟨m, rfl⟩
      have HW1 : Hid (Below w.heap.size w m.w ∧ w.heap.size < m.w.heap.size ∧ ∀ o u, (w.alloc (.cells #[.int .i64 i, .int .i64 n, .int .i64 l, .string d] 33)).cell? ⟨w.heap.size, o, none⟩ = some u → m.w.cell? ⟨w.heap.size, o, none⟩ = some u) :=
        Lib.hid ⟨fbelow_t HW.out.1 m.h, Nat.lt_of_lt_of_le HW.out.2.1 m.h.size, fun o u hu => (m.cell _ _ HW.out.2.1).trans (HW.out.2.2 o u hu)⟩
      cases q1
      · go_wp2
        go_roundw
        case rel => exact ⟨k + 1, by omega, by go_num, by rw [HSn.out]; go_num, HW1⟩
        case measure => simp [intOf]; omega
      · go_wp2
        go_roundw
        case rel => exact ⟨k + 1, by omega, by go_num, by rw [HSn.out]; go_num, HW1⟩
        case measure => simp [intOf]; omega
    · obtain rfl : k = L.length := by omega
      rw [List.take_length] at hcl ⊢
      have HA := Lib.hid (anyB_cnt c L v)
      generalize cntC c L v = y at HA hcl
      by_cases h0 : 0 < y
      · by_cases h1 : y = L.length
        · subst h1
          cases join
          · go_wp2
            go_ret
            exact ⟨fret_bool (by rw [← H.out, HA.out.2]; simp [h0]), HW.out.1⟩
          · go_wp2
            go_ret
            exact ⟨fret_bool (by rw [← H.out, HA.out.1]; simp [h0]), HW.out.1⟩
        · cases join
          · go_wp2
            go_ret
            exact ⟨fret_bool (by rw [← H.out, HA.out.2]; simp [h0]), HW.out.1⟩
          · go_wp2
            go_ret
            exact ⟨fret_bool (by rw [← H.out, HA.out.1]; simp [h0, h1] <;> omega), HW.out.1⟩
      · obtain rfl : y = 0 := by omega
        cases join
        · go_wp2
          go_ret
          exact ⟨fret_bool (by rw [← H.out, HA.out.2]; simp), HW.out.1⟩
        · go_wp2
          go_ret
          exact ⟨fret_bool (by rw [← H.out, HA.out.1]; simp), HW.out.1⟩

end Go.Proofs.YtmmcjmejcngajaaGreatDoor

namespace Go.Proofs.YtmmcjmejcngajaaGreatDoor
open Go.RowKit
set_option linter.unusedVariables false

theorem boxF_set {w : World} {b : Nat} {i n l i' n' l' : Int} {d d' : ByteArray} (h : BoxF w b i n l d) : BoxF ((((w.setCell ⟨b, 0, none⟩ (.int .i64 i')).setCell ⟨b, 1, none⟩ (.int .i64 n')).setCell ⟨b, 2, none⟩ (.int .i64 l')).setCell ⟨b, 3, none⟩ (.string d')) b i' n' l' d' := by
  unfold BoxF at h
  have h0 := heap_setCell_same w b 0 _ _ (.int .i64 i') h
  have h1 := heap_setCell_same _ b 1 _ _ (.int .i64 n') h0
  have h2 := heap_setCell_same _ b 2 _ _ (.int .i64 l') h1
  exact heap_setCell_same _ b 3 _ _ (.string d') h2
theorem boxF_below {B a : Nat} {w w1 : World} {x0 x1 x2 x3 : Value} (h : Below B w w1) (hB : B ≤ a) : Below B w ((((w1.setCell ⟨a, 0, none⟩ x0).setCell ⟨a, 1, none⟩ x1).setCell ⟨a, 2, none⟩ x2).setCell ⟨a, 3, none⟩ x3) :=
  (((h.setCell (p := ⟨a, 0, none⟩) hB _).setCell (p := ⟨a, 1, none⟩) hB _).setCell (p := ⟨a, 2, none⟩) hB _).setCell (p := ⟨a, 3, none⟩) hB _
/-- a controller: its mailboxes, the fifo's frames, its room, the filters' slice, the filters, how many were lost, the register -/
structure Ct where
  bx : Bx
  fifo : List Fr
  room : Int
  va : Value
  acc : List Flt
  lost : Int
  asks : Int
structure CtM (w : World) (b : Nat) (bv : Value) (Ob : Nat → Prop) (vf : Value) (s : Ct) : Prop where
  box : w.heap[b]? = some (.cells #[bv, vf, .int .i64 s.room, s.va, .int .i64 s.lost, .int .i64 s.asks] 43 (0, 0))
  bx : BxD w bv s.bx Ob
  fifo : RowQ frC 4 w vf s.fifo
  h1 : ¬ Ob b
  h2 : ¬ OwnO vf b
  h3 : Apart Ob (OwnO vf)
def ctO (b : Nat) (Ob : Nat → Prop) (vf : Value) : Nat → Prop := fun k => k = b ∨ Ob k ∨ OwnO vf k
def CtD (w : World) (v : Value) (s : Ct) (O : Nat → Prop) : Prop := ∃ b bv Ob vf, v = .pointer (some ⟨b, 0, none⟩) ∧ O = ctO b Ob vf ∧ CtM w b bv Ob vf s
section
variable {w w' : World} {b : Nat} {bv vf : Value} {Ob : Nat → Prop} {s : Ct}
theorem CtM.lt (h : CtM w b bv Ob vf s) : ∀ k, ctO b Ob vf k → k < w.heap.size := by
  rintro k (rfl | hk | hk)
  · exact heap_some_lt h.box
  · exact isObj_box.lt h.bx k hk
  · exact h.fifo.lt k hk
theorem CtM.stay (h : CtM w b bv Ob vf s) (hs : ∀ k, ctO b Ob vf k → w'.heap[k]? = w.heap[k]?) : CtM w' b bv Ob vf s := by
  have hz : ∀ k, ctO b Ob vf k → k < w'.heap.size := fun k hk => by
    have h1 := hs k hk
    have h2 := h.lt k hk
    rw [Array.getElem?_eq_getElem h2] at h1
    exact heap_some_lt h1
  exact ⟨(hs b (.inl rfl)).trans h.box, isObj_box.stay h.bx (fun k hk => hs k (.inr (.inl hk))), h.fifo.stayL (fun k hk => hs k (.inr (.inr hk))) (fun k hk => hz k (.inr (.inr hk))), h.h1, h.h2, h.h3⟩
theorem CtM.later (h : CtM w b bv Ob vf s) (hb : Below w.heap.size w w') : CtM w' b bv Ob vf s := h.stay (fun k hk => hb.block k (h.lt k hk))
theorem isObj_ct : IsObj CtD where
  stay := by
    rintro w w' v s O ⟨b, bv, Ob, vf, rfl, rfl, h⟩ hs
    exact ⟨b, bv, Ob, vf, rfl, rfl, h.stay hs⟩
  lt := by
    rintro w v s O ⟨b, bv, Ob, vf, rfl, rfl, h⟩
    exact h.lt
theorem CtM.cells (h : CtM w b bv Ob vf s) : w.cell? ⟨b, 0, none⟩ = some bv ∧ w.cell? ⟨b, 1, none⟩ = some vf ∧ w.cell? ⟨b, 2, none⟩ = some (.int .i64 s.room) ∧ w.cell? ⟨b, 3, none⟩ = some s.va ∧ w.cell? ⟨b, 4, none⟩ = some (.int .i64 s.lost) ∧ w.cell? ⟨b, 5, none⟩ = some (.int .i64 s.asks) := by
  have hb := h.box
  refine ⟨?_, ?_, ?_, ?_, ?_, ?_⟩ <;> (rw [Lib.cell_of_heap hb]; rfl)
theorem CtM.live (h : CtM w b bv Ob vf s) (j : Nat) : w.frozen? ⟨b, j, none⟩ = false := Lib.frozen_of_heap h.box j
theorem CtM.stp (h : CtM w b bv Ob vf s) (hb : Below w.heap.size w w') : Stp CtD (.pointer (some ⟨b, 0, none⟩)) (ctO b Ob vf) w s w' := ⟨_, ⟨b, bv, Ob, vf, rfl, rfl, h.later hb⟩, .of_below hb, Grows.refl _ _⟩
/-- a number of its own is stored -/
theorem CtM.setNum {s' : Ct} (h : CtM w b bv Ob vf s) (j : Nat) (u : Value)
    (hc : (#[bv, vf, .int .i64 s.room, s.va, .int .i64 s.lost, .int .i64 s.asks] : Array Value).setIfInBounds j u = #[bv, vf, .int .i64 s'.room, s'.va, .int .i64 s'.lost, .int .i64 s'.asks]) (hB : s'.bx = s.bx) (hF : s'.fifo = s.fifo) :
    CtM (w.setCell ⟨b, j, none⟩ u) b bv Ob vf s' := by
  have ho : ∀ k, k ≠ b → (w.setCell ⟨b, j, none⟩ u).heap[k]? = w.heap[k]? := fun k hk => Below.heap_setCell _ _ _ _ hk
  have hz : w.heap.size ≤ (w.setCell ⟨b, j, none⟩ u).heap.size := by simp [World.setCell]
  refine ⟨?_, ?_, ?_, h.h1, h.h2, h.h3⟩
  · rw [heap_setCell_same w b j _ _ _ h.box, ← hc]
  · rw [hB]; exact isObj_box.stay h.bx (fun k hk => ho k (fun e => h.h1 (e ▸ hk)))
  · rw [hF]; exact h.fifo.stay (fun g hg => ho g (fun e => h.h2 (e ▸ hg))) hz
theorem setNum_kept {j : Nat} {u : Value} : Kept (ctO b Ob vf) w (w.setCell ⟨b, j, none⟩ u) := ⟨rfl, rfl, rfl, by simp [World.setCell], fun k _ hk => Below.heap_setCell _ _ _ _ (fun e => hk (.inl e))⟩
theorem CtM.stpNum {s' : Ct} (h : CtM w b bv Ob vf s) (j : Nat) (u : Value)
    (hc : (#[bv, vf, .int .i64 s.room, s.va, .int .i64 s.lost, .int .i64 s.asks] : Array Value).setIfInBounds j u = #[bv, vf, .int .i64 s'.room, s'.va, .int .i64 s'.lost, .int .i64 s'.asks]) (hB : s'.bx = s.bx) (hF : s'.fifo = s.fifo) :
    Stp CtD (.pointer (some ⟨b, 0, none⟩)) (ctO b Ob vf) w s' (w.setCell ⟨b, j, none⟩ u) := ⟨_, ⟨b, bv, Ob, vf, rfl, rfl, h.setNum j u hc hB hF⟩, setNum_kept, Grows.refl _ _⟩
/-- behind a call of the mailboxes -/
theorem CtM.boxes {bx' : Bx} (h : CtM w b bv Ob vf s) (hs : Stp BxD bv Ob w bx' w') : ∃ Ob', CtM w' b bv Ob' vf { s with bx := bx' } ∧ Kept (ctO b Ob vf) w w' ∧ Grows (ctO b Ob vf) w (ctO b Ob' vf) := by
  obtain ⟨Ob', h1, hk, hg⟩ := hs
  have lb := heap_some_lt h.box
  have key : Kept (ctO b Ob vf) w w' := ⟨hk.os, hk.tape, hk.output, hk.size, fun k h2 h3 => hk.block k h2 (fun h4 => h3 (.inr (.inl h4)))⟩
  refine ⟨Ob', ⟨(hk.block b lb h.h1).trans h.box, h1, h.fifo.stay (fun g hg' => hk.block g (h.fifo.lt g hg') (fun h4 => h.h3 g h4 hg')) hk.size, fun h4 => ?_, h.h2, fun k h4 h5 => ?_⟩, key, ?_⟩
  · rcases hg b h4 with h5 | h5
    · exact h.h1 h5
    · omega
  · rcases hg k h4 with h6 | h6
    · exact h.h3 k h6 h5
    · have := h.fifo.lt k h5; omega
  · rintro k (rfl | h4 | h4)
    · exact .inl (.inl rfl)
    · rcases hg k h4 with h5 | h5
      · exact .inl (.inr (.inl h5))
      · exact .inr h5
    · exact .inl (.inr (.inr h4))
/-- the fifo is another row now: new, or cut out of the one that was -/
theorem CtM.setFifo {vf' : Value} {L' : List Fr} (h : CtM w b bv Ob vf s) (hb : Below w.heap.size w w') (hq : RowQ frC 4 w' vf' L') (hg : Grows (OwnO vf) w (OwnO vf')) :
    CtM (w'.setCell ⟨b, 1, none⟩ vf') b bv Ob vf' { s with fifo := L' } ∧ Kept (ctO b Ob vf) w (w'.setCell ⟨b, 1, none⟩ vf') ∧ Grows (ctO b Ob vf) w (ctO b Ob vf') := by
  have hm := h.later hb
  have lb := heap_some_lt h.box
  have ho : ∀ k, k ≠ b → (w'.setCell ⟨b, 1, none⟩ vf').heap[k]? = w'.heap[k]? := fun k hk => Below.heap_setCell _ _ _ _ hk
  have hz : w'.heap.size ≤ (w'.setCell ⟨b, 1, none⟩ vf').heap.size := by simp [World.setCell]
  have hn : ¬ OwnO vf' b := fun h4 => by
    rcases hg b h4 with h5 | h5
    · exact h.h2 h5
    · omega
  have hbl := isObj_box.lt h.bx
  refine ⟨⟨?_, isObj_box.stay hm.bx (fun k hk => ho k (fun e => h.h1 (e ▸ hk))), hq.stay (fun g hg' => ho g (fun e => hn (e ▸ hg'))) hz, h.h1, hn, fun k h4 h5 => ?_⟩, ?_, ?_⟩
  · rw [heap_setCell_same w' b 1 _ _ _ hm.box]; rfl
  · rcases hg k h5 with h6 | h6
    · exact h.h3 k h4 h6
    · have := hbl k h4; omega
  · exact (Kept.of_below (O := ctO b Ob vf) hb).trans ⟨rfl, rfl, rfl, hz, fun k _ hk => ho k (fun e => hk (.inl e))⟩ (Grows.refl _ _)
  · rintro k (rfl | h4 | h4)
    · exact .inl (.inl rfl)
    · exact .inl (.inr (.inl h4))
    · rcases hg k h4 with h5 | h5
      · exact .inl (.inr (.inr h5))
      · exact .inr h5
end
end Go.Proofs.YtmmcjmejcngajaaGreatDoor
