/- Dump: numbers' digits, an entry's line: plain; contracts of Itoa, Line. -/
import Derived.Test.YtpjlomgiljpadaaDoorDmpQ
import Derived.Lib.ItoaMem
import Derived.Lib.LaidTab
namespace Go.Proofs.YtpjlomgiljpadaaDoor
open Go.RowKit
set_option linter.unusedVariables false

/-! ### the table of tens -/
def p10Cells : Array Value := #[.int .u64 1, .int .u64 10, .int .u64 100, .int .u64 1000, .int .u64 10000, .int .u64 100000, .int .u64 1000000, .int .u64 10000000, .int .u64 100000000, .int .u64 1000000000, .int .u64 10000000000, .int .u64 100000000000, .int .u64 1000000000000, .int .u64 10000000000000, .int .u64 100000000000000, .int .u64 1000000000000000, .int .u64 10000000000000000, .int .u64 100000000000000000, .int .u64 1000000000000000000, .int .u64 10000000000000000000]
def Tab10 (w : World) : Prop := ∃ t fr, w.heap[2]? = some (.cells p10Cells t fr)
theorem Tab10.below {w w' : World} (h : Tab10 w) (hb : Below w.heap.size w w') : Tab10 w' := by obtain ⟨t, fr, h1⟩ := h; exact ⟨t, fr, by rw [hb.block _ (lt_of_heap h1)]; exact h1⟩
theorem Tab10.alloc {w : World} (h : Tab10 w) (o : Obj) : Tab10 (w.alloc o) := h.below ((Below.refl _ _).alloc (Nat.le_refl _) o)
theorem Tab10.is {w : World} (h : Tab10 w) : Lib.TabIs Tryd.prog w "internal/strconv.uint64pow10" .u64 Lib.pow10Tab := by
  obtain ⟨t, fr, h1⟩ := h
  unfold Lib.TabIs World.var?
  rw [show Tryd.prog.globalNamed "internal/strconv.uint64pow10" = some 2 by kernel_rfl]
  simp only [Option.bind_some, h1]
  congr 1
def TabD (w : World) : Prop := Tabs w ∧ Tab10 w
theorem TabD.below {w w' : World} (h : TabD w) (hb : Below w.heap.size w w') : TabD w' := ⟨h.1.below hb, h.2.below hb⟩
theorem TabD.alloc {w : World} (h : TabD w) (o : Obj) : TabD (w.alloc o) := ⟨h.1.alloc o, h.2.alloc o⟩

/-! ### a number's digits -/
def decL (n : Int) : List Int := (Lib.itoa n).map fun b => (b.toNat : Int)
def decS (n : Int) : ByteArray := ⟨(Lib.itoa n).toArray⟩
theorem byL_dec (n : Int) : byL (decS n) = decL n := by simp [byL, decS, decL]
theorem decS_nums (n : Int) : decS n = strOfNums (decL n) := by rw [← byL_dec, nums_byL]
theorem decL_by (n : Int) : isBy (decL n) := by rw [← byL_dec]; exact byL_by _
theorem nDigits_le : ∀ (k u : Nat), u < 10 ^ (k + 1) → Lib.nDigits u ≤ k + 1
  | 0, u, h => by rw [Lib.nDigits_small (by simpa using h)]; exact Nat.le_refl _
  | k + 1, u, h => by
    by_cases h10 : u < 10
    · rw [Lib.nDigits_small h10]; omega
    · rw [Lib.nDigits_big h10]
      have := nDigits_le k (u / 10) (by rw [Nat.pow_succ] at h; omega)
      omega
theorem decS_size {n : Int} (h0 : 0 ≤ n) (h1 : n ≤ 9223372036854775807) : 1 ≤ (decS n).size ∧ (decS n).size ≤ 19 := by
  obtain ⟨k, rfl⟩ := Int.eq_ofNat_of_zero_le h0
  have e : (decS (k : Int)).size = Lib.nDigits k := by
    unfold decS
    rw [Lib.itoa_nonneg, ← Lib.decDigits_length]
    show (Lib.decDigits k).toArray.size = _
    simp
  rw [e]
  have e19 : (10 : Nat) ^ 19 = 10000000000000000000 := by decide
  exact ⟨Lib.nDigits_pos k, nDigits_le 18 k (by omega)⟩
theorem decL_digit {n : Int} (h0 : 0 ≤ n) : ∀ c ∈ decL n, 48 ≤ c ∧ c ≤ 57 := by
  obtain ⟨k, rfl⟩ := Int.eq_ofNat_of_zero_le h0
  have : ∀ u : Nat, ∀ b ∈ Lib.decDigits u, 48 ≤ b.toNat ∧ b.toNat ≤ 57 := by
    intro u
    induction u using Nat.strongRecOn with
    | _ u ih =>
      intro b hb
      rw [Lib.decDigits] at hb
      split at hb
      · simp only [List.mem_singleton] at hb
        subst hb
        rename_i h
        simp; omega
      · rename_i h
        rcases List.mem_append.1 hb with hb | hb
        · exact ih (u / 10) (by omega) b hb
        · simp only [List.mem_singleton] at hb
          subst hb
          simp; omega
  intro c hc
  unfold decL at hc
  rw [Lib.itoa_nonneg] at hc
  obtain ⟨b, hb, rfl⟩ := List.mem_map.1 hc
  have := this k b hb
  omega
theorem itoa_b {n : Int} {D : ByteArray} (hD : decS n = D) (h0 : 0 ≤ n) (h1 : n ≤ 9223372036854775807) (w : World) (hT : Tab10 w) :
    Calls Tryd.prog 35 #[.int .i64 n] w fun e w' => e = .returned (.string D) ∧ Below w.heap.size w w' := by
  refine (Tryd.strconv_Itoa n (by omega) h1 w hT.is).mono ?_
  rintro e w' ⟨rfl, k, os, rfl⟩
  refine ⟨by rw [← hD]; rfl, rfl, rfl, rfl, ?_, fun i hi => ?_⟩
  · simp [Sort.grow, World.drewN]
  · simp [Sort.grow, World.drewN, Array.getElem?_append, hi]

/-! ### an entry's line -/
structure En where
  f : Fr
  node : Int
  slot : Int
def En.ok (e : En) : Bool := e.f.ok && decide (0 ≤ e.node) && decide (0 ≤ e.slot)
def En.fits (e : En) : Prop := e.node ≤ 9223372036854775807 ∧ e.slot ≤ 9223372036854775807
def lineL (e : En) : List Int := 40 :: (decL e.slot ++ 41 :: 32 :: 110 :: (decL e.node ++ 32 :: (tellL e.f ++ [10])))
def lineS (e : En) : ByteArray := ByteArray.mk #[40] ++ decS e.slot ++ ByteArray.mk #[41, 32, 110] ++ decS e.node ++ ByteArray.mk #[32] ++ tellS e.f ++ ByteArray.mk #[10]
theorem En.parts {e : En} (h : e.ok = true) : e.f.ok = true ∧ 0 ≤ e.node ∧ 0 ≤ e.slot := by
  unfold En.ok at h
  simp only [Bool.and_eq_true, decide_eq_true_eq] at h
  exact ⟨h.1.1, h.1.2, h.2⟩
theorem lineS_nums (e : En) : lineS e = strOfNums (lineL e) := by
  unfold lineS lineL
  rw [decS_nums, decS_nums]
  unfold tellS
  have : (40 :: (decL e.slot ++ 41 :: 32 :: 110 :: (decL e.node ++ 32 :: (tellL e.f ++ [10]))) : List Int) = [40] ++ decL e.slot ++ [41, 32, 110] ++ decL e.node ++ [32] ++ tellL e.f ++ [10] := by simp
  rw [this, nums_app, nums_app, nums_app, nums_app, nums_app, nums_app]
  rfl
theorem lineL_by {e : En} (h : e.ok = true) : isBy (lineL e) := by
  obtain ⟨h1, _, _⟩ := En.parts h
  unfold lineL
  exact isBy_cons (by omega) (isBy_app (decL_by _) (isBy_cons (by omega) (isBy_cons (by omega) (isBy_cons (by omega) (isBy_app (decL_by _) (isBy_cons (by omega) (isBy_app (tellL_by h1) (isBy_cons (by omega) isBy_nil))))))))
theorem byL_line {e : En} (h : e.ok = true) : byL (lineS e) = lineL e := by rw [lineS_nums, byL_nums (lineL_by h)]
theorem lineS_size {e : En} (h : e.ok = true) (hf : e.fits) : (lineS e).size ≤ 200 ∧ 0 < (lineS e).size := by
  obtain ⟨h1, h2, h3⟩ := En.parts h
  have a := decS_size h2 hf.1
  have b := decS_size h3 hf.2
  have c := tellL_len h1
  have d := tellS_size e.f
  unfold lineS
  simp only [ByteArray.size_append]
  have e1 : (ByteArray.mk #[40]).size = 1 := rfl
  have e2 : (ByteArray.mk #[41, 32, 110]).size = 3 := rfl
  have e3 : (ByteArray.mk #[32]).size = 1 := rfl
  have e4 : (ByteArray.mk #[10]).size = 1 := rfl
  omega

/-! ### Line -/
theorem laterTab10 {W : World} (n : Later W) (h : Tab10 W) : Tab10 n.w := h.below n.h
theorem dtell_sv {f : Fr} {X : ByteArray} (h : f.ok = true) (hX : tellS f = X) (w : World) (hT : Tabs w) :
    Calls Tryd.prog 8 #[.agg #[.int .i64 f.i, .int .i64 f.n, .int .i64 f.l, .string f.d]] w fun e w' => e = .returned (.tuple #[.string X, .int .i64 0]) ∧ Below w.heap.size w w' := by rw [← hX]; exact dtell_t h w hT
abbrev enV (i n l : Int) (d : ByteArray) (node slot : Int) : Value := .agg #[.int .i64 i, .int .i64 n, .int .i64 l, .string d, .int .i64 node, .int .i64 slot]
set_option maxHeartbeats 1000000 in
theorem dline_frame {i n l : Int} {d : ByteArray} {node slot : Int} (h : okF i n l d.size = false) (w : World) (hT : TabD w) (hn1 : -9223372036854775808 ≤ n) (hn2 : n ≤ 9223372036854775807) :
    Calls Tryd.prog 16 #[enV i n l d node slot] w fun e w' => e = .returned (.tuple #[.string (ByteArray.mk #[]), .int .i64 4]) ∧ Below w.heap.size w w' := by
  have HT := Lib.hid hT
  have H := Lib.hid h
  clear hT h
  go_enter Tryd.func16, Tryd.ntmps16
  go_wp2_with fail
  refine (dtell_f H.out _ (HT.out.alloc _).1 hn1 hn2).mono ?_
  rintro e w1 ⟨rfl, hb⟩
  have HB := Lib.hid hb
  clear hb
  go_wp2_with fail
  go_ret2
  exact ⟨rfl, fbelow_a _ HB.out⟩
set_option maxHeartbeats 1000000 in
theorem dline_arg {i n l : Int} {d : ByteArray} {node slot : Int} (h : Fr.ok ⟨i, n, l, d⟩ = true) (hs : node < 0 ∨ slot < 0) (w : World) (hT : TabD w) :
    Calls Tryd.prog 16 #[enV i n l d node slot] w fun e w' => e = .returned (.tuple #[.string (ByteArray.mk #[]), .int .i64 2]) ∧ Below w.heap.size w w' := by
  have HT := Lib.hid hT
  have H := Lib.hid h
  clear hT h
  by_cases hn : node < 0
  · have dn : decide (node < 0) = true := decide_eq_true hn
    clear hs
    go_enter Tryd.func16, Tryd.ntmps16
    go_wp2_with fail
    refine (dtell_t (f := ⟨i, n, l, d⟩) H.out _ (HT.out.alloc _).1).mono ?_
    rintro e w1 ⟨rfl, hb⟩
    have HB := Lib.hid hb
    obtain ⟨hc, hf⟩ := fbcell hb
    clear hb
    go_wp2_with fail
    go_ret2
    exact ⟨rfl, fbelow_a _ HB.out⟩
  · have dn : decide (node < 0) = false := decide_eq_false hn
    have ds : decide (slot < 0) = true := decide_eq_true (hs.resolve_left hn)
    clear hs hn
    go_enter Tryd.func16, Tryd.ntmps16
    go_wp2_with fail
    refine (dtell_t (f := ⟨i, n, l, d⟩) H.out _ (HT.out.alloc _).1).mono ?_
    rintro e w1 ⟨rfl, hb⟩
    have HB := Lib.hid hb
    obtain ⟨hc, hf⟩ := fbcell hb
    clear hb
    go_wp2_with fail
    go_ret2
    exact ⟨rfl, fbelow_a _ HB.out⟩

set_option maxHeartbeats 4000000 in
theorem dline_t {e : En} (h : e.ok = true) (hfit : e.fits) (w : World) (hT : TabD w) :
    Calls Tryd.prog 16 #[enV e.f.i e.f.n e.f.l e.f.d e.node e.slot] w fun r w' => r = .returned (.tuple #[.string (lineS e), .int .i64 0]) ∧ Below w.heap.size w w' := by
  obtain ⟨⟨i, n, l, d⟩, node, slot⟩ := e
  obtain ⟨h1, h2, h3⟩ := En.parts h
  obtain ⟨f1, f2⟩ := hfit
  simp only at h1 h2 h3 f1 f2
  obtain ⟨S, hS⟩ : ∃ S, decS slot = S := ⟨_, rfl⟩
  obtain ⟨N, hN⟩ : ∃ N, decS node = N := ⟨_, rfl⟩
  obtain ⟨X, hX⟩ : ∃ X, tellS ⟨i, n, l, d⟩ = X := ⟨_, rfl⟩
  have hSs : S.size ≤ 19 := by rw [← hS]; exact (decS_size h3 f2).2
  have hNs : N.size ≤ 19 := by rw [← hN]; exact (decS_size h2 f1).2
  have hXs : X.size ≤ 139 := by rw [← hX, tellS_size]; exact tellL_len h1
  have HL : Hid (ByteArray.mk #[40] ++ S ++ ByteArray.mk #[41, 32, 110] ++ N ++ ByteArray.mk #[32] ++ X ++ ByteArray.mk #[10] = lineS ⟨⟨i, n, l, d⟩, node, slot⟩) := Lib.hid (by unfold lineS; simp only; rw [hS, hN, hX])
  have e40 : (ByteArray.mk #[40]).size = 1 := rfl
  have e41 : (ByteArray.mk #[41, 32, 110]).size = 3 := rfl
  have e32 : (ByteArray.mk #[32]).size = 1 := rfl
  have e10 : (ByteArray.mk #[10]).size = 1 := rfl
  have q1 : ¬ 9223372036854775807 < (ByteArray.mk #[40]).size + S.size := by omega
  have q2 : ¬ 9223372036854775807 < (ByteArray.mk #[40] ++ S).size + (ByteArray.mk #[41, 32, 110]).size := by simp only [ByteArray.size_append]; omega
  have q3 : ¬ 9223372036854775807 < (ByteArray.mk #[40] ++ S ++ ByteArray.mk #[41, 32, 110]).size + N.size := by simp only [ByteArray.size_append]; omega
  have q4 : ¬ 9223372036854775807 < (ByteArray.mk #[40] ++ S ++ ByteArray.mk #[41, 32, 110] ++ N).size + (ByteArray.mk #[32]).size := by simp only [ByteArray.size_append]; omega
  have q5 : ¬ 9223372036854775807 < (ByteArray.mk #[40] ++ S ++ ByteArray.mk #[41, 32, 110] ++ N ++ ByteArray.mk #[32]).size + X.size := by simp only [ByteArray.size_append]; omega
  have q6 : ¬ 9223372036854775807 < (ByteArray.mk #[40] ++ S ++ ByteArray.mk #[41, 32, 110] ++ N ++ ByteArray.mk #[32] ++ X).size + (ByteArray.mk #[10]).size := by simp only [ByteArray.size_append]; omega
  have HT := Lib.hid hT
  have H := Lib.hid h1
  have HS := Lib.hid hS
  have HN := Lib.hid hN
  have HX := Lib.hid hX
  have dn : decide (node < 0) = false := decide_eq_false (by omega)
  have ds : decide (slot < 0) = false := decide_eq_false (by omega)
  clear h h1 hT hS hN hX e40 e41 e32 e10
  go_enter Tryd.func16, Tryd.ntmps16
  go_wp2_with fail
  refine (dtell_sv (f := ⟨i, n, l, d⟩) H.out HX.out _ (HT.out.alloc _).1).mono ?_
  rintro r w1 ⟨rfl, hb⟩
  obtain ⟨hc, hf⟩ := fbcell hb
  have hz : w.heap.size < w1.heap.size := by have := hb.size; simp only [World.size_alloc] at this; omega
  have hlc := later_cells w1
  have HT1 : Hid (Tab10 w1) := Lib.hid ((HT.out.alloc _).below hb).2
  have HB1 := Lib.hid (fbelow_a _ hb)
  clear hb
  go_wp2_with fail
  refine wp_region_later (by kernel_rfl) (by kernel_rfl) ?_
  repeat (go_big_quiet_step (fail))
  go_big_quiet_step (exact Later.call (itoa_b HS.out h3 f2 _ (laterTab10 _ HT1.out)))
  repeat (go_big_quiet_step (fail))
  go_big_quiet_step (exact Later.call (itoa_b HN.out h2 f1 _ (laterTab10 _ HT1.out)))
  repeat (go_big_quiet_step (fail))
  refine wpQuiet_nil ?_
  rintro w2 ⟨m, rfl⟩
  have hbm := m.h
  go_wp2
  go_ret2
  exact ⟨by rw [← HL.out]; rfl, HB1.out.trans (hbm.mono HB1.out.size)⟩

end Go.Proofs.YtpjlomgiljpadaaDoor
