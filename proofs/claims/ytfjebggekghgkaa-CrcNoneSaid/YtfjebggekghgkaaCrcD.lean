/- Crc, the code: what Sum hands to each. -/
import Derived.Test.YtfjebggekghgkaaCrcC
import Derived.BigRegion
namespace Go.Proofs.Ytfjebggekghgkaa
open Go.RowKit
set_option linter.unusedVariables false

structure SumSt (B c l n w p a : Nat) (w0 wr : World) : Prop where
  below : Below B w0 wr
  check : Box wr c (.int .i64 n) 3
  width : Box wr B (.int .i64 w) 3
  all : Box wr l (.int .i64 a) 3
  poly : Box wr (B + 1) (.int .i64 p) 3
  le : B ≤ w0.heap.size
  hc : B + 1 < c
  ne : c ≠ l
theorem SumSt.alloc {B c l n w p a : Nat} {w0 wr : World} (h : SumSt B c l n w p a w0 wr) (o : Obj) : SumSt B c l n w p a w0 (wr.alloc o) :=
  ⟨h.below.alloc (Nat.le_trans h.le h.below.size) _, h.check.alloc o, h.width.alloc o, h.all.alloc o, h.poly.alloc o, h.le, h.hc, h.ne⟩
theorem SumSt.later {B c l n w p a : Nat} {w0 wr w' : World} (h : SumSt B c l n w p a w0 wr) (hb : Below wr.heap.size wr w') : SumSt B c l n w p a w0 w' :=
  ⟨h.below.trans (hb.mono (Nat.le_trans h.le h.below.size)), h.check.below hb h.check.lt, h.width.below hb h.width.lt, h.all.below hb h.all.lt, h.poly.below hb h.poly.lt, h.le, h.hc, h.ne⟩
theorem SumSt.iterAt {B c l n w p a i q r : Nat} {w0 wr : World} {s : ByteArray} (h : SumSt B c l n w p a w0 wr) (hi : wr.heap[i]? = some (.stringIter s q)) (hB : B ≤ i) : SumSt B c l n w p a w0 (wr.iterAt i s r) :=
  ⟨Lib.below_iterAt h.below hB s r, h.check.iterAt hi, h.width.iterAt hi, h.all.iterAt hi, h.poly.iterAt hi, h.le, h.hc, h.ne⟩
theorem SumSt.stored {B c l n w p a m : Nat} {w0 wr : World} (h : SumSt B c l n w p a w0 wr) : SumSt B c l m w p a w0 (wr.setCell ⟨c, 0, none⟩ (.int .i64 m)) :=
  have hc := h.hc
  ⟨(Upd.setL c c wr _).below h.below (by omega) (by omega), h.check.set _, h.width.other (by omega) _, h.all.other (fun e => h.ne e.symm) _, h.poly.other (by omega) _, h.le, h.hc, h.ne⟩
theorem sum_keepsI {B c l n w p a : Nat} {w0 wr : World} (h : SumSt B c l n w p a w0 wr) (k : Nat) (u : Value) : KeepsI k wr (wr.setCell ⟨c, 0, none⟩ u) := (Upd.setL c c wr u).keepsI h.check h.check k
/-! ### bits of whole numbers -/
theorem i64_nat (a : Nat) (ha : a < 9223372036854775808) : (BitVec.ofInt 64 (a : Int)).toNat = a := by rw [BitVec.ofInt_natCast, BitVec.toNat_ofNat]; exact Nat.mod_eq_of_lt (by omega)
theorem wrap_small (a : Nat) (ha : a < 9223372036854775808) : IntKind.i64.wrap (a : Int) = (a : Int) := by
  rw [IntKind.wrap_i64]; omega
theorem i64_xor (a b : Nat) (ha : a < 9223372036854775808) (hb : b < 9223372036854775808) : bits .xor .i64 (a : Int) (b : Int) = ((a ^^^ b : Nat) : Int) := by
  show IntKind.i64.wrap (((BitVec.ofInt 64 (a : Int)) ^^^ (BitVec.ofInt 64 (b : Int))).toNat : Int) = _
  have := Nat.xor_lt_two_pow (n := 63) ha hb
  rw [BitVec.toNat_xor, i64_nat a ha, i64_nat b hb, wrap_small _ this]
theorem i64_and (a b : Nat) (ha : a < 9223372036854775808) (hb : b < 9223372036854775808) : bits .and .i64 (a : Int) (b : Int) = ((a &&& b : Nat) : Int) := by
  show IntKind.i64.wrap (((BitVec.ofInt 64 (a : Int)) &&& (BitVec.ofInt 64 (b : Int))).toNat : Int) = _
  have := Nat.and_lt_two_pow (n := 63) a hb
  rw [BitVec.toNat_and, i64_nat a ha, i64_nat b hb, wrap_small _ this]
theorem i64_or (a b : Nat) (ha : a < 9223372036854775808) (hb : b < 9223372036854775808) : bits .or .i64 (a : Int) (b : Int) = ((a ||| b : Nat) : Int) := by
  show IntKind.i64.wrap (((BitVec.ofInt 64 (a : Int)) ||| (BitVec.ofInt 64 (b : Int))).toNat : Int) = _
  have := Nat.or_lt_two_pow (n := 63) ha hb
  rw [BitVec.toNat_or, i64_nat a ha, i64_nat b hb, wrap_small _ this]
theorem pow30 {w : Nat} (hw : w ≤ 30) : 2 ^ w ≤ 1073741824 := Nat.pow_le_pow_right (by decide) hw
/-- the highest bit -/
theorem top_bit {w n : Nat} (hw : 1 ≤ w) (hn : n < 2 ^ w) : ((n : Int) / 2 ^ (w - 1) != 0) = n.testBit (w - 1) ∧ ((n : Int) / 2 ^ (w - 1) != 1) = !n.testBit (w - 1) := by
  have e : (n : Int) / 2 ^ (w - 1) = ((n / 2 ^ (w - 1) : Nat) : Int) := by simp
  have h2 : 2 ^ w = 2 * 2 ^ (w - 1) := by
    have e : w = (w - 1) + 1 := by omega
    conv => lhs; rw [e]
    rw [Nat.pow_succ, Nat.mul_comm]
  have hlt : n / 2 ^ (w - 1) < 2 := (Nat.div_lt_iff_lt_mul (Nat.two_pow_pos _)).2 (by omega)
  rw [e, Nat.testBit_eq_decide_div_mod_eq]
  generalize n / 2 ^ (w - 1) = x at hlt
  have : x = 0 ∨ x = 1 := by omega
  rcases this with rfl | rfl <;> exact ⟨by decide, by decide⟩
theorem step_val {w p n m : Nat} {b : Bool} (hm : stepC w p n b = m) (hw2 : w ≤ 30) (hn : n < 2 ^ w) (hp : p < 2 ^ w) :
    bits .and .i64 ((n : Int) * 2) ((2 ^ w - 1 : Nat) : Int) = ((2 * n % 2 ^ w : Nat) : Int) ∧ ((n.testBit (w - 1) != b) = false → 2 * n % 2 ^ w = m) ∧ ((n.testBit (w - 1) != b) = true → bits .xor .i64 ((2 * n % 2 ^ w : Nat) : Int) (p : Int) = (m : Int)) := by
  have h30 := pow30 hw2
  have hlt := Nat.mod_lt (2 * n) (Nat.two_pow_pos w)
  unfold stepC at hm
  refine ⟨?_, fun h => ?_, fun h => ?_⟩
  · have e : (n : Int) * 2 = ((2 * n : Nat) : Int) := by omega
    rw [e, i64_and _ _ (by omega) (by omega), Nat.and_two_pow_sub_one_eq_mod]
  · rw [← hm, h]; simp
  · rw [i64_xor _ _ (by omega) (by omega), ← hm, h]; simp

set_option maxHeartbeats 2000000 in
theorem sumC_v {B c l n w p a m k : Nat} {b : Bool} {w0 wr : World} (ha : 2 ^ w - 1 = a) (hm : stepC w p n b = m) (hn : n < 2 ^ w) (hw : 1 ≤ w) (hw2 : w ≤ 30) (hp : p < 2 ^ w) (h : SumSt B c l n w p a w0 wr) :
    Calls Try.prog 21 #[.int .i64 (bitN b), .pointer (some ⟨c, 0, none⟩), .pointer (some ⟨B, 0, none⟩), .pointer (some ⟨l, 0, none⟩), .pointer (some ⟨B + 1, 0, none⟩)] wr (EachStep k wr (SumSt B c l m w p a w0)) := by
  have H := Lib.hid h
  have c1 := h.check.cell
  have c2 := h.width.cell
  have c3 := h.all.cell
  have c4 := h.poly.cell
  have f1 := h.check.live
  have h30 := pow30 hw2
  obtain ⟨v1, v2, v3⟩ := step_val hm hw2 hn hp
  rw [ha] at v1
  have hz : 2 * n % 2 ^ w < 1073741824 := Nat.lt_of_lt_of_le (Nat.mod_lt _ (Nat.two_pow_pos w)) h30
  obtain ⟨t0, t1⟩ := top_bit hw hn
  have hn2 : n < 1073741824 := by omega
  generalize 2 * n % 2 ^ w = z at v1 v2 v3 hz
  generalize n.testBit (w - 1) = top at v2 v3 t0 t1
  have hB2 := (H.out.stored (m := z)).check
  have c5 := hB2.cell
  have f5 := hB2.live
  have c6 := (H.out.stored (m := z)).poly.cell
  clear hB2 hm ha hn hp h h30
  cases b
  · cases top
    · have HM := Lib.hid (v2 rfl)
      clear v2 v3 t1
      simp only [show bitN false = 0 from rfl]
      go_enter Try.func21, Try.ntmps21
      go_wp2
      go_end0
      exact ⟨rfl, sum_keepsI H.out k _, HM.out ▸ H.out.stored⟩
    · have HM := Lib.hid (v3 rfl)
      clear v2 v3 t1
      simp only [show bitN false = 0 from rfl]
      go_enter Try.func21, Try.ntmps21
      go_wp2
      go_end0
      rw [HM.out]
      exact ⟨rfl, (sum_keepsI H.out k _).trans (sum_keepsI H.out.stored k _), H.out.stored.stored⟩
  · cases top
    · have HM := Lib.hid (v3 rfl)
      clear v2 v3 t0
      simp only [show bitN true = 1 from rfl]
      go_enter Try.func21, Try.ntmps21
      go_wp2
      go_end0
      rw [HM.out]
      exact ⟨rfl, (sum_keepsI H.out k _).trans (sum_keepsI H.out.stored k _), H.out.stored.stored⟩
    · have HM := Lib.hid (v2 rfl)
      clear v2 v3 t0
      simp only [show bitN true = 1 from rfl]
      go_enter Try.func21, Try.ntmps21
      go_wp2
      go_end0
      exact ⟨rfl, sum_keepsI H.out k _, HM.out ▸ H.out.stored⟩
theorem sum_each {B c l w p a n : Nat} {s : ByteArray} {w0 wr : World} (hn : feedC w p 0 (toB (byL s)) = n) (hb : bitsB (byL s) = true) (ha : 2 ^ w - 1 = a) (hw : 1 ≤ w) (hw2 : w ≤ 30) (hp : p < 2 ^ w) (h : SumSt B c l 0 w p a w0 wr) :
    Calls Try.prog 20 #[.string s, .func (.func 21) #[] #[.pointer (some ⟨c, 0, none⟩), .pointer (some ⟨B, 0, none⟩), .pointer (some ⟨l, 0, none⟩), .pointer (some ⟨B + 1, 0, none⟩)]] wr
      fun e w' => e = .returned (.bool true) ∧ SumSt B c l n w p a w0 w' := by
  have hle : B ≤ wr.heap.size := Nat.le_trans h.le h.below.size
  refine (each_t 21 _ (enters_of Try.func21 (by kernel_rfl) rfl) hb (fun pos wx => SumSt B c l (feedC w p 0 (toB ((byL s).take pos))) w p a w0 wx) wr
    (fun w1 hb1 => (h.later hb1).alloc _) (fun k pos q w1 hk h1 hi => h1.iterAt hi (Nat.le_trans hle hk)) ?_).mono ?_
  · intro k pos w1 b hk hps hbt h1
    obtain ⟨b', hb', ht⟩ := bt_bit hb hps
    obtain rfl : b = b' := bitC_inj.1 (hbt.symm.trans hb')
    refine sumC_v ha ?_ (feed_lt hp _ 0 (Nat.two_pow_pos w)) hw hw2 hp h1
    rw [ht, feedC_app]
    rfl
  · rintro e w' ⟨rfl, h1⟩
    rw [List.take_of_length_le (by rw [byL_len]; omega), hn] at h1
    exact ⟨rfl, h1⟩
theorem Box.drewN {w : World} {k : Nat} {v : Value} {t : TypeId} (h : Box w k v t) (n : Nat) : Box (w.drewN n) k v t := h
theorem two_boxes (W : World) (w p k : Nat) {W1 : World} (h : W1 = ((W.alloc (Obj.cells #[Value.int IntKind.i64 ↑w] 3)).alloc (Obj.cells #[Value.int IntKind.i64 ↑p] 3)).drewN k) :
    Box W1 W.heap.size (.int .i64 w) 3 ∧ Box W1 (W.heap.size + 1) (.int .i64 p) 3 ∧ Below W.heap.size W W1 ∧ W1.heap.size = W.heap.size + 1 + 1 := by
  subst h
  have h1 := (Box.made W (.int .i64 w) 3 rfl).alloc (Obj.cells #[Value.int IntKind.i64 ↑p] 3)
  have h2 : Box ((W.alloc (Obj.cells #[Value.int IntKind.i64 ↑w] 3)).alloc (Obj.cells #[Value.int IntKind.i64 ↑p] 3)) (W.heap.size + 1) (.int .i64 p) 3 := Box.made _ _ _ (by simp)
  exact ⟨h1.drewN k, h2.drewN k, below_drewN (((Below.refl _ W).alloc (Nat.le_refl _) _).alloc (by simp) _) k, by show ((W.alloc _).alloc _).heap.size = _; simp⟩
theorem sum_made1 (W : World) (w p a k : Nat) : SumSt W.heap.size (W.heap.size + 1 + 1) (W.heap.size + 1 + 1 + 1) 0 w p a W (((((W.alloc (Obj.cells #[Value.int IntKind.i64 ↑w] 3)).alloc (Obj.cells #[Value.int IntKind.i64 ↑p] 3)).drewN k).alloc (Obj.cells #[Value.int IntKind.i64 0] 3)).alloc (Obj.cells #[Value.int IntKind.i64 ↑a] 3)) := by
  obtain ⟨h1, h2, h3, h4⟩ := two_boxes W w p k rfl
  have h5 := (Box.made _ (.int .i64 0) 3 h4).alloc (Obj.cells #[Value.int IntKind.i64 ↑a] 3)
  exact ⟨(h3.alloc (by omega) _).alloc (by simp; omega) _, h5, (h1.alloc _).alloc _, Box.made _ _ _ (by simp [h4]), (h2.alloc _).alloc _, Nat.le_refl _, by omega, by omega⟩
theorem sum_made2 (W : World) (w p a k : Nat) : SumSt W.heap.size (W.heap.size + 1 + 1 + 1) (W.heap.size + 1 + 1) 0 w p a W (((((W.alloc (Obj.cells #[Value.int IntKind.i64 ↑w] 3)).alloc (Obj.cells #[Value.int IntKind.i64 ↑p] 3)).drewN k).alloc (Obj.cells #[Value.int IntKind.i64 ↑a] 3)).alloc (Obj.cells #[Value.int IntKind.i64 0] 3)) := by
  obtain ⟨h1, h2, h3, h4⟩ := two_boxes W w p k rfl
  have h5 := (Box.made _ (.int .i64 a) 3 h4).alloc (Obj.cells #[Value.int IntKind.i64 0] 3)
  exact ⟨(h3.alloc (by omega) _).alloc (by simp; omega) _, Box.made _ _ _ (by simp [h4]), (h1.alloc _).alloc _, h5, (h2.alloc _).alloc _, Nat.le_refl _, by omega, by omega⟩

set_option maxHeartbeats 4000000 in
theorem ksum_t {s : ByteArray} {w p n : Nat} (hn : feedC w p 0 (toB (byL s)) = n) (hb : bitsB (byL s) = true) (hw : 1 ≤ w) (hw2 : w ≤ 30) (hp : p < 2 ^ w) (W : World) :
    Calls Try.prog 9 #[.string s, .int .i64 w, .int .i64 p] W fun e w' => e = .returned (.tuple #[.int .i64 n, .bool true]) ∧ Below W.heap.size W w' := by
  have HN := Lib.hid hn
  have HB := Lib.hid hb
  have HP := Lib.hid hp
  have h30 := pow30 hw2
  have hmf : ∀ (fn : Fn) (first cap : Array Value) (w : World), (Instr.makeFunc fn first cap).run Try.prog w = .ok (.func fn first cap) w := fun _ _ _ _ => rfl
  have d1 : decide ((w : Int) < 1) = false := by simp; omega
  have d2 : decide (30 < (w : Int)) = false := by simp; omega
  have d3 : decide ((p : Int) < 0) = false := by simp
  obtain ⟨q, hq⟩ : ∃ q, 2 ^ w = q := ⟨_, rfl⟩
  obtain ⟨a, ha⟩ : ∃ a, q - 1 = a := ⟨_, rfl⟩
  have HQ := Lib.hid hq
  have HA : Hid (2 ^ w - 1 = a) := Lib.hid (by rw [hq, ha])
  rw [hq] at hp h30
  have hwr : wrap64 ((2 : Int) ^ w) = (q : Int) := by
    have e : ((2 : Int) ^ w) = ((2 ^ w : Nat) : Int) := by simp
    rw [e, hq]; unfold wrap64; omega
  have d4 : decide ((q : Int) ≤ (p : Int)) = false := by simp; omega
  have hq1 : (q : Int) - 1 = (a : Int) := by have := Nat.two_pow_pos w; omega
  clear hn hb hq ha
  go_enter Try.func9, Try.ntmps9
  go_wp2_with fail
  go_quiet (fail)

  go_wp2_with fail
  go_region
  · have HS := Lib.hid (sum_made1 W w p a (nq + 1))
    go_wp2_with fail
    refine (sum_each HN.out HB.out HA.out hw hw2 HP.out HS.out).mono ?_
    rintro e w1 ⟨rfl, h1⟩
    have c1 := h1.check.cell
    have HB1 := Lib.hid h1.below
    clear h1
    go_wp2
    go_ret2
    exact ⟨rfl, HB1.out⟩
  · have HS := Lib.hid (sum_made2 W w p a (nq + 1))
    go_wp2_with fail
    refine (sum_each HN.out HB.out HA.out hw hw2 HP.out HS.out).mono ?_
    rintro e w1 ⟨rfl, h1⟩
    have c1 := h1.check.cell
    have HB1 := Lib.hid h1.below
    clear h1
    go_wp2
    go_ret2
    exact ⟨rfl, HB1.out⟩
end Go.Proofs.Ytfjebggekghgkaa
