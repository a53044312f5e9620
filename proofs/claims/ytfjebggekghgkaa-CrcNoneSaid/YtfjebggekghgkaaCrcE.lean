/- Crc, the code: Sum where there is no check; Crc; Number. -/
import Derived.Test.YtfjebggekghgkaaCrcD
namespace Go.Proofs.Ytfjebggekghgkaa
open Go.RowKit
set_option linter.unusedVariables false

theorem SumSt.cellc {B c l n w p a : Nat} {w0 wr w' : World} (h : SumSt B c l n w p a w0 wr) (hb : Below wr.heap.size wr w') : w'.cell? ⟨c, 0, none⟩ = some (.int .i64 n) := (h.later hb).check.cell

set_option maxHeartbeats 4000000 in
theorem ksum_f {s : ByteArray} {w p : Int} (h : (bitsB (byL s) && rightC w p) = false) (W : World) :
    Calls Try.prog 9 #[.string s, .int .i64 w, .int .i64 p] W fun e w' => e = .returned (.tuple #[.int .i64 0, .bool false]) ∧ Below W.heap.size W w' := by
  have hbw : ∀ k, Below W.heap.size W (((W.alloc (Obj.cells #[Value.int IntKind.i64 w] 3)).alloc (Obj.cells #[Value.int IntKind.i64 p] 3)).drewN k) := fun k => below_drewN (((Below.refl _ W).alloc (Nat.le_refl _) _).alloc (by simp) _) k
  have HBW := Lib.hid hbw
  clear hbw
  by_cases h1 : w < 1
  · clear h
    have d1 : decide (w < 1) = true := decide_eq_true h1
    go_enter Try.func9, Try.ntmps9
    go_wp2_with fail
    go_quiet (fail)
    go_wp2
    go_ret2
    exact ⟨rfl, HBW.out _⟩
  have d1 : decide (w < 1) = false := decide_eq_false h1
  by_cases h2 : 30 < w
  · clear h
    have d2 : decide (30 < w) = true := decide_eq_true h2
    go_enter Try.func9, Try.ntmps9
    go_wp2_with fail
    go_quiet (fail)
    go_wp2
    go_ret2
    exact ⟨rfl, HBW.out _⟩
  have d2 : decide (30 < w) = false := decide_eq_false h2
  by_cases h3 : p < 0
  · clear h
    have d3 : decide (p < 0) = true := decide_eq_true h3
    go_enter Try.func9, Try.ntmps9
    go_wp2_with fail
    go_quiet (fail)
    go_wp2
    go_ret2
    exact ⟨rfl, HBW.out _⟩
  obtain ⟨w, rfl⟩ := Int.eq_ofNat_of_zero_le (show 0 ≤ w by omega)
  obtain ⟨p, rfl⟩ := Int.eq_ofNat_of_zero_le (show 0 ≤ p by omega)
  have hw : 1 ≤ w := by omega
  have hw2 : w ≤ 30 := by omega
  have h30 := pow30 hw2
  have d3 : decide ((p : Int) < 0) = false := by simp
  obtain ⟨q, hq⟩ : ∃ q, 2 ^ w = q := ⟨_, rfl⟩
  rw [hq] at h30
  have hwr : wrap64 ((2 : Int) ^ w) = (q : Int) := by
    have e : ((2 : Int) ^ w) = ((2 ^ w : Nat) : Int) := by simp
    rw [e, hq]; unfold wrap64; omega
  by_cases h4 : q ≤ p
  · have d4 : decide ((q : Int) ≤ (p : Int)) = true := by simp; omega
    clear h
    go_enter Try.func9, Try.ntmps9
    go_wp2_with fail
    go_quiet (fail)
    go_wp2
    go_ret2
    exact ⟨rfl, HBW.out _⟩
  have d4 : decide ((q : Int) ≤ (p : Int)) = false := by simp; omega
  have HB : Hid (bitsB (byL s) = false) := Lib.hid (by
    have hr : rightC w p = true := by
      unfold rightC
      rw [Int.toNat_natCast, hq, decide_eq_true (show 1 ≤ (w : Int) by omega), decide_eq_true (show (w : Int) ≤ 30 by omega), decide_eq_true (show 0 ≤ (p : Int) by omega), decide_eq_true (show (p : Int) < (q : Int) by omega)]; rfl
    rw [hr, Bool.and_true] at h
    exact h)
  obtain ⟨a, ha⟩ : ∃ a, q - 1 = a := ⟨_, rfl⟩
  have hq1 : (q : Int) - 1 = (a : Int) := by have := Nat.two_pow_pos w; omega
  have hmf : ∀ (fn : Fn) (first cap : Array Value) (w : World), (Instr.makeFunc fn first cap).run Try.prog w = .ok (.func fn first cap) w := fun _ _ _ _ => rfl
  have hp : p < q := by omega
  clear h hq ha h1 h2 h3 h4
  go_enter Try.func9, Try.ntmps9
  go_wp2_with fail
  go_quiet (fail)
  go_wp2_with fail
  go_region
  · have HS := Lib.hid (sum_made1 W w p a (nq + 1))
    go_wp2_with fail
    refine (each_f _ HB.out _).mono ?_
    rintro e w1 ⟨rfl, hb1⟩
    have h1 := HS.out.later hb1
    have c1 := h1.check.cell
    have HB1 := Lib.hid h1.below
    clear h1 hb1
    go_wp2
    go_ret2
    exact ⟨rfl, HB1.out⟩
  · have HS := Lib.hid (sum_made2 W w p a (nq + 1))
    go_wp2_with fail
    refine (each_f _ HB.out _).mono ?_
    rintro e w1 ⟨rfl, hb1⟩
    have h1 := HS.out.later hb1
    have c1 := h1.check.cell
    have HB1 := Lib.hid h1.below
    clear h1 hb1
    go_wp2
    go_ret2
    exact ⟨rfl, HB1.out⟩

/-! ### Crc -/
theorem kcrc_t {s : ByteArray} {n : Nat} (hn : feedC 15 17817 0 (toB (byL s)) = n) (hb : bitsB (byL s) = true) (W : World) :
    Calls Try.prog 11 #[.string s] W fun e w' => e = .returned (.int .i64 n) ∧ Below W.heap.size W w' := by
  have HN := Lib.hid hn
  have HB := Lib.hid hb
  clear hn hb
  go_enter Try.func11, Try.ntmps11
  go_wp2_with fail
  refine (ksum_t (w := 15) (p := 17817) HN.out HB.out (by decide) (by decide) (by decide) _).mono ?_
  rintro e w1 ⟨rfl, hb1⟩
  go_wp2
  go_ret
  exact ⟨rfl, hb1⟩
theorem kcrc_f {s : ByteArray} (hb : bitsB (byL s) = false) (W : World) :
    Calls Try.prog 11 #[.string s] W fun e w' => e = .returned (.int .i64 (-1)) ∧ Below W.heap.size W w' := by
  have HB : Hid ((bitsB (byL s) && rightC 15 17817) = false) := Lib.hid (by rw [hb]; rfl)
  clear hb
  go_enter Try.func11, Try.ntmps11
  go_wp2_with fail
  refine (ksum_f HB.out _).mono ?_
  rintro e w1 ⟨rfl, hb1⟩
  go_wp2
  go_ret
  exact ⟨rfl, hb1⟩

/-! ### Number -/
structure NumSt (B n : Nat) (w0 wr : World) : Prop where
  below : Below B w0 wr
  num : Box wr B (.int .i64 n) 3
  le : B ≤ w0.heap.size
theorem NumSt.alloc {B n : Nat} {w0 wr : World} (h : NumSt B n w0 wr) (o : Obj) : NumSt B n w0 (wr.alloc o) := ⟨h.below.alloc (Nat.le_trans h.le h.below.size) _, h.num.alloc o, h.le⟩
theorem NumSt.later {B n : Nat} {w0 wr w' : World} (h : NumSt B n w0 wr) (hb : Below wr.heap.size wr w') : NumSt B n w0 w' := ⟨h.below.trans (hb.mono (Nat.le_trans h.le h.below.size)), h.num.below hb h.num.lt, h.le⟩
theorem NumSt.iterAt {B n i q r : Nat} {w0 wr : World} {s : ByteArray} (h : NumSt B n w0 wr) (hi : wr.heap[i]? = some (.stringIter s q)) (hB : B ≤ i) : NumSt B n w0 (wr.iterAt i s r) := ⟨Lib.below_iterAt h.below hB s r, h.num.iterAt hi, h.le⟩
theorem NumSt.stored {B n m : Nat} {w0 wr : World} (h : NumSt B n w0 wr) : NumSt B m w0 (wr.setCell ⟨B, 0, none⟩ (.int .i64 m)) := ⟨(Upd.setL B B wr _).below h.below (Nat.le_refl _) (Nat.le_refl _), h.num.set _, h.le⟩
theorem num_keepsI {B n : Nat} {w0 wr : World} (h : NumSt B n w0 wr) (k : Nat) (u : Value) : KeepsI k wr (wr.setCell ⟨B, 0, none⟩ u) := (Upd.setL B B wr u).keepsI h.num h.num k
theorem or_bit (n : Nat) (b : Bool) (hn : n < 1152921504606846976) : bits .or .i64 ((n : Int) * 2) (bitN b) = ((2 * n + (if b = true then 1 else 0) : Nat) : Int) := by
  have e : (n : Int) * 2 = ((2 * n : Nat) : Int) := by omega
  rw [e]
  cases b
  · rw [show bitN false = ((0 : Nat) : Int) from rfl, i64_or _ _ (by omega) (by decide)]; simp
  · rw [show bitN true = ((1 : Nat) : Int) from rfl, i64_or _ _ (by omega) (by decide)]
    have := Nat.two_pow_add_eq_or_of_lt (i := 1) (b := 1) (by decide) n
    simp at this ⊢
    omega
set_option maxHeartbeats 2000000 in
theorem numC_v {B n k : Nat} {b : Bool} {w0 wr : World} (hn : n < 1152921504606846976) (h : NumSt B n w0 wr) :
    Calls Try.prog 24 #[.int .i64 (bitN b), .pointer (some ⟨B, 0, none⟩)] wr (EachStep k wr (NumSt B (2 * n + (if b = true then 1 else 0)) w0)) := by
  have H := Lib.hid h
  have c1 := h.num.cell
  have f1 := h.num.live
  have HO := Lib.hid (or_bit n b hn)
  have hob : ∀ x, bitN b = x → bits .or .i64 ((n : Int) * 2) x = ((2 * n + (if b = true then 1 else 0) : Nat) : Int) := fun x hx => by rw [← hx]; exact HO.out
  have hb := hob _ rfl
  obtain ⟨m, hm⟩ : ∃ m, (2 * n + (if b = true then 1 else 0) : Nat) = m := ⟨_, rfl⟩
  rw [hm] at hb ⊢
  generalize bitN b = x at hb ⊢
  clear h hob HO hm
  go_enter Try.func24, Try.ntmps24
  go_wp2
  go_end0
  exact ⟨rfl, num_keepsI H.out k _, H.out.stored⟩
theorem numA_take_lt (L : List Bool) (k : Nat) (h : L.length ≤ 60) (hk : k < L.length) : numA 0 (L.take k) < 1152921504606846976 := by
  have h1 := numA_lt (L.take k) 0 0 (by decide)
  have h2 : 2 ^ (0 + (L.take k).length) ≤ 2 ^ 60 := Nat.pow_le_pow_right (by decide) (by rw [List.length_take]; omega)
  omega
theorem num_each {B n : Nat} {s : ByteArray} {w0 wr : World} (hn : numA 0 (toB (byL s)) = n) (hb : bitsB (byL s) = true) (hs : s.size ≤ 60) (h : NumSt B 0 w0 wr) :
    Calls Try.prog 20 #[.string s, .func (.func 24) #[] #[.pointer (some ⟨B, 0, none⟩)]] wr fun e w' => e = .returned (.bool true) ∧ NumSt B n w0 w' := by
  have hle : B ≤ wr.heap.size := Nat.le_trans h.le h.below.size
  refine (each_t 24 _ (enters_of Try.func24 (by kernel_rfl) rfl) hb (fun pos wx => NumSt B (numA 0 (toB ((byL s).take pos))) w0 wx) wr
    (fun w1 hb1 => (h.later hb1).alloc _) (fun k pos q w1 hk h1 hi => h1.iterAt hi (Nat.le_trans hle hk)) ?_).mono ?_
  · intro k pos w1 b hk hps hbt h1
    obtain ⟨b', hb', ht⟩ := bt_bit hb hps
    obtain rfl : b = b' := bitC_inj.1 (hbt.symm.trans hb')
    have hl := numA_take_lt (toB (byL s)) pos (by rw [toB_len, byL_len]; exact hs) (by rw [toB_len, byL_len]; exact hps)
    have e : (toB (byL s)).take pos = toB ((byL s).take pos) := by unfold toB; rw [List.map_take]
    rw [e] at hl
    rw [ht, numA_app]
    exact numC_v hl h1
  · rintro e w' ⟨rfl, h1⟩
    rw [List.take_of_length_le (by rw [byL_len]; omega), hn] at h1
    exact ⟨rfl, h1⟩
theorem num_made (W : World) : NumSt W.heap.size 0 W (W.alloc (Obj.cells #[Value.int IntKind.i64 0] 3)) := ⟨(Below.refl _ W).alloc (Nat.le_refl _) _, Box.made W (.int .i64 0) 3 rfl, Nat.le_refl _⟩
set_option maxHeartbeats 2000000 in
theorem knum_t {s : ByteArray} {n : Nat} (hn : numA 0 (toB (byL s)) = n) (h : numOk (byL s) = true) (W : World) :
    Calls Try.prog 13 #[.string s] W fun e w' => e = .returned (.tuple #[.int .i64 n, .bool true]) ∧ Below W.heap.size W w' := by
  unfold numOk at h
  rw [Bool.and_eq_true, decide_eq_true_eq, byL_len] at h
  have HB := Lib.hid h.1
  have HS := Lib.hid h.2
  have hs : (s.size : Int) ≤ 60 := by have := h.2; omega
  have HN := Lib.hid hn
  have HM := Lib.hid (num_made W)
  have hmf : ∀ (fn : Fn) (first cap : Array Value) (w : World), (Instr.makeFunc fn first cap).run Try.prog w = .ok (.func fn first cap) w := fun _ _ _ _ => rfl
  clear h hn
  go_enter Try.func13, Try.ntmps13
  go_wp2_with fail
  refine (num_each HN.out HB.out HS.out HM.out).mono ?_
  rintro e w1 ⟨rfl, h1⟩
  have c1 := h1.num.cell
  have HB1 := Lib.hid h1.below
  clear h1
  go_wp2
  go_ret2
  exact ⟨rfl, HB1.out⟩
set_option maxHeartbeats 2000000 in
theorem knum_f {s : ByteArray} (h : numOk (byL s) = false) (W : World) :
    Calls Try.prog 13 #[.string s] W fun e w' => e = .returned (.tuple #[.int .i64 0, .bool false]) ∧ Below W.heap.size W w' := by
  have hmf : ∀ (fn : Fn) (first cap : Array Value) (w : World), (Instr.makeFunc fn first cap).run Try.prog w = .ok (.func fn first cap) w := fun _ _ _ _ => rfl
  by_cases hs : 60 < s.size
  · have hd : decide (60 < (s.size : Int)) = true := by simp; omega
    clear h
    go_enter Try.func13, Try.ntmps13
    go_wp2
    go_ret2
    exact ⟨rfl, Below.refl _ _⟩
  · have HB : Hid (bitsB (byL s) = false) := Lib.hid (by
      unfold numOk at h
      rw [byL_len, decide_eq_true (show s.size ≤ 60 by omega), Bool.and_true] at h
      exact h)
    have HM := Lib.hid (num_made W)
    have hs2 : (s.size : Int) ≤ 60 := by omega
    clear h hs
    go_enter Try.func13, Try.ntmps13
    go_wp2_with fail
    refine (each_f _ HB.out _).mono ?_
    rintro e w1 ⟨rfl, hb1⟩
    have h1 := HM.out.later hb1
    have c1 := h1.num.cell
    have HB1 := Lib.hid h1.below
    clear h1 hb1
    go_wp2
    go_ret2
    exact ⟨rfl, HB1.out⟩

end Go.Proofs.Ytfjebggekghgkaa
