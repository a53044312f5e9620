/- Crc, the code: Sum where there is no check; Crc; Number. Crc, the code: Bits, both, Add. Crc: the chapter's examples; walks of CrcSums and CrcNone. Crc: walks of CrcNone and CrcAdds. Crc: walk of CrcBits. Crc: walk of CrcFinds. Serial: one bit that is turned in a text with bits put in. Plain lists; no program is meant here. -/
import Derived.Test.YtfooigckcjbegaaDoorZai
import Derived.Test.YtfooigckcjbegaaDoorZad
import Derived.Test.YtfooigckcjbegaaDoorZae
import Derived.Test.YtfooigckcjbegaaDoorZah
namespace Go.Proofs.YtfooigckcjbegaaDoor
open Go.RowKit
set_option linter.unusedVariables false

theorem SumSt.cellc {B c l n w p a : Nat} {w0 wr w' : World} (h : SumSt B c l n w p a w0 wr) (hb : Below wr.heap.size wr w') : w'.cell? ⟨c, 0, none⟩ = some (.int .i64 n) := (h.later hb).check.cell

set_option maxHeartbeats 4000000 in
theorem ksum_f {s : ByteArray} {w p : Int} (h : (bitsB (byL s) && rightC w p) = false) (W : World) :
    Calls Tryd.prog 55 #[.string s, .int .i64 w, .int .i64 p] W fun e w' => e = .returned (.tuple #[.int .i64 0, .bool false]) ∧ Below W.heap.size W w' := by
  have hbw : ∀ k, Below W.heap.size W (((W.alloc (Obj.cells #[Value.int IntKind.i64 w] 3)).alloc (Obj.cells #[Value.int IntKind.i64 p] 3)).drewN k) := fun k => below_drewN (((Below.refl _ W).alloc (Nat.le_refl _) _).alloc (by simp) _) k
  have HBW := Lib.hid hbw
  clear hbw
  by_cases h1 : w < 1
  · clear h
    have d1 : decide (w < 1) = true := decide_eq_true h1
    go_enter Tryd.func55, Tryd.ntmps55
    go_wp2_with fail
    go_quiet (fail)
    go_wp2
    go_ret2
    exact ⟨rfl, HBW.out _⟩
  have d1 : decide (w < 1) = false := decide_eq_false h1
  by_cases h2 : 30 < w
  · clear h
    have d2 : decide (30 < w) = true := decide_eq_true h2
    go_enter Tryd.func55, Tryd.ntmps55
    go_wp2_with fail
    go_quiet (fail)
    go_wp2
    go_ret2
    exact ⟨rfl, HBW.out _⟩
  have d2 : decide (30 < w) = false := decide_eq_false h2
  by_cases h3 : p < 0
  · clear h
    have d3 : decide (p < 0) = true := decide_eq_true h3
    go_enter Tryd.func55, Tryd.ntmps55
    go_wp2_with fail
    go_quiet (fail)
    go_wp2
    go_ret2
    exact ⟨rfl, HBW.out _⟩
  obtain ⟨w, rfl⟩ := Int.eq_ofNat_of_zero_le (show 0 ≤ w by omega)
  obtain ⟨p, rfl⟩ := Int.eq_ofNat_of_zero_le (show 0 ≤ p by omega)
  have hw : 1 ≤ w := by omega
  have hw2 : w ≤ 30 := by omega
  have h30 := pow30 hw2
  have d3 : decide ((p : Int) < 0) = false := by simp
  obtain ⟨q, hq⟩ : ∃ q, 2 ^ w = q := ⟨_, rfl⟩
  rw [hq] at h30
  have hwr : wrap64 ((2 : Int) ^ w) = (q : Int) := by
    have e : ((2 : Int) ^ w) = ((2 ^ w : Nat) : Int) := by simp
    rw [e, hq]; unfold wrap64; omega
  by_cases h4 : q ≤ p
  · have d4 : decide ((q : Int) ≤ (p : Int)) = true := by simp; omega
    clear h
    go_enter Tryd.func55, Tryd.ntmps55
    go_wp2_with fail
    go_quiet (fail)
    go_wp2
    go_ret2
    exact ⟨rfl, HBW.out _⟩
  have d4 : decide ((q : Int) ≤ (p : Int)) = false := by simp; omega
  have HB : Hid (bitsB (byL s) = false) := Lib.hid (by
    have hr : rightC w p = true := by
      unfold rightC
      rw [Int.toNat_natCast, hq, decide_eq_true (show 1 ≤ (w : Int) by omega), decide_eq_true (show (w : Int) ≤ 30 by omega), decide_eq_true (show 0 ≤ (p : Int) by omega), decide_eq_true (show (p : Int) < (q : Int) by omega)]; rfl
    rw [hr, Bool.and_true] at h
    exact h)
  obtain ⟨a, ha⟩ : ∃ a, q - 1 = a := ⟨_, rfl⟩
  have hq1 : (q : Int) - 1 = (a : Int) := by have := Nat.two_pow_pos w; omega
  have hmf : ∀ (fn : Fn) (first cap : Array Value) (w : World), (Instr.makeFunc fn first cap).run Tryd.prog w = .ok (.func fn first cap) w := fun _ _ _ _ => rfl
  have hp : p < q := by omega
  clear h hq ha h1 h2 h3 h4
  go_enter Tryd.func55, Tryd.ntmps55
  go_wp2_with fail
  go_quiet (fail)
  go_wp2_with fail
  go_region
  · have HS := Lib.hid (sum_made1 W w p a (nq + 1))
    go_wp2_with fail
    refine (each_f _ HB.out _).mono ?_
    rintro e w1 ⟨rfl, hb1⟩
    have h1 := HS.out.later hb1
    have c1 := h1.check.cell
    have HB1 := Lib.hid h1.below
    clear h1 hb1
    go_wp2
    go_ret2
    exact ⟨rfl, HB1.out⟩
  · have HS := Lib.hid (sum_made2 W w p a (nq + 1))
    go_wp2_with fail
    refine (each_f _ HB.out _).mono ?_
    rintro e w1 ⟨rfl, hb1⟩
    have h1 := HS.out.later hb1
    have c1 := h1.check.cell
    have HB1 := Lib.hid h1.below
    clear h1 hb1
    go_wp2
    go_ret2
    exact ⟨rfl, HB1.out⟩

/-! ### Crc -/
theorem kcrc_t {s : ByteArray} {n : Nat} (hn : feedC 15 17817 0 (toB (byL s)) = n) (hb : bitsB (byL s) = true) (W : World) :
    Calls Tryd.prog 38 #[.string s] W fun e w' => e = .returned (.int .i64 n) ∧ Below W.heap.size W w' := by
  have HN := Lib.hid hn
  have HB := Lib.hid hb
  clear hn hb
  go_enter Tryd.func38, Tryd.ntmps38
  go_wp2_with fail
  refine (ksum_t (w := 15) (p := 17817) HN.out HB.out (by decide) (by decide) (by decide) _).mono ?_
  rintro e w1 ⟨rfl, hb1⟩
  go_wp2
  go_ret
  exact ⟨rfl, hb1⟩
theorem kcrc_f {s : ByteArray} (hb : bitsB (byL s) = false) (W : World) :
    Calls Tryd.prog 38 #[.string s] W fun e w' => e = .returned (.int .i64 (-1)) ∧ Below W.heap.size W w' := by
  have HB : Hid ((bitsB (byL s) && rightC 15 17817) = false) := Lib.hid (by rw [hb]; rfl)
  clear hb
  go_enter Tryd.func38, Tryd.ntmps38
  go_wp2_with fail
  refine (ksum_f HB.out _).mono ?_
  rintro e w1 ⟨rfl, hb1⟩
  go_wp2
  go_ret
  exact ⟨rfl, hb1⟩

/-! ### Number -/
structure NumSt (B n : Nat) (w0 wr : World) : Prop where
  below : Below B w0 wr
  num : Box wr B (.int .i64 n) 3
  le : B ≤ w0.heap.size
theorem NumSt.alloc {B n : Nat} {w0 wr : World} (h : NumSt B n w0 wr) (o : Obj) : NumSt B n w0 (wr.alloc o) := ⟨h.below.alloc (Nat.le_trans h.le h.below.size) _, h.num.alloc o, h.le⟩
theorem NumSt.later {B n : Nat} {w0 wr w' : World} (h : NumSt B n w0 wr) (hb : Below wr.heap.size wr w') : NumSt B n w0 w' := ⟨h.below.trans (hb.mono (Nat.le_trans h.le h.below.size)), h.num.below hb h.num.lt, h.le⟩
theorem NumSt.iterAt {B n i q r : Nat} {w0 wr : World} {s : ByteArray} (h : NumSt B n w0 wr) (hi : wr.heap[i]? = some (.stringIter s q)) (hB : B ≤ i) : NumSt B n w0 (wr.iterAt i s r) := ⟨Lib.below_iterAt h.below hB s r, h.num.iterAt hi, h.le⟩
theorem NumSt.stored {B n m : Nat} {w0 wr : World} (h : NumSt B n w0 wr) : NumSt B m w0 (wr.setCell ⟨B, 0, none⟩ (.int .i64 m)) := ⟨(Upd.setL B B wr _).below h.below (Nat.le_refl _) (Nat.le_refl _), h.num.set _, h.le⟩
theorem num_keepsI {B n : Nat} {w0 wr : World} (h : NumSt B n w0 wr) (k : Nat) (u : Value) : KeepsI k wr (wr.setCell ⟨B, 0, none⟩ u) := (Upd.setL B B wr u).keepsI h.num h.num k
theorem or_bit (n : Nat) (b : Bool) (hn : n < 1152921504606846976) : bits .or .i64 ((n : Int) * 2) (bitN b) = ((2 * n + (if b = true then 1 else 0) : Nat) : Int) := by
  have e : (n : Int) * 2 = ((2 * n : Nat) : Int) := by omega
  rw [e]
  cases b
  · rw [show bitN false = ((0 : Nat) : Int) from rfl, i64_or _ _ (by omega) (by decide)]; simp
  · rw [show bitN true = ((1 : Nat) : Int) from rfl, i64_or _ _ (by omega) (by decide)]
    have := Nat.two_pow_add_eq_or_of_lt (i := 1) (b := 1) (by decide) n
    simp at this ⊢
    omega
set_option maxHeartbeats 2000000 in
theorem numC_v {B n k : Nat} {b : Bool} {w0 wr : World} (hn : n < 1152921504606846976) (h : NumSt B n w0 wr) :
    Calls Tryd.prog 78 #[.int .i64 (bitN b), .pointer (some ⟨B, 0, none⟩)] wr (EachStep k wr (NumSt B (2 * n + (if b = true then 1 else 0)) w0)) := by
  have H := Lib.hid h
  have c1 := h.num.cell
  have f1 := h.num.live
  have HO := Lib.hid (or_bit n b hn)
  have hob : ∀ x, bitN b = x → bits .or .i64 ((n : Int) * 2) x = ((2 * n + (if b = true then 1 else 0) : Nat) : Int) := fun x hx => by rw [← hx]; exact HO.out
  have hb := hob _ rfl
  obtain ⟨m, hm⟩ : ∃ m, (2 * n + (if b = true then 1 else 0) : Nat) = m := ⟨_, rfl⟩
  rw [hm] at hb ⊢
  generalize bitN b = x at hb ⊢
  clear h hob HO hm
  go_enter Tryd.func78, Tryd.ntmps78
  go_wp2
  go_end0
  exact ⟨rfl, num_keepsI H.out k _, H.out.stored⟩
theorem numA_take_lt (L : List Bool) (k : Nat) (h : L.length ≤ 60) (hk : k < L.length) : numA 0 (L.take k) < 1152921504606846976 := by
  have h1 := numA_lt (L.take k) 0 0 (by decide)
  have h2 : 2 ^ (0 + (L.take k).length) ≤ 2 ^ 60 := Nat.pow_le_pow_right (by decide) (by rw [List.length_take]; omega)
  omega
theorem num_each {B n : Nat} {s : ByteArray} {w0 wr : World} (hn : numA 0 (toB (byL s)) = n) (hb : bitsB (byL s) = true) (hs : s.size ≤ 60) (h : NumSt B 0 w0 wr) :
    Calls Tryd.prog 67 #[.string s, .func (.func 78) #[] #[.pointer (some ⟨B, 0, none⟩)]] wr fun e w' => e = .returned (.bool true) ∧ NumSt B n w0 w' := by
  have hle : B ≤ wr.heap.size := Nat.le_trans h.le h.below.size
  refine (each_t 78 _ (enters_of Tryd.func78 (by kernel_rfl) rfl) hb (fun pos wx => NumSt B (numA 0 (toB ((byL s).take pos))) w0 wx) wr
    (fun w1 hb1 => (h.later hb1).alloc _) (fun k pos q w1 hk h1 hi => h1.iterAt hi (Nat.le_trans hle hk)) ?_).mono ?_
  · intro k pos w1 b hk hps hbt h1
    obtain ⟨b', hb', ht⟩ := bt_bit hb hps
    obtain rfl : b = b' := bitC_inj.1 (hbt.symm.trans hb')
    have hl := numA_take_lt (toB (byL s)) pos (by rw [toB_len, byL_len]; exact hs) (by rw [toB_len, byL_len]; exact hps)
    have e : (toB (byL s)).take pos = toB ((byL s).take pos) := by unfold toB; rw [List.map_take]
    rw [e] at hl
    rw [ht, numA_app]
    exact numC_v hl h1
  · rintro e w' ⟨rfl, h1⟩
    rw [List.take_of_length_le (by rw [byL_len]; omega), hn] at h1
    exact ⟨rfl, h1⟩
theorem num_made (W : World) : NumSt W.heap.size 0 W (W.alloc (Obj.cells #[Value.int IntKind.i64 0] 3)) := ⟨(Below.refl _ W).alloc (Nat.le_refl _) _, Box.made W (.int .i64 0) 3 rfl, Nat.le_refl _⟩
set_option maxHeartbeats 2000000 in
theorem knum_t {s : ByteArray} {n : Nat} (hn : numA 0 (toB (byL s)) = n) (h : numOk (byL s) = true) (W : World) :
    Calls Tryd.prog 73 #[.string s] W fun e w' => e = .returned (.tuple #[.int .i64 n, .bool true]) ∧ Below W.heap.size W w' := by
  unfold numOk at h
  rw [Bool.and_eq_true, decide_eq_true_eq, byL_len] at h
  have HB := Lib.hid h.1
  have HS := Lib.hid h.2
  have hs : (s.size : Int) ≤ 60 := by have := h.2; omega
  have HN := Lib.hid hn
  have HM := Lib.hid (num_made W)
  have hmf : ∀ (fn : Fn) (first cap : Array Value) (w : World), (Instr.makeFunc fn first cap).run Tryd.prog w = .ok (.func fn first cap) w := fun _ _ _ _ => rfl
  clear h hn
  go_enter Tryd.func73, Tryd.ntmps73
  go_wp2_with fail
  refine (num_each HN.out HB.out HS.out HM.out).mono ?_
  rintro e w1 ⟨rfl, h1⟩
  have c1 := h1.num.cell
  have HB1 := Lib.hid h1.below
  clear h1
  go_wp2
  go_ret2
  exact ⟨rfl, HB1.out⟩
set_option maxHeartbeats 2000000 in
theorem knum_f {s : ByteArray} (h : numOk (byL s) = false) (W : World) :
    Calls Tryd.prog 73 #[.string s] W fun e w' => e = .returned (.tuple #[.int .i64 0, .bool false]) ∧ Below W.heap.size W w' := by
  have hmf : ∀ (fn : Fn) (first cap : Array Value) (w : World), (Instr.makeFunc fn first cap).run Tryd.prog w = .ok (.func fn first cap) w := fun _ _ _ _ => rfl
  by_cases hs : 60 < s.size
  · have hd : decide (60 < (s.size : Int)) = true := by simp; omega
    clear h
    go_enter Tryd.func73, Tryd.ntmps73
    go_wp2
    go_ret2
    exact ⟨rfl, Below.refl _ _⟩
  · have HB : Hid (bitsB (byL s) = false) := Lib.hid (by
      unfold numOk at h
      rw [byL_len, decide_eq_true (show s.size ≤ 60 by omega), Bool.and_true] at h
      exact h)
    have HM := Lib.hid (num_made W)
    have hs2 : (s.size : Int) ≤ 60 := by omega
    clear h hs
    go_enter Tryd.func73, Tryd.ntmps73
    go_wp2_with fail
    refine (each_f _ HB.out _).mono ?_
    rintro e w1 ⟨rfl, hb1⟩
    have h1 := HM.out.later hb1
    have c1 := h1.num.cell
    have HB1 := Lib.hid h1.below
    clear h1 hb1
    go_wp2
    go_ret2
    exact ⟨rfl, HB1.out⟩

end Go.Proofs.YtfooigckcjbegaaDoor

namespace Go.Proofs.YtfooigckcjbegaaDoor
open Go.RowKit
set_option linter.unusedVariables false

theorem kbits_no {n w : Int} (h : n < 0 ∨ w < 0 ∨ 60 < w) (W : World) :
    Calls Tryd.prog 35 #[.int .i64 n, .int .i64 w] W fun e w' => e = .returned (.string (ByteArray.mk #[])) ∧ W = w' := by
  by_cases h0 : n < 0
  · go_enter Tryd.func35, Tryd.ntmps35
    go_wp2
    go_ret
    exact ⟨rfl, rfl⟩
  · by_cases h1 : w < 0
    · go_enter Tryd.func35, Tryd.ntmps35
      go_wp2
      go_ret
      exact ⟨rfl, rfl⟩
    · have h2 : 60 < w := by omega
      go_enter Tryd.func35, Tryd.ntmps35
      go_wp2
      go_ret
      exact ⟨rfl, rfl⟩

theorem bitsT_take (n : Nat) : ∀ (m k : Nat), k < m → (bitsT n m).take (k + 1) = (bitsT n m).take k ++ [n.testBit (m - 1 - k)]
  | 0, k, h => by omega
  | m + 1, 0, _ => by simp [bitsT]
  | m + 1, k + 1, h => by
    simp only [bitsT, List.take_succ_cons, List.cons_append]
    rw [bitsT_take n m k (by omega), show m + 1 - 1 - (k + 1) = m - 1 - k by omega]
theorem bitsI_take (n : Nat) {m k : Nat} (h : k < m) : (bitsI n m).take (k + 1) = (bitsI n m).take k ++ [bitC (n.testBit (m - 1 - k))] := by
  unfold bitsI
  rw [← List.map_take, bitsT_take n m k h, List.map_append, List.map_take]
  rfl
theorem low_bit (n j : Nat) (hn : n < 9223372036854775808) : bits .and .i64 ((n : Int) / 2 ^ j) 1 = bitN (n.testBit j) := by
  have e : (n : Int) / 2 ^ j = ((n / 2 ^ j : Nat) : Int) := by simp
  have h1 := i64_and (n / 2 ^ j) 1 (Nat.lt_of_le_of_lt (Nat.div_le_self _ _) hn) (by decide)
  rw [Nat.and_one_is_mod] at h1
  rw [e, show (1 : Int) = ((1 : Nat) : Int) from rfl, h1, Nat.testBit_eq_decide_div_mod_eq]
  rcases Nat.mod_two_eq_zero_or_one (n / 2 ^ j) with h | h <;> rw [h] <;> rfl
theorem OutSt.wrote {B b : Nat} {O O' : List Int} {w0 w w' : World} (h : OutSt B b O w0 w) (hI : Lib.BuilderAtF 56 5 B b (.pointer (some ⟨b, 0, none⟩)) (O'.map (Value.int .u8)) w') (hb : Below B w w') : OutSt B b O' w0 w' :=
  ⟨h.below.trans hb, .inr hI, h.le⟩
theorem out_made (W : World) : OutSt W.heap.size W.heap.size [] W (W.alloc (.cells #[.pointer none, .slice none 0 0] 56)) := ⟨(Below.refl _ W).alloc (Nat.le_refl _) _, .of (Lib.fresh_isBuilder _ _ W), Nat.le_refl _⟩

set_option maxHeartbeats 2000000 in
theorem kbits_t {n m : Nat} {t : ByteArray} (h : strOfNums (bitsI n m) = t) (hn : n < 9223372036854775808) (hm : m ≤ 60) (W : World) :
    Calls Tryd.prog 35 #[.int .i64 n, .int .i64 m] W fun e w' => e = .returned (.string t) ∧ Below W.heap.size W w' := by
  have H := Lib.hid h
  have HO := Lib.hid (out_made W)
  clear h
  go_enter Tryd.func35, Tryd.ntmps35
  go_wp2
  go_loopw [19] (fun i wr => ∃ k : Nat, k ≤ m ∧ i = .int .i64 k ∧ Hid (OutSt W.heap.size W.heap.size ((bitsI n m).take k) W wr)) (fun i _ => m - (intOf i).toNat)
  case atStart => exact ⟨0, Nat.zero_le _, rfl, HO⟩
  case round =>
    obtain ⟨k, hk, rfl, HI⟩ := hrel
    by_cases hlt : k < m
    · have hv := low_bit n (m - 1 - k) hn
      have HT := Lib.hid (bitsI_take n hlt)
      have hlen : ((bitsI n m).take k).length ≤ 60 := by rw [List.length_take, bitsI_len]; omega
      generalize (bitsI n m).take k = L at HI HT hlen
      have HLN : Hid ((L.map (Value.int .u8)).length + 1 ≤ 140737488355328) := Lib.hid (by rw [List.length_map]; omega)
      generalize n.testBit (m - 1 - k) = b at hv HT
      cases b
      · simp only [show bitN false = 0 from rfl] at hv
        go_wp2_with fail
        refine (dwbyte_k W.heap.size W.heap.size _ 48 _ HI.out.bld HLN.out HI.out.hB).mono ?_
        rintro e w1 ⟨rfl, hI, hb, _⟩
        have HO2 : Hid (OutSt W.heap.size W.heap.size (L ++ [48]) W w1) := Lib.hid (HI.out.wrote (by rw [List.map_append]; exact hI) hb)
        clear hI hb
        go_wp2
        go_roundw
        case rel => exact ⟨k + 1, by omega, by go_num, by rw [HT.out]; exact HO2⟩
        case measure => simp [intOf]; omega
      · simp only [show bitN true = 1 from rfl] at hv
        go_wp2_with fail
        refine (dwbyte_k W.heap.size W.heap.size _ 49 _ HI.out.bld HLN.out HI.out.hB).mono ?_
        rintro e w1 ⟨rfl, hI, hb, _⟩
        have HO2 : Hid (OutSt W.heap.size W.heap.size (L ++ [49]) W w1) := Lib.hid (HI.out.wrote (by rw [List.map_append]; exact hI) hb)
        clear hI hb
        go_wp2
        go_roundw
        case rel => exact ⟨k + 1, by omega, by go_num, by rw [HT.out]; exact HO2⟩
        case measure => simp [intOf]; omega
    · obtain rfl : k = m := by omega
      have HL : Hid (Lib.IsBuilderF 56 5 W.heap.size W.heap.size (Lib.byteCells t.data.toList) wr) := Lib.hid (by
        have h1 := HI.out.bld
        rw [List.take_of_length_le (by rw [bitsI_len]; omega), bcells (isBy_bits (bitsI_bits n k)), H.out] at h1
        exact h1)
      go_wp2_with fail
      refine (dstring_k _ _ _ _ HL.out HI.out.hB).mono ?_
      rintro e w2 ⟨rfl, _, hb, _⟩
      rw [str_list]
      go_wp2
      go_ret
      exact ⟨rfl, HI.out.below.trans hb⟩

/-! ### Add -/
theorem addI_by : ∀ A B : List Int, isBy (addI A B)
  | [], _ => fun x hx => by simp [addI] at hx
  | _ :: _, [] => fun x hx => by simp [addI] at hx
  | a :: A, b :: B => fun x hx => by
    unfold addI at hx
    rw [List.zipWith_cons_cons] at hx
    rcases List.mem_cons.1 hx with rfl | hx
    · split <;> decide
    · exact addI_by A B x hx
end Go.Proofs.YtfooigckcjbegaaDoor

namespace Go.Proofs.YtfooigckcjbegaaDoor
open Go.RowKit
set_option linter.unusedVariables false

set_option maxRecDepth 100000 in
theorem ex_num : numA 0 (toB (byL (ByteArray.mk #[48, 49, 48, 49]))) = 5 := by decide +kernel
set_option maxRecDepth 100000 in
theorem ex_ok : numOk (byL (ByteArray.mk #[48, 49, 48, 49])) = true := by decide +kernel
set_option maxRecDepth 100000 in
theorem ex_crc : feedC 15 17817 0 (toB (byL (ByteArray.mk #[49]))) = 17817 := by decide +kernel
set_option maxRecDepth 100000 in
theorem ex_one : bitsB (byL (ByteArray.mk #[49])) = true := by decide +kernel
set_option maxRecDepth 100000 in
theorem ex_two : bitsB (byL (ByteArray.mk #[50])) = false := by decide +kernel
set_option maxRecDepth 100000 in
theorem ex_bits : strOfNums (bitsI 5 4) = ByteArray.mk #[48, 49, 48, 49] := by decide +kernel

theorem rightC_nat {w p : Int} (h : rightC w p = true) : ∃ w' p' : Nat, w = w' ∧ p = p' ∧ 1 ≤ w' ∧ w' ≤ 30 ∧ p' < 2 ^ w' := by
  unfold rightC at h
  simp only [Bool.and_eq_true, decide_eq_true_eq] at h
  obtain ⟨⟨⟨h1, h2⟩, h3⟩, h4⟩ := h
  obtain ⟨w, rfl⟩ := Int.eq_ofNat_of_zero_le (show 0 ≤ w by omega)
  obtain ⟨p, rfl⟩ := Int.eq_ofNat_of_zero_le h3
  rw [Int.toNat_natCast] at h4
  exact ⟨w, p, rfl, rfl, by omega, by omega, Int.ofNat_lt.1 h4⟩

end Go.Proofs.YtfooigckcjbegaaDoor

namespace Go.Proofs.YtfooigckcjbegaaDoor
open Go.RowKit
set_option linter.unusedVariables false

theorem bitsT_zero : ∀ k : Nat, bitsT 0 k = List.replicate k false
  | 0 => rfl
  | k + 1 => by rw [bitsT, bitsT_zero k, List.replicate_succ, Nat.zero_testBit]
theorem toB_bitsI (n w : Nat) : toB (bitsI n w) = bitsT n w := by unfold bitsI; exact toB_C _
theorem bitsB_append {s t : ByteArray} (hs : bitsB (byL s) = true) (ht : bitsB (byL t) = true) : bitsB (byL (s ++ t)) = true := by rw [byL_app, bitsB_app, hs, ht]; rfl
theorem none_left {s t : ByteArray} {w p n : Nat} (hn : feedC w p 0 (toB (byL s)) = n) (ht : strOfNums (bitsI n w) = t) (hp : p < 2 ^ w) : feedC w p 0 (toB (byL (s ++ t))) = 0 := by
  rw [byL_app, toB_app, feedC_app, hn, ← ht, byL_nums (isBy_bits (bitsI_bits n w)), toB_bitsI]
  exact feed_bits (by rw [← hn]; exact feed_lt hp _ 0 (Nat.two_pow_pos w))
theorem ahead_left {s t : ByteArray} {w p k : Nat} (ht : strOfNums (bitsI 0 k) = t) : feedC w p 0 (toB (byL (t ++ s))) = feedC w p 0 (toB (byL s)) := by
  rw [byL_app, toB_app, feedC_app, ← ht, byL_nums (isBy_bits (bitsI_bits 0 k)), toB_bitsI, bitsT_zero, feed_zeros]

theorem bitsI_str {n w : Nat} {t : ByteArray} (ht : strOfNums (bitsI n w) = t) : t.size = w ∧ bitsB (byL t) = true := by
  subst ht
  exact ⟨by rw [numsz, bitsI_len], by rw [byL_nums (isBy_bits (bitsI_bits n w))]; exact bitsI_bits n w⟩

theorem toB_addI : ∀ {A B : List Int}, bitsB A = true → bitsB B = true → toB (addI A B) = List.zipWith (fun a b => a ^^ b) (toB A) (toB B)
  | [], _, _, _ => rfl
  | _ :: _, [], _, _ => rfl
  | a :: A, b :: B, hA, hB => by
    rw [bitsB_cons, Bool.and_eq_true] at hA hB
    have ih := toB_addI hA.2 hB.2
    unfold toB addI at ih ⊢
    simp only [List.zipWith_cons_cons, List.map_cons, ih]
    congr 1
    rcases (isBit_iff a).1 hA.1 with rfl | rfl <;> rcases (isBit_iff b).1 hB.1 with rfl | rfl <;> rfl
theorem addI_bits : ∀ A B : List Int, bitsB (addI A B) = true
  | [], _ => rfl
  | _ :: _, [] => rfl
  | a :: A, b :: B => by
    unfold addI
    rw [List.zipWith_cons_cons, bitsB_cons]
    have := addI_bits A B
    unfold addI at this
    rw [this, Bool.and_true]
    split <;> rfl
theorem add_str {a b t : ByteArray} (ha : bitsB (byL a) = true) (hb : bitsB (byL b) = true) (hl : a.size = b.size) (ht : strOfNums (addI (byL a) (byL b)) = t) :
    (if addOk (byL a) (byL b) then strOfNums (addI (byL a) (byL b)) else ByteArray.mk #[]) = t ∧ byL t = addI (byL a) (byL b) ∧ bitsB (byL t) = true ∧ t.size = a.size := by
  have h1 : byL t = addI (byL a) (byL b) := by rw [← ht, byL_nums (addI_by _ _)]
  refine ⟨?_, h1, by rw [h1]; exact addI_bits _ _, ?_⟩
  · unfold addOk
    rw [ha, hb, byL_len, byL_len, decide_eq_true hl]
    exact ht
  · rw [← byL_len t, h1]
    unfold addI
    rw [List.length_zipWith, byL_len, byL_len]; omega

end Go.Proofs.YtfooigckcjbegaaDoor

namespace Go.Proofs.YtfooigckcjbegaaDoor
open Go.RowKit
set_option linter.unusedVariables false

def bitsS (n w : Int) : ByteArray := if 0 ≤ n ∧ 0 ≤ w ∧ w ≤ 60 then strOfNums (bitsI n.toNat w.toNat) else ByteArray.mk #[]
theorem kbits_v {n w : Int} {t : ByteArray} (h : bitsS n w = t) (hn : n < 9223372036854775808) (W : World) :
    Calls Tryd.prog 35 #[.int .i64 n, .int .i64 w] W fun e w' => e = .returned (.string t) ∧ Below W.heap.size W w' := by
  unfold bitsS at h
  split at h
  · rename_i hc
    obtain ⟨a, rfl⟩ := Int.eq_ofNat_of_zero_le hc.1
    obtain ⟨m, rfl⟩ := Int.eq_ofNat_of_zero_le hc.2.1
    rw [Int.toNat_natCast, Int.toNat_natCast] at h
    exact kbits_t h (by omega) (by omega) W
  · refine (kbits_no (by omega) W).mono ?_
    rintro e w' ⟨rfl, rfl⟩
    exact ⟨by rw [h], Below.refl _ _⟩
theorem cbits_v {n w : Int} {t : ByteArray} (h : bitsS n w = t) (hn : n < 9223372036854775808) (W : World) :
    Calls Tryd.prog 26 #[.int .i64 n, .int .i64 w] W fun e w' => e = .returned (.string t) ∧ Below W.heap.size W w' := by
  unfold bitsS at h
  split at h
  · rename_i hc
    obtain ⟨a, rfl⟩ := Int.eq_ofNat_of_zero_le hc.1
    obtain ⟨m, rfl⟩ := Int.eq_ofNat_of_zero_le hc.2.1
    rw [Int.toNat_natCast, Int.toNat_natCast] at h
    exact cbits_t h (by omega) (by omega) W
  · refine (cbits_no (by omega) W).mono ?_
    rintro e w' ⟨rfl, rfl⟩
    exact ⟨by rw [h], Below.refl _ _⟩
def numR (L : List Int) : Nat × Bool := if numOk L then (numA 0 (toB L), true) else (0, false)
theorem knum_v {s : ByteArray} {n : Nat} {q : Bool} (h : numR (byL s) = (n, q)) (W : World) :
    Calls Tryd.prog 73 #[.string s] W fun e w' => e = .returned (.tuple #[.int .i64 n, .bool q]) ∧ Below W.heap.size W w' := by
  unfold numR at h
  cases hk : numOk (byL s)
  · rw [hk] at h
    cases h
    exact knum_f hk W
  · rw [hk] at h
    injection h with h1 h2
    subst h2
    exact knum_t h1 hk W
theorem cnum_v {s : ByteArray} {n : Nat} {q : Bool} (h : numR (byL s) = (n, q)) (hs : s.size ≤ maxLen) (W : World) :
    Calls Tryd.prog 46 #[.string s] W fun e w' => e = .returned (.tuple #[.int .i64 n, .bool q]) ∧ W = w' := by
  unfold numR at h
  cases hk : numOk (byL s)
  · rw [hk] at h
    cases h
    exact cnum_f hk hs W
  · rw [hk] at h
    injection h with h1 h2
    subst h2
    exact cnum_t h1 hk W
theorem num_of_bits {n m : Nat} {t : ByteArray} (ht : strOfNums (bitsI n m) = t) (hm : m ≤ 60) (hn : n < 2 ^ m) : numR (byL t) = (n, true) := by
  have hb : byL t = bitsI n m := by rw [← ht, byL_nums (isBy_bits (bitsI_bits n m))]
  have hk : numOk (byL t) = true := by
    unfold numOk
    rw [hb, bitsI_bits, bitsI_len, decide_eq_true hm]; rfl
  unfold numR
  rw [if_pos hk, hb, toB_bitsI, num_bits hn]
theorem bits_of_num {s : ByteArray} {n : Nat} (h : numR (byL s) = (n, true)) : bitsS n s.size = s ∧ n < 9223372036854775808 := by
  unfold numR at h
  cases hk : numOk (byL s)
  · rw [hk] at h; cases h
  · rw [hk] at h
    injection h with h1 h2
    unfold numOk at hk
    rw [Bool.and_eq_true, decide_eq_true_eq, byL_len] at hk
    have h3 := numA_lt (toB (byL s)) 0 0 (by decide)
    have h4 : 2 ^ (0 + (toB (byL s)).length) ≤ 2 ^ 60 := Nat.pow_le_pow_right (by decide) (by rw [toB_len, byL_len]; omega)
    have h5 := bits_num (toB (byL s)) 0
    rw [h1] at h3 h5
    rw [toB_len, byL_len] at h5
    refine ⟨?_, by omega⟩
    unfold bitsS
    rw [if_pos (by omega), Int.toNat_natCast, Int.toNat_natCast]
    unfold bitsI
    rw [h5, C_toB hk.1, nums_byL]

end Go.Proofs.YtfooigckcjbegaaDoor

namespace Go.Proofs.YtfooigckcjbegaaDoor
open Go.RowKit
set_option linter.unusedVariables false

/-! ### cuts -/
theorem cut_mid {s : ByteArray} {k l : Nat} (h : k + l ≤ s.size) (w : World) : (Instr.sliceAt 9 (.string s) (some (.int .i64 (k : Int))) (some (.int .i64 ((k : Int) + (l : Int)))) none).run Tryd.prog w = .ok (.string (s.extract k (k + l))) w := by
  have e0 : 0 ≤ (k : Int) + (l : Int) := by omega
  have e1 : (k : Int) ≤ (k : Int) + (l : Int) := by omega
  have e2 : (k : Int) + (l : Int) ≤ (s.size : Int) := by omega
  have e3 : ((k : Int) + (l : Int)).toNat = k + l := by omega
  simp [go_sem, e1, e2, e3]
theorem cut_rest {s : ByteArray} {k l : Nat} (h : k + l ≤ s.size) (w : World) : (Instr.sliceAt 9 (.string s) (some (.int .i64 ((k : Int) + (l : Int)))) none none).run Tryd.prog w = .ok (.string (s.extract (k + l) s.size)) w := by
  have e0 : 0 ≤ (k : Int) + (l : Int) := by omega
  have e2 : (k : Int) + (l : Int) ≤ (s.size : Int) := by omega
  have e3 : ((k : Int) + (l : Int)).toNat = k + l := by omega
  simp [go_sem, e0, e2, e3]
theorem parts_of {s : ByteArray} {k l : Nat} (h : k + l ≤ s.size) : byL s = byL (s.extract 0 k) ++ byL (s.extract k (k + l)) ++ byL (s.extract (k + l) s.size) := by
  rw [byL_extract, byL_extract, byL_extract, List.drop_zero, List.take_of_length_le (l := byL s) (i := s.size) (by rw [byL_len]; omega), List.drop_take, show k + l - k = l by omega]
  rw [List.append_assoc, ← List.drop_drop, List.take_append_drop, List.take_append_drop]

theorem toB_inj {A B : List Int} (hA : bitsB A = true) (hB : bitsB B = true) (h : toB A = toB B) : A = B := by rw [← C_toB hA, ← C_toB hB, h]
/-- what is turned: a text and one turned in its midst -/
theorem finds_iff {s t A B X C : ByteArray} {w p : Nat} (hw : 1 ≤ w) (ho : p % 2 = 1) (hp : p < 2 ^ w) (hs : byL s = byL A ++ byL B ++ byL C) (ht : byL t = byL A ++ byL X ++ byL C) (hb : bitsB (byL B) = true) (hx : bitsB (byL X) = true)
    (hl : B.size = X.size) (hlw : B.size ≤ w) : feedC w p 0 (toB (byL s)) = feedC w p 0 (toB (byL t)) ↔ s = t := by
  rw [hs, ht, toB_app, toB_app, toB_app, toB_app, feed_found hw ho hp _ _ _ _ (by rw [toB_len, toB_len, byL_len, byL_len, hl]) (by rw [toB_len, byL_len]; exact hlw)]
  constructor
  · intro h
    apply byL_inj
    rw [hs, ht, toB_inj hb hx h]
  · intro h
    subst h
    have h2 : byL A ++ byL B ++ byL C = byL A ++ byL X ++ byL C := hs.symm.trans ht
    rw [List.append_assoc, List.append_assoc] at h2
    have h3 := List.append_cancel_right (List.append_cancel_left h2)
    rw [h3]
theorem bits_parts {A B C : List Int} (h : bitsB (A ++ B ++ C) = true) : bitsB A = true ∧ bitsB B = true ∧ bitsB C = true := by
  rw [bitsB_app, bitsB_app, Bool.and_eq_true, Bool.and_eq_true] at h
  exact ⟨h.1.1, h.1.2, h.2⟩
theorem beq_nat (a b : Nat) : ((a : Int) == (b : Int)) = decide (a = b) := by
  rw [Bool.eq_iff_iff]; simp; omega
theorem ext_size {s : ByteArray} {k l : Nat} (h : k + l ≤ s.size) : (s.extract k (k + l)).size = l := by rw [← byL_len, byL_extract, List.length_drop, List.length_take, byL_len]; omega

end Go.Proofs.YtfooigckcjbegaaDoor

namespace Go.Proofs.YtfooigckcjbegaaDoor
open Go.RowKit
set_option linter.unusedVariables false

/-- one place is turned, and no other one -/
def One : List Int → List Int → Prop
  | x :: T, y :: T' => (y = oth x ∧ T = T') ∨ (x = y ∧ One T T')
  | _, _ => False
theorem One.cons {x : Int} {T T' : List Int} (hx : isBit x = true) (h : One (x :: T) (x :: T')) : One T T' := by
  rcases h with ⟨h, _⟩ | ⟨_, h⟩
  · exact absurd h.symm (oth_ne hx)
  · exact h
theorem One.turned {x : Int} {T T' : List Int} (hx : isBit x = true) (h : One (x :: T) (oth x :: T')) : T = T' := by
  rcases h with ⟨_, h⟩ | ⟨h, _⟩
  · exact h
  · exact absurd h.symm (oth_ne hx)
theorem One.irr : ∀ {T : List Int}, bitsB T = true → ¬ One T T
  | [], _, h => h
  | x :: T, hb, h => by
    rw [bitsB_cons, Bool.and_eq_true] at hb
    exact One.irr hb.2 (h.cons hb.1)
theorem One.at_ : ∀ (A B : List Int) (x : Int), One (A ++ x :: B) (A ++ oth x :: B)
  | [], B, x => .inl ⟨rfl, rfl⟩
  | a :: A, B, x => .inr ⟨rfl, One.at_ A B x⟩

theorem stG_five {p : Int × Nat} {x : Int} (h : (nxt p x).2 = 5) (L : List Int) : stG p (x :: L) = x :: oth x :: stG (oth x, 1) L := by rw [stG, if_pos h]
theorem stG_less {p : Int × Nat} {x : Int} (h : (nxt p x).2 ≠ 5) (L : List Int) : stG p (x :: L) = x :: stG (nxt p x) L := by rw [stG, if_neg h]
theorem stG_head {p : Int × Nat} {x : Int} (L : List Int) : ∃ T, stG p (x :: L) = x :: T := by
  by_cases h : (nxt p x).2 = 5
  · exact ⟨_, stG_five h L⟩
  · exact ⟨_, stG_less h L⟩
theorem stG_inj {p : Int × Nat} {L L' : List Int} (hp : p.2 ≤ 4) (hL : bitsB L = true) (hL' : bitsB L' = true) (h : stG p L = stG p L') : L = L' := by
  have h1 := unA_stG L [] p 0 hp hL
  have h2 := unA_stG L' [] p 0 hp hL'
  rw [h, h2] at h1
  simpa using h1.symm
theorem stG_cons {p : Int × Nat} {x : Int} {T : List Int} : ∀ {L : List Int}, stG p L = x :: T → ∃ M, L = x :: M
  | [], h => by simp [stG] at h
  | y :: M, h => by
    obtain ⟨T', h'⟩ := stG_head (p := p) (x := y) M
    rw [h'] at h
    injection h with h1
    exact ⟨M, by rw [h1]⟩
theorem stG_nil {p : Int × Nat} : ∀ {L : List Int}, stG p L = [] → L = []
  | [], _ => rfl
  | y :: M, h => by
    obtain ⟨T', h'⟩ := stG_head (p := p) (x := y) M
    rw [h'] at h
    cases h
theorem nxt_same (c : Int) (j : Nat) : nxt (c, j) c = (c, j + 1) := by unfold nxt; rw [if_pos rfl]
theorem nxt_not {c x : Int} (j : Nat) (h : x ≠ c) : nxt (c, j) x = (x, 1) := by unfold nxt; rw [if_neg h]
theorem bit_other {x y : Int} (hx : isBit x = true) (hy : isBit y = true) (h : y ≠ x) : y = oth x := by
  rw [isBit_iff] at hx hy
  unfold oth
  omega

/-- two runs of one bit, the second one longer: they end alike, or the first one has one bit more -/
theorem run_diff : ∀ (L L' : List Int) (c : Int) (j d : Nat), isBit c = true → 1 ≤ d → j + d ≤ 4 → bitsB L = true → bitsB L' = true → stG (c, j) L = stG (c, j + d) L' →
    L = L' ∨ ∃ R S, R.length ≤ 5 - (j + d) ∧ L = R ++ oth c :: S ∧ L' = R ++ S
  | [], L', c, j, d, _, _, _, _, _, h => .inl (stG_nil h.symm).symm
  | x :: M, L', c, j, d, hc, hd, hj, hb, hb', h => by
    obtain ⟨T, hT⟩ := stG_head (p := (c, j)) (x := x) M
    obtain ⟨M', rfl⟩ := stG_cons (h.symm.trans hT)
    rw [bitsB_cons, Bool.and_eq_true] at hb hb'
    by_cases hx : x = c
    · subst hx
      have n1 : (nxt (x, j) x).2 ≠ 5 := by rw [nxt_same]; show j + 1 ≠ 5; omega
      rw [stG_less n1, nxt_same] at h
      by_cases h5 : j + d = 4
      · have n2 : (nxt (x, j + d) x).2 = 5 := by rw [nxt_same]; show j + d + 1 = 5; omega
        rw [stG_five n2] at h
        injection h with _ h
        obtain ⟨N, rfl⟩ := stG_cons h
        rw [bitsB_cons, Bool.and_eq_true] at hb
        have n3 : nxt (x, j + 1) (oth x) = (oth x, 1) := nxt_not _ (oth_ne hc)
        rw [stG_less (by rw [n3]; show 1 ≠ 5; omega), n3] at h
        injection h with _ h
        have := stG_inj (by show 1 ≤ 4; omega) hb.2.2 hb'.2 h
        subst this
        exact .inr ⟨[x], N, by simp; omega, rfl, rfl⟩
      · have n2 : (nxt (x, j + d) x).2 ≠ 5 := by rw [nxt_same]; show j + d + 1 ≠ 5; omega
        rw [stG_less n2, nxt_same] at h
        injection h with _ h
        rw [show j + d + 1 = j + 1 + d by omega] at h
        rcases run_diff M M' x (j + 1) d hc hd (by omega) hb.2 hb'.2 h with h | ⟨R, S, h1, h2, h3⟩
        · exact .inl (by rw [h])
        · exact .inr ⟨x :: R, S, by simp; omega, by rw [h2]; rfl, by rw [h3]; rfl⟩
    · have e1 : nxt (c, j) x = (x, 1) := nxt_not _ hx
      have e2 : nxt (c, j + d) x = (x, 1) := nxt_not _ hx
      rw [stG_less (by rw [e1]; show 1 ≠ 5; omega), stG_less (by rw [e2]; show 1 ≠ 5; omega), e1, e2] at h
      injection h with _ h
      exact .inl (by rw [stG_inj (by show 1 ≤ 4; omega) hb.2 hb'.2 h])

/-- runs of two bits: they end alike, or the one has one bit more -/
theorem diff_bits (L L' : List Int) (b : Int) (k : Nat) (hb : isBit b = true) (hk : k + 1 ≤ 4) (hL : bitsB L = true) (hL' : bitsB L' = true) (h : stG (b, k + 1) L = stG (oth b, 1) L') :
    L = L' ∨ L.length = L'.length + 1 ∨ L'.length = L.length + 1 := by
  cases L with
  | nil => exact .inl (stG_nil h.symm).symm
  | cons x M =>
    obtain ⟨T, hT⟩ := stG_head (p := (b, k + 1)) (x := x) M
    obtain ⟨M', rfl⟩ := stG_cons (h.symm.trans hT)
    rw [bitsB_cons, Bool.and_eq_true] at hL hL'
    by_cases hx : x = b
    · subst hx
      have e2 : nxt (oth x, 1) x = (x, 1) := nxt_not _ (fun e => oth_ne hb e.symm)
      rw [stG_less (p := (oth x, 1)) (by rw [e2]; show 1 ≠ 5; omega), e2] at h
      by_cases h5 : k + 1 = 4
      · rw [stG_five (by rw [nxt_same]; show k + 1 + 1 = 5; omega)] at h
        injection h with _ h
        obtain ⟨N, rfl⟩ := stG_cons h.symm
        rw [bitsB_cons, Bool.and_eq_true] at hL'
        have n3 : nxt (x, 1) (oth x) = (oth x, 1) := nxt_not _ (oth_ne hb)
        rw [stG_less (by rw [n3]; show 1 ≠ 5; omega), n3] at h
        injection h with _ h
        have := stG_inj (by show 1 ≤ 4; omega) hL.2 hL'.2.2 h
        subst this
        exact .inr (.inr (by simp))
      · rw [stG_less (by rw [nxt_same]; show k + 1 + 1 ≠ 5; omega), nxt_same] at h
        injection h with _ h
        rw [show k + 1 + 1 = 1 + (k + 1) by omega] at h
        rcases run_diff M' M x 1 (k + 1) hb (by omega) (by omega) hL'.2 hL.2 h.symm with h | ⟨R, S, h1, h2, h3⟩
        · exact .inl (by rw [h])
        · exact .inr (.inr (by rw [h2, h3]; simp; omega))
    · have hx2 := bit_other hb hL.1 hx
      subst hx2
      have e1 : nxt (b, k + 1) (oth b) = (oth b, 1) := nxt_not _ hx
      rw [stG_less (by rw [e1]; show 1 ≠ 5; omega), e1, stG_less (by rw [nxt_same]; show 1 + 1 ≠ 5; omega), nxt_same] at h
      injection h with _ h
      rcases run_diff M M' (oth b) 1 1 hL.1 (by omega) (by omega) hL.2 hL'.2 h with h | ⟨R, S, h1, h2, h3⟩
      · exact .inl (by rw [h])
      · exact .inr (.inl (by rw [h2, h3]; simp; omega))

/-- the one has one bit more, or they differ within five bits -/
def Near (L L' : List Int) : Prop :=
  L.length = L'.length + 1 ∨ L'.length = L.length + 1 ∨ ∃ P D D' S : List Int, L = P ++ D ++ S ∧ L' = P ++ D' ++ S ∧ D.length = D'.length ∧ D.length ≤ 5
theorem Near.cons {L L' : List Int} (x : Int) (h : Near L L') : Near (x :: L) (x :: L') := by
  rcases h with h | h | ⟨P, D, D', S, h1, h2, h3, h4⟩
  · exact .inl (by simp [h])
  · exact .inr (.inl (by simp [h]))
  · exact .inr (.inr ⟨x :: P, D, D', S, by rw [h1]; rfl, by rw [h2]; rfl, h3, h4⟩)
theorem Near.symm {L L' : List Int} (h : Near L L') : Near L' L := by
  rcases h with h | h | ⟨P, D, D', S, h1, h2, h3, h4⟩
  · exact .inr (.inl h)
  · exact .inl h
  · exact .inr (.inr ⟨P, D', D, S, h2, h1, h3.symm, by omega⟩)
/-- the fifth of a run is turned -/
theorem near_five {M M' : List Int} {x : Int} (hx : isBit x = true) (hM : bitsB M = true) (hM' : bitsB M' = true) (h : oth x :: stG (oth x, 1) M = stG (oth x, 1) M') : Near (x :: M) (oth x :: M') := by
  obtain ⟨N, rfl⟩ := stG_cons h.symm
  rw [bitsB_cons, Bool.and_eq_true] at hM'
  rw [stG_less (by rw [nxt_same]; show 1 + 1 ≠ 5; omega), nxt_same] at h
  injection h with _ h
  rcases run_diff M N (oth x) 1 1 (oth_bit hx) (by omega) (by omega) hM hM'.2 h with h | ⟨R, S, h1, h2, h3⟩
  · exact .inr (.inl (by rw [h]; simp))
  · rw [oth_oth] at h2
    exact .inr (.inr ⟨[], x :: (R ++ [x]), oth x :: oth x :: R, S, by rw [h2]; simp, by rw [h3]; simp, by simp, by simp; omega⟩)
theorem turn_stuff : ∀ (L L' : List Int) (p : Int × Nat), p.2 ≤ 4 → bitsB L = true → bitsB L' = true → One (stG p L) (stG p L') → Near L L'
  | [], _, _, _, _, _, h => by cases h
  | x :: M, [], p, _, _, _, h => by
    obtain ⟨T, hT⟩ := stG_head (p := p) (x := x) M
    rw [hT] at h
    cases h
  | x :: M, y :: M', p, hp, hb, hb', h => by
    rw [bitsB_cons, Bool.and_eq_true] at hb hb'
    by_cases hxy : y = x
    · subst hxy
      by_cases h5 : (nxt p y).2 = 5
      · rw [stG_five h5, stG_five h5] at h
        exact (turn_stuff M M' (oth y, 1) (by show 1 ≤ 4; omega) hb.2 hb'.2 ((h.cons hb.1).cons (oth_bit hb.1))).cons y
      · rw [stG_less h5, stG_less h5] at h
        have := nxt_le p y
        exact (turn_stuff M M' (nxt p y) (by omega) hb.2 hb'.2 (h.cons hb.1)).cons y
    · obtain rfl := bit_other hb.1 hb'.1 hxy
      obtain ⟨c, k⟩ := p
      simp only at hp
      by_cases h5 : (nxt (c, k) x).2 = 5
      · have hc : x = c ∧ k = 4 := by
          unfold nxt at h5
          simp only at h5
          split at h5
          · rename_i e; exact ⟨e, by omega⟩
          · omega
        obtain ⟨rfl, rfl⟩ := hc
        have n2 : nxt (x, 4) (oth x) = (oth x, 1) := nxt_not _ (oth_ne hb.1)
        rw [stG_five h5, stG_less (by rw [n2]; show 1 ≠ 5; omega), n2] at h
        exact near_five hb.1 hb.2 hb'.2 (h.turned hb.1)
      · by_cases h6 : (nxt (c, k) (oth x)).2 = 5
        · have hc : oth x = c ∧ k = 4 := by
            unfold nxt at h6
            simp only at h6
            split at h6
            · rename_i e; exact ⟨e, by omega⟩
            · omega
          obtain ⟨rfl, rfl⟩ := hc
          have n2 : nxt (oth x, 4) x = (x, 1) := nxt_not _ (fun e => oth_ne hb.1 e.symm)
          rw [stG_five h6, stG_less h5, n2] at h
          have h7 := h.turned hb.1
          rw [oth_oth] at h7
          have h8 := near_five (x := oth x) hb'.1 hb'.2 hb.2 (by rw [oth_oth]; exact h7.symm)
          rw [oth_oth] at h8
          exact h8.symm
        · rw [stG_less h5, stG_less h6] at h
          have h7 := h.turned hb.1
          have key : M = M' ∨ M.length = M'.length + 1 ∨ M'.length = M.length + 1 := by
            by_cases e1 : x = c
            · subst e1
              rw [nxt_same] at h7 h5
              rw [nxt_not k (oth_ne hb.1)] at h7
              simp only at h5
              exact diff_bits M M' x k hb.1 (by omega) hb.2 hb'.2 h7
            · by_cases e2 : oth x = c
              · subst e2
                rw [nxt_same] at h7 h6
                rw [nxt_not k e1] at h7
                simp only at h6
                have := diff_bits M' M (oth x) k hb'.1 (by omega) hb'.2 hb.2 (by rw [oth_oth]; exact h7.symm)
                rcases this with h | h | h
                · exact .inl h.symm
                · exact .inr (.inr h)
                · exact .inr (.inl h)
              · rw [nxt_not k e1, nxt_not k e2] at h7
                exact diff_bits M M' x 0 hb.1 (by omega) hb.2 hb'.2 h7
          rcases key with h | h | h
          · exact .inr (.inr ⟨[], [x], [oth x], M, by simp, by rw [h]; simp, rfl, by simp⟩)
          · exact .inl (by simp [h])
          · exact .inr (.inl (by simp [h]))

/-- of two texts with their checks behind them, whose numbers of bits are the same modulo 4, the ones with bits put in are not one bit apart -/
theorem turned_found {L L' : List Int} (hL : bitsB L = true) (hL' : bitsB L' = true) (hl : L.length % 4 = L'.length % 4) (h0 : feedC 15 17817 0 (toB L) = 0) (h0' : feedC 15 17817 0 (toB L') = 0) : ¬ One (stuffL L) (stuffL L') := by
  intro h
  rcases turn_stuff L L' (0, 0) (by decide) hL hL' h with h1 | h1 | ⟨P, D, D', S, rfl, rfl, h3, h4⟩
  · omega
  · omega
  · have h9 := h0.trans h0'.symm
    rw [toB_app, toB_app, toB_app, toB_app] at h9
    have h0 := (feed_found (w := 15) (p := 17817) (by decide) (by decide) (by decide) _ _ _ _ (by rw [toB_len, toB_len]; exact h3) (by rw [toB_len]; omega)).1 h9
    have hD : D = D' := by
      rw [bitsB_app, bitsB_app, Bool.and_eq_true, Bool.and_eq_true] at hL hL'
      rw [← C_toB hL.1.2, ← C_toB hL'.1.2, h0]
    subst hD
    exact One.irr (stuffL_bits hL) h

end Go.Proofs.YtfooigckcjbegaaDoor
