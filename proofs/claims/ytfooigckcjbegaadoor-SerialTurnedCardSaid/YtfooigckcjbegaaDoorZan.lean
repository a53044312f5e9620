/- Serial, the code: what is thrown, and caught. Serial, the code: asking, head of a frame that has one. Serial, the code: head of a frame that has one. Serial, the code: head of a frame that has one: a wide one. Serial, the code: send. -/
import Derived.Test.YtfooigckcjbegaaDoorZam
import Derived.Defers
import Derived.Recover
import Derived.Test.YtfooigckcjbegaaDoorZab
import Derived.Test.YtfooigckcjbegaaDoorZak
import Derived.Test.YtfooigckcjbegaaDoorZad
import Derived.Test.YtfooigckcjbegaaDoorZag
namespace Go.Proofs.YtfooigckcjbegaaDoor
open Go.RowKit
set_option linter.unusedVariables false

/-- what is thrown -/
def wrongE : PanicEntry := { v := .iface 51 (.agg #[]), recovered := false }

set_option maxHeartbeats 1000000 in
theorem catch_throw {p q : Nat} {x : Int} {v : Value} (w : World) (hp : Box w p (.int .i64 x) 24) (hq : Box w q v 24) :
    CallsD Tryd.prog 32 #[.pointer (some ⟨p, 0, none⟩), .pointer (some ⟨q, 0, none⟩)] (.panicking [wrongE]) w fun e u' w' =>
      e = .returned (.tuple #[]) ∧ settle u' = .returning ∧ But q w w' ∧ Box w' q (.int .i64 x) 24 := by
  have cp := hp.cell
  have cq := hq.cell
  have fp := hp.live
  have fq := hq.live
  refine callsD_of_wpS Tryd.func32 rfl fun c₀ cs hu => ?_
  apply wpS_seq
  apply wpS_region
  simp [wpOpsS, go_sem, recoverD, hu, wrongE, Tryd.ntmps32, Exit.thenS]
  have h1 : ∀ w : World, (binOp .eql 20 (.iface 51 (.agg #[])) .nilIface).run Tryd.prog w = .ok (.bool false) w := fun _ => by kernel_rfl
  have h2 : ∀ w : World, (Instr.typeAssert (.iface 51 (.agg #[])) 20 51 true).run Tryd.prog w = .ok (.tuple #[.agg #[], .bool true]) w := fun _ => by kernel_rfl
  apply wpS_seq
  apply wpS_seq
  apply wpS_region
  simp [wpOpsS, go_sem, Exit.thenS, h1]
  refine wpS_cond (t := false) (by simp [Act.eval, Array.replicate]) ?_
  simp only [Bool.false_eq_true, if_false]
  refine wpS_of_wp (wp_skip ?_)
  show Code.wpS _ _ _ _ _ _
  apply wpS_seq
  apply wpS_seq
  apply wpS_region
  simp [wpOpsS, go_sem, Exit.thenS, h2]
  have ca := (hp.alloc (.cells #[] 51)).cell
  have fa := (hq.alloc (.cells #[] 51)).live
  have qa := (hq.alloc (.cells #[] 51)).cell
  have HA := Lib.hid (hq.alloc (.cells #[] 51))
  apply wpS_seq
  apply wpS_region
  simp [wpOpsS, go_sem, Exit.thenS]
  refine wpS_cond (t := false) (by simp [Act.eval, Array.replicate]) ?_
  simp only [Bool.false_eq_true, if_false]
  refine wpS_of_wp (wp_skip ?_)
  show Code.wpS _ _ _ _ _ _
  apply wpS_region
  simp [wpOpsS, go_sem, ca, fa, qa, bodyPostS, results, Tryd.results32]
  exact ⟨by simp [settle], ((But.refl q w).alloc _).trans (But.set q _ _), HA.out.set _⟩

theorem catch_idle (p q : Addr) (w : World) :
    CallsD Tryd.prog 32 #[.pointer (some p), .pointer (some q)] .returning w fun e u' w' => e = .returned (.tuple #[]) ∧ u' = .returning ∧ w' = w := by
  have h1 : ∀ w : World, (binOp .eql 20 .nilIface .nilIface).run Tryd.prog w = .ok (.bool true) w := fun _ => by kernel_rfl
  refine callsD_of_wpS Tryd.func32 rfl fun c₀ cs hu => ?_
  apply wpS_seq
  apply wpS_region
  simp [wpOpsS, go_sem, recoverD, hu, Tryd.ntmps32, Exit.thenS]
  apply wpS_seq
  apply wpS_seq
  apply wpS_region
  simp [wpOpsS, go_sem, Exit.thenS, h1]
  refine wpS_cond (t := true) (by simp [Act.eval, Array.replicate]) ?_
  simp only [if_true]
  refine wpS_of_wp (wp_ret ?_)
  cases c₀
  simp_all [bodyPostS, results, Tryd.results32, Exit.thenS]


theorem two_made (w : World) (x : Int) : Box ((w.alloc (.cells #[.int .i64 x] 24)).alloc (.cells #[.int .i64 0] 24)) w.heap.size (.int .i64 x) 24 ∧ Box ((w.alloc (.cells #[.int .i64 x] 24)).alloc (.cells #[.int .i64 0] 24)) (w.heap.size + 1) (.int .i64 0) 24 :=
  ⟨(Box.made w (.int .i64 x) 24 rfl).alloc _, Box.made _ _ _ (by simp)⟩
set_option maxHeartbeats 2000000 in
theorem caught_t (g : Nat) (lb : Array Value) (eg : ∀ args w, (callFunc g args).run Tryd.prog w = .ok (.enter g args) w) {l : Nat} {x : Int} {o : Obj} (w : World) (hl : l < w.heap.size)
    (hdo : ∀ w1, Below w.heap.size w w1 → Calls Tryd.prog g lb w1 fun e w2 => e = .returned (.tuple #[]) ∧ But l w1 w2 ∧ w2.heap[l]? = some o) :
    Calls Tryd.prog 17 #[.int .i64 x, .func (.func g) #[] lb] w fun e w' => e = .returned (.int .i64 0) ∧ But l w w' ∧ w'.heap[l]? = some o := by
  have hmf : ∀ (fn : Fn) (first cap : Array Value) (w : World), (Instr.makeFunc fn first cap).run Tryd.prog w = .ok (.func fn first cap) w := fun _ _ _ _ => rfl
  obtain ⟨h1, h2⟩ := two_made w x
  have hb : Below w.heap.size w ((w.alloc (.cells #[.int .i64 x] 24)).alloc (.cells #[.int .i64 0] 24)) := ((Below.refl _ w).alloc (Nat.le_refl _) _).alloc (by simp) _
  have CS := Lib.hid (hdo _ hb)
  have H2 := Lib.hid h2
  have HB := Lib.hid hb
  clear hdo h1 h2 hb
  go_enter_defers Tryd.func17, Tryd.ntmps17
  go_wp2_with (go_at_fn g; refine CS.out.mono ?_; rintro e W ⟨rfl, hbut, hbox⟩; have hq := hbut.box H2.out (by omega); have cq := hq.cell; have fq := hq.live; have HQ := Lib.hid hq; have HU := Lib.hid hbut; have HX := Lib.hid hbox; clear hq hbut hbox)
  refine leaves_cons (f := 32) (args := #[.pointer (some ⟨w.heap.size, 0, none⟩), .pointer (some ⟨w.heap.size + 1, 0, none⟩)]) (by simp) (by simp [go_sem]) ?_
  refine (catch_idle ⟨w.heap.size, 0, none⟩ ⟨w.heap.size + 1, 0, none⟩ _).mono ?_
  rintro e u' w'' ⟨rfl, rfl, rfl⟩
  have c2 := (HQ.out.set (.int .i64 0)).cell
  simp [Leaves, settle, results, Tryd.results17, go_sem, c2]
  exact ⟨(But.lift HB.out HU.out).setNew (by omega) _, (Below.heap_setCell _ _ _ _ (show l ≠ w.heap.size + 1 by omega)).trans HX.out⟩

set_option maxHeartbeats 2000000 in
theorem caught_f (g : Nat) (lb : Array Value) (eg : ∀ args w, (callFunc g args).run Tryd.prog w = .ok (.enter g args) w) {l : Nat} {x : Int} {o : Obj} (w : World) (hl : l < w.heap.size)
    (hdo : ∀ w1, Below w.heap.size w w1 → Calls Tryd.prog g lb w1 fun e w2 => e = .panicked [wrongE] ∧ But l w1 w2 ∧ w2.heap[l]? = some o) :
    Calls Tryd.prog 17 #[.int .i64 x, .func (.func g) #[] lb] w fun e w' => e = .returned (.int .i64 x) ∧ But l w w' ∧ w'.heap[l]? = some o := by
  have hmf : ∀ (fn : Fn) (first cap : Array Value) (w : World), (Instr.makeFunc fn first cap).run Tryd.prog w = .ok (.func fn first cap) w := fun _ _ _ _ => rfl
  obtain ⟨h1, h2⟩ := two_made w x
  have hb : Below w.heap.size w ((w.alloc (.cells #[.int .i64 x] 24)).alloc (.cells #[.int .i64 0] 24)) := ((Below.refl _ w).alloc (Nat.le_refl _) _).alloc (by simp) _
  have CS := Lib.hid (hdo _ hb)
  have H1 := Lib.hid h1
  have H2 := Lib.hid h2
  have HB := Lib.hid hb
  clear hdo h1 h2 hb
  go_enter_defers Tryd.func17, Tryd.ntmps17
  go_wp2_with (go_at_fn g; refine CS.out.mono ?_; rintro e W ⟨rfl, hbut, hbox⟩; have HU := Lib.hid hbut; have HX := Lib.hid hbox; clear hbut hbox)
  refine leaves_cons (f := 32) (args := #[.pointer (some ⟨w.heap.size, 0, none⟩), .pointer (some ⟨w.heap.size + 1, 0, none⟩)]) (by simp) (by simp [go_sem]) ?_
  refine (catch_throw _ (HU.out.box H1.out (by omega)) (HU.out.box H2.out (by omega))).mono ?_
  rintro e u' w'' ⟨rfl, hset, hbut, hbox⟩
  have c2 := hbox.cell
  have hl1 := Nat.lt_of_lt_of_le (Nat.lt_of_lt_of_le hl HB.out.size) HU.out.size
  show Leaves _ _ _ _ [] (settle u') w''
  rw [hset]
  simp [Leaves, results, Tryd.results17, go_sem, c2]
  exact ⟨⟨hbut.os.trans (But.lift HB.out HU.out).os, hbut.tape.trans (But.lift HB.out HU.out).tape, hbut.output.trans (But.lift HB.out HU.out).output, Nat.le_trans (But.lift HB.out HU.out).size hbut.size,
    fun k hk hj => (hbut.block k (Nat.lt_of_lt_of_le hk (But.lift HB.out HU.out).size) (by omega)).trans ((But.lift HB.out HU.out).block k hk hj)⟩, (hbut.block l hl1 (by omega)).trans HX.out⟩
end Go.Proofs.YtfooigckcjbegaaDoor

namespace Go.Proofs.YtfooigckcjbegaaDoor
open Go.RowKit
set_option linter.unusedVariables false

theorem asking_v {n : Int} {q : Bool} {t : ByteArray} (h : strOfNums [bitC q] = t) (hq : fR n = q) (i l : Int) (d : ByteArray) (w : World) :
    Calls Tryd.prog 36 #[.agg #[.int .i64 i, .int .i64 n, .int .i64 l, .string d]] w fun e w' => e = .returned (.string t) ∧ Below w.heap.size w w' := by
  subst h
  cases q
  · have a2 := and2_f hq
    clear hq
    go_enter Tryd.func36, Tryd.ntmps36
    go_wp2
    go_ret
    exact ⟨rfl, (Below.refl _ _).alloc (Nat.le_refl _) _⟩
  · have a2 := and2_t hq
    clear hq
    go_enter Tryd.func36, Tryd.ntmps36
    go_wp2
    go_ret
    exact ⟨rfl, (Below.refl _ _).alloc (Nat.le_refl _) _⟩
theorem strCells_byL (s : ByteArray) : Lib.strCells s = (byL s).map (Value.int .u8) := by
  unfold Lib.strCells byL
  simp
theorem OutSt.wroteS {B b : Nat} {O : List Int} {s : ByteArray} {w0 w w' : World} (h : OutSt B b O w0 w) (hI : Lib.BuilderAtF 56 5 B b (.pointer (some ⟨b, 0, none⟩)) (O.map (Value.int .u8) ++ Lib.strCells s) w') (hb : Below B w w') : OutSt B b (O ++ byL s) w0 w' :=
  ⟨h.below.trans hb, .inr (by rw [List.map_append, ← strCells_byL]; exact hI), h.le⟩
theorem and12 : ∀ k : Fin 64, (bits .and .i64 (k.val : Int) 12 != 0) = (fD (k.val : Int) || fX (k.val : Int)) := by decide +kernel
theorem and12_n {n : Int} (h0 : 0 ≤ n) (h1 : n ≤ 63) : (bits .and .i64 n 12 != 0) = (fD n || fX n) := by
  have := and12 ⟨n.toNat, by omega⟩
  rwa [show ((n.toNat : Nat) : Int) = n by omega] at this
theorem and12_plain {i n l : Int} {sz : Nat} (hp : PlainP i n l sz) : bits .and .i64 n 12 = 0 := by
  have h0 := hp.n0
  have h1 := hp.n4
  have := and12_n h0 (by omega)
  rw [hp.fD, hp.fX] at this
  simpa using this
theorem bitsT_low : ∀ (m n k : Nat), m ≤ k → bitsT (n % 2 ^ k) m = bitsT n m
  | 0, _, _, _ => rfl
  | m + 1, n, k, h => by
    simp only [bitsT]
    rw [bitsT_low m n k (by omega), Nat.testBit_mod_two_pow, decide_eq_true (show m < k by omega), Bool.true_and]
theorem bits_low (n : Nat) : bitsI (n % 262144) 18 = bitsI n 18 := by
  unfold bitsI
  rw [show (262144 : Nat) = 2 ^ 18 from rfl, bitsT_low 18 n 18 (Nat.le_refl _)]

set_option maxHeartbeats 2000000 in
theorem khead_f {i n l : Int} {d : ByteArray} (h : plainF i n l d.size = false) (hn1 : -9223372036854775808 ≤ n) (hn2 : n ≤ 9223372036854775807) (w : World) (hT : Tabs w) :
    Calls Tryd.prog 19 #[.agg #[.int .i64 i, .int .i64 n, .int .i64 l, .string d]] w fun e w' => e = .panicked [wrongE] ∧ Below w.heap.size w w' := by
  have HT := Lib.hid hT
  clear hT
  unfold wrongE
  cases hk : okF i n l d.size
  · have HK := Lib.hid hk
    clear hk h
    have HN := Lib.hid (And.intro hn1 hn2)
    clear hn1 hn2
    go_enter Tryd.func19, Tryd.ntmps19
    go_wp2_with fail
    refine (right_f HK.out _ (HT.out.alloc _) HN.out.1 HN.out.2).mono ?_
    rintro e w1 ⟨rfl, hb1⟩
    have HB1 := Lib.hid (fbelow_a _ hb1)
    clear hb1
    go_wp2
    exact ⟨rfl, rfl, HB1.out⟩
  · obtain ⟨n0, n1⟩ := ok_bounds hk
    have a12 := and12_n n0 n1
    have hx : (fD n || fX n) = true := by
      unfold plainF at h
      rw [hk] at h
      cases h1 : fD n <;> cases h2 : fX n <;> simp_all
    rw [hx] at a12
    have HK := Lib.hid hk
    clear hk h hn1 hn2 hx n0 n1
    go_enter Tryd.func19, Tryd.ntmps19
    go_wp2_with fail
    refine (right_t HK.out _ (HT.out.alloc _)).mono ?_
    rintro e w1 ⟨rfl, hb1⟩
    have HF1 := Lib.hid ((BoxF.made w i n l d).later hb1)
    have HB1 := Lib.hid (fbelow_a _ hb1)
    obtain ⟨c0, c1, c2, c3⟩ := HF1.out.cells
    clear hb1
    go_wp2
    exact ⟨rfl, rfl, HB1.out⟩

end Go.Proofs.YtfooigckcjbegaaDoor

namespace Go.Proofs.YtfooigckcjbegaaDoor
open Go.RowKit
set_option linter.unusedVariables false

set_option maxHeartbeats 4000000 in
theorem khead_n {i n l : Int} {d t : ByteArray} (hp : PlainP i n l d.size) (hk : okF i n l d.size = true) (hE : fE n = false) (h : strOfNums (headL i n l (byL d)) = t) (w : World) (hT : Tabs w) :
    Calls Tryd.prog 19 #[.agg #[.int .i64 i, .int .i64 n, .int .i64 l, .string d]] w fun e w' => e = .returned (.string t) ∧ Below w.heap.size w w' := by
  have HT := Lib.hid hT
  have HK := Lib.hid hk
  have i0 := hp.i0
  have i1 := hp.i1
  have l0 := hp.l0
  have l8 := hp.l8
  have a12 := and12_plain hp
  have a1 := and1_f hE
  have hd8 : (d.size : Int) ≤ 8 := by
    cases hr : fR n
    · have := hp.dL hr; omega
    · have := hp.dR hr; omega
  obtain ⟨r, hr⟩ : ∃ r, fR n = r := ⟨_, rfl⟩
  have HR := Lib.hid hr
  have H := Lib.hid h
  obtain ⟨tr, htr⟩ : ∃ tr, strOfNums [bitC r] = tr := ⟨_, rfl⟩
  have HTR := Lib.hid htr
  obtain ⟨tl4, htl⟩ : ∃ tl4, bitsS l 4 = tl4 := ⟨_, rfl⟩
  have HTL := Lib.hid htl
  have hl8 : l < 9223372036854775808 := by omega
  obtain ⟨ta, hta⟩ : ∃ ta, bitsS i 11 = ta := ⟨_, rfl⟩
  have HTA := Lib.hid hta
  have HI1 : Hid (i < 9223372036854775808) := Lib.hid (by omega)
  have ba : byL ta = bitsI i.toNat 11 := by rw [← hta, bitsS_t i0 (by decide) (by decide), byL_nums (isBy_bits (bitsI_bits ..))]; rfl
  have br : byL tr = [bitC r] := by rw [← htr, byL_nums (isBy_bits (by unfold bitsB; simp [bitC_bit]))]
  have bl : byL tl4 = bitsI l.toNat 4 := by rw [← htl, bitsS_t l0 (by decide) (by decide), byL_nums (isBy_bits (bitsI_bits ..))]; rfl
  have b00 : byL (ByteArray.mk #[48, 48]) = [48, 48] := by decide +kernel
  have b0 : byL (ByteArray.mk #[48]) = [48] := by decide +kernel
  obtain ⟨y2, hy2⟩ : ∃ y, ta ++ tr = y := ⟨_, rfl⟩
  obtain ⟨y3, hy3⟩ : ∃ y, y2 ++ ByteArray.mk #[48, 48] = y := ⟨_, rfl⟩
  have by3 : byL y3 = bitsI i.toNat 11 ++ [bitC r] ++ [48, 48] := by rw [← hy3, ← hy2, byL_app, byL_app, ba, br, b00]
  have zr : tr.size = 1 := by rw [← byL_len, br]; rfl
  have zl : tl4.size = 4 := by rw [← byL_len, bl, bitsI_len]
  have z48 : (ByteArray.mk #[48]).size = 1 := rfl
  have z4848 : (ByteArray.mk #[48, 48]).size = 2 := rfl
  have za : ta.size = 11 := by rw [← byL_len, ba, bitsI_len]
  have zy2 : y2.size = 12 := by rw [← hy2, ByteArray.size_append, za, zr]
  have zy3 : y3.size = 14 := by rw [← hy3, ByteArray.size_append, zy2]; rfl
  have s4 : ¬ 9223372036854775807 < ta.size + tr.size := by omega
  have s5 : ¬ 9223372036854775807 < y2.size + (ByteArray.mk #[48, 48]).size := by omega
  obtain ⟨O1, hO1⟩ : ∃ O, ([48] : List Int) = O := ⟨_, rfl⟩
  have L1 : O1.length ≤ 100 := by rw [← hO1]; simp
  have HO1 := Lib.hid hO1
  have H4 : Hid (O1 ++ byL y3 ++ byL tl4 = headL i n l []) := Lib.hid (by
    rw [headL_nil, ← hO1, by3, bl, hr, hE]
    unfold idL
    rw [if_neg (by decide)]
    simp)
  have HB0 := Lib.hid b0

  have L2 : (byL y3).length ≤ 100 := by rw [byL_len]; omega
  have L3 : (byL tl4).length ≤ 100 := by rw [byL_len]; omega
  clear hT hp hk hE h hr htr htl hta ba br bl b00 b0 by3 hO1
  go_enter Tryd.func19, Tryd.ntmps19
  go_wp2_with fail
  refine (right_t HK.out _ (HT.out.alloc _)).mono ?_
  rintro e w1 ⟨rfl, hb1⟩
  have HF1 := Lib.hid ((BoxF.made w i n l d).later hb1)
  have HB1 := Lib.hid (fbelow_a _ hb1)
  obtain ⟨c0, c1, c2, c3⟩ := HF1.out.cells
  have hz1 : w.heap.size < w1.heap.size := HF1.out.lt
  have HO := Lib.hid (out_made w1)
  clear hb1
  go_wp2_with fail
  refine (dwstr_k w1.heap.size w1.heap.size _ (ByteArray.mk #[48]) _ HO.out.bld (by simp; decide) HO.out.hB).mono ?_
  rintro e w2 ⟨rfl, hI, hb2, -⟩
  have HO2 : Hid (OutSt w1.heap.size w1.heap.size [48] w1 w2) := Lib.hid (by have := HO.out.wroteS hI hb2; rwa [HB0.out] at this)
  clear hI hb2 c0 c1 c2 c3 hz1 HO
  have HF2 := Lib.hid (HF1.out.below HO2.out.below HF1.out.lt)
  have HO3 : Hid (OutSt w1.heap.size w1.heap.size O1 w1 w2) := Lib.hid (by rw [← HO1.out]; exact HO2.out)
  generalize w2 = w3 at HO3 HF2 ⊢
  clear HO2 HO1
  obtain ⟨c0, c1, c2, c3⟩ := HF2.out.cells
  have hz3 : w.heap.size < w3.heap.size := HF2.out.lt
  have hcl : ∀ (n : Later w3) (b o : Nat), b < w3.heap.size → n.w.cell? ⟨b, o, none⟩ = w3.cell? ⟨b, o, none⟩ := later_cells w3
  go_wp2_with fail
  refine wp_region_sec 8 [] (fun _ _ _ => True) (fun _ _ _ _ _ _ => True.intro) (by kernel_rfl) (by kernel_rfl) (by kernel_rfl) (by kernel_rfl) (by kernel_rfl) ?_
  simp only [List.take_succ_cons, List.take_zero, List.drop_succ_cons, List.drop_zero]
  refine sec_plain (by rfl) (by rfl) (by rfl) (by rfl) ?_
  intro K hK
  go_big_quiet_op
  go_big_quiet_on
  refine sec_plain (by rfl) (by rfl) (by rfl) (by rfl) ?_
  intro K hK
  go_big_quiet_op
  go_big_quiet_on
  refine sec_plain (by rfl) (by rfl) (by rfl) (by rfl) ?_
  intro K hK
  go_big_quiet_op
  go_big_quiet_on
  refine sec_call (v := .string ta) (by rfl) (by rfl) (by rfl) (by rfl) (by rfl) ?_ ?_
  · intro m K hK
    go_big_quiet_op
    exact ⟨_, fun q => Later.call (kbits_v HTA.out HI1.out _), hK⟩
  simp only [Act.put, List.setIfInBounds_toArray, List.set_cons_succ, List.set_cons_zero]
  refine sec_plain (by rfl) (by rfl) (by rfl) (by rfl) ?_
  intro K hK
  go_big_quiet_op
  go_big_quiet_on
  refine sec_call (v := .string tr) (by rfl) (by rfl) (by rfl) (by rfl) (by rfl) ?_ ?_
  · intro m K hK
    go_big_quiet_op
    exact ⟨_, fun q => Later.call (asking_v HTR.out HR.out _ _ _ _), hK⟩
  simp only [Act.put, List.setIfInBounds_toArray, List.set_cons_succ, List.set_cons_zero]
  refine sec_plain (by rfl) (by rfl) (by rfl) (by rfl) ?_
  intro K hK
  go_big_quiet_op
  go_big_quiet_on
  refine sec_plain (by rfl) (by rfl) (by rfl) (by rfl) ?_
  intro K hK
  go_big_quiet_op
  go_big_quiet_on
  intro xs m hF
  simp only [secFill]
  clear hF xs
  have HO5 := Lib.hid (HO3.out.later m.h)
  generalize m.w = w5 at HO5 ⊢
  clear m hcl HO3 HF2 c0 c1 c2 c3 hz3
  go_wp2_with fail
  refine (dwstr_k w1.heap.size w1.heap.size _ y3 _ HO5.out.bld (by rw [List.length_map]; omega) HO5.out.hB).mono ?_
  rintro e w6 ⟨rfl, hI, hb6, -⟩
  have HO6 := Lib.hid (HO5.out.wroteS hI hb6)
  clear hI hb6 HO5
  have HF6 := Lib.hid (HF1.out.below HO6.out.below HF1.out.lt)
  obtain ⟨c0, c1, c2, c3⟩ := HF6.out.cells
  go_wp2_with fail
  refine (kbits_v HTL.out hl8 _).mono ?_
  rintro e w7 ⟨rfl, hb7⟩
  have HO7 := Lib.hid (HO6.out.later hb7)
  clear hb7 HO6 HF6 c0 c1 c2 c3
  go_wp2_with fail
  refine (dwstr_k w1.heap.size w1.heap.size _ tl4 _ HO7.out.bld (by rw [List.length_map, List.length_append]; omega) HO7.out.hB).mono ?_
  rintro e w8 ⟨rfl, hI, hb8, -⟩
  have HO8 : Hid (OutSt w1.heap.size w1.heap.size (headL i n l []) w1 w8) := Lib.hid (by rw [← H4.out]; exact HO7.out.wroteS hI hb8)
  clear hI hb8 HO7 H4
  have HF8 := Lib.hid (HF1.out.below HO8.out.below HF1.out.lt)
  obtain ⟨c0, c1, c2, c3⟩ := HF8.out.cells
  go_wp2_with fail
  go_loopw [45] (fun k wr => ∃ x : Nat, x ≤ d.size ∧ k = .int .i64 x ∧ Hid (OutSt w1.heap.size w1.heap.size (headL i n l ((byL d).take x)) w1 wr)) (fun k _ => d.size - (intOf k).toNat)
  case atStart => exact ⟨0, Nat.zero_le _, rfl, by rw [List.take_zero]; exact HO8⟩
  case round =>
    obtain ⟨x, hx, rfl, HI⟩ := hrel
    clear c0 c1 c2 c3
    obtain ⟨c0, c1, c2, c3⟩ := (HF1.out.below HI.out.below HF1.out.lt).cells
    by_cases hlt : x < d.size
    · have hix : ∀ w, (Instr.index 9 (.string d) (.int .i64 x)).run Tryd.prog w = .ok (.int .u8 (bt d x)) w := fun w => index_bt Tryd.underlying9 hlt w
      obtain ⟨v0, v1⟩ := bt_byte d x
      have HS : Hid (headL i n l ((byL d).take (x + 1)) = headL i n l ((byL d).take x) ++ bitsI (bt d x).toNat 8) := Lib.hid (by rw [byL_take hlt, headL_snoc])
      have zs : (headL i n l ((byL d).take x)).length ≤ 200 := by
        rw [headL_len, List.length_take, byL_len]
        split <;> omega
      generalize headL i n l ((byL d).take x) = s at HS HI zs
      generalize bt d x = c at hix HS v0 v1
      obtain ⟨tc, htc⟩ : ∃ tc, bitsS c 8 = tc := ⟨_, rfl⟩
      have bc : byL tc = bitsI c.toNat 8 := by rw [← htc, bitsS_t v0 (by decide) (by decide), byL_nums (isBy_bits (bitsI_bits ..))]; rfl
      have zc : tc.size = 8 := by rw [← byL_len, bc, bitsI_len]
      have HTC := Lib.hid htc
      have HS2 : Hid (headL i n l ((byL d).take (x + 1)) = s ++ byL tc) := Lib.hid (by rw [HS.out, bc])
      have hc9 : c < 9223372036854775808 := by omega
      clear HS htc bc
      go_wp2_with fail
      refine (kbits_v HTC.out hc9 _).mono ?_
      rintro e w9 ⟨rfl, hb9⟩
      have HI2 := Lib.hid (HI.out.later hb9)
      clear hb9 c0 c1 c2 c3
      go_wp2_with fail
      refine (dwstr_k w1.heap.size w1.heap.size _ tc _ HI2.out.bld (by rw [List.length_map]; omega) HI2.out.hB).mono ?_
      rintro e w10 ⟨rfl, hI, hb10, -⟩
      have HI3 := Lib.hid (HI2.out.wroteS hI hb10)
      clear hI hb10
      go_wp2
      go_roundw
      case rel => exact ⟨x + 1, by omega, by go_num, by rw [HS2.out]; exact HI3⟩
      case measure => simp [intOf]; omega
    · obtain rfl : x = d.size := by omega
      have HL : Hid (Lib.IsBuilderF 56 5 w1.heap.size w1.heap.size (Lib.byteCells t.data.toList) wr) := Lib.hid (by
        have h1 := HI.out.bld
        rw [List.take_of_length_le (by rw [byL_len]; omega), bcells (isBy_bits (headL_bits ..)), H.out] at h1
        exact h1)
      go_wp2_with fail
      refine (dstring_k _ _ _ _ HL.out HI.out.hB).mono ?_
      rintro e w2 ⟨rfl, _, hb, _⟩
      rw [str_list]
      go_wp2
      go_ret
      exact ⟨rfl, fbelow_t HB1.out (HI.out.below.trans hb)⟩

end Go.Proofs.YtfooigckcjbegaaDoor

namespace Go.Proofs.YtfooigckcjbegaaDoor
open Go.RowKit
set_option linter.unusedVariables false

set_option maxHeartbeats 4000000 in
theorem khead_w {i n l : Int} {d t : ByteArray} (hp : PlainP i n l d.size) (hk : okF i n l d.size = true) (hE : fE n = true) (h : strOfNums (headL i n l (byL d)) = t) (w : World) (hT : Tabs w) :
    Calls Tryd.prog 19 #[.agg #[.int .i64 i, .int .i64 n, .int .i64 l, .string d]] w fun e w' => e = .returned (.string t) ∧ Below w.heap.size w w' := by
  have HT := Lib.hid hT
  have HK := Lib.hid hk
  have i0 := hp.i0
  have i1 := hp.i1
  have l0 := hp.l0
  have l8 := hp.l8
  have a12 := and12_plain hp
  have a1 := and1_t hE
  have hd8 : (d.size : Int) ≤ 8 := by
    cases hr : fR n
    · have := hp.dL hr; omega
    · have := hp.dR hr; omega
  obtain ⟨r, hr⟩ : ∃ r, fR n = r := ⟨_, rfl⟩
  have HR := Lib.hid hr
  have H := Lib.hid h
  obtain ⟨tr, htr⟩ : ∃ tr, strOfNums [bitC r] = tr := ⟨_, rfl⟩
  have HTR := Lib.hid htr
  obtain ⟨tl4, htl⟩ : ∃ tl4, bitsS l 4 = tl4 := ⟨_, rfl⟩
  have HTL := Lib.hid htl
  have hl8 : l < 9223372036854775808 := by omega
  obtain ⟨ta, hta⟩ : ∃ ta, bitsS i 18 = ta := ⟨_, rfl⟩
  have HTA := Lib.hid hta
  have HI1 : Hid (i < 9223372036854775808) := Lib.hid (by omega)
  have ba : byL ta = bitsI i.toNat 18 := by rw [← hta, bitsS_t i0 (by decide) (by decide), byL_nums (isBy_bits (bitsI_bits ..))]; rfl
  have br : byL tr = [bitC r] := by rw [← htr, byL_nums (isBy_bits (by unfold bitsB; simp [bitC_bit]))]
  have bl : byL tl4 = bitsI l.toNat 4 := by rw [← htl, bitsS_t l0 (by decide) (by decide), byL_nums (isBy_bits (bitsI_bits ..))]; rfl
  have b00 : byL (ByteArray.mk #[48, 48]) = [48, 48] := by decide +kernel
  have b0 : byL (ByteArray.mk #[48]) = [48] := by decide +kernel
  obtain ⟨tb, htb⟩ : ∃ tb, bitsS (i / 262144) 11 = tb := ⟨_, rfl⟩
  have HTB := Lib.hid htb
  have HI2 : Hid (i / 262144 < 9223372036854775808) := Lib.hid (by omega)
  have bb : byL tb = bitsI (i / 262144).toNat 11 := by rw [← htb, bitsS_t (by omega) (by decide) (by decide), byL_nums (isBy_bits (bitsI_bits ..))]; rfl
  have b11 : byL (ByteArray.mk #[49, 49]) = [49, 49] := by decide +kernel
  have zb : tb.size = 11 := by rw [← byL_len, bb, bitsI_len]
  have z11 : (ByteArray.mk #[49, 49]).size = 2 := rfl
  have s0 : ¬ 9223372036854775807 < tb.size + (ByteArray.mk #[49, 49]).size := by omega
  obtain ⟨y0, hy0⟩ : ∃ y, tb ++ ByteArray.mk #[49, 49] = y := ⟨_, rfl⟩
  have zy0 : y0.size = 13 := by rw [← hy0, ByteArray.size_append, zb]; rfl
  have by0 : byL y0 = bitsI (i / 262144).toNat 11 ++ [49, 49] := by rw [← hy0, byL_app, bb, b11]
  obtain ⟨y2, hy2⟩ : ∃ y, ta ++ tr = y := ⟨_, rfl⟩
  obtain ⟨y3, hy3⟩ : ∃ y, y2 ++ ByteArray.mk #[48, 48] = y := ⟨_, rfl⟩
  have by3 : byL y3 = bitsI i.toNat 18 ++ [bitC r] ++ [48, 48] := by rw [← hy3, ← hy2, byL_app, byL_app, ba, br, b00]
  have zr : tr.size = 1 := by rw [← byL_len, br]; rfl
  have zl : tl4.size = 4 := by rw [← byL_len, bl, bitsI_len]
  have z48 : (ByteArray.mk #[48]).size = 1 := rfl
  have z4848 : (ByteArray.mk #[48, 48]).size = 2 := rfl
  have za : ta.size = 18 := by rw [← byL_len, ba, bitsI_len]
  have zy2 : y2.size = 19 := by rw [← hy2, ByteArray.size_append, za, zr]
  have zy3 : y3.size = 21 := by rw [← hy3, ByteArray.size_append, zy2]; rfl
  have s4 : ¬ 9223372036854775807 < ta.size + tr.size := by omega
  have s5 : ¬ 9223372036854775807 < y2.size + (ByteArray.mk #[48, 48]).size := by omega
  obtain ⟨O1, hO1⟩ : ∃ O, [48] ++ (bitsI (i / 262144).toNat 11 ++ [49, 49]) = O := ⟨_, rfl⟩
  have L1 : O1.length ≤ 100 := by rw [← hO1]; simp [bitsI_len]
  have HO1 := Lib.hid hO1
  have H4 : Hid (O1 ++ byL y3 ++ byL tl4 = headL i n l []) := Lib.hid (by
    rw [headL_nil, ← hO1, by3, bl, hr, hE]
    unfold idL
    rw [if_pos rfl, show (i / 262144).toNat = i.toNat / 262144 by omega, bits_low]
    simp)
  have HB0 := Lib.hid b0
  have HBY0 := Lib.hid by0
  have L2 : (byL y3).length ≤ 100 := by rw [byL_len]; omega
  have L3 : (byL tl4).length ≤ 100 := by rw [byL_len]; omega
  clear hT hp hk hE h hr htr htl hta ba br bl b00 b0 by3 hO1 htb bb b11 by0
  go_enter Tryd.func19, Tryd.ntmps19
  go_wp2_with fail
  refine (right_t HK.out _ (HT.out.alloc _)).mono ?_
  rintro e w1 ⟨rfl, hb1⟩
  have HF1 := Lib.hid ((BoxF.made w i n l d).later hb1)
  have HB1 := Lib.hid (fbelow_a _ hb1)
  obtain ⟨c0, c1, c2, c3⟩ := HF1.out.cells
  have hz1 : w.heap.size < w1.heap.size := HF1.out.lt
  have HO := Lib.hid (out_made w1)
  clear hb1
  go_wp2_with fail
  refine (dwstr_k w1.heap.size w1.heap.size _ (ByteArray.mk #[48]) _ HO.out.bld (by simp; decide) HO.out.hB).mono ?_
  rintro e w2 ⟨rfl, hI, hb2, -⟩
  have HO2 : Hid (OutSt w1.heap.size w1.heap.size [48] w1 w2) := Lib.hid (by have := HO.out.wroteS hI hb2; rwa [HB0.out] at this)
  clear hI hb2 c0 c1 c2 c3 hz1 HO
  have HF2 := Lib.hid (HF1.out.below HO2.out.below HF1.out.lt)
  obtain ⟨c0, c1, c2, c3⟩ := HF2.out.cells
  go_wp2_with fail
  refine (kbits_v HTB.out HI2.out _).mono ?_
  rintro e w4 ⟨rfl, hb4⟩
  have HO4 := Lib.hid (HO2.out.later hb4)
  clear hb4 HO2 HF2 c0 c1 c2 c3
  go_wp2_with fail
  refine (dwstr_k w1.heap.size w1.heap.size _ y0 _ HO4.out.bld (by simp; omega) HO4.out.hB).mono ?_
  rintro e w3 ⟨rfl, hI, hb2, -⟩
  have HO3 : Hid (OutSt w1.heap.size w1.heap.size O1 w1 w3) := Lib.hid (by have := HO4.out.wroteS hI hb2; rwa [HBY0.out, HO1.out] at this)
  clear hI hb2 HO4 HO1
  have HF2 := Lib.hid (HF1.out.below HO3.out.below HF1.out.lt)
  obtain ⟨c0, c1, c2, c3⟩ := HF2.out.cells
  have hz3 : w.heap.size < w3.heap.size := HF2.out.lt
  have hcl : ∀ (n : Later w3) (b o : Nat), b < w3.heap.size → n.w.cell? ⟨b, o, none⟩ = w3.cell? ⟨b, o, none⟩ := later_cells w3
  go_wp2_with fail
  refine wp_region_sec 8 [] (fun _ _ _ => True) (fun _ _ _ _ _ _ => True.intro) (by kernel_rfl) (by kernel_rfl) (by kernel_rfl) (by kernel_rfl) (by kernel_rfl) ?_
  simp only [List.take_succ_cons, List.take_zero, List.drop_succ_cons, List.drop_zero]
  refine sec_plain (by rfl) (by rfl) (by rfl) (by rfl) ?_
  intro K hK
  go_big_quiet_op
  go_big_quiet_on
  refine sec_plain (by rfl) (by rfl) (by rfl) (by rfl) ?_
  intro K hK
  go_big_quiet_op
  go_big_quiet_on
  refine sec_plain (by rfl) (by rfl) (by rfl) (by rfl) ?_
  intro K hK
  go_big_quiet_op
  go_big_quiet_on
  refine sec_call (v := .string ta) (by rfl) (by rfl) (by rfl) (by rfl) (by rfl) ?_ ?_
  · intro m K hK
    go_big_quiet_op
    exact ⟨_, fun q => Later.call (kbits_v HTA.out HI1.out _), hK⟩
  simp only [Act.put, List.setIfInBounds_toArray, List.set_cons_succ, List.set_cons_zero]
  refine sec_plain (by rfl) (by rfl) (by rfl) (by rfl) ?_
  intro K hK
  go_big_quiet_op
  go_big_quiet_on
  refine sec_call (v := .string tr) (by rfl) (by rfl) (by rfl) (by rfl) (by rfl) ?_ ?_
  · intro m K hK
    go_big_quiet_op
    exact ⟨_, fun q => Later.call (asking_v HTR.out HR.out _ _ _ _), hK⟩
  simp only [Act.put, List.setIfInBounds_toArray, List.set_cons_succ, List.set_cons_zero]
  refine sec_plain (by rfl) (by rfl) (by rfl) (by rfl) ?_
  intro K hK
  go_big_quiet_op
  go_big_quiet_on
  refine sec_plain (by rfl) (by rfl) (by rfl) (by rfl) ?_
  intro K hK
  go_big_quiet_op
  go_big_quiet_on
  intro xs m hF
  simp only [secFill]
  clear hF xs
  have HO5 := Lib.hid (HO3.out.later m.h)
  generalize m.w = w5 at HO5 ⊢
  clear m hcl HO3 HF2 c0 c1 c2 c3 hz3
  go_wp2_with fail
  refine (dwstr_k w1.heap.size w1.heap.size _ y3 _ HO5.out.bld (by rw [List.length_map]; omega) HO5.out.hB).mono ?_
  rintro e w6 ⟨rfl, hI, hb6, -⟩
  have HO6 := Lib.hid (HO5.out.wroteS hI hb6)
  clear hI hb6 HO5
  have HF6 := Lib.hid (HF1.out.below HO6.out.below HF1.out.lt)
  obtain ⟨c0, c1, c2, c3⟩ := HF6.out.cells
  go_wp2_with fail
  refine (kbits_v HTL.out hl8 _).mono ?_
  rintro e w7 ⟨rfl, hb7⟩
  have HO7 := Lib.hid (HO6.out.later hb7)
  clear hb7 HO6 HF6 c0 c1 c2 c3
  go_wp2_with fail
  refine (dwstr_k w1.heap.size w1.heap.size _ tl4 _ HO7.out.bld (by rw [List.length_map, List.length_append]; omega) HO7.out.hB).mono ?_
  rintro e w8 ⟨rfl, hI, hb8, -⟩
  have HO8 : Hid (OutSt w1.heap.size w1.heap.size (headL i n l []) w1 w8) := Lib.hid (by rw [← H4.out]; exact HO7.out.wroteS hI hb8)
  clear hI hb8 HO7 H4
  have HF8 := Lib.hid (HF1.out.below HO8.out.below HF1.out.lt)
  obtain ⟨c0, c1, c2, c3⟩ := HF8.out.cells
  go_wp2_with fail
  go_loopw [45] (fun k wr => ∃ x : Nat, x ≤ d.size ∧ k = .int .i64 x ∧ Hid (OutSt w1.heap.size w1.heap.size (headL i n l ((byL d).take x)) w1 wr)) (fun k _ => d.size - (intOf k).toNat)
  case atStart => exact ⟨0, Nat.zero_le _, rfl, by rw [List.take_zero]; exact HO8⟩
  case round =>
    obtain ⟨x, hx, rfl, HI⟩ := hrel
    clear c0 c1 c2 c3
    obtain ⟨c0, c1, c2, c3⟩ := (HF1.out.below HI.out.below HF1.out.lt).cells
    by_cases hlt : x < d.size
    · have hix : ∀ w, (Instr.index 9 (.string d) (.int .i64 x)).run Tryd.prog w = .ok (.int .u8 (bt d x)) w := fun w => index_bt Tryd.underlying9 hlt w
      obtain ⟨v0, v1⟩ := bt_byte d x
      have HS : Hid (headL i n l ((byL d).take (x + 1)) = headL i n l ((byL d).take x) ++ bitsI (bt d x).toNat 8) := Lib.hid (by rw [byL_take hlt, headL_snoc])
      have zs : (headL i n l ((byL d).take x)).length ≤ 200 := by
        rw [headL_len, List.length_take, byL_len]
        split <;> omega
      generalize headL i n l ((byL d).take x) = s at HS HI zs
      generalize bt d x = c at hix HS v0 v1
      obtain ⟨tc, htc⟩ : ∃ tc, bitsS c 8 = tc := ⟨_, rfl⟩
      have bc : byL tc = bitsI c.toNat 8 := by rw [← htc, bitsS_t v0 (by decide) (by decide), byL_nums (isBy_bits (bitsI_bits ..))]; rfl
      have zc : tc.size = 8 := by rw [← byL_len, bc, bitsI_len]
      have HTC := Lib.hid htc
      have HS2 : Hid (headL i n l ((byL d).take (x + 1)) = s ++ byL tc) := Lib.hid (by rw [HS.out, bc])
      have hc9 : c < 9223372036854775808 := by omega
      clear HS htc bc
      go_wp2_with fail
      refine (kbits_v HTC.out hc9 _).mono ?_
      rintro e w9 ⟨rfl, hb9⟩
      have HI2 := Lib.hid (HI.out.later hb9)
      clear hb9 c0 c1 c2 c3
      go_wp2_with fail
      refine (dwstr_k w1.heap.size w1.heap.size _ tc _ HI2.out.bld (by rw [List.length_map]; omega) HI2.out.hB).mono ?_
      rintro e w10 ⟨rfl, hI, hb10, -⟩
      have HI3 := Lib.hid (HI2.out.wroteS hI hb10)
      clear hI hb10
      go_wp2
      go_roundw
      case rel => exact ⟨x + 1, by omega, by go_num, by rw [HS2.out]; exact HI3⟩
      case measure => simp [intOf]; omega
    · obtain rfl : x = d.size := by omega
      have HL : Hid (Lib.IsBuilderF 56 5 w1.heap.size w1.heap.size (Lib.byteCells t.data.toList) wr) := Lib.hid (by
        have h1 := HI.out.bld
        rw [List.take_of_length_le (by rw [byL_len]; omega), bcells (isBy_bits (headL_bits ..)), H.out] at h1
        exact h1)
      go_wp2_with fail
      refine (dstring_k _ _ _ _ HL.out HI.out.hB).mono ?_
      rintro e w2 ⟨rfl, _, hb, _⟩
      rw [str_list]
      go_wp2
      go_ret
      exact ⟨rfl, fbelow_t HB1.out (HI.out.below.trans hb)⟩

end Go.Proofs.YtfooigckcjbegaaDoor

namespace Go.Proofs.YtfooigckcjbegaaDoor
open Go.RowKit
set_option linter.unusedVariables false

theorem plain_ok {i n l : Int} {sz : Nat} (h : plainF i n l sz = true) : okF i n l sz = true := by
  unfold plainF at h
  simp only [Bool.and_eq_true] at h
  exact h.1.1
theorem khead_v {i n l : Int} {d t : ByteArray} (hp : plainF i n l d.size = true) (h : strOfNums (headL i n l (byL d)) = t) (w : World) (hT : Tabs w) :
    Calls Tryd.prog 19 #[.agg #[.int .i64 i, .int .i64 n, .int .i64 l, .string d]] w fun e w' => e = .returned (.string t) ∧ Below w.heap.size w w' := by
  cases hE : fE n
  · exact khead_n (plain_parts hp) (plain_ok hp) hE h w hT
  · exact khead_w (plain_parts hp) (plain_ok hp) hE h w hT

set_option maxHeartbeats 2000000 in
theorem ksend_v {i n l : Int} {d t : ByteArray} (hp0 : plainF i n l d.size = true) (h : strOfNums (sendL i n l (byL d)) = t) (w : World) (hT : Tabs w) :
    Calls Tryd.prog 21 #[.agg #[.int .i64 i, .int .i64 n, .int .i64 l, .string d]] w fun e w' => e = .returned (.string t) ∧ Below w.heap.size w w' := by
  have hp := plain_parts hp0
  have HP := Lib.hid hp0
  have HT := Lib.hid hT
  obtain ⟨y, hy⟩ : ∃ y, strOfNums (headL i n l (byL d)) = y := ⟨_, rfl⟩
  have HY := Lib.hid hy
  have hby : byL y = headL i n l (byL d) := by rw [← hy, byL_nums (isBy_bits (headL_bits ..))]
  have HQ : Hid (bitsB (byL y) = true) := Lib.hid (by rw [hby]; exact headL_bits ..)
  obtain ⟨c, hc⟩ : ∃ c, feedC 15 17817 0 (toB (byL y)) = c := ⟨_, rfl⟩
  have HC := Lib.hid hc
  have hcl : c < 2 ^ 15 := by rw [← hc]; exact feed_lt (by decide) _ 0 (by decide)
  obtain ⟨tc, htc⟩ : ∃ tc, bitsS (c : Int) 15 = tc := ⟨_, rfl⟩
  have HTC := Lib.hid htc
  have htc2 : tc = strOfNums (bitsI c 15) := by
    rw [← htc, bitsS_t (by omega) (by decide) (by decide), Int.toNat_natCast]; rfl
  have hc9 : (c : Int) < 9223372036854775808 := by omega
  obtain ⟨z, hz⟩ : ∃ z, y ++ tc = z := ⟨_, rfl⟩
  have hbz : byL z = frameL i n l (byL d) := by
    rw [← hz, byL_app, hby, htc2, byL_nums (isBy_bits (bitsI_bits c 15))]
    unfold frameL checkL
    rw [← hby, hc]
  have hd8 := hp.d8
  have hfl : (frameL i n l (byL d)).length ≤ 118 := frame_small (by rw [byL_len]; exact hd8)
  have hzs : z.size ≤ 118 := by rw [← byL_len z, hbz]; exact hfl
  have hys : y.size ≤ 118 := by
    have : (y ++ tc).size = y.size + tc.size := ByteArray.size_append ..
    rw [hz] at this; omega
  have hts : tc.size = 15 := by rw [htc2, numsz, bitsI_len]
  have HZS : Hid (z.size ≤ 1000000) := Lib.hid (by omega)
  obtain ⟨u, hu⟩ : ∃ u, stuffS (byL z) = u := ⟨_, rfl⟩
  have HU := Lib.hid hu
  have hu2 : u = strOfNums (stuffL (frameL i n l (byL d))) := by rw [← hu, stuffS_bits (by rw [hbz]; exact frameL_bits ..), hbz]
  have hus : u.size ≤ 200 := by
    have := (stuff_len (frameL i n l (byL d))).1
    rw [hu2, numsz]; omega
  have HTT : Hid (u ++ ByteArray.mk #[49, 48, 49, 49, 49, 49, 49, 49, 49, 49] = t) := Lib.hid (by
    rw [hu2, ← h]
    unfold sendL
    rw [nums_app]
    rfl)
  have z10 : (ByteArray.mk #[49, 48, 49, 49, 49, 49, 49, 49, 49, 49]).size = 10 := rfl
  have s1 : ¬ 9223372036854775807 < y.size + tc.size := by omega
  have s2 : ¬ 9223372036854775807 < u.size + (ByteArray.mk #[49, 48, 49, 49, 49, 49, 49, 49, 49, 49]).size := by omega
  clear hp0 hp h hy hby hc hcl htc htc2 hbz hd8 hfl hzs hu hu2 hT
  go_enter Tryd.func21, Tryd.ntmps21
  go_wp2_with fail
  refine (khead_v HP.out HY.out _ (HT.out.alloc _)).mono ?_
  rintro e w1 ⟨rfl, hb1⟩
  have HB1 := Lib.hid (fbelow_a _ hb1)
  clear hb1
  go_wp2_with fail
  refine (kcrc_t HC.out HQ.out _).mono ?_
  rintro e w2 ⟨rfl, hb2⟩
  have HB2 := Lib.hid (fbelow_t HB1.out hb2)
  clear hb2
  go_wp2_with fail
  refine (kbits_v HTC.out hc9 _).mono ?_
  rintro e w3 ⟨rfl, hb3⟩
  have HB3 := Lib.hid (fbelow_t HB2.out hb3)
  clear hb3
  go_wp2_with fail
  refine (cstuff_v HU.out HZS.out _).mono ?_
  rintro e w4 ⟨rfl, hb4⟩
  have HB4 := Lib.hid (fbelow_t HB3.out hb4)
  clear hb4
  go_wp2
  go_ret
  exact ⟨fret_str HTT.out, HB4.out⟩

set_option maxHeartbeats 1000000 in
theorem ksend_f {i n l : Int} {d : ByteArray} (h : plainF i n l d.size = false) (hn1 : -9223372036854775808 ≤ n) (hn2 : n ≤ 9223372036854775807) (w : World) (hT : Tabs w) :
    Calls Tryd.prog 21 #[.agg #[.int .i64 i, .int .i64 n, .int .i64 l, .string d]] w fun e w' => e = .panicked [wrongE] ∧ Below w.heap.size w w' := by
  have HT := Lib.hid hT
  have H := Lib.hid h
  have HN := Lib.hid (And.intro hn1 hn2)
  clear hT h hn1 hn2
  unfold wrongE
  go_enter Tryd.func21, Tryd.ntmps21
  go_wp2_with fail
  refine (khead_f H.out HN.out.1 HN.out.2 _ (HT.out.alloc _)).mono ?_
  unfold wrongE
  rintro e w1 ⟨rfl, hb1⟩
  have HB1 := Lib.hid (fbelow_a _ hb1)
  clear hb1
  go_wp2
  exact ⟨rfl, rfl, HB1.out⟩
end Go.Proofs.YtfooigckcjbegaaDoor
