/- Echo: walk of EchoApart. Printed by gen_a.py. -/
import Derived.Test.YtmpikfnemhjoeaaZah
import Derived.Test.YtmpikfnemhjoeaaZai
import Derived.Test.YtmpikfnemhjoeaaZae
namespace Go.Proofs.Ytmpikfnemhjoeaa
open Go.RowKit
set_option linter.unusedVariables false

theorem ec_put {s : Ec} {i : Nat} (hi : i < s.F.length) (h0 : s.F.getD i false = false) (p : Pk) : s.put i p = (⟨s.H.set i p, s.F.set i true⟩, 0) := by
  have h1 : s.has i = true := by unfold Ec.has; simp; omega
  have h2 : s.at_ i = false := h0
  unfold Ec.put
  rw [if_pos h1, h2]
  rfl
theorem ec_get {s : Ec} {i : Nat} (hi : i < s.F.length) (h0 : s.F.getD i false = true) : s.get i = (⟨s.H, s.F.set i false⟩, s.H.getD i pk0, 0) := by
  have h1 : s.has i = true := by unfold Ec.has; simp; omega
  have h2 : s.at_ i = true := h0
  unfold Ec.get
  rw [if_pos h1, h2]
  rfl
theorem ec_peek {s : Ec} {i : Nat} (hi : i < s.F.length) (h0 : s.F.getD i false = true) : s.peek i = (s.H.getD i pk0, true) := by
  have h1 : s.has i = true := by unfold Ec.has; simp; omega
  have h2 : s.at_ i = true := h0
  unfold Ec.peek
  rw [h1, h2]
  rfl
structure Apart4 (n i k : Nat) (p q : Pk) : Prop where
  e1 : ((ecNew n).put i p).2 = 0
  e2 : (((ecNew n).put i p).1.put k q).2 = 0
  e3 : ((((ecNew n).put i p).1.put k q).1.get i).2 = (p, 0)
  e4 : ((((ecNew n).put i p).1.put k q).1.get i).1.peek k = (q, true)
  e5 : (((((ecNew n).put i p).1.put k q).1.get i).1.get k).2 = (q, 0)
  e6 : (((((ecNew n).put i p).1.put k q).1.get i).1.get k).1.len = 0
theorem ec_apart {n i k : Nat} (hi : i < n) (hk : k < n) (hik : i ≠ k) (p q : Pk) : Apart4 n i k p q := by
  have l0 : (ecNew n).F.length = n := by simp [ecNew]
  have lH : (ecNew n).H.length = n := by simp [ecNew]
  have g0 : ∀ j, (ecNew n).F.getD j false = false := fun j => by
    simp only [ecNew, List.getD_eq_getElem?_getD, List.getElem?_replicate]
    split <;> rfl
  have a1 := ec_put (s := ecNew n) (by rw [l0]; exact hi) (g0 i) p
  generalize hs1 : ((ecNew n).put i p).1 = s1
  have es1 : s1 = ⟨(ecNew n).H.set i p, (ecNew n).F.set i true⟩ := by rw [← hs1, a1]
  have a2 := ec_put (s := s1) (i := k) (by rw [es1]; simp [l0, hk]) (by rw [es1]; simp only [getD_set', g0, ite_eq_right_iff]; omega) q
  generalize hs2 : (s1.put k q).1 = s2
  have es2 : s2 = ⟨((ecNew n).H.set i p).set k q, ((ecNew n).F.set i true).set k true⟩ := by rw [← hs2, a2, es1]
  have a3 := ec_get (s := s2) (i := i) (by rw [es2]; simp [l0, hi]) (by rw [es2]; simp only [getD_set', List.length_set, l0]; simp [hi])
  have h3 : s2.H.getD i pk0 = p := by
    rw [es2]
    simp only [getD_set', List.length_set, lH]
    rw [if_neg (by omega), if_pos ⟨by trivial, hi⟩]
  generalize hs3 : (s2.get i).1 = s3
  have es3 : s3 = ⟨((ecNew n).H.set i p).set k q, (((ecNew n).F.set i true).set k true).set i false⟩ := by rw [← hs3, a3, es2]
  have hF3 : s3.F.getD k false = true := by rw [es3]; simp only [getD_set', List.length_set, l0]; rw [if_neg (by omega), if_pos ⟨by trivial, hk⟩]
  have hl3 : k < s3.F.length := by rw [es3]; simp [l0, hk]
  have h4 : s3.H.getD k pk0 = q := by
    rw [es3]
    simp only [getD_set', List.length_set, lH]
    rw [if_pos ⟨by trivial, hk⟩]
  have a4 := ec_peek hl3 hF3
  have a5 := ec_get hl3 hF3
  refine ⟨by rw [a1], by rw [hs1, a2], by rw [hs1, hs2, a3, h3], by rw [hs1, hs2, hs3, a4, h4], by rw [hs1, hs2, hs3, a5, h4], ?_⟩
  rw [hs1, hs2, hs3, a5, es3]
  have c1 := cntF_set (ecNew n).F i true (by rw [l0]; exact hi)
  have c2 := cntF_set ((ecNew n).F.set i true) k true (by simp [l0, hk])
  have c3 := cntF_set (((ecNew n).F.set i true).set k true) i false (by simp [l0, hi])
  have c4 := cntF_set ((((ecNew n).F.set i true).set k true).set i false) k false (by simp [l0, hk])
  have q2 : ((ecNew n).F.set i true).getD k false = false := by rw [getD_set', if_neg (by omega), g0]
  have q3 : (((ecNew n).F.set i true).set k true).getD i false = true := by rw [getD_set', if_neg (by omega), getD_set', if_pos ⟨rfl, by rw [l0]; exact hi⟩]
  have q4 : ((((ecNew n).F.set i true).set k true).set i false).getD k false = true := by rw [getD_set', if_neg (by omega), getD_set', if_pos ⟨rfl, by simp [l0, hk]⟩]
  rw [g0] at c1
  rw [q2] at c2
  rw [q3] at c3
  rw [q4] at c4
  have e0 : ((ecNew n).F.filter id).length = 0 := Ec.new_len n
  simp only [Bool.false_eq_true, if_false, if_true, Nat.add_zero] at c1 c2 c3 c4
  unfold Ec.len
  show (((((((ecNew n).F.set i true).set k true).set i false).set k false)).filter id).length = 0
  omega
/-- in the midst of calls that turn the table one behind the other -/
def EcG (I : World → Value → Ec → (Nat → Prop) → Prop) (w0 : World) (v : Value) (f : Nat → Ec) (W : World) (O0 : Nat → Prop) (j : Nat) (xs : Tmp → Option Value) (w : World) : Prop := ∃ O, Has I w0 v (f j) O w ∧ Kept O0 W w ∧ Grows O0 W O
theorem EcG.start {I : World → Value → Ec → (Nat → Prop) → Prop} (hI : IsObj I) {w0 W : World} {v : Value} {f : Nat → Ec} {O0 : Nat → Prop} (h : Has I w0 v (f 0) O0 W) : EcG I w0 v f W O0 0 (fun _ => none) W.drew := ⟨O0, h.later hI (Below.refl _ _).drew, .of_below (Below.refl _ _).drew, Grows.refl _ _⟩
theorem EcG.kept {I : World → Value → Ec → (Nat → Prop) → Prop} {w0 W w : World} {v : Value} {f : Nat → Ec} {O0 : Nat → Prop} {j : Nat} {xs : Tmp → Option Value} (h : EcG I w0 v f W O0 j xs w) : Kept O0 W w := by
  obtain ⟨O, _, h1, _⟩ := h
  exact h1
set_option maxHeartbeats 8000000 in
set_option maxRecDepth 4000 in
theorem echoApart_walk {I : World → Value → Ec → (Nat → Prop) → Prop} (A : EchoI I) (many i k : Int) (p q : Pk) (w : World) :
    Calls Try.prog 4 #[.int .i64 many, .int .i64 i, .int .i64 k, pkV p, pkV q] w fun e w' => e = .returned (.bool true) ∧ Below w.heap.size w w' := by
  have HA := Lib.hid A
  obtain ⟨w1, e1⟩ : ∃ w1, w.alloc (.cells #[.int .i64 p.f.i, .int .i64 p.f.n, .int .i64 p.f.l, .string p.f.d, .int .i64 p.fr, .int .i64 p.tag, .bool p.lp] 32) = w1 := ⟨_, rfl⟩
  have s1 : w1.heap.size = w.heap.size + 1 := by rw [← e1]; simp
  have hb1 : Below w.heap.size w w1 := by rw [← e1]; exact (Below.refl _ w).alloc (Nat.le_refl _) _
  have hp1 : BoxP w1 w.heap.size p := by rw [← e1]; exact BoxP.made w p
  obtain ⟨w2, e2⟩ : ∃ w2, w1.alloc (.cells #[.int .i64 q.f.i, .int .i64 q.f.n, .int .i64 q.f.l, .string q.f.d, .int .i64 q.fr, .int .i64 q.tag, .bool q.lp] 32) = w2 := ⟨_, rfl⟩
  have hb2 : Below w1.heap.size w1 w2 := by rw [← e2]; exact (Below.refl _ w1).alloc (Nat.le_refl _) _
  have HQ0 : Hid (BoxP w2 (w.heap.size + 1) q) := Lib.hid (by rw [← e2, ← s1]; exact BoxP.made w1 q)
  have HP0 := Lib.hid (hp1.later hb2)
  have HB0 := Lib.hid (fbelow_t hb1 hb2)
  clear A hp1 hb1 hb2
  by_cases h1 : many < 1
  · have gh1 : decide (many < 1) = true := decide_eq_true h1
    clear h1
    go_enter Try.func4, Try.ntmps4
    go_wp2_with fail
    refine (echoalive HA.out _).mono ?_
    rintro e w3 ⟨rfl, hb⟩
    have HB3 := Lib.hid (fbelow_t HB0.out hb)
    go_wp2
    go_ret
    exact ⟨rfl, HB3.out⟩
  by_cases h2 : 100 < many
  · have gh1 : decide (many < 1) = false := decide_eq_false h1
    have gh2 : decide (100 < many) = true := decide_eq_true h2
    clear h1 h2
    go_enter Try.func4, Try.ntmps4
    go_wp2_with fail
    refine (echoalive HA.out _).mono ?_
    rintro e w3 ⟨rfl, hb⟩
    have HB3 := Lib.hid (fbelow_t HB0.out hb)
    go_wp2
    go_ret
    exact ⟨rfl, HB3.out⟩
  by_cases h3 : i < 0
  · have gh1 : decide (many < 1) = false := decide_eq_false h1
    have gh2 : decide (100 < many) = false := decide_eq_false h2
    have gh3 : decide (i < 0) = true := decide_eq_true h3
    clear h1 h2 h3
    go_enter Try.func4, Try.ntmps4
    go_wp2_with fail
    refine (echoalive HA.out _).mono ?_
    rintro e w3 ⟨rfl, hb⟩
    have HB3 := Lib.hid (fbelow_t HB0.out hb)
    go_wp2
    go_ret
    exact ⟨rfl, HB3.out⟩
  by_cases h4 : k < 0
  · have gh1 : decide (many < 1) = false := decide_eq_false h1
    have gh2 : decide (100 < many) = false := decide_eq_false h2
    have gh3 : decide (i < 0) = false := decide_eq_false h3
    have gh4 : decide (k < 0) = true := decide_eq_true h4
    clear h1 h2 h3 h4
    go_enter Try.func4, Try.ntmps4
    go_wp2_with fail
    refine (echoalive HA.out _).mono ?_
    rintro e w3 ⟨rfl, hb⟩
    have HB3 := Lib.hid (fbelow_t HB0.out hb)
    go_wp2
    go_ret
    exact ⟨rfl, HB3.out⟩
  by_cases h5 : many ≤ i
  · have gh1 : decide (many < 1) = false := decide_eq_false h1
    have gh2 : decide (100 < many) = false := decide_eq_false h2
    have gh3 : decide (i < 0) = false := decide_eq_false h3
    have gh4 : decide (k < 0) = false := decide_eq_false h4
    have gh5 : decide (many ≤ i) = true := decide_eq_true h5
    clear h1 h2 h3 h4 h5
    go_enter Try.func4, Try.ntmps4
    go_wp2_with fail
    refine (echoalive HA.out _).mono ?_
    rintro e w3 ⟨rfl, hb⟩
    have HB3 := Lib.hid (fbelow_t HB0.out hb)
    go_wp2
    go_ret
    exact ⟨rfl, HB3.out⟩
  by_cases h6 : many ≤ k
  · have gh1 : decide (many < 1) = false := decide_eq_false h1
    have gh2 : decide (100 < many) = false := decide_eq_false h2
    have gh3 : decide (i < 0) = false := decide_eq_false h3
    have gh4 : decide (k < 0) = false := decide_eq_false h4
    have gh5 : decide (many ≤ i) = false := decide_eq_false h5
    have gh6 : decide (many ≤ k) = true := decide_eq_true h6
    clear h1 h2 h3 h4 h5 h6
    go_enter Try.func4, Try.ntmps4
    go_wp2_with fail
    refine (echoalive HA.out _).mono ?_
    rintro e w3 ⟨rfl, hb⟩
    have HB3 := Lib.hid (fbelow_t HB0.out hb)
    go_wp2
    go_ret
    exact ⟨rfl, HB3.out⟩
  by_cases h7 : i = k
  · have gh1 : decide (many < 1) = false := decide_eq_false h1
    have gh2 : decide (100 < many) = false := decide_eq_false h2
    have gh3 : decide (i < 0) = false := decide_eq_false h3
    have gh4 : decide (k < 0) = false := decide_eq_false h4
    have gh5 : decide (many ≤ i) = false := decide_eq_false h5
    have gh6 : decide (many ≤ k) = false := decide_eq_false h6
    clear h1 h2 h3 h4 h5 h6
    subst h7
    go_enter Try.func4, Try.ntmps4
    go_wp2_with fail
    refine (echoalive HA.out _).mono ?_
    rintro e w3 ⟨rfl, hb⟩
    have HB3 := Lib.hid (fbelow_t HB0.out hb)
    go_wp2
    go_ret
    exact ⟨rfl, HB3.out⟩
  obtain ⟨n, rfl⟩ : ∃ n : Nat, many = (n : Int) := ⟨many.toNat, by omega⟩
  obtain ⟨a, rfl⟩ : ∃ a : Nat, i = (a : Int) := ⟨i.toNat, by omega⟩
  obtain ⟨b, rfl⟩ : ∃ b : Nat, k = (b : Int) := ⟨k.toNat, by omega⟩
  have gh1 : decide ((n : Int) < 1) = false := decide_eq_false h1
  have gh2 : decide (100 < (n : Int)) = false := decide_eq_false h2
  have gh3 : decide ((a : Int) < 0) = false := decide_eq_false h3
  have gh4 : decide ((b : Int) < 0) = false := decide_eq_false h4
  have gh5 : decide (n ≤ a) = false := decide_eq_false (by omega)
  have gh6 : decide (n ≤ b) = false := decide_eq_false (by omega)
  have gh7 : ((a : Int) == (b : Int)) = false := by simpa using h7
  have HX := Lib.hid (ec_apart (n := n) (i := a) (k := b) (by omega) (by omega) (by omega) p q)
  have HN : Hid (boxesN (n : Int) = n) := Lib.hid (by unfold boxesN; rw [if_neg h1, if_neg (by omega), Int.toNat_natCast])
  have HOK : Hid (ecNew n).Ok := Lib.hid (by have := Ec.Ok.new (n : Int); rwa [HN.out] at this)
  clear h1 h2 h3 h4 h5 h6 h7
  go_enter Try.func4, Try.ntmps4
  go_wp2_with fail
  refine (HA.out.new n _).mono ?_
  rintro e w3 ⟨v, O, rfl, hi, hb, hn⟩
  obtain ⟨pa, rfl⟩ := HA.out.ptr hi
  rw [HN.out] at hi
  have H3 : Hid (Has I w (.pointer (some pa)) (ecNew n) O w3) := Lib.hid ⟨hi, fbelow_t HB0.out hb, fun k hk => Nat.le_trans HB0.out.size (hn k hk)⟩
  have HP3 := Lib.hid (HP0.out.later hb)
  have HQ3 := Lib.hid (HQ0.out.later hb)
  have np : ¬ O w.heap.size := fun h => by have := hn _ h; have := HP0.out.lt; omega
  have nq : ¬ O (w.heap.size + 1) := fun h => by have := hn _ h; have := HQ0.out.lt; omega
  clear hi hb hn e1 e2 s1
  obtain ⟨d0, d1, d2, d3, d4, d5, d6⟩ := HP3.out.cells
  obtain ⟨f0, f1, f2, f3, f4, f5, f6⟩ := HQ3.out.cells
  have zp := HP3.out.lt
  have zq := HQ3.out.lt
  clear gh1 gh2 gh3 gh4 gh5 gh6 gh7
  go_upto_region 4 with fail
  have hcp : ∀ (r : KLater O w3) (o : Nat), r.w.cell? ⟨w.heap.size, o, none⟩ = w3.cell? ⟨w.heap.size, o, none⟩ := fun r o => r.cell w.heap.size o zp np
  have hcq : ∀ (r : KLater O w3) (o : Nat), r.w.cell? ⟨w.heap.size + 1, o, none⟩ = w3.cell? ⟨w.heap.size + 1, o, none⟩ := fun r o => r.cell (w.heap.size + 1) o zq nq
  refine wp_region_st 8 [3, 7] (EcG I w (.pointer (some pa)) (fun j => match j with | 0 => ecNew n | 1 => ((ecNew n).put a p).1 | _ => (((ecNew n).put a p).1.put b q).1) w3 O) [] (EcG.start HA.out.obj H3.out) (by kernel_rfl) (by kernel_rfl) (by kernel_rfl) (by kernel_rfl) (by kernel_rfl) (by kernel_rfl) (by kernel_rfl) ?_
  simp only [List.take_succ_cons, List.take_zero, List.drop_succ_cons, List.drop_zero]
  repeat (refine st_plain (fun h => h.kept) (by rfl) (by rfl) (by rfl) (by rfl) (by rfl) ?_; intro K hK; go_big_quiet_op; go_big_quiet_on)
  refine st_step (f := 9) (args := #[.pointer (some pa), .int .i64 a, pkV p]) (v := .int .i64 0) 0 (by rfl) (by rfl) (by rfl) (by rfl) (by rfl) (fun w => by simp [go_sem]) (fun xs9 w9 h9 => ?_) ?_
  · obtain ⟨O9, g1, g2, g3⟩ := h9
    have g1 : Has I w (.pointer (some pa)) (ecNew n) O9 w9 := g1
    refine (HA.out.put a p g1.inv HOK.out).mono ?_
    rintro e w' ⟨he, O', hi, hk, hg⟩
    rw [HX.out.e1] at he
    exact ⟨he, O', g1.step HA.out.obj hi hk hg, g2.trans hk g3, g3.trans hg g2.size⟩
  simp only [Act.put, List.setIfInBounds_toArray, List.set_cons_succ, List.set_cons_zero]
  repeat (refine st_plain (fun h => h.kept) (by rfl) (by rfl) (by rfl) (by rfl) (by rfl) ?_; intro K hK; go_big_quiet_op; go_big_quiet_on)
  refine st_step (f := 9) (args := #[.pointer (some pa), .int .i64 b, pkV q]) (v := .int .i64 0) 1 (by rfl) (by rfl) (by rfl) (by rfl) (by rfl) (fun w => by simp [go_sem]) (fun xs9 w9 h9 => ?_) ?_
  · obtain ⟨O9, g1, g2, g3⟩ := h9
    have g1 : Has I w (.pointer (some pa)) ((ecNew n).put a p).1 O9 w9 := g1
    refine (HA.out.put b q g1.inv (HOK.out.put a p)).mono ?_
    rintro e w' ⟨he, O', hi, hk, hg⟩
    rw [HX.out.e2] at he
    exact ⟨he, O', g1.step HA.out.obj hi hk hg, g2.trans hk g3, g3.trans hg g2.size⟩
  simp only [Act.put, List.setIfInBounds_toArray, List.set_cons_succ, List.set_cons_zero]
  repeat (refine st_plain (fun h => h.kept) (by rfl) (by rfl) (by rfl) (by rfl) (by rfl) ?_; intro K hK; go_big_quiet_op; go_big_quiet_on)
  intro ys xs w4 hF h4
  simp only [secFill]
  obtain ⟨O4, h4, k4, g4⟩ := h4
  have h4 : Has I w (.pointer (some pa)) (((ecNew n).put a p).1.put b q).1 O4 w4 := h4
  have H4 := Lib.hid h4
  have HP4 := Lib.hid (HP3.out.kept k4 np)
  have HQ4 := Lib.hid (HQ3.out.kept k4 nq)
  have HNP : Hid (¬ O4 w.heap.size) := Lib.hid (out_step zp np g4)
  have HNQ : Hid (¬ O4 (w.heap.size + 1)) := Lib.hid (out_step zq nq g4)
  have HOK2 := Lib.hid ((HOK.out.put a p).put b q)
  have HX3 := Lib.hid HX.out.e3
  have HX4 := Lib.hid HX.out.e4
  have HX5 := Lib.hid HX.out.e5
  have HX6 := Lib.hid HX.out.e6
  clear h4 k4 g4 hF hcp hcq d0 d1 d2 d3 d4 d5 d6 f0 f1 f2 f3 f4 f5 f6 np nq zp zq HX
  generalize (((ecNew n).put a p).1.put b q).1 = s2 at H4 HOK2 HX3 HX4 HX5 HX6
  go_wp2_with fail
  refine (HA.out.get a H4.out.inv HOK2.out).mono ?_
  rw [HX3.out]
  rintro e w5 ⟨rfl, O5, hi, hk, hg⟩
  have H5 := Lib.hid (H4.out.step HA.out.obj hi hk hg)
  have HP5 := Lib.hid (HP4.out.kept hk HNP.out)
  have HQ5 := Lib.hid (HQ4.out.kept hk HNQ.out)
  have HNP5 : Hid (¬ O5 w.heap.size) := Lib.hid (out_step HP4.out.lt HNP.out hg)
  have HNQ5 : Hid (¬ O5 (w.heap.size + 1)) := Lib.hid (out_step HQ4.out.lt HNQ.out hg)
  have HOK3 := Lib.hid (HOK2.out.get a)
  clear hi hk hg
  generalize (s2.get a).1 = s3 at H5 HOK3 HX4 HX5 HX6
  have hb5 := (Below.refl w5.heap.size w5).alloc (Nat.le_refl _) (.cells #[.int .i64 p.f.i, .int .i64 p.f.n, .int .i64 p.f.l, .string p.f.d, .int .i64 p.fr, .int .i64 p.tag, .bool p.lp] 32)
  obtain ⟨w6, e6⟩ : ∃ w6, w5.alloc (.cells #[.int .i64 p.f.i, .int .i64 p.f.n, .int .i64 p.f.l, .string p.f.d, .int .i64 p.fr, .int .i64 p.tag, .bool p.lp] 32) = w6 := ⟨_, rfl⟩
  rw [e6] at hb5
  have H6 := Lib.hid (H5.out.later HA.out.obj hb5)
  have HP6 := Lib.hid (HP5.out.later hb5)
  have HQ6 := Lib.hid (HQ5.out.later hb5)
  have HXX6 : Hid (BoxP w6 w5.heap.size p) := Lib.hid (by rw [← e6]; exact BoxP.made w5 p)
  have HNX6 : Hid (¬ O5 w5.heap.size) := Lib.hid (fun h => absurd (HA.out.obj.lt H5.out.inv _ h) (Nat.lt_irrefl _))
  clear hb5
  go_wp2_with fail
  clear e6
  refine (HA.out.peek b H6.out.inv HOK3.out).mono ?_
  rw [HX4.out]
  rintro e w7 ⟨rfl, hb⟩
  have H7 := Lib.hid (H6.out.later HA.out.obj hb)
  have HP7 := Lib.hid (HP6.out.later hb)
  have HQ7 := Lib.hid (HQ6.out.later hb)
  have HX7 := Lib.hid (HXX6.out.later hb)
  clear hb
  have hb7 := (Below.refl w7.heap.size w7).alloc (Nat.le_refl _) (.cells #[.int .i64 q.f.i, .int .i64 q.f.n, .int .i64 q.f.l, .string q.f.d, .int .i64 q.fr, .int .i64 q.tag, .bool q.lp] 32)
  obtain ⟨w8, e8⟩ : ∃ w8, w7.alloc (.cells #[.int .i64 q.f.i, .int .i64 q.f.n, .int .i64 q.f.l, .string q.f.d, .int .i64 q.fr, .int .i64 q.tag, .bool q.lp] 32) = w8 := ⟨_, rfl⟩
  rw [e8] at hb7
  have H8 := Lib.hid (H7.out.later HA.out.obj hb7)
  have HP8 := Lib.hid (HP7.out.later hb7)
  have HQ8 := Lib.hid (HQ7.out.later hb7)
  have HX8 := Lib.hid (HX7.out.later hb7)
  have HY8 : Hid (BoxP w8 w7.heap.size q) := Lib.hid (by rw [← e8]; exact BoxP.made w7 q)
  have HNY8 : Hid (¬ O5 w7.heap.size) := Lib.hid (fun h => absurd (HA.out.obj.lt H7.out.inv _ h) (Nat.lt_irrefl _))
  clear hb7
  go_wp2_with fail
  clear e8
  refine (HA.out.get b H8.out.inv HOK3.out).mono ?_
  rw [HX5.out]
  rintro e w9 ⟨rfl, O9, hi, hk, hg⟩
  have H9 := Lib.hid (H8.out.step HA.out.obj hi hk hg)
  have HP9 := Lib.hid (HP8.out.kept hk HNP5.out)
  have HQ9 := Lib.hid (HQ8.out.kept hk HNQ5.out)
  have HX9 := Lib.hid (HX8.out.kept hk HNX6.out)
  have HY9 := Lib.hid (HY8.out.kept hk HNY8.out)
  have HOK9 := Lib.hid (HOK3.out.get b)
  clear hi hk hg
  generalize (s3.get b).1 = s4 at H9 HOK9 HX6
  have hb9 := (Below.refl w9.heap.size w9).alloc (Nat.le_refl _) (.cells #[.int .i64 q.f.i, .int .i64 q.f.n, .int .i64 q.f.l, .string q.f.d, .int .i64 q.fr, .int .i64 q.tag, .bool q.lp] 32)
  obtain ⟨wa, ea⟩ : ∃ wa, w9.alloc (.cells #[.int .i64 q.f.i, .int .i64 q.f.n, .int .i64 q.f.l, .string q.f.d, .int .i64 q.fr, .int .i64 q.tag, .bool q.lp] 32) = wa := ⟨_, rfl⟩
  rw [ea] at hb9
  have HAA := Lib.hid (H9.out.later HA.out.obj hb9)
  obtain ⟨d0, d1, d2, d3, d4, d5, d6⟩ := (HP9.out.later hb9).cells
  obtain ⟨f0, f1, f2, f3, f4, f5, f6⟩ := (HQ9.out.later hb9).cells
  obtain ⟨x0, x1, x2, x3, x4, x5, x6⟩ := (HX9.out.later hb9).cells
  obtain ⟨y0, y1, y2, y3, y4, y5, y6⟩ := (HY9.out.later hb9).cells
  have hz : BoxP wa w9.heap.size q := by rw [← ea]; exact BoxP.made w9 q
  obtain ⟨c0, c1, c2, c3, c4, c5, c6⟩ := hz.cells
  have sp := seq_self p.f.d
  have sq := seq_self q.f.d
  clear hb9 hz
  go_wp2_with fail
  clear ea
  refine (HA.out.len HAA.out.inv HOK9.out).mono ?_
  rw [HX6.out]
  rintro e wb ⟨rfl, hb⟩
  have HBB := Lib.hid (fbelow_t HAA.out.below hb)
  clear hb
  go_wp2_with fail
  refine (echoalive HA.out _).mono ?_
  rintro e wc ⟨rfl, hb⟩
  have HCC := Lib.hid (fbelow_t HBB.out hb)
  clear hb
  go_wp2
  go_ret
  exact ⟨rfl, HCC.out⟩
end Go.Proofs.Ytmpikfnemhjoeaa
