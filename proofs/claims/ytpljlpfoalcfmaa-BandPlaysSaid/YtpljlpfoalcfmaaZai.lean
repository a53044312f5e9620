/- Band, the document's side: Take. Band, the document's side: All. Of no program: what a callee hands out: new memory alone; a slice's shape. Band: what the walks ask of the code. No program is meant but by its functions' numbers. Band: what is taken is the first of all that are there. Of no program: 'clear' of a slice of one thing of several cells; a row whose head is cleared and cut off. -/
import Derived.Test.YtpljlpfoalcfmaaZah
import Derived.Test.YtpljlpfoalcfmaaZac
import Derived.Test.YtpljlpfoalcfmaaZaf
import Derived.Laws.IdiomCopy
import Derived.Lib.SliceRun
namespace Go.Proofs.Ytpljlpfoalcfmaa
open Go.RowKit
set_option linter.unusedVariables false

section
variable {α : Type} {c : α → List Value} {k : Nat} {w : World} {g o n cap j : Nat} {L : List α}
/-- the first of a row -/
theorem RdA.cutHead (h : RdA c k w (.slice (some ⟨g, o, none⟩) n cap) L) (hj : j ≤ L.length) (hc : L.length ≤ cap) : RdA c k w (.slice (some ⟨g, o, none⟩) j cap) (L.take j) := by
  obtain ⟨⟨A, cap', hv, hm, hcell⟩, _⟩ := h
  injection hv with hA _ hcap
  subst hA; subst hcap
  refine ⟨⟨_, cap, by rw [List.length_take, Nat.min_eq_left hj], by rw [List.length_take]; omega, fun i a ha => ?_⟩, .inr ⟨_, cap, by rw [List.length_take, Nat.min_eq_left hj], by rw [List.length_take]; omega⟩⟩
  have hi : i < j := by
    rcases Nat.lt_or_ge i j with h1 | h1
    · exact h1
    · rw [List.getElem?_eq_none (by rw [List.length_take]; omega)] at ha; cases ha
  rw [List.getElem?_take_of_lt hi] at ha
  exact hcell i a ha
/-- the rest of a row -/
theorem RdA.cutTail (h : RdA c k w (.slice (some ⟨g, o, none⟩) n cap) L) (hj : j ≤ L.length) (hc : L.length ≤ cap) : RdA c k w (.slice (some ⟨g, if cap = j then o else o + j * k, none⟩) (n - j) (cap - j)) (L.drop j) := by
  obtain ⟨⟨A, cap', hv, hm, hcell⟩, _⟩ := h
  injection hv with hA hn hcap
  subst hA; subst hcap; subst hn
  refine ⟨⟨_, _, by rw [List.length_drop], by rw [List.length_drop]; omega, fun i a ha => ?_⟩, .inr ⟨_, _, by rw [List.length_drop], by rw [List.length_drop]; omega⟩⟩
  rw [List.getElem?_drop] at ha
  obtain ⟨x', hx', hb, hq⟩ := hcell (j + i) a ha
  injection hx' with hx'
  subst hx'
  have hlt : j + i < L.length := by
    rcases Nat.lt_or_ge (j + i) L.length with h | h
    · exact h
    · rw [List.getElem?_eq_none h] at ha; cases ha
  refine ⟨_, rfl, hb, fun t u hu => ?_⟩
  have := hq t u hu
  rw [if_neg (by omega), qaddr]
  rw [qaddr] at this
  rw [show o + j * k + (i * k + t) = o + ((j + i) * k + t) by rw [Nat.add_mul]; omega]
  exact this
end
theorem cutQ_head {g o n cap j : Nat} (h : j ≤ cap) (w : World) : (Instr.sliceAt 42 (.slice (some ⟨g, o, none⟩) n cap) none (some (.int .i64 (j : Int))) none).run Try.prog w = .ok (.slice (some ⟨g, o, none⟩) j cap) w := by
  have e2 : (j : Int) ≤ (cap : Int) := by omega
  simp [go_sem, e2]
theorem cutQ_tail {g o n cap j : Nat} (h : j + 1 ≤ n) (hn : n ≤ cap) (w : World) : (Instr.sliceAt 42 (.slice (some ⟨g, o, none⟩) n cap) (some (.int .i64 ((j : Int) + 1))) none none).run Try.prog w = .ok (.slice (some ⟨g, if cap = j + 1 then o else o + (j + 1) * 8, none⟩) (n - (j + 1)) (cap - (j + 1))) w := by
  have e2 : (j : Int) + 1 ≤ (n : Int) := by omega
  have e3 : (n : Int) ≤ (cap : Int) := by omega
  have e4 : (0 : Int) ≤ (j : Int) + 1 := by omega
  have e5 : ((j : Int) + 1).toNat = j + 1 := by omega
  simp [go_sem, e2, e4, e5]
  split <;> simp_all []
theorem Bq.erase_eq (L : List On) (i : Nat) : L.take i ++ L.drop (i + 1) = L.eraseIdx i := (List.eraseIdx_eq_take_drop_succ L i).symm
theorem BqM.pack {w : World} {b g o cap n i : Nat} {s : Bq} {on : On} (h : BqM w b (.slice (some ⟨g, o, none⟩) n cap) s) (hl : s.L.length ≤ 1000) (hon : s.L[i]? = some on) : w.cell? ⟨g, o + i * 8 + 1, none⟩ = some (.int .i64 on.p.f.i) ∧ w.cell? ⟨g, o + i * 8 + 2, none⟩ = some (.int .i64 on.p.f.n) ∧
    w.cell? ⟨g, o + i * 8 + 3, none⟩ = some (.int .i64 on.p.f.l) ∧ w.cell? ⟨g, o + i * 8 + 4, none⟩ = some (.string on.p.f.d) ∧ w.cell? ⟨g, o + i * 8 + 5, none⟩ = some (.int .i64 on.p.fr) ∧ w.cell? ⟨g, o + i * 8 + 6, none⟩ = some (.int .i64 on.p.tag) ∧ w.cell? ⟨g, o + i * 8 + 7, none⟩ = some (.bool on.p.lp) := by
  have hk : i < s.L.length := by
    rcases Nat.lt_or_ge i s.L.length with h1 | h1
    · exact h1
    · rw [List.getElem?_eq_none h1] at hon; cases hon
  obtain ⟨x, c, h1, h2, h3⟩ := h.one hl hk
  injection h1 with h1 _ _
  injection h1 with h1
  subst h1
  rw [List.getElem?_eq_getElem hk] at hon
  injection hon with hon
  rw [hon] at h3
  simp only [qaddr] at h3
  exact ⟨h3 1 _ rfl, h3 2 _ rfl, h3 3 _ rfl, h3 4 _ rfl, h3 5 _ rfl, h3 6 _ rfl, h3 7 _ rfl⟩
theorem own_app2 {w w3 w4 : World} {v3 v4 : Value} (hb : Below w.heap.size w w3) (ho : ∀ g, OwnO v3 g → w.heap.size ≤ g) (hk : Kept (OwnO v3) w3 w4) (hg : Grows (OwnO v3) w3 (OwnO v4)) : Below w.heap.size w w4 ∧ ∀ g, OwnO v4 g → w.heap.size ≤ g := by
  refine ⟨hk.below hb hb.size ho, fun g h => ?_⟩
  rcases hg g h with h1 | h1
  · exact ho g h1
  · exact Nat.le_trans hb.size h1
theorem qtake_done {w w4 : World} {b z : Nat} {vl vl' : Value} {s : Bq} {L' : List On} {p0 : Pk} (p : Pk) (hm : BqM w b vl s) (hb : Below w.heap.size w w4) (hq : RowQ onC 8 w4 vl' L') (hz : w.heap.size ≤ z) (ho : ∀ g, OwnO vl' g → z < g) (hx : BoxP w4 z p0) :
    BoxP (putB (w4.setCell ⟨b, 0, none⟩ vl') z p) z p ∧ Stp BqD (.pointer (some ⟨b, 0, none⟩)) (bqO b vl) w { s with L := L' } (putB (w4.setCell ⟨b, 0, none⟩ vl') z p) := by
  have lb := heap_some_lt hm.box
  obtain ⟨h1, h2, h3⟩ := hm.setRow hb hq (fun g h => .inr (by have := ho g h; omega))
  have hx5 : BoxP (w4.setCell ⟨b, 0, none⟩ vl') z p0 := by
    have : (w4.setCell ⟨b, 0, none⟩ vl').heap[z]? = w4.heap[z]? := Below.heap_setCell _ _ _ _ (fun e => by have e : z = b := e; omega)
    exact this.trans hx
  have hn : ∀ k, bqO b vl' k → k ≠ z := by
    rintro k (rfl | hk) e
    · omega
    · have := ho k hk; omega
  refine ⟨hx5.put p, _, ⟨b, _, rfl, rfl, h1.stay (fun k hk => putB_other (hn k hk))⟩, ?_, h3⟩
  obtain ⟨r1, r2, r3⟩ := putB_rest (w4.setCell ⟨b, 0, none⟩ vl') z p
  exact ⟨r1.trans h2.os, r2.trans h2.tape, r3.trans h2.output, by rw [putB_size]; exact h2.size, fun k h4 h5 => (putB_other (by omega)).trans (h2.block k h4 h5)⟩
set_option maxHeartbeats 16000000 in
theorem xqtake_v {v : Value} {s : Bq} {O : Nat → Prop} {p : Pk} {is : Bool} (w : World) (h : BqD w v s O) (hk : s.take.2 = (p, is)) (hok : s.Ok) :
    Calls Try.prog 14 #[v] w fun x w' => x = .returned (.tuple #[pkV p, .bool is]) ∧ Stp BqD v O w s.take.1 w' := by
  obtain ⟨b, vl, rfl, rfl, hm⟩ := h
  have HM := Lib.hid hm
  have HK := Lib.hid hk
  have hb0 := (Below.refl w.heap.size w).alloc (Nat.le_refl _) (.cells #[.int .i64 0, .int .i64 0, .int .i64 0, .string (ByteArray.mk #[]), .int .i64 0, .int .i64 0, .bool false] 32)
  have HB0 := Lib.hid hb0
  have HP0 : Hid (BoxP (w.alloc (.cells #[.int .i64 0, .int .i64 0, .int .i64 0, .string (ByteArray.mk #[]), .int .i64 0, .int .i64 0, .bool false] 32)) w.heap.size pk0) := Lib.hid (BoxP.made w pk0)
  have HM0 := Lib.hid (hm.later hb0)
  have hzr := zeroPk
  have HLL : Hid (s.L.length ≤ 1000) := Lib.hid (by have := hok.room; have := hok.len; omega)
  have hlb : b < w.heap.size := heap_some_lt hm.box
  obtain ⟨f, hf⟩ : ∃ f, s.first s.L.length = f := ⟨_, rfl⟩
  obtain ⟨r, hr⟩ : ∃ r, fI f = r := ⟨_, rfl⟩
  have HF := Lib.hid hf
  have HR : Hid (fI (s.first s.L.length) = r) := Lib.hid (by rw [hf]; exact hr)
  cases f with
  | none =>
    have HE : Hid (s.take = (s, pk0, false)) := Lib.hid (by unfold Bq.take; rw [hf])
    rw [HE.out] at HK ⊢
    obtain ⟨rfl, rfl⟩ : pk0 = p ∧ false = is := by have e1 := HK.out; simpa using e1
    obtain rfl : -1 = r := hr
    have hd : decide ((-1 : Int) < 0) = true := rfl
    clear hm hk hb0 hok hf
    go_enter Try.func14, Try.ntmps14
    go_wp2_with fail
    refine (xqfirst_v _ HM0.out HLL.out HR.out).mono ?_
    rintro x w1 ⟨rfl, hb1⟩
    have HB1 := Lib.hid (fbelow_t HB0.out hb1)
    have HM1 := Lib.hid (HM.out.later HB1.out)
    have HP1 := Lib.hid (HP0.out.later hb1)
    obtain ⟨c0, c1, c2, c3⟩ := HM1.out.cells
    obtain ⟨d0, d1, d2, d3, d4, d5, d6⟩ := HP1.out.cells
    have fl : ∀ j, w1.frozen? ⟨w.heap.size, j, none⟩ = false := fun j => Lib.frozen_of_heap HP1.out j
    have HD := Lib.hid (HM.out.stp (putB_below pk0 HB1.out (Nat.le_refl _)))
    have HPR := Lib.hid (HP1.out.put pk0)
    obtain ⟨r0, r1, r2, r3, r4, r5, r6⟩ := HPR.out.cells
    unfold putB pk0 at r0 r1 r2 r3 r4 r5 r6
    unfold putB pk0 at HD
    clear hb1
    go_wp2_with fail
    refine bodyPost_ret (v := .tuple #[pkV pk0, .bool false]) ?_ rfl ⟨rfl, HD.out⟩
    simp [results, Try.results14, go_sem, pk0, r0, r1, r2, r3, r4, r5, r6]
  | some i =>
    obtain rfl : (i : Int) = r := hr
    have hd : decide ((i : Int) < 0) = false := decide_eq_false (by omega)
    by_cases hst : s.st = true
    · have HE : Hid (s.take = (s, pk0, false)) := Lib.hid (by unfold Bq.take; rw [hf]; exact if_pos hst)
      rw [HE.out] at HK ⊢
      obtain ⟨rfl, rfl⟩ : pk0 = p ∧ false = is := by have e1 := HK.out; simpa using e1
      clear hm hk hb0 hok hf
      go_enter Try.func14, Try.ntmps14
      go_wp2_with fail
      refine (xqfirst_v _ HM0.out HLL.out HR.out).mono ?_
      rintro x w1 ⟨rfl, hb1⟩
      have HB1 := Lib.hid (fbelow_t HB0.out hb1)
      have HM1 := Lib.hid (HM.out.later HB1.out)
      have HP1 := Lib.hid (HP0.out.later hb1)
      obtain ⟨c0, c1, c2, c3⟩ := HM1.out.cells
      obtain ⟨d0, d1, d2, d3, d4, d5, d6⟩ := HP1.out.cells
      have fl : ∀ j, w1.frozen? ⟨w.heap.size, j, none⟩ = false := fun j => Lib.frozen_of_heap HP1.out j
      have HD := Lib.hid (HM.out.stp (putB_below pk0 HB1.out (Nat.le_refl _)))
      have HPR := Lib.hid (HP1.out.put pk0)
      obtain ⟨r0, r1, r2, r3, r4, r5, r6⟩ := HPR.out.cells
      unfold putB pk0 at r0 r1 r2 r3 r4 r5 r6
      unfold putB pk0 at HD
      rw [hst] at c3
      clear hb1
      go_wp2_with fail
      refine bodyPost_ret (v := .tuple #[pkV pk0, .bool false]) ?_ rfl ⟨rfl, HD.out⟩
      simp [results, Try.results14, go_sem, pk0, r0, r1, r2, r3, r4, r5, r6]
    · have hsf : s.st = false := by simpa using hst
      have hi : i < s.L.length := Bq.first_lt hf
      obtain ⟨on, hon⟩ : ∃ on, s.L[i]? = some on := ⟨_, List.getElem?_eq_getElem hi⟩
      have HE : Hid (s.take = ({ s with L := s.L.eraseIdx i }, on.p, true)) := Lib.hid (by unfold Bq.take; rw [hf]; simp [hst, List.getD_eq_getElem?_getD, hon])
      rw [HE.out] at HK ⊢
      obtain ⟨rfl, rfl⟩ : on.p = p ∧ true = is := by have e1 := HK.out; simpa using e1
      have hrow := hm.row
      obtain ⟨g, o, cap, hvl⟩ := hrow.formN (by omega)
      subst hvl
      have hcl : s.L.length ≤ cap := by
        rcases hrow with ⟨h, _⟩ | ⟨g', o', cap', hv, h1, _⟩
        · injection h with h1 _ _; cases h1
        · injection hv with _ _ h2; omega
      have HCL := Lib.hid hcl
      have HON := Lib.hid hon
      have hcut1 := fun w => cutQ_head (g := g) (o := o) (n := s.L.length) (cap := cap) (j := i) (by omega) w
      have hcut2 := fun w => cutQ_tail (g := g) (o := o) (n := s.L.length) (cap := cap) (j := i) (by omega) hcl w
      clear hm hk hb0 hok hf hst hrow hcl hon
      go_enter Try.func14, Try.ntmps14
      go_wp2_with fail
      refine (xqfirst_v _ HM0.out HLL.out HR.out).mono ?_
      rintro x w1 ⟨rfl, hb1⟩
      have HB1 := Lib.hid (fbelow_t HB0.out hb1)
      have HM1 := Lib.hid (HM.out.later HB1.out)
      have HP1 := Lib.hid (HP0.out.later hb1)
      have hlb1 : b < w1.heap.size := heap_some_lt HM1.out.box
      obtain ⟨c0, c1, c2, c3⟩ := HM1.out.cells
      rw [hsf] at c3
      obtain ⟨m1, m2, m3, m4, m5, m6, m7⟩ := HM1.out.pack HLL.out HON.out
      clear hb1
      go_upto_region 5 with fail
      generalize hw2 : World.alloc w1 _ = w2
      have HB2 : Hid (Below w1.heap.size w1 w2) := Lib.hid (by rw [← hw2]; exact (Below.refl _ w1).alloc (Nat.le_refl _) _)
      have HP2 : Hid (BoxP w2 w1.heap.size on.p) := Lib.hid (by rw [← hw2]; exact BoxP.made w1 on.p)
      have HZ2 : Hid (BoxP w2 w.heap.size pk0) := Lib.hid (HP1.out.later HB2.out)
      have HBD := Lib.hid (fbelow_t HB1.out HB2.out)
      have HMD := Lib.hid (HM.out.later HBD.out)
      have hz12 : w.heap.size < w1.heap.size := HP1.out.lt
      have hz1 : w1.heap.size < w2.heap.size := HP2.out.lt
      clear c0 c1 c2 c3 m1 m2 m3 m4 m5 m6 m7 hw2
      obtain ⟨c0, c1, c2, c3⟩ := HMD.out.cells
      have hlb2 : b < w2.heap.size := heap_some_lt HMD.out.box
      have HRD : Hid (RdA onC 8 (w2.alloc (.cells #[] 60)) (.slice (some ⟨g, o, none⟩) i cap) (s.L.take i)) := Lib.hid
        (((HMD.out.row.later ((Below.refl _ _).alloc (Nat.le_refl _) _)).rda onC_len (by have := HLL.out; unfold maxLen; omega)).cutHead (by omega) HCL.out)
      go_upto_region 6 with (at_builtin; refine wpList_qO (c := onC) (L := []) (M := s.L.take i) flat_on onC_len onC_one rfl (.tmp 26) (.tmp 32) rfl (by simp [Act.eval]) (RowQ.empty _ _) (by simp [Act.eval]) HRD.out (by have := HLL.out; simp; omega) ?_; rintro v3 w3 hq3 hk3 hg3; have hq3 : RowQ onC 8 w3 v3 (s.L.take i) := hq3; obtain ⟨A3, cap3, rfl⟩ := hq3.shape; have HQ3 := Lib.hid hq3; have HF3 := Lib.hid (own_fresh (Below.refl _ w2) hk3 hg3); clear hq3 hk3 hg3)
      clear c0 c1 c2 c3
      have hLL := HLL.out
      have HB3 := Lib.hid (fbelow_t HBD.out HF3.out.1)
      have HM3 := Lib.hid (HM.out.later HB3.out)
      obtain ⟨c0, c1, c2, c3⟩ := HM3.out.cells
      have f0 := HM3.out.live 0
      have hlb3 : b < w3.heap.size := heap_some_lt HM3.out.box
      have HRE : Hid (RdA onC 8 w3 (.slice (some ⟨g, if cap = i + 1 then o else o + (i + 1) * 8, none⟩) (s.L.length - (i + 1)) (cap - (i + 1))) (s.L.drop (i + 1))) := Lib.hid
        ((HM3.out.row.rda onC_len (by have := HLL.out; unfold maxLen; omega)).cutTail (by omega) HCL.out)
      go_upto_region 7 with (at_builtin; refine wpList_qO (c := onC) (L := s.L.take i) (M := s.L.drop (i + 1)) flat_on onC_len onC_one rfl (.tmp 35) (.tmp 42) rfl (by simp [Act.eval]) HQ3.out (by simp [Act.eval]) HRE.out (by have := HLL.out; simp; omega) ?_; rintro v4 w4 hq4 hk4 hg4; obtain ⟨A4, n4, cap4, rfl⟩ : ∃ A n c, v4 = .slice A n c := (by obtain ⟨A, c, h⟩ := hq4.shape; exact ⟨A, _, c, h⟩); have HQ4 := Lib.hid hq4; have HF4 := Lib.hid (own_app2 HF3.out.1 HF3.out.2 hk4 hg4); clear hq4 hk4 hg4; have y0 := (HMD.out.later HF4.out.1).cells.1; have y1 := (HMD.out.later HF4.out.1).live 0)
      have HB4 := Lib.hid (fbelow_t HBD.out HF4.out.1)
      have HT := Lib.hid (qtake_done on.p HM.out HB4.out HQ4.out (Nat.le_refl _) (fun g h => by have := HF4.out.2 g h; omega) (HZ2.out.later HF4.out.1))
      have hx1 : ∀ z p0, BoxP w4 z p0 → z ≠ b → BoxP (w4.setCell ⟨b, 0, none⟩ (.slice A4 n4 cap4)) z p0 := fun z p0 h hn => (Below.heap_setCell _ _ _ _ (fun e => hn e)).trans h
      have HX1 := Lib.hid (hx1 _ _ (HP2.out.later HF4.out.1) (by omega))
      have HX2 := Lib.hid (hx1 _ _ (HZ2.out.later HF4.out.1) (by omega))
      generalize w4.setCell ⟨b, 0, none⟩ (.slice A4 n4 cap4) = w5 at *
      clear c0 c1 c2 c3 f0 y0 y1 hx1
      obtain ⟨d0, d1, d2, d3, d4, d5, d6⟩ := HX1.out.cells
      obtain ⟨e0, e1, e2, e3, e4, e5, e6⟩ := HX2.out.cells
      have fl : ∀ j, w5.frozen? ⟨w.heap.size, j, none⟩ = false := fun j => Lib.frozen_of_heap HX2.out j
      have HE2 := Lib.hid (Bq.erase_eq s.L i)
      rw [HE2.out] at HT
      go_wp2_with fail
      all_goals (
        obtain ⟨r0, r1, r2, r3, r4, r5, r6⟩ := HT.out.1.cells
        unfold putB at r0 r1 r2 r3 r4 r5 r6
        have HS2 := HT.out.2
        rw [hsf] at HS2
        refine bodyPost_ret (v := .tuple #[pkV on.p, .bool true]) ?_ rfl ⟨rfl, HS2⟩
        simp [results, Try.results14, go_sem, r0, r1, r2, r3, r4, r5, r6])
end Go.Proofs.Ytpljlpfoalcfmaa

namespace Go.Proofs.Ytpljlpfoalcfmaa
open Go.RowKit
set_option linter.unusedVariables false

theorem info_pkt : (Try.prog.info? 32).map (fun i => (i.zero, i.size, i.bytes)) = some (some (.agg #[.int .i64 0, .int .i64 0, .int .i64 0, .string (ByteArray.mk #[]), .int .i64 0, .int .i64 0, .bool false]), 7, 64) := by kernel_rfl
theorem flat_pk : FlatE Try.prog 47 32 7 64 := by
  obtain ⟨i0, hi, hz0, hz1, hz2⟩ := info_parts info_pkt
  exact ⟨Try.underlying47, i0, _, hi, hz0, hz1, hz2, rfl, by decide, by decide⟩
theorem pkC_one : ∀ p : Pk, ∀ u ∈ pkC p, u.oneCell' = true := fun f u hu => by
  simp only [pkC, List.mem_cons, List.not_mem_nil, or_false] at hu
  rcases hu with rfl | rfl | rfl | rfl | rfl | rfl | rfl <;> rfl
theorem Bq.allTo_succ (s : Bq) (k : Nat) : s.allTo (k + 1) = s.allTo k ++ s.inBand k s.L.length := by
  unfold Bq.allTo
  rw [List.range_succ, List.flatMap_append]
  simp
theorem Bq.inBand_zero (s : Bq) (k : Nat) : s.inBand k 0 = [] := by unfold Bq.inBand; simp
theorem Bq.inBand_succ {s : Bq} {k j : Nat} {o : On} (h : s.L[j]? = some o) : s.inBand k (j + 1) = s.inBand k j ++ (if o.b = (k : Int) then [o.p] else []) := by
  unfold Bq.inBand
  rw [List.take_add_one, h]
  simp only [Option.toList_some, List.filter_append, List.map_append]
  by_cases hb : o.b = (k : Int) <;> simp [hb]
theorem Bq.inBand_len (s : Bq) (k j : Nat) : (s.inBand k j).length ≤ j := by
  unfold Bq.inBand
  rw [List.length_map]
  exact Nat.le_trans (List.length_filter_le _ _) (by rw [List.length_take]; omega)
theorem Bq.allTo_len (s : Bq) : ∀ k, (s.allTo k).length ≤ k * s.L.length
  | 0 => by simp [Bq.allTo]
  | k + 1 => by
    rw [Bq.allTo_succ, List.length_append, Nat.add_mul, Nat.one_mul]
    exact Nat.add_le_add (s.allTo_len k) (s.inBand_len k _)
/-- (behind a name) what is gathered ahead of place j of band k -/
structure AllR (s : Bq) (w : World) (k j : Nat) (u : Value) (wr : World) : Prop where
  row : RowQ pkC 7 wr u (s.allTo k ++ s.inBand k j)
  below : Below w.heap.size w wr
  own : ∀ g, OwnO u g → w.heap.size ≤ g
theorem AllR.start (s : Bq) (w : World) : AllR s w 0 0 (.slice none 0 0) w := ⟨by simp only [Bq.allTo, Bq.inBand]; exact RowQ.nil _, Below.refl _ _, fun g h => by cases h⟩
theorem AllR.next {s : Bq} {w wr : World} {k : Nat} {u : Value} (h : AllR s w k s.L.length u wr) : AllR s w (k + 1) 0 u wr := ⟨by rw [Bq.allTo_succ, Bq.inBand_zero, List.append_nil]; exact h.row, h.below, h.own⟩
theorem AllR.skip {s : Bq} {w wr : World} {k j : Nat} {u : Value} {o : On} (h : AllR s w k j u wr) (ho : s.L[j]? = some o) (hb : ¬ o.b = (k : Int)) : AllR s w k (j + 1) u wr := ⟨by rw [Bq.inBand_succ ho, if_neg hb, List.append_nil]; exact h.row, h.below, h.own⟩
theorem AllR.more {s : Bq} {w wr w' : World} {ob : Obj} {k j : Nat} {u u' : Value} {o : On} (h : AllR s w k j u wr) (ho : s.L[j]? = some o) (hb : o.b = (k : Int)) (hq : RowQ pkC 7 w' u' ((s.allTo k ++ s.inBand k j) ++ [o.p])) (hk : Kept (OwnO u) (wr.alloc ob) w') (hg : Grows (OwnO u) (wr.alloc ob) (OwnO u')) :
    AllR s w k (j + 1) u' w' := by
  obtain ⟨h1, h2⟩ := own_app h.below h.own hk hg
  exact ⟨by rw [Bq.inBand_succ ho, if_pos hb, ← List.append_assoc]; exact hq, h1, h2⟩
theorem AllR.size {s : Bq} {k j : Nat} (hk : (k : Int) < s.bands) (hj : j < s.L.length) (hok : s.Ok) : (s.allTo k ++ s.inBand k j).length + 1 ≤ 1000000 := by
  have h1 := s.allTo_len k
  have h2 := s.inBand_len k j
  have h3 : s.L.length ≤ 1000 := by have := hok.room; have := hok.len; omega
  have h4 : k + 1 ≤ 1000 := by have := hok.bands; omega
  have h5 : (k + 1) * s.L.length ≤ 1000 * 1000 := Nat.mul_le_mul h4 h3
  rw [Nat.add_mul, Nat.one_mul] at h5
  rw [List.length_append]
  omega
set_option maxHeartbeats 8000000 in
theorem xqall_v {v : Value} {s : Bq} {O : Nat → Prop} (w : World) (h : BqD w v s O) (hok : s.Ok) :
    Calls Try.prog 22 #[v] w fun x w' => ∃ u, x = .returned u ∧ RowQ pkC 7 w' u s.all ∧ Below w.heap.size w w' ∧ ∀ g, OwnO u g → w.heap.size ≤ g := by
  obtain ⟨b, vl, rfl, rfl, hm⟩ := h
  have HM := Lib.hid hm
  have HOK := Lib.hid hok
  have HL : Hid (s.L.length ≤ 1000) := Lib.hid (by have := hok.room; have := hok.len; omega)
  have hbd := hok.bands
  obtain ⟨n, hn⟩ := Int.eq_ofNat_of_zero_le (show 0 ≤ s.bands by omega)
  have HN := Lib.hid hn
  rw [hn] at hbd
  have hn1 : n ≤ 1000 := by omega
  have HAL : Hid (s.all = s.allTo n) := Lib.hid (by unfold Bq.all; rw [hn]; rfl)
  have HST := Lib.hid (AllR.start s w)
  obtain ⟨A, cap, hvl⟩ := hm.row.shape
  subst hvl
  clear hm hok hbd hn
  go_enter Try.func22, Try.ntmps22
  go_wp2
  go_loopw [4, 3] (fun i u wr => ∃ k : Nat, k ≤ n ∧ i = .int .i64 k ∧ Hid (AllR s w k 0 u wr)) (fun i _ _ => n - (intOf i).toNat)
  case atStart => exact ⟨0, Nat.zero_le _, rfl, HST⟩
  case round =>
    obtain ⟨k, hk, rfl, HI⟩ := hrel
    have HMR := Lib.hid (HM.out.later HI.out.below)
    obtain ⟨c0, c1, c2, c3⟩ := HMR.out.cells
    rw [HN.out] at c1
    by_cases hlt : k < n
    · have hd : decide ((k : Int) < (n : Int)) = true := decide_eq_true (by omega)
      go_wp2
      go_loopw [5, 3] (fun i u wr => ∃ j : Nat, j ≤ s.L.length ∧ i = .int .i64 j ∧ Hid (AllR s w k j u wr)) (fun i _ _ => s.L.length - (intOf i).toNat)
      case atStart => exact ⟨0, Nat.zero_le _, rfl, HI⟩
      case round =>
        obtain ⟨j, hj, rfl, HJ⟩ := hrel
        clear c0 c1 c2 c3 HMR
        have HMR := Lib.hid (HM.out.later HJ.out.below)
        obtain ⟨c0, c1, c2, c3⟩ := HMR.out.cells
        by_cases hlj : j < s.L.length
        · have hd2 : decide ((j : Int) < (s.L.length : Int)) = true := decide_eq_true (by omega)
          obtain ⟨g, o, cp, hv⟩ := HMR.out.row.formN (by omega)
          injection hv with hA _ hc
          subst hA; subst hc
          obtain ⟨on, hon⟩ : ∃ on, s.L[j]? = some on := ⟨_, List.getElem?_eq_getElem hlj⟩
          have HON := Lib.hid hon
          have hL := HL.out
          have m0 := HMR.out.band HL.out hlj
          rw [List.getD_eq_getElem?_getD, hon] at m0
          simp only [Option.getD_some] at m0
          obtain ⟨m1, m2, m3, m4, m5, m6, m7⟩ := HMR.out.pack HL.out hon
          by_cases hb : on.b = (k : Int)
          · have HB := Lib.hid hb
            rw [hb] at m0
            clear hon hb
            have HSZ := Lib.hid (AllR.size (s := s) (k := k) (by rw [HN.out]; omega) hlj HOK.out)
            have HBL : Hid (Below wr.heap.size wr (wr.alloc (.cells #[.int .i64 on.p.f.i, .int .i64 on.p.f.n, .int .i64 on.p.f.l, .string on.p.f.d, .int .i64 on.p.fr, .int .i64 on.p.tag, .bool on.p.lp] 32))) := Lib.hid ((Below.refl _ _).alloc (Nat.le_refl _) _)
            have HRQ := Lib.hid (HJ.out.row.later HBL.out)
            have HR1 : Hid (RdA pkC 7 (wr.alloc (.cells #[.int .i64 on.p.f.i, .int .i64 on.p.f.n, .int .i64 on.p.f.l, .string on.p.f.d, .int .i64 on.p.fr, .int .i64 on.p.tag, .bool on.p.lp] 32)) (.slice (some ⟨wr.heap.size, 0, none⟩) 1 1) [on.p]) := Lib.hid (RdA.one pkC_len _ _ _ rfl rfl)
            go_wp2_with (at_builtin; refine wpList_qO (c := pkC) (M := [on.p]) flat_pk pkC_len pkC_one rfl (.tmp 33) (.tmp 42) rfl (by rfl) HRQ.out (by rfl) HR1.out (by have := HSZ.out; simp only [List.length_singleton]; omega) ?_; rintro v4 w4 hq4 hk4 hg4; have HR4 := Lib.hid (HJ.out.more HON.out HB.out hq4 hk4 hg4); clear hq4 hk4 hg4)
            go_roundw
            case rel => exact ⟨j + 1, by omega, by go_num, HR4⟩
            case measure => simp [intOf]; omega
          · have HR4 := Lib.hid (HJ.out.skip hon hb)
            have hd3 : (on.b == (k : Int)) = false := by simp [hb]
            clear hon hb
            go_wp2
            go_roundw
            case rel => exact ⟨j + 1, by omega, by go_num, HR4⟩
            case measure => simp [intOf]; omega
        · obtain rfl : j = s.L.length := by omega
          have HNX := Lib.hid HJ.out.next
          go_wp2
          go_roundw
          case rel => exact ⟨k + 1, by omega, by go_num, HNX⟩
          case measure => simp [intOf]; omega
    · obtain rfl : k = n := by omega
      go_wp2
      go_ret
      refine ⟨_, rfl, ?_, HI.out.below, HI.out.own⟩
      rw [HAL.out]
      have h1 := HI.out.row
      rw [Bq.inBand_zero, List.append_nil] at h1
      exact h1
end Go.Proofs.Ytpljlpfoalcfmaa

namespace Go.Proofs.Ytpljlpfoalcfmaa
open Go.RowKit
set_option linter.unusedVariables false

/-- a callee that makes new memory alone, with what it returns behind a fact -/
def Gives (w : World) (p : World → Value → Prop) (e : Ending) (w' : World) : Prop := ∃ u, e = .returned u ∧ p w' u ∧ Below w.heap.size w w'
/-- a slice's length is not above its room -/
def CapOk (u : Value) : Prop := ∀ A n c, u = .slice A n c → n ≤ c
/-- nil, or with room for what it holds -/
def ShapeOk (u : Value) : Prop := u = .slice none 0 0 ∨ ∃ x n c, u = .slice (some x) n c ∧ n ≤ c
end Go.Proofs.Ytpljlpfoalcfmaa

namespace Go.Proofs.Ytpljlpfoalcfmaa
open Go.RowKit
set_option linter.unusedVariables false

/-- what Take tells: a packet, and an error's number -/
def Bq.tk (s : Bq) : Pk × Int := (s.take.2.1, if s.take.2.2 = true then 0 else 6)
structure BandApi (P : Program) (fN fP fT fS fW fD fL fA fF : Nat) (I : World → Value → Bq → (Nat → Prop) → Prop) : Prop where
  obj : IsObj I
  ptr : ∀ {w v s O}, I w v s O → ∃ a, v = .pointer (some a)
  new : ∀ (bands room : Int) (w : World), Calls P fN #[.int .i64 bands, .int .i64 room] w fun e w' => ∃ v O, e = .returned v ∧ I w' v (bqNew bands room) O ∧ Below w.heap.size w w' ∧ ∀ k, O k → w.heap.size ≤ k
  put : ∀ {w v s O} (b : Int) (p : Pk), I w v s O → s.Ok → Calls P fP #[v, .int .i64 b, pkV p] w fun e w' => e = .returned (.int .i64 (s.put b p).2) ∧ Stp I v O w (s.put b p).1 w'
  take : ∀ {w v s O}, I w v s O → s.Ok → Calls P fT #[v] w fun e w' => e = .returned (.tuple #[pkV s.tk.1, .int .i64 s.tk.2]) ∧ Stp I v O w s.take.1 w'
  stop : ∀ {w v s O}, I w v s O → s.Ok → Calls P fS #[v] w fun e w' => e = .returned (.tuple #[]) ∧ Stp I v O w { s with st := true } w'
  wake : ∀ {w v s O}, I w v s O → s.Ok → Calls P fW #[v] w fun e w' => e = .returned (.tuple #[]) ∧ Stp I v O w { s with st := false } w'
  stopped : ∀ {w v s O}, I w v s O → s.Ok → Calls P fD #[v] w fun e w' => e = .returned (.bool s.st) ∧ Below w.heap.size w w'
  len : ∀ {w v s O}, I w v s O → s.Ok → Calls P fL #[v] w fun e w' => e = .returned (.int .i64 (s.L.length : Nat)) ∧ Below w.heap.size w w'
  all : ∀ {w v s O}, I w v s O → s.Ok → Calls P fA #[v] w (Gives w fun w' u => SlA pkC 7 w' (fun k => k < w.heap.size) u s.all ∧ ShapeOk u)
  flush : ∀ {w v s O}, I w v s O → s.Ok → Calls P fF #[v] w fun e w' => e = .returned (.int .i64 (s.L.length : Nat)) ∧ Stp I v O w { s with L := [] } w'
/-- of nil -/
structure BandNone (P : Program) (fP fT fS fW fD fL fA fF : Nat) : Prop where
  put : ∀ (b : Int) (p : Pk) w, Calls P fP #[.pointer none, .int .i64 b, pkV p] w fun e w' => e = .returned (.int .i64 1) ∧ Below w.heap.size w w'
  take : ∀ w, Calls P fT #[.pointer none] w fun e w' => e = .returned (.tuple #[pkV pk0, .int .i64 1]) ∧ Below w.heap.size w w'
  stop : ∀ w, Calls P fS #[.pointer none] w fun e w' => e = .returned (.tuple #[]) ∧ Below w.heap.size w w'
  wake : ∀ w, Calls P fW #[.pointer none] w fun e w' => e = .returned (.tuple #[]) ∧ Below w.heap.size w w'
  stopped : ∀ w, Calls P fD #[.pointer none] w fun e w' => e = .returned (.bool false) ∧ Below w.heap.size w w'
  len : ∀ w, Calls P fL #[.pointer none] w fun e w' => e = .returned (.int .i64 0) ∧ Below w.heap.size w w'
  all : ∀ w, Calls P fA #[.pointer none] w fun e w' => (∃ A c, e = .returned (.slice A 0 c)) ∧ Below w.heap.size w w'
  flush : ∀ w, Calls P fF #[.pointer none] w fun e w' => e = .returned (.int .i64 0) ∧ Below w.heap.size w w'
abbrev BandI (I : World → Value → Bq → (Nat → Prop) → Prop) : Prop := BandApi Try.prog 9 11 13 15 16 19 18 21 17 I
abbrev BandNo : Prop := BandNone Try.prog 11 13 15 16 19 18 21 17
end Go.Proofs.Ytpljlpfoalcfmaa

namespace Go.Proofs.Ytpljlpfoalcfmaa
open Go.RowKit
set_option linter.unusedVariables false

def Bq.bd (s : Bq) (k : Nat) : Int := (s.L.getD k ⟨0, pk0⟩).b
/-- the first of the least band -/
theorem Bq.first_spec {s : Bq} : ∀ {k i : Nat}, s.first k = some i → i < k ∧ (∀ j, j < i → s.bd i < s.bd j) ∧ ∀ j, j < k → s.bd i ≤ s.bd j
  | 0, i, h => by cases h
  | k + 1, i, h => by
    unfold Bq.first at h
    cases hk : s.first k with
    | none =>
      rw [hk] at h
      injection h with h
      subst h
      obtain rfl := Bq.first_none hk
      exact ⟨by omega, fun j hj => by omega, fun j hj => by have : j = 0 := by omega
                                                            subst this; exact Int.le_refl _⟩
    | some m =>
      rw [hk] at h
      simp only at h
      obtain ⟨h1, h2, h3⟩ := Bq.first_spec hk
      by_cases hl : (s.L.getD k ⟨0, pk0⟩).b < (s.L.getD m ⟨0, pk0⟩).b
      · rw [if_pos hl] at h
        injection h with h
        subst h
        have hl : s.bd k < s.bd m := hl
        refine ⟨by omega, fun j hj => by have := h3 j hj; omega, fun j hj => ?_⟩
        by_cases e : j = k
        · subst e; exact Int.le_refl _
        · have := h3 j (by omega); omega
      · rw [if_neg hl] at h
        injection h with h
        subst h
        have hl : ¬ s.bd k < s.bd m := hl
        refine ⟨by omega, h2, fun j hj => ?_⟩
        by_cases e : j = k
        · subst e; omega
        · exact h3 j (by omega)
theorem Bq.first_some {s : Bq} (h : s.L ≠ []) : ∃ i, s.first s.L.length = some i := by
  cases hf : s.first s.L.length with
  | none => exact absurd (List.eq_nil_of_length_eq_zero (Bq.first_none hf)) h
  | some i => exact ⟨i, rfl⟩
def bandF (L : List On) (b : Nat) : List Pk := (L.filter fun o => o.b == (b : Int)).map fun o => o.p
theorem bandF_app (L M : List On) (b : Nat) : bandF (L ++ M) b = bandF L b ++ bandF M b := by unfold bandF; rw [List.filter_append, List.map_append]
theorem bandF_none {L : List On} {b : Nat} (h : ∀ o ∈ L, o.b ≠ (b : Int)) : bandF L b = [] := by
  unfold bandF
  rw [List.filter_eq_nil_iff.2 (fun o ho => by simpa using h o ho)]
  rfl
theorem bandF_one (x : On) (b : Nat) : bandF [x] b = if x.b = (b : Int) then [x.p] else [] := by
  unfold bandF
  by_cases h : x.b = (b : Int) <;> simp [h]
def allF (L : List On) (n : Nat) : List Pk := (List.range n).flatMap (bandF L)
theorem allF_succ (L : List On) (n : Nat) : allF L (n + 1) = allF L n ++ bandF L n := by unfold allF; rw [List.range_succ, List.flatMap_append]; simp
theorem Bq.all_F (s : Bq) : s.all = allF s.L s.bands.toNat := by
  unfold Bq.all Bq.allTo allF
  congr 1
  funext b
  unfold Bq.inBand bandF
  rw [List.take_of_length_le (Nat.le_refl _)]
theorem allF_less {L : List On} {c : Nat} (h : ∀ o ∈ L, (c : Int) ≤ o.b) : ∀ n, n ≤ c → allF L n = []
  | 0, _ => rfl
  | n + 1, hn => by rw [allF_succ, allF_less h n (by omega), bandF_none (fun o ho e => by have := h o ho; omega)]; rfl
/-- the least one, and the first of its band, goes ahead -/
theorem allF_cons {L1 L2 : List On} {x : On} {c : Nat} (hx : x.b = (c : Int)) (h1 : ∀ o ∈ L1, (c : Int) < o.b) (h2 : ∀ o ∈ L2, (c : Int) ≤ o.b) : ∀ n, c < n → allF (L1 ++ x :: L2) n = x.p :: allF (L1 ++ L2) n
  | 0, h => by omega
  | n + 1, h => by
    have e : L1 ++ x :: L2 = L1 ++ ([x] ++ L2) := rfl
    rw [allF_succ, allF_succ]
    by_cases hc : c = n
    · subst hc
      have a1 : ∀ o ∈ L1 ++ x :: L2, (c : Int) ≤ o.b := fun o ho => by
        simp only [List.mem_append, List.mem_cons] at ho
        rcases ho with ho | rfl | ho
        · have := h1 o ho; omega
        · omega
        · exact h2 o ho
      have a2 : ∀ o ∈ L1 ++ L2, (c : Int) ≤ o.b := fun o ho => by
        simp only [List.mem_append] at ho
        rcases ho with ho | ho
        · have := h1 o ho; omega
        · exact h2 o ho
      rw [allF_less a1 c (Nat.le_refl _), allF_less a2 c (Nat.le_refl _), e, bandF_app, bandF_app, bandF_app, bandF_one, if_pos hx, bandF_none (L := L1) (fun o ho e => by have := h1 o ho; omega)]
      rfl
    · rw [allF_cons hx h1 h2 n (by omega), e, bandF_app, bandF_app, bandF_app, bandF_one, if_neg (by omega)]
      rfl
theorem split_at {L : List On} {i : Nat} {x : On} (h : L[i]? = some x) : L = L.take i ++ x :: L.drop (i + 1) ∧ L.eraseIdx i = L.take i ++ L.drop (i + 1) := by
  have hi : i < L.length := by
    rcases Nat.lt_or_ge i L.length with h1 | h1
    · exact h1
    · rw [List.getElem?_eq_none h1] at h; cases h
  rw [List.getElem?_eq_getElem hi] at h
  injection h with h
  refine ⟨?_, List.eraseIdx_eq_take_drop_succ L i⟩
  rw [← h]
  simp
/-- Take takes the first of all that are there -/
theorem Bq.take_all {s : Bq} (hok : s.Ok) (hs : s.st = false) (hn : s.L ≠ []) : s.take.2.2 = true ∧ s.all = s.take.2.1 :: s.take.1.all ∧ s.take.1.st = false ∧ s.take.1.bands = s.bands ∧ s.L.length = s.take.1.L.length + 1 := by
  obtain ⟨i, hi⟩ := Bq.first_some hn
  obtain ⟨h1, h2, h3⟩ := Bq.first_spec hi
  obtain ⟨x, hx⟩ : ∃ x, s.L[i]? = some x := ⟨_, List.getElem?_eq_getElem h1⟩
  have e : s.take = ({ s with L := s.L.eraseIdx i }, x.p, true) := by unfold Bq.take; rw [hi]; simp [hs, List.getD_eq_getElem?_getD, hx]
  rw [e]
  obtain ⟨e1, e2⟩ := split_at hx
  have hb : ∀ j y, s.L[j]? = some y → s.bd j = y.b := fun j y hy => by unfold Bq.bd; rw [List.getD_eq_getElem?_getD, hy]; rfl
  have hxb := hb i x hx
  obtain ⟨r1, r2⟩ := hok.rng x (List.mem_of_getElem? hx)
  obtain ⟨c, hc⟩ := Int.eq_ofNat_of_zero_le r1
  refine ⟨rfl, ?_, hs, rfl, ?_⟩
  · show s.all = x.p :: Bq.all { s with L := s.L.eraseIdx i }
    rw [Bq.all_F, Bq.all_F]
    show allF s.L s.bands.toNat = x.p :: allF (s.L.eraseIdx i) s.bands.toNat
    rw [e2]
    conv => lhs; rw [e1]
    refine allF_cons hc (fun o ho => ?_) (fun o ho => ?_) _ (by omega)
    · obtain ⟨j, hj, rfl⟩ := List.getElem_of_mem ho
      rw [List.length_take] at hj
      have hj2 : j < s.L.length := by omega
      rw [List.getElem_take]
      have := h2 j (by omega)
      rw [hb j _ (List.getElem?_eq_getElem hj2), hxb] at this
      omega
    · obtain ⟨j, hj, rfl⟩ := List.getElem_of_mem ho
      rw [List.length_drop] at hj
      have hj2 : i + 1 + j < s.L.length := by omega
      rw [List.getElem_drop]
      have := h3 (i + 1 + j) hj2
      rw [hb _ _ (List.getElem?_eq_getElem hj2), hxb] at this
      omega
  · show s.L.length = (s.L.eraseIdx i).length + 1
    rw [List.length_eraseIdx, if_pos h1]
    omega
/-- a stopped queue gives nothing -/
theorem Bq.take_stop {s : Bq} (hs : s.st = true) : s.take = (s, pk0, false) := by
  unfold Bq.take
  split
  · rfl
  · rw [if_pos hs]
theorem Bq.take_nil {s : Bq} (hs : s.L = []) : s.take = (s, pk0, false) := by unfold Bq.take; rw [hs]; rfl
/-- all have their place -/
theorem Bq.all_len {s : Bq} : ∀ {n : Nat}, s.L.length = n → s.Ok → s.st = false → s.all.length = n
  | 0, h, _, _ => by rw [Bq.all_F, List.eq_nil_of_length_eq_zero h, allF_less (c := s.bands.toNat) (fun o ho => by cases ho) _ (Nat.le_refl _)]; rfl
  | n + 1, h, hok, hs => by
    obtain ⟨h1, h2, h3, h4, h5⟩ := Bq.take_all hok hs (by intro e; rw [e] at h; cases h)
    rw [h2, List.length_cons, Bq.all_len (n := n) (by omega) hok.take h3]
end Go.Proofs.Ytpljlpfoalcfmaa

namespace Go.Proofs.Ytpljlpfoalcfmaa
open Go.RowKit
set_option linter.unusedVariables false

theorem wpList_clearK {P : Program} {w : World} {ops : Array Oper} {rest : List Oper} {o : Oper} {a : Act} {Q : Exit → Act → World → Prop} (hgd : o.guard = none) (x : Operand) (T E : TypeId)
    (ho : o.op = .call { callee := .builtin .clear, args := #[x], argTypes := #[T] }) (ht : P.underlying T = some (.slice E)) (z : Value) (hz : ∀ w, (zeroValue E).run P w = .ok z w) (zs : List Value) (hzs : (Builtin.zeroCells z.cells 1).toList = zs) (hone : ∀ u ∈ zs, u.oneCell' = true)
    (g i c : Nat) (hx : a.eval x = .slice (some ⟨g, i, none⟩) 1 c) (hc : ∀ j, j < zs.length → (w.cell? ⟨g, i + j, none⟩).isSome = true) (hf : ∀ j, j < zs.length → w.frozen? ⟨g, i + j, none⟩ = false)
    (h : wpList P ops Q rest (a.put o.dst (.tuple #[])) (w.setCells g i zs)) : wpList P ops Q (o :: rest) a w := by
  refine wpList_plain hgd fun K hK => ?_
  have hst := run_storeCells_cells (P := P) g i zs 0 w (by simpa using hc) (by simpa using hf) hone
  simp only [Nat.add_zero] at hst
  unfold Oper.wp
  simp [execOp, ho, resolve, invoke, builtin, hx, Builtin.clear_, run_underlying ht, hz, hzs, hst, Result.andThen]
  exact hK _ _ h
section
variable {α : Type} {c : α → List Value} {k : Nat} {w : World} {v : Value} {L M : List α}
theorem RowQ.head {a : α} (h : RowQ c k w v (a :: M)) : ∃ g o cap, v = .slice (some ⟨g, o, none⟩) (M.length + 1) cap ∧ M.length + 1 ≤ cap ∧ ∀ j, j < k → (w.cell? ⟨g, o + j, none⟩).isSome = true ∧ w.frozen? ⟨g, o + j, none⟩ = false := by
  rcases h with ⟨_, h⟩ | ⟨g, o, cap, hv, h1, h2, h3, h4, h5⟩
  · cases h
  · simp only [List.length_cons] at hv h1
    refine ⟨g, o, cap, hv, h1, fun j hj => h5 j ?_⟩
    exact Nat.lt_of_lt_of_le hj (Nat.le_mul_of_pos_left _ (by omega))
theorem RowQ.cut {a : α} {g o n cap : Nat} {zs : List Value} (h : RowQ c k w (.slice (some ⟨g, o, none⟩) n cap) (a :: M)) (hk : ∀ a, (c a).length = k) (hM : 1 ≤ M.length) (hz : zs.length = k) :
    RowQ c k (w.setCells g o zs) (.slice (some ⟨g, o + k, none⟩) M.length (cap - 1)) M := by
  rcases h with ⟨h, _⟩ | ⟨g', o', cap', hv, h1, h2, h3, h4, h5⟩
  · cases h
  · injection hv with hA hn hcap
    injection hA with hA
    injection hA with e1 e2
    subst e1 e2 hcap
    simp only [List.length_cons] at h1
    have hrow : rowG c (a :: M) = c a ++ rowG c M := by simp [rowG]
    refine .inr ⟨g, o + k, cap - 1, rfl, by omega, by omega, by rw [setCells_size]; exact h3, fun j u hu => ?_, fun j hj => ?_⟩
    · rw [World.cell?_setCells_out g _ _ _ _ (fun _ _ => .inr (by simp only; omega)), Nat.add_assoc]
      refine h4 (k + j) u ?_
      rw [hrow, List.getElem?_append_right (by rw [hk]; omega), hk, Nat.add_sub_cancel_left]
      exact hu
    · rw [World.cell?_setCells_out g _ _ _ _ (fun _ _ => .inr (by simp only; omega)), World.frozen?_setCells, Nat.add_assoc]
      refine h5 (k + j) ?_
      obtain ⟨m, rfl⟩ : ∃ m, cap = m + 1 := ⟨cap - 1, by omega⟩
      rw [Nat.add_sub_cancel] at hj
      rw [Nat.add_mul]; omega
theorem cut_kept {g o n cap n' o' cap' : Nat} {zs : List Value} : Kept (OwnO (.slice (some ⟨g, o, none⟩) n cap)) w (w.setCells g o zs) ∧ Grows (OwnO (.slice (some ⟨g, o, none⟩) n cap)) w (OwnO (.slice (some ⟨g, o', none⟩) n' cap')) := by
  obtain ⟨r1, r2, r3⟩ := setCells_rest w g o zs
  exact ⟨⟨r1, r2, r3, by rw [setCells_size]; exact Nat.le_refl _, fun i _ hn => setCells_heap _ _ _ _ (fun e => hn (by subst e; rfl))⟩, fun k hk => .inl hk⟩
end
end Go.Proofs.Ytpljlpfoalcfmaa
