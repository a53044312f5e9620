/- Printed by gen_s.py. Ring, the code, rows of text: Put. Ring, the code: of a row that is none. Ring: the walks of the four laws, over the code itself. -/
import Derived.Test.YtbjijmdknlopdaaZah
import Derived.Test.YtbjijmdknlopdaaZaf
import Derived.Test.YtbjijmdknlopdaaZae
namespace Go.Proofs.Ytbjijmdknlopdaa
open Go.RowKit
set_option linter.unusedVariables false

set_option maxHeartbeats 4000000 in
theorem rputS_f {w : World} {v : Value} {s : Rg ByteArray} {O : Nat → Prop} (x : ByteArray) (h : RgIS w v s O) (hm : s.L.length = s.m) (hn : s.n ≤ 1000000) : Calls Try.prog 23 #[v, .string x] w fun e w' => e = .returned (.bool false) ∧ Stp RgIS v O w ⟨s.L, s.m, s.n + 1⟩ w' := by
  obtain ⟨b, p, S, f, rfl, rfl, h⟩ := h
  obtain ⟨L, m, n⟩ := s
  simp only at hm hn ⊢
  rcases h.row with ⟨rfl, rfl, rfl⟩ | ⟨g, rfl, _, _, hf⟩
  · have h1 := h.len; have h2 := h.lo; simp at h1 h2; rw [h1] at hm; simp at hm; omega
  have H := Lib.hid h
  have HW := Lib.hid h.mid.1
  obtain ⟨a0, a1, a2, a3, a4⟩ := HW.out.cells
  have f4 := h.live 4
  have hb := h.blt
  have hz : m ≤ 1000 := h.hi
  simp only [hm] at a2 a3 a4
  have HM := Lib.hid hm
  clear h hm
  go_enter Try.func23, Try.ntmps23
  go_wp2
  go_quiet (fail)
  go_wp2
  go_ret
  exact ⟨rfl, ((HW.out.drewN nq).setN ((n : Int) + 1)).stp rfl rfl rfl (by simp) hf H.out.len H.out.fit H.out.lo H.out.hi H.out.mem⟩
set_option maxHeartbeats 8000000 in
theorem rputS_x {w : World} {b g f m n : Nat} {S L : List ByteArray} (x : ByteArray) (h : RgMS w b (some ⟨g, 0, none⟩) S f ⟨L, m, n⟩) (hl : L.length < S.length) : Calls Try.prog 23 #[.pointer (some ⟨b, 0, none⟩), .string x] w fun e w' => e = .returned (.bool true) ∧ Stp RgIS (.pointer (some ⟨b, 0, none⟩)) (rgO b (some ⟨g, 0, none⟩)) w ⟨L ++ [x], m, n⟩ w' := by
  have H := Lib.hid h
  obtain ⟨h1, hf⟩ := h.mid
  have HW := Lib.hid h1
  simp only at HW
  obtain ⟨l, hll⟩ : ∃ l, L.length = l := ⟨_, rfl⟩
  obtain ⟨k, hk⟩ : ∃ k, S.length = k := ⟨_, rfl⟩
  have HL := Lib.hid hll
  have HK := Lib.hid hk
  obtain ⟨a0, a1, a2, a3, a4⟩ := HW.out.cells
  have hb := h.blt
  have hkm : k ≤ m := by rw [← hk]; exact h.fit
  have hz : m ≤ 1000 := h.hi
  rw [hk] at a0 hl hf
  rw [hll] at a2 hl
  rw [hll] at HW
  clear h h1 hk hll
  go_enter Try.func23, Try.ntmps23
  have hlm : ¬ (m : Int) ≤ (l : Int) := by omega
  have hlk : ((l : Int) == (k : Int)) = false := by simp; omega
  go_wp2
  go_quiet (fail)
  go_wp2
  go_quiet (fail)
  go_upto_region 9 with fail
  have hzr : (f + l) % k < k := Nat.mod_lt _ (by omega)
  obtain ⟨r, hr⟩ : ∃ r, (f + l) % k = r := ⟨_, rfl⟩
  rw [hr] at hzr
  have HR := Lib.hid hr
  clear hlk
  generalize hwd : (w.drewN _).drewN _ = wd
  have HWD := Lib.hid (hwd ▸ (HW.out.drewN _).drewN _)
  clear hwd a0 a1 a2 a3 a4
  clear hb
  obtain ⟨a0, a1, a2, a3, a4⟩ := HWD.out.cells
  have hb := HWD.out.blt
  rw [HK.out] at a0
  have hcl : ∀ (n : Later wd) (b o : Nat), b < wd.heap.size → n.w.cell? ⟨b, o, none⟩ = wd.cell? ⟨b, o, none⟩ := later_cells wd
  have HCS : Hid (∀ (q : Later wd), Calls Try.prog 31 #[.pointer (some ⟨b, 0, none⟩), .int .i64 (l : Int)] q.w (Reads q.w (.int .i64 (r : Int)))) :=
    Lib.hid (fun q => rslotS_v (i := l) hf (by omega) (by omega) (Nat.lt_of_lt_of_le hb q.h.size) ((hcl q b 0 hb).trans a0) ((hcl q b 1 hb).trans a1) hr)
  clear hr
  refine wp_region_sec 11 [] (fun _ _ _ => True) (fun _ _ _ _ _ _ => True.intro) (by kernel_rfl) (by kernel_rfl) (by kernel_rfl) (by kernel_rfl) (by kernel_rfl) ?_
  simp only [List.take_succ_cons, List.take_zero, List.drop_succ_cons, List.drop_zero]
  repeat ((first | refine sec_plain (by rfl) (by rfl) (by rfl) (by rfl) ?_ | refine sec_nil (by rfl) (by rfl) (by rfl) (by rfl) (by rfl) ?_); intro K hK; go_big_quiet_op; go_big_quiet_on)
  refine sec_call (v := .int .i64 (r : Int)) (by rfl) (by rfl) (by rfl) (by rfl) (by rfl) ?_ ?_
  · intro q K hK
    go_big_quiet_op
    exact ⟨_, fun q2 => Later.drew (HCS.out ⟨q2.w, fbelow_t q.h q2.h⟩), hK⟩
  simp only [Act.put, List.setIfInBounds_toArray, List.set_cons_succ, List.set_cons_zero]
  refine sec_plain (by rfl) (by rfl) (by rfl) (by rfl) ?_
  intro K hK
  go_big_quiet_op
  go_big_quiet_on
  intro xs m9 hF
  simp only [secFill]
  clear hF xs hcl a0 a1 a2 a3 a4 hb
  have HW2 := Lib.hid (HWD.out.later m9.h)
  generalize m9.w = w2 at HW2 ⊢
  obtain ⟨y, hy⟩ : ∃ y, S[r]? = some y := ⟨_, List.getElem?_eq_getElem (by rw [HK.out]; exact hzr)⟩
  have y0 := HW2.out.slot hy
  have y1 := HW2.out.liveG r
  obtain ⟨a0, a1, a2, a3, a4⟩ := HW2.out.cells
  have f2 := HW2.out.live 2
  have hgb := HW2.out.gb
  have hb := HW2.out.blt
  have hg := HW2.out.glt
  clear hy
  go_wp2
  go_ret
  refine ⟨rfl, ((HW2.out.setSlot r x).setL ((l : Int) + 1)).stp rfl ?_ rfl rfl ?_ ?_ ?_ H.out.lo H.out.hi ?_⟩
  · rw [List.length_append]; simp [HL.out]
  · rw [List.length_set, HK.out]; exact hf
  · rw [List.length_append, List.length_set, HL.out, HK.out]; exact hl
  · rw [List.length_set]; exact H.out.fit
  · rw [← HR.out, ← HK.out, ← HL.out]
    exact round_put (by rw [HK.out]; exact hf) (by rw [HK.out, HL.out]; exact hl) H.out.mem x
theorem grownS {w w' : World} {b g k : Nat} {p : Option Addr} {S X : List ByteArray} {f l m n : Nat} {L : List ByteArray} (h : RgMS w b p S f ⟨L, m, n⟩) (hl : L.length = l) (hb : Below w.heap.size w w') (hg : w.heap.size ≤ g) (hX : X.length = k) (hx : w'.heap[g]? = some (.cells (X.map cS).toArray 9 (0, 0))) :
    RgW cS 58 9 (rgO b p) w ((w'.setCell ⟨b, 0, none⟩ (.slice (some ⟨g, 0, none⟩) k k)).setCell ⟨b, 1, none⟩ (.int .i64 0)) b g X 0 (l : Int) (m : Int) (n : Int) := by
  subst hX hl
  have h0 := (hb.block b h.blt).trans h.box
  have hgb : g ≠ b := by have := h.blt; omega
  have h1 := heap_setCell_same w' b 0 _ _ (.slice (some ⟨g, 0, none⟩) X.length X.length) h0
  have h2 := heap_setCell_same _ b 1 _ _ (.int .i64 0) h1
  refine ⟨h2, ?_, hgb, ?_, .inl rfl, .inr hg⟩
  · exact (Below.heap_setCell _ ⟨b, 1, none⟩ _ g hgb).trans ((Below.heap_setCell w' ⟨b, 0, none⟩ _ g hgb).trans hx)
  · exact ((Kept.of_below hb).setCell (p := ⟨b, 0, none⟩) (.inl rfl) _).setCell (p := ⟨b, 1, none⟩) (.inl rfl) _
def NewT (W : World) (k : Nat) (X : List ByteArray) (v : Value) (w : World) : Prop := ∃ g, v = .slice (some ⟨g, 0, none⟩) k k ∧ W.heap.size ≤ g ∧ w.heap[g]? = some (.cells (X.map cS).toArray 9 (0, 0))
theorem NewT.later {W w w' : World} {k : Nat} {X : List ByteArray} {v : Value} (h : NewT W k X v w) (hb : Below w.heap.size w w') : NewT W k X v w' := by
  obtain ⟨g, h1, h2, h3⟩ := h
  exact ⟨g, h1, h2, (hb.block g (rheap_lt h3)).trans h3⟩
set_option maxHeartbeats 8000000 in
theorem rputS_g {w : World} {b f m n k : Nat} {p : Option Addr} {S L : List ByteArray} (x : ByteArray) (h : RgMS w b p S f ⟨L, m, n⟩) (hl : L.length = S.length) (hm : L.length < m) (hk : k = min (2 * L.length + 1) m) : Calls Try.prog 23 #[.pointer (some ⟨b, 0, none⟩), .string x] w fun e w' => e = .returned (.bool true) ∧ Stp RgIS (.pointer (some ⟨b, 0, none⟩)) (rgO b p) w ⟨L ++ [x], m, n⟩ w' := by
  have H := Lib.hid h
  obtain ⟨X, hX⟩ : ∃ X, L ++ List.replicate (k - L.length) (ByteArray.mk #[]) = X := ⟨_, rfl⟩
  have HXX := Lib.hid hX
  obtain ⟨l, hll⟩ : ∃ l, L.length = l := ⟨_, rfl⟩
  have hz : m ≤ 1000 := h.hi
  have HK : Hid (X.length = k) := Lib.hid (by rw [← hX, List.length_append, List.length_replicate]; omega)
  have HMEM : Hid (∀ i, i < L.length → X[(0 + i) % X.length]? = L[i]?) := Lib.hid (by rw [← hX]; exact round_new (ByteArray.mk #[]) (by omega))
  have HFIT : Hid (X.length ≤ m) := Lib.hid (by rw [HK.out]; omega)
  rw [hll] at hk hm
  have hlk : l < k := by omega
  have hkm : k ≤ m := by omega
  have HL := Lib.hid hll
  have hb := h.blt
  obtain ⟨a0, a1, a2, a3, a4⟩ := h.cells
  rw [← hl, hll] at a0
  simp only [hll] at a2 a3
  clear h hX hl hll
  have HKK := Lib.hid hk
  clear hk
  go_enter Try.func23, Try.ntmps23
  have hlm : ¬ (m : Int) ≤ (l : Int) := by omega
  go_wp2
  go_quiet (fail)
  go_wp2
  go_quiet (fail)
  go_upto_region 7 with fail
  generalize hwd : (w.drewN _).drewN _ = wd
  have HB : Hid (Below w.heap.size w wd) := Lib.hid (by rw [← hwd]; exact below_drewN (below_drewN (Below.refl _ _) _) _)
  have HD := Lib.hid (H.out.later HB.out)
  clear hwd a0 a1 a2 a3 a4 hb
  obtain ⟨a0, a1, a2, a3, a4⟩ := HD.out.cells
  have hb := HD.out.blt
  simp only [HL.out] at a2 a3
  have hcl : ∀ (n : Later wd) (b o : Nat), b < wd.heap.size → n.w.cell? ⟨b, o, none⟩ = wd.cell? ⟨b, o, none⟩ := later_cells wd
  refine wp_region_sec 14 [46] (fun _ v w' => NewT w k X v w') (fun _ _ _ _ h hb => h.later hb) (by kernel_rfl) (by kernel_rfl) (by kernel_rfl) (by kernel_rfl) (by kernel_rfl) ?_
  simp only [List.take_succ_cons, List.take_zero, List.drop_succ_cons, List.drop_zero]
  repeat ((first | refine sec_plain (by rfl) (by rfl) (by rfl) (by rfl) ?_ | refine sec_nil (by rfl) (by rfl) (by rfl) (by rfl) (by rfl) ?_); intro K hK; go_big_quiet_op; go_big_quiet_on)
  have hkm2 : (if (m : Int) < 2 * (l : Int) + 1 then (m : Int) else 2 * (l : Int) + 1) = (k : Int) := by
    rw [HKK.out]
    by_cases h : (m : Int) < 2 * (l : Int) + 1
    · rw [if_pos h, Nat.min_eq_right (by omega)]
    · rw [if_neg h, Nat.min_eq_left (by omega)]; omega
  refine sec_callF (f := 32) (args := #[.pointer (some ⟨b, 0, none⟩), .int .i64 (k : Int)]) (by rfl) (by rfl) (by rfl) (by rfl) (by rfl) (fun w => by rw [← hkm2]; simp [execOp, resolve, go_sem]) ?_ ?_
  · intro q
    refine (rcopiedS_v (HD.out.later q.h) (by rw [HL.out]; omega) (by omega)).mono ?_
    rintro e w4 ⟨g, rfl, hg1, hg2, hb2⟩
    refine ⟨_, rfl, hb2, g, rfl, Nat.le_trans HB.out.size (Nat.le_trans q.h.size hg1), ?_⟩
    rw [← HXX.out]; exact hg2
  clear hkm2
  simp only [Act.put, List.setIfInBounds_toArray, List.set_cons_succ, List.set_cons_zero]
  intro xs m9 hF
  obtain ⟨g, hxs, hg1, hg2⟩ := hF 46 (by simp)
  simp only [secFill, hxs]
  simp only [Act.put, List.setIfInBounds_toArray, List.set_cons_succ, List.set_cons_zero]
  clear hF hxs xs hcl a0 a1 a2 a3 a4 hb
  have HB2 := Lib.hid (fbelow_t HB.out m9.h)
  generalize m9.w = w1 at HB2 hg2 ⊢
  obtain ⟨a0, a1, a2, a3, a4⟩ := (H.out.later HB2.out).cells
  have f0 := (H.out.later HB2.out).live 0
  have f1 := (H.out.later HB2.out).live 1
  have hb := (H.out.later HB2.out).blt
  have HWD := Lib.hid (grownS H.out HL.out HB2.out hg1 HK.out hg2)
  clear hg2
  go_upto_region 9 with fail
  have hzr : (0 + l) % k < k := Nat.mod_lt _ (by omega)
  obtain ⟨r, hr⟩ : ∃ r, (0 + l) % k = r := ⟨_, rfl⟩
  rw [hr] at hzr
  have HR := Lib.hid hr
  clear a0 a1 a2 a3 a4 hb f0 f1
  generalize ((w1.setCell _ _).setCell _ _) = wd at HWD ⊢
  obtain ⟨a0, a1, a2, a3, a4⟩ := HWD.out.cells
  have hb := HWD.out.blt
  rw [HK.out] at a0
  have hcl : ∀ (n : Later wd) (b o : Nat), b < wd.heap.size → n.w.cell? ⟨b, o, none⟩ = wd.cell? ⟨b, o, none⟩ := later_cells wd
  have HCS : Hid (∀ (q : Later wd), Calls Try.prog 31 #[.pointer (some ⟨b, 0, none⟩), .int .i64 (l : Int)] q.w (Reads q.w (.int .i64 (r : Int)))) :=
    Lib.hid (fun q => rslotS_v (f := 0) (i := l) (by omega) (by omega) (by omega) (Nat.lt_of_lt_of_le hb q.h.size) ((hcl q b 0 hb).trans a0) ((hcl q b 1 hb).trans a1) hr)
  clear hr
  refine wp_region_sec 11 [] (fun _ _ _ => True) (fun _ _ _ _ _ _ => True.intro) (by kernel_rfl) (by kernel_rfl) (by kernel_rfl) (by kernel_rfl) (by kernel_rfl) ?_
  simp only [List.take_succ_cons, List.take_zero, List.drop_succ_cons, List.drop_zero]
  repeat ((first | refine sec_plain (by rfl) (by rfl) (by rfl) (by rfl) ?_ | refine sec_nil (by rfl) (by rfl) (by rfl) (by rfl) (by rfl) ?_); intro K hK; go_big_quiet_op; go_big_quiet_on)
  refine sec_call (v := .int .i64 (r : Int)) (by rfl) (by rfl) (by rfl) (by rfl) (by rfl) ?_ ?_
  · intro q K hK
    go_big_quiet_op
    exact ⟨_, fun q2 => Later.drew (HCS.out ⟨q2.w, fbelow_t q.h q2.h⟩), hK⟩
  simp only [Act.put, List.setIfInBounds_toArray, List.set_cons_succ, List.set_cons_zero]
  refine sec_plain (by rfl) (by rfl) (by rfl) (by rfl) ?_
  intro K hK
  go_big_quiet_op
  go_big_quiet_on
  intro xs m9 hF
  simp only [secFill]
  clear hF xs hcl a0 a1 a2 a3 a4 hb
  have HW2 := Lib.hid (HWD.out.later m9.h)
  generalize m9.w = w2 at HW2 ⊢
  obtain ⟨y, hy⟩ : ∃ y, X[r]? = some y := ⟨_, List.getElem?_eq_getElem (by rw [HK.out]; exact hzr)⟩
  have y0 := HW2.out.slot hy
  have y1 := HW2.out.liveG r
  obtain ⟨a0, a1, a2, a3, a4⟩ := HW2.out.cells
  have f2 := HW2.out.live 2
  have hgb := HW2.out.gb
  have hb := HW2.out.blt
  have hg := HW2.out.glt
  clear hy
  go_wp2
  all_goals (
    go_ret
    refine ⟨rfl, ((HW2.out.setSlot r x).setL ((l : Int) + 1)).stp (f' := 0) (m' := m) (n' := n) rfl ?_ rfl rfl ?_ ?_ ?_ H.out.lo H.out.hi ?_⟩
    · rw [List.length_append]; simp [HL.out]
    · rw [List.length_set, HK.out]; omega
    · rw [List.length_append, List.length_set, HL.out, HK.out]; exact hlk
    · rw [List.length_set]; exact HFIT.out
    · rw [← HR.out, ← HK.out, ← HL.out]
      exact round_put (by rw [HK.out]; omega) (by rw [HK.out, HL.out]; omega) HMEM.out x)
theorem rputS_t {w : World} {v : Value} {s : Rg ByteArray} {O : Nat → Prop} (x : ByteArray) (h : RgIS w v s O) (hm : s.L.length < s.m) : Calls Try.prog 23 #[v, .string x] w fun e w' => e = .returned (.bool true) ∧ Stp RgIS v O w ⟨s.L ++ [x], s.m, s.n⟩ w' := by
  obtain ⟨b, p, S, f, rfl, rfl, h⟩ := h
  obtain ⟨L, m, n⟩ := s
  simp only at hm ⊢
  by_cases hl : L.length = S.length
  · exact rputS_g x h hl hm rfl
  · have h1 : L.length < S.length := by have := h.len; simp only at this; omega
    rcases h.row with ⟨rfl, rfl, rfl⟩ | ⟨g, rfl, _, _, hf⟩
    · simp at h1
    · exact rputS_x x h h1
theorem ringS : RingS RgIS where
  obj := rgI_obj _ _ _
  ptr := by rintro w v s O ⟨b, p, S, f, rfl, _⟩; exact ⟨_, rfl⟩
  rng := fun h => rgI_rng h
  new := rnewS_v
  put_t := fun x h hm => rputS_t x h hm
  put_f := fun x h hm hn => rputS_f x h hm hn
  take_t := fun h => rtakeS_t h
  take_f := fun h => rtakeS_f h
  peek_t := fun h => rpeekS_t h
  peek_f := fun h => rpeekS_f h
  len := fun h => rlenS_v h
  lost := fun h => rlostS_v h
  all := fun h => rallS_v h
  clear := fun h => rclearS_v h
end Go.Proofs.Ytbjijmdknlopdaa

namespace Go.Proofs.Ytbjijmdknlopdaa
open Go.RowKit
set_option linter.unusedVariables false
set_option maxHeartbeats 4000000

theorem rnput_v (x : Int) (w : World) : Calls Try.prog 11 #[.pointer none, .int .i64 x] w fun e w' => e = .returned (.bool false) ∧ Below w.heap.size w w' := by
  go_enter Try.func11, Try.ntmps11
  go_wp2
  go_ret
  exact ⟨rfl, Below.refl _ _⟩
theorem rnpeek_v (w : World) : Calls Try.prog 13 #[.pointer none] w fun e w' => e = .returned (.tuple #[.int .i64 0, .int .i64 1]) ∧ Below w.heap.size w w' := by
  go_enter Try.func13, Try.ntmps13
  go_wp2
  go_ret2
  exact ⟨rfl, Below.refl _ _⟩
theorem rntake_v (w : World) : Calls Try.prog 14 #[.pointer none] w fun e w' => e = .returned (.tuple #[.int .i64 0, .int .i64 1]) ∧ Below w.heap.size w w' := by
  go_enter Try.func14, Try.ntmps14
  go_wp2_with fail
  refine (rnpeek_v _).mono ?_
  rintro e w1 ⟨rfl, hb⟩
  go_wp2
  go_ret2
  exact ⟨rfl, hb⟩
theorem rnlen_v (w : World) : Calls Try.prog 16 #[.pointer none] w fun e w' => e = .returned (.int .i64 0) ∧ Below w.heap.size w w' := by
  go_enter Try.func16, Try.ntmps16
  go_wp2
  go_ret
  exact ⟨rfl, Below.refl _ _⟩
theorem rnroom_v (w : World) : Calls Try.prog 17 #[.pointer none] w fun e w' => e = .returned (.int .i64 0) ∧ Below w.heap.size w w' := by
  go_enter Try.func17, Try.ntmps17
  go_wp2
  go_ret
  exact ⟨rfl, Below.refl _ _⟩
theorem rnlost_v (w : World) : Calls Try.prog 18 #[.pointer none] w fun e w' => e = .returned (.int .i64 0) ∧ Below w.heap.size w w' := by
  go_enter Try.func18, Try.ntmps18
  go_wp2
  go_ret
  exact ⟨rfl, Below.refl _ _⟩
theorem rnclear_v (w : World) : Calls Try.prog 15 #[.pointer none] w fun e w' => e = .returned (.int .i64 0) ∧ Below w.heap.size w w' := by
  go_enter Try.func15, Try.ntmps15
  go_wp2
  go_ret
  exact ⟨rfl, Below.refl _ _⟩
theorem rnall_v (w : World) : Calls Try.prog 20 #[.pointer none] w fun e w' => (∃ A c, e = .returned (.slice A 0 c)) ∧ Below w.heap.size w w' := by
  go_enter Try.func20, Try.ntmps20
  go_wp2
  go_ret
  exact ⟨⟨_, _, rfl⟩, Below.refl _ _⟩
theorem ringNone : RingNone (α := Int) Try.prog (fun x => .int .i64 x) (.int .i64 0) 11 14 13 16 17 18 20 15 :=
  ⟨rnput_v, rntake_v, rnpeek_v, rnlen_v, rnroom_v, rnlost_v, rnall_v, rnclear_v⟩
end Go.Proofs.Ytbjijmdknlopdaa

namespace Go.Proofs.Ytbjijmdknlopdaa
open Go.RowKit
set_option linter.unusedVariables false

theorem ringNil_real (a0 : Int) (w0 : (Lit.int .i64 a0).wf = true) (w : World) : Calls Try.prog 6 #[.int .i64 a0] w fun e w' => e = .returned (.bool true) ∧ Below w.heap.size w w' := ringNil_walk ringI ringNone a0 w0 w
theorem ringOwn_real (a : Option Addr) (len cap : Nat) (F : Nat → List Value) (a1 : Int) (w : World) (hr : IsRowOf w [.int .i64] a len cap F) (w1 : (Lit.int .i64 a1).wf = true) :
    Calls Try.prog 5 #[.slice a len cap, .int .i64 a1] w fun e w' => e = .returned (.bool true) ∧ Below w.heap.size w w' := ringOwn_walk ringI a len cap F a1 w hr w1
theorem ringOrder_real (a0 : Int) (a : Option Addr) (len cap : Nat) (F : Nat → List Value) (a2 : Int) (w : World) (w0 : (Lit.int .i64 a0).wf = true) (hr : IsRowOf w [.str] a len cap F) (w2 : (Lit.int .i64 a2).wf = true) :
    Calls Try.prog 4 #[.int .i64 a0, .slice a len cap, .int .i64 a2] w fun e w' => e = .returned (.bool true) ∧ Below w.heap.size w w' := ringOrder_walk ringI ringS a0 a len cap F a2 w w0 hr w2
theorem ringPlays_real (a0 : Int) (a : Option Addr) (len cap : Nat) (F : Nat → List Value) (w : World) (w0 : (Lit.int .i64 a0).wf = true) (hr : IsRowOf w [.int .i64, .int .i64] a len cap F) :
    Calls Try.prog 3 #[.int .i64 a0, .slice a len cap] w fun e w' => e = .returned (.bool true) ∧ Below w.heap.size w w' := ringPlays_walk ringI a0 a len cap F w w0 hr
end Go.Proofs.Ytbjijmdknlopdaa
