/- Ring, the code, rows of int: Put. Printed by gen_s.py. Ring, the code, rows of text: New, Len, Room, Lost, slot, Peek. Printed by gen_s.py. Ring, the code, rows of text: pieces, copied. Printed by gen_s.py. Ring, the code, rows of text: Clear, All, Take. -/
import Derived.Test.YtbjijmdknlopdaaZag
import Derived.Test.YtbjijmdknlopdaaZaf
import Derived.Test.YtbjijmdknlopdaaZae
import Derived.BigQuiet
import Derived.Lib.SliceRun
import Derived.Deep.RegionWith
import Derived.Test.YtbjijmdknlopdaaZac
import Derived.Deep.Cut
namespace Go.Proofs.Ytbjijmdknlopdaa
open Go.RowKit
set_option linter.unusedVariables false

set_option maxHeartbeats 4000000 in
theorem rputI_f {w : World} {v : Value} {s : Rg Int} {O : Nat → Prop} (x : Int) (h : RgII w v s O) (hm : s.L.length = s.m) (hn : s.n ≤ 1000000) : Calls Try.prog 11 #[v, .int .i64 x] w fun e w' => e = .returned (.bool false) ∧ Stp RgII v O w ⟨s.L, s.m, s.n + 1⟩ w' := by
  obtain ⟨b, p, S, f, rfl, rfl, h⟩ := h
  obtain ⟨L, m, n⟩ := s
  simp only at hm hn ⊢
  rcases h.row with ⟨rfl, rfl, rfl⟩ | ⟨g, rfl, _, _, hf⟩
  · have h1 := h.len; have h2 := h.lo; simp at h1 h2; rw [h1] at hm; simp at hm; omega
  have H := Lib.hid h
  have HW := Lib.hid h.mid.1
  obtain ⟨a0, a1, a2, a3, a4⟩ := HW.out.cells
  have f4 := h.live 4
  have hb := h.blt
  have hz : m ≤ 1000 := h.hi
  simp only [hm] at a2 a3 a4
  have HM := Lib.hid hm
  clear h hm
  go_enter Try.func11, Try.ntmps11
  go_wp2
  go_quiet (fail)
  go_wp2
  go_ret
  exact ⟨rfl, ((HW.out.drewN nq).setN ((n : Int) + 1)).stp rfl rfl rfl (by simp) hf H.out.len H.out.fit H.out.lo H.out.hi H.out.mem⟩
set_option maxHeartbeats 8000000 in
theorem rputI_x {w : World} {b g f m n : Nat} {S L : List Int} (x : Int) (h : RgMI w b (some ⟨g, 0, none⟩) S f ⟨L, m, n⟩) (hl : L.length < S.length) : Calls Try.prog 11 #[.pointer (some ⟨b, 0, none⟩), .int .i64 x] w fun e w' => e = .returned (.bool true) ∧ Stp RgII (.pointer (some ⟨b, 0, none⟩)) (rgO b (some ⟨g, 0, none⟩)) w ⟨L ++ [x], m, n⟩ w' := by
  have H := Lib.hid h
  obtain ⟨h1, hf⟩ := h.mid
  have HW := Lib.hid h1
  simp only at HW
  obtain ⟨l, hll⟩ : ∃ l, L.length = l := ⟨_, rfl⟩
  obtain ⟨k, hk⟩ : ∃ k, S.length = k := ⟨_, rfl⟩
  have HL := Lib.hid hll
  have HK := Lib.hid hk
  obtain ⟨a0, a1, a2, a3, a4⟩ := HW.out.cells
  have hb := h.blt
  have hkm : k ≤ m := by rw [← hk]; exact h.fit
  have hz : m ≤ 1000 := h.hi
  rw [hk] at a0 hl hf
  rw [hll] at a2 hl
  rw [hll] at HW
  clear h h1 hk hll
  go_enter Try.func11, Try.ntmps11
  have hlm : ¬ (m : Int) ≤ (l : Int) := by omega
  have hlk : ((l : Int) == (k : Int)) = false := by simp; omega
  go_wp2
  go_quiet (fail)
  go_wp2
  go_quiet (fail)
  go_upto_region 9 with fail
  have hzr : (f + l) % k < k := Nat.mod_lt _ (by omega)
  obtain ⟨r, hr⟩ : ∃ r, (f + l) % k = r := ⟨_, rfl⟩
  rw [hr] at hzr
  have HR := Lib.hid hr
  clear hlk
  generalize hwd : (w.drewN _).drewN _ = wd
  have HWD := Lib.hid (hwd ▸ (HW.out.drewN _).drewN _)
  clear hwd a0 a1 a2 a3 a4
  clear hb
  obtain ⟨a0, a1, a2, a3, a4⟩ := HWD.out.cells
  have hb := HWD.out.blt
  rw [HK.out] at a0
  have hcl : ∀ (n : Later wd) (b o : Nat), b < wd.heap.size → n.w.cell? ⟨b, o, none⟩ = wd.cell? ⟨b, o, none⟩ := later_cells wd
  have HCS : Hid (∀ (q : Later wd), Calls Try.prog 29 #[.pointer (some ⟨b, 0, none⟩), .int .i64 (l : Int)] q.w (Reads q.w (.int .i64 (r : Int)))) :=
    Lib.hid (fun q => rslotI_v (i := l) hf (by omega) (by omega) (Nat.lt_of_lt_of_le hb q.h.size) ((hcl q b 0 hb).trans a0) ((hcl q b 1 hb).trans a1) hr)
  clear hr
  refine wp_region_sec 11 [] (fun _ _ _ => True) (fun _ _ _ _ _ _ => True.intro) (by kernel_rfl) (by kernel_rfl) (by kernel_rfl) (by kernel_rfl) (by kernel_rfl) ?_
  simp only [List.take_succ_cons, List.take_zero, List.drop_succ_cons, List.drop_zero]
  repeat ((first | refine sec_plain (by rfl) (by rfl) (by rfl) (by rfl) ?_ | refine sec_nil (by rfl) (by rfl) (by rfl) (by rfl) (by rfl) ?_); intro K hK; go_big_quiet_op; go_big_quiet_on)
  refine sec_call (v := .int .i64 (r : Int)) (by rfl) (by rfl) (by rfl) (by rfl) (by rfl) ?_ ?_
  · intro q K hK
    go_big_quiet_op
    exact ⟨_, fun q2 => Later.drew (HCS.out ⟨q2.w, fbelow_t q.h q2.h⟩), hK⟩
  simp only [Act.put, List.setIfInBounds_toArray, List.set_cons_succ, List.set_cons_zero]
  refine sec_plain (by rfl) (by rfl) (by rfl) (by rfl) ?_
  intro K hK
  go_big_quiet_op
  go_big_quiet_on
  intro xs m9 hF
  simp only [secFill]
  clear hF xs hcl a0 a1 a2 a3 a4 hb
  have HW2 := Lib.hid (HWD.out.later m9.h)
  generalize m9.w = w2 at HW2 ⊢
  obtain ⟨y, hy⟩ : ∃ y, S[r]? = some y := ⟨_, List.getElem?_eq_getElem (by rw [HK.out]; exact hzr)⟩
  have y0 := HW2.out.slot hy
  have y1 := HW2.out.liveG r
  obtain ⟨a0, a1, a2, a3, a4⟩ := HW2.out.cells
  have f2 := HW2.out.live 2
  have hgb := HW2.out.gb
  have hb := HW2.out.blt
  have hg := HW2.out.glt
  clear hy
  go_wp2
  go_ret
  refine ⟨rfl, ((HW2.out.setSlot r x).setL ((l : Int) + 1)).stp rfl ?_ rfl rfl ?_ ?_ ?_ H.out.lo H.out.hi ?_⟩
  · rw [List.length_append]; simp [HL.out]
  · rw [List.length_set, HK.out]; exact hf
  · rw [List.length_append, List.length_set, HL.out, HK.out]; exact hl
  · rw [List.length_set]; exact H.out.fit
  · rw [← HR.out, ← HK.out, ← HL.out]
    exact round_put (by rw [HK.out]; exact hf) (by rw [HK.out, HL.out]; exact hl) H.out.mem x
theorem grownI {w w' : World} {b g k : Nat} {p : Option Addr} {S X : List Int} {f l m n : Nat} {L : List Int} (h : RgMI w b p S f ⟨L, m, n⟩) (hl : L.length = l) (hb : Below w.heap.size w w') (hg : w.heap.size ≤ g) (hX : X.length = k) (hx : w'.heap[g]? = some (.cells (X.map cI).toArray 3 (0, 0))) :
    RgW cI 54 3 (rgO b p) w ((w'.setCell ⟨b, 0, none⟩ (.slice (some ⟨g, 0, none⟩) k k)).setCell ⟨b, 1, none⟩ (.int .i64 0)) b g X 0 (l : Int) (m : Int) (n : Int) := by
  subst hX hl
  have h0 := (hb.block b h.blt).trans h.box
  have hgb : g ≠ b := by have := h.blt; omega
  have h1 := heap_setCell_same w' b 0 _ _ (.slice (some ⟨g, 0, none⟩) X.length X.length) h0
  have h2 := heap_setCell_same _ b 1 _ _ (.int .i64 0) h1
  refine ⟨h2, ?_, hgb, ?_, .inl rfl, .inr hg⟩
  · exact (Below.heap_setCell _ ⟨b, 1, none⟩ _ g hgb).trans ((Below.heap_setCell w' ⟨b, 0, none⟩ _ g hgb).trans hx)
  · exact ((Kept.of_below hb).setCell (p := ⟨b, 0, none⟩) (.inl rfl) _).setCell (p := ⟨b, 1, none⟩) (.inl rfl) _
def NewS (W : World) (k : Nat) (X : List Int) (v : Value) (w : World) : Prop := ∃ g, v = .slice (some ⟨g, 0, none⟩) k k ∧ W.heap.size ≤ g ∧ w.heap[g]? = some (.cells (X.map cI).toArray 3 (0, 0))
theorem NewS.later {W w w' : World} {k : Nat} {X : List Int} {v : Value} (h : NewS W k X v w) (hb : Below w.heap.size w w') : NewS W k X v w' := by
  obtain ⟨g, h1, h2, h3⟩ := h
  exact ⟨g, h1, h2, (hb.block g (rheap_lt h3)).trans h3⟩
set_option maxHeartbeats 8000000 in
theorem rputI_g {w : World} {b f m n k : Nat} {p : Option Addr} {S L : List Int} (x : Int) (h : RgMI w b p S f ⟨L, m, n⟩) (hl : L.length = S.length) (hm : L.length < m) (hk : k = min (2 * L.length + 1) m) : Calls Try.prog 11 #[.pointer (some ⟨b, 0, none⟩), .int .i64 x] w fun e w' => e = .returned (.bool true) ∧ Stp RgII (.pointer (some ⟨b, 0, none⟩)) (rgO b p) w ⟨L ++ [x], m, n⟩ w' := by
  have H := Lib.hid h
  obtain ⟨X, hX⟩ : ∃ X, L ++ List.replicate (k - L.length) 0 = X := ⟨_, rfl⟩
  have HXX := Lib.hid hX
  obtain ⟨l, hll⟩ : ∃ l, L.length = l := ⟨_, rfl⟩
  have hz : m ≤ 1000 := h.hi
  have HK : Hid (X.length = k) := Lib.hid (by rw [← hX, List.length_append, List.length_replicate]; omega)
  have HMEM : Hid (∀ i, i < L.length → X[(0 + i) % X.length]? = L[i]?) := Lib.hid (by rw [← hX]; exact round_new 0 (by omega))
  have HFIT : Hid (X.length ≤ m) := Lib.hid (by rw [HK.out]; omega)
  rw [hll] at hk hm
  have hlk : l < k := by omega
  have hkm : k ≤ m := by omega
  have HL := Lib.hid hll
  have hb := h.blt
  obtain ⟨a0, a1, a2, a3, a4⟩ := h.cells
  rw [← hl, hll] at a0
  simp only [hll] at a2 a3
  clear h hX hl hll
  have HKK := Lib.hid hk
  clear hk
  go_enter Try.func11, Try.ntmps11
  have hlm : ¬ (m : Int) ≤ (l : Int) := by omega
  go_wp2
  go_quiet (fail)
  go_wp2
  go_quiet (fail)
  go_upto_region 7 with fail
  generalize hwd : (w.drewN _).drewN _ = wd
  have HB : Hid (Below w.heap.size w wd) := Lib.hid (by rw [← hwd]; exact below_drewN (below_drewN (Below.refl _ _) _) _)
  have HD := Lib.hid (H.out.later HB.out)
  clear hwd a0 a1 a2 a3 a4 hb
  obtain ⟨a0, a1, a2, a3, a4⟩ := HD.out.cells
  have hb := HD.out.blt
  simp only [HL.out] at a2 a3
  have hcl : ∀ (n : Later wd) (b o : Nat), b < wd.heap.size → n.w.cell? ⟨b, o, none⟩ = wd.cell? ⟨b, o, none⟩ := later_cells wd
  refine wp_region_sec 14 [46] (fun _ v w' => NewS w k X v w') (fun _ _ _ _ h hb => h.later hb) (by kernel_rfl) (by kernel_rfl) (by kernel_rfl) (by kernel_rfl) (by kernel_rfl) ?_
  simp only [List.take_succ_cons, List.take_zero, List.drop_succ_cons, List.drop_zero]
  repeat ((first | refine sec_plain (by rfl) (by rfl) (by rfl) (by rfl) ?_ | refine sec_nil (by rfl) (by rfl) (by rfl) (by rfl) (by rfl) ?_); intro K hK; go_big_quiet_op; go_big_quiet_on)
  have hkm2 : (if (m : Int) < 2 * (l : Int) + 1 then (m : Int) else 2 * (l : Int) + 1) = (k : Int) := by
    rw [HKK.out]
    by_cases h : (m : Int) < 2 * (l : Int) + 1
    · rw [if_pos h, Nat.min_eq_right (by omega)]
    · rw [if_neg h, Nat.min_eq_left (by omega)]; omega
  refine sec_callF (f := 28) (args := #[.pointer (some ⟨b, 0, none⟩), .int .i64 (k : Int)]) (by rfl) (by rfl) (by rfl) (by rfl) (by rfl) (fun w => by rw [← hkm2]; simp [execOp, resolve, go_sem]) ?_ ?_
  · intro q
    refine (rcopiedI_v (HD.out.later q.h) (by rw [HL.out]; omega) (by omega)).mono ?_
    rintro e w4 ⟨g, rfl, hg1, hg2, hb2⟩
    refine ⟨_, rfl, hb2, g, rfl, Nat.le_trans HB.out.size (Nat.le_trans q.h.size hg1), ?_⟩
    rw [← HXX.out]; exact hg2
  clear hkm2
  simp only [Act.put, List.setIfInBounds_toArray, List.set_cons_succ, List.set_cons_zero]
  intro xs m9 hF
  obtain ⟨g, hxs, hg1, hg2⟩ := hF 46 (by simp)
  simp only [secFill, hxs]
  simp only [Act.put, List.setIfInBounds_toArray, List.set_cons_succ, List.set_cons_zero]
  clear hF hxs xs hcl a0 a1 a2 a3 a4 hb
  have HB2 := Lib.hid (fbelow_t HB.out m9.h)
  generalize m9.w = w1 at HB2 hg2 ⊢
  obtain ⟨a0, a1, a2, a3, a4⟩ := (H.out.later HB2.out).cells
  have f0 := (H.out.later HB2.out).live 0
  have f1 := (H.out.later HB2.out).live 1
  have hb := (H.out.later HB2.out).blt
  have HWD := Lib.hid (grownI H.out HL.out HB2.out hg1 HK.out hg2)
  clear hg2
  go_upto_region 9 with fail
  have hzr : (0 + l) % k < k := Nat.mod_lt _ (by omega)
  obtain ⟨r, hr⟩ : ∃ r, (0 + l) % k = r := ⟨_, rfl⟩
  rw [hr] at hzr
  have HR := Lib.hid hr
  clear a0 a1 a2 a3 a4 hb f0 f1
  generalize ((w1.setCell _ _).setCell _ _) = wd at HWD ⊢
  obtain ⟨a0, a1, a2, a3, a4⟩ := HWD.out.cells
  have hb := HWD.out.blt
  rw [HK.out] at a0
  have hcl : ∀ (n : Later wd) (b o : Nat), b < wd.heap.size → n.w.cell? ⟨b, o, none⟩ = wd.cell? ⟨b, o, none⟩ := later_cells wd
  have HCS : Hid (∀ (q : Later wd), Calls Try.prog 29 #[.pointer (some ⟨b, 0, none⟩), .int .i64 (l : Int)] q.w (Reads q.w (.int .i64 (r : Int)))) :=
    Lib.hid (fun q => rslotI_v (f := 0) (i := l) (by omega) (by omega) (by omega) (Nat.lt_of_lt_of_le hb q.h.size) ((hcl q b 0 hb).trans a0) ((hcl q b 1 hb).trans a1) hr)
  clear hr
  refine wp_region_sec 11 [] (fun _ _ _ => True) (fun _ _ _ _ _ _ => True.intro) (by kernel_rfl) (by kernel_rfl) (by kernel_rfl) (by kernel_rfl) (by kernel_rfl) ?_
  simp only [List.take_succ_cons, List.take_zero, List.drop_succ_cons, List.drop_zero]
  repeat ((first | refine sec_plain (by rfl) (by rfl) (by rfl) (by rfl) ?_ | refine sec_nil (by rfl) (by rfl) (by rfl) (by rfl) (by rfl) ?_); intro K hK; go_big_quiet_op; go_big_quiet_on)
  refine sec_call (v := .int .i64 (r : Int)) (by rfl) (by rfl) (by rfl) (by rfl) (by rfl) ?_ ?_
  · intro q K hK
    go_big_quiet_op
    exact ⟨_, fun q2 => Later.drew (HCS.out ⟨q2.w, fbelow_t q.h q2.h⟩), hK⟩
  simp only [Act.put, List.setIfInBounds_toArray, List.set_cons_succ, List.set_cons_zero]
  refine sec_plain (by rfl) (by rfl) (by rfl) (by rfl) ?_
  intro K hK
  go_big_quiet_op
  go_big_quiet_on
  intro xs m9 hF
  simp only [secFill]
  clear hF xs hcl a0 a1 a2 a3 a4 hb
  have HW2 := Lib.hid (HWD.out.later m9.h)
  generalize m9.w = w2 at HW2 ⊢
  obtain ⟨y, hy⟩ : ∃ y, X[r]? = some y := ⟨_, List.getElem?_eq_getElem (by rw [HK.out]; exact hzr)⟩
  have y0 := HW2.out.slot hy
  have y1 := HW2.out.liveG r
  obtain ⟨a0, a1, a2, a3, a4⟩ := HW2.out.cells
  have f2 := HW2.out.live 2
  have hgb := HW2.out.gb
  have hb := HW2.out.blt
  have hg := HW2.out.glt
  clear hy
  go_wp2
  all_goals (
    go_ret
    refine ⟨rfl, ((HW2.out.setSlot r x).setL ((l : Int) + 1)).stp (f' := 0) (m' := m) (n' := n) rfl ?_ rfl rfl ?_ ?_ ?_ H.out.lo H.out.hi ?_⟩
    · rw [List.length_append]; simp [HL.out]
    · rw [List.length_set, HK.out]; omega
    · rw [List.length_append, List.length_set, HL.out, HK.out]; exact hlk
    · rw [List.length_set]; exact HFIT.out
    · rw [← HR.out, ← HK.out, ← HL.out]
      exact round_put (by rw [HK.out]; omega) (by rw [HK.out, HL.out]; omega) HMEM.out x)
theorem rputI_t {w : World} {v : Value} {s : Rg Int} {O : Nat → Prop} (x : Int) (h : RgII w v s O) (hm : s.L.length < s.m) : Calls Try.prog 11 #[v, .int .i64 x] w fun e w' => e = .returned (.bool true) ∧ Stp RgII v O w ⟨s.L ++ [x], s.m, s.n⟩ w' := by
  obtain ⟨b, p, S, f, rfl, rfl, h⟩ := h
  obtain ⟨L, m, n⟩ := s
  simp only at hm ⊢
  by_cases hl : L.length = S.length
  · exact rputI_g x h hl hm rfl
  · have h1 : L.length < S.length := by have := h.len; simp only at this; omega
    rcases h.row with ⟨rfl, rfl, rfl⟩ | ⟨g, rfl, _, _, hf⟩
    · simp at h1
    · exact rputI_x x h h1
theorem ringI : RingI RgII where
  obj := rgI_obj _ _ _
  ptr := by rintro w v s O ⟨b, p, S, f, rfl, _⟩; exact ⟨_, rfl⟩
  rng := fun h => rgI_rng h
  new := rnewI_v
  put_t := fun x h hm => rputI_t x h hm
  put_f := fun x h hm hn => rputI_f x h hm hn
  take_t := fun h => rtakeI_t h
  take_f := fun h => rtakeI_f h
  peek_t := fun h => rpeekI_t h
  peek_f := fun h => rpeekI_f h
  len := fun h => rlenI_v h
  room := fun h => rroomI_v h
  lost := fun h => rlostI_v h
  all := fun h => rallI_v h
  clear := fun h => rclearI_v h
end Go.Proofs.Ytbjijmdknlopdaa

namespace Go.Proofs.Ytbjijmdknlopdaa
open Go.RowKit
set_option linter.unusedVariables false

abbrev cS : ByteArray → Value := fun x => .string x
abbrev RgIS : World → Value → Rg ByteArray → (Nat → Prop) → Prop := RgI cS 58 9
abbrev RgMS := RgM cS 58 9

theorem rgM_newS {w : World} {b m : Nat} (h : w.heap[b]? = some (.cells #[.slice none 0 0, .int .i64 0, .int .i64 0, .int .i64 (m : Int), .int .i64 0] 58 (0, 0))) (h1 : 1 ≤ m) (h2 : m ≤ 1000) : RgMS w b none [] 0 ⟨[], m, 0⟩ :=
  ⟨h, .inl ⟨rfl, rfl, rfl⟩, Nat.le_refl _, Nat.zero_le _, h1, h2, fun i hi => by simp at hi⟩
set_option maxHeartbeats 2000000 in
theorem rnewS_v (room : Int) (w : World) : Calls Try.prog 21 #[.int .i64 room] w fun e w' => ∃ v O, e = .returned v ∧ RgIS w' v ⟨[], (roomN room).toNat, 0⟩ O ∧ Below w.heap.size w w' ∧ ∀ k, O k → w.heap.size ≤ k := by
  obtain ⟨m, hm⟩ : ∃ m, (roomN room).toNat = m := ⟨_, rfl⟩
  have HM := Lib.hid hm
  rw [hm]
  clear hm
  go_enter Try.func21, Try.ntmps21
  go_wp2
  all_goals (
    go_ret
    have hm := HM.out
    unfold roomN at hm)
  · have hv : (m : Int) = 1 := by rw [if_pos (by assumption)] at hm; omega
    refine ⟨_, rfl, _, ⟨w.heap.size, none, [], 0, rfl, rfl, rgM_newS (by rw [hv]; exact heap_alloc_new w _) (by omega) (by omega)⟩, (Below.refl _ _).alloc (Nat.le_refl _) _, ?_⟩
    rintro k (rfl | ⟨_, h, _⟩)
    · exact Nat.le_refl _
    · cases h
  · have hv : (m : Int) = 1000 := by rw [if_neg (by omega), if_pos (by assumption)] at hm; omega
    refine ⟨_, rfl, _, ⟨w.heap.size, none, [], 0, rfl, rfl, rgM_newS (by rw [hv]; exact heap_alloc_new w _) (by omega) (by omega)⟩, (Below.refl _ _).alloc (Nat.le_refl _) _, ?_⟩
    rintro k (rfl | ⟨_, h, _⟩)
    · exact Nat.le_refl _
    · cases h
  · have hv : (m : Int) = room := by rw [if_neg (by omega), if_neg (by omega)] at hm; omega
    refine ⟨_, rfl, _, ⟨w.heap.size, none, [], 0, rfl, rfl, rgM_newS (by rw [hv]; exact heap_alloc_new w _) (by omega) (by omega)⟩, (Below.refl _ _).alloc (Nat.le_refl _) _, ?_⟩
    rintro k (rfl | ⟨_, h, _⟩)
    · exact Nat.le_refl _
    · cases h
set_option maxHeartbeats 2000000 in
theorem rlenS_v {w : World} {v : Value} {s : Rg ByteArray} {O : Nat → Prop} (h : RgIS w v s O) : Calls Try.prog 25 #[v] w (Reads w (.int .i64 s.L.length)) := by
  obtain ⟨b, p, S, f, rfl, rfl, h⟩ := h
  have H := Lib.hid h
  obtain ⟨a0, a1, a2, a3, a4⟩ := h.cells
  clear h
  unfold Reads
  go_enter Try.func25, Try.ntmps25
  go_wp2
  go_ret
  exact ⟨rfl, 0, rfl⟩
set_option maxHeartbeats 2000000 in
theorem rlostS_v {w : World} {v : Value} {s : Rg ByteArray} {O : Nat → Prop} (h : RgIS w v s O) : Calls Try.prog 26 #[v] w (Reads w (.int .i64 s.n)) := by
  obtain ⟨b, p, S, f, rfl, rfl, h⟩ := h
  have H := Lib.hid h
  obtain ⟨a0, a1, a2, a3, a4⟩ := h.cells
  clear h
  unfold Reads
  go_enter Try.func26, Try.ntmps26
  go_wp2
  go_ret
  exact ⟨rfl, 0, rfl⟩
set_option maxHeartbeats 4000000 in
theorem rslotS_v {w : World} {b f k i : Nat} {p : Option Addr} (hf : f < k) (hz : k ≤ 1000) (hi : i ≤ 1000) (hb : b < w.heap.size) (a0 : w.cell? ⟨b, 0, none⟩ = some (.slice p k k)) (a1 : w.cell? ⟨b, 1, none⟩ = some (.int .i64 (f : Int))) {r : Nat} (hr : (f + i) % k = r) : Calls Try.prog 31 #[.pointer (some ⟨b, 0, none⟩), .int .i64 (i : Int)] w (Reads w (.int .i64 (r : Int))) := by
  have hm : Int.tmod ((f : Int) + (i : Int)) (k : Int) = (r : Int) := by rw [← hr]; simp [← Int.natCast_add, ← Int.ofNat_tmod]
  have h0 : (k : Int) ≠ 0 := by omega
  clear hr
  unfold Reads
  go_enter Try.func31, Try.ntmps31
  go_wp2
  go_quiet (fail)
  go_wp2
  go_ret
  exact ⟨rfl, nq, rfl⟩
set_option maxHeartbeats 4000000 in
theorem rpeekS_f {w : World} {v : Value} {m n : Nat} {O : Nat → Prop} (h : RgIS w v ⟨[], m, n⟩ O) : Calls Try.prog 30 #[v] w (Reads w (.tuple #[.string (ByteArray.mk #[]), .int .i64 6])) := by
  obtain ⟨b, p, S, f, rfl, rfl, h⟩ := h
  have H := Lib.hid h
  obtain ⟨a0, a1, a2, a3, a4⟩ := h.cells
  simp only [List.length_nil, Int.natCast_zero] at a2
  clear h
  unfold Reads
  go_enter Try.func30, Try.ntmps30
  go_wp2
  go_ret2
  exact ⟨rfl, 0, rfl⟩
set_option maxHeartbeats 4000000 in
theorem rpeekS_t {w : World} {v : Value} {x : ByteArray} {L : List ByteArray} {m n : Nat} {O : Nat → Prop} (h : RgIS w v ⟨x :: L, m, n⟩ O) : Calls Try.prog 30 #[v] w (Reads w (.tuple #[.string x, .int .i64 0])) := by
  obtain ⟨b, p, S, f, rfl, rfl, h⟩ := h
  rcases h.row with ⟨rfl, rfl, rfl⟩ | ⟨g, rfl, hg, hgb, hf⟩
  · have := h.len; simp at this
  have hx : w.cell? ⟨g, f, none⟩ = some (.string x) := row_cell hg (round_first hf h.mem)
  have h0 : (((x :: L).length : Nat) : Int) ≠ 0 := by simp; omega
  obtain ⟨k, hk⟩ : ∃ k, S.length = k := ⟨_, rfl⟩
  obtain ⟨r, hr⟩ : ∃ r, (x :: L).length = r := ⟨_, rfl⟩
  have hz : k ≤ 1000 := by have := h.fit; have := h.hi; omega
  have hb : b < w.heap.size := h.blt
  have hgl : g < w.heap.size := rheap_lt hg
  obtain ⟨a0, a1, a2, a3, a4⟩ := h.cells
  rw [hk] at a0 hf
  simp only [hr] at a2 h0
  clear h hk hg hr
  unfold Reads
  go_enter Try.func30, Try.ntmps30
  go_wp2
  go_quiet (fail)
  go_wp2
  go_ret2
  exact ⟨rfl, nq, rfl⟩
end Go.Proofs.Ytbjijmdknlopdaa

namespace Go.Proofs.Ytbjijmdknlopdaa
open Go.RowKit
set_option linter.unusedVariables false

set_option maxHeartbeats 4000000 in
theorem rpiecesS_x1 {w : World} {b g k f l : Nat} (hf : f < k) (hz : k ≤ 1000) (hl : l ≤ k) (hb : b < w.heap.size) (hgl : g < w.heap.size)
   (a0 : w.cell? ⟨b, 0, none⟩ = some (.slice (some ⟨g, 0, none⟩) k k)) (a1 : w.cell? ⟨b, 1, none⟩ = some (.int .i64 (f : Int))) (a2 : w.cell? ⟨b, 2, none⟩ = some (.int .i64 (l : Int))) (h : f + l ≤ k) (h0 : 0 < l) : Calls Try.prog 34 #[.pointer (some ⟨b, 0, none⟩)] w (Reads w (.tuple #[.slice (some ⟨g, f, none⟩) l l, .slice (some ⟨g, 0, none⟩) 0 0])) := by
  unfold Reads
  go_enter Try.func34, Try.ntmps34
  go_wp2
  go_quiet (fail)
  have hr : ¬ (0 < (f : Int) + (l : Int) - (k : Int)) := by omega
  go_wp2
  all_goals (
    go_quiet (fail)
    go_wp2
    go_ret2
    refine ⟨?_, _, World.drewN_drewN _ _ _⟩
    first | rfl | (try simp); try omega)
set_option maxHeartbeats 4000000 in
theorem rpiecesS_x2 {w : World} {b g k f l : Nat} (hf : f < k) (hz : k ≤ 1000) (hl : l ≤ k) (hb : b < w.heap.size) (hgl : g < w.heap.size)
   (a0 : w.cell? ⟨b, 0, none⟩ = some (.slice (some ⟨g, 0, none⟩) k k)) (a1 : w.cell? ⟨b, 1, none⟩ = some (.int .i64 (f : Int))) (a2 : w.cell? ⟨b, 2, none⟩ = some (.int .i64 (l : Int))) (h : k < f + l) : Calls Try.prog 34 #[.pointer (some ⟨b, 0, none⟩)] w (Reads w (.tuple #[.slice (some ⟨g, f, none⟩) (k - f) (k - f), .slice (some ⟨g, 0, none⟩) (f + l - k) (f + l - k)])) := by
  unfold Reads
  go_enter Try.func34, Try.ntmps34
  go_wp2
  go_quiet (fail)
  have hr : 0 < (f : Int) + (l : Int) - (k : Int) := by omega
  go_wp2
  all_goals (
    go_quiet (fail)
    go_wp2
    go_ret2
    refine ⟨?_, _, World.drewN_drewN _ _ _⟩
    first | rfl | (try simp); try omega)
set_option maxHeartbeats 4000000 in
theorem rpiecesS_x3 {w : World} {b g k f l : Nat} (hf : f < k) (hz : k ≤ 1000) (hl : l ≤ k) (hb : b < w.heap.size) (hgl : g < w.heap.size)
   (a0 : w.cell? ⟨b, 0, none⟩ = some (.slice (some ⟨g, 0, none⟩) k k)) (a1 : w.cell? ⟨b, 1, none⟩ = some (.int .i64 (f : Int))) (a2 : w.cell? ⟨b, 2, none⟩ = some (.int .i64 (l : Int))) (h0 : l = 0) : Calls Try.prog 34 #[.pointer (some ⟨b, 0, none⟩)] w (Reads w (.tuple #[.slice (some ⟨g, 0, none⟩) 0 0, .slice (some ⟨g, 0, none⟩) 0 0])) := by
  subst h0
  simp only [Int.natCast_zero] at a2
  unfold Reads
  go_enter Try.func34, Try.ntmps34
  go_wp2
  go_quiet (fail)
  have hr : ¬ (0 < (f : Int) - (k : Int)) := by omega
  go_wp2
  all_goals (
    go_quiet (fail)
    go_wp2
    go_ret2
    refine ⟨?_, _, World.drewN_drewN _ _ _⟩
    first | rfl | (try simp); try omega)
set_option maxHeartbeats 4000000 in
theorem rpiecesS_x0 {w : World} {b : Nat} (hb : b < w.heap.size)
   (a0 : w.cell? ⟨b, 0, none⟩ = some (.slice none 0 0)) (a1 : w.cell? ⟨b, 1, none⟩ = some (.int .i64 0)) (a2 : w.cell? ⟨b, 2, none⟩ = some (.int .i64 0)) : Calls Try.prog 34 #[.pointer (some ⟨b, 0, none⟩)] w (Reads w (.tuple #[.slice none 0 0, .slice none 0 0])) := by
  unfold Reads
  go_enter Try.func34, Try.ntmps34
  go_wp2
  go_quiet (fail)
  go_wp2
  all_goals (
    go_quiet (fail)
    go_wp2
    go_ret2
    exact ⟨rfl, _, World.drewN_drewN _ _ _⟩)
theorem rpiecesS_v {w : World} {b : Nat} {p : Option Addr} {S : List ByteArray} {f : Nat} {s : Rg ByteArray} (h : RgMS w b p S f s) : ∃ v, PcG cS w v s.L ∧ ∀ w', Below w.heap.size w w' → Calls Try.prog 34 #[.pointer (some ⟨b, 0, none⟩)] w' (Reads w' v) := by
  have hl := h.len
  have hz : S.length ≤ 1000 := Nat.le_trans h.fit h.hi
  rcases h.row with ⟨rfl, rfl, rfl⟩ | ⟨g, rfl, hg, hgb, hf⟩
  · have h0 : s.L = [] := List.eq_nil_of_length_eq_zero (by simpa using hl)
    refine ⟨.tuple #[.slice none 0 0, .slice none 0 0], ?_, fun w' hb => ?_⟩
    · rw [h0]; exact ⟨[], [], none, none, rfl, rfl, SlP.none_ _ _ _, SlP.none_ _ _ _⟩
    · obtain ⟨a0, a1, a2, a3, a4⟩ := (h.later hb).cells
      rw [h0] at a2
      exact rpiecesS_x0 (h.later hb).blt a0 a1 a2
  · have hgl := rheap_lt hg
    have hp := round_pieces hf hl h.mem
    by_cases h0 : s.L.length = 0
    · have h0' : s.L = [] := List.eq_nil_of_length_eq_zero h0
      refine ⟨_, ?_, fun w' hb => by obtain ⟨a0, a1, a2, _, _⟩ := (h.later hb).cells; exact rpiecesS_x3 hf hz hl (h.later hb).blt (Nat.lt_of_lt_of_le (rheap_lt hg) hb.size) a0 a1 a2 h0⟩
      rw [h0']
      exact ⟨[], [], _, _, rfl, rfl, SlP.none_ _ _ _, SlP.none_ _ _ _⟩
    · by_cases h1 : f + s.L.length ≤ S.length
      · refine ⟨_, ?_, fun w' hb => by obtain ⟨a0, a1, a2, _, _⟩ := (h.later hb).cells; exact rpiecesS_x1 hf hz hl (h.later hb).blt (Nat.lt_of_lt_of_le (rheap_lt hg) hb.size) a0 a1 a2 h1 (by omega)⟩
        have e : f + s.L.length - S.length = 0 := by omega
        refine ⟨_, _, some ⟨g, f, none⟩, some ⟨g, 0, none⟩, ?_, hp, SlP.row hg, SlP.row (i := 0) hg⟩
        rw [e]
        simp
        omega
      · refine ⟨_, ?_, fun w' hb => by obtain ⟨a0, a1, a2, _, _⟩ := (h.later hb).cells; exact rpiecesS_x2 hf hz hl (h.later hb).blt (Nat.lt_of_lt_of_le (rheap_lt hg) hb.size) a0 a1 a2 (by omega)⟩
        refine ⟨_, _, some ⟨g, f, none⟩, some ⟨g, 0, none⟩, ?_, hp, SlP.row hg, SlP.row (i := 0) hg⟩
        simp
        omega
theorem info_rS : (Try.prog.info? 9).map (fun i => (i.zero, i.size, i.bytes)) = some (some (.string (ByteArray.mk #[])), 1, 16) := by kernel_rfl
theorem run_mkrS (n : Nat) (hn : n ≤ 1000) (w : World) :
    (Instr.makeSlice 44 (.int .i64 n) (.int .i64 n)).run Try.prog w = .ok (.slice (some ⟨w.heap.size, 0, none⟩) n n) (w.alloc (.cells (List.replicate n (cS (ByteArray.mk #[]))).toArray 9)) := by
  obtain ⟨i0, hi, hz0, hz1, hz2⟩ := info_parts info_rS
  have := run_make (P := Try.prog) w 44 9 i0 _ Try.underlying44 hi hz0 .i64 .i64 (n : Int) (n : Int) (by omega) (Int.le_refl _) (by rw [hz2]; omega) (by omega)
  rw [hz1, Int.toNat_natCast, rmade_rep _ rfl] at this
  exact this
set_option maxHeartbeats 8000000 in
theorem rcopiedS_v {w : World} {b : Nat} {p : Option Addr} {S : List ByteArray} {f k : Nat} {s : Rg ByteArray} (h : RgMS w b p S f s) (hk : s.L.length ≤ k) (hk2 : k ≤ 1000) :
    Calls Try.prog 32 #[.pointer (some ⟨b, 0, none⟩), .int .i64 (k : Int)] w fun e w' => ∃ g, e = .returned (.slice (some ⟨g, 0, none⟩) k k) ∧ w.heap.size ≤ g ∧ w'.heap[g]? = some (.cells ((s.L ++ List.replicate (k - s.L.length) (ByteArray.mk #[])).map cS).toArray 9 (0, 0)) ∧ Below w.heap.size w w' := by
  have H := Lib.hid h
  have hmk := run_mkrS k hk2
  obtain ⟨Z, hZ⟩ : ∃ Z, List.replicate k (cS (ByteArray.mk #[])) = Z := ⟨_, rfl⟩
  have hZl : Z.length = k := by rw [← hZ]; simp
  have HZ := Lib.hid hZ
  have HZl := Lib.hid hZl
  rw [hZ] at hmk
  obtain ⟨L, hL⟩ : ∃ L, s.L = L := ⟨_, rfl⟩
  have HL := Lib.hid hL
  rw [hL] at hk ⊢
  have HK := Lib.hid hk
  clear h hZ hZl hL hk
  go_enter Try.func32, Try.ntmps32
  go_wp2_with fail
  obtain ⟨v, hv, hc⟩ := rpiecesS_v H.out
  refine (hc _ ((Below.refl _ _).alloc (Nat.le_refl _) (.cells Z.toArray 9))).mono ?_
  rw [HL.out] at hv
  obtain ⟨A, B, p1, p2, rfl, hAB, hA, hB⟩ := hv
  rintro e w1 ⟨rfl, n, hw⟩
  have HG : Hid (w1.heap[w.heap.size]? = some (.cells Z.toArray 9 (0, 0))) := Lib.hid (by rw [hw]; exact heap_alloc_new w _)
  have HB : Hid (Below w.heap.size w w1) := Lib.hid (by rw [hw]; exact below_drewN ((Below.refl _ _).alloc (Nat.le_refl _) _) n)
  have HA := Lib.hid hA
  have HS := Lib.hid hB
  have HAB := Lib.hid hAB
  obtain ⟨na, hna⟩ : ∃ n, A.length = n := ⟨_, rfl⟩
  obtain ⟨nb, hnb⟩ : ∃ n, B.length = n := ⟨_, rfl⟩
  have hab : na + nb ≤ k := by have := HK.out; rw [hAB, List.length_append] at this; omega
  have HNA := Lib.hid hna
  have HNB := Lib.hid hnb
  obtain ⟨X, hX⟩ : ∃ X, A.map cS = X := ⟨_, rfl⟩
  obtain ⟨Y, hY⟩ : ∃ Y, B.map cS = Y := ⟨_, rfl⟩
  have HX := Lib.hid hX
  have HY := Lib.hid hY
  have hXl : X.length = na := by rw [← hX]; simpa using hna
  have hYl : Y.length = nb := by rw [← hY]; simpa using hnb
  have hXo : ∀ v ∈ X, v.oneCell' = true := by rw [← hX]; intro v hv; obtain ⟨a, _, rfl⟩ := List.mem_map.1 hv; rfl
  have hYo : ∀ v ∈ Y, v.oneCell' = true := by rw [← hY]; intro v hv; obtain ⟨a, _, rfl⟩ := List.mem_map.1 hv; rfl
  have HXl := Lib.hid hXl
  have HYl := Lib.hid hYl
  have HXo := Lib.hid hXo
  have HYo := Lib.hid hYo
  rw [hna, hnb]
  have hg1 : w.heap.size < w1.heap.size := rheap_lt HG.out
  clear hA hB hw hAB hna hnb hX hY hXo hYo hYl hc hmk
  have hfin : splice (splice Z 0 X) na Y = (L ++ List.replicate (k - L.length) (ByteArray.mk #[])).map cS := by
    have h1 := splice_rep (cS (ByteArray.mk #[])) k X Y (by rw [hXl, HYl.out]; exact hab)
    rw [hXl, HZ.out] at h1
    rw [h1, List.map_append, HAB.out, List.map_append, HX.out, HY.out, List.map_replicate, List.length_append, List.length_append, HXl.out, HYl.out, HNA.out, HNB.out]
  have HF := Lib.hid hfin
  clear hfin
  by_cases hkn : k = na
  · subst hkn
    go_wp2_with (first | (refine wpList_copy_splice rfl (.tmp 16) (.tmp 17) 44 44 rfl 9 Try.underlying44 (by kernel_rfl) (some ⟨w.heap.size, 0, none⟩) p1 k k k k rfl rfl w.heap.size 0 Z 9 HG.out X (by rw [HXl.out]; exact (Nat.min_eq_left (by omega)).symm) (fun h0 => ⟨rfl, HA.out.src HB.out HX.out h0⟩) (by rw [HXl.out, HZl.out]; omega) HXo.out w.heap.size w HB.out (Nat.le_refl _) ?_; intro w2 hg2 hb2) | (refine wpList_copy_splice rfl (.tmp 19) (.tmp 20) 44 44 rfl 9 Try.underlying44 (by kernel_rfl) (some ⟨w.heap.size, 0, none⟩) p2 0 0 nb nb rfl rfl w.heap.size k (splice Z 0 X) 9 hg2.out Y (by rw [HYl.out]; exact (Nat.min_eq_left (by omega)).symm) (fun h0 => by rw [HYl.out] at h0; omega) (by rw [length_splice Z 0 X (by rw [HXl.out, HZl.out]; omega), HYl.out, HZl.out]; omega) HYo.out w.heap.size w hb2 (Nat.le_refl _) ?_; intro w3 hg3 hb3))
    go_ret
    exact ⟨w.heap.size, rfl, Nat.le_refl _, by rw [← HF.out]; exact hg3.out, hb3⟩
  · go_wp2_with (first | (refine wpList_copy_splice rfl (.tmp 16) (.tmp 17) 44 44 rfl 9 Try.underlying44 (by kernel_rfl) (some ⟨w.heap.size, 0, none⟩) p1 k k na na rfl rfl w.heap.size 0 Z 9 HG.out X (by rw [HXl.out]; exact (Nat.min_eq_left (by omega)).symm) (fun h0 => ⟨rfl, HA.out.src HB.out HX.out h0⟩) (by rw [HXl.out, HZl.out]; omega) HXo.out w.heap.size w HB.out (Nat.le_refl _) ?_; intro w2 hg2 hb2) | (refine wpList_copy_splice rfl (.tmp 19) (.tmp 20) 44 44 rfl 9 Try.underlying44 (by kernel_rfl) (some ⟨w.heap.size, na, none⟩) p2 (k - na) (k - na) nb nb rfl rfl w.heap.size na (splice Z 0 X) 9 hg2.out Y (by rw [HYl.out]; exact (Nat.min_eq_left (by omega)).symm) (fun h0 => ⟨rfl, HS.out.src hb2 HY.out h0⟩) (by rw [length_splice Z 0 X (by rw [HXl.out, HZl.out]; omega), HYl.out, HZl.out]; omega) HYo.out w.heap.size w hb2 (Nat.le_refl _) ?_; intro w3 hg3 hb3))
    go_ret
    exact ⟨w.heap.size, rfl, Nat.le_refl _, by rw [← HF.out]; exact hg3.out, hb3⟩
end Go.Proofs.Ytbjijmdknlopdaa

namespace Go.Proofs.Ytbjijmdknlopdaa
open Go.RowKit
set_option linter.unusedVariables false

set_option maxHeartbeats 4000000 in
theorem rclearS_v {w : World} {v : Value} {s : Rg ByteArray} {O : Nat → Prop} (h : RgIS w v s O) : Calls Try.prog 27 #[v] w fun e w' => e = .returned (.int .i64 s.L.length) ∧ Stp RgIS v O w ⟨[], s.m, s.n⟩ w' := by
  obtain ⟨b, p, S, f, rfl, rfl, h⟩ := h
  have H := Lib.hid h
  obtain ⟨a0, a1, a2, a3, a4⟩ := h.cells
  have f0 := h.live 0
  have f1 := h.live 1
  have f2 := h.live 2
  have hb := h.blt
  clear h
  go_enter Try.func27, Try.ntmps27
  go_wp2
  go_ret
  have h1 := heap_setCell_same w b 0 _ _ (.slice none 0 0) H.out.box
  have h2 := heap_setCell_same _ b 1 _ _ (.int .i64 0) h1
  have h3 := heap_setCell_same _ b 2 _ _ (.int .i64 0) h2
  refine ⟨rfl, rgO b none, ⟨b, none, [], 0, rfl, rfl, ⟨h3, .inl ⟨rfl, rfl, rfl⟩, Nat.le_refl _, Nat.zero_le _, H.out.lo, H.out.hi, fun i hi => by simp at hi⟩⟩, ?_, ?_⟩
  · exact (((Kept.refl _ _).setCell (p := ⟨b, 0, none⟩) (.inl rfl) _).setCell (p := ⟨b, 1, none⟩) (.inl rfl) _).setCell (p := ⟨b, 2, none⟩) (.inl rfl) _
  · rintro k (rfl | ⟨_, h, _⟩)
    · exact .inl (.inl rfl)
    · cases h
set_option maxHeartbeats 4000000 in
theorem rallS_v {w : World} {v : Value} {s : Rg ByteArray} {O : Nat → Prop} (h : RgIS w v s O) : Calls Try.prog 24 #[v] w fun e w' => ∃ u, e = .returned u ∧ FreeA cS w.heap.size w' u s.L ∧ Below w.heap.size w w' := by
  obtain ⟨b, p, S, f, rfl, rfl, h⟩ := h
  have H := Lib.hid h
  obtain ⟨a0, a1, a2, a3, a4⟩ := h.cells
  have hb := h.blt
  clear h
  go_enter Try.func24, Try.ntmps24
  go_wp2_with fail
  refine (rcopiedS_v H.out (Nat.le_refl _) (Nat.le_trans H.out.len (Nat.le_trans H.out.fit H.out.hi))).mono ?_
  rintro e w1 ⟨g, rfl, hg1, hg2, hb2⟩
  have HG := Lib.hid hg2
  clear hg2
  go_wp2
  go_ret
  refine ⟨_, rfl, .inr ⟨g, 0, s.L.length, rfl, Nat.le_refl _, hg1, rheap_lt HG.out, fun i a ha => ?_⟩, hb2⟩
  rw [Nat.zero_add]
  refine ⟨row_cell HG.out ?_, Lib.frozen_of_heap HG.out i⟩
  rw [Nat.sub_self, List.replicate_zero, List.append_nil]
  exact ha
set_option maxHeartbeats 4000000 in
theorem rtakeS_f {w : World} {v : Value} {m n : Nat} {O : Nat → Prop} (h : RgIS w v ⟨[], m, n⟩ O) : Calls Try.prog 22 #[v] w fun e w' => e = .returned (.tuple #[.string (ByteArray.mk #[]), .int .i64 6]) ∧ Stp RgIS v O w ⟨[], m, n⟩ w' := by
  have H := Lib.hid h
  clear h
  go_enter Try.func22, Try.ntmps22
  go_wp2_with fail
  refine (rpeekS_f H.out).mono ?_
  rintro e w1 ⟨rfl, k, rfl⟩
  go_wp2
  go_ret2
  exact ⟨rfl, O, (rgI_obj _ _ _).stay H.out (fun _ _ => rfl), (Kept.refl _ _).drewN k, Grows.refl _ _⟩
set_option maxHeartbeats 4000000 in
theorem rtakeS_t {w : World} {v : Value} {x : ByteArray} {L : List ByteArray} {m n : Nat} {O : Nat → Prop} (h : RgIS w v ⟨x :: L, m, n⟩ O) : Calls Try.prog 22 #[v] w fun e w' => e = .returned (.tuple #[.string x, .int .i64 0]) ∧ Stp RgIS v O w ⟨L, m, n⟩ w' := by
  have HI := Lib.hid h
  obtain ⟨b, p, S, f, rfl, rfl, h⟩ := h
  rcases h.row with ⟨rfl, rfl, rfl⟩ | ⟨g, rfl, _, _, hf⟩
  · have := h.len; simp at this
  have H := Lib.hid h
  have hz : S.length ≤ 1000 := Nat.le_trans h.fit h.hi
  obtain ⟨k, hk⟩ : ∃ k, S.length = k := ⟨_, rfl⟩
  have HK := Lib.hid hk
  rw [hk] at hf hz
  clear h hk
  go_enter Try.func22, Try.ntmps22
  go_wp2_with fail
  refine (rpeekS_t HI.out).mono ?_
  rintro e w1 ⟨rfl, k1, rfl⟩
  have HW : Hid (RgW cS 58 9 (rgO b (some ⟨g, 0, none⟩)) w (w.drewN k1) b g S (f : Int) ((x :: L).length : Nat) m n) := Lib.hid (H.out.mid.1.drewN k1)
  generalize w.drewN k1 = w1 at HW ⊢
  obtain ⟨l, hl⟩ : ∃ l, (x :: L).length = l := ⟨_, rfl⟩
  have HL := Lib.hid hl
  rw [hl] at HW
  clear hl
  obtain ⟨a0, a1, a2, a3, a4⟩ := HW.out.cells
  rw [HK.out] at a0
  have f1 := HW.out.live 1
  have f2 := HW.out.live 2
  have hb := HW.out.blt
  have hg := HW.out.glt
  go_upto_region 4 with fail
  have hcl : ∀ (n : Later w1) (b o : Nat), b < w1.heap.size → n.w.cell? ⟨b, o, none⟩ = w1.cell? ⟨b, o, none⟩ := later_cells w1
  refine wp_region_sec 14 [] (fun _ _ _ => True) (fun _ _ _ _ _ _ => True.intro) (by kernel_rfl) (by kernel_rfl) (by kernel_rfl) (by kernel_rfl) (by kernel_rfl) ?_
  simp only [List.take_succ_cons, List.take_zero, List.drop_succ_cons, List.drop_zero]
  repeat ((first | refine sec_plain (by rfl) (by rfl) (by rfl) (by rfl) ?_ | refine sec_nil (by rfl) (by rfl) (by rfl) (by rfl) (by rfl) ?_); intro K hK; go_big_quiet_op; go_big_quiet_on)
  intro xs m9 hF
  simp only [secFill]
  clear hF xs hcl
  have HW2 := Lib.hid (HW.out.later m9.h)
  generalize m9.w = w2 at HW2 ⊢
  clear a0 a1 a2 a3 a4 f1 f2 hb hg
  have hx2 : S[f]? = some x := round_first (by rw [HK.out]; exact hf) H.out.mem
  have HX2 := Lib.hid hx2
  clear hx2
  refine wpList_clear1 rfl (.tmp 28) 44 9 rfl Try.underlying44 (cS (ByteArray.mk #[])) (fun w => rfl) rfl rfl g f (k - f) rfl (by rw [HW2.out.slot HX2.out]; rfl) (HW2.out.liveG f) ?_
  have HW3 := Lib.hid (HW2.out.setSlot f (ByteArray.mk #[]))
  generalize w2.setCell ⟨g, f, none⟩ (cS (ByteArray.mk #[])) = w3 at HW3 ⊢
  obtain ⟨a0, a1, a2, a3, a4⟩ := HW3.out.cells
  rw [List.length_set, HK.out] at a0
  have f1 := HW3.out.live 1
  have f2 := HW3.out.live 2
  have hb := HW3.out.blt
  have hzr : (f + 1) % k < k := Nat.mod_lt _ (by omega)
  obtain ⟨r, hr⟩ : ∃ r, (f + 1) % k = r := ⟨_, rfl⟩
  rw [hr] at hzr
  have HR := Lib.hid (And.intro hr hzr)
  have hl1 : 1 ≤ l := by have := HL.out; simp at this; omega
  have hl2 : l ≤ 1000 := by have := H.out.len; have e := HL.out; have e2 := HK.out; simp only at this; omega
  go_wp2_with fail
  refine (rslotS_v (i := 1) hf hz (by omega) hb a0 a1 hr).mono ?_
  clear hr hzr
  rintro e w4 ⟨rfl, k2, rfl⟩
  go_wp2
  go_ret2
  refine ⟨rfl, ((((HW3.out.drewN k2).setF (r : Int)).setL ((l : Int) - 1))).stp rfl ?_ rfl rfl ?_ ?_ ?_ H.out.lo H.out.hi ?_⟩
  · have := HL.out; simp at this; omega
  · rw [List.length_set, HK.out]; exact HR.out.2
  · have := H.out.len; rw [List.length_set]; simp at this; omega
  · rw [List.length_set]; exact H.out.fit
  · rw [← HR.out.1, ← HK.out]
    exact round_take (by rw [HK.out]; exact hf) H.out.len H.out.mem (ByteArray.mk #[])
end Go.Proofs.Ytbjijmdknlopdaa
