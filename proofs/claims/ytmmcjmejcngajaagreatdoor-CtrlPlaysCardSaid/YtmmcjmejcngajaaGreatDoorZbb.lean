/- Box, the code: New, Best, Free, States. Of no program: a step of the chain that reads hidden slots, and whose answer is hidden. Box, the code: end, Sent, Abort. Box, the code: Put. -/
import Derived.Test.YtmmcjmejcngajaaGreatDoorZba
import Derived.Test.YtmmcjmejcngajaaGreatDoorZao
import Derived.Test.YtmmcjmejcngajaaGreatDoorZaj
import Derived.Test.YtmmcjmejcngajaaGreatDoorZan
namespace Go.Proofs.YtmmcjmejcngajaaGreatDoor
open Go.RowKit Go.Shelf
set_option linter.unusedVariables false
variable {TB : TypeId} {Y : List Value}

/-! ### New -/
theorem info_mb : (Tryz.prog.info? 95).map (fun i => (i.zero, i.size, i.bytes)) = some (some (.agg (mbC (0, pk0)).toArray), 8, 72) := by kernel_rfl
theorem rep_mb (n : Nat) : madeCells (Value.agg (mbC (0, pk0)).toArray).cells (n * 8) = (rowG mbC (List.replicate n (0, pk0))).toArray := by
  have h := made_rep (mbC (0, pk0)).toArray n (by decide)
  have e : (Value.agg (mbC (0, pk0)).toArray).cells = (mbC (0, pk0)).toArray := by kernel_rfl
  rw [e]
  refine Eq.trans h ?_
  congr 1
  unfold rowG
  rw [List.flatMap_def, List.map_replicate]
theorem run_mkM (n : Nat) (hn : n ≤ 1000) (w : World) :
    (Instr.makeSlice 51 (.int .i64 n) (.int .i64 n)).run Tryz.prog w = .ok (.slice (some ⟨w.heap.size, 0, none⟩) n n) (w.alloc (.cells (rowG mbC (List.replicate n (0, pk0))).toArray 95)) := by
  obtain ⟨i0, hi, hz0, hz1, hz2⟩ := info_parts info_mb
  have := run_make (P := Tryz.prog) w 51 95 i0 _ Tryz.underlying51 hi hz0 .i64 .i64 (n : Int) (n : Int) (by omega) (Int.le_refl _) (by rw [hz2]; omega) (by omega)
  rw [hz1, Int.toNat_natCast, rep_mb] at this
  exact this
theorem bmD_new {w w' : World} {n : Nat} (e : w' = (w.alloc (.cells (rowG mbC (List.replicate n (0, pk0))).toArray 95)).alloc (.cells #[.slice (some ⟨w.heap.size, 0, none⟩) n n, .slice none 0 0, .slice none 0 0] 53)) :
    ∃ O, BmD 53 [] w' (.pointer (some ⟨w.heap.size + 1, 0, none⟩)) (bxNew n) O ∧ Below w.heap.size w w' ∧ ∀ k, O k → w.heap.size ≤ k := by
  subst e
  obtain ⟨w1, e1⟩ : ∃ w1, w.alloc (.cells (rowG mbC (List.replicate n (0, pk0))).toArray 95) = w1 := ⟨_, rfl⟩
  have s1 : w1.heap.size = w.heap.size + 1 := by rw [← e1]; simp
  have n1 := heap_alloc_new w (.cells (rowG mbC (List.replicate n (0, pk0))).toArray 95)
  have hb1 : Below w.heap.size w w1 := by rw [← e1]; exact (Below.refl _ w).alloc (Nat.le_refl _) _
  rw [e1] at n1 ⊢
  have n2 := heap_alloc_new w1 (.cells #[.slice (some ⟨w.heap.size, 0, none⟩) n n, .slice none 0 0, .slice none 0 0] 53)
  have hb2 := (Below.refl _ w1).alloc (Nat.le_refl _) (.cells #[.slice (some ⟨w.heap.size, 0, none⟩) n n, .slice none 0 0, .slice none 0 0] 53)
  rw [s1] at n2
  have nn : ∀ k, ¬ OwnO (.slice none 0 0) k := fun k h => by cases h
  have hl : (List.replicate n ((0 : Int), pk0)).length = n := by simp
  refine ⟨_, ⟨_, _, _, _, List.replicate n (0, pk0), rfl, rfl, ⟨by rw [hl]; exact n2, (hb2.block _ (by omega)).trans n1, RowQ.nil _, RowQ.nil _, by omega, ⟨nn _, nn _⟩, ⟨nn _, nn _⟩, fun k h => (nn k h).elim⟩, ⟨by simp [bxNew], by simp [bxNew], Bx.Full.new n⟩⟩, fbelow_t hb1 hb2, ?_⟩
  rintro k (rfl | rfl | hk | hk)
  · omega
  · exact Nat.le_refl _
  · cases hk
  · cases hk
set_option maxHeartbeats 2000000 in
theorem kxnew_v {n : Int} (w : World) : Calls Tryz.prog 17 #[.int .i64 n] w fun e w' => ∃ v O, e = .returned v ∧ BmD 53 [] w' v (bxNew (boxesN n)) O ∧ Below w.heap.size w w' ∧ ∀ k, O k → w.heap.size ≤ k := by
  obtain ⟨m, hm⟩ : ∃ m, boxesN n = m := ⟨_, rfl⟩
  have hm2 : m ≤ 1000 := by rw [← hm]; unfold boxesN; split <;> (try split) <;> omega
  have mk1 := run_mkM m hm2
  obtain ⟨ZM, hM⟩ : ∃ Z, rowG mbC (List.replicate m (0, pk0)) = Z := ⟨_, rfl⟩
  rw [hM] at mk1
  have HZ := Lib.hid hM
  have hmin : min (max n 1) 1000 = (m : Int) := by
    rw [← hm]
    unfold boxesN
    split
    · omega
    · split <;> omega
  have HD : Hid (∀ w' : World, w' = (w.alloc (.cells ZM.toArray 95)).alloc (.cells #[.slice (some ⟨w.heap.size, 0, none⟩) m m, .slice none 0 0, .slice none 0 0] 53) → ∃ O, BmD 53 [] w' (.pointer (some ⟨w.heap.size + 1, 0, none⟩)) (bxNew m) O ∧ Below w.heap.size w w' ∧ ∀ k, O k → w.heap.size ≤ k) := Lib.hid (fun w' e => bmD_new (by rw [HZ.out]; exact e))
  rw [hm]
  clear hm hM
  go_enter Tryz.func17, Tryz.ntmps17
  go_wp2
  go_ret
  obtain ⟨O, h⟩ := HD.out _ rfl
  exact ⟨_, O, rfl, h⟩
/-! ### Free -/
set_option maxHeartbeats 2000000 in
theorem kxfree_v {w : World} {v : Value} {s : Bx} {O : Nat → Prop} (h : BmD TB Y w v s O) (ok : s.Ok) : Calls Tryz.prog 41 #[v] w fun e w' => e = .returned (.int .i64 (s.free s.S.length : Nat)) ∧ Below w.heap.size w w' := by
  obtain ⟨b, g, vt, ve, M, rfl, rfl, hm, hs⟩ := h
  obtain ⟨A1, k1, hv1⟩ := hm.turn.shape
  obtain ⟨A2, k2, hv2⟩ := hm.fin.shape
  subst hv1 hv2
  obtain ⟨c0, c1, c2⟩ := hm.cells
  have z0 : b < w.heap.size := hm.lt b (.inl rfl)
  have HL : Hid (M.length = s.S.length) := Lib.hid hs.len
  have HC := Lib.hid hs.full.cnt
  have HN := Lib.hid ok.n2
  have HT : Hid (s.trn.length = s.ord.length) := Lib.hid s.trn_len
  generalize s.free s.S.length = q at *
  have e : Hid ((M.length : Int) - (s.trn.length : Int) - (s.fin.length : Int) = (q : Int)) := Lib.hid (by have := HL.out; have := HC.out; have := HT.out; omega)
  have w1 : (M.length : Int) ≤ 1000 ∧ (s.trn.length : Int) ≤ 1000 ∧ (s.fin.length : Int) ≤ 1000 := by have := HL.out; have := HC.out; have := HT.out; have := HN.out; omega
  obtain ⟨w1, w2, w3⟩ := w1
  clear hm hs
  go_enter Tryz.func41, Tryz.ntmps41
  go_wp2_with fail
  go_quiet (fail)
  go_wp2
  go_ret
  exact ⟨by rw [← e.out]; go_num, below_drewN (Below.refl _ _) _⟩
/-! ### Best -/
set_option maxHeartbeats 4000000 in
theorem kxbest_v {w : World} {v : Value} {s : Bx} {O : Nat → Prop} (h : BmD TB Y w v s O) (ok : s.Ok) : Calls Tryz.prog 51 #[v] w fun e w' => e = .returned (.tuple #[.int .i64 s.bst.1, pkV s.bst.2.1, .bool s.bst.2.2]) ∧ Below w.heap.size w w' := by
  obtain ⟨b, g, vt, ve, M, rfl, rfl, hm, hs⟩ := h
  obtain ⟨A1, k1, hv1⟩ := hm.turn.shape
  subst hv1
  have hb0 := (Below.refl w.heap.size w).alloc (Nat.le_refl _) (.cells #[.int .i64 0, .int .i64 0, .int .i64 0, .string (ByteArray.mk #[]), .int .i64 0, .int .i64 0, .bool false] 35)
  have HB0 := Lib.hid hb0
  obtain ⟨w0, e0⟩ : ∃ w0, w.alloc (.cells #[.int .i64 0, .int .i64 0, .int .i64 0, .string (ByteArray.mk #[]), .int .i64 0, .int .i64 0, .bool false] 35) = w0 := ⟨_, rfl⟩
  have hm0 : BmM TB Y w0 b g (.slice A1 s.trn.length k1) ve M s.trn s.fin := by rw [← e0]; exact hm.later hb0
  have HP0 : Hid (BoxP w0 w.heap.size pk0) := Lib.hid (by rw [← e0]; exact BoxP.made w pk0)
  cases hT : s.trn with
  | nil =>
    rw [Bx.bst_nil ok.ordOk hT]
    rw [hT] at hm0
    obtain ⟨c0, c1, c2⟩ := hm0.cells
    obtain ⟨d0, d1, d2, d3, d4, d5, d6⟩ := HP0.out.cells
    simp only [List.length_nil] at c1
    clear hm hs hm0 hT ok
    have HPZ : Hid (BoxP (putB w0 w.heap.size pk0) w.heap.size pk0 ∧ Below w.heap.size w (putB w0 w.heap.size pk0)) := Lib.hid ⟨HP0.out.put pk0, putB_below pk0 (by rw [← e0]; exact HB0.out) (Nat.le_refl _)⟩
    have gl : ∀ j, w0.frozen? ⟨w.heap.size, j, none⟩ = false := fun j => Lib.frozen_of_heap HP0.out j
    obtain ⟨wz, ez⟩ : ∃ wz, putB w0 w.heap.size pk0 = wz := ⟨_, rfl⟩
    rw [ez] at HPZ
    have hfold : ((((((w0.setCell ⟨w.heap.size, 0, none⟩ (.int .i64 0)).setCell ⟨w.heap.size, 1, none⟩ (.int .i64 0)).setCell ⟨w.heap.size, 2, none⟩ (.int .i64 0)).setCell ⟨w.heap.size, 3, none⟩ (.string (ByteArray.mk #[]))).setCell ⟨w.heap.size, 4, none⟩ (.int .i64 0)).setCell ⟨w.heap.size, 5, none⟩ (.int .i64 0)).setCell ⟨w.heap.size, 6, none⟩ (.bool false) = wz := ez
    clear ez HB0 hb0
    go_enter Tryz.func51, Tryz.ntmps51
    go_wp2
    obtain ⟨g0, g1, g2, g3, g4, g5, g6⟩ := HPZ.out.1.cells
    refine bodyPost_ret (v := .tuple #[.int .i64 0, pkV pk0, .bool false]) ?_ rfl ⟨rfl, HPZ.out.2⟩
    simp [results, Tryz.results51, go_sem, g0, g1, g2, g3, g4, g5, g6]
  | cons y l =>
    rw [Bx.bst_cons ok.ordOk hT]
    obtain ⟨k1, k2, k3⟩ := ok.trnOk y (by rw [hT]; simp)
    obtain ⟨n, rfl⟩ : ∃ n : Nat, y = (n : Int) := ⟨y.toNat, by omega⟩
    have hmy := hs.at_ (i := n) (by omega)
    rw [Int.toNat_natCast]
    generalize s.S.getD n 0 = x at hmy
    generalize s.P.getD n pk0 = p at hmy
    have hMl : M.length ≤ 1000 := by rw [hs.len]; exact ok.n2
    have hnl : n < M.length := by rw [hs.len]; omega
    have htl : s.trn.length ≤ 1000 := by rw [s.trn_len]; exact ok.ordLe
    obtain ⟨xa, ca, hv1, hxb, hcell⟩ := SlG.at_ (hm0.turn.sl inC_len (by unfold maxLen; omega)) (i := 0) (by rw [hT]; simp)
    have a0 : w0.cell? (xa.add (0 * 1)) = some (.int .i64 n) := hcell 0 _ (by simp [hT, inC])
    rw [Nat.mul_one, show xa.add 0 = xa by unfold Addr.add; simp] at a0
    injection hv1 with hA _ hcap
    subst hA hcap
    have l0 : 0 < s.trn.length := by rw [hT]; simp
    have l1 : (0 : Int) < (s.trn.length : Int) := by omega
    have l2 : (n : Int) < (M.length : Int) := by omega
    have l3 : ((s.trn.length : Int) == 0) = false := beq_eq_false_iff_ne.2 (by omega)
    obtain ⟨c0, c1, c2⟩ := hm0.cells
    obtain ⟨m0, m1, m2, m3, m4, m5, m6, m7⟩ := hm0.mail hmy
    obtain ⟨d0, d1, d2, d3, d4, d5, d6⟩ := HP0.out.cells
    have z0 : b < w0.heap.size := hm0.lt b (.inl rfl)
    have z1 : g < w0.heap.size := hm0.lt g (.inr (.inl rfl))
    have z2 : b ≠ w.heap.size := fun e => absurd (hm.lt b (.inl rfl)) (by omega)
    have z3 : g ≠ w.heap.size := fun e => absurd (hm.lt g (.inr (.inl rfl))) (by omega)
    have gl : ∀ j, w0.frozen? ⟨w.heap.size, j, none⟩ = false := fun j => Lib.frozen_of_heap HP0.out j
    have HPZ : Hid (BoxP (putB w0 w.heap.size p) w.heap.size p ∧ Below w.heap.size w (putB w0 w.heap.size p)) := Lib.hid ⟨HP0.out.put p, putB_below p (by rw [← e0]; exact HB0.out) (Nat.le_refl _)⟩
    obtain ⟨wp, ep⟩ : ∃ wp, putB w0 w.heap.size p = wp := ⟨_, rfl⟩
    rw [ep] at HPZ
    have hfold : ((((((w0.setCell ⟨w.heap.size, 0, none⟩ (.int .i64 p.f.i)).setCell ⟨w.heap.size, 1, none⟩ (.int .i64 p.f.n)).setCell ⟨w.heap.size, 2, none⟩ (.int .i64 p.f.l)).setCell ⟨w.heap.size, 3, none⟩ (.string p.f.d)).setCell ⟨w.heap.size, 4, none⟩ (.int .i64 p.fr)).setCell ⟨w.heap.size, 5, none⟩ (.int .i64 p.tag)).setCell ⟨w.heap.size, 6, none⟩ (.bool p.lp) = wp := ep
    clear hm hs hm0 hT ok hmy HB0 hb0 hcell k1 k2 k3 ep
    go_enter Tryz.func51, Tryz.ntmps51
    go_wp2_with fail
    go_region
    have HZ : Hid (BoxP wp.drew w.heap.size p ∧ Below w.heap.size w wp.drew) := Lib.hid ⟨HPZ.out.1, HPZ.out.2.drew⟩
    clear hfold c0 c1 c2 m0 m1 m2 m3 m4 m5 m6 m7 d0 d1 d2 d3 d4 d5 d6 gl
    go_wp2
    obtain ⟨g0, g1, g2, g3, g4, g5, g6⟩ := HZ.out.1.cells
    refine bodyPost_ret (v := .tuple #[.int .i64 n, pkV p, .bool true]) ?_ rfl ⟨rfl, HZ.out.2⟩
    simp [results, Tryz.results51, go_sem, g0, g1, g2, g3, g4, g5, g6]
/-! ### States -/
def StatesI (M : List (Int × Pk)) (s : Bx) (w wr : World) (k : Nat) : Prop := Below w.heap.size w wr ∧ ∃ L : List Int, L = s.S.take k ++ List.replicate (M.length - k) 0 ∧ wr.heap[w.heap.size]? = some (.cells (rowG inC L).toArray 3 (0, 0))
theorem statesI_lt {M : List (Int × Pk)} {s : Bx} {w wr : World} {k : Nat} (h : StatesI M s w wr k) : w.heap.size < wr.heap.size := by
  obtain ⟨_, L, _, h2⟩ := h
  exact heap_some_lt h2
theorem statesI_cell {M : List (Int × Pk)} {s : Bx} {w wr : World} {k : Nat} (h : StatesI M s w wr k) (hk : k < M.length) (hl : M.length = s.S.length) : wr.cell? ⟨w.heap.size, k, none⟩ = some (.int .i64 0) ∧ wr.frozen? ⟨w.heap.size, k, none⟩ = false := by
  obtain ⟨_, L, h1, h2⟩ := h
  refine ⟨?_, Lib.frozen_of_heap h2 _⟩
  rw [Lib.cell_of_heap h2]
  have hL : L[k]? = some 0 := by
    rw [h1, List.getElem?_append_right (by simp; omega)]
    simp [List.getElem?_replicate]
    omega
  simpa [inC] using rowG_get inC_len L k _ hL 0 _ rfl
theorem statesI_step {M : List (Int × Pk)} {s : Bx} {w wr : World} {k : Nat} {x : Int} (h : StatesI M s w wr k) (hk : k < M.length) (hl : M.length = s.S.length) (hx : s.S[k]? = some x) : StatesI M s w (wr.setCell ⟨w.heap.size, k, none⟩ (.int .i64 x)) (k + 1) := by
  obtain ⟨h0, L, h1, h2⟩ := h
  refine ⟨h0.setCell (Nat.le_refl _) _, L.set k x, ?_, ?_⟩
  · obtain ⟨hk2, hx2⟩ := List.getElem?_eq_some_iff.1 hx
    rw [h1, List.take_succ_eq_append_getElem hk2, hx2, List.set_append_right _ _ (by simp; omega)]
    rw [List.append_assoc]
    congr 1
    rw [List.length_take, Nat.min_eq_left (by omega), Nat.sub_self]
    obtain ⟨d, hd⟩ : ∃ d, M.length - k = d + 1 := ⟨M.length - k - 1, by omega⟩
    rw [hd, show M.length - (k + 1) = d by omega]
    rfl
  · rw [heap_setCell_same wr w.heap.size k _ _ _ h2]
    simp only [List.setIfInBounds_toArray]
    rw [rowG_setI]
theorem statesI_later {M : List (Int × Pk)} {s : Bx} {w wr wr' : World} {k : Nat} (h : StatesI M s w wr k) (hb : Below wr.heap.size wr wr') : StatesI M s w wr' k := by
  have hz := statesI_lt h
  obtain ⟨h0, L, h1, h2⟩ := h
  exact ⟨fbelow_t h0 hb, L, h1, (hb.block _ hz).trans h2⟩
theorem statesI_done {M : List (Int × Pk)} {s : Bx} {w wr : World} (h : StatesI M s w wr M.length) (hl : M.length = s.S.length) (hm : M.length ≤ 1000) : Gives w (fun w' u => SlA inC 1 w' (fun k => k < w.heap.size) u s.S ∧ ShapeOk u) (.returned (.slice (some ⟨w.heap.size, 0, none⟩) M.length M.length)) wr := by
  obtain ⟨h0, L, h1, h2⟩ := h
  rw [Nat.sub_self, hl, List.take_length] at h1
  simp only [List.replicate_zero, List.append_nil] at h1
  subst h1
  refine ⟨_, rfl, ⟨⟨some ⟨w.heap.size, 0, none⟩, M.length, by rw [hl], by unfold maxLen; omega, fun i a ha => ⟨_, rfl, heap_some_lt h2, by simp, fun j u hu => ?_⟩⟩, .inr ⟨_, _, _, rfl, Nat.le_refl _⟩⟩, h0⟩
  rw [qaddr, Lib.cell_of_heap h2, Nat.zero_add]
  simpa using rowG_get inC_len _ i _ ha j u hu
set_option maxHeartbeats 4000000 in
theorem kxstates_v {w : World} {v : Value} {s : Bx} {O : Nat → Prop} (h : BmD TB Y w v s O) (ok : s.Ok) : Calls Tryz.prog 42 #[v] w (Gives w fun w' u => SlA inC 1 w' (fun k => k < w.heap.size) u s.S ∧ ShapeOk u) := by
  obtain ⟨b, g, vt, ve, M, rfl, rfl, hm, hs⟩ := h
  have hMl : M.length ≤ 1000 := by rw [hs.len]; exact ok.n2
  have mk1 := run_mkS M.length hMl
  obtain ⟨w1, e1⟩ : ∃ w1, w.alloc (.cells (rowG inC (List.replicate M.length 0)).toArray 3) = w1 := ⟨_, rfl⟩
  have hb1 : Below w.heap.size w w1 := by rw [← e1]; exact (Below.refl _ w).alloc (Nat.le_refl _) _
  have hr1 : w1.heap[w.heap.size]? = some (.cells (rowG inC (List.replicate M.length 0)).toArray 3 (0, 0)) := by rw [← e1]; exact heap_alloc_new w _
  have HM := Lib.hid hm
  have HS := Lib.hid hs
  obtain ⟨c0, c1, c2⟩ := hm.cells
  have z0 : b < w.heap.size := hm.lt b (.inl rfl)
  have l4 : (M.length : Int) ≤ 1000 := by omega
  have HR : Hid (StatesI M s w w1 0) := Lib.hid ⟨hb1, _, rfl, by simpa using hr1⟩
  subst e1
  have HML := Lib.hid hMl
  clear hm hs ok hb1 hr1 hMl
  go_enter Tryz.func42, Tryz.ntmps42
  go_wp2
  go_loopw [19] (fun i wr => ∃ k : Nat, k ≤ M.length ∧ i = .int .i64 k ∧ Hid (StatesI M s w wr k)) (fun i _ => M.length - (intOf i).toNat)
  case atStart => exact ⟨0, Nat.zero_le _, rfl, HR⟩
  case round =>
    obtain ⟨k, hk, rfl, HI⟩ := hrel
    have hmr := HM.out.later HI.out.1
    by_cases hlt : k < M.length
    · have hkl : (k : Int) < (M.length : Int) := by omega
      have hks : k < s.S.length := by have := HS.out.len; omega
      have hmy := HS.out.at_ hks
      have HX : Hid (s.S[k]? = some (s.S.getD k 0)) := Lib.hid (by rw [List.getD_eq_getElem?_getD, List.getElem?_eq_getElem hks]; rfl)
      generalize s.S.getD k 0 = x at hmy HX
      generalize s.P.getD k pk0 = p at hmy
      obtain ⟨m0, m1, m2, m3, m4, m5, m6, m7⟩ := hmr.mail hmy
      obtain ⟨q0, q1⟩ := statesI_cell HI.out hlt HS.out.len
      have HN := Lib.hid (statesI_step HI.out hlt HS.out.len HX.out)
      have z1 : w.heap.size < wr.heap.size := statesI_lt HI.out
      clear hmr hmy hks
      go_wp2
      exact ⟨⟨k + 1, by omega, by go_num, Lib.hid (statesI_later HN.out ((Below.refl _ _).alloc (Nat.le_refl _) _))⟩, by simp [intOf]; omega⟩
    · obtain rfl : k = M.length := by omega
      go_wp2
      go_ret
      exact statesI_done HI.out HS.out.len HML.out
end Go.Proofs.YtmmcjmejcngajaaGreatDoor

namespace Go.Proofs.YtmmcjmejcngajaaGreatDoor
open Go.RowKit
set_option linter.unusedVariables false

theorem st_stepH {P : Program} {ops : Array Oper} {st : List Nat} {G : Nat → (Tmp → Option Value) → World → Prop} {sec : List Tmp} {Q : Act → Prop} {o : Oper} {rest : List Oper} {h : Act} {i : Nat} {s : Tmp} (k : Nat) (hi : st[k]? = some i) (hw : Region.wanted o (yielded ops h.tmps) = true) (hd : o.dst = some s) (hs : sec.contains s = true)
    (hrun : ∀ (xs : Tmp → Option Value) (a : Act) (w : World), G k xs w → xs s = none → stLooks ops sec xs o h a → ∃ f args, (execOp a.eval o).run P w = .ok (.enter f args) w ∧ Calls P f args w fun e w' => ∃ u, e = .returned u ∧ G (k + 1) (fun t => if t = s then some u else xs t) w')
    (hk : wpSt P ops st G sec Q (i + 1) rest (h.put o.dst undef)) : wpSt P ops st G sec Q i (o :: rest) h := by
  unfold wpSt
  rw [if_pos hw]
  refine ⟨undef, fun j xs a w hj hjk hb hfr hlk => ?_, hk⟩
  obtain rfl := hjk k hi
  have hs' : s ∈ sec := by simpa using hs
  obtain ⟨f, args, he, hc⟩ := hrun xs a w hb (hfr s hd hs') hlk
  rw [if_pos (List.mem_of_getElem? hi), he]
  refine ⟨rfl, hc.mono ?_⟩
  rintro e w' ⟨u, h0, h1⟩
  refine ⟨u, h0, ?_, by rw [hd]; exact .inl hs'⟩
  rw [hd]
  unfold hidPut
  simp only
  rw [if_pos hs']
  exact h1
/-- a step of the chain that turns memory by itself (a store) -/
theorem st_turn {P : Program} {ops : Array Oper} {st : List Nat} {G : Nat → (Tmp → Option Value) → World → Prop} {sec : List Tmp} {Q : Act → Prop} {o : Oper} {rest : List Oper} {h : Act} {i : Nat} (k : Nat) (hi : st[k]? = some i) (hw : Region.wanted o (yielded ops h.tmps) = true) (hn : noSel o = true) (hl : secOpenL ops sec o = true) (hd : o.dst = none)
    (hrun : ∀ xs w, G k xs w → ∃ w', ((execOp h.eval o).run P w = .ok .skip w' ∨ ∃ u, (execOp h.eval o).run P w = .ok (.value u) w') ∧ G (k + 1) xs w')
    (hk : wpSt P ops st G sec Q (i + 1) rest (h.put o.dst undef)) : wpSt P ops st G sec Q i (o :: rest) h := by
  unfold wpSt
  rw [if_pos hw]
  refine ⟨undef, fun j xs a w hj hjk hb hfr hlk => ?_, hk⟩
  obtain rfl := hjk k hi
  obtain ⟨w', hr, hG⟩ := hrun xs w hb
  have key : ∀ u, hidPut sec xs o.dst u = xs := fun u => by rw [hd]; rfl
  have good : ∀ u, stGood sec o.dst undef u := fun u => by rw [hd]; trivial
  rw [if_pos (List.mem_of_getElem? hi), eval_open hl (noSel_spec hn) (stLooks_open hl hlk w)]
  rcases hr with hr | ⟨u, hr⟩
  · rw [hr]
    exact ⟨by rw [key]; exact hG, good _⟩
  · rw [hr]
    exact ⟨by rw [key]; exact hG, good _⟩
/-- a hidden slot's value, moved into another hidden slot -/
theorem st_move {P : Program} {ops : Array Oper} {st : List Nat} {G : Nat → (Tmp → Option Value) → World → Prop} {sec : List Tmp} {Q : Act → Prop} {o : Oper} {rest : List Oper} {h : Act} {i : Nat} {s1 s2 : Tmp} (hi : st.contains i = false) (hw : Region.wanted o (yielded ops h.tmps) = true) (hd : o.dst = some s2) (hs1 : sec.contains s1 = true) (hs2 : sec.contains s2 = true) (hl1 : s1 ∈ o.looksAt ops)
    (hrun : ∀ (a : Act) w, (execOp a.eval o).run P w = .ok (.value (a.tmps.getD s1 undef)) w) (hG : ∀ j xs w u, G j xs w → xs s1 = some u → xs s2 = none → G j (fun t => if t = s2 then Option.some u else xs t) w)
    (hk : wpSt P ops st G sec Q (i + 1) rest (h.put o.dst undef)) : wpSt P ops st G sec Q i (o :: rest) h := by
  unfold wpSt
  rw [if_pos hw]
  refine ⟨undef, fun j xs a w hj hjk hb hfr hlk => ?_, hk⟩
  have hi' : i ∉ st := by simpa using hi
  have m1 : s1 ∈ sec := by simpa using hs1
  have m2 : s2 ∈ sec := by simpa using hs2
  have h1 := hlk s1 hl1
  rw [if_pos m1] at h1
  rw [if_neg hi', hrun a w]
  refine ⟨?_, by rw [hd]; exact .inl m2⟩
  rw [hd]
  unfold hidPut
  simp only
  rw [if_pos m2]
  exact hG j xs w _ hb h1 (hfr s2 hd m2)
end Go.Proofs.YtmmcjmejcngajaaGreatDoor

namespace Go.Proofs.YtmmcjmejcngajaaGreatDoor
open Go.RowKit Go.Shelf
set_option linter.unusedVariables false
variable {TB : TypeId} {Y : List Value}

set_option maxHeartbeats 8000000 in
set_option maxRecDepth 8000 in
theorem kxend_v {w : World} {v : Value} {s : Bx} {O : Nat → Prop} {i st : Int} (h : BmD TB Y w v s O) (ok : s.Ok) (hst : st = 2 ∨ st = 3) : Calls Tryz.prog 88 #[v, .int .i64 i, .int .i64 st] w fun e w' => e = .returned (.int .i64 (s.end_ i st).2) ∧ Stp (BmD TB Y) v O w (s.end_ i st).1 w' := by
  obtain ⟨b, g, vt, ve, M, rfl, rfl, hm, hs⟩ := h
  have hMl : M.length ≤ 1000 := by rw [hs.len]; exact ok.n2
  have l5 : (M.length : Int) ≤ 1000 := by omega
  obtain ⟨c0, c1, c2⟩ := hm.cells
  have z0 : b < w.heap.size := hm.lt b (.inl rfl)
  by_cases h1 : i < 0
  · have HE : Hid (s.end_ i st = (s, 2)) := Lib.hid (by unfold Bx.end_; rw [if_pos (.inl h1)])
    have HS : Hid (Stp (BmD TB Y) (.pointer (some ⟨b, 0, none⟩)) (bmO b g vt ve) w s w) := Lib.hid ⟨_, ⟨b, g, vt, ve, M, rfl, rfl, hm, hs⟩, Kept.refl _ _, Grows.refl _ _⟩
    rw [HE.out]
    have d1 : decide (i < 0) = true := decide_eq_true h1
    clear hm hs ok
    go_enter Tryz.func88, Tryz.ntmps88
    go_wp2
    go_ret
    exact ⟨rfl, HS.out⟩
  obtain ⟨n, rfl⟩ : ∃ n : Nat, i = (n : Int) := ⟨i.toNat, by omega⟩
  by_cases h2 : s.S.length ≤ n
  · have HE : Hid (s.end_ n st = (s, 2)) := Lib.hid (by unfold Bx.end_; rw [if_pos (.inr (.inl (by omega)))])
    have HS : Hid (Stp (BmD TB Y) (.pointer (some ⟨b, 0, none⟩)) (bmO b g vt ve) w s w) := Lib.hid ⟨_, ⟨b, g, vt, ve, M, rfl, rfl, hm, hs⟩, Kept.refl _ _, Grows.refl _ _⟩
    rw [HE.out]
    have d1 : decide ((n : Int) < 0) = false := decide_eq_false (by omega)
    have d2 : decide (M.length ≤ n) = true := decide_eq_true (by have := hs.len; omega)
    clear hm hs ok h1 h2
    go_enter Tryz.func88, Tryz.ntmps88
    go_wp2
    go_ret
    exact ⟨rfl, HS.out⟩
  have hn : n < s.S.length := by omega
  have hmy := hs.at_ hn
  have d1 : decide ((n : Int) < 0) = false := decide_eq_false (by omega)
  have d2 : decide (M.length ≤ n) = false := decide_eq_false (by have := hs.len; omega)
  have l2 : (n : Int) < (M.length : Int) := by have := hs.len; omega
  obtain ⟨m0, _⟩ := hm.mail hmy
  by_cases h3 : s.S.getD n 0 = 1
  case neg =>
    have HE : Hid (s.end_ n st = (s, 2)) := Lib.hid (by unfold Bx.end_; rw [if_pos (.inr (.inr (by rw [Int.toNat_natCast]; exact h3)))])
    have HS : Hid (Stp (BmD TB Y) (.pointer (some ⟨b, 0, none⟩)) (bmO b g vt ve) w s w) := Lib.hid ⟨_, ⟨b, g, vt, ve, M, rfl, rfl, hm, hs⟩, Kept.refl _ _, Grows.refl _ _⟩
    rw [HE.out]
    generalize s.S.getD n 0 = x at *
    have d3 : (x != 1) = true := by simpa using h3
    clear hm hs ok h1 h2 h3 hmy
    go_enter Tryz.func88, Tryz.ntmps88
    go_wp2
    go_ret
    exact ⟨rfl, HS.out⟩
  case pos =>
    have HE : Hid (s.end_ n st = (s.endAt n st, 0)) := Lib.hid (by unfold Bx.end_; rw [if_neg (by rw [Int.toNat_natCast]; omega), Int.toNat_natCast])
    rw [HE.out]
    obtain ⟨A1, k1, hve⟩ := hm.fin.shape
    subst hve
    have hin := hs.full.mem n hn h3
    obtain ⟨k, hk, hk2⟩ := List.getElem_of_mem (mem_turnK (key := s.key).2 hin)
    have hk : k < s.trn.length := hk
    have hkx : s.trn[k]? = some (n : Int) := by rw [List.getElem?_eq_getElem hk]; exact congrArg some hk2
    have htl : s.trn.length ≤ 1000 := by rw [s.trn_len]; exact ok.ordLe
    have hfl : s.fin.length ≤ 1000 := ok.finLe
    have HT : Hid ((s.endAt n st).trn = s.trn.take k ++ s.trn.drop (k + 1) ∧ (s.endAt n st).fin = s.fin ++ [(n : Int)]) := Lib.hid ⟨Bx.trn_end ok st hkx, rfl⟩
    have HS : Hid (BmS (M.set n (st, s.P.getD n pk0)) (s.endAt n st)) := Lib.hid (by
      refine ⟨?_, ?_, hs.full.endAt ok hn h3 hst⟩
      · rw [List.map_set, hs.hS]; rfl
      · rw [List.map_set, hs.hP]
        show s.P.set n (s.P.getD n pk0) = s.P
        have hnP : n < s.P.length := by rw [ok.lp]; exact hn
        rw [List.getD_eq_getElem?_getD, List.getElem?_eq_getElem hnP]
        exact List.set_getElem_self hnP)
    generalize s.P.getD n pk0 = p at hmy HS
    rw [h3] at hmy m0
    have HIX := Lib.hid (sl_index_v hm.turn (by omega) ok.trnNd hkx)
    have HM := Lib.hid hm
    have n1 := hm.f1.1
    have b1l := hm.live 1
    have HMY := Lib.hid hmy
    have HOW := Lib.hid hm.lt
    have hkl : (k : Int) + 1 ≤ 1000 := by omega
    have HKL := Lib.hid hk
    have HFL := Lib.hid hfl
    have HNL : Hid (n < M.length) := Lib.hid (by rw [hs.len]; exact hn)
    clear hm hs ok h1 h2 h3 hmy hkx hk2 hin hk htl hfl hn hMl
    go_enter Tryz.func88, Tryz.ntmps88
    go_wp2_with fail
    refine HIX.out.mono ?_
    rintro e w' ⟨rfl, rfl⟩
    go_wp2_with fail
    refine (sl_delete_v HM.out.turn HKL.out).mono ?_
    rintro e w1 ⟨v', rfl, hq, hk1, hg1⟩
    obtain ⟨A2, k2, hv2⟩ := hq.shape
    subst hv2
    have b1 := (hk1.cell (p := ⟨b, 1, none⟩) z0 n1).trans c1
    have b1f := (hk1.frozen (p := ⟨b, 1, none⟩) z0 n1).trans b1l
    obtain ⟨r1, r2, r3⟩ := HM.out.setTurn hq hk1 hg1
    generalize (List.take k s.trn ++ List.drop (k + 1) s.trn).length = tl at *
    obtain ⟨w2, e2⟩ : ∃ w2, w1.setCell ⟨b, 1, none⟩ (.slice A2 tl k2) = w2 := ⟨_, rfl⟩
    rw [e2] at r1 r2
    have HM2 := Lib.hid r1
    have HK2 := Lib.hid r2
    have HG2 := Lib.hid r3
    clear hq hk1 hg1 r1 r2 r3 c0 c1 c2
    go_upto_region 8 with fail
    clear e2 b1 b1f b1l n1
    obtain ⟨c0, c1, c2⟩ := HM2.out.cells
    have z2 : b < w2.heap.size := HM2.out.lt b (.inl rfl)
    have zg : g < w2.heap.size := HM2.out.lt g (.inr (.inl rfl))
    have n2 := HM2.out.f2
    have b2l := HM2.out.live 2
    have ml := HM2.out.liveR
    obtain ⟨m0, _⟩ := HM2.out.mail HMY.out
    have HBL := Lib.hid ((Below.refl w2.heap.size w2).alloc (Nat.le_refl _) (.cells #[.int .i64 (n : Int)] 3))
    have HRQ : Hid (RowQ inC 1 (w2.alloc (.cells #[.int .i64 (n : Int)] 3)) (.slice A1 s.fin.length k1) s.fin) := Lib.hid (HM2.out.fin.later HBL.out)
    have HRD : Hid (RdA inC 1 (w2.alloc (.cells #[.int .i64 (n : Int)] 3)) (.slice (some ⟨w2.heap.size, 0, none⟩) 1 1) [(n : Int)]) := Lib.hid (RdA.one inC_len _ _ _ rfl rfl)
    have HCB : Hid (∀ (w3 : World), Kept (OwnO (.slice A1 s.fin.length k1)) (w2.alloc (.cells #[.int .i64 (n : Int)] 3)) w3 → (∀ o, w3.cell? ⟨b, o, none⟩ = w2.cell? ⟨b, o, none⟩ ∧ w3.frozen? ⟨b, o, none⟩ = w2.frozen? ⟨b, o, none⟩) ∧ ∀ o, w3.cell? ⟨g, o, none⟩ = w2.cell? ⟨g, o, none⟩ ∧ w3.frozen? ⟨g, o, none⟩ = w2.frozen? ⟨g, o, none⟩) := Lib.hid (fun w3 hk3 =>
      ⟨fun o => ⟨(hk3.cell (p := ⟨b, o, none⟩) (Nat.lt_of_lt_of_le z2 HBL.out.size) n2.1).trans (HBL.out.cell (p := ⟨b, o, none⟩) z2), (hk3.frozen (p := ⟨b, o, none⟩) (Nat.lt_of_lt_of_le z2 HBL.out.size) n2.1).trans (HBL.out.frozen (p := ⟨b, o, none⟩) z2)⟩,
       fun o => ⟨(hk3.cell (p := ⟨g, o, none⟩) (Nat.lt_of_lt_of_le zg HBL.out.size) n2.2).trans (HBL.out.cell (p := ⟨g, o, none⟩) zg), (hk3.frozen (p := ⟨g, o, none⟩) (Nat.lt_of_lt_of_le zg HBL.out.size) n2.2).trans (HBL.out.frozen (p := ⟨g, o, none⟩) zg)⟩⟩)
    go_wp2_with (at_builtin; refine wpList_qO (c := inC) (L := s.fin) (M := [(n : Int)]) flat_in inC_len inC_one rfl (.tmp 54) (.tmp 56) rfl (by rfl) HRQ.out (by rfl) HRD.out (by have := HFL.out; simp; omega) ?_; rintro v3 w3 hq3 hk3 hg3; obtain ⟨g3, o3, cap3, rfl⟩ := hq3.form; have HQ3 := Lib.hid hq3; have HK3 := Lib.hid hk3; have HG3 := Lib.hid hg3; have y0 := ((HCB.out w3 hk3).1 0).1.trans c0; have y2 := ((HCB.out w3 hk3).1 2).1.trans c2; have y2f := ((HCB.out w3 hk3).1 2).2.trans b2l; have y3 := ((HCB.out w3 hk3).2 (n * 8)).1.trans m0; have y3f := ((HCB.out w3 hk3).2 (n * 8)).2.trans (ml _); clear hq3 hk3 hg3)
    go_wp2
    go_ret
    refine ⟨rfl, ?_⟩
    obtain ⟨r1, r2, r3⟩ := (HM2.out.later HBL.out).setFin HQ3.out HK3.out HG3.out
    obtain ⟨r4, r5⟩ := r1.setState HMY.out st
    refine ⟨bmO b g (.slice A2 tl k2) (.slice (some ⟨g3, o3, none⟩) (s.fin.length + 1) cap3), ⟨b, g, .slice A2 tl k2, .slice (some ⟨g3, o3, none⟩) (s.fin.length + 1) cap3, M.set n (st, p), rfl, rfl, ?_, HS.out⟩, ?_, fun k hk => ?_⟩
    · rw [HT.out.1, HT.out.2]; exact r4
    · exact ((HK2.out.trans (.of_below (O := bmO b g (.slice A2 tl k2) (.slice A1 s.fin.length k1)) HBL.out) HG2.out).trans r2 HG2.out).trans r5 (fun k hk => by
        have h1 := HK2.out.size
        have h2 := HBL.out.size
        rcases r3 k hk with h | h
        · exact HG2.out k h
        · exact .inr (by omega))
    · have h1 := HK2.out.size
      have h2 := HBL.out.size
      rcases r3 k hk with h | h
      · exact HG2.out k h
      · exact .inr (by omega)
theorem kxsent_v {w : World} {v : Value} {s : Bx} {O : Nat → Prop} (i : Int) (h : BmD TB Y w v s O) (ok : s.Ok) : Calls Tryz.prog 72 #[v, .int .i64 i] w fun e w' => e = .returned (.int .i64 (s.end_ i 2).2) ∧ Stp (BmD TB Y) v O w (s.end_ i 2).1 w' := by
  have hc := kxend_v (i := i) h ok (.inl rfl)
  clear h ok
  go_enter Tryz.func72, Tryz.ntmps72
  go_wp2_with fail
  refine hc.mono ?_
  rintro e w' ⟨rfl, h'⟩
  have H := Lib.hid h'
  clear h'
  go_wp2
  go_ret
  exact ⟨rfl, H.out⟩
theorem kxabort_v {w : World} {v : Value} {s : Bx} {O : Nat → Prop} (i : Int) (h : BmD TB Y w v s O) (ok : s.Ok) : Calls Tryz.prog 76 #[v, .int .i64 i] w fun e w' => e = .returned (.int .i64 (s.end_ i 3).2) ∧ Stp (BmD TB Y) v O w (s.end_ i 3).1 w' := by
  have hc := kxend_v (i := i) h ok (.inr rfl)
  clear h ok
  go_enter Tryz.func76, Tryz.ntmps76
  go_wp2_with fail
  refine hc.mono ?_
  rintro e w' ⟨rfl, h'⟩
  have H := Lib.hid h'
  clear h'
  go_wp2
  go_ret
  exact ⟨rfl, H.out⟩
end Go.Proofs.YtmmcjmejcngajaaGreatDoor

namespace Go.Proofs.YtmmcjmejcngajaaGreatDoor
open Go.RowKit Go.Shelf
set_option linter.unusedVariables false
variable {TB : TypeId} {Y : List Value}

/-! ### its place is one alone -/
def Bx.plc (s : Bx) (k : Int) : Nat := (s.trn.takeWhile (fun y => !decide (k < s.key y))).length
theorem takeWhile_at {p : Int → Bool} : ∀ {l : List Int} {n : Nat}, n ≤ l.length → (∀ t, t < n → p (l.getD t 0) = true) → (∀ t, n ≤ t → t < l.length → p (l.getD t 0) = false) → (l.takeWhile p).length = n
  | [], n, h, _, _ => by simp at h; subst h; rfl
  | y :: l, 0, _, _, h => by
    have := h 0 (Nat.le_refl _) (by simp)
    rw [List.takeWhile_cons, if_neg (by simpa using this)]; rfl
  | y :: l, n + 1, hn, h1, h2 => by
    have := h1 0 (by omega)
    rw [List.takeWhile_cons, if_pos (by simpa using this), List.length_cons, takeWhile_at (n := n) (by simpa using hn) (fun t ht => by simpa using h1 (t + 1) (by omega)) (fun t h3 h4 => by simpa using h2 (t + 1) (by omega) (by simpa using h4))]
theorem place_one {s : Bx} {k : Int} {n : Nat} (h0 : n ≤ s.trn.length) (h1 : ∀ t, t < n → ¬ k < s.key (s.trn.getD t 0)) (h2 : ∀ t, n ≤ t → t < s.trn.length → k < s.key (s.trn.getD t 0)) : n = s.plc k :=
  (takeWhile_at h0 (fun t ht => by simpa using h1 t ht) (fun t h3 h4 => by simpa using h2 t h3 h4)).symm
theorem place_w {w : World} {b g : Nat} {vt ve : Value} {M : List (Int × Pk)} {s : Bx} {f : Fr} (h : BmM TB Y w b g vt ve M s.trn s.fin) (hs : BmS M s) (ok : s.Ok) (hT : Tabs w) (h0 : 0 ≤ keyG f) :
    Calls Tryz.prog 68 #[.pointer (some ⟨b, 0, none⟩), .agg #[.int .i64 f.i, .int .i64 f.n, .int .i64 f.l, .string f.d]] w fun e w' => e = .returned (.int .i64 (s.plc (keyG f) : Nat)) ∧ Below w.heap.size w w' := by
  refine (place_v h hs ok hT h0).mono ?_
  rintro e w' ⟨⟨n, k1, rfl, k2, k3⟩, hb⟩
  rw [← place_one k1 k2 k3]
  exact ⟨rfl, hb⟩
theorem plc_spec {s : Bx} (k : Int) : s.plc k ≤ s.trn.length ∧ (∀ t, t < s.plc k → ¬ k < s.key (s.trn.getD t 0)) ∧ ∀ t, s.plc k ≤ t → t < s.trn.length → k < s.key (s.trn.getD t 0) := by
  have hs : SortK s.key s.trn := turnK_sort
  have hw : ∀ (l : List Int), SortK s.key l → (l.takeWhile (fun y => !decide (k < s.key y))).length ≤ l.length ∧ (∀ t, t < (l.takeWhile (fun y => !decide (k < s.key y))).length → ¬ k < s.key (l.getD t 0)) ∧ ∀ t, (l.takeWhile (fun y => !decide (k < s.key y))).length ≤ t → t < l.length → k < s.key (l.getD t 0) := by
    intro l
    induction l with
    | nil => intro _; exact ⟨Nat.le_refl _, fun t ht => absurd ht (Nat.not_lt_zero _), fun t _ ht => absurd ht (Nat.not_lt_zero _)⟩
    | cons y l ih =>
      intro h
      have h' := List.pairwise_cons.1 h
      obtain ⟨i1, i2, i3⟩ := ih h'.2
      rw [List.takeWhile_cons]
      by_cases hy : k < s.key y
      · rw [if_neg (by simpa using hy)]
        refine ⟨Nat.zero_le _, fun t ht => absurd ht (Nat.not_lt_zero _), fun t _ ht => ?_⟩
        cases t with
        | zero => simpa using hy
        | succ t =>
          have ht' : t < l.length := by simpa using ht
          rw [List.getD_cons_succ, List.getD_eq_getElem?_getD, List.getElem?_eq_getElem ht']
          have := h'.1 _ (List.getElem_mem ht')
          simp only [Option.getD_some]
          omega
      · rw [if_pos (by simpa using hy), List.length_cons]
        refine ⟨by simp; omega, fun t ht => ?_, fun t h3 h4 => ?_⟩
        · cases t with
          | zero => simpa using hy
          | succ t => simpa using i2 t (by omega)
        · cases t with
          | zero => omega
          | succ t => simpa using i3 t (by omega) (by simpa using h4)
  exact hw s.trn hs
/-! ### a row put into in a region that draws -/
def InsQ (u : Value) (x : Int) (L' : List Int) (W : World) (tx tr : Tmp) (j : Nat) (xs : Tmp → Option Value) (w : World) : Prop :=
  Kept (OwnO u) W w ∧ ((j ≤ 1 ∧ xs tr = none ∧ Below W.heap.size W w ∧ ∀ y, xs tx = some y → ∃ g, y = .slice (some ⟨g, 0, none⟩) 1 1 ∧ W.heap.size ≤ g ∧ w.heap[g]? = some (.cells #[.int .i64 x] 3 (0, 0))) ∨
    (j = 2 ∧ ∃ v', xs tr = some v' ∧ RowQ inC 1 w v' L' ∧ Grows (OwnO u) W (OwnO v')))
section
variable {u : Value} {x : Int} {L' : List Int} {W w w' : World} {tx tr : Tmp} {xs : Tmp → Option Value}
theorem InsQ.start : InsQ u x L' W tx tr 0 (fun _ => none) W.drew := ⟨.of_below (Below.refl _ _).drew, .inl ⟨by decide, rfl, (Below.refl _ _).drew, fun y h => by cases h⟩⟩
theorem InsQ.one (hne : tr ≠ tx) (j : Nat) (xs : Tmp → Option Value) (w : World) (h : InsQ u x L' W tx tr j xs w) : InsQ u x L' W tx tr j (fun t => if t = tx then some (.slice (some ⟨w.heap.size, 0, none⟩) 1 1) else xs t) (w.alloc (.cells #[.int .i64 x] 3)) := by
  have hb : Below w.heap.size w (w.alloc (.cells #[.int .i64 x] 3)) := (Below.refl _ _).alloc (Nat.le_refl _) _
  obtain ⟨h1, h2⟩ := h
  refine ⟨h1.trans (.of_below (O := OwnO u) hb) (Grows.refl _ _), ?_⟩
  rcases h2 with ⟨hj, h0, h3, h4⟩ | ⟨rfl, v', h3, h4, h5⟩
  · refine .inl ⟨hj, by simp only; rw [if_neg hne]; exact h0, fbelow_t h3 hb, fun y hy => ?_⟩
    simp at hy
    subst hy
    exact ⟨_, rfl, h3.size, heap_alloc_new w _⟩
  · exact .inr ⟨rfl, v', by simp only; rw [if_neg hne]; exact h3, h4.later hb, h5⟩
theorem InsQ.zero (h : InsQ u x L' W tx tr 0 xs w) : Below W.heap.size W w := by
  rcases h.2 with ⟨_, _, h1, _⟩ | ⟨h0, _⟩
  · exact h1
  · cases h0
theorem InsQ.step (h : InsQ u x L' W tx tr 0 xs w) (hb : Below w.heap.size w w') : InsQ u x L' W tx tr 1 xs w' := by
  obtain ⟨h1, h2⟩ := h
  refine ⟨h1.trans (.of_below (O := OwnO u) hb) (Grows.refl _ _), ?_⟩
  rcases h2 with ⟨hj, h0, h3, h4⟩ | ⟨h0, _⟩
  · refine .inl ⟨by decide, h0, fbelow_t h3 hb, fun y hy => ?_⟩
    obtain ⟨g, e1, e2, e3⟩ := h4 y hy
    exact ⟨g, e1, e2, (hb.block g (heap_some_lt e3)).trans e3⟩
  · cases h0
theorem InsQ.rd (h : InsQ u x L' W tx tr 1 xs w) {y : Value} (hy : xs tx = some y) : Below W.heap.size W w ∧ ∃ g, y = .slice (some ⟨g, 0, none⟩) 1 1 ∧ W.heap.size ≤ g ∧ w.heap[g]? = some (.cells #[.int .i64 x] 3 (0, 0)) := by
  rcases h.2 with ⟨_, _, h1, h2⟩ | ⟨h0, _⟩
  · exact ⟨h1, h2 y hy⟩
  · cases h0
theorem InsQ.app {v' : Value} (h : InsQ u x L' W tx tr 1 xs w) (hq : RowQ inC 1 w' v' L') (hk : Kept (OwnO u) w w') (hg : Grows (OwnO u) w (OwnO v')) : InsQ u x L' W tx tr 2 (fun t => if t = tr then some v' else xs t) w' :=
  ⟨h.1.trans hk (Grows.refl _ _), .inr ⟨rfl, v', by simp, hq, fun k hk' => (hg k hk').imp id (Nat.le_trans h.1.size)⟩⟩
theorem InsQ.out {v : Value} (h : InsQ u x L' W tx tr 2 xs w) (hv : xs tr = some v) : Kept (OwnO u) W w ∧ RowQ inC 1 w v L' ∧ Grows (OwnO u) W (OwnO v) := by
  obtain ⟨h1, h2⟩ := h
  rcases h2 with ⟨h0, _⟩ | ⟨_, v', h3, h4, h5⟩
  · omega
  · rw [hv] at h3
    injection h3 with h3
    subst h3
    exact ⟨h1, h4, h5⟩
end
end Go.Proofs.YtmmcjmejcngajaaGreatDoor
