/- Bus, the code: New, Nodes, Slots, Conf. Bus, the code: rows told uncopied to nobody: slices.Clone, Waits, Log. Bus, the code: Offer. Bus, the code: drop. -/
import Derived.Test.YtpgfifacfkllfaaDoorZba
import Derived.Test.YtpgfifacfkllfaaDoorZan
import Derived.Test.YtpgfifacfkllfaaDoorZal
import Derived.Test.YtpgfifacfkllfaaDoorZaz
import Derived.Test.YtpgfifacfkllfaaDoorZax
import Derived.Test.YtpgfifacfkllfaaDoorZae
namespace Go.Proofs.YtpgfifacfkllfaaDoor
open Go.RowKit
set_option linter.unusedVariables false

theorem bkM_new {w : World} {b gn gm n : Nat} {back : Int} (hb : w.heap[b]? = some (.cells #[.slice (some ⟨gn, 0, none⟩) n n, .int .i64 back, .bool false, .map (some gm), .slice none 0 0, .int .i64 0] 60 (0, 0)))
    (hn : w.heap[gn]? = some (.cells (rowG cfC (List.replicate n cf0)).toArray 42 (0, 0))) (hw : MapH Tryd.prog 3 w gm (.map [])) (h1 : b ≠ gn) (h2 : b ≠ gm) (h3 : gn ≠ gm) :
    BkM w b gn gm (.map []) (List.replicate n (Value.slice none 0 0)) (.slice none 0 0) (bsNew n back) := by
  have key : ∀ (i : Nat) (u : Value), (List.replicate n (Value.slice none 0 0))[i]? = some u → u = .slice none 0 0 := fun i u hu => by
    rw [List.getElem?_replicate] at hu
    split at hu
    · injection hu with hu; exact hu.symm
    · cases hu
  have nn : ∀ k, ¬ OwnO (.slice none 0 0) k := fun k h => by cases h
  refine ⟨by simpa [bsNew] using hb, hn, hw, SzM.empty, fun i u hu => by rw [key i u hu]; exact AtM.empty _ _, by simp [bsNew], by simp [bsNew], fun i u L hu hL => ?_, RowQ.nil _, h1, h2, h3, fun i u hu => ?_, fun i j u u' hu hu' hij => ?_, ⟨nn _, nn _, nn _⟩⟩
  · rw [key i u hu]
    have : L = [] := by
      simp only [bsNew, List.getElem?_replicate] at hL
      split at hL
      · injection hL with hL; exact hL.symm
      · cases hL
    subst this
    exact RowQ.nil _
  · rw [key i u hu]; exact ⟨nn _, nn _, nn _, fun k h => (nn k h).elim⟩
  · rw [key i u hu]; exact fun k h => (nn k h).elim
theorem bkD_new {w : World} {n : Nat} {back : Int} {w' : World} (e : w' = ((w.alloc (.cells (rowG cfC (List.replicate n cf0)).toArray 42)).alloc (.map #[] 0)).alloc (.cells #[.slice (some ⟨w.heap.size, 0, none⟩) n n, .int .i64 back, .bool false, .map (some (w.heap.size + 1)), .slice none 0 0, .int .i64 0] 60)) :
    ∃ O, BkD w' (.pointer (some ⟨w.heap.size + 1 + 1, 0, none⟩)) (bsNew n back) O ∧ Below w.heap.size w w' ∧ ∀ k, O k → w.heap.size ≤ k := by
  subst e
  obtain ⟨w1, e1⟩ : ∃ w1, w.alloc (.cells (rowG cfC (List.replicate n cf0)).toArray 42) = w1 := ⟨_, rfl⟩
  have s1 : w1.heap.size = w.heap.size + 1 := by rw [← e1]; simp
  have n1 := heap_alloc_new w (.cells (rowG cfC (List.replicate n cf0)).toArray 42)
  have hb1 : Below w.heap.size w w1 := by rw [← e1]; exact (Below.refl _ w).alloc (Nat.le_refl _) _
  rw [e1] at n1 ⊢
  have m1 := MapH.made w1 Tryd.prog 3
  obtain ⟨w2, e2⟩ : ∃ w2, w1.alloc (.map #[] 0) = w2 := ⟨_, rfl⟩
  have s2 : w2.heap.size = w.heap.size + 1 + 1 := by rw [← e2]; simp [s1]
  have hb2 : Below w1.heap.size w1 w2 := by rw [← e2]; exact (Below.refl _ w1).alloc (Nat.le_refl _) _
  rw [e2, s1] at m1
  rw [e2]
  have n3 := heap_alloc_new w2 (.cells #[.slice (some ⟨w.heap.size, 0, none⟩) n n, .int .i64 back, .bool false, .map (some (w.heap.size + 1)), .slice none 0 0, .int .i64 0] 60)
  have hb3 := (Below.refl _ w2).alloc (Nat.le_refl _) (.cells #[.slice (some ⟨w.heap.size, 0, none⟩) n n, .int .i64 back, .bool false, .map (some (w.heap.size + 1)), .slice none 0 0, .int .i64 0] 60)
  rw [s2] at n3
  have hM := bkM_new (back := back) n3 ((hb3.block _ (by omega)).trans ((hb2.block _ (by omega)).trans n1)) (m1.stay (hb3.block _ (by omega))) (by omega) (by omega) (by omega)
  refine ⟨_, ⟨_, _, _, _, _, _, rfl, rfl, hM⟩, fbelow_t hb1 (fbelow_t hb2 hb3), ?_⟩
  rintro k (rfl | rfl | rfl | ⟨i, u, hu, hk⟩ | hk)
  · omega
  · omega
  · omega
  · rw [List.getElem?_replicate] at hu
    split at hu
    · injection hu with hu; subst hu; cases hk
    · cases hu
  · cases hk
set_option maxHeartbeats 2000000 in
theorem kbnew_v {n back : Int} (w : World) :
    Calls Tryd.prog 10 #[.int .i64 n, .int .i64 back] w fun e w' => ∃ v O, e = .returned v ∧ BkD w' v (bsNew (nodesN n) back) O ∧ Below w.heap.size w w' ∧ ∀ k, O k → w.heap.size ≤ k := by
  obtain ⟨m, hm⟩ : ∃ m, nodesN n = m := ⟨_, rfl⟩
  have hm2 : m ≤ 32 := by rw [← hm]; unfold nodesN; split <;> (try split) <;> omega
  have mk1 := run_mkC m (by omega)
  have hmm := @run_makeMap Tryd.prog
  have hc : (1 ≤ n ∧ n ≤ 32 ∧ n = m) ∨ (n < 1 ∧ m = 1) ∨ (32 < n ∧ m = 32) := by
    unfold nodesN at hm
    split at hm
    · omega
    · split at hm <;> omega
  rw [hm]
  clear hm hm2
  rcases hc with ⟨h1, h2, rfl⟩ | ⟨h1, hm1⟩ | ⟨h1, hm1⟩
  · go_enter Tryd.func10, Tryd.ntmps10
    go_wp2
    go_ret
    obtain ⟨O, h⟩ := bkD_new (w := w) (n := m) (back := back) rfl
    exact ⟨_, O, rfl, h⟩
  · have e1 : ((m : Nat) : Int) = 1 := by omega
    rw [e1] at mk1
    clear e1 hm1
    go_enter Tryd.func10, Tryd.ntmps10
    go_wp2
    go_ret
    obtain ⟨O, h⟩ := bkD_new (w := w) (n := m) (back := back) rfl
    exact ⟨_, O, rfl, h⟩
  · have e1 : ((m : Nat) : Int) = 32 := by omega
    rw [e1] at mk1
    clear e1 hm1
    go_enter Tryd.func10, Tryd.ntmps10
    go_wp2
    go_ret
    obtain ⟨O, h⟩ := bkD_new (w := w) (n := m) (back := back) rfl
    exact ⟨_, O, rfl, h⟩

/-! ### what is told -/
set_option maxHeartbeats 1000000 in
theorem kbslots_v {v : Value} {s : Bs} {O : Nat → Prop} (w : World) (h : BkD w v s O) : Calls Tryd.prog 23 #[v] w fun e w' => e = .returned (.int .i64 s.sl) ∧ Below w.heap.size w w' := by
  obtain ⟨b, gn, gm, D, ws, vl, rfl, rfl, hm⟩ := h
  obtain ⟨c0, c1, c2, c3, c4, c5⟩ := hm.cells
  clear hm
  go_enter Tryd.func23, Tryd.ntmps23
  go_wp2
  go_ret
  exact ⟨rfl, Below.refl _ _⟩
set_option maxHeartbeats 1000000 in
theorem kbnodes_v {v : Value} {s : Bs} {O : Nat → Prop} (w : World) (h : BkD w v s O) : Calls Tryd.prog 15 #[v] w fun e w' => e = .returned (.int .i64 s.N.length) ∧ Below w.heap.size w w' := by
  obtain ⟨b, gn, gm, D, ws, vl, rfl, rfl, hm⟩ := h
  obtain ⟨c0, c1, c2, c3, c4, c5⟩ := hm.cells
  clear hm
  go_enter Tryd.func15, Tryd.ntmps15
  go_wp2
  go_ret
  exact ⟨rfl, Below.refl _ _⟩
set_option maxHeartbeats 2000000 in
theorem kbconf_v {v : Value} {s : Bs} {O : Nat → Prop} (w : World) (h : BkD w v s O) (i : Nat) (c : Cf) (hi : s.N[i]? = some c) (hN : s.N.length ≤ 32) :
    Calls Tryd.prog 17 #[v, .int .i64 i] w fun e w' => e = .returned (.tuple #[cfV c, .bool true]) ∧ Below w.heap.size w w' := by
  obtain ⟨b, gn, gm, D, ws, vl, rfl, rfl, hm⟩ := h
  obtain ⟨hl, rfl⟩ := List.getElem?_eq_some_iff.1 hi
  have HB0 := Lib.hid ((Below.refl w.heap.size w).alloc (Nat.le_refl _) (.cells #[.int .i64 0, .int .i64 0, .bool false, .int .i64 0] 42))
  have hm0 := hm.later HB0.out
  obtain ⟨c0, c1, c2, c3, c4, c5⟩ := hm0.cells
  obtain ⟨n0, n1, n2, n3⟩ := hm0.node hl
  have hd1 : decide ((i : Int) < 0) = false := decide_eq_false (by omega)
  have hd2 : decide ((s.N.length : Int) ≤ (i : Int)) = false := decide_eq_false (by omega)
  generalize s.N[i] = c at *
  clear hm hm0 hi
  go_enter Tryd.func17, Tryd.ntmps17
  go_wp2
  refine bodyPost_ret (v := .tuple #[cfV c, .bool true]) ?_ rfl ⟨rfl, (Below.refl _ w).alloc (Nat.le_refl _) _⟩
  simp [results, Tryd.results17, go_sem, cfV]

/-! ### Fix -/
set_option maxHeartbeats 2000000 in
theorem kbfix_v {v : Value} {s : Bs} {O : Nat → Prop} (w : World) (h : BkD w v s O) (h0 : 0 < s.N.length) (hN : s.N.length ≤ 32) :
    Calls Tryd.prog 24 #[v] w fun e w' => e = .returned (.tuple #[]) ∧ Stp BkD v O w s.fix w' := by
  have HH := Lib.hid h
  obtain ⟨b, gn, gm, D, ws, vl, rfl, rfl, hm⟩ := h
  have HM := Lib.hid hm
  have hn0 : s.N[0]? = some (s.N[0]) := List.getElem?_eq_getElem h0
  have HO : Hid ((s.N.getD 0 ⟨0, 0, false, 0⟩).o = (s.N[0]).o) := Lib.hid (by rw [List.getD_eq_getElem?_getD, hn0]; rfl)
  clear hm
  generalize s.N[0] = c at *
  have HC := Lib.hid hn0
  clear hn0
  obtain ⟨ct, cr, co, cd⟩ := c
  go_enter Tryd.func24, Tryd.ntmps24
  go_wp2_with fail
  refine (kbconf_v w HH.out 0 _ HC.out hN).mono ?_
  rintro e w1 ⟨rfl, hb⟩
  have HB1 := Lib.hid hb
  have HM1 := Lib.hid (HM.out.later hb)
  cases co
  · have HB2 := Lib.hid (fbelow_t hb ((Below.refl _ w1).alloc (Nat.le_refl _) (.cells #[.int .i64 ct, .int .i64 cr, .bool false, .int .i64 cd] 42)))
    have HM2 := Lib.hid (HM.out.later HB2.out)
    have HF : Hid (s.fix = s) := Lib.hid (by unfold Bs.fix; rw [HO.out, Bool.or_false])
    obtain ⟨c0, c1, c2, c3, c4, c5⟩ := HM2.out.cells
    clear hb
    go_wp2
    go_end0
    exact ⟨rfl, _, ⟨b, gn, gm, D, ws, vl, rfl, rfl, by rw [HF.out]; exact HM2.out⟩, .of_below HB2.out, Grows.refl _ _⟩
  · have HB2 := Lib.hid (fbelow_t hb ((Below.refl _ w1).alloc (Nat.le_refl _) (.cells #[.int .i64 ct, .int .i64 cr, .bool true, .int .i64 cd] 42)))
    have HM2 := Lib.hid (HM.out.later HB2.out)
    have HF : Hid (s.fix = { s with fx := true }) := Lib.hid (by unfold Bs.fix; rw [HO.out, Bool.or_true])
    have HS := Lib.hid (HM2.out.setBox (s' := { s with fx := true }) 2 (.bool true) rfl rfl rfl rfl)
    obtain ⟨c0, c1, c2, c3, c4, c5⟩ := HM2.out.cells
    have f2 := HM2.out.live 2
    clear hb
    go_wp2
    go_end0
    exact ⟨rfl, _, ⟨b, gn, gm, D, ws, vl, rfl, rfl, by rw [HF.out]; exact HS.out⟩, (Kept.of_below (O := busO b gn gm ws vl) HB2.out).trans setBox_kept (Grows.refl _ _), Grows.refl _ _⟩
end Go.Proofs.YtpgfifacfkllfaaDoor

namespace Go.Proofs.YtpgfifacfkllfaaDoor
open Go.RowKit
set_option linter.unusedVariables false

theorem RowQ.rda {α : Type} {c : α → List Value} {k : Nat} {w : World} {v : Value} {L : List α} (h : RowQ c k w v L) (hk : ∀ a, (c a).length = k) (hm : L.length ≤ maxLen) : RdA c k w v L := by
  refine ⟨h.sl hk hm, ?_⟩
  rcases h with ⟨h, _⟩ | ⟨g, o, cap, hv, h1, _⟩
  · exact .inl h
  · exact .inr ⟨_, cap, hv, h1⟩
/-- a row with its own block, apart from what was there -/
theorem RowQ.outside {α : Type} {c : α → List Value} {k B : Nat} {w : World} {v : Value} {L : List α} (h : RowQ c k w v L) (hk : ∀ a, (c a).length = k) (hm : L.length ≤ maxLen) (hn : ∀ g, OwnO v g → B ≤ g) : SlA c k w (fun k => k < B) v L ∧ ShapeOk v ∧ CapOk v := by
  refine ⟨SlA.of_sl (h.sl hk hm) (fun x n c' hv hne => ?_), ?_, ?_⟩
  · rcases h with ⟨h, _⟩ | ⟨g, o, cap, hv', h1, _⟩
    · rw [hv] at h; cases h
    · rw [hv'] at hv
      injection hv with h2 _ _
      injection h2 with h2
      have := hn g (by rw [hv']; rfl)
      rw [← h2]
      simp only
      omega
  · rcases h with ⟨h, _⟩ | ⟨g, o, cap, hv', h1, _⟩
    · exact .inl h
    · exact .inr ⟨_, _, _, hv', h1⟩
  · intro A n c' hv
    rcases h with ⟨h, _⟩ | ⟨g, o, cap, hv', h1, _⟩
    · rw [hv] at h; injection h with _ h2 h3; omega
    · rw [hv'] at hv; injection hv with _ h2 h3; omega
def ClonePost {α : Type} (c : α → List Value) (k : Nat) (L : List α) (w : World) (e : Ending) (w' : World) : Prop := ∃ u, e = .returned u ∧ (SlA c k w' (fun k => k < w.heap.size) u L ∧ ShapeOk u ∧ CapOk u) ∧ Below w.heap.size w w'
theorem clone_nil {α : Type} {c : α → List Value} {k : Nat} (w : World) : ClonePost c k ([] : List α) w (.returned (.slice none 0 0)) w := ⟨_, rfl, ⟨SlA.nil _ _ _ _, .inl rfl, fun A n c h => by injection h with _ h1 h2; omega⟩, Below.refl _ _⟩
/-- an empty row in a block of its own -/
theorem RowQ.empty {α : Type} {c : α → List Value} {k : Nat} (w : World) (o : Obj) : RowQ c k (w.alloc o) (.slice (some ⟨w.heap.size, 0, none⟩) 0 0) ([] : List α) :=
  .inr ⟨_, 0, 0, rfl, Nat.le_refl _, Nat.zero_le _, by simp, fun j u h => by simp [rowG] at h, fun j hj => by omega⟩
theorem clone_done {α : Type} {c : α → List Value} {k : Nat} {w w' : World} {o : Obj} {v' : Value} {L : List α} (hk : ∀ a, (c a).length = k) (hm : L.length ≤ maxLen) (hq : RowQ c k w' v' ([] ++ L)) (h1 : Kept (OwnO (.slice (some ⟨w.heap.size, 0, none⟩) 0 0)) (w.alloc o) w')
    (h2 : Grows (OwnO (.slice (some ⟨w.heap.size, 0, none⟩) 0 0)) (w.alloc o) (OwnO v')) : ClonePost c k L w (.returned v') w' := by
  have own : ∀ k, OwnO (.slice (some ⟨w.heap.size, 0, none⟩) 0 0) k → k = w.heap.size := fun k h => by
    injection h with h
    exact h.symm
  have hb := (Below.refl w.heap.size w).alloc (Nat.le_refl _) o
  refine ⟨_, rfl, RowQ.outside (by simpa using hq) hk hm (fun g hg => ?_), h1.below hb (by have := hb.size; omega) (fun k h => Nat.le_of_eq (own k h).symm)⟩
  rcases h2 g hg with h3 | h3
  · exact Nat.le_of_eq (own g h3).symm
  · have := hb.size; omega
theorem nil_eq (w : World) : (binOp .eql 39 (.slice none 0 0) (.slice none 0 0)).run Tryd.prog w = .ok (.bool true) w := by kernel_rfl
theorem some_eq (a : Addr) (n c : Nat) (w : World) : (binOp .eql 39 (.slice (some a) n c) (.slice none 0 0)).run Tryd.prog w = .ok (.bool false) w := by kernel_rfl
set_option maxHeartbeats 2000000 in
theorem clonef_v {v : Value} {L : List Fr} (w : World) (h : RowQ frC 4 w v L) (hm : L.length ≤ 1000000) : Calls Tryd.prog 29 #[v] w (ClonePost frC 4 L w) := by
  have H := Lib.hid h
  rcases h with ⟨rfl, rfl⟩ | ⟨g, o, cap, rfl, h1, h2, h3, h4, h5⟩
  · have hq := nil_eq
    go_enter Tryd.func29, Tryd.ntmps29
    go_wp2
    go_ret
    exact clone_nil w
  · clear h1 h2 h3 h4 h5
    have HM := Lib.hid hm
    clear hm
    have hq := some_eq
    go_enter Tryd.func29, Tryd.ntmps29
    go_wp2_with (at_builtin; refine wpList_qO (c := frC) (L := []) (M := L) flat_fr frC_len frC_one rfl (.tmp 5) (.tmp 6) rfl (by simp [Act.eval]) (RowQ.empty w _) (by simp [Act.eval]) ((H.out.later ((Below.refl _ w).alloc (Nat.le_refl _) _)).rda frC_len (by have := HM.out; unfold maxLen; omega)) (by have := HM.out; simp; omega) ?_; rintro v3 w3 hq3 hk3 hg3; have HQ3 := Lib.hid hq3; have HK3 := Lib.hid hk3; have HG3 := Lib.hid hg3; clear hq3 hk3 hg3)
    go_wp2
    go_ret
    exact clone_done frC_len (by have := HM.out; unfold maxLen; omega) HQ3.out HK3.out HG3.out
theorem nil_eqL (w : World) : (binOp .eql 49 (.slice none 0 0) (.slice none 0 0)).run Tryd.prog w = .ok (.bool true) w := by kernel_rfl
theorem some_eqL (a : Addr) (n c : Nat) (w : World) : (binOp .eql 49 (.slice (some a) n c) (.slice none 0 0)).run Tryd.prog w = .ok (.bool false) w := by kernel_rfl
set_option maxHeartbeats 2000000 in
theorem clonel_v {v : Value} {L : List Lg} (w : World) (h : RowQ lgC 6 w v L) (hm : L.length ≤ 1000000) : Calls Tryd.prog 43 #[v] w (ClonePost lgC 6 L w) := by
  have H := Lib.hid h
  rcases h with ⟨rfl, rfl⟩ | ⟨g, o, cap, rfl, h1, h2, h3, h4, h5⟩
  · have hq := nil_eqL
    go_enter Tryd.func43, Tryd.ntmps43
    go_wp2
    go_ret
    exact clone_nil w
  · clear h1 h2 h3 h4 h5
    have HM := Lib.hid hm
    clear hm
    have hq := some_eqL
    go_enter Tryd.func43, Tryd.ntmps43
    go_wp2_with (at_builtin; refine wpList_qO (c := lgC) (L := []) (M := L) flat_lg lgC_len lgC_one rfl (.tmp 5) (.tmp 6) rfl (by simp [Act.eval]) (RowQ.empty w _) (by simp [Act.eval]) ((H.out.later ((Below.refl _ w).alloc (Nat.le_refl _) _)).rda lgC_len (by have := HM.out; unfold maxLen; omega)) (by have := HM.out; simp; omega) ?_; rintro v3 w3 hq3 hk3 hg3; have HQ3 := Lib.hid hq3; have HK3 := Lib.hid hk3; have HG3 := Lib.hid hg3; clear hq3 hk3 hg3)
    go_wp2
    go_ret
    exact clone_done lgC_len (by have := HM.out; unfold maxLen; omega) HQ3.out HK3.out HG3.out

/-! ### Waits, Log -/
/-- the code's bus, and what may be of it -/
def BkR (w : World) (v : Value) (s : Bs) (O : Nat → Prop) : Prop := BkD w v s O ∧ s.Ok ∧ s.sl ≤ 100001
theorem isObj_bkr : IsObj BkR where
  stay := fun h hs => ⟨isObj_bk.stay h.1 hs, h.2⟩
  lt := fun h => isObj_bk.lt h.1
theorem Bs.Ok.log_le {s : Bs} (h : s.Ok) (hl : s.sl ≤ 100001) : s.log.length ≤ 1000000 := by have := h.lg; omega
set_option maxHeartbeats 2000000 in
theorem kbwaits_v {v : Value} {s : Bs} {O : Nat → Prop} (w : World) (h : BkD w v s O) (i : Nat) (L : List Fr) (hi : s.W[i]? = some L) (hN : s.N.length ≤ 32) (hm : L.length ≤ 1000) :
    Calls Tryd.prog 16 #[v, .int .i64 i] w (ClonePost frC 4 L w) := by
  obtain ⟨b, gn, gm, D, ws, vl, rfl, rfl, hM⟩ := h
  have hil : i < s.W.length := by
    rcases Nat.lt_or_ge i s.W.length with h1 | h1
    · exact h1
    · rw [List.getElem?_eq_none h1] at hi; cases hi
  have hiw : i < ws.length := by rw [hM.len, ← hM.lenW]; exact hil
  obtain ⟨u, hu⟩ : ∃ u, ws[i]? = some u := ⟨_, List.getElem?_eq_getElem hiw⟩
  have hlk := hM.look hu (by rw [hM.lenW] at hil; omega)
  have HR := Lib.hid (hM.row i u L hu hi)
  obtain ⟨c0, c1, c2, c3, c4, c5⟩ := hM.cells
  have HML := Lib.hid hm
  clear hM hi hil hiw hu hm
  go_enter Tryd.func16, Tryd.ntmps16
  go_wp2_with fail
  refine (clonef_v w HR.out (by have := HML.out; omega)).mono ?_
  rintro e w1 ⟨u1, rfl, h1, h2⟩
  have H1 := Lib.hid h1
  have H2 := Lib.hid h2
  clear h1 h2
  go_wp2
  go_ret
  exact ⟨_, rfl, H1.out, H2.out⟩
set_option maxHeartbeats 2000000 in
theorem kblog_v {v : Value} {s : Bs} {O : Nat → Prop} (w : World) (h : BkD w v s O) (hm : s.log.length ≤ 1000000) :
    Calls Tryd.prog 20 #[v] w (ClonePost lgC 6 s.log w) := by
  obtain ⟨b, gn, gm, D, ws, vl, rfl, rfl, hM⟩ := h
  have HR := Lib.hid hM.log
  obtain ⟨c0, c1, c2, c3, c4, c5⟩ := hM.cells
  have HML := Lib.hid hm
  clear hM hm
  go_enter Tryd.func20, Tryd.ntmps20
  go_wp2_with fail
  refine (clonel_v w HR.out HML.out).mono ?_
  rintro e w1 ⟨u1, rfl, h1, h2⟩
  have H1 := Lib.hid h1
  have H2 := Lib.hid h2
  clear h1 h2
  go_wp2
  go_ret
  exact ⟨_, rfl, H1.out, H2.out⟩
end Go.Proofs.YtpgfifacfkllfaaDoor

namespace Go.Proofs.YtpgfifacfkllfaaDoor
open Go.RowKit
set_option linter.unusedVariables false

set_option maxHeartbeats 8000000 in
theorem kboffer_v {v : Value} {s : Bs} {O : Nat → Prop} {i : Int} {f : Fr} {k : Int} (w : World) (h : BkD w v s O) (hT : Tabs w) (hk : (s.offer i f).2 = k) (hN : s.N.length ≤ 32) (hn : -9223372036854775808 ≤ f.n ∧ f.n ≤ 9223372036854775807) :
    Calls Tryd.prog 14 #[v, .int .i64 i, frV f] w fun e w' => e = .returned (.int .i64 k) ∧ Stp BkD v O w (s.offer i f).1 w' := by
  obtain ⟨b, gn, gm, D, ws, vl, rfl, rfl, hm⟩ := h
  have HM := Lib.hid hm
  have HK := Lib.hid hk
  have HN := Lib.hid hn
  have hb0 := (Below.refl w.heap.size w).alloc (Nat.le_refl _) (.cells #[.int .i64 f.i, .int .i64 f.n, .int .i64 f.l, .string f.d] 30)
  have HB0 := Lib.hid hb0
  have HT0 := Lib.hid (hT.below hb0)
  have HM0 := Lib.hid (hm.later hb0)
  have HF0 := Lib.hid (BoxF.made w f.i f.n f.l f.d)
  have same : ∀ w' : World, Below w.heap.size w w' → Stp BkD (.pointer (some ⟨b, 0, none⟩)) (busO b gn gm ws vl) w s w' := fun w' hb => ⟨_, ⟨b, gn, gm, D, ws, vl, rfl, rfl, HM.out.later hb⟩, .of_below hb, Grows.refl _ _⟩
  have HS := Lib.hid same
  clear hb0 same hk hT hn
  by_cases h1 : i ≤ 0
  · have HE : Hid (s.offer i f = (s, 2)) := Lib.hid (by unfold Bs.offer; rw [if_pos (.inl (by omega))])
    have hd : decide (i ≤ 0) = true := decide_eq_true h1
    rw [HE.out] at HK ⊢
    clear hm
    go_enter Tryd.func14, Tryd.ntmps14
    go_wp2
    go_ret
    exact ⟨fret_int HK.out, HS.out _ HB0.out⟩
  by_cases h2 : (s.N.length : Int) ≤ i
  · have HE : Hid (s.offer i f = (s, 2)) := Lib.hid (by unfold Bs.offer; rw [if_pos (.inr h2)])
    have hd : decide (i ≤ 0) = false := decide_eq_false h1
    have hd2 : decide ((s.N.length : Int) ≤ i) = true := decide_eq_true h2
    rw [HE.out] at HK ⊢
    obtain ⟨c0, c1, c2, c3, c4, c5⟩ := HM0.out.cells
    clear hm
    go_enter Tryd.func14, Tryd.ntmps14
    go_wp2
    go_ret
    exact ⟨fret_int HK.out, HS.out _ HB0.out⟩
  obtain ⟨j, rfl⟩ := Int.eq_ofNat_of_zero_le (show 0 ≤ i by omega)
  have hj1 : 1 ≤ j := by omega
  have hj2 : j < s.N.length := by omega
  have hd : decide ((j : Int) ≤ 0) = false := decide_eq_false h1
  have hd2 : decide ((s.N.length : Int) ≤ (j : Int)) = false := decide_eq_false h2
  obtain ⟨q, hq⟩ : ∃ q, keyG f = q := ⟨_, rfl⟩
  have HQ : Hid (keyV f.i f.n f.l f.d.size = q) := Lib.hid hq
  by_cases h3 : q < 0
  · have HE : Hid (s.offer j f = (s, 4)) := Lib.hid (by unfold Bs.offer; rw [if_neg (by omega), if_pos (by rw [hq]; exact h3)])
    rw [HE.out] at HK ⊢
    obtain ⟨c0, c1, c2, c3, c4, c5⟩ := HM0.out.cells
    obtain ⟨d0, d1, d2, d3⟩ := HF0.out.cells
    clear hm h1 h2
    go_enter Tryd.func14, Tryd.ntmps14
    go_wp2_with fail
    refine (key_v HQ.out _ HT0.out HN.out.1 HN.out.2).mono ?_
    rintro e w1 ⟨rfl, hb⟩
    go_wp2
    go_ret
    exact ⟨fret_int HK.out, HS.out _ (HB0.out.trans (hb.mono HB0.out.size))⟩
  have hjw : j < ws.length := by rw [hm.len]; exact hj2
  obtain ⟨u, hu⟩ : ∃ u, ws[j]? = some u := ⟨_, List.getElem?_eq_getElem hjw⟩
  have hjW : j < s.W.length := by rw [hm.lenW]; exact hj2
  obtain ⟨R, hR⟩ : ∃ R, s.W[j]? = some R := ⟨_, List.getElem?_eq_getElem hjW⟩
  have HU : Hid (NthV ws j u) := Lib.hid hu
  have HRR := Lib.hid hR
  have HJ : Hid (j < 32) := Lib.hid (by omega)
  have HG : Hid (s.W.getD j [] = R) := Lib.hid (by rw [List.getD_eq_getElem?_getD, hR]; rfl)
  have hrow := hm.row j u R hu hR
  have HLK : Hid (∀ w', Kept (OwnO u) w w' → (Instr.lookup 58 (.map (some gm)) (.int .i64 j) false).run Tryd.prog w' = .ok u w') := Lib.hid (fun w' hk => by
    refine MapH.look (HM.out.map.stay (hk.block gm HM.out.map.lt (HM.out.f1 j u HU.out).2.2.1)) lawI Tryd.underlying58 (zeroFs w') (keyI (by have := HJ.out; omega)) (HM.out.here j u HU.out))
  obtain ⟨A5, c5', rfl⟩ := hrow.shape
  by_cases h4 : 1000 ≤ R.length
  · have HE : Hid (s.offer j f = (s, 9)) := Lib.hid (by unfold Bs.offer; rw [if_neg (by omega), if_neg (by rw [hq]; exact h3), Int.toNat_natCast, HG.out, if_pos h4])
    rw [HE.out] at HK ⊢
    obtain ⟨c0, c1, c2, c3, c4, c5⟩ := HM0.out.cells
    obtain ⟨d0, d1, d2, d3⟩ := HF0.out.cells
    have hd4 : decide ((1000 : Int) ≤ (R.length : Int)) = true := decide_eq_true (by omega)
    have hd3 : decide (q < 0) = false := decide_eq_false h3
    clear hm h1 h2 h3 h4 hrow hu hR hjw hjW hq
    go_enter Tryd.func14, Tryd.ntmps14
    go_wp2_with fail
    refine (key_v HQ.out _ HT0.out HN.out.1 HN.out.2).mono ?_
    rintro e w1 ⟨rfl, hb⟩
    have HB1 := Lib.hid (HB0.out.trans (hb.mono HB0.out.size))
    have HM1 := Lib.hid (HM0.out.later hb)
    clear c0 c1 c2 c3 c4 c5 d0 d1 d2 d3 hb
    obtain ⟨c0, c1, c2, c3, c4, c5⟩ := HM1.out.cells
    have hlk := HLK.out w1 (.of_below HB1.out)
    go_wp2
    go_ret
    exact ⟨fret_int HK.out, HS.out _ HB1.out⟩
  · have HE : Hid (s.offer j f = ({ s with W := s.W.set j (R ++ [f]) }, 0)) := Lib.hid (by unfold Bs.offer; rw [if_neg (by omega), if_neg (by rw [hq]; exact h3), Int.toNat_natCast, HG.out, if_neg h4])
    rw [HE.out] at HK ⊢
    obtain ⟨c0, c1, c2, c3, c4, c5⟩ := HM0.out.cells
    obtain ⟨d0, d1, d2, d3⟩ := HF0.out.cells
    have hd4 : decide ((1000 : Int) ≤ (R.length : Int)) = false := decide_eq_false (by omega)
    have HRL : Hid (R.length < 1000) := Lib.hid (by omega)
    have hd3 : decide (q < 0) = false := decide_eq_false h3
    clear hm h1 h2 h3 h4 hrow hu hR hjw hjW hq
    go_enter Tryd.func14, Tryd.ntmps14
    go_wp2_with fail
    refine (key_v HQ.out _ HT0.out HN.out.1 HN.out.2).mono ?_
    rintro e w1 ⟨rfl, hb⟩
    have HB1 := Lib.hid (HB0.out.trans (hb.mono HB0.out.size))
    have HM1 := Lib.hid (HM0.out.later hb)
    have HF1 := Lib.hid (HF0.out.later hb)
    clear c0 c1 c2 c3 c4 c5 d0 d1 d2 d3 hb
    obtain ⟨c0, c1, c2, c3, c4, c5⟩ := HM1.out.cells
    obtain ⟨d0, d1, d2, d3⟩ := HF1.out.cells
    have hlk := HLK.out w1 (.of_below HB1.out)
    have HRQ : Hid (RowQ frC 4 w1 (.slice A5 R.length c5') R) := Lib.hid (HM1.out.row j _ R HU.out HRR.out)
    have hzb : b < w1.heap.size := HM1.out.lt b (.inl rfl)
    have hnb := (HM1.out.f1 j _ HU.out).1
    have hzf := HF1.out.lt
    go_upto_region 9 with fail
    have hnf : ¬ OwnO (Value.slice A5 R.length c5') w.heap.size := fun h => absurd (HM.out.lt _ (.inr (.inr (.inr (.inl ⟨j, _, HU.out, h⟩))))) (Nat.lt_irrefl _)
    have hcb : ∀ (q : KLater (OwnO (.slice A5 R.length c5')) w1) (o : Nat), q.w.cell? ⟨b, o, none⟩ = w1.cell? ⟨b, o, none⟩ := fun q o => q.cell b o hzb hnb
    have hcf : ∀ (q : KLater (OwnO (.slice A5 R.length c5')) w1) (o : Nat), q.w.cell? ⟨w.heap.size, o, none⟩ = w1.cell? ⟨w.heap.size, o, none⟩ := fun q o => q.cell w.heap.size o hzf hnf
    refine wp_region_st 14 [13] (AppQ frC 4 (.slice A5 R.length c5') [f] R w1 47 48) [47, 48] (AppQ.start HRQ.out) (by kernel_rfl) (by kernel_rfl) (by kernel_rfl) (by kernel_rfl) (by kernel_rfl) (by kernel_rfl) (by kernel_rfl) ?_
    simp only [List.take_succ_cons, List.take_zero, List.drop_succ_cons, List.drop_zero]
    repeat (refine st_plain (fun h => h.1) (by rfl) (by rfl) (by rfl) (by rfl) (by rfl) ?_; intro K hK; go_big_quiet_op; go_big_quiet_on)
    refine st_nil (fun h => h.1) (by rfl) (by rfl) (by rfl) (by rfl) (by rfl) (by rfl) ?_; intro K hK; go_big_quiet_op; go_big_quiet_on
    repeat (refine st_plain (fun h => h.1) (by rfl) (by rfl) (by rfl) (by rfl) (by rfl) ?_; intro K hK; go_big_quiet_op; go_big_quiet_on)
    refine st_nil (fun h => h.1) (by rfl) (by rfl) (by rfl) (by rfl) (by rfl) (by rfl) ?_; intro K hK; go_big_quiet_op; go_big_quiet_on
    repeat (refine st_plain (fun h => h.1) (by rfl) (by rfl) (by rfl) (by rfl) (by rfl) ?_; intro K hK; go_big_quiet_op; go_big_quiet_on)
    refine st_look (.tmp 43) (.tmp 44) (.slice A5 R.length c5') (by rfl) (by rfl) (by rfl) (by rfl) (by rfl) (.map (some gm)) (.int .i64 j) (by rfl) (by rfl) (fun j xs w3 hG => HLK.out w3 ((Kept.of_below (O := OwnO (.slice A5 R.length c5')) HB1.out).trans hG.1 (Grows.refl _ _))) ?_
    simp only [Act.put, List.setIfInBounds_toArray, List.set_cons_succ, List.set_cons_zero]
    repeat (refine st_plain (fun h => h.1) (by rfl) (by rfl) (by rfl) (by rfl) (by rfl) ?_; intro K hK; go_big_quiet_op; go_big_quiet_on)
    refine st_new (s := 47) (mk := fun w => .slice (some ⟨w.heap.size, 0, none⟩) 1 1) (ob := fun _ => .cells (frC f).toArray 30) (by rfl) (by rfl) (by rfl) (by rfl) (by rfl) (by rfl) (fun _ => by kernel_rfl) (AppQ.one frC_len (by decide)) ?_
    simp only [Act.put, List.setIfInBounds_toArray, List.set_cons_succ, List.set_cons_zero]
    refine st_app (ts := 45) (tx := 47) (tr := 48) (L := R) (M := [f]) flat_fr frC_len frC_one 0 (by rfl) (by rfl) (by rfl) (by rfl) (by rfl) (by rfl) (by rfl) (by decide) (by decide) (by rfl) AppQ.rd (by have := HRL.out; simp; omega) (fun xs w v' w' hG => AppQ.app xs w v' w' hG) ?_
    simp only [Act.put, List.setIfInBounds_toArray, List.set_cons_succ, List.set_cons_zero]
    intro ys xs w2 hF h2
    have e48 := hF 48 (by simp)
    obtain ⟨k1, k2, k3⟩ := AppQ.out h2 e48
    simp only [secFill]
    simp only [Act.put, List.setIfInBounds_toArray, List.set_cons_succ, List.set_cons_zero]
    have hmap : MapH Tryd.prog 3 w2 gm D := HM1.out.map.stay (k1.block gm HM1.out.map.lt (HM1.out.f1 j _ HU.out).2.2.1)
    have htd := hmap.tidy lawI
    have hj3 := HJ.out
    refine wpList_storeH _ rfl (.tmp 38) (.tmp 39) (.tmp 48) rfl lawI Tryd.underlying58 (j : Int) (ys 48) rfl hmap (by have := HM1.out.size.le; unfold maxLen; omega) rfl rfl (keyI (by omega)) ?_
    intro w3 hm3 ht3
    obtain ⟨q1, q2, q3⟩ := HM1.out.setWait HU.out k2 k1 k3 hm3 (HM1.out.size.put htd hj3 _) (AtM.put_same htd _ _ _) (fun m x hne hx => hx.put_other (by omega) _) ht3
    have HD : Hid (Stp BkD (.pointer (some ⟨b, 0, none⟩)) (busO b gn gm ws vl) w { s with W := s.W.set j (R ++ [f]) } w3) :=
      Lib.hid ⟨_, ⟨b, gn, gm, _, _, vl, rfl, rfl, q1⟩, (Kept.of_below (O := busO b gn gm ws vl) HB1.out).trans q2 (Grows.refl _ _), fun k hk => (q3 k hk).imp id (fun h => Nat.le_trans HB1.out.size h)⟩
    clear q1 q2 q3 hm3 ht3 hmap htd hj3 k1 k2 k3 h2 hF e48 hcb hcf
    go_wp2
    go_ret
    exact ⟨fret_int HK.out, HD.out⟩
end Go.Proofs.YtpgfifacfkllfaaDoor

namespace Go.Proofs.YtpgfifacfkllfaaDoor
open Go.RowKit
set_option linter.unusedVariables false

theorem zeroFr (w : World) : (zeroValue 30).run Tryd.prog w = .ok (.agg #[.int .i64 0, .int .i64 0, .int .i64 0, .string (ByteArray.mk #[])]) w := by kernel_rfl
theorem zeroFrC : (Builtin.zeroCells (Value.agg #[.int .i64 0, .int .i64 0, .int .i64 0, .string (ByteArray.mk #[])]).cells 1).toList = [.int .i64 0, .int .i64 0, .int .i64 0, .string (ByteArray.mk #[])] := by kernel_rfl
/-- the first frame that waits there is let go -/
def Bs.dropped (s : Bs) (i : Nat) : Bs := { s with W := s.W.set i (s.W.getD i []).tail }
set_option maxHeartbeats 4000000 in
theorem kbdrop_v {v : Value} {s : Bs} {O : Nat → Prop} (w : World) (h : BkD w v s O) (i : Nat) (hi : i < s.N.length) (hN : s.N.length ≤ 32) :
    Calls Tryd.prog 42 #[v, .int .i64 i] w fun e w' => e = .returned (.tuple #[]) ∧ Stp BkD v O w (s.dropped i) w' := by
  obtain ⟨b, gn, gm, D, ws, vl, rfl, rfl, hm⟩ := h
  have HM := Lib.hid hm
  have hjw : i < ws.length := by rw [hm.len]; exact hi
  obtain ⟨u, hu⟩ : ∃ u, ws[i]? = some u := ⟨_, List.getElem?_eq_getElem hjw⟩
  have hjW : i < s.W.length := by rw [hm.lenW]; exact hi
  obtain ⟨R, hR⟩ : ∃ R, s.W[i]? = some R := ⟨_, List.getElem?_eq_getElem hjW⟩
  have HU : Hid (NthV ws i u) := Lib.hid hu
  have HJ : Hid (i < 32) := Lib.hid (by omega)
  have HE : Hid (s.dropped i = { s with W := s.W.set i R.tail }) := Lib.hid (by unfold Bs.dropped; rw [List.getD_eq_getElem?_getD, hR]; rfl)
  have hrow := hm.row i u R hu hR
  have HROW := Lib.hid hrow
  have HLK : Hid (∀ w', Kept (OwnO u) w w' → (Instr.lookup 58 (.map (some gm)) (.int .i64 i) false).run Tryd.prog w' = .ok u w') := Lib.hid (fun w' hk => by
    refine MapH.look (HM.out.map.stay (hk.block gm HM.out.map.lt (HM.out.f1 i u HU.out).2.2.1)) lawI Tryd.underlying58 (zeroFs w') (keyI (by have := HJ.out; omega)) (HM.out.here i u HU.out))
  have HKY : Hid (keyOf Tryd.prog 3 (.int .i64 i) = some (.int .i64 i)) := Lib.hid (keyI (by omega))
  obtain ⟨c0, c1, c2, c3, c4, c5⟩ := hm.cells
  have hlk := HLK.out w (Kept.refl _ _)
  have hm2 := hm.map
  have htd := hm2.tidy lawI
  have HTD := Lib.hid htd
  have HM2 := Lib.hid hm2
  rw [HE.out]
  by_cases h1 : R.length ≤ 1
  · have HT0 : Hid (R.tail = []) := Lib.hid (by cases R with | nil => rfl | cons a M => simp only [List.length_cons] at h1; show M = []; exact List.eq_nil_of_length_eq_zero (by omega))
    have hd : decide ((R.length : Int) ≤ 1) = true := decide_eq_true (by omega)
    obtain ⟨A5, c5', hsh⟩ := hrow.shape
    subst hsh
    clear hm hrow hu hR hjw hjW hm2 htd h1
    go_enter Tryd.func42, Tryd.ntmps42
    go_wp2_with (at_delete; refine wpList_dropH _ rfl (.tmp 17) (.tmp 18) rfl lawI Tryd.underlying58 (i : Int) rfl HM2.out rfl HKY.out ?_; intro w3 hm3 ht3; have HM3 := Lib.hid hm3; have HT3 := Lib.hid ht3; clear hm3 ht3)
    simp only [Act.put]
    refine bodyPost_ret (results_none rfl _ _ _) rfl ?_
    obtain ⟨q1, q2, q3⟩ := HM.out.setWait (v' := nilS) (L' := []) HU.out (RowQ.nil w) (Kept.refl _ _) (fun k hk => by cases hk) HM3.out (HM.out.size.del HTD.out i HJ.out) (AtM.del_same _ _ _) (fun m x hne hx => hx.del_other (by omega)) HT3.out
    rw [HT0.out]
    exact ⟨rfl, _, ⟨b, gn, gm, _, _, vl, rfl, rfl, q1⟩, q2, q3⟩
  · obtain ⟨f, M, rfl⟩ : ∃ f M, R = f :: M := by
      cases R with
      | nil => exact absurd (Nat.zero_le _) h1
      | cons f M => exact ⟨f, M, rfl⟩
    have hM1 : 1 ≤ M.length := by simp only [List.length_cons] at h1; omega
    have HM1 := Lib.hid hM1
    obtain ⟨g, o, cap, hsh, hcap, hcell⟩ := hrow.head
    subst hsh
    have HCL := Lib.hid hcell
    have HCP := Lib.hid hcap
    have hd : decide ((M.length : Int) + 1 ≤ 1) = false := decide_eq_false (by omega)
    have HK := Lib.hid (cut_kept (w := w) (g := g) (o := o) (n := M.length + 1) (cap := cap) (n' := M.length) (o' := o + 4) (cap' := cap - 1) (zs := [.int .i64 0, .int .i64 0, .int .i64 0, .string (ByteArray.mk #[])]))
    have HRT := Lib.hid (HROW.out.cut frC_len hM1 (zs := [.int .i64 0, .int .i64 0, .int .i64 0, .string (ByteArray.mk #[])]) rfl)
    clear hm hrow hu hR hjw hjW hm2 htd h1 hcell
    go_enter Tryd.func42, Tryd.ntmps42
    go_wp2_with (refine wpList_clearK rfl (.tmp 20) 39 30 rfl Tryd.underlying39 _ zeroFr _ zeroFrC (frC_one frz) g o cap (by simp [Act.eval]) (fun j hj => (HCL.out j hj).1) (fun j hj => (HCL.out j hj).2) ?_)
    simp only [Act.put]
    have hc2 : 2 ≤ cap := by have := HCP.out; have := HM1.out; omega
    generalize hW : w.setCells g o [Value.int IntKind.i64 0, .int .i64 0, .int .i64 0, .string (ByteArray.mk #[])] = W at HK HRT ⊢
    have HB := Lib.hid ((HM.out.cells.2.2.2.1))
    have hcb : ∀ (q : KLater (fun _ => False) W), q.w.cell? ⟨b, 3, none⟩ = some (.map (some gm)) := fun q => (q.cell b 3 (by rw [← hW, setCells_size]; exact HM.out.lt b (.inl rfl)) (fun h => h)).trans (by rw [← hW, World.cell?_setCells_out g _ _ _ _ (fun e _ => absurd e (fun e => (HM.out.f1 i _ HU.out).1 (by subst e; rfl)))]; exact HB.out)
    refine wp_region_st 7 [] (fun _ _ w' => Below W.heap.size W w') [] (Below.refl _ _).drew (by kernel_rfl) (by kernel_rfl) (by kernel_rfl) (by kernel_rfl) (by kernel_rfl) (by kernel_rfl) (by kernel_rfl) ?_
    simp only [List.take_succ_cons, List.take_zero, List.drop_succ_cons, List.drop_zero]
    repeat (refine st_plain (O := fun _ => False) (fun h => .of_below h) (by rfl) (by rfl) (by rfl) (by rfl) (by rfl) ?_; intro K hK; go_big_quiet_op; go_big_quiet_on)
    refine st_nil (O := fun _ => False) (fun h => .of_below h) (by rfl) (by rfl) (by rfl) (by rfl) (by rfl) (by rfl) ?_; intro K hK; go_big_quiet_op; go_big_quiet_on
    repeat (refine st_plain (O := fun _ => False) (fun h => .of_below h) (by rfl) (by rfl) (by rfl) (by rfl) (by rfl) ?_; intro K hK; go_big_quiet_op; go_big_quiet_on)
    intro ys xs w2 hF h2
    simp only [secFill]
    have k2 : Kept (OwnO (.slice (some ⟨g, o, none⟩) (M.length + 1) cap)) w w2 := HK.out.1.trans (.of_below (O := OwnO (.slice (some ⟨g, o, none⟩) (M.length + 1) cap)) h2) (Grows.refl _ _)
    have hm3 : MapH Tryd.prog 3 w2 gm D := HM2.out.stay (k2.block gm HM2.out.lt (HM.out.f1 i _ HU.out).2.2.1)
    refine wpList_storeH _ rfl (.tmp 24) (.tmp 25) (.tmp 27) rfl lawI Tryd.underlying58 (i : Int) (.slice (some ⟨g, o + 4, none⟩) M.length (cap - 1)) rfl hm3 (by have := HM.out.size.le; unfold maxLen; omega) rfl rfl HKY.out ?_
    intro w3 hm4 ht3
    obtain ⟨q1, q2, q3⟩ := HM.out.setWait (v' := .slice (some ⟨g, o + 4, none⟩) M.length (cap - 1)) (L' := M) HU.out (HRT.out.later h2) k2 HK.out.2 hm4 (HM.out.size.put HTD.out HJ.out _) (AtM.put_same HTD.out _ _ _) (fun m x hne hx => hx.put_other (by omega) _) ht3
    have HD : Hid (Stp BkD (.pointer (some ⟨b, 0, none⟩)) (busO b gn gm ws vl) w { s with W := s.W.set i (f :: M).tail } w3) := Lib.hid ⟨_, ⟨b, gn, gm, _, _, vl, rfl, rfl, q1⟩, q2, q3⟩
    clear q1 q2 q3 hm4 ht3 hm3 k2 h2 hF hcb
    go_wp2
    go_end0
    exact ⟨rfl, HD.out⟩
end Go.Proofs.YtpgfifacfkllfaaDoor
