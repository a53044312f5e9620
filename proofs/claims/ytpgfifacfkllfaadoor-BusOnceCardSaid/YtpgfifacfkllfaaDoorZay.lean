/- Bus: walk of BusOnce. -/
import Derived.Test.YtpgfifacfkllfaaDoorZav
import Derived.Test.YtpgfifacfkllfaaDoorZas
import Derived.Test.YtpgfifacfkllfaaDoorZax
import Derived.Test.YtpgfifacfkllfaaDoorZao
import Derived.Deep.RegionWith
namespace Go.Proofs.YtpgfifacfkllfaaDoor
open Go.RowKit
set_option linter.unusedVariables false

/-- in the midst of the law: the bus, what was offered, the log as it was told last -/
structure OnS (I : World → Value → Bs → (Nat → Prop) → Prop) (w0 : World) (v vo lv : Value) (s : Bs) (W : List (List Fr)) (O O' : Nat → Prop) (w : World) : Prop where
  pr : Pair I (RowsI 32) w0 v vo s W O O' w
  lg : SlA lgC 6 w (fun k => O k ∨ O' k) lv s.log
  on : Once s fun i => W.getD i []
  ok : s.Ok
section
variable {I : World → Value → Bs → (Nat → Prop) → Prop} {w0 w w' : World} {v vo lv : Value} {s : Bs} {W : List (List Fr)} {O O' : Nat → Prop}
theorem OnS.later (hI : IsObj I) (h : OnS I w0 v vo lv s W O O' w) (hb : Below w.heap.size w w') : OnS I w0 v vo lv s W O O' w' :=
  ⟨h.pr.later hI (rowsI_obj 32) hb, h.lg.later hb, h.on, h.ok⟩
theorem kept_or {A B : Nat → Prop} (h : Kept A w w') (hs : ∀ k, A k → B k) : Kept B w w' := ⟨h.os, h.tape, h.output, h.size, fun k hk hn => h.block k hk (fun ha => hn (hs k ha))⟩
/-- a call of the bus -/
theorem OnS.bus (hI : IsObj I) (h : OnS I w0 v vo lv s W O O' w) {s' : Bs} (hs : Stp I v O w s' w') (hl : s'.log = s.log) (ho : Once s' fun i => W.getD i []) (hk : s'.Ok) : ∃ O1, OnS I w0 v vo lv s' W O1 O' w' := by
  obtain ⟨O1, hi, hkp, hg⟩ := hs
  refine ⟨O1, h.pr.stepA hI (rowsI_obj 32) hi hkp hg, ?_, ho, hk⟩
  rw [hl]
  refine h.lg.step (kept_or hkp fun k h => .inl h) (fun k hk' => ?_)
  rcases hk' with h1 | h1
  · rcases hg k h1 with h2 | h2
    · exact .inl (.inl h2)
    · exact .inr h2
  · exact .inl (.inr h1)
end
theorem Once.doOp {s : Bs} {off : Nat → List Fr} (h : Once s off) (hk : s.Ok) (o : Op6) (h0 : o.k ≠ 0) : Once (s.doOp o) off := by
  unfold Bs.doOp
  rw [if_neg h0]
  split
  · exact h.slot_ hk _ _ _
  · split
    · exact h.fix
    · exact h
theorem Bs.log_doOp (s : Bs) (o : Op6) (h0 : o.k ≠ 0) : ∃ ext, (s.doOp o).log = s.log ++ ext ∧ ext.length ≤ 1 := by
  unfold Bs.doOp
  rw [if_neg h0]
  split
  · refine ⟨_, s.slot_log _ _ _, ?_⟩
    unfold Bs.logNew
    split
    · exact Nat.le_refl _
    · exact Nat.zero_le _
  · split
    · exact ⟨[], (List.append_nil _).symm, Nat.zero_le _⟩
    · exact ⟨[], (List.append_nil _).symm, Nat.zero_le _⟩
theorem SlA.more {α : Type} {c : α → List Value} {n : Nat} {w w' : World} {v : Value} {L : List α} {O O' : Nat → Prop} (h : SlA c n w O v L) (hb : Below w.heap.size w w') (ho : ∀ k, O' k → w.heap.size ≤ k) : SlA c n w' (fun k => O k ∨ O' k) v L := by
  obtain ⟨A, cap, hv, hm, hc⟩ := h.later hb
  obtain ⟨A0, cap0, hv0, _, hc0⟩ := h
  refine ⟨A, cap, hv, hm, fun i a ha => ?_⟩
  obtain ⟨x, h1, h2, h3, h4⟩ := hc i a ha
  obtain ⟨x0, h10, h20, _, _⟩ := hc0 i a ha
  rw [hv] at hv0
  injection hv0 with hv0
  rw [h1, h10] at hv0
  injection hv0 with hv0
  subst hv0
  refine ⟨x, h1, h2, ?_, h4⟩
  rintro (h5 | h5)
  · exact h3 h5
  · have := ho _ h5; omega
/-- behind the law's do: the bus has turned, what was offered stands, and the log's slice still reads as it did -/
theorem OnS.did {I : World → Value → Bs → (Nat → Prop) → Prop} (hI : IsObj I) {w0 w9 w10 w11 : World} {v vo lv : Value} {s s' : Bs} {W : List (List Fr)} {O1 O2 O' O3 : Nat → Prop} (h : OnS I w0 v vo lv s W O1 O2 w9) (hb : Below w9.heap.size w9 w10) (hn : ∀ k, O' k → w9.heap.size ≤ k)
    (hp : Has I w0 v s' O3 w11) (hk : Kept (fun k => O1 k ∨ O' k) w10 w11) (hg : Grows (fun k => O1 k ∨ O' k) w10 O3) : Pair I (RowsI 32) w0 v vo s' W O3 O2 w11 ∧ SlA lgC 6 w11 (fun k => O3 k ∨ O2 k) lv s.log := by
  have hlt := (rowsI_obj 32).lt h.pr.b.inv
  have hno : ∀ k, O2 k → ¬ (O1 k ∨ O' k) := fun k h2 h1 => by
    rcases h1 with h1 | h1
    · exact h.pr.ap k h1 h2
    · have := hn k h1; have := hlt k h2; omega
  have hst : ∀ k, O2 k → w11.heap[k]? = w9.heap[k]? := fun k h2 => (hk.block k (Nat.lt_of_lt_of_le (hlt k h2) hb.size) (hno k h2)).trans (hb.block k (hlt k h2))
  refine ⟨⟨hp, ⟨(rowsI_obj 32).stay h.pr.b.inv hst, hp.below, h.pr.b.new⟩, fun k h3 h2 => ?_⟩, ?_⟩
  · rcases hg k h3 with h4 | h4
    · exact hno k h2 h4
    · have := hlt k h2; have := hb.size; omega
  · have h1 := h.lg.more hb hn
    have h2 : SlA lgC 6 w11 (fun k => O3 k ∨ O2 k) lv s.log := h1.step (kept_or hk fun k hk' => by
      rcases hk' with h5 | h5
      · exact .inl (.inl h5)
      · exact .inr h5) (fun k hk' => by
        rcases hk' with h5 | h5
        · rcases hg k h5 with h6 | h6
          · rcases h6 with h6 | h6
            · exact .inl (.inl (.inl h6))
            · exact .inl (.inr h6)
          · exact .inr h6
        · exact .inl (.inl (.inr h5)))
    exact h2
theorem SlG.front {α : Type} {c : α → List Value} {k : Nat} {w : World} {B : Nat} {A : Option Addr} {n cap cap' : Nat} {L E : List α} (h : SlG c k w B (.slice A n cap) (L ++ E)) : SlG c k w B (.slice A L.length cap') L := by
  obtain ⟨A', c1, hv, hm, hc⟩ := h
  injection hv with hA _ _
  subst hA
  refine ⟨A, cap', rfl, by rw [List.length_append] at hm; omega, fun i a ha => ?_⟩
  exact hc i a (by rw [List.getElem?_append_left (at_lt ha)]; exact ha)
/-- a row of what was offered appended to: in the midst of the region -/
def AppG (u : Value) (X L : List Fr) (W : World) (tx tr : Tmp) (j : Nat) (xs : Tmp → Option Value) (w : World) : Prop :=
  Kept (OwnO u) W w ∧ ((j = 0 ∧ xs tr = none ∧ RowQ frC 4 w u L ∧ ∀ x, xs tx = some x → RdA frC 4 w x X) ∨ (j = 1 ∧ ∃ v', xs tr = some v' ∧ RowQ frC 4 w v' (L ++ X) ∧ Grows (OwnO u) W (OwnO v')))
theorem AppG.start {u : Value} {X L : List Fr} {W : World} {tx tr : Tmp} (h : RowQ frC 4 W u L)   : AppG u X L W tx tr 0 (fun _ => none) W.drew :=
  ⟨.of_below (Below.refl _ _).drew, .inl ⟨rfl, rfl, h.later (Below.refl _ _).drew, fun x hx => by cases hx⟩⟩
theorem AppG.one {u : Value} {f : Fr} {L : List Fr} {W : World} {tx tr : Tmp} (hne : tr ≠ tx) (j : Nat) (xs : Tmp → Option Value) (w : World) (h : AppG u [f] L W tx tr j xs w) :
    AppG u [f] L W tx tr j (fun t => if t = tx then some (.slice (some ⟨w.heap.size, 0, none⟩) 1 1) else xs t) (w.alloc (.cells (frC f).toArray 30)) := by
  have hb : Below w.heap.size w (w.alloc (.cells (frC f).toArray 30)) := (Below.refl _ _).alloc (Nat.le_refl _) _
  obtain ⟨h1, h2⟩ := h
  refine ⟨h1.trans (.of_below (O := OwnO u) hb) (Grows.refl _ _), ?_⟩
  rcases h2 with ⟨rfl, h0, h3, h4⟩ | ⟨rfl, v', h3, h4, h5⟩
  · refine .inl ⟨rfl, by simp only; rw [if_neg hne]; exact h0, h3.later hb, fun x hx => ?_⟩
    simp at hx
    rw [← hx]
    exact RdA.one frC_len w f 30 rfl rfl
  · exact .inr ⟨rfl, v', by simp only; rw [if_neg hne]; exact h3, h4.later hb, h5⟩
theorem AppG.app {u : Value} {X L : List Fr} {W : World} {tx tr : Tmp} (xs : Tmp → Option Value) (w : World) (v' : Value) (w' : World) (h : AppG u X L W tx tr 0 xs w) (hq : RowQ frC 4 w' v' (L ++ X)) (hk : Kept (OwnO u) w w') (hg : Grows (OwnO u) w (OwnO v')) :
    AppG u X L W tx tr 1 (fun t => if t = tr then some v' else xs t) w' := by
  obtain ⟨h1, _⟩ := h
  refine ⟨h1.trans hk (Grows.refl _ _), .inr ⟨rfl, v', by simp, hq, fun k hk' => ?_⟩⟩
  rcases hg k hk' with h2 | h2
  · exact .inl h2
  · exact .inr (Nat.le_trans h1.size h2)
/-- an entry behind an address -/
def BoxLg (w : World) (b : Nat) (e : Lg) : Prop := w.heap[b]? = some (.cells #[.int .i64 e.f.i, .int .i64 e.f.n, .int .i64 e.f.l, .string e.f.d, .int .i64 e.n, .int .i64 e.s] 53 (0, 0))
theorem BoxLg.made (w : World) (e : Lg) : BoxLg (w.alloc (.cells #[.int .i64 e.f.i, .int .i64 e.f.n, .int .i64 e.f.l, .string e.f.d, .int .i64 e.n, .int .i64 e.s] 53)) w.heap.size e := by unfold BoxLg World.alloc; simp
theorem BoxLg.lt {w : World} {b : Nat} {e : Lg} (h : BoxLg w b e) : b < w.heap.size := (Array.getElem?_eq_some_iff.1 h).1
theorem BoxLg.cells {w : World} {b : Nat} {e : Lg} (h : BoxLg w b e) : w.cell? ⟨b, 0, none⟩ = some (.int .i64 e.f.i) ∧ w.cell? ⟨b, 1, none⟩ = some (.int .i64 e.f.n) ∧ w.cell? ⟨b, 2, none⟩ = some (.int .i64 e.f.l) ∧ w.cell? ⟨b, 3, none⟩ = some (.string e.f.d) ∧ w.cell? ⟨b, 4, none⟩ = some (.int .i64 e.n) ∧ w.cell? ⟨b, 5, none⟩ = some (.int .i64 e.s) := by
  unfold BoxLg at h
  refine ⟨?_, ?_, ?_, ?_, ?_, ?_⟩ <;> (rw [Lib.cell_of_heap h]; rfl)
/-- what was sent, of the first j of the log -/
structure Sent2 (w0 : World) (g : Nat) (ws : List Value) (S : List (List Fr)) (l : List Lg) (j : Nat) (z sl : Int) (w : World) : Prop where
  below : Below w0.heap.size w0 w
  rows : RowsM w g ws S
  new : ∀ k, rwO g ws k → w0.heap.size ≤ k
  len : S.length = 32
  eq : ∀ i, i < 32 → S.getD i [] = logF (l.take j) i
  up : (∀ e ∈ l.drop j, z < e.s) ∧ z < sl
theorem sent_step {S : List (List Fr)} {l : List Lg} {j n : Nat} {M : List Fr} (hS : S.length = 32) (he : ∀ i, i < 32 → S.getD i [] = logF (l.take j) i) (hj : j < l.length) (hn : (l[j]).n = (n : Int)) (hn2 : n < 32) (hM : S[n]? = some M) :
    ∀ i, i < 32 → (S.set n (M ++ [(l[j]).f])).getD i [] = logF (l.take (j + 1)) i := by
  intro i hi
  have h1 : l.take (j + 1) = l.take j ++ [l[j]] := List.take_succ_eq_append_getElem hj
  rw [h1, logF_app, List.getD_eq_getElem?_getD, List.getElem?_set]
  have h2 : logF [l[j]] i = if (l[j]).n = (i : Int) then [(l[j]).f] else [] := logF_one _ _ _ _
  rw [h2, hn, ← he i hi]
  by_cases e : n = i
  · subst e
    rw [if_pos rfl, if_pos (by rw [hS]; exact hn2), if_pos rfl, List.getD_eq_getElem?_getD, hM]; rfl
  · rw [if_neg e, if_neg (by omega), List.append_nil, List.getD_eq_getElem?_getD]
theorem logF_len (l : List Lg) (i : Nat) : (logF l i).length ≤ l.length := by unfold logF; rw [List.length_map]; exact List.length_filter_le _ _
theorem drop_head {α : Type} {l : List α} {j : Nat} (h : j < l.length) : l.drop j = l[j] :: l.drop (j + 1) := List.drop_eq_getElem_cons h
theorem AppG.later {u : Value} {X L : List Fr} {W : World} {tx tr : Tmp} {j : Nat} {xs : Tmp → Option Value} {w w' : World} (h : AppG u X L W tx tr j xs w) (hb : Below w.heap.size w w') : AppG u X L W tx tr j xs w' := by
  obtain ⟨h1, h2⟩ := h
  refine ⟨h1.trans (.of_below (O := OwnO u) hb) (Grows.refl _ _), ?_⟩
  rcases h2 with ⟨rfl, h0, h3, h4⟩ | ⟨rfl, v', h3, h4, h5⟩
  · exact .inl ⟨rfl, h0, h3.later hb, fun x hx => (h4 x hx).later hb⟩
  · exact .inr ⟨rfl, v', h3, h4.later hb, h5⟩
theorem AppG.wait {u : Value} {X L : List Fr} {W : World} {tx tr : Tmp} (hne : tr ≠ tx) {j : Nat} {xs : Tmp → Option Value} {w w' : World} {y : Value} {O : Nat → Prop} (h : AppG u X L W tx tr j xs w) (hb : Below w.heap.size w w') (hy : SlA frC 4 w' O y X) (hs : ShapeOk y) :
    AppG u X L W tx tr j (fun t => if t = tx then some y else xs t) w' := by
  obtain ⟨h1, h2⟩ := h
  refine ⟨h1.trans (.of_below (O := OwnO u) hb) (Grows.refl _ _), ?_⟩
  rcases h2 with ⟨rfl, h0, h3, h4⟩ | ⟨rfl, v', h3, h4, h5⟩
  · refine .inl ⟨rfl, by simp only; rw [if_neg hne]; exact h0, h3.later hb, fun x hx => ?_⟩
    simp at hx
    subst hx
    refine ⟨hy.sl, ?_⟩
    rcases hs with h6 | ⟨x, n, c, h6, h7⟩
    · exact .inl h6
    · obtain ⟨A, cap, h8, _, _⟩ := hy
      rw [h6] at h8
      injection h8 with h8 h9 h10
      exact .inr ⟨x, c, by rw [h6, h9], by omega⟩
  · exact .inr ⟨rfl, v', by simp only; rw [if_neg hne]; exact h3, h4.later hb, h5⟩
/-- what was sent, from row i on -/
structure Sent3 (w0 : World) (g : Nat) (ws : List Value) (S : List (List Fr)) (i : Nat) (w : World) : Prop where
  below : Below w0.heap.size w0 w
  box : w.heap[g]? = some (.cells ws.toArray 39 (0, 0))
  lenW : ws.length = 32
  row : ∀ (m : Nat) (u : Value) (L : List Fr), i ≤ m → ws[m]? = some u → S[m]? = some L → RowQ frC 4 w u L
  f1 : ∀ (m : Nat) (u : Value), ws[m]? = some u → ¬ OwnO u g
  f2 : ∀ (i j : Nat) (u u' : Value), ws[i]? = some u → ws[j]? = some u' → i ≠ j → Apart (OwnO u) (OwnO u')
  new : ∀ k, rwO g ws k → w0.heap.size ≤ k
theorem Sent2.three {w0 : World} {g : Nat} {ws : List Value} {S : List (List Fr)} {l : List Lg} {j : Nat} {z sl : Int} {w : World} (h : Sent2 w0 g ws S l j z sl w) : Sent3 w0 g ws S 1 w :=
  ⟨h.below, h.rows.box, by rw [h.rows.len]; exact h.len, fun m u L _ => h.rows.row m u L, h.rows.f1, h.rows.f2, h.new⟩
theorem Sent3.step {w0 : World} {g : Nat} {ws : List Value} {S : List (List Fr)} {i : Nat} {w w' : World} {u : Value} (h : Sent3 w0 g ws S i w) (hS : S.length = 32) (hu : ws[i]? = some u) (hk : Kept (OwnO u) w w') : Sent3 w0 g ws S (i + 1) w' :=
  ⟨hk.below h.below h.below.size (fun k hk => h.new k (.inr ⟨i, u, hu, hk⟩)), (hk.block g (heap_some_lt h.box) (h.f1 i u hu)).trans h.box, h.lenW, fun m x L hm hx hL => by
    have h5 := h.row m x L (by omega) hx hL
    exact h5.stay (fun k hk' => hk.block k (h5.lt k hk') (fun h6 => h.f2 i m u x hu hx (by omega) k h6 hk')) hk.size, h.f1, h.f2, h.new⟩
theorem Sent3.later {w0 : World} {g : Nat} {ws : List Value} {S : List (List Fr)} {i : Nat} {w w' : World} (h : Sent3 w0 g ws S i w) (hb : Below w.heap.size w w') : Sent3 w0 g ws S i w' :=
  ⟨fbelow_t h.below hb, (hb.block g (heap_some_lt h.box)).trans h.box, h.lenW, fun m x L hm hx hL => (h.row m x L hm hx hL).later hb, h.f1, h.f2, h.new⟩
set_option maxRecDepth 4000 in
set_option maxHeartbeats 16000000 in
theorem busOnce_walk {T : World → Prop} {I : World → Value → Bs → (Nat → Prop) → Prop} (A : BusI T I) (nodes back : Int) (a : Option Addr) (len cap : Nat) (F : Nat → List Value) (w : World) (wn : (Lit.int .i64 nodes).wf = true) (wb : (Lit.int .i64 back).wf = true) (hr : IsRowOf w op6Sh a len cap F) (hT : T w) :
    Calls Tryd.prog 5 #[.int .i64 nodes, .int .i64 back, .slice a len cap] w fun e w' => e = .returned (.bool true) ∧ Below w.heap.size w w' := by
  obtain ⟨L, hL, hlen, hf⟩ := slice_of_row hr op6Of op6Of_c rfl (by decide)
  have HA := Lib.hid A
  have HT := Lib.hid hT
  have HV := Lib.hid hL
  have HX : Hid (∀ o ∈ L, o.fits) := Lib.hid (fun o h => op6_fits (hf o h))
  have HBK : Hid (-9223372036854775808 ≤ back ∧ back ≤ 9223372036854775807) := Lib.hid (wf_i64 wb)
  subst hlen
  clear A hT hL hr hf wn wb
  obtain ⟨q, hq⟩ : ∃ q, foB L = q := ⟨_, rfl⟩
  have HQ := Lib.hid hq
  clear hq
  obtain ⟨Z, hZ⟩ : ∃ Z, List.replicate 32 (Value.slice none 0 0) = Z := ⟨_, rfl⟩
  have hmk : ∀ w, (Instr.makeSlice 48 (.int .i64 32) (.int .i64 32)).run Tryd.prog w = .ok (.slice (some ⟨w.heap.size, 0, none⟩) 32 32) (w.alloc (.cells Z.toArray 39)) := fun w => by have := run_mkW 32 (by omega) w; rw [hZ] at this; exact this
  have HMK := Lib.hid hmk
  have HZ := Lib.hid hZ
  clear hZ
  go_enter Tryd.func5, Tryd.ntmps5
  go_wp2_with fail
  refine (fo_any w HV.out).mono ?_
  rintro e w' ⟨he, rfl⟩
  rw [HQ.out] at he
  subst he
  cases q
  · go_wp2_with fail
    refine (busalive HA.out _ HT.out).mono ?_
    rintro e w1 ⟨rfl, hb⟩
    go_wp2
    go_ret
    exact ⟨rfl, hb⟩
  have hl4 := foB_len HQ.out
  go_wp2_with fail
  refine (HA.out.new nodes back _ HBK.out HT.out).mono ?_
  rintro e w1 ⟨v, O, rfl, hi, hb, hn⟩
  have H0 : Hid (Has I w v (bsNew (nodesN nodes) back) O w1) := Lib.hid ⟨hi, hb, hn⟩
  have HOK := Lib.hid (Bs.Ok.new nodes back HBK.out)
  clear hi hb hn
  go_upto_region 6 with fail
  have HO : Hid (OnS I w v (.slice (some ⟨w1.heap.size, 0, none⟩) 32 32) (.slice none 0 0) (bsNew (nodesN nodes) back) (List.replicate 32 []) O (rwO w1.heap.size Z) (w1.alloc (.cells Z.toArray 39))) := by
    have hb : Below w1.heap.size w1 (w1.alloc (.cells Z.toArray 39)) := (Below.refl _ _).alloc (Nat.le_refl _) _
    have hrm : RowsM (w1.alloc (.cells Z.toArray 39)) w1.heap.size Z (List.replicate 32 []) := by
      rw [← HZ.out]
      exact RowsM.made (heap_alloc_new w1 _)
    have hge : ∀ k, rwO w1.heap.size Z k → k = w1.heap.size := by
      rintro k (h | ⟨i, u, hu, hk⟩)
      · exact h
      · rw [← HZ.out, List.getElem?_replicate] at hu
        split at hu
        · rw [← Option.some.inj hu] at hk; cases hk
        · cases hu
    refine Lib.hid ⟨⟨H0.out.later HA.out.obj hb, ⟨⟨_, Z, rfl, rfl, by simp, hrm⟩, fbelow_t H0.out.below hb, fun k hk => by rw [hge k hk]; exact H0.out.below.size⟩, fun k h1 h2 => by have := HA.out.obj.lt H0.out.inv k h1; rw [hge k h2] at this; omega⟩, SlA.nil _ _ _ _, ?_, HOK.out⟩
    have := Once.new (nodesN nodes) back
    refine ⟨fun i h1 h2 => ?_, fun i hi => ?_, this.node, this.slot, this.rise⟩
    · rw [this.row i h1 h2, List.getD_eq_getElem?_getD, List.getElem?_replicate]; split <;> rfl
    · rw [List.getD_eq_getElem?_getD, List.getElem?_replicate]; split <;> rfl
  generalize w1.alloc (.cells Z.toArray 39) = w2 at HO ⊢
  generalize rwO w1.heap.size Z = O' at HO
  generalize w1.heap.size = g at HO ⊢
  have HLE : Hid (∀ M ∈ List.replicate 32 ([] : List Fr), M.length ≤ 0) := Lib.hid (fun M hM => by rw [(List.mem_replicate.1 hM).2]; exact Nat.le_refl _)
  clear hmk
  go_wp2_with fail
  go_loopw [9, 28] (fun lv i wr => ∃ (k : Nat) (s : Bs) (W : List (List Fr)) (O O' : Nat → Prop), k ≤ L.length ∧ i = .int .i64 k ∧ s.sl ≤ k ∧ Hid (OnS I w v (.slice (some ⟨g, 0, none⟩) 32 32) lv s W O O' wr) ∧ Hid (∀ M ∈ W, M.length ≤ k)) (fun _ i _ => L.length - (intOf i).toNat)
  case atStart => exact ⟨0, _, _, O, O', by omega, rfl, Int.le_refl _, HO, HLE⟩
  case round =>
    obtain ⟨wo, rfl⟩ : ∃ wo : World, wo = wr := ⟨_, rfl⟩
    obtain ⟨k, s, W, O1, O2, hk, rfl, hsl, HS, HLE⟩ := hrel
    by_cases hlt : k < L.length
    · have hkl : (k : Int) < (L.length : Int) := by omega
      obtain ⟨x, c1, hv1, hxb, hcell⟩ := SlG.at_ (HV.out.later HS.out.pr.a.below) hlt
      injection hv1 with hAA _ hcap
      subst hAA hcap
      have a0 : wo.cell? (x.add (k * 6)) = some (.int .i64 (L[k]'hlt).k) := hcell 0 _ rfl
      have a1 : wo.cell? ⟨(x.add (k * 6)).block, (x.add (k * 6)).off + 1, none⟩ = some (.int .i64 (L[k]'hlt).m) := hcell 1 _ rfl
      have a2 : wo.cell? ⟨(x.add (k * 6)).block, (x.add (k * 6)).off + 2, none⟩ = some (.int .i64 (L[k]'hlt).f.i) := hcell 2 _ rfl
      have a3 : wo.cell? ⟨(x.add (k * 6)).block, (x.add (k * 6)).off + 3, none⟩ = some (.int .i64 (L[k]'hlt).f.n) := hcell 3 _ rfl
      have a4 : wo.cell? ⟨(x.add (k * 6)).block, (x.add (k * 6)).off + 4, none⟩ = some (.int .i64 (L[k]'hlt).f.l) := hcell 4 _ rfl
      have a5 : wo.cell? ⟨(x.add (k * 6)).block, (x.add (k * 6)).off + 5, none⟩ = some (.string (L[k]'hlt).f.d) := hcell 5 _ rfl
      have HFX := Lib.hid (HX.out _ (List.getElem_mem hlt))
      generalize L[k]'hlt = o at a0 a1 a2 a3 a4 a5 HFX
      obtain ⟨ok, om, f⟩ := o
      simp only at a0 a1 a2 a3 a4 a5
      clear hcell hxb
      go_upto_region 9 with fail
      have HB9 := Lib.hid (BoxO.made wo ⟨ok, om, f⟩)
      have HS9 := Lib.hid (HS.out.later HA.out.obj ((Below.refl _ _).alloc (Nat.le_refl _) (.cells #[.int .i64 ok, .int .i64 om, .int .i64 f.i, .int .i64 f.n, .int .i64 f.l, .string f.d] 32)))
      have hn9 : ¬ O1 wo.heap.size ∧ ¬ O2 wo.heap.size := ⟨fun h => by have := HA.out.obj.lt HS.out.pr.a.inv _ h; omega, fun h => by have := (rowsI_obj 32).lt HS.out.pr.b.inv _ h; omega⟩
      have HN9 := Lib.hid hn9
      generalize wo.alloc (.cells #[.int .i64 ok, .int .i64 om, .int .i64 f.i, .int .i64 f.n, .int .i64 f.l, .string f.d] 32) = w9 at HB9 HS9 ⊢
      generalize wo.heap.size = b9 at HB9 HN9 ⊢
      clear a0 a1 a2 a3 a4 a5 hn9
      obtain ⟨a0, a1, a2, a3, a4, a5⟩ := HB9.out.cells
      simp only at a0 a1 a2 a3 a4 a5
      have hb9 := HB9.out.lt
      by_cases hk0 : ok = 0
      · subst hk0
        go_wp2_with fail
        refine (HA.out.offer om f HS9.out.pr.a.inv HS9.out.ok (HA.out.tab HT.out HS9.out.pr.a.below) HFX.out).mono ?_
        rintro e w10 ⟨rfl, O3, hi, hkp, hg⟩
        have hb10 := HB9.out.kept hkp HN9.out.1
        obtain ⟨ec, hec⟩ : ∃ z, (s.offer om f).2 = z := ⟨_, rfl⟩
        rw [hec]
        clear a0 a1 a2 a3 a4 a5 hb9
        by_cases h0 : ec = 0
        · subst h0
          obtain ⟨i1, i2, ie⟩ := Bs.offer_yes hec
          have hN2 := HS9.out.ok.n2
          obtain ⟨n, rfl⟩ : ∃ n : Nat, om = n := ⟨om.toNat, by omega⟩
          have hn1 : 1 ≤ n := by omega
          have hn2 : n < 32 := by omega
          have HP10 := Lib.hid (HS9.out.pr.stepA HA.out.obj (rowsI_obj 32) hi hkp hg)
          have HL10 : Hid (SlA lgC 6 w10 (fun k => O3 k ∨ O2 k) u9 s.log) := Lib.hid (HS9.out.lg.step (kept_or hkp fun k h => .inl h) (fun k hk' => by
            rcases hk' with h1 | h1
            · rcases hg k h1 with h2 | h2
              · exact .inl (.inl h2)
              · exact .inr h2
            · exact .inl (.inr h1)))
          have HON := Lib.hid (HS9.out.on.offer HS9.out.ok.lw hec)
          have HSO := Lib.hid (HS9.out.ok.offer (n : Int) f)
          have hlog : (s.offer (n : Int) f).1.log = s.log := by rw [ie]
          have hslo := s.sl_offer (n : Int) f
          generalize (s.offer (n : Int) f).1 = s' at HP10 HON HSO hlog hslo hi
          have HB10 := Lib.hid hb10
          clear hi hkp hg hb10 hec ie i1 i2 HB9 HS9 hN2
          obtain ⟨g', ws, hv0, hO2, hW, hrm⟩ := HP10.out.b.inv
          injection hv0 with hv0
          injection hv0 with hv0
          injection hv0 with hv0
          subst hv0
          have HRM := Lib.hid hrm
          have HO2 := Lib.hid hO2
          have HW := Lib.hid hW
          obtain ⟨u, hu⟩ : ∃ u, ws[n]? = some u := ⟨_, List.getElem?_eq_getElem (by rw [hrm.len, hW]; exact hn2)⟩
          obtain ⟨M, hM⟩ : ∃ M, W[n]? = some M := ⟨_, List.getElem?_eq_getElem (by rw [hW]; exact hn2)⟩
          have HU := Lib.hid hu
          have HM := Lib.hid hM
          have HML : Hid (M.length ≤ k) := Lib.hid (HLE.out M (List.mem_of_getElem? hM))
          obtain ⟨x0, _⟩ := hrm.wait hu
          have HRQ := Lib.hid (hrm.row n u M hu hM)
          have hub : ¬ OwnO u b9 := fun h => HN9.out.2 (by rw [hO2]; exact .inr ⟨n, u, hu, h⟩)
          have hug : ¬ OwnO u g := hrm.f1 n u hu
          have hgl := heap_some_lt hrm.box
          have hb9 := HB10.out.lt
          obtain ⟨a0, a1, a2, a3, a4, a5⟩ := HB10.out.cells
          simp only at a0 a1 a2 a3 a4 a5
          obtain ⟨A1, c1, hsh⟩ := HRQ.out.shape
          subst hsh
          have hl1 : ¬ (n : Int) < 1 := by omega
          have hl2 : ¬ 31 < (n : Int) := by omega
          have hmd : Int.tmod (n : Int) 32 = (n : Int) := by rw [Int.tmod_eq_emod_of_nonneg (by omega)]; omega
          clear hrm hu hM hO2 hW
          go_upto_region 13 with fail
          have hc9 : ∀ (q : KLater (OwnO (.slice A1 M.length c1)) w10) (o : Nat), q.w.cell? ⟨b9, o, none⟩ = w10.cell? ⟨b9, o, none⟩ := fun q o => q.cell b9 o hb9 hub
          have hcg : ∀ (q : KLater (OwnO (.slice A1 M.length c1)) w10) (o : Nat), q.w.cell? ⟨g, o, none⟩ = w10.cell? ⟨g, o, none⟩ := fun q o => q.cell g o hgl hug
          refine wp_region_st 14 [12] (AppG (.slice A1 M.length c1) [f] M w10 61 62) [61, 62] (AppG.start HRQ.out) (by kernel_rfl) (by kernel_rfl) (by kernel_rfl) (by kernel_rfl) (by kernel_rfl) (by kernel_rfl) (by kernel_rfl) ?_
          simp only [List.take_succ_cons, List.take_zero, List.drop_succ_cons, List.drop_zero]
          repeat (refine st_plain (fun h => h.1) (by rfl) (by rfl) (by rfl) (by rfl) (by rfl) ?_; intro K hK; go_big_quiet_op; go_big_quiet_on)
          refine st_new (s := 61) (mk := fun w => .slice (some ⟨w.heap.size, 0, none⟩) 1 1) (ob := fun _ => .cells (frC f).toArray 30) (by rfl) (by rfl) (by rfl) (by rfl) (by rfl) (by rfl) (fun _ => by kernel_rfl) (AppG.one (by decide)) ?_
          simp only [Act.put, List.setIfInBounds_toArray, List.set_cons_succ, List.set_cons_zero]
          refine st_app (ts := 58) (tx := 61) (tr := 62) (L := M) (M := [f]) flat_fr frC_len frC_one 0 (by rfl) (by rfl) (by rfl) (by rfl) (by rfl) (by rfl) (by rfl) (by decide) (by decide) (by rfl) (fun xs w x hG hx => ?_) (by have := HML.out; simp; omega) (fun xs w v' w' hG => AppG.app xs w v' w' hG) ?_
          · rcases hG.2 with ⟨_, _, h1, h2⟩ | ⟨h0, _⟩
            · exact ⟨h1, h2 x hx⟩
            · cases h0
          simp only [Act.put, List.setIfInBounds_toArray, List.set_cons_succ, List.set_cons_zero]
          refine st_plain (fun h => h.1) (by rfl) (by rfl) (by rfl) (by rfl) (by rfl) ?_
          intro K hK
          go_big_quiet_op
          go_big_quiet_on
          intro ys xs w11 hF h11
          have e62 := hF 62 (by simp)
          obtain ⟨hkp, hG⟩ := h11
          rcases hG with ⟨h0, _⟩ | ⟨_, v', hv', hq, hg⟩
          · cases h0
          obtain ⟨g3, o3, cap3, rfl⟩ := hq.form
          rw [e62] at hv'
          have hy := Option.some.inj hv'
          simp only [secFill, hy]
          simp only [Act.put, List.setIfInBounds_toArray, List.set_cons_succ, List.set_cons_zero]
          obtain ⟨q1, q2, q3⟩ := HRM.out.set HU.out hq hkp hg
          have hzk : g < w11.heap.size := Nat.lt_of_lt_of_le hgl hkp.size
          have t0 : w11.cell? ⟨g, n, none⟩ = some (.slice A1 M.length c1) := (hkp.cell (p := ⟨g, n, none⟩) hgl hug).trans x0
          have t1 : w11.frozen? ⟨g, n, none⟩ = false := (hkp.frozen (p := ⟨g, n, none⟩) hgl hug).trans (HRM.out.wait HU.out).2
          have HS12 : Hid (OnS I w v (.slice (some ⟨g, 0, none⟩) 32 32) u9 s' (W.set n (M ++ [f])) O3 (rwO g (ws.set n (.slice (some ⟨g3, o3, none⟩) (M.length + 1) cap3))) (w11.setCell ⟨g, n, none⟩ (.slice (some ⟨g3, o3, none⟩) (M.length + 1) cap3))) := by
            refine Lib.hid ⟨HP10.out.stepB HA.out.obj (rowsI_obj 32) ⟨g, ws.set n (.slice (some ⟨g3, o3, none⟩) (M.length + 1) cap3), rfl, rfl, by rw [List.length_set]; exact HW.out, q1⟩ (by rw [HO2.out]; exact q2) (by rw [HO2.out]; exact q3), ?_, ?_, HSO.out⟩
            · rw [hlog]
              refine HL10.out.step (kept_or q2 fun k h => .inr (by rw [HO2.out]; exact h)) (fun k hk' => ?_)
              rcases hk' with h1 | h1
              · exact .inl (.inl h1)
              · rcases q3 k h1 with h2 | h2
                · exact .inl (.inr (by rw [HO2.out]; exact h2))
                · exact .inr h2
            · have e : (fun i => (W.set n (M ++ [f])).getD i []) = offAdd (fun i => W.getD i []) (n : Int).toNat f := by
                funext i
                unfold offAdd
                rw [Int.toNat_natCast, List.getD_eq_getElem?_getD, List.getElem?_set]
                by_cases hin : n = i
                · subst hin
                  rw [if_pos rfl, if_pos (by rw [HW.out]; exact hn2), if_pos rfl]
                  show M ++ [f] = W.getD n [] ++ [f]
                  rw [List.getD_eq_getElem?_getD, HM.out]; rfl
                · rw [if_neg hin, if_neg (fun h => hin h.symm)]
                  show _ = W.getD i []
                  rw [List.getD_eq_getElem?_getD]
              rw [e]
              exact HON.out
          have HLE2 : Hid (∀ X ∈ W.set n (M ++ [f]), X.length ≤ k + 1) := Lib.hid (fun X hX => by
            rcases mem_set_or hX with h1 | h1
            · exact Nat.le_succ_of_le (HLE.out X h1)
            · rw [h1, List.length_append]; have := HML.out; simp; omega)
          clear hF e62 hv' hy q1 q2 q3 hq hg hkp hcg hc9 a0 a1 a2 a3 a4 a5 x0 hlog
          go_wp2
          go_roundw
          case rel => exact ⟨k + 1, s', _, O3, _, by omega, by go_num, by omega, HS12, HLE2⟩
          case measure => simp [intOf]; omega
        · have e0 : (ec == 0) = false := by simp [h0]
          have hse : (s.offer om f).1 = s := Bs.offer_no (by rw [hec]; exact h0)
          rw [hse] at hi
          obtain ⟨O4, hp⟩ := HS9.out.bus HA.out.obj ⟨O3, hi, hkp, hg⟩ rfl HS9.out.on HS9.out.ok
          have HS10 := Lib.hid hp
          clear hp hi hkp hg hb10 hse hec
          have HLE2 : Hid (∀ M ∈ W, M.length ≤ k + 1) := Lib.hid (fun M hM => Nat.le_succ_of_le (HLE.out M hM))
          go_wp2
          go_roundw
          case rel => exact ⟨k + 1, s, W, O4, O2, by omega, by go_num, by omega, HS10, HLE2⟩
          case measure => simp [intOf]; omega
      · have e0 : (ok == 0) = false := by simp [hk0]
        have hk0' : (⟨ok, om, f⟩ : Op6).k ≠ 0 := hk0
        go_upto_region 14 with fail
        have hcl : ∀ (n : Later w9) (b o : Nat), b < w9.heap.size → n.w.cell? ⟨b, o, none⟩ = w9.cell? ⟨b, o, none⟩ := later_cells w9
        refine wp_region_sec 3 [65] (fun _ u w' => ∃ O', BusD w' u (bsNew (nodesN 1) 1) O' ∧ ∀ k, O' k → w9.heap.size ≤ k) (fun _ _ _ _ h hb => by obtain ⟨O', h1, h2⟩ := h; exact ⟨O', isObj_bus.stay h1 (fun k hk => hb.block k (isObj_bus.lt h1 k hk)), h2⟩) (by kernel_rfl) (by kernel_rfl) (by kernel_rfl) (by kernel_rfl) (by kernel_rfl) ?_
        simp only [List.take_succ_cons, List.take_zero, List.drop_succ_cons, List.drop_zero]
        refine sec_plain (by rfl) (by rfl) (by rfl) (by rfl) ?_
        intro K hK
        go_big_quiet_op
        go_big_quiet_on
        refine sec_callF (f := 11) (args := #[.int .i64 1, .int .i64 1]) (by rfl) (by rfl) (by rfl) (by rfl) (by rfl) (fun w => by simp [go_sem]) ?_ ?_
        · intro q
          refine (bnew_v _).mono ?_
          rintro e w' ⟨u, O', he, hi, hb', hn⟩
          exact ⟨u, he, hb', O', hi, fun k hk => Nat.le_trans q.h.size (hn k hk)⟩
        simp only [Act.put, List.setIfInBounds_toArray, List.set_cons_succ, List.set_cons_zero]
        refine sec_plain (by rfl) (by rfl) (by rfl) (by rfl) ?_
        intro K hK
        go_big_quiet_op
        go_big_quiet_on
        intro xs m9 hF
        obtain ⟨O', hi, hn⟩ := hF 65 (by simp)
        simp only [secFill, Act.put, List.setIfInBounds_toArray, List.set_cons_succ, List.set_cons_zero]
        generalize xs 65 = vr at hi ⊢
        clear hF xs hcl a0 a1 a2 a3 a4 a5
        have HPP : Hid (Pair I BusD w v vr s (bsNew (nodesN 1) 1) O1 O' m9.w) :=
          Lib.hid ⟨HS9.out.pr.a.later HA.out.obj m9.h, ⟨hi, fbelow_t HS9.out.pr.a.below m9.h, fun k hk => Nat.le_trans HS9.out.pr.a.below.size (hn k hk)⟩, fun k h1 h2 => by have := HA.out.obj.lt HS9.out.pr.a.inv k h1; have := hn k h2; omega⟩
        have HNW := Lib.hid (And.intro m9.h hn)
        clear hi hn
        generalize m9.w = w10 at HPP HNW ⊢
        go_wp2_with fail
        refine (do_any (o := ⟨ok, om, f⟩) HA.out HPP.out HS9.out.ok (Bs.Ok.new 1 1 (by decide)) (by omega) (by decide) HT.out HFX.out).mono ?_
        rintro e w11 ⟨q, O3, O4, rfl, _, hp, hkp, hg1, _⟩
        have HD := Lib.hid (HS9.out.did HA.out.obj HNW.out.1 HNW.out.2 hp.a hkp hg1)
        have hsl2 := (s.sl_doOp ⟨ok, om, f⟩).1
        have HSO := Lib.hid (HS9.out.ok.doOp ⟨ok, om, f⟩)
        have HON := Lib.hid (HS9.out.on.doOp HS9.out.ok ⟨ok, om, f⟩ hk0')
        obtain ⟨ext, hext, hel⟩ := s.log_doOp ⟨ok, om, f⟩ hk0'
        generalize s.doOp ⟨ok, om, f⟩ = s' at HD hsl2 HSO HON hext
        clear hp hkp hg1 hb9 hk0 hk0' e0
        go_wp2_with fail
        refine (HA.out.log HD.out.1.a.inv).mono ?_
        rintro e w12 ⟨nx, rfl, hnx, hb12⟩
        have HD12 := Lib.hid (And.intro (HD.out.1.later HA.out.obj (rowsI_obj 32) hb12) (HD.out.2.later hb12))
        have HNX : Hid (SlA lgC 6 w12 (fun k => O3 k ∨ O2 k) nx s'.log) := Lib.hid (hnx.1.narrow (fun k hk => by
          rcases hk with h1 | h1
          · exact HA.out.obj.lt HD.out.1.a.inv k h1
          · exact (rowsI_obj 32).lt HD.out.1.b.inv k h1))
        have hco := hnx.2
        clear hnx hb12
        obtain ⟨AN, cn, hnv, hnm, _⟩ := HNX.out
        obtain ⟨AG, cg, hgv, hgm, _⟩ := HD12.out.2
        subst hnv
        subst hgv
        have hcn : s'.log.length ≤ cn := hco _ _ _ rfl
        have hlx : s'.log.length = s.log.length + ext.length := by rw [hext, List.length_append]
        obtain ⟨ns, hns⟩ : ∃ n, s.log.length = n := ⟨_, rfl⟩
        obtain ⟨ne, hne⟩ : ∃ n, s'.log.length = n := ⟨_, rfl⟩
        have HNS := Lib.hid hns
        have HNE := Lib.hid hne
        have HEX := Lib.hid hext
        have hns3 : (ns : Int) ≤ 1000 := by have h1 := HS9.out.ok.lg; rw [hns] at h1; omega
        rw [hns, hne] at hlx
        rw [hne] at hcn
        rw [hne, hns]
        have hl1 : ¬ (ne : Int) < (ns : Int) := by omega
        have hl2 : ¬ (ns : Int) + 1 < (ne : Int) := by omega
        have hl3 : (ns : Int) ≤ (cn : Int) := by omega
        clear hlx hns hne hext hel hco hnm hgm
        go_wp2_with fail
        have hfr : SlG lgC 6 w12 w12.heap.size (.slice AN ns cn) s.log := by
          have h1 := HNX.out.sl
          rw [HEX.out] at h1
          have h2 := SlG.front (cap' := cn) h1
          rw [HNS.out] at h2
          exact h2
        have hfs : SlG lgC 6 w12 w12.heap.size (.slice AG ns cg) s.log := by
          have h1 := HD12.out.2.sl
          rw [HNS.out] at h1
          exact h1
        refine (lsame_t w12 hfr hfs).mono ?_
        clear hfr hfs
        rintro e w13 ⟨rfl, n13, rfl⟩
        have HS13 : Hid (OnS I w v (.slice (some ⟨g, 0, none⟩) 32 32) (.slice AN ne cn) s' W O3 O2 (w12.drewN n13)) :=
          Lib.hid ⟨HD12.out.1.later HA.out.obj (rowsI_obj 32) (below_drewN (Below.refl _ _) n13), by
            have h1 := HNX.out.later (below_drewN (Below.refl w12.heap.size w12) n13)
            rw [HNE.out] at h1
            exact h1, HON.out, HSO.out⟩
        have HLE2 : Hid (∀ M ∈ W, M.length ≤ k + 1) := Lib.hid (fun M hM => Nat.le_succ_of_le (HLE.out M hM))
        go_wp2
        go_roundw
        case rel => exact ⟨k + 1, s', W, O3, O2, by omega, by go_num, by omega, HS13, HLE2⟩
        case measure => simp [intOf]; omega
    · obtain rfl : k = L.length := by omega
      have hmk := HMK.out
      go_upto_region 22 with fail
      have HS20 := Lib.hid (HS.out.later HA.out.obj ((Below.refl _ _).alloc (Nat.le_refl _) (.cells Z.toArray 39)))
      have HT0 : Hid (Sent2 wo wo.heap.size Z (List.replicate 32 []) s.log 0 (-1) s.sl (wo.alloc (.cells Z.toArray 39))) := by
        have hrm : RowsM (wo.alloc (.cells Z.toArray 39)) wo.heap.size Z (List.replicate 32 []) := by
          rw [← HZ.out]
          exact RowsM.made (heap_alloc_new wo _)
        refine Lib.hid ⟨(Below.refl _ _).alloc (Nat.le_refl _) _, hrm, ?_, by simp, fun i hi => ?_, fun e he => ?_, ?_⟩
        · rintro k (h | ⟨i, u, hu, hk⟩)
          · exact Nat.le_of_eq h.symm
          · rw [← HZ.out, List.getElem?_replicate] at hu
            split at hu
            · rw [← Option.some.inj hu] at hk; cases hk
            · cases hu
        · rw [List.getD_eq_getElem?_getD, List.getElem?_replicate]; split <;> rfl
        · have := HS.out.on.slot e (by simpa using he); omega
        · have := HS.out.ok.sl0; omega
      generalize wo.alloc (.cells Z.toArray 39) = w20 at HS20 HT0 ⊢
      generalize wo.heap.size = g2 at HT0 ⊢
      clear hmk
      obtain ⟨AG, cg, hgv, hgm, _⟩ := HS20.out.lg
      subst hgv
      have hns3 : (s.log.length : Int) ≤ 1000 := by have h1 := HS20.out.ok.lg; omega
      go_wp2_with fail
      go_loopw [14, 97] (fun zl i wr => ∃ (j : Nat) (z : Int) (ws : List Value) (S : List (List Fr)), j ≤ s.log.length ∧ i = .int .i64 j ∧ zl = .int .i64 z ∧ Hid (Sent2 wo g2 ws S s.log j z s.sl wr)) (fun _ i _ => s.log.length - (intOf i).toNat)
      case atStart => exact ⟨0, -1, Z, _, by omega, rfl, rfl, HT0⟩
      case round =>
        obtain ⟨j, z, ws, S, hj, rfl, rfl, HJ⟩ := hrel
        by_cases hjt : j < s.log.length
        · have hjl : (j : Int) < (s.log.length : Int) := by omega
          have HSJ := Lib.hid (HS.out.later HA.out.obj HJ.out.below)
          obtain ⟨x, c1, hv1, hxb, hcell⟩ := SlG.at_ HSJ.out.lg.sl hjt
          injection hv1 with hAA _ hcap
          subst hAA hcap
          have a0 : wr.cell? (x.add (j * 6)) = some (.int .i64 (s.log[j]'hjt).f.i) := hcell 0 _ rfl
          have a1 : wr.cell? ⟨(x.add (j * 6)).block, (x.add (j * 6)).off + 1, none⟩ = some (.int .i64 (s.log[j]'hjt).f.n) := hcell 1 _ rfl
          have a2 : wr.cell? ⟨(x.add (j * 6)).block, (x.add (j * 6)).off + 2, none⟩ = some (.int .i64 (s.log[j]'hjt).f.l) := hcell 2 _ rfl
          have a3 : wr.cell? ⟨(x.add (j * 6)).block, (x.add (j * 6)).off + 3, none⟩ = some (.string (s.log[j]'hjt).f.d) := hcell 3 _ rfl
          have a4 : wr.cell? ⟨(x.add (j * 6)).block, (x.add (j * 6)).off + 4, none⟩ = some (.int .i64 (s.log[j]'hjt).n) := hcell 4 _ rfl
          have a5 : wr.cell? ⟨(x.add (j * 6)).block, (x.add (j * 6)).off + 5, none⟩ = some (.int .i64 (s.log[j]'hjt).s) := hcell 5 _ rfl
          have hnode := HS.out.on.node _ (List.getElem_mem hjt)
          have hslot := HS.out.on.slot _ (List.getElem_mem hjt)
          have hup := HJ.out.up.1 (s.log[j]'hjt) (by rw [drop_head hjt]; exact List.mem_cons_self)
          have hrise : ∀ e ∈ s.log.drop (j + 1), (s.log[j]'hjt).s < e.s := by
            have h1 := HS.out.on.rise
            rw [← List.take_append_drop j s.log, drop_head hjt] at h1
            have h2 := (List.pairwise_append.1 h1).2.1
            exact (List.pairwise_cons.1 h2).1
          have HSTEP : Hid (∀ (n : Nat) (M : List Fr), (s.log[j]'hjt).n = (n : Int) → n < 32 → S[n]? = some M → ∀ i, i < 32 → (S.set n (M ++ [(s.log[j]'hjt).f])).getD i [] = logF (s.log.take (j + 1)) i) :=
            Lib.hid (fun n M h1 h2 h3 => sent_step HJ.out.len HJ.out.eq hjt h1 h2 h3)
          have HRI := Lib.hid hrise
          generalize s.log[j]'hjt = e at a0 a1 a2 a3 a4 a5 hnode hslot hup HSTEP HRI
          obtain ⟨f, en, es⟩ := e
          simp only at a0 a1 a2 a3 a4 a5 hnode hslot hup
          clear hcell hxb hrise
          obtain ⟨n, rfl⟩ : ∃ n : Nat, en = n := ⟨en.toNat, by omega⟩
          have hn2 : n < 32 := by omega
          have HUP := Lib.hid (And.intro hslot hup)
          have hB9 := BoxLg.made wr ⟨f, n, es⟩
          have hal := (Below.refl wr.heap.size wr).alloc (Nat.le_refl _) (.cells #[.int .i64 f.i, .int .i64 f.n, .int .i64 f.l, .string f.d, .int .i64 (n : Int), .int .i64 es] 53)
          have HB9 := Lib.hid hB9
          have HAL := Lib.hid hal
          have hno : ¬ rwO g2 ws wr.heap.size := fun h => by have := HJ.out.rows.lt _ h; omega
          have HNO := Lib.hid hno
          clear hB9 hal hno
          go_upto_region 25 with fail
          generalize wr.alloc (.cells #[.int .i64 f.i, .int .i64 f.n, .int .i64 f.l, .string f.d, .int .i64 (n : Int), .int .i64 es] 53) = w21 at HB9 HAL ⊢
          clear a0 a1 a2 a3 a4 a5
          obtain ⟨a0, a1, a2, a3, a4, a5⟩ := HB9.out.cells
          simp only at a0 a1 a2 a3 a4 a5
          have hb9 := HB9.out.lt
          generalize wr.heap.size = b9 at HB9 HNO a0 a1 a2 a3 a4 a5 hb9 ⊢
          have HRM := Lib.hid (HJ.out.rows.stay (fun k hk => HAL.out.block k (HJ.out.rows.lt k hk)))
          obtain ⟨u, hu⟩ : ∃ u, ws[n]? = some u := ⟨_, List.getElem?_eq_getElem (by rw [HRM.out.len, HJ.out.len]; exact hn2)⟩
          obtain ⟨M, hM⟩ : ∃ M, S[n]? = some M := ⟨_, List.getElem?_eq_getElem (by rw [HJ.out.len]; exact hn2)⟩
          have HU := Lib.hid hu
          have HM := Lib.hid hM
          have HML : Hid (M.length ≤ 1000) := Lib.hid (by
            have h1 := HJ.out.eq n hn2
            rw [List.getD_eq_getElem?_getD, hM] at h1
            have h2 : M = logF (s.log.take j) n := h1
            rw [h2]
            have h3 := logF_len (s.log.take j) n
            rw [List.length_take] at h3
            omega)
          obtain ⟨x0, _⟩ := HRM.out.wait hu
          have HRQ := Lib.hid (HRM.out.row n u M hu hM)
          have hub : ¬ OwnO u b9 := fun h => HNO.out (.inr ⟨n, u, hu, h⟩)
          have hug : ¬ OwnO u g2 := HRM.out.f1 n u hu
          have hgl := heap_some_lt HRM.out.box
          obtain ⟨A1, c1, hsh⟩ := HRQ.out.shape
          subst hsh
          have hl1 : ¬ (n : Int) < 0 := by omega
          have hl2 : ¬ 31 < (n : Int) := by omega
          have hl3 : ¬ es ≤ z := by omega
          clear hu hM hup hslot hnode
          go_upto_region 28 with fail
          have hc9 : ∀ (q : KLater (OwnO (.slice A1 M.length c1)) w21) (o : Nat), q.w.cell? ⟨b9, o, none⟩ = w21.cell? ⟨b9, o, none⟩ := fun q o => q.cell b9 o hb9 hub
          have hcg : ∀ (q : KLater (OwnO (.slice A1 M.length c1)) w21) (o : Nat), q.w.cell? ⟨g2, o, none⟩ = w21.cell? ⟨g2, o, none⟩ := fun q o => q.cell g2 o hgl hug
          refine wp_region_st 13 [11] (AppG (.slice A1 M.length c1) [f] M w21 127 128) [127, 128] (AppG.start HRQ.out) (by kernel_rfl) (by kernel_rfl) (by kernel_rfl) (by kernel_rfl) (by kernel_rfl) (by kernel_rfl) (by kernel_rfl) ?_
          simp only [List.take_succ_cons, List.take_zero, List.drop_succ_cons, List.drop_zero]
          repeat (refine st_plain (fun h => h.1) (by rfl) (by rfl) (by rfl) (by rfl) (by rfl) ?_; intro K hK; go_big_quiet_op; go_big_quiet_on)
          refine st_new (s := 127) (mk := fun w => .slice (some ⟨w.heap.size, 0, none⟩) 1 1) (ob := fun _ => .cells (frC f).toArray 30) (by rfl) (by rfl) (by rfl) (by rfl) (by rfl) (by rfl) (fun _ => by kernel_rfl) (AppG.one (by decide)) ?_
          simp only [Act.put, List.setIfInBounds_toArray, List.set_cons_succ, List.set_cons_zero]
          refine st_app (ts := 124) (tx := 127) (tr := 128) (L := M) (M := [f]) flat_fr frC_len frC_one 0 (by rfl) (by rfl) (by rfl) (by rfl) (by rfl) (by rfl) (by rfl) (by decide) (by decide) (by rfl) (fun xs w x hG hx => ?_) (by have := HML.out; simp; omega) (fun xs w v' w' hG => AppG.app xs w v' w' hG) ?_
          · rcases hG.2 with ⟨_, _, h1, h2⟩ | ⟨h0, _⟩
            · exact ⟨h1, h2 x hx⟩
            · cases h0
          simp only [Act.put, List.setIfInBounds_toArray, List.set_cons_succ, List.set_cons_zero]
          refine st_plain (fun h => h.1) (by rfl) (by rfl) (by rfl) (by rfl) (by rfl) ?_
          intro K hK
          go_big_quiet_op
          go_big_quiet_on
          intro ys xs w22 hF h22
          have e128 := hF 128 (by simp)
          obtain ⟨hkp, hG⟩ := h22
          rcases hG with ⟨h0, _⟩ | ⟨_, v', hv', hq, hg⟩
          · cases h0
          obtain ⟨g3, o3, cap3, rfl⟩ := hq.form
          rw [e128] at hv'
          have hy := Option.some.inj hv'
          simp only [secFill, hy]
          simp only [Act.put, List.setIfInBounds_toArray, List.set_cons_succ, List.set_cons_zero]
          obtain ⟨q1, q2, q3⟩ := HRM.out.set HU.out hq hkp hg
          have hzk : g2 < w22.heap.size := Nat.lt_of_lt_of_le hgl hkp.size
          have t0 : w22.cell? ⟨g2, n, none⟩ = some (.slice A1 M.length c1) := (hkp.cell (p := ⟨g2, n, none⟩) hgl hug).trans x0
          have t1 : w22.frozen? ⟨g2, n, none⟩ = false := (hkp.frozen (p := ⟨g2, n, none⟩) hgl hug).trans (HRM.out.wait HU.out).2
          have HJ2 : Hid (Sent2 wo g2 (ws.set n (.slice (some ⟨g3, o3, none⟩) (M.length + 1) cap3)) (S.set n (M ++ [f])) s.log (j + 1) es s.sl (w22.setCell ⟨g2, n, none⟩ (.slice (some ⟨g3, o3, none⟩) (M.length + 1) cap3))) := by
            have hb21 : Below wo.heap.size wo w21 := fbelow_t HJ.out.below HAL.out
            refine Lib.hid ⟨q2.below hb21 hb21.size HJ.out.new, q1, fun k hk => ?_, by rw [List.length_set]; exact HJ.out.len, HSTEP.out n M rfl hn2 HM.out, HRI.out, HUP.out.1.2⟩
            rcases q3 k hk with h2 | h2
            · exact HJ.out.new k h2
            · exact Nat.le_trans hb21.size h2
          clear hF e128 hv' hy q1 q2 q3 hq hg hkp hcg hc9 a0 a1 a2 a3 a4 a5 x0
          go_wp2
          go_roundw
          case rel => exact ⟨j + 1, es, _, _, by omega, by go_num, rfl, HJ2⟩
          case measure => simp [intOf]; omega
        · obtain rfl : j = s.log.length := by omega
          have H3 := Lib.hid HJ.out.three
          have HEQ := Lib.hid HJ.out.eq
          have HSL := Lib.hid HJ.out.len
          have hzs := HJ.out.up.2
          have HON := Lib.hid HS.out.on
          rw [List.take_length] at HEQ
          have hN2 : (s.N.length : Int) ≤ 32 := by have := HS.out.ok.n2; omega
          have hN1 : (1 : Int) ≤ (s.N.length : Int) := by have := HS.out.ok.n1; omega
          go_wp2_with fail
          go_loopw [17] (fun i wr => ∃ m : Nat, 1 ≤ m ∧ m ≤ s.N.length ∧ i = .int .i64 m ∧ Hid (Sent3 wo g2 ws S m wr)) (fun i _ => s.N.length - (intOf i).toNat)
          case atStart => exact ⟨1, by omega, by omega, rfl, H3⟩
          case round =>
            obtain ⟨m, hm1, hm, rfl, HM3⟩ := hrel
            have HSm := Lib.hid (HS.out.later HA.out.obj HM3.out.below)
            go_wp2_with fail
            refine (HA.out.nodes HSm.out.pr.a.inv).mono ?_
            rintro e w30 ⟨rfl, hb30⟩
            have HM4 := Lib.hid (HM3.out.later hb30)
            clear hb30
            by_cases hmt : m < s.N.length
            · have hml : (m : Int) < (s.N.length : Int) := by omega
              have hm32 : m < 32 := by omega
              have HSw := Lib.hid (HS.out.later HA.out.obj HM4.out.below)
              obtain ⟨g', wo2, hv0, hO2, hW, hrm⟩ := HSw.out.pr.b.inv
              injection hv0 with hv0
              injection hv0 with hv0
              injection hv0 with hv0
              subst hv0
              have HRM := Lib.hid hrm
              obtain ⟨u, hu⟩ : ∃ u, ws[m]? = some u := ⟨_, List.getElem?_eq_getElem (by rw [HM4.out.lenW]; exact hm32)⟩
              obtain ⟨M, hM⟩ : ∃ M, S[m]? = some M := ⟨_, List.getElem?_eq_getElem (by rw [HSL.out]; exact hm32)⟩
              obtain ⟨uo, huo⟩ : ∃ u, wo2[m]? = some u := ⟨_, List.getElem?_eq_getElem (by rw [hrm.len, hW]; exact hm32)⟩
              obtain ⟨Mo, hMo⟩ : ∃ M, W[m]? = some M := ⟨_, List.getElem?_eq_getElem (by rw [hW]; exact hm32)⟩
              obtain ⟨X, hX⟩ : ∃ X, s.W[m]? = some X := ⟨_, List.getElem?_eq_getElem (by rw [HS.out.ok.lw]; exact hmt)⟩
              have HU := Lib.hid hu
              have HXX := Lib.hid hX
              have HSUM : Hid (M ++ X = Mo) := Lib.hid (by
                have h1 := HON.out.row m hm1 hmt
                have h2 := HEQ.out m hm32
                simp only [List.getD_eq_getElem?_getD, hM, hMo, hX] at h1 h2
                have h3 : M = logF s.log m := h2
                rw [h3]
                exact h1)
              have hown : ∀ k, OwnO u k → wo.heap.size ≤ k := fun k hk => HM4.out.new k (.inr ⟨m, u, hu, hk⟩)
              have HRQ := Lib.hid (HM4.out.row m u M (Nat.le_refl _) hu hM)
              have hub : ∀ k, k < wo.heap.size → ¬ OwnO u k := fun k h1 h2 => by have := hown k h2; omega
              have hgo : g < wo.heap.size := (rowsI_obj 32).lt HS.out.pr.b.inv g (by rw [hO2]; exact .inl rfl)
              have HUO : Hid (RowQ frC 4 w30 uo Mo ∧ ∀ k, OwnO uo k → ¬ OwnO u k) := Lib.hid ⟨hrm.row m uo Mo huo hMo, fun k h1 => hub k ((rowsI_obj 32).lt HS.out.pr.b.inv k (by rw [hO2]; exact .inr ⟨m, uo, huo, h1⟩))⟩
              have HIN : Hid (I w30 v s O1 ∧ ∀ k, O1 k → ¬ OwnO u k) := Lib.hid ⟨HSw.out.pr.a.inv, fun k h1 => hub k (HA.out.obj.lt HS.out.pr.a.inv k h1)⟩
              have x0 : w30.cell? ⟨g2, m, none⟩ = some u := by rw [Lib.cell_of_heap HM4.out.box]; simpa using hu
              have y0 := (hrm.wait huo).1
              have hug : ¬ OwnO u g2 := HM4.out.f1 m u hu
              have hgl2 := heap_some_lt HM4.out.box
              have hgl := heap_some_lt hrm.box
              have hug0 := hub g hgo
              have HML : Hid (M.length + X.length ≤ 1000000) := Lib.hid (by
                have h1 := HLE.out Mo (List.mem_of_getElem? hMo)
                rw [← HSUM.out, List.length_append] at h1
                omega)
              obtain ⟨A1, c1, hsh⟩ := HRQ.out.shape
              subst hsh
              obtain ⟨A2, c2, hsh⟩ := HUO.out.1.shape
              subst hsh
              clear hu hM huo hMo hX hrm hO2 hW hown hub hgo
              go_upto_region 33 with fail
              have hc2 : ∀ (q : KLater (OwnO (.slice A1 M.length c1)) w30) (o : Nat), q.w.cell? ⟨g2, o, none⟩ = w30.cell? ⟨g2, o, none⟩ := fun q o => q.cell g2 o hgl2 hug
              have hcg : ∀ (q : KLater (OwnO (.slice A1 M.length c1)) w30) (o : Nat), q.w.cell? ⟨g, o, none⟩ = w30.cell? ⟨g, o, none⟩ := fun q o => q.cell g o hgl hug0
              refine wp_region_st 13 [7] (AppG (.slice A1 M.length c1) X M w30 143 144) [143, 144] (AppG.start HRQ.out) (by kernel_rfl) (by kernel_rfl) (by kernel_rfl) (by kernel_rfl) (by kernel_rfl) (by kernel_rfl) (by kernel_rfl) ?_
              simp only [List.take_succ_cons, List.take_zero, List.drop_succ_cons, List.drop_zero]
              repeat (refine st_plain (fun h => h.1) (by rfl) (by rfl) (by rfl) (by rfl) (by rfl) ?_; intro K hK; go_big_quiet_op; go_big_quiet_on)
              refine st_callF (f := 16) (args := #[v, .int .i64 (m : Int)]) (by rfl) (by rfl) (by rfl) (by rfl) (by rfl) (by rfl) (fun w => by simp [go_sem]) (fun j xs w' hG => ?_) ?_
              · have hin := HA.out.obj.stay HIN.out.1 (fun k hk => hG.1.block k (HA.out.obj.lt HIN.out.1 k hk) (HIN.out.2 k hk))
                refine (HA.out.waits m X hin HXX.out).mono ?_
                rintro e w'' ⟨y, he, ⟨hy, hs⟩, hb⟩
                exact ⟨y, he, hG.wait (by decide) hb hy hs⟩
              simp only [Act.put, List.setIfInBounds_toArray, List.set_cons_succ, List.set_cons_zero]
              refine st_app (ts := 140) (tx := 143) (tr := 144) (L := M) (M := X) flat_fr frC_len frC_one 0 (by rfl) (by rfl) (by rfl) (by rfl) (by rfl) (by rfl) (by rfl) (by decide) (by decide) (by rfl) (fun xs w x hG hx => ?_) HML.out (fun xs w v' w' hG => AppG.app xs w v' w' hG) ?_
              · rcases hG.2 with ⟨_, _, h1, h2⟩ | ⟨h0, _⟩
                · exact ⟨h1, h2 x hx⟩
                · cases h0
              simp only [Act.put, List.setIfInBounds_toArray, List.set_cons_succ, List.set_cons_zero]
              repeat (refine st_plain (fun h => h.1) (by rfl) (by rfl) (by rfl) (by rfl) (by rfl) ?_; intro K hK; go_big_quiet_op; go_big_quiet_on)
              refine st_callR (v := .bool true) (by rfl) (by rfl) (by rfl) (fun j xs a w' hG hlk => ?_) ?_
              · have h144 := hlk 144 (by decide)
                have h148 := hlk 148 (by decide)
                rw [if_pos (by decide)] at h144
                rw [if_neg (by decide)] at h148
                rcases hG.2 with ⟨_, h0, _⟩ | ⟨_, v', h1, h2, _⟩
                · rw [h0] at h144; cases h144
                · rw [h144] at h1
                  have h3 := Option.some.inj h1
                  refine ⟨22, #[a.tmps.getD 144 undef, a.tmps.getD 148 undef], by simp [go_sem], ?_⟩
                  rw [h148, h3]
                  rw [HSUM.out] at h2
                  have hmx : Mo.length ≤ maxLen := by rw [← HSUM.out, List.length_append]; have := HML.out; unfold maxLen; omega
                  have h5 : RowQ frC 4 w' (.slice A2 Mo.length c2) Mo := HUO.out.1.stay (fun k hk => hG.1.block k (HUO.out.1.lt k hk) (HUO.out.2 k hk)) hG.1.size
                  refine (fsame_t w' (h2.sl frC_len hmx) (h5.sl frC_len hmx)).mono ?_
                  rintro e w'' ⟨rfl, n, rfl⟩
                  exact ⟨rfl, hG.later (below_drewN (Below.refl _ _) n)⟩
              simp only [Act.put, List.setIfInBounds_toArray, List.set_cons_succ, List.set_cons_zero]
              intro ys xs w31 hF h31
              have H31 := Lib.hid (HM4.out.step HSL.out HU.out h31.1)
              simp only [secFill]
              simp only [Act.put, List.setIfInBounds_toArray, List.set_cons_succ, List.set_cons_zero]
              generalize ys 143 = y143
              generalize ys 144 = y144
              clear hF h31 hc2 hcg x0 y0
              go_wp2
              go_roundw
              case rel => exact ⟨m + 1, by omega, by omega, by go_num, H31⟩
              case measure => simp [intOf]; omega
            · obtain rfl : m = s.N.length := by omega
              have HSw := Lib.hid (HS.out.later HA.out.obj HM4.out.below)
              go_wp2_with fail
              refine (HA.out.slots HSw.out.pr.a.inv).mono ?_
              rintro e w31 ⟨rfl, hb31⟩
              have HB31 := Lib.hid (fbelow_t HSw.out.pr.a.below hb31)
              clear hb31
              go_wp2_with fail
              refine (busalive HA.out _ (HA.out.tab HT.out HB31.out)).mono ?_
              rintro e w32 ⟨rfl, hb32⟩
              go_wp2
              go_ret
              exact ⟨rfl, fbelow_t HB31.out hb32⟩
end Go.Proofs.YtpgfifacfkllfaaDoor
