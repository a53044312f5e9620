/- Of no program: a row of the call's own appended to in a region that draws: the states of the chain. Of no program: a call that makes new memory, in a region that draws, whose answer is hidden. Conf: what may be may be behind whatever happens; the order of states; failures again and again. No program is meant here. Bus, the document's side: New. Bus, the document's side: what is stored into a bus: a row that waits, the log, a node. Frame: contracts of Key, Less. Frame: alive. Frame: the walk of FrameRight. Frame: the contract of the document's Bits. Frame: the contracts of the document's KeyBits, Key. Frame: the contracts of the document's KeyBits of narrow frames, Key. Frame: the contract of the document's Key; the walk of FrameKeys. Of no program: a frame behind an address. (Parted from XSerA.) Bus, the document's side: Offer. -/
import Derived.Test.YtpljlpfoalcfmaaZaf
import Derived.Test.YtpljlpfoalcfmaaZac
import Derived.Test.YtpljlpfoalcfmaaZae
import Derived.Deep.RegionWith
import Derived.Test.YtpljlpfoalcfmaaZab
import Derived.OpenShut
import Derived.OwnWalk
import Derived.IntWalk
import Derived.Lib.OthersKept
namespace Go.Proofs.Ytpljlpfoalcfmaa
open Go.RowKit
set_option linter.unusedVariables false

section
variable {α : Type} {c : α → List Value} {kk : Nat} {u : Value} {X L : List α} {W w w' : World} {tx tr : Tmp} {j : Nat} {xs : Tmp → Option Value}
def AppQ (c : α → List Value) (kk : Nat) (u : Value) (X L : List α) (W : World) (tx tr : Tmp) (j : Nat) (xs : Tmp → Option Value) (w : World) : Prop :=
  Kept (OwnO u) W w ∧ ((j = 0 ∧ xs tr = none ∧ RowQ c kk w u L ∧ ∀ x, xs tx = some x → RdA c kk w x X) ∨ (j = 1 ∧ ∃ v', xs tr = some v' ∧ RowQ c kk w v' (L ++ X) ∧ Grows (OwnO u) W (OwnO v')))
theorem AppQ.start (h : RowQ c kk W u L) : AppQ c kk u X L W tx tr 0 (fun _ => none) W.drew :=
  ⟨.of_below (Below.refl _ _).drew, .inl ⟨rfl, rfl, h.later (Below.refl _ _).drew, fun x hx => by cases hx⟩⟩
theorem AppQ.one {f : α} {t : TypeId} (hkk : ∀ a, (c a).length = kk) (hne : tr ≠ tx) (j : Nat) (xs : Tmp → Option Value) (w : World) (h : AppQ c kk u [f] L W tx tr j xs w) :
    AppQ c kk u [f] L W tx tr j (fun t => if t = tx then some (.slice (some ⟨w.heap.size, 0, none⟩) 1 1) else xs t) (w.alloc (.cells (c f).toArray t)) := by
  have hb : Below w.heap.size w (w.alloc (.cells (c f).toArray t)) := (Below.refl _ _).alloc (Nat.le_refl _) _
  obtain ⟨h1, h2⟩ := h
  refine ⟨h1.trans (.of_below (O := OwnO u) hb) (Grows.refl _ _), ?_⟩
  rcases h2 with ⟨rfl, h0, h3, h4⟩ | ⟨rfl, v', h3, h4, h5⟩
  · refine .inl ⟨rfl, by simp only; rw [if_neg hne]; exact h0, h3.later hb, fun x hx => ?_⟩
    simp at hx
    rw [← hx]
    exact RdA.one hkk w f t rfl rfl
  · exact .inr ⟨rfl, v', by simp only; rw [if_neg hne]; exact h3, h4.later hb, h5⟩
theorem AppQ.app (xs : Tmp → Option Value) (w : World) (v' : Value) (w' : World) (h : AppQ c kk u X L W tx tr 0 xs w) (hq : RowQ c kk w' v' (L ++ X)) (hk : Kept (OwnO u) w w') (hg : Grows (OwnO u) w (OwnO v')) :
    AppQ c kk u X L W tx tr 1 (fun t => if t = tr then some v' else xs t) w' := by
  obtain ⟨h1, _⟩ := h
  refine ⟨h1.trans hk (Grows.refl _ _), .inr ⟨rfl, v', by simp, hq, fun k hk' => ?_⟩⟩
  rcases hg k hk' with h2 | h2
  · exact .inl h2
  · exact .inr (Nat.le_trans h1.size h2)
theorem AppQ.rd (xs : Tmp → Option Value) (w : World) (x : Value) (h : AppQ c kk u X L W tx tr 0 xs w) (hx : xs tx = some x) : RowQ c kk w u L ∧ RdA c kk w x X := by
  rcases h.2 with ⟨_, _, h1, h2⟩ | ⟨h0, _⟩
  · exact ⟨h1, h2 x hx⟩
  · cases h0
theorem AppQ.out {v : Value} (h : AppQ c kk u X L W tx tr 1 xs w) (hv : xs tr = some v) : Kept (OwnO u) W w ∧ RowQ c kk w v (L ++ X) ∧ Grows (OwnO u) W (OwnO v) := by
  obtain ⟨h1, h2⟩ := h
  rcases h2 with ⟨h0, _⟩ | ⟨_, v', h3, h4, h5⟩
  · cases h0
  · rw [hv] at h3
    injection h3 with h3
    subst h3
    exact ⟨h1, h4, h5⟩
end
end Go.Proofs.Ytpljlpfoalcfmaa

namespace Go.Proofs.Ytpljlpfoalcfmaa
open Go.RowKit
set_option linter.unusedVariables false
theorem sec_callF {P : Program} {ops : Array Oper} {W : World} {sec : List Tmp} {F : Tmp → Value → World → Prop} {o : Oper} {h : Act} {rest : List Oper} {Q : Act → Prop} {s : Tmp} {f : FuncId} {args : Array Value}
    (hw : Region.wanted o (yielded ops h.tmps) = true) (hn : noSel o = true) (hl : secOpenL ops sec o = true) (hd : o.dst = some s) (hs : sec.contains s = true)
    (hrun : ∀ w, (execOp h.eval o).run P w = .ok (.enter f args) w) (hc : ∀ q : Later W, Calls P f args q.w fun e w'' => ∃ u, e = .returned u ∧ Below q.w.heap.size q.w w'' ∧ F s u w'')
    (hk : wpSec P ops W sec F Q rest (h.put o.dst undef)) : wpSec P ops W sec F Q (o :: rest) h := by
  unfold wpSec
  rw [if_pos hw]
  refine ⟨undef, fun a w hb hlk => ?_, hk⟩
  rw [eval_open hl (noSel_spec hn) hlk, hrun w]
  refine ⟨rfl, (hc ⟨w, hb⟩).mono ?_⟩
  rintro e w'' ⟨u, he, hb', hF⟩
  refine ⟨u, he, hb', ?_⟩
  unfold secGood
  rw [hd]
  simp only
  rw [if_pos (by simpa using hs)]
  exact hF
/-- an operation that lays a new block, whose place is hidden, and which is newer than the region -/
theorem sec_fresh {P : Program} {ops : Array Oper} {W : World} {sec : List Tmp} {F : Tmp → Value → World → Prop} {o : Oper} {h : Act} {rest : List Oper} {Q : Act → Prop} {s : Tmp} {mk : World → Value} {ob : World → Obj} (hw : Region.wanted o (yielded ops h.tmps) = true) (hn : noSel o = true) (hl : secOpenL ops sec o = true) (hd : o.dst = some s) (hs : sec.contains s = true)
    (hrun : ∀ w, (execOp h.eval o).run P w = .ok (.value (mk w)) (w.alloc (ob w))) (hF : ∀ w, Below W.heap.size W w → F s (mk w) (w.alloc (ob w))) (hk : wpSec P ops W sec F Q rest (h.put o.dst undef)) : wpSec P ops W sec F Q (o :: rest) h := by
  unfold wpSec
  rw [if_pos hw]
  refine ⟨undef, fun a w hb hlk => ?_, hk⟩
  rw [eval_open hl (noSel_spec hn) hlk, hrun w]
  refine ⟨(Below.refl _ _).alloc (Nat.le_refl _) _, ?_⟩
  unfold secGood
  rw [hd]
  simp only
  rw [if_pos (by simpa using hs)]
  exact hF w hb
/-- a call that reads hidden slots, by their facts, makes new memory alone, and answers v -/
theorem sec_callR {P : Program} {ops : Array Oper} {W : World} {sec : List Tmp} {F : Tmp → Value → World → Prop} {o : Oper} {h : Act} {rest : List Oper} {Q : Act → Prop} {v : Value}
    (hw : Region.wanted o (yielded ops h.tmps) = true) (hd : secOpenD sec o = true)
    (hrun : ∀ (a : Act) (w : World), Below W.heap.size W w → secLooks ops sec F o h a w → ∃ f args, (execOp a.eval o).run P w = .ok (.enter f args) w ∧ Calls P f args w fun e w' => e = .returned v ∧ Below w.heap.size w w')
    (hk : wpSec P ops W sec F Q rest (h.put o.dst v)) : wpSec P ops W sec F Q (o :: rest) h := by
  unfold wpSec
  rw [if_pos hw]
  refine ⟨v, fun a w hb hlk => ?_, hk⟩
  obtain ⟨f, args, he, hc⟩ := hrun a w hb hlk
  rw [he]
  refine ⟨rfl, hc.mono ?_⟩
  rintro e w'' ⟨rfl, hb'⟩
  exact ⟨v, rfl, hb', good_open hd rfl⟩
end Go.Proofs.Ytpljlpfoalcfmaa

namespace Go.Proofs.Ytpljlpfoalcfmaa
open Go.RowKit
set_option linter.unusedVariables false

theorem Cf.ok_iff (c : Cf) : c.ok = true ↔ 0 ≤ c.t ∧ c.t ≤ 263 ∧ 0 ≤ c.r ∧ c.r ≤ 135 ∧ 0 ≤ c.d ∧ (c.o = true → 255 < c.t) ∧ (c.o = false → c.t ≤ 255 ∧ c.d = 0) := by
  unfold Cf.ok
  cases h : c.o <;> simp <;> omega
def cf0 : Cf := ⟨0, 0, false, 0⟩
theorem cf0_ok : cf0.ok = true := rfl
theorem Cf.do_bad {c : Cf} (h : c.ok = false) (what back : Int) : c.do_ what back = c := by unfold Cf.do_; rw [if_pos h]
theorem Cf.do_off {c : Cf} (h : c.ok = true) (ho : c.o = true) (what back : Int) : c.do_ what back = if what = 4 then c.idle back else c := by
  unfold Cf.do_; rw [if_neg (by rw [h]; decide), if_pos ho]
theorem Cf.do_on {c : Cf} (h : c.ok = true) (ho : c.o = false) (what back : Int) : c.do_ what back = if what = 0 then c.sent else if what = 1 then c.heard else if what = 2 then c.failed else if what = 3 then c.missed else c := by
  unfold Cf.do_; rw [if_neg (by rw [h]; decide), if_neg (by rw [ho]; decide)]
theorem Cf.idle_eq (c : Cf) (back : Int) : c.idle back = if (if back < 1 then 1 else back) - 1 ≤ c.d then cf0 else ⟨c.t, c.r, c.o, c.d + 1⟩ := rfl
/-- what may be may be behind whatever happens -/
theorem Cf.do_ok {c : Cf} (h : c.ok = true) (what back : Int) : (c.do_ what back).ok = true := by
  have hb := c.ok_iff.1 h
  obtain ⟨t0, t1, r0, r1, d0, ho1, ho0⟩ := hb
  cases ho : c.o
  · rw [Cf.do_on h ho]
    have := ho0 ho
    split
    · rw [Cf.ok_iff]; unfold Cf.sent; split <;> simp [ho] <;> omega
    · split
      · rw [Cf.ok_iff]; unfold Cf.heard; split
        · simp [ho]; omega
        · split <;> simp [ho] <;> omega
      · split
        · rw [Cf.ok_iff]; unfold Cf.failed; simp [ho]; omega
        · split
          · rw [Cf.ok_iff]; unfold Cf.missed; simp [ho]; split <;> omega
          · exact h
  · rw [Cf.do_off h ho]
    split
    · rw [Cf.idle_eq]
      by_cases hb : (if back < 1 then 1 else back) - 1 ≤ c.d
      · rw [if_pos hb]; rfl
      · rw [if_neg hb, Cf.ok_iff]
        have := ho1 ho
        simp [ho]; omega
    · exact h
theorem Cf.do_same_ok (c : Cf) (what back : Int) : (c.do_ what back).ok = c.ok := by
  cases h : c.ok
  · rw [Cf.do_bad h, h]
  · exact Cf.do_ok h what back
/-- who gets off does so by Failed alone -/
theorem Cf.gets_off {c : Cf} {what back : Int} (h : c.ok = true) (ho : c.o = false) (ho' : (c.do_ what back).o = true) : what = 2 := by
  rw [Cf.do_on h ho] at ho'
  apply Classical.byContradiction
  intro hw
  rw [if_neg hw] at ho'
  unfold Cf.sent Cf.heard Cf.missed at ho'
  split at ho'
  · split at ho' <;> simp [ho] at ho'
  · split at ho'
    · split at ho'
      · simp [ho] at ho'
      · split at ho' <;> simp [ho] at ho'
    · split at ho' <;> simp [ho] at ho'
/-- who is off stays so, or is one idle slot further, or comes back -/
theorem Cf.was_off {c : Cf} (what back : Int) (h : c.ok = true) (ho : c.o = true) :
    (what ≠ 4 ∧ c.do_ what back = c) ∨ (what = 4 ∧ (if back < 1 then 1 else back) - 1 ≤ c.d ∧ c.do_ what back = cf0) ∨ (what = 4 ∧ c.d < (if back < 1 then 1 else back) - 1 ∧ c.do_ what back = ⟨c.t, c.r, true, c.d + 1⟩) := by
  rw [Cf.do_off h ho]
  by_cases hw : what = 4
  · rw [if_pos hw, Cf.idle_eq]
    by_cases hb : (if back < 1 then 1 else back) - 1 ≤ c.d
    · rw [if_pos hb]; exact .inr (.inl ⟨hw, hb, rfl⟩)
    · rw [if_neg hb, ho]; exact .inr (.inr ⟨hw, by omega, rfl⟩)
  · rw [if_neg hw]; exact .inl ⟨hw, rfl⟩
/-- the order of states -/
theorem Cf.state_ok {c : Cf} (h : c.ok = true) : c.state = if c.o then 3 else if 127 < c.t ∨ 127 < c.r then 2 else if 95 < c.t ∨ 95 < c.r then 1 else 0 := by unfold Cf.state; rw [if_pos h]
theorem Cf.state_le {c e : Cf} (h : c.ok = true) (h' : e.ok = true) (ho : c.o = true → e.o = true) (ht : c.t ≤ e.t) (hr : c.r ≤ e.r ∨ (c.r = 119 ∧ 127 < e.r)) : c.state ≤ e.state := by
  rw [Cf.state_ok h, Cf.state_ok h']
  cases hc : c.o <;> cases he : e.o
  · simp only [Bool.false_eq_true, if_false]
    split <;> split <;> (try split) <;> (try split) <;> omega
  · simp only [Bool.false_eq_true, if_false, if_true]
    split <;> (try split) <;> omega
  · rw [ho hc] at he; cases he
  · simp
theorem Cf.order (c : Cf) (back : Int) : (c.do_ 0 back).state ≤ c.state ∧ (c.do_ 1 back).state ≤ c.state ∧ c.state ≤ (c.do_ 2 back).state ∧ c.state ≤ (c.do_ 3 back).state := by
  cases h : c.ok
  · rw [Cf.do_bad h, Cf.do_bad h, Cf.do_bad h, Cf.do_bad h]; omega
  · obtain ⟨t0, t1, r0, r1, d0, ho1, ho0⟩ := c.ok_iff.1 h
    cases ho : c.o
    · refine ⟨Cf.state_le (Cf.do_ok h _ _) h ?_ ?_ ?_, Cf.state_le (Cf.do_ok h _ _) h ?_ ?_ ?_, Cf.state_le h (Cf.do_ok h _ _) ?_ ?_ ?_, Cf.state_le h (Cf.do_ok h _ _) ?_ ?_ ?_⟩ <;> rw [Cf.do_on h ho]
      · unfold Cf.sent; simp [ho]; split <;> simp [ho]
      · unfold Cf.sent; simp; split <;> simp; omega
      · unfold Cf.sent; simp; left; split <;> simp
      · unfold Cf.heard; simp; split <;> (try split) <;> simp [ho]
      · unfold Cf.heard; simp; split <;> (try split) <;> simp
      · unfold Cf.heard; simp
        split
        · right; simp; omega
        · left; split <;> simp; omega
      · simp [ho]
      · show c.t ≤ c.t + 8; omega
      · unfold Cf.failed; simp
      · simp [ho]
      · unfold Cf.missed; simp
      · unfold Cf.missed; simp; left; split <;> omega
    · rw [Cf.do_off h ho, Cf.do_off h ho, Cf.do_off h ho, Cf.do_off h ho]; simp
/-- failures again and again -/
def failN (k : Nat) : Cf := if k ≤ 31 then ⟨8 * k, 0, false, 0⟩ else ⟨256, 0, true, 0⟩
theorem failN_ok (k : Nat) : (failN k).ok = true := by
  unfold failN
  split
  · rw [Cf.ok_iff]; simp; omega
  · rfl
theorem failN_succ (k : Nat) (back : Int) : (failN k).do_ 2 back = failN (k + 1) := by
  have h := failN_ok k
  by_cases hk : k ≤ 31
  · have e : failN k = ⟨8 * k, 0, false, 0⟩ := by unfold failN; rw [if_pos hk]
    rw [Cf.do_on h (by rw [e]), e, if_neg (by decide), if_neg (by decide), if_pos rfl]
    unfold Cf.failed failN
    by_cases h31 : k = 31
    · subst h31; rfl
    · rw [if_pos (show k + 1 ≤ 31 by omega)]
      simp
      omega
  · have e : failN k = ⟨256, 0, true, 0⟩ := by unfold failN; rw [if_neg hk]
    rw [Cf.do_off h (by rw [e]), e, if_neg (by decide)]
    unfold failN
    rw [if_neg (show ¬ k + 1 ≤ 31 by omega)]
theorem failN_state (k : Nat) : (2 ≤ (failN k).state ↔ 16 ≤ k) := by
  rw [Cf.state_ok (failN_ok k)]
  unfold failN
  by_cases hk : k ≤ 31
  · rw [if_pos hk]
    simp
    split
    · omega
    · split <;> omega
  · rw [if_neg hk]
    simp
    omega
theorem failN_off (k : Nat) : (failN k).o = decide (32 ≤ k) := by
  unfold failN
  split
  · rw [decide_eq_false (by omega)]
  · rw [decide_eq_true (by omega)]
/-- and idle slots behind them -/
def idleN (k : Nat) (back i : Nat) : Cf := if k ≤ 31 then failN k else if i < back then ⟨256, 0, true, i⟩ else cf0
theorem idleN_zero (k back : Nat) (hb : 1 ≤ back) : idleN k back 0 = failN k := by
  unfold idleN failN
  by_cases hk : k ≤ 31
  · rw [if_pos hk, if_pos hk]
  · rw [if_neg hk, if_neg hk, if_pos (by omega)]; rfl
theorem idleN_ok (k back i : Nat) : (idleN k back i).ok = true := by
  unfold idleN
  split
  · exact failN_ok k
  · split
    · rw [Cf.ok_iff]; simp
    · rfl
theorem idleN_succ (k back i : Nat) (hi : i < back) : (idleN k back i).do_ 4 back = idleN k back (i + 1) := by
  have h := idleN_ok k back i
  by_cases hk : k ≤ 31
  · have e : idleN k back i = failN k := by unfold idleN; rw [if_pos hk]
    have e2 : idleN k back (i + 1) = failN k := by unfold idleN; rw [if_pos hk]
    rw [e2, Cf.do_on h (by rw [e, failN_off, decide_eq_false (by omega)]), e]
    simp
  · have e : idleN k back i = ⟨256, 0, true, i⟩ := by unfold idleN; rw [if_neg hk, if_pos hi]
    rw [Cf.do_off h (by rw [e]), e, if_pos rfl, Cf.idle_eq, if_neg (show ¬ ((back : Int) < 1) by omega)]
    unfold idleN
    rw [if_neg hk]
    by_cases h1 : i + 1 < back
    · rw [if_pos h1, if_neg (by simp; omega)]; simp
    · rw [if_neg h1, if_pos (by simp; omega)]
theorem idleN_off (k back i : Nat) : (idleN k back i).o = (decide (32 ≤ k) && decide (i < back)) := by
  unfold idleN
  by_cases hk : k ≤ 31
  · rw [if_pos hk, failN_off, decide_eq_false (by omega)]; rfl
  · rw [if_neg hk, decide_eq_true (show 32 ≤ k by omega)]
    by_cases h1 : i < back
    · rw [if_pos h1, decide_eq_true h1]; rfl
    · rw [if_neg h1, decide_eq_false h1]; rfl
end Go.Proofs.Ytpljlpfoalcfmaa

namespace Go.Proofs.Ytpljlpfoalcfmaa
open Go.RowKit
set_option linter.unusedVariables false


def bsNew (n : Nat) (back : Int) : Bs := ⟨List.replicate n cf0, List.replicate n [], back, false, 0, []⟩
def nodesN (n : Int) : Nat := if n < 1 then 1 else if 32 < n then 32 else n.toNat
theorem made_rep (z : Array Value) (n : Nat) (hz : 0 < z.size) : madeCells z (n * z.size) = ((List.replicate n z.toList).flatten).toArray := by
  apply Array.ext'
  rw [List.toList_toArray]
  apply List.ext_getElem?
  intro i
  unfold madeCells
  simp only [Array.toList_map, Array.toList_range, List.getElem?_map]
  have hl : ∀ n, ((List.replicate n z.toList).flatten).length = n * z.size := by
    intro n
    induction n with
    | zero => simp
    | succ n ih => rw [List.replicate_succ, List.flatten_cons, List.length_append, ih, Nat.add_mul]; simp; omega
  have hg : ∀ n i, i < n * z.size → ((List.replicate n z.toList).flatten)[i]? = z[i % z.size]? := by
    intro n
    induction n with
    | zero => intro i hi; omega
    | succ n ih =>
      intro i hi
      rw [List.replicate_succ, List.flatten_cons]
      by_cases h : i < z.size
      · rw [List.getElem?_append_left (by simpa using h), Nat.mod_eq_of_lt h]; simp
      · rw [List.getElem?_append_right (by simp; omega)]
        rw [Nat.add_mul] at hi
        have := ih (i - z.size) (by omega)
        simp only [Array.length_toList]
        rw [this, Nat.mod_eq_sub_mod (show i ≥ z.size by omega)]
  by_cases hi : i < n * z.size
  · rw [hg n i hi, List.getElem?_range hi]
    have hm : i % z.size < z.size := Nat.mod_lt _ hz
    simp [hm]
  · rw [List.getElem?_eq_none (by simp; omega), List.getElem?_eq_none (by rw [hl]; omega)]; rfl
theorem rep_conf (n : Nat) : madeCells (Value.agg #[.int .i64 0, .int .i64 0, .bool false, .int .i64 0]).cells (n * 4) = (rowG cfC (List.replicate n cf0)).toArray := by
  have h := made_rep #[.int .i64 0, .int .i64 0, .bool false, .int .i64 0] n (by decide)
  have e : (Value.agg #[.int .i64 0, .int .i64 0, .bool false, .int .i64 0]).cells = #[.int .i64 0, .int .i64 0, .bool false, .int .i64 0] := by kernel_rfl
  rw [e]
  refine Eq.trans h ?_
  congr 1
  unfold rowG
  rw [List.flatMap_def, List.map_replicate]
  rfl
theorem rep_fs (n : Nat) : madeCells (Value.slice none 0 0).cells (n * 1) = (List.replicate n (Value.slice none 0 0)).toArray := by
  have h := made_rep #[Value.slice none 0 0] n (by decide)
  refine Eq.trans h ?_
  congr 1
  clear h
  induction n with
  | zero => rfl
  | succ n ih => rw [List.replicate_succ, List.flatten_cons, ih, List.replicate_succ]; rfl
theorem three_blocks (w : World) (A B C : Obj) : (((w.alloc A).alloc B).alloc C).drew.heap[w.heap.size]? = some A ∧ (((w.alloc A).alloc B).alloc C).drew.heap[w.heap.size + 1]? = some B ∧ (((w.alloc A).alloc B).alloc C).drew.heap[w.heap.size + 1 + 1]? = some C ∧ Below w.heap.size w (((w.alloc A).alloc B).alloc C).drew := by
  have s1 : (w.alloc A).heap.size = w.heap.size + 1 := by simp
  have s2 : ((w.alloc A).alloc B).heap.size = w.heap.size + 1 + 1 := by simp
  have n1 := heap_alloc_new w A
  have n2 := heap_alloc_new (w.alloc A) B
  have n3 := heap_alloc_new ((w.alloc A).alloc B) C
  rw [s1] at n2
  rw [s2] at n3
  refine ⟨?_, ?_, n3, ?_⟩
  · show (((w.alloc A).alloc B).alloc C).heap[w.heap.size]? = _
    rw [Below.heap_alloc _ _ _ (by omega), Below.heap_alloc _ _ _ (by omega)]
    exact n1
  · show (((w.alloc A).alloc B).alloc C).heap[w.heap.size + 1]? = _
    rw [Below.heap_alloc _ _ _ (by omega)]
    exact n2
  · exact ((((Below.refl _ w).alloc (Nat.le_refl _) A).alloc (by omega) B).alloc (by omega) C).drew
end Go.Proofs.Ytpljlpfoalcfmaa

namespace Go.Proofs.Ytpljlpfoalcfmaa
open Go.RowKit
set_option linter.unusedVariables false

theorem busO_set {w : World} {b gn gw : Nat} {ws : List Value} {vl : Value} {i : Nat} {u v' : Value} (hu : ws[i]? = some u) (hg : Grows (OwnO u) w (OwnO v')) : Grows (busO b gn gw ws vl) w (busO b gn gw (ws.set i v') vl) := by
  rintro k (h | h | h | ⟨j, x, hx, hk⟩ | h)
  · exact .inl (.inl h)
  · exact .inl (.inr (.inl h))
  · exact .inl (.inr (.inr (.inl h)))
  · rw [List.getElem?_set] at hx
    split at hx
    · split at hx
      · injection hx with hx
        subst hx
        rcases hg k hk with h1 | h1
        · exact .inl (.inr (.inr (.inr (.inl ⟨i, u, hu, h1⟩))))
        · exact .inr h1
      · cases hx
    · exact .inl (.inr (.inr (.inr (.inl ⟨j, x, hx, hk⟩))))
  · exact .inl (.inr (.inr (.inr (.inr h))))
/-- a node's four cells are stored -/
def putN (w : World) (g i : Nat) (c : Cf) : World := (((w.setCell ⟨g, i * 4, none⟩ (.int .i64 c.t)).setCell ⟨g, i * 4 + 1, none⟩ (.int .i64 c.r)).setCell ⟨g, i * 4 + 2, none⟩ (.bool c.o)).setCell ⟨g, i * 4 + 3, none⟩ (.int .i64 c.d)
theorem rowG_setC (c : Cf) : ∀ (N : List Cf) (i : Nat), i < N.length → ((((rowG cfC N).set (i * 4) (.int .i64 c.t)).set (i * 4 + 1) (.int .i64 c.r)).set (i * 4 + 2) (.bool c.o)).set (i * 4 + 3) (.int .i64 c.d) = rowG cfC (N.set i c)
  | [], i, h => by cases h
  | a :: N, 0, h => rfl
  | a :: N, i + 1, h => by
    have ih := rowG_setC c N i (by simpa using h)
    have e : rowG cfC (a :: N) = cfC a ++ rowG cfC N := by simp [rowG]
    have e2 : rowG cfC ((a :: N).set (i + 1) c) = cfC a ++ rowG cfC (N.set i c) := by simp [rowG]
    rw [e, e2, ← ih]
    have l : (cfC a).length = 4 := rfl
    rw [List.set_append_right _ _ (by rw [l]; omega), List.set_append_right _ _ (by rw [l]; omega), List.set_append_right _ _ (by rw [l]; omega), List.set_append_right _ _ (by rw [l]; omega), l]
    congr 1
    rw [show (i + 1) * 4 - 4 = i * 4 by omega, show (i + 1) * 4 + 1 - 4 = i * 4 + 1 by omega, show (i + 1) * 4 + 2 - 4 = i * 4 + 2 by omega, show (i + 1) * 4 + 3 - 4 = i * 4 + 3 by omega]
theorem putN_other {w : World} {g i k : Nat} {c : Cf} (h : k ≠ g) : (putN w g i c).heap[k]? = w.heap[k]? := by
  unfold putN
  rw [Below.heap_setCell _ _ _ _ h, Below.heap_setCell _ _ _ _ h, Below.heap_setCell _ _ _ _ h, Below.heap_setCell _ _ _ _ h]
theorem putN_size (w : World) (g i : Nat) (c : Cf) : (putN w g i c).heap.size = w.heap.size := by unfold putN; simp [World.setCell]
theorem putN_kept {w : World} {b gn gw i : Nat} {ws : List Value} {vl : Value} {c : Cf} : Kept (busO b gn gw ws vl) w (putN w gn i c) :=
  ⟨rfl, rfl, rfl, by rw [putN_size]; exact Nat.le_refl _, fun k _ h => putN_other (fun e => h (.inr (.inl e)))⟩
end Go.Proofs.Ytpljlpfoalcfmaa

namespace Go.Proofs.Ytpljlpfoalcfmaa
open Go.RowKit
set_option linter.unusedVariables false

/-- -1, or a frame's key -/
def keyV (i n l : Int) (sz : Nat) : Int := if okF i n l sz && !fX n then keyN i n else -1

theorem wraps_i64 (n : Int) (h₀ : 0 ≤ n) (h₁ : n < 2 ^ 63) : IntKind.i64.wrap n = n := by rw [IntKind.wrap_i64]; omega
theorem or_join (x y : Int) (i : Nat) (hx₀ : 0 ≤ x) (hx : x % 2 ^ i = 0) (hx₁ : x < 9223372036854775808) (hy₀ : 0 ≤ y) (hy : y < 2 ^ i) (hy₁ : y < 9223372036854775808) : bits .or .i64 x y = x + y :=
  bits_join .i64 63 (by decide) wraps_i64 i x y hx₀ hx (by omega) hy₀ hy (by omega)
theorem narrow_or (i R D : Int) (i0 : 0 ≤ i) (i1 : i ≤ 2047) (r0 : 0 ≤ R) (r1 : R ≤ 1) (d0 : 0 ≤ D) (d1 : D ≤ 1) :
    bits .or .i64 (bits .or .i64 (i * 4194304) (R * 2097152)) D = i * 4194304 + R * 2097152 + D := by
  rw [or_join (i * 4194304) (R * 2097152) 22 (by omega) (by omega) (by omega) (by omega) (by omega) (by omega)]
  exact or_join _ D 1 (by omega) (by omega) (by omega) d0 (by omega) (by omega)
theorem wide_or (a b R D : Int) (a0 : 0 ≤ a) (a1 : a ≤ 2047) (b0 : 0 ≤ b) (b1 : b < 262144) (r0 : 0 ≤ R) (r1 : R ≤ 1) (d0 : 0 ≤ D) (d1 : D ≤ 1) :
    bits .or .i64 (bits .or .i64 (bits .or .i64 (bits .or .i64 (a * 4194304) 3145728) (b * 4)) (R * 2)) D = a * 4194304 + 3145728 + b * 4 + R * 2 + D := by
  rw [or_join (a * 4194304) 3145728 22 (by omega) (by omega) (by omega) (by omega) (by omega) (by omega)]
  rw [or_join (a * 4194304 + 3145728) (b * 4) 20 (by omega) (by omega) (by omega) (by omega) (by omega) (by omega)]
  rw [or_join (a * 4194304 + 3145728 + b * 4) (R * 2) 2 (by omega) (by omega) (by omega) (by omega) (by omega) (by omega)]
  exact or_join _ D 1 (by omega) (by omega) (by omega) d0 (by omega) (by omega)
theorem and18 (x : Int) (h0 : 0 ≤ x) (h1 : x ≤ 536870911) : bits .and .i64 x 262143 = x % 262144 :=
  bits_mask .i64 63 (by decide) wraps_i64 18 (by decide) x h0 (by omega)
theorem b01_bd (q : Bool) : 0 ≤ b01 q ∧ b01 q ≤ 1 := by cases q <;> decide
/-! ### Less -/
def lessB (a b : Int) : Bool := decide (0 ≤ a) && decide (a < b)
end Go.Proofs.Ytpljlpfoalcfmaa

namespace Go.Proofs.Ytpljlpfoalcfmaa
open Go.RowKit
set_option linter.unusedVariables false

def s12 : ByteArray := ⟨#[1, 2]⟩
/-! ### FrameSizes -/
theorem codeN_bd (n : Int) : -1 ≤ codeN n ∧ codeN n < 16 := by unfold codeN; (repeat' split) <;> omega
theorem lens_nn : ∀ k : Fin 16, 0 ≤ lens.getD k.val 0 := by decide
theorem codeN_len {k : Nat} (hk : k < 16) : codeN (lenAt k) = k := code_at ⟨k, hk⟩
end Go.Proofs.Ytpljlpfoalcfmaa

namespace Go.Proofs.Ytpljlpfoalcfmaa
open Go.RowKit
set_option linter.unusedVariables false

end Go.Proofs.Ytpljlpfoalcfmaa

namespace Go.Proofs.Ytpljlpfoalcfmaa
open Go.RowKit
set_option linter.unusedVariables false

/-- n, halved k times -/
def hv (n : Int) (k : Nat) : Int := n / 2 ^ k
theorem hv_zero (n : Int) : hv n 0 = n := by unfold hv; simp
theorem hv_succ (n : Int) (k : Nat) : hv n (k + 1) = hv n k / 2 := by
  unfold hv
  rw [Int.pow_succ, Int.ediv_ediv_of_nonneg (by exact Int.le_of_lt (Int.pow_pos (by decide)))]
theorem hv_bd {n : Int} (h : 0 ≤ n) (k : Nat) : 0 ≤ hv n k ∧ hv n k ≤ n := by
  unfold hv
  have hp : (0 : Int) < 2 ^ k := Int.pow_pos (by decide)
  exact ⟨Int.ediv_nonneg h (Int.le_of_lt hp), Int.ediv_le_self _ h⟩
/-- bit i of m, from the highest on -/
def fbitB (n : Int) (m i : Nat) : Bool := decide (hv n (m - 1 - i) % 2 = 1)
def bitsL (n : Int) (m k : Nat) : List Bool := (List.range k).map (fbitB n m)
theorem bitsL_succ (n : Int) (m k : Nat) : bitsL n m (k + 1) = bitsL n m k ++ [fbitB n m k] := by unfold bitsL; rw [List.range_succ]; simp
theorem bitsL_len (n : Int) (m k : Nat) : (bitsL n m k).length = k := by simp [bitsL]

def boolRow (l : List Bool) : List Value := l.map Value.bool
theorem boolRow_app (a b : List Bool) : boolRow (a ++ b) = boolRow a ++ boolRow b := by simp [boolRow]

theorem info_bool : (Try.prog.info? 4).map (fun i => (i.zero, i.size, i.bytes)) = some (some (.bool false), 1, 1) := by kernel_rfl
theorem fnews_one (w : World) (v : Value) (t : TypeId) : ∀ j u, [v][j]? = some u → (w.alloc (.cells #[v] t)).cell? ((⟨w.heap.size, 0, none⟩ : Addr).add j) = some u := by
  intro j u hj
  have : j = 0 := by
    rcases Nat.lt_or_ge j 1 with h | h
    · omega
    · rw [List.getElem?_eq_none (by simpa using h)] at hj; cases hj
  subst this
  simp only [List.getElem?_cons_zero, Option.some.injEq] at hj
  subst hj
  simp [Addr.add, World.cell?_alloc_at _ _ _ _ rfl]
theorem fnews_two (w : World) (v u : Value) (t : TypeId) : ∀ j x, [v, u][j]? = some x → (w.alloc (.cells #[v, u] t)).cell? ((⟨w.heap.size, 0, none⟩ : Addr).add j) = some x := by
  intro j x hj
  rcases Nat.lt_or_ge j 2 with h | h
  · rcases (show j = 0 ∨ j = 1 by omega) with rfl | rfl
    · simp only [List.getElem?_cons_zero, Option.some.injEq] at hj
      subst hj
      simp [Addr.add, World.cell?_alloc_at _ _ _ _ rfl]
    · simp only [List.getElem?_cons_succ, List.getElem?_cons_zero, Option.some.injEq] at hj
      subst hj
      simp [Addr.add, World.cell?_alloc_at _ _ _ _ rfl]
  · rw [List.getElem?_eq_none (by simpa using h)] at hj; cases hj

/-- what a loop that gathers bools knows -/
def gath (B : Nat) (w : World) (v : Value) (l : List Bool) (wr : World) : Prop :=
  wr.ownsRow B 4 1 v l.length (boolRow l) ∧ Below B w wr ∧ B ≤ wr.heap.size
def BitsPost (n : Int) (m : Nat) (w : World) (e : Ending) (w' : World) : Prop := ∃ v, e = .returned v ∧ gath w.heap.size w v (bitsL n m m) w'
def bitsRel (n : Int) (m : Nat) (w : World) (v i : Value) (wr : World) : Prop := ∃ k : Nat, k ≤ m ∧ i = .int .i64 k ∧ gath w.heap.size w v (bitsL n m k) wr
def halfRel (n : Int) (q : Nat) (x k : Value) : Prop := ∃ j : Nat, j ≤ q ∧ k = .int .i64 j ∧ x = .int .i64 (hv n j)

theorem gath_step {B : Nat} {w wr w1 : World} {v v' : Value} {l : List Bool} {b : Bool} {T : TypeId} (h : gath B w v l wr)
    (hown : w1.ownsRow B 4 1 v' (l.length + 1) (boolRow l ++ [.bool b])) (hgr : (wr.alloc (.cells #[.bool b] T)).grownBy w1 v.ownBlock) : gath B w v' (l ++ [b]) w1 := by
  obtain ⟨h1, h2, h3⟩ := h
  refine ⟨by rw [List.length_append, boolRow_app]; exact hown, (h2.alloc h3 _).grown hgr (by simp; omega) ?_, ?_⟩
  · intro k hk
    rcases h1.2 with ⟨rfl, _⟩ | ⟨g, cap, cur, rfl, hg, _⟩
    · cases hk
    · cases hk; exact hg
  · have := hgr.size; simp at this; omega

end Go.Proofs.Ytpljlpfoalcfmaa

namespace Go.Proofs.Ytpljlpfoalcfmaa
open Go.RowKit
set_option linter.unusedVariables false

theorem own_below {B : Nat} {e : TypeId} {s n : Nat} {v : Value} {xs : List Value} {w w1 : World} (h : w.ownsRow B e s v n xs) (hb : Below w.heap.size w w1) : w1.ownsRow B e s v n xs := by
  refine ⟨h.1, ?_⟩
  rcases h.2 with h0 | ⟨g, cap, cur, hv, hg, hh, r⟩
  · exact .inl h0
  · exact .inr ⟨g, cap, cur, hv, hg, by rw [hb.block _ (lt_of_heap hh)]; exact hh, r⟩
theorem gath.nil {B : Nat} {w wr : World} (h : Below B w wr) (hB : B ≤ wr.heap.size) : gath B w (.slice none 0 0) [] wr := ⟨World.ownsRow_nil _ _ _ _, h, hB⟩
theorem gath.below {B : Nat} {w wr w1 : World} {v : Value} {l : List Bool} (h : gath B w v l wr) (hb : Below wr.heap.size wr w1) : gath B w v l w1 :=
  ⟨own_below h.1 hb, h.2.1.trans (hb.mono h.2.2), Nat.le_trans h.2.2 hb.size⟩
theorem gath.alloc {B : Nat} {w wr : World} {v : Value} {l : List Bool} (h : gath B w v l wr) (o : Obj) : gath B w v l (wr.alloc o) := h.below ((Below.refl _ _).alloc (Nat.le_refl _) o)
theorem gath.drewN {B : Nat} {w wr : World} {v : Value} {l : List Bool} (h : gath B w v l wr) (n : Nat) : gath B w v l (wr.drewN n) := h.below (below_drewN (Below.refl _ _) n)
def rowAt (w : World) (g : Nat) (l : List Bool) : Prop := ∀ j u, (boolRow l)[j]? = some u → w.cell? ((⟨g, 0, none⟩ : Addr).add j) = some u
theorem gath.row {B : Nat} {w wr : World} {v : Value} {l : List Bool} (h : gath B w v l wr) (hl : 0 < l.length) : ∃ g cap, v = .slice (some ⟨g, 0, none⟩) l.length cap ∧ rowAt wr g l := by
  obtain ⟨h1, _, _⟩ := h
  rcases h1.2 with ⟨_, h0⟩ | ⟨g, cap, cur, hv, hg, hh, hc, hm, hs, ht⟩
  · omega
  · refine ⟨g, cap, hv, fun j u hj => ?_⟩
    have hjl : j < l.length := by
      have := (List.getElem?_eq_some_iff.1 hj).1
      simpa [boolRow] using this
    rw [← ht, List.getElem?_take_of_lt (by omega)] at hj
    have e : (⟨g, 0, none⟩ : Addr).add j = ⟨g, j, none⟩ := by unfold Addr.add; split <;> simp_all
    rw [e, cell_of_row _ _ _ _ _ _ hh]
    simpa using hj
theorem row_two (w : World) (a b : Bool) (t : TypeId) : rowAt (w.alloc (.cells #[.bool a, .bool b] t)) w.heap.size [a, b] := fnews_two w _ _ t
theorem row_one (w : World) (a : Bool) (t : TypeId) : rowAt (w.alloc (.cells #[.bool a] t)) w.heap.size [a] := fnews_one w _ t

def KbPost (l : List Bool) (w : World) (e : Ending) (w' : World) : Prop := ∃ v, e = .returned v ∧ gath w.heap.size w v l w'
theorem gath.base {w w' : World} {o : Obj} {v : Value} {l : List Bool} (h : gath (w.alloc o).heap.size (w.alloc o) v l w') : gath w.heap.size w v l w' := by
  obtain ⟨h1, h2, h3⟩ := h
  refine ⟨⟨h1.1, ?_⟩, fbelow_a _ h2, Nat.le_trans (by simp) h3⟩
  rcases h1.2 with h0 | ⟨g, cap, cur, hv, hg, r⟩
  · exact .inl h0
  · exact .inr ⟨g, cap, cur, hv, Nat.le_trans (by simp) hg, r⟩
theorem gath.fix {w w' : World} {o : Obj} {v : Value} {l : List Bool} (h : gath (w.heap.size + 1) (w.alloc o) v l w') : gath (w.alloc o).heap.size (w.alloc o) v l w' := by rw [World.size_alloc]; exact h
def wideL (i : Int) (r dd : Bool) : List Bool := ((((([] ++ bitsL (i / 262144) 11 11) ++ [true, true]) ++ bitsL (i % 262144) 18 18) ++ [r]) ++ [dd])
def narrowL (i : Int) (r dd : Bool) (k : Nat) : List Bool := ((([] ++ bitsL i 11 11) ++ [r, false]) ++ List.replicate k false)

end Go.Proofs.Ytpljlpfoalcfmaa

namespace Go.Proofs.Ytpljlpfoalcfmaa
open Go.RowKit
set_option linter.unusedVariables false

theorem narrowL_len (i : Int) (r dd : Bool) (k : Nat) : (narrowL i r dd k).length = 13 + k := by simp [narrowL, bitsL_len]; omega
theorem narrowL_succ (i : Int) (r dd : Bool) (k : Nat) : narrowL i r dd (k + 1) = narrowL i r dd k ++ [false] := by
  unfold narrowL; rw [List.replicate_succ']; simp
def narRel (W : World) (i : Int) (r dd : Bool) (v j : Value) (wr : World) : Prop := ∃ k : Nat, k ≤ 19 ∧ j = .int .i64 k ∧ gath W.heap.size W v (narrowL i r dd k) wr

/-! ### the number of bits -/
def valL (l : List Bool) : Int := l.foldl (fun a b => 2 * a + b01 b) 0
theorem valL_snoc (l : List Bool) (b : Bool) : valL (l ++ [b]) = 2 * valL l + b01 b := by unfold valL; rw [List.foldl_append]; rfl
theorem snoc_ind {P : List Bool → Prop} (h0 : P []) (h1 : ∀ l b, P l → P (l ++ [b])) (l : List Bool) : P l := by
  rw [← List.reverse_reverse l]
  induction l.reverse with
  | nil => exact h0
  | cons a t ih => rw [List.reverse_cons]; exact h1 _ _ ih
theorem valL_bd (l : List Bool) : 0 ≤ valL l ∧ valL l < 2 ^ l.length := by
  refine snoc_ind (P := fun l => 0 ≤ valL l ∧ valL l < 2 ^ l.length) (by simp [valL]) (fun l b ih => ?_) l
  · show 0 ≤ valL (l ++ [b]) ∧ valL (l ++ [b]) < 2 ^ (l ++ [b]).length
    rw [valL_snoc, List.length_append]
    have := b01_bd b
    have e : (2 : Int) ^ (l.length + [b].length) = 2 * 2 ^ l.length := by rw [List.length_singleton, Int.pow_succ]; omega
    omega
theorem valL_app (a b : List Bool) : valL (a ++ b) = valL a * 2 ^ b.length + valL b := by
  refine snoc_ind (P := fun b => valL (a ++ b) = valL a * 2 ^ b.length + valL b) (by simp [valL]) (fun l x ih => ?_) b
  · show valL (a ++ (l ++ [x])) = valL a * 2 ^ (l ++ [x]).length + valL (l ++ [x])
    rw [← List.append_assoc, valL_snoc, valL_snoc, ih, List.length_append]
    have e : (2 : Int) ^ (l.length + [x].length) = 2 * 2 ^ l.length := by rw [List.length_singleton, Int.pow_succ]; omega
    rw [e, Int.mul_add]
    have e2 : 2 * (valL a * 2 ^ l.length) = valL a * (2 * 2 ^ l.length) := by rw [← Int.mul_assoc, ← Int.mul_assoc, Int.mul_comm 2 (valL a)]
    omega
theorem valL_bits (n : Int) (h0 : 0 ≤ n) (m : Nat) : ∀ k, k ≤ m → valL (bitsL n m k) = hv n (m - k) % 2 ^ k
  | 0, _ => by simp [bitsL, valL]
  | k + 1, hk => by
    have ih := valL_bits n h0 m k (by omega)
    rw [bitsL_succ, valL_snoc, ih]
    have e1 : m - k = (m - (k + 1)) + 1 := by omega
    rw [e1, hv_succ]
    unfold fbitB
    rw [show m - 1 - k = m - (k + 1) by omega]
    generalize hv n (m - (k + 1)) = x
    have e : (2 : Int) ^ (k + 1) = 2 ^ k * 2 := Int.pow_succ _ _
    have hp : (0 : Int) < 2 ^ k := Int.pow_pos (by decide)
    rw [e]
    have hx : x % 2 = 0 ∨ x % 2 = 1 := by omega
    have hdm : x = 2 * (x / 2) + x % 2 := by omega
    have h3 : x % (2 ^ k * 2) = 2 * (x / 2 % 2 ^ k) + x % 2 := by
      have hq := Int.mul_ediv_add_emod (x / 2) (2 ^ k)
      have hr0 := Int.emod_nonneg (x / 2) (Int.ne_of_gt hp)
      have hr1 := Int.emod_lt_of_pos (x / 2) hp
      have h4 : x = (2 * (x / 2 % 2 ^ k) + x % 2) + (2 ^ k * 2) * (x / 2 / 2 ^ k) := by
        have h5 : (2 ^ k * 2) * (x / 2 / 2 ^ k) = 2 * (2 ^ k * (x / 2 / 2 ^ k)) := by rw [Int.mul_comm (2 ^ k) 2, Int.mul_assoc]
        omega
      have h6 : x % (2 ^ k * 2) = ((2 * (x / 2 % 2 ^ k) + x % 2) + (2 ^ k * 2) * (x / 2 / 2 ^ k)) % (2 ^ k * 2) := congrArg (· % (2 ^ k * 2)) h4
      rw [h6, Int.add_mul_emod_self_left]
      exact Int.emod_eq_of_lt (by omega) (by omega)
    rw [h3]
    rcases hx with h | h <;> simp [h, b01]

end Go.Proofs.Ytpljlpfoalcfmaa

namespace Go.Proofs.Ytpljlpfoalcfmaa
open Go.RowKit
set_option linter.unusedVariables false

theorem valL_whole {n : Int} (h0 : 0 ≤ n) (m : Nat) (h1 : n < 2 ^ m) : valL (bitsL n m m) = n := by
  rw [valL_bits n h0 m m (Nat.le_refl _), Nat.sub_self, hv_zero]
  exact Int.emod_eq_of_lt h0 h1
theorem valL_two (a b : Bool) : valL [a, b] = 2 * b01 a + b01 b := by cases a <;> cases b <;> decide
theorem valL_one (a : Bool) : valL [a] = b01 a := by cases a <;> decide
theorem valL_zeros : ∀ k : Nat, valL (List.replicate k false) = 0
  | 0 => rfl
  | k + 1 => by rw [List.replicate_succ', valL_snoc, valL_zeros k]; rfl
theorem valL_wide {i : Int} (i0 : 0 ≤ i) (i1 : i ≤ 536870911) (r dd : Bool) : valL (wideL i r dd) = i / 262144 * 4194304 + 3145728 + i % 262144 * 4 + b01 r * 2 + b01 dd := by
  unfold wideL
  rw [valL_app, valL_app, valL_app, valL_app, valL_app, valL_whole (by omega) 11 (by omega), valL_whole (by omega) 18 (by omega), valL_two, valL_one, valL_one]
  simp [valL, b01, bitsL_len]
  omega
theorem valL_narrow {i : Int} (i0 : 0 ≤ i) (i1 : i ≤ 2047) (r dd : Bool) : valL (narrowL i r dd 19 ++ [dd]) = i * 4194304 + b01 r * 2097152 + b01 dd := by
  unfold narrowL
  rw [valL_app, valL_app, valL_app, valL_app, valL_zeros, valL_whole i0 11 (by omega), valL_two, valL_one, List.length_replicate]
  simp [valL, b01]
  omega
theorem wideL_len (i : Int) (r dd : Bool) : (wideL i r dd).length = 33 := by simp [wideL, bitsL_len]
theorem narrowL_len2 (i : Int) (r dd : Bool) : (narrowL i r dd 19 ++ [dd]).length = 33 := by simp [narrowL_len]

theorem rowAt.cell {w : World} {g : Nat} {l : List Bool} (h : rowAt w g l) (k : Nat) (hk : k < l.length) : w.cell? ⟨g, k, none⟩ = some (.bool l[k]) := by
  have := h k (.bool l[k]) (by simp [boolRow, hk])
  have e : (⟨g, 0, none⟩ : Addr).add k = ⟨g, k, none⟩ := by unfold Addr.add; split <;> simp_all
  rwa [e] at this
theorem valL_take {l : List Bool} {k : Nat} (hk : k < l.length) : valL (l.take (k + 1)) = 2 * valL (l.take k) + b01 l[k] := by
  rw [List.take_succ_eq_append_getElem hk, valL_snoc]
theorem valL_take_bd {l : List Bool} {k : Nat} (h33 : l.length = 33) : 0 ≤ valL (l.take k) ∧ valL (l.take k) ≤ 8589934592 := by
  have h := valL_bd (l.take k)
  have h2 : (2 : Int) ^ (l.take k).length ≤ 2 ^ 33 := by
    have h3 : 2 ^ (l.take k).length ≤ 2 ^ 33 := Nat.pow_le_pow_right (by decide) (by rw [List.length_take]; omega)
    exact_mod_cast h3
  omega

def keyRel (L : List Bool) (a i : Value) : Prop := ∃ k : Nat, k ≤ 33 ∧ i = .int .i64 k ∧ a = .int .i64 (valL (L.take k))

end Go.Proofs.Ytpljlpfoalcfmaa

namespace Go.Proofs.Ytpljlpfoalcfmaa
open Go.RowKit
set_option linter.unusedVariables false

/-! ### a frame behind an address -/
def BoxF (w : World) (b : Nat) (i n l : Int) (d : ByteArray) : Prop := w.heap[b]? = some (.cells #[.int .i64 i, .int .i64 n, .int .i64 l, .string d] 30 (0, 0))
theorem BoxF.made (w : World) (i n l : Int) (d : ByteArray) : BoxF (w.alloc (.cells #[.int .i64 i, .int .i64 n, .int .i64 l, .string d] 30)) w.heap.size i n l d := by unfold BoxF World.alloc; simp
theorem BoxF.lt {w : World} {b : Nat} {i n l : Int} {d : ByteArray} (h : BoxF w b i n l d) : b < w.heap.size := (Array.getElem?_eq_some_iff.1 h).1
theorem BoxF.below {w w' : World} {b B : Nat} {i n l : Int} {d : ByteArray} (h : BoxF w b i n l d) (hb : Below B w w') (hB : b < B) : BoxF w' b i n l d := (hb.block b hB).trans h
theorem BoxF.later {w w' : World} {b : Nat} {i n l : Int} {d : ByteArray} (h : BoxF w b i n l d) (hb : Below w.heap.size w w') : BoxF w' b i n l d := h.below hb h.lt
theorem BoxF.cells {w : World} {b : Nat} {i n l : Int} {d : ByteArray} (h : BoxF w b i n l d) : w.cell? ⟨b, 0, none⟩ = some (.int .i64 i) ∧ w.cell? ⟨b, 1, none⟩ = some (.int .i64 n) ∧ w.cell? ⟨b, 2, none⟩ = some (.int .i64 l) ∧ w.cell? ⟨b, 3, none⟩ = some (.string d) := by
  unfold BoxF at h
  refine ⟨?_, ?_, ?_, ?_⟩ <;> (rw [Lib.cell_of_heap h]; rfl)
end Go.Proofs.Ytpljlpfoalcfmaa

namespace Go.Proofs.Ytpljlpfoalcfmaa
open Go.RowKit
set_option linter.unusedVariables false

/-- (behind a name: the walk would take it apart) -/
def NthV (ws : List Value) (j : Nat) (u : Value) : Prop := ws[j]? = some u
def keyG (f : Fr) : Int := keyV f.i f.n f.l f.d.size
theorem info_fr2 : (Try.prog.info? 30).map (fun i => (i.zero, i.size, i.bytes)) = some (some (.agg #[.int .i64 0, .int .i64 0, .int .i64 0, .string (ByteArray.mk #[])]), 4, 40) := by kernel_rfl
theorem frC_one : ∀ f : Fr, ∀ u ∈ frC f, u.oneCell' = true := fun f u hu => by
  simp only [frC, List.mem_cons, List.not_mem_nil, or_false] at hu
  rcases hu with rfl | rfl | rfl | rfl <;> rfl
theorem RowQ.form {α : Type} {c : α → List Value} {k : Nat} {w : World} {v : Value} {L : List α} {a : α} (h : RowQ c k w v (L ++ [a])) : ∃ g o cap, v = .slice (some ⟨g, o, none⟩) (L.length + 1) cap := by
  rcases h with ⟨_, h⟩ | ⟨g, o, cap, hv, _⟩
  · simp at h
  · exact ⟨g, o, cap, by rw [hv]; simp⟩
theorem RowQ.shape {α : Type} {c : α → List Value} {k : Nat} {w : World} {v : Value} {L : List α} (h : RowQ c k w v L) : ∃ A cap, v = .slice A L.length cap := by
  rcases h with ⟨rfl, rfl⟩ | ⟨g, o, cap, hv, _⟩
  · exact ⟨none, 0, rfl⟩
  · exact ⟨_, cap, hv⟩
def Bs.offer (s : Bs) (i : Int) (f : Fr) : Bs × Int :=
  if i < 1 ∨ (s.N.length : Int) ≤ i then (s, 2) else if keyG f < 0 then (s, 4) else if 1000 ≤ (s.W.getD i.toNat []).length then (s, 9)
  else ({ s with W := s.W.set i.toNat (s.W.getD i.toNat [] ++ [f]) }, 0)
end Go.Proofs.Ytpljlpfoalcfmaa
