/- Conf: what may be may be behind whatever happens; the order of states; failures again and again. No program is meant here. Of no program: rows of whole numbers, of texts: read, gathered by append. Of no program: rows of frames. (Parted from XWirY, so that others have it without wire.) Of no program: an object behind a pointer: its calls may turn the blocks that it owns, and make new ones; all others stay. Of no program: a row of the call's own as an object: what it owns is its block; appended to, all others stay. Of no program: a frame behind an address. (Parted from XSerA.) -/
import Derived.Test.YtpgfifacfkllfaaDoorZaf
import Derived.Test.YtpgfifacfkllfaaDoorZae
import Derived.Lib.Hide
import Derived.OwnWalk
import Derived.Test.YtpgfifacfkllfaaDoorZac
import Derived.Test.YtpgfifacfkllfaaDoorZaa
import Derived.Maps.AppendAt
import Derived.Laws.AppendOwnNone
import Derived.Lib.OthersKept
namespace Go.Proofs.YtpgfifacfkllfaaDoor
open Go.RowKit
set_option linter.unusedVariables false

theorem Cf.ok_iff (c : Cf) : c.ok = true ↔ 0 ≤ c.t ∧ c.t ≤ 263 ∧ 0 ≤ c.r ∧ c.r ≤ 135 ∧ 0 ≤ c.d ∧ (c.o = true → 255 < c.t) ∧ (c.o = false → c.t ≤ 255 ∧ c.d = 0) := by
  unfold Cf.ok
  cases h : c.o <;> simp <;> omega
def cf0 : Cf := ⟨0, 0, false, 0⟩
theorem cf0_ok : cf0.ok = true := rfl
theorem Cf.do_bad {c : Cf} (h : c.ok = false) (what back : Int) : c.do_ what back = c := by unfold Cf.do_; rw [if_pos h]
theorem Cf.do_off {c : Cf} (h : c.ok = true) (ho : c.o = true) (what back : Int) : c.do_ what back = if what = 4 then c.idle back else c := by
  unfold Cf.do_; rw [if_neg (by rw [h]; decide), if_pos ho]
theorem Cf.do_on {c : Cf} (h : c.ok = true) (ho : c.o = false) (what back : Int) : c.do_ what back = if what = 0 then c.sent else if what = 1 then c.heard else if what = 2 then c.failed else if what = 3 then c.missed else c := by
  unfold Cf.do_; rw [if_neg (by rw [h]; decide), if_neg (by rw [ho]; decide)]
theorem Cf.idle_eq (c : Cf) (back : Int) : c.idle back = if (if back < 1 then 1 else back) - 1 ≤ c.d then cf0 else ⟨c.t, c.r, c.o, c.d + 1⟩ := rfl
/-- what may be may be behind whatever happens -/
theorem Cf.do_ok {c : Cf} (h : c.ok = true) (what back : Int) : (c.do_ what back).ok = true := by
  have hb := c.ok_iff.1 h
  obtain ⟨t0, t1, r0, r1, d0, ho1, ho0⟩ := hb
  cases ho : c.o
  · rw [Cf.do_on h ho]
    have := ho0 ho
    split
    · rw [Cf.ok_iff]; unfold Cf.sent; split <;> simp [ho] <;> omega
    · split
      · rw [Cf.ok_iff]; unfold Cf.heard; split
        · simp [ho]; omega
        · split <;> simp [ho] <;> omega
      · split
        · rw [Cf.ok_iff]; unfold Cf.failed; simp [ho]; omega
        · split
          · rw [Cf.ok_iff]; unfold Cf.missed; simp [ho]; split <;> omega
          · exact h
  · rw [Cf.do_off h ho]
    split
    · rw [Cf.idle_eq]
      by_cases hb : (if back < 1 then 1 else back) - 1 ≤ c.d
      · rw [if_pos hb]; rfl
      · rw [if_neg hb, Cf.ok_iff]
        have := ho1 ho
        simp [ho]; omega
    · exact h
theorem Cf.do_same_ok (c : Cf) (what back : Int) : (c.do_ what back).ok = c.ok := by
  cases h : c.ok
  · rw [Cf.do_bad h, h]
  · exact Cf.do_ok h what back
/-- who gets off does so by Failed alone -/
theorem Cf.gets_off {c : Cf} {what back : Int} (h : c.ok = true) (ho : c.o = false) (ho' : (c.do_ what back).o = true) : what = 2 := by
  rw [Cf.do_on h ho] at ho'
  apply Classical.byContradiction
  intro hw
  rw [if_neg hw] at ho'
  unfold Cf.sent Cf.heard Cf.missed at ho'
  split at ho'
  · split at ho' <;> simp [ho] at ho'
  · split at ho'
    · split at ho'
      · simp [ho] at ho'
      · split at ho' <;> simp [ho] at ho'
    · split at ho' <;> simp [ho] at ho'
/-- who is off stays so, or is one idle slot further, or comes back -/
theorem Cf.was_off {c : Cf} (what back : Int) (h : c.ok = true) (ho : c.o = true) :
    (what ≠ 4 ∧ c.do_ what back = c) ∨ (what = 4 ∧ (if back < 1 then 1 else back) - 1 ≤ c.d ∧ c.do_ what back = cf0) ∨ (what = 4 ∧ c.d < (if back < 1 then 1 else back) - 1 ∧ c.do_ what back = ⟨c.t, c.r, true, c.d + 1⟩) := by
  rw [Cf.do_off h ho]
  by_cases hw : what = 4
  · rw [if_pos hw, Cf.idle_eq]
    by_cases hb : (if back < 1 then 1 else back) - 1 ≤ c.d
    · rw [if_pos hb]; exact .inr (.inl ⟨hw, hb, rfl⟩)
    · rw [if_neg hb, ho]; exact .inr (.inr ⟨hw, by omega, rfl⟩)
  · rw [if_neg hw]; exact .inl ⟨hw, rfl⟩
/-- the order of states -/
theorem Cf.state_ok {c : Cf} (h : c.ok = true) : c.state = if c.o then 3 else if 127 < c.t ∨ 127 < c.r then 2 else if 95 < c.t ∨ 95 < c.r then 1 else 0 := by unfold Cf.state; rw [if_pos h]
theorem Cf.state_le {c e : Cf} (h : c.ok = true) (h' : e.ok = true) (ho : c.o = true → e.o = true) (ht : c.t ≤ e.t) (hr : c.r ≤ e.r ∨ (c.r = 119 ∧ 127 < e.r)) : c.state ≤ e.state := by
  rw [Cf.state_ok h, Cf.state_ok h']
  cases hc : c.o <;> cases he : e.o
  · simp only [Bool.false_eq_true, if_false]
    split <;> split <;> (try split) <;> (try split) <;> omega
  · simp only [Bool.false_eq_true, if_false, if_true]
    split <;> (try split) <;> omega
  · rw [ho hc] at he; cases he
  · simp
theorem Cf.order (c : Cf) (back : Int) : (c.do_ 0 back).state ≤ c.state ∧ (c.do_ 1 back).state ≤ c.state ∧ c.state ≤ (c.do_ 2 back).state ∧ c.state ≤ (c.do_ 3 back).state := by
  cases h : c.ok
  · rw [Cf.do_bad h, Cf.do_bad h, Cf.do_bad h, Cf.do_bad h]; omega
  · obtain ⟨t0, t1, r0, r1, d0, ho1, ho0⟩ := c.ok_iff.1 h
    cases ho : c.o
    · refine ⟨Cf.state_le (Cf.do_ok h _ _) h ?_ ?_ ?_, Cf.state_le (Cf.do_ok h _ _) h ?_ ?_ ?_, Cf.state_le h (Cf.do_ok h _ _) ?_ ?_ ?_, Cf.state_le h (Cf.do_ok h _ _) ?_ ?_ ?_⟩ <;> rw [Cf.do_on h ho]
      · unfold Cf.sent; simp [ho]; split <;> simp [ho]
      · unfold Cf.sent; simp; split <;> simp; omega
      · unfold Cf.sent; simp; left; split <;> simp
      · unfold Cf.heard; simp; split <;> (try split) <;> simp [ho]
      · unfold Cf.heard; simp; split <;> (try split) <;> simp
      · unfold Cf.heard; simp
        split
        · right; simp; omega
        · left; split <;> simp; omega
      · simp [ho]
      · show c.t ≤ c.t + 8; omega
      · unfold Cf.failed; simp
      · simp [ho]
      · unfold Cf.missed; simp
      · unfold Cf.missed; simp; left; split <;> omega
    · rw [Cf.do_off h ho, Cf.do_off h ho, Cf.do_off h ho, Cf.do_off h ho]; simp
/-- failures again and again -/
def failN (k : Nat) : Cf := if k ≤ 31 then ⟨8 * k, 0, false, 0⟩ else ⟨256, 0, true, 0⟩
theorem failN_ok (k : Nat) : (failN k).ok = true := by
  unfold failN
  split
  · rw [Cf.ok_iff]; simp; omega
  · rfl
theorem failN_succ (k : Nat) (back : Int) : (failN k).do_ 2 back = failN (k + 1) := by
  have h := failN_ok k
  by_cases hk : k ≤ 31
  · have e : failN k = ⟨8 * k, 0, false, 0⟩ := by unfold failN; rw [if_pos hk]
    rw [Cf.do_on h (by rw [e]), e, if_neg (by decide), if_neg (by decide), if_pos rfl]
    unfold Cf.failed failN
    by_cases h31 : k = 31
    · subst h31; rfl
    · rw [if_pos (show k + 1 ≤ 31 by omega)]
      simp
      omega
  · have e : failN k = ⟨256, 0, true, 0⟩ := by unfold failN; rw [if_neg hk]
    rw [Cf.do_off h (by rw [e]), e, if_neg (by decide)]
    unfold failN
    rw [if_neg (show ¬ k + 1 ≤ 31 by omega)]
theorem failN_state (k : Nat) : (2 ≤ (failN k).state ↔ 16 ≤ k) := by
  rw [Cf.state_ok (failN_ok k)]
  unfold failN
  by_cases hk : k ≤ 31
  · rw [if_pos hk]
    simp
    split
    · omega
    · split <;> omega
  · rw [if_neg hk]
    simp
    omega
theorem failN_off (k : Nat) : (failN k).o = decide (32 ≤ k) := by
  unfold failN
  split
  · rw [decide_eq_false (by omega)]
  · rw [decide_eq_true (by omega)]
/-- and idle slots behind them -/
def idleN (k : Nat) (back i : Nat) : Cf := if k ≤ 31 then failN k else if i < back then ⟨256, 0, true, i⟩ else cf0
theorem idleN_zero (k back : Nat) (hb : 1 ≤ back) : idleN k back 0 = failN k := by
  unfold idleN failN
  by_cases hk : k ≤ 31
  · rw [if_pos hk, if_pos hk]
  · rw [if_neg hk, if_neg hk, if_pos (by omega)]; rfl
theorem idleN_ok (k back i : Nat) : (idleN k back i).ok = true := by
  unfold idleN
  split
  · exact failN_ok k
  · split
    · rw [Cf.ok_iff]; simp
    · rfl
theorem idleN_succ (k back i : Nat) (hi : i < back) : (idleN k back i).do_ 4 back = idleN k back (i + 1) := by
  have h := idleN_ok k back i
  by_cases hk : k ≤ 31
  · have e : idleN k back i = failN k := by unfold idleN; rw [if_pos hk]
    have e2 : idleN k back (i + 1) = failN k := by unfold idleN; rw [if_pos hk]
    rw [e2, Cf.do_on h (by rw [e, failN_off, decide_eq_false (by omega)]), e]
    simp
  · have e : idleN k back i = ⟨256, 0, true, i⟩ := by unfold idleN; rw [if_neg hk, if_pos hi]
    rw [Cf.do_off h (by rw [e]), e, if_pos rfl, Cf.idle_eq, if_neg (show ¬ ((back : Int) < 1) by omega)]
    unfold idleN
    rw [if_neg hk]
    by_cases h1 : i + 1 < back
    · rw [if_pos h1, if_neg (by simp; omega)]; simp
    · rw [if_neg h1, if_pos (by simp; omega)]
theorem idleN_off (k back i : Nat) : (idleN k back i).o = (decide (32 ≤ k) && decide (i < back)) := by
  unfold idleN
  by_cases hk : k ≤ 31
  · rw [if_pos hk, failN_off, decide_eq_false (by omega)]; rfl
  · rw [if_neg hk, decide_eq_true (show 32 ≤ k by omega)]
    by_cases h1 : i < back
    · rw [if_pos h1, decide_eq_true h1]; rfl
    · rw [if_neg h1, decide_eq_false h1]; rfl
end Go.Proofs.YtpgfifacfkllfaaDoor

namespace Go.Proofs.YtpgfifacfkllfaaDoor
open Go.RowKit
set_option linter.unusedVariables false

def strC (s : ByteArray) : List Value := [.string s]
def intC (n : Int) : List Value := [.int .i64 n]
theorem strC_len (s : ByteArray) : (strC s).length = 1 := rfl
theorem intC_len (n : Int) : (intC n).length = 1 := rfl
abbrev SlS (w : World) (v : Value) (L : List ByteArray) : Prop := SlG strC 1 w w.heap.size v L
abbrev SlI (w : World) (v : Value) (L : List Int) : Prop := SlG intC 1 w w.heap.size v L
abbrev GathI (B : Nat) (w0 : World) (v : Value) (L : List Int) (wr : World) : Prop := GathG 3 intC 1 B w0 v L wr
abbrev GathS (B : Nat) (w0 : World) (v : Value) (L : List ByteArray) (wr : World) : Prop := GathG 9 strC 1 B w0 v L wr
theorem SlG.at1 {α : Type} {c : α → List Value} {w : World} {B : Nat} {v : Value} {L : List α} (h : SlG c 1 w B v L) {k : Nat} (hk : k < L.length) {u : Value} (hu : c (L[k]'hk) = [u]) :
    ∃ x cap, v = .slice (some x) L.length cap ∧ x.block < B ∧ w.cell? (x.add k) = some u := by
  obtain ⟨x, cap, hv, hb, hc⟩ := h.at_ hk
  have := hc 0 u (by rw [hu]; rfl)
  rw [addr_add, Nat.mul_one, Nat.add_zero] at this
  exact ⟨x, cap, hv, hb, this⟩
theorem take_snoc {α : Type} {L : List α} {k : Nat} (h : k < L.length) : L.take (k + 1) = L.take k ++ [L[k]] := List.take_succ_eq_append_getElem h
theorem one_cell (w : World) (u : Value) (t : TypeId) : ∀ j x, [u][j]? = some x → (w.alloc (.cells #[u] t)).cell? ((⟨w.heap.size, 0, none⟩ : Addr).add j) = some x := by
  intro j x hj
  match j, hj with
  | 0, hj => simp at hj; subst hj; simp [Addr.add]

theorem info_int : (Tryd.prog.info? 3).map (fun i => (i.zero, i.size, i.bytes)) = some (some (.int .i64 0), 1, 8) := by kernel_rfl
theorem wpList_rowI {ops : Array Oper} {rest : List Oper} {o : Oper} {a : Act} {Q : Exit → Act → World → Prop} {W : World} (hgd : o.guard = none) (s x : Operand)
    (ho : o.op = .call { callee := .builtin .append, args := #[s, x], argTypes := #[71, 71] }) {B : Nat} {v : Value} {L : List Int} (hs : a.eval s = v) (hg : W.ownsRow B 3 1 v L.length (rowG intC L)) (hB : B ≤ W.heap.size)
    (g c : Nat) (e : Int) (hx : a.eval x = .slice (some ⟨g, 0, none⟩) 1 c) (hn : ∀ j u, (intC e)[j]? = some u → W.cell? ((⟨g, 0, none⟩ : Addr).add j) = some u) (hsz : L.length ≤ 1000000)
    (h : ∀ v' w', w'.ownsRow B 3 1 v' (L ++ [e]).length (rowG intC (L ++ [e])) → Below B W w' → wpList Tryd.prog ops Q rest (a.put o.dst v') w') : wpList Tryd.prog ops Q (o :: rest) a W := by
  obtain ⟨i0, hi, hz0, hz1, hz2⟩ := info_parts info_int
  refine wpList_append_own _ hgd s x 71 ho B 3 i0 _ 1 8 Tryd.underlying71 hi hz0 hz1 hz2 rfl (by decide) v L.length (rowG intC L) hs hg ⟨g, 0, none⟩ 1 c (intC e) hx rfl hn (fun u hu => ?_) ?_ ?_ hB ?_
  · simp only [intC, List.mem_cons, List.not_mem_nil, or_false] at hu
    subst hu; rfl
  · unfold maxLen; omega
  · omega
  · intro v' w' hown hgr _
    refine h v' w' ?_ ((Below.refl _ _).grown hgr hB ?_)
    · rw [List.length_append, rowG_app, rowG_one]; exact hown
    · intro k hk
      rcases hg.2 with ⟨rfl, _⟩ | ⟨g, cap, cur, rfl, hgg, _⟩
      · cases hk
      · cases hk; exact hgg
theorem info_str : (Tryd.prog.info? 9).map (fun i => (i.zero, i.size, i.bytes)) = some (some (.string (ByteArray.mk #[])), 1, 16) := by kernel_rfl
theorem GathG.slI {B : Nat} {w0 wr : World} {v : Value} {L : List Int} (h : GathI B w0 v L wr) (hm : L.length ≤ 1000000) : SlI wr v L := GathG.slice intC_len (by decide) h (by unfold maxLen; omega)
theorem GathG.slS {B : Nat} {w0 wr : World} {v : Value} {L : List ByteArray} (h : GathS B w0 v L wr) (hm : L.length ≤ 1000000) : SlS wr v L := GathG.slice strC_len (by decide) h (by unfold maxLen; omega)
def strOf : List Value → ByteArray
  | [.string s] => s
  | _ => ByteArray.mk #[]
theorem strOf_c (l : List Value) (h : FitsAll [.str] l) : strC (strOf l) = l := by
  obtain ⟨v0, l0, rfl, ⟨a0, rfl, _⟩, h0⟩ := FitsAll.cons h
  obtain rfl := FitsAll.nil h0
  rfl
def numOf : List Value → Int | [.int _ q] => q | _ => 0
theorem numOf_c (l : List Value) (h : FitsAll [.int .i64] l) : intC (numOf l) = l := by
  obtain ⟨v0, l0, rfl, ⟨a0, rfl, _⟩, h0⟩ := FitsAll.cons h
  obtain rfl := FitsAll.nil h0
  rfl
end Go.Proofs.YtpgfifacfkllfaaDoor

namespace Go.Proofs.YtpgfifacfkllfaaDoor
open Go.RowKit
set_option linter.unusedVariables false

def frC (f : Fr) : List Value := [.int .i64 f.i, .int .i64 f.n, .int .i64 f.l, .string f.d]
theorem frC_len (f : Fr) : (frC f).length = 4 := rfl
/-- the slice v reads as the frames L -/
abbrev SlF (w : World) (B : Nat) (v : Value) (L : List Fr) : Prop := SlG frC 4 w B v L
abbrev GathF (B : Nat) (w0 : World) (v : Value) (L : List Fr) (wr : World) : Prop := GathG 30 frC 4 B w0 v L wr
def frOf : List Value → Fr
  | [.int _ i, .int _ n, .int _ l, .string d] => ⟨i, n, l, d⟩
  | _ => ⟨0, 0, 0, ByteArray.mk #[]⟩
theorem frOf_c (l : List Value) (h : FitsAll [.int .i64, .int .i64, .int .i64, .str] l) : frC (frOf l) = l := by
  obtain ⟨v0, l0, rfl, ⟨a0, rfl, _⟩, h0⟩ := FitsAll.cons h
  obtain ⟨v1, l1, rfl, ⟨a1, rfl, _⟩, h1⟩ := FitsAll.cons h0
  obtain ⟨v2, l2, rfl, ⟨a2, rfl, _⟩, h2⟩ := FitsAll.cons h1
  obtain ⟨v3, l3, rfl, ⟨a3, rfl, _⟩, h3⟩ := FitsAll.cons h2
  obtain rfl := FitsAll.nil h3
  rfl
/-- what a frame's fields hold, if they came in -/
def Fr.fits (f : Fr) : Prop := (Lit.int .i64 f.i).wf = true ∧ (Lit.int .i64 f.n).wf = true ∧ (Lit.int .i64 f.l).wf = true ∧ f.d.size ≤ maxLen
theorem fr_fits {f : Fr} (h : FitsAll [.int .i64, .int .i64, .int .i64, .str] (frC f)) : f.fits := by
  obtain ⟨⟨a0, e0, h0⟩, ⟨a1, e1, h1⟩, ⟨a2, e2, h2⟩, ⟨a3, e3, h3⟩, _⟩ := h
  injection e0 with _ e0; injection e1 with _ e1; injection e2 with _ e2; injection e3 with e3
  exact ⟨by rw [e0]; exact h0, by rw [e1]; exact h1, by rw [e2]; exact h2, by rw [e3]; exact h3⟩
/-- a frame of a row, as any later world holds it -/
theorem SlF.facts {w : World} {v : Value} {L : List Fr} (h : SlF w w.heap.size v L) {k : Nat} (hk : k < L.length) : ∃ x cap, v = .slice (some x) L.length cap ∧ x.block < w.heap.size ∧ ∀ m : Later w,
    m.w.cell? (x.add (k * 4)) = some (.int .i64 (L[k]'hk).i) ∧ m.w.cell? ⟨(x.add (k * 4)).block, (x.add (k * 4)).off + 1, none⟩ = some (.int .i64 (L[k]'hk).n) ∧
    m.w.cell? ⟨(x.add (k * 4)).block, (x.add (k * 4)).off + 2, none⟩ = some (.int .i64 (L[k]'hk).l) ∧ m.w.cell? ⟨(x.add (k * 4)).block, (x.add (k * 4)).off + 3, none⟩ = some (.string (L[k]'hk).d) := by
  obtain ⟨x, cap, hv, hxb, hcell⟩ := h.at_ hk
  refine ⟨x, cap, hv, hxb, fun m => ⟨?_, ?_, ?_, ?_⟩⟩
  · exact (m.h.cell (by rw [addr_block]; exact hxb)).trans (hcell 0 _ rfl)
  · exact (m.h.cell (p := ⟨(x.add (k * 4)).block, (x.add (k * 4)).off + 1, none⟩) (by rw [addr_block]; exact hxb)).trans (hcell 1 _ rfl)
  · exact (m.h.cell (p := ⟨(x.add (k * 4)).block, (x.add (k * 4)).off + 2, none⟩) (by rw [addr_block]; exact hxb)).trans (hcell 2 _ rfl)
  · exact (m.h.cell (p := ⟨(x.add (k * 4)).block, (x.add (k * 4)).off + 3, none⟩) (by rw [addr_block]; exact hxb)).trans (hcell 3 _ rfl)
end Go.Proofs.YtpgfifacfkllfaaDoor

namespace Go.Proofs.YtpgfifacfkllfaaDoor
open Go.RowKit
set_option linter.unusedVariables false

/-- of the blocks that were there those alone may have turned that O names -/
structure Kept (O : Nat → Prop) (w w' : World) : Prop where
  os : w'.os = w.os
  tape : w'.tape = w.tape
  output : w'.output = w.output
  size : w.heap.size ≤ w'.heap.size
  block : ∀ k, k < w.heap.size → ¬ O k → w'.heap[k]? = w.heap[k]?
theorem Kept.of_below {O : Nat → Prop} {w w' : World} (h : Below w.heap.size w w') : Kept O w w' := ⟨h.os, h.tape, h.output, h.size, fun k hk _ => h.block k hk⟩
theorem Kept.refl (O : Nat → Prop) (w : World) : Kept O w w := .of_below (Below.refl _ _)
/-- what a call leaves of what the object owns: what it owned, or what is new -/
def Grows (O : Nat → Prop) (w : World) (O' : Nat → Prop) : Prop := ∀ k, O' k → O k ∨ w.heap.size ≤ k
theorem Grows.refl (O : Nat → Prop) (w : World) : Grows O w O := fun k h => .inl h
theorem Kept.trans {O O' : Nat → Prop} {w w1 w2 : World} (h : Kept O w w1) (h' : Kept O' w1 w2) (hg : Grows O w O') : Kept O w w2 :=
  ⟨h'.os.trans h.os, h'.tape.trans h.tape, h'.output.trans h.output, Nat.le_trans h.size h'.size, fun k hk hn =>
    (h'.block k (Nat.lt_of_lt_of_le hk h.size) (fun ho => by rcases hg k ho with h1 | h1; exact hn h1; omega)).trans (h.block k hk hn)⟩
theorem Grows.trans {O O' O2 : Nat → Prop} {w w1 : World} (h : Grows O w O') (h' : Grows O' w1 O2) (hs : w.heap.size ≤ w1.heap.size) : Grows O w O2 := fun k hk => by
  rcases h' k hk with h1 | h1
  · exact h k h1
  · exact .inr (Nat.le_trans hs h1)
theorem Kept.below {O : Nat → Prop} {B : Nat} {a w w' : World} (h : Kept O w w') (hb : Below B a w) (hB : B ≤ w.heap.size) (ho : ∀ k, O k → B ≤ k) : Below B a w' :=
  hb.trans ⟨h.os, h.tape, h.output, h.size, fun k hk => h.block k (by omega) (fun h1 => by have := ho k h1; omega)⟩
theorem Kept.cell {O : Nat → Prop} {w w' : World} (h : Kept O w w') {p : Addr} (hp : p.block < w.heap.size) (hn : ¬ O p.block) : w'.cell? p = w.cell? p := World.cell?_of_block (w := w) (h.block p.block hp hn)
theorem Kept.frozen {O : Nat → Prop} {w w' : World} (h : Kept O w w') {p : Addr} (hp : p.block < w.heap.size) (hn : ¬ O p.block) : w'.frozen? p = w.frozen? p := World.frozen?_of_block (w := w) (h.block p.block hp hn)

/-- an object's invariant speaks of the blocks alone that it owns, and they are there -/
structure IsObj {σ : Type} (I : World → Value → σ → (Nat → Prop) → Prop) : Prop where
  stay : ∀ {w w' : World} {v : Value} {s : σ} {O : Nat → Prop}, I w v s O → (∀ k, O k → w'.heap[k]? = w.heap[k]?) → I w' v s O
  lt : ∀ {w : World} {v : Value} {s : σ} {O : Nat → Prop}, I w v s O → ∀ k, O k → k < w.heap.size
/-- behind a call of the object's -/
def Stp {σ : Type} (I : World → Value → σ → (Nat → Prop) → Prop) (v : Value) (O : Nat → Prop) (w : World) (s' : σ) (w' : World) : Prop := ∃ O', I w' v s' O' ∧ Kept O w w' ∧ Grows O w O'
/-- what a caller knows: the object, and that what was there when the caller began is as it was -/
structure Has {σ : Type} (I : World → Value → σ → (Nat → Prop) → Prop) (w0 : World) (v : Value) (s : σ) (O : Nat → Prop) (w : World) : Prop where
  inv : I w v s O
  below : Below w0.heap.size w0 w
  new : ∀ k, O k → w0.heap.size ≤ k
section
variable {σ : Type} {I : World → Value → σ → (Nat → Prop) → Prop} {w0 w w' : World} {v : Value} {s s' : σ} {O O' : Nat → Prop}
theorem Has.step (hI : IsObj I) (h : Has I w0 v s O w) (hi : I w' v s' O') (hk : Kept O w w') (hg : Grows O w O') : Has I w0 v s' O' w' :=
  ⟨hi, hk.below h.below h.below.size h.new, fun k ho => by rcases hg k ho with h1 | h1; exact h.new k h1; exact Nat.le_trans h.below.size h1⟩
theorem Has.later (hI : IsObj I) (h : Has I w0 v s O w) (hb : Below w.heap.size w w') : Has I w0 v s O w' :=
  ⟨hI.stay h.inv (fun k hk => hb.block k (hI.lt h.inv k hk)), fbelow_t' h.below hb, h.new⟩
  where fbelow_t' {a b c : World} (h : Below a.heap.size a b) (h' : Below b.heap.size b c) : Below a.heap.size a c := h.trans (h'.mono h.size)
/-- a block of the caller's own may turn -/
theorem Has.setCell (hI : IsObj I) (h : Has I w0 v s O w) {p : Addr} (hp : w0.heap.size ≤ p.block) (hn : ¬ O p.block) (u : Value) : Has I w0 v s O (w.setCell p u) :=
  ⟨hI.stay h.inv (fun k hk => Below.heap_setCell _ _ _ _ (fun e => hn (e ▸ hk))), h.below.setCell hp u, h.new⟩
/-- a block outside what the object owns -/
theorem out_step {k : Nat} (h : k < w.heap.size) (hn : ¬ O k) (hg : Grows O w O') : ¬ O' k := fun ho => by
  rcases hg k ho with h1 | h1
  · exact hn h1
  · omega
end

/-! ### a slice that reads as L, outside of what an object owns -/
section
variable {α : Type} {c : α → List Value} {n : Nat} {w w' : World} {v : Value} {L : List α} {O O' : Nat → Prop}
def SlA (c : α → List Value) (n : Nat) (w : World) (O : Nat → Prop) (v : Value) (L : List α) : Prop :=
  ∃ A cap, v = .slice A L.length cap ∧ L.length ≤ maxLen ∧ ∀ i a, L[i]? = some a → ∃ x, A = some x ∧ x.block < w.heap.size ∧ ¬ O x.block ∧ ∀ j u, (c a)[j]? = some u → w.cell? (x.add (i * n + j)) = some u
theorem SlA.sl (h : SlA c n w O v L) : SlG c n w w.heap.size v L := by
  obtain ⟨A, cap, hv, hm, hc⟩ := h
  refine ⟨A, cap, hv, hm, fun i a ha => ?_⟩
  obtain ⟨x, h1, h2, _, h4⟩ := hc i a ha
  exact ⟨x, h1, h2, h4⟩
theorem SlA.step (h : SlA c n w O v L) (hk : Kept O w w') (hg : Grows O w O') : SlA c n w' O' v L := by
  obtain ⟨A, cap, hv, hm, hc⟩ := h
  refine ⟨A, cap, hv, hm, fun i a ha => ?_⟩
  obtain ⟨x, h1, h2, h3, h4⟩ := hc i a ha
  exact ⟨x, h1, Nat.lt_of_lt_of_le h2 hk.size, out_step h2 h3 hg, fun j u hu => (hk.cell (by rw [addr_block]; exact h2) (by rw [addr_block]; exact h3)).trans (h4 j u hu)⟩
theorem SlA.later (h : SlA c n w O v L) (hb : Below w.heap.size w w') : SlA c n w' O v L := by
  obtain ⟨A, cap, hv, hm, hc⟩ := h
  refine ⟨A, cap, hv, hm, fun i a ha => ?_⟩
  obtain ⟨x, h1, h2, h3, h4⟩ := hc i a ha
  exact ⟨x, h1, Nat.lt_of_lt_of_le h2 hb.size, h3, fun j u hu => (hb.cell (by rw [addr_block]; exact h2)).trans (h4 j u hu)⟩
/-- made by a call that leaves the object as it is: new, or old and outside -/
theorem SlA.of_sl (h : SlG c n w w.heap.size v L) (hn : ∀ x k c', v = .slice (some x) k c' → L ≠ [] → ¬ O x.block) : SlA c n w O v L := by
  obtain ⟨A, cap, hv, hm, hc⟩ := h
  refine ⟨A, cap, hv, hm, fun i a ha => ?_⟩
  obtain ⟨x, h1, h2, h4⟩ := hc i a ha
  subst h1
  exact ⟨x, rfl, h2, hn x _ _ hv (fun e => by subst e; simp at ha), h4⟩
theorem SlA.nil (c : α → List Value) (n : Nat) (w : World) (O : Nat → Prop) : SlA c n w O (.slice none 0 0) [] := ⟨none, 0, rfl, Nat.zero_le _, fun i a h => by simp at h⟩
end
end Go.Proofs.YtpgfifacfkllfaaDoor

namespace Go.Proofs.YtpgfifacfkllfaaDoor
open Go.RowKit
set_option linter.unusedVariables false

def OwnO (v : Value) : Nat → Prop := fun k => v.ownBlock = some k
def Apart (O O' : Nat → Prop) : Prop := ∀ k, O k → O' k → False
theorem Apart.symm {O O' : Nat → Prop} (h : Apart O O') : Apart O' O := fun k a b => h k b a
theorem Apart.step {O O' P : Nat → Prop} {w : World} (h : Apart O P) (hP : ∀ k, P k → k < w.heap.size) (hg : Grows O w O') : Apart O' P := fun k a b => by
  rcases hg k a with h1 | h1
  · exact h k h1 b
  · have := hP k b; omega
theorem apart_nil (O : Nat → Prop) : Apart O (OwnO (.slice none 0 0)) := fun k _ h => by cases h
theorem own_stay {base : Nat} {e : TypeId} {k n : Nat} {w w' : World} {v : Value} {xs : List Value} (h : w.ownsRow base e k v n xs) (hs : ∀ g, OwnO v g → w'.heap[g]? = w.heap[g]?) : w'.ownsRow base e k v n xs := by
  refine ⟨h.1, ?_⟩
  rcases h.2 with h0 | ⟨g, cap, cur, rfl, hb, hg, r⟩
  · exact .inl h0
  · exact .inr ⟨g, cap, cur, rfl, hb, (hs g rfl).trans hg, r⟩
theorem own_lt {base : Nat} {e : TypeId} {k n : Nat} {w : World} {v : Value} {xs : List Value} (h : w.ownsRow base e k v n xs) : ∀ g, OwnO v g → g < w.heap.size := by
  rcases h.2 with ⟨rfl, _⟩ | ⟨g, cap, cur, rfl, hb, hg, r⟩
  · intro g hg; cases hg
  · intro g' hg'
    injection hg' with e
    have e : g = g' := e
    subst e
    exact (Array.getElem?_eq_some_iff.1 hg).1
theorem own_ge {base : Nat} {e : TypeId} {k n : Nat} {w : World} {v : Value} {xs : List Value} (h : w.ownsRow base e k v n xs) : ∀ g, OwnO v g → base ≤ g := by
  rcases h.2 with ⟨rfl, _⟩ | ⟨g, cap, cur, rfl, hb, hg, r⟩
  · intro g hg; cases hg
  · intro g' hg'
    injection hg' with e
    have e : g = g' := e
    subst e
    exact hb
theorem kept_grown {w w' : World} {v : Value} (h : w.grownBy w' v.ownBlock) : Kept (OwnO v) w w' := ⟨h.os, h.tape, h.output, h.size, fun k hk hn => h.block k hk (fun e => hn e.symm)⟩
theorem grows_at {w : World} {v v' : Value} (h : v'.ownBlock = v.ownBlock ∨ v'.ownBlock = some w.heap.size) : Grows (OwnO v) w (OwnO v') := fun k hk => by
  unfold OwnO at hk ⊢
  rcases h with h | h
  · exact .inl (by rw [← h]; exact hk)
  · rw [h] at hk; injection hk with hk; exact .inr (by omega)
/-- the facts of a type that an append asks: laid flat in k cells, of so many bytes -/
def FlatE (P : Program) (T E : TypeId) (k bytes : Nat) : Prop := P.underlying T = some (.slice E) ∧ ∃ i z, P.info? E = some i ∧ i.zero = some z ∧ i.size = k ∧ i.bytes = bytes ∧ z.cells.size = k ∧ 0 < k ∧ bytes ≤ 100
section
variable {α : Type} {c : α → List Value} {k bytes : Nat} {T E : TypeId} {P : Program}
/-- a row's own cells as a list, the nil kept apart -/
def RdA (c : α → List Value) (k : Nat) (w : World) (v : Value) (L : List α) : Prop := SlG c k w w.heap.size v L ∧ (v = .slice none 0 0 ∨ ∃ x cap, v = .slice (some x) L.length cap ∧ L.length ≤ cap)
theorem rowG_cells' (hk : ∀ a, (c a).length = k) {L : List α} {j : Nat} {u : Value} (h : (rowG c L)[j]? = some u) : ∃ i r a, L[i]? = some a ∧ (c a)[r]? = some u ∧ j = i * k + r := by
  induction L generalizing j with
  | nil => simp [rowG] at h
  | cons a L ih =>
    by_cases hj : j < k
    · refine ⟨0, j, a, rfl, ?_, by simp⟩
      unfold rowG at h
      rw [List.flatMap_cons, List.getElem?_append_left (by rw [hk]; exact hj)] at h
      exact h
    · unfold rowG at h
      rw [List.flatMap_cons, List.getElem?_append_right (by rw [hk]; omega), hk] at h
      obtain ⟨i, r, b, h1, h2, h3⟩ := ih h
      refine ⟨i + 1, r, b, by simpa using h1, h2, ?_⟩
      rw [Nat.add_mul]; omega
theorem wpList_growO {ops : Array Oper} {rest : List Oper} {o : Oper} {a : Act} {Q : Exit → Act → World → Prop} {W : World} (hT : FlatE P T E k bytes) (hk : ∀ a, (c a).length = k) (hone : ∀ a, ∀ u ∈ c a, u.oneCell' = true) (hgd : o.guard = none) (s x : Operand)
    (ho : o.op = .call { callee := .builtin .append, args := #[s, x], argTypes := #[T, T] }) {B : Nat} {v u : Value} {L M : List α} (hs : a.eval s = v) (hg : W.ownsRow B E k v L.length (rowG c L)) (hB : B ≤ W.heap.size)
    (hx : a.eval x = u) (hr : RdA c k W u M) (hsz : L.length + M.length ≤ 1000000)
    (h : ∀ v' w', w'.ownsRow B E k v' (L ++ M).length (rowG c (L ++ M)) → Kept (OwnO v) W w' → Grows (OwnO v) W (OwnO v') → wpList P ops Q rest (a.put o.dst v') w') : wpList P ops Q (o :: rest) a W := by
  obtain ⟨ht, i0, z, hi, hz, hz1, hz2, hz3, hk0, hby⟩ := hT
  obtain ⟨hsl, hshape⟩ := hr
  rcases hshape with rfl | ⟨p, cp, rfl, _⟩
  · obtain ⟨A, cap, hv, _, _⟩ := hsl
    injection hv with _ hl _
    obtain rfl : M = [] := List.eq_nil_of_length_eq_zero hl.symm
    refine wpList_append_own_none hgd s x T ho B E i0 k ht hi v L.length (rowG c L) hs hg hx ?_
    exact h v W (by rw [List.append_nil]; exact hg) (Kept.refl _ _) (Grows.refl _ _)
  · have hby2 : (L.length + M.length) * bytes ≤ 1000000 * 100 := Nat.mul_le_mul hsz hby
    refine wpList_append_own_at _ hgd s x T ho B E i0 z k bytes ht hi hz hz1 hz2 hz3 hk0 v L.length (rowG c L) hs hg p M.length cp (rowG c M) hx (rowG_length hk M) (fun j u hu => ?_) (fun u hu => ?_) ?_ ?_ hB ?_
    · obtain ⟨i, r, b, h1, h2, rfl⟩ := rowG_cells' hk hu
      obtain ⟨A, cap, hv, _, hc⟩ := hsl
      injection hv with hA _ _
      subst hA
      obtain ⟨x', hx', _, hcell⟩ := hc i b h1
      injection hx' with hx'
      subst hx'
      exact hcell r u h2
    · obtain ⟨j, hj, rfl⟩ := List.getElem_of_mem hu
      obtain ⟨i, r, b, h1, h2, _⟩ := rowG_cells' hk (List.getElem?_eq_getElem hj)
      exact hone b _ (List.mem_of_getElem? h2)
    · unfold maxLen; omega
    · omega
    · intro v' w' hown hgr _ hat
      exact h v' w' (by rw [List.length_append, rowG_app]; exact hown) (kept_grown hgr) (grows_at hat)
/-- the one thing of a new block that 'append(l, x)' reads -/
theorem RdA.one (hk : ∀ a, (c a).length = k) (w : World) (b : α) (t : TypeId) {g : Nat} {w' : World} (hg : w.heap.size = g) (hw : w' = w.alloc (.cells (c b).toArray t)) : RdA c k w' (.slice (some ⟨g, 0, none⟩) 1 1) [b] := by
  subst hg hw
  refine ⟨⟨_, _, rfl, by unfold maxLen; simp, fun i a ha => ?_⟩, .inr ⟨_, _, rfl, Nat.le_refl _⟩⟩
  have hi : i = 0 := by
    rcases Nat.lt_or_ge i 1 with h | h
    · omega
    · rw [List.getElem?_eq_none (by simpa using h)] at ha; cases ha
  subst hi
  simp at ha
  subst ha
  refine ⟨_, rfl, by simp, fun j u hu => ?_⟩
  rw [Nat.zero_mul, Nat.zero_add]
  exact World.news_of_block (B := w.heap.size) (cs := (c b).toArray) (t := t) (fr := (0, 0)) (by unfold World.alloc; simp) j u (by simpa using hu)
end
end Go.Proofs.YtpgfifacfkllfaaDoor

namespace Go.Proofs.YtpgfifacfkllfaaDoor
open Go.RowKit
set_option linter.unusedVariables false

/-! ### a frame behind an address -/
def BoxF (w : World) (b : Nat) (i n l : Int) (d : ByteArray) : Prop := w.heap[b]? = some (.cells #[.int .i64 i, .int .i64 n, .int .i64 l, .string d] 30 (0, 0))
theorem BoxF.made (w : World) (i n l : Int) (d : ByteArray) : BoxF (w.alloc (.cells #[.int .i64 i, .int .i64 n, .int .i64 l, .string d] 30)) w.heap.size i n l d := by unfold BoxF World.alloc; simp
theorem BoxF.lt {w : World} {b : Nat} {i n l : Int} {d : ByteArray} (h : BoxF w b i n l d) : b < w.heap.size := (Array.getElem?_eq_some_iff.1 h).1
theorem BoxF.below {w w' : World} {b B : Nat} {i n l : Int} {d : ByteArray} (h : BoxF w b i n l d) (hb : Below B w w') (hB : b < B) : BoxF w' b i n l d := (hb.block b hB).trans h
theorem BoxF.later {w w' : World} {b : Nat} {i n l : Int} {d : ByteArray} (h : BoxF w b i n l d) (hb : Below w.heap.size w w') : BoxF w' b i n l d := h.below hb h.lt
theorem BoxF.cells {w : World} {b : Nat} {i n l : Int} {d : ByteArray} (h : BoxF w b i n l d) : w.cell? ⟨b, 0, none⟩ = some (.int .i64 i) ∧ w.cell? ⟨b, 1, none⟩ = some (.int .i64 n) ∧ w.cell? ⟨b, 2, none⟩ = some (.int .i64 l) ∧ w.cell? ⟨b, 3, none⟩ = some (.string d) := by
  unfold BoxF at h
  refine ⟨?_, ?_, ?_, ?_⟩ <;> (rw [Lib.cell_of_heap h]; rfl)
end Go.Proofs.YtpgfifacfkllfaaDoor
