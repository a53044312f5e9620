/- Of no program: a call that makes new memory, in a region that draws, whose answer is hidden. Bus, the document's side: what is stored into a bus: a row that waits, the log, a node. Of no program: a row of the call's own behind an append: what is new stays new. A row's shape. Parted out of BndB, BndC, BndD, BusD. Frame: contracts of Key, Less. Frame: alive. Frame: the walk of FrameRight. Frame: the contract of the document's Bits. Frame: the contracts of the document's KeyBits, Key. Frame: the contracts of the document's KeyBits of narrow frames, Key. Frame: the contract of the document's Key; the walk of FrameKeys. Of no program: a frame behind an address. (Parted from XSerA.) Bus, the document's side: Offer. Bus, plain: what a slot makes of a bus; what may be of a bus. No program is meant. Box, the document's side: Best. -/
import Derived.Test.YtmpikfnemhjoeaaZac
import Derived.Test.YtmpikfnemhjoeaaZae
import Derived.Test.YtmpikfnemhjoeaaZab
import Derived.OpenShut
import Derived.OwnWalk
import Derived.IntWalk
import Derived.Lib.OthersKept
import Derived.BigQuiet
import Derived.Deep.Cut
namespace Go.Proofs.Ytmpikfnemhjoeaa
open Go.RowKit
set_option linter.unusedVariables false
theorem sec_callF {P : Program} {ops : Array Oper} {W : World} {sec : List Tmp} {F : Tmp → Value → World → Prop} {o : Oper} {h : Act} {rest : List Oper} {Q : Act → Prop} {s : Tmp} {f : FuncId} {args : Array Value}
    (hw : Region.wanted o (yielded ops h.tmps) = true) (hn : noSel o = true) (hl : secOpenL ops sec o = true) (hd : o.dst = some s) (hs : sec.contains s = true)
    (hrun : ∀ w, (execOp h.eval o).run P w = .ok (.enter f args) w) (hc : ∀ q : Later W, Calls P f args q.w fun e w'' => ∃ u, e = .returned u ∧ Below q.w.heap.size q.w w'' ∧ F s u w'')
    (hk : wpSec P ops W sec F Q rest (h.put o.dst undef)) : wpSec P ops W sec F Q (o :: rest) h := by
  unfold wpSec
  rw [if_pos hw]
  refine ⟨undef, fun a w hb hlk => ?_, hk⟩
  rw [eval_open hl (noSel_spec hn) hlk, hrun w]
  refine ⟨rfl, (hc ⟨w, hb⟩).mono ?_⟩
  rintro e w'' ⟨u, he, hb', hF⟩
  refine ⟨u, he, hb', ?_⟩
  unfold secGood
  rw [hd]
  simp only
  rw [if_pos (by simpa using hs)]
  exact hF
/-- an operation that lays a new block, whose place is hidden, and which is newer than the region -/
theorem sec_fresh {P : Program} {ops : Array Oper} {W : World} {sec : List Tmp} {F : Tmp → Value → World → Prop} {o : Oper} {h : Act} {rest : List Oper} {Q : Act → Prop} {s : Tmp} {mk : World → Value} {ob : World → Obj} (hw : Region.wanted o (yielded ops h.tmps) = true) (hn : noSel o = true) (hl : secOpenL ops sec o = true) (hd : o.dst = some s) (hs : sec.contains s = true)
    (hrun : ∀ w, (execOp h.eval o).run P w = .ok (.value (mk w)) (w.alloc (ob w))) (hF : ∀ w, Below W.heap.size W w → F s (mk w) (w.alloc (ob w))) (hk : wpSec P ops W sec F Q rest (h.put o.dst undef)) : wpSec P ops W sec F Q (o :: rest) h := by
  unfold wpSec
  rw [if_pos hw]
  refine ⟨undef, fun a w hb hlk => ?_, hk⟩
  rw [eval_open hl (noSel_spec hn) hlk, hrun w]
  refine ⟨(Below.refl _ _).alloc (Nat.le_refl _) _, ?_⟩
  unfold secGood
  rw [hd]
  simp only
  rw [if_pos (by simpa using hs)]
  exact hF w hb
/-- a call that reads hidden slots, by their facts, makes new memory alone, and answers v -/
theorem sec_callR {P : Program} {ops : Array Oper} {W : World} {sec : List Tmp} {F : Tmp → Value → World → Prop} {o : Oper} {h : Act} {rest : List Oper} {Q : Act → Prop} {v : Value}
    (hw : Region.wanted o (yielded ops h.tmps) = true) (hd : secOpenD sec o = true)
    (hrun : ∀ (a : Act) (w : World), Below W.heap.size W w → secLooks ops sec F o h a w → ∃ f args, (execOp a.eval o).run P w = .ok (.enter f args) w ∧ Calls P f args w fun e w' => e = .returned v ∧ Below w.heap.size w w')
    (hk : wpSec P ops W sec F Q rest (h.put o.dst v)) : wpSec P ops W sec F Q (o :: rest) h := by
  unfold wpSec
  rw [if_pos hw]
  refine ⟨v, fun a w hb hlk => ?_, hk⟩
  obtain ⟨f, args, he, hc⟩ := hrun a w hb hlk
  rw [he]
  refine ⟨rfl, hc.mono ?_⟩
  rintro e w'' ⟨rfl, hb'⟩
  exact ⟨v, rfl, hb', good_open hd rfl⟩
end Go.Proofs.Ytmpikfnemhjoeaa

namespace Go.Proofs.Ytmpikfnemhjoeaa
open Go.RowKit
set_option linter.unusedVariables false

theorem busO_set {w : World} {b gn gw : Nat} {ws : List Value} {vl : Value} {i : Nat} {u v' : Value} (hu : ws[i]? = some u) (hg : Grows (OwnO u) w (OwnO v')) : Grows (busO b gn gw ws vl) w (busO b gn gw (ws.set i v') vl) := by
  rintro k (h | h | h | ⟨j, x, hx, hk⟩ | h)
  · exact .inl (.inl h)
  · exact .inl (.inr (.inl h))
  · exact .inl (.inr (.inr (.inl h)))
  · rw [List.getElem?_set] at hx
    split at hx
    · split at hx
      · injection hx with hx
        subst hx
        rcases hg k hk with h1 | h1
        · exact .inl (.inr (.inr (.inr (.inl ⟨i, u, hu, h1⟩))))
        · exact .inr h1
      · cases hx
    · exact .inl (.inr (.inr (.inr (.inl ⟨j, x, hx, hk⟩))))
  · exact .inl (.inr (.inr (.inr (.inr h))))
/-- a node's four cells are stored -/
def putN (w : World) (g i : Nat) (c : Cf) : World := (((w.setCell ⟨g, i * 4, none⟩ (.int .i64 c.t)).setCell ⟨g, i * 4 + 1, none⟩ (.int .i64 c.r)).setCell ⟨g, i * 4 + 2, none⟩ (.bool c.o)).setCell ⟨g, i * 4 + 3, none⟩ (.int .i64 c.d)
theorem rowG_setC (c : Cf) : ∀ (N : List Cf) (i : Nat), i < N.length → ((((rowG cfC N).set (i * 4) (.int .i64 c.t)).set (i * 4 + 1) (.int .i64 c.r)).set (i * 4 + 2) (.bool c.o)).set (i * 4 + 3) (.int .i64 c.d) = rowG cfC (N.set i c)
  | [], i, h => by cases h
  | a :: N, 0, h => rfl
  | a :: N, i + 1, h => by
    have ih := rowG_setC c N i (by simpa using h)
    have e : rowG cfC (a :: N) = cfC a ++ rowG cfC N := by simp [rowG]
    have e2 : rowG cfC ((a :: N).set (i + 1) c) = cfC a ++ rowG cfC (N.set i c) := by simp [rowG]
    rw [e, e2, ← ih]
    have l : (cfC a).length = 4 := rfl
    rw [List.set_append_right _ _ (by rw [l]; omega), List.set_append_right _ _ (by rw [l]; omega), List.set_append_right _ _ (by rw [l]; omega), List.set_append_right _ _ (by rw [l]; omega), l]
    congr 1
    rw [show (i + 1) * 4 - 4 = i * 4 by omega, show (i + 1) * 4 + 1 - 4 = i * 4 + 1 by omega, show (i + 1) * 4 + 2 - 4 = i * 4 + 2 by omega, show (i + 1) * 4 + 3 - 4 = i * 4 + 3 by omega]
theorem putN_other {w : World} {g i k : Nat} {c : Cf} (h : k ≠ g) : (putN w g i c).heap[k]? = w.heap[k]? := by
  unfold putN
  rw [Below.heap_setCell _ _ _ _ h, Below.heap_setCell _ _ _ _ h, Below.heap_setCell _ _ _ _ h, Below.heap_setCell _ _ _ _ h]
theorem putN_size (w : World) (g i : Nat) (c : Cf) : (putN w g i c).heap.size = w.heap.size := by unfold putN; simp [World.setCell]
theorem putN_kept {w : World} {b gn gw i : Nat} {ws : List Value} {vl : Value} {c : Cf} : Kept (busO b gn gw ws vl) w (putN w gn i c) :=
  ⟨rfl, rfl, rfl, by rw [putN_size]; exact Nat.le_refl _, fun k _ h => putN_other (fun e => h (.inr (.inl e)))⟩
end Go.Proofs.Ytmpikfnemhjoeaa

namespace Go.Proofs.Ytmpikfnemhjoeaa
open Go.RowKit
set_option linter.unusedVariables false

theorem own_fresh {w w1 : World} {o : Obj} {v3 : Value} {w3 : World} (hb : Below w.heap.size w w1) (hk : Kept (OwnO (.slice (some ⟨w1.heap.size, 0, none⟩) 0 0)) (w1.alloc o) w3)
    (hg : Grows (OwnO (.slice (some ⟨w1.heap.size, 0, none⟩) 0 0)) (w1.alloc o) (OwnO v3)) : Below w.heap.size w w3 ∧ ∀ g, OwnO v3 g → w.heap.size ≤ g := by
  have own : ∀ k, OwnO (.slice (some ⟨w1.heap.size, 0, none⟩) 0 0) k → k = w1.heap.size := fun k h => by
    injection h with h
    exact h.symm
  have hs := hb.size
  have ha : Below w.heap.size w (w1.alloc o) := hb.trans (((Below.refl w1.heap.size w1).alloc (Nat.le_refl _) o).mono hs)
  refine ⟨hk.below ha ha.size (fun k h => by rw [own k h]; exact hs), fun g h => ?_⟩
  rcases hg g h with h1 | h1
  · rw [own g h1]; exact hs
  · exact Nat.le_trans ha.size h1
theorem own_app {w w3 w4 : World} {o : Obj} {v3 v4 : Value} (hb : Below w.heap.size w w3) (ho : ∀ g, OwnO v3 g → w.heap.size ≤ g) (hk : Kept (OwnO v3) (w3.alloc o) w4) (hg : Grows (OwnO v3) (w3.alloc o) (OwnO v4)) : Below w.heap.size w w4 ∧ ∀ g, OwnO v4 g → w.heap.size ≤ g := by
  have ha : Below w.heap.size w (w3.alloc o) := hb.trans (((Below.refl w3.heap.size w3).alloc (Nat.le_refl _) o).mono hb.size)
  refine ⟨hk.below ha ha.size ho, fun g h => ?_⟩
  rcases hg g h with h1 | h1
  · exact ho g h1
  · exact Nat.le_trans ha.size h1
theorem own_app2 {w w3 w4 : World} {v3 v4 : Value} (hb : Below w.heap.size w w3) (ho : ∀ g, OwnO v3 g → w.heap.size ≤ g) (hk : Kept (OwnO v3) w3 w4) (hg : Grows (OwnO v3) w3 (OwnO v4)) : Below w.heap.size w w4 ∧ ∀ g, OwnO v4 g → w.heap.size ≤ g := by
  refine ⟨hk.below hb hb.size ho, fun g h => ?_⟩
  rcases hg g h with h1 | h1
  · exact ho g h1
  · exact Nat.le_trans hb.size h1
theorem RowQ.form {α : Type} {c : α → List Value} {k : Nat} {w : World} {v : Value} {L : List α} {a : α} (h : RowQ c k w v (L ++ [a])) : ∃ g o cap, v = .slice (some ⟨g, o, none⟩) (L.length + 1) cap := by
  rcases h with ⟨_, h⟩ | ⟨g, o, cap, hv, _⟩
  · simp at h
  · exact ⟨g, o, cap, by rw [hv]; simp⟩
theorem RowQ.shape {α : Type} {c : α → List Value} {k : Nat} {w : World} {v : Value} {L : List α} (h : RowQ c k w v L) : ∃ A cap, v = .slice A L.length cap := by
  rcases h with ⟨rfl, rfl⟩ | ⟨g, o, cap, hv, _⟩
  · exact ⟨none, 0, rfl⟩
  · exact ⟨_, cap, hv⟩
theorem RowQ.formN {α : Type} {c : α → List Value} {k : Nat} {w : World} {v : Value} {L : List α} (h : RowQ c k w v L) (hl : 0 < L.length) : ∃ g o cap, v = .slice (some ⟨g, o, none⟩) L.length cap := by
  rcases h with ⟨_, h⟩ | ⟨g, o, cap, hv, _⟩
  · subst h; simp at hl
  · exact ⟨g, o, cap, hv⟩
end Go.Proofs.Ytmpikfnemhjoeaa

namespace Go.Proofs.Ytmpikfnemhjoeaa
open Go.RowKit
set_option linter.unusedVariables false

/-- -1, or a frame's key -/
def keyV (i n l : Int) (sz : Nat) : Int := if okF i n l sz && !fX n then keyN i n else -1

theorem wraps_i64 (n : Int) (h₀ : 0 ≤ n) (h₁ : n < 2 ^ 63) : IntKind.i64.wrap n = n := by rw [IntKind.wrap_i64]; omega
theorem or_join (x y : Int) (i : Nat) (hx₀ : 0 ≤ x) (hx : x % 2 ^ i = 0) (hx₁ : x < 9223372036854775808) (hy₀ : 0 ≤ y) (hy : y < 2 ^ i) (hy₁ : y < 9223372036854775808) : bits .or .i64 x y = x + y :=
  bits_join .i64 63 (by decide) wraps_i64 i x y hx₀ hx (by omega) hy₀ hy (by omega)
theorem narrow_or (i R D : Int) (i0 : 0 ≤ i) (i1 : i ≤ 2047) (r0 : 0 ≤ R) (r1 : R ≤ 1) (d0 : 0 ≤ D) (d1 : D ≤ 1) :
    bits .or .i64 (bits .or .i64 (i * 4194304) (R * 2097152)) D = i * 4194304 + R * 2097152 + D := by
  rw [or_join (i * 4194304) (R * 2097152) 22 (by omega) (by omega) (by omega) (by omega) (by omega) (by omega)]
  exact or_join _ D 1 (by omega) (by omega) (by omega) d0 (by omega) (by omega)
theorem wide_or (a b R D : Int) (a0 : 0 ≤ a) (a1 : a ≤ 2047) (b0 : 0 ≤ b) (b1 : b < 262144) (r0 : 0 ≤ R) (r1 : R ≤ 1) (d0 : 0 ≤ D) (d1 : D ≤ 1) :
    bits .or .i64 (bits .or .i64 (bits .or .i64 (bits .or .i64 (a * 4194304) 3145728) (b * 4)) (R * 2)) D = a * 4194304 + 3145728 + b * 4 + R * 2 + D := by
  rw [or_join (a * 4194304) 3145728 22 (by omega) (by omega) (by omega) (by omega) (by omega) (by omega)]
  rw [or_join (a * 4194304 + 3145728) (b * 4) 20 (by omega) (by omega) (by omega) (by omega) (by omega) (by omega)]
  rw [or_join (a * 4194304 + 3145728 + b * 4) (R * 2) 2 (by omega) (by omega) (by omega) (by omega) (by omega) (by omega)]
  exact or_join _ D 1 (by omega) (by omega) (by omega) d0 (by omega) (by omega)
theorem and18 (x : Int) (h0 : 0 ≤ x) (h1 : x ≤ 536870911) : bits .and .i64 x 262143 = x % 262144 :=
  bits_mask .i64 63 (by decide) wraps_i64 18 (by decide) x h0 (by omega)
theorem b01_bd (q : Bool) : 0 ≤ b01 q ∧ b01 q ≤ 1 := by cases q <;> decide
/-! ### Less -/
def lessB (a b : Int) : Bool := decide (0 ≤ a) && decide (a < b)
end Go.Proofs.Ytmpikfnemhjoeaa

namespace Go.Proofs.Ytmpikfnemhjoeaa
open Go.RowKit
set_option linter.unusedVariables false

def s12 : ByteArray := ⟨#[1, 2]⟩
/-! ### FrameSizes -/
theorem codeN_bd (n : Int) : -1 ≤ codeN n ∧ codeN n < 16 := by unfold codeN; (repeat' split) <;> omega
theorem lens_nn : ∀ k : Fin 16, 0 ≤ lens.getD k.val 0 := by decide
theorem codeN_len {k : Nat} (hk : k < 16) : codeN (lenAt k) = k := code_at ⟨k, hk⟩
end Go.Proofs.Ytmpikfnemhjoeaa

namespace Go.Proofs.Ytmpikfnemhjoeaa
open Go.RowKit
set_option linter.unusedVariables false

end Go.Proofs.Ytmpikfnemhjoeaa

namespace Go.Proofs.Ytmpikfnemhjoeaa
open Go.RowKit
set_option linter.unusedVariables false

/-- n, halved k times -/
def hv (n : Int) (k : Nat) : Int := n / 2 ^ k
theorem hv_zero (n : Int) : hv n 0 = n := by unfold hv; simp
theorem hv_succ (n : Int) (k : Nat) : hv n (k + 1) = hv n k / 2 := by
  unfold hv
  rw [Int.pow_succ, Int.ediv_ediv_of_nonneg (by exact Int.le_of_lt (Int.pow_pos (by decide)))]
theorem hv_bd {n : Int} (h : 0 ≤ n) (k : Nat) : 0 ≤ hv n k ∧ hv n k ≤ n := by
  unfold hv
  have hp : (0 : Int) < 2 ^ k := Int.pow_pos (by decide)
  exact ⟨Int.ediv_nonneg h (Int.le_of_lt hp), Int.ediv_le_self _ h⟩
/-- bit i of m, from the highest on -/
def fbitB (n : Int) (m i : Nat) : Bool := decide (hv n (m - 1 - i) % 2 = 1)
def bitsL (n : Int) (m k : Nat) : List Bool := (List.range k).map (fbitB n m)
theorem bitsL_succ (n : Int) (m k : Nat) : bitsL n m (k + 1) = bitsL n m k ++ [fbitB n m k] := by unfold bitsL; rw [List.range_succ]; simp
theorem bitsL_len (n : Int) (m k : Nat) : (bitsL n m k).length = k := by simp [bitsL]

def boolRow (l : List Bool) : List Value := l.map Value.bool
theorem boolRow_app (a b : List Bool) : boolRow (a ++ b) = boolRow a ++ boolRow b := by simp [boolRow]

theorem info_bool : (Try.prog.info? 4).map (fun i => (i.zero, i.size, i.bytes)) = some (some (.bool false), 1, 1) := by kernel_rfl
theorem fnews_one (w : World) (v : Value) (t : TypeId) : ∀ j u, [v][j]? = some u → (w.alloc (.cells #[v] t)).cell? ((⟨w.heap.size, 0, none⟩ : Addr).add j) = some u := by
  intro j u hj
  have : j = 0 := by
    rcases Nat.lt_or_ge j 1 with h | h
    · omega
    · rw [List.getElem?_eq_none (by simpa using h)] at hj; cases hj
  subst this
  simp only [List.getElem?_cons_zero, Option.some.injEq] at hj
  subst hj
  simp [Addr.add, World.cell?_alloc_at _ _ _ _ rfl]
theorem fnews_two (w : World) (v u : Value) (t : TypeId) : ∀ j x, [v, u][j]? = some x → (w.alloc (.cells #[v, u] t)).cell? ((⟨w.heap.size, 0, none⟩ : Addr).add j) = some x := by
  intro j x hj
  rcases Nat.lt_or_ge j 2 with h | h
  · rcases (show j = 0 ∨ j = 1 by omega) with rfl | rfl
    · simp only [List.getElem?_cons_zero, Option.some.injEq] at hj
      subst hj
      simp [Addr.add, World.cell?_alloc_at _ _ _ _ rfl]
    · simp only [List.getElem?_cons_succ, List.getElem?_cons_zero, Option.some.injEq] at hj
      subst hj
      simp [Addr.add, World.cell?_alloc_at _ _ _ _ rfl]
  · rw [List.getElem?_eq_none (by simpa using h)] at hj; cases hj

/-- what a loop that gathers bools knows -/
def gath (B : Nat) (w : World) (v : Value) (l : List Bool) (wr : World) : Prop :=
  wr.ownsRow B 4 1 v l.length (boolRow l) ∧ Below B w wr ∧ B ≤ wr.heap.size
def BitsPost (n : Int) (m : Nat) (w : World) (e : Ending) (w' : World) : Prop := ∃ v, e = .returned v ∧ gath w.heap.size w v (bitsL n m m) w'
def bitsRel (n : Int) (m : Nat) (w : World) (v i : Value) (wr : World) : Prop := ∃ k : Nat, k ≤ m ∧ i = .int .i64 k ∧ gath w.heap.size w v (bitsL n m k) wr
def halfRel (n : Int) (q : Nat) (x k : Value) : Prop := ∃ j : Nat, j ≤ q ∧ k = .int .i64 j ∧ x = .int .i64 (hv n j)

theorem gath_step {B : Nat} {w wr w1 : World} {v v' : Value} {l : List Bool} {b : Bool} {T : TypeId} (h : gath B w v l wr)
    (hown : w1.ownsRow B 4 1 v' (l.length + 1) (boolRow l ++ [.bool b])) (hgr : (wr.alloc (.cells #[.bool b] T)).grownBy w1 v.ownBlock) : gath B w v' (l ++ [b]) w1 := by
  obtain ⟨h1, h2, h3⟩ := h
  refine ⟨by rw [List.length_append, boolRow_app]; exact hown, (h2.alloc h3 _).grown hgr (by simp; omega) ?_, ?_⟩
  · intro k hk
    rcases h1.2 with ⟨rfl, _⟩ | ⟨g, cap, cur, rfl, hg, _⟩
    · cases hk
    · cases hk; exact hg
  · have := hgr.size; simp at this; omega

end Go.Proofs.Ytmpikfnemhjoeaa

namespace Go.Proofs.Ytmpikfnemhjoeaa
open Go.RowKit
set_option linter.unusedVariables false

theorem own_below {B : Nat} {e : TypeId} {s n : Nat} {v : Value} {xs : List Value} {w w1 : World} (h : w.ownsRow B e s v n xs) (hb : Below w.heap.size w w1) : w1.ownsRow B e s v n xs := by
  refine ⟨h.1, ?_⟩
  rcases h.2 with h0 | ⟨g, cap, cur, hv, hg, hh, r⟩
  · exact .inl h0
  · exact .inr ⟨g, cap, cur, hv, hg, by rw [hb.block _ (lt_of_heap hh)]; exact hh, r⟩
theorem gath.nil {B : Nat} {w wr : World} (h : Below B w wr) (hB : B ≤ wr.heap.size) : gath B w (.slice none 0 0) [] wr := ⟨World.ownsRow_nil _ _ _ _, h, hB⟩
theorem gath.below {B : Nat} {w wr w1 : World} {v : Value} {l : List Bool} (h : gath B w v l wr) (hb : Below wr.heap.size wr w1) : gath B w v l w1 :=
  ⟨own_below h.1 hb, h.2.1.trans (hb.mono h.2.2), Nat.le_trans h.2.2 hb.size⟩
theorem gath.alloc {B : Nat} {w wr : World} {v : Value} {l : List Bool} (h : gath B w v l wr) (o : Obj) : gath B w v l (wr.alloc o) := h.below ((Below.refl _ _).alloc (Nat.le_refl _) o)
theorem gath.drewN {B : Nat} {w wr : World} {v : Value} {l : List Bool} (h : gath B w v l wr) (n : Nat) : gath B w v l (wr.drewN n) := h.below (below_drewN (Below.refl _ _) n)
def rowAt (w : World) (g : Nat) (l : List Bool) : Prop := ∀ j u, (boolRow l)[j]? = some u → w.cell? ((⟨g, 0, none⟩ : Addr).add j) = some u
theorem gath.row {B : Nat} {w wr : World} {v : Value} {l : List Bool} (h : gath B w v l wr) (hl : 0 < l.length) : ∃ g cap, v = .slice (some ⟨g, 0, none⟩) l.length cap ∧ rowAt wr g l := by
  obtain ⟨h1, _, _⟩ := h
  rcases h1.2 with ⟨_, h0⟩ | ⟨g, cap, cur, hv, hg, hh, hc, hm, hs, ht⟩
  · omega
  · refine ⟨g, cap, hv, fun j u hj => ?_⟩
    have hjl : j < l.length := by
      have := (List.getElem?_eq_some_iff.1 hj).1
      simpa [boolRow] using this
    rw [← ht, List.getElem?_take_of_lt (by omega)] at hj
    have e : (⟨g, 0, none⟩ : Addr).add j = ⟨g, j, none⟩ := by unfold Addr.add; split <;> simp_all
    rw [e, cell_of_row _ _ _ _ _ _ hh]
    simpa using hj
theorem row_two (w : World) (a b : Bool) (t : TypeId) : rowAt (w.alloc (.cells #[.bool a, .bool b] t)) w.heap.size [a, b] := fnews_two w _ _ t
theorem row_one (w : World) (a : Bool) (t : TypeId) : rowAt (w.alloc (.cells #[.bool a] t)) w.heap.size [a] := fnews_one w _ t

theorem wpList_gath {ops : Array Oper} {rest : List Oper} {o : Oper} {a : Act} {Q : Exit → Act → World → Prop} {W : World} (hgd : o.guard = none) (s x : Operand)
    (ho : o.op = .call { callee := .builtin .append, args := #[s, x], argTypes := #[28, 28] }) {B : Nat} {w : World} {v : Value} {l : List Bool} (hs : a.eval s = v) (hg : gath B w v l W)
    (g m c : Nat) (news : List Bool) (hx : a.eval x = .slice (some ⟨g, 0, none⟩) m c) (hl : news.length = m) (hn : rowAt W g news) (hsz : l.length + m ≤ 1000)
    (h : ∀ v' w', gath B w v' (l ++ news) w' → wpList Try.prog ops Q rest (a.put o.dst v') w') : wpList Try.prog ops Q (o :: rest) a W := by
  obtain ⟨i0, hi, hz0, hz1, hz2⟩ := info_parts info_bool
  refine wpList_append_own _ hgd s x 28 ho B 4 i0 (.bool false) 1 1 Try.underlying28 hi hz0 hz1 hz2 rfl (by decide) v l.length (boolRow l) hs hg.1 ⟨g, 0, none⟩ m c (boolRow news) hx (by simp [boolRow, hl]) hn (fun u hu => ?_) ?_ ?_ hg.2.2 ?_
  · unfold boolRow at hu
    obtain ⟨b, _, rfl⟩ := List.mem_map.1 hu
    rfl
  · unfold maxLen; omega
  · omega
  · intro v' w' hown hgr _
    refine h v' w' ⟨?_, hg.2.1.grown hgr hg.2.2 ?_, Nat.le_trans hg.2.2 hgr.size⟩
    · rw [List.length_append, hl, boolRow_app]; exact hown
    · intro k hk
      rcases hg.1.2 with ⟨rfl, _⟩ | ⟨g, cap, cur, rfl, hgg, _⟩
      · cases hk
      · cases hk; exact hgg

def KbPost (l : List Bool) (w : World) (e : Ending) (w' : World) : Prop := ∃ v, e = .returned v ∧ gath w.heap.size w v l w'
theorem gath.base {w w' : World} {o : Obj} {v : Value} {l : List Bool} (h : gath (w.alloc o).heap.size (w.alloc o) v l w') : gath w.heap.size w v l w' := by
  obtain ⟨h1, h2, h3⟩ := h
  refine ⟨⟨h1.1, ?_⟩, fbelow_a _ h2, Nat.le_trans (by simp) h3⟩
  rcases h1.2 with h0 | ⟨g, cap, cur, hv, hg, r⟩
  · exact .inl h0
  · exact .inr ⟨g, cap, cur, hv, Nat.le_trans (by simp) hg, r⟩
theorem gath.fix {w w' : World} {o : Obj} {v : Value} {l : List Bool} (h : gath (w.heap.size + 1) (w.alloc o) v l w') : gath (w.alloc o).heap.size (w.alloc o) v l w' := by rw [World.size_alloc]; exact h
def wideL (i : Int) (r dd : Bool) : List Bool := ((((([] ++ bitsL (i / 262144) 11 11) ++ [true, true]) ++ bitsL (i % 262144) 18 18) ++ [r]) ++ [dd])
def narrowL (i : Int) (r dd : Bool) (k : Nat) : List Bool := ((([] ++ bitsL i 11 11) ++ [r, false]) ++ List.replicate k false)

end Go.Proofs.Ytmpikfnemhjoeaa

namespace Go.Proofs.Ytmpikfnemhjoeaa
open Go.RowKit
set_option linter.unusedVariables false

theorem narrowL_len (i : Int) (r dd : Bool) (k : Nat) : (narrowL i r dd k).length = 13 + k := by simp [narrowL, bitsL_len]; omega
theorem narrowL_succ (i : Int) (r dd : Bool) (k : Nat) : narrowL i r dd (k + 1) = narrowL i r dd k ++ [false] := by
  unfold narrowL; rw [List.replicate_succ']; simp
def narRel (W : World) (i : Int) (r dd : Bool) (v j : Value) (wr : World) : Prop := ∃ k : Nat, k ≤ 19 ∧ j = .int .i64 k ∧ gath W.heap.size W v (narrowL i r dd k) wr

/-! ### the number of bits -/
def valL (l : List Bool) : Int := l.foldl (fun a b => 2 * a + b01 b) 0
theorem valL_snoc (l : List Bool) (b : Bool) : valL (l ++ [b]) = 2 * valL l + b01 b := by unfold valL; rw [List.foldl_append]; rfl
theorem snoc_ind {P : List Bool → Prop} (h0 : P []) (h1 : ∀ l b, P l → P (l ++ [b])) (l : List Bool) : P l := by
  rw [← List.reverse_reverse l]
  induction l.reverse with
  | nil => exact h0
  | cons a t ih => rw [List.reverse_cons]; exact h1 _ _ ih
theorem valL_bd (l : List Bool) : 0 ≤ valL l ∧ valL l < 2 ^ l.length := by
  refine snoc_ind (P := fun l => 0 ≤ valL l ∧ valL l < 2 ^ l.length) (by simp [valL]) (fun l b ih => ?_) l
  · show 0 ≤ valL (l ++ [b]) ∧ valL (l ++ [b]) < 2 ^ (l ++ [b]).length
    rw [valL_snoc, List.length_append]
    have := b01_bd b
    have e : (2 : Int) ^ (l.length + [b].length) = 2 * 2 ^ l.length := by rw [List.length_singleton, Int.pow_succ]; omega
    omega
theorem valL_app (a b : List Bool) : valL (a ++ b) = valL a * 2 ^ b.length + valL b := by
  refine snoc_ind (P := fun b => valL (a ++ b) = valL a * 2 ^ b.length + valL b) (by simp [valL]) (fun l x ih => ?_) b
  · show valL (a ++ (l ++ [x])) = valL a * 2 ^ (l ++ [x]).length + valL (l ++ [x])
    rw [← List.append_assoc, valL_snoc, valL_snoc, ih, List.length_append]
    have e : (2 : Int) ^ (l.length + [x].length) = 2 * 2 ^ l.length := by rw [List.length_singleton, Int.pow_succ]; omega
    rw [e, Int.mul_add]
    have e2 : 2 * (valL a * 2 ^ l.length) = valL a * (2 * 2 ^ l.length) := by rw [← Int.mul_assoc, ← Int.mul_assoc, Int.mul_comm 2 (valL a)]
    omega
theorem valL_bits (n : Int) (h0 : 0 ≤ n) (m : Nat) : ∀ k, k ≤ m → valL (bitsL n m k) = hv n (m - k) % 2 ^ k
  | 0, _ => by simp [bitsL, valL]
  | k + 1, hk => by
    have ih := valL_bits n h0 m k (by omega)
    rw [bitsL_succ, valL_snoc, ih]
    have e1 : m - k = (m - (k + 1)) + 1 := by omega
    rw [e1, hv_succ]
    unfold fbitB
    rw [show m - 1 - k = m - (k + 1) by omega]
    generalize hv n (m - (k + 1)) = x
    have e : (2 : Int) ^ (k + 1) = 2 ^ k * 2 := Int.pow_succ _ _
    have hp : (0 : Int) < 2 ^ k := Int.pow_pos (by decide)
    rw [e]
    have hx : x % 2 = 0 ∨ x % 2 = 1 := by omega
    have hdm : x = 2 * (x / 2) + x % 2 := by omega
    have h3 : x % (2 ^ k * 2) = 2 * (x / 2 % 2 ^ k) + x % 2 := by
      have hq := Int.mul_ediv_add_emod (x / 2) (2 ^ k)
      have hr0 := Int.emod_nonneg (x / 2) (Int.ne_of_gt hp)
      have hr1 := Int.emod_lt_of_pos (x / 2) hp
      have h4 : x = (2 * (x / 2 % 2 ^ k) + x % 2) + (2 ^ k * 2) * (x / 2 / 2 ^ k) := by
        have h5 : (2 ^ k * 2) * (x / 2 / 2 ^ k) = 2 * (2 ^ k * (x / 2 / 2 ^ k)) := by rw [Int.mul_comm (2 ^ k) 2, Int.mul_assoc]
        omega
      have h6 : x % (2 ^ k * 2) = ((2 * (x / 2 % 2 ^ k) + x % 2) + (2 ^ k * 2) * (x / 2 / 2 ^ k)) % (2 ^ k * 2) := congrArg (· % (2 ^ k * 2)) h4
      rw [h6, Int.add_mul_emod_self_left]
      exact Int.emod_eq_of_lt (by omega) (by omega)
    rw [h3]
    rcases hx with h | h <;> simp [h, b01]

end Go.Proofs.Ytmpikfnemhjoeaa

namespace Go.Proofs.Ytmpikfnemhjoeaa
open Go.RowKit
set_option linter.unusedVariables false

theorem valL_whole {n : Int} (h0 : 0 ≤ n) (m : Nat) (h1 : n < 2 ^ m) : valL (bitsL n m m) = n := by
  rw [valL_bits n h0 m m (Nat.le_refl _), Nat.sub_self, hv_zero]
  exact Int.emod_eq_of_lt h0 h1
theorem valL_two (a b : Bool) : valL [a, b] = 2 * b01 a + b01 b := by cases a <;> cases b <;> decide
theorem valL_one (a : Bool) : valL [a] = b01 a := by cases a <;> decide
theorem valL_zeros : ∀ k : Nat, valL (List.replicate k false) = 0
  | 0 => rfl
  | k + 1 => by rw [List.replicate_succ', valL_snoc, valL_zeros k]; rfl
theorem valL_wide {i : Int} (i0 : 0 ≤ i) (i1 : i ≤ 536870911) (r dd : Bool) : valL (wideL i r dd) = i / 262144 * 4194304 + 3145728 + i % 262144 * 4 + b01 r * 2 + b01 dd := by
  unfold wideL
  rw [valL_app, valL_app, valL_app, valL_app, valL_app, valL_whole (by omega) 11 (by omega), valL_whole (by omega) 18 (by omega), valL_two, valL_one, valL_one]
  simp [valL, b01, bitsL_len]
  omega
theorem valL_narrow {i : Int} (i0 : 0 ≤ i) (i1 : i ≤ 2047) (r dd : Bool) : valL (narrowL i r dd 19 ++ [dd]) = i * 4194304 + b01 r * 2097152 + b01 dd := by
  unfold narrowL
  rw [valL_app, valL_app, valL_app, valL_app, valL_zeros, valL_whole i0 11 (by omega), valL_two, valL_one, List.length_replicate]
  simp [valL, b01]
  omega
theorem wideL_len (i : Int) (r dd : Bool) : (wideL i r dd).length = 33 := by simp [wideL, bitsL_len]
theorem narrowL_len2 (i : Int) (r dd : Bool) : (narrowL i r dd 19 ++ [dd]).length = 33 := by simp [narrowL_len]

theorem rowAt.cell {w : World} {g : Nat} {l : List Bool} (h : rowAt w g l) (k : Nat) (hk : k < l.length) : w.cell? ⟨g, k, none⟩ = some (.bool l[k]) := by
  have := h k (.bool l[k]) (by simp [boolRow, hk])
  have e : (⟨g, 0, none⟩ : Addr).add k = ⟨g, k, none⟩ := by unfold Addr.add; split <;> simp_all
  rwa [e] at this
theorem valL_take {l : List Bool} {k : Nat} (hk : k < l.length) : valL (l.take (k + 1)) = 2 * valL (l.take k) + b01 l[k] := by
  rw [List.take_succ_eq_append_getElem hk, valL_snoc]
theorem valL_take_bd {l : List Bool} {k : Nat} (h33 : l.length = 33) : 0 ≤ valL (l.take k) ∧ valL (l.take k) ≤ 8589934592 := by
  have h := valL_bd (l.take k)
  have h2 : (2 : Int) ^ (l.take k).length ≤ 2 ^ 33 := by
    have h3 : 2 ^ (l.take k).length ≤ 2 ^ 33 := Nat.pow_le_pow_right (by decide) (by rw [List.length_take]; omega)
    exact_mod_cast h3
  omega

def keyRel (L : List Bool) (a i : Value) : Prop := ∃ k : Nat, k ≤ 33 ∧ i = .int .i64 k ∧ a = .int .i64 (valL (L.take k))

end Go.Proofs.Ytmpikfnemhjoeaa

namespace Go.Proofs.Ytmpikfnemhjoeaa
open Go.RowKit
set_option linter.unusedVariables false

/-! ### a frame behind an address -/
def BoxF (w : World) (b : Nat) (i n l : Int) (d : ByteArray) : Prop := w.heap[b]? = some (.cells #[.int .i64 i, .int .i64 n, .int .i64 l, .string d] 30 (0, 0))
theorem BoxF.made (w : World) (i n l : Int) (d : ByteArray) : BoxF (w.alloc (.cells #[.int .i64 i, .int .i64 n, .int .i64 l, .string d] 30)) w.heap.size i n l d := by unfold BoxF World.alloc; simp
theorem BoxF.lt {w : World} {b : Nat} {i n l : Int} {d : ByteArray} (h : BoxF w b i n l d) : b < w.heap.size := (Array.getElem?_eq_some_iff.1 h).1
theorem BoxF.below {w w' : World} {b B : Nat} {i n l : Int} {d : ByteArray} (h : BoxF w b i n l d) (hb : Below B w w') (hB : b < B) : BoxF w' b i n l d := (hb.block b hB).trans h
theorem BoxF.later {w w' : World} {b : Nat} {i n l : Int} {d : ByteArray} (h : BoxF w b i n l d) (hb : Below w.heap.size w w') : BoxF w' b i n l d := h.below hb h.lt
theorem BoxF.cells {w : World} {b : Nat} {i n l : Int} {d : ByteArray} (h : BoxF w b i n l d) : w.cell? ⟨b, 0, none⟩ = some (.int .i64 i) ∧ w.cell? ⟨b, 1, none⟩ = some (.int .i64 n) ∧ w.cell? ⟨b, 2, none⟩ = some (.int .i64 l) ∧ w.cell? ⟨b, 3, none⟩ = some (.string d) := by
  unfold BoxF at h
  refine ⟨?_, ?_, ?_, ?_⟩ <;> (rw [Lib.cell_of_heap h]; rfl)
end Go.Proofs.Ytmpikfnemhjoeaa

namespace Go.Proofs.Ytmpikfnemhjoeaa
open Go.RowKit
set_option linter.unusedVariables false

/-- (behind a name: the walk would take it apart) -/
def NthV (ws : List Value) (j : Nat) (u : Value) : Prop := ws[j]? = some u
def keyG (f : Fr) : Int := keyV f.i f.n f.l f.d.size
theorem info_fr2 : (Try.prog.info? 30).map (fun i => (i.zero, i.size, i.bytes)) = some (some (.agg #[.int .i64 0, .int .i64 0, .int .i64 0, .string (ByteArray.mk #[])]), 4, 40) := by kernel_rfl
theorem frC_one : ∀ f : Fr, ∀ u ∈ frC f, u.oneCell' = true := fun f u hu => by
  simp only [frC, List.mem_cons, List.not_mem_nil, or_false] at hu
  rcases hu with rfl | rfl | rfl | rfl <;> rfl
def Bs.offer (s : Bs) (i : Int) (f : Fr) : Bs × Int :=
  if i < 1 ∨ (s.N.length : Int) ≤ i then (s, 2) else if keyG f < 0 then (s, 4) else if 1000 ≤ (s.W.getD i.toNat []).length then (s, 9)
  else ({ s with W := s.W.set i.toNat (s.W.getD i.toNat [] ++ [f]) }, 0)
end Go.Proofs.Ytmpikfnemhjoeaa

namespace Go.Proofs.Ytmpikfnemhjoeaa
open Go.RowKit
set_option linter.unusedVariables false

def frz : Fr := ⟨0, 0, 0, ByteArray.mk #[]⟩
def Bs.off (s : Bs) (i : Nat) : Bool := (s.N.getD i cf0).o
/-- does the node offer a frame? -/
def Bs.has (s : Bs) (own : Fr) (has : Bool) (i : Nat) : Bool := if i = 0 then has && decide (0 ≤ keyG own) else !(s.W.getD i []).isEmpty
/-- which one -/
def Bs.x (s : Bs) (own : Fr) (i : Nat) : Fr := if i = 0 then own else (s.W.getD i []).headD own
/-- behind so many nodes: who is the first, and with what -/
def Bs.best (s : Bs) (own : Fr) (has : Bool) : Nat → Int × Fr
  | 0 => (-1, frz)
  | i + 1 => if s.has own has i && (!s.off i && (decide ((s.best own has i).1 < 0) || decide (keyG (s.x own i) < keyG (s.best own has i).2))) then ((i : Int), s.x own i) else s.best own has i
theorem best_rng (s : Bs) (own : Fr) (has : Bool) : ∀ i, -1 ≤ (s.best own has i).1 ∧ (s.best own has i).1 < i
  | 0 => by unfold Bs.best; decide
  | i + 1 => by
    have := best_rng s own has i
    unfold Bs.best
    split
    · simp only; omega
    · omega

theorem Bs.at_zero (s : Bs) (own : Fr) (has : Bool) : s.has own has 0 = (has && decide (0 ≤ keyG own)) ∧ s.x own 0 = own := ⟨rfl, rfl⟩
theorem Bs.at_nil {s : Bs} {k : Nat} (own : Fr) (has : Bool) (hk : ¬ k = 0) (h : s.W.getD k [] = []) : s.has own has k = false ∧ s.x own k = own := by
  unfold Bs.has Bs.x
  rw [if_neg hk, if_neg hk, h]; exact ⟨rfl, rfl⟩
theorem Bs.at_cons {s : Bs} {k : Nat} {f : Fr} {M : List Fr} (own : Fr) (has : Bool) (hk : ¬ k = 0) (h : s.W.getD k [] = f :: M) : s.has own has k = true ∧ s.x own k = f := by
  unfold Bs.has Bs.x
  rw [if_neg hk, if_neg hk, h]; exact ⟨rfl, rfl⟩

/-- who is the first has a frame to send -/
theorem best_has (s : Bs) (own : Fr) (has : Bool) (m : Nat) : ∀ i, (s.best own has i).1 = (m : Int) → s.has own has m = true ∧ (s.best own has i).2 = s.x own m ∧ s.off m = false ∧ m < i
  | 0, h => by unfold Bs.best at h; simp only at h; omega
  | i + 1, h => by
    unfold Bs.best at h ⊢
    split at h
    · rename_i hc
      simp only at h
      obtain rfl : i = m := by omega
      rw [if_pos hc]
      simp only [Bool.and_eq_true, Bool.not_eq_true'] at hc
      exact ⟨hc.1, rfl, hc.2.1, by omega⟩
    · rename_i hc
      rw [if_neg hc]
      obtain ⟨h1, h2, h3, h4⟩ := best_has s own has m i h
      exact ⟨h1, h2, h3, by omega⟩

/-! ### the first k of a row turned -/
def turnN {α : Type} (g : Nat → α → α) : List α → Nat → List α
  | [], _ => []
  | N, 0 => N
  | c :: N, k + 1 => g 0 c :: turnN (fun i => g (i + 1)) N k
theorem turnN_zero {α : Type} (g : Nat → α → α) (N : List α) : turnN g N 0 = N := by cases N <;> rfl
theorem turnN_len {α : Type} : ∀ (N : List α) (g : Nat → α → α) (k : Nat), (turnN g N k).length = N.length
  | [], g, k => by cases k <;> rfl
  | c :: N, g, 0 => rfl
  | c :: N, g, k + 1 => by unfold turnN; simp [turnN_len N]
theorem turnN_get {α : Type} : ∀ (N : List α) (g : Nat → α → α) (k i : Nat), (turnN g N k)[i]? = if i < k then (N[i]?).map (g i) else N[i]?
  | [], g, k, i => by cases k <;> simp [turnN]
  | c :: N, g, 0, i => by simp [turnN]
  | c :: N, g, k + 1, 0 => by simp [turnN]
  | c :: N, g, k + 1, i + 1 => by
    unfold turnN
    simp only [List.getElem?_cons_succ]
    rw [turnN_get N _ k i]
    simp
theorem turnN_set {α : Type} (N : List α) (g : Nat → α → α) (k : Nat) (h : k < N.length) : (turnN g N k).set k (g k N[k]) = turnN g N (k + 1) := by
  apply List.ext_getElem?
  intro i
  rw [List.getElem?_set, turnN_get, turnN_get, turnN_len]
  by_cases e : k = i
  · subst e
    rw [if_pos rfl, if_pos h, if_pos (Nat.lt_succ_self k), List.getElem?_eq_getElem h]; rfl
  · rw [if_neg e]
    by_cases h1 : i < k
    · rw [if_pos h1, if_pos (by omega)]
    · rw [if_neg h1, if_neg (by omega)]
theorem turnN_same {α : Type} (N : List α) (g : Nat → α → α) (k : Nat) (h : k < N.length) (he : g k N[k] = N[k]) : turnN g N k = turnN g N (k + 1) := by
  rw [← turnN_set N g k h, he]
  apply List.ext_getElem?
  intro i
  rw [List.getElem?_set, turnN_len]
  by_cases e : k = i
  · subst e
    rw [if_pos rfl, if_pos h, turnN_get, if_neg (by omega), List.getElem?_eq_getElem h]
  · rw [if_neg e]
theorem turnN_at {α : Type} (N : List α) (g : Nat → α → α) (k : Nat) (h : k < N.length) : (turnN g N k)[k]'(by rw [turnN_len]; exact h) = N[k] := by
  have := turnN_get N g k k
  rw [if_neg (by omega), List.getElem?_eq_getElem (by rw [turnN_len]; exact h), List.getElem?_eq_getElem h] at this
  exact Option.some.inj this

/-! ### a slot -/
/-- who was off is one slot nearer to being back, node 0 only behind a Fix -/
def Bs.gIdle (s : Bs) (i : Nat) (c : Cf) : Cf := if s.off i && (decide (0 < i) || s.fx) then c.do_ 4 s.back else c
/-- those that were not off have sent, failed, heard or missed -/
def Bs.gSent (s : Bs) (bad : Bool) (best : Int) (i : Nat) (c : Cf) : Cf := if s.off i then c else c.do_ (if (i : Int) = best then (if bad then 2 else 0) else if bad then 3 else 1) s.back
def Bs.N1 (s : Bs) : List Cf := turnN s.gIdle s.N s.N.length
def Bs.fx1 (s : Bs) : Bool := s.fx && (s.N1.getD 0 cf0).o
def Bs.N2 (s : Bs) (bad : Bool) (best : Int) : List Cf := turnN (s.gSent bad best) s.N1 s.N.length
/-- a slot: the bus behind it, and the event -/
def Bs.slot (s : Bs) (own : Fr) (has bad : Bool) : Bs × Int × Int × Fr :=
  if (s.best own has s.N.length).1 < 0 then ({ s with N := s.N1, fx := s.fx1, sl := s.sl + 1 }, 0, 0, frz)
  else if bad then ({ s with N := s.N2 true (s.best own has s.N.length).1, fx := s.fx1, sl := s.sl + 1 }, 2, (s.best own has s.N.length).1, (s.best own has s.N.length).2)
  else ({ s with N := s.N2 false (s.best own has s.N.length).1, fx := s.fx1, sl := s.sl + 1,
                 log := s.log ++ [⟨(s.best own has s.N.length).2, (s.best own has s.N.length).1, s.sl⟩],
                 W := if 0 < (s.best own has s.N.length).1 then s.W.set (s.best own has s.N.length).1.toNat (s.W.getD (s.best own has s.N.length).1.toNat []).tail else s.W }, 1, (s.best own has s.N.length).1, (s.best own has s.N.length).2)
end Go.Proofs.Ytmpikfnemhjoeaa

namespace Go.Proofs.Ytmpikfnemhjoeaa
open Go.RowKit
set_option linter.unusedVariables false

def Bx.key (s : Bx) (i : Int) : Int := keyG (s.P.getD i.toNat pk0).f
/-- of the first k that are ready the one with the least key -/
def Bx.best (s : Bx) : Nat → Int
  | 0 => -1
  | k + 1 => if s.best k < 0 ∨ s.key (s.ord.getD k 0) < s.key (s.best k) then s.ord.getD k 0 else s.best k
/-- those that are ready are mailboxes -/
def Bx.ordOk (s : Bx) : Prop := ∀ x ∈ s.ord, 0 ≤ x ∧ x < s.S.length
theorem Bx.best_rng {s : Bx} (h : s.ordOk) : ∀ k, k ≤ s.ord.length → -1 ≤ s.best k ∧ s.best k < s.S.length
  | 0, _ => by unfold Bx.best; exact ⟨Int.le_refl _, by omega⟩
  | k + 1, hk => by
    have h1 := Bx.best_rng h k (by omega)
    have h2 : 0 ≤ s.ord.getD k 0 ∧ s.ord.getD k 0 < s.S.length := by
      rw [List.getD_eq_getElem?_getD, List.getElem?_eq_getElem (by omega)]
      exact h _ (List.getElem_mem _)
    unfold Bx.best
    split <;> omega
end Go.Proofs.Ytmpikfnemhjoeaa
