/- Frame: the contract of the document's Bits. -/
import Derived.Test.YtimlaopmhcipmaaDoorFrmO
import Derived.OwnWalk
import Derived.IntWalk
namespace Go.Proofs.YtimlaopmhcipmaaDoor
open Go.RowKit
set_option linter.unusedVariables false

/-- n, halved k times -/
def hv (n : Int) (k : Nat) : Int := n / 2 ^ k
theorem hv_zero (n : Int) : hv n 0 = n := by unfold hv; simp
theorem hv_succ (n : Int) (k : Nat) : hv n (k + 1) = hv n k / 2 := by
  unfold hv
  rw [Int.pow_succ, Int.ediv_ediv_of_nonneg (by exact Int.le_of_lt (Int.pow_pos (by decide)))]
theorem hv_bd {n : Int} (h : 0 ≤ n) (k : Nat) : 0 ≤ hv n k ∧ hv n k ≤ n := by
  unfold hv
  have hp : (0 : Int) < 2 ^ k := Int.pow_pos (by decide)
  exact ⟨Int.ediv_nonneg h (Int.le_of_lt hp), Int.ediv_le_self _ h⟩
/-- bit i of m, from the highest on -/
def fbitB (n : Int) (m i : Nat) : Bool := decide (hv n (m - 1 - i) % 2 = 1)
def bitsL (n : Int) (m k : Nat) : List Bool := (List.range k).map (fbitB n m)
theorem bitsL_succ (n : Int) (m k : Nat) : bitsL n m (k + 1) = bitsL n m k ++ [fbitB n m k] := by unfold bitsL; rw [List.range_succ]; simp
theorem bitsL_len (n : Int) (m k : Nat) : (bitsL n m k).length = k := by simp [bitsL]

def boolRow (l : List Bool) : List Value := l.map Value.bool
theorem boolRow_app (a b : List Bool) : boolRow (a ++ b) = boolRow a ++ boolRow b := by simp [boolRow]

theorem info_bool : (Tryd.prog.info? 4).map (fun i => (i.zero, i.size, i.bytes)) = some (some (.bool false), 1, 1) := by kernel_rfl
theorem fnews_one (w : World) (v : Value) (t : TypeId) : ∀ j u, [v][j]? = some u → (w.alloc (.cells #[v] t)).cell? ((⟨w.heap.size, 0, none⟩ : Addr).add j) = some u := by
  intro j u hj
  have : j = 0 := by
    rcases Nat.lt_or_ge j 1 with h | h
    · omega
    · rw [List.getElem?_eq_none (by simpa using h)] at hj; cases hj
  subst this
  simp only [List.getElem?_cons_zero, Option.some.injEq] at hj
  subst hj
  simp [Addr.add, World.cell?_alloc_at _ _ _ _ rfl]
theorem fnews_two (w : World) (v u : Value) (t : TypeId) : ∀ j x, [v, u][j]? = some x → (w.alloc (.cells #[v, u] t)).cell? ((⟨w.heap.size, 0, none⟩ : Addr).add j) = some x := by
  intro j x hj
  rcases Nat.lt_or_ge j 2 with h | h
  · rcases (show j = 0 ∨ j = 1 by omega) with rfl | rfl
    · simp only [List.getElem?_cons_zero, Option.some.injEq] at hj
      subst hj
      simp [Addr.add, World.cell?_alloc_at _ _ _ _ rfl]
    · simp only [List.getElem?_cons_succ, List.getElem?_cons_zero, Option.some.injEq] at hj
      subst hj
      simp [Addr.add, World.cell?_alloc_at _ _ _ _ rfl]
  · rw [List.getElem?_eq_none (by simpa using h)] at hj; cases hj

/-- what a loop that gathers bools knows -/
def gath (B : Nat) (w : World) (v : Value) (l : List Bool) (wr : World) : Prop :=
  wr.ownsRow B 4 1 v l.length (boolRow l) ∧ Below B w wr ∧ B ≤ wr.heap.size
def BitsPost (n : Int) (m : Nat) (w : World) (e : Ending) (w' : World) : Prop := ∃ v, e = .returned v ∧ gath w.heap.size w v (bitsL n m m) w'
def bitsRel (n : Int) (m : Nat) (w : World) (v i : Value) (wr : World) : Prop := ∃ k : Nat, k ≤ m ∧ i = .int .i64 k ∧ gath w.heap.size w v (bitsL n m k) wr
def halfRel (n : Int) (q : Nat) (x k : Value) : Prop := ∃ j : Nat, j ≤ q ∧ k = .int .i64 j ∧ x = .int .i64 (hv n j)

theorem gath_step {B : Nat} {w wr w1 : World} {v v' : Value} {l : List Bool} {b : Bool} {T : TypeId} (h : gath B w v l wr)
    (hown : w1.ownsRow B 4 1 v' (l.length + 1) (boolRow l ++ [.bool b])) (hgr : (wr.alloc (.cells #[.bool b] T)).grownBy w1 v.ownBlock) : gath B w v' (l ++ [b]) w1 := by
  obtain ⟨h1, h2, h3⟩ := h
  refine ⟨by rw [List.length_append, boolRow_app]; exact hown, (h2.alloc h3 _).grown hgr (by simp; omega) ?_, ?_⟩
  · intro k hk
    rcases h1.2 with ⟨rfl, _⟩ | ⟨g, cap, cur, rfl, hg, _⟩
    · cases hk
    · cases hk; exact hg
  · have := hgr.size; simp at this; omega

end Go.Proofs.YtimlaopmhcipmaaDoor
