/- Frame: the contracts of the document's KeyBits, Key. -/
import Derived.Test.YtimlaopmhcipmaaDoorFrmP
namespace Go.Proofs.YtimlaopmhcipmaaDoor
open Go.RowKit
set_option linter.unusedVariables false

theorem own_below {B : Nat} {e : TypeId} {s n : Nat} {v : Value} {xs : List Value} {w w1 : World} (h : w.ownsRow B e s v n xs) (hb : Below w.heap.size w w1) : w1.ownsRow B e s v n xs := by
  refine ⟨h.1, ?_⟩
  rcases h.2 with h0 | ⟨g, cap, cur, hv, hg, hh, r⟩
  · exact .inl h0
  · exact .inr ⟨g, cap, cur, hv, hg, by rw [hb.block _ (lt_of_heap hh)]; exact hh, r⟩
theorem gath.nil {B : Nat} {w wr : World} (h : Below B w wr) (hB : B ≤ wr.heap.size) : gath B w (.slice none 0 0) [] wr := ⟨World.ownsRow_nil _ _ _ _, h, hB⟩
theorem gath.below {B : Nat} {w wr w1 : World} {v : Value} {l : List Bool} (h : gath B w v l wr) (hb : Below wr.heap.size wr w1) : gath B w v l w1 :=
  ⟨own_below h.1 hb, h.2.1.trans (hb.mono h.2.2), Nat.le_trans h.2.2 hb.size⟩
theorem gath.alloc {B : Nat} {w wr : World} {v : Value} {l : List Bool} (h : gath B w v l wr) (o : Obj) : gath B w v l (wr.alloc o) := h.below ((Below.refl _ _).alloc (Nat.le_refl _) o)
theorem gath.drewN {B : Nat} {w wr : World} {v : Value} {l : List Bool} (h : gath B w v l wr) (n : Nat) : gath B w v l (wr.drewN n) := h.below (below_drewN (Below.refl _ _) n)
def rowAt (w : World) (g : Nat) (l : List Bool) : Prop := ∀ j u, (boolRow l)[j]? = some u → w.cell? ((⟨g, 0, none⟩ : Addr).add j) = some u
theorem gath.row {B : Nat} {w wr : World} {v : Value} {l : List Bool} (h : gath B w v l wr) (hl : 0 < l.length) : ∃ g cap, v = .slice (some ⟨g, 0, none⟩) l.length cap ∧ rowAt wr g l := by
  obtain ⟨h1, _, _⟩ := h
  rcases h1.2 with ⟨_, h0⟩ | ⟨g, cap, cur, hv, hg, hh, hc, hm, hs, ht⟩
  · omega
  · refine ⟨g, cap, hv, fun j u hj => ?_⟩
    have hjl : j < l.length := by
      have := (List.getElem?_eq_some_iff.1 hj).1
      simpa [boolRow] using this
    rw [← ht, List.getElem?_take_of_lt (by omega)] at hj
    have e : (⟨g, 0, none⟩ : Addr).add j = ⟨g, j, none⟩ := by unfold Addr.add; split <;> simp_all
    rw [e, cell_of_row _ _ _ _ _ _ hh]
    simpa using hj
theorem row_two (w : World) (a b : Bool) (t : TypeId) : rowAt (w.alloc (.cells #[.bool a, .bool b] t)) w.heap.size [a, b] := fnews_two w _ _ t
theorem row_one (w : World) (a : Bool) (t : TypeId) : rowAt (w.alloc (.cells #[.bool a] t)) w.heap.size [a] := fnews_one w _ t

def KbPost (l : List Bool) (w : World) (e : Ending) (w' : World) : Prop := ∃ v, e = .returned v ∧ gath w.heap.size w v l w'
theorem gath.base {w w' : World} {o : Obj} {v : Value} {l : List Bool} (h : gath (w.alloc o).heap.size (w.alloc o) v l w') : gath w.heap.size w v l w' := by
  obtain ⟨h1, h2, h3⟩ := h
  refine ⟨⟨h1.1, ?_⟩, fbelow_a _ h2, Nat.le_trans (by simp) h3⟩
  rcases h1.2 with h0 | ⟨g, cap, cur, hv, hg, r⟩
  · exact .inl h0
  · exact .inr ⟨g, cap, cur, hv, Nat.le_trans (by simp) hg, r⟩
theorem gath.fix {w w' : World} {o : Obj} {v : Value} {l : List Bool} (h : gath (w.heap.size + 1) (w.alloc o) v l w') : gath (w.alloc o).heap.size (w.alloc o) v l w' := by rw [World.size_alloc]; exact h
def wideL (i : Int) (r dd : Bool) : List Bool := ((((([] ++ bitsL (i / 262144) 11 11) ++ [true, true]) ++ bitsL (i % 262144) 18 18) ++ [r]) ++ [dd])
def narrowL (i : Int) (r dd : Bool) (k : Nat) : List Bool := ((([] ++ bitsL i 11 11) ++ [r, false]) ++ List.replicate k false)

end Go.Proofs.YtimlaopmhcipmaaDoor
