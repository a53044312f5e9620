/- Bus, the document's side: what is stored into a bus: a row that waits, the log, a node. -/
import Derived.Test.YtpgfifacfkllfaaDoorZah
namespace Go.Proofs.YtpgfifacfkllfaaDoor
open Go.RowKit
set_option linter.unusedVariables false

theorem BusM.wait {w : World} {b gn gw : Nat} {ws : List Value} {vl : Value} {s : Bs} (h : BusM w b gn gw ws vl s) {i : Nat} {u : Value} (hu : ws[i]? = some u) : w.cell? ⟨gw, i, none⟩ = some u ∧ w.frozen? ⟨gw, i, none⟩ = false := by
  refine ⟨?_, Lib.frozen_of_heap h.waits i⟩
  rw [Lib.cell_of_heap h.waits]
  simpa using hu
theorem busO_set {w : World} {b gn gw : Nat} {ws : List Value} {vl : Value} {i : Nat} {u v' : Value} (hu : ws[i]? = some u) (hg : Grows (OwnO u) w (OwnO v')) : Grows (busO b gn gw ws vl) w (busO b gn gw (ws.set i v') vl) := by
  rintro k (h | h | h | ⟨j, x, hx, hk⟩ | h)
  · exact .inl (.inl h)
  · exact .inl (.inr (.inl h))
  · exact .inl (.inr (.inr (.inl h)))
  · rw [List.getElem?_set] at hx
    split at hx
    · split at hx
      · injection hx with hx
        subst hx
        rcases hg k hk with h1 | h1
        · exact .inl (.inr (.inr (.inr (.inl ⟨i, u, hu, h1⟩))))
        · exact .inr h1
      · cases hx
    · exact .inl (.inr (.inr (.inr (.inl ⟨j, x, hx, hk⟩))))
  · exact .inl (.inr (.inr (.inr (.inr h))))
/-- a row that waits is another one now -/
theorem BusM.setWait {w w' : World} {b gn gw : Nat} {ws : List Value} {vl : Value} {s : Bs} (h : BusM w b gn gw ws vl s) {i : Nat} {u v' : Value} {L' : List Fr} (hu : ws[i]? = some u) (hq : RowQ frC 4 w' v' L') (hk : Kept (OwnO u) w w') (hg : Grows (OwnO u) w (OwnO v')) :
    BusM (w'.setCell ⟨gw, i, none⟩ v') b gn gw (ws.set i v') vl { s with W := s.W.set i L' } ∧ Kept (busO b gn gw ws vl) w (w'.setCell ⟨gw, i, none⟩ v') := by
  have hz : w'.heap.size ≤ (w'.setCell ⟨gw, i, none⟩ v').heap.size := by simp [World.setCell]
  have ho : ∀ k, k ≠ gw → (w'.setCell ⟨gw, i, none⟩ v').heap[k]? = w'.heap[k]? := fun k hk => Below.heap_setCell _ _ _ _ hk
  have hlt := h.lt
  obtain ⟨u1, u2, u3, u4⟩ := h.f1 i u hu
  have nv : ∀ k, k < w.heap.size → ¬ OwnO u k → ¬ OwnO v' k := fun k h1 h2 h3 => by rcases hg k h3 with h4 | h4; exact h2 h4; omega
  have lb := hlt b (.inl rfl)
  have ln := hlt gn (.inr (.inl rfl))
  have lw := hlt gw (.inr (.inr (.inl rfl)))
  have hw' : w'.heap[gw]? = some (.cells ws.toArray 39 (0, 0)) := (hk.block gw lw u3).trans h.waits
  refine ⟨⟨?_, ?_, ?_, by simpa using h.len, by simpa using h.lenW, fun j x L hx hL => ?_, ?_, h.h1, h.h2, h.h3, fun j x hx => ?_, fun j l x x' hx hx' hjl => ?_, h.f3⟩, ?_⟩
  · rw [ho b h.h2, hk.block b lb u1]; exact h.box
  · rw [ho gn h.h3, hk.block gn ln u2]; exact h.nodes
  · rw [heap_setCell_same w' gw i _ _ _ hw']; simp
  · rw [List.getElem?_set] at hx
    simp only [List.getElem?_set] at hL
    by_cases e : i = j
    · subst e
      have hi : i < ws.length := by
        rcases Nat.lt_or_ge i ws.length with h1 | h1
        · exact h1
        · rw [List.getElem?_eq_none h1] at hu; cases hu
      have hi2 : i < s.W.length := by rw [h.lenW, ← h.len]; exact hi
      rw [if_pos rfl, if_pos hi] at hx
      rw [if_pos rfl, if_pos hi2] at hL
      injection hx with hx
      injection hL with hL
      subst hx hL
      exact hq.stay (fun g hg' => ho g (fun e => nv gw lw u3 (e ▸ hg'))) hz
    · rw [if_neg e] at hx hL
      have h5 := h.row j x L hx hL
      exact (h5.stay (fun g hg' => hk.block g (h5.lt g hg') (fun h6 => h.f2 i j u x hu hx e g h6 hg')) hk.size).stay (fun g hg' => ho g (fun e => (h.f1 j x hx).2.2.1 (e ▸ hg'))) hz
  · exact (h.log.stay (fun g hg' => hk.block g (h.log.lt g hg') (fun h6 => u4 g h6 hg')) hk.size).stay (fun g hg' => ho g (fun e => h.f3.2.2 (e ▸ hg'))) hz
  · rw [List.getElem?_set] at hx
    split at hx
    · split at hx
      · injection hx with hx
        subst hx
        exact ⟨nv b lb u1, nv gn ln u2, nv gw lw u3, fun k h1 h2 => nv k (h.log.lt k h2) (fun h3 => u4 k h3 h2) h1⟩
      · cases hx
    · exact h.f1 j x hx
  · rw [List.getElem?_set] at hx hx'
    have other : ∀ (m : Nat) (y : Value), ws[m]? = some y → i ≠ m → Apart (OwnO v') (OwnO y) := fun m y hy hm k h1 h2 => by
      have hmm : m < ws.length := by
        rcases Nat.lt_or_ge m ws.length with h1 | h1
        · exact h1
        · rw [List.getElem?_eq_none h1] at hy; cases hy
      have h5 := h.row m y _ hy (List.getElem?_eq_getElem (by rw [h.lenW, ← h.len]; exact hmm))
      exact nv k (h5.lt k h2) (fun h3 => h.f2 i m u y hu hy hm k h3 h2) h1
    by_cases e : i = j
    · rw [if_pos e] at hx
      split at hx
      · injection hx with hx
        subst hx
        by_cases e2 : i = l
        · omega
        · rw [if_neg e2] at hx'
          exact other l x' hx' e2
      · cases hx
    · rw [if_neg e] at hx
      by_cases e2 : i = l
      · rw [if_pos e2] at hx'
        split at hx'
        · injection hx' with hx'
          subst hx'
          exact (other j x hx e).symm
        · cases hx'
      · rw [if_neg e2] at hx'
        exact h.f2 j l x x' hx hx' hjl
  · refine ⟨hk.os, hk.tape, hk.output, Nat.le_trans hk.size hz, fun k h1 h2 => ?_⟩
    rw [ho k (fun e => h2 (.inr (.inr (.inl e))))]
    exact hk.block k h1 (fun h3 => h2 (.inr (.inr (.inr (.inl ⟨i, u, hu, h3⟩)))))
/-- the log is another one now -/
theorem BusM.setLog {w w' : World} {b gn gw : Nat} {ws : List Value} {vl v' : Value} {s : Bs} (h : BusM w b gn gw ws vl s) {L' : List Lg} (hq : RowQ lgC 6 w' v' L') (hk : Kept (OwnO vl) w w') (hg : Grows (OwnO vl) w (OwnO v')) :
    BusM (w'.setCell ⟨b, 5, none⟩ v') b gn gw ws v' { s with log := L' } ∧ Kept (busO b gn gw ws vl) w (w'.setCell ⟨b, 5, none⟩ v') ∧ Grows (busO b gn gw ws vl) w (busO b gn gw ws v') := by
  have hz : w'.heap.size ≤ (w'.setCell ⟨b, 5, none⟩ v').heap.size := by simp [World.setCell]
  have ho : ∀ k, k ≠ b → (w'.setCell ⟨b, 5, none⟩ v').heap[k]? = w'.heap[k]? := fun k hk => Below.heap_setCell _ _ _ _ hk
  have hlt := h.lt
  obtain ⟨u1, u2, u3⟩ := h.f3
  have nv : ∀ k, k < w.heap.size → ¬ OwnO vl k → ¬ OwnO v' k := fun k h1 h2 h3 => by rcases hg k h3 with h4 | h4; exact h2 h4; omega
  have lb := hlt b (.inl rfl)
  have ln := hlt gn (.inr (.inl rfl))
  have lw := hlt gw (.inr (.inr (.inl rfl)))
  have hb' : w'.heap[b]? = _ := (hk.block b lb u1).trans h.box
  refine ⟨⟨?_, ?_, ?_, h.len, h.lenW, fun j x L hx hL => ?_, ?_, h.h1, h.h2, h.h3, fun j x hx => ?_, h.f2, ⟨nv b lb u1, nv gn ln u2, nv gw lw u3⟩⟩, ?_, ?_⟩
  · rw [heap_setCell_same w' b 5 _ _ _ hb']; rfl
  · rw [ho gn (fun e => h.h1 e.symm), hk.block gn ln u2]; exact h.nodes
  · rw [ho gw (fun e => h.h2 e.symm), hk.block gw lw u3]; exact h.waits
  · have h5 := h.row j x L hx hL
    exact (h5.stay (fun g hg' => hk.block g (h5.lt g hg') (fun h6 => (h.f1 j x hx).2.2.2 g hg' h6)) hk.size).stay (fun g hg' => ho g (fun e => (h.f1 j x hx).1 (e ▸ hg'))) hz
  · exact hq.stay (fun g hg' => ho g (fun e => nv b lb u1 (e ▸ hg'))) hz
  · obtain ⟨x1, x2, x3, x4⟩ := h.f1 j x hx
    have hj : j < ws.length := by
      rcases Nat.lt_or_ge j ws.length with h1 | h1
      · exact h1
      · rw [List.getElem?_eq_none h1] at hx; cases hx
    have h5 := h.row j x _ hx (List.getElem?_eq_getElem (by rw [h.lenW, ← h.len]; exact hj))
    exact ⟨x1, x2, x3, fun k h1 h2 => nv k (h5.lt k h1) (fun h3 => x4 k h1 h3) h2⟩
  · refine ⟨hk.os, hk.tape, hk.output, Nat.le_trans hk.size hz, fun k h1 h2 => ?_⟩
    rw [ho k (fun e => h2 (.inl e))]
    exact hk.block k h1 (fun h3 => h2 (.inr (.inr (.inr (.inr h3)))))
  · rintro k (h1 | h1 | h1 | h1 | h1)
    · exact .inl (.inl h1)
    · exact .inl (.inr (.inl h1))
    · exact .inl (.inr (.inr (.inl h1)))
    · exact .inl (.inr (.inr (.inr (.inl h1))))
    · rcases hg k h1 with h2 | h2
      · exact .inl (.inr (.inr (.inr (.inr h2))))
      · exact .inr h2
/-- a node's four cells are stored -/
def putN (w : World) (g i : Nat) (c : Cf) : World := (((w.setCell ⟨g, i * 4, none⟩ (.int .i64 c.t)).setCell ⟨g, i * 4 + 1, none⟩ (.int .i64 c.r)).setCell ⟨g, i * 4 + 2, none⟩ (.bool c.o)).setCell ⟨g, i * 4 + 3, none⟩ (.int .i64 c.d)
theorem rowG_setC (c : Cf) : ∀ (N : List Cf) (i : Nat), i < N.length → ((((rowG cfC N).set (i * 4) (.int .i64 c.t)).set (i * 4 + 1) (.int .i64 c.r)).set (i * 4 + 2) (.bool c.o)).set (i * 4 + 3) (.int .i64 c.d) = rowG cfC (N.set i c)
  | [], i, h => by cases h
  | a :: N, 0, h => rfl
  | a :: N, i + 1, h => by
    have ih := rowG_setC c N i (by simpa using h)
    have e : rowG cfC (a :: N) = cfC a ++ rowG cfC N := by simp [rowG]
    have e2 : rowG cfC ((a :: N).set (i + 1) c) = cfC a ++ rowG cfC (N.set i c) := by simp [rowG]
    rw [e, e2, ← ih]
    have l : (cfC a).length = 4 := rfl
    rw [List.set_append_right _ _ (by rw [l]; omega), List.set_append_right _ _ (by rw [l]; omega), List.set_append_right _ _ (by rw [l]; omega), List.set_append_right _ _ (by rw [l]; omega), l]
    congr 1
    rw [show (i + 1) * 4 - 4 = i * 4 by omega, show (i + 1) * 4 + 1 - 4 = i * 4 + 1 by omega, show (i + 1) * 4 + 2 - 4 = i * 4 + 2 by omega, show (i + 1) * 4 + 3 - 4 = i * 4 + 3 by omega]
theorem putN_other {w : World} {g i k : Nat} {c : Cf} (h : k ≠ g) : (putN w g i c).heap[k]? = w.heap[k]? := by
  unfold putN
  rw [Below.heap_setCell _ _ _ _ h, Below.heap_setCell _ _ _ _ h, Below.heap_setCell _ _ _ _ h, Below.heap_setCell _ _ _ _ h]
theorem putN_size (w : World) (g i : Nat) (c : Cf) : (putN w g i c).heap.size = w.heap.size := by unfold putN; simp [World.setCell]
theorem BusM.setNode {w : World} {b gn gw : Nat} {ws : List Value} {vl : Value} {s : Bs} (h : BusM w b gn gw ws vl s) {i : Nat} (hi : i < s.N.length) (c : Cf) : BusM (putN w gn i c) b gn gw ws vl { s with N := s.N.set i c } := by
  have hz : w.heap.size ≤ (putN w gn i c).heap.size := by rw [putN_size]; exact Nat.le_refl _
  refine ⟨?_, ?_, ?_, by simpa using h.len, by simpa using h.lenW, fun j x L hx hL => ?_, ?_, h.h1, h.h2, h.h3, h.f1, h.f2, h.f3⟩
  · rw [putN_other h.h1, h.box]; simp
  · have hn := h.nodes
    have a0 := heap_setCell_same w gn (i * 4) _ _ (.int .i64 c.t) hn
    have a1 := heap_setCell_same _ gn (i * 4 + 1) _ _ (.int .i64 c.r) a0
    have a2 := heap_setCell_same _ gn (i * 4 + 2) _ _ (.bool c.o) a1
    have a3 := heap_setCell_same _ gn (i * 4 + 3) _ _ (.int .i64 c.d) a2
    unfold putN
    rw [a3]
    simp only [List.setIfInBounds_toArray]
    rw [rowG_setC c s.N i hi]
  · rw [putN_other (fun e => h.h3 e.symm)]; exact h.waits
  · exact (h.row j x L hx hL).stay (fun g hg => putN_other (fun e => (h.f1 j x hx).2.1 (e ▸ hg))) hz
  · exact h.log.stay (fun g hg => putN_other (fun e => h.f3.2.1 (e ▸ hg))) hz
theorem putN_kept {w : World} {b gn gw i : Nat} {ws : List Value} {vl : Value} {c : Cf} : Kept (busO b gn gw ws vl) w (putN w gn i c) :=
  ⟨rfl, rfl, rfl, by rw [putN_size]; exact Nat.le_refl _, fun k _ h => putN_other (fun e => h (.inr (.inl e)))⟩
end Go.Proofs.YtpgfifacfkllfaaDoor
