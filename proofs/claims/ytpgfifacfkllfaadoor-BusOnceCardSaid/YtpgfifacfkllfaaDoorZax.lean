/- Rows of rows of frames: a slice of slices of the call's own, each with a block of its own; a row of them appended to, in a region that draws. -/
import Derived.Test.YtpgfifacfkllfaaDoorZai
import Derived.Test.YtpgfifacfkllfaaDoorZaq
namespace Go.Proofs.YtpgfifacfkllfaaDoor
open Go.RowKit
set_option linter.unusedVariables false

structure RowsM (w : World) (g : Nat) (ws : List Value) (W : List (List Fr)) : Prop where
  box : w.heap[g]? = some (.cells ws.toArray 39 (0, 0))
  len : ws.length = W.length
  row : ∀ (i : Nat) (u : Value) (L : List Fr), ws[i]? = some u → W[i]? = some L → RowQ frC 4 w u L
  f1 : ∀ (i : Nat) (u : Value), ws[i]? = some u → ¬ OwnO u g
  f2 : ∀ (i j : Nat) (u u' : Value), ws[i]? = some u → ws[j]? = some u' → i ≠ j → Apart (OwnO u) (OwnO u')
def rwO (g : Nat) (ws : List Value) : Nat → Prop := fun k => k = g ∨ ∃ (i : Nat) (u : Value), ws[i]? = some u ∧ OwnO u k
def RowsI (n : Nat) : World → Value → List (List Fr) → (Nat → Prop) → Prop := fun w v W O => ∃ g ws, v = .slice (some ⟨g, 0, none⟩) n n ∧ O = rwO g ws ∧ W.length = n ∧ RowsM w g ws W
section
variable {w w' : World} {g : Nat} {ws : List Value} {W : List (List Fr)}
theorem at_lt {α : Type} {l : List α} {i : Nat} {a : α} (h : l[i]? = some a) : i < l.length := by
  rcases Nat.lt_or_ge i l.length with h1 | h1
  · exact h1
  · rw [List.getElem?_eq_none h1] at h; cases h
theorem RowsM.lt (h : RowsM w g ws W) : ∀ k, rwO g ws k → k < w.heap.size := by
  rintro k (rfl | ⟨i, u, hu, hk⟩)
  · exact heap_some_lt h.box
  · exact (h.row i u _ hu (List.getElem?_eq_getElem (by rw [← h.len]; exact at_lt hu))).lt k hk
theorem RowsM.stay (h : RowsM w g ws W) (hs : ∀ k, rwO g ws k → w'.heap[k]? = w.heap[k]?) : RowsM w' g ws W :=
  ⟨(hs g (.inl rfl)).trans h.box, h.len, fun i u L hu hL => (h.row i u L hu hL).stayL (fun k hk => hs k (.inr ⟨i, u, hu, hk⟩)) (fun k hk => by
    have h1 := hs k (.inr ⟨i, u, hu, hk⟩)
    have h2 := h.lt k (.inr ⟨i, u, hu, hk⟩)
    rw [Array.getElem?_eq_getElem h2] at h1
    exact heap_some_lt h1), h.f1, h.f2⟩
theorem rowsI_obj (n : Nat) : IsObj (RowsI n) where
  stay := by
    rintro w w' v s O ⟨g, ws, rfl, rfl, hn, h⟩ hs
    exact ⟨g, ws, rfl, rfl, hn, h.stay hs⟩
  lt := by
    rintro w v s O ⟨g, ws, rfl, rfl, hn, h⟩
    exact h.lt
theorem RowsM.wait (h : RowsM w g ws W) {i : Nat} {u : Value} (hu : ws[i]? = some u) : w.cell? ⟨g, i, none⟩ = some u ∧ w.frozen? ⟨g, i, none⟩ = false := by
  refine ⟨?_, Lib.frozen_of_heap h.box i⟩
  rw [Lib.cell_of_heap h.box]
  simpa using hu
/-- a row is another one now -/
theorem RowsM.set (h : RowsM w g ws W) {i : Nat} {u v' : Value} {L' : List Fr} (hu : ws[i]? = some u) (hq : RowQ frC 4 w' v' L') (hk : Kept (OwnO u) w w') (hg : Grows (OwnO u) w (OwnO v')) :
    RowsM (w'.setCell ⟨g, i, none⟩ v') g (ws.set i v') (W.set i L') ∧ Kept (rwO g ws) w (w'.setCell ⟨g, i, none⟩ v') ∧ Grows (rwO g ws) w (rwO g (ws.set i v')) := by
  have hz : w'.heap.size ≤ (w'.setCell ⟨g, i, none⟩ v').heap.size := by simp [World.setCell]
  have ho : ∀ k, k ≠ g → (w'.setCell ⟨g, i, none⟩ v').heap[k]? = w'.heap[k]? := fun k hk => Below.heap_setCell _ _ _ _ hk
  have u3 := h.f1 i u hu
  have nv : ∀ k, k < w.heap.size → ¬ OwnO u k → ¬ OwnO v' k := fun k h1 h2 h3 => by rcases hg k h3 with h4 | h4; exact h2 h4; omega
  have lw := h.lt g (.inl rfl)
  have hw' : w'.heap[g]? = some (.cells ws.toArray 39 (0, 0)) := (hk.block g lw u3).trans h.box
  have other : ∀ (m : Nat) (y : Value), ws[m]? = some y → i ≠ m → Apart (OwnO v') (OwnO y) := fun m y hy hm k h1 h2 => by
    have h5 := h.row m y _ hy (List.getElem?_eq_getElem (by rw [← h.len]; exact at_lt hy))
    exact nv k (h5.lt k h2) (fun h3 => h.f2 i m u y hu hy hm k h3 h2) h1
  refine ⟨⟨?_, by simpa using h.len, fun j x L hx hL => ?_, fun j x hx => ?_, fun j l x x' hx hx' hjl => ?_⟩, ?_, ?_⟩
  · rw [heap_setCell_same w' g i _ _ _ hw']; simp
  · rw [List.getElem?_set] at hx hL
    by_cases e : i = j
    · subst e
      have hi := at_lt hu
      rw [if_pos rfl, if_pos hi] at hx
      rw [if_pos rfl, if_pos (by rw [← h.len]; exact hi)] at hL
      injection hx with hx
      injection hL with hL
      subst hx hL
      exact hq.stay (fun k hk' => ho k (fun e => nv g lw u3 (e ▸ hk'))) hz
    · rw [if_neg e] at hx hL
      have h5 := h.row j x L hx hL
      exact (h5.stay (fun k hk' => hk.block k (h5.lt k hk') (fun h6 => h.f2 i j u x hu hx e k h6 hk')) hk.size).stay (fun k hk' => ho k (fun e => (h.f1 j x hx) (e ▸ hk'))) hz
  · rw [List.getElem?_set] at hx
    split at hx
    · split at hx
      · injection hx with hx
        subst hx
        exact nv g lw u3
      · cases hx
    · exact h.f1 j x hx
  · rw [List.getElem?_set] at hx hx'
    by_cases e : i = j
    · rw [if_pos e] at hx
      split at hx
      · injection hx with hx
        subst hx
        by_cases e2 : i = l
        · omega
        · rw [if_neg e2] at hx'
          exact other l x' hx' e2
      · cases hx
    · rw [if_neg e] at hx
      by_cases e2 : i = l
      · rw [if_pos e2] at hx'
        split at hx'
        · injection hx' with hx'
          subst hx'
          exact (other j x hx e).symm
        · cases hx'
      · rw [if_neg e2] at hx'
        exact h.f2 j l x x' hx hx' hjl
  · refine ⟨hk.os, hk.tape, hk.output, Nat.le_trans hk.size hz, fun k h1 h2 => ?_⟩
    rw [ho k (fun e => h2 (.inl e))]
    exact hk.block k h1 (fun h3 => h2 (.inr ⟨i, u, hu, h3⟩))
  · rintro k (h1 | ⟨j, x, hx, hk'⟩)
    · exact .inl (.inl h1)
    · rw [List.getElem?_set] at hx
      split at hx
      · split at hx
        · injection hx with hx
          subst hx
          rcases hg k hk' with h4 | h4
          · exact .inl (.inr ⟨i, u, hu, h4⟩)
          · exact .inr h4
        · cases hx
      · exact .inl (.inr ⟨j, x, hx, hk'⟩)
theorem RowsM.made {n : Nat} (h : w.heap[g]? = some (.cells (List.replicate n (Value.slice none 0 0)).toArray 39 (0, 0))) : RowsM w g (List.replicate n (Value.slice none 0 0)) (List.replicate n []) := by
  have key : ∀ (i : Nat) (u : Value), (List.replicate n (Value.slice none 0 0))[i]? = some u → u = .slice none 0 0 := fun i u hu => by
    rw [List.getElem?_replicate] at hu
    split at hu
    · exact (Option.some.inj hu).symm
    · cases hu
  have keyL : ∀ (i : Nat) (L : List Fr), (List.replicate n ([] : List Fr))[i]? = some L → L = [] := fun i L hL => by
    rw [List.getElem?_replicate] at hL
    split at hL
    · exact (Option.some.inj hL).symm
    · cases hL
  refine ⟨h, by simp, fun i u L hu hL => ?_, fun i u hu => ?_, fun i j u u' hu _ _ => ?_⟩
  · rw [key i u hu, keyL i L hL]; exact RowQ.nil _
  · rw [key i u hu]; intro hh; cases hh
  · rw [key i u hu]; intro k hh; cases hh
end

/-! ### a row appended to, in a region that draws -/
section
variable {P : Program} {ops : Array Oper} {st : List Nat} {G : Nat → (Tmp → Option Value) → World → Prop} {sec : List Tmp} {Q : Act → Prop} {o : Oper} {rest : List Oper} {h : Act} {i : Nat}
theorem st_app {α : Type} {c : α → List Value} {kk bytes : Nat} {T E : TypeId} {L M : List α} {ts tx tr : Tmp} {v : Value} (hT : FlatE P T E kk bytes) (hkk : ∀ a, (c a).length = kk) (hone : ∀ a, ∀ u ∈ c a, u.oneCell' = true)
    (k : Nat) (hi : st[k]? = some i) (hw : Region.wanted o (yielded ops h.tmps) = true) (ho : o.op = .call { callee := .builtin .append, args := #[.tmp ts, .tmp tx], argTypes := #[T, T] }) (hd : o.dst = some tr)
    (hs1 : sec.contains tr = true) (hs2 : sec.contains tx = true) (hs3 : sec.contains ts = false) (hl1 : ts ∈ o.looksAt ops) (hl2 : tx ∈ o.looksAt ops) (hv : h.tmps.getD ts undef = v)
    (hrd : ∀ xs w x, G k xs w → xs tx = some x → RowQ c kk w v L ∧ RdA c kk w x M) (hsz : L.length + M.length ≤ 1000000)
    (hG : ∀ xs w v' w', G k xs w → RowQ c kk w' v' (L ++ M) → Kept (OwnO v) w w' → Grows (OwnO v) w (OwnO v') → G (k + 1) (fun t => if t = tr then some v' else xs t) w')
    (hk : wpSt P ops st G sec Q (i + 1) rest (h.put o.dst undef)) : wpSt P ops st G sec Q i (o :: rest) h := by
  unfold wpSt
  rw [if_pos hw]
  refine ⟨undef, fun j xs a w hj hjk hb hfr hlk => ?_, hk⟩
  obtain rfl := hjk k hi
  have h1 := hlk ts hl1
  have h2 := hlk tx hl2
  have s1 : tr ∈ sec := by simpa using hs1
  rw [if_neg (by simpa using hs3), hv] at h1
  rw [if_pos (by simpa using hs2)] at h2
  obtain ⟨x, hx⟩ : ∃ x, a.tmps.getD tx undef = x := ⟨_, rfl⟩
  rw [hx] at h2
  obtain ⟨r1, r2⟩ := hrd xs w _ hb h2
  obtain ⟨v', w', hrun, q1, q2, q3⟩ := r1.run hT hkk (RowQ.src r2 hkk hone hT.1) hsz o.type
  have e1 : a.eval (.tmp ts) = v := h1
  have e2 : a.eval (.tmp tx) = x := hx
  rw [if_pos (List.mem_of_getElem? hi)]
  simp [execOp, ho, resolve, invoke, builtin, e1, e2, hrun, Result.andThen, stUpon, hd]
  refine ⟨?_, .inl s1⟩
  have := hG xs w v' w' hb q1 q2 q3
  unfold hidPut
  simp only
  rw [if_pos s1]
  exact this
end
end Go.Proofs.YtpgfifacfkllfaaDoor
