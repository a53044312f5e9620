/- Band: rows of rows of integers; the rows of tags. Printed by gen_y.py. -/
import Derived.Test.YtpljlpfoalcfmaaZai
import Derived.Test.YtpljlpfoalcfmaaZaf
namespace Go.Proofs.Ytpljlpfoalcfmaa
open Go.RowKit
set_option linter.unusedVariables false

structure RowzM (w : World) (g : Nat) (ws : List Value) (W : List (List Int)) : Prop where
  box : w.heap[g]? = some (.cells ws.toArray 52 (0, 0))
  len : ws.length = W.length
  row : ∀ (i : Nat) (u : Value) (L : List Int), ws[i]? = some u → W[i]? = some L → RowQ inC 1 w u L
  f1 : ∀ (i : Nat) (u : Value), ws[i]? = some u → ¬ OwnO u g
  f2 : ∀ (i j : Nat) (u u' : Value), ws[i]? = some u → ws[j]? = some u' → i ≠ j → Apart (OwnO u) (OwnO u')
def rzO (g : Nat) (ws : List Value) : Nat → Prop := fun k => k = g ∨ ∃ (i : Nat) (u : Value), ws[i]? = some u ∧ OwnO u k
def RowzI (n : Nat) : World → Value → List (List Int) → (Nat → Prop) → Prop := fun w v W O => ∃ g ws, v = .slice (some ⟨g, 0, none⟩) n n ∧ O = rzO g ws ∧ W.length = n ∧ RowzM w g ws W
section
variable {w w' : World} {g : Nat} {ws : List Value} {W : List (List Int)}
theorem atz_lt {α : Type} {l : List α} {i : Nat} {a : α} (h : l[i]? = some a) : i < l.length := by
  rcases Nat.lt_or_ge i l.length with h1 | h1
  · exact h1
  · rw [List.getElem?_eq_none h1] at h; cases h
theorem RowzM.lt (h : RowzM w g ws W) : ∀ k, rzO g ws k → k < w.heap.size := by
  rintro k (rfl | ⟨i, u, hu, hk⟩)
  · exact heap_some_lt h.box
  · exact (h.row i u _ hu (List.getElem?_eq_getElem (by rw [← h.len]; exact atz_lt hu))).lt k hk
theorem RowzM.stay (h : RowzM w g ws W) (hs : ∀ k, rzO g ws k → w'.heap[k]? = w.heap[k]?) : RowzM w' g ws W :=
  ⟨(hs g (.inl rfl)).trans h.box, h.len, fun i u L hu hL => (h.row i u L hu hL).stayL (fun k hk => hs k (.inr ⟨i, u, hu, hk⟩)) (fun k hk => by
    have h1 := hs k (.inr ⟨i, u, hu, hk⟩)
    have h2 := h.lt k (.inr ⟨i, u, hu, hk⟩)
    rw [Array.getElem?_eq_getElem h2] at h1
    exact heap_some_lt h1), h.f1, h.f2⟩
theorem rowzI_obj (n : Nat) : IsObj (RowzI n) where
  stay := by
    rintro w w' v s O ⟨g, ws, rfl, rfl, hn, h⟩ hs
    exact ⟨g, ws, rfl, rfl, hn, h.stay hs⟩
  lt := by
    rintro w v s O ⟨g, ws, rfl, rfl, hn, h⟩
    exact h.lt
theorem RowzM.wait (h : RowzM w g ws W) {i : Nat} {u : Value} (hu : ws[i]? = some u) : w.cell? ⟨g, i, none⟩ = some u ∧ w.frozen? ⟨g, i, none⟩ = false := by
  refine ⟨?_, Lib.frozen_of_heap h.box i⟩
  rw [Lib.cell_of_heap h.box]
  simpa using hu
/-- a row is another one now -/
theorem RowzM.set (h : RowzM w g ws W) {i : Nat} {u v' : Value} {L' : List Int} (hu : ws[i]? = some u) (hq : RowQ inC 1 w' v' L') (hk : Kept (OwnO u) w w') (hg : Grows (OwnO u) w (OwnO v')) :
    RowzM (w'.setCell ⟨g, i, none⟩ v') g (ws.set i v') (W.set i L') ∧ Kept (rzO g ws) w (w'.setCell ⟨g, i, none⟩ v') ∧ Grows (rzO g ws) w (rzO g (ws.set i v')) := by
  have hz : w'.heap.size ≤ (w'.setCell ⟨g, i, none⟩ v').heap.size := by simp [World.setCell]
  have ho : ∀ k, k ≠ g → (w'.setCell ⟨g, i, none⟩ v').heap[k]? = w'.heap[k]? := fun k hk => Below.heap_setCell _ _ _ _ hk
  have u3 := h.f1 i u hu
  have nv : ∀ k, k < w.heap.size → ¬ OwnO u k → ¬ OwnO v' k := fun k h1 h2 h3 => by rcases hg k h3 with h4 | h4; exact h2 h4; omega
  have lw := h.lt g (.inl rfl)
  have hw' : w'.heap[g]? = some (.cells ws.toArray 52 (0, 0)) := (hk.block g lw u3).trans h.box
  have other : ∀ (m : Nat) (y : Value), ws[m]? = some y → i ≠ m → Apart (OwnO v') (OwnO y) := fun m y hy hm k h1 h2 => by
    have h5 := h.row m y _ hy (List.getElem?_eq_getElem (by rw [← h.len]; exact atz_lt hy))
    exact nv k (h5.lt k h2) (fun h3 => h.f2 i m u y hu hy hm k h3 h2) h1
  refine ⟨⟨?_, by simpa using h.len, fun j x L hx hL => ?_, fun j x hx => ?_, fun j l x x' hx hx' hjl => ?_⟩, ?_, ?_⟩
  · rw [heap_setCell_same w' g i _ _ _ hw']; simp
  · rw [List.getElem?_set] at hx hL
    by_cases e : i = j
    · subst e
      have hi := atz_lt hu
      rw [if_pos rfl, if_pos hi] at hx
      rw [if_pos rfl, if_pos (by rw [← h.len]; exact hi)] at hL
      injection hx with hx
      injection hL with hL
      subst hx hL
      exact hq.stay (fun k hk' => ho k (fun e => nv g lw u3 (e ▸ hk'))) hz
    · rw [if_neg e] at hx hL
      have h5 := h.row j x L hx hL
      exact (h5.stay (fun k hk' => hk.block k (h5.lt k hk') (fun h6 => h.f2 i j u x hu hx e k h6 hk')) hk.size).stay (fun k hk' => ho k (fun e => (h.f1 j x hx) (e ▸ hk'))) hz
  · rw [List.getElem?_set] at hx
    split at hx
    · split at hx
      · injection hx with hx
        subst hx
        exact nv g lw u3
      · cases hx
    · exact h.f1 j x hx
  · rw [List.getElem?_set] at hx hx'
    by_cases e : i = j
    · rw [if_pos e] at hx
      split at hx
      · injection hx with hx
        subst hx
        by_cases e2 : i = l
        · omega
        · rw [if_neg e2] at hx'
          exact other l x' hx' e2
      · cases hx
    · rw [if_neg e] at hx
      by_cases e2 : i = l
      · rw [if_pos e2] at hx'
        split at hx'
        · injection hx' with hx'
          subst hx'
          exact (other j x hx e).symm
        · cases hx'
      · rw [if_neg e2] at hx'
        exact h.f2 j l x x' hx hx' hjl
  · refine ⟨hk.os, hk.tape, hk.output, Nat.le_trans hk.size hz, fun k h1 h2 => ?_⟩
    rw [ho k (fun e => h2 (.inl e))]
    exact hk.block k h1 (fun h3 => h2 (.inr ⟨i, u, hu, h3⟩))
  · rintro k (h1 | ⟨j, x, hx, hk'⟩)
    · exact .inl (.inl h1)
    · rw [List.getElem?_set] at hx
      split at hx
      · split at hx
        · injection hx with hx
          subst hx
          rcases hg k hk' with h4 | h4
          · exact .inl (.inr ⟨i, u, hu, h4⟩)
          · exact .inr h4
        · cases hx
      · exact .inl (.inr ⟨j, x, hx, hk'⟩)
theorem RowzM.made {n : Nat} (h : w.heap[g]? = some (.cells (List.replicate n (Value.slice none 0 0)).toArray 52 (0, 0))) : RowzM w g (List.replicate n (Value.slice none 0 0)) (List.replicate n []) := by
  have key : ∀ (i : Nat) (u : Value), (List.replicate n (Value.slice none 0 0))[i]? = some u → u = .slice none 0 0 := fun i u hu => by
    rw [List.getElem?_replicate] at hu
    split at hu
    · exact (Option.some.inj hu).symm
    · cases hu
  have keyL : ∀ (i : Nat) (L : List Int), (List.replicate n ([] : List Int))[i]? = some L → L = [] := fun i L hL => by
    rw [List.getElem?_replicate] at hL
    split at hL
    · exact (Option.some.inj hL).symm
    · cases hL
  refine ⟨h, by simp, fun i u L hu hL => ?_, fun i u hu => ?_, fun i j u u' hu _ _ => ?_⟩
  · rw [key i u hu, keyL i L hL]; exact RowQ.nil _
  · rw [key i u hu]; intro hh; cases hh
  · rw [key i u hu]; intro k hh; cases hh
end

def tagsW (L : List On) (n : Nat) : List (List Int) := (List.range n).map fun b => (bandF L b).map fun p => p.tag
theorem tagsW_len (L : List On) (n : Nat) : (tagsW L n).length = n := by unfold tagsW; simp
theorem tagsW_get (L : List On) {n b : Nat} (h : b < n) : (tagsW L n)[b]? = some ((bandF L b).map fun p => p.tag) := by
  unfold tagsW
  rw [List.getElem?_map, List.getElem?_range h]
  rfl
theorem tagsW_nil (n : Nat) : tagsW [] n = List.replicate n [] := by
  refine List.ext_getElem? fun b => ?_
  by_cases h : b < n
  · rw [tagsW_get _ h, List.getElem?_replicate, if_pos h]; rfl
  · rw [List.getElem?_eq_none (by rw [tagsW_len]; omega), List.getElem?_eq_none (by simp; omega)]
theorem tagsW_set {L M : List On} {n c : Nat} {T : List Int} (hT : ((bandF M c).map fun p => p.tag) = T) (ho : ∀ b, b ≠ c → bandF M b = bandF L b) : tagsW M n = (tagsW L n).set c T := by
  refine List.ext_getElem? fun b => ?_
  by_cases h : b < n
  · rw [tagsW_get _ h, List.getElem?_set]
    by_cases e : c = b
    · subst e
      rw [if_pos rfl, if_pos (by rw [tagsW_len]; exact h), hT]
    · rw [if_neg e, tagsW_get _ h, ho b (fun h => e h.symm)]
  · rw [List.getElem?_eq_none (by rw [tagsW_len]; omega), List.getElem?_eq_none (by rw [List.length_set, tagsW_len]; omega)]
theorem tagsW_put (L : List On) (n : Nat) {x : On} {c : Nat} (hx : x.b = (c : Int)) : tagsW (L ++ [x]) n = (tagsW L n).set c (((bandF L c).map fun p => p.tag) ++ [x.p.tag]) :=
  tagsW_set (by rw [bandF_app, bandF_one, if_pos hx, List.map_append]; rfl) (fun b hb => by rw [bandF_app, bandF_one, if_neg (fun h => hb (by rw [hx] at h; omega)), List.append_nil])
/-- what Take does to the bands -/
theorem Bq.take_rows {s : Bq} (hok : s.Ok) (hs : s.st = false) (hn : s.L ≠ []) : ∃ c : Nat, (c : Int) < s.bands ∧ (∀ b, b < c → bandF s.L b = []) ∧ bandF s.L c = s.take.2.1 :: bandF s.take.1.L c ∧ (∀ b, b ≠ c → bandF s.take.1.L b = bandF s.L b) ∧ s.take.2.2 = true := by
  obtain ⟨i, hi⟩ := Bq.first_some hn
  obtain ⟨h1, h2, h3⟩ := Bq.first_spec hi
  obtain ⟨x, hx⟩ : ∃ x, s.L[i]? = some x := ⟨_, List.getElem?_eq_getElem h1⟩
  have e : s.take = ({ s with L := s.L.eraseIdx i }, x.p, true) := by unfold Bq.take; rw [hi]; simp [hs, List.getD_eq_getElem?_getD, hx]
  rw [e]
  obtain ⟨e1, e2⟩ := split_at hx
  have hb : ∀ j y, s.L[j]? = some y → s.bd j = y.b := fun j y hy => by unfold Bq.bd; rw [List.getD_eq_getElem?_getD, hy]; rfl
  have hxb := hb i x hx
  obtain ⟨r1, r2⟩ := hok.rng x (List.mem_of_getElem? hx)
  obtain ⟨c, hc⟩ := Int.eq_ofNat_of_zero_le r1
  have k1 : ∀ o ∈ s.L.take i, (c : Int) < o.b := fun o ho => by
    obtain ⟨j, hj, rfl⟩ := List.getElem_of_mem ho
    rw [List.length_take] at hj
    have hj2 : j < s.L.length := by omega
    rw [List.getElem_take]
    have := h2 j (by omega)
    rw [hb j _ (List.getElem?_eq_getElem hj2), hxb] at this
    omega
  have k2 : ∀ o ∈ s.L, (c : Int) ≤ o.b := fun o ho => by
    obtain ⟨j, hj, rfl⟩ := List.getElem_of_mem ho
    have := h3 j hj
    rw [hb j _ (List.getElem?_eq_getElem hj), hxb] at this
    omega
  have e3 : s.L.take i ++ x :: s.L.drop (i + 1) = s.L.take i ++ ([x] ++ s.L.drop (i + 1)) := rfl
  refine ⟨c, by omega, fun b hb => bandF_none (fun o ho e => by have := k2 o ho; omega), ?_, fun b hb => ?_, rfl⟩
  · show bandF s.L c = x.p :: bandF (s.L.eraseIdx i) c
    rw [e2]
    conv => lhs; rw [e1]
    rw [e3, bandF_app, bandF_app, bandF_app, bandF_one, if_pos hc, bandF_none (L := s.L.take i) (fun o ho e => by have := k1 o ho; omega)]
    rfl
  · show bandF (s.L.eraseIdx i) b = bandF s.L b
    rw [e2]
    conv => rhs; rw [e1]
    rw [e3, bandF_app, bandF_app, bandF_app, bandF_one, if_neg (fun h => hb (by rw [hc] at h; omega))]
    rfl
end Go.Proofs.Ytpljlpfoalcfmaa
