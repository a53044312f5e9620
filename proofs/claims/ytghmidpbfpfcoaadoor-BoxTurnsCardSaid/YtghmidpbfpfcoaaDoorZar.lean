/- Box, plain: what is sent whenever it is the best goes out by keys, of one key as it was put. No program is meant. -/
import Derived.Test.YtghmidpbfpfcoaaDoorZak
namespace Go.Proofs.YtghmidpbfpfcoaaDoor
open Go.RowKit
set_option linter.unusedVariables false

def Bx.pkt (s : Bx) (x : Int) : Pk := s.P.getD x.toNat pk0
/-- the packet p goes ahead of the packet q -/
def lexP (p q : Pk) : Prop := keyG p.f < keyG q.f ∨ (keyG p.f = keyG q.f ∧ p.tag < q.tag)
/-- those that are ready, in the order in which they were put, by their tags -/
def Bx.byTag (s : Bx) : Prop := s.ord.Pairwise fun x y => (s.pkt x).tag < (s.pkt y).tag
theorem getD_ofLt {α : Type} {l : List α} {i : Nat} (h : i < l.length) (d : α) : l.getD i d = l[i] := by rw [List.getD_eq_getElem?_getD, List.getElem?_eq_getElem h]; rfl
/-- the best one is one of them, and none of them goes ahead of it -/
theorem best_least {s : Bx} (h : s.Ok) : ∀ k, k < s.ord.length → ∃ p, p ≤ k ∧ s.best (k + 1) = s.ord.getD p 0 ∧ ∀ q, q ≤ k → s.key (s.ord.getD p 0) < s.key (s.ord.getD q 0) ∨ (s.key (s.ord.getD p 0) = s.key (s.ord.getD q 0) ∧ p ≤ q)
  | 0, hk => ⟨0, Nat.le_refl _, by unfold Bx.best; rw [if_pos (.inl (by unfold Bx.best; decide))], fun q hq => by obtain rfl : q = 0 := (by omega); exact .inr ⟨rfl, Nat.le_refl _⟩⟩
  | k + 1, hk => by
    obtain ⟨p, hp, hb, hl⟩ := best_least h k (by omega)
    have h0 : 0 ≤ s.ord.getD p 0 := by rw [getD_ofLt (by omega)]; exact (h.ord _ (List.getElem_mem _)).1
    have e : s.best (k + 1 + 1) = if s.best (k + 1) < 0 ∨ s.key (s.ord.getD (k + 1) 0) < s.key (s.best (k + 1)) then s.ord.getD (k + 1) 0 else s.best (k + 1) := rfl
    rw [hb] at e
    by_cases hc : s.key (s.ord.getD (k + 1) 0) < s.key (s.ord.getD p 0)
    · rw [if_pos (.inr hc)] at e
      refine ⟨k + 1, Nat.le_refl _, e, fun q hq => ?_⟩
      by_cases e1 : q = k + 1
      · subst e1; exact .inr ⟨rfl, Nat.le_refl _⟩
      · rcases hl q (by omega) with h1 | ⟨h1, _⟩
        · exact .inl (by omega)
        · exact .inl (by omega)
    · rw [if_neg (by rintro (h1 | h1) <;> omega)] at e
      refine ⟨p, by omega, e, fun q hq => ?_⟩
      by_cases e1 : q = k + 1
      · subst e1
        by_cases h2 : s.key (s.ord.getD p 0) < s.key (s.ord.getD (k + 1) 0)
        · exact .inl h2
        · exact .inr ⟨by omega, by omega⟩
      · exact hl q (by omega)
/-- what Best tells, where one is ready: one of them, ahead of all others -/
theorem bst_some {s : Bx} (h : s.Ok) (ht : s.byTag) (hn : s.ord ≠ []) : ∃ n : Nat, s.best s.ord.length = n ∧ (n : Int) ∈ s.ord ∧ ∀ y ∈ s.ord, y ≠ (n : Int) → lexP (s.pkt n) (s.pkt y) := by
  have hl : 0 < s.ord.length := List.length_pos_iff.2 hn
  obtain ⟨k, hk⟩ : ∃ k, s.ord.length = k + 1 := ⟨s.ord.length - 1, by omega⟩
  obtain ⟨p, hp, hb, hle⟩ := best_least h k (by omega)
  rw [hk, hb, getD_ofLt (by omega)]
  have hm := List.getElem_mem (l := s.ord) (n := p) (by omega)
  obtain ⟨n, hn⟩ := Int.eq_ofNat_of_zero_le (h.ord _ hm).1
  rw [hn] at hm ⊢
  refine ⟨n, rfl, hm, fun y hy hne => ?_⟩
  obtain ⟨q, hq, rfl⟩ := List.getElem_of_mem hy
  have h1 := hle q (by omega)
  rw [getD_ofLt (by omega), getD_ofLt (by omega), hn] at h1
  have k1 : s.key (n : Int) = keyG (s.pkt n).f := rfl
  have k2 : s.key s.ord[q] = keyG (s.pkt s.ord[q]).f := rfl
  rw [k1, k2] at h1
  rcases h1 with h1 | ⟨h1, h2⟩
  · exact .inl h1
  · refine .inr ⟨h1, ?_⟩
    have hpq : p < q := by
      rcases Nat.lt_or_ge p q with h3 | h3
      · exact h3
      · obtain rfl : p = q := by omega
        exact absurd hn hne
    have := List.pairwise_iff_getElem.1 ht p q (by omega) hq hpq
    rw [hn] at this
    exact this
/-- behind its sending -/
theorem sent_best {s : Bx} (h : s.Ok) (ht : s.byTag) {n : Nat} (hm : (n : Int) ∈ s.ord) : (s.end_ n 2).2 = 0 ∧ (s.end_ n 2).1.byTag ∧ (s.end_ n 2).1.ord.length + 1 = s.ord.length ∧ (∀ y ∈ (s.end_ n 2).1.ord, y ∈ s.ord ∧ y ≠ (n : Int)) ∧ ∀ y, (s.end_ n 2).1.pkt y = s.pkt y := by
  obtain ⟨h1, h2, h3⟩ := h.ord _ hm
  rw [Int.toNat_natCast] at h3
  have e : s.end_ n 2 = (s.endAt n 2, 0) := by unfold Bx.end_; rw [if_neg (by rw [Int.toNat_natCast]; omega), Int.toNat_natCast]
  rw [e]
  refine ⟨rfl, ht.filter _, ?_, fun y hy => ?_, fun y => rfl⟩
  · show (s.ord.filter fun x => x != (n : Int)).length + 1 = s.ord.length
    rw [← List.Nodup.erase_eq_filter h.nd1, List.length_erase_of_mem hm]
    have := List.length_pos_of_mem hm
    omega
  · have hy' : y ∈ s.ord.filter fun x => x != (n : Int) := hy
    simp only [List.mem_filter, bne_iff_ne, ne_eq] at hy'
    exact hy'
/-- n mailboxes, of which the first m are ready, as they were put; their tags are below i -/
structure Filled (s : Bx) (m : Nat) (i : Int) : Prop where
  ok : s.Ok
  len : s.S.length = 100
  tags : s.byTag
  num : s.ord.length = m
  low : ∀ x ∈ s.ord, (s.pkt x).tag < i
  full : ∀ j, j < m → s.S.getD j 1 = 1
  free : ∀ j, m ≤ j → j < 100 → s.S.getD j 1 = 0
  rng : ∀ x ∈ s.ord, x < m
theorem Filled.new : Filled (bxNew (boxesN 100)) 0 0 := by
  refine ⟨Bx.Ok.new 100, by decide, List.Pairwise.nil, rfl, nofun, fun j hj => by omega, fun j _ hj => ?_, nofun⟩
  show (List.replicate (boxesN 100) (0 : Int)).getD j 1 = 0
  rw [List.getD_eq_getElem?_getD, List.getElem?_replicate]
  have : boxesN 100 = 100 := by decide
  rw [this, if_pos hj]; rfl
theorem Filled.skip {s : Bx} {m : Nat} {i : Int} (h : Filled s m i) {p : Pk} (hp : keyG p.f < 0) : s.put p = (s, 0, 4) ∧ Filled s m (i + 1) :=
  ⟨by unfold Bx.put; rw [if_pos hp], h.ok, h.len, h.tags, h.num, fun x hx => by have := h.low x hx; omega, h.full, h.free, h.rng⟩
theorem Filled.add {s : Bx} {m : Nat} {i : Int} (h : Filled s m i) (hm : m < 100) {p : Pk} (hp : 0 ≤ keyG p.f) (ht : p.tag = i) : s.put p = (s.putAt m p, (m : Int), 0) ∧ Filled (s.putAt m p) (m + 1) (i + 1) := by
  have h0 : s.S.getD m 1 = 0 := h.free m (Nat.le_refl _) hm
  have hf : ∀ k, k ≤ m → s.first k = none := by
    intro k
    induction k with
    | zero => intro _; rfl
    | succ k ih =>
      intro hk
      refine Bx.first_more (ih (by omega)) ?_
      rw [h.full k (by omega)]; decide
  have hs : s.first s.S.length = some m := Bx.first_at (hf m (Nat.le_refl _)) h0 _ (by rw [h.len]; exact hm)
  have hml : m < s.S.length := by rw [h.len]; exact hm
  have hmp : m < s.P.length := by rw [h.ok.lp]; exact hml
  have hpk : ∀ x ∈ s.ord, (s.putAt m p).pkt x = s.pkt x := fun x hx => by
    have h1 := h.rng x hx
    have h2 := (h.ok.ord x hx).1
    unfold Bx.pkt Bx.putAt
    simp only [getD_set']
    rw [if_neg (by omega)]
  have hpm : (s.putAt m p).pkt (m : Int) = p := by
    unfold Bx.pkt Bx.putAt
    simp only [getD_set', Int.toNat_natCast]
    simp [hmp]
  have eo : (s.putAt m p).ord = s.ord ++ [(m : Int)] := rfl
  have es : (s.putAt m p).S = s.S.set m 1 := rfl
  refine ⟨by unfold Bx.put; rw [if_neg (by omega), hs], h.ok.putAt hml h0 hp, by rw [es, List.length_set]; exact h.len, ?_, by rw [eo, List.length_append, h.num]; rfl, fun x hx => ?_, fun j hj => ?_, fun j hj hj2 => ?_, fun x hx => ?_⟩
  · unfold Bx.byTag
    rw [eo, List.pairwise_append]
    refine ⟨h.tags.imp_of_mem (fun {a b} ha hb hab => by rw [hpk a ha, hpk b hb]; exact hab), List.pairwise_singleton _ _, fun a ha b hb => ?_⟩
    simp only [List.mem_singleton] at hb
    subst hb
    rw [hpk a ha, hpm, ht]
    exact h.low a ha
  · rw [eo, List.mem_append, List.mem_singleton] at hx
    rcases hx with hx | rfl
    · rw [hpk x hx]; have := h.low x hx; omega
    · rw [hpm, ht]; omega
  · rw [es, getD_set']
    by_cases e : m = j
    · rw [if_pos (show m = j ∧ m < s.S.length from ⟨e, hml⟩)]
    · rw [if_neg (fun h => e h.1)]; exact h.full j (by omega)
  · rw [es, getD_set', if_neg (by omega)]
    exact h.free j (by omega) hj2
  · rw [eo, List.mem_append, List.mem_singleton] at hx
    rcases hx with hx | rfl
    · have := h.rng x hx; omega
    · omega
end Go.Proofs.YtghmidpbfpfcoaaDoor
