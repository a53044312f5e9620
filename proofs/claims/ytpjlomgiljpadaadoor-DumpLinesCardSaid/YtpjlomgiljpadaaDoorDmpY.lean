/- Dump: data as the program reads them: plain. No program is meant here. -/
import Derived.Test.YtpjlomgiljpadaaDoorDmpM
import Derived.Lib.RuneBytes
namespace Go.Proofs.YtpjlomgiljpadaaDoor
open Go.RowKit
set_option linter.unusedVariables false

/-- a byte that may stand in data -/
def clean (c : Int) : Prop := dig c < 16 ∨ c = 46
instance (c : Int) : Decidable (clean c) := by unfold clean; infer_instance
def nod (L : List Int) : List Int := L.filter fun c => decide (c ≠ 46)
def mach : List Int → Bool → Nat → Bool
  | [], dotted, _ => !dotted
  | c :: t, dotted, n => if c = 46 then (if dotted = true ∨ n % 2 ≠ 0 then false else mach t true n) else mach t false (n + 1)
def pairL : List Int → List Int
  | [] => []
  | [_] => []
  | a :: b :: t => (16 * dig a + dig b) :: pairL t
theorem nod_dot (L : List Int) : nod (46 :: L) = nod L := by simp [nod]
theorem nod_cons {c : Int} (h : c ≠ 46) (L : List Int) : nod (c :: L) = c :: nod L := by simp [nod, h]
theorem nod_app (a b : List Int) : nod (a ++ b) = nod a ++ nod b := by simp [nod]
theorem dig_46 : dig 46 = 16 := by decide
theorem dat1_mach : ∀ (k : Nat) {L : List Int} {m : Nat}, L.length ≤ k → m % 2 = 0 → (∀ c ∈ L, clean c) →
    dat1 L = if mach L true m = true ∧ (nod L).length % 2 = 0 then some (pairL (nod L)) else none
  | 0, L, m, hk, hm, hc => by
    have : L = [] := List.length_eq_zero_iff.1 (by omega)
    subst this; rfl
  | k + 1, L, m, hk, hm, hc => by
    match L, hc, hk with
    | [], _, _ => rfl
    | [a], hc, _ =>
      rw [dat1_no (by simp)]
      by_cases ha : a = 46
      · subst ha; simp [mach]
      · rw [nod_cons ha]; simp [nod]
    | a :: b :: t, hc, hk =>
      rw [dat1_two]
      by_cases ha : a = 46
      · subst ha
        rw [if_neg (by rw [dig_46]; omega), if_neg (by simp [mach])]
      have da : dig a < 16 := (hc a (by simp)).resolve_right ha
      by_cases hb : b = 46
      · subst hb
        rw [if_neg (by rw [dig_46]; omega), if_neg]
        simp only [mach]
        rw [if_neg ha, if_pos (by trivial), if_pos (by omega)]
        simp
      have db : dig b < 16 := (hc b (by simp)).resolve_right hb
      have e1 : mach (a :: b :: t) true m = mach t false (m + 2) := by simp only [mach]; rw [if_neg ha, if_neg hb]
      rw [if_pos ⟨da, db⟩, e1, nod_cons ha, nod_cons hb]
      have e2 : (a :: b :: nod t).length % 2 = (nod t).length % 2 := by simp; omega
      rw [e2]
      cases t with
      | nil => rfl
      | cons c t =>
        by_cases h46 : c = 46
        · subst h46
          have ih := dat1_mach k (L := t) (m := m + 2) (by simp at hk; omega) (by omega) (fun c hc' => hc c (by simp [hc']))
          have e3 : mach (46 :: t) false (m + 2) = mach t true (m + 2) := by simp only [mach]; rw [if_pos (by trivial), if_neg (by simp; omega)]
          rw [e3, nod_dot]
          simp only [datC]
          rw [if_pos (by trivial), ih]
          split <;> rfl
        · have ih := dat1_mach k (L := c :: t) (m := m + 2) (by simp at hk ⊢; omega) (by omega) (fun c hc' => hc c (by simp only [List.mem_cons] at hc' ⊢; exact .inr (.inr hc')))
          have e3 : mach (c :: t) false (m + 2) = mach (c :: t) true (m + 2) := by simp only [mach]; rw [if_neg h46, if_neg h46]
          rw [e3]
          simp only [datC]
          rw [if_neg h46, ih]
          split <;> rfl
theorem dat1_clean : ∀ (n : Nat) {L l : List Int}, L.length ≤ n → dat1 L = some l → ∀ c ∈ L, clean c
  | 0, L, l, hn, h => by
    have : L = [] := List.length_eq_zero_iff.1 (by omega)
    subst this; cases h
  | n + 1, L, l, hn, h => by
    match L, h with
    | [], h => cases h
    | [_], h => cases h
    | a :: b :: t, h =>
      rw [dat1_two] at h
      split at h
      · rename_i hab
        obtain ⟨l', h1, rfl⟩ := Option.map_eq_some_iff.1 h
        have ht : ∀ c ∈ t, clean c := by
          cases t with
          | nil => intro c hc; cases hc
          | cons c t =>
            simp only [datC] at h1
            simp only [List.length_cons] at hn
            split at h1
            · rename_i e
              subst e
              intro c hc
              rcases List.mem_cons.1 hc with rfl | hc
              · exact .inr rfl
              · exact dat1_clean n (by omega) h1 c hc
            · exact dat1_clean n (by simp; omega) h1
        intro c hc
        simp only [List.mem_cons] at hc
        rcases hc with rfl | rfl | hc
        · exact .inl hab.1
        · exact .inl hab.2
        · exact ht c hc
      · cases h
theorem datL_dirty {L : List Int} {c : Int} (hc : c ∈ L) (hd : ¬ clean c) : datL L = none := by
  cases h : datL L with
  | none => rfl
  | some l =>
    unfold datL at h
    split at h
    · rename_i e; subst e; cases hc
    · exact absurd (dat1_clean _ (Nat.le_refl _) h c hc) hd
theorem datL_mach {L : List Int} (h0 : L ≠ []) (hc : ∀ c ∈ L, clean c) : datL L = if mach L true 0 = true ∧ (nod L).length % 2 = 0 then some (pairL (nod L)) else none := by
  unfold datL; rw [if_neg h0]; exact dat1_mach _ (Nat.le_refl _) rfl hc
theorem nod_digs {L : List Int} (hc : ∀ c ∈ L, clean c) : ∀ c ∈ nod L, dig c < 16 := by
  intro c h
  unfold nod at h
  obtain ⟨h1, h2⟩ := List.mem_filter.1 h
  exact (hc c h1).resolve_right (by simpa using h2)

/-- pairs, as Unhex has them -/
theorem pairL_snoc : ∀ (L : List Int) (a b : Int), L.length % 2 = 0 → pairL (L ++ [a, b]) = pairL L ++ [16 * dig a + dig b]
  | [], a, b, _ => rfl
  | [x], a, b, h => by simp at h
  | x :: y :: t, a, b, h => by
    have := pairL_snoc t a b (by simp at h; omega)
    simp only [List.cons_append, pairL, this]
theorem unl_pair (s : ByteArray) : ∀ n, 2 * n ≤ s.size → unl s n = pairL ((byL s).take (2 * n))
  | 0, _ => by simp [unl, pairL]
  | n + 1, h => by
    have ih := unl_pair s n (by omega)
    rw [unl_succ, ih, show 2 * (n + 1) = 2 * n + 1 + 1 by omega, byL_take (by omega), byL_take (by omega), List.append_assoc]
    have hl : ((byL s).take (2 * n)).length % 2 = 0 := by rw [List.length_take, byL_len]; omega
    rw [show [bt s (2 * n)] ++ [bt s (2 * n + 1)] = [bt s (2 * n), bt s (2 * n + 1)] from rfl, pairL_snoc _ _ _ hl]
    rfl
theorem unl_all {s : ByteArray} (h : s.size % 2 = 0) : unl s (s.size / 2) = pairL (byL s) := by
  rw [unl_pair s _ (by omega), List.take_of_length_le (by rw [byL_len]; omega)]
theorem isdig_of {s : ByteArray} (h : ∀ c ∈ byL s, dig c < 16) : isdig s s.size := by
  intro i hi
  have := h (bt s i) (by rw [← byL_get hi]; exact List.getElem_mem _)
  exact this
theorem isdig_no {s : ByteArray} {c : Int} (hc : c ∈ byL s) (h : ¬ dig c < 16) : ¬ unOk s := by
  intro hu
  obtain ⟨i, hi, e⟩ := List.getElem_of_mem hc
  have hi' : i < s.size := by rw [byL_len] at hi; exact hi
  have := hu.1 i hi'
  unfold dg at this
  rw [byL_get hi'] at e
  rw [e] at this
  exact h this

/-! ### bytes that were gathered -/
def acL (acc : List UInt8) : List Int := acc.map fun b => (b.toNat : Int)
theorem acL_byL (acc : List UInt8) : byL (ByteArray.mk acc.toArray) = acL acc := by simp [byL, acL]
theorem acL_app (a b : List UInt8) : acL (a ++ b) = acL a ++ acL b := by simp [acL]
theorem acL_rune {r : Int} (h0 : 0 ≤ r) (h1 : r < 128) : acL (Lib.encodeRune r) = [r] := by
  unfold Lib.encodeRune acL
  rw [Lib.encodeRuneZ_one h0 (by omega)]
  simp; omega
theorem acL_high {r : Int} (h0 : 128 ≤ r) : ∃ c ∈ acL (Lib.encodeRune r), ¬ dig c < 16 := by
  have hall : ∀ x ∈ Lib.encodeRuneZ r, 128 ≤ x ∧ x < 256 := by
    intro x hx
    unfold Lib.encodeRuneZ at hx
    rw [if_neg (by omega)] at hx
    split at hx
    · simp at hx; omega
    · split at hx
      · simp at hx; omega
      · split at hx
        · simp at hx; omega
        · simp at hx; omega
  have hlen := (Lib.encodeRuneZ_length r).1
  obtain ⟨x, hx⟩ : ∃ x, x ∈ Lib.encodeRuneZ r := by
    cases h : Lib.encodeRuneZ r with
    | nil => rw [h] at hlen; simp at hlen
    | cons x t => exact ⟨x, by simp⟩
  have hb := hall x hx
  refine ⟨x, ?_, by rw [dig_no (by omega)]; omega⟩
  unfold acL Lib.encodeRune
  rw [List.map_map]
  refine List.mem_map.2 ⟨x, hx, ?_⟩
  simp; omega

end Go.Proofs.YtpjlomgiljpadaaDoor
