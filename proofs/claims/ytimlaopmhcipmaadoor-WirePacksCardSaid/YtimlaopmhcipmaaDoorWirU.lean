/- Wire: the document's Decode in two words. -/
import Derived.Test.YtimlaopmhcipmaaDoorWirT
namespace Go.Proofs.YtimlaopmhcipmaaDoor
open Go.RowKit
set_option linter.unusedVariables false

structure DecParts (s : ByteArray) : Prop where
  size : s.size = 16 ∨ s.size = 72
  b6 : bt s 6 = 0
  b7 : bt s 7 = 0
  fd : isFd s = decide (bt s 5 / 4 = 1)
  m0 : isFd s = true ∨ bt s 5 = 0
  m7 : bt s 5 ≤ 7
  n8 : decN s + 8 ≤ s.size
  z : zeroB s (8 + decN s) s.size = true
  i : decIs s = true
  r : fR (decF s).n = false ∨ zeroB s 8 s.size = true
theorem decOk_iff (s : ByteArray) : decOk s = true ↔ DecParts s := by
  unfold decOk decPre
  constructor
  · intro h
    simp only [Bool.and_eq_true, Bool.or_eq_true, decide_eq_true_eq, beq_iff_eq, Bool.not_eq_true'] at h
    obtain ⟨⟨⟨⟨⟨⟨⟨⟨⟨hsz, h6⟩, h7⟩, hfd⟩, hm0⟩, hm7⟩, hn8⟩, hz⟩, hi⟩, hrz⟩ := h
    exact ⟨hsz, h6, h7, hfd, hm0, hm7, hn8, hz, hi, hrz⟩
  · intro p
    simp only [Bool.and_eq_true, Bool.or_eq_true, decide_eq_true_eq, beq_iff_eq, Bool.not_eq_true']
    exact ⟨⟨⟨⟨⟨⟨⟨⟨⟨p.size, p.b6⟩, p.b7⟩, p.fd⟩, p.m0⟩, p.m7⟩, p.n8⟩, p.z⟩, p.i⟩, p.r⟩
theorem decOk_no {s : ByteArray} (h : DecParts s → False) : decOk s = false := by
  cases hd : decOk s
  · rfl
  · exact (h ((decOk_iff s).1 hd)).elim
theorem isFd_16 {s : ByteArray} (h : s.size = 16) : isFd s = false := by unfold isFd; rw [h]; rfl
theorem isFd_72 {s : ByteArray} (h : s.size = 72) : isFd s = true := by unfold isFd; rw [h]; rfl
def decV (s : ByteArray) : Value := .tuple #[if decOk s then .agg #[.int .i64 (decF s).i, .int .i64 (decF s).n, .int .i64 (decF s).l, .string (decF s).d] else .agg #[.int .i64 0, .int .i64 0, .int .i64 0, .string (ByteArray.mk #[])], .bool (decOk s)]
theorem decV_f {s : ByteArray} (h : decOk s = false) : decV s = .tuple #[.agg #[.int .i64 0, .int .i64 0, .int .i64 0, .string (ByteArray.mk #[])], .bool false] := by unfold decV; rw [h]; rfl
theorem decV_t {s : ByteArray} (h : decOk s = true) : decV s = .tuple #[.agg #[.int .i64 (decF s).i, .int .i64 (decF s).n, .int .i64 (decF s).l, .string (decF s).d], .bool true] := by unfold decV; rw [h]; rfl

theorem rdec_any {s : ByteArray} (hs : s.size ≤ maxLen) (w : World) :
    Calls Tryd.prog 13 #[.string s] w fun e w' => e = .returned (decV s) ∧ Below w.heap.size w w' := by
  by_cases h16 : s.size = 16
  · have hfd := isFd_16 h16
    by_cases h6 : bt s 6 = 0
    · by_cases h7 : bt s 7 = 0
      · by_cases h5 : bt s 5 / 4 = 1
        · rw [decV_f (decOk_no fun p => by have := p.fd; rw [hfd, decide_eq_true h5] at this; cases this)]
          exact rdec_B3_16 hs h16 h6 h7 h5 w
        · by_cases h50 : bt s 5 = 0
          · by_cases h8 : decN s + 8 ≤ s.size
            · cases h9 : zeroB s (8 + decN s) s.size
              · rw [decV_f (decOk_no fun p => by have := p.z; rw [h9] at this; cases this)]
                exact rdec_C2_16 hs h16 h6 h7 h50 h8 h9 w
              · have hdi : decIs s = okOf (num4 s 0) (decD s) := by unfold decIs; rw [hfd]; rfl
                have hdn : (decF s).n = nOf (num4 s 0) := by unfold decF; rw [hfd]; rfl
                cases h10 : okOf (num4 s 0) (decD s)
                · rw [decV_f (decOk_no fun p => by have := p.i; rw [hdi, h10] at this; cases this)]
                  exact rdec_D1 hs h16 h6 h7 h50 h8 h9 h10 w
                · have mk : (fR (decF s).n = false ∨ zeroB s 8 s.size = true) → decOk s = true := fun hr => (decOk_iff s).2 ⟨.inl h16, h6, h7, by rw [hfd, decide_eq_false h5], .inr h50, by omega, h8, h9, by rw [hdi]; exact h10, hr⟩
                  cases h11 : wR (num4 s 0)
                  · rw [decV_t (mk (.inl (by rw [hdn, fR_nOf]; exact h11)))]
                    exact rdec_E2 hs h16 h6 h7 h50 h8 h9 h10 h11 w
                  · cases h12 : zeroB s 8 s.size
                    · rw [decV_f (decOk_no fun p => by
                        rcases p.r with h | h
                        · rw [hdn, fR_nOf, h11] at h; cases h
                        · rw [h12] at h; cases h)]
                      exact rdec_D2 hs h16 h6 h7 h50 h8 h9 h10 h11 h12 w
                    · rw [decV_t (mk (.inr h12))]
                      exact rdec_E1 hs h16 h6 h7 h50 h8 h9 h10 h11 h12 w
            · rw [decV_f (decOk_no fun p => h8 p.n8)]
              exact rdec_C1_16 hs h16 h6 h7 h50 h8 w
          · rw [decV_f (decOk_no fun p => by
              rcases p.m0 with h | h
              · rw [hfd] at h; cases h
              · exact h50 h)]
            exact rdec_B4_16 hs h16 h6 h7 h5 h50 w
      · rw [decV_f (decOk_no fun p => h7 p.b7)]
        exact rdec_B2_16 hs h16 h6 h7 w
    · rw [decV_f (decOk_no fun p => h6 p.b6)]
      exact rdec_B1_16 hs h16 h6 w
  · by_cases h72 : s.size = 72
    · have hfd := isFd_72 h72
      by_cases h6 : bt s 6 = 0
      · by_cases h7 : bt s 7 = 0
        · by_cases h5 : bt s 5 / 4 = 1
          · by_cases h8 : decN s + 8 ≤ s.size
            · cases h9 : zeroB s (8 + decN s) s.size
              · rw [decV_f (decOk_no fun p => by have := p.z; rw [h9] at this; cases this)]
                exact rdec_C2_72 hs h72 h6 h7 h5 h8 h9 w
              · have hdi : decIs s = ((decF s).ok && decide (num4 s 0 / 536870912 % 4 = 0)) := by unfold decIs; rw [hfd]; rfl
                have hdn : (decF s).n = decFl s := by unfold decF; rw [hfd]; rfl
                have hR : fR (decF s).n = false := by
                  have hfl : decFl s = 8 + b01 (wE (num4 s 0)) + 16 * b01 (decide (bt s 5 % 2 = 1)) + 32 * b01 (decide (bt s 5 / 2 % 2 = 1)) := by
                    have a1 := mod2_b01 (bt s 5)
                    have a2 := mod2_b01 (bt s 5 / 2)
                    unfold decFl
                    rw [← a1, ← a2]
                  rw [hdn, hfl]
                  exact (fd_parts _ _ _).2.1
                have hok : decOk s = ((decF s).ok && decide (num4 s 0 / 536870912 % 4 = 0)) := by
                  cases hq : ((decF s).ok && decide (num4 s 0 / 536870912 % 4 = 0))
                  · exact decOk_no fun p => by have := p.i; rw [hdi, hq] at this; cases this
                  · exact (decOk_iff s).2 ⟨.inr h72, h6, h7, by rw [hfd, decide_eq_true h5], .inl hfd, by omega, h8, h9, by rw [hdi]; exact hq, .inl hR⟩
                have hb : bt s 5 % 2 = 0 ∨ bt s 5 % 2 = 1 := by omega
                have ht : bt s 5 / 2 % 2 = 0 ∨ bt s 5 / 2 % 2 = 1 := by omega
                cases he : wE (num4 s 0) <;> rcases hb with hb | hb <;> rcases ht with ht | ht
                · exact rdec_F_000 hs h72 h6 h7 h5 h8 h9 he hb ht _ hok.symm _ rfl w
                · exact rdec_F_001 hs h72 h6 h7 h5 h8 h9 he hb ht _ hok.symm _ rfl w
                · exact rdec_F_010 hs h72 h6 h7 h5 h8 h9 he hb ht _ hok.symm _ rfl w
                · exact rdec_F_011 hs h72 h6 h7 h5 h8 h9 he hb ht _ hok.symm _ rfl w
                · exact rdec_F_100 hs h72 h6 h7 h5 h8 h9 he hb ht _ hok.symm _ rfl w
                · exact rdec_F_101 hs h72 h6 h7 h5 h8 h9 he hb ht _ hok.symm _ rfl w
                · exact rdec_F_110 hs h72 h6 h7 h5 h8 h9 he hb ht _ hok.symm _ rfl w
                · exact rdec_F_111 hs h72 h6 h7 h5 h8 h9 he hb ht _ hok.symm _ rfl w
            · rw [decV_f (decOk_no fun p => h8 p.n8)]
              exact rdec_C1_72 hs h72 h6 h7 h5 h8 w
          · rw [decV_f (decOk_no fun p => by have := p.fd; rw [hfd, decide_eq_false h5] at this; cases this)]
            exact rdec_B3_72 hs h72 h6 h7 h5 w
        · rw [decV_f (decOk_no fun p => h7 p.b7)]
          exact rdec_B2_72 hs h72 h6 h7 w
      · rw [decV_f (decOk_no fun p => h6 p.b6)]
        exact rdec_B1_72 hs h72 h6 w
    · rw [decV_f (decOk_no fun p => by rcases p.size with h | h; exact h16 h; exact h72 h)]
      exact rdec_A hs h16 h72 w
theorem rdec_t {s : ByteArray} (hs : s.size ≤ maxLen) (h : decOk s = true) (w : World) :
    Calls Tryd.prog 13 #[.string s] w fun e w' => e = .returned (.tuple #[.agg #[.int .i64 (decF s).i, .int .i64 (decF s).n, .int .i64 (decF s).l, .string (decF s).d], .bool true]) ∧ Below w.heap.size w w' := by rw [← decV_t h]; exact rdec_any hs w
theorem rdec_f {s : ByteArray} (hs : s.size ≤ maxLen) (h : decOk s = false) (w : World) :
    Calls Tryd.prog 13 #[.string s] w fun e w' => e = .returned (.tuple #[.agg #[.int .i64 0, .int .i64 0, .int .i64 0, .string (ByteArray.mk #[])], .bool false]) ∧ Below w.heap.size w w' := by rw [← decV_f h]; exact rdec_any hs w

end Go.Proofs.YtimlaopmhcipmaaDoor
