/- Wire: a frame's bytes are read as that frame; bytes that are a frame's are that frame's. -/
import Derived.Test.YtimlaopmhcipmaaDoorWirM
namespace Go.Proofs.YtimlaopmhcipmaaDoor
open Go.RowKit
set_option linter.unusedVariables false

theorem encB_at {f : Fr} : encB f 4 = f.l ∧ encB f 5 = markN f.n ∧ encB f 6 = 0 ∧ encB f 7 = 0 := by simp [encB]
theorem encB_data {f : Fr} (k : Nat) (h : 8 ≤ k) : encB f k = bt f.d (k - 8) := by
  unfold encB
  rw [if_neg (by omega), if_neg (by omega), if_neg (by omega), if_neg (by omega)]
theorem encB_word {f : Fr} (k : Nat) (h : k < 4) : encB f k = wb (wordN f.i f.n) k := by unfold encB; rw [if_pos h]

/-- of a frame's bytes -/
theorem enc_num {f : Fr} (h : f.ok = true) : num4 (encS f) 0 = wordN f.i f.n := by
  obtain ⟨h0, h1⟩ := Fr.word h
  refine num4_wb h0 h1 fun k hk => ?_
  rw [bt_enc h k (by rcases totN_cases f.n with ⟨_, e⟩ | ⟨_, e⟩ <;> omega), encB_word k hk]
theorem enc_isFd {f : Fr} : isFd (encS f) = fD f.n := by
  unfold isFd
  rw [encS_size]
  rcases totN_cases f.n with ⟨e, ht⟩ | ⟨e, ht⟩ <;> rw [e, ht] <;> rfl
theorem tot16 (n : Int) : 16 ≤ totN n := by rcases totN_cases n with ⟨_, e⟩ | ⟨_, e⟩ <;> omega
theorem enc_4 {f : Fr} (h : f.ok = true) : bt (encS f) 4 = f.l := by rw [bt_enc h 4 (by have := tot16 f.n; omega)]; exact encB_at.1
theorem enc_5 {f : Fr} (h : f.ok = true) : bt (encS f) 5 = markN f.n := by rw [bt_enc h 5 (by have := tot16 f.n; omega)]; exact encB_at.2.1
theorem enc_6 {f : Fr} (h : f.ok = true) : bt (encS f) 6 = 0 := by rw [bt_enc h 6 (by have := tot16 f.n; omega)]; exact encB_at.2.2.1
theorem enc_7 {f : Fr} (h : f.ok = true) : bt (encS f) 7 = 0 := by rw [bt_enc h 7 (by have := tot16 f.n; omega)]; exact encB_at.2.2.2
theorem enc_N {f : Fr} (h : f.ok = true) : ((decN (encS f) : Nat) : Int) = f.l := by unfold decN; rw [enc_4 h]; have := (Fr.len h).1; omega
theorem enc_D_size {f : Fr} (h : f.ok = true) : ((decD (encS f)).size : Int) = f.l := by
  have hn := enc_N h
  have hl := (Fr.len h).2.1
  unfold decD
  rw [sub_size _ _ _ (by rw [encS_size]; omega)]
  omega
theorem enc_D {f : Fr} (h : f.ok = true) (hr : fR f.n = false) : decD (encS f) = f.d := by
  have hn := enc_N h
  have hs := enc_D_size h
  have hl := Fr.len h
  have hd := hl.2.2.2 hr
  refine bt_ext (by omega) fun k hk => ?_
  unfold decD
  rw [bt_sub _ _ _ _ (by omega) (by rw [encS_size]; omega), bt_enc h _ (by omega), encB_data _ (by omega)]
  congr 1
  omega
theorem enc_zero {f : Fr} (h : f.ok = true) (a : Nat) (ha : 8 + f.d.size ≤ a) : zeroB (encS f) a (encS f).size = true := by
  rw [zeroB_iff]
  intro k h1 h2
  rw [encS_size] at h2
  rw [bt_enc h k h2, encB_data k (by omega), bt_past2 _ _ (by omega)]
theorem enc_8d {f : Fr} (h : f.ok = true) : 8 + f.d.size ≤ 8 + decN (encS f) := by
  have hn := enc_N h
  have hl := Fr.len h
  cases hr : fR f.n
  · have := hl.2.2.2 hr; omega
  · have := hl.2.2.1 hr; omega
theorem enc_pre {f : Fr} (h : f.ok = true) : decPre (encS f) = true := by
  have g := good h
  have hm := markN_bd f.n
  have hn := enc_N h
  have hl := Fr.len h
  unfold decPre
  rw [enc_6 h, enc_7 h, enc_5 h, enc_isFd, enc_zero h _ (enc_8d h), encS_size]
  have h5 : markN f.n / 4 = b01 (fD f.n) := by unfold markN; have := b01_bd (fB f.n); have := b01_bd (fS f.n); have := b01_bd (fD f.n); omega
  rcases totN_cases f.n with ⟨e, ht⟩ | ⟨e, ht⟩
  · rw [h5, e, ht]
    have : decN (encS f) + 8 ≤ 72 := by omega
    simp [b01, this]
    omega
  · have n8 : f.n < 8 := by
      have h1 := g.fl
      rw [okFl_parts g.n0 g.n1, e] at h1
      have hb : fB f.n = false := by revert h1; cases fB f.n <;> cases fS f.n <;> cases fX f.n <;> cases fE f.n <;> cases fR f.n <;> decide
      have hs : fS f.n = false := by revert h1; cases fB f.n <;> cases fS f.n <;> cases fX f.n <;> cases fE f.n <;> cases fR f.n <;> decide
      have n0 := g.n0
      have n1 := g.n1
      unfold fB at hb; unfold fS at hs; unfold fD at e
      simp at hb hs e
      omega
    obtain ⟨_, hb, hs⟩ := small_flags g.n0 n8
    have hmk : markN f.n = 0 := by unfold markN; rw [e, hb, hs]; rfl
    rw [hmk, e, ht]
    have : decN (encS f) + 8 ≤ 16 := by omega
    simp [this]
theorem Fr.n8 {f : Fr} (h : f.ok = true) (e : fD f.n = false) : f.n < 8 := by
  have g := good h
  have h1 := g.fl
  rw [okFl_parts g.n0 g.n1, e] at h1
  have hb : fB f.n = false := by revert h1; cases fB f.n <;> cases fS f.n <;> cases fX f.n <;> cases fE f.n <;> cases fR f.n <;> decide
  have hs : fS f.n = false := by revert h1; cases fB f.n <;> cases fS f.n <;> cases fX f.n <;> cases fE f.n <;> cases fR f.n <;> decide
  have n0 := g.n0
  have n1 := g.n1
  unfold fB at hb; unfold fS at hs; unfold fD at e
  simp at hb hs e
  omega
theorem empty_sz {d : ByteArray} (h : d.size = 0) : d = ByteArray.mk #[] := by
  obtain ⟨⟨l⟩⟩ := d
  cases l
  · rfl
  · simp [ByteArray.size] at h
theorem enc_dec {f : Fr} (h : f.ok = true) : decF (encS f) = f := by
  have g := good h
  have hw := enc_num h
  have hl := Fr.len h
  unfold decF
  rw [enc_isFd, hw]
  cases e : fD f.n
  · obtain ⟨h1, h2, _, _, h5⟩ := word_back g.i0 g.top g.n0 (Fr.n8 h e)
    simp only [Bool.false_eq_true, if_false]
    rw [h1, h2, enc_D_size h]
    have hd : dOf (wordN f.i f.n) (decD (encS f)) = f.d := by
      unfold dOf
      rw [h5]
      cases hr : fR f.n
      · simp only [Bool.false_eq_true, if_false]; exact enc_D h hr
      · simp only [if_true]; exact (empty_sz (hl.2.2.1 hr)).symm
    rw [hd]
  · obtain ⟨hr, hx⟩ := g.noDR e
    simp only [if_true]
    rw [enc_4 h, enc_D h hr]
    have hW : wordN f.i f.n = f.i + 2147483648 * b01 (fE f.n) := by unfold wordN; rw [hr, hx]; simp [b01]
    have i0 := g.i0
    have i1 := g.top
    have eb := b01_bd (fE f.n)
    have h1 : wordN f.i f.n % 536870912 = f.i := by rw [hW]; omega
    have h2 : decFl (encS f) = f.n := by
      unfold decFl
      rw [hw, enc_5 h]
      have h3 : b01 (wE (wordN f.i f.n)) = b01 (fE f.n) := by
        unfold wE
        rw [hW]
        cases fE f.n <;> simp [b01] <;> omega
      rw [h3]
      have h4 := fd_flags g.n0 g.n1 e hr hx
      unfold markN
      rw [e]
      have := b01_bd (fB f.n); have := b01_bd (fS f.n)
      simp only [b01, if_true] at *
      omega
    rw [h1, h2]
theorem enc_ok {f : Fr} (h : f.ok = true) : decOk (encS f) = true := by
  have g := good h
  unfold decOk
  rw [enc_pre h, enc_dec h]
  have hz : (!fR f.n || zeroB (encS f) 8 (encS f).size) = true := by
    cases hr : fR f.n
    · rfl
    · have := (Fr.len h).2.2.1 hr
      rw [enc_zero h 8 (by omega)]; rfl
  rw [hz]
  have hi : decIs (encS f) = true := by
    unfold decIs
    rw [enc_isFd, enc_dec h, enc_num h]
    cases e : fD f.n
    · obtain ⟨h1, h2, _, _, h5⟩ := word_back g.i0 g.top g.n0 (Fr.n8 h e)
      simp only [Bool.false_eq_true, if_false]
      have hd : dOf (wordN f.i f.n) (decD (encS f)) = f.d := by
        unfold dOf
        rw [h5]
        cases hr : fR f.n
        · simp only [Bool.false_eq_true, if_false]; exact enc_D h hr
        · simp only [if_true]; exact (empty_sz ((Fr.len h).2.2.1 hr)).symm
      unfold okOf
      rw [h1, h2, enc_D_size h, hd]
      exact h
    · obtain ⟨hr, hx⟩ := g.noDR e
      simp only [if_true]
      have hW : wordN f.i f.n = f.i + 2147483648 * b01 (fE f.n) := by unfold wordN; rw [hr, hx]; simp [b01]
      have i0 := g.i0
      have i1 := g.top
      have eb := b01_bd (fE f.n)
      rw [h, hW]
      simp
      omega
  rw [hi]
  rfl

/-! ### and back -/
theorem dec_ok {s : ByteArray} (h : decOk s = true) : (decF s).ok = true := by
  unfold decOk at h
  simp only [Bool.and_eq_true] at h
  have hi := h.1.2
  unfold decIs at hi
  cases hf : isFd s
  · rw [hf] at hi
    simp only [Bool.false_eq_true, if_false] at hi
    unfold decF Fr.ok
    rw [hf]
    simp only [Bool.false_eq_true, if_false]
    exact hi
  · rw [hf] at hi
    simp only [if_true, Bool.and_eq_true] at hi
    exact hi.1
theorem dec_enc {s : ByteArray} (h : decOk s = true) : encS (decF s) = s := by
  have hk := dec_ok h
  unfold decOk decPre at h
  simp only [Bool.and_eq_true, Bool.or_eq_true, decide_eq_true_eq, beq_iff_eq, zeroB_iff] at h
  obtain ⟨⟨⟨⟨⟨⟨⟨⟨⟨hsz, h6⟩, h7⟩, hfd⟩, hm0⟩, hm7⟩, hn8⟩, hz⟩, hi⟩, hrz⟩ := h
  have hN : ((decN s : Nat) : Int) = bt s 4 := by unfold decN; have := bt_lt s 4; omega
  have hDs : (decD s).size = decN s := by unfold decD; rw [sub_size _ _ _ (by omega)]; omega
  have hD : ∀ k, k < decN s → bt (decD s) k = bt s (8 + k) := fun k hk => by unfold decD; rw [bt_sub _ _ _ _ (by omega) (by omega)]
  have hnum := num4_lt s 0
  symm
  cases hf : isFd s
  · -- no Fd
    have hf' := hf
    unfold isFd at hf'
    simp at hf'
    have hs16 : s.size = 16 := by omega
    have e1 : decF s = ⟨num4 s 0 % 536870912, nOf (num4 s 0), (decD s).size, dOf (num4 s 0) (decD s)⟩ := by unfold decF; rw [hf]; rfl
    have hnb := nOf_bd (num4 s 0)
    obtain ⟨f1, f2, f3⟩ := small_flags hnb.1 hnb.2
    have ht : totN (decF s).n = 16 := by rw [e1]; unfold totN; simp only [f1]; rfl
    rw [hf] at hm0
    have hm0' : bt s 5 = 0 := by simpa using hm0
    refine enc_of hk (by rw [ht]; exact hs16) fun k hk2 => ?_
    rw [ht] at hk2
    unfold encB
    rw [e1]
    simp only
    split
    · rename_i h4
      rw [wordN_of hnum.1 (by omega), wb_num4 s k h4]
    · split
      · rename_i h4; subst h4; rw [hDs, hN]
      · split
        · rename_i h5; subst h5; rw [hm0']; unfold markN; rw [f1, f2, f3]; rfl
        · split
          · have : k = 6 ∨ k = 7 := by omega
            rcases this with rfl | rfl
            · exact h6
            · exact h7
          · have h8 : 8 ≤ k := by omega
            unfold dOf
            cases hr : wR (num4 s 0)
            · simp only [Bool.false_eq_true, if_false]
              by_cases hkd : k - 8 < decN s
              · rw [hD _ hkd]; congr 1; omega
              · rw [bt_past2 (decD s) (k - 8) (by omega)]; exact hz k (by omega) (by omega)
            · simp only [if_true]
              rw [e1] at hrz
              simp only [fR_nOf, hr, Bool.not_true, Bool.false_eq_true, false_or] at hrz
              rw [bt_past2 (ByteArray.mk #[]) (k - 8) (Nat.zero_le _)]
              exact hrz k h8 (by omega)
  · -- Fd
    have hf' := hf
    unfold isFd at hf'
    simp at hf'
    rw [hf] at hfd
    have hm4 : bt s 5 / 4 = 1 := by simpa using hfd.symm
    have e1 : decF s = ⟨num4 s 0 % 536870912, decFl s, bt s 4, decD s⟩ := by unfold decF; rw [hf]; rfl
    unfold decIs at hi
    rw [hf] at hi
    simp only [if_true, Bool.and_eq_true, decide_eq_true_eq] at hi
    have hfl : decFl s = 8 + b01 (wE (num4 s 0)) + 16 * b01 (decide (bt s 5 % 2 = 1)) + 32 * b01 (decide (bt s 5 / 2 % 2 = 1)) := by
      have a1 := mod2_b01 (bt s 5)
      have a2 := mod2_b01 (bt s 5 / 2)
      unfold decFl
      rw [← a1, ← a2]
    obtain ⟨pE, pR, pX, pD, pB, pS⟩ := fd_parts (wE (num4 s 0)) (decide (bt s 5 % 2 = 1)) (decide (bt s 5 / 2 % 2 = 1))
    rw [← hfl] at pE pR pX pD pB pS
    have ht : totN (decF s).n = 72 := by rw [e1]; unfold totN; simp only [pD]; rfl
    have hW : wordN (num4 s 0 % 536870912) (decFl s) = num4 s 0 := by
      unfold wordN
      rw [pE, pR, pX]
      unfold wE
      simp only [b01, decide_eq_true_eq, Bool.false_eq_true, if_false]
      split <;> omega
    refine enc_of hk (by rw [ht]; exact hf') fun k hk2 => ?_
    rw [ht] at hk2
    unfold encB
    rw [e1]
    simp only
    split
    · rename_i h4
      rw [hW, wb_num4 s k h4]
    · split
      · rename_i h4; subst h4; rfl
      · split
        · rename_i h5
          subst h5
          unfold markN
          rw [pB, pS, pD, ← mod2_b01 (bt s 5), ← mod2_b01 (bt s 5 / 2)]
          simp only [b01, if_true]
          omega
        · split
          · have : k = 6 ∨ k = 7 := by omega
            rcases this with rfl | rfl
            · exact h6
            · exact h7
          · have h8 : 8 ≤ k := by omega
            by_cases hkd : k - 8 < decN s
            · rw [hD _ hkd]; congr 1; omega
            · rw [bt_past2 (decD s) (k - 8) (by omega)]; exact hz k (by omega) (by omega)
/-- two frames that may be have the same bytes just if they are the same -/
theorem enc_inj {f g : Fr} (hf : f.ok = true) (hg : g.ok = true) : encS f = encS g ↔ f = g :=
  ⟨fun h => by rw [← enc_dec hf, ← enc_dec hg, h], fun h => by rw [h]⟩

end Go.Proofs.YtimlaopmhcipmaaDoor
