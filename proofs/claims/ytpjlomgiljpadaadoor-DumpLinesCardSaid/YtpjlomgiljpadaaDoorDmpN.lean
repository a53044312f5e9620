/- Dump: the plain texts: a frame's text, which frame a text is, and that each leads back to the other. No program is meant here. -/
import Derived.Test.YtpjlomgiljpadaaDoorDmpM
import Derived.Test.YtpjlomgiljpadaaDoorFrmI
namespace Go.Proofs.YtpjlomgiljpadaaDoor
open Go.RowKit
set_option linter.unusedVariables false

/-! ### flags, put together -/
theorem fl_sum {n : Int} (n0 : 0 ≤ n) (n1 : n ≤ 63) : n = b01 (fE n) + 2 * b01 (fR n) + 4 * b01 (fX n) + 8 * b01 (fD n) + 16 * b01 (fB n) + 32 * b01 (fS n) := by
  obtain ⟨k, rfl⟩ := flag_cases n0 n1
  have : ∀ k : Fin 64, ((k.val : Nat) : Int) = b01 (fE ((k.val : Nat) : Int)) + 2 * b01 (fR ((k.val : Nat) : Int)) + 4 * b01 (fX ((k.val : Nat) : Int)) + 8 * b01 (fD ((k.val : Nat) : Int)) + 16 * b01 (fB ((k.val : Nat) : Int)) + 32 * b01 (fS ((k.val : Nat) : Int)) := by decide +kernel
  exact this k
theorem b01_in (b : Bool) : 0 ≤ b01 b ∧ b01 b ≤ 1 := by cases b <;> decide
theorem Good.noBS {i n l : Int} {sz : Nat} (h : Good i n l sz) (hd : fD n = false) : fB n = false ∧ fS n = false := by
  have h1 := h.fl
  rw [okFl_parts h.n0 h.n1, hd] at h1
  revert h1
  cases fX n <;> cases fE n <;> cases fR n <;> cases fB n <;> cases fS n <;> decide
theorem Good.len {i n l : Int} {sz : Nat} (h : Good i n l sz) : 0 ≤ l ∧ l ≤ 64 ∧ (fD n = false → l ≤ 8) ∧ (fR n = true → sz = 0) ∧ (fR n = false → (sz : Int) = l) := by
  have hl := h.ln
  have hd := h.dt
  have h1 : 0 ≤ l ∧ l ≤ 64 ∧ (fD n = false → l ≤ 8) := by
    unfold lenOk at hl
    split at hl
    · simp at hl; omega
    · split at hl
      · rename_i e
        unfold isLen codeN at hl
        rw [e]
        refine ⟨?_, ?_, fun h => by cases h⟩
        · apply Classical.byContradiction; intro hc; (repeat' split at hl) <;> simp_all <;> omega
        · apply Classical.byContradiction; intro hc; (repeat' split at hl) <;> simp_all <;> omega
      · simp at hl; omega
  refine ⟨h1.1, h1.2.1, h1.2.2, fun hr => ?_, fun hr => ?_⟩
  · unfold datOk at hd; rw [hr] at hd; simpa using hd
  · unfold datOk at hd; rw [hr] at hd; simpa using hd

/-! ### a frame's text -/
def idL (f : Fr) : List Int := if fX f.n then hexN 8 (f.i + 536870912) else if fE f.n then hexN 8 f.i else hexN 3 f.i
def mrkN (n : Int) : Int := b01 (fB n) + 2 * b01 (fS n)
def bodyL (f : Fr) : List Int :=
  if fR f.n then 82 :: (if f.l = 0 then [] else [48 + f.l])
  else (if fD f.n then [35, 48 + mrkN f.n] else []) ++ hexF (byL f.d)
def tellL (f : Fr) : List Int := idL f ++ 35 :: bodyL f
theorem idL_great (f : Fr) : great (idL f) := by unfold idL; (repeat' split) <;> exact hexN_great _ _
theorem idL_len (f : Fr) : (idL f).length ≤ 8 := by unfold idL; (repeat' split) <;> rw [hexN_len] <;> omega
theorem mrkN_bd (n : Int) : 0 ≤ mrkN n ∧ mrkN n ≤ 3 := by unfold mrkN; have := b01_in (fB n); have := b01_in (fS n); omega
theorem bodyL_by {f : Fr} (h : f.ok = true) : isBy (bodyL f) := by
  have g := good h
  have gl := g.len
  have hm := mrkN_bd f.n
  unfold bodyL
  split
  · refine isBy_cons (by omega) ?_
    split
    · exact isBy_nil
    · exact isBy_cons (by omega) isBy_nil
  · refine isBy_app ?_ (great_by (hexF_great (byL_by f.d)))
    split
    · exact isBy_cons (by omega) (isBy_cons (by omega) isBy_nil)
    · exact isBy_nil
theorem tellL_by {f : Fr} (h : f.ok = true) : isBy (tellL f) := isBy_app (great_by (idL_great f)) (isBy_cons (by omega) (bodyL_by h))
theorem bodyL_len {f : Fr} (h : f.ok = true) : (bodyL f).length ≤ 130 := by
  have g := good h
  have gl := g.len
  unfold bodyL
  split
  · split <;> simp
  · rename_i hr
    have := gl.2.2.2.2 (by simpa using hr)
    rw [List.length_append, hexF_len, byL_len]
    split <;> simp <;> omega
theorem tellL_len {f : Fr} (h : f.ok = true) : (tellL f).length ≤ 139 := by
  have := bodyL_len h
  have := idL_len f
  unfold tellL
  rw [List.length_append, List.length_cons]; omega
theorem tellL_no10 {f : Fr} (h : f.ok = true) : (10 : Int) ∉ tellL f := by
  have g := good h
  have gl := g.len
  have hm := mrkN_bd f.n
  have h1 := great_ne (idL_great f) (x := 10) (by omega)
  have h2 := great_ne (hexF_great (byL_by f.d)) (x := 10) (by omega)
  unfold tellL bodyL
  intro hc
  rcases List.mem_append.1 hc with hc | hc
  · exact h1 hc
  · rcases List.mem_cons.1 hc with hc | hc
    · omega
    · split at hc
      · split at hc
        · simp at hc
        · simp at hc; omega
      · rcases List.mem_append.1 hc with hc | hc
        · split at hc
          · simp at hc; omega
          · cases hc
        · exact h2 hc
def tellS (f : Fr) : ByteArray := strOfNums (tellL f)
theorem tellS_size (f : Fr) : (tellS f).size = (tellL f).length := strOfNums_size _
theorem byL_tell {f : Fr} (h : f.ok = true) : byL (tellS f) = tellL f := byL_nums (tellL_by h)

/-! ### which frame a text is -/
def headO (h : List Int) : Option (Int × Int) :=
  if (h.length = 3 ∨ h.length = 8) ∧ digs h = true then
    (if h.length = 3 then some (numL h, 0) else if numL h / 536870912 % 2 = 1 then some (numL h - 536870912, 4) else some (numL h, 1))
  else none
def askO (t : List Int) : Option Fr := match t with
  | [] => some ⟨0, 2, 0, ByteArray.mk #[]⟩
  | [c] => if 0 < dig c ∧ dig c < 16 then some ⟨0, 2, dig c, ByteArray.mk #[]⟩ else none
  | _ => none
def fdO (t : List Int) : Option Fr := match t with
  | [] => none
  | m :: t => if dig m < 4 then (datL t).map fun d => ⟨0, 8 + 16 * dig m, d.length, strOfNums d⟩ else none
def rawO (t : List Int) : Option Fr := (datL t).map fun d => ⟨0, 0, d.length, strOfNums d⟩
def bodyO (t : List Int) : Option Fr := match t with
  | [] => rawO []
  | c :: r => if c = 35 then fdO r else if c = 82 ∨ c = 114 then askO r else rawO (c :: r)
def bothO (a : Option (Int × Int)) (b : Option Fr) : Option Fr := match a, b with
  | some p, some f => if okF p.1 (f.n + p.2) f.l f.d.size then some ⟨p.1, f.n + p.2, f.l, f.d⟩ else none
  | _, _ => none
def readO (L : List Int) : Option Fr := match cutL 35 L with
  | none => none
  | some p => bothO (headO p.1) (bodyO p.2)
theorem bothO_some {a : Option (Int × Int)} {b : Option Fr} {f : Fr} (h : bothO a b = some f) : ∃ p g, a = some p ∧ b = some g ∧ f = ⟨p.1, g.n + p.2, g.l, g.d⟩ ∧ f.ok = true := by
  cases a with
  | none => cases h
  | some p => cases b with
    | none => cases h
    | some g =>
      simp only [bothO] at h
      split at h
      · rename_i e
        cases h
        exact ⟨p, g, rfl, rfl, rfl, e⟩
      · cases h
theorem readO_some {L : List Int} {f : Fr} (h : readO L = some f) : ∃ a b p g, L = a ++ 35 :: b ∧ 35 ∉ a ∧ headO a = some p ∧ bodyO b = some g ∧ f = ⟨p.1, g.n + p.2, g.l, g.d⟩ ∧ f.ok = true := by
  unfold readO at h
  cases hc : cutL 35 L with
  | none => rw [hc] at h; cases h
  | some q =>
    rw [hc] at h
    obtain ⟨a, b⟩ := q
    obtain ⟨e, hn⟩ := cutL_some hc
    obtain ⟨p, g, h1, h2, h3, h4⟩ := bothO_some h
    exact ⟨a, b, p, g, e, hn, h1, h2, h3, h4⟩
theorem readO_ok {L : List Int} {f : Fr} (h : readO L = some f) : f.ok = true := by obtain ⟨_, _, _, _, _, _, _, _, _, h⟩ := readO_some h; exact h

theorem headO_tell {f : Fr} (h : f.ok = true) : headO (idL f) = some (f.i, b01 (fE f.n) + 4 * b01 (fX f.n)) := by
  have g := good h
  have g0 := g.i0
  have g1 := g.top
  have g2 := g.i1
  have e16 : ((16 ^ 8 : Nat) : Int) = 4294967296 := rfl
  have e3 : ((16 ^ 3 : Nat) : Int) = 4096 := rfl
  unfold headO idL
  unfold topN at g2
  cases hx : fX f.n
  · cases he : fE f.n
    · rw [hx, he] at g2
      simp only [Bool.or_false, Bool.false_eq_true, if_false] at g2 ⊢
      rw [hexN_len, numL_hexN _ _ g0, e3, great_digs (hexN_great _ _)]
      rw [if_pos (by simp), if_pos rfl, show f.i % 4096 = f.i by omega]; rfl
    · simp only [Bool.false_eq_true, if_false, if_true]
      rw [hexN_len, numL_hexN _ _ g0, e16, great_digs (hexN_great _ _)]
      rw [if_pos (by simp), if_neg (by omega), show f.i % 4294967296 = f.i by omega, if_neg (by omega)]; rfl
  · have he := (g.noXE hx).1
    rw [he]
    simp only [if_true]
    rw [hexN_len, numL_hexN _ _ (by omega), e16, great_digs (hexN_great _ _)]
    rw [if_pos (by simp), if_neg (by omega), show (f.i + 536870912) % 4294967296 = f.i + 536870912 by omega, if_pos (by omega)]
    rw [show f.i + 536870912 - 536870912 = f.i by omega]; rfl
theorem rawO_hex {l : List Int} (h : isBy l) : bodyO (hexF l) = some ⟨0, 0, l.length, strOfNums l⟩ := by
  have g := hexF_great h
  have e : rawO (hexF l) = some ⟨0, 0, l.length, strOfNums l⟩ := by unfold rawO; rw [datL_hex h]; rfl
  unfold bodyO
  split
  · rename_i e2; rw [← e, e2]
  · rename_i c r e2
    have := g c (by rw [e2]; simp)
    rw [if_neg (by omega), if_neg (by omega), ← e2, e]
theorem empty_of {d : ByteArray} (h : d.size = 0) : d = ByteArray.mk #[] := by
  apply byL_inj
  have : (byL d).length = 0 := by rw [byL_len, h]
  rw [List.length_eq_zero_iff.1 this]; rfl
theorem bodyO_fd (r : List Int) : bodyO (35 :: r) = fdO r := by simp [bodyO]
theorem bodyO_ask {c : Int} (h : c = 82 ∨ c = 114) (r : List Int) : bodyO (c :: r) = askO r := by simp only [bodyO]; rw [if_neg (by omega), if_pos h]
theorem bodyO_tell {f : Fr} (h : f.ok = true) : bodyO (bodyL f) = some ⟨0, 2 * b01 (fR f.n) + 8 * b01 (fD f.n) + 16 * b01 (fB f.n) + 32 * b01 (fS f.n), f.l, f.d⟩ := by
  have g := good h
  have gl := g.len
  unfold bodyL
  cases hr : fR f.n
  · have hsz := gl.2.2.2.2 hr
    have hln : ((byL f.d).length : Int) = f.l := by rw [byL_len]; exact hsz
    simp only [Bool.false_eq_true, if_false]
    cases hd : fD f.n
    · obtain ⟨hb, hs⟩ := g.noBS hd
      rw [hb, hs]
      simp only [Bool.false_eq_true, if_false, List.nil_append]
      rw [rawO_hex (byL_by f.d), nums_byL, hln]; rfl
    · have hm := mrkN_bd f.n
      have hdg : dig (48 + mrkN f.n) = mrkN f.n := by rw [dig_0 (by omega)]; omega
      simp only [if_true, List.cons_append, List.nil_append]
      rw [bodyO_fd]
      unfold fdO
      simp only
      rw [hdg, if_pos (by omega), datL_hex (byL_by f.d)]
      simp only [Option.map_some, Option.some.injEq, Fr.mk.injEq, true_and]
      refine ⟨?_, hln, nums_byL f.d⟩
      unfold mrkN
      show _ = 2 * 0 + 8 * 1 + 16 * b01 (fB f.n) + 32 * b01 (fS f.n)
      omega
  · have hd : fD f.n = false := by
      cases hd : fD f.n
      · rfl
      · have := (g.noDR hd).1; rw [hr] at this; cases this
    obtain ⟨hb, hs⟩ := g.noBS hd
    have l8 := gl.2.2.1 hd
    have e := empty_of (gl.2.2.2.1 hr)
    rw [hd, hb, hs]
    simp only [if_true]
    rw [bodyO_ask (.inl rfl)]
    split
    · rename_i h0
      unfold askO
      simp only [Option.some.injEq, Fr.mk.injEq, true_and]
      exact ⟨rfl, h0.symm, e.symm⟩
    · rename_i h0
      have hdg : dig (48 + f.l) = f.l := by rw [dig_0 (by omega)]; omega
      unfold askO
      simp only
      rw [hdg, if_pos (by omega)]
      simp only [Option.some.injEq, Fr.mk.injEq, true_and]
      exact ⟨rfl, e.symm⟩
theorem tell_read {f : Fr} (h : f.ok = true) : readO (tellL f) = some f := by
  have g := good h
  unfold readO tellL
  rw [cutL_at (great_ne (idL_great f) (by omega))]
  simp only
  rw [headO_tell h, bodyO_tell h]
  unfold bothO
  simp only
  have e : 2 * b01 (fR f.n) + 8 * b01 (fD f.n) + 16 * b01 (fB f.n) + 32 * b01 (fS f.n) + (b01 (fE f.n) + 4 * b01 (fX f.n)) = f.n := by
    have := fl_sum g.n0 g.n1; omega
  rw [e, if_pos (show okF f.i f.n f.l f.d.size = true from h)]

/-! ### read, told again -/
theorem head_up {a : List Int} {p : Int × Int} (h : headO a = some p) : (p.2 = 0 ∨ p.2 = 1 ∨ p.2 = 4) ∧ digs a = true ∧ (if p.2 = 4 then hexN 8 (p.1 + 536870912) else if p.2 = 1 then hexN 8 p.1 else hexN 3 p.1) = a.map up := by
  unfold headO at h
  split at h
  · rename_i hc
    obtain ⟨hl, hd⟩ := hc
    have e := hexN_numL a hd
    split at h
    · rename_i h3
      cases h
      rw [h3] at e
      exact ⟨.inl rfl, hd, e⟩
    · rename_i h3
      have h8 : a.length = 8 := by omega
      rw [h8] at e
      split at h
      · cases h
        refine ⟨.inr (.inr rfl), hd, ?_⟩
        rw [if_pos rfl, show numL a - 536870912 + 536870912 = numL a by omega]; exact e
      · cases h
        exact ⟨.inr (.inl rfl), hd, e⟩
  · cases h
theorem dig_small {c : Int} (h : dig c < 10) : c = 48 + dig c ∧ up c = c ∧ c ≠ 46 := by
  have h0 := dig_nn c
  have a0 := fun h => dig_0 (r := c) h
  have a1 := fun h => dig_A (r := c) h
  have a2 := fun h => dig_a (r := c) h
  have a3 := fun h => dig_no (r := c) h
  have : 48 ≤ c ∧ c ≤ 57 := by omega
  have := a0 this
  refine ⟨by omega, ?_, by omega⟩
  unfold up; rw [if_neg (by omega)]
theorem flag_all : ∀ k : Fin 4, ∀ q : Fin 3, (let hn : Int := if q.val = 0 then 0 else if q.val = 1 then 1 else 4
    fX (8 + 16 * (k.val : Nat) + hn) = decide (hn = 4) ∧ fE (8 + 16 * (k.val : Nat) + hn) = decide (hn = 1) ∧ fR (8 + 16 * (k.val : Nat) + hn) = false ∧ fD (8 + 16 * (k.val : Nat) + hn) = true ∧ mrkN (8 + 16 * (k.val : Nat) + hn) = (k.val : Nat)) := by decide +kernel
theorem flag_fd {m hn : Int} (h0 : 0 ≤ m) (h1 : m < 4) (hh : hn = 0 ∨ hn = 1 ∨ hn = 4) : fX (8 + 16 * m + hn) = decide (hn = 4) ∧ fE (8 + 16 * m + hn) = decide (hn = 1) ∧ fR (8 + 16 * m + hn) = false ∧ fD (8 + 16 * m + hn) = true ∧ mrkN (8 + 16 * m + hn) = m := by
  obtain ⟨k, rfl⟩ := Int.eq_ofNat_of_zero_le h0
  have hk : k < 4 := by omega
  rcases hh with rfl | rfl | rfl
  · exact flag_all ⟨k, hk⟩ 0
  · exact flag_all ⟨k, hk⟩ 1
  · exact flag_all ⟨k, hk⟩ 2
theorem flag_ask {hn : Int} (hh : hn = 0 ∨ hn = 1 ∨ hn = 4) : fX (2 + hn) = decide (hn = 4) ∧ fE (2 + hn) = decide (hn = 1) ∧ fR (2 + hn) = true ∧ fD (2 + hn) = false := by
  rcases hh with rfl | rfl | rfl <;> decide
theorem flag_raw {hn : Int} (hh : hn = 0 ∨ hn = 1 ∨ hn = 4) : fX (0 + hn) = decide (hn = 4) ∧ fE (0 + hn) = decide (hn = 1) ∧ fR (0 + hn) = false ∧ fD (0 + hn) = false := by
  rcases hh with rfl | rfl | rfl <;> decide
theorem idL_of {f : Fr} {hn : Int} (hx : fX f.n = decide (hn = 4)) (he : fE f.n = decide (hn = 1)) : idL f = if hn = 4 then hexN 8 (f.i + 536870912) else if hn = 1 then hexN 8 f.i else hexN 3 f.i := by
  unfold idL
  rw [hx, he]
  simp only [decide_eq_true_eq]
theorem hexF_nums {d : List Int} (h : isBy d) : hexF (byL (strOfNums d)) = hexF d := by rw [byL_nums h]
theorem body_up {b : List Int} {g : Fr} {hn : Int} (hh : hn = 0 ∨ hn = 1 ∨ hn = 4) (h : bodyO b = some g) (i : Int) (hk : Fr.ok ⟨i, g.n + hn, g.l, g.d⟩ = true) :
    fX (g.n + hn) = decide (hn = 4) ∧ fE (g.n + hn) = decide (hn = 1) ∧ bodyL ⟨i, g.n + hn, g.l, g.d⟩ = plainL b := by
  have raw : ∀ {b : List Int} {g : Fr}, rawO b = some g → fX (g.n + hn) = decide (hn = 4) ∧ fE (g.n + hn) = decide (hn = 1) ∧ bodyL ⟨i, g.n + hn, g.l, g.d⟩ = plainL b := by
    intro b g h
    obtain ⟨d, h1, rfl⟩ := Option.map_eq_some_iff.1 h
    obtain ⟨e1, e2, _⟩ := datL_plain h1
    obtain ⟨x, e, r, fd⟩ := flag_raw hh
    refine ⟨x, e, ?_⟩
    unfold bodyL
    simp only
    rw [r, fd, hexF_nums e2, e1]
    rfl
  match b, h with
  | [], h => exact raw h
  | c :: t, h =>
    simp only [bodyO] at h
    split at h
    · rename_i hc
      subst hc
      match t, h with
      | [], h => cases h
      | m :: t, h =>
        simp only [fdO] at h
        split at h
        · rename_i hm
          obtain ⟨d, h1, rfl⟩ := Option.map_eq_some_iff.1 h
          obtain ⟨e1, e2, _⟩ := datL_plain h1
          obtain ⟨x, e, r, fd, mk⟩ := flag_fd (dig_nn m) hm hh
          obtain ⟨m1, m2, m3⟩ := dig_small (c := m) (by omega)
          refine ⟨x, e, ?_⟩
          unfold bodyL
          simp only
          rw [r, fd, mk, hexF_nums e2, e1, plainL_cons (by decide), plainL_cons m3, m2, ← m1]
          rfl
        · cases h
    · rename_i hc
      split at h
      · rename_i hR
        obtain ⟨x, e, r, fd⟩ := flag_ask hh
        have hup : up c = 82 ∧ c ≠ 46 := by rcases hR with rfl | rfl <;> decide
        match t, h with
        | [], h =>
          simp only [askO, Option.some.injEq] at h
          subst h
          refine ⟨x, e, ?_⟩
          unfold bodyL
          simp only
          rw [r, plainL_cons hup.2, hup.1]
          rfl
        | [z], h =>
          simp only [askO] at h
          split at h
          · rename_i hz
            simp only [Option.some.injEq] at h
            subst h
            have gl := (good hk).len.2.2.1
            simp only at gl
            have l8 := gl fd
            obtain ⟨m1, m2, m3⟩ := dig_small (c := z) (by omega)
            refine ⟨x, e, ?_⟩
            unfold bodyL
            simp only
            rw [r, plainL_cons hup.2, hup.1, plainL_cons m3, m2, if_pos rfl, if_neg (by omega), ← m1]
            rfl
          · cases h
        | _ :: _ :: _, h => cases h
      · exact raw h
theorem read_tell {L : List Int} {f : Fr} (h : readO L = some f) : tellL f = plainL L := by
  obtain ⟨a, b, p, g, rfl, hn, hp, hg, rfl, hk⟩ := readO_some h
  obtain ⟨hh, hd, hu⟩ := head_up hp
  obtain ⟨x, e, hb⟩ := body_up hh hg p.1 hk
  unfold tellL
  rw [hb, idL_of (f := ⟨p.1, g.n + p.2, g.l, g.d⟩) x e, plainL_app, plainL_cons (by decide), plainL_digs hd]
  simp only
  rw [hu]
  rfl
theorem tell_inj {f g : Fr} (hf : f.ok = true) (hg : g.ok = true) (h : tellL f = tellL g) : f = g := by
  have h1 := tell_read hf
  rw [h, tell_read hg] at h1
  exact (Option.some.inj h1).symm

end Go.Proofs.YtpjlomgiljpadaaDoor
