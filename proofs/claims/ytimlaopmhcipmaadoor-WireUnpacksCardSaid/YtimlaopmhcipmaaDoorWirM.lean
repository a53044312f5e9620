/- Wire: the plain bytes: a frame's bytes, which bytes are a frame's, and that each leads back to the other. No program is meant here. -/
import Derived.Test.YtimlaopmhcipmaaDoorOctB
import Derived.Test.YtimlaopmhcipmaaDoorFrmX
import Derived.Test.YtimlaopmhcipmaaDoorFrmZm
namespace Go.Proofs.YtimlaopmhcipmaaDoor
open Go.RowKit
set_option linter.unusedVariables false

/-! ### bytes -/
theorem bt_past2 (s : ByteArray) (k : Nat) (h : s.size ≤ k) : bt s k = 0 := by
  unfold bt
  rw [List.getElem?_eq_none (by simpa using h)]
  rfl
theorem bt_ext {s t : ByteArray} (hs : s.size = t.size) (h : ∀ k, k < s.size → bt s k = bt t k) : s = t := by
  apply ByteArray.ext
  apply Array.toList_inj.1
  apply List.ext_getElem?
  intro k
  by_cases hk : k < s.size
  · have hk' : k < s.data.toList.length := by simpa using hk
    have hk2 : k < t.data.toList.length := by have : k < t.size := by omega
                                              simpa using this
    have := h k hk
    unfold bt at this
    rw [List.getElem?_eq_getElem hk', List.getElem?_eq_getElem hk2] at this ⊢
    simp only [Option.getD_some] at this
    congr 1
    apply UInt8.toNat_inj.1
    omega
  · rw [List.getElem?_eq_none (by simpa using hk), List.getElem?_eq_none (by have : ¬ k < t.size := by omega
                                                                             simpa using this)]
theorem bt_app (a b : ByteArray) (k : Nat) : bt (a ++ b) k = if k < a.size then bt a k else bt b (k - a.size) := by
  have e : (a ++ b).data.toList = a.data.toList ++ b.data.toList := by simp [ByteArray.data_append]
  unfold bt
  rw [e]
  split
  · rename_i h
    rw [List.getElem?_append_left (by simpa using h)]
  · rename_i h
    rw [List.getElem?_append_right (by simpa using h)]
    rfl
theorem bt_nums (L : List Int) (hL : ∀ x ∈ L, 0 ≤ x ∧ x < 256) (k : Nat) : bt (strOfNums L) k = L.getD k 0 := by
  unfold bt
  rw [strOfNums_data, List.getElem?_map]
  by_cases hk : k < L.length
  · have := hL L[k] (List.getElem_mem hk)
    simp only [List.getElem?_eq_getElem hk, Option.map_some, Option.getD_some, List.getD_eq_getElem?_getD, UInt8.toNat_ofNat']
    omega
  · simp [List.getElem?_eq_none (by omega : L.length ≤ k)]
theorem sub_size (s : ByteArray) (a b : Nat) (h : b ≤ s.size) : (s.extract a b).size = b - a := by
  rw [ByteArray.size_extract]; omega
theorem bt_sub (s : ByteArray) (a b k : Nat) (h1 : a + k < b) (h2 : b ≤ s.size) : bt (s.extract a b) k = bt s (a + k) := by
  have hk : k < (s.extract a b).size := by rw [sub_size _ _ _ h2]; omega
  rw [← bt_eq _ k hk, ← bt_eq s (a + k) (by omega), ByteArray.getElem_extract]

/-! ### a frame's bytes -/
structure Fr where
  i : Int
  n : Int
  l : Int
  d : ByteArray
def Fr.ok (f : Fr) : Bool := okF f.i f.n f.l f.d.size
def markN (n : Int) : Int := b01 (fB n) + 2 * b01 (fS n) + 4 * b01 (fD n)
def totN (n : Int) : Nat := if fD n then 72 else 16
def wb (W : Int) (k : Nat) : Int := if k = 0 then W % 256 else if k = 1 then W / 256 % 256 else if k = 2 then W / 65536 % 256 else W / 16777216 % 256
def encB (f : Fr) (k : Nat) : Int :=
  if k < 4 then wb (wordN f.i f.n) k else if k = 4 then f.l else if k = 5 then markN f.n else if k < 8 then 0 else bt f.d (k - 8)
def encS (f : Fr) : ByteArray := strOfNums ((List.range (totN f.n)).map (encB f))
theorem totN_cases (n : Int) : (fD n = true ∧ totN n = 72) ∨ (fD n = false ∧ totN n = 16) := by unfold totN; cases fD n <;> simp
theorem encS_size (f : Fr) : (encS f).size = totN f.n := by unfold encS; rw [strOfNums_size]; simp
theorem markN_bd (n : Int) : 0 ≤ markN n ∧ markN n ≤ 7 := by unfold markN; have := b01_bd (fB n); have := b01_bd (fS n); have := b01_bd (fD n); omega
theorem wb_bd (W : Int) (k : Nat) : 0 ≤ wb W k ∧ wb W k < 256 := by unfold wb; (repeat' split) <;> omega

/-- what is known of a frame that may be -/
theorem Fr.len {f : Fr} (h : f.ok = true) : 0 ≤ f.l ∧ f.l + 8 ≤ totN f.n ∧ (fR f.n = true → f.d.size = 0) ∧ (fR f.n = false → (f.d.size : Int) = f.l) := by
  have g := good h
  have hl := g.ln
  have hd := g.dt
  have h1 : 0 ≤ f.l ∧ f.l + 8 ≤ totN f.n := by
    unfold lenOk at hl
    rcases totN_cases f.n with ⟨e, ht⟩ | ⟨e, ht⟩
    · have hx : fX f.n = false := (g.noDR e).2
      rw [hx, e] at hl
      simp only [Bool.false_eq_true, if_false, if_true] at hl
      rw [ht]
      constructor
      · apply Classical.byContradiction; intro hc; rw [isLen_lo (by omega)] at hl; cases hl
      · apply Classical.byContradiction; intro hc; rw [isLen_hi (by omega)] at hl; cases hl
    · rw [e] at hl
      rw [ht]
      split at hl <;> simp at hl <;> omega
  refine ⟨h1.1, h1.2, fun hr => ?_, fun hr => ?_⟩
  · unfold datOk at hd; rw [hr] at hd; simpa using hd
  · unfold datOk at hd; rw [hr] at hd; simpa using hd
theorem totN_le (n : Int) : totN n ≤ 72 := by rcases totN_cases n with ⟨_, h⟩ | ⟨_, h⟩ <;> omega
theorem Fr.word {f : Fr} (h : f.ok = true) : 0 ≤ wordN f.i f.n ∧ wordN f.i f.n < 4294967296 := by
  have g := good h
  have h0 := g.i0
  have h1 := g.top
  unfold wordN
  have := b01_bd (fE f.n); have := b01_bd (fR f.n); have := b01_bd (fX f.n)
  omega
theorem encB_bd {f : Fr} (h : f.ok = true) (k : Nat) : 0 ≤ encB f k ∧ encB f k < 256 := by
  have hl := Fr.len h
  have ht := totN_le f.n
  unfold encB
  split
  · exact wb_bd _ _
  · split
    · omega
    · split
      · have := markN_bd f.n; omega
      · split
        · omega
        · exact bt_lt _ _
theorem bt_enc {f : Fr} (h : f.ok = true) (k : Nat) (hk : k < totN f.n) : bt (encS f) k = encB f k := by
  unfold encS
  rw [bt_nums _ (fun x hx => by obtain ⟨j, _, rfl⟩ := List.mem_map.1 hx; exact encB_bd h j)]
  simp [List.getD_eq_getElem?_getD, hk]
/-- bytes that are a frame's, one by one, are that frame's -/
theorem enc_of {f : Fr} (h : f.ok = true) {s : ByteArray} (hs : s.size = totN f.n) (hb : ∀ k, k < totN f.n → bt s k = encB f k) : s = encS f :=
  bt_ext (by rw [hs, encS_size]) fun k hk => by rw [bt_enc h k (by omega), hb k (by omega)]

/-! ### which bytes are a frame's -/
def zeroB (s : ByteArray) (a b : Nat) : Bool := (List.range b).all fun k => decide (k < a) || decide (bt s k = 0)
theorem zeroB_iff (s : ByteArray) (a b : Nat) : zeroB s a b = true ↔ ∀ k, a ≤ k → k < b → bt s k = 0 := by
  unfold zeroB
  simp only [List.all_eq_true, List.mem_range, Bool.or_eq_true, decide_eq_true_eq]
  constructor
  · intro h k h1 h2
    rcases h k h2 with h3 | h3
    · omega
    · exact h3
  · intro h k h2
    by_cases h1 : k < a
    · exact .inl h1
    · exact .inr (h k (by omega) h2)
def isFd (s : ByteArray) : Bool := decide (s.size = 72)
def decN (s : ByteArray) : Nat := (bt s 4).toNat
def decD (s : ByteArray) : ByteArray := s.extract 8 (8 + decN s)
def decFl (s : ByteArray) : Int := 8 + b01 (wE (num4 s 0)) + 16 * (bt s 5 % 2) + 32 * (bt s 5 / 2 % 2)
def decF (s : ByteArray) : Fr :=
  if isFd s then ⟨num4 s 0 % 536870912, decFl s, bt s 4, decD s⟩
  else ⟨num4 s 0 % 536870912, nOf (num4 s 0), (decD s).size, dOf (num4 s 0) (decD s)⟩
/-- what is asked ahead of the frame itself -/
def decPre (s : ByteArray) : Bool :=
  (decide (s.size = 16) || decide (s.size = 72)) && decide (bt s 6 = 0) && decide (bt s 7 = 0) && (isFd s == decide (bt s 5 / 4 = 1)) && (isFd s || decide (bt s 5 = 0)) && decide (bt s 5 ≤ 7)
    && decide (decN s + 8 ≤ s.size) && zeroB s (8 + decN s) s.size
def decIs (s : ByteArray) : Bool := if isFd s then (decF s).ok && decide (num4 s 0 / 536870912 % 4 = 0) else okOf (num4 s 0) (decD s)
def decOk (s : ByteArray) : Bool := decPre s && decIs s && (!fR (decF s).n || zeroB s 8 s.size)

theorem num4_bytes (s : ByteArray) : num4 s 0 % 256 = bt s 0 ∧ num4 s 0 / 256 % 256 = bt s 1 ∧ num4 s 0 / 65536 % 256 = bt s 2 ∧ num4 s 0 / 16777216 % 256 = bt s 3 := by
  have h0 := bt_lt s 0; have h1 := bt_lt s 1; have h2 := bt_lt s 2; have h3 := bt_lt s 3
  unfold num4
  simp only [Nat.zero_add]
  omega
theorem wb_num4 (s : ByteArray) (k : Nat) (hk : k < 4) : wb (num4 s 0) k = bt s k := by
  obtain ⟨h0, h1, h2, h3⟩ := num4_bytes s
  have : k = 0 ∨ k = 1 ∨ k = 2 ∨ k = 3 := by omega
  rcases this with rfl | rfl | rfl | rfl <;> simp [wb, *]
theorem num4_wb {s : ByteArray} {W : Int} (h0 : 0 ≤ W) (h1 : W < 4294967296) (h : ∀ k, k < 4 → bt s k = wb W k) : num4 s 0 = W := by
  have a0 := h 0 (by omega); have a1 := h 1 (by omega); have a2 := h 2 (by omega); have a3 := h 3 (by omega)
  unfold num4
  simp [wb] at a0 a1 a2 a3 ⊢
  omega

/-- flags of Fd, put together -/
theorem fd_flags {n : Int} (n0 : 0 ≤ n) (n1 : n ≤ 63) (hd : fD n = true) (hr : fR n = false) (hx : fX n = false) : n = 8 + b01 (fE n) + 16 * b01 (fB n) + 32 * b01 (fS n) := by
  obtain ⟨k, rfl⟩ := flag_cases n0 n1
  have : ∀ k : Fin 64, fD ((k.val : Nat) : Int) = true → fR ((k.val : Nat) : Int) = false → fX ((k.val : Nat) : Int) = false → ((k.val : Nat) : Int) = 8 + b01 (fE ((k.val : Nat) : Int)) + 16 * b01 (fB ((k.val : Nat) : Int)) + 32 * b01 (fS ((k.val : Nat) : Int)) := by decide +kernel
  exact this k hd hr hx
theorem fd_parts : ∀ e b s : Bool, fE (8 + b01 e + 16 * b01 b + 32 * b01 s) = e ∧ fR (8 + b01 e + 16 * b01 b + 32 * b01 s) = false ∧ fX (8 + b01 e + 16 * b01 b + 32 * b01 s) = false ∧ fD (8 + b01 e + 16 * b01 b + 32 * b01 s) = true ∧
    fB (8 + b01 e + 16 * b01 b + 32 * b01 s) = b ∧ fS (8 + b01 e + 16 * b01 b + 32 * b01 s) = s := by decide
theorem mod2_b01 (x : Int) : x % 2 = b01 (decide (x % 2 = 1)) := by unfold b01; split <;> rename_i h <;> simp at h <;> omega
theorem small_flags {n : Int} (n0 : 0 ≤ n) (n8 : n < 8) : fD n = false ∧ fB n = false ∧ fS n = false := by
  unfold fD fB fS; simp; omega
theorem nOf_bd (W : Int) : 0 ≤ nOf W ∧ nOf W < 8 := by unfold nOf; have := b01_bd (wE W); have := b01_bd (wR W); have := b01_bd (wX W); omega
theorem fR_nOf (W : Int) : fR (nOf W) = wR W := by
  unfold nOf
  have : ∀ e r x : Bool, fR (b01 e + 2 * b01 r + 4 * b01 x) = r := by decide
  exact this _ _ _

end Go.Proofs.YtimlaopmhcipmaaDoor
