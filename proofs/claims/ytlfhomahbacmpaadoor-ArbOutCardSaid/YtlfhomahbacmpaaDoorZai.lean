/- Crc: the long division, row by row; the contract of the document's Sum. The shelf's contract of strings.Builder's WriteByte, laid by hand with marks (any seat that has it). Crc, the code: contract of each over whatever function value; what Sum and Number hand to it. Crc, the code: what Sum hands to each. Crc, the code: Sum where there is no check; Crc; Number. Crc, the code: Bits, both, Add. Crc: the chapter's examples; walks of CrcSums and CrcNone. Crc: walks of CrcNone and CrcAdds. Crc: walk of CrcBits. Of no program: rows of whole numbers, of texts: read, gathered by append. -/
import Derived.Test.YtlfhomahbacmpaaDoorZah
import Derived.Test.YtlfhomahbacmpaaDoorRows
import Derived.Shelf.Lays
import Derived.Shelf.Strings.Builder1
import Derived.Shelf.Strings.BuilderF
import Derived.Shelf.Strings.BuilderK
import Derived.BigRegion
import Derived.Test.YtlfhomahbacmpaaDoorZae
import Derived.Test.YtlfhomahbacmpaaDoorZaf
import Derived.Lib.Hide
import Derived.OwnWalk
namespace Go.Proofs.YtlfhomahbacmpaaDoor
open Go.RowKit
set_option linter.unusedVariables false

/-! ### the division -/
def sBit (L : List Bool) (x : Nat) : Bool := L.getD x false
def stC (w p : Nat) (L : List Bool) (i : Nat) : Nat := feedC w p 0 (L.take i)
def rowF (w p : Nat) (L : List Bool) (i x : Nat) : Bool := decide (i ≤ x) && (sBit L x ^^ (decide (x < i + w) && (stC w p L i).testBit (w - 1 - (x - i))))
/-- the bits that it is divided by -/
def byB (w p k : Nat) : Bool := k == 0 || p.testBit (w - k)
theorem stC_succ (w p : Nat) (L : List Bool) (i : Nat) (h : i < L.length) : stC w p L (i + 1) = stepC w p (stC w p L i) (sBit L i) := by
  unfold stC sBit
  rw [List.take_succ_eq_append_getElem h, feedC_app, List.getD_eq_getElem?_getD, List.getElem?_eq_getElem h]
  rfl
theorem rowF_0 (w p : Nat) (L : List Bool) (x : Nat) : rowF w p L 0 x = sBit L x := by
  unfold rowF stC
  simp [feedC]
theorem rowF_top {w : Nat} (hw : 1 ≤ w) (p : Nat) (L : List Bool) (i : Nat) : rowF w p L i i = (sBit L i ^^ (stC w p L i).testBit (w - 1)) := by
  unfold rowF
  rw [Nat.sub_self, Nat.sub_zero, decide_eq_true (Nat.le_refl i), decide_eq_true (show i < i + w by omega)]
  simp
theorem rowF_step {w : Nat} (hw : 1 ≤ w) (p : Nat) (L : List Bool) (i x : Nat) (h : i < L.length) :
    rowF w p L (i + 1) x = (rowF w p L i x ^^ (rowF w p L i i && (decide (i ≤ x) && (decide (x < i + (w + 1)) && byB w p (x - i))))) := by
  rw [rowF_top hw]
  rcases Nat.lt_trichotomy x i with hx | hx | hx
  · have e1 : decide (i + 1 ≤ x) = false := by simp; omega
    have e2 : decide (i ≤ x) = false := by simp; omega
    unfold rowF
    rw [e1, e2]
    simp
  · subst hx
    have e1 : decide (x + 1 ≤ x) = false := by simp
    rw [rowF_top hw, Nat.sub_self]
    unfold rowF byB
    rw [e1]
    have e2 : decide (x < x + (w + 1)) = true := by simp
    rw [e2]
    cases sBit L x <;> cases (stC w p L x).testBit (w - 1) <;> simp
  · obtain ⟨k, rfl⟩ : ∃ k, x = i + (k + 1) := ⟨x - i - 1, by omega⟩
    have e1 : decide (i + 1 ≤ i + (k + 1)) = true := by simp
    have e2 : decide (i ≤ i + (k + 1)) = true := by simp
    unfold rowF byB
    rw [e1, e2, stC_succ w p L i h, step_bit, show i + (k + 1) - (i + 1) = k by omega, show i + (k + 1) - i = k + 1 by omega]
    by_cases hk : k + 1 ≤ w
    · have e3 : decide (i + (k + 1) < i + 1 + w) = true := by simp; omega
      have e4 : decide (i + (k + 1) < i + (w + 1)) = true := by simp; omega
      have e5 : decide (w - 1 - k < w) = true := by simp; omega
      have e6 : decide (i + (k + 1) < i + w) = decide (1 ≤ w - 1 - k) := by
        rw [Bool.eq_iff_iff]; simp; omega
      have e7 : (k + 1 == 0) = false := by simp
      rw [e3, e4, e5, e6, e7, show w - 1 - k - 1 = w - 1 - (k + 1) by omega, show w - (k + 1) = w - 1 - k by omega]
      cases sBit L (i + (k + 1)) <;> cases decide (1 ≤ w - 1 - k) <;> cases (stC w p L i).testBit (w - 1 - (k + 1)) <;> cases (stC w p L i).testBit (w - 1) <;> cases sBit L i <;> cases p.testBit (w - 1 - k) <;> rfl
    · have e3 : decide (i + (k + 1) < i + 1 + w) = false := by simp; omega
      have e4 : decide (i + (k + 1) < i + (w + 1)) = false := by simp; omega
      have e6 : decide (i + (k + 1) < i + w) = false := by simp; omega
      rw [e3, e4, e6]
      simp
theorem rowF_end {w : Nat} (p : Nat) (L : List Bool) (j : Nat) (hj : j < w) : rowF w p L L.length (L.length + j) = (feedC w p 0 L).testBit (w - 1 - j) := by
  unfold rowF stC sBit
  rw [List.take_length, show L.length + j - L.length = j by omega, List.getD_eq_getElem?_getD, List.getElem?_eq_none (by omega)]
  have e1 : decide (L.length ≤ L.length + j) = true := by simp
  have e2 : decide (L.length + j < L.length + w) = true := by simp; omega
  rw [e1, e2]
  simp

/-! ### rows in memory -/
def RowM (g n : Nat) (f : Nat → Bool) (w : World) : Prop := ∀ x, x < n → w.cell? ⟨g, x, none⟩ = some (.int .u8 (bitC (f x))) ∧ w.frozen? ⟨g, x, none⟩ = false
theorem RowM.set {g n x : Nat} {f : Nat → Bool} {w : World} {b : Bool} (h : RowM g n f w) (hx : x < n) : RowM g n (fun y => if y = x then b else f y) (w.setCell ⟨g, x, none⟩ (.int .u8 (bitC b))) := by
  intro y hy
  rw [World.frozen?_setCell]
  refine ⟨?_, (h y hy).2⟩
  dsimp only
  by_cases hyx : y = x
  · subst hyx
    rw [if_pos rfl, World.cell?_setCell_same' _ _ _ (by rw [(h y hy).1]; rfl)]
  · rw [if_neg hyx, World.cell?_setCell_other _ _ _ _ (by intro e; injection e; omega)]
    exact (h y hy).1
theorem RowM.congr {g n : Nat} {f f' : Nat → Bool} {w : World} (h : RowM g n f w) (he : ∀ x, x < n → f x = f' x) : RowM g n f' w := fun x hx => by
  rw [← he x hx]; exact h x hx
theorem RowM.below {g n : Nat} {f : Nat → Bool} {w w1 : World} (h : RowM g n f w) (hg : g < w.heap.size) (hb : Below w.heap.size w w1) : RowM g n f w1 := fun x hx =>
  ⟨(hb.cell (p := ⟨g, x, none⟩) hg).trans (h x hx).1, (hb.frozen (p := ⟨g, x, none⟩) hg).trans (h x hx).2⟩

def zerosL (s : ByteArray) (k : Nat) : List Int := byL s ++ List.replicate k 48
theorem zerosL_succ (s : ByteArray) (k : Nat) : zerosL s (k + 1) = zerosL s k ++ [48] := by unfold zerosL; rw [List.replicate_succ', List.append_assoc]
theorem zerosL_len (s : ByteArray) (k : Nat) : (zerosL s k).length = s.size + k := by unfold zerosL; rw [List.length_append, byL_len, List.length_replicate]

theorem zeros_bit {s : ByteArray} (hb : bitsB (byL s) = true) (w x : Nat) (hx : x < s.size + w) : (zerosL s w).getD x 0 = bitC (sBit (toB (byL s)) x) := by
  unfold zerosL sBit
  by_cases h : x < s.size
  · rw [getD_app_left (by rw [byL_len]; exact h)]
    conv => lhs; rw [← C_toB hb]
    rw [List.getD_eq_getElem?_getD, List.getD_eq_getElem?_getD, List.getElem?_map, List.getElem?_eq_getElem (by rw [toB_len, byL_len]; exact h)]
    rfl
  · rw [List.getD_eq_getElem?_getD, List.getElem?_append_right (by rw [byL_len]; omega), byL_len, List.getElem?_replicate, if_pos (by omega), List.getD_eq_getElem?_getD, List.getElem?_eq_none (by rw [toB_len, byL_len]; omega)]
    rfl
/-- the bits that it is divided by, as a text -/
theorem by_text (w p : Nat) : (ByteArray.mk #[49] ++ strOfNums (bitsI p w)).size = w + 1 ∧ ∀ k, k ≤ w → bt (ByteArray.mk #[49] ++ strOfNums (bitsI p w)) k = bitC (byB w p k) := by
  have hz : (ByteArray.mk #[49]).size = 1 := rfl
  refine ⟨by rw [ByteArray.size_append, strOfNums_size, bitsI_len, hz]; omega, fun k hk => ?_⟩
  rw [bt_app, hz]
  by_cases h : k < 1
  · obtain rfl : k = 0 := by omega
    rw [if_pos (by decide)]
    rfl
  · rw [if_neg h, bt_nums _ (isBy_bits (bitsI_bits p w))]
    have key : ∀ r j, j < r → (bitsT p r).getD j false = p.testBit (r - 1 - j) := by
      intro r
      induction r with
      | zero => intro j hj; omega
      | succ r ih =>
        intro j hj
        cases j with
        | zero => rfl
        | succ j => rw [bitsT, List.getD_cons_succ, ih j (by omega)]; congr 1; omega
    unfold bitsI
    have hl : k - 1 < (bitsT p w).length := by rw [bitsT_len]; omega
    have := key w (k - 1) (by omega)
    rw [List.getD_eq_getElem?_getD, List.getElem?_eq_getElem hl] at this
    rw [List.getD_eq_getElem?_getD, List.getElem?_map, List.getElem?_eq_getElem hl]
    simp only [Option.map_some, Option.getD_some] at this ⊢
    rw [this]
    unfold byB
    have e : (k == 0) = false := by simp; omega
    rw [e, Bool.false_or, show w - 1 - (k - 1) = w - k by omega]

end Go.Proofs.YtlfhomahbacmpaaDoor

namespace Go.Proofs.YtlfhomahbacmpaaDoor
open Go.RowKit Go.Shelf
set_option linter.unusedVariables false

def dren167 : Go.Shelf.Ren := ⟨fun | 167 => 43 | 240 => 51 | 276 => 59 | n => n, fun | 0 => 0 | 3 => 3 | 4 => 4 | 5 => 5 | 9 => 9 | 20 => 20 | 37 => 44 | 70 => 59 | 72 => 61 | 75 => 64 | 164 => 85 | 80 => 68 | n => n, fun | n => n⟩
theorem dlays167 : Go.Proofs.Lays.n167 Tryd.prog dren167 := {
  mixed := by kernel_rfl
  f167 := Tryd.func43.trans (congrArg some (by kernel_rfl))
  f240 := Tryd.func51.trans (congrArg some (by kernel_rfl))
  f276 := Tryd.func59.trans (congrArg some (by kernel_rfl))
  t0 := Tryd.underlying0
  a0 := Tryd.isAgg0
  z0 := Tryd.sizeOf0
  v0 := Tryd.zeroValue0
  t4 := Tryd.underlying4
  a4 := Tryd.isAgg4
  z4 := Tryd.sizeOf4
  v4 := Tryd.zeroValue4
  t5 := Tryd.underlying5
  a5 := Tryd.isAgg5
  z5 := Tryd.sizeOf5
  v5 := Tryd.zeroValue5
  t9 := Tryd.underlying9
  a9 := Tryd.isAgg9
  z9 := Tryd.sizeOf9
  v9 := Tryd.zeroValue9
  t20 := Tryd.underlying20
  a20 := Tryd.isAgg20
  z20 := Tryd.sizeOf20
  v20 := Tryd.zeroValue20
  t37 := Tryd.underlying44
  a37 := Tryd.isAgg44
  z37 := Tryd.sizeOf44
  v37 := Tryd.zeroValue44
  t70 := Tryd.underlying59
  a70 := Tryd.isAgg59
  z70 := Tryd.sizeOf59
  v70 := Tryd.zeroValue59
  t72 := Tryd.underlying61
  a72 := Tryd.isAgg61
  z72 := Tryd.sizeOf61
  v72 := Tryd.zeroValue61
  t75 := Tryd.underlying64
  a75 := Tryd.isAgg64
  z75 := Tryd.sizeOf64
  v75 := Tryd.zeroValue64
  t164 := Tryd.underlying85
  a164 := Tryd.isAgg85
  z164 := Tryd.sizeOf85
  v164 := Tryd.zeroValue85 }
theorem dextra167 : Go.Proofs.Builder.Extra Tryd.prog dren167 := {
  sizeBuilder := by kernel_rfl
  liesBuilder := by kernel_rfl
  t5 := Tryd.underlying5
  a5 := Tryd.isAgg5
  z5 := Tryd.sizeOf5
  v5 := Tryd.zeroValue5
  infoByte := by kernel_rfl
  cellsByte := by kernel_rfl
  sizeByte := by kernel_rfl
  neB5 := by decide }

theorem dwbyte_k (B b : Nat) (bs : List Value) (c : Int) (w : World) (h : Lib.IsBuilderF 61 5 B b bs w) (hlen : bs.length + 1 ≤ 140737488355328) (hBw : B ≤ w.heap.size) :
    Calls Tryd.prog 43 #[.pointer (some ⟨b, 0, none⟩), .int .u8 c] w fun e w' => e = .returned .nilIface ∧ (Lib.BuilderAtF 61 5 B b (.pointer (some ⟨b, 0, none⟩)) (bs ++ [.int .u8 c]) w' ∧ Below B w w' ∧ Lib.OthersKept 5 (some b) w w') :=
  Go.Proofs.Any.Builder_WriteByte_k dlays167 dextra167 B b bs c w h hlen hBw
end Go.Proofs.YtlfhomahbacmpaaDoor

namespace Go.Proofs.YtlfhomahbacmpaaDoor
open Go.RowKit
set_option linter.unusedVariables false

def bitN : Bool → Int
  | true => 1
  | false => 0
theorem bt_bit {s : ByteArray} (hb : bitsB (byL s) = true) {k : Nat} (hk : k < s.size) : ∃ b : Bool, bt s k = bitC b ∧ toB ((byL s).take (k + 1)) = toB ((byL s).take k) ++ [b] := by
  have h1 := bits_take hb (k + 1)
  rw [byL_take hk, bitsB_app] at h1
  simp only [bitsB, List.all_cons, List.all_nil, Bool.and_true, Bool.and_eq_true] at h1
  have h2 := (isBit_iff _).1 h1.2
  rw [byL_take hk, toB_app]
  rcases h2 with h2 | h2
  · exact ⟨false, h2, by rw [h2]; rfl⟩
  · exact ⟨true, h2, by rw [h2]; rfl⟩
theorem bt_isBit {s : ByteArray} {k : Nat} {b : Bool} (h : bt s k = bitC b) : isBit (bt s k) = true := by rw [h]; exact bitC_bit b

/-! ### each -/
def EachStep (k : Nat) (w1 : World) (Yes : World → Prop) (e : Ending) (w2 : World) : Prop := e = .returned (.tuple #[]) ∧ KeepsI k w1 w2 ∧ Yes w2
end Go.Proofs.YtlfhomahbacmpaaDoor

namespace Go.Proofs.YtlfhomahbacmpaaDoor
open Go.RowKit
set_option linter.unusedVariables false

structure SumSt (B c l n w p a : Nat) (w0 wr : World) : Prop where
  below : Below B w0 wr
  check : Box wr c (.int .i64 n) 3
  width : Box wr B (.int .i64 w) 3
  all : Box wr l (.int .i64 a) 3
  poly : Box wr (B + 1) (.int .i64 p) 3
  le : B ≤ w0.heap.size
  hc : B + 1 < c
  ne : c ≠ l
theorem SumSt.alloc {B c l n w p a : Nat} {w0 wr : World} (h : SumSt B c l n w p a w0 wr) (o : Obj) : SumSt B c l n w p a w0 (wr.alloc o) :=
  ⟨h.below.alloc (Nat.le_trans h.le h.below.size) _, h.check.alloc o, h.width.alloc o, h.all.alloc o, h.poly.alloc o, h.le, h.hc, h.ne⟩
theorem SumSt.later {B c l n w p a : Nat} {w0 wr w' : World} (h : SumSt B c l n w p a w0 wr) (hb : Below wr.heap.size wr w') : SumSt B c l n w p a w0 w' :=
  ⟨h.below.trans (hb.mono (Nat.le_trans h.le h.below.size)), h.check.below hb h.check.lt, h.width.below hb h.width.lt, h.all.below hb h.all.lt, h.poly.below hb h.poly.lt, h.le, h.hc, h.ne⟩
theorem SumSt.iterAt {B c l n w p a i q r : Nat} {w0 wr : World} {s : ByteArray} (h : SumSt B c l n w p a w0 wr) (hi : wr.heap[i]? = some (.stringIter s q)) (hB : B ≤ i) : SumSt B c l n w p a w0 (wr.iterAt i s r) :=
  ⟨Lib.below_iterAt h.below hB s r, h.check.iterAt hi, h.width.iterAt hi, h.all.iterAt hi, h.poly.iterAt hi, h.le, h.hc, h.ne⟩
theorem SumSt.stored {B c l n w p a m : Nat} {w0 wr : World} (h : SumSt B c l n w p a w0 wr) : SumSt B c l m w p a w0 (wr.setCell ⟨c, 0, none⟩ (.int .i64 m)) :=
  have hc := h.hc
  ⟨(Upd.setL c c wr _).below h.below (by omega) (by omega), h.check.set _, h.width.other (by omega) _, h.all.other (fun e => h.ne e.symm) _, h.poly.other (by omega) _, h.le, h.hc, h.ne⟩
theorem sum_keepsI {B c l n w p a : Nat} {w0 wr : World} (h : SumSt B c l n w p a w0 wr) (k : Nat) (u : Value) : KeepsI k wr (wr.setCell ⟨c, 0, none⟩ u) := (Upd.setL c c wr u).keepsI h.check h.check k
/-! ### bits of whole numbers -/
theorem i64_nat (a : Nat) (ha : a < 9223372036854775808) : (BitVec.ofInt 64 (a : Int)).toNat = a := by rw [BitVec.ofInt_natCast, BitVec.toNat_ofNat]; exact Nat.mod_eq_of_lt (by omega)
theorem wrap_small (a : Nat) (ha : a < 9223372036854775808) : IntKind.i64.wrap (a : Int) = (a : Int) := by
  rw [IntKind.wrap_i64]; omega
theorem i64_xor (a b : Nat) (ha : a < 9223372036854775808) (hb : b < 9223372036854775808) : bits .xor .i64 (a : Int) (b : Int) = ((a ^^^ b : Nat) : Int) := by
  show IntKind.i64.wrap (((BitVec.ofInt 64 (a : Int)) ^^^ (BitVec.ofInt 64 (b : Int))).toNat : Int) = _
  have := Nat.xor_lt_two_pow (n := 63) ha hb
  rw [BitVec.toNat_xor, i64_nat a ha, i64_nat b hb, wrap_small _ this]
theorem i64_and (a b : Nat) (ha : a < 9223372036854775808) (hb : b < 9223372036854775808) : bits .and .i64 (a : Int) (b : Int) = ((a &&& b : Nat) : Int) := by
  show IntKind.i64.wrap (((BitVec.ofInt 64 (a : Int)) &&& (BitVec.ofInt 64 (b : Int))).toNat : Int) = _
  have := Nat.and_lt_two_pow (n := 63) a hb
  rw [BitVec.toNat_and, i64_nat a ha, i64_nat b hb, wrap_small _ this]
theorem i64_or (a b : Nat) (ha : a < 9223372036854775808) (hb : b < 9223372036854775808) : bits .or .i64 (a : Int) (b : Int) = ((a ||| b : Nat) : Int) := by
  show IntKind.i64.wrap (((BitVec.ofInt 64 (a : Int)) ||| (BitVec.ofInt 64 (b : Int))).toNat : Int) = _
  have := Nat.or_lt_two_pow (n := 63) ha hb
  rw [BitVec.toNat_or, i64_nat a ha, i64_nat b hb, wrap_small _ this]
theorem pow30 {w : Nat} (hw : w ≤ 30) : 2 ^ w ≤ 1073741824 := Nat.pow_le_pow_right (by decide) hw
/-- the highest bit -/
theorem top_bit {w n : Nat} (hw : 1 ≤ w) (hn : n < 2 ^ w) : ((n : Int) / 2 ^ (w - 1) != 0) = n.testBit (w - 1) ∧ ((n : Int) / 2 ^ (w - 1) != 1) = !n.testBit (w - 1) := by
  have e : (n : Int) / 2 ^ (w - 1) = ((n / 2 ^ (w - 1) : Nat) : Int) := by simp
  have h2 : 2 ^ w = 2 * 2 ^ (w - 1) := by
    have e : w = (w - 1) + 1 := by omega
    conv => lhs; rw [e]
    rw [Nat.pow_succ, Nat.mul_comm]
  have hlt : n / 2 ^ (w - 1) < 2 := (Nat.div_lt_iff_lt_mul (Nat.two_pow_pos _)).2 (by omega)
  rw [e, Nat.testBit_eq_decide_div_mod_eq]
  generalize n / 2 ^ (w - 1) = x at hlt
  have : x = 0 ∨ x = 1 := by omega
  rcases this with rfl | rfl <;> exact ⟨by decide, by decide⟩
theorem step_val {w p n m : Nat} {b : Bool} (hm : stepC w p n b = m) (hw2 : w ≤ 30) (hn : n < 2 ^ w) (hp : p < 2 ^ w) :
    bits .and .i64 ((n : Int) * 2) ((2 ^ w - 1 : Nat) : Int) = ((2 * n % 2 ^ w : Nat) : Int) ∧ ((n.testBit (w - 1) != b) = false → 2 * n % 2 ^ w = m) ∧ ((n.testBit (w - 1) != b) = true → bits .xor .i64 ((2 * n % 2 ^ w : Nat) : Int) (p : Int) = (m : Int)) := by
  have h30 := pow30 hw2
  have hlt := Nat.mod_lt (2 * n) (Nat.two_pow_pos w)
  unfold stepC at hm
  refine ⟨?_, fun h => ?_, fun h => ?_⟩
  · have e : (n : Int) * 2 = ((2 * n : Nat) : Int) := by omega
    rw [e, i64_and _ _ (by omega) (by omega), Nat.and_two_pow_sub_one_eq_mod]
  · rw [← hm, h]; simp
  · rw [i64_xor _ _ (by omega) (by omega), ← hm, h]; simp

theorem Box.drewN {w : World} {k : Nat} {v : Value} {t : TypeId} (h : Box w k v t) (n : Nat) : Box (w.drewN n) k v t := h
theorem two_boxes (W : World) (w p k : Nat) {W1 : World} (h : W1 = ((W.alloc (Obj.cells #[Value.int IntKind.i64 ↑w] 3)).alloc (Obj.cells #[Value.int IntKind.i64 ↑p] 3)).drewN k) :
    Box W1 W.heap.size (.int .i64 w) 3 ∧ Box W1 (W.heap.size + 1) (.int .i64 p) 3 ∧ Below W.heap.size W W1 ∧ W1.heap.size = W.heap.size + 1 + 1 := by
  subst h
  have h1 := (Box.made W (.int .i64 w) 3 rfl).alloc (Obj.cells #[Value.int IntKind.i64 ↑p] 3)
  have h2 : Box ((W.alloc (Obj.cells #[Value.int IntKind.i64 ↑w] 3)).alloc (Obj.cells #[Value.int IntKind.i64 ↑p] 3)) (W.heap.size + 1) (.int .i64 p) 3 := Box.made _ _ _ (by simp)
  exact ⟨h1.drewN k, h2.drewN k, below_drewN (((Below.refl _ W).alloc (Nat.le_refl _) _).alloc (by simp) _) k, by show ((W.alloc _).alloc _).heap.size = _; simp⟩
theorem sum_made1 (W : World) (w p a k : Nat) : SumSt W.heap.size (W.heap.size + 1 + 1) (W.heap.size + 1 + 1 + 1) 0 w p a W (((((W.alloc (Obj.cells #[Value.int IntKind.i64 ↑w] 3)).alloc (Obj.cells #[Value.int IntKind.i64 ↑p] 3)).drewN k).alloc (Obj.cells #[Value.int IntKind.i64 0] 3)).alloc (Obj.cells #[Value.int IntKind.i64 ↑a] 3)) := by
  obtain ⟨h1, h2, h3, h4⟩ := two_boxes W w p k rfl
  have h5 := (Box.made _ (.int .i64 0) 3 h4).alloc (Obj.cells #[Value.int IntKind.i64 ↑a] 3)
  exact ⟨(h3.alloc (by omega) _).alloc (by simp; omega) _, h5, (h1.alloc _).alloc _, Box.made _ _ _ (by simp []), (h2.alloc _).alloc _, Nat.le_refl _, by omega, by omega⟩
theorem sum_made2 (W : World) (w p a k : Nat) : SumSt W.heap.size (W.heap.size + 1 + 1 + 1) (W.heap.size + 1 + 1) 0 w p a W (((((W.alloc (Obj.cells #[Value.int IntKind.i64 ↑w] 3)).alloc (Obj.cells #[Value.int IntKind.i64 ↑p] 3)).drewN k).alloc (Obj.cells #[Value.int IntKind.i64 ↑a] 3)).alloc (Obj.cells #[Value.int IntKind.i64 0] 3)) := by
  obtain ⟨h1, h2, h3, h4⟩ := two_boxes W w p k rfl
  have h5 := (Box.made _ (.int .i64 a) 3 h4).alloc (Obj.cells #[Value.int IntKind.i64 0] 3)
  exact ⟨(h3.alloc (by omega) _).alloc (by simp; omega) _, Box.made _ _ _ (by simp []), (h1.alloc _).alloc _, h5, (h2.alloc _).alloc _, Nat.le_refl _, by omega, by omega⟩

end Go.Proofs.YtlfhomahbacmpaaDoor

namespace Go.Proofs.YtlfhomahbacmpaaDoor
open Go.RowKit
set_option linter.unusedVariables false

theorem SumSt.cellc {B c l n w p a : Nat} {w0 wr w' : World} (h : SumSt B c l n w p a w0 wr) (hb : Below wr.heap.size wr w') : w'.cell? ⟨c, 0, none⟩ = some (.int .i64 n) := (h.later hb).check.cell

/-! ### Crc -/
/-! ### Number -/
structure NumSt (B n : Nat) (w0 wr : World) : Prop where
  below : Below B w0 wr
  num : Box wr B (.int .i64 n) 3
  le : B ≤ w0.heap.size
theorem NumSt.alloc {B n : Nat} {w0 wr : World} (h : NumSt B n w0 wr) (o : Obj) : NumSt B n w0 (wr.alloc o) := ⟨h.below.alloc (Nat.le_trans h.le h.below.size) _, h.num.alloc o, h.le⟩
theorem NumSt.later {B n : Nat} {w0 wr w' : World} (h : NumSt B n w0 wr) (hb : Below wr.heap.size wr w') : NumSt B n w0 w' := ⟨h.below.trans (hb.mono (Nat.le_trans h.le h.below.size)), h.num.below hb h.num.lt, h.le⟩
theorem NumSt.iterAt {B n i q r : Nat} {w0 wr : World} {s : ByteArray} (h : NumSt B n w0 wr) (hi : wr.heap[i]? = some (.stringIter s q)) (hB : B ≤ i) : NumSt B n w0 (wr.iterAt i s r) := ⟨Lib.below_iterAt h.below hB s r, h.num.iterAt hi, h.le⟩
theorem NumSt.stored {B n m : Nat} {w0 wr : World} (h : NumSt B n w0 wr) : NumSt B m w0 (wr.setCell ⟨B, 0, none⟩ (.int .i64 m)) := ⟨(Upd.setL B B wr _).below h.below (Nat.le_refl _) (Nat.le_refl _), h.num.set _, h.le⟩
theorem num_keepsI {B n : Nat} {w0 wr : World} (h : NumSt B n w0 wr) (k : Nat) (u : Value) : KeepsI k wr (wr.setCell ⟨B, 0, none⟩ u) := (Upd.setL B B wr u).keepsI h.num h.num k
theorem or_bit (n : Nat) (b : Bool) (hn : n < 1152921504606846976) : bits .or .i64 ((n : Int) * 2) (bitN b) = ((2 * n + (if b = true then 1 else 0) : Nat) : Int) := by
  have e : (n : Int) * 2 = ((2 * n : Nat) : Int) := by omega
  rw [e]
  cases b
  · rw [show bitN false = ((0 : Nat) : Int) from rfl, i64_or _ _ (by omega) (by decide)]; simp
  · rw [show bitN true = ((1 : Nat) : Int) from rfl, i64_or _ _ (by omega) (by decide)]
    have := Nat.two_pow_add_eq_or_of_lt (i := 1) (b := 1) (by decide) n
    simp at this ⊢
    omega
theorem numA_take_lt (L : List Bool) (k : Nat) (h : L.length ≤ 60) (hk : k < L.length) : numA 0 (L.take k) < 1152921504606846976 := by
  have h1 := numA_lt (L.take k) 0 0 (by decide)
  have h2 : 2 ^ (0 + (L.take k).length) ≤ 2 ^ 60 := Nat.pow_le_pow_right (by decide) (by rw [List.length_take]; omega)
  omega
theorem num_made (W : World) : NumSt W.heap.size 0 W (W.alloc (Obj.cells #[Value.int IntKind.i64 0] 3)) := ⟨(Below.refl _ W).alloc (Nat.le_refl _) _, Box.made W (.int .i64 0) 3 rfl, Nat.le_refl _⟩
end Go.Proofs.YtlfhomahbacmpaaDoor

namespace Go.Proofs.YtlfhomahbacmpaaDoor
open Go.RowKit
set_option linter.unusedVariables false

theorem kbits_no {n w : Int} (h : n < 0 ∨ w < 0 ∨ 60 < w) (W : World) :
    Calls Tryd.prog 31 #[.int .i64 n, .int .i64 w] W fun e w' => e = .returned (.string (ByteArray.mk #[])) ∧ W = w' := by
  by_cases h0 : n < 0
  · go_enter Tryd.func31, Tryd.ntmps31
    go_wp2
    go_ret
    exact ⟨rfl, rfl⟩
  · by_cases h1 : w < 0
    · go_enter Tryd.func31, Tryd.ntmps31
      go_wp2
      go_ret
      exact ⟨rfl, rfl⟩
    · have h2 : 60 < w := by omega
      go_enter Tryd.func31, Tryd.ntmps31
      go_wp2
      go_ret
      exact ⟨rfl, rfl⟩

theorem bitsT_take (n : Nat) : ∀ (m k : Nat), k < m → (bitsT n m).take (k + 1) = (bitsT n m).take k ++ [n.testBit (m - 1 - k)]
  | 0, k, h => by omega
  | m + 1, 0, _ => by simp [bitsT]
  | m + 1, k + 1, h => by
    simp only [bitsT, List.take_succ_cons, List.cons_append]
    rw [bitsT_take n m k (by omega), show m + 1 - 1 - (k + 1) = m - 1 - k by omega]
theorem bitsI_take (n : Nat) {m k : Nat} (h : k < m) : (bitsI n m).take (k + 1) = (bitsI n m).take k ++ [bitC (n.testBit (m - 1 - k))] := by
  unfold bitsI
  rw [← List.map_take, bitsT_take n m k h, List.map_append, List.map_take]
  rfl
theorem low_bit (n j : Nat) (hn : n < 9223372036854775808) : bits .and .i64 ((n : Int) / 2 ^ j) 1 = bitN (n.testBit j) := by
  have e : (n : Int) / 2 ^ j = ((n / 2 ^ j : Nat) : Int) := by simp
  have h1 := i64_and (n / 2 ^ j) 1 (Nat.lt_of_le_of_lt (Nat.div_le_self _ _) hn) (by decide)
  rw [Nat.and_one_is_mod] at h1
  rw [e, show (1 : Int) = ((1 : Nat) : Int) from rfl, h1, Nat.testBit_eq_decide_div_mod_eq]
  rcases Nat.mod_two_eq_zero_or_one (n / 2 ^ j) with h | h <;> rw [h] <;> rfl
theorem OutSt.wrote {B b : Nat} {O O' : List Int} {w0 w w' : World} (h : OutSt B b O w0 w) (hI : Lib.BuilderAtF 61 5 B b (.pointer (some ⟨b, 0, none⟩)) (O'.map (Value.int .u8)) w') (hb : Below B w w') : OutSt B b O' w0 w' :=
  ⟨h.below.trans hb, .inr hI, h.le⟩
theorem out_made (W : World) : OutSt W.heap.size W.heap.size [] W (W.alloc (.cells #[.pointer none, .slice none 0 0] 61)) := ⟨(Below.refl _ W).alloc (Nat.le_refl _) _, .of (Lib.fresh_isBuilder _ _ W), Nat.le_refl _⟩

set_option maxHeartbeats 2000000 in
theorem kbits_t {n m : Nat} {t : ByteArray} (h : strOfNums (bitsI n m) = t) (hn : n < 9223372036854775808) (hm : m ≤ 60) (W : World) :
    Calls Tryd.prog 31 #[.int .i64 n, .int .i64 m] W fun e w' => e = .returned (.string t) ∧ Below W.heap.size W w' := by
  have H := Lib.hid h
  have HO := Lib.hid (out_made W)
  clear h
  go_enter Tryd.func31, Tryd.ntmps31
  go_wp2
  go_loopw [19] (fun i wr => ∃ k : Nat, k ≤ m ∧ i = .int .i64 k ∧ Hid (OutSt W.heap.size W.heap.size ((bitsI n m).take k) W wr)) (fun i _ => m - (intOf i).toNat)
  case atStart => exact ⟨0, Nat.zero_le _, rfl, HO⟩
  case round =>
    obtain ⟨k, hk, rfl, HI⟩ := hrel
    by_cases hlt : k < m
    · have hv := low_bit n (m - 1 - k) hn
      have HT := Lib.hid (bitsI_take n hlt)
      have hlen : ((bitsI n m).take k).length ≤ 60 := by rw [List.length_take, bitsI_len]; omega
      generalize (bitsI n m).take k = L at HI HT hlen
      have HLN : Hid ((L.map (Value.int .u8)).length + 1 ≤ 140737488355328) := Lib.hid (by rw [List.length_map]; omega)
      generalize n.testBit (m - 1 - k) = b at hv HT
      cases b
      · simp only [show bitN false = 0 from rfl] at hv
        go_wp2_with fail
        refine (dwbyte_k W.heap.size W.heap.size _ 48 _ HI.out.bld HLN.out HI.out.hB).mono ?_
        rintro e w1 ⟨rfl, hI, hb, _⟩
        have HO2 : Hid (OutSt W.heap.size W.heap.size (L ++ [48]) W w1) := Lib.hid (HI.out.wrote (by rw [List.map_append]; exact hI) hb)
        clear hI hb
        go_wp2
        go_roundw
        case rel => exact ⟨k + 1, by omega, by go_num, by rw [HT.out]; exact HO2⟩
        case measure => simp [intOf]; omega
      · simp only [show bitN true = 1 from rfl] at hv
        go_wp2_with fail
        refine (dwbyte_k W.heap.size W.heap.size _ 49 _ HI.out.bld HLN.out HI.out.hB).mono ?_
        rintro e w1 ⟨rfl, hI, hb, _⟩
        have HO2 : Hid (OutSt W.heap.size W.heap.size (L ++ [49]) W w1) := Lib.hid (HI.out.wrote (by rw [List.map_append]; exact hI) hb)
        clear hI hb
        go_wp2
        go_roundw
        case rel => exact ⟨k + 1, by omega, by go_num, by rw [HT.out]; exact HO2⟩
        case measure => simp [intOf]; omega
    · obtain rfl : k = m := by omega
      have HL : Hid (Lib.IsBuilderF 61 5 W.heap.size W.heap.size (Lib.byteCells t.data.toList) wr) := Lib.hid (by
        have h1 := HI.out.bld
        rw [List.take_of_length_le (by rw [bitsI_len]; omega), bcells (isBy_bits (bitsI_bits n k)), H.out] at h1
        exact h1)
      go_wp2_with fail
      refine (dstring_k _ _ _ _ HL.out HI.out.hB).mono ?_
      rintro e w2 ⟨rfl, _, hb, _⟩
      rw [str_list]
      go_wp2
      go_ret
      exact ⟨rfl, HI.out.below.trans hb⟩

/-! ### Add -/
theorem addI_by : ∀ A B : List Int, isBy (addI A B)
  | [], _ => fun x hx => by simp [addI] at hx
  | _ :: _, [] => fun x hx => by simp [addI] at hx
  | a :: A, b :: B => fun x hx => by
    unfold addI at hx
    rw [List.zipWith_cons_cons] at hx
    rcases List.mem_cons.1 hx with rfl | hx
    · split <;> decide
    · exact addI_by A B x hx
end Go.Proofs.YtlfhomahbacmpaaDoor

namespace Go.Proofs.YtlfhomahbacmpaaDoor
open Go.RowKit
set_option linter.unusedVariables false

set_option maxRecDepth 100000 in
theorem ex_num : numA 0 (toB (byL (ByteArray.mk #[48, 49, 48, 49]))) = 5 := by decide +kernel
set_option maxRecDepth 100000 in
theorem ex_ok : numOk (byL (ByteArray.mk #[48, 49, 48, 49])) = true := by decide +kernel
set_option maxRecDepth 100000 in
theorem ex_crc : feedC 15 17817 0 (toB (byL (ByteArray.mk #[49]))) = 17817 := by decide +kernel
set_option maxRecDepth 100000 in
theorem ex_one : bitsB (byL (ByteArray.mk #[49])) = true := by decide +kernel
set_option maxRecDepth 100000 in
theorem ex_two : bitsB (byL (ByteArray.mk #[50])) = false := by decide +kernel
set_option maxRecDepth 100000 in
theorem ex_bits : strOfNums (bitsI 5 4) = ByteArray.mk #[48, 49, 48, 49] := by decide +kernel

theorem rightC_nat {w p : Int} (h : rightC w p = true) : ∃ w' p' : Nat, w = w' ∧ p = p' ∧ 1 ≤ w' ∧ w' ≤ 30 ∧ p' < 2 ^ w' := by
  unfold rightC at h
  simp only [Bool.and_eq_true, decide_eq_true_eq] at h
  obtain ⟨⟨⟨h1, h2⟩, h3⟩, h4⟩ := h
  obtain ⟨w, rfl⟩ := Int.eq_ofNat_of_zero_le (show 0 ≤ w by omega)
  obtain ⟨p, rfl⟩ := Int.eq_ofNat_of_zero_le h3
  rw [Int.toNat_natCast] at h4
  exact ⟨w, p, rfl, rfl, by omega, by omega, Int.ofNat_lt.1 h4⟩

end Go.Proofs.YtlfhomahbacmpaaDoor

namespace Go.Proofs.YtlfhomahbacmpaaDoor
open Go.RowKit
set_option linter.unusedVariables false

theorem bitsT_zero : ∀ k : Nat, bitsT 0 k = List.replicate k false
  | 0 => rfl
  | k + 1 => by rw [bitsT, bitsT_zero k, List.replicate_succ, Nat.zero_testBit]
theorem toB_bitsI (n w : Nat) : toB (bitsI n w) = bitsT n w := by unfold bitsI; exact toB_C _
theorem bitsB_append {s t : ByteArray} (hs : bitsB (byL s) = true) (ht : bitsB (byL t) = true) : bitsB (byL (s ++ t)) = true := by rw [byL_app, bitsB_app, hs, ht]; rfl
theorem none_left {s t : ByteArray} {w p n : Nat} (hn : feedC w p 0 (toB (byL s)) = n) (ht : strOfNums (bitsI n w) = t) (hp : p < 2 ^ w) : feedC w p 0 (toB (byL (s ++ t))) = 0 := by
  rw [byL_app, toB_app, feedC_app, hn, ← ht, byL_nums (isBy_bits (bitsI_bits n w)), toB_bitsI]
  exact feed_bits (by rw [← hn]; exact feed_lt hp _ 0 (Nat.two_pow_pos w))
theorem ahead_left {s t : ByteArray} {w p k : Nat} (ht : strOfNums (bitsI 0 k) = t) : feedC w p 0 (toB (byL (t ++ s))) = feedC w p 0 (toB (byL s)) := by
  rw [byL_app, toB_app, feedC_app, ← ht, byL_nums (isBy_bits (bitsI_bits 0 k)), toB_bitsI, bitsT_zero, feed_zeros]

theorem bitsI_str {n w : Nat} {t : ByteArray} (ht : strOfNums (bitsI n w) = t) : t.size = w ∧ bitsB (byL t) = true := by
  subst ht
  exact ⟨by rw [numsz, bitsI_len], by rw [byL_nums (isBy_bits (bitsI_bits n w))]; exact bitsI_bits n w⟩

theorem toB_addI : ∀ {A B : List Int}, bitsB A = true → bitsB B = true → toB (addI A B) = List.zipWith (fun a b => a ^^ b) (toB A) (toB B)
  | [], _, _, _ => rfl
  | _ :: _, [], _, _ => rfl
  | a :: A, b :: B, hA, hB => by
    rw [bitsB_cons, Bool.and_eq_true] at hA hB
    have ih := toB_addI hA.2 hB.2
    unfold toB addI at ih ⊢
    simp only [List.zipWith_cons_cons, List.map_cons, ih]
    congr 1
    rcases (isBit_iff a).1 hA.1 with rfl | rfl <;> rcases (isBit_iff b).1 hB.1 with rfl | rfl <;> rfl
theorem addI_bits : ∀ A B : List Int, bitsB (addI A B) = true
  | [], _ => rfl
  | _ :: _, [] => rfl
  | a :: A, b :: B => by
    unfold addI
    rw [List.zipWith_cons_cons, bitsB_cons]
    have := addI_bits A B
    unfold addI at this
    rw [this, Bool.and_true]
    split <;> rfl
theorem add_str {a b t : ByteArray} (ha : bitsB (byL a) = true) (hb : bitsB (byL b) = true) (hl : a.size = b.size) (ht : strOfNums (addI (byL a) (byL b)) = t) :
    (if addOk (byL a) (byL b) then strOfNums (addI (byL a) (byL b)) else ByteArray.mk #[]) = t ∧ byL t = addI (byL a) (byL b) ∧ bitsB (byL t) = true ∧ t.size = a.size := by
  have h1 : byL t = addI (byL a) (byL b) := by rw [← ht, byL_nums (addI_by _ _)]
  refine ⟨?_, h1, by rw [h1]; exact addI_bits _ _, ?_⟩
  · unfold addOk
    rw [ha, hb, byL_len, byL_len, decide_eq_true hl]
    exact ht
  · rw [← byL_len t, h1]
    unfold addI
    rw [List.length_zipWith, byL_len, byL_len]; omega

end Go.Proofs.YtlfhomahbacmpaaDoor

namespace Go.Proofs.YtlfhomahbacmpaaDoor
open Go.RowKit
set_option linter.unusedVariables false

def bitsS (n w : Int) : ByteArray := if 0 ≤ n ∧ 0 ≤ w ∧ w ≤ 60 then strOfNums (bitsI n.toNat w.toNat) else ByteArray.mk #[]
theorem kbits_v {n w : Int} {t : ByteArray} (h : bitsS n w = t) (hn : n < 9223372036854775808) (W : World) :
    Calls Tryd.prog 31 #[.int .i64 n, .int .i64 w] W fun e w' => e = .returned (.string t) ∧ Below W.heap.size W w' := by
  unfold bitsS at h
  split at h
  · rename_i hc
    obtain ⟨a, rfl⟩ := Int.eq_ofNat_of_zero_le hc.1
    obtain ⟨m, rfl⟩ := Int.eq_ofNat_of_zero_le hc.2.1
    rw [Int.toNat_natCast, Int.toNat_natCast] at h
    exact kbits_t h (by omega) (by omega) W
  · refine (kbits_no (by omega) W).mono ?_
    rintro e w' ⟨rfl, rfl⟩
    exact ⟨by rw [h], Below.refl _ _⟩
def numR (L : List Int) : Nat × Bool := if numOk L then (numA 0 (toB L), true) else (0, false)
theorem num_of_bits {n m : Nat} {t : ByteArray} (ht : strOfNums (bitsI n m) = t) (hm : m ≤ 60) (hn : n < 2 ^ m) : numR (byL t) = (n, true) := by
  have hb : byL t = bitsI n m := by rw [← ht, byL_nums (isBy_bits (bitsI_bits n m))]
  have hk : numOk (byL t) = true := by
    unfold numOk
    rw [hb, bitsI_bits, bitsI_len, decide_eq_true hm]; rfl
  unfold numR
  rw [if_pos hk, hb, toB_bitsI, num_bits hn]
theorem bits_of_num {s : ByteArray} {n : Nat} (h : numR (byL s) = (n, true)) : bitsS n s.size = s ∧ n < 9223372036854775808 := by
  unfold numR at h
  cases hk : numOk (byL s)
  · rw [hk] at h; cases h
  · rw [hk] at h
    injection h with h1 h2
    unfold numOk at hk
    rw [Bool.and_eq_true, decide_eq_true_eq, byL_len] at hk
    have h3 := numA_lt (toB (byL s)) 0 0 (by decide)
    have h4 : 2 ^ (0 + (toB (byL s)).length) ≤ 2 ^ 60 := Nat.pow_le_pow_right (by decide) (by rw [toB_len, byL_len]; omega)
    have h5 := bits_num (toB (byL s)) 0
    rw [h1] at h3 h5
    rw [toB_len, byL_len] at h5
    refine ⟨?_, by omega⟩
    unfold bitsS
    rw [if_pos (by omega), Int.toNat_natCast, Int.toNat_natCast]
    unfold bitsI
    rw [h5, C_toB hk.1, nums_byL]

end Go.Proofs.YtlfhomahbacmpaaDoor

namespace Go.Proofs.YtlfhomahbacmpaaDoor
open Go.RowKit
set_option linter.unusedVariables false

def strC (s : ByteArray) : List Value := [.string s]
def intC (n : Int) : List Value := [.int .i64 n]
theorem strC_len (s : ByteArray) : (strC s).length = 1 := rfl
theorem intC_len (n : Int) : (intC n).length = 1 := rfl
abbrev SlS (w : World) (v : Value) (L : List ByteArray) : Prop := SlG strC 1 w w.heap.size v L
abbrev SlI (w : World) (v : Value) (L : List Int) : Prop := SlG intC 1 w w.heap.size v L
abbrev GathI (B : Nat) (w0 : World) (v : Value) (L : List Int) (wr : World) : Prop := GathG 3 intC 1 B w0 v L wr
abbrev GathS (B : Nat) (w0 : World) (v : Value) (L : List ByteArray) (wr : World) : Prop := GathG 9 strC 1 B w0 v L wr
theorem SlG.at1 {α : Type} {c : α → List Value} {w : World} {B : Nat} {v : Value} {L : List α} (h : SlG c 1 w B v L) {k : Nat} (hk : k < L.length) {u : Value} (hu : c (L[k]'hk) = [u]) :
    ∃ x cap, v = .slice (some x) L.length cap ∧ x.block < B ∧ w.cell? (x.add k) = some u := by
  obtain ⟨x, cap, hv, hb, hc⟩ := h.at_ hk
  have := hc 0 u (by rw [hu]; rfl)
  rw [addr_add, Nat.mul_one, Nat.add_zero] at this
  exact ⟨x, cap, hv, hb, this⟩
theorem take_snoc {α : Type} {L : List α} {k : Nat} (h : k < L.length) : L.take (k + 1) = L.take k ++ [L[k]] := List.take_succ_eq_append_getElem h
theorem one_cell (w : World) (u : Value) (t : TypeId) : ∀ j x, [u][j]? = some x → (w.alloc (.cells #[u] t)).cell? ((⟨w.heap.size, 0, none⟩ : Addr).add j) = some x := by
  intro j x hj
  match j, hj with
  | 0, hj => simp at hj; subst hj; simp [Addr.add]

theorem info_int : (Tryd.prog.info? 3).map (fun i => (i.zero, i.size, i.bytes)) = some (some (.int .i64 0), 1, 8) := by kernel_rfl
theorem wpList_rowI {ops : Array Oper} {rest : List Oper} {o : Oper} {a : Act} {Q : Exit → Act → World → Prop} {W : World} (hgd : o.guard = none) (s x : Operand)
    (ho : o.op = .call { callee := .builtin .append, args := #[s, x], argTypes := #[28, 28] }) {B : Nat} {v : Value} {L : List Int} (hs : a.eval s = v) (hg : W.ownsRow B 3 1 v L.length (rowG intC L)) (hB : B ≤ W.heap.size)
    (g c : Nat) (e : Int) (hx : a.eval x = .slice (some ⟨g, 0, none⟩) 1 c) (hn : ∀ j u, (intC e)[j]? = some u → W.cell? ((⟨g, 0, none⟩ : Addr).add j) = some u) (hsz : L.length ≤ 1000000)
    (h : ∀ v' w', w'.ownsRow B 3 1 v' (L ++ [e]).length (rowG intC (L ++ [e])) → Below B W w' → wpList Tryd.prog ops Q rest (a.put o.dst v') w') : wpList Tryd.prog ops Q (o :: rest) a W := by
  obtain ⟨i0, hi, hz0, hz1, hz2⟩ := info_parts info_int
  refine wpList_append_own _ hgd s x 28 ho B 3 i0 _ 1 8 Tryd.underlying28 hi hz0 hz1 hz2 rfl (by decide) v L.length (rowG intC L) hs hg ⟨g, 0, none⟩ 1 c (intC e) hx rfl hn (fun u hu => ?_) ?_ ?_ hB ?_
  · simp only [intC, List.mem_cons, List.not_mem_nil, or_false] at hu
    subst hu; rfl
  · unfold maxLen; omega
  · omega
  · intro v' w' hown hgr _
    refine h v' w' ?_ ((Below.refl _ _).grown hgr hB ?_)
    · rw [List.length_append, rowG_app, rowG_one]; exact hown
    · intro k hk
      rcases hg.2 with ⟨rfl, _⟩ | ⟨g, cap, cur, rfl, hgg, _⟩
      · cases hk
      · cases hk; exact hgg
theorem info_str : (Tryd.prog.info? 9).map (fun i => (i.zero, i.size, i.bytes)) = some (some (.string (ByteArray.mk #[])), 1, 16) := by kernel_rfl
theorem wpList_rowS {ops : Array Oper} {rest : List Oper} {o : Oper} {a : Act} {Q : Exit → Act → World → Prop} {W : World} (hgd : o.guard = none) (s x : Operand)
    (ho : o.op = .call { callee := .builtin .append, args := #[s, x], argTypes := #[22, 22] }) {B : Nat} {v : Value} {L : List ByteArray} (hs : a.eval s = v) (hg : W.ownsRow B 9 1 v L.length (rowG strC L)) (hB : B ≤ W.heap.size)
    (g c : Nat) (e : ByteArray) (hx : a.eval x = .slice (some ⟨g, 0, none⟩) 1 c) (hn : ∀ j u, (strC e)[j]? = some u → W.cell? ((⟨g, 0, none⟩ : Addr).add j) = some u) (hsz : L.length ≤ 1000000)
    (h : ∀ v' w', w'.ownsRow B 9 1 v' (L ++ [e]).length (rowG strC (L ++ [e])) → Below B W w' → wpList Tryd.prog ops Q rest (a.put o.dst v') w') : wpList Tryd.prog ops Q (o :: rest) a W := by
  obtain ⟨i0, hi, hz0, hz1, hz2⟩ := info_parts info_str
  refine wpList_append_own _ hgd s x 22 ho B 9 i0 _ 1 16 Tryd.underlying22 hi hz0 hz1 hz2 rfl (by decide) v L.length (rowG strC L) hs hg ⟨g, 0, none⟩ 1 c (strC e) hx rfl hn (fun u hu => ?_) ?_ ?_ hB ?_
  · simp only [strC, List.mem_cons, List.not_mem_nil, or_false] at hu
    subst hu; rfl
  · unfold maxLen; omega
  · omega
  · intro v' w' hown hgr _
    refine h v' w' ?_ ((Below.refl _ _).grown hgr hB ?_)
    · rw [List.length_append, rowG_app, rowG_one]; exact hown
    · intro k hk
      rcases hg.2 with ⟨rfl, _⟩ | ⟨g, cap, cur, rfl, hgg, _⟩
      · cases hk
      · cases hk; exact hgg
theorem GathG.slI {B : Nat} {w0 wr : World} {v : Value} {L : List Int} (h : GathI B w0 v L wr) (hm : L.length ≤ 1000000) : SlI wr v L := GathG.slice intC_len (by decide) h (by unfold maxLen; omega)
theorem GathG.slS {B : Nat} {w0 wr : World} {v : Value} {L : List ByteArray} (h : GathS B w0 v L wr) (hm : L.length ≤ 1000000) : SlS wr v L := GathG.slice strC_len (by decide) h (by unfold maxLen; omega)
end Go.Proofs.YtlfhomahbacmpaaDoor
