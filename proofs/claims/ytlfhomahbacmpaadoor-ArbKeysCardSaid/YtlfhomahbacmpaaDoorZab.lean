/- Octet: contracts of the document's Sign, Hex, Unhex; the walks of OctetHex, OctetBack. Frame: the plain numbers: what single bits of a frame's flags are, which flags may be, lengths' codes, words, keys. No program is meant here. Frame: contracts of barred, top, one, Has, dataFit; the two tables. Frame: contracts of first with its two closures, Code, Size, Fit; and of the document's Sizes, Code, Fit. Frame: contracts of Code, Size, Fit; and of the document's Sizes, Code, Fit. -/
import Derived.Test.YtlfhomahbacmpaaDoorZaa
import Derived.Deep.RegionWith
import Derived.Test.YtlfhomahbacmpaaDoorRows
import Derived.WalkKit
import Derived.Laws.BitsLemmas
import Derived.Lib.Hide
import Derived.WalkSpells
import Derived.WalkLawsBesides
import Derived.BigQuiet
import Derived.Deep.QuietTactic
import Derived.Laws.Rows
import Derived.WalkSmall
namespace Go.Proofs.YtlfhomahbacmpaaDoor
open Go.RowKit
set_option linter.unusedVariables false

theorem conv1 (w : World) (a : Int) :
    (convert 44 9 (.slice (some ⟨w.heap.size, 0, none⟩) 1 1)).run Tryd.prog (w.alloc (.cells #[.int .u8 a] 5)) = .ok (.string (strOfNums [a])) (w.alloc (.cells #[.int .u8 a] 5)) := by
  refine run_convert_bytes_arg _ 44 5 Tryd.underlying44 Tryd.underlying5 _ 0 1 1 [a] rfl (fun i hi => ?_) 9 Tryd.underlying9
  rw [Nat.zero_add, World.cell?_alloc_at _ _ _ _ rfl]
  obtain rfl : i = 0 := by omega
  rfl

theorem add_nums (A B : List Int) (h : A.length + B.length ≤ 1000000000) (w : World) :
    (Op.stringOp .add (strOfNums A) (strOfNums B)).run Tryd.prog w = .ok (.string (strOfNums (A ++ B))) w := by
  rw [run_string_add_sum w _ _ (by rw [strOfNums_size, strOfNums_size]; omega)]
  have e : strOfNums A ++ strOfNums B = strOfNums (A ++ B) := by
    apply ByteArray.ext
    simp [strOfNums, ByteArray.data_append]
  rw [e]

theorem below3 {w wr wa wb : World} (h : Below w.heap.size w wr) (h1 : Below wr.heap.size wr.drew wa) (h2 : Below wa.heap.size wa wb) : Below w.heap.size w wb :=
  have h3 : Below w.heap.size w wr.drew := h.drew
  (h3.trans (h1.mono h3.size)).trans (h2.mono (Nat.le_trans h3.size h1.size))

def runRel (B : Nat) (s : ByteArray) (w : World) (v i : Value) (wr : World) : Prop :=
  ∃ k : Nat, 2 * k ≤ s.size ∧ i = .int .i64 (2 * k) ∧ isdig s (2 * k) ∧ Below B w wr ∧ B ≤ wr.heap.size ∧ wr.ownsRow B 5 1 v k ((unl s k).map (Value.int .u8))

theorem run_step {B : Nat} {s : ByteArray} {w wr w1 : World} {k : Nat} {v v' : Value} {o : Obj} {n : Nat} (hk : 2 * k + 1 < s.size) (hd : isdig s (2 * k)) (h1 : dg s (2 * k) < 16) (h2 : dg s (2 * k + 1) < 16)
    (hB : Below B w wr) (hsz : B ≤ wr.heap.size) (hown : wr.ownsRow B 5 1 v k ((unl s k).map (Value.int .u8)))
    (hown1 : w1.ownsRow B 5 1 v' (k + 1) ((unl s k).map (Value.int .u8) ++ [.int .u8 (16 * dg s (2 * k) + dg s (2 * k + 1))]))
    (hgrow : ((wr.drewN n).alloc o).grownBy w1 v.ownBlock) : runRel B s w v' (.int .i64 (2 * (k : Int) + 2)) w1 := by
  have hgrow' : (wr.alloc o).grownBy w1 v.ownBlock := ⟨hgrow.os, hgrow.tape, hgrow.output, hgrow.size, hgrow.block⟩
  have hsz1 : wr.heap.size + 1 ≤ w1.heap.size := by have := hgrow'.size; simpa using this
  refine ⟨k + 1, by omega, by congr 1, fun i hi => ?_, (hB.alloc hsz o).grown hgrow' (by simp; omega) (fun j hj => (hown.lt j hj).1), by omega, ?_⟩
  · rcases Nat.lt_or_ge i (2 * k) with h | h
    · exact hd i h
    · rcases (show i = 2 * k ∨ i = 2 * k + 1 by omega) with rfl | rfl
      · exact h1
      · exact h2
  · rw [unl_succ, List.map_append]
    exact hown1

/-- the two ways of Unhex, in one word each -/
def YesPost (s : ByteArray) (w : World) (e : Ending) (w' : World) : Prop := e = .returned (.tuple #[.string (strOfNums (unl s (s.size / 2))), .bool true]) ∧ Below w.heap.size w w'
def NoPost (w : World) (e : Ending) (w' : World) : Prop := e = .returned (.tuple #[.string ⟨#[]⟩, .bool false]) ∧ Below w.heap.size w w'
theorem post_yes {s : ByteArray} {w : World} (h : unOk s) {e : Ending} {w' : World} (hp : UnPost s w e w') : YesPost s w e w' :=
  ⟨hp.1.elim (fun x => x.2) (fun x => absurd h x.1), hp.2⟩
theorem post_no {s : ByteArray} {w : World} (h : ¬ unOk s) {e : Ending} {w' : World} (hp : UnPost s w e w') : NoPost w e w' :=
  ⟨hp.1.elim (fun x => absurd x.1 h) (fun x => x.2), hp.2⟩
theorem below_t {w w1 w2 : World} (h : Below w.heap.size w w1) (h' : Below w1.heap.size w1 w2) : Below w.heap.size w w2 := h.trans (h'.mono h.size)

/-! ### OctetBack: digits back to bytes -/

theorem hx_bd {d : Int} (h0 : 0 ≤ d) (h1 : d < 16) : 0 ≤ hx d ∧ hx d < 256 := by unfold hx; split <;> omega
theorem dig_hx {d : Int} (h0 : 0 ≤ d) (h1 : d < 16) : dig (hx d) = d := by
  unfold hx
  split
  · rw [dig_0 (by omega)]; omega
  · rw [dig_A (by omega)]; omega
theorem hexl_bd (s : ByteArray) (n : Nat) : ∀ x ∈ hexl s n, 0 ≤ x ∧ x < 256 := by
  intro x hm
  unfold hexl at hm
  rw [List.mem_flatMap] at hm
  obtain ⟨i, _, hi⟩ := hm
  have hb := bt_lt s i
  simp only [List.mem_cons, List.not_mem_nil, or_false] at hi
  rcases hi with rfl | rfl
  · exact hx_bd (by omega) (by omega)
  · exact hx_bd (by omega) (by omega)
theorem hexl_get (s : ByteArray) : ∀ (n i : Nat), i < n → (hexl s n).getD (2 * i) 0 = hx (bt s i / 16) ∧ (hexl s n).getD (2 * i + 1) 0 = hx (bt s i % 16)
  | 0, i, h => by omega
  | n + 1, i, h => by
    have hl := hexl_len s n
    rw [hexl_succ]
    by_cases hi : i < n
    · have ih := hexl_get s n i hi
      simp only [List.getD_eq_getElem?_getD] at ih ⊢
      rw [List.getElem?_append_left (by omega), List.getElem?_append_left (by omega)]
      exact ih
    · obtain rfl : i = n := by omega
      simp only [List.getD_eq_getElem?_getD]
      rw [List.getElem?_append_right (by omega), List.getElem?_append_right (by omega), hl, Nat.sub_self, Nat.add_sub_cancel_left]
      exact ⟨rfl, rfl⟩
theorem hex_size (s : ByteArray) : (strOfNums (hexl s s.size)).size = 2 * s.size := by rw [strOfNums_size, hexl_len]
theorem dg_hex (s : ByteArray) (i : Nat) (h : i < s.size) : dg (strOfNums (hexl s s.size)) (2 * i) = bt s i / 16 ∧ dg (strOfNums (hexl s s.size)) (2 * i + 1) = bt s i % 16 := by
  have hl := hexl_len s s.size
  have hg := hexl_get s s.size i h
  have hb := bt_lt s i
  unfold dg
  rw [bt_ofNums _ _ (hexl_bd s _) (by omega), bt_ofNums _ _ (hexl_bd s _) (by omega), hg.1, hg.2]
  exact ⟨dig_hx (by omega) (by omega), dig_hx (by omega) (by omega)⟩
theorem hex_ok (s : ByteArray) : unOk (strOfNums (hexl s s.size)) := by
  have hs := hex_size s
  refine ⟨fun i hi => ?_, by omega⟩
  have hb := bt_lt s (i / 2)
  have hd := dg_hex s (i / 2) (by omega)
  rcases (show i = 2 * (i / 2) ∨ i = 2 * (i / 2) + 1 by omega) with e | e
  · rw [e, hd.1]; omega
  · rw [e, hd.2]; omega
theorem bytes_all (s : ByteArray) : strOfNums ((List.range s.size).map (bt s)) = s := by
  apply ByteArray.ext
  apply Array.toList_inj.1
  rw [strOfNums_data]
  apply List.ext_getElem?
  intro j
  rw [List.getElem?_map, List.getElem?_map]
  by_cases hj : j < s.size
  · rw [List.getElem?_range hj]
    have hj' : j < s.data.toList.length := by simpa using hj
    simp only [Option.map_some, bt]
    rw [List.getElem?_eq_getElem hj']
    simp
  · rw [List.getElem?_eq_none (by simpa using hj), List.getElem?_eq_none (by simpa using hj)]
    rfl
theorem unl_hex (s : ByteArray) : strOfNums (unl (strOfNums (hexl s s.size)) ((strOfNums (hexl s s.size)).size / 2)) = s := by
  rw [hex_size, Nat.mul_div_cancel_left _ (by decide)]
  have e : unl (strOfNums (hexl s s.size)) s.size = (List.range s.size).map (bt s) := by
    unfold unl
    apply List.map_congr_left
    intro i hi
    have hd := dg_hex s i (by simpa using hi)
    unfold unb
    rw [hd.1, hd.2]
    omega
  rw [e, bytes_all]

end Go.Proofs.YtlfhomahbacmpaaDoor

namespace Go.Proofs.YtlfhomahbacmpaaDoor
open Go.RowKit
set_option linter.unusedVariables false

/-! ### single bits -/
theorem ofInt_toNat (n : Int) : (BitVec.ofInt 64 n).toNat = (n % 18446744073709551616).toNat := by
  rw [BitVec.toNat_ofInt]; rfl
theorem nat_and_pow (N i : Nat) : N &&& 2 ^ i = N / 2 ^ i % 2 * 2 ^ i := by
  apply Nat.eq_of_testBit_eq
  intro j
  rw [Nat.testBit_and, Nat.testBit_two_pow]
  by_cases hij : i = j
  · subst hij
    rw [Nat.testBit_eq_decide_div_mod_eq]
    rcases Nat.mod_two_eq_zero_or_one (N / 2 ^ i) with h | h <;> simp [h, Nat.testBit_two_pow_self]
  · rcases Nat.mod_two_eq_zero_or_one (N / 2 ^ i) with h | h <;> simp [h, hij]
theorem and_p (n : Int) (i : Nat) (hi : i < 63) : bits .and .i64 n ((2 ^ i : Nat) : Int) = (((n % 18446744073709551616).toNat / 2 ^ i % 2 * 2 ^ i : Nat) : Int) := by
  have hp : 2 ^ i < 2 ^ 63 := Nat.pow_lt_pow_right (by decide) hi
  have e2 : (BitVec.ofInt 64 ((2 ^ i : Nat) : Int)).toNat = 2 ^ i := by
    rw [BitVec.ofInt_natCast, BitVec.toNat_ofNat]; exact Nat.mod_eq_of_lt (by omega)
  have hb : ((n % 18446744073709551616).toNat &&& 2 ^ i) = (n % 18446744073709551616).toNat / 2 ^ i % 2 * 2 ^ i := by
    exact nat_and_pow _ _
  have hle : (n % 18446744073709551616).toNat / 2 ^ i % 2 * 2 ^ i ≤ 2 ^ i := by
    rcases Nat.mod_two_eq_zero_or_one ((n % 18446744073709551616).toNat / 2 ^ i) with h | h <;> simp [h]
  show IntKind.i64.wrap (((BitVec.ofInt 64 n) &&& (BitVec.ofInt 64 ((2 ^ i : Nat) : Int))).toNat : Int) = _
  rw [BitVec.toNat_and, ofInt_toNat, e2, hb, IntKind.wrap_i64]
  omega

def fE (n : Int) : Bool := decide (n % 2 = 1)
def fR (n : Int) : Bool := decide (n / 2 % 2 = 1)
def fX (n : Int) : Bool := decide (n / 4 % 2 = 1)
def fD (n : Int) : Bool := decide (n / 8 % 2 = 1)
def fB (n : Int) : Bool := decide (n / 16 % 2 = 1)
def fS (n : Int) : Bool := decide (n / 32 % 2 = 1)

theorem and1 (n : Int) : bits .and .i64 n 1 = if fE n then 1 else 0 := by
  have := and_p n 0 (by decide); unfold fE; simp at this; rw [this]; by_cases h : n % 2 = 1 <;> simp [h] <;> omega
theorem and2 (n : Int) : bits .and .i64 n 2 = if fR n then 2 else 0 := by
  have := and_p n 1 (by decide); unfold fR; simp at this; rw [this]; by_cases h : n / 2 % 2 = 1 <;> simp [h] <;> omega
theorem and4 (n : Int) : bits .and .i64 n 4 = if fX n then 4 else 0 := by
  have := and_p n 2 (by decide); unfold fX; simp at this; rw [this]; by_cases h : n / 4 % 2 = 1 <;> simp [h] <;> omega
theorem and8 (n : Int) : bits .and .i64 n 8 = if fD n then 8 else 0 := by
  have := and_p n 3 (by decide); unfold fD; simp at this; rw [this]; by_cases h : n / 8 % 2 = 1 <;> simp [h] <;> omega

theorem and1_t {n : Int} (h : fE n = true) : bits .and .i64 n 1 = 1 := by rw [and1, h]; rfl
theorem and1_f {n : Int} (h : fE n = false) : bits .and .i64 n 1 = 0 := by rw [and1, h]; rfl
theorem and2_t {n : Int} (h : fR n = true) : bits .and .i64 n 2 = 2 := by rw [and2, h]; rfl
theorem and2_f {n : Int} (h : fR n = false) : bits .and .i64 n 2 = 0 := by rw [and2, h]; rfl
theorem and4_t {n : Int} (h : fX n = true) : bits .and .i64 n 4 = 4 := by rw [and4, h]; rfl
theorem and4_f {n : Int} (h : fX n = false) : bits .and .i64 n 4 = 0 := by rw [and4, h]; rfl
theorem and8_t {n : Int} (h : fD n = true) : bits .and .i64 n 8 = 8 := by rw [and8, h]; rfl
theorem and8_f {n : Int} (h : fD n = false) : bits .and .i64 n 8 = 0 := by rw [and8, h]; rfl

/-! ### which flags may be -/
def okFl (n : Int) : Bool := decide (0 ≤ n) && decide (n ≤ 63) && !(fX n && (fE n || fR n || fD n)) && !(fD n && fR n) && !((fB n || fS n) && !fD n)
def barN (n : Int) : Int := if fX n then -5 else if fD n then -62 else -16
def topN (n : Int) : Int := if fE n || fX n then 536870911 else 2047

theorem wrap_zero (r : BitVec 64) (h : IntKind.i64.wrap (r.toNat : Int) = 0) : r = 0#64 := by
  rw [IntKind.wrap_i64] at h
  have := r.isLt
  apply BitVec.eq_of_toNat_eq
  show r.toNat = 0
  omega
theorem and_high (n b : Int) (h1 : -9223372036854775808 ≤ n) (h2 : n ≤ 9223372036854775807) (hb : BitVec.ofInt 64 b &&& 18446744073709551552#64 = 18446744073709551552#64) (h : bits .and .i64 n b = 0) : 0 ≤ n ∧ n ≤ 63 := by
  have h0 := wrap_zero _ (show IntKind.i64.wrap (((BitVec.ofInt 64 n) &&& (BitVec.ofInt 64 b)).toNat : Int) = 0 from h)
  have h3 : BitVec.ofInt 64 n &&& 18446744073709551552#64 = 0#64 := by rw [← hb, ← BitVec.and_assoc, h0]; simp
  have h5 := congrArg BitVec.toNat h3
  have h4 : (BitVec.ofInt 64 n).toNat ≤ 63 := by
    rw [BitVec.toNat_and] at h5
    have h6 : ((BitVec.ofInt 64 n).toNat &&& 18446744073709551552) = 0 := h5
    apply Classical.byContradiction
    intro hc
    obtain ⟨i, hi, ht⟩ := Nat.exists_ge_and_testBit_of_ge_two_pow (n := 6) (show 2 ^ 6 ≤ (BitVec.ofInt 64 n).toNat by omega)
    have h64 : i < 64 := by
      apply Classical.byContradiction
      intro h7
      have hlt := (BitVec.ofInt 64 n).isLt
      rw [Nat.testBit_lt_two_pow (Nat.lt_of_lt_of_le hlt (Nat.pow_le_pow_right (by decide) (by omega)))] at ht
      cases ht
    have h8 : (18446744073709551552 : Nat).testBit i = true := by
      have : ∀ j : Fin 64, 6 ≤ j.val → (18446744073709551552 : Nat).testBit j.val = true := by decide +kernel
      exact this ⟨i, h64⟩ hi
    have h9 := congrArg (fun x => x.testBit i) h6
    simp only [Nat.testBit_and, ht, h8, Bool.and_self, Nat.zero_testBit] at h9
    cases h9
  rw [ofInt_toNat] at h4
  omega
theorem flag_cases {n : Int} (h0 : 0 ≤ n) (h1 : n ≤ 63) : ∃ k : Fin 64, n = ((k.val : Nat) : Int) := ⟨⟨n.toNat, by omega⟩, by simp; omega⟩
theorem bar_small : ∀ k : Fin 64, (bits .and .i64 ((k.val : Nat) : Int) (barN ((k.val : Nat) : Int)) = 0) ↔ okFl ((k.val : Nat) : Int) = true := by decide +kernel
theorem bar_ok (n : Int) (h1 : -9223372036854775808 ≤ n) (h2 : n ≤ 9223372036854775807) : bits .and .i64 n (barN n) = 0 ↔ okFl n = true := by
  by_cases h : 0 ≤ n ∧ n ≤ 63
  · obtain ⟨k, rfl⟩ := flag_cases h.1 h.2
    exact bar_small k
  · constructor
    · intro h0
      refine absurd (and_high n _ h1 h2 ?_ h0) h
      unfold barN
      split
      · decide +kernel
      · split <;> decide +kernel
    · intro h0
      unfold okFl at h0
      simp only [Bool.and_eq_true, decide_eq_true_eq] at h0
      exact absurd ⟨h0.1.1.1.1, h0.1.1.1.2⟩ h

/-! ### lengths -/
def lens : List Int := [0, 1, 2, 3, 4, 5, 6, 7, 8, 12, 16, 20, 24, 32, 48, 64]
/-- the code of a length of Fd; -1: it has none -/
def codeN (n : Int) : Int := if 0 ≤ n ∧ n ≤ 8 then n else if n = 12 then 9 else if n = 16 then 10 else if n = 20 then 11 else if n = 24 then 12 else if n = 32 then 13 else if n = 48 then 14 else if n = 64 then 15 else -1
def isLen (n : Int) : Bool := decide (0 ≤ codeN n)
/-- the code of the least length that is not below n; -1: there is none -/
def fitC (n : Int) : Int := if n < 0 then -1 else if n ≤ 8 then n else if n ≤ 12 then 9 else if n ≤ 16 then 10 else if n ≤ 20 then 11 else if n ≤ 24 then 12 else if n ≤ 32 then 13 else if n ≤ 48 then 14 else if n ≤ 64 then 15 else -1

def lenOk (n l : Int) : Bool := if fX n then decide (l = 8) else if fD n then isLen l else decide (0 ≤ l) && decide (l ≤ 8)
def datOk (n l : Int) (sz : Nat) : Bool := if fR n then decide (sz = 0) else decide ((sz : Int) = l)
def idOk (i n : Int) : Bool := decide (0 ≤ i) && decide (i ≤ topN n)
/-- which frames may be -/
def okF (i n l : Int) (sz : Nat) : Bool := okFl n && idOk i n && lenOk n l && datOk n l sz

/-! ### words and keys -/
def b01 (b : Bool) : Int := if b then 1 else 0
def wordN (i n : Int) : Int := i + 2147483648 * b01 (fE n) + 1073741824 * b01 (fR n) + 536870912 * b01 (fX n)
def keyN (i n : Int) : Int :=
  if fE n then i / 262144 * 4194304 + 3145728 + i % 262144 * 4 + b01 (fR n) * 2 + b01 (fD n)
  else i * 4194304 + b01 (fR n) * 2097152 + b01 (fD n)

end Go.Proofs.YtlfhomahbacmpaaDoor

namespace Go.Proofs.YtlfhomahbacmpaaDoor
open Go.RowKit
set_option linter.unusedVariables false

theorem fret_two {k : IntKind} {a b : Int} {c d : Bool} (h : a = b) (h' : c = d) : Ending.returned (.tuple #[.int k a, .bool c]) = .returned (.tuple #[.int k b, .bool d]) := by rw [h, h']
theorem fret_int {k : IntKind} {a b : Int} (h : a = b) : Ending.returned (.int k a) = .returned (.int k b) := by rw [h]
theorem fret_bool {a b : Bool} (h : a = b) : Ending.returned (.bool a) = .returned (.bool b) := by rw [h]

/-! ### the tables -/
def lenCells : Array Value := #[.int .i64 0, .int .i64 1, .int .i64 2, .int .i64 3, .int .i64 4, .int .i64 5, .int .i64 6, .int .i64 7, .int .i64 8, .int .i64 12, .int .i64 16, .int .i64 20, .int .i64 24, .int .i64 32, .int .i64 48, .int .i64 64]
def markCells : Array Value := #[.int .i64 1, .int .u32 2147483648, .int .i64 2, .int .u32 1073741824, .int .i64 4, .int .u32 536870912]
theorem lt_of_heap {w : World} {k : Nat} {o : Obj} (h : w.heap[k]? = some o) : k < w.heap.size := (Array.getElem?_eq_some_iff.1 h).1
def TabL (w : World) : Prop := ∃ t fr, w.heap[1]? = some (.cells lenCells t fr)
def TabM (w : World) : Prop := True
theorem TabM.below {w w' : World} (_h : TabM w) (_hb : Below w.heap.size w w') : TabM w' := trivial
def Tabs (w : World) : Prop := TabL w ∧ TabM w
theorem Tabs.below {w w' : World} (h : Tabs w) (hb : Below w.heap.size w w') : Tabs w' := by
  obtain ⟨⟨t, fr, h1⟩, h2⟩ := h
  exact ⟨⟨t, fr, by rw [hb.block _ (lt_of_heap h1)]; exact h1⟩, h2.below hb⟩
theorem Tabs.alloc {w : World} (h : Tabs w) (o : Obj) : Tabs (w.alloc o) := h.below ((Below.refl _ _).alloc (Nat.le_refl _) o)
theorem Tabs.drew {w : World} (h : Tabs w) : Tabs w.drew := h
theorem Tabs.drewN {w : World} (h : Tabs w) (n : Nat) : Tabs (w.drewN n) := h
theorem Tabs.cell {w : World} (h : Tabs w) (i : Nat) : w.cell? ⟨1, i, none⟩ = lenCells[i]? := by
  obtain ⟨⟨t, fr, h1⟩, _⟩ := h
  exact cell_of_row _ _ _ _ _ _ h1

/-! ### barred, top, one -/
set_option maxHeartbeats 1000000 in
theorem barred_any (n : Int) (w : World) :
    Calls Tryd.prog 54 #[.int .i64 n] w fun e w' => e = .returned (.int .i64 (barN n)) ∧ w = w' := by
  unfold barN
  cases hX : fX n
  · have h4 := and4_f hX
    clear hX
    cases hD : fD n
    · have h8 := and8_f hD
      clear hD
      simp only [Bool.false_eq_true, if_false]
      go_enter Tryd.func54, Tryd.ntmps54
      go_wp2
      go_ret
      exact ⟨fret_int (by decide +kernel), rfl⟩
    · have h8 := and8_t hD
      clear hD
      simp only [Bool.false_eq_true, if_false, if_true]
      go_enter Tryd.func54, Tryd.ntmps54
      go_wp2
      go_ret
      exact ⟨fret_int (by decide +kernel), rfl⟩
  · have h4 := and4_t hX
    clear hX
    simp only [if_true]
    go_enter Tryd.func54, Tryd.ntmps54
    go_wp2
    go_ret
    exact ⟨fret_int (by decide +kernel), rfl⟩

theorem and5 (n : Int) : bits .and .i64 n 5 ≠ 0 ↔ (fE n || fX n) = true := by
  have e : (BitVec.ofInt 64 n).toNat &&& 5 = ((BitVec.ofInt 64 n).toNat &&& 1) ||| ((BitVec.ofInt 64 n).toNat &&& 4) := by
    rw [← Nat.and_or_distrib_left]; rfl
  have h1 := nat_and_pow (BitVec.ofInt 64 n).toNat 0
  have h4 := nat_and_pow (BitVec.ofInt 64 n).toNat 2
  have hv : bits .and .i64 n 5 = (((BitVec.ofInt 64 n).toNat &&& 5 : Nat) : Int) := by
    have hle : (BitVec.ofInt 64 n).toNat &&& 5 ≤ 5 := Nat.and_le_right
    show IntKind.i64.wrap (((BitVec.ofInt 64 n) &&& (BitVec.ofInt 64 5)).toNat : Int) = _
    rw [BitVec.toNat_and]
    show IntKind.i64.wrap (((BitVec.ofInt 64 n).toNat &&& 5 : Nat) : Int) = _
    rw [IntKind.wrap_i64]
    omega
  rw [hv, e]
  simp only [Nat.pow_zero, Nat.div_one, Nat.mul_one] at h1
  rw [h1, h4, ofInt_toNat]
  unfold fE fX
  simp only [Bool.or_eq_true, decide_eq_true_eq, ne_eq, Int.natCast_eq_zero, Nat.or_eq_zero_iff]
  omega

set_option maxHeartbeats 1000000 in
theorem top_any (n : Int) (w : World) :
    Calls Tryd.prog 55 #[.int .i64 n] w fun e w' => e = .returned (.int .i64 (topN n)) ∧ w = w' := by
  unfold topN
  have h5 := and5 n
  cases hq : (fE n || fX n)
  · have h0 : bits .and .i64 n 5 = 0 := Classical.byContradiction fun h => by have h6 := h5.1 h; rw [hq] at h6; cases h6
    clear h5 hq
    simp only [Bool.false_eq_true, if_false]
    go_enter Tryd.func55, Tryd.ntmps55
    go_wp2
    go_ret
    exact ⟨rfl, rfl⟩
  · have h0 : (bits .and .i64 n 5 != 0) = true := by rw [bne_iff_ne]; exact h5.2 hq
    clear h5 hq
    simp only [if_true]
    go_enter Tryd.func55, Tryd.ntmps55
    go_wp2
    go_ret
    exact ⟨rfl, rfl⟩

set_option maxHeartbeats 1000000 in
theorem one2_any (n : Int) (w : World) :
    Calls Tryd.prog 45 #[.int .i64 n, .int .i64 2] w fun e w' => e = .returned (.int .i64 (b01 (fR n))) ∧ w = w' := by
  unfold b01
  cases hq : fR n
  · have h2 := and2_f hq
    clear hq
    simp only [Bool.false_eq_true, if_false]
    go_enter Tryd.func45, Tryd.ntmps45
    go_wp2
    go_ret
    exact ⟨rfl, rfl⟩
  · have h2 := and2_t hq
    clear hq
    simp only [if_true]
    go_enter Tryd.func45, Tryd.ntmps45
    go_wp2
    go_ret
    exact ⟨rfl, rfl⟩
set_option maxHeartbeats 1000000 in
theorem one8_any (n : Int) (w : World) :
    Calls Tryd.prog 45 #[.int .i64 n, .int .i64 8] w fun e w' => e = .returned (.int .i64 (b01 (fD n))) ∧ w = w' := by
  unfold b01
  cases hq : fD n
  · have h8 := and8_f hq
    clear hq
    simp only [Bool.false_eq_true, if_false]
    go_enter Tryd.func45, Tryd.ntmps45
    go_wp2
    go_ret
    exact ⟨rfl, rfl⟩
  · have h8 := and8_t hq
    clear hq
    simp only [if_true]
    go_enter Tryd.func45, Tryd.ntmps45
    go_wp2
    go_ret
    exact ⟨rfl, rfl⟩

/-! ### dataFit -/
theorem nilB (d : ByteArray) : d.toList.isEmpty = decide (d.size = 0) := by
  rw [ByteArray.toList_eq]
  obtain ⟨⟨l⟩⟩ := d
  cases l <;> rfl

set_option maxHeartbeats 1000000 in
theorem dataFit_any (i n l : Int) (d : ByteArray) (w : World) :
    Calls Tryd.prog 57 #[.agg #[.int .i64 i, .int .i64 n, .int .i64 l, .string d]] w fun e w' => e = .returned (.bool (datOk n l d.size)) ∧ Below w.heap.size w w' := by
  unfold datOk
  cases hq : fR n
  · have h2 := and2_f hq
    clear hq
    simp only [Bool.false_eq_true, if_false]
    go_enter Tryd.func57, Tryd.ntmps57
    go_wp2
    go_ret
    exact ⟨fret_bool (by rw [Bool.eq_iff_iff]; simp), (Below.refl _ _).alloc (Nat.le_refl _) _⟩
  · have h2 := and2_t hq
    clear hq
    simp only [if_true]
    go_enter Tryd.func57, Tryd.ntmps57
    go_wp2
    go_ret
    exact ⟨fret_bool (nilB d), (Below.refl _ _).alloc (Nat.le_refl _) _⟩

end Go.Proofs.YtlfhomahbacmpaaDoor

namespace Go.Proofs.YtlfhomahbacmpaaDoor
open Go.RowKit
set_option linter.unusedVariables false

def noLen (n : Int) (k : Nat) : Prop := ∀ j, j < k → lens.getD j 0 ≠ n
def noFit (n : Int) (k : Nat) : Prop := n < 0 ∨ ∀ j, j < k → lens.getD j 0 < n
theorem noLen_succ {n : Int} {k : Nat} (h : noLen n k) (hk : lens.getD k 0 ≠ n) : noLen n (k + 1) := by
  intro j hj
  by_cases e : j = k
  · rw [e]; exact hk
  · exact h j (by omega)
theorem code_at : ∀ k : Fin 16, codeN (lens.getD k.val 0) = k.val := by decide
theorem codeN_hit {n : Int} {k : Nat} (hk : k < 16) (h : lens.getD k 0 = n) : codeN n = k := by rw [← h]; exact code_at ⟨k, hk⟩
theorem codeN_miss {n : Int} (h : noLen n 16) : codeN n = -1 := by
  have h0 := h 0 (by omega); have h1 := h 1 (by omega); have h2 := h 2 (by omega); have h3 := h 3 (by omega); have h4 := h 4 (by omega); have h5 := h 5 (by omega); have h6 := h 6 (by omega); have h7 := h 7 (by omega)
  have h8 := h 8 (by omega); have h9 := h 9 (by omega); have h10 := h 10 (by omega); have h11 := h 11 (by omega); have h12 := h 12 (by omega); have h13 := h 13 (by omega); have h14 := h 14 (by omega); have h15 := h 15 (by omega)
  simp [lens] at h0 h1 h2 h3 h4 h5 h6 h7 h8 h9 h10 h11 h12 h13 h14 h15
  unfold codeN
  repeat (rw [if_neg (by omega)])
theorem lens_mono : ∀ k : Fin 16, ∀ j : Fin 16, j.val < k.val → lens.getD j.val 0 < lens.getD k.val 0 := by decide
theorem fitC_hit {n : Int} {k : Nat} (hk : k < 16) (h0 : 0 ≤ n) (h1 : n ≤ lens.getD k 0) (h2 : ∀ j, j < k → lens.getD j 0 < n) : fitC n = k := by
  have hl : k = 0 ∨ lens.getD (k - 1) 0 < n := by
    by_cases h : k = 0
    · exact .inl h
    · exact .inr (h2 _ (by omega))
  clear h2
  have : k = 0 ∨ k = 1 ∨ k = 2 ∨ k = 3 ∨ k = 4 ∨ k = 5 ∨ k = 6 ∨ k = 7 ∨ k = 8 ∨ k = 9 ∨ k = 10 ∨ k = 11 ∨ k = 12 ∨ k = 13 ∨ k = 14 ∨ k = 15 := by omega
  rcases this with rfl | rfl | rfl | rfl | rfl | rfl | rfl | rfl | rfl | rfl | rfl | rfl | rfl | rfl | rfl | rfl
  all_goals
    simp [lens] at h1 hl
    unfold fitC
    repeat (first | rw [if_neg (by omega)] | rw [if_pos (by omega)])
    try omega
theorem fitC_miss {n : Int} (h : noFit n 16) : fitC n = -1 := by
  rcases h with h | h
  · unfold fitC; rw [if_pos h]
  · have h15 := h 15 (by omega)
    simp [lens] at h15
    unfold fitC
    repeat (rw [if_neg (by omega)])
theorem noFit_succ {n : Int} {k : Nat} (h : noFit n k) (hk : n < 0 ∨ lens.getD k 0 < n) : noFit n (k + 1) := by
  rcases h with h | h
  · exact .inl h
  rcases hk with hk | hk
  · exact .inl hk
  refine .inr fun j hj => ?_
  by_cases e : j = k
  · rw [e]; exact hk
  · exact h j (by omega)

theorem lens_idx (k : Nat) (hk : k < 16) (w : World) : (Instr.index 90 (.agg lenCells) (.int .i64 k)).run Tryd.prog w = .ok (.int .i64 (lens.getD k 0)) w := by
  have : k = 0 ∨ k = 1 ∨ k = 2 ∨ k = 3 ∨ k = 4 ∨ k = 5 ∨ k = 6 ∨ k = 7 ∨ k = 8 ∨ k = 9 ∨ k = 10 ∨ k = 11 ∨ k = 12 ∨ k = 13 ∨ k = 14 ∨ k = 15 := by omega
  rcases this with rfl | rfl | rfl | rfl | rfl | rfl | rfl | rfl | rfl | rfl | rfl | rfl | rfl | rfl | rfl | rfl <;> (show _ = _; kernel_rfl)

set_option maxHeartbeats 1000000 in
theorem codeClos_t (x n : Int) (b : Nat) (w : World) (hc : w.cell? ⟨b, 0, none⟩ = some (.int .i64 n)) (h : x = n) :
    Calls Tryd.prog 64 #[.int .i64 x, .pointer (some ⟨b, 0, none⟩)] w fun e w' => e = .returned (.bool true) ∧ w = w' := by
  have h1 : (x == n) = true := by simpa using h
  clear h
  go_enter Tryd.func64, Tryd.ntmps64
  go_wp2
  go_ret
  exact ⟨rfl, rfl⟩
set_option maxHeartbeats 1000000 in
theorem codeClos_f (x n : Int) (b : Nat) (w : World) (hc : w.cell? ⟨b, 0, none⟩ = some (.int .i64 n)) (h : x ≠ n) :
    Calls Tryd.prog 64 #[.int .i64 x, .pointer (some ⟨b, 0, none⟩)] w fun e w' => e = .returned (.bool false) ∧ w = w' := by
  have h1 : (x == n) = false := by simpa using h
  clear h
  go_enter Tryd.func64, Tryd.ntmps64
  go_wp2
  go_ret
  exact ⟨rfl, rfl⟩

def codeE (n : Int) : Ending := if isLen n then .returned (.tuple #[.int .i64 (codeN n), .bool true]) else .returned (.tuple #[.int .i64 0, .bool false])
theorem codeE_t {n : Int} {k : Nat} (h : codeN n = k) : Ending.returned (.tuple #[.int .i64 k, .bool true]) = codeE n := by
  unfold codeE
  rw [if_pos (by unfold isLen; rw [h]; simp), h]
theorem codeE_f {n : Int} (h : codeN n = -1) : Ending.returned (.tuple #[.int .i64 0, .bool false]) = codeE n := by
  unfold codeE
  rw [if_neg (by unfold isLen; rw [h]; simp)]

set_option maxHeartbeats 2000000 in
theorem firstCode_any (n : Int) (b : Nat) (w : World) (hT : Tabs w) (hc : w.cell? ⟨b, 0, none⟩ = some (.int .i64 n)) :
    Calls Tryd.prog 63 #[.func (.func 64) #[] #[.pointer (some ⟨b, 0, none⟩)]] w fun e w' => e = codeE n ∧ w = w' := by
  obtain ⟨⟨t, fr, hg⟩, _⟩ := hT
  have HG := Lib.hid hg
  clear hg
  go_enter Tryd.func63, Tryd.ntmps63
  go_wp2_with (refine wpList_load_row rfl 90 _ rfl 1 rfl t lenCells fr _ HG.out Tryd.underlying90 rfl (by kernel_rfl) ?_)
  go_loop [4, 5, 7] (fun _ _ i => ∃ k : Nat, k ≤ 16 ∧ i = .int .i64 k ∧ noLen n k) (fun _ _ i => 16 - (intOf i).toNat)
  case atStart => exact ⟨0, by omega, rfl, fun j hj => by omega⟩
  case round =>
    obtain ⟨k, hk, rfl, hno⟩ := hrel
    by_cases hlt : k < 16
    · have hi := lens_idx k hlt
      by_cases hx : lens.getD k 0 = n
      · have hE := Lib.hid (codeE_t (codeN_hit hlt hx))
        have HX := Lib.hid hx
        clear hx hno
        go_wp2_with (go_at_call 64; refine (codeClos_t (lens.getD k 0) n b _ hc HX.out).mono ?_; rintro e w1 ⟨rfl, rfl⟩)
        go_ret2
        exact ⟨hE.out, rfl⟩
      · have hno' := Lib.hid (noLen_succ hno hx)
        have HX := Lib.hid hx
        clear hx hno
        go_wp2_with (go_at_call 64; refine (codeClos_f (lens.getD k 0) n b _ hc HX.out).mono ?_; rintro e w1 ⟨rfl, rfl⟩)
        go_round
        case rel => exact ⟨k + 1, by omega, by go_num, hno'.out⟩
        case measure => simp [intOf]; omega
    · obtain rfl : k = 16 := by omega
      have hE := Lib.hid (codeE_f (codeN_miss hno))
      clear hno
      go_wp2
      go_ret2
      exact ⟨hE.out, rfl⟩

end Go.Proofs.YtlfhomahbacmpaaDoor

namespace Go.Proofs.YtlfhomahbacmpaaDoor
open Go.RowKit
set_option linter.unusedVariables false

theorem fbelow_t {w w1 w2 : World} (h : Below w.heap.size w w1) (h' : Below w1.heap.size w1 w2) : Below w.heap.size w w2 := h.trans (h'.mono h.size)
theorem fbelow_a {w w2 : World} (o : Obj) (h' : Below (w.alloc o).heap.size (w.alloc o) w2) : Below w.heap.size w w2 := fbelow_t ((Below.refl _ _).alloc (Nat.le_refl _) o) h'

set_option maxHeartbeats 1000000 in
theorem code_t (n : Int) (w : World) (hT : Tabs w) (h : isLen n = true) :
    Calls Tryd.prog 62 #[.int .i64 n] w fun e w' => e = .returned (.tuple #[.int .i64 (codeN n), .bool true]) ∧ Below w.heap.size w w' := by
  have HE : Hid (codeE n = .returned (.tuple #[.int .i64 (codeN n), .bool true])) := Lib.hid (by unfold codeE; rw [if_pos h])
  clear h
  have HT := Lib.hid hT
  clear hT
  have hmf : ∀ (fn : Fn) (first cap : Array Value) (w : World), (Instr.makeFunc fn first cap).run Tryd.prog w = .ok (.func fn first cap) w := fun _ _ _ _ => rfl
  go_enter Tryd.func62, Tryd.ntmps62
  go_wp2_with fail
  refine (firstCode_any n _ _ (HT.out.alloc _) ?_).mono ?_
  · rw [World.cell?_alloc_at _ _ _ _ rfl]; rfl
  rintro e w1 ⟨he, rfl⟩
  rw [HE.out] at he
  subst he
  go_wp2
  go_ret2
  exact ⟨rfl, (Below.refl _ _).alloc (Nat.le_refl _) _⟩
set_option maxHeartbeats 1000000 in
theorem code_f (n : Int) (w : World) (hT : Tabs w) (h : isLen n = false) :
    Calls Tryd.prog 62 #[.int .i64 n] w fun e w' => e = .returned (.tuple #[.int .i64 0, .bool false]) ∧ Below w.heap.size w w' := by
  have HE : Hid (codeE n = .returned (.tuple #[.int .i64 0, .bool false])) := Lib.hid (by unfold codeE; rw [h]; rfl)
  clear h
  have HT := Lib.hid hT
  clear hT
  have hmf : ∀ (fn : Fn) (first cap : Array Value) (w : World), (Instr.makeFunc fn first cap).run Tryd.prog w = .ok (.func fn first cap) w := fun _ _ _ _ => rfl
  go_enter Tryd.func62, Tryd.ntmps62
  go_wp2_with fail
  refine (firstCode_any n _ _ (HT.out.alloc _) ?_).mono ?_
  · rw [World.cell?_alloc_at _ _ _ _ rfl]; rfl
  rintro e w1 ⟨he, rfl⟩
  rw [HE.out] at he
  subst he
  go_wp2
  go_ret2
  exact ⟨rfl, (Below.refl _ _).alloc (Nat.le_refl _) _⟩

theorem Tabs.len {w : World} (h : Tabs w) (k : Nat) (hk : k < 16) : w.cell? ⟨1, k, none⟩ = some (.int .i64 (lens.getD k 0)) := by
  rw [h.cell]
  have : k = 0 ∨ k = 1 ∨ k = 2 ∨ k = 3 ∨ k = 4 ∨ k = 5 ∨ k = 6 ∨ k = 7 ∨ k = 8 ∨ k = 9 ∨ k = 10 ∨ k = 11 ∨ k = 12 ∨ k = 13 ∨ k = 14 ∨ k = 15 := by omega
  rcases this with rfl | rfl | rfl | rfl | rfl | rfl | rfl | rfl | rfl | rfl | rfl | rfl | rfl | rfl | rfl | rfl <;> rfl

/-! ### Fit -/
def hitF (n x : Int) : Bool := decide (0 ≤ n) && decide (n ≤ x)
def fitE (n : Int) : Ending := if 0 ≤ fitC n then .returned (.tuple #[.int .i64 (fitC n), .bool true]) else .returned (.tuple #[.int .i64 0, .bool false])
theorem fitE_t {n : Int} {k : Nat} (h : fitC n = k) : Ending.returned (.tuple #[.int .i64 k, .bool true]) = fitE n := by
  unfold fitE
  rw [if_pos (by rw [h]; simp), h]
theorem fitE_f {n : Int} (h : fitC n = -1) : Ending.returned (.tuple #[.int .i64 0, .bool false]) = fitE n := by
  unfold fitE
  rw [if_neg (by rw [h]; simp)]
theorem fit_lt {n : Int} {k : Nat} (h0 : 0 ≤ n) (h : noFit n k) : ∀ j, j < k → lens.getD j 0 < n := h.elim (fun h => by omega) id

theorem fitC_cases (n : Int) : fitC n = -1 ∨ ∃ k : Nat, k < 16 ∧ fitC n = k := by
  have h : -1 ≤ fitC n ∧ fitC n < 16 := by unfold fitC; (repeat' split) <;> omega
  by_cases h0 : fitC n = -1
  · exact .inl h0
  · exact .inr ⟨(fitC n).toNat, by omega, by omega⟩
def lenAt (k : Nat) : Int := lens.getD k 0

/-! ### the document's -/
set_option maxHeartbeats 1000000 in
theorem rsizes_any (w : World) :
    Calls Tryd.prog 58 #[] w fun e w' => e = .returned (.slice (some ⟨w.heap.size, 0, none⟩) 16 16) ∧ (∀ k : Nat, k < 16 → w'.cell? ⟨w.heap.size, k, none⟩ = some (.int .i64 (lens.getD k 0))) ∧ Below w.heap.size w w' := by
  go_enter Tryd.func58, Tryd.ntmps58
  go_wp2
  go_ret
  refine ⟨rfl, fun k hk => ?_, (Below.refl _ _).alloc (Nat.le_refl _) _⟩
  rw [World.cell?_alloc_at _ _ _ _ rfl]
  have : k = 0 ∨ k = 1 ∨ k = 2 ∨ k = 3 ∨ k = 4 ∨ k = 5 ∨ k = 6 ∨ k = 7 ∨ k = 8 ∨ k = 9 ∨ k = 10 ∨ k = 11 ∨ k = 12 ∨ k = 13 ∨ k = 14 ∨ k = 15 := by omega
  rcases this with rfl | rfl | rfl | rfl | rfl | rfl | rfl | rfl | rfl | rfl | rfl | rfl | rfl | rfl | rfl | rfl <;> rfl

set_option maxHeartbeats 2000000 in
theorem rcode_any (n : Int) (w : World) :
    Calls Tryd.prog 47 #[.int .i64 n] w fun e w' => e = .returned (.int .i64 (codeN n)) ∧ Below w.heap.size w w' := by
  go_enter Tryd.func47, Tryd.ntmps47
  go_wp2_with fail
  refine (rsizes_any _).mono ?_
  rintro e w1 ⟨rfl, hcs, hb⟩
  have HC := Lib.hid hcs
  clear hcs
  go_wp2_with fail
  go_loop [4] (fun i => ∃ k : Nat, k ≤ 16 ∧ i = .int .i64 k ∧ noLen n k) (fun i => 16 - (intOf i).toNat)
  case atStart => exact ⟨0, by omega, rfl, fun j hj => by omega⟩
  case round =>
    obtain ⟨k, hk, rfl, hno⟩ := hrel
    by_cases hlt : k < 16
    · have hi : w1.cell? ⟨w.heap.size, k, none⟩ = some (.int .i64 (lenAt k)) := HC.out k hlt
      by_cases hx : lenAt k = n
      · have hE := Lib.hid (codeN_hit hlt hx)
        have hx' : (lenAt k == n) = true := by simpa using hx
        clear hx hno
        go_wp2
        go_ret
        exact ⟨fret_int hE.out.symm, hb⟩
      · have hno' := Lib.hid (noLen_succ hno hx)
        have hx' : (lenAt k == n) = false := by simpa using hx
        clear hx hno
        go_wp2
        go_round
        case rel => exact ⟨k + 1, by omega, by go_num, hno'.out⟩
        case measure => simp [intOf]; omega
    · obtain rfl : k = 16 := by omega
      have hE := Lib.hid (codeN_miss hno)
      clear hno
      go_wp2
      go_ret
      exact ⟨fret_int hE.out.symm, hb⟩

def fitN (n : Int) : Int := if 0 ≤ fitC n then lens.getD (fitC n).toNat 0 else -1
theorem fitN_t {n : Int} {k : Nat} (h : fitC n = k) : lens.getD k 0 = fitN n := by
  unfold fitN
  rw [if_pos (by rw [h]; simp), h]
  simp
theorem fitN_f {n : Int} (h : fitC n = -1) : -1 = fitN n := by
  unfold fitN
  rw [if_neg (by rw [h]; simp)]

end Go.Proofs.YtlfhomahbacmpaaDoor
