/- Frame: contracts of Code, Size, Fit; and of the document's Sizes, Code, Fit. Frame: contracts of lenFits, Right; of the document's Has, Right. Frame: contracts of the document's Has, Right. Frame: the contract of the document's Right, at flags that may be. Frame: the contract of the document's Right, at flags that may be: errors, Fd. Frame: the document's Right whole; Right in two words; ors of numbers. Frame: contracts of Word, and of the document's Word. Of no program: bytes of texts one by one; a frame's datum. (Parted from XWirM, so that dump has it without wire.) Of no program: texts as lists of bytes. (Parted from XDmpM, so that every layer has it.) -/
import Derived.Test.YtmpikfnemhjoeaaZaa
namespace Go.Proofs.Ytmpikfnemhjoeaa
open Go.RowKit
set_option linter.unusedVariables false

theorem fbelow_t {w w1 w2 : World} (h : Below w.heap.size w w1) (h' : Below w1.heap.size w1 w2) : Below w.heap.size w w2 := h.trans (h'.mono h.size)
theorem fbelow_a {w w2 : World} (o : Obj) (h' : Below (w.alloc o).heap.size (w.alloc o) w2) : Below w.heap.size w w2 := fbelow_t ((Below.refl _ _).alloc (Nat.le_refl _) o) h'

/-! ### Fit -/
def hitF (n x : Int) : Bool := decide (0 ≤ n) && decide (n ≤ x)
def fitE (n : Int) : Ending := if 0 ≤ fitC n then .returned (.tuple #[.int .i64 (fitC n), .bool true]) else .returned (.tuple #[.int .i64 0, .bool false])
theorem fitE_t {n : Int} {k : Nat} (h : fitC n = k) : Ending.returned (.tuple #[.int .i64 k, .bool true]) = fitE n := by
  unfold fitE
  rw [if_pos (by rw [h]; simp), h]
theorem fitE_f {n : Int} (h : fitC n = -1) : Ending.returned (.tuple #[.int .i64 0, .bool false]) = fitE n := by
  unfold fitE
  rw [if_neg (by rw [h]; simp)]
theorem fit_lt {n : Int} {k : Nat} (h0 : 0 ≤ n) (h : noFit n k) : ∀ j, j < k → lens.getD j 0 < n := h.elim (fun h => by omega) id

theorem fitC_cases (n : Int) : fitC n = -1 ∨ ∃ k : Nat, k < 16 ∧ fitC n = k := by
  have h : -1 ≤ fitC n ∧ fitC n < 16 := by unfold fitC; (repeat' split) <;> omega
  by_cases h0 : fitC n = -1
  · exact .inl h0
  · exact .inr ⟨(fitC n).toNat, by omega, by omega⟩
def lenAt (k : Nat) : Int := lens.getD k 0

/-! ### the document's -/
def fitN (n : Int) : Int := if 0 ≤ fitC n then lens.getD (fitC n).toNat 0 else -1
theorem fitN_t {n : Int} {k : Nat} (h : fitC n = k) : lens.getD k 0 = fitN n := by
  unfold fitN
  rw [if_pos (by rw [h]; simp), h]
  simp
theorem fitN_f {n : Int} (h : fitC n = -1) : -1 = fitN n := by
  unfold fitN
  rw [if_neg (by rw [h]; simp)]

end Go.Proofs.Ytmpikfnemhjoeaa

namespace Go.Proofs.Ytmpikfnemhjoeaa
open Go.RowKit
set_option linter.unusedVariables false

theorem fquiet_add {P : Program} {f : FuncId} {args : Array Value} {w : World} {a n : Nat} {v : Value}
    (h : Calls P f args (w.drewN (a + n)) fun e w' => e = .returned v ∧ w.drewN (a + n) = w') :
    Calls P f args (w.drewN (a + n)) fun e w'' => e = .returned v ∧ ∃ m, w'' = w.drewN (a + m) :=
  h.mono fun _ _ ⟨he, hm⟩ => ⟨he, n, hm.symm⟩
theorem fquiet {P : Program} {f : FuncId} {args : Array Value} {w : World} {n : Nat} {v : Value}
    (h : Calls P f args (w.drewN n) fun e w' => e = .returned v ∧ w.drewN n = w') : Calls P f args (w.drewN n) fun e w'' => e = .returned v ∧ ∃ m, w'' = w.drewN m :=
  h.mono fun _ _ ⟨he, hm⟩ => ⟨he, n, hm.symm⟩
theorem fbcell {W w1 : World} (hb : Below W.heap.size W w1) : (∀ b o, b < W.heap.size → w1.cell? ⟨b, o, none⟩ = W.cell? ⟨b, o, none⟩) ∧ (∀ b o, b < W.heap.size → w1.frozen? ⟨b, o, none⟩ = W.frozen? ⟨b, o, none⟩) :=
  ⟨fun b o h => hb.cell (p := ⟨b, o, none⟩) h, fun b o h => hb.frozen (p := ⟨b, o, none⟩) h⟩

def rightE (b : Bool) : Int := if b then 0 else 4

end Go.Proofs.Ytmpikfnemhjoeaa

namespace Go.Proofs.Ytmpikfnemhjoeaa
open Go.RowKit
set_option linter.unusedVariables false

end Go.Proofs.Ytmpikfnemhjoeaa

namespace Go.Proofs.Ytmpikfnemhjoeaa
open Go.RowKit
set_option linter.unusedVariables false

def resD (r : Bool) (l : Int) (sz : Nat) : Bool := if r then decide (sz = 0) else decide ((sz : Int) = l)
def resC (e r : Bool) (i l : Int) (sz : Nat) : Bool := (e || decide (i ≤ 2047)) && (decide (0 ≤ l) && decide (l ≤ 8)) && resD r l sz
theorem resD_t (l : Int) (d : ByteArray) : d.toList.isEmpty = resD true l d.size := nilB d
theorem resD_f (l : Int) (d : ByteArray) : ((d.size : Int) == l) = resD false l d.size := by unfold resD; rw [Bool.eq_iff_iff]; simp

end Go.Proofs.Ytmpikfnemhjoeaa

namespace Go.Proofs.Ytmpikfnemhjoeaa
open Go.RowKit
set_option linter.unusedVariables false

def resA (l : Int) (sz : Nat) : Bool := decide (l = 8) && resD false l sz
def resB (e : Bool) (i l : Int) (sz : Nat) : Bool := (e || decide (i ≤ 2047)) && isLen l && resD false l sz

theorem isLen_lo {l : Int} (h : l < 0) : isLen l = false := by
  unfold isLen codeN; simp; repeat (rw [if_neg (by omega)])
  decide
theorem isLen_hi {l : Int} (h : 64 < l) : isLen l = false := by
  unfold isLen codeN; simp; repeat (rw [if_neg (by omega)])
  decide

end Go.Proofs.Ytmpikfnemhjoeaa

namespace Go.Proofs.Ytmpikfnemhjoeaa
open Go.RowKit
set_option linter.unusedVariables false

/-! ### ors -/
theorem or_u32 (a b : Nat) (ha : a < 4294967296) (hb : b < 4294967296) (hab : a + b < 4294967296) (h : a &&& b = 0) : bits .or .u32 (a : Int) (b : Int) = (a : Int) + b := by
  have e1 : (BitVec.ofInt 32 (a : Int)).toNat = a := by rw [BitVec.ofInt_natCast, BitVec.toNat_ofNat]; exact Nat.mod_eq_of_lt (by omega)
  have e2 : (BitVec.ofInt 32 (b : Int)).toNat = b := by rw [BitVec.ofInt_natCast, BitVec.toNat_ofNat]; exact Nat.mod_eq_of_lt (by omega)
  have hz : BitVec.ofInt 32 (a : Int) &&& BitVec.ofInt 32 (b : Int) = 0#32 := by
    apply BitVec.eq_of_toNat_eq
    rw [BitVec.toNat_and, e1, e2, h]; rfl
  show IntKind.u32.wrap (((BitVec.ofInt 32 (a : Int)) ||| (BitVec.ofInt 32 (b : Int))).toNat : Int) = _
  rw [← BitVec.add_eq_or_of_and_eq_zero _ _ hz, BitVec.toNat_add, e1, e2, IntKind.wrap_u32]
  omega
theorem or_pow (a i : Nat) (hi : i < 32) (ha : a + 2 ^ i < 4294967296) (h : a / 2 ^ i % 2 = 0) : bits .or .u32 (a : Int) ((2 ^ i : Nat) : Int) = (a : Int) + ((2 ^ i : Nat) : Int) :=
  or_u32 a (2 ^ i) (Nat.lt_of_le_of_lt (Nat.le_add_right _ _) ha) (Nat.lt_of_le_of_lt (Nat.le_add_left _ _) ha) ha (by rw [nat_and_pow, h, Nat.zero_mul])
theorem or31 (a : Int) (h0 : 0 ≤ a) (h1 : a < 2147483648) : bits .or .u32 a 2147483648 = a + 2147483648 := by
  obtain ⟨k, rfl⟩ := Int.eq_ofNat_of_zero_le h0
  exact or_pow k 31 (by decide) (by omega) (by omega)
theorem or30 (a : Int) (h0 : 0 ≤ a) (h1 : a < 3221225472) (h : a / 1073741824 % 2 = 0) : bits .or .u32 a 1073741824 = a + 1073741824 := by
  obtain ⟨k, rfl⟩ := Int.eq_ofNat_of_zero_le h0
  exact or_pow k 30 (by decide) (by omega) (by omega)
theorem or29 (a : Int) (h0 : 0 ≤ a) (h1 : a < 536870912) : bits .or .u32 a 536870912 = a + 536870912 := by
  obtain ⟨k, rfl⟩ := Int.eq_ofNat_of_zero_le h0
  exact or_pow k 29 (by decide) (by omega) (by omega)

/-! ### the document's Right -/
theorem okFl_parts {n : Int} (h0 : 0 ≤ n) (h1 : n ≤ 63) : okFl n = (!(fX n && (fE n || fR n || fD n)) && !(fD n && fR n) && !((fB n || fS n) && !fD n)) := by
  unfold okFl
  rw [decide_eq_true h0, decide_eq_true h1]
  simp
theorem okF_out {i n l : Int} {sz : Nat} (h : n < 0 ∨ 63 < n ∨ i < 0 ∨ 536870911 < i) : okF i n l sz = false := by
  unfold okF okFl idOk
  rcases h with h | h | h | h
  · rw [decide_eq_false (show ¬ 0 ≤ n by omega)]; simp
  · rw [decide_eq_false (show ¬ n ≤ 63 by omega)]; simp
  · rw [decide_eq_false (show ¬ 0 ≤ i by omega)]; simp
  · have ht : topN n ≤ 536870911 := by unfold topN; split <;> omega
    rw [decide_eq_false (show ¬ i ≤ topN n by omega)]; simp

theorem topN_v {n : Int} {e x : Bool} (he : fE n = e) (hx : fX n = x) : topN n = if e || x then 536870911 else 2047 := by unfold topN; rw [he, hx]
/-- what follows from that a frame may be -/
structure Good (i n l : Int) (sz : Nat) : Prop where
  n0 : 0 ≤ n
  n1 : n ≤ 63
  i0 : 0 ≤ i
  i1 : i ≤ topN n
  fl : okFl n = true
  ln : lenOk n l = true
  dt : datOk n l sz = true
theorem good {i n l : Int} {sz : Nat} (h : okF i n l sz = true) : Good i n l sz := by
  have h' := h
  unfold okF idOk at h'
  simp only [Bool.and_eq_true, decide_eq_true_eq] at h'
  have hn : 0 ≤ n ∧ n ≤ 63 := by
    apply Classical.byContradiction
    intro hc
    rw [okF_out (by omega)] at h
    cases h
  exact ⟨hn.1, hn.2, h'.1.1.2.1, h'.1.1.2.2, h'.1.1.1, h'.1.2, h'.2⟩
theorem Good.top {i n l : Int} {sz : Nat} (h : Good i n l sz) : i ≤ 536870911 := by
  have := h.i1; unfold topN at this; split at this <;> omega
theorem Good.noXE {i n l : Int} {sz : Nat} (h : Good i n l sz) (hx : fX n = true) : fE n = false ∧ fR n = false ∧ fD n = false := by
  have h1 := h.fl
  rw [okFl_parts h.n0 h.n1, hx] at h1
  revert h1
  cases fE n <;> cases fR n <;> cases fD n <;> cases fB n <;> cases fS n <;> decide
theorem Good.noDR {i n l : Int} {sz : Nat} (h : Good i n l sz) (hx : fD n = true) : fR n = false ∧ fX n = false := by
  have h1 := h.fl
  rw [okFl_parts h.n0 h.n1, hx] at h1
  revert h1
  cases fE n <;> cases fR n <;> cases fX n <;> cases fB n <;> cases fS n <;> decide

end Go.Proofs.Ytmpikfnemhjoeaa

namespace Go.Proofs.Ytmpikfnemhjoeaa
open Go.RowKit
set_option linter.unusedVariables false

def wordV (i n l : Int) (sz : Nat) : Int := if okF i n l sz then wordN i n else 0

end Go.Proofs.Ytmpikfnemhjoeaa

namespace Go.Proofs.Ytmpikfnemhjoeaa
open Go.RowKit
set_option linter.unusedVariables false

/-! ### bytes -/
theorem bt_past2 (s : ByteArray) (k : Nat) (h : s.size ≤ k) : bt s k = 0 := by
  unfold bt
  rw [List.getElem?_eq_none (by simpa using h)]
  rfl
theorem bt_ext {s t : ByteArray} (hs : s.size = t.size) (h : ∀ k, k < s.size → bt s k = bt t k) : s = t := by
  apply ByteArray.ext
  apply Array.toList_inj.1
  apply List.ext_getElem?
  intro k
  by_cases hk : k < s.size
  · have hk' : k < s.data.toList.length := by simpa using hk
    have hk2 : k < t.data.toList.length := by have : k < t.size := by omega
                                              simpa using this
    have := h k hk
    unfold bt at this
    rw [List.getElem?_eq_getElem hk', List.getElem?_eq_getElem hk2] at this ⊢
    simp only [Option.getD_some] at this
    congr 1
    apply UInt8.toNat_inj.1
    omega
  · rw [List.getElem?_eq_none (by simpa using hk), List.getElem?_eq_none (by have : ¬ k < t.size := by omega
                                                                             simpa using this)]
theorem bt_app (a b : ByteArray) (k : Nat) : bt (a ++ b) k = if k < a.size then bt a k else bt b (k - a.size) := by
  have e : (a ++ b).data.toList = a.data.toList ++ b.data.toList := by simp [ByteArray.data_append]
  unfold bt
  rw [e]
  split
  · rename_i h
    rw [List.getElem?_append_left (by simpa using h)]
  · rename_i h
    rw [List.getElem?_append_right (by simpa using h)]
    rfl
theorem bt_nums (L : List Int) (hL : ∀ x ∈ L, 0 ≤ x ∧ x < 256) (k : Nat) : bt (strOfNums L) k = L.getD k 0 := by
  unfold bt
  rw [strOfNums_data, List.getElem?_map]
  by_cases hk : k < L.length
  · have := hL L[k] (List.getElem_mem hk)
    simp only [List.getElem?_eq_getElem hk, Option.map_some, Option.getD_some, List.getD_eq_getElem?_getD, UInt8.toNat_ofNat']
    omega
  · simp [List.getElem?_eq_none (by omega : L.length ≤ k)]
theorem sub_size (s : ByteArray) (a b : Nat) (h : b ≤ s.size) : (s.extract a b).size = b - a := by
  rw [ByteArray.size_extract]; omega
theorem bt_sub (s : ByteArray) (a b k : Nat) (h1 : a + k < b) (h2 : b ≤ s.size) : bt (s.extract a b) k = bt s (a + k) := by
  have hk : k < (s.extract a b).size := by rw [sub_size _ _ _ h2]; omega
  rw [← bt_eq _ k hk, ← bt_eq s (a + k) (by omega), ByteArray.getElem_extract]

theorem Below.allocL {w w1 : World} (h : Below w.heap.size w w1) (o : Obj) : Below w.heap.size w (w1.alloc o) := h.alloc h.size o
theorem index_bt {t : TypeId} {s : ByteArray} {k : Nat} (ht : Try.prog.underlying t = some .string) (hk : k < s.size) (w : World) : (Instr.index t (.string s) (.int .i64 k)).run Try.prog w = .ok (.int .u8 (bt s k)) w := by
  rw [← bt_eq s k hk]
  simp [go_sem, ht, hk]
theorem seq_beq (a b : ByteArray) : (a.toList == b.toList) = decide (a = b) := by
  rw [Bool.eq_iff_iff, beq_iff_eq, decide_eq_true_eq, ByteArray.toList_eq, ByteArray.toList_eq]
  exact ⟨fun h => ByteArray.ext (Array.toList_inj.1 h), fun h => by rw [h]⟩
theorem seq_self (a : ByteArray) : (a.toList == a.toList) = true := by simp

/-! ### a frame -/
structure Fr where
  i : Int
  n : Int
  l : Int
  d : ByteArray
def Fr.ok (f : Fr) : Bool := okF f.i f.n f.l f.d.size

end Go.Proofs.Ytmpikfnemhjoeaa

namespace Go.Proofs.Ytmpikfnemhjoeaa
open Go.RowKit
set_option linter.unusedVariables false

/-! ### texts as lists of bytes -/
def byL (s : ByteArray) : List Int := s.data.toList.map fun b => (b.toNat : Int)
def isBy (L : List Int) : Prop := ∀ x ∈ L, 0 ≤ x ∧ x < 256
theorem byL_len (s : ByteArray) : (byL s).length = s.size := by simp [byL]
theorem byL_by (s : ByteArray) : isBy (byL s) := by
  intro x hx
  obtain ⟨b, _, rfl⟩ := List.mem_map.1 hx
  have := b.toNat_lt
  omega
theorem nums_byL (s : ByteArray) : strOfNums (byL s) = s := by
  apply ByteArray.ext
  apply Array.toList_inj.1
  rw [strOfNums_data]
  unfold byL
  rw [List.map_map]
  conv => rhs; rw [← List.map_id s.data.toList]
  apply List.map_congr_left
  intro b _
  simp
theorem byL_nums {L : List Int} (h : isBy L) : byL (strOfNums L) = L := by
  unfold byL
  rw [strOfNums_data, List.map_map]
  conv => rhs; rw [← List.map_id L]
  apply List.map_congr_left
  intro x hx
  have := h x hx
  simp only [Function.comp, UInt8.toNat_ofNat', id]
  omega
theorem byL_inj {s t : ByteArray} (h : byL s = byL t) : s = t := by rw [← nums_byL s, h, nums_byL]
theorem byL_app (a b : ByteArray) : byL (a ++ b) = byL a ++ byL b := by unfold byL; simp [ByteArray.data_append]
theorem byL_extract (s : ByteArray) (a b : Nat) : byL (s.extract a b) = ((byL s).take b).drop a := by
  unfold byL
  rw [ByteArray.data_extract, Array.toList_extract]
  simp [List.map_take, List.map_drop, List.extract_eq_take_drop, List.drop_take]
theorem byL_getD (s : ByteArray) (k : Nat) : (byL s).getD k 0 = bt s k := by
  unfold byL bt
  rw [List.getD_eq_getElem?_getD, List.getElem?_map]
  cases s.data.toList[k]? <;> rfl
theorem byL_get {s : ByteArray} {k : Nat} (h : k < s.size) : (byL s)[k]'(by rw [byL_len]; exact h) = bt s k := by
  rw [← byL_getD, List.getD_eq_getElem?_getD, List.getElem?_eq_getElem (by rw [byL_len]; exact h)]; rfl
theorem byL_drop {s : ByteArray} {k : Nat} (h : k < s.size) : (byL s).drop k = bt s k :: (byL s).drop (k + 1) := by
  rw [List.drop_eq_getElem_cons (by rw [byL_len]; exact h), byL_get h]
theorem byL_take {s : ByteArray} {k : Nat} (h : k < s.size) : (byL s).take (k + 1) = (byL s).take k ++ [bt s k] := by
  rw [List.take_succ_eq_append_getElem (by rw [byL_len]; exact h), byL_get h]
theorem isBy_app {a b : List Int} (ha : isBy a) (hb : isBy b) : isBy (a ++ b) := by
  intro x hx
  rcases List.mem_append.1 hx with h | h
  · exact ha x h
  · exact hb x h
theorem isBy_cons {x : Int} {L : List Int} (h0 : 0 ≤ x ∧ x < 256) (h : isBy L) : isBy (x :: L) := by
  intro y hy
  rcases List.mem_cons.1 hy with rfl | hy
  · exact h0
  · exact h y hy
theorem isBy_nil : isBy [] := fun x hx => by cases hx
theorem nums_app (a b : List Int) : strOfNums (a ++ b) = strOfNums a ++ strOfNums b := by
  apply ByteArray.ext
  apply Array.toList_inj.1
  simp [ByteArray.data_append, strOfNums]

end Go.Proofs.Ytmpikfnemhjoeaa
