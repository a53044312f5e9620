/- Of no program: bytes of texts one by one; a frame's datum. (Parted from XWirM, so that dump has it without wire.) Of no program: lists in memory: a slice that reads as a list of things of k cells each (whoever made it); a row of the call's own that gathers such; a strings.Builder of the call's own behind callees that make new memory. Of no program: rows of whole numbers, of texts: read, gathered by append. Conf: what is known of a node; contracts of the document's Right, State, Do. Conf: the contract of the document's Do. -/
import Derived.Test.YtiibaldnpaopjaaDoorZaa
import Derived.Deep.AppendLies
import Derived.Maps.AppendAt
import Derived.OwnWalk
import Derived.Below
import Derived.Lib.OthersKept
import Derived.Deep.Draws
import Derived.Lib.Hide
namespace Go.Proofs.YtiibaldnpaopjaaDoor
open Go.RowKit
set_option linter.unusedVariables false

/-! ### bytes -/
theorem bt_past2 (s : ByteArray) (k : Nat) (h : s.size ≤ k) : bt s k = 0 := by
  unfold bt
  rw [List.getElem?_eq_none (by simpa using h)]
  rfl
theorem bt_ext {s t : ByteArray} (hs : s.size = t.size) (h : ∀ k, k < s.size → bt s k = bt t k) : s = t := by
  apply ByteArray.ext
  apply Array.toList_inj.1
  apply List.ext_getElem?
  intro k
  by_cases hk : k < s.size
  · have hk' : k < s.data.toList.length := by simpa using hk
    have hk2 : k < t.data.toList.length := by have : k < t.size := by omega
                                              simpa using this
    have := h k hk
    unfold bt at this
    rw [List.getElem?_eq_getElem hk', List.getElem?_eq_getElem hk2] at this ⊢
    simp only [Option.getD_some] at this
    congr 1
    apply UInt8.toNat_inj.1
    omega
  · rw [List.getElem?_eq_none (by simpa using hk), List.getElem?_eq_none (by have : ¬ k < t.size := by omega
                                                                             simpa using this)]
theorem bt_app (a b : ByteArray) (k : Nat) : bt (a ++ b) k = if k < a.size then bt a k else bt b (k - a.size) := by
  have e : (a ++ b).data.toList = a.data.toList ++ b.data.toList := by simp [ByteArray.data_append]
  unfold bt
  rw [e]
  split
  · rename_i h
    rw [List.getElem?_append_left (by simpa using h)]
  · rename_i h
    rw [List.getElem?_append_right (by simpa using h)]
    rfl
theorem bt_nums (L : List Int) (hL : ∀ x ∈ L, 0 ≤ x ∧ x < 256) (k : Nat) : bt (strOfNums L) k = L.getD k 0 := by
  unfold bt
  rw [strOfNums_data, List.getElem?_map]
  by_cases hk : k < L.length
  · have := hL L[k] (List.getElem_mem hk)
    simp only [List.getElem?_eq_getElem hk, Option.map_some, Option.getD_some, List.getD_eq_getElem?_getD, UInt8.toNat_ofNat']
    omega
  · simp [List.getElem?_eq_none (by omega : L.length ≤ k)]
theorem sub_size (s : ByteArray) (a b : Nat) (h : b ≤ s.size) : (s.extract a b).size = b - a := by
  rw [ByteArray.size_extract]; omega
theorem bt_sub (s : ByteArray) (a b k : Nat) (h1 : a + k < b) (h2 : b ≤ s.size) : bt (s.extract a b) k = bt s (a + k) := by
  have hk : k < (s.extract a b).size := by rw [sub_size _ _ _ h2]; omega
  rw [← bt_eq _ k hk, ← bt_eq s (a + k) (by omega), ByteArray.getElem_extract]

theorem Below.allocL {w w1 : World} (h : Below w.heap.size w w1) (o : Obj) : Below w.heap.size w (w1.alloc o) := h.alloc h.size o
theorem index_bt {t : TypeId} {s : ByteArray} {k : Nat} (ht : Tryd.prog.underlying t = some .string) (hk : k < s.size) (w : World) : (Instr.index t (.string s) (.int .i64 k)).run Tryd.prog w = .ok (.int .u8 (bt s k)) w := by
  rw [← bt_eq s k hk]
  simp [go_sem, ht, hk]
theorem seq_beq (a b : ByteArray) : (a.toList == b.toList) = decide (a = b) := by
  rw [Bool.eq_iff_iff, beq_iff_eq, decide_eq_true_eq, ByteArray.toList_eq, ByteArray.toList_eq]
  exact ⟨fun h => ByteArray.ext (Array.toList_inj.1 h), fun h => by rw [h]⟩
theorem seq_self (a : ByteArray) : (a.toList == a.toList) = true := by simp

/-! ### a frame -/
structure Fr where
  i : Int
  n : Int
  l : Int
  d : ByteArray
def Fr.ok (f : Fr) : Bool := okF f.i f.n f.l f.d.size

end Go.Proofs.YtiibaldnpaopjaaDoor

namespace Go.Proofs.YtiibaldnpaopjaaDoor
open Go.RowKit
set_option linter.unusedVariables false

theorem addr_block (a : Addr) (n : Nat) : (a.add n).block = a.block := by unfold Addr.add; split <;> rfl
theorem addr_add (a : Addr) (i j : Nat) : (a.add i).add j = a.add (i + j) := by
  unfold Addr.add
  by_cases hi : i = 0
  · subst hi; simp
  · by_cases hj : j = 0
    · subst hj; simp [hi]
    · simp [hi, hj, Nat.add_assoc]
theorem addr_zero (b j : Nat) : (⟨b, 0, none⟩ : Addr).add j = ⟨b, j, none⟩ := by unfold Addr.add; split <;> simp_all

section
variable {α : Type} {c : α → List Value} {k : Nat} {w w' : World} {B B' : Nat} {v : Value} {L : List α}

/-- the slice v reads as L: element i's cells are c of it; all lies below block B -/
def SlG (c : α → List Value) (k : Nat) (w : World) (B : Nat) (v : Value) (L : List α) : Prop :=
  ∃ A cap, v = .slice A L.length cap ∧ L.length ≤ maxLen ∧ ∀ i a, L[i]? = some a → ∃ x, A = some x ∧ x.block < B ∧ ∀ j u, (c a)[j]? = some u → w.cell? (x.add (i * k + j)) = some u
theorem SlG.keep (h : SlG c k w B v L) (hk : ∀ p : Addr, p.block < B → w'.cell? p = w.cell? p) (hB : B ≤ B') : SlG c k w' B' v L := by
  obtain ⟨A, cap, hv, hm, hc⟩ := h
  refine ⟨A, cap, hv, hm, fun i a ha => ?_⟩
  obtain ⟨x, hx, hxb, hcell⟩ := hc i a ha
  exact ⟨x, hx, by omega, fun j u hu => (hk _ (by rw [addr_block]; exact hxb)).trans (hcell j u hu)⟩
theorem SlG.below (h : SlG c k w B v L) (hb : Below B w w') : SlG c k w' B v L := h.keep (fun p hp => hb.cell hp) (Nat.le_refl _)
theorem SlG.later (h : SlG c k w w.heap.size v L) (hb : Below w.heap.size w w') : SlG c k w' w'.heap.size v L := h.keep (fun p hp => hb.cell hp) hb.size
theorem SlG.drewN (h : SlG c k w B v L) (n : Nat) : SlG c k (w.drewN n) B v L := h
theorem SlG.nil (c : α → List Value) (k : Nat) (w : World) (B : Nat) : SlG c k w B (.slice none 0 0) [] := ⟨none, 0, rfl, Nat.zero_le _, fun i a h => by simp at h⟩
/-- element i, if there is one: the slice has an address, and the element's cells lie behind it -/
theorem SlG.at_ (h : SlG c k w B v L) {i : Nat} (hi : i < L.length) : ∃ x cap, v = .slice (some x) L.length cap ∧ x.block < B ∧ ∀ j u, (c (L[i]'hi))[j]? = some u → w.cell? ((x.add (i * k)).add j) = some u := by
  obtain ⟨A, cap, hv, hm, hc⟩ := h
  obtain ⟨x, hx, hxb, hcell⟩ := hc i _ (List.getElem?_eq_getElem hi)
  subst hx
  exact ⟨x, cap, hv, hxb, fun j u hu => by rw [addr_add]; exact hcell j u hu⟩

/-- an argument: what 'open_slice_flat' hands over, as a list -/
theorem slice_of_row {s : List Sh} {a : Option Addr} {len cap : Nat} {R : Nat → List Value} (h : IsRowOf w s a len cap R) (f : List Value → α) (hc : ∀ l, FitsAll s l → c (f l) = l) (hs : s.length = k) (h0 : 0 < k) :
    ∃ L : List α, SlG c k w w.heap.size (.slice a len cap) L ∧ L.length = len ∧ ∀ x ∈ L, FitsAll s (c x) := by
  rcases h with ⟨rfl, rfl, rfl⟩ | ⟨x, rfl, hl, hm, hcell⟩
  · exact ⟨[], SlG.nil _ _ _ _, rfl, fun x hx => by cases hx⟩
  · refine ⟨(List.range len).map fun i => f (R i), ⟨some x, cap, by simp, by simp; omega, fun i b hb => ?_⟩, by simp, fun y hy => ?_⟩
    · have hi : i < len := by
        rcases Nat.lt_or_ge i len with h | h
        · exact h
        · rw [List.getElem?_eq_none (by simpa using h)] at hb; cases hb
      have hb' : b = f (R i) := by
        rw [List.getElem?_eq_getElem (by simpa using hi)] at hb
        simpa using hb.symm
      subst hb'
      obtain ⟨hf, hcs⟩ := hcell i (by omega)
      have hlen := hf.length
      have h00 := hcs 0 (by omega)
      rw [List.getElem?_eq_getElem (by omega)] at h00
      refine ⟨x, rfl, ?_, fun j u hu => ?_⟩
      · have := World.block_lt_of_cell? w _ h00
        rwa [addr_block] at this
      · rw [hc _ hf] at hu
        have hj : j < s.length := by
          rcases Nat.lt_or_ge j s.length with h | h
          · exact h
          · rw [List.getElem?_eq_none (by rw [hlen]; exact h)] at hu; cases hu
        rw [← hs, hcs j hj]
        exact hu
    · obtain ⟨i, hi, rfl⟩ := List.mem_map.1 hy
      have hi' := List.mem_range.1 hi
      have hf := (hcell i (by omega)).1
      rw [hc _ hf]
      exact hf

/-! ### a row of the call's own -/
def rowG (c : α → List Value) (L : List α) : List Value := L.flatMap c
theorem rowG_app (a b : List α) : rowG c (a ++ b) = rowG c a ++ rowG c b := by simp [rowG]
theorem rowG_one (a : α) : rowG c [a] = c a := by simp [rowG]
theorem rowG_length (hk : ∀ a, (c a).length = k) : ∀ L : List α, (rowG c L).length = L.length * k
  | [] => by simp [rowG]
  | a :: L => by
    have := rowG_length hk L
    simp only [rowG, List.flatMap_cons, List.length_append, hk, List.length_cons] at this ⊢
    rw [this, Nat.add_mul]; omega
theorem rowG_get (hk : ∀ a, (c a).length = k) : ∀ (L : List α) (i : Nat) (a : α), L[i]? = some a → ∀ j u, (c a)[j]? = some u → (rowG c L)[i * k + j]? = some u
  | [], i, a, h, _, _, _ => by simp at h
  | b :: L, 0, a, h, j, u, hu => by
    simp only [List.getElem?_cons_zero, Option.some.injEq] at h
    subst h
    have hj : j < (c b).length := by
      rcases Nat.lt_or_ge j (c b).length with h | h
      · exact h
      · rw [List.getElem?_eq_none h] at hu; cases hu
    simp only [rowG, List.flatMap_cons, Nat.zero_mul, Nat.zero_add]
    rw [List.getElem?_append_left hj]; exact hu
  | b :: L, i + 1, a, h, j, u, hu => by
    simp only [List.getElem?_cons_succ] at h
    have := rowG_get hk L i a h j u hu
    simp only [rowG, List.flatMap_cons] at this ⊢
    rw [List.getElem?_append_right (by rw [hk, Nat.add_mul]; omega), hk, show (i + 1) * k + j - k = i * k + j by rw [Nat.add_mul]; omega]
    exact this

/-- what a loop that gathers knows: B: the heap's size when the call began, in world w0 -/
def GathG (E : TypeId) (c : α → List Value) (k : Nat) (B : Nat) (w0 : World) (v : Value) (L : List α) (wr : World) : Prop :=
  wr.ownsRow B E k v L.length (rowG c L) ∧ Below B w0 wr ∧ B ≤ wr.heap.size
variable {E : TypeId} {w0 wr w1 : World}
theorem GathG.start (E : TypeId) (c : α → List Value) (k : Nat) (w : World) : GathG E c k w.heap.size w (.slice none 0 0) [] w := ⟨World.ownsRow_nil _ _ _ _, Below.refl _ _, Nat.le_refl _⟩
theorem ownG_below {base : Nat} {e : TypeId} {size n : Nat} {xs : List Value} (h : w.ownsRow base e size v n xs) (hb : Below w.heap.size w w') : w'.ownsRow base e size v n xs := by
  refine ⟨h.1, ?_⟩
  rcases h.2 with hn | ⟨g, cap, cur, rfl, hbg, hg, rest⟩
  · exact .inl hn
  · exact .inr ⟨g, cap, cur, rfl, hbg, (hb.block g (Array.getElem?_eq_some_iff.1 hg).1).trans hg, rest⟩
theorem GathG.later (h : GathG E c k B w0 v L wr) (hb : Below wr.heap.size wr w1) : GathG E c k B w0 v L w1 :=
  ⟨ownG_below h.1 hb, h.2.1.trans (hb.mono h.2.2), Nat.le_trans h.2.2 hb.size⟩
theorem GathG.alloc (h : GathG E c k B w0 v L wr) (o : Obj) : GathG E c k B w0 v L (wr.alloc o) := h.later ((Below.refl _ _).alloc (Nat.le_refl _) o)
theorem GathG.drewN (h : GathG E c k B w0 v L wr) (n : Nat) : GathG E c k B w0 v L (wr.drewN n) := ⟨h.1, ⟨h.2.1.os, h.2.1.tape, h.2.1.output, h.2.1.size, h.2.1.block⟩, h.2.2⟩
/-- one thing more, behind the append -/
theorem GathG.snoc {v' : Value} {a : α} {o : Obj} (h : GathG E c k B w0 v L wr) (hown : w1.ownsRow B E k v' (L.length + 1) (rowG c L ++ c a)) (hgr : (wr.alloc o).grownBy w1 v.ownBlock) : GathG E c k B w0 v' (L ++ [a]) w1 := by
  obtain ⟨h1, h2, h3⟩ := h
  refine ⟨by rw [List.length_append, rowG_app, rowG_one]; exact hown, (h2.alloc h3 _).grown hgr (by simp; omega) ?_, ?_⟩
  · intro k hk
    rcases h1.2 with ⟨rfl, _⟩ | ⟨g, cap, cur, rfl, hg, _⟩
    · cases hk
    · cases hk; exact hg
  · have := hgr.size; simp at this; omega
theorem GathG.slice (hk : ∀ a, (c a).length = k) (hk0 : 0 < k) (h : GathG E c k B w0 v L wr) (hm : L.length ≤ maxLen) : SlG c k wr wr.heap.size v L := by
  obtain ⟨h1, _, _⟩ := h
  rcases h1.2 with ⟨rfl, hn⟩ | ⟨g, cap, cur, rfl, hbg, hg, rest⟩
  · have : L = [] := by
      cases L with
      | nil => rfl
      | cons a L =>
        have := rowG_length hk (a :: L)
        have h2 := h1.1
        simp at hn
    subst this
    exact SlG.nil _ _ _ _
  · refine ⟨some ⟨g, 0, none⟩, cap, rfl, hm, fun i a ha => ⟨_, rfl, (Array.getElem?_eq_some_iff.1 hg).1, fun j u hu => ?_⟩⟩
    exact h1.cells (g := g) rfl _ _ (rowG_get hk L i a ha j u hu)

/-! ### a builder of the call's own -/
theorem builder_below {T e : TypeId} {b : Nat} {bs : List Value} (h : Lib.IsBuilder T e B b bs w) (hb : Below w.heap.size w w') : Lib.IsBuilder T e B b bs w' := by
  have one : ∀ p, Lib.BuilderAt T e B b p bs w → Lib.BuilderAt T e B b p bs w' := by
    rintro p ⟨h1, v, h2, h3, h4⟩
    exact ⟨h1, v, (hb.block b (Array.getElem?_eq_some_iff.1 h2).1).trans h2, ownG_below h3 hb, h4⟩
  rcases h with h | h
  · exact .inl (one _ h)
  · exact .inr (one _ h)
theorem byteCells_str (l : List UInt8) (s : ByteArray) : Lib.byteCells l ++ Lib.strCells s = Lib.byteCells (l ++ s.data.toList) := by
  unfold Lib.byteCells Lib.strCells
  rw [List.map_append]
end

end Go.Proofs.YtiibaldnpaopjaaDoor

namespace Go.Proofs.YtiibaldnpaopjaaDoor
open Go.RowKit
set_option linter.unusedVariables false

def strC (s : ByteArray) : List Value := [.string s]
def intC (n : Int) : List Value := [.int .i64 n]
theorem strC_len (s : ByteArray) : (strC s).length = 1 := rfl
theorem intC_len (n : Int) : (intC n).length = 1 := rfl
abbrev SlS (w : World) (v : Value) (L : List ByteArray) : Prop := SlG strC 1 w w.heap.size v L
abbrev SlI (w : World) (v : Value) (L : List Int) : Prop := SlG intC 1 w w.heap.size v L
abbrev GathI (B : Nat) (w0 : World) (v : Value) (L : List Int) (wr : World) : Prop := GathG 3 intC 1 B w0 v L wr
abbrev GathS (B : Nat) (w0 : World) (v : Value) (L : List ByteArray) (wr : World) : Prop := GathG 9 strC 1 B w0 v L wr
theorem SlG.at1 {α : Type} {c : α → List Value} {w : World} {B : Nat} {v : Value} {L : List α} (h : SlG c 1 w B v L) {k : Nat} (hk : k < L.length) {u : Value} (hu : c (L[k]'hk) = [u]) :
    ∃ x cap, v = .slice (some x) L.length cap ∧ x.block < B ∧ w.cell? (x.add k) = some u := by
  obtain ⟨x, cap, hv, hb, hc⟩ := h.at_ hk
  have := hc 0 u (by rw [hu]; rfl)
  rw [addr_add, Nat.mul_one, Nat.add_zero] at this
  exact ⟨x, cap, hv, hb, this⟩
theorem take_snoc {α : Type} {L : List α} {k : Nat} (h : k < L.length) : L.take (k + 1) = L.take k ++ [L[k]] := List.take_succ_eq_append_getElem h
theorem one_cell (w : World) (u : Value) (t : TypeId) : ∀ j x, [u][j]? = some x → (w.alloc (.cells #[u] t)).cell? ((⟨w.heap.size, 0, none⟩ : Addr).add j) = some x := by
  intro j x hj
  match j, hj with
  | 0, hj => simp at hj; subst hj; simp [Addr.add]

theorem info_int : (Tryd.prog.info? 3).map (fun i => (i.zero, i.size, i.bytes)) = some (some (.int .i64 0), 1, 8) := by kernel_rfl
theorem wpList_rowI {ops : Array Oper} {rest : List Oper} {o : Oper} {a : Act} {Q : Exit → Act → World → Prop} {W : World} (hgd : o.guard = none) (s x : Operand)
    (ho : o.op = .call { callee := .builtin .append, args := #[s, x], argTypes := #[30, 30] }) {B : Nat} {v : Value} {L : List Int} (hs : a.eval s = v) (hg : W.ownsRow B 3 1 v L.length (rowG intC L)) (hB : B ≤ W.heap.size)
    (g c : Nat) (e : Int) (hx : a.eval x = .slice (some ⟨g, 0, none⟩) 1 c) (hn : ∀ j u, (intC e)[j]? = some u → W.cell? ((⟨g, 0, none⟩ : Addr).add j) = some u) (hsz : L.length ≤ 1000000)
    (h : ∀ v' w', w'.ownsRow B 3 1 v' (L ++ [e]).length (rowG intC (L ++ [e])) → Below B W w' → wpList Tryd.prog ops Q rest (a.put o.dst v') w') : wpList Tryd.prog ops Q (o :: rest) a W := by
  obtain ⟨i0, hi, hz0, hz1, hz2⟩ := info_parts info_int
  refine wpList_append_own _ hgd s x 30 ho B 3 i0 _ 1 8 Tryd.underlying30 hi hz0 hz1 hz2 rfl (by decide) v L.length (rowG intC L) hs hg ⟨g, 0, none⟩ 1 c (intC e) hx rfl hn (fun u hu => ?_) ?_ ?_ hB ?_
  · simp only [intC, List.mem_cons, List.not_mem_nil, or_false] at hu
    subst hu; rfl
  · unfold maxLen; omega
  · omega
  · intro v' w' hown hgr _
    refine h v' w' ?_ ((Below.refl _ _).grown hgr hB ?_)
    · rw [List.length_append, rowG_app, rowG_one]; exact hown
    · intro k hk
      rcases hg.2 with ⟨rfl, _⟩ | ⟨g, cap, cur, rfl, hgg, _⟩
      · cases hk
      · cases hk; exact hgg
theorem info_str : (Tryd.prog.info? 9).map (fun i => (i.zero, i.size, i.bytes)) = some (some (.string (ByteArray.mk #[])), 1, 16) := by kernel_rfl
theorem wpList_rowS {ops : Array Oper} {rest : List Oper} {o : Oper} {a : Act} {Q : Exit → Act → World → Prop} {W : World} (hgd : o.guard = none) (s x : Operand)
    (ho : o.op = .call { callee := .builtin .append, args := #[s, x], argTypes := #[24, 24] }) {B : Nat} {v : Value} {L : List ByteArray} (hs : a.eval s = v) (hg : W.ownsRow B 9 1 v L.length (rowG strC L)) (hB : B ≤ W.heap.size)
    (g c : Nat) (e : ByteArray) (hx : a.eval x = .slice (some ⟨g, 0, none⟩) 1 c) (hn : ∀ j u, (strC e)[j]? = some u → W.cell? ((⟨g, 0, none⟩ : Addr).add j) = some u) (hsz : L.length ≤ 1000000)
    (h : ∀ v' w', w'.ownsRow B 9 1 v' (L ++ [e]).length (rowG strC (L ++ [e])) → Below B W w' → wpList Tryd.prog ops Q rest (a.put o.dst v') w') : wpList Tryd.prog ops Q (o :: rest) a W := by
  obtain ⟨i0, hi, hz0, hz1, hz2⟩ := info_parts info_str
  refine wpList_append_own _ hgd s x 24 ho B 9 i0 _ 1 16 Tryd.underlying24 hi hz0 hz1 hz2 rfl (by decide) v L.length (rowG strC L) hs hg ⟨g, 0, none⟩ 1 c (strC e) hx rfl hn (fun u hu => ?_) ?_ ?_ hB ?_
  · simp only [strC, List.mem_cons, List.not_mem_nil, or_false] at hu
    subst hu; rfl
  · unfold maxLen; omega
  · omega
  · intro v' w' hown hgr _
    refine h v' w' ?_ ((Below.refl _ _).grown hgr hB ?_)
    · rw [List.length_append, rowG_app, rowG_one]; exact hown
    · intro k hk
      rcases hg.2 with ⟨rfl, _⟩ | ⟨g, cap, cur, rfl, hgg, _⟩
      · cases hk
      · cases hk; exact hgg
theorem GathG.slI {B : Nat} {w0 wr : World} {v : Value} {L : List Int} (h : GathI B w0 v L wr) (hm : L.length ≤ 1000000) : SlI wr v L := GathG.slice intC_len (by decide) h (by unfold maxLen; omega)
theorem GathG.slS {B : Nat} {w0 wr : World} {v : Value} {L : List ByteArray} (h : GathS B w0 v L wr) (hm : L.length ≤ 1000000) : SlS wr v L := GathG.slice strC_len (by decide) h (by unfold maxLen; omega)
def strOf : List Value → ByteArray
  | [.string s] => s
  | _ => ByteArray.mk #[]
theorem strOf_c (l : List Value) (h : FitsAll [.str] l) : strC (strOf l) = l := by
  obtain ⟨v0, l0, rfl, ⟨a0, rfl, _⟩, h0⟩ := FitsAll.cons h
  obtain rfl := FitsAll.nil h0
  rfl
def numOf : List Value → Int | [.int _ q] => q | _ => 0
theorem numOf_c (l : List Value) (h : FitsAll [.int .i64] l) : intC (numOf l) = l := by
  obtain ⟨v0, l0, rfl, ⟨a0, rfl, _⟩, h0⟩ := FitsAll.cons h
  obtain rfl := FitsAll.nil h0
  rfl
end Go.Proofs.YtiibaldnpaopjaaDoor

namespace Go.Proofs.YtiibaldnpaopjaaDoor
open Go.RowKit
set_option linter.unusedVariables false

structure Cf where
  t : Int
  r : Int
  o : Bool
  d : Int
def Cf.ok (c : Cf) : Bool := decide (0 ≤ c.t) && decide (c.t ≤ 263) && decide (0 ≤ c.r) && decide (c.r ≤ 135) && decide (0 ≤ c.d) && (if c.o then decide (255 < c.t) else decide (c.t ≤ 255) && decide (c.d = 0))
def Cf.state (c : Cf) : Int := if c.ok then (if c.o then 3 else if 127 < c.t ∨ 127 < c.r then 2 else if 95 < c.t ∨ 95 < c.r then 1 else 0) else -1
abbrev cfV (c : Cf) : Value := .agg #[.int .i64 c.t, .int .i64 c.r, .bool c.o, .int .i64 c.d]

set_option maxHeartbeats 2000000 in
theorem cfright_v {t r d : Int} {o q : Bool} (h : Cf.ok ⟨t, r, o, d⟩ = q) (w : World) :
    Calls Tryd.prog 8 #[.agg #[.int .i64 t, .int .i64 r, .bool o, .int .i64 d]] w fun e w' => e = .returned (.bool q) ∧ Below w.heap.size w w' := by
  have H := Lib.hid h
  clear h
  cases o
  all_goals (
    go_enter Tryd.func8, Tryd.ntmps8
    go_wp2
    all_goals (
      go_ret
      refine ⟨fret_bool ?_, (Below.refl _ _).alloc (Nat.le_refl _) _⟩
      rw [← H.out, Bool.eq_iff_iff]
      unfold Cf.ok
      simp <;> omega))

set_option maxHeartbeats 2000000 in
theorem cfstate_v {t r d v : Int} {o : Bool} (h : Cf.state ⟨t, r, o, d⟩ = v) (w : World) :
    Calls Tryd.prog 10 #[.agg #[.int .i64 t, .int .i64 r, .bool o, .int .i64 d]] w fun e w' => e = .returned (.int .i64 v) ∧ Below w.heap.size w w' := by
  have H := Lib.hid h
  obtain ⟨q, hq⟩ : ∃ q, Cf.ok ⟨t, r, o, d⟩ = q := ⟨_, rfl⟩
  have HQ := Lib.hid hq
  clear h hq
  cases q
  · have HV : Hid (-1 = v) := Lib.hid (by rw [← H.out]; unfold Cf.state; rw [HQ.out]; rfl)
    go_enter Tryd.func10, Tryd.ntmps10
    go_wp2_with fail
    refine (cfright_v HQ.out _).mono ?_
    rintro e w1 ⟨rfl, hb1⟩
    go_wp2
    go_ret
    exact ⟨fret_int HV.out, fbelow_a _ hb1⟩
  · have HV : Hid ((if o = true then 3 else if 127 < t ∨ 127 < r then 2 else if 95 < t ∨ 95 < r then 1 else 0) = v) := Lib.hid (by rw [← H.out]; unfold Cf.state; rw [HQ.out]; rfl)
    clear H
    cases o
    all_goals (
      go_enter Tryd.func10, Tryd.ntmps10
      go_wp2_with fail
      refine (cfright_v HQ.out _).mono ?_
      rintro e w1 ⟨rfl, hb1⟩
      have HB := Lib.hid (fbelow_a _ hb1)
      obtain ⟨hc, hf⟩ := fbcell hb1
      have hz : w.heap.size < w1.heap.size := by have := hb1.size; simp only [World.size_alloc] at this; omega
      clear hb1
      go_wp2
      all_goals (
        go_ret
        refine ⟨fret_int ?_, HB.out⟩
        have hv := HV.out
        rw [← hv]
        simp
        try omega))
end Go.Proofs.YtiibaldnpaopjaaDoor

namespace Go.Proofs.YtiibaldnpaopjaaDoor
open Go.RowKit
set_option linter.unusedVariables false

def Cf.sent (c : Cf) : Cf := if 0 < c.t then ⟨c.t - 1, c.r, c.o, c.d⟩ else c
def Cf.heard (c : Cf) : Cf := if 127 < c.r then ⟨c.t, 119, c.o, c.d⟩ else if 0 < c.r then ⟨c.t, c.r - 1, c.o, c.d⟩ else c
def Cf.failed (c : Cf) : Cf := ⟨c.t + 8, c.r, c.o || decide (255 < c.t + 8), c.d⟩
def Cf.missed (c : Cf) : Cf := ⟨c.t, min (if c.state = 2 then c.r + 1 else c.r + 8) 135, c.o, c.d⟩
def Cf.idle (c : Cf) (back : Int) : Cf := if (if back < 1 then 1 else back) - 1 ≤ c.d then ⟨0, 0, false, 0⟩ else ⟨c.t, c.r, c.o, c.d + 1⟩
/-- what is known of a node behind whatever happens -/
def Cf.do_ (c : Cf) (what back : Int) : Cf :=
  if c.ok = false then c else if c.o then (if what = 4 then c.idle back else c)
  else if what = 0 then c.sent else if what = 1 then c.heard else if what = 2 then c.failed else if what = 3 then c.missed else c

theorem cfV_eq {a b c : Int} {o : Bool} {x : Cf} (h : (⟨a, b, o, c⟩ : Cf) = x) : Ending.returned (.agg #[.int .i64 a, .int .i64 b, .bool o, .int .i64 c]) = .returned (cfV x) := by subst h; rfl
theorem cf_done {w w1 : World} (h : Below w.heap.size w w1) (a b c e : Value) : Below w.heap.size w ((((w1.setCell ⟨w.heap.size + 1, 0, none⟩ a).setCell ⟨w.heap.size + 1, 1, none⟩ b).setCell ⟨w.heap.size + 1, 2, none⟩ c).setCell ⟨w.heap.size + 1, 3, none⟩ e) :=
  ((((h.setCell (p := ⟨w.heap.size + 1, 0, none⟩) (Nat.le_succ _) _).setCell (p := ⟨w.heap.size + 1, 1, none⟩) (Nat.le_succ _) _).setCell (p := ⟨w.heap.size + 1, 2, none⟩) (Nat.le_succ _) _).setCell (p := ⟨w.heap.size + 1, 3, none⟩) (Nat.le_succ _) _)

def BoxC (w : World) (b : Nat) (t r : Int) (o : Bool) (d : Int) : Prop := w.heap[b]? = some (.cells #[.int .i64 t, .int .i64 r, .bool o, .int .i64 d] 23 (0, 0))
theorem BoxC.lt {w : World} {b : Nat} {t r d : Int} {o : Bool} (h : BoxC w b t r o d) : b < w.heap.size := (Array.getElem?_eq_some_iff.1 h).1
theorem BoxC.made (w : World) (t r : Int) (o : Bool) (d : Int) : BoxC (w.alloc (.cells #[.int .i64 t, .int .i64 r, .bool o, .int .i64 d] 23)) w.heap.size t r o d := by unfold BoxC World.alloc; simp
theorem BoxC.later {w w' : World} {b : Nat} {t r d : Int} {o : Bool} (h : BoxC w b t r o d) (hb : Below w.heap.size w w') : BoxC w' b t r o d := (hb.block b h.lt).trans h
theorem BoxC.cells {w : World} {b : Nat} {t r d : Int} {o : Bool} (h : BoxC w b t r o d) : w.cell? ⟨b, 0, none⟩ = some (.int .i64 t) ∧ w.cell? ⟨b, 1, none⟩ = some (.int .i64 r) ∧ w.cell? ⟨b, 2, none⟩ = some (.bool o) ∧ w.cell? ⟨b, 3, none⟩ = some (.int .i64 d) := by
  unfold BoxC at h
  refine ⟨?_, ?_, ?_, ?_⟩ <;> (rw [Lib.cell_of_heap h]; rfl)
theorem BoxC.live {w : World} {b : Nat} {t r d : Int} {o : Bool} (h : BoxC w b t r o d) : w.frozen? ⟨b, 0, none⟩ = false ∧ w.frozen? ⟨b, 1, none⟩ = false ∧ w.frozen? ⟨b, 2, none⟩ = false ∧ w.frozen? ⟨b, 3, none⟩ = false := by
  unfold BoxC at h
  exact ⟨Lib.frozen_of_heap h 0, Lib.frozen_of_heap h 1, Lib.frozen_of_heap h 2, Lib.frozen_of_heap h 3⟩
theorem BoxC.two (w : World) (t r : Int) (o : Bool) (d : Int) {w1 : World} (hb : Below ((w.alloc (.cells #[.int .i64 t, .int .i64 r, .bool o, .int .i64 d] 23)).alloc (.cells #[.int .i64 0, .int .i64 0, .bool false, .int .i64 0] 23)).heap.size ((w.alloc (.cells #[.int .i64 t, .int .i64 r, .bool o, .int .i64 d] 23)).alloc (.cells #[.int .i64 0, .int .i64 0, .bool false, .int .i64 0] 23)) w1) :
    BoxC w1 w.heap.size t r o d ∧ BoxC w1 (w.heap.size + 1) 0 0 false 0 ∧ Below w.heap.size w w1 := by
  have h1 := (BoxC.made w t r o d).later ((Below.refl _ _).alloc (Nat.le_refl _) (.cells #[.int .i64 0, .int .i64 0, .bool false, .int .i64 0] 23))
  have h2 := BoxC.made (w.alloc (.cells #[.int .i64 t, .int .i64 r, .bool o, .int .i64 d] 23)) 0 0 false 0
  rw [World.size_alloc] at h2
  exact ⟨h1.later hb, h2.later hb, fbelow_a _ (fbelow_a _ hb)⟩

set_option maxHeartbeats 4000000 in
theorem cfdo_v {t r d what back : Int} {o : Bool} (hb1 : -9223372036854775808 ≤ back) (hb2 : back ≤ 9223372036854775807) (w : World) :
    Calls Tryd.prog 14 #[.agg #[.int .i64 t, .int .i64 r, .bool o, .int .i64 d], .int .i64 what, .int .i64 back] w fun e w' => e = .returned (cfV (Cf.do_ ⟨t, r, o, d⟩ what back)) ∧ Below w.heap.size w w' := by
  obtain ⟨x, hx⟩ : ∃ x, Cf.do_ ⟨t, r, o, d⟩ what back = x := ⟨_, rfl⟩
  have HX := Lib.hid hx
  rw [hx]
  obtain ⟨q, hq⟩ : ∃ q, Cf.ok ⟨t, r, o, d⟩ = q := ⟨_, rfl⟩
  have HQ := Lib.hid hq
  clear hx
  cases q
  · clear hq
    go_enter Tryd.func14, Tryd.ntmps14
    go_wp2_with fail
    refine (cfright_v HQ.out _).mono ?_
    rintro e w1 ⟨rfl, hb⟩
    have HB := Lib.hid (BoxC.two w t r o d hb)
    clear hb
    obtain ⟨a0, a1, a2, a3⟩ := HB.out.1.cells
    obtain ⟨r0, r1, r2, r3⟩ := HB.out.2.1.cells
    obtain ⟨f0, f1, f2, f3⟩ := HB.out.1.live
    obtain ⟨g0, g1, g2, g3⟩ := HB.out.2.1.live
    have hz : w.heap.size < w1.heap.size := HB.out.1.lt
    have hy : w.heap.size + 1 < w1.heap.size := HB.out.2.1.lt
    go_wp2
    refine bodyPost_ret (v := _) (by simp [results, Tryd.results14, go_sem, r0, r1, r2, r3]; exact ⟨rfl, rfl, rfl, rfl⟩) rfl ⟨cfV_eq ?_, ?_⟩
    · have hx := HX.out
      rw [← hx]
      unfold Cf.do_
      rw [if_pos HQ.out]
    · exact cf_done HB.out.2.2 _ _ _ _
  have hbd : 0 ≤ t ∧ t ≤ 263 ∧ 0 ≤ r ∧ r ≤ 135 ∧ 0 ≤ d := by
    unfold Cf.ok at hq
    simp only [Bool.and_eq_true, decide_eq_true_eq] at hq
    omega
  obtain ⟨t0, t1, q0, q1, d0⟩ := hbd
  cases o
  · by_cases h0 : what = 0
    · subst h0
      go_enter Tryd.func14, Tryd.ntmps14
      go_wp2_with fail
      refine (cfright_v HQ.out _).mono ?_
      rintro e w1 ⟨rfl, hb⟩
      have HB := Lib.hid (BoxC.two w t r false d hb)
      clear hb
      obtain ⟨a0, a1, a2, a3⟩ := HB.out.1.cells
      obtain ⟨r0, r1, r2, r3⟩ := HB.out.2.1.cells
      obtain ⟨f0, f1, f2, f3⟩ := HB.out.1.live
      obtain ⟨g0, g1, g2, g3⟩ := HB.out.2.1.live
      have hz : w.heap.size < w1.heap.size := HB.out.1.lt
      have hy : w.heap.size + 1 < w1.heap.size := HB.out.2.1.lt
      go_wp2
      all_goals (
        refine bodyPost_ret (v := _) (by simp [results, Tryd.results14, go_sem, r0, r1, r2, r3]; exact ⟨rfl, rfl, rfl, rfl⟩) rfl ⟨cfV_eq ?_, ?_⟩
        · have hx := HX.out
          rw [← hx]
          unfold Cf.do_
          rw [if_neg (by rw [HQ.out]; decide)]
          simp [Cf.idle, Cf.sent, Cf.heard, Cf.failed, Cf.missed]
          try first
          | omega
          | (intros; omega)
          | (split <;> simp <;> omega)
          | (split <;> omega)
          | (refine ⟨?_, ?_⟩ <;> intros <;> omega)
        · exact cf_done (by first | exact HB.out.2.2 | exact HB.out.2.2.setCell (p := ⟨w.heap.size, _, none⟩) (Nat.le_refl _) _ | exact (HB.out.2.2.setCell (p := ⟨w.heap.size, _, none⟩) (Nat.le_refl _) _).setCell (p := ⟨w.heap.size, _, none⟩) (Nat.le_refl _) _) _ _ _ _)
    by_cases h1 : what = 1
    · subst h1
      go_enter Tryd.func14, Tryd.ntmps14
      go_wp2_with fail
      refine (cfright_v HQ.out _).mono ?_
      rintro e w1 ⟨rfl, hb⟩
      have HB := Lib.hid (BoxC.two w t r false d hb)
      clear hb
      obtain ⟨a0, a1, a2, a3⟩ := HB.out.1.cells
      obtain ⟨r0, r1, r2, r3⟩ := HB.out.2.1.cells
      obtain ⟨f0, f1, f2, f3⟩ := HB.out.1.live
      obtain ⟨g0, g1, g2, g3⟩ := HB.out.2.1.live
      have hz : w.heap.size < w1.heap.size := HB.out.1.lt
      have hy : w.heap.size + 1 < w1.heap.size := HB.out.2.1.lt
      go_wp2
      all_goals (
        refine bodyPost_ret (v := _) (by simp [results, Tryd.results14, go_sem, r0, r1, r2, r3]; exact ⟨rfl, rfl, rfl, rfl⟩) rfl ⟨cfV_eq ?_, ?_⟩
        · have hx := HX.out
          rw [← hx]
          unfold Cf.do_
          rw [if_neg (by rw [HQ.out]; decide)]
          simp [Cf.idle, Cf.sent, Cf.heard, Cf.failed, Cf.missed]
          try first
          | omega
          | (intros; omega)
          | (split <;> simp <;> omega)
          | (split <;> omega)
          | (refine ⟨?_, ?_⟩ <;> intros <;> omega)
        · exact cf_done (by first | exact HB.out.2.2 | exact HB.out.2.2.setCell (p := ⟨w.heap.size, _, none⟩) (Nat.le_refl _) _ | exact (HB.out.2.2.setCell (p := ⟨w.heap.size, _, none⟩) (Nat.le_refl _) _).setCell (p := ⟨w.heap.size, _, none⟩) (Nat.le_refl _) _) _ _ _ _)
    by_cases h2 : what = 2
    · subst h2
      go_enter Tryd.func14, Tryd.ntmps14
      go_wp2_with fail
      refine (cfright_v HQ.out _).mono ?_
      rintro e w1 ⟨rfl, hb⟩
      have HB := Lib.hid (BoxC.two w t r false d hb)
      clear hb
      obtain ⟨a0, a1, a2, a3⟩ := HB.out.1.cells
      obtain ⟨r0, r1, r2, r3⟩ := HB.out.2.1.cells
      obtain ⟨f0, f1, f2, f3⟩ := HB.out.1.live
      obtain ⟨g0, g1, g2, g3⟩ := HB.out.2.1.live
      have hz : w.heap.size < w1.heap.size := HB.out.1.lt
      have hy : w.heap.size + 1 < w1.heap.size := HB.out.2.1.lt
      go_wp2
      all_goals (
        refine bodyPost_ret (v := _) (by simp [results, Tryd.results14, go_sem, r0, r1, r2, r3]; exact ⟨rfl, rfl, rfl, rfl⟩) rfl ⟨cfV_eq ?_, ?_⟩
        · have hx := HX.out
          rw [← hx]
          unfold Cf.do_
          rw [if_neg (by rw [HQ.out]; decide)]
          simp [Cf.idle, Cf.sent, Cf.heard, Cf.failed, Cf.missed]
          try first
          | omega
          | (intros; omega)
          | (split <;> simp <;> omega)
          | (split <;> omega)
          | (refine ⟨?_, ?_⟩ <;> intros <;> omega)
        · exact cf_done (by first | exact HB.out.2.2 | exact HB.out.2.2.setCell (p := ⟨w.heap.size, _, none⟩) (Nat.le_refl _) _ | exact (HB.out.2.2.setCell (p := ⟨w.heap.size, _, none⟩) (Nat.le_refl _) _).setCell (p := ⟨w.heap.size, _, none⟩) (Nat.le_refl _) _) _ _ _ _)
    by_cases h3 : what = 3
    · subst h3
      obtain ⟨v, hv⟩ : ∃ v, Cf.state ⟨t, r, false, d⟩ = v := ⟨_, rfl⟩
      have HV := Lib.hid hv
      clear hv
      go_enter Tryd.func14, Tryd.ntmps14
      go_wp2_with fail
      refine (cfright_v HQ.out _).mono ?_
      rintro e w1 ⟨rfl, hb⟩
      have HB := Lib.hid (BoxC.two w t r false d hb)
      clear hb
      obtain ⟨a0, a1, a2, a3⟩ := HB.out.1.cells
      obtain ⟨r0, r1, r2, r3⟩ := HB.out.2.1.cells
      obtain ⟨f0, f1, f2, f3⟩ := HB.out.1.live
      obtain ⟨g0, g1, g2, g3⟩ := HB.out.2.1.live
      have hz : w.heap.size < w1.heap.size := HB.out.1.lt
      have hy : w.heap.size + 1 < w1.heap.size := HB.out.2.1.lt
      go_wp2_with fail
      refine (cfstate_v HV.out _).mono ?_
      rintro e w2 ⟨rfl, hb⟩
      have HB2 : Hid (BoxC w2 w.heap.size t r false d ∧ BoxC w2 (w.heap.size + 1) 0 0 false 0 ∧ Below w.heap.size w w2) := Lib.hid ⟨HB.out.1.later hb, HB.out.2.1.later hb, fbelow_t HB.out.2.2 hb⟩
      clear hb a0 a1 a2 a3 r0 r1 r2 r3 f0 f1 f2 f3 g0 g1 g2 g3 hz hy
      obtain ⟨a0, a1, a2, a3⟩ := HB2.out.1.cells
      obtain ⟨r0, r1, r2, r3⟩ := HB2.out.2.1.cells
      obtain ⟨f0, f1, f2, f3⟩ := HB2.out.1.live
      obtain ⟨g0, g1, g2, g3⟩ := HB2.out.2.1.live
      have hz : w.heap.size < w2.heap.size := HB2.out.1.lt
      have hy : w.heap.size + 1 < w2.heap.size := HB2.out.2.1.lt
      by_cases hv2 : v = 2
      · subst hv2
        go_wp2
        all_goals (
          refine bodyPost_ret (v := _) (by simp [results, Tryd.results14, go_sem, r0, r1, r2, r3]; exact ⟨rfl, rfl, rfl, rfl⟩) rfl ⟨cfV_eq ?_, ?_⟩
          · have hx := HX.out
            rw [← hx]
            unfold Cf.do_
            rw [if_neg (by rw [HQ.out]; decide)]
            simp [HV.out, Cf.idle, Cf.sent, Cf.heard, Cf.failed, Cf.missed]
            try first
            | omega
            | (intros; omega)
            | (split <;> simp <;> omega)
            | (split <;> omega)
            | (refine ⟨?_, ?_⟩ <;> intros <;> omega)
          · exact cf_done (by first | exact HB2.out.2.2 | exact HB2.out.2.2.setCell (p := ⟨w.heap.size, _, none⟩) (Nat.le_refl _) _ | exact (HB2.out.2.2.setCell (p := ⟨w.heap.size, _, none⟩) (Nat.le_refl _) _).setCell (p := ⟨w.heap.size, _, none⟩) (Nat.le_refl _) _) _ _ _ _)
      · go_wp2
        all_goals (
          refine bodyPost_ret (v := _) (by simp [results, Tryd.results14, go_sem, r0, r1, r2, r3]; exact ⟨rfl, rfl, rfl, rfl⟩) rfl ⟨cfV_eq ?_, ?_⟩
          · have hx := HX.out
            rw [← hx]
            unfold Cf.do_
            rw [if_neg (by rw [HQ.out]; decide)]
            simp [HV.out, hv2, Cf.idle, Cf.sent, Cf.heard, Cf.failed, Cf.missed]
            try first
            | omega
            | (intros; omega)
            | (split <;> simp <;> omega)
            | (split <;> omega)
            | (refine ⟨?_, ?_⟩ <;> intros <;> omega)
          · exact cf_done (by first | exact HB2.out.2.2 | exact HB2.out.2.2.setCell (p := ⟨w.heap.size, _, none⟩) (Nat.le_refl _) _ | exact (HB2.out.2.2.setCell (p := ⟨w.heap.size, _, none⟩) (Nat.le_refl _) _).setCell (p := ⟨w.heap.size, _, none⟩) (Nat.le_refl _) _) _ _ _ _)
    go_enter Tryd.func14, Tryd.ntmps14
    go_wp2_with fail
    refine (cfright_v HQ.out _).mono ?_
    rintro e w1 ⟨rfl, hb⟩
    have HB := Lib.hid (BoxC.two w t r false d hb)
    clear hb
    obtain ⟨a0, a1, a2, a3⟩ := HB.out.1.cells
    obtain ⟨r0, r1, r2, r3⟩ := HB.out.2.1.cells
    obtain ⟨f0, f1, f2, f3⟩ := HB.out.1.live
    obtain ⟨g0, g1, g2, g3⟩ := HB.out.2.1.live
    have hz : w.heap.size < w1.heap.size := HB.out.1.lt
    have hy : w.heap.size + 1 < w1.heap.size := HB.out.2.1.lt
    go_wp2
    all_goals (
      refine bodyPost_ret (v := _) (by simp [results, Tryd.results14, go_sem, r0, r1, r2, r3]; exact ⟨rfl, rfl, rfl, rfl⟩) rfl ⟨cfV_eq ?_, ?_⟩
      · have hx := HX.out
        rw [← hx]
        unfold Cf.do_
        rw [if_neg (by rw [HQ.out]; decide)]
        simp [h0, h1, h2, h3, Cf.idle, Cf.sent, Cf.heard, Cf.failed, Cf.missed]
        try first
        | omega
        | (intros; omega)
        | (split <;> simp <;> omega)
        | (split <;> omega)
        | (refine ⟨?_, ?_⟩ <;> intros <;> omega)
      · exact cf_done (by first | exact HB.out.2.2 | exact HB.out.2.2.setCell (p := ⟨w.heap.size, _, none⟩) (Nat.le_refl _) _ | exact (HB.out.2.2.setCell (p := ⟨w.heap.size, _, none⟩) (Nat.le_refl _) _).setCell (p := ⟨w.heap.size, _, none⟩) (Nat.le_refl _) _) _ _ _ _)
  · by_cases h4 : what = 4
    · subst h4
      go_enter Tryd.func14, Tryd.ntmps14
      go_wp2_with fail
      refine (cfright_v HQ.out _).mono ?_
      rintro e w1 ⟨rfl, hb⟩
      have HB := Lib.hid (BoxC.two w t r true d hb)
      clear hb
      obtain ⟨a0, a1, a2, a3⟩ := HB.out.1.cells
      obtain ⟨r0, r1, r2, r3⟩ := HB.out.2.1.cells
      obtain ⟨f0, f1, f2, f3⟩ := HB.out.1.live
      obtain ⟨g0, g1, g2, g3⟩ := HB.out.2.1.live
      have hz : w.heap.size < w1.heap.size := HB.out.1.lt
      have hy : w.heap.size + 1 < w1.heap.size := HB.out.2.1.lt
      go_wp2
      all_goals (
        refine bodyPost_ret (v := _) (by simp [results, Tryd.results14, go_sem, r0, r1, r2, r3]; exact ⟨rfl, rfl, rfl, rfl⟩) rfl ⟨cfV_eq ?_, ?_⟩
        · have hx := HX.out
          rw [← hx]
          unfold Cf.do_
          rw [if_neg (by rw [HQ.out]; decide)]
          simp [Cf.idle, Cf.sent, Cf.heard, Cf.failed, Cf.missed]
          try first
          | omega
          | (intros; omega)
          | (split <;> simp <;> omega)
          | (split <;> omega)
          | (refine ⟨?_, ?_⟩ <;> intros <;> omega)
        · exact cf_done (by first | exact HB.out.2.2 | exact HB.out.2.2.setCell (p := ⟨w.heap.size, _, none⟩) (Nat.le_refl _) _ | exact (HB.out.2.2.setCell (p := ⟨w.heap.size, _, none⟩) (Nat.le_refl _) _).setCell (p := ⟨w.heap.size, _, none⟩) (Nat.le_refl _) _) _ _ _ _)
    go_enter Tryd.func14, Tryd.ntmps14
    go_wp2_with fail
    refine (cfright_v HQ.out _).mono ?_
    rintro e w1 ⟨rfl, hb⟩
    have HB := Lib.hid (BoxC.two w t r true d hb)
    clear hb
    obtain ⟨a0, a1, a2, a3⟩ := HB.out.1.cells
    obtain ⟨r0, r1, r2, r3⟩ := HB.out.2.1.cells
    obtain ⟨f0, f1, f2, f3⟩ := HB.out.1.live
    obtain ⟨g0, g1, g2, g3⟩ := HB.out.2.1.live
    have hz : w.heap.size < w1.heap.size := HB.out.1.lt
    have hy : w.heap.size + 1 < w1.heap.size := HB.out.2.1.lt
    go_wp2
    all_goals (
      refine bodyPost_ret (v := _) (by simp [results, Tryd.results14, go_sem, r0, r1, r2, r3]; exact ⟨rfl, rfl, rfl, rfl⟩) rfl ⟨cfV_eq ?_, ?_⟩
      · have hx := HX.out
        rw [← hx]
        unfold Cf.do_
        rw [if_neg (by rw [HQ.out]; decide)]
        simp [h4, Cf.idle, Cf.sent, Cf.heard, Cf.failed, Cf.missed]
        try first
        | omega
        | (intros; omega)
        | (split <;> simp <;> omega)
        | (split <;> omega)
        | (refine ⟨?_, ?_⟩ <;> intros <;> omega)
      · exact cf_done (by first | exact HB.out.2.2 | exact HB.out.2.2.setCell (p := ⟨w.heap.size, _, none⟩) (Nat.le_refl _) _ | exact (HB.out.2.2.setCell (p := ⟨w.heap.size, _, none⟩) (Nat.le_refl _) _).setCell (p := ⟨w.heap.size, _, none⟩) (Nat.le_refl _) _) _ _ _ _)
end Go.Proofs.YtiibaldnpaopjaaDoor
