/- Of no program: lists in memory: a slice that reads as a list of things of k cells each (whoever made it); a row of the call's own that gathers such; a strings.Builder of the call's own behind callees that make new memory. Of no program: a row of bytes that the call gathers by append; a slice of bytes that it reads; '[]byte(s)'. Stuff: the plain lists of bits: what is put in, taken out, the longest run, turned bits. No program is meant here. Stuff: slices of bytes; contracts of the document's Right, other, tail. Stuff: contracts of the document's Turn, Stuff, Run, Unstuff. -/
import Derived.Test.YtfooigckcjbegaaDoorZaa
import Derived.Deep.AppendLies
import Derived.Maps.AppendAt
import Derived.OwnWalk
import Derived.Below
import Derived.Lib.OthersKept
import Derived.Deep.Draws
import Derived.Test.YtfooigckcjbegaaDoorZad
import Derived.Test.YtfooigckcjbegaaDoorZab
import Derived.Lib.ConvBytes
import Derived.Test.YtfooigckcjbegaaDoorRows
import Derived.WalkKit
namespace Go.Proofs.YtfooigckcjbegaaDoor
open Go.RowKit
set_option linter.unusedVariables false

theorem addr_block (a : Addr) (n : Nat) : (a.add n).block = a.block := by unfold Addr.add; split <;> rfl
theorem addr_add (a : Addr) (i j : Nat) : (a.add i).add j = a.add (i + j) := by
  unfold Addr.add
  by_cases hi : i = 0
  · subst hi; simp
  · by_cases hj : j = 0
    · subst hj; simp [hi]
    · simp [hi, hj, Nat.add_assoc]
theorem addr_zero (b j : Nat) : (⟨b, 0, none⟩ : Addr).add j = ⟨b, j, none⟩ := by unfold Addr.add; split <;> simp_all

section
variable {α : Type} {c : α → List Value} {k : Nat} {w w' : World} {B B' : Nat} {v : Value} {L : List α}

/-- the slice v reads as L: element i's cells are c of it; all lies below block B -/
def SlG (c : α → List Value) (k : Nat) (w : World) (B : Nat) (v : Value) (L : List α) : Prop :=
  ∃ A cap, v = .slice A L.length cap ∧ L.length ≤ maxLen ∧ ∀ i a, L[i]? = some a → ∃ x, A = some x ∧ x.block < B ∧ ∀ j u, (c a)[j]? = some u → w.cell? (x.add (i * k + j)) = some u
theorem SlG.keep (h : SlG c k w B v L) (hk : ∀ p : Addr, p.block < B → w'.cell? p = w.cell? p) (hB : B ≤ B') : SlG c k w' B' v L := by
  obtain ⟨A, cap, hv, hm, hc⟩ := h
  refine ⟨A, cap, hv, hm, fun i a ha => ?_⟩
  obtain ⟨x, hx, hxb, hcell⟩ := hc i a ha
  exact ⟨x, hx, by omega, fun j u hu => (hk _ (by rw [addr_block]; exact hxb)).trans (hcell j u hu)⟩
theorem SlG.below (h : SlG c k w B v L) (hb : Below B w w') : SlG c k w' B v L := h.keep (fun p hp => hb.cell hp) (Nat.le_refl _)
theorem SlG.later (h : SlG c k w w.heap.size v L) (hb : Below w.heap.size w w') : SlG c k w' w'.heap.size v L := h.keep (fun p hp => hb.cell hp) hb.size
theorem SlG.drewN (h : SlG c k w B v L) (n : Nat) : SlG c k (w.drewN n) B v L := h
theorem SlG.nil (c : α → List Value) (k : Nat) (w : World) (B : Nat) : SlG c k w B (.slice none 0 0) [] := ⟨none, 0, rfl, Nat.zero_le _, fun i a h => by simp at h⟩
/-- element i, if there is one: the slice has an address, and the element's cells lie behind it -/
theorem SlG.at_ (h : SlG c k w B v L) {i : Nat} (hi : i < L.length) : ∃ x cap, v = .slice (some x) L.length cap ∧ x.block < B ∧ ∀ j u, (c (L[i]'hi))[j]? = some u → w.cell? ((x.add (i * k)).add j) = some u := by
  obtain ⟨A, cap, hv, hm, hc⟩ := h
  obtain ⟨x, hx, hxb, hcell⟩ := hc i _ (List.getElem?_eq_getElem hi)
  subst hx
  exact ⟨x, cap, hv, hxb, fun j u hu => by rw [addr_add]; exact hcell j u hu⟩

/-- an argument: what 'open_slice_flat' hands over, as a list -/
theorem slice_of_row {s : List Sh} {a : Option Addr} {len cap : Nat} {R : Nat → List Value} (h : IsRowOf w s a len cap R) (f : List Value → α) (hc : ∀ l, FitsAll s l → c (f l) = l) (hs : s.length = k) (h0 : 0 < k) :
    ∃ L : List α, SlG c k w w.heap.size (.slice a len cap) L ∧ L.length = len ∧ ∀ x ∈ L, FitsAll s (c x) := by
  rcases h with ⟨rfl, rfl, rfl⟩ | ⟨x, rfl, hl, hm, hcell⟩
  · exact ⟨[], SlG.nil _ _ _ _, rfl, fun x hx => by cases hx⟩
  · refine ⟨(List.range len).map fun i => f (R i), ⟨some x, cap, by simp, by simp; omega, fun i b hb => ?_⟩, by simp, fun y hy => ?_⟩
    · have hi : i < len := by
        rcases Nat.lt_or_ge i len with h | h
        · exact h
        · rw [List.getElem?_eq_none (by simpa using h)] at hb; cases hb
      have hb' : b = f (R i) := by
        rw [List.getElem?_eq_getElem (by simpa using hi)] at hb
        simpa using hb.symm
      subst hb'
      obtain ⟨hf, hcs⟩ := hcell i (by omega)
      have hlen := hf.length
      have h00 := hcs 0 (by omega)
      rw [List.getElem?_eq_getElem (by omega)] at h00
      refine ⟨x, rfl, ?_, fun j u hu => ?_⟩
      · have := World.block_lt_of_cell? w _ h00
        rwa [addr_block] at this
      · rw [hc _ hf] at hu
        have hj : j < s.length := by
          rcases Nat.lt_or_ge j s.length with h | h
          · exact h
          · rw [List.getElem?_eq_none (by rw [hlen]; exact h)] at hu; cases hu
        rw [← hs, hcs j hj]
        exact hu
    · obtain ⟨i, hi, rfl⟩ := List.mem_map.1 hy
      have hi' := List.mem_range.1 hi
      have hf := (hcell i (by omega)).1
      rw [hc _ hf]
      exact hf

/-! ### a row of the call's own -/
def rowG (c : α → List Value) (L : List α) : List Value := L.flatMap c
theorem rowG_app (a b : List α) : rowG c (a ++ b) = rowG c a ++ rowG c b := by simp [rowG]
theorem rowG_one (a : α) : rowG c [a] = c a := by simp [rowG]
theorem rowG_length (hk : ∀ a, (c a).length = k) : ∀ L : List α, (rowG c L).length = L.length * k
  | [] => by simp [rowG]
  | a :: L => by
    have := rowG_length hk L
    simp only [rowG, List.flatMap_cons, List.length_append, hk, List.length_cons] at this ⊢
    rw [this, Nat.add_mul]; omega
theorem rowG_get (hk : ∀ a, (c a).length = k) : ∀ (L : List α) (i : Nat) (a : α), L[i]? = some a → ∀ j u, (c a)[j]? = some u → (rowG c L)[i * k + j]? = some u
  | [], i, a, h, _, _, _ => by simp at h
  | b :: L, 0, a, h, j, u, hu => by
    simp only [List.getElem?_cons_zero, Option.some.injEq] at h
    subst h
    have hj : j < (c b).length := by
      rcases Nat.lt_or_ge j (c b).length with h | h
      · exact h
      · rw [List.getElem?_eq_none h] at hu; cases hu
    simp only [rowG, List.flatMap_cons, Nat.zero_mul, Nat.zero_add]
    rw [List.getElem?_append_left hj]; exact hu
  | b :: L, i + 1, a, h, j, u, hu => by
    simp only [List.getElem?_cons_succ] at h
    have := rowG_get hk L i a h j u hu
    simp only [rowG, List.flatMap_cons] at this ⊢
    rw [List.getElem?_append_right (by rw [hk, Nat.add_mul]; omega), hk, show (i + 1) * k + j - k = i * k + j by rw [Nat.add_mul]; omega]
    exact this

/-- what a loop that gathers knows: B: the heap's size when the call began, in world w0 -/
def GathG (E : TypeId) (c : α → List Value) (k : Nat) (B : Nat) (w0 : World) (v : Value) (L : List α) (wr : World) : Prop :=
  wr.ownsRow B E k v L.length (rowG c L) ∧ Below B w0 wr ∧ B ≤ wr.heap.size
variable {E : TypeId} {w0 wr w1 : World}
theorem GathG.start (E : TypeId) (c : α → List Value) (k : Nat) (w : World) : GathG E c k w.heap.size w (.slice none 0 0) [] w := ⟨World.ownsRow_nil _ _ _ _, Below.refl _ _, Nat.le_refl _⟩
theorem ownG_below {base : Nat} {e : TypeId} {size n : Nat} {xs : List Value} (h : w.ownsRow base e size v n xs) (hb : Below w.heap.size w w') : w'.ownsRow base e size v n xs := by
  refine ⟨h.1, ?_⟩
  rcases h.2 with hn | ⟨g, cap, cur, rfl, hbg, hg, rest⟩
  · exact .inl hn
  · exact .inr ⟨g, cap, cur, rfl, hbg, (hb.block g (Array.getElem?_eq_some_iff.1 hg).1).trans hg, rest⟩
theorem GathG.later (h : GathG E c k B w0 v L wr) (hb : Below wr.heap.size wr w1) : GathG E c k B w0 v L w1 :=
  ⟨ownG_below h.1 hb, h.2.1.trans (hb.mono h.2.2), Nat.le_trans h.2.2 hb.size⟩
theorem GathG.alloc (h : GathG E c k B w0 v L wr) (o : Obj) : GathG E c k B w0 v L (wr.alloc o) := h.later ((Below.refl _ _).alloc (Nat.le_refl _) o)
theorem GathG.drewN (h : GathG E c k B w0 v L wr) (n : Nat) : GathG E c k B w0 v L (wr.drewN n) := ⟨h.1, ⟨h.2.1.os, h.2.1.tape, h.2.1.output, h.2.1.size, h.2.1.block⟩, h.2.2⟩
/-- one thing more, behind the append -/
theorem GathG.snoc {v' : Value} {a : α} {o : Obj} (h : GathG E c k B w0 v L wr) (hown : w1.ownsRow B E k v' (L.length + 1) (rowG c L ++ c a)) (hgr : (wr.alloc o).grownBy w1 v.ownBlock) : GathG E c k B w0 v' (L ++ [a]) w1 := by
  obtain ⟨h1, h2, h3⟩ := h
  refine ⟨by rw [List.length_append, rowG_app, rowG_one]; exact hown, (h2.alloc h3 _).grown hgr (by simp; omega) ?_, ?_⟩
  · intro k hk
    rcases h1.2 with ⟨rfl, _⟩ | ⟨g, cap, cur, rfl, hg, _⟩
    · cases hk
    · cases hk; exact hg
  · have := hgr.size; simp at this; omega
theorem GathG.slice (hk : ∀ a, (c a).length = k) (hk0 : 0 < k) (h : GathG E c k B w0 v L wr) (hm : L.length ≤ maxLen) : SlG c k wr wr.heap.size v L := by
  obtain ⟨h1, _, _⟩ := h
  rcases h1.2 with ⟨rfl, hn⟩ | ⟨g, cap, cur, rfl, hbg, hg, rest⟩
  · have : L = [] := by
      cases L with
      | nil => rfl
      | cons a L =>
        have := rowG_length hk (a :: L)
        have h2 := h1.1
        simp at hn
    subst this
    exact SlG.nil _ _ _ _
  · refine ⟨some ⟨g, 0, none⟩, cap, rfl, hm, fun i a ha => ⟨_, rfl, (Array.getElem?_eq_some_iff.1 hg).1, fun j u hu => ?_⟩⟩
    exact h1.cells (g := g) rfl _ _ (rowG_get hk L i a ha j u hu)

/-! ### a builder of the call's own -/
theorem builder_below {T e : TypeId} {b : Nat} {bs : List Value} (h : Lib.IsBuilder T e B b bs w) (hb : Below w.heap.size w w') : Lib.IsBuilder T e B b bs w' := by
  have one : ∀ p, Lib.BuilderAt T e B b p bs w → Lib.BuilderAt T e B b p bs w' := by
    rintro p ⟨h1, v, h2, h3, h4⟩
    exact ⟨h1, v, (hb.block b (Array.getElem?_eq_some_iff.1 h2).1).trans h2, ownG_below h3 hb, h4⟩
  rcases h with h | h
  · exact .inl (one _ h)
  · exact .inr (one _ h)
theorem byteCells_str (l : List UInt8) (s : ByteArray) : Lib.byteCells l ++ Lib.strCells s = Lib.byteCells (l ++ s.data.toList) := by
  unfold Lib.byteCells Lib.strCells
  rw [List.map_append]
end

end Go.Proofs.YtfooigckcjbegaaDoor

namespace Go.Proofs.YtfooigckcjbegaaDoor
open Go.RowKit
set_option linter.unusedVariables false

theorem drewN_two (w : World) (a b : Nat) : (w.drewN a).drewN b = w.drewN (a + b) := by
  unfold World.drewN
  simp [Nat.add_assoc]
theorem info_u8 : (Tryd.prog.info? 5).map (fun i => (i.zero, i.size, i.bytes)) = some (some (.int .u8 0), 1, 1) := by kernel_rfl
theorem news_byte (w : World) (v : Value) (t : TypeId) : ∀ j u, [v][j]? = some u → (w.alloc (.cells #[v] t)).cell? ((⟨w.heap.size, 0, none⟩ : Addr).add j) = some u := by
  intro j u hj
  rcases Nat.lt_or_ge j 1 with h | h
  · obtain rfl : j = 0 := by omega
    simp at hj
    subst hj
    simp [Addr.add, World.cell?_alloc_at _ _ _ _ rfl]
  · rw [List.getElem?_eq_none (by simpa using h)] at hj; cases hj

/-- a slice of bytes that can be read -/
def SlB (w : World) (v : Value) (L : List Int) : Prop :=
  L.length ≤ 140737488355328 ∧ ((L = [] ∧ ∃ A cap, v = .slice A 0 cap) ∨ ∃ g cap, v = .slice (some ⟨g, 0, none⟩) L.length cap ∧ ∀ k, k < L.length → w.cell? ⟨g, k, none⟩ = some (.int .u8 (L.getD k 0)))

def byteRow (L : List Int) : List Value := L.map (Value.int .u8)
theorem byteRow_app (a b : List Int) : byteRow (a ++ b) = byteRow a ++ byteRow b := by simp [byteRow]
/-- what a loop that gathers bytes knows -/
def gathB (B : Nat) (w : World) (v : Value) (L : List Int) (wr : World) : Prop :=
  wr.ownsRow B 5 1 v L.length (byteRow L) ∧ Below B w wr ∧ B ≤ wr.heap.size
theorem gathB.start (w : World) : gathB w.heap.size w (.slice none 0 0) [] w := ⟨World.ownsRow_nil _ _ _ _, Below.refl _ _, Nat.le_refl _⟩
theorem gathB.startB {B : Nat} {w wr : World} (h : Below B w wr) (hB : B ≤ wr.heap.size) : gathB B w (.slice none 0 0) [] wr := ⟨World.ownsRow_nil _ _ _ _, h, hB⟩
theorem gathB.later {B : Nat} {w wr w1 : World} {v : Value} {L : List Int} (h : gathB B w v L wr) (hb : Below wr.heap.size wr w1) : gathB B w v L w1 := by
  obtain ⟨h1, h2, h3⟩ := h
  refine ⟨?_, h2.trans (hb.mono h3), Nat.le_trans h3 hb.size⟩
  refine ⟨h1.1, ?_⟩
  rcases h1.2 with hn | ⟨g, cap, cur, rfl, hbg, hg, rest⟩
  · exact .inl hn
  · exact .inr ⟨g, cap, cur, rfl, hbg, (hb.block g (Array.getElem?_eq_some_iff.1 hg).1).trans hg, rest⟩
theorem gathB.drewN {B : Nat} {w wr : World} {v : Value} {L : List Int} (h : gathB B w v L wr) (n : Nat) : gathB B w v L (wr.drewN n) :=
  h.later ⟨rfl, rfl, rfl, Nat.le_refl _, fun _ _ => rfl⟩
theorem gathB.step {B : Nat} {w wr w1 : World} {v v' : Value} {L : List Int} {b : Int} {T : TypeId} (h : gathB B w v L wr)
    (hown : w1.ownsRow B 5 1 v' (L.length + 1) (byteRow L ++ [.int .u8 b])) (hgr : (wr.alloc (.cells #[.int .u8 b] T)).grownBy w1 v.ownBlock) : gathB B w v' (L ++ [b]) w1 := by
  obtain ⟨h1, h2, h3⟩ := h
  refine ⟨by rw [List.length_append, byteRow_app]; exact hown, (h2.alloc h3 _).grown hgr (by simp; omega) ?_, ?_⟩
  · intro k hk
    rcases h1.2 with ⟨rfl, _⟩ | ⟨g, cap, cur, rfl, hg, _⟩
    · cases hk
    · cases hk; exact hg
  · have := hgr.size; simp at this; omega
theorem gathB.slice {B : Nat} {w wr : World} {v : Value} {L : List Int} (h : gathB B w v L wr) (hm : L.length ≤ 140737488355328) : SlB wr v L := by
  obtain ⟨h1, _, _⟩ := h
  refine ⟨hm, ?_⟩
  rcases h1.2 with ⟨rfl, hn⟩ | ⟨g, cap, cur, rfl, hbg, hg, rest⟩
  · have : L = [] := by
      cases L with
      | nil => rfl
      | cons a L => simp at hn
    subst this
    exact .inl ⟨rfl, none, 0, rfl⟩
  · refine .inr ⟨g, cap, rfl, fun k hk => ?_⟩
    rw [h1.cellAt k (by simpa [byteRow] using hk)]
    unfold byteRow
    rw [List.getElem?_map, List.getElem?_eq_getElem hk]
    simp [List.getD, List.getElem?_eq_getElem hk]
/-- '[]byte(s)': the bytes of s in a block of their own -/
theorem bytesWorld_below (w : World) (e : TypeId) (s : ByteArray) : Below w.heap.size w (Lib.bytesWorld w e s) := by
  refine ⟨rfl, rfl, rfl, by rw [Lib.bytesWorld_size]; omega, fun k hk => Lib.bytesWorld_at_old w e s k hk⟩
theorem bytesWorld_slice (w : World) (e : TypeId) (s : ByteArray) (cap : Nat) (hs : s.size ≤ 140737488355328) : SlB (Lib.bytesWorld w e s) (.slice (some ⟨w.heap.size, 0, none⟩) s.size cap) (byL s) := by
  refine ⟨by rw [byL_len]; exact hs, .inr ⟨w.heap.size, cap, by rw [byL_len], fun k hk => ?_⟩⟩
  rw [byL_len] at hk
  rw [Lib.bytesWorld_cell w e s k hk, byL_getD]
  unfold bt
  simp [List.getD_eq_getElem?_getD]
theorem conv_bytes (s : ByteArray) (w : World) : (convert 9 49 (.string s)).run Tryd.prog w = .ok (.slice (some ⟨w.heap.size, 0, none⟩) s.size (grownCap w s.size 0 5)) (Lib.bytesWorld w 5 s) :=
  Lib.run_convert_string_bytes w _ _ _ s Tryd.underlying9 Tryd.underlying49 Tryd.underlying5
/-- a cut ahead -/
theorem cut_ahead {s : ByteArray} {k : Nat} (h : k ≤ s.size) (w : World) : (Instr.sliceAt 9 (.string s) none (some (.int .i64 (k : Int))) none).run Tryd.prog w = .ok (.string (s.extract 0 k)) w := by
  have e2 : (k : Int) ≤ (s.size : Int) := by omega
  have e3 : ¬ ((s.size : Int) < (k : Int)) := by omega
  simp [go_sem, e2]

end Go.Proofs.YtfooigckcjbegaaDoor

namespace Go.Proofs.YtfooigckcjbegaaDoor
open Go.RowKit
set_option linter.unusedVariables false

def isBit (c : Int) : Bool := c == 48 || c == 49
def oth (c : Int) : Int := 97 - c
theorem isBit_iff (c : Int) : isBit c = true ↔ c = 48 ∨ c = 49 := by unfold isBit; simp
theorem oth_bit {c : Int} (h : isBit c = true) : isBit (oth c) = true := by
  rw [isBit_iff] at h ⊢; unfold oth; omega
theorem oth_ne {c : Int} (h : isBit c = true) : oth c ≠ c := by
  rw [isBit_iff] at h; unfold oth; omega
theorem oth_oth (c : Int) : oth (oth c) = c := by unfold oth; omega
theorem oth_inj {a b : Int} : oth a = oth b ↔ a = b := by unfold oth; omega
def bitsB (L : List Int) : Bool := L.all isBit
theorem bitsB_cons (x : Int) (L : List Int) : bitsB (x :: L) = (isBit x && bitsB L) := rfl
theorem bitsB_app (a b : List Int) : bitsB (a ++ b) = (bitsB a && bitsB b) := by unfold bitsB; rw [List.all_append]

/-- the run at the end: the last one, and how many of it; one more is told -/
def nxt (p : Int × Nat) (x : Int) : Int × Nat := (x, if x = p.1 then p.2 + 1 else 1)
theorem nxt_1 (p : Int × Nat) (x : Int) : (nxt p x).1 = x := rfl
theorem nxt_le (p : Int × Nat) (x : Int) : (nxt p x).2 ≤ p.2 + 1 := by unfold nxt; dsimp only; split <;> omega
theorem nxt_pos (p : Int × Nat) (x : Int) : 1 ≤ (nxt p x).2 := by unfold nxt; dsimp only; split <;> omega
theorem nxt_oth {x : Int} (n : Nat) (h : isBit x = true) : nxt (x, n) (oth x) = (oth x, 1) := by
  unfold nxt; rw [if_neg (oth_ne h)]
/-- the run at the end of a text -/
def tl (L : List Int) : Int × Nat := L.foldl nxt (0, 0)
theorem tl_snoc (L : List Int) (x : Int) : tl (L ++ [x]) = nxt (tl L) x := by unfold tl; rw [List.foldl_append]; rfl

/-- what is stuffed behind a run -/
def stG : Int × Nat → List Int → List Int
  | _, [] => []
  | p, x :: L => if (nxt p x).2 = 5 then x :: oth x :: stG (oth x, 1) L else x :: stG (nxt p x) L
/-- the run behind it -/
def stS : Int × Nat → List Int → Int × Nat
  | p, [] => p
  | p, x :: L => if (nxt p x).2 = 5 then stS (oth x, 1) L else stS (nxt p x) L
theorem stG_app : ∀ (L M : List Int) (p : Int × Nat), stG p (L ++ M) = stG p L ++ stG (stS p L) M
  | [], M, p => rfl
  | x :: L, M, p => by
    simp only [List.cons_append, stG, stS]
    split
    · rw [stG_app L M]; rfl
    · rw [stG_app L M]; rfl
theorem stS_app : ∀ (L M : List Int) (p : Int × Nat), stS p (L ++ M) = stS (stS p L) M
  | [], M, p => rfl
  | x :: L, M, p => by
    simp only [List.cons_append, stS]
    split
    · rw [stS_app L M]
    · rw [stS_app L M]
def stuffL (L : List Int) : List Int := stG (0, 0) L
theorem stuffL_snoc (L : List Int) (x : Int) : stuffL (L ++ [x]) = stuffL L ++ (if (nxt (stS (0, 0) L) x).2 = 5 then [x, oth x] else [x]) := by
  unfold stuffL
  rw [stG_app]
  rfl
theorem stS_tl : ∀ (L : List Int) (p : Int × Nat) (A : List Int), bitsB L = true → tl A = p → tl (A ++ stG p L) = stS p L
  | [], p, A, _, h => by simpa [stG, stS] using h
  | x :: L, p, A, hb, h => by
    rw [bitsB_cons, Bool.and_eq_true] at hb
    simp only [stG, stS]
    split
    · rw [show A ++ x :: oth x :: stG (oth x, 1) L = ((A ++ [x]) ++ [oth x]) ++ stG (oth x, 1) L by simp]
      refine stS_tl L _ _ hb.2 ?_
      rw [tl_snoc, tl_snoc, h]
      exact nxt_oth _ hb.1
    · rw [show A ++ x :: stG (nxt p x) L = (A ++ [x]) ++ stG (nxt p x) L by simp]
      exact stS_tl L _ _ hb.2 (by rw [tl_snoc, h])
theorem tl_stuff {L : List Int} (h : bitsB L = true) : tl (stuffL L) = stS (0, 0) L := by
  have := stS_tl L (0, 0) [] h rfl
  unfold stuffL
  simpa using this
theorem stS_le : ∀ (L : List Int) (p : Int × Nat), p.2 ≤ 4 → (stS p L).2 ≤ 4
  | [], p, h => h
  | x :: L, p, h => by
    simp only [stS]
    split
    · exact stS_le L _ (by show 1 ≤ 4; omega)
    · exact stS_le L _ (by have := nxt_le p x; omega)
theorem stG_bits : ∀ (L : List Int) (p : Int × Nat), bitsB L = true → bitsB (stG p L) = true
  | [], _, _ => rfl
  | x :: L, p, h => by
    rw [bitsB_cons, Bool.and_eq_true] at h
    simp only [stG]
    split
    · rw [bitsB_cons, bitsB_cons, h.1, oth_bit h.1, stG_bits L _ h.2]; rfl
    · rw [bitsB_cons, h.1, stG_bits L _ h.2]; rfl
theorem stuffL_bits {L : List Int} (h : bitsB L = true) : bitsB (stuffL L) = true := stG_bits L _ h

/-- what is taken out, behind what was taken out so far: the bits and -1, or none and the place -/
def unA : List Int → Int × Nat → Nat → List Int → List Int × Int
  | out, p, i, [] => if p.2 = 5 then ([], i) else (out, -1)
  | out, p, i, x :: L => if isBit x = false then ([], i) else if p.2 = 5 then (if x = p.1 then ([], i) else unA out (x, 1) (i + 1) L) else unA (out ++ [x]) (nxt p x) (i + 1) L
def unL (L : List Int) : List Int × Int := unA [] (0, 0) 0 L
theorem unA_stG : ∀ (L out : List Int) (p : Int × Nat) (i : Nat), p.2 ≤ 4 → bitsB L = true → unA out p i (stG p L) = (out ++ L, -1)
  | [], out, p, i, h, _ => by
    simp only [stG, unA]
    rw [if_neg (by omega)]; simp
  | x :: L, out, p, i, h, hb => by
    rw [bitsB_cons, Bool.and_eq_true] at hb
    have hn := nxt_le p x
    simp only [stG]
    split
    · rename_i h5
      simp only [unA]
      rw [if_neg (by rw [hb.1]; decide), if_neg (by omega), if_neg (by rw [oth_bit hb.1]; decide), if_pos h5, if_neg (by rw [nxt_1]; exact oth_ne hb.1), unA_stG L _ _ _ (by show 1 ≤ 4; omega) hb.2]
      simp
    · simp only [unA]
      rw [if_neg (by rw [hb.1]; decide), if_neg (by omega), unA_stG L _ _ _ (by omega) hb.2]
      simp
theorem un_stuff {L : List Int} (h : bitsB L = true) : unL (stuffL L) = (L, -1) := unA_stG L [] (0, 0) 0 (by decide) h
theorem unA_back : ∀ (T out : List Int) (p : Int × Nat) (i : Nat) (M : List Int), p.2 ≤ 5 → (p.2 = 5 → isBit p.1 = true) → unA out p i T = (M, -1) →
    ∃ L, M = out ++ L ∧ bitsB L = true ∧ (p.2 = 5 → T = oth p.1 :: stG (oth p.1, 1) L) ∧ (p.2 ≠ 5 → stG p L = T)
  | [], out, p, i, M, h5, hb, h => by
    simp only [unA] at h
    split at h
    · injection h with _ h; omega
    · rename_i hn
      injection h with h
      exact ⟨[], by simp [h], rfl, fun e => absurd e hn, fun _ => rfl⟩
  | x :: T, out, p, i, M, h5, hb, h => by
    simp only [unA] at h
    split at h
    · injection h with _ h; omega
    · rename_i hx
      have hx : isBit x = true := by simpa using hx
      split at h
      · rename_i hp
        split at h
        · injection h with _ h; omega
        · rename_i hne
          obtain ⟨L, hM, hL, _, h2⟩ := unA_back T out (x, 1) (i + 1) M (by show 1 ≤ 5; omega) (fun e => by cases e) h
          have hxo : x = oth p.1 := by
            have h1 := hb hp
            rw [isBit_iff] at h1 hx
            unfold oth
            omega
          refine ⟨L, hM, hL, fun _ => ?_, fun e => absurd hp e⟩
          rw [← hxo, h2 (by show 1 ≠ 5; omega)]
      · rename_i hp
        have hn := nxt_le p x
        obtain ⟨L, hM, hL, h1, h2⟩ := unA_back T (out ++ [x]) (nxt p x) (i + 1) M (by omega) (fun _ => hx) h
        refine ⟨x :: L, by rw [hM]; simp, by rw [bitsB_cons, hx, hL]; rfl, fun e => absurd e hp, fun _ => ?_⟩
        simp only [stG]
        split
        · rename_i h55
          rw [h1 h55]; rfl
        · rename_i h55
          rw [h2 h55]
theorem un_back {T M : List Int} (h : unL T = (M, -1)) : bitsB M = true ∧ stuffL M = T := by
  obtain ⟨L, hM, hL, _, h2⟩ := unA_back T [] (0, 0) 0 M (by decide) (fun e => by cases e) h
  have : M = L := by simpa using hM
  subst this
  exact ⟨hL, h2 (by decide)⟩

/-- the longest run, beside those that were seen -/
def runA : Nat → Int × Nat → List Int → Nat
  | m, _, [] => m
  | m, p, x :: L => runA (max m (nxt p x).2) (nxt p x) L
def runL (L : List Int) : Nat := runA 0 (0, 0) L
theorem runA_app : ∀ (L : List Int) (m : Nat) (p : Int × Nat) (x : Int), runA m p (L ++ [x]) = max (runA m p L) (nxt (L.foldl nxt p) x).2
  | [], m, p, x => rfl
  | y :: L, m, p, x => by simp only [List.cons_append, runA, List.foldl_cons]; exact runA_app L _ _ x
theorem runL_snoc (L : List Int) (x : Int) : runL (L ++ [x]) = max (runL L) (tl (L ++ [x])).2 := by
  unfold runL; rw [runA_app, tl_snoc]; rfl
theorem runA_stG : ∀ (L : List Int) (m : Nat) (p : Int × Nat), m ≤ 5 → p.2 ≤ 4 → bitsB L = true → runA m p (stG p L) ≤ 5
  | [], m, p, hm, hp, _ => by simpa [stG, runA] using hm
  | x :: L, m, p, hm, hp, hb => by
    rw [bitsB_cons, Bool.and_eq_true] at hb
    have hn := nxt_le p x
    simp only [stG]
    split
    · rename_i h5
      simp only [runA]
      have e : nxt (nxt p x) (oth x) = (oth x, 1) := nxt_oth _ hb.1
      rw [e]
      exact runA_stG L _ _ (by dsimp only; omega) (by show 1 ≤ 4; omega) hb.2
    · simp only [runA]
      exact runA_stG L _ _ (by omega) (by omega) hb.2
theorem run_stuff {L : List Int} (h : bitsB L = true) : runL (stuffL L) ≤ 5 := runA_stG L 0 (0, 0) (by decide) (by decide) h
theorem runA_le : ∀ (L : List Int) (m : Nat) (p : Int × Nat), m ≤ p.2 + L.length ∨ m ≤ runA m p L
  | [], m, p => .inr (Nat.le_refl _)
  | x :: L, m, p => by
    right
    have key : ∀ (L : List Int) (m : Nat) (p : Int × Nat), m ≤ runA m p L := by
      intro L
      induction L with
      | nil => intro m p; exact Nat.le_refl _
      | cons x L ih => intro m p; exact Nat.le_trans (Nat.le_max_left _ _) (ih _ _)
    exact key _ _ _
theorem runA_bd : ∀ (L : List Int) (m : Nat) (p : Int × Nat), runA m p L ≤ max m (p.2 + L.length)
  | [], m, p => Nat.le_max_left _ _
  | x :: L, m, p => by
    have h1 := runA_bd L (max m (nxt p x).2) (nxt p x)
    have h2 := nxt_le p x
    simp only [runA, List.length_cons]
    omega
theorem run_le (L : List Int) : runL L ≤ L.length := by
  have := runA_bd L 0 (0, 0)
  unfold runL
  simp at this
  omega

theorem stG_len : ∀ (L : List Int) (p : Int × Nat), p.2 ≤ 4 → 4 * (stG p L).length ≤ 5 * L.length + p.2 ∧ L.length ≤ (stG p L).length
  | [], p, _ => by simp [stG]
  | x :: L, p, hp => by
    have hn := nxt_le p x
    simp only [stG]
    split
    · have h1 := stG_len L (oth x, 1) (by show 1 ≤ 4; omega)
      simp only [List.length_cons] at h1 ⊢
      omega
    · have h1 := stG_len L (nxt p x) (by omega)
      simp only [List.length_cons] at h1 ⊢
      omega
theorem stuff_len (L : List Int) : 4 * (stuffL L).length ≤ 5 * L.length ∧ L.length ≤ (stuffL L).length := stG_len L (0, 0) (by decide)

/-! turned -/
def turnP (p : Int × Nat) : Int × Nat := (oth p.1, p.2)
theorem nxt_turn (p : Int × Nat) (x : Int) : nxt (turnP p) (oth x) = turnP (nxt p x) := by
  unfold nxt turnP
  dsimp only
  by_cases h : x = p.1
  · rw [if_pos h, if_pos (oth_inj.2 h)]
  · rw [if_neg h, if_neg (fun e => h (oth_inj.1 e))]
theorem stG_turn : ∀ (L : List Int) (p : Int × Nat), stG (turnP p) (L.map oth) = (stG p L).map oth
  | [], p => rfl
  | x :: L, p => by
    simp only [List.map_cons, stG, nxt_turn]
    have e : (turnP (nxt p x)).2 = (nxt p x).2 := rfl
    rw [e]
    split
    · rw [List.map_cons, List.map_cons, ← stG_turn L]
      rfl
    · rw [List.map_cons, ← stG_turn L]
theorem stG_none : ∀ (L : List Int) (c c' : Int), stG (c, 0) L = stG (c', 0) L
  | [], c, c' => rfl
  | x :: L, c, c' => by
    have e : ∀ d : Int, nxt (d, 0) x = (x, 1) := fun d => by unfold nxt; dsimp only; split <;> rfl
    simp only [stG, e]
theorem stuff_turn (L : List Int) : stuffL (L.map oth) = (stuffL L).map oth := by
  unfold stuffL
  rw [← stG_turn L, stG_none _ 0 97]
  rfl
theorem turn_turn (L : List Int) : (L.map oth).map oth = L := by
  rw [List.map_map]
  conv => rhs; rw [← List.map_id L]
  exact List.map_congr_left fun x _ => oth_oth x
theorem turn_bits {L : List Int} (h : bitsB L = true) : bitsB (L.map oth) = true := by
  unfold bitsB at h ⊢
  rw [List.all_eq_true] at h ⊢
  intro x hx
  obtain ⟨y, hy, rfl⟩ := List.mem_map.1 hx
  exact oth_bit (h y hy)
theorem runA_turn : ∀ (L : List Int) (m : Nat) (p : Int × Nat), runA m (turnP p) (L.map oth) = runA m p L
  | [], m, p => rfl
  | x :: L, m, p => by
    simp only [List.map_cons, runA, nxt_turn]
    rw [runA_turn L]
    rfl
theorem run_turn (L : List Int) : runL (L.map oth) = runL L := by
  unfold runL
  rw [← runA_turn L 0 (0, 0)]
  cases L with
  | nil => rfl
  | cons x L =>
    have e : ∀ d : Int, nxt (d, 0) (oth x) = (oth x, 1) := fun d => by unfold nxt; dsimp only; split <;> rfl
    simp only [List.map_cons, runA]
    rw [e, show nxt (turnP (0, 0)) (oth x) = (oth x, 1) from e _]
/-- what is stuffed of more begins with what is stuffed of those ahead -/
theorem stuff_ahead (L M : List Int) : ∃ R, stuffL (L ++ M) = stuffL L ++ R ∧ M.length ≤ R.length := by
  unfold stuffL
  rw [stG_app]
  exact ⟨_, rfl, (stG_len M _ (stS_le L (0, 0) (by decide))).2⟩

end Go.Proofs.YtfooigckcjbegaaDoor

namespace Go.Proofs.YtfooigckcjbegaaDoor
open Go.RowKit
set_option linter.unusedVariables false

/-! ### the run at the end, counted from behind -/
theorem tl_rep : ∀ (j : Nat) (p : Int × Nat) (c : Int), p.1 = c → (List.replicate j c).foldl nxt p = (c, p.2 + j)
  | 0, p, c, h => by rw [← h]; rfl
  | j + 1, p, c, h => by
    rw [List.replicate_succ, List.foldl_cons]
    have e : nxt p c = (c, p.2 + 1) := by unfold nxt; rw [if_pos h.symm]
    rw [e, tl_rep j _ c rfl]
    simp; omega
theorem tl_last {A : List Int} {x : Int} : (tl (A ++ [x])).1 = x := by rw [tl_snoc]; rfl
/-- so many at the end are the same, and the one ahead of them is another one, or there is none -/
theorem tl_count {L : List Int} {m j : Nat} {c : Int} (hl : L.length = m + j) (hj : 1 ≤ j) (hs : ∀ x, m ≤ x → x < m + j → L.getD x 0 = c) (hm : m = 0 ∨ L.getD (m - 1) 0 ≠ c) : (tl L).2 = j := by
  have hL : L = L.take m ++ List.replicate j c := by
    apply List.ext_getElem?
    intro x
    by_cases hx : x < m
    · rw [List.getElem?_append_left (by rw [List.length_take]; omega), List.getElem?_take_of_lt hx]
    · rw [List.getElem?_append_right (by rw [List.length_take]; omega), List.length_take, Nat.min_eq_left (by omega)]
      by_cases hx2 : x < m + j
      · have := hs x (by omega) hx2
        rw [List.getD_eq_getElem?_getD, List.getElem?_eq_getElem (by omega)] at this
        rw [List.getElem?_eq_getElem (by omega), List.getElem?_replicate, if_pos (by omega), ← this]; rfl
      · rw [List.getElem?_eq_none (by omega), List.getElem?_eq_none (by simp; omega)]
  obtain ⟨j', rfl⟩ : ∃ j', j = j' + 1 := ⟨j - 1, by omega⟩
  have h1 : (nxt (tl (L.take m)) c) = (c, 1) := by
    rcases hm with h0 | hne
    · subst h0
      simp only [List.take_zero]
      show nxt (0, 0) c = _
      unfold nxt
      dsimp only
      split <;> rfl
    · by_cases h0 : m = 0
      · subst h0
        simp only [List.take_zero]
        show nxt (0, 0) c = _
        unfold nxt
        dsimp only
        split <;> rfl
      · obtain ⟨m', rfl⟩ : ∃ m', m = m' + 1 := ⟨m - 1, by omega⟩
        have hlt : m' < L.length := by omega
        rw [List.take_succ_eq_append_getElem hlt]
        have hx : L[m'] ≠ c := by
          rw [List.getD_eq_getElem?_getD, Nat.add_sub_cancel, List.getElem?_eq_getElem hlt] at hne
          exact hne
        unfold nxt
        rw [tl_last, if_neg (fun e => hx e.symm)]
  rw [hL, List.replicate_succ]
  show ((L.take m ++ c :: List.replicate j' c).foldl nxt (0, 0)).2 = j' + 1
  rw [List.foldl_append, List.foldl_cons]
  have e : nxt ((L.take m).foldl nxt (0, 0)) c = (c, 1) := h1
  rw [e, tl_rep j' _ c rfl]
  simp; omega

set_option maxHeartbeats 1000000 in
theorem sright_v {s : ByteArray} {q : Bool} (h : bitsB (byL s) = q) (hs : s.size ≤ maxLen) (w : World) :
    Calls Tryd.prog 44 #[.string s] w fun e w' => e = .returned (.bool q) ∧ w = w' := by
  have H := Lib.hid h
  unfold maxLen at hs
  clear h
  go_enter Tryd.func44, Tryd.ntmps44
  go_wp2
  go_loop [3] (fun i => ∃ k : Nat, k ≤ s.size ∧ i = .int .i64 k ∧ Hid (bitsB ((byL s).take k) = true)) (fun i => s.size - (intOf i).toNat)
  case atStart => exact ⟨0, Nat.zero_le _, rfl, Lib.hid rfl⟩
  case round =>
    obtain ⟨k, hk, rfl, HK⟩ := hrel
    by_cases hlt : k < s.size
    · have hix : ∀ w, (Instr.index 9 (.string s) (.int .i64 k)).run Tryd.prog w = .ok (.int .u8 (bt s k)) w := fun w => index_bt Tryd.underlying9 hlt w
      have HN : Hid (bitsB ((byL s).take (k + 1)) = isBit (bt s k)) := Lib.hid (by rw [byL_take hlt, bitsB_app, HK.out]; simp [bitsB])
      have HF : Hid (isBit (bt s k) = false → false = q) := Lib.hid (fun hf => by
        rw [← H.out, ← List.take_append_drop (k + 1) (byL s), bitsB_app, HN.out, hf]; rfl)
      generalize bt s k = x at hix HN HF
      by_cases h0 : x = 48
      · subst h0
        go_wp2
        go_round
        case rel => exact ⟨k + 1, by omega, by go_num, Lib.hid (by rw [HN.out]; rfl)⟩
        case measure => simp [intOf]; omega
      · by_cases h1 : x = 49
        · subst h1
          go_wp2
          go_round
          case rel => exact ⟨k + 1, by omega, by go_num, Lib.hid (by rw [HN.out]; rfl)⟩
          case measure => simp [intOf]; omega
        · have e0 : (x != 48) = true := by simp [h0]
          have e1 : (x != 49) = true := by simp [h1]
          have HQ : Hid (false = q) := Lib.hid (HF.out (by unfold isBit; simp [h0, h1]))
          go_wp2
          go_ret
          exact ⟨fret_bool HQ.out, rfl⟩
    · obtain rfl : k = s.size := by omega
      have HQ : Hid (true = q) := Lib.hid (by rw [← H.out, ← HK.out, ← byL_len, List.take_length])
      go_wp2
      go_ret
      exact ⟨fret_bool HQ.out, rfl⟩

theorem sother_v {x : Int} (hx : isBit x = true) (w : World) :
    Calls Tryd.prog 48 #[.int .u8 x] w fun e w' => e = .returned (.int .u8 (oth x)) ∧ w = w' := by
  rw [isBit_iff] at hx
  rcases hx with rfl | rfl
  · go_enter Tryd.func48, Tryd.ntmps48
    go_wp2
    go_ret
    exact ⟨rfl, rfl⟩
  · go_enter Tryd.func48, Tryd.ntmps48
    go_wp2
    go_ret
    exact ⟨rfl, rfl⟩

set_option maxHeartbeats 1000000 in
theorem stail_v {v : Value} {L : List Int} {n : Nat} (h : (tl L).2 = n) (w : World) (hv : SlB w v L) :
    Calls Tryd.prog 47 #[v] w fun e w' => e = .returned (.int .i64 n) ∧ ∃ m, w' = w.drewN m := by
  obtain ⟨hm, ⟨rfl, A, cap, rfl⟩ | ⟨g, cap, rfl, hc⟩⟩ := hv
  · subst h
    go_enter Tryd.func47, Tryd.ntmps47
    go_wp2_with fail
    go_loopw [3, 4] (fun n i wr => n = .int .i64 0 ∧ i = .int .i64 (-1) ∧ wr = w) (fun _ _ _ => 0)
    case atStart => exact ⟨rfl, rfl, rfl⟩
    case round =>
      obtain ⟨rfl, rfl, rfl⟩ := hrel
      go_wp2_with fail
      go_quiet (fail)
      go_wp2
      go_ret
      exact ⟨rfl, _, rfl⟩
  · by_cases hL : L = []
    · subst hL
      subst h
      simp only [List.length_nil] at hc ⊢
      go_enter Tryd.func47, Tryd.ntmps47
      go_wp2_with fail
      go_loopw [3, 4] (fun n i wr => n = .int .i64 0 ∧ i = .int .i64 (-1) ∧ wr = w) (fun _ _ _ => 0)
      case atStart => exact ⟨rfl, rfl, rfl⟩
      case round =>
        obtain ⟨rfl, rfl, rfl⟩ := hrel
        go_wp2_with fail
        go_quiet (fail)
        go_wp2
        go_ret
        exact ⟨rfl, _, rfl⟩
    · obtain ⟨p, hp⟩ : ∃ p, L.length = p + 1 := ⟨L.length - 1, by cases L with | nil => exact absurd rfl hL | cons _ _ => simp⟩
      have HL := Lib.hid hp
      have HC := Lib.hid hc
      have H := Lib.hid h
      rw [hp] at hm ⊢
      clear hc h hL hp
      go_enter Tryd.func47, Tryd.ntmps47
      go_wp2_with fail
      go_loopw [3, 4] (fun n i wr => ∃ j m : Nat, m + j = p + 1 ∧ i = .int .i64 ((m : Int) - 1) ∧ n = .int .i64 j ∧ Hid (∀ x, m ≤ x → x < m + j → L.getD x 0 = L.getD p 0) ∧ ∃ d, wr = w.drewN d) (fun _ i _ => (intOf i + 1).toNat)
      case atStart => exact ⟨0, p + 1, rfl, by go_num, rfl, Lib.hid (fun x h1 h2 => by omega), 0, rfl⟩
      case round =>
        obtain ⟨j, m, hmj, rfl, rfl, HJ, d, rfl⟩ := hrel
        cases m with
        | zero =>
          obtain rfl : j = p + 1 := by omega
          have HQ : Hid (p + 1 = n) := Lib.hid (by rw [← H.out]; exact (tl_count (m := 0) (by rw [HL.out]; omega) (by omega) HJ.out (.inl rfl)).symm)
          go_wp2_with fail
          go_quiet (fail)
          go_wp2
          go_ret
          exact ⟨fret_int (by rw [← HQ.out]), _, drewN_two _ _ _⟩
        | succ k =>
          rw [show (((k + 1 : Nat) : Int) - 1) = (k : Int) by omega]
          have a0 : ∀ d : Nat, (w.drewN d).cell? ⟨g, k, none⟩ = some (.int .u8 (L.getD k 0)) := fun d => HC.out k (by rw [HL.out]; omega)
          have a1 : ∀ d : Nat, (w.drewN d).cell? ⟨g, p, none⟩ = some (.int .u8 (L.getD p 0)) := fun d => HC.out p (by rw [HL.out]; omega)
          have hk : k ≤ p := by omega
          have HJ1 : Hid (L.getD k 0 = L.getD p 0 → ∀ x, k ≤ x → x < k + (j + 1) → L.getD x 0 = L.getD p 0) := Lib.hid (fun e x h1 h2 => by
            by_cases hx : x = k
            · rw [hx]; exact e
            · exact HJ.out x (by omega) (by omega))
          have HQ : Hid (L.getD k 0 ≠ L.getD p 0 → j = n) := Lib.hid (fun e => by
            rw [← H.out]
            by_cases hj : j = 0
            · exfalso; exact e (by rw [show k = p by omega])
            · exact (tl_count (m := k + 1) (by rw [HL.out]; omega) (by omega) HJ.out (.inr e)).symm)
          have hkp : k = p ∨ k < p := by omega
          generalize L.getD k 0 = x at a0 HJ1 HQ
          generalize L.getD p 0 = y at a0 a1 HJ1 HQ HJ
          by_cases hxy : x = y
          · have HJ2 := Lib.hid (HJ1.out hxy)
            subst hxy
            go_wp2_with fail
            go_quiet (fail)
            go_wp2
            go_roundw
            case rel => exact ⟨j + 1, k, by omega, rfl, by go_num, HJ2, _, rfl⟩
            case measure => simp [intOf]
          · have HQ2 := Lib.hid (HQ.out hxy)
            have hne : (x == y) = false := by simp [hxy]
            go_wp2_with fail
            go_quiet (fail)
            go_wp2
            go_ret
            exact ⟨fret_int (by rw [HQ2.out]), _, drewN_two _ _ _⟩

end Go.Proofs.YtfooigckcjbegaaDoor

namespace Go.Proofs.YtfooigckcjbegaaDoor
open Go.RowKit
set_option linter.unusedVariables false

theorem isBy_bits {L : List Int} (h : bitsB L = true) : isBy L := fun x hx => by
  have := (isBit_iff x).1 ((List.all_eq_true.1 h) x hx)
  omega
theorem fret_str {a b : ByteArray} (h : a = b) : Ending.returned (.string a) = .returned (.string b) := by rw [h]

end Go.Proofs.YtfooigckcjbegaaDoor
