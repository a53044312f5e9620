/- Of no program: lists in memory: a slice that reads as a list of things of k cells each (whoever made it); a row of the call's own that gathers such; a strings.Builder of the call's own behind callees that make new memory. The document's Room, of layer 14 and of those behind it. Of no program: an argument that is a struct whose last field is a slice, all others without pointers. Frame: contracts of Key, Less. Frame: alive. Frame: the walk of FrameRight. Frame: the contract of the document's Bits. -/
import Derived.Test.YtmmcjmejcngajaaGreatDoorZaa
import Derived.Deep.AppendLies
import Derived.Maps.AppendAt
import Derived.OwnWalk
import Derived.Below
import Derived.Lib.OthersKept
import Derived.Deep.Draws
import Derived.Test.YtmmcjmejcngajaaGreatDoorZad
import Derived.OpenShut
import Derived.IntWalk
namespace Go.Proofs.YtmmcjmejcngajaaGreatDoor
open Go.RowKit
set_option linter.unusedVariables false

theorem addr_block (a : Addr) (n : Nat) : (a.add n).block = a.block := by unfold Addr.add; split <;> rfl
theorem addr_add (a : Addr) (i j : Nat) : (a.add i).add j = a.add (i + j) := by
  unfold Addr.add
  by_cases hi : i = 0
  · subst hi; simp
  · by_cases hj : j = 0
    · subst hj; simp [hi]
    · simp [hi, hj, Nat.add_assoc]
theorem addr_zero (b j : Nat) : (⟨b, 0, none⟩ : Addr).add j = ⟨b, j, none⟩ := by unfold Addr.add; split <;> simp_all

section
variable {α : Type} {c : α → List Value} {k : Nat} {w w' : World} {B B' : Nat} {v : Value} {L : List α}

/-- the slice v reads as L: element i's cells are c of it; all lies below block B -/
def SlG (c : α → List Value) (k : Nat) (w : World) (B : Nat) (v : Value) (L : List α) : Prop :=
  ∃ A cap, v = .slice A L.length cap ∧ L.length ≤ maxLen ∧ ∀ i a, L[i]? = some a → ∃ x, A = some x ∧ x.block < B ∧ ∀ j u, (c a)[j]? = some u → w.cell? (x.add (i * k + j)) = some u
theorem SlG.keep (h : SlG c k w B v L) (hk : ∀ p : Addr, p.block < B → w'.cell? p = w.cell? p) (hB : B ≤ B') : SlG c k w' B' v L := by
  obtain ⟨A, cap, hv, hm, hc⟩ := h
  refine ⟨A, cap, hv, hm, fun i a ha => ?_⟩
  obtain ⟨x, hx, hxb, hcell⟩ := hc i a ha
  exact ⟨x, hx, by omega, fun j u hu => (hk _ (by rw [addr_block]; exact hxb)).trans (hcell j u hu)⟩
theorem SlG.below (h : SlG c k w B v L) (hb : Below B w w') : SlG c k w' B v L := h.keep (fun p hp => hb.cell hp) (Nat.le_refl _)
theorem SlG.later (h : SlG c k w w.heap.size v L) (hb : Below w.heap.size w w') : SlG c k w' w'.heap.size v L := h.keep (fun p hp => hb.cell hp) hb.size
theorem SlG.drewN (h : SlG c k w B v L) (n : Nat) : SlG c k (w.drewN n) B v L := h
theorem SlG.nil (c : α → List Value) (k : Nat) (w : World) (B : Nat) : SlG c k w B (.slice none 0 0) [] := ⟨none, 0, rfl, Nat.zero_le _, fun i a h => by simp at h⟩
/-- element i, if there is one: the slice has an address, and the element's cells lie behind it -/
theorem SlG.at_ (h : SlG c k w B v L) {i : Nat} (hi : i < L.length) : ∃ x cap, v = .slice (some x) L.length cap ∧ x.block < B ∧ ∀ j u, (c (L[i]'hi))[j]? = some u → w.cell? ((x.add (i * k)).add j) = some u := by
  obtain ⟨A, cap, hv, hm, hc⟩ := h
  obtain ⟨x, hx, hxb, hcell⟩ := hc i _ (List.getElem?_eq_getElem hi)
  subst hx
  exact ⟨x, cap, hv, hxb, fun j u hu => by rw [addr_add]; exact hcell j u hu⟩

/-- an argument: what 'open_slice_flat' hands over, as a list -/
theorem slice_of_row {s : List Sh} {a : Option Addr} {len cap : Nat} {R : Nat → List Value} (h : IsRowOf w s a len cap R) (f : List Value → α) (hc : ∀ l, FitsAll s l → c (f l) = l) (hs : s.length = k) (h0 : 0 < k) :
    ∃ L : List α, SlG c k w w.heap.size (.slice a len cap) L ∧ L.length = len ∧ ∀ x ∈ L, FitsAll s (c x) := by
  rcases h with ⟨rfl, rfl, rfl⟩ | ⟨x, rfl, hl, hm, hcell⟩
  · exact ⟨[], SlG.nil _ _ _ _, rfl, fun x hx => by cases hx⟩
  · refine ⟨(List.range len).map fun i => f (R i), ⟨some x, cap, by simp, by simp; omega, fun i b hb => ?_⟩, by simp, fun y hy => ?_⟩
    · have hi : i < len := by
        rcases Nat.lt_or_ge i len with h | h
        · exact h
        · rw [List.getElem?_eq_none (by simpa using h)] at hb; cases hb
      have hb' : b = f (R i) := by
        rw [List.getElem?_eq_getElem (by simpa using hi)] at hb
        simpa using hb.symm
      subst hb'
      obtain ⟨hf, hcs⟩ := hcell i (by omega)
      have hlen := hf.length
      have h00 := hcs 0 (by omega)
      rw [List.getElem?_eq_getElem (by omega)] at h00
      refine ⟨x, rfl, ?_, fun j u hu => ?_⟩
      · have := World.block_lt_of_cell? w _ h00
        rwa [addr_block] at this
      · rw [hc _ hf] at hu
        have hj : j < s.length := by
          rcases Nat.lt_or_ge j s.length with h | h
          · exact h
          · rw [List.getElem?_eq_none (by rw [hlen]; exact h)] at hu; cases hu
        rw [← hs, hcs j hj]
        exact hu
    · obtain ⟨i, hi, rfl⟩ := List.mem_map.1 hy
      have hi' := List.mem_range.1 hi
      have hf := (hcell i (by omega)).1
      rw [hc _ hf]
      exact hf

/-! ### a row of the call's own -/
def rowG (c : α → List Value) (L : List α) : List Value := L.flatMap c
theorem rowG_app (a b : List α) : rowG c (a ++ b) = rowG c a ++ rowG c b := by simp [rowG]
theorem rowG_one (a : α) : rowG c [a] = c a := by simp [rowG]
theorem rowG_length (hk : ∀ a, (c a).length = k) : ∀ L : List α, (rowG c L).length = L.length * k
  | [] => by simp [rowG]
  | a :: L => by
    have := rowG_length hk L
    simp only [rowG, List.flatMap_cons, List.length_append, hk, List.length_cons] at this ⊢
    rw [this, Nat.add_mul]; omega
theorem rowG_get (hk : ∀ a, (c a).length = k) : ∀ (L : List α) (i : Nat) (a : α), L[i]? = some a → ∀ j u, (c a)[j]? = some u → (rowG c L)[i * k + j]? = some u
  | [], i, a, h, _, _, _ => by simp at h
  | b :: L, 0, a, h, j, u, hu => by
    simp only [List.getElem?_cons_zero, Option.some.injEq] at h
    subst h
    have hj : j < (c b).length := by
      rcases Nat.lt_or_ge j (c b).length with h | h
      · exact h
      · rw [List.getElem?_eq_none h] at hu; cases hu
    simp only [rowG, List.flatMap_cons, Nat.zero_mul, Nat.zero_add]
    rw [List.getElem?_append_left hj]; exact hu
  | b :: L, i + 1, a, h, j, u, hu => by
    simp only [List.getElem?_cons_succ] at h
    have := rowG_get hk L i a h j u hu
    simp only [rowG, List.flatMap_cons] at this ⊢
    rw [List.getElem?_append_right (by rw [hk, Nat.add_mul]; omega), hk, show (i + 1) * k + j - k = i * k + j by rw [Nat.add_mul]; omega]
    exact this

/-- what a loop that gathers knows: B: the heap's size when the call began, in world w0 -/
def GathG (E : TypeId) (c : α → List Value) (k : Nat) (B : Nat) (w0 : World) (v : Value) (L : List α) (wr : World) : Prop :=
  wr.ownsRow B E k v L.length (rowG c L) ∧ Below B w0 wr ∧ B ≤ wr.heap.size
variable {E : TypeId} {w0 wr w1 : World}
theorem GathG.start (E : TypeId) (c : α → List Value) (k : Nat) (w : World) : GathG E c k w.heap.size w (.slice none 0 0) [] w := ⟨World.ownsRow_nil _ _ _ _, Below.refl _ _, Nat.le_refl _⟩
theorem ownG_below {base : Nat} {e : TypeId} {size n : Nat} {xs : List Value} (h : w.ownsRow base e size v n xs) (hb : Below w.heap.size w w') : w'.ownsRow base e size v n xs := by
  refine ⟨h.1, ?_⟩
  rcases h.2 with hn | ⟨g, cap, cur, rfl, hbg, hg, rest⟩
  · exact .inl hn
  · exact .inr ⟨g, cap, cur, rfl, hbg, (hb.block g (Array.getElem?_eq_some_iff.1 hg).1).trans hg, rest⟩
theorem GathG.later (h : GathG E c k B w0 v L wr) (hb : Below wr.heap.size wr w1) : GathG E c k B w0 v L w1 :=
  ⟨ownG_below h.1 hb, h.2.1.trans (hb.mono h.2.2), Nat.le_trans h.2.2 hb.size⟩
theorem GathG.alloc (h : GathG E c k B w0 v L wr) (o : Obj) : GathG E c k B w0 v L (wr.alloc o) := h.later ((Below.refl _ _).alloc (Nat.le_refl _) o)
theorem GathG.drewN (h : GathG E c k B w0 v L wr) (n : Nat) : GathG E c k B w0 v L (wr.drewN n) := ⟨h.1, ⟨h.2.1.os, h.2.1.tape, h.2.1.output, h.2.1.size, h.2.1.block⟩, h.2.2⟩
/-- one thing more, behind the append -/
theorem GathG.snoc {v' : Value} {a : α} {o : Obj} (h : GathG E c k B w0 v L wr) (hown : w1.ownsRow B E k v' (L.length + 1) (rowG c L ++ c a)) (hgr : (wr.alloc o).grownBy w1 v.ownBlock) : GathG E c k B w0 v' (L ++ [a]) w1 := by
  obtain ⟨h1, h2, h3⟩ := h
  refine ⟨by rw [List.length_append, rowG_app, rowG_one]; exact hown, (h2.alloc h3 _).grown hgr (by simp; omega) ?_, ?_⟩
  · intro k hk
    rcases h1.2 with ⟨rfl, _⟩ | ⟨g, cap, cur, rfl, hg, _⟩
    · cases hk
    · cases hk; exact hg
  · have := hgr.size; simp at this; omega
theorem GathG.slice (hk : ∀ a, (c a).length = k) (hk0 : 0 < k) (h : GathG E c k B w0 v L wr) (hm : L.length ≤ maxLen) : SlG c k wr wr.heap.size v L := by
  obtain ⟨h1, _, _⟩ := h
  rcases h1.2 with ⟨rfl, hn⟩ | ⟨g, cap, cur, rfl, hbg, hg, rest⟩
  · have : L = [] := by
      cases L with
      | nil => rfl
      | cons a L =>
        have := rowG_length hk (a :: L)
        have h2 := h1.1
        simp at hn
    subst this
    exact SlG.nil _ _ _ _
  · refine ⟨some ⟨g, 0, none⟩, cap, rfl, hm, fun i a ha => ⟨_, rfl, (Array.getElem?_eq_some_iff.1 hg).1, fun j u hu => ?_⟩⟩
    exact h1.cells (g := g) rfl _ _ (rowG_get hk L i a ha j u hu)

/-! ### a builder of the call's own -/
theorem builder_below {T e : TypeId} {b : Nat} {bs : List Value} (h : Lib.IsBuilder T e B b bs w) (hb : Below w.heap.size w w') : Lib.IsBuilder T e B b bs w' := by
  have one : ∀ p, Lib.BuilderAt T e B b p bs w → Lib.BuilderAt T e B b p bs w' := by
    rintro p ⟨h1, v, h2, h3, h4⟩
    exact ⟨h1, v, (hb.block b (Array.getElem?_eq_some_iff.1 h2).1).trans h2, ownG_below h3 hb, h4⟩
  rcases h with h | h
  · exact .inl (one _ h)
  · exact .inr (one _ h)
theorem byteCells_str (l : List UInt8) (s : ByteArray) : Lib.byteCells l ++ Lib.strCells s = Lib.byteCells (l ++ s.data.toList) := by
  unfold Lib.byteCells Lib.strCells
  rw [List.map_append]
end

end Go.Proofs.YtmmcjmejcngajaaGreatDoor

namespace Go.Proofs.YtmmcjmejcngajaaGreatDoor
open Go.RowKit
set_option linter.unusedVariables false

def roomN (n : Int) : Int := if n < 1 then 1 else if 1000 < n then 1000 else n
theorem roomN_rng (n : Int) : 1 ≤ roomN n ∧ roomN n ≤ 1000 := by unfold roomN; split <;> (try split) <;> omega
set_option maxHeartbeats 1000000 in
theorem xroom_v {n r : Int} (h : roomN n = r) (w : World) : Calls Tryz.prog 21 #[.int .i64 n] w fun e w' => e = .returned (.int .i64 r) ∧ w = w' := by
  unfold roomN at h
  by_cases h1 : n < 1
  · rw [if_pos h1] at h
    subst h
    have hd : decide (n < 1) = true := decide_eq_true h1
    go_enter Tryz.func21, Tryz.ntmps21
    go_wp2
    go_ret
    exact ⟨rfl, rfl⟩
  · rw [if_neg h1] at h
    have hd : decide (n < 1) = false := decide_eq_false h1
    by_cases h2 : 1000 < n
    · rw [if_pos h2] at h
      subst h
      have hd2 : decide (1000 < n) = true := decide_eq_true h2
      clear h1 h2
      go_enter Tryz.func21, Tryz.ntmps21
      go_wp2
      go_ret
      exact ⟨rfl, rfl⟩
    · rw [if_neg h2] at h
      subst h
      have hd2 : decide (1000 < n) = false := decide_eq_false h2
      clear h1 h2
      go_enter Tryz.func21, Tryz.ntmps21
      go_wp2
      go_ret
      exact ⟨rfl, rfl⟩
end Go.Proofs.YtmmcjmejcngajaaGreatDoor

namespace Go.Proofs.YtmmcjmejcngajaaGreatDoor
open Go.RowKit Go.ChangeShapes Go.WideShapes Go.Deep
set_option linter.unusedVariables false

section
variable {H : Type} {enc : TypeId × Value → H} {P : Program} {w : World} {base : Nat} {held : Bool}
theorem goSh_fits2 {sub : TypeId → Option (List Sh)} {cs : List Value} : ∀ (fs : List Field) (off : Nat) (s : List Sh), goSh P sub off fs = some s →
    (∀ f ∈ fs, ∀ s', sub f.type = some s' → FitsAll s' ((cs.drop f.offset).take (P.cellsOf f.type))) → off + s.length ≤ cs.length → FitsAll s ((cs.drop off).take s.length)
  | [], off, s, h, _, hl => by
    cases h
    trivial
  | f :: fs, off, s, h, hf, hl => by
    unfold goSh at h
    obtain ⟨s1, h1, h2⟩ := Option.bind_eq_some_iff.1 h
    split at h2
    · rename_i hc
      obtain ⟨s2, h3, rfl⟩ := Option.map_eq_some_iff.1 h2
      have a1 := hf f (List.mem_cons_self ..) s1 h1
      have a2 := goSh_fits2 fs (off + s1.length) s2 h3 (fun g hg => hf g (List.mem_cons_of_mem _ hg)) (by simp at hl; omega)
      rw [hc.1, ← hc.2] at a1
      rw [List.length_append, List.take_add, List.drop_drop]
      exact a1.app a2
    · cases h2
theorem slice_of_trod {k n : Nat} {t e : TypeId} {cs : List Value} {x : DataW H × List MemPlace} {s : List Sh} (ht : P.underlying t = some (.slice e)) (hsh : shapeOf P k e = some s) (hc : P.cellsOf e = s.length)
    (hn : DataW.trod enc P w base (fun _ => true) held n t cs = some x) : ∃ a len cap F, cs = [.slice a len cap] ∧ IsRowOf w s a len cap F := by
  rcases Go.Deep.open_slice ht hn with ⟨hcs, _⟩ | ⟨x, len, cap, m, n', D, Pl, hcs, hb, hl, hm, hmm, hx, hi⟩
  · exact ⟨none, 0, 0, fun _ => [], hcs, .inl ⟨rfl, rfl, rfl⟩⟩
  · have hmc : m = cap := by simpa using hmm
    subst hmc
    refine ⟨some x, len, m, fun i => if h : i < m then (hi i h).choose else [], hcs, .inr ⟨x, rfl, hl, hm, fun i h => ?_⟩⟩
    simp only [h, dif_pos]
    have hsp := (hi i h).choose_spec
    refine ⟨fits_of k e n' s _ _ hsh hsp.2, fun j hj => ?_⟩
    have := (World.cells?_some hsp.1).2.2 j (by omega)
    rw [Go.Deep.add_add] at this
    rw [← hc]
    exact this
theorem open_flat_slice {r : Reach} {b0 k : Nat} {t e : TypeId} {fs : Array Field} {gs : List Field} {f : Field} {v : Value} {d : DataW H} {p : List MemPlace} {s0 s : List Sh} (hs : P.underlying t = some (.struct fs)) (hg : fs.toList = gs ++ [f]) (h0 : goSh P (shapeOf P k) 0 gs = some s0)
    (ho : f.offset = s0.length) (h1 : P.cellsOf f.type = 1) (ht : P.cellsOf t = s0.length + 1) (hf : P.underlying f.type = some (.slice e)) (hsh : shapeOf P k e = some s) (hc : P.cellsOf e = s.length)
    (hv : Value.okWide P w r b0 t v) (h : DataW.Trod enc P w base (fun _ => true) held t v d p) : ∃ (l : List Value) (a : Option Addr) (len cap : Nat) (F : Nat → List Value), v = .agg (l ++ [Value.slice a len cap]).toArray ∧ FitsAll s0 l ∧ IsRowOf w s a len cap F := by
  obtain ⟨cs, rfl, hcz⟩ := okWide_struct hs hv
  obtain ⟨n, hn⟩ := h
  have hn : DataW.trod enc P w base (fun _ => true) held n t cs.toList = some (d, p) := by simpa [Value.cells] using hn
  obtain ⟨xs, m, _, _, hl, hxl, hx⟩ := DataW.trod_struct hs hn
  have fld : ∀ (j : Nat) (g : Field), fs[j]? = some g → ∃ y, DataW.trod enc P w base (fun _ => true) held m g.type ((cs.toList.drop g.offset).take (P.cellsOf g.type)) = some y := fun j g hj => by
    have hj2 : j < fs.size := (Array.getElem?_eq_some_iff.1 hj).1
    exact ⟨_, (hx j g hj).trans (List.getElem?_eq_getElem (by omega))⟩
  have a1 := goSh_fits2 (P := P) (sub := shapeOf P k) (cs := cs.toList) gs 0 s0 h0 (fun g hgm s1 hs1 => by
    obtain ⟨j, hj, hjf⟩ := List.getElem_of_mem hgm
    have hjf' : fs[j]? = some g := by rw [← Array.getElem?_toList, hg, List.getElem?_append_left hj, List.getElem?_eq_getElem hj, hjf]
    obtain ⟨y, hy⟩ := fld j g hjf'
    exact fits_of k g.type m s1 _ _ hs1 hy) (by omega)
  have hfl : fs[gs.length]? = some f := by rw [← Array.getElem?_toList, hg]; simp
  obtain ⟨y, hy⟩ := fld gs.length f hfl
  obtain ⟨a, len, cap, F, e1, e2⟩ := slice_of_trod hf hsh hc hy
  refine ⟨(cs.toList.drop 0).take s0.length, a, len, cap, F, ?_, a1, e2⟩
  rw [ho, h1] at e1
  congr 1
  have e3 : cs.toList = cs.toList.take s0.length ++ cs.toList.drop s0.length := (List.take_append_drop _ _).symm
  have e4 : (cs.toList.drop s0.length).take 1 = cs.toList.drop s0.length := List.take_of_length_le (by simp; simp at hl; omega)
  rw [e4] at e1
  rw [List.drop_zero, ← e1, ← e3]
theorem open_last_slice {r : Reach} {b0 k : Nat} {t ft e : TypeId} {fs : Array Field} {v : Value} {d : DataW H} {p : List MemPlace} {s0 s : List Sh} (hs : P.underlying t = some (.struct fs)) (h0 : goSh P (shapeOf P k) 0 fs.toList.dropLast = some s0)
    (hl : (fs.toList.getLast?).map (fun f => (f.offset, f.type)) = some (s0.length, ft)) (h1 : P.cellsOf ft = 1) (ht : P.cellsOf t = s0.length + 1) (hf : P.underlying ft = some (.slice e)) (hsh : shapeOf P k e = some s) (hc : P.cellsOf e = s.length)
    (hv : Value.okWide P w r b0 t v) (h : DataW.Trod enc P w base (fun _ => true) held t v d p) : ∃ (l : List Value) (a : Option Addr) (len cap : Nat) (F : Nat → List Value), v = .agg (l ++ [Value.slice a len cap]).toArray ∧ FitsAll s0 l ∧ IsRowOf w s a len cap F := by
  obtain ⟨f, e1, e2⟩ := Option.map_eq_some_iff.1 hl
  injection e2 with e2 e3
  subst e3
  have hne : fs.toList ≠ [] := fun h => by rw [h] at e1; cases e1
  have hg : fs.toList = fs.toList.dropLast ++ [f] := by
    rw [List.getLast?_eq_some_getLast hne] at e1
    injection e1 with e1
    rw [← e1, List.dropLast_concat_getLast]
  exact open_flat_slice hs hg h0 e2 h1 ht hf hsh hc hv h
end
end Go.Proofs.YtmmcjmejcngajaaGreatDoor

namespace Go.Proofs.YtmmcjmejcngajaaGreatDoor
open Go.RowKit
set_option linter.unusedVariables false

/-- -1, or a frame's key -/
def keyV (i n l : Int) (sz : Nat) : Int := if okF i n l sz && !fX n then keyN i n else -1

set_option maxHeartbeats 2000000 in
theorem key_no {i n l : Int} {d : ByteArray} (h : (okF i n l d.size && !fX n) = false) (w : World) (hT : Tabs w) (hn1 : -9223372036854775808 ≤ n) (hn2 : n ≤ 9223372036854775807) :
    Calls Tryz.prog 59 #[.agg #[.int .i64 i, .int .i64 n, .int .i64 l, .string d]] w fun e w' => e = .returned (.int .i64 (-1)) ∧ Below w.heap.size w w' := by
  have HT := Lib.hid hT
  clear hT
  cases ho : okF i n l d.size
  · have H := Lib.hid ho
    clear h ho
    go_enter Tryz.func59, Tryz.ntmps59
    go_wp2_with fail
    refine (right_f H.out _ (HT.out.alloc _) hn1 hn2).mono ?_
    rintro e w1 ⟨rfl, hb⟩
    go_wp2
    go_ret
    exact ⟨rfl, fbelow_a _ hb⟩
  · have H := Lib.hid ho
    have hx : fX n = true := by rw [ho] at h; simpa using h
    have a4 := and4_t hx
    clear h ho hx
    go_enter Tryz.func59, Tryz.ntmps59
    go_wp2_with fail
    refine (right_t H.out _ (HT.out.alloc _)).mono ?_
    rintro e w1 ⟨rfl, hb⟩
    obtain ⟨hc, hf⟩ := fbcell hb
    go_wp2
    go_ret
    exact ⟨rfl, fbelow_a _ hb⟩

theorem wraps_i64 (n : Int) (h₀ : 0 ≤ n) (h₁ : n < 2 ^ 63) : IntKind.i64.wrap n = n := by rw [IntKind.wrap_i64]; omega
theorem or_join (x y : Int) (i : Nat) (hx₀ : 0 ≤ x) (hx : x % 2 ^ i = 0) (hx₁ : x < 9223372036854775808) (hy₀ : 0 ≤ y) (hy : y < 2 ^ i) (hy₁ : y < 9223372036854775808) : bits .or .i64 x y = x + y :=
  bits_join .i64 63 (by decide) wraps_i64 i x y hx₀ hx (by omega) hy₀ hy (by omega)
theorem narrow_or (i R D : Int) (i0 : 0 ≤ i) (i1 : i ≤ 2047) (r0 : 0 ≤ R) (r1 : R ≤ 1) (d0 : 0 ≤ D) (d1 : D ≤ 1) :
    bits .or .i64 (bits .or .i64 (i * 4194304) (R * 2097152)) D = i * 4194304 + R * 2097152 + D := by
  rw [or_join (i * 4194304) (R * 2097152) 22 (by omega) (by omega) (by omega) (by omega) (by omega) (by omega)]
  exact or_join _ D 1 (by omega) (by omega) (by omega) d0 (by omega) (by omega)
theorem wide_or (a b R D : Int) (a0 : 0 ≤ a) (a1 : a ≤ 2047) (b0 : 0 ≤ b) (b1 : b < 262144) (r0 : 0 ≤ R) (r1 : R ≤ 1) (d0 : 0 ≤ D) (d1 : D ≤ 1) :
    bits .or .i64 (bits .or .i64 (bits .or .i64 (bits .or .i64 (a * 4194304) 3145728) (b * 4)) (R * 2)) D = a * 4194304 + 3145728 + b * 4 + R * 2 + D := by
  rw [or_join (a * 4194304) 3145728 22 (by omega) (by omega) (by omega) (by omega) (by omega) (by omega)]
  rw [or_join (a * 4194304 + 3145728) (b * 4) 20 (by omega) (by omega) (by omega) (by omega) (by omega) (by omega)]
  rw [or_join (a * 4194304 + 3145728 + b * 4) (R * 2) 2 (by omega) (by omega) (by omega) (by omega) (by omega) (by omega)]
  exact or_join _ D 1 (by omega) (by omega) (by omega) d0 (by omega) (by omega)
theorem and18 (x : Int) (h0 : 0 ≤ x) (h1 : x ≤ 536870911) : bits .and .i64 x 262143 = x % 262144 :=
  bits_mask .i64 63 (by decide) wraps_i64 18 (by decide) x h0 (by omega)
theorem b01_bd (q : Bool) : 0 ≤ b01 q ∧ b01 q ≤ 1 := by cases q <;> decide
theorem one2_v {n R : Int} (h : b01 (fR n) = R) (w : World) :
    Calls Tryz.prog 78 #[.int .i64 n, .int .i64 2] w fun e w' => e = .returned (.int .i64 R) ∧ w' = w := by rw [← h]; exact (one2_any n w).mono fun _ _ ⟨h1, h2⟩ => ⟨h1, h2.symm⟩
theorem one8_v {n R : Int} (h : b01 (fD n) = R) (w : World) :
    Calls Tryz.prog 78 #[.int .i64 n, .int .i64 8] w fun e w' => e = .returned (.int .i64 R) ∧ w' = w := by rw [← h]; exact (one8_any n w).mono fun _ _ ⟨h1, h2⟩ => ⟨h1, h2.symm⟩

set_option maxHeartbeats 2000000 in
theorem key_n {i n l : Int} {d : ByteArray} (h : okF i n l d.size = true) (hx : fX n = false) (he : fE n = false) (w : World) (hT : Tabs w) :
    Calls Tryz.prog 59 #[.agg #[.int .i64 i, .int .i64 n, .int .i64 l, .string d]] w fun e w' => e = .returned (.int .i64 (i * 4194304 + b01 (fR n) * 2097152 + b01 (fD n))) ∧ Below w.heap.size w w' := by
  have HT := Lib.hid hT
  have H := Lib.hid h
  have g := good h
  have i0 := g.i0
  have i1 : i ≤ 2047 := by have := g.i1; rw [topN_v he hx] at this; simpa using this
  have a4 := and4_f hx
  have a1 := and1_f he
  obtain ⟨R, hR⟩ : ∃ R, b01 (fR n) = R := ⟨_, rfl⟩
  obtain ⟨D, hD⟩ : ∃ D, b01 (fD n) = D := ⟨_, rfl⟩
  have r0 : 0 ≤ R := by rw [← hR]; exact (b01_bd _).1
  have r1 : R ≤ 1 := by rw [← hR]; exact (b01_bd _).2
  have d0 : 0 ≤ D := by rw [← hD]; exact (b01_bd _).1
  have d1 : D ≤ 1 := by rw [← hD]; exact (b01_bd _).2
  rw [hR, hD]
  have HR := Lib.hid hR
  have HD := Lib.hid hD
  clear hT h g hx he hR hD
  go_enter Tryz.func59, Tryz.ntmps59
  go_wp2_with fail
  refine (right_t H.out _ (HT.out.alloc _)).mono ?_
  rintro e w1 ⟨rfl, hb⟩
  obtain ⟨hc, hf⟩ := fbcell hb
  go_wp2_with fail
  refine wp_region_quiet_lit (by kernel_rfl) (by kernel_rfl) ?_
  repeat (go_big_quiet_step (fail))
  go_big_quiet_step (exact Calls.quiet_of_same (one2_v HR.out _))
  repeat (go_big_quiet_step (fail))
  go_big_quiet_step (exact Calls.quiet_of_same (one8_v HD.out _))
  repeat (go_big_quiet_step (fail))
  refine wpQuiet_nil ?_
  rintro _ ⟨nq, rfl⟩
  go_wp2
  go_ret
  exact ⟨fret_int (narrow_or i R D i0 i1 r0 r1 d0 d1), below_drewN (fbelow_a _ hb) _⟩

set_option maxHeartbeats 2000000 in
theorem key_w {i n l : Int} {d : ByteArray} (h : okF i n l d.size = true) (hx : fX n = false) (he : fE n = true) (w : World) (hT : Tabs w) :
    Calls Tryz.prog 59 #[.agg #[.int .i64 i, .int .i64 n, .int .i64 l, .string d]] w fun e w' => e = .returned (.int .i64 (i / 262144 * 4194304 + 3145728 + i % 262144 * 4 + b01 (fR n) * 2 + b01 (fD n))) ∧ Below w.heap.size w w' := by
  have HT := Lib.hid hT
  have H := Lib.hid h
  have g := good h
  have i0 := g.i0
  have i1 := g.top
  have a18 := and18 i i0 i1
  have ia : 0 ≤ i / 262144 := by omega
  have ib : i / 262144 ≤ 2047 := by omega
  have ic : 0 ≤ i % 262144 := by omega
  have id : i % 262144 < 262144 := by omega
  have a4 := and4_f hx
  have a1 := and1_t he
  obtain ⟨R, hR⟩ : ∃ R, b01 (fR n) = R := ⟨_, rfl⟩
  obtain ⟨D, hD⟩ : ∃ D, b01 (fD n) = D := ⟨_, rfl⟩
  have r0 : 0 ≤ R := by rw [← hR]; exact (b01_bd _).1
  have r1 : R ≤ 1 := by rw [← hR]; exact (b01_bd _).2
  have d0 : 0 ≤ D := by rw [← hD]; exact (b01_bd _).1
  have d1 : D ≤ 1 := by rw [← hD]; exact (b01_bd _).2
  rw [hR, hD]
  have HR := Lib.hid hR
  have HD := Lib.hid hD
  clear hT h g hx he hR hD
  go_enter Tryz.func59, Tryz.ntmps59
  go_wp2_with fail
  refine (right_t H.out _ (HT.out.alloc _)).mono ?_
  rintro e w1 ⟨rfl, hb⟩
  obtain ⟨hc, hf⟩ := fbcell hb
  go_wp2_with fail
  refine wp_region_quiet_lit (by kernel_rfl) (by kernel_rfl) ?_
  repeat (go_big_quiet_step (fail))
  go_big_quiet_step (exact Calls.quiet_of_same (one2_v HR.out _))
  repeat (go_big_quiet_step (fail))
  go_big_quiet_step (exact Calls.quiet_of_same (one8_v HD.out _))
  repeat (go_big_quiet_step (fail))
  refine wpQuiet_nil ?_
  rintro _ ⟨nq, rfl⟩
  go_wp2_with fail
  go_quiet (fail)
  go_wp2
  go_ret
  exact ⟨fret_int (wide_or _ _ R D ia ib ic id r0 r1 d0 d1), below_drewN (fbelow_a _ hb) _⟩

theorem key_any {i n l : Int} {d : ByteArray} (w : World) (hT : Tabs w) (hn1 : -9223372036854775808 ≤ n) (hn2 : n ≤ 9223372036854775807) :
    Calls Tryz.prog 59 #[.agg #[.int .i64 i, .int .i64 n, .int .i64 l, .string d]] w fun e w' => e = .returned (.int .i64 (keyV i n l d.size)) ∧ Below w.heap.size w w' := by
  unfold keyV
  cases h : (okF i n l d.size && !fX n)
  · exact key_no h w hT hn1 hn2
  · simp only [Bool.and_eq_true, Bool.not_eq_true'] at h
    unfold keyN
    cases he : fE n
    · exact key_n h.1 h.2 he w hT
    · exact key_w h.1 h.2 he w hT
theorem key_v {i n l v : Int} {d : ByteArray} (h : keyV i n l d.size = v) (w : World) (hT : Tabs w) (hn1 : -9223372036854775808 ≤ n) (hn2 : n ≤ 9223372036854775807) :
    Calls Tryz.prog 59 #[.agg #[.int .i64 i, .int .i64 n, .int .i64 l, .string d]] w fun e w' => e = .returned (.int .i64 v) ∧ Below w.heap.size w w' := by
  rw [← h]; exact key_any w hT hn1 hn2

/-! ### Less -/
def lessB (a b : Int) : Bool := decide (0 ≤ a) && decide (a < b)
set_option maxHeartbeats 2000000 in
theorem less_v {i n l i' n' l' a b : Int} {d d' : ByteArray} {q : Bool} (ha : keyV i n l d.size = a) (hb : keyV i' n' l' d'.size = b) (hq : lessB a b = q) (w : World) (hT : Tabs w)
    (hn1 : -9223372036854775808 ≤ n) (hn2 : n ≤ 9223372036854775807) (hm1 : -9223372036854775808 ≤ n') (hm2 : n' ≤ 9223372036854775807) :
    Calls Tryz.prog 85 #[.agg #[.int .i64 i, .int .i64 n, .int .i64 l, .string d], .agg #[.int .i64 i', .int .i64 n', .int .i64 l', .string d']] w fun e w' => e = .returned (.bool q) ∧ Below w.heap.size w w' := by
  have HT := Lib.hid hT
  have HA := Lib.hid ha
  have HB := Lib.hid hb
  have HQ := Lib.hid hq
  clear hT ha hb hq
  by_cases h0 : 0 ≤ a
  · go_enter Tryz.func85, Tryz.ntmps85
    go_wp2_with fail
    refine (key_v HA.out _ ((HT.out.alloc _).alloc _) hn1 hn2).mono ?_
    rintro e w1 ⟨rfl, hb1⟩
    obtain ⟨hc1, hf1⟩ := fbcell hb1
    go_wp2_with fail
    refine (key_v HB.out _ (((HT.out.alloc _).alloc _).below hb1) hm1 hm2).mono ?_
    rintro e w2 ⟨rfl, hb2⟩
    go_wp2
    go_ret
    exact ⟨fret_bool (by rw [← HQ.out]; unfold lessB; rw [decide_eq_true h0]; rfl), fbelow_t (fbelow_a _ (fbelow_a _ hb1)) hb2⟩
  · have t0 : decide (0 ≤ a) = false := by simp; omega
    go_enter Tryz.func85, Tryz.ntmps85
    go_wp2_with fail
    refine (key_v HA.out _ ((HT.out.alloc _).alloc _) hn1 hn2).mono ?_
    rintro e w1 ⟨rfl, hb1⟩
    go_wp2
    go_ret
    exact ⟨fret_bool (by rw [← HQ.out]; unfold lessB; rw [t0]; rfl), fbelow_a _ (fbelow_a _ hb1)⟩

end Go.Proofs.YtmmcjmejcngajaaGreatDoor

namespace Go.Proofs.YtmmcjmejcngajaaGreatDoor
open Go.RowKit
set_option linter.unusedVariables false

def s12 : ByteArray := ⟨#[1, 2]⟩
/-! ### FrameSizes -/
theorem codeN_bd (n : Int) : -1 ≤ codeN n ∧ codeN n < 16 := by unfold codeN; (repeat' split) <;> omega
theorem code_vt {n c : Int} (h : codeN n = c) (h0 : 0 ≤ c) (w : World) (hT : Tabs w) :
    Calls Tryz.prog 99 #[.int .i64 n] w fun e w' => e = .returned (.tuple #[.int .i64 c, .bool true]) ∧ Below w.heap.size w w' := by
  rw [← h]; exact code_t n w hT (by unfold isLen; rw [h]; simpa using h0)
theorem code_vf {n c : Int} (h : codeN n = c) (h0 : c < 0) (w : World) (hT : Tabs w) :
    Calls Tryz.prog 99 #[.int .i64 n] w fun e w' => e = .returned (.tuple #[.int .i64 0, .bool false]) ∧ Below w.heap.size w w' :=
  code_f n w hT (by unfold isLen; rw [h]; simpa using h0)
theorem rcode_v {n c : Int} (h : codeN n = c) (w : World) :
    Calls Tryz.prog 86 #[.int .i64 n] w fun e w' => e = .returned (.int .i64 c) ∧ Below w.heap.size w w' := by rw [← h]; exact rcode_any n w
theorem lens_nn : ∀ k : Fin 16, 0 ≤ lens.getD k.val 0 := by decide
theorem rsizes_v {k : Nat} {s : Int} (h : lenAt k = s) (hk : k < 16) (w : World) :
    Calls Tryz.prog 96 #[] w fun e w' => e = .returned (.slice (some ⟨w.heap.size, 0, none⟩) 16 16) ∧ w'.cell? ⟨w.heap.size, k, none⟩ = some (.int .i64 s) ∧ Below w.heap.size w w' := by
  rw [← h]; exact (rsizes_any w).mono fun _ _ ⟨h1, h2, h3⟩ => ⟨h1, h2 k hk, h3⟩

theorem codeN_len {k : Nat} (hk : k < 16) : codeN (lenAt k) = k := code_at ⟨k, hk⟩
end Go.Proofs.YtmmcjmejcngajaaGreatDoor

namespace Go.Proofs.YtmmcjmejcngajaaGreatDoor
open Go.RowKit
set_option linter.unusedVariables false

theorem Later.tabs {W : World} (n : Later W) (h : Tabs W) : Tabs n.w := h.below n.h

end Go.Proofs.YtmmcjmejcngajaaGreatDoor

namespace Go.Proofs.YtmmcjmejcngajaaGreatDoor
open Go.RowKit
set_option linter.unusedVariables false

/-- n, halved k times -/
def hv (n : Int) (k : Nat) : Int := n / 2 ^ k
theorem hv_zero (n : Int) : hv n 0 = n := by unfold hv; simp
theorem hv_succ (n : Int) (k : Nat) : hv n (k + 1) = hv n k / 2 := by
  unfold hv
  rw [Int.pow_succ, Int.ediv_ediv_of_nonneg (by exact Int.le_of_lt (Int.pow_pos (by decide)))]
theorem hv_bd {n : Int} (h : 0 ≤ n) (k : Nat) : 0 ≤ hv n k ∧ hv n k ≤ n := by
  unfold hv
  have hp : (0 : Int) < 2 ^ k := Int.pow_pos (by decide)
  exact ⟨Int.ediv_nonneg h (Int.le_of_lt hp), Int.ediv_le_self _ h⟩
/-- bit i of m, from the highest on -/
def fbitB (n : Int) (m i : Nat) : Bool := decide (hv n (m - 1 - i) % 2 = 1)
def bitsL (n : Int) (m k : Nat) : List Bool := (List.range k).map (fbitB n m)
theorem bitsL_succ (n : Int) (m k : Nat) : bitsL n m (k + 1) = bitsL n m k ++ [fbitB n m k] := by unfold bitsL; rw [List.range_succ]; simp
theorem bitsL_len (n : Int) (m k : Nat) : (bitsL n m k).length = k := by simp [bitsL]

def boolRow (l : List Bool) : List Value := l.map Value.bool
theorem boolRow_app (a b : List Bool) : boolRow (a ++ b) = boolRow a ++ boolRow b := by simp [boolRow]

theorem info_bool : (Tryz.prog.info? 4).map (fun i => (i.zero, i.size, i.bytes)) = some (some (.bool false), 1, 1) := by kernel_rfl
theorem fnews_one (w : World) (v : Value) (t : TypeId) : ∀ j u, [v][j]? = some u → (w.alloc (.cells #[v] t)).cell? ((⟨w.heap.size, 0, none⟩ : Addr).add j) = some u := by
  intro j u hj
  have : j = 0 := by
    rcases Nat.lt_or_ge j 1 with h | h
    · omega
    · rw [List.getElem?_eq_none (by simpa using h)] at hj; cases hj
  subst this
  simp only [List.getElem?_cons_zero, Option.some.injEq] at hj
  subst hj
  simp [Addr.add, World.cell?_alloc_at _ _ _ _ rfl]
theorem fnews_two (w : World) (v u : Value) (t : TypeId) : ∀ j x, [v, u][j]? = some x → (w.alloc (.cells #[v, u] t)).cell? ((⟨w.heap.size, 0, none⟩ : Addr).add j) = some x := by
  intro j x hj
  rcases Nat.lt_or_ge j 2 with h | h
  · rcases (show j = 0 ∨ j = 1 by omega) with rfl | rfl
    · simp only [List.getElem?_cons_zero, Option.some.injEq] at hj
      subst hj
      simp [Addr.add, World.cell?_alloc_at _ _ _ _ rfl]
    · simp only [List.getElem?_cons_succ, List.getElem?_cons_zero, Option.some.injEq] at hj
      subst hj
      simp [Addr.add, World.cell?_alloc_at _ _ _ _ rfl]
  · rw [List.getElem?_eq_none (by simpa using h)] at hj; cases hj

/-- what a loop that gathers bools knows -/
def gath (B : Nat) (w : World) (v : Value) (l : List Bool) (wr : World) : Prop :=
  wr.ownsRow B 4 1 v l.length (boolRow l) ∧ Below B w wr ∧ B ≤ wr.heap.size
def BitsPost (n : Int) (m : Nat) (w : World) (e : Ending) (w' : World) : Prop := ∃ v, e = .returned v ∧ gath w.heap.size w v (bitsL n m m) w'
def bitsRel (n : Int) (m : Nat) (w : World) (v i : Value) (wr : World) : Prop := ∃ k : Nat, k ≤ m ∧ i = .int .i64 k ∧ gath w.heap.size w v (bitsL n m k) wr
def halfRel (n : Int) (q : Nat) (x k : Value) : Prop := ∃ j : Nat, j ≤ q ∧ k = .int .i64 j ∧ x = .int .i64 (hv n j)

theorem gath_step {B : Nat} {w wr w1 : World} {v v' : Value} {l : List Bool} {b : Bool} {T : TypeId} (h : gath B w v l wr)
    (hown : w1.ownsRow B 4 1 v' (l.length + 1) (boolRow l ++ [.bool b])) (hgr : (wr.alloc (.cells #[.bool b] T)).grownBy w1 v.ownBlock) : gath B w v' (l ++ [b]) w1 := by
  obtain ⟨h1, h2, h3⟩ := h
  refine ⟨by rw [List.length_append, boolRow_app]; exact hown, (h2.alloc h3 _).grown hgr (by simp; omega) ?_, ?_⟩
  · intro k hk
    rcases h1.2 with ⟨rfl, _⟩ | ⟨g, cap, cur, rfl, hg, _⟩
    · cases hk
    · cases hk; exact hg
  · have := hgr.size; simp at this; omega

set_option maxHeartbeats 4000000 in
theorem rbits_any (n : Int) (m : Nat) (w : World) (h0 : 0 ≤ n) (h1 : n ≤ 536870911) (hm : m ≤ 64) :
    Calls Tryz.prog 87 #[.int .i64 n, .int .i64 m] w (BitsPost n m w) := by
  obtain ⟨i0, hi, hz0, hz1, hz2⟩ := info_parts info_bool
  go_enter Tryz.func87, Tryz.ntmps87
  go_wp2
  go_loopw [5, 6, 7, 8] (fun v i _ _ wr => bitsRel n m w v i wr) (fun _ i _ _ _ => m - (intOf i).toNat)
  case atStart => exact ⟨0, Nat.zero_le _, rfl, World.ownsRow_nil _ _ _ _, Below.refl _ _, Nat.le_refl _⟩
  case round =>
    obtain ⟨k, hk, rfl, hg⟩ := hrel
    by_cases hp : k < m
    · have HG := Lib.hid hg
      clear hg
      obtain ⟨q, hq⟩ : ∃ q : Nat, q + 1 + k = m := ⟨m - 1 - k, by omega⟩
      have hq' : (m : Int) - 1 - (k : Int) = (q : Int) := by omega
      have hbd := fun j => hv_bd h0 j
      have HB := Lib.hid hbd
      have hbb : (hv n q % 2 == 1) = fbitB n m k := by
        unfold fbitB
        rw [show m - 1 - k = q by omega, Bool.eq_iff_iff]
        simp
      clear hbd
      go_wp2_with fail
      obtain ⟨wo, rfl⟩ : ∃ wo : World, wo = wr := ⟨_, rfl⟩
      go_loop [7, 8] (fun x j => halfRel n q x j) (fun _ j => q - (intOf j).toNat)
      case atStart => exact ⟨0, Nat.zero_le _, rfl, by rw [hv_zero]⟩
      case round =>
        obtain ⟨j, hj, rfl, rfl⟩ := hrel
        have hb1 := (HB.out j).1
        have hb2 := (HB.out j).2
        by_cases hjq : j < q
        · go_wp2
          go_round
          case rel => exact ⟨j + 1, by omega, by go_num, by rw [hv_succ]⟩
          case measure => simp [intOf]; omega
        · obtain rfl : j = q := by omega
          have C2 : Hid (∀ u ∈ [Value.bool (fbitB n m k)], u.oneCell' = true) := Lib.hid (fun u hu => by simp at hu; subst hu; rfl)
          have C3 : Hid ((bitsL n m k).length + 1 ≤ maxLen) := Lib.hid (by rw [bitsL_len]; unfold maxLen; omega)
          have C4 : Hid (((bitsL n m k).length + 1) * 1 ≤ 140737488355328) := Lib.hid (by rw [bitsL_len]; omega)
          have C5 : Hid (w.heap.size ≤ (wo.alloc (.cells #[.bool (fbitB n m k)] 4)).heap.size) := Lib.hid (by have := HG.out.2.2; simp; omega)
          go_wp2_with (at_builtin; refine wpList_append_own _ rfl _ _ 105 rfl w.heap.size 4 i0 (.bool false) 1 1 Tryz.underlying105 hi hz0 hz1 hz2 rfl (by decide) _ (bitsL n m k).length (boolRow (bitsL n m k)) rfl (HG.out.1.alloc _) ⟨wo.heap.size, 0, none⟩ 1 1 [.bool (fbitB n m k)] rfl rfl (fnews_one _ _ _) C2.out C3.out C4.out C5.out ?_)
          intro v' w1 hown hgr _
          have hst := Lib.hid (gath_step HG.out hown hgr)
          clear hown hgr
          go_wp2
          go_roundw
          case rel => exact ⟨k + 1, by omega, by go_num, by rw [bitsL_succ]; exact hst.out⟩
          case measure => simp [intOf]; omega
    · obtain rfl : k = m := by omega
      have HG := Lib.hid hg
      clear hg
      go_wp2
      go_ret
      exact ⟨_, rfl, HG.out⟩

end Go.Proofs.YtmmcjmejcngajaaGreatDoor
