/- Of no program: a row of bytes that the call gathers by append; a slice of bytes that it reads; '[]byte(s)'. Arb, the document's side: Ints. (Parted from XArbB: ring has it without the rest.) Box: a call of the law's as nine cells. Parted out of BoxS, BoxV. Of no program: 'clear' of a slice of one thing of several cells; a row whose head is cleared and cut off. Echo: the law's own rows beside the table. Band, the document's side: Same, of two slices of packets that read alike. -/
import Derived.Test.YtmpikfnemhjoeaaZab
import Derived.Test.YtmpikfnemhjoeaaZaa
import Derived.Test.YtmpikfnemhjoeaaZad
import Derived.Lib.ConvBytes
import Derived.Test.YtmpikfnemhjoeaaZae
import Derived.Laws.IdiomCopy
import Derived.Lib.SliceRun
import Derived.Test.YtmpikfnemhjoeaaZaj
import Derived.Test.YtmpikfnemhjoeaaZag
import Derived.Test.YtmpikfnemhjoeaaZal
import Derived.Deep.RegionWith
import Derived.Test.YtmpikfnemhjoeaaZam
namespace Go.Proofs.Ytmpikfnemhjoeaa
open Go.RowKit
set_option linter.unusedVariables false

theorem drewN_two (w : World) (a b : Nat) : (w.drewN a).drewN b = w.drewN (a + b) := by
  unfold World.drewN
  simp [Nat.add_assoc]
theorem info_u8 : (Try.prog.info? 5).map (fun i => (i.zero, i.size, i.bytes)) = some (some (.int .u8 0), 1, 1) := by kernel_rfl
theorem news_byte (w : World) (v : Value) (t : TypeId) : ∀ j u, [v][j]? = some u → (w.alloc (.cells #[v] t)).cell? ((⟨w.heap.size, 0, none⟩ : Addr).add j) = some u := by
  intro j u hj
  rcases Nat.lt_or_ge j 1 with h | h
  · obtain rfl : j = 0 := by omega
    simp at hj
    subst hj
    simp [Addr.add, World.cell?_alloc_at _ _ _ _ rfl]
  · rw [List.getElem?_eq_none (by simpa using h)] at hj; cases hj

/-- a slice of bytes that can be read -/
def SlB (w : World) (v : Value) (L : List Int) : Prop :=
  L.length ≤ 140737488355328 ∧ ((L = [] ∧ ∃ A cap, v = .slice A 0 cap) ∨ ∃ g cap, v = .slice (some ⟨g, 0, none⟩) L.length cap ∧ ∀ k, k < L.length → w.cell? ⟨g, k, none⟩ = some (.int .u8 (L.getD k 0)))

def byteRow (L : List Int) : List Value := L.map (Value.int .u8)
theorem byteRow_app (a b : List Int) : byteRow (a ++ b) = byteRow a ++ byteRow b := by simp [byteRow]
/-- what a loop that gathers bytes knows -/
def gathB (B : Nat) (w : World) (v : Value) (L : List Int) (wr : World) : Prop :=
  wr.ownsRow B 5 1 v L.length (byteRow L) ∧ Below B w wr ∧ B ≤ wr.heap.size
theorem gathB.start (w : World) : gathB w.heap.size w (.slice none 0 0) [] w := ⟨World.ownsRow_nil _ _ _ _, Below.refl _ _, Nat.le_refl _⟩
theorem gathB.startB {B : Nat} {w wr : World} (h : Below B w wr) (hB : B ≤ wr.heap.size) : gathB B w (.slice none 0 0) [] wr := ⟨World.ownsRow_nil _ _ _ _, h, hB⟩
theorem gathB.later {B : Nat} {w wr w1 : World} {v : Value} {L : List Int} (h : gathB B w v L wr) (hb : Below wr.heap.size wr w1) : gathB B w v L w1 := by
  obtain ⟨h1, h2, h3⟩ := h
  refine ⟨?_, h2.trans (hb.mono h3), Nat.le_trans h3 hb.size⟩
  refine ⟨h1.1, ?_⟩
  rcases h1.2 with hn | ⟨g, cap, cur, rfl, hbg, hg, rest⟩
  · exact .inl hn
  · exact .inr ⟨g, cap, cur, rfl, hbg, (hb.block g (Array.getElem?_eq_some_iff.1 hg).1).trans hg, rest⟩
theorem gathB.drewN {B : Nat} {w wr : World} {v : Value} {L : List Int} (h : gathB B w v L wr) (n : Nat) : gathB B w v L (wr.drewN n) :=
  h.later ⟨rfl, rfl, rfl, Nat.le_refl _, fun _ _ => rfl⟩
theorem gathB.step {B : Nat} {w wr w1 : World} {v v' : Value} {L : List Int} {b : Int} {T : TypeId} (h : gathB B w v L wr)
    (hown : w1.ownsRow B 5 1 v' (L.length + 1) (byteRow L ++ [.int .u8 b])) (hgr : (wr.alloc (.cells #[.int .u8 b] T)).grownBy w1 v.ownBlock) : gathB B w v' (L ++ [b]) w1 := by
  obtain ⟨h1, h2, h3⟩ := h
  refine ⟨by rw [List.length_append, byteRow_app]; exact hown, (h2.alloc h3 _).grown hgr (by simp; omega) ?_, ?_⟩
  · intro k hk
    rcases h1.2 with ⟨rfl, _⟩ | ⟨g, cap, cur, rfl, hg, _⟩
    · cases hk
    · cases hk; exact hg
  · have := hgr.size; simp at this; omega
theorem gathB.slice {B : Nat} {w wr : World} {v : Value} {L : List Int} (h : gathB B w v L wr) (hm : L.length ≤ 140737488355328) : SlB wr v L := by
  obtain ⟨h1, _, _⟩ := h
  refine ⟨hm, ?_⟩
  rcases h1.2 with ⟨rfl, hn⟩ | ⟨g, cap, cur, rfl, hbg, hg, rest⟩
  · have : L = [] := by
      cases L with
      | nil => rfl
      | cons a L => simp at hn
    subst this
    exact .inl ⟨rfl, none, 0, rfl⟩
  · refine .inr ⟨g, cap, rfl, fun k hk => ?_⟩
    rw [h1.cellAt k (by simpa [byteRow] using hk)]
    unfold byteRow
    rw [List.getElem?_map, List.getElem?_eq_getElem hk]
    simp [List.getD, List.getElem?_eq_getElem hk]
/-- '[]byte(s)': the bytes of s in a block of their own -/
theorem bytesWorld_below (w : World) (e : TypeId) (s : ByteArray) : Below w.heap.size w (Lib.bytesWorld w e s) := by
  refine ⟨rfl, rfl, rfl, by rw [Lib.bytesWorld_size]; omega, fun k hk => Lib.bytesWorld_at_old w e s k hk⟩
theorem bytesWorld_slice (w : World) (e : TypeId) (s : ByteArray) (cap : Nat) (hs : s.size ≤ 140737488355328) : SlB (Lib.bytesWorld w e s) (.slice (some ⟨w.heap.size, 0, none⟩) s.size cap) (byL s) := by
  refine ⟨by rw [byL_len]; exact hs, .inr ⟨w.heap.size, cap, by rw [byL_len], fun k hk => ?_⟩⟩
  rw [byL_len] at hk
  rw [Lib.bytesWorld_cell w e s k hk, byL_getD]
  unfold bt
  simp [List.getD_eq_getElem?_getD]
/-- a cut ahead -/
theorem cut_ahead {s : ByteArray} {k : Nat} (h : k ≤ s.size) (w : World) : (Instr.sliceAt 9 (.string s) none (some (.int .i64 (k : Int))) none).run Try.prog w = .ok (.string (s.extract 0 k)) w := by
  have e2 : (k : Int) ≤ (s.size : Int) := by omega
  have e3 : ¬ ((s.size : Int) < (k : Int)) := by omega
  simp [go_sem, e2]

end Go.Proofs.Ytmpikfnemhjoeaa

namespace Go.Proofs.Ytmpikfnemhjoeaa
open Go.RowKit
set_option linter.unusedVariables false

/-! ### Ints -/
theorem list_take_eq {A B : List Int} {k : Nat} (hl : A.length = B.length) (h : k < A.length) (h' : k < B.length) (he : A.take k = B.take k) : A.take (k + 1) = B.take (k + 1) ↔ A[k] = B[k] := by
  rw [take_snoc h, take_snoc h', he]
  constructor
  · intro e
    have := List.append_cancel_left e
    simpa using this
  · intro e; rw [e]
end Go.Proofs.Ytmpikfnemhjoeaa

namespace Go.Proofs.Ytmpikfnemhjoeaa
open Go.RowKit
set_option linter.unusedVariables false

/-- a call of the law's -/
structure Op9 where
  k : Int
  b : Int
  p : Pk
def opC9 (o : Op9) : List Value := [.int .i64 o.k, .int .i64 o.b, .int .i64 o.p.f.i, .int .i64 o.p.f.n, .int .i64 o.p.f.l, .string o.p.f.d, .int .i64 o.p.fr, .int .i64 o.p.tag, .bool o.p.lp]
theorem opC9_len (o : Op9) : (opC9 o).length = 9 := rfl
theorem wf_i64x {n : Int} (h : (Lit.int .i64 n).wf = true) : -9223372036854775808 ≤ n ∧ n ≤ 9223372036854775807 := by
  simpa [Lit.wf, show IntKind.i64.min = -9223372036854775808 from rfl] using h
def op9Of : List Value → Op9
  | [.int _ k, .int _ m, .int _ i, .int _ n, .int _ l, .string d, .int _ fr, .int _ t, .bool lp] => ⟨k, m, ⟨⟨i, n, l, d⟩, fr, t, lp⟩⟩
  | _ => ⟨0, 0, pk0⟩
abbrev op9Sh : List Sh := [.int .i64, .int .i64, .int .i64, .int .i64, .int .i64, .str, .int .i64, .int .i64, .bool]
theorem op9Of_c (l : List Value) (h : FitsAll op9Sh l) : opC9 (op9Of l) = l := by
  obtain ⟨v0, l0, rfl, ⟨a0, rfl, _⟩, h0⟩ := FitsAll.cons h
  obtain ⟨v1, l1, rfl, ⟨a1, rfl, _⟩, h1⟩ := FitsAll.cons h0
  obtain ⟨v2, l2, rfl, ⟨a2, rfl, _⟩, h2⟩ := FitsAll.cons h1
  obtain ⟨v3, l3, rfl, ⟨a3, rfl, _⟩, h3⟩ := FitsAll.cons h2
  obtain ⟨v4, l4, rfl, ⟨a4, rfl, _⟩, h4⟩ := FitsAll.cons h3
  obtain ⟨v5, l5, rfl, ⟨a5, rfl, _⟩, h5⟩ := FitsAll.cons h4
  obtain ⟨v6, l6, rfl, ⟨a6, rfl, _⟩, h6⟩ := FitsAll.cons h5
  obtain ⟨v7, l7, rfl, ⟨a7, rfl, _⟩, h7⟩ := FitsAll.cons h6
  obtain ⟨v8, l8, rfl, ⟨a8, rfl⟩, h8⟩ := FitsAll.cons h7
  obtain rfl := FitsAll.nil h8
  rfl
end Go.Proofs.Ytmpikfnemhjoeaa

namespace Go.Proofs.Ytmpikfnemhjoeaa
open Go.RowKit
set_option linter.unusedVariables false

theorem wpList_clearK {P : Program} {w : World} {ops : Array Oper} {rest : List Oper} {o : Oper} {a : Act} {Q : Exit → Act → World → Prop} (hgd : o.guard = none) (x : Operand) (T E : TypeId)
    (ho : o.op = .call { callee := .builtin .clear, args := #[x], argTypes := #[T] }) (ht : P.underlying T = some (.slice E)) (z : Value) (hz : ∀ w, (zeroValue E).run P w = .ok z w) (zs : List Value) (hzs : (Builtin.zeroCells z.cells 1).toList = zs) (hone : ∀ u ∈ zs, u.oneCell' = true)
    (g i c : Nat) (hx : a.eval x = .slice (some ⟨g, i, none⟩) 1 c) (hc : ∀ j, j < zs.length → (w.cell? ⟨g, i + j, none⟩).isSome = true) (hf : ∀ j, j < zs.length → w.frozen? ⟨g, i + j, none⟩ = false)
    (h : wpList P ops Q rest (a.put o.dst (.tuple #[])) (w.setCells g i zs)) : wpList P ops Q (o :: rest) a w := by
  refine wpList_plain hgd fun K hK => ?_
  have hst := run_storeCells_cells (P := P) g i zs 0 w (by simpa using hc) (by simpa using hf) hone
  simp only [Nat.add_zero] at hst
  unfold Oper.wp
  simp [execOp, ho, resolve, invoke, builtin, hx, Builtin.clear_, run_underlying ht, hz, hzs, hst, Result.andThen]
  exact hK _ _ h
section
variable {α : Type} {c : α → List Value} {k : Nat} {w : World} {v : Value} {L M : List α}
theorem RowQ.head {a : α} (h : RowQ c k w v (a :: M)) : ∃ g o cap, v = .slice (some ⟨g, o, none⟩) (M.length + 1) cap ∧ M.length + 1 ≤ cap ∧ ∀ j, j < k → (w.cell? ⟨g, o + j, none⟩).isSome = true ∧ w.frozen? ⟨g, o + j, none⟩ = false := by
  rcases h with ⟨_, h⟩ | ⟨g, o, cap, hv, h1, h2, h3, h4, h5⟩
  · cases h
  · simp only [List.length_cons] at hv h1
    refine ⟨g, o, cap, hv, h1, fun j hj => h5 j ?_⟩
    exact Nat.lt_of_lt_of_le hj (Nat.le_mul_of_pos_left _ (by omega))
theorem RowQ.cut {a : α} {g o n cap : Nat} {zs : List Value} (h : RowQ c k w (.slice (some ⟨g, o, none⟩) n cap) (a :: M)) (hk : ∀ a, (c a).length = k) (hM : 1 ≤ M.length) (hz : zs.length = k) :
    RowQ c k (w.setCells g o zs) (.slice (some ⟨g, o + k, none⟩) M.length (cap - 1)) M := by
  rcases h with ⟨h, _⟩ | ⟨g', o', cap', hv, h1, h2, h3, h4, h5⟩
  · cases h
  · injection hv with hA hn hcap
    injection hA with hA
    injection hA with e1 e2
    subst e1 e2 hcap
    simp only [List.length_cons] at h1
    have hrow : rowG c (a :: M) = c a ++ rowG c M := by simp [rowG]
    refine .inr ⟨g, o + k, cap - 1, rfl, by omega, by omega, by rw [setCells_size]; exact h3, fun j u hu => ?_, fun j hj => ?_⟩
    · rw [World.cell?_setCells_out g _ _ _ _ (fun _ _ => .inr (by simp only; omega)), Nat.add_assoc]
      refine h4 (k + j) u ?_
      rw [hrow, List.getElem?_append_right (by rw [hk]; omega), hk, Nat.add_sub_cancel_left]
      exact hu
    · rw [World.cell?_setCells_out g _ _ _ _ (fun _ _ => .inr (by simp only; omega)), World.frozen?_setCells, Nat.add_assoc]
      refine h5 (k + j) ?_
      obtain ⟨m, rfl⟩ : ∃ m, cap = m + 1 := ⟨cap - 1, by omega⟩
      rw [Nat.add_sub_cancel] at hj
      rw [Nat.add_mul]; omega
theorem cut_kept {g o n cap n' o' cap' : Nat} {zs : List Value} : Kept (OwnO (.slice (some ⟨g, o, none⟩) n cap)) w (w.setCells g o zs) ∧ Grows (OwnO (.slice (some ⟨g, o, none⟩) n cap)) w (OwnO (.slice (some ⟨g, o', none⟩) n' cap')) := by
  obtain ⟨r1, r2, r3⟩ := setCells_rest w g o zs
  exact ⟨⟨r1, r2, r3, by rw [setCells_size]; exact Nat.le_refl _, fun i _ hn => setCells_heap _ _ _ _ (fun e => hn (by subst e; rfl))⟩, fun k hk => .inl hk⟩
end
end Go.Proofs.Ytmpikfnemhjoeaa

namespace Go.Proofs.Ytmpikfnemhjoeaa
open Go.RowKit
set_option linter.unusedVariables false

def boC (b : Bool) : List Value := [.bool b]
theorem boC_len (b : Bool) : (boC b).length = 1 := rfl
theorem rowG_setB (x : Bool) : ∀ (N : List Bool) (i : Nat), (rowG boC N).set i (.bool x) = rowG boC (N.set i x)
  | [], i => rfl
  | a :: N, 0 => rfl
  | a :: N, i + 1 => by
    have ih := rowG_setB x N i
    have e : rowG boC (a :: N) = boC a ++ rowG boC N := by simp [rowG]
    have e2 : rowG boC ((a :: N).set (i + 1) x) = boC a ++ rowG boC (N.set i x) := by simp [rowG]
    rw [e, e2, ← ih]
    rfl
structure EcS (I : World → Value → Ec → (Nat → Prop) → Prop) (w0 : World) (v : Value) (gh gf : Nat) (s r : Ec) (O : Nat → Prop) (w : World) : Prop where
  has : Has I w0 v s O w
  held : w.heap[gh]? = some (.cells (rowG pkC r.H).toArray 32 (0, 0))
  full : w.heap[gf]? = some (.cells (rowG boC r.F).toArray 4 (0, 0))
  n1 : ¬ O gh
  n2 : ¬ O gf
  ne : gh ≠ gf
  b1 : w0.heap.size ≤ gh
  b2 : w0.heap.size ≤ gf
section
variable {I : World → Value → Ec → (Nat → Prop) → Prop} {w0 w w' : World} {v : Value} {gh gf : Nat} {s s' r : Ec} {O O' : Nat → Prop}
theorem EcS.later (hI : IsObj I) (h : EcS I w0 v gh gf s r O w) (hb : Below w.heap.size w w') : EcS I w0 v gh gf s r O w' :=
  ⟨h.has.later hI hb, (hb.block gh (heap_some_lt h.held)).trans h.held, (hb.block gf (heap_some_lt h.full)).trans h.full, h.n1, h.n2, h.ne, h.b1, h.b2⟩
theorem EcS.step (hI : IsObj I) (h : EcS I w0 v gh gf s r O w) (hi : I w' v s' O') (hk : Kept O w w') (hg : Grows O w O') : EcS I w0 v gh gf s' r O' w' :=
  ⟨h.has.step hI hi hk hg, (hk.block gh (heap_some_lt h.held) h.n1).trans h.held, (hk.block gf (heap_some_lt h.full) h.n2).trans h.full, out_step (heap_some_lt h.held) h.n1 hg, out_step (heap_some_lt h.full) h.n2 hg, h.ne, h.b1, h.b2⟩
theorem EcS.cellF (h : EcS I w0 v gh gf s r O w) {i : Nat} (hi : i < r.F.length) : w.cell? ⟨gf, i, none⟩ = some (.bool (r.F.getD i false)) ∧ w.frozen? ⟨gf, i, none⟩ = false := by
  refine ⟨?_, Lib.frozen_of_heap h.full i⟩
  rw [Lib.cell_of_heap h.full, List.getD_eq_getElem?_getD, List.getElem?_eq_getElem hi]
  simpa [boC] using rowG_get boC_len r.F i _ (List.getElem?_eq_getElem hi) 0 _ rfl
theorem EcS.cellH (h : EcS I w0 v gh gf s r O w) {i : Nat} (hi : i < r.H.length) :
    w.cell? ⟨gh, i * 7, none⟩ = some (.int .i64 (r.H.getD i pk0).f.i) ∧ w.cell? ⟨gh, i * 7 + 1, none⟩ = some (.int .i64 (r.H.getD i pk0).f.n) ∧ w.cell? ⟨gh, i * 7 + 2, none⟩ = some (.int .i64 (r.H.getD i pk0).f.l) ∧ w.cell? ⟨gh, i * 7 + 3, none⟩ = some (.string (r.H.getD i pk0).f.d) ∧
    w.cell? ⟨gh, i * 7 + 4, none⟩ = some (.int .i64 (r.H.getD i pk0).fr) ∧ w.cell? ⟨gh, i * 7 + 5, none⟩ = some (.int .i64 (r.H.getD i pk0).tag) ∧ w.cell? ⟨gh, i * 7 + 6, none⟩ = some (.bool (r.H.getD i pk0).lp) ∧ ∀ j, w.frozen? ⟨gh, j, none⟩ = false := by
  obtain ⟨p, hp⟩ : ∃ p, r.H[i]? = some p := ⟨_, List.getElem?_eq_getElem hi⟩
  rw [List.getD_eq_getElem?_getD, hp]
  have key : ∀ j u, (pkC p)[j]? = some u → w.cell? ⟨gh, i * 7 + j, none⟩ = some u := fun j u hu => by
    rw [Lib.cell_of_heap h.held]
    simpa using rowG_get pkC_len r.H i _ hp j u hu
  exact ⟨key 0 _ rfl, key 1 _ rfl, key 2 _ rfl, key 3 _ rfl, key 4 _ rfl, key 5 _ rfl, key 6 _ rfl, fun j => Lib.frozen_of_heap h.held j⟩
theorem EcS.setF (hI : IsObj I) (h : EcS I w0 v gh gf s r O w) (i : Nat) (b : Bool) : EcS I w0 v gh gf s ⟨r.H, r.F.set i b⟩ O (w.setCell ⟨gf, i, none⟩ (.bool b)) := by
  refine ⟨h.has.setCell hI (p := ⟨gf, i, none⟩) h.b2 h.n2 _, (Below.heap_setCell _ _ _ _ h.ne).trans h.held, ?_, h.n1, h.n2, h.ne, h.b1, h.b2⟩
  rw [heap_setCell_same w gf i _ _ _ h.full]
  simp only [List.setIfInBounds_toArray]
  rw [rowG_setB]
theorem putP_below {w a : World} {B g i : Nat} (p : Pk) (h : Below B a w) (hz : B ≤ g) : Below B a (putP w g i p) := by
  unfold putP
  iterate 7 refine Below.setCell ?_ hz _
  exact h
theorem EcS.setH (hI : IsObj I) (h : EcS I w0 v gh gf s r O w) {i : Nat} (hi : i < r.H.length) (p : Pk) : EcS I w0 v gh gf s ⟨r.H.set i p, r.F⟩ O (putP w gh i p) := by
  refine ⟨⟨hI.stay h.has.inv (fun k hk => putP_other (fun e => h.n1 (e ▸ hk))), putP_below p h.has.below h.b1, h.has.new⟩, ?_, (putP_other (fun e => h.ne e.symm)).trans h.full, h.n1, h.n2, h.ne, h.b1, h.b2⟩
  have a0 := heap_setCell_same w gh (i * 7) _ _ (.int .i64 p.f.i) h.held
  have a1 := heap_setCell_same _ gh (i * 7 + 1) _ _ (.int .i64 p.f.n) a0
  have a2 := heap_setCell_same _ gh (i * 7 + 2) _ _ (.int .i64 p.f.l) a1
  have a3 := heap_setCell_same _ gh (i * 7 + 3) _ _ (.string p.f.d) a2
  have a4 := heap_setCell_same _ gh (i * 7 + 4) _ _ (.int .i64 p.fr) a3
  have a5 := heap_setCell_same _ gh (i * 7 + 5) _ _ (.int .i64 p.tag) a4
  have a6 := heap_setCell_same _ gh (i * 7 + 6) _ _ (.bool p.lp) a5
  unfold putP
  rw [a6]
  simp only [List.setIfInBounds_toArray]
  rw [rowG_setP p r.H i hi]
end
theorem rep_bo (n : Nat) : madeCells (Value.bool false).cells (n * 1) = (rowG boC (List.replicate n false)).toArray := by
  have h := made_rep #[Value.bool false] n (by decide)
  refine Eq.trans h ?_
  congr 1
  unfold rowG
  rw [List.flatMap_def, List.map_replicate]
  rfl
theorem info_bo : (Try.prog.info? 4).map (fun i => (i.zero, i.size, i.bytes)) = some (some (.bool false), 1, 1) := by kernel_rfl
theorem run_mkBo (n : Nat) (hn : n ≤ 1000) (w : World) :
    (Instr.makeSlice 28 (.int .i64 n) (.int .i64 n)).run Try.prog w = .ok (.slice (some ⟨w.heap.size, 0, none⟩) n n) (w.alloc (.cells (rowG boC (List.replicate n false)).toArray 4)) := by
  obtain ⟨i0, hi, hz0, hz1, hz2⟩ := info_parts info_bo
  have := run_make (P := Try.prog) w 28 4 i0 _ Try.underlying28 hi hz0 .i64 .i64 (n : Int) (n : Int) (by omega) (Int.le_refl _) (by rw [hz2]; omega) (by omega)
  rw [hz1, Int.toNat_natCast, rep_bo] at this
  exact this
theorem room_boxes (n : Int) : roomN n = (boxesN n : Int) := by
  unfold roomN boxesN
  split
  · rfl
  · split
    · rfl
    · omega
set_option maxHeartbeats 2000000 in
/-- a packet is stored into a row of packets -/
theorem store_pk {w : World} {g i : Nat} {p p0 : Pk} {ev : Operand → Value} {o : Oper} {sa sb : Operand} (ho : o.op = .store 32 sa sb) (e1 : ev sa = .pointer (some ⟨g, i * 7, none⟩)) (e2 : ev sb = pkV p)
    (c0 : w.cell? ⟨g, i * 7, none⟩ = some (.int .i64 p0.f.i)) (c1 : w.cell? ⟨g, i * 7 + 1, none⟩ = some (.int .i64 p0.f.n)) (c2 : w.cell? ⟨g, i * 7 + 2, none⟩ = some (.int .i64 p0.f.l)) (c3 : w.cell? ⟨g, i * 7 + 3, none⟩ = some (.string p0.f.d))
    (c4 : w.cell? ⟨g, i * 7 + 4, none⟩ = some (.int .i64 p0.fr)) (c5 : w.cell? ⟨g, i * 7 + 5, none⟩ = some (.int .i64 p0.tag)) (c6 : w.cell? ⟨g, i * 7 + 6, none⟩ = some (.bool p0.lp)) (cl : ∀ j, w.frozen? ⟨g, j, none⟩ = false) :
    (execOp ev o).run Try.prog w = .ok .skip (putP w g i p) := by
  simp [execOp, ho, e1, e2, go_sem, c0, c1, c2, c3, c4, c5, c6, cl, putP]
/-- what is flushed, place by place -/
theorem allE_step : ∀ (H : List Pk) (F : List Bool) (i : Nat), H.length = F.length → i < F.length → allE (H.take (i + 1)) (F.take (i + 1)) = allE (H.take i) (F.take i) ++ (if F.getD i false then [H.getD i pk0] else [])
  | [], F, i, h, hi => by simp at h; omega
  | p :: H, [], i, h, hi => by simp at h
  | p :: H, f :: F, 0, h, hi => by cases f <;> simp [allE]
  | p :: H, f :: F, i + 1, h, hi => by
    have ih := allE_step H F i (by simpa using h) (by simpa using hi)
    simp only [List.take_succ_cons, List.getD_cons_succ]
    cases f
    · simpa [allE] using ih
    · show p :: allE (H.take (i + 1)) (F.take (i + 1)) = (p :: allE (H.take i) (F.take i)) ++ _
      rw [ih]
      rfl
/-- the first i places are empty now -/
def clrF (F : List Bool) (i : Nat) : List Bool := List.replicate i false ++ F.drop i
theorem clrF_len {F : List Bool} {i : Nat} (h : i ≤ F.length) : (clrF F i).length = F.length := by simp [clrF]; omega
theorem clrF_at {F : List Bool} {i : Nat} (h : i < F.length) : (clrF F i).getD i false = F.getD i false := by
  unfold clrF
  rw [List.getD_eq_getElem?_getD, List.getD_eq_getElem?_getD, List.getElem?_append_right (by simp), List.getElem?_drop]
  simp
theorem clrF_set {F : List Bool} {i : Nat} (h : i < F.length) : (clrF F i).set i false = clrF F (i + 1) := by
  unfold clrF
  rw [List.set_append_right _ _ (by simp)]
  rw [List.length_replicate, Nat.sub_self, List.drop_eq_getElem_cons h, List.set_cons_zero, List.replicate_succ', List.append_assoc]
  rfl
theorem clrF_all (F : List Bool) : clrF F F.length = List.replicate F.length false := by simp [clrF]
section
variable {I : World → Value → Ec → (Nat → Prop) → Prop} {w0 w w' : World} {v : Value} {gh gf : Nat} {s r : Ec} {O : Nat → Prop}
/-- a row of the law's own, gathered beside -/
def Beside (w0 : World) (gh gf : Nat) (O U : Nat → Prop) : Prop := ∀ g, U g → ¬ O g ∧ g ≠ gh ∧ g ≠ gf ∧ w0.heap.size ≤ g
theorem EcS.other (hI : IsObj I) (h : EcS I w0 v gh gf s r O w) {U : Nat → Prop} (hU : Beside w0 gh gf O U) (hk : Kept U w w') : EcS I w0 v gh gf s r O w' :=
  ⟨⟨hI.stay h.has.inv (fun k ho => hk.block k (hI.lt h.has.inv k ho) (fun hu => (hU k hu).1 ho)), hk.below h.has.below h.has.below.size (fun k hu => (hU k hu).2.2.2), h.has.new⟩,
   (hk.block gh (heap_some_lt h.held) (fun hu => (hU gh hu).2.1 rfl)).trans h.held, (hk.block gf (heap_some_lt h.full) (fun hu => (hU gf hu).2.2.1 rfl)).trans h.full, h.n1, h.n2, h.ne, h.b1, h.b2⟩
structure FlS (I : World → Value → Ec → (Nat → Prop) → Prop) (w0 : World) (v : Value) (gh gf : Nat) (s : Ec) (O : Nat → Prop) (j : Nat) (u : Value) (w : World) : Prop where
  ec : EcS I w0 v gh gf s ⟨s.H, clrF s.F j⟩ O w
  row : RowQ pkC 7 w u (allE (s.H.take j) (s.F.take j))
  out : Beside w0 gh gf O (OwnO u)
theorem FlS.start (h : EcS I w0 v gh gf s s O w) : FlS I w0 v gh gf s O 0 (.slice none 0 0) w :=
  ⟨by simpa [clrF] using h, by simpa [allE] using RowQ.nil w, fun g h => by cases h⟩
/-- the place was empty -/
theorem FlS.skip (hI : IsObj I) (ok : s.Ok) {j : Nat} {u : Value} (hj : j < s.F.length) (h : FlS I w0 v gh gf s O j u w) (hq : s.F.getD j false = false) : FlS I w0 v gh gf s O (j + 1) u (w.setCell ⟨gf, j, none⟩ (.bool false)) := by
  have h1 := h.ec.setF hI j false
  rw [show (⟨(⟨s.H, clrF s.F j⟩ : Ec).H, (⟨s.H, clrF s.F j⟩ : Ec).F.set j false⟩ : Ec) = ⟨s.H, clrF s.F (j + 1)⟩ by simp [clrF_set hj]] at h1
  refine ⟨h1, ?_, h.out⟩
  rw [allE_step s.H s.F j ok.len hj, hq]
  simp only [Bool.false_eq_true, if_false, List.append_nil]
  exact h.row.stay (fun g hg => Below.heap_setCell _ _ _ _ (fun e => (h.out g hg).2.2.1 e)) (by simp [World.setCell])
theorem FlS.app (hI : IsObj I) (ok : s.Ok) {j : Nat} {u v' : Value} {w2 : World} (hj : j < s.F.length) (h : FlS I w0 v gh gf s O j u w) (hq : s.F.getD j false = true) (hb : Below w.heap.size w w2)
    (hr : RowQ pkC 7 w' v' (allE (s.H.take j) (s.F.take j) ++ [s.H.getD j pk0])) (hk : Kept (OwnO u) w2 w') (hg : Grows (OwnO u) w2 (OwnO v')) : FlS I w0 v gh gf s O (j + 1) v' (w'.setCell ⟨gf, j, none⟩ (.bool false)) ∧ EcS I w0 v gh gf s ⟨s.H, clrF s.F j⟩ O w' := by
  have he : EcS I w0 v gh gf s ⟨s.H, clrF s.F j⟩ O w' := (h.ec.later hI hb).other hI h.out hk
  have hout : Beside w0 gh gf O (OwnO v') := fun g hg' => by
    rcases hg g hg' with h1 | h1
    · exact h.out g h1
    · have l1 := hI.lt h.ec.has.inv
      have l2 := heap_some_lt h.ec.held
      have l3 := heap_some_lt h.ec.full
      have l4 := h.ec.has.below.size
      have l5 := hb.size
      exact ⟨fun ho => by have := l1 g ho; omega, by omega, by omega, by omega⟩
  have h1 := he.setF hI j false
  rw [show (⟨(⟨s.H, clrF s.F j⟩ : Ec).H, (⟨s.H, clrF s.F j⟩ : Ec).F.set j false⟩ : Ec) = ⟨s.H, clrF s.F (j + 1)⟩ by simp [clrF_set hj]] at h1
  refine ⟨⟨h1, ?_, hout⟩, he⟩
  rw [allE_step s.H s.F j ok.len hj, hq]
  simp only [if_true]
  exact hr.stay (fun g hg => Below.heap_setCell _ _ _ _ (fun e => (hout g hg).2.2.1 e)) (by simp [World.setCell])
theorem FlS.done {u : Value} (ok : s.Ok) (h : FlS I w0 v gh gf s O s.F.length u w) : EcS I w0 v gh gf s s.flush O w ∧ RowQ pkC 7 w u s.all := by
  have h1 := h.ec
  have h2 := h.row
  rw [clrF_all] at h1
  rw [List.take_length, ← ok.len, List.take_length] at h2
  exact ⟨h1, h2⟩
end
end Go.Proofs.Ytmpikfnemhjoeaa

namespace Go.Proofs.Ytmpikfnemhjoeaa
open Go.RowKit
set_option linter.unusedVariables false
set_option maxHeartbeats 1000000 in
theorem pksame_t {L : List Pk} {v v' : Value} {B B' : Nat} (w : World) (h : SlG pkC 7 w B v L) (h' : SlG pkC 7 w B' v' L) :
    Calls Try.prog 12 #[v, v'] w fun e w' => e = .returned (.bool true) ∧ ∃ n, w' = w.drewN n := by
  have H := Lib.hid h
  have H' := Lib.hid h'
  obtain ⟨A, cap, rfl, hm, _⟩ := h
  obtain ⟨A', cap', rfl, _, _⟩ := h'
  unfold maxLen at hm
  have e1 : ((L.length : Int) == (L.length : Int)) = true := by simp
  have e2 : ((L.length : Int) != (L.length : Int)) = false := by simp
  go_enter Try.func12, Try.ntmps12
  go_wp2_with fail
  go_loopw [5] (fun i wr => ∃ k m : Nat, k ≤ L.length ∧ i = .int .i64 k ∧ wr = w.drewN m) (fun i _ => L.length - (intOf i).toNat)
  case atStart => exact ⟨0, 0, by omega, rfl, rfl⟩
  case round =>
    obtain ⟨k, m, hk, rfl, rfl⟩ := hrel
    by_cases hlt : k < L.length
    · obtain ⟨x, cap1, hv, hxb, hcell⟩ := H.out.at_ hlt
      obtain ⟨y, cap2, hv', hyb, hcell'⟩ := H'.out.at_ hlt
      injection hv with hA hn hc
      injection hv' with hA' hn' hc'
      subst hA hA' hc hc'
      have a0 : w.cell? (x.add (k * 7)) = some (.int .i64 (L[k]'hlt).f.i) := hcell 0 _ rfl
      have a1 : w.cell? ⟨(x.add (k * 7)).block, (x.add (k * 7)).off + 1, none⟩ = some (.int .i64 (L[k]'hlt).f.n) := hcell 1 _ rfl
      have a2 : w.cell? ⟨(x.add (k * 7)).block, (x.add (k * 7)).off + 2, none⟩ = some (.int .i64 (L[k]'hlt).f.l) := hcell 2 _ rfl
      have a3 : w.cell? ⟨(x.add (k * 7)).block, (x.add (k * 7)).off + 3, none⟩ = some (.string (L[k]'hlt).f.d) := hcell 3 _ rfl
      have a4 : w.cell? ⟨(x.add (k * 7)).block, (x.add (k * 7)).off + 4, none⟩ = some (.int .i64 (L[k]'hlt).fr) := hcell 4 _ rfl
      have a5 : w.cell? ⟨(x.add (k * 7)).block, (x.add (k * 7)).off + 5, none⟩ = some (.int .i64 (L[k]'hlt).tag) := hcell 5 _ rfl
      have a6 : w.cell? ⟨(x.add (k * 7)).block, (x.add (k * 7)).off + 6, none⟩ = some (.bool (L[k]'hlt).lp) := hcell 6 _ rfl
      have b0 : w.cell? (y.add (k * 7)) = some (.int .i64 (L[k]'hlt).f.i) := hcell' 0 _ rfl
      have b1 : w.cell? ⟨(y.add (k * 7)).block, (y.add (k * 7)).off + 1, none⟩ = some (.int .i64 (L[k]'hlt).f.n) := hcell' 1 _ rfl
      have b2 : w.cell? ⟨(y.add (k * 7)).block, (y.add (k * 7)).off + 2, none⟩ = some (.int .i64 (L[k]'hlt).f.l) := hcell' 2 _ rfl
      have b3 : w.cell? ⟨(y.add (k * 7)).block, (y.add (k * 7)).off + 3, none⟩ = some (.string (L[k]'hlt).f.d) := hcell' 3 _ rfl
      have b4 : w.cell? ⟨(y.add (k * 7)).block, (y.add (k * 7)).off + 4, none⟩ = some (.int .i64 (L[k]'hlt).fr) := hcell' 4 _ rfl
      have b5 : w.cell? ⟨(y.add (k * 7)).block, (y.add (k * 7)).off + 5, none⟩ = some (.int .i64 (L[k]'hlt).tag) := hcell' 5 _ rfl
      have b6 : w.cell? ⟨(y.add (k * 7)).block, (y.add (k * 7)).off + 6, none⟩ = some (.bool (L[k]'hlt).lp) := hcell' 6 _ rfl
      have ed := seq_self (L[k]'hlt).f.d
      clear hcell hcell' hxb hyb
      generalize L[k]'hlt = f at a0 a1 a2 a3 a4 a5 a6 b0 b1 b2 b3 b4 b5 b6 ed
      have hk0 : (0 : Int) ≤ (k : Int) := by omega
      have hk1 : (k : Int) < (L.length : Int) := by omega
      go_wp2_with fail
      go_quiet (fail)
      go_wp2
      exact ⟨⟨k + 1, m + nq, by omega, by go_num, rfl⟩, by simp [intOf]; omega⟩
    · obtain rfl : k = L.length := by omega
      go_wp2
      go_ret
      exact ⟨rfl, m, rfl⟩
end Go.Proofs.Ytmpikfnemhjoeaa
