/- Of no program: rows of frames. (Parted from XWirY, so that others have it without wire.) Of no program: a row of bytes that the call gathers by append; a slice of bytes that it reads; '[]byte(s)'. Arb, the document's side: Ints. (Parted from XArbB: ring has it without the rest.) Of no program: an object behind a pointer: its calls may turn the blocks that it owns, and make new ones; all others stay. Of no program: a row of the call's own as an object: what it owns is its block; appended to, all others stay. Of no program: a frame behind an address. (Parted from XSerA.) -/
import Derived.Test.YtmmcjmejcngajaaGreatDoorZaf
import Derived.Test.YtmmcjmejcngajaaGreatDoorZad
import Derived.Test.YtmmcjmejcngajaaGreatDoorZaa
import Derived.Test.YtmmcjmejcngajaaGreatDoorZab
import Derived.Lib.ConvBytes
import Derived.Test.YtmmcjmejcngajaaGreatDoorZag
import Derived.Maps.AppendAt
import Derived.Laws.AppendOwnNone
import Derived.Lib.OthersKept
namespace Go.Proofs.YtmmcjmejcngajaaGreatDoor
open Go.RowKit
set_option linter.unusedVariables false

def frC (f : Fr) : List Value := [.int .i64 f.i, .int .i64 f.n, .int .i64 f.l, .string f.d]
theorem frC_len (f : Fr) : (frC f).length = 4 := rfl
/-- the slice v reads as the frames L -/
abbrev SlF (w : World) (B : Nat) (v : Value) (L : List Fr) : Prop := SlG frC 4 w B v L
abbrev GathF (B : Nat) (w0 : World) (v : Value) (L : List Fr) (wr : World) : Prop := GathG 33 frC 4 B w0 v L wr
def frOf : List Value → Fr
  | [.int _ i, .int _ n, .int _ l, .string d] => ⟨i, n, l, d⟩
  | _ => ⟨0, 0, 0, ByteArray.mk #[]⟩
theorem frOf_c (l : List Value) (h : FitsAll [.int .i64, .int .i64, .int .i64, .str] l) : frC (frOf l) = l := by
  obtain ⟨v0, l0, rfl, ⟨a0, rfl, _⟩, h0⟩ := FitsAll.cons h
  obtain ⟨v1, l1, rfl, ⟨a1, rfl, _⟩, h1⟩ := FitsAll.cons h0
  obtain ⟨v2, l2, rfl, ⟨a2, rfl, _⟩, h2⟩ := FitsAll.cons h1
  obtain ⟨v3, l3, rfl, ⟨a3, rfl, _⟩, h3⟩ := FitsAll.cons h2
  obtain rfl := FitsAll.nil h3
  rfl
/-- what a frame's fields hold, if they came in -/
def Fr.fits (f : Fr) : Prop := (Lit.int .i64 f.i).wf = true ∧ (Lit.int .i64 f.n).wf = true ∧ (Lit.int .i64 f.l).wf = true ∧ f.d.size ≤ maxLen
theorem fr_fits {f : Fr} (h : FitsAll [.int .i64, .int .i64, .int .i64, .str] (frC f)) : f.fits := by
  obtain ⟨⟨a0, e0, h0⟩, ⟨a1, e1, h1⟩, ⟨a2, e2, h2⟩, ⟨a3, e3, h3⟩, _⟩ := h
  injection e0 with _ e0; injection e1 with _ e1; injection e2 with _ e2; injection e3 with e3
  exact ⟨by rw [e0]; exact h0, by rw [e1]; exact h1, by rw [e2]; exact h2, by rw [e3]; exact h3⟩
/-- a frame of a row, as any later world holds it -/
theorem SlF.facts {w : World} {v : Value} {L : List Fr} (h : SlF w w.heap.size v L) {k : Nat} (hk : k < L.length) : ∃ x cap, v = .slice (some x) L.length cap ∧ x.block < w.heap.size ∧ ∀ m : Later w,
    m.w.cell? (x.add (k * 4)) = some (.int .i64 (L[k]'hk).i) ∧ m.w.cell? ⟨(x.add (k * 4)).block, (x.add (k * 4)).off + 1, none⟩ = some (.int .i64 (L[k]'hk).n) ∧
    m.w.cell? ⟨(x.add (k * 4)).block, (x.add (k * 4)).off + 2, none⟩ = some (.int .i64 (L[k]'hk).l) ∧ m.w.cell? ⟨(x.add (k * 4)).block, (x.add (k * 4)).off + 3, none⟩ = some (.string (L[k]'hk).d) := by
  obtain ⟨x, cap, hv, hxb, hcell⟩ := h.at_ hk
  refine ⟨x, cap, hv, hxb, fun m => ⟨?_, ?_, ?_, ?_⟩⟩
  · exact (m.h.cell (by rw [addr_block]; exact hxb)).trans (hcell 0 _ rfl)
  · exact (m.h.cell (p := ⟨(x.add (k * 4)).block, (x.add (k * 4)).off + 1, none⟩) (by rw [addr_block]; exact hxb)).trans (hcell 1 _ rfl)
  · exact (m.h.cell (p := ⟨(x.add (k * 4)).block, (x.add (k * 4)).off + 2, none⟩) (by rw [addr_block]; exact hxb)).trans (hcell 2 _ rfl)
  · exact (m.h.cell (p := ⟨(x.add (k * 4)).block, (x.add (k * 4)).off + 3, none⟩) (by rw [addr_block]; exact hxb)).trans (hcell 3 _ rfl)
end Go.Proofs.YtmmcjmejcngajaaGreatDoor

namespace Go.Proofs.YtmmcjmejcngajaaGreatDoor
open Go.RowKit
set_option linter.unusedVariables false

theorem drewN_two (w : World) (a b : Nat) : (w.drewN a).drewN b = w.drewN (a + b) := by
  unfold World.drewN
  simp [Nat.add_assoc]
theorem info_u8 : (Tryz.prog.info? 5).map (fun i => (i.zero, i.size, i.bytes)) = some (some (.int .u8 0), 1, 1) := by kernel_rfl
theorem news_byte (w : World) (v : Value) (t : TypeId) : ∀ j u, [v][j]? = some u → (w.alloc (.cells #[v] t)).cell? ((⟨w.heap.size, 0, none⟩ : Addr).add j) = some u := by
  intro j u hj
  rcases Nat.lt_or_ge j 1 with h | h
  · obtain rfl : j = 0 := by omega
    simp at hj
    subst hj
    simp [Addr.add, World.cell?_alloc_at _ _ _ _ rfl]
  · rw [List.getElem?_eq_none (by simpa using h)] at hj; cases hj

/-- a slice of bytes that can be read -/
def SlB (w : World) (v : Value) (L : List Int) : Prop :=
  L.length ≤ 140737488355328 ∧ ((L = [] ∧ ∃ A cap, v = .slice A 0 cap) ∨ ∃ g cap, v = .slice (some ⟨g, 0, none⟩) L.length cap ∧ ∀ k, k < L.length → w.cell? ⟨g, k, none⟩ = some (.int .u8 (L.getD k 0)))

def byteRow (L : List Int) : List Value := L.map (Value.int .u8)
theorem byteRow_app (a b : List Int) : byteRow (a ++ b) = byteRow a ++ byteRow b := by simp [byteRow]
/-- what a loop that gathers bytes knows -/
def gathB (B : Nat) (w : World) (v : Value) (L : List Int) (wr : World) : Prop :=
  wr.ownsRow B 5 1 v L.length (byteRow L) ∧ Below B w wr ∧ B ≤ wr.heap.size
theorem gathB.start (w : World) : gathB w.heap.size w (.slice none 0 0) [] w := ⟨World.ownsRow_nil _ _ _ _, Below.refl _ _, Nat.le_refl _⟩
theorem gathB.startB {B : Nat} {w wr : World} (h : Below B w wr) (hB : B ≤ wr.heap.size) : gathB B w (.slice none 0 0) [] wr := ⟨World.ownsRow_nil _ _ _ _, h, hB⟩
theorem gathB.later {B : Nat} {w wr w1 : World} {v : Value} {L : List Int} (h : gathB B w v L wr) (hb : Below wr.heap.size wr w1) : gathB B w v L w1 := by
  obtain ⟨h1, h2, h3⟩ := h
  refine ⟨?_, h2.trans (hb.mono h3), Nat.le_trans h3 hb.size⟩
  refine ⟨h1.1, ?_⟩
  rcases h1.2 with hn | ⟨g, cap, cur, rfl, hbg, hg, rest⟩
  · exact .inl hn
  · exact .inr ⟨g, cap, cur, rfl, hbg, (hb.block g (Array.getElem?_eq_some_iff.1 hg).1).trans hg, rest⟩
theorem gathB.drewN {B : Nat} {w wr : World} {v : Value} {L : List Int} (h : gathB B w v L wr) (n : Nat) : gathB B w v L (wr.drewN n) :=
  h.later ⟨rfl, rfl, rfl, Nat.le_refl _, fun _ _ => rfl⟩
theorem gathB.step {B : Nat} {w wr w1 : World} {v v' : Value} {L : List Int} {b : Int} {T : TypeId} (h : gathB B w v L wr)
    (hown : w1.ownsRow B 5 1 v' (L.length + 1) (byteRow L ++ [.int .u8 b])) (hgr : (wr.alloc (.cells #[.int .u8 b] T)).grownBy w1 v.ownBlock) : gathB B w v' (L ++ [b]) w1 := by
  obtain ⟨h1, h2, h3⟩ := h
  refine ⟨by rw [List.length_append, byteRow_app]; exact hown, (h2.alloc h3 _).grown hgr (by simp; omega) ?_, ?_⟩
  · intro k hk
    rcases h1.2 with ⟨rfl, _⟩ | ⟨g, cap, cur, rfl, hg, _⟩
    · cases hk
    · cases hk; exact hg
  · have := hgr.size; simp at this; omega
theorem gathB.slice {B : Nat} {w wr : World} {v : Value} {L : List Int} (h : gathB B w v L wr) (hm : L.length ≤ 140737488355328) : SlB wr v L := by
  obtain ⟨h1, _, _⟩ := h
  refine ⟨hm, ?_⟩
  rcases h1.2 with ⟨rfl, hn⟩ | ⟨g, cap, cur, rfl, hbg, hg, rest⟩
  · have : L = [] := by
      cases L with
      | nil => rfl
      | cons a L => simp at hn
    subst this
    exact .inl ⟨rfl, none, 0, rfl⟩
  · refine .inr ⟨g, cap, rfl, fun k hk => ?_⟩
    rw [h1.cellAt k (by simpa [byteRow] using hk)]
    unfold byteRow
    rw [List.getElem?_map, List.getElem?_eq_getElem hk]
    simp [List.getD, List.getElem?_eq_getElem hk]
/-- '[]byte(s)': the bytes of s in a block of their own -/
theorem bytesWorld_below (w : World) (e : TypeId) (s : ByteArray) : Below w.heap.size w (Lib.bytesWorld w e s) := by
  refine ⟨rfl, rfl, rfl, by rw [Lib.bytesWorld_size]; omega, fun k hk => Lib.bytesWorld_at_old w e s k hk⟩
theorem bytesWorld_slice (w : World) (e : TypeId) (s : ByteArray) (cap : Nat) (hs : s.size ≤ 140737488355328) : SlB (Lib.bytesWorld w e s) (.slice (some ⟨w.heap.size, 0, none⟩) s.size cap) (byL s) := by
  refine ⟨by rw [byL_len]; exact hs, .inr ⟨w.heap.size, cap, by rw [byL_len], fun k hk => ?_⟩⟩
  rw [byL_len] at hk
  rw [Lib.bytesWorld_cell w e s k hk, byL_getD]
  unfold bt
  simp [List.getD_eq_getElem?_getD]
/-- a cut ahead -/
theorem cut_ahead {s : ByteArray} {k : Nat} (h : k ≤ s.size) (w : World) : (Instr.sliceAt 9 (.string s) none (some (.int .i64 (k : Int))) none).run Tryz.prog w = .ok (.string (s.extract 0 k)) w := by
  have e2 : (k : Int) ≤ (s.size : Int) := by omega
  have e3 : ¬ ((s.size : Int) < (k : Int)) := by omega
  simp [go_sem, e2]

end Go.Proofs.YtmmcjmejcngajaaGreatDoor

namespace Go.Proofs.YtmmcjmejcngajaaGreatDoor
open Go.RowKit
set_option linter.unusedVariables false

/-! ### Ints -/
theorem list_take_eq {A B : List Int} {k : Nat} (hl : A.length = B.length) (h : k < A.length) (h' : k < B.length) (he : A.take k = B.take k) : A.take (k + 1) = B.take (k + 1) ↔ A[k] = B[k] := by
  rw [take_snoc h, take_snoc h', he]
  constructor
  · intro e
    have := List.append_cancel_left e
    simpa using this
  · intro e; rw [e]
set_option maxHeartbeats 1000000 in
theorem sints_v {v v' : Value} {L L' : List Int} {q : Bool} (h : decide (L = L') = q) (w : World) (hv : SlI w v L) (hv' : SlI w v' L') :
    Calls Tryz.prog 14 #[v, v'] w fun e w' => e = .returned (.bool q) ∧ ∃ m, w' = w.drewN m := by
  have H := Lib.hid h
  have HV := Lib.hid hv
  have HV' := Lib.hid hv'
  obtain ⟨A, cap, rfl, hlen, _⟩ := hv
  obtain ⟨A', cap', rfl, hlen', _⟩ := hv'
  unfold maxLen at hlen hlen'
  clear h
  by_cases hl : L.length = L'.length
  · have hne : ((L.length : Int) != (L'.length : Int)) = false := by simp; omega
    have HL := Lib.hid hl
    clear hl
    go_enter Tryz.func14, Tryz.ntmps14
    go_wp2_with fail
    go_loopw [5] (fun i wr => ∃ k : Nat, k ≤ L.length ∧ i = .int .i64 k ∧ Hid (L.take k = L'.take k) ∧ ∃ m, wr = w.drewN m) (fun i _ => L.length - (intOf i).toNat)
    case atStart => exact ⟨0, Nat.zero_le _, rfl, Lib.hid rfl, 0, rfl⟩
    case round =>
      obtain ⟨k, hk, rfl, HI, m, rfl⟩ := hrel
      by_cases hlt : k < L.length
      · have hlt2 : k < L'.length := by rw [← HL.out]; exact hlt
        obtain ⟨x, c1, hv1, hxb, c0⟩ := HV.out.at1 hlt rfl
        injection hv1 with hA _ hcap
        subst hA
        subst hcap
        obtain ⟨y, c2, hv2, hyb, d0⟩ := HV'.out.at1 hlt2 rfl
        injection hv2 with hA _ hcap
        subst hA
        subst hcap
        have HT := Lib.hid (list_take_eq HL.out hlt hlt2 HI.out)
        have c0' : ∀ m, (w.drewN m).cell? (x.add k) = some (.int .i64 L[k]) := fun _ => c0
        have d0' : ∀ m, (w.drewN m).cell? (y.add k) = some (.int .i64 L'[k]) := fun _ => d0
        have HNE : Hid (L[k] ≠ L'[k] → L ≠ L') := Lib.hid (fun h e => h (by subst e; rfl))
        generalize L[k] = a at c0' HT HNE
        generalize L'[k] = b at d0' HT HNE
        clear c0 d0
        by_cases hab : a = b
        · have hb : (a != b) = false := by simpa using hab
          have HN : Hid (L.take (k + 1) = L'.take (k + 1)) := Lib.hid (HT.out.2 hab)
          clear hab
          go_wp2_with fail
          go_quiet (fail)
          go_wp2
          go_roundw
          case rel => exact ⟨k + 1, by omega, by go_num, HN, _, rfl⟩
          case measure => simp [intOf]; omega
        · have hb : (a != b) = true := by simpa using hab
          have HQ : Hid (false = q) := Lib.hid (by rw [← H.out, decide_eq_false (HNE.out hab)])
          clear hab
          go_wp2_with fail
          go_quiet (fail)
          go_wp2
          go_ret
          exact ⟨fret_bool HQ.out, _, drewN_two _ _ _⟩
      · obtain rfl : k = L.length := by omega
        have HQ : Hid (true = q) := Lib.hid (by
          have := HI.out
          rw [List.take_length, List.take_of_length_le (by rw [HL.out]; exact Nat.le_refl _)] at this
          rw [← H.out, decide_eq_true this])
        go_wp2
        go_ret
        exact ⟨fret_bool HQ.out, _, rfl⟩
  · have hne : ((L.length : Int) != (L'.length : Int)) = true := by simp; omega
    have HQ : Hid (false = q) := Lib.hid (by rw [← H.out, decide_eq_false (fun e => hl (by rw [e]))])
    clear hl
    go_enter Tryz.func14, Tryz.ntmps14
    go_wp2
    go_ret
    exact ⟨fret_bool HQ.out, 0, rfl⟩

end Go.Proofs.YtmmcjmejcngajaaGreatDoor

namespace Go.Proofs.YtmmcjmejcngajaaGreatDoor
open Go.RowKit
set_option linter.unusedVariables false

/-- of the blocks that were there those alone may have turned that O names -/
structure Kept (O : Nat → Prop) (w w' : World) : Prop where
  os : w'.os = w.os
  tape : w'.tape = w.tape
  output : w'.output = w.output
  size : w.heap.size ≤ w'.heap.size
  block : ∀ k, k < w.heap.size → ¬ O k → w'.heap[k]? = w.heap[k]?
theorem Kept.of_below {O : Nat → Prop} {w w' : World} (h : Below w.heap.size w w') : Kept O w w' := ⟨h.os, h.tape, h.output, h.size, fun k hk _ => h.block k hk⟩
theorem Kept.refl (O : Nat → Prop) (w : World) : Kept O w w := .of_below (Below.refl _ _)
/-- what a call leaves of what the object owns: what it owned, or what is new -/
def Grows (O : Nat → Prop) (w : World) (O' : Nat → Prop) : Prop := ∀ k, O' k → O k ∨ w.heap.size ≤ k
theorem Grows.refl (O : Nat → Prop) (w : World) : Grows O w O := fun k h => .inl h
theorem Kept.trans {O O' : Nat → Prop} {w w1 w2 : World} (h : Kept O w w1) (h' : Kept O' w1 w2) (hg : Grows O w O') : Kept O w w2 :=
  ⟨h'.os.trans h.os, h'.tape.trans h.tape, h'.output.trans h.output, Nat.le_trans h.size h'.size, fun k hk hn =>
    (h'.block k (Nat.lt_of_lt_of_le hk h.size) (fun ho => by rcases hg k ho with h1 | h1; exact hn h1; omega)).trans (h.block k hk hn)⟩
theorem Grows.trans {O O' O2 : Nat → Prop} {w w1 : World} (h : Grows O w O') (h' : Grows O' w1 O2) (hs : w.heap.size ≤ w1.heap.size) : Grows O w O2 := fun k hk => by
  rcases h' k hk with h1 | h1
  · exact h k h1
  · exact .inr (Nat.le_trans hs h1)
theorem Kept.below {O : Nat → Prop} {B : Nat} {a w w' : World} (h : Kept O w w') (hb : Below B a w) (hB : B ≤ w.heap.size) (ho : ∀ k, O k → B ≤ k) : Below B a w' :=
  hb.trans ⟨h.os, h.tape, h.output, h.size, fun k hk => h.block k (by omega) (fun h1 => by have := ho k h1; omega)⟩
theorem Kept.cell {O : Nat → Prop} {w w' : World} (h : Kept O w w') {p : Addr} (hp : p.block < w.heap.size) (hn : ¬ O p.block) : w'.cell? p = w.cell? p := World.cell?_of_block (w := w) (h.block p.block hp hn)
theorem Kept.frozen {O : Nat → Prop} {w w' : World} (h : Kept O w w') {p : Addr} (hp : p.block < w.heap.size) (hn : ¬ O p.block) : w'.frozen? p = w.frozen? p := World.frozen?_of_block (w := w) (h.block p.block hp hn)

/-- an object's invariant speaks of the blocks alone that it owns, and they are there -/
structure IsObj {σ : Type} (I : World → Value → σ → (Nat → Prop) → Prop) : Prop where
  stay : ∀ {w w' : World} {v : Value} {s : σ} {O : Nat → Prop}, I w v s O → (∀ k, O k → w'.heap[k]? = w.heap[k]?) → I w' v s O
  lt : ∀ {w : World} {v : Value} {s : σ} {O : Nat → Prop}, I w v s O → ∀ k, O k → k < w.heap.size
/-- behind a call of the object's -/
def Stp {σ : Type} (I : World → Value → σ → (Nat → Prop) → Prop) (v : Value) (O : Nat → Prop) (w : World) (s' : σ) (w' : World) : Prop := ∃ O', I w' v s' O' ∧ Kept O w w' ∧ Grows O w O'
/-- what a caller knows: the object, and that what was there when the caller began is as it was -/
structure Has {σ : Type} (I : World → Value → σ → (Nat → Prop) → Prop) (w0 : World) (v : Value) (s : σ) (O : Nat → Prop) (w : World) : Prop where
  inv : I w v s O
  below : Below w0.heap.size w0 w
  new : ∀ k, O k → w0.heap.size ≤ k
section
variable {σ : Type} {I : World → Value → σ → (Nat → Prop) → Prop} {w0 w w' : World} {v : Value} {s s' : σ} {O O' : Nat → Prop}
theorem Has.step (hI : IsObj I) (h : Has I w0 v s O w) (hi : I w' v s' O') (hk : Kept O w w') (hg : Grows O w O') : Has I w0 v s' O' w' :=
  ⟨hi, hk.below h.below h.below.size h.new, fun k ho => by rcases hg k ho with h1 | h1; exact h.new k h1; exact Nat.le_trans h.below.size h1⟩
theorem Has.later (hI : IsObj I) (h : Has I w0 v s O w) (hb : Below w.heap.size w w') : Has I w0 v s O w' :=
  ⟨hI.stay h.inv (fun k hk => hb.block k (hI.lt h.inv k hk)), fbelow_t' h.below hb, h.new⟩
  where fbelow_t' {a b c : World} (h : Below a.heap.size a b) (h' : Below b.heap.size b c) : Below a.heap.size a c := h.trans (h'.mono h.size)
/-- a block of the caller's own may turn -/
theorem Has.setCell (hI : IsObj I) (h : Has I w0 v s O w) {p : Addr} (hp : w0.heap.size ≤ p.block) (hn : ¬ O p.block) (u : Value) : Has I w0 v s O (w.setCell p u) :=
  ⟨hI.stay h.inv (fun k hk => Below.heap_setCell _ _ _ _ (fun e => hn (e ▸ hk))), h.below.setCell hp u, h.new⟩
/-- a block outside what the object owns -/
theorem out_step {k : Nat} (h : k < w.heap.size) (hn : ¬ O k) (hg : Grows O w O') : ¬ O' k := fun ho => by
  rcases hg k ho with h1 | h1
  · exact hn h1
  · omega
end

/-! ### a slice that reads as L, outside of what an object owns -/
section
variable {α : Type} {c : α → List Value} {n : Nat} {w w' : World} {v : Value} {L : List α} {O O' : Nat → Prop}
def SlA (c : α → List Value) (n : Nat) (w : World) (O : Nat → Prop) (v : Value) (L : List α) : Prop :=
  ∃ A cap, v = .slice A L.length cap ∧ L.length ≤ maxLen ∧ ∀ i a, L[i]? = some a → ∃ x, A = some x ∧ x.block < w.heap.size ∧ ¬ O x.block ∧ ∀ j u, (c a)[j]? = some u → w.cell? (x.add (i * n + j)) = some u
theorem SlA.sl (h : SlA c n w O v L) : SlG c n w w.heap.size v L := by
  obtain ⟨A, cap, hv, hm, hc⟩ := h
  refine ⟨A, cap, hv, hm, fun i a ha => ?_⟩
  obtain ⟨x, h1, h2, _, h4⟩ := hc i a ha
  exact ⟨x, h1, h2, h4⟩
theorem SlA.step (h : SlA c n w O v L) (hk : Kept O w w') (hg : Grows O w O') : SlA c n w' O' v L := by
  obtain ⟨A, cap, hv, hm, hc⟩ := h
  refine ⟨A, cap, hv, hm, fun i a ha => ?_⟩
  obtain ⟨x, h1, h2, h3, h4⟩ := hc i a ha
  exact ⟨x, h1, Nat.lt_of_lt_of_le h2 hk.size, out_step h2 h3 hg, fun j u hu => (hk.cell (by rw [addr_block]; exact h2) (by rw [addr_block]; exact h3)).trans (h4 j u hu)⟩
theorem SlA.later (h : SlA c n w O v L) (hb : Below w.heap.size w w') : SlA c n w' O v L := by
  obtain ⟨A, cap, hv, hm, hc⟩ := h
  refine ⟨A, cap, hv, hm, fun i a ha => ?_⟩
  obtain ⟨x, h1, h2, h3, h4⟩ := hc i a ha
  exact ⟨x, h1, Nat.lt_of_lt_of_le h2 hb.size, h3, fun j u hu => (hb.cell (by rw [addr_block]; exact h2)).trans (h4 j u hu)⟩
/-- made by a call that leaves the object as it is: new, or old and outside -/
theorem SlA.of_sl (h : SlG c n w w.heap.size v L) (hn : ∀ x k c', v = .slice (some x) k c' → L ≠ [] → ¬ O x.block) : SlA c n w O v L := by
  obtain ⟨A, cap, hv, hm, hc⟩ := h
  refine ⟨A, cap, hv, hm, fun i a ha => ?_⟩
  obtain ⟨x, h1, h2, h4⟩ := hc i a ha
  subst h1
  exact ⟨x, rfl, h2, hn x _ _ hv (fun e => by subst e; simp at ha), h4⟩
theorem SlA.nil (c : α → List Value) (n : Nat) (w : World) (O : Nat → Prop) : SlA c n w O (.slice none 0 0) [] := ⟨none, 0, rfl, Nat.zero_le _, fun i a h => by simp at h⟩
end
end Go.Proofs.YtmmcjmejcngajaaGreatDoor

namespace Go.Proofs.YtmmcjmejcngajaaGreatDoor
open Go.RowKit
set_option linter.unusedVariables false

def OwnO (v : Value) : Nat → Prop := fun k => v.ownBlock = some k
def Apart (O O' : Nat → Prop) : Prop := ∀ k, O k → O' k → False
theorem Apart.symm {O O' : Nat → Prop} (h : Apart O O') : Apart O' O := fun k a b => h k b a
theorem Apart.step {O O' P : Nat → Prop} {w : World} (h : Apart O P) (hP : ∀ k, P k → k < w.heap.size) (hg : Grows O w O') : Apart O' P := fun k a b => by
  rcases hg k a with h1 | h1
  · exact h k h1 b
  · have := hP k b; omega
theorem apart_nil (O : Nat → Prop) : Apart O (OwnO (.slice none 0 0)) := fun k _ h => by cases h
theorem own_stay {base : Nat} {e : TypeId} {k n : Nat} {w w' : World} {v : Value} {xs : List Value} (h : w.ownsRow base e k v n xs) (hs : ∀ g, OwnO v g → w'.heap[g]? = w.heap[g]?) : w'.ownsRow base e k v n xs := by
  refine ⟨h.1, ?_⟩
  rcases h.2 with h0 | ⟨g, cap, cur, rfl, hb, hg, r⟩
  · exact .inl h0
  · exact .inr ⟨g, cap, cur, rfl, hb, (hs g rfl).trans hg, r⟩
theorem own_lt {base : Nat} {e : TypeId} {k n : Nat} {w : World} {v : Value} {xs : List Value} (h : w.ownsRow base e k v n xs) : ∀ g, OwnO v g → g < w.heap.size := by
  rcases h.2 with ⟨rfl, _⟩ | ⟨g, cap, cur, rfl, hb, hg, r⟩
  · intro g hg; cases hg
  · intro g' hg'
    injection hg' with e
    have e : g = g' := e
    subst e
    exact (Array.getElem?_eq_some_iff.1 hg).1
theorem own_ge {base : Nat} {e : TypeId} {k n : Nat} {w : World} {v : Value} {xs : List Value} (h : w.ownsRow base e k v n xs) : ∀ g, OwnO v g → base ≤ g := by
  rcases h.2 with ⟨rfl, _⟩ | ⟨g, cap, cur, rfl, hb, hg, r⟩
  · intro g hg; cases hg
  · intro g' hg'
    injection hg' with e
    have e : g = g' := e
    subst e
    exact hb
theorem kept_grown {w w' : World} {v : Value} (h : w.grownBy w' v.ownBlock) : Kept (OwnO v) w w' := ⟨h.os, h.tape, h.output, h.size, fun k hk hn => h.block k hk (fun e => hn e.symm)⟩
theorem grows_at {w : World} {v v' : Value} (h : v'.ownBlock = v.ownBlock ∨ v'.ownBlock = some w.heap.size) : Grows (OwnO v) w (OwnO v') := fun k hk => by
  unfold OwnO at hk ⊢
  rcases h with h | h
  · exact .inl (by rw [← h]; exact hk)
  · rw [h] at hk; injection hk with hk; exact .inr (by omega)
/-- the facts of a type that an append asks: laid flat in k cells, of so many bytes -/
def FlatE (P : Program) (T E : TypeId) (k bytes : Nat) : Prop := P.underlying T = some (.slice E) ∧ ∃ i z, P.info? E = some i ∧ i.zero = some z ∧ i.size = k ∧ i.bytes = bytes ∧ z.cells.size = k ∧ 0 < k ∧ bytes ≤ 100
section
variable {α : Type} {c : α → List Value} {k bytes : Nat} {T E : TypeId} {P : Program}
/-- a row's own cells as a list, the nil kept apart -/
def RdA (c : α → List Value) (k : Nat) (w : World) (v : Value) (L : List α) : Prop := SlG c k w w.heap.size v L ∧ (v = .slice none 0 0 ∨ ∃ x cap, v = .slice (some x) L.length cap ∧ L.length ≤ cap)
theorem rowG_cells' (hk : ∀ a, (c a).length = k) {L : List α} {j : Nat} {u : Value} (h : (rowG c L)[j]? = some u) : ∃ i r a, L[i]? = some a ∧ (c a)[r]? = some u ∧ j = i * k + r := by
  induction L generalizing j with
  | nil => simp [rowG] at h
  | cons a L ih =>
    by_cases hj : j < k
    · refine ⟨0, j, a, rfl, ?_, by simp⟩
      unfold rowG at h
      rw [List.flatMap_cons, List.getElem?_append_left (by rw [hk]; exact hj)] at h
      exact h
    · unfold rowG at h
      rw [List.flatMap_cons, List.getElem?_append_right (by rw [hk]; omega), hk] at h
      obtain ⟨i, r, b, h1, h2, h3⟩ := ih h
      refine ⟨i + 1, r, b, by simpa using h1, h2, ?_⟩
      rw [Nat.add_mul]; omega
theorem wpList_growO {ops : Array Oper} {rest : List Oper} {o : Oper} {a : Act} {Q : Exit → Act → World → Prop} {W : World} (hT : FlatE P T E k bytes) (hk : ∀ a, (c a).length = k) (hone : ∀ a, ∀ u ∈ c a, u.oneCell' = true) (hgd : o.guard = none) (s x : Operand)
    (ho : o.op = .call { callee := .builtin .append, args := #[s, x], argTypes := #[T, T] }) {B : Nat} {v u : Value} {L M : List α} (hs : a.eval s = v) (hg : W.ownsRow B E k v L.length (rowG c L)) (hB : B ≤ W.heap.size)
    (hx : a.eval x = u) (hr : RdA c k W u M) (hsz : L.length + M.length ≤ 1000000)
    (h : ∀ v' w', w'.ownsRow B E k v' (L ++ M).length (rowG c (L ++ M)) → Kept (OwnO v) W w' → Grows (OwnO v) W (OwnO v') → wpList P ops Q rest (a.put o.dst v') w') : wpList P ops Q (o :: rest) a W := by
  obtain ⟨ht, i0, z, hi, hz, hz1, hz2, hz3, hk0, hby⟩ := hT
  obtain ⟨hsl, hshape⟩ := hr
  rcases hshape with rfl | ⟨p, cp, rfl, _⟩
  · obtain ⟨A, cap, hv, _, _⟩ := hsl
    injection hv with _ hl _
    obtain rfl : M = [] := List.eq_nil_of_length_eq_zero hl.symm
    refine wpList_append_own_none hgd s x T ho B E i0 k ht hi v L.length (rowG c L) hs hg hx ?_
    exact h v W (by rw [List.append_nil]; exact hg) (Kept.refl _ _) (Grows.refl _ _)
  · have hby2 : (L.length + M.length) * bytes ≤ 1000000 * 100 := Nat.mul_le_mul hsz hby
    refine wpList_append_own_at _ hgd s x T ho B E i0 z k bytes ht hi hz hz1 hz2 hz3 hk0 v L.length (rowG c L) hs hg p M.length cp (rowG c M) hx (rowG_length hk M) (fun j u hu => ?_) (fun u hu => ?_) ?_ ?_ hB ?_
    · obtain ⟨i, r, b, h1, h2, rfl⟩ := rowG_cells' hk hu
      obtain ⟨A, cap, hv, _, hc⟩ := hsl
      injection hv with hA _ _
      subst hA
      obtain ⟨x', hx', _, hcell⟩ := hc i b h1
      injection hx' with hx'
      subst hx'
      exact hcell r u h2
    · obtain ⟨j, hj, rfl⟩ := List.getElem_of_mem hu
      obtain ⟨i, r, b, h1, h2, _⟩ := rowG_cells' hk (List.getElem?_eq_getElem hj)
      exact hone b _ (List.mem_of_getElem? h2)
    · unfold maxLen; omega
    · omega
    · intro v' w' hown hgr _ hat
      exact h v' w' (by rw [List.length_append, rowG_app]; exact hown) (kept_grown hgr) (grows_at hat)
/-- the one thing of a new block that 'append(l, x)' reads -/
theorem RdA.one (hk : ∀ a, (c a).length = k) (w : World) (b : α) (t : TypeId) {g : Nat} {w' : World} (hg : w.heap.size = g) (hw : w' = w.alloc (.cells (c b).toArray t)) : RdA c k w' (.slice (some ⟨g, 0, none⟩) 1 1) [b] := by
  subst hg hw
  refine ⟨⟨_, _, rfl, by unfold maxLen; simp, fun i a ha => ?_⟩, .inr ⟨_, _, rfl, Nat.le_refl _⟩⟩
  have hi : i = 0 := by
    rcases Nat.lt_or_ge i 1 with h | h
    · omega
    · rw [List.getElem?_eq_none (by simpa using h)] at ha; cases ha
  subst hi
  simp at ha
  subst ha
  refine ⟨_, rfl, by simp, fun j u hu => ?_⟩
  rw [Nat.zero_mul, Nat.zero_add]
  exact World.news_of_block (B := w.heap.size) (cs := (c b).toArray) (t := t) (fr := (0, 0)) (by unfold World.alloc; simp) j u (by simpa using hu)
end
end Go.Proofs.YtmmcjmejcngajaaGreatDoor

namespace Go.Proofs.YtmmcjmejcngajaaGreatDoor
open Go.RowKit
set_option linter.unusedVariables false

/-! ### a frame behind an address -/
def BoxF (w : World) (b : Nat) (i n l : Int) (d : ByteArray) : Prop := w.heap[b]? = some (.cells #[.int .i64 i, .int .i64 n, .int .i64 l, .string d] 33 (0, 0))
theorem BoxF.made (w : World) (i n l : Int) (d : ByteArray) : BoxF (w.alloc (.cells #[.int .i64 i, .int .i64 n, .int .i64 l, .string d] 33)) w.heap.size i n l d := by unfold BoxF World.alloc; simp
theorem BoxF.lt {w : World} {b : Nat} {i n l : Int} {d : ByteArray} (h : BoxF w b i n l d) : b < w.heap.size := (Array.getElem?_eq_some_iff.1 h).1
theorem BoxF.below {w w' : World} {b B : Nat} {i n l : Int} {d : ByteArray} (h : BoxF w b i n l d) (hb : Below B w w') (hB : b < B) : BoxF w' b i n l d := (hb.block b hB).trans h
theorem BoxF.later {w w' : World} {b : Nat} {i n l : Int} {d : ByteArray} (h : BoxF w b i n l d) (hb : Below w.heap.size w w') : BoxF w' b i n l d := h.below hb h.lt
theorem BoxF.cells {w : World} {b : Nat} {i n l : Int} {d : ByteArray} (h : BoxF w b i n l d) : w.cell? ⟨b, 0, none⟩ = some (.int .i64 i) ∧ w.cell? ⟨b, 1, none⟩ = some (.int .i64 n) ∧ w.cell? ⟨b, 2, none⟩ = some (.int .i64 l) ∧ w.cell? ⟨b, 3, none⟩ = some (.string d) := by
  unfold BoxF at h
  refine ⟨?_, ?_, ?_, ?_⟩ <;> (rw [Lib.cell_of_heap h]; rfl)
end Go.Proofs.YtmmcjmejcngajaaGreatDoor
