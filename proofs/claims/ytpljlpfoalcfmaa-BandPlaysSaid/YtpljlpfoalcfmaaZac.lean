/- Of no program: the steps of the walk of XSec, one kind of operation each. Of no program: lists in memory: a slice that reads as a list of things of k cells each (whoever made it); a row of the call's own that gathers such; a strings.Builder of the call's own behind callees that make new memory. Of no program: an object behind a pointer: its calls may turn the blocks that it owns, and make new ones; all others stay. -/
import Derived.Test.YtpljlpfoalcfmaaZab
import Derived.Laws.BytesArg
import Derived.Test.YtpljlpfoalcfmaaZaa
import Derived.Deep.AppendLies
import Derived.Maps.AppendAt
import Derived.OwnWalk
import Derived.Below
import Derived.Lib.OthersKept
import Derived.Deep.Draws
namespace Go.Proofs.Ytpljlpfoalcfmaa
open Go.RowKit
set_option linter.unusedVariables false

section
variable {P : Program} {ops : Array Oper} {W : World} {sec : List Tmp} {F : Tmp → Value → World → Prop} {Q : Act → Prop} {rest : List Oper} {o : Oper} {h : Act}

/-- operations that are no call of a Go function -/
def plainOp (o : Oper) : Bool :=
  match o.op with
  | .move _ => true | .assign _ => true | .pick .. => true | .build .. => true | .load .. => true | .fieldAddr .. => true | .field .. => true | .indexAddr .. => true | .index .. => true
  | .convert .. => true | .binOp .. => true | .unOp .. => true | .extract .. => true | .slice .. => true
  | .call c => (match c.callee with | .builtin .len => true | .builtin .cap => true | .builtin .min => true | .builtin .max => true | _ => false)
  | _ => false
def noSel (o : Oper) : Bool := match o.op with | .select .. => false | _ => true
theorem noSel_spec (hs : noSel o = true) : ∀ cs b, o.op ≠ .select cs b := by
  intro cs b e
  unfold noSel at hs
  rw [e] at hs
  cases hs
theorem plain_sel (hs : plainOp o = true) : ∀ cs b, o.op ≠ .select cs b := by
  intro cs b e
  unfold plainOp at hs
  rw [e] at hs
  cases hs

theorem value_noEnter (s : Sem Value) (w : World) (f : FuncId) (args : Array Value) (w' : World) : (do pure (.value (← s)) : Sem Next).run P w ≠ .ok (.enter f args) w' := by
  rw [Sem.run_bind]
  cases s.run P w <;> simp [Sem.run_pure, Result.andThen]
theorem plain_noEnter (hp : plainOp o = true) (ρ : Operand → Value) (w : World) (f : FuncId) (args : Array Value) (w' : World) : (execOp ρ o).run P w ≠ .ok (.enter f args) w' := by
  obtain ⟨dst, op, type, pos, after, guard⟩ := o
  unfold plainOp at hp
  cases op
  case call c =>
    obtain ⟨callee, xs, ats⟩ := c
    cases callee with
    | builtin b =>
      cases b
      all_goals first
        | (exfalso; revert hp; simp; done)
        | (simp only [execOp, resolve, invoke, builtin, Sem.run_bind, Sem.run_pure, Result.andThen, ne_eq]
           split <;> simp)
    | invoke r n => (exfalso; revert hp; simp)
    | value f => (exfalso; revert hp; simp)
  case pick c a b =>
    simp only [execOp, Sem.run_bind, Sem.run_pure, Result.andThen, ne_eq]
    split <;> simp
  all_goals first
    | (exfalso; revert hp; simp; done)
    | (simp only [execOp]; exact value_noEnter _ _ _ _ _)
    | (simp [execOp, Sem.run_pure]; done)

def secOpenL (ops : Array Oper) (sec : List Tmp) (o : Oper) : Bool := (o.looksAt ops).all fun t => !sec.contains t
def secOpenD (sec : List Tmp) (o : Oper) : Bool := match o.dst with | some d => !sec.contains d | none => true
theorem eval_open {a : Act} {w : World} (hl : secOpenL ops sec o = true) (hs : ∀ cs b, o.op ≠ .select cs b) (hk : secLooks ops sec F o h a w) : execOp a.eval o = execOp h.eval o := by
  refine execOp_congr o hs fun x hx => ?_
  cases x with
  | tmp t =>
    have hm : t ∈ o.looksAt ops := List.mem_append_left _ (List.mem_filterMap.2 ⟨.tmp t, by simpa using hx, rfl⟩)
    have h1 := hk t hm
    have h2 := List.all_eq_true.1 hl t hm
    have h3 : t ∉ sec := by simpa using h2
    rw [if_neg h3] at h1
    exact h1
  | const v => rfl
  | global g => rfl
  | func f => rfl
theorem good_open {u v : Value} {w : World} (hd : secOpenD sec o = true) (e : u = v) : secGood sec F o.dst v u w := by
  unfold secGood
  unfold secOpenD at hd
  split
  · rename_i d hdd
    rw [hdd] at hd
    rw [if_neg (by simpa using hd)]
    exact e
  · trivial

/-- a plain operation that reads and writes open slots -/
theorem sec_plain (hw : Region.wanted o (yielded ops h.tmps) = true) (hp : plainOp o = true) (hl : secOpenL ops sec o = true) (hd : secOpenD sec o = true)
    (hk : ∀ K : Act → Prop, (∀ a, wpSec P ops W sec F Q rest a → K a) → o.quiet P h (fun w' => ∃ n : Later W, w' = n.w) K) : wpSec P ops W sec F Q (o :: rest) h := by
  obtain ⟨v, h1, h2⟩ := hk _ fun _ hh => hh
  unfold wpSec
  rw [if_pos hw]
  refine ⟨v, fun a w hb hlk => ?_, h2⟩
  rw [eval_open hl (plain_sel hp) hlk]
  have h3 := h1 w ⟨⟨w, hb⟩, rfl⟩
  have h4 := plain_noEnter (P := P) hp h.eval w
  unfold Oper.quietAt at h3
  generalize (execOp h.eval o).run P w = r at h3 h4
  cases r with
  | ok x w' =>
    cases x <;> simp only [Oper.quietUpon] at h3 <;> simp only [secUpon]
    case value u => obtain ⟨rfl, e⟩ := h3; exact ⟨Below.refl _ _, good_open hd e⟩
    case skip => obtain ⟨rfl, e⟩ := h3; exact ⟨Below.refl _ _, good_open hd e.symm⟩
    case enter f args => exact absurd rfl (h4 f args w')
  | halt x w' => simp only [Oper.quietUpon] at h3
/-- a nil check of a pointer that is none -/
theorem sec_nil {x : Operand} {p : Addr} (hw : Region.wanted o (yielded ops h.tmps) = true) (ho : o.op = .nilCheck x) (hx : h.eval x = .pointer (some p)) (hl : secOpenL ops sec o = true) (hd : secOpenD sec o = true)
    (hk : ∀ K : Act → Prop, (∀ a, wpSec P ops W sec F Q rest a → K a) → o.quiet P h (fun w' => ∃ n : Later W, w' = n.w) K) : wpSec P ops W sec F Q (o :: rest) h := by
  obtain ⟨v, h1, h2⟩ := hk _ fun _ hh => hh
  unfold wpSec
  rw [if_pos hw]
  refine ⟨v, fun a w hb hlk => ?_, h2⟩
  rw [eval_open hl (fun cs b => by rw [ho]; simp) hlk]
  have h3 := h1 w ⟨⟨w, hb⟩, rfl⟩
  have h4 : ∀ f args w', (execOp h.eval o).run P w ≠ .ok (.enter f args) w' := fun f args w' => by simp [execOp, ho, hx, Sem.run_pure]
  unfold Oper.quietAt at h3
  generalize (execOp h.eval o).run P w = r at h3 h4
  cases r with
  | ok x w' =>
    cases x <;> simp only [Oper.quietUpon] at h3 <;> simp only [secUpon]
    case value u => obtain ⟨rfl, e⟩ := h3; exact ⟨Below.refl _ _, good_open hd e⟩
    case skip => obtain ⟨rfl, e⟩ := h3; exact ⟨Below.refl _ _, good_open hd e.symm⟩
    case enter f args => exact absurd rfl (h4 f args w')
  | halt x w' => simp only [Oper.quietUpon] at h3
theorem sec_skip (hw : Region.wanted o (yielded ops h.tmps) = false) (hd : secOpenD sec o = true) (hk : wpSec P ops W sec F Q rest (h.put o.dst undef)) : wpSec P ops W sec F Q (o :: rest) h := by
  unfold wpSec
  rw [if_neg (by rw [hw]; exact Bool.false_ne_true)]
  refine ⟨fun d e => ?_, hk⟩
  unfold secOpenD at hd
  rw [e] at hd
  simpa using hd

/-- a call that makes new memory alone and answers v -/
theorem sec_call {v : Value} (hw : Region.wanted o (yielded ops h.tmps) = true) (hn : noSel o = true) (hl : secOpenL ops sec o = true) (hd : secOpenD sec o = true)
    (hz : (match o.dst with | some d => decide (d < h.tmps.size) | none => false) = true)
    (hq : ∀ (m : Later W) (K : Act → Prop), K (h.put o.dst v) → o.quiet P h (fun w' => ∃ n : Later m.w, w' = n.w) K) (hk : wpSec P ops W sec F Q rest (h.put o.dst v)) : wpSec P ops W sec F Q (o :: rest) h := by
  unfold wpSec
  rw [if_pos hw]
  refine ⟨v, fun a w hb hlk => ?_, hk⟩
  rw [eval_open hl (noSel_spec hn) hlk]
  obtain ⟨v', h1, h2⟩ := hq ⟨w, hb⟩ (fun a => a = h.put o.dst v) rfl
  have ev : v' = v := by
    cases ed : o.dst with
    | none => rw [ed] at hz; cases hz
    | some d =>
      rw [ed] at hz h2
      have h3 : d < h.tmps.size := by simpa using hz
      have h4 := congrArg (fun a : Act => a.tmps.getD d undef) h2
      simp only [getD_put, h3, and_self, if_true] at h4
      exact h4
  subst ev
  have h3 := h1 w ⟨⟨w, Below.refl _ _⟩, rfl⟩
  unfold Oper.quietAt at h3
  generalize (execOp h.eval o).run P w = r at h3
  cases r with
  | ok x w' =>
    cases x <;> simp only [Oper.quietUpon] at h3 <;> simp only [secUpon]
    case value u => obtain ⟨rfl, e⟩ := h3; exact ⟨Below.refl _ _, good_open hd e⟩
    case skip => obtain ⟨rfl, e⟩ := h3; exact ⟨Below.refl _ _, good_open hd e.symm⟩
    case enter f args =>
      obtain ⟨rfl, hc⟩ := h3
      exact ⟨rfl, hc.mono fun e w'' ⟨he, n, hnw⟩ => ⟨_, he, by rw [hnw]; exact n.h, good_open hd rfl⟩⟩
  | halt x w' => simp only [Oper.quietUpon] at h3

/-- an operation that lays a new block, whose value is hidden -/
theorem sec_new {s : Tmp} {mk : World → Value} {ob : World → Obj} (hw : Region.wanted o (yielded ops h.tmps) = true) (hn : noSel o = true) (hl : secOpenL ops sec o = true) (hd : o.dst = some s) (hs : sec.contains s = true)
    (hrun : ∀ w, (execOp h.eval o).run P w = .ok (.value (mk w)) (w.alloc (ob w))) (hF : ∀ w, F s (mk w) (w.alloc (ob w))) (hk : wpSec P ops W sec F Q rest (h.put o.dst undef)) : wpSec P ops W sec F Q (o :: rest) h := by
  unfold wpSec
  rw [if_pos hw]
  refine ⟨undef, fun a w hb hlk => ?_, hk⟩
  rw [eval_open hl (noSel_spec hn) hlk, hrun w]
  refine ⟨(Below.refl _ _).alloc (Nat.le_refl _) _, ?_⟩
  unfold secGood
  rw [hd]
  simp only
  rw [if_pos (by simpa using hs)]
  exact hF w

/-- an operation that reads hidden slots, by their facts, and yields v -/
theorem sec_read {v : Value} (hw : Region.wanted o (yielded ops h.tmps) = true) (hd : secOpenD sec o = true)
    (hrun : ∀ (a : Act) (w : World), Below W.heap.size W w → secLooks ops sec F o h a w → (execOp a.eval o).run P w = .ok (.value v) w) (hk : wpSec P ops W sec F Q rest (h.put o.dst v)) : wpSec P ops W sec F Q (o :: rest) h := by
  unfold wpSec
  rw [if_pos hw]
  refine ⟨v, fun a w hb hlk => ?_, hk⟩
  rw [hrun a w hb hlk]
  exact ⟨Below.refl _ _, good_open hd rfl⟩

/-- what a hidden slot is known to be: a slice of bytes in a block of its own -/
def isBytes (e : TypeId) (xs : List Int) (v : Value) (w : World) : Prop := ∃ b, v = .slice (some ⟨b, 0, none⟩) xs.length xs.length ∧ w.heap[b]? = some (.cells (xs.map (Value.int .u8)).toArray e (0, 0))
theorem isBytes_later {e : TypeId} {xs : List Int} {v : Value} {w w' : World} (h : isBytes e xs v w) (hb : Below w.heap.size w w') : isBytes e xs v w' := by
  obtain ⟨b, h1, h2⟩ := h
  exact ⟨b, h1, by rw [hb.block b (Array.getElem?_eq_some_iff.1 h2).1]; exact h2⟩
theorem isBytes_new (w : World) (e : TypeId) (xs : List Int) : isBytes e xs (.slice (some ⟨w.heap.size, 0, none⟩) xs.length xs.length) (w.alloc (.cells (xs.map (Value.int .u8)).toArray e)) :=
  ⟨w.heap.size, rfl, heap_alloc_new w _⟩
theorem isBytes_string {e src dst : TypeId} {xs : List Int} {v : Value} {w : World} (hs : P.underlying src = some (.slice e)) (he : P.underlying e = some (.int .u8)) (hd : P.underlying dst = some .string)
    (h : isBytes e xs v w) : (convert src dst v).run P w = .ok (.string (strOfNums xs)) w := by
  obtain ⟨b, rfl, h2⟩ := h
  refine run_convert_bytes_arg w src e hs he b 0 xs.length xs.length xs rfl (fun i hi => ?_) dst hd
  rw [Nat.zero_add, cell_of_row _ _ _ _ _ _ h2]
  simp [List.getD_eq_getElem?_getD, List.getElem?_eq_getElem hi]
end

end Go.Proofs.Ytpljlpfoalcfmaa

namespace Go.Proofs.Ytpljlpfoalcfmaa
open Go.RowKit
set_option linter.unusedVariables false

theorem addr_block (a : Addr) (n : Nat) : (a.add n).block = a.block := by unfold Addr.add; split <;> rfl
theorem addr_add (a : Addr) (i j : Nat) : (a.add i).add j = a.add (i + j) := by
  unfold Addr.add
  by_cases hi : i = 0
  · subst hi; simp
  · by_cases hj : j = 0
    · subst hj; simp [hi]
    · simp [hi, hj, Nat.add_assoc]
theorem addr_zero (b j : Nat) : (⟨b, 0, none⟩ : Addr).add j = ⟨b, j, none⟩ := by unfold Addr.add; split <;> simp_all

section
variable {α : Type} {c : α → List Value} {k : Nat} {w w' : World} {B B' : Nat} {v : Value} {L : List α}

/-- the slice v reads as L: element i's cells are c of it; all lies below block B -/
def SlG (c : α → List Value) (k : Nat) (w : World) (B : Nat) (v : Value) (L : List α) : Prop :=
  ∃ A cap, v = .slice A L.length cap ∧ L.length ≤ maxLen ∧ ∀ i a, L[i]? = some a → ∃ x, A = some x ∧ x.block < B ∧ ∀ j u, (c a)[j]? = some u → w.cell? (x.add (i * k + j)) = some u
theorem SlG.keep (h : SlG c k w B v L) (hk : ∀ p : Addr, p.block < B → w'.cell? p = w.cell? p) (hB : B ≤ B') : SlG c k w' B' v L := by
  obtain ⟨A, cap, hv, hm, hc⟩ := h
  refine ⟨A, cap, hv, hm, fun i a ha => ?_⟩
  obtain ⟨x, hx, hxb, hcell⟩ := hc i a ha
  exact ⟨x, hx, by omega, fun j u hu => (hk _ (by rw [addr_block]; exact hxb)).trans (hcell j u hu)⟩
theorem SlG.below (h : SlG c k w B v L) (hb : Below B w w') : SlG c k w' B v L := h.keep (fun p hp => hb.cell hp) (Nat.le_refl _)
theorem SlG.later (h : SlG c k w w.heap.size v L) (hb : Below w.heap.size w w') : SlG c k w' w'.heap.size v L := h.keep (fun p hp => hb.cell hp) hb.size
theorem SlG.drewN (h : SlG c k w B v L) (n : Nat) : SlG c k (w.drewN n) B v L := h
theorem SlG.nil (c : α → List Value) (k : Nat) (w : World) (B : Nat) : SlG c k w B (.slice none 0 0) [] := ⟨none, 0, rfl, Nat.zero_le _, fun i a h => by simp at h⟩
/-- element i, if there is one: the slice has an address, and the element's cells lie behind it -/
theorem SlG.at_ (h : SlG c k w B v L) {i : Nat} (hi : i < L.length) : ∃ x cap, v = .slice (some x) L.length cap ∧ x.block < B ∧ ∀ j u, (c (L[i]'hi))[j]? = some u → w.cell? ((x.add (i * k)).add j) = some u := by
  obtain ⟨A, cap, hv, hm, hc⟩ := h
  obtain ⟨x, hx, hxb, hcell⟩ := hc i _ (List.getElem?_eq_getElem hi)
  subst hx
  exact ⟨x, cap, hv, hxb, fun j u hu => by rw [addr_add]; exact hcell j u hu⟩

/-- an argument: what 'open_slice_flat' hands over, as a list -/
theorem slice_of_row {s : List Sh} {a : Option Addr} {len cap : Nat} {R : Nat → List Value} (h : IsRowOf w s a len cap R) (f : List Value → α) (hc : ∀ l, FitsAll s l → c (f l) = l) (hs : s.length = k) (h0 : 0 < k) :
    ∃ L : List α, SlG c k w w.heap.size (.slice a len cap) L ∧ L.length = len ∧ ∀ x ∈ L, FitsAll s (c x) := by
  rcases h with ⟨rfl, rfl, rfl⟩ | ⟨x, rfl, hl, hm, hcell⟩
  · exact ⟨[], SlG.nil _ _ _ _, rfl, fun x hx => by cases hx⟩
  · refine ⟨(List.range len).map fun i => f (R i), ⟨some x, cap, by simp, by simp; omega, fun i b hb => ?_⟩, by simp, fun y hy => ?_⟩
    · have hi : i < len := by
        rcases Nat.lt_or_ge i len with h | h
        · exact h
        · rw [List.getElem?_eq_none (by simpa using h)] at hb; cases hb
      have hb' : b = f (R i) := by
        rw [List.getElem?_eq_getElem (by simpa using hi)] at hb
        simpa using hb.symm
      subst hb'
      obtain ⟨hf, hcs⟩ := hcell i (by omega)
      have hlen := hf.length
      have h00 := hcs 0 (by omega)
      rw [List.getElem?_eq_getElem (by omega)] at h00
      refine ⟨x, rfl, ?_, fun j u hu => ?_⟩
      · have := World.block_lt_of_cell? w _ h00
        rwa [addr_block] at this
      · rw [hc _ hf] at hu
        have hj : j < s.length := by
          rcases Nat.lt_or_ge j s.length with h | h
          · exact h
          · rw [List.getElem?_eq_none (by rw [hlen]; exact h)] at hu; cases hu
        rw [← hs, hcs j hj]
        exact hu
    · obtain ⟨i, hi, rfl⟩ := List.mem_map.1 hy
      have hi' := List.mem_range.1 hi
      have hf := (hcell i (by omega)).1
      rw [hc _ hf]
      exact hf

/-! ### a row of the call's own -/
def rowG (c : α → List Value) (L : List α) : List Value := L.flatMap c
theorem rowG_app (a b : List α) : rowG c (a ++ b) = rowG c a ++ rowG c b := by simp [rowG]
theorem rowG_one (a : α) : rowG c [a] = c a := by simp [rowG]
theorem rowG_length (hk : ∀ a, (c a).length = k) : ∀ L : List α, (rowG c L).length = L.length * k
  | [] => by simp [rowG]
  | a :: L => by
    have := rowG_length hk L
    simp only [rowG, List.flatMap_cons, List.length_append, hk, List.length_cons] at this ⊢
    rw [this, Nat.add_mul]; omega
theorem rowG_get (hk : ∀ a, (c a).length = k) : ∀ (L : List α) (i : Nat) (a : α), L[i]? = some a → ∀ j u, (c a)[j]? = some u → (rowG c L)[i * k + j]? = some u
  | [], i, a, h, _, _, _ => by simp at h
  | b :: L, 0, a, h, j, u, hu => by
    simp only [List.getElem?_cons_zero, Option.some.injEq] at h
    subst h
    have hj : j < (c b).length := by
      rcases Nat.lt_or_ge j (c b).length with h | h
      · exact h
      · rw [List.getElem?_eq_none h] at hu; cases hu
    simp only [rowG, List.flatMap_cons, Nat.zero_mul, Nat.zero_add]
    rw [List.getElem?_append_left hj]; exact hu
  | b :: L, i + 1, a, h, j, u, hu => by
    simp only [List.getElem?_cons_succ] at h
    have := rowG_get hk L i a h j u hu
    simp only [rowG, List.flatMap_cons] at this ⊢
    rw [List.getElem?_append_right (by rw [hk, Nat.add_mul]; omega), hk, show (i + 1) * k + j - k = i * k + j by rw [Nat.add_mul]; omega]
    exact this

/-- what a loop that gathers knows: B: the heap's size when the call began, in world w0 -/
def GathG (E : TypeId) (c : α → List Value) (k : Nat) (B : Nat) (w0 : World) (v : Value) (L : List α) (wr : World) : Prop :=
  wr.ownsRow B E k v L.length (rowG c L) ∧ Below B w0 wr ∧ B ≤ wr.heap.size
variable {E : TypeId} {w0 wr w1 : World}
theorem GathG.start (E : TypeId) (c : α → List Value) (k : Nat) (w : World) : GathG E c k w.heap.size w (.slice none 0 0) [] w := ⟨World.ownsRow_nil _ _ _ _, Below.refl _ _, Nat.le_refl _⟩
theorem ownG_below {base : Nat} {e : TypeId} {size n : Nat} {xs : List Value} (h : w.ownsRow base e size v n xs) (hb : Below w.heap.size w w') : w'.ownsRow base e size v n xs := by
  refine ⟨h.1, ?_⟩
  rcases h.2 with hn | ⟨g, cap, cur, rfl, hbg, hg, rest⟩
  · exact .inl hn
  · exact .inr ⟨g, cap, cur, rfl, hbg, (hb.block g (Array.getElem?_eq_some_iff.1 hg).1).trans hg, rest⟩
theorem GathG.later (h : GathG E c k B w0 v L wr) (hb : Below wr.heap.size wr w1) : GathG E c k B w0 v L w1 :=
  ⟨ownG_below h.1 hb, h.2.1.trans (hb.mono h.2.2), Nat.le_trans h.2.2 hb.size⟩
theorem GathG.alloc (h : GathG E c k B w0 v L wr) (o : Obj) : GathG E c k B w0 v L (wr.alloc o) := h.later ((Below.refl _ _).alloc (Nat.le_refl _) o)
theorem GathG.drewN (h : GathG E c k B w0 v L wr) (n : Nat) : GathG E c k B w0 v L (wr.drewN n) := ⟨h.1, ⟨h.2.1.os, h.2.1.tape, h.2.1.output, h.2.1.size, h.2.1.block⟩, h.2.2⟩
/-- one thing more, behind the append -/
theorem GathG.snoc {v' : Value} {a : α} {o : Obj} (h : GathG E c k B w0 v L wr) (hown : w1.ownsRow B E k v' (L.length + 1) (rowG c L ++ c a)) (hgr : (wr.alloc o).grownBy w1 v.ownBlock) : GathG E c k B w0 v' (L ++ [a]) w1 := by
  obtain ⟨h1, h2, h3⟩ := h
  refine ⟨by rw [List.length_append, rowG_app, rowG_one]; exact hown, (h2.alloc h3 _).grown hgr (by simp; omega) ?_, ?_⟩
  · intro k hk
    rcases h1.2 with ⟨rfl, _⟩ | ⟨g, cap, cur, rfl, hg, _⟩
    · cases hk
    · cases hk; exact hg
  · have := hgr.size; simp at this; omega
theorem GathG.slice (hk : ∀ a, (c a).length = k) (hk0 : 0 < k) (h : GathG E c k B w0 v L wr) (hm : L.length ≤ maxLen) : SlG c k wr wr.heap.size v L := by
  obtain ⟨h1, _, _⟩ := h
  rcases h1.2 with ⟨rfl, hn⟩ | ⟨g, cap, cur, rfl, hbg, hg, rest⟩
  · have : L = [] := by
      cases L with
      | nil => rfl
      | cons a L =>
        have := rowG_length hk (a :: L)
        have h2 := h1.1
        simp at hn
    subst this
    exact SlG.nil _ _ _ _
  · refine ⟨some ⟨g, 0, none⟩, cap, rfl, hm, fun i a ha => ⟨_, rfl, (Array.getElem?_eq_some_iff.1 hg).1, fun j u hu => ?_⟩⟩
    exact h1.cells (g := g) rfl _ _ (rowG_get hk L i a ha j u hu)

/-! ### a builder of the call's own -/
theorem builder_below {T e : TypeId} {b : Nat} {bs : List Value} (h : Lib.IsBuilder T e B b bs w) (hb : Below w.heap.size w w') : Lib.IsBuilder T e B b bs w' := by
  have one : ∀ p, Lib.BuilderAt T e B b p bs w → Lib.BuilderAt T e B b p bs w' := by
    rintro p ⟨h1, v, h2, h3, h4⟩
    exact ⟨h1, v, (hb.block b (Array.getElem?_eq_some_iff.1 h2).1).trans h2, ownG_below h3 hb, h4⟩
  rcases h with h | h
  · exact .inl (one _ h)
  · exact .inr (one _ h)
theorem byteCells_str (l : List UInt8) (s : ByteArray) : Lib.byteCells l ++ Lib.strCells s = Lib.byteCells (l ++ s.data.toList) := by
  unfold Lib.byteCells Lib.strCells
  rw [List.map_append]
end

end Go.Proofs.Ytpljlpfoalcfmaa

namespace Go.Proofs.Ytpljlpfoalcfmaa
open Go.RowKit
set_option linter.unusedVariables false

/-- of the blocks that were there those alone may have turned that O names -/
structure Kept (O : Nat → Prop) (w w' : World) : Prop where
  os : w'.os = w.os
  tape : w'.tape = w.tape
  output : w'.output = w.output
  size : w.heap.size ≤ w'.heap.size
  block : ∀ k, k < w.heap.size → ¬ O k → w'.heap[k]? = w.heap[k]?
theorem Kept.of_below {O : Nat → Prop} {w w' : World} (h : Below w.heap.size w w') : Kept O w w' := ⟨h.os, h.tape, h.output, h.size, fun k hk _ => h.block k hk⟩
theorem Kept.refl (O : Nat → Prop) (w : World) : Kept O w w := .of_below (Below.refl _ _)
/-- what a call leaves of what the object owns: what it owned, or what is new -/
def Grows (O : Nat → Prop) (w : World) (O' : Nat → Prop) : Prop := ∀ k, O' k → O k ∨ w.heap.size ≤ k
theorem Grows.refl (O : Nat → Prop) (w : World) : Grows O w O := fun k h => .inl h
theorem Kept.trans {O O' : Nat → Prop} {w w1 w2 : World} (h : Kept O w w1) (h' : Kept O' w1 w2) (hg : Grows O w O') : Kept O w w2 :=
  ⟨h'.os.trans h.os, h'.tape.trans h.tape, h'.output.trans h.output, Nat.le_trans h.size h'.size, fun k hk hn =>
    (h'.block k (Nat.lt_of_lt_of_le hk h.size) (fun ho => by rcases hg k ho with h1 | h1; exact hn h1; omega)).trans (h.block k hk hn)⟩
theorem Grows.trans {O O' O2 : Nat → Prop} {w w1 : World} (h : Grows O w O') (h' : Grows O' w1 O2) (hs : w.heap.size ≤ w1.heap.size) : Grows O w O2 := fun k hk => by
  rcases h' k hk with h1 | h1
  · exact h k h1
  · exact .inr (Nat.le_trans hs h1)
theorem Kept.below {O : Nat → Prop} {B : Nat} {a w w' : World} (h : Kept O w w') (hb : Below B a w) (hB : B ≤ w.heap.size) (ho : ∀ k, O k → B ≤ k) : Below B a w' :=
  hb.trans ⟨h.os, h.tape, h.output, h.size, fun k hk => h.block k (by omega) (fun h1 => by have := ho k h1; omega)⟩
theorem Kept.cell {O : Nat → Prop} {w w' : World} (h : Kept O w w') {p : Addr} (hp : p.block < w.heap.size) (hn : ¬ O p.block) : w'.cell? p = w.cell? p := World.cell?_of_block (w := w) (h.block p.block hp hn)
theorem Kept.frozen {O : Nat → Prop} {w w' : World} (h : Kept O w w') {p : Addr} (hp : p.block < w.heap.size) (hn : ¬ O p.block) : w'.frozen? p = w.frozen? p := World.frozen?_of_block (w := w) (h.block p.block hp hn)

/-- an object's invariant speaks of the blocks alone that it owns, and they are there -/
structure IsObj {σ : Type} (I : World → Value → σ → (Nat → Prop) → Prop) : Prop where
  stay : ∀ {w w' : World} {v : Value} {s : σ} {O : Nat → Prop}, I w v s O → (∀ k, O k → w'.heap[k]? = w.heap[k]?) → I w' v s O
  lt : ∀ {w : World} {v : Value} {s : σ} {O : Nat → Prop}, I w v s O → ∀ k, O k → k < w.heap.size
/-- behind a call of the object's -/
def Stp {σ : Type} (I : World → Value → σ → (Nat → Prop) → Prop) (v : Value) (O : Nat → Prop) (w : World) (s' : σ) (w' : World) : Prop := ∃ O', I w' v s' O' ∧ Kept O w w' ∧ Grows O w O'
/-- what a caller knows: the object, and that what was there when the caller began is as it was -/
structure Has {σ : Type} (I : World → Value → σ → (Nat → Prop) → Prop) (w0 : World) (v : Value) (s : σ) (O : Nat → Prop) (w : World) : Prop where
  inv : I w v s O
  below : Below w0.heap.size w0 w
  new : ∀ k, O k → w0.heap.size ≤ k
section
variable {σ : Type} {I : World → Value → σ → (Nat → Prop) → Prop} {w0 w w' : World} {v : Value} {s s' : σ} {O O' : Nat → Prop}
theorem Has.step (hI : IsObj I) (h : Has I w0 v s O w) (hi : I w' v s' O') (hk : Kept O w w') (hg : Grows O w O') : Has I w0 v s' O' w' :=
  ⟨hi, hk.below h.below h.below.size h.new, fun k ho => by rcases hg k ho with h1 | h1; exact h.new k h1; exact Nat.le_trans h.below.size h1⟩
theorem Has.later (hI : IsObj I) (h : Has I w0 v s O w) (hb : Below w.heap.size w w') : Has I w0 v s O w' :=
  ⟨hI.stay h.inv (fun k hk => hb.block k (hI.lt h.inv k hk)), fbelow_t' h.below hb, h.new⟩
  where fbelow_t' {a b c : World} (h : Below a.heap.size a b) (h' : Below b.heap.size b c) : Below a.heap.size a c := h.trans (h'.mono h.size)
/-- a block of the caller's own may turn -/
theorem Has.setCell (hI : IsObj I) (h : Has I w0 v s O w) {p : Addr} (hp : w0.heap.size ≤ p.block) (hn : ¬ O p.block) (u : Value) : Has I w0 v s O (w.setCell p u) :=
  ⟨hI.stay h.inv (fun k hk => Below.heap_setCell _ _ _ _ (fun e => hn (e ▸ hk))), h.below.setCell hp u, h.new⟩
/-- a block outside what the object owns -/
theorem out_step {k : Nat} (h : k < w.heap.size) (hn : ¬ O k) (hg : Grows O w O') : ¬ O' k := fun ho => by
  rcases hg k ho with h1 | h1
  · exact hn h1
  · omega
end

/-! ### a slice that reads as L, outside of what an object owns -/
section
variable {α : Type} {c : α → List Value} {n : Nat} {w w' : World} {v : Value} {L : List α} {O O' : Nat → Prop}
def SlA (c : α → List Value) (n : Nat) (w : World) (O : Nat → Prop) (v : Value) (L : List α) : Prop :=
  ∃ A cap, v = .slice A L.length cap ∧ L.length ≤ maxLen ∧ ∀ i a, L[i]? = some a → ∃ x, A = some x ∧ x.block < w.heap.size ∧ ¬ O x.block ∧ ∀ j u, (c a)[j]? = some u → w.cell? (x.add (i * n + j)) = some u
theorem SlA.sl (h : SlA c n w O v L) : SlG c n w w.heap.size v L := by
  obtain ⟨A, cap, hv, hm, hc⟩ := h
  refine ⟨A, cap, hv, hm, fun i a ha => ?_⟩
  obtain ⟨x, h1, h2, _, h4⟩ := hc i a ha
  exact ⟨x, h1, h2, h4⟩
theorem SlA.step (h : SlA c n w O v L) (hk : Kept O w w') (hg : Grows O w O') : SlA c n w' O' v L := by
  obtain ⟨A, cap, hv, hm, hc⟩ := h
  refine ⟨A, cap, hv, hm, fun i a ha => ?_⟩
  obtain ⟨x, h1, h2, h3, h4⟩ := hc i a ha
  exact ⟨x, h1, Nat.lt_of_lt_of_le h2 hk.size, out_step h2 h3 hg, fun j u hu => (hk.cell (by rw [addr_block]; exact h2) (by rw [addr_block]; exact h3)).trans (h4 j u hu)⟩
theorem SlA.later (h : SlA c n w O v L) (hb : Below w.heap.size w w') : SlA c n w' O v L := by
  obtain ⟨A, cap, hv, hm, hc⟩ := h
  refine ⟨A, cap, hv, hm, fun i a ha => ?_⟩
  obtain ⟨x, h1, h2, h3, h4⟩ := hc i a ha
  exact ⟨x, h1, Nat.lt_of_lt_of_le h2 hb.size, h3, fun j u hu => (hb.cell (by rw [addr_block]; exact h2)).trans (h4 j u hu)⟩
/-- made by a call that leaves the object as it is: new, or old and outside -/
theorem SlA.of_sl (h : SlG c n w w.heap.size v L) (hn : ∀ x k c', v = .slice (some x) k c' → L ≠ [] → ¬ O x.block) : SlA c n w O v L := by
  obtain ⟨A, cap, hv, hm, hc⟩ := h
  refine ⟨A, cap, hv, hm, fun i a ha => ?_⟩
  obtain ⟨x, h1, h2, h4⟩ := hc i a ha
  subst h1
  exact ⟨x, rfl, h2, hn x _ _ hv (fun e => by subst e; simp at ha), h4⟩
theorem SlA.nil (c : α → List Value) (n : Nat) (w : World) (O : Nat → Prop) : SlA c n w O (.slice none 0 0) [] := ⟨none, 0, rfl, Nat.zero_le _, fun i a h => by simp at h⟩
end
end Go.Proofs.Ytpljlpfoalcfmaa
