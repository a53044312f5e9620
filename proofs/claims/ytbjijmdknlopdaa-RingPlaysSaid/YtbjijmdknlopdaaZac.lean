/- Of no program: the steps of the walk of XSec, one kind of operation each. Of no program: lists in memory: a slice that reads as a list of things of k cells each (whoever made it); a row of the call's own that gathers such; a strings.Builder of the call's own behind callees that make new memory. Of no program: rows of whole numbers, of texts: read, gathered by append. Of no program: a row of bytes that the call gathers by append; a slice of bytes that it reads; '[]byte(s)'. Of no program: one row of whole numbers (of texts) appended to another, whoever made it. Arb, the document's side: Ints. (Parted from XArbB: ring has it without the rest.) -/
import Derived.Test.YtbjijmdknlopdaaZab
import Derived.Laws.BytesArg
import Derived.Test.YtbjijmdknlopdaaZaa
import Derived.Deep.AppendLies
import Derived.Maps.AppendAt
import Derived.OwnWalk
import Derived.Below
import Derived.Lib.OthersKept
import Derived.Deep.Draws
import Derived.Lib.Hide
import Derived.Lib.ConvBytes
import Derived.Laws.AppendOwnNone
namespace Go.Proofs.Ytbjijmdknlopdaa
open Go.RowKit
set_option linter.unusedVariables false

section
variable {P : Program} {ops : Array Oper} {W : World} {sec : List Tmp} {F : Tmp → Value → World → Prop} {Q : Act → Prop} {rest : List Oper} {o : Oper} {h : Act}

/-- operations that are no call of a Go function -/
def plainOp (o : Oper) : Bool :=
  match o.op with
  | .move _ => true | .assign _ => true | .pick .. => true | .build .. => true | .load .. => true | .fieldAddr .. => true | .field .. => true | .indexAddr .. => true | .index .. => true
  | .convert .. => true | .binOp .. => true | .unOp .. => true | .extract .. => true | .slice .. => true
  | .call c => (match c.callee with | .builtin .len => true | .builtin .cap => true | .builtin .min => true | .builtin .max => true | _ => false)
  | _ => false
def noSel (o : Oper) : Bool := match o.op with | .select .. => false | _ => true
theorem noSel_spec (hs : noSel o = true) : ∀ cs b, o.op ≠ .select cs b := by
  intro cs b e
  unfold noSel at hs
  rw [e] at hs
  cases hs
theorem plain_sel (hs : plainOp o = true) : ∀ cs b, o.op ≠ .select cs b := by
  intro cs b e
  unfold plainOp at hs
  rw [e] at hs
  cases hs

theorem value_noEnter (s : Sem Value) (w : World) (f : FuncId) (args : Array Value) (w' : World) : (do pure (.value (← s)) : Sem Next).run P w ≠ .ok (.enter f args) w' := by
  rw [Sem.run_bind]
  cases s.run P w <;> simp [Sem.run_pure, Result.andThen]
theorem plain_noEnter (hp : plainOp o = true) (ρ : Operand → Value) (w : World) (f : FuncId) (args : Array Value) (w' : World) : (execOp ρ o).run P w ≠ .ok (.enter f args) w' := by
  obtain ⟨dst, op, type, pos, after, guard⟩ := o
  unfold plainOp at hp
  cases op
  case call c =>
    obtain ⟨callee, xs, ats⟩ := c
    cases callee with
    | builtin b =>
      cases b
      all_goals first
        | (exfalso; revert hp; simp; done)
        | (simp only [execOp, resolve, invoke, builtin, Sem.run_bind, Sem.run_pure, Result.andThen, ne_eq]
           split <;> simp)
    | invoke r n => (exfalso; revert hp; simp)
    | value f => (exfalso; revert hp; simp)
  case pick c a b =>
    simp only [execOp, Sem.run_bind, Sem.run_pure, Result.andThen, ne_eq]
    split <;> simp
  all_goals first
    | (exfalso; revert hp; simp; done)
    | (simp only [execOp]; exact value_noEnter _ _ _ _ _)
    | (simp [execOp, Sem.run_pure]; done)

def secOpenL (ops : Array Oper) (sec : List Tmp) (o : Oper) : Bool := (o.looksAt ops).all fun t => !sec.contains t
def secOpenD (sec : List Tmp) (o : Oper) : Bool := match o.dst with | some d => !sec.contains d | none => true
theorem eval_open {a : Act} {w : World} (hl : secOpenL ops sec o = true) (hs : ∀ cs b, o.op ≠ .select cs b) (hk : secLooks ops sec F o h a w) : execOp a.eval o = execOp h.eval o := by
  refine execOp_congr o hs fun x hx => ?_
  cases x with
  | tmp t =>
    have hm : t ∈ o.looksAt ops := List.mem_append_left _ (List.mem_filterMap.2 ⟨.tmp t, by simpa using hx, rfl⟩)
    have h1 := hk t hm
    have h2 := List.all_eq_true.1 hl t hm
    have h3 : t ∉ sec := by simpa using h2
    rw [if_neg h3] at h1
    exact h1
  | const v => rfl
  | global g => rfl
  | func f => rfl
theorem good_open {u v : Value} {w : World} (hd : secOpenD sec o = true) (e : u = v) : secGood sec F o.dst v u w := by
  unfold secGood
  unfold secOpenD at hd
  split
  · rename_i d hdd
    rw [hdd] at hd
    rw [if_neg (by simpa using hd)]
    exact e
  · trivial

/-- a plain operation that reads and writes open slots -/
theorem sec_plain (hw : Region.wanted o (yielded ops h.tmps) = true) (hp : plainOp o = true) (hl : secOpenL ops sec o = true) (hd : secOpenD sec o = true)
    (hk : ∀ K : Act → Prop, (∀ a, wpSec P ops W sec F Q rest a → K a) → o.quiet P h (fun w' => ∃ n : Later W, w' = n.w) K) : wpSec P ops W sec F Q (o :: rest) h := by
  obtain ⟨v, h1, h2⟩ := hk _ fun _ hh => hh
  unfold wpSec
  rw [if_pos hw]
  refine ⟨v, fun a w hb hlk => ?_, h2⟩
  rw [eval_open hl (plain_sel hp) hlk]
  have h3 := h1 w ⟨⟨w, hb⟩, rfl⟩
  have h4 := plain_noEnter (P := P) hp h.eval w
  unfold Oper.quietAt at h3
  generalize (execOp h.eval o).run P w = r at h3 h4
  cases r with
  | ok x w' =>
    cases x <;> simp only [Oper.quietUpon] at h3 <;> simp only [secUpon]
    case value u => obtain ⟨rfl, e⟩ := h3; exact ⟨Below.refl _ _, good_open hd e⟩
    case skip => obtain ⟨rfl, e⟩ := h3; exact ⟨Below.refl _ _, good_open hd e.symm⟩
    case enter f args => exact absurd rfl (h4 f args w')
  | halt x w' => simp only [Oper.quietUpon] at h3
/-- a nil check of a pointer that is none -/
theorem sec_nil {x : Operand} {p : Addr} (hw : Region.wanted o (yielded ops h.tmps) = true) (ho : o.op = .nilCheck x) (hx : h.eval x = .pointer (some p)) (hl : secOpenL ops sec o = true) (hd : secOpenD sec o = true)
    (hk : ∀ K : Act → Prop, (∀ a, wpSec P ops W sec F Q rest a → K a) → o.quiet P h (fun w' => ∃ n : Later W, w' = n.w) K) : wpSec P ops W sec F Q (o :: rest) h := by
  obtain ⟨v, h1, h2⟩ := hk _ fun _ hh => hh
  unfold wpSec
  rw [if_pos hw]
  refine ⟨v, fun a w hb hlk => ?_, h2⟩
  rw [eval_open hl (fun cs b => by rw [ho]; simp) hlk]
  have h3 := h1 w ⟨⟨w, hb⟩, rfl⟩
  have h4 : ∀ f args w', (execOp h.eval o).run P w ≠ .ok (.enter f args) w' := fun f args w' => by simp [execOp, ho, hx, Sem.run_pure]
  unfold Oper.quietAt at h3
  generalize (execOp h.eval o).run P w = r at h3 h4
  cases r with
  | ok x w' =>
    cases x <;> simp only [Oper.quietUpon] at h3 <;> simp only [secUpon]
    case value u => obtain ⟨rfl, e⟩ := h3; exact ⟨Below.refl _ _, good_open hd e⟩
    case skip => obtain ⟨rfl, e⟩ := h3; exact ⟨Below.refl _ _, good_open hd e.symm⟩
    case enter f args => exact absurd rfl (h4 f args w')
  | halt x w' => simp only [Oper.quietUpon] at h3
theorem sec_skip (hw : Region.wanted o (yielded ops h.tmps) = false) (hd : secOpenD sec o = true) (hk : wpSec P ops W sec F Q rest (h.put o.dst undef)) : wpSec P ops W sec F Q (o :: rest) h := by
  unfold wpSec
  rw [if_neg (by rw [hw]; exact Bool.false_ne_true)]
  refine ⟨fun d e => ?_, hk⟩
  unfold secOpenD at hd
  rw [e] at hd
  simpa using hd

/-- a call that makes new memory alone and answers v -/
theorem sec_call {v : Value} (hw : Region.wanted o (yielded ops h.tmps) = true) (hn : noSel o = true) (hl : secOpenL ops sec o = true) (hd : secOpenD sec o = true)
    (hz : (match o.dst with | some d => decide (d < h.tmps.size) | none => false) = true)
    (hq : ∀ (m : Later W) (K : Act → Prop), K (h.put o.dst v) → o.quiet P h (fun w' => ∃ n : Later m.w, w' = n.w) K) (hk : wpSec P ops W sec F Q rest (h.put o.dst v)) : wpSec P ops W sec F Q (o :: rest) h := by
  unfold wpSec
  rw [if_pos hw]
  refine ⟨v, fun a w hb hlk => ?_, hk⟩
  rw [eval_open hl (noSel_spec hn) hlk]
  obtain ⟨v', h1, h2⟩ := hq ⟨w, hb⟩ (fun a => a = h.put o.dst v) rfl
  have ev : v' = v := by
    cases ed : o.dst with
    | none => rw [ed] at hz; cases hz
    | some d =>
      rw [ed] at hz h2
      have h3 : d < h.tmps.size := by simpa using hz
      have h4 := congrArg (fun a : Act => a.tmps.getD d undef) h2
      simp only [getD_put, h3, and_self, if_true] at h4
      exact h4
  subst ev
  have h3 := h1 w ⟨⟨w, Below.refl _ _⟩, rfl⟩
  unfold Oper.quietAt at h3
  generalize (execOp h.eval o).run P w = r at h3
  cases r with
  | ok x w' =>
    cases x <;> simp only [Oper.quietUpon] at h3 <;> simp only [secUpon]
    case value u => obtain ⟨rfl, e⟩ := h3; exact ⟨Below.refl _ _, good_open hd e⟩
    case skip => obtain ⟨rfl, e⟩ := h3; exact ⟨Below.refl _ _, good_open hd e.symm⟩
    case enter f args =>
      obtain ⟨rfl, hc⟩ := h3
      exact ⟨rfl, hc.mono fun e w'' ⟨he, n, hnw⟩ => ⟨_, he, by rw [hnw]; exact n.h, good_open hd rfl⟩⟩
  | halt x w' => simp only [Oper.quietUpon] at h3

/-- an operation that lays a new block, whose value is hidden -/
theorem sec_new {s : Tmp} {mk : World → Value} {ob : World → Obj} (hw : Region.wanted o (yielded ops h.tmps) = true) (hn : noSel o = true) (hl : secOpenL ops sec o = true) (hd : o.dst = some s) (hs : sec.contains s = true)
    (hrun : ∀ w, (execOp h.eval o).run P w = .ok (.value (mk w)) (w.alloc (ob w))) (hF : ∀ w, F s (mk w) (w.alloc (ob w))) (hk : wpSec P ops W sec F Q rest (h.put o.dst undef)) : wpSec P ops W sec F Q (o :: rest) h := by
  unfold wpSec
  rw [if_pos hw]
  refine ⟨undef, fun a w hb hlk => ?_, hk⟩
  rw [eval_open hl (noSel_spec hn) hlk, hrun w]
  refine ⟨(Below.refl _ _).alloc (Nat.le_refl _) _, ?_⟩
  unfold secGood
  rw [hd]
  simp only
  rw [if_pos (by simpa using hs)]
  exact hF w

/-- an operation that reads hidden slots, by their facts, and yields v -/
theorem sec_read {v : Value} (hw : Region.wanted o (yielded ops h.tmps) = true) (hd : secOpenD sec o = true)
    (hrun : ∀ (a : Act) (w : World), Below W.heap.size W w → secLooks ops sec F o h a w → (execOp a.eval o).run P w = .ok (.value v) w) (hk : wpSec P ops W sec F Q rest (h.put o.dst v)) : wpSec P ops W sec F Q (o :: rest) h := by
  unfold wpSec
  rw [if_pos hw]
  refine ⟨v, fun a w hb hlk => ?_, hk⟩
  rw [hrun a w hb hlk]
  exact ⟨Below.refl _ _, good_open hd rfl⟩

/-- what a hidden slot is known to be: a slice of bytes in a block of its own -/
def isBytes (e : TypeId) (xs : List Int) (v : Value) (w : World) : Prop := ∃ b, v = .slice (some ⟨b, 0, none⟩) xs.length xs.length ∧ w.heap[b]? = some (.cells (xs.map (Value.int .u8)).toArray e (0, 0))
theorem isBytes_later {e : TypeId} {xs : List Int} {v : Value} {w w' : World} (h : isBytes e xs v w) (hb : Below w.heap.size w w') : isBytes e xs v w' := by
  obtain ⟨b, h1, h2⟩ := h
  exact ⟨b, h1, by rw [hb.block b (Array.getElem?_eq_some_iff.1 h2).1]; exact h2⟩
theorem isBytes_new (w : World) (e : TypeId) (xs : List Int) : isBytes e xs (.slice (some ⟨w.heap.size, 0, none⟩) xs.length xs.length) (w.alloc (.cells (xs.map (Value.int .u8)).toArray e)) :=
  ⟨w.heap.size, rfl, heap_alloc_new w _⟩
theorem isBytes_string {e src dst : TypeId} {xs : List Int} {v : Value} {w : World} (hs : P.underlying src = some (.slice e)) (he : P.underlying e = some (.int .u8)) (hd : P.underlying dst = some .string)
    (h : isBytes e xs v w) : (convert src dst v).run P w = .ok (.string (strOfNums xs)) w := by
  obtain ⟨b, rfl, h2⟩ := h
  refine run_convert_bytes_arg w src e hs he b 0 xs.length xs.length xs rfl (fun i hi => ?_) dst hd
  rw [Nat.zero_add, cell_of_row _ _ _ _ _ _ h2]
  simp [List.getD_eq_getElem?_getD, List.getElem?_eq_getElem hi]
end

end Go.Proofs.Ytbjijmdknlopdaa

namespace Go.Proofs.Ytbjijmdknlopdaa
open Go.RowKit
set_option linter.unusedVariables false

theorem addr_block (a : Addr) (n : Nat) : (a.add n).block = a.block := by unfold Addr.add; split <;> rfl
theorem addr_add (a : Addr) (i j : Nat) : (a.add i).add j = a.add (i + j) := by
  unfold Addr.add
  by_cases hi : i = 0
  · subst hi; simp
  · by_cases hj : j = 0
    · subst hj; simp [hi]
    · simp [hi, hj, Nat.add_assoc]
theorem addr_zero (b j : Nat) : (⟨b, 0, none⟩ : Addr).add j = ⟨b, j, none⟩ := by unfold Addr.add; split <;> simp_all

section
variable {α : Type} {c : α → List Value} {k : Nat} {w w' : World} {B B' : Nat} {v : Value} {L : List α}

/-- the slice v reads as L: element i's cells are c of it; all lies below block B -/
def SlG (c : α → List Value) (k : Nat) (w : World) (B : Nat) (v : Value) (L : List α) : Prop :=
  ∃ A cap, v = .slice A L.length cap ∧ L.length ≤ maxLen ∧ ∀ i a, L[i]? = some a → ∃ x, A = some x ∧ x.block < B ∧ ∀ j u, (c a)[j]? = some u → w.cell? (x.add (i * k + j)) = some u
theorem SlG.keep (h : SlG c k w B v L) (hk : ∀ p : Addr, p.block < B → w'.cell? p = w.cell? p) (hB : B ≤ B') : SlG c k w' B' v L := by
  obtain ⟨A, cap, hv, hm, hc⟩ := h
  refine ⟨A, cap, hv, hm, fun i a ha => ?_⟩
  obtain ⟨x, hx, hxb, hcell⟩ := hc i a ha
  exact ⟨x, hx, by omega, fun j u hu => (hk _ (by rw [addr_block]; exact hxb)).trans (hcell j u hu)⟩
theorem SlG.below (h : SlG c k w B v L) (hb : Below B w w') : SlG c k w' B v L := h.keep (fun p hp => hb.cell hp) (Nat.le_refl _)
theorem SlG.later (h : SlG c k w w.heap.size v L) (hb : Below w.heap.size w w') : SlG c k w' w'.heap.size v L := h.keep (fun p hp => hb.cell hp) hb.size
theorem SlG.drewN (h : SlG c k w B v L) (n : Nat) : SlG c k (w.drewN n) B v L := h
theorem SlG.nil (c : α → List Value) (k : Nat) (w : World) (B : Nat) : SlG c k w B (.slice none 0 0) [] := ⟨none, 0, rfl, Nat.zero_le _, fun i a h => by simp at h⟩
/-- element i, if there is one: the slice has an address, and the element's cells lie behind it -/
theorem SlG.at_ (h : SlG c k w B v L) {i : Nat} (hi : i < L.length) : ∃ x cap, v = .slice (some x) L.length cap ∧ x.block < B ∧ ∀ j u, (c (L[i]'hi))[j]? = some u → w.cell? ((x.add (i * k)).add j) = some u := by
  obtain ⟨A, cap, hv, hm, hc⟩ := h
  obtain ⟨x, hx, hxb, hcell⟩ := hc i _ (List.getElem?_eq_getElem hi)
  subst hx
  exact ⟨x, cap, hv, hxb, fun j u hu => by rw [addr_add]; exact hcell j u hu⟩

/-- an argument: what 'open_slice_flat' hands over, as a list -/
theorem slice_of_row {s : List Sh} {a : Option Addr} {len cap : Nat} {R : Nat → List Value} (h : IsRowOf w s a len cap R) (f : List Value → α) (hc : ∀ l, FitsAll s l → c (f l) = l) (hs : s.length = k) (h0 : 0 < k) :
    ∃ L : List α, SlG c k w w.heap.size (.slice a len cap) L ∧ L.length = len ∧ ∀ x ∈ L, FitsAll s (c x) := by
  rcases h with ⟨rfl, rfl, rfl⟩ | ⟨x, rfl, hl, hm, hcell⟩
  · exact ⟨[], SlG.nil _ _ _ _, rfl, fun x hx => by cases hx⟩
  · refine ⟨(List.range len).map fun i => f (R i), ⟨some x, cap, by simp, by simp; omega, fun i b hb => ?_⟩, by simp, fun y hy => ?_⟩
    · have hi : i < len := by
        rcases Nat.lt_or_ge i len with h | h
        · exact h
        · rw [List.getElem?_eq_none (by simpa using h)] at hb; cases hb
      have hb' : b = f (R i) := by
        rw [List.getElem?_eq_getElem (by simpa using hi)] at hb
        simpa using hb.symm
      subst hb'
      obtain ⟨hf, hcs⟩ := hcell i (by omega)
      have hlen := hf.length
      have h00 := hcs 0 (by omega)
      rw [List.getElem?_eq_getElem (by omega)] at h00
      refine ⟨x, rfl, ?_, fun j u hu => ?_⟩
      · have := World.block_lt_of_cell? w _ h00
        rwa [addr_block] at this
      · rw [hc _ hf] at hu
        have hj : j < s.length := by
          rcases Nat.lt_or_ge j s.length with h | h
          · exact h
          · rw [List.getElem?_eq_none (by rw [hlen]; exact h)] at hu; cases hu
        rw [← hs, hcs j hj]
        exact hu
    · obtain ⟨i, hi, rfl⟩ := List.mem_map.1 hy
      have hi' := List.mem_range.1 hi
      have hf := (hcell i (by omega)).1
      rw [hc _ hf]
      exact hf

/-! ### a row of the call's own -/
def rowG (c : α → List Value) (L : List α) : List Value := L.flatMap c
theorem rowG_app (a b : List α) : rowG c (a ++ b) = rowG c a ++ rowG c b := by simp [rowG]
theorem rowG_one (a : α) : rowG c [a] = c a := by simp [rowG]
theorem rowG_length (hk : ∀ a, (c a).length = k) : ∀ L : List α, (rowG c L).length = L.length * k
  | [] => by simp [rowG]
  | a :: L => by
    have := rowG_length hk L
    simp only [rowG, List.flatMap_cons, List.length_append, hk, List.length_cons] at this ⊢
    rw [this, Nat.add_mul]; omega
theorem rowG_get (hk : ∀ a, (c a).length = k) : ∀ (L : List α) (i : Nat) (a : α), L[i]? = some a → ∀ j u, (c a)[j]? = some u → (rowG c L)[i * k + j]? = some u
  | [], i, a, h, _, _, _ => by simp at h
  | b :: L, 0, a, h, j, u, hu => by
    simp only [List.getElem?_cons_zero, Option.some.injEq] at h
    subst h
    have hj : j < (c b).length := by
      rcases Nat.lt_or_ge j (c b).length with h | h
      · exact h
      · rw [List.getElem?_eq_none h] at hu; cases hu
    simp only [rowG, List.flatMap_cons, Nat.zero_mul, Nat.zero_add]
    rw [List.getElem?_append_left hj]; exact hu
  | b :: L, i + 1, a, h, j, u, hu => by
    simp only [List.getElem?_cons_succ] at h
    have := rowG_get hk L i a h j u hu
    simp only [rowG, List.flatMap_cons] at this ⊢
    rw [List.getElem?_append_right (by rw [hk, Nat.add_mul]; omega), hk, show (i + 1) * k + j - k = i * k + j by rw [Nat.add_mul]; omega]
    exact this

/-- what a loop that gathers knows: B: the heap's size when the call began, in world w0 -/
def GathG (E : TypeId) (c : α → List Value) (k : Nat) (B : Nat) (w0 : World) (v : Value) (L : List α) (wr : World) : Prop :=
  wr.ownsRow B E k v L.length (rowG c L) ∧ Below B w0 wr ∧ B ≤ wr.heap.size
variable {E : TypeId} {w0 wr w1 : World}
theorem GathG.start (E : TypeId) (c : α → List Value) (k : Nat) (w : World) : GathG E c k w.heap.size w (.slice none 0 0) [] w := ⟨World.ownsRow_nil _ _ _ _, Below.refl _ _, Nat.le_refl _⟩
theorem ownG_below {base : Nat} {e : TypeId} {size n : Nat} {xs : List Value} (h : w.ownsRow base e size v n xs) (hb : Below w.heap.size w w') : w'.ownsRow base e size v n xs := by
  refine ⟨h.1, ?_⟩
  rcases h.2 with hn | ⟨g, cap, cur, rfl, hbg, hg, rest⟩
  · exact .inl hn
  · exact .inr ⟨g, cap, cur, rfl, hbg, (hb.block g (Array.getElem?_eq_some_iff.1 hg).1).trans hg, rest⟩
theorem GathG.later (h : GathG E c k B w0 v L wr) (hb : Below wr.heap.size wr w1) : GathG E c k B w0 v L w1 :=
  ⟨ownG_below h.1 hb, h.2.1.trans (hb.mono h.2.2), Nat.le_trans h.2.2 hb.size⟩
theorem GathG.alloc (h : GathG E c k B w0 v L wr) (o : Obj) : GathG E c k B w0 v L (wr.alloc o) := h.later ((Below.refl _ _).alloc (Nat.le_refl _) o)
theorem GathG.drewN (h : GathG E c k B w0 v L wr) (n : Nat) : GathG E c k B w0 v L (wr.drewN n) := ⟨h.1, ⟨h.2.1.os, h.2.1.tape, h.2.1.output, h.2.1.size, h.2.1.block⟩, h.2.2⟩
/-- one thing more, behind the append -/
theorem GathG.snoc {v' : Value} {a : α} {o : Obj} (h : GathG E c k B w0 v L wr) (hown : w1.ownsRow B E k v' (L.length + 1) (rowG c L ++ c a)) (hgr : (wr.alloc o).grownBy w1 v.ownBlock) : GathG E c k B w0 v' (L ++ [a]) w1 := by
  obtain ⟨h1, h2, h3⟩ := h
  refine ⟨by rw [List.length_append, rowG_app, rowG_one]; exact hown, (h2.alloc h3 _).grown hgr (by simp; omega) ?_, ?_⟩
  · intro k hk
    rcases h1.2 with ⟨rfl, _⟩ | ⟨g, cap, cur, rfl, hg, _⟩
    · cases hk
    · cases hk; exact hg
  · have := hgr.size; simp at this; omega
theorem GathG.slice (hk : ∀ a, (c a).length = k) (hk0 : 0 < k) (h : GathG E c k B w0 v L wr) (hm : L.length ≤ maxLen) : SlG c k wr wr.heap.size v L := by
  obtain ⟨h1, _, _⟩ := h
  rcases h1.2 with ⟨rfl, hn⟩ | ⟨g, cap, cur, rfl, hbg, hg, rest⟩
  · have : L = [] := by
      cases L with
      | nil => rfl
      | cons a L =>
        have := rowG_length hk (a :: L)
        have h2 := h1.1
        simp at hn
    subst this
    exact SlG.nil _ _ _ _
  · refine ⟨some ⟨g, 0, none⟩, cap, rfl, hm, fun i a ha => ⟨_, rfl, (Array.getElem?_eq_some_iff.1 hg).1, fun j u hu => ?_⟩⟩
    exact h1.cells (g := g) rfl _ _ (rowG_get hk L i a ha j u hu)

/-! ### a builder of the call's own -/
theorem builder_below {T e : TypeId} {b : Nat} {bs : List Value} (h : Lib.IsBuilder T e B b bs w) (hb : Below w.heap.size w w') : Lib.IsBuilder T e B b bs w' := by
  have one : ∀ p, Lib.BuilderAt T e B b p bs w → Lib.BuilderAt T e B b p bs w' := by
    rintro p ⟨h1, v, h2, h3, h4⟩
    exact ⟨h1, v, (hb.block b (Array.getElem?_eq_some_iff.1 h2).1).trans h2, ownG_below h3 hb, h4⟩
  rcases h with h | h
  · exact .inl (one _ h)
  · exact .inr (one _ h)
theorem byteCells_str (l : List UInt8) (s : ByteArray) : Lib.byteCells l ++ Lib.strCells s = Lib.byteCells (l ++ s.data.toList) := by
  unfold Lib.byteCells Lib.strCells
  rw [List.map_append]
end

end Go.Proofs.Ytbjijmdknlopdaa

namespace Go.Proofs.Ytbjijmdknlopdaa
open Go.RowKit
set_option linter.unusedVariables false

def strC (s : ByteArray) : List Value := [.string s]
def intC (n : Int) : List Value := [.int .i64 n]
theorem strC_len (s : ByteArray) : (strC s).length = 1 := rfl
theorem intC_len (n : Int) : (intC n).length = 1 := rfl
abbrev SlS (w : World) (v : Value) (L : List ByteArray) : Prop := SlG strC 1 w w.heap.size v L
abbrev SlI (w : World) (v : Value) (L : List Int) : Prop := SlG intC 1 w w.heap.size v L
abbrev GathI (B : Nat) (w0 : World) (v : Value) (L : List Int) (wr : World) : Prop := GathG 3 intC 1 B w0 v L wr
abbrev GathS (B : Nat) (w0 : World) (v : Value) (L : List ByteArray) (wr : World) : Prop := GathG 9 strC 1 B w0 v L wr
theorem SlG.at1 {α : Type} {c : α → List Value} {w : World} {B : Nat} {v : Value} {L : List α} (h : SlG c 1 w B v L) {k : Nat} (hk : k < L.length) {u : Value} (hu : c (L[k]'hk) = [u]) :
    ∃ x cap, v = .slice (some x) L.length cap ∧ x.block < B ∧ w.cell? (x.add k) = some u := by
  obtain ⟨x, cap, hv, hb, hc⟩ := h.at_ hk
  have := hc 0 u (by rw [hu]; rfl)
  rw [addr_add, Nat.mul_one, Nat.add_zero] at this
  exact ⟨x, cap, hv, hb, this⟩
theorem take_snoc {α : Type} {L : List α} {k : Nat} (h : k < L.length) : L.take (k + 1) = L.take k ++ [L[k]] := List.take_succ_eq_append_getElem h
theorem one_cell (w : World) (u : Value) (t : TypeId) : ∀ j x, [u][j]? = some x → (w.alloc (.cells #[u] t)).cell? ((⟨w.heap.size, 0, none⟩ : Addr).add j) = some x := by
  intro j x hj
  match j, hj with
  | 0, hj => simp at hj; subst hj; simp [Addr.add]

theorem info_int : (Try.prog.info? 3).map (fun i => (i.zero, i.size, i.bytes)) = some (some (.int .i64 0), 1, 8) := by kernel_rfl
theorem wpList_rowI {ops : Array Oper} {rest : List Oper} {o : Oper} {a : Act} {Q : Exit → Act → World → Prop} {W : World} (hgd : o.guard = none) (s x : Operand)
    (ho : o.op = .call { callee := .builtin .append, args := #[s, x], argTypes := #[26, 26] }) {B : Nat} {v : Value} {L : List Int} (hs : a.eval s = v) (hg : W.ownsRow B 3 1 v L.length (rowG intC L)) (hB : B ≤ W.heap.size)
    (g c : Nat) (e : Int) (hx : a.eval x = .slice (some ⟨g, 0, none⟩) 1 c) (hn : ∀ j u, (intC e)[j]? = some u → W.cell? ((⟨g, 0, none⟩ : Addr).add j) = some u) (hsz : L.length ≤ 1000000)
    (h : ∀ v' w', w'.ownsRow B 3 1 v' (L ++ [e]).length (rowG intC (L ++ [e])) → Below B W w' → wpList Try.prog ops Q rest (a.put o.dst v') w') : wpList Try.prog ops Q (o :: rest) a W := by
  obtain ⟨i0, hi, hz0, hz1, hz2⟩ := info_parts info_int
  refine wpList_append_own _ hgd s x 26 ho B 3 i0 _ 1 8 Try.underlying26 hi hz0 hz1 hz2 rfl (by decide) v L.length (rowG intC L) hs hg ⟨g, 0, none⟩ 1 c (intC e) hx rfl hn (fun u hu => ?_) ?_ ?_ hB ?_
  · simp only [intC, List.mem_cons, List.not_mem_nil, or_false] at hu
    subst hu; rfl
  · unfold maxLen; omega
  · omega
  · intro v' w' hown hgr _
    refine h v' w' ?_ ((Below.refl _ _).grown hgr hB ?_)
    · rw [List.length_append, rowG_app, rowG_one]; exact hown
    · intro k hk
      rcases hg.2 with ⟨rfl, _⟩ | ⟨g, cap, cur, rfl, hgg, _⟩
      · cases hk
      · cases hk; exact hgg
theorem info_str : (Try.prog.info? 9).map (fun i => (i.zero, i.size, i.bytes)) = some (some (.string (ByteArray.mk #[])), 1, 16) := by kernel_rfl
theorem wpList_rowS {ops : Array Oper} {rest : List Oper} {o : Oper} {a : Act} {Q : Exit → Act → World → Prop} {W : World} (hgd : o.guard = none) (s x : Operand)
    (ho : o.op = .call { callee := .builtin .append, args := #[s, x], argTypes := #[44, 44] }) {B : Nat} {v : Value} {L : List ByteArray} (hs : a.eval s = v) (hg : W.ownsRow B 9 1 v L.length (rowG strC L)) (hB : B ≤ W.heap.size)
    (g c : Nat) (e : ByteArray) (hx : a.eval x = .slice (some ⟨g, 0, none⟩) 1 c) (hn : ∀ j u, (strC e)[j]? = some u → W.cell? ((⟨g, 0, none⟩ : Addr).add j) = some u) (hsz : L.length ≤ 1000000)
    (h : ∀ v' w', w'.ownsRow B 9 1 v' (L ++ [e]).length (rowG strC (L ++ [e])) → Below B W w' → wpList Try.prog ops Q rest (a.put o.dst v') w') : wpList Try.prog ops Q (o :: rest) a W := by
  obtain ⟨i0, hi, hz0, hz1, hz2⟩ := info_parts info_str
  refine wpList_append_own _ hgd s x 44 ho B 9 i0 _ 1 16 Try.underlying44 hi hz0 hz1 hz2 rfl (by decide) v L.length (rowG strC L) hs hg ⟨g, 0, none⟩ 1 c (strC e) hx rfl hn (fun u hu => ?_) ?_ ?_ hB ?_
  · simp only [strC, List.mem_cons, List.not_mem_nil, or_false] at hu
    subst hu; rfl
  · unfold maxLen; omega
  · omega
  · intro v' w' hown hgr _
    refine h v' w' ?_ ((Below.refl _ _).grown hgr hB ?_)
    · rw [List.length_append, rowG_app, rowG_one]; exact hown
    · intro k hk
      rcases hg.2 with ⟨rfl, _⟩ | ⟨g, cap, cur, rfl, hgg, _⟩
      · cases hk
      · cases hk; exact hgg
theorem GathG.slI {B : Nat} {w0 wr : World} {v : Value} {L : List Int} (h : GathI B w0 v L wr) (hm : L.length ≤ 1000000) : SlI wr v L := GathG.slice intC_len (by decide) h (by unfold maxLen; omega)
theorem GathG.slS {B : Nat} {w0 wr : World} {v : Value} {L : List ByteArray} (h : GathS B w0 v L wr) (hm : L.length ≤ 1000000) : SlS wr v L := GathG.slice strC_len (by decide) h (by unfold maxLen; omega)
def strOf : List Value → ByteArray
  | [.string s] => s
  | _ => ByteArray.mk #[]
theorem strOf_c (l : List Value) (h : FitsAll [.str] l) : strC (strOf l) = l := by
  obtain ⟨v0, l0, rfl, ⟨a0, rfl, _⟩, h0⟩ := FitsAll.cons h
  obtain rfl := FitsAll.nil h0
  rfl
def numOf : List Value → Int | [.int _ q] => q | _ => 0
theorem numOf_c (l : List Value) (h : FitsAll [.int .i64] l) : intC (numOf l) = l := by
  obtain ⟨v0, l0, rfl, ⟨a0, rfl, _⟩, h0⟩ := FitsAll.cons h
  obtain rfl := FitsAll.nil h0
  rfl
end Go.Proofs.Ytbjijmdknlopdaa

namespace Go.Proofs.Ytbjijmdknlopdaa
open Go.RowKit
set_option linter.unusedVariables false

theorem drewN_two (w : World) (a b : Nat) : (w.drewN a).drewN b = w.drewN (a + b) := by
  unfold World.drewN
  simp [Nat.add_assoc]
theorem info_u8 : (Try.prog.info? 5).map (fun i => (i.zero, i.size, i.bytes)) = some (some (.int .u8 0), 1, 1) := by kernel_rfl
theorem news_byte (w : World) (v : Value) (t : TypeId) : ∀ j u, [v][j]? = some u → (w.alloc (.cells #[v] t)).cell? ((⟨w.heap.size, 0, none⟩ : Addr).add j) = some u := by
  intro j u hj
  rcases Nat.lt_or_ge j 1 with h | h
  · obtain rfl : j = 0 := by omega
    simp at hj
    subst hj
    simp [Addr.add, World.cell?_alloc_at _ _ _ _ rfl]
  · rw [List.getElem?_eq_none (by simpa using h)] at hj; cases hj

/-- a slice of bytes that can be read -/
def SlB (w : World) (v : Value) (L : List Int) : Prop :=
  L.length ≤ 140737488355328 ∧ ((L = [] ∧ ∃ A cap, v = .slice A 0 cap) ∨ ∃ g cap, v = .slice (some ⟨g, 0, none⟩) L.length cap ∧ ∀ k, k < L.length → w.cell? ⟨g, k, none⟩ = some (.int .u8 (L.getD k 0)))

def byteRow (L : List Int) : List Value := L.map (Value.int .u8)
theorem byteRow_app (a b : List Int) : byteRow (a ++ b) = byteRow a ++ byteRow b := by simp [byteRow]
/-- what a loop that gathers bytes knows -/
def gathB (B : Nat) (w : World) (v : Value) (L : List Int) (wr : World) : Prop :=
  wr.ownsRow B 5 1 v L.length (byteRow L) ∧ Below B w wr ∧ B ≤ wr.heap.size
theorem gathB.start (w : World) : gathB w.heap.size w (.slice none 0 0) [] w := ⟨World.ownsRow_nil _ _ _ _, Below.refl _ _, Nat.le_refl _⟩
theorem gathB.startB {B : Nat} {w wr : World} (h : Below B w wr) (hB : B ≤ wr.heap.size) : gathB B w (.slice none 0 0) [] wr := ⟨World.ownsRow_nil _ _ _ _, h, hB⟩
theorem gathB.later {B : Nat} {w wr w1 : World} {v : Value} {L : List Int} (h : gathB B w v L wr) (hb : Below wr.heap.size wr w1) : gathB B w v L w1 := by
  obtain ⟨h1, h2, h3⟩ := h
  refine ⟨?_, h2.trans (hb.mono h3), Nat.le_trans h3 hb.size⟩
  refine ⟨h1.1, ?_⟩
  rcases h1.2 with hn | ⟨g, cap, cur, rfl, hbg, hg, rest⟩
  · exact .inl hn
  · exact .inr ⟨g, cap, cur, rfl, hbg, (hb.block g (Array.getElem?_eq_some_iff.1 hg).1).trans hg, rest⟩
theorem gathB.drewN {B : Nat} {w wr : World} {v : Value} {L : List Int} (h : gathB B w v L wr) (n : Nat) : gathB B w v L (wr.drewN n) :=
  h.later ⟨rfl, rfl, rfl, Nat.le_refl _, fun _ _ => rfl⟩
theorem gathB.step {B : Nat} {w wr w1 : World} {v v' : Value} {L : List Int} {b : Int} {T : TypeId} (h : gathB B w v L wr)
    (hown : w1.ownsRow B 5 1 v' (L.length + 1) (byteRow L ++ [.int .u8 b])) (hgr : (wr.alloc (.cells #[.int .u8 b] T)).grownBy w1 v.ownBlock) : gathB B w v' (L ++ [b]) w1 := by
  obtain ⟨h1, h2, h3⟩ := h
  refine ⟨by rw [List.length_append, byteRow_app]; exact hown, (h2.alloc h3 _).grown hgr (by simp; omega) ?_, ?_⟩
  · intro k hk
    rcases h1.2 with ⟨rfl, _⟩ | ⟨g, cap, cur, rfl, hg, _⟩
    · cases hk
    · cases hk; exact hg
  · have := hgr.size; simp at this; omega
theorem gathB.slice {B : Nat} {w wr : World} {v : Value} {L : List Int} (h : gathB B w v L wr) (hm : L.length ≤ 140737488355328) : SlB wr v L := by
  obtain ⟨h1, _, _⟩ := h
  refine ⟨hm, ?_⟩
  rcases h1.2 with ⟨rfl, hn⟩ | ⟨g, cap, cur, rfl, hbg, hg, rest⟩
  · have : L = [] := by
      cases L with
      | nil => rfl
      | cons a L => simp at hn
    subst this
    exact .inl ⟨rfl, none, 0, rfl⟩
  · refine .inr ⟨g, cap, rfl, fun k hk => ?_⟩
    rw [h1.cellAt k (by simpa [byteRow] using hk)]
    unfold byteRow
    rw [List.getElem?_map, List.getElem?_eq_getElem hk]
    simp [List.getD, List.getElem?_eq_getElem hk]
/-- '[]byte(s)': the bytes of s in a block of their own -/
theorem bytesWorld_below (w : World) (e : TypeId) (s : ByteArray) : Below w.heap.size w (Lib.bytesWorld w e s) := by
  refine ⟨rfl, rfl, rfl, by rw [Lib.bytesWorld_size]; omega, fun k hk => Lib.bytesWorld_at_old w e s k hk⟩
theorem bytesWorld_slice (w : World) (e : TypeId) (s : ByteArray) (cap : Nat) (hs : s.size ≤ 140737488355328) : SlB (Lib.bytesWorld w e s) (.slice (some ⟨w.heap.size, 0, none⟩) s.size cap) (byL s) := by
  refine ⟨by rw [byL_len]; exact hs, .inr ⟨w.heap.size, cap, by rw [byL_len], fun k hk => ?_⟩⟩
  rw [byL_len] at hk
  rw [Lib.bytesWorld_cell w e s k hk, byL_getD]
  unfold bt
  simp [List.getD_eq_getElem?_getD]
/-- a cut ahead -/
theorem cut_ahead {s : ByteArray} {k : Nat} (h : k ≤ s.size) (w : World) : (Instr.sliceAt 9 (.string s) none (some (.int .i64 (k : Int))) none).run Try.prog w = .ok (.string (s.extract 0 k)) w := by
  have e2 : (k : Int) ≤ (s.size : Int) := by omega
  have e3 : ¬ ((s.size : Int) < (k : Int)) := by omega
  simp [go_sem, e2]

end Go.Proofs.Ytbjijmdknlopdaa

namespace Go.Proofs.Ytbjijmdknlopdaa
open Go.RowKit
set_option linter.unusedVariables false

/-- a slice that reads as L, and is nil only as nil is -/
def RdI (w : World) (v : Value) (L : List Int) : Prop := SlI w v L ∧ (v = .slice none 0 0 ∨ ∃ x c, v = .slice (some x) L.length c ∧ L.length ≤ c)
theorem RdI.later {w w' : World} {v : Value} {L : List Int} (h : RdI w v L) (hb : Below w.heap.size w w') : RdI w' v L := ⟨SlG.later h.1 hb, h.2⟩
theorem RdI.nil (w : World) : RdI w (.slice none 0 0) [] := ⟨SlG.nil _ _ _ _, .inl rfl⟩
theorem RdI.of_row {B : Nat} {w0 wr : World} {v : Value} {L : List Int} (h : GathI B w0 v L wr) (hm : L.length ≤ 1000000) : RdI wr v L := by
  refine ⟨GathG.slI h hm, ?_⟩
  rcases h.1.2 with ⟨rfl, _⟩ | ⟨g, cap, cur, rfl, _, _, hc, _⟩
  · exact .inl rfl
  · exact .inr ⟨_, _, rfl, hc⟩
/-- without the first one -/
theorem RdI.tail {w : World} {x : Addr} {y : Int} {M : List Int} {cap : Nat} (h : RdI w (.slice (some x) (M.length + 1) cap) (y :: M)) :
    (cap = 1 → M = []) ∧ (cap ≠ 1 → RdI w (.slice (some ⟨x.block, x.off + 1, none⟩) M.length (cap - 1)) M) := by
  obtain ⟨hs, hsh⟩ := h
  have hc : M.length + 1 ≤ cap := by
    rcases hsh with h0 | ⟨x', c, h0, h1⟩
    · cases h0
    · injection h0 with _ _ h2
      subst h2
      simpa using h1
  refine ⟨fun h1 => List.eq_nil_of_length_eq_zero (by omega), fun _ => ⟨⟨some ⟨x.block, x.off + 1, none⟩, cap - 1, rfl, ?_, fun i a ha => ?_⟩, .inr ⟨_, _, rfl, by omega⟩⟩⟩
  · obtain ⟨_, _, _, hm, _⟩ := hs
    simp only [List.length_cons] at hm
    omega
  · have hi : i < M.length := by
      rcases Nat.lt_or_ge i M.length with h1 | h1
      · exact h1
      · rw [List.getElem?_eq_none h1] at ha; cases ha
    obtain ⟨A, c', hv, _, hcell⟩ := hs
    injection hv with hA _ _
    subst hA
    obtain ⟨x', hx', hb, hq⟩ := hcell (i + 1) a (by simpa using ha)
    injection hx' with hx'
    subst hx'
    refine ⟨_, rfl, hb, fun j u hu => ?_⟩
    have := hq j u hu
    rw [Nat.mul_one] at this ⊢
    have e : (⟨x.block, x.off + 1, none⟩ : Addr).add (i + j) = x.add (i + 1 + j) := by
      unfold Addr.add
      rw [if_neg (show ¬ i + 1 + j = 0 by omega)]
      by_cases h0 : i + j = 0
      · rw [if_pos h0]; congr 1; omega
      · rw [if_neg h0]; congr 1; simp only; omega
    rw [e]
    exact this
theorem RdI.none_left (w : World) {x : Addr} (h : x.block < w.heap.size) : RdI w (.slice (some x) 0 0) [] := ⟨⟨some x, 0, rfl, Nat.zero_le _, fun i a ha => by simp at ha⟩, .inr ⟨x, 0, rfl, Nat.le_refl _⟩⟩
theorem rowG_cells {L : List Int} {j : Nat} {u : Value} (h : (rowG intC L)[j]? = some u) : ∃ hj : j < L.length, u = .int .i64 L[j] := by
  have hl : (rowG intC L).length = L.length * 1 := rowG_length intC_len L
  have hj : j < L.length := by
    rcases Nat.lt_or_ge j L.length with h1 | h1
    · exact h1
    · rw [List.getElem?_eq_none (by omega)] at h; cases h
  have := rowG_get intC_len L j _ (List.getElem?_eq_getElem hj) 0 (.int .i64 L[j]) rfl
  rw [Nat.mul_one, Nat.add_zero, h] at this
  exact ⟨hj, Option.some.inj this⟩
/-- '[]int{}' -/
theorem own_empty (w : World) (e : TypeId) (k B : Nat) (hB : B ≤ w.heap.size) : (w.alloc (.cells #[] e)).ownsRow B e k (.slice (some ⟨w.heap.size, 0, none⟩) 0 0) 0 [] :=
  ⟨by simp, .inr ⟨w.heap.size, 0, #[], rfl, hB, heap_alloc_new w _, Nat.le_refl _, Nat.zero_le _, by simp, by simp⟩⟩
theorem wpList_catI {ops : Array Oper} {rest : List Oper} {o : Oper} {a : Act} {Q : Exit → Act → World → Prop} {W : World} (hgd : o.guard = none) (s x : Operand)
    (ho : o.op = .call { callee := .builtin .append, args := #[s, x], argTypes := #[26, 26] }) {B : Nat} {v u : Value} {L M : List Int} (hs : a.eval s = v) (hg : W.ownsRow B 3 1 v L.length (rowG intC L)) (hB : B ≤ W.heap.size)
    (hx : a.eval x = u) (hr : RdI W u M) (hsz : L.length + M.length ≤ 1000000)
    (h : ∀ v' w', w'.ownsRow B 3 1 v' (L ++ M).length (rowG intC (L ++ M)) → Below B W w' → wpList Try.prog ops Q rest (a.put o.dst v') w') : wpList Try.prog ops Q (o :: rest) a W := by
  obtain ⟨i0, hi, hz0, hz1, hz2⟩ := info_parts info_int
  obtain ⟨hsl, hshape⟩ := hr
  rcases hshape with rfl | ⟨p, c, rfl, _⟩
  · obtain ⟨A, cap, hv, _, _⟩ := hsl
    injection hv with _ hl _
    obtain rfl : M = [] := List.eq_nil_of_length_eq_zero hl.symm
    refine wpList_append_own_none hgd s x 26 ho B 3 i0 1 Try.underlying26 hi v L.length (rowG intC L) hs hg hx ?_
    exact h v W (by rw [List.append_nil]; exact hg) (Below.refl _ _)
  · refine wpList_append_own _ hgd s x 26 ho B 3 i0 _ 1 8 Try.underlying26 hi hz0 hz1 hz2 rfl (by decide) v L.length (rowG intC L) hs hg p M.length c (rowG intC M) hx (rowG_length intC_len M) (fun j u hu => ?_) (fun u hu => ?_) ?_ ?_ hB ?_
    · obtain ⟨hj, rfl⟩ := rowG_cells hu
      obtain ⟨y, c', hv, _, hc⟩ := SlG.at1 hsl hj rfl
      injection hv with hA _ _
      injection hA with hA
      subst hA
      exact hc
    · obtain ⟨j, hj, rfl⟩ := List.getElem_of_mem hu
      obtain ⟨hj2, e⟩ := rowG_cells (List.getElem?_eq_getElem hj)
      rw [e]; rfl
    · unfold maxLen; omega
    · omega
    · intro v' w' hown hgr _
      refine h v' w' ?_ ((Below.refl _ _).grown hgr hB ?_)
      · rw [List.length_append, rowG_app]; exact hown
      · intro k hk
        rcases hg.2 with ⟨rfl, _⟩ | ⟨g, cap, cur, rfl, hgg, _⟩
        · cases hk
        · cases hk; exact hgg
end Go.Proofs.Ytbjijmdknlopdaa

namespace Go.Proofs.Ytbjijmdknlopdaa
open Go.RowKit
set_option linter.unusedVariables false

/-! ### Ints -/
theorem list_take_eq {A B : List Int} {k : Nat} (hl : A.length = B.length) (h : k < A.length) (h' : k < B.length) (he : A.take k = B.take k) : A.take (k + 1) = B.take (k + 1) ↔ A[k] = B[k] := by
  rw [take_snoc h, take_snoc h', he]
  constructor
  · intro e
    have := List.append_cancel_left e
    simpa using this
  · intro e; rw [e]
set_option maxHeartbeats 1000000 in
theorem sints_v {v v' : Value} {L L' : List Int} {q : Bool} (h : decide (L = L') = q) (w : World) (hv : SlI w v L) (hv' : SlI w v' L') :
    Calls Try.prog 19 #[v, v'] w fun e w' => e = .returned (.bool q) ∧ ∃ m, w' = w.drewN m := by
  have H := Lib.hid h
  have HV := Lib.hid hv
  have HV' := Lib.hid hv'
  obtain ⟨A, cap, rfl, hlen, _⟩ := hv
  obtain ⟨A', cap', rfl, hlen', _⟩ := hv'
  unfold maxLen at hlen hlen'
  clear h
  by_cases hl : L.length = L'.length
  · have hne : ((L.length : Int) != (L'.length : Int)) = false := by simp; omega
    have HL := Lib.hid hl
    clear hl
    go_enter Try.func19, Try.ntmps19
    go_wp2_with fail
    go_loopw [5] (fun i wr => ∃ k : Nat, k ≤ L.length ∧ i = .int .i64 k ∧ Hid (L.take k = L'.take k) ∧ ∃ m, wr = w.drewN m) (fun i _ => L.length - (intOf i).toNat)
    case atStart => exact ⟨0, Nat.zero_le _, rfl, Lib.hid rfl, 0, rfl⟩
    case round =>
      obtain ⟨k, hk, rfl, HI, m, rfl⟩ := hrel
      by_cases hlt : k < L.length
      · have hlt2 : k < L'.length := by rw [← HL.out]; exact hlt
        obtain ⟨x, c1, hv1, hxb, c0⟩ := HV.out.at1 hlt rfl
        injection hv1 with hA _ hcap
        subst hA
        subst hcap
        obtain ⟨y, c2, hv2, hyb, d0⟩ := HV'.out.at1 hlt2 rfl
        injection hv2 with hA _ hcap
        subst hA
        subst hcap
        have HT := Lib.hid (list_take_eq HL.out hlt hlt2 HI.out)
        have c0' : ∀ m, (w.drewN m).cell? (x.add k) = some (.int .i64 L[k]) := fun _ => c0
        have d0' : ∀ m, (w.drewN m).cell? (y.add k) = some (.int .i64 L'[k]) := fun _ => d0
        have HNE : Hid (L[k] ≠ L'[k] → L ≠ L') := Lib.hid (fun h e => h (by subst e; rfl))
        generalize L[k] = a at c0' HT HNE
        generalize L'[k] = b at d0' HT HNE
        clear c0 d0
        by_cases hab : a = b
        · have hb : (a != b) = false := by simpa using hab
          have HN : Hid (L.take (k + 1) = L'.take (k + 1)) := Lib.hid (HT.out.2 hab)
          clear hab
          go_wp2_with fail
          go_quiet (fail)
          go_wp2
          go_roundw
          case rel => exact ⟨k + 1, by omega, by go_num, HN, _, rfl⟩
          case measure => simp [intOf]; omega
        · have hb : (a != b) = true := by simpa using hab
          have HQ : Hid (false = q) := Lib.hid (by rw [← H.out, decide_eq_false (HNE.out hab)])
          clear hab
          go_wp2_with fail
          go_quiet (fail)
          go_wp2
          go_ret
          exact ⟨fret_bool HQ.out, _, drewN_two _ _ _⟩
      · obtain rfl : k = L.length := by omega
        have HQ : Hid (true = q) := Lib.hid (by
          have := HI.out
          rw [List.take_length, List.take_of_length_le (by rw [HL.out]; exact Nat.le_refl _)] at this
          rw [← H.out, decide_eq_true this])
        go_wp2
        go_ret
        exact ⟨fret_bool HQ.out, _, rfl⟩
  · have hne : ((L.length : Int) != (L'.length : Int)) = true := by simp; omega
    have HQ : Hid (false = q) := Lib.hid (by rw [← H.out, decide_eq_false (fun e => hl (by rw [e]))])
    clear hl
    go_enter Try.func19, Try.ntmps19
    go_wp2
    go_ret
    exact ⟨fret_bool HQ.out, 0, rfl⟩

end Go.Proofs.Ytbjijmdknlopdaa
