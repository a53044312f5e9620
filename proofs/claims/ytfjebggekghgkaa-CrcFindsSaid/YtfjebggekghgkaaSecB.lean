/- Of no program: the steps of the walk of XSec, one kind of operation each. -/
import Derived.Test.YtfjebggekghgkaaSec
import Derived.Laws.BytesArg
namespace Go.Proofs.Ytfjebggekghgkaa
open Go.RowKit
set_option linter.unusedVariables false

section
variable {P : Program} {ops : Array Oper} {W : World} {sec : List Tmp} {F : Tmp → Value → World → Prop} {Q : Act → Prop} {rest : List Oper} {o : Oper} {h : Act}

/-- operations that are no call of a Go function -/
def plainOp (o : Oper) : Bool :=
  match o.op with
  | .move _ => true | .assign _ => true | .pick .. => true | .build .. => true | .load .. => true | .fieldAddr .. => true | .field .. => true | .indexAddr .. => true | .index .. => true
  | .convert .. => true | .binOp .. => true | .unOp .. => true | .extract .. => true | .slice .. => true
  | .call c => (match c.callee with | .builtin .len => true | .builtin .cap => true | .builtin .min => true | .builtin .max => true | _ => false)
  | _ => false
def noSel (o : Oper) : Bool := match o.op with | .select .. => false | _ => true
theorem noSel_spec (hs : noSel o = true) : ∀ cs b, o.op ≠ .select cs b := by
  intro cs b e
  unfold noSel at hs
  rw [e] at hs
  cases hs
theorem plain_sel (hs : plainOp o = true) : ∀ cs b, o.op ≠ .select cs b := by
  intro cs b e
  unfold plainOp at hs
  rw [e] at hs
  cases hs

theorem value_noEnter (s : Sem Value) (w : World) (f : FuncId) (args : Array Value) (w' : World) : (do pure (.value (← s)) : Sem Next).run P w ≠ .ok (.enter f args) w' := by
  rw [Sem.run_bind]
  cases s.run P w <;> simp [Sem.run_pure, Result.andThen]
theorem plain_noEnter (hp : plainOp o = true) (ρ : Operand → Value) (w : World) (f : FuncId) (args : Array Value) (w' : World) : (execOp ρ o).run P w ≠ .ok (.enter f args) w' := by
  obtain ⟨dst, op, type, pos, after, guard⟩ := o
  unfold plainOp at hp
  cases op
  case call c =>
    obtain ⟨callee, xs, ats⟩ := c
    cases callee with
    | builtin b =>
      cases b
      all_goals first
        | (exfalso; revert hp; simp; done)
        | (simp only [execOp, resolve, invoke, builtin, Sem.run_bind, Sem.run_pure, Result.andThen, ne_eq]
           split <;> simp)
    | invoke r n => (exfalso; revert hp; simp)
    | value f => (exfalso; revert hp; simp)
  case pick c a b =>
    simp only [execOp, Sem.run_bind, Sem.run_pure, Result.andThen, ne_eq]
    split <;> simp
  all_goals first
    | (exfalso; revert hp; simp; done)
    | (simp only [execOp]; exact value_noEnter _ _ _ _ _)
    | (simp [execOp, Sem.run_pure]; done)

def secOpenL (ops : Array Oper) (sec : List Tmp) (o : Oper) : Bool := (o.looksAt ops).all fun t => !sec.contains t
def secOpenD (sec : List Tmp) (o : Oper) : Bool := match o.dst with | some d => !sec.contains d | none => true
theorem eval_open {a : Act} {w : World} (hl : secOpenL ops sec o = true) (hs : ∀ cs b, o.op ≠ .select cs b) (hk : secLooks ops sec F o h a w) : execOp a.eval o = execOp h.eval o := by
  refine execOp_congr o hs fun x hx => ?_
  cases x with
  | tmp t =>
    have hm : t ∈ o.looksAt ops := List.mem_append_left _ (List.mem_filterMap.2 ⟨.tmp t, by simpa using hx, rfl⟩)
    have h1 := hk t hm
    have h2 := List.all_eq_true.1 hl t hm
    have h3 : t ∉ sec := by simpa using h2
    rw [if_neg h3] at h1
    exact h1
  | const v => rfl
  | global g => rfl
  | func f => rfl
theorem good_open {u v : Value} {w : World} (hd : secOpenD sec o = true) (e : u = v) : secGood sec F o.dst v u w := by
  unfold secGood
  unfold secOpenD at hd
  split
  · rename_i d hdd
    rw [hdd] at hd
    rw [if_neg (by simpa using hd)]
    exact e
  · trivial

/-- a plain operation that reads and writes open slots -/
theorem sec_plain (hw : Region.wanted o (yielded ops h.tmps) = true) (hp : plainOp o = true) (hl : secOpenL ops sec o = true) (hd : secOpenD sec o = true)
    (hk : ∀ K : Act → Prop, (∀ a, wpSec P ops W sec F Q rest a → K a) → o.quiet P h (fun w' => ∃ n : Later W, w' = n.w) K) : wpSec P ops W sec F Q (o :: rest) h := by
  obtain ⟨v, h1, h2⟩ := hk _ fun _ hh => hh
  unfold wpSec
  rw [if_pos hw]
  refine ⟨v, fun a w hb hlk => ?_, h2⟩
  rw [eval_open hl (plain_sel hp) hlk]
  have h3 := h1 w ⟨⟨w, hb⟩, rfl⟩
  have h4 := plain_noEnter (P := P) hp h.eval w
  unfold Oper.quietAt at h3
  generalize (execOp h.eval o).run P w = r at h3 h4
  cases r with
  | ok x w' =>
    cases x <;> simp only [Oper.quietUpon] at h3 <;> simp only [secUpon]
    case value u => obtain ⟨rfl, e⟩ := h3; exact ⟨Below.refl _ _, good_open hd e⟩
    case skip => obtain ⟨rfl, e⟩ := h3; exact ⟨Below.refl _ _, good_open hd e.symm⟩
    case enter f args => exact absurd rfl (h4 f args w')
  | halt x w' => simp only [Oper.quietUpon] at h3
theorem sec_skip (hw : Region.wanted o (yielded ops h.tmps) = false) (hd : secOpenD sec o = true) (hk : wpSec P ops W sec F Q rest (h.put o.dst undef)) : wpSec P ops W sec F Q (o :: rest) h := by
  unfold wpSec
  rw [if_neg (by rw [hw]; exact Bool.false_ne_true)]
  refine ⟨fun d e => ?_, hk⟩
  unfold secOpenD at hd
  rw [e] at hd
  simpa using hd

/-- a call that makes new memory alone and answers v -/
theorem sec_call {v : Value} (hw : Region.wanted o (yielded ops h.tmps) = true) (hn : noSel o = true) (hl : secOpenL ops sec o = true) (hd : secOpenD sec o = true)
    (hz : (match o.dst with | some d => decide (d < h.tmps.size) | none => false) = true)
    (hq : ∀ (m : Later W) (K : Act → Prop), K (h.put o.dst v) → o.quiet P h (fun w' => ∃ n : Later m.w, w' = n.w) K) (hk : wpSec P ops W sec F Q rest (h.put o.dst v)) : wpSec P ops W sec F Q (o :: rest) h := by
  unfold wpSec
  rw [if_pos hw]
  refine ⟨v, fun a w hb hlk => ?_, hk⟩
  rw [eval_open hl (noSel_spec hn) hlk]
  obtain ⟨v', h1, h2⟩ := hq ⟨w, hb⟩ (fun a => a = h.put o.dst v) rfl
  have ev : v' = v := by
    cases ed : o.dst with
    | none => rw [ed] at hz; cases hz
    | some d =>
      rw [ed] at hz h2
      have h3 : d < h.tmps.size := by simpa using hz
      have h4 := congrArg (fun a : Act => a.tmps.getD d undef) h2
      simp only [getD_put, h3, and_self, if_true] at h4
      exact h4
  subst ev
  have h3 := h1 w ⟨⟨w, Below.refl _ _⟩, rfl⟩
  unfold Oper.quietAt at h3
  generalize (execOp h.eval o).run P w = r at h3
  cases r with
  | ok x w' =>
    cases x <;> simp only [Oper.quietUpon] at h3 <;> simp only [secUpon]
    case value u => obtain ⟨rfl, e⟩ := h3; exact ⟨Below.refl _ _, good_open hd e⟩
    case skip => obtain ⟨rfl, e⟩ := h3; exact ⟨Below.refl _ _, good_open hd e.symm⟩
    case enter f args =>
      obtain ⟨rfl, hc⟩ := h3
      exact ⟨rfl, hc.mono fun e w'' ⟨he, n, hnw⟩ => ⟨_, he, by rw [hnw]; exact n.h, good_open hd rfl⟩⟩
  | halt x w' => simp only [Oper.quietUpon] at h3

/-- an operation that lays a new block, whose value is hidden -/
theorem sec_new {s : Tmp} {mk : World → Value} {ob : World → Obj} (hw : Region.wanted o (yielded ops h.tmps) = true) (hn : noSel o = true) (hl : secOpenL ops sec o = true) (hd : o.dst = some s) (hs : sec.contains s = true)
    (hrun : ∀ w, (execOp h.eval o).run P w = .ok (.value (mk w)) (w.alloc (ob w))) (hF : ∀ w, F s (mk w) (w.alloc (ob w))) (hk : wpSec P ops W sec F Q rest (h.put o.dst undef)) : wpSec P ops W sec F Q (o :: rest) h := by
  unfold wpSec
  rw [if_pos hw]
  refine ⟨undef, fun a w hb hlk => ?_, hk⟩
  rw [eval_open hl (noSel_spec hn) hlk, hrun w]
  refine ⟨(Below.refl _ _).alloc (Nat.le_refl _) _, ?_⟩
  unfold secGood
  rw [hd]
  simp only
  rw [if_pos (by simpa using hs)]
  exact hF w

/-- an operation that reads hidden slots, by their facts, and yields v -/
theorem sec_read {v : Value} (hw : Region.wanted o (yielded ops h.tmps) = true) (hd : secOpenD sec o = true)
    (hrun : ∀ (a : Act) (w : World), Below W.heap.size W w → secLooks ops sec F o h a w → (execOp a.eval o).run P w = .ok (.value v) w) (hk : wpSec P ops W sec F Q rest (h.put o.dst v)) : wpSec P ops W sec F Q (o :: rest) h := by
  unfold wpSec
  rw [if_pos hw]
  refine ⟨v, fun a w hb hlk => ?_, hk⟩
  rw [hrun a w hb hlk]
  exact ⟨Below.refl _ _, good_open hd rfl⟩

/-- what a hidden slot is known to be: a slice of bytes in a block of its own -/
def isBytes (e : TypeId) (xs : List Int) (v : Value) (w : World) : Prop := ∃ b, v = .slice (some ⟨b, 0, none⟩) xs.length xs.length ∧ w.heap[b]? = some (.cells (xs.map (Value.int .u8)).toArray e (0, 0))
theorem isBytes_later {e : TypeId} {xs : List Int} {v : Value} {w w' : World} (h : isBytes e xs v w) (hb : Below w.heap.size w w') : isBytes e xs v w' := by
  obtain ⟨b, h1, h2⟩ := h
  exact ⟨b, h1, by rw [hb.block b (Array.getElem?_eq_some_iff.1 h2).1]; exact h2⟩
theorem isBytes_new (w : World) (e : TypeId) (xs : List Int) : isBytes e xs (.slice (some ⟨w.heap.size, 0, none⟩) xs.length xs.length) (w.alloc (.cells (xs.map (Value.int .u8)).toArray e)) :=
  ⟨w.heap.size, rfl, heap_alloc_new w _⟩
theorem isBytes_string {e src dst : TypeId} {xs : List Int} {v : Value} {w : World} (hs : P.underlying src = some (.slice e)) (he : P.underlying e = some (.int .u8)) (hd : P.underlying dst = some .string)
    (h : isBytes e xs v w) : (convert src dst v).run P w = .ok (.string (strOfNums xs)) w := by
  obtain ⟨b, rfl, h2⟩ := h
  refine run_convert_bytes_arg w src e hs he b 0 xs.length xs.length xs rfl (fun i hi => ?_) dst hd
  rw [Nat.zero_add, cell_of_row _ _ _ _ _ _ h2]
  simp [List.getD_eq_getElem?_getD, List.getElem?_eq_getElem hi]
end

end Go.Proofs.Ytfjebggekghgkaa
