/- Of no program: a region that draws its order, whose operations may make new memory too (a slice, a call's result), walked once, in the order of the text. The slots whose values hang on the order ('sec': where new memory lies) are hidden from the walk: of each only a fact F is known, which new memory elsewhere does not turn. The last operations (from n on), which wait for all others, are walked behind it as they stand. Of no program: the steps of the walk of XSec, one kind of operation each. -/
import Derived.Test.YtmpikfnemhjoeaaZaa
import Derived.StillTail
import Derived.Deep.DrawnRows
import Derived.Laws.BytesArg
namespace Go.Proofs.Ytmpikfnemhjoeaa
open Go.RowKit
set_option linter.unusedVariables false

section
variable {P : Program} {ops : Array Oper} {md : Region.Mode} {W : World} {sec : List Tmp} {F : Tmp → Value → World → Prop}

/-- what one operation comes to: a good value, and the world but for new memory -/
def secUpon (P : Program) (w : World) (good : Value → World → Prop) : Result Next → Prop
  | .ok (.value u) w' => Below w.heap.size w w' ∧ good u w'
  | .ok .skip w' => Below w.heap.size w w' ∧ good undef w'
  | .ok (.enter f args) w' => w' = w ∧ Calls P f args w (fun e w'' => ∃ u, e = .returned u ∧ Below w.heap.size w w'' ∧ good u w'')
  | _ => False

def secGood (sec : List Tmp) (F : Tmp → Value → World → Prop) (d : Option Tmp) (v u : Value) (w : World) : Prop :=
  match d with
  | some t => if t ∈ sec then F t u w else u = v
  | none => True

/-- what the operation reads: open slots as the walk has them, hidden ones by their facts -/
def secLooks (ops : Array Oper) (sec : List Tmp) (F : Tmp → Value → World → Prop) (o : Oper) (h a : Act) (w : World) : Prop :=
  ∀ t ∈ o.looksAt ops, if t ∈ sec then F t (a.tmps.getD t undef) w else a.tmps.getD t undef = h.tmps.getD t undef

def secSpec (P : Program) (ops : Array Oper) (W : World) (sec : List Tmp) (F : Tmp → Value → World → Prop) (o : Oper) (h : Act) (v : Value) : Prop :=
  ∀ (a : Act) (w : World), Below W.heap.size W w → secLooks ops sec F o h a w → secUpon P w (secGood sec F o.dst v) ((execOp a.eval o).run P w)

def secOp (P : Program) (ops : Array Oper) (W : World) (sec : List Tmp) (F : Tmp → Value → World → Prop) (i : Nat) (K : Act → Prop) (h : Act) : Prop :=
  match ops[i]? with
  | none => K h
  | some o => if Region.wanted o (yielded ops h.tmps) then ∃ v, secSpec P ops W sec F o h v ∧ K (h.put o.dst v) else (∀ d, o.dst = some d → d ∉ sec) ∧ K (h.put o.dst undef)

/-- the walk in the order of the text -/
def wpSec (P : Program) (ops : Array Oper) (W : World) (sec : List Tmp) (F : Tmp → Value → World → Prop) (Q : Act → Prop) : List Oper → Act → Prop
  | [], h => Q h
  | o :: rest, h => if Region.wanted o (yielded ops h.tmps) then ∃ v, secSpec P ops W sec F o h v ∧ wpSec P ops W sec F Q rest (h.put o.dst v)
      else (∀ d, o.dst = some d → d ∉ sec) ∧ wpSec P ops W sec F Q rest (h.put o.dst undef)

/-! ### frames -/
theorem getD_put (a : Act) (d : Tmp) (v : Value) (t : Tmp) : (a.put (some d) v).tmps.getD t undef = if d = t ∧ d < a.tmps.size then v else a.tmps.getD t undef := by
  simp only [Act.put, Array.getD_eq_getD_getElem?, Array.getElem?_setIfInBounds]
  split
  · rename_i e
    subst e
    split
    · rename_i h; simp [h]
    · rename_i h; simp [h]
  · rename_i e; simp [e]
theorem getD_put_ne (a : Act) {d : Option Tmp} (v : Value) (t : Tmp) (h : ∀ x, d = some x → x ≠ t) : (a.put d v).tmps.getD t undef = a.tmps.getD t undef := by
  cases d with
  | none => rfl
  | some d => rw [getD_put, if_neg (fun e => h d rfl e.1)]
theorem put_size (a : Act) (d : Option Tmp) (v : Value) : (a.put d v).tmps.size = a.tmps.size := by
  cases d <;> simp [Act.put]
theorem put_defers (a : Act) (d : Option Tmp) (v : Value) : (a.put d v).defers = a.defers := by cases d <;> rfl

theorem getD_at (xs : Array Value) (i : Nat) (h : i < xs.size) : xs.getD i undef = xs[i] := by simp [Array.getD, h]
structure SecAg (sec : List Tmp) (h a : Act) : Prop where
  defers : a.defers = h.defers
  size : a.tmps.size = h.tmps.size
  eq : ∀ t, t ∉ sec → a.tmps.getD t undef = h.tmps.getD t undef
theorem SecAg.refl (h : Act) : SecAg sec h h := ⟨rfl, rfl, fun _ _ => rfl⟩
theorem SecAg.put {h a : Act} (hag : SecAg sec h a) {d : Option Tmp} {u v : Value} (hd : ∀ t, d = some t → t ∈ sec ∨ u = v) : SecAg sec (h.put d v) (a.put d u) := by
  refine ⟨by rw [put_defers, put_defers]; exact hag.defers, by rw [put_size, put_size]; exact hag.size, fun t ht => ?_⟩
  cases d with
  | none => exact hag.eq t ht
  | some d =>
    rw [getD_put, getD_put, hag.size]
    split
    · rename_i e
      obtain ⟨rfl, _⟩ := e
      exact (hd d rfl).resolve_left ht
    · exact hag.eq t ht

/-- a frame out of the hidden one, the hidden slots filled in -/
def secFill (xs : Tmp → Value) : List Tmp → Act → Act
  | [], h => h
  | t :: ts, h => secFill xs ts (h.put (some t) (xs t))
theorem secFill_size (xs : Tmp → Value) : ∀ (l : List Tmp) (h : Act), (secFill xs l h).tmps.size = h.tmps.size
  | [], h => rfl
  | t :: ts, h => by unfold secFill; rw [secFill_size xs ts, put_size]
theorem secFill_defers (xs : Tmp → Value) : ∀ (l : List Tmp) (h : Act), (secFill xs l h).defers = h.defers
  | [], h => rfl
  | t :: ts, h => by unfold secFill; rw [secFill_defers xs ts, put_defers]
theorem secFill_getD (xs : Tmp → Value) : ∀ (l : List Tmp) (h : Act) (t : Tmp), (∀ x ∈ l, x < h.tmps.size) → (secFill xs l h).tmps.getD t undef = if t ∈ l then xs t else h.tmps.getD t undef
  | [], h, t, _ => by simp [secFill]
  | x :: ts, h, t, hz => by
    unfold secFill
    rw [secFill_getD xs ts _ t (fun y hy => by rw [put_size]; exact hz y (List.mem_cons_of_mem _ hy)), getD_put]
    by_cases h1 : t ∈ ts
    · rw [if_pos h1, if_pos (List.mem_cons_of_mem _ h1)]
    · rw [if_neg h1]
      by_cases h2 : x = t
      · subst h2
        rw [if_pos ⟨rfl, hz x (List.mem_cons_self ..)⟩, if_pos (List.mem_cons_self ..)]
      · rw [if_neg (fun e => h2 e.1), if_neg (by simp only [List.mem_cons, not_or]; exact ⟨fun e => h2 e.symm, h1⟩)]
theorem SecAg.fill {h a : Act} (hag : SecAg sec h a) (hz : ∀ t ∈ sec, t < h.tmps.size) : a = secFill (fun t => a.tmps.getD t undef) sec h := by
  have e : a.tmps = (secFill (fun t => a.tmps.getD t undef) sec h).tmps := by
    apply Array.ext
    · rw [secFill_size, hag.size]
    · intro i h1 h2
      have h3 := secFill_getD (fun t => a.tmps.getD t undef) sec h i hz
      rw [← getD_at _ _ h1, ← getD_at _ _ h2, h3]
      split
      · rfl
      · rename_i hn
        have h4 := hag.eq i hn
        simp only [Array.getD_eq_getD_getElem?, Array.getElem?_eq_getElem h1] at h4 ⊢
        exact h4
  have e2 : a.defers = (secFill (fun t => a.tmps.getD t undef) sec h).defers := by rw [secFill_defers, hag.defers]
  generalize secFill (fun t => a.tmps.getD t undef) sec h = b at e e2
  cases a; cases b
  simp only at e e2
  rw [e, e2]

/-! ### what is asked of the region, by reckoning -/
def secB (md : Region.Mode) (ops : Array Oper) (sec : List Tmp) : Bool :=
  ops.all fun o =>
    (match o.guard with
     | some (g, _) => (match (ops[g]?).bind (·.dst) with | some t => !sec.contains t | none => true)
     | none => true) &&
    (o.looksAt ops).all fun t => !sec.contains t || o.after.any fun e => Region.binds md e && ((ops[e.on]?).bind (·.dst) == some t)

def secFacts (ops : Array Oper) (sec : List Tmp) (F : Tmp → Value → World → Prop) (listed : Array Bool) (a : Act) (w : World) : Prop :=
  ∀ i o d, ops[i]? = some o → listed.getD i false = true → o.dst = some d → d ∈ sec → F d (a.tmps.getD d undef) w

theorem secB_guard (hB : secB md ops sec = true) {i : Nat} {o : Oper} (ho : ops[i]? = some o) {h a : Act} (hag : SecAg sec h a) :
    Region.wanted o (yielded ops a.tmps) = Region.wanted o (yielded ops h.tmps) := by
  have hm : o ∈ ops := Array.mem_of_getElem? ho
  have h1 := Array.all_eq_true_iff_forall_mem.1 hB o hm
  simp only [Bool.and_eq_true] at h1
  have h2 := h1.1
  unfold Region.wanted
  cases hg : o.guard with
  | none => rfl
  | some gw =>
    obtain ⟨g, want⟩ := gw
    rw [hg] at h2
    have hy : yielded ops a.tmps g = yielded ops h.tmps g := by
      unfold yielded
      simp only at h2
      cases ht : (ops[g]?).bind (·.dst) with
      | none => rfl
      | some t =>
        rw [ht] at h2
        have h3 := hag.eq t (by simpa using h2)
        have h4 := hag.size
        simp only [Array.getD_eq_getD_getElem?] at h3
        by_cases h5 : t < h.tmps.size
        · have h6 : t < a.tmps.size := by rw [h4]; exact h5
          have e5 : h.tmps[t]? = some h.tmps[t] := Array.getElem?_eq_getElem h5
          have e6 : a.tmps[t]? = some a.tmps[t] := Array.getElem?_eq_getElem h6
          have e7 : a.tmps[t] = h.tmps[t] := by simpa [e5, e6] using h3
          exact congrArg (fun z : Option Value => match z with | some (.bool b) => some b | _ => none) (show a.tmps[t]? = h.tmps[t]? by rw [e5, e6, e7])
        · have h6 : ¬ t < a.tmps.size := by rw [h4]; exact h5
          simp [Array.getElem?_eq_none (Nat.le_of_not_lt h5), Array.getElem?_eq_none (Nat.le_of_not_lt h6)]
    simp only [hy]

theorem secB_looks (hB : secB md ops sec = true) {i : Nat} {o : Oper} (ho : ops[i]? = some o) {listed : Array Bool} (hi : i ∈ Region.ready md ops listed) {h a : Act} {w : World}
    (hag : SecAg sec h a) (hf : secFacts ops sec F listed a w) : secLooks ops sec F o h a w := by
  have hm : o ∈ ops := Array.mem_of_getElem? ho
  have h1 := Array.all_eq_true_iff_forall_mem.1 hB o hm
  simp only [Bool.and_eq_true] at h1
  have h2 := List.all_eq_true.1 h1.2
  obtain ⟨_, o', ho', hall⟩ := mem_ready.1 hi
  obtain rfl : o' = o := Option.some.inj (ho'.symm.trans ho)
  intro t ht
  have h3 := h2 t ht
  split
  · rename_i hs
    simp only [Bool.or_eq_true, Bool.not_eq_true'] at h3
    rcases h3 with h3 | h3
    · have : sec.contains t = true := by simpa using hs
      rw [this] at h3; cases h3
    · obtain ⟨e, he, hb⟩ := Array.any_eq_true'.1 h3
      simp only [Bool.and_eq_true, beq_iff_eq] at hb
      have hl := hall e he hb.1
      cases hx : ops[e.on]? with
      | none => rw [hx] at hb; cases hb.2
      | some x =>
        rw [hx] at hb
        exact hf e.on x t hx hl hb.2 hs
  · rename_i hs
    exact hag.eq t hs

/-! ### any order -/
def wpAnyX (P : Program) (md : Region.Mode) (ops : Array Oper) (W : World) (sec : List Tmp) (F : Tmp → Value → World → Prop) (n : Nat) (L : Array Bool → Act → Prop) : Nat → Array Bool → Act → Prop
  | 0, listed, h => L listed h
  | f + 1, listed, h => Region.ready md ops listed ≠ [] ∧ ∀ i ∈ Region.ready md ops listed, i < n ∧ secOp P ops W sec F i (wpAnyX P md ops W sec F n L f (listed.setIfInBounds i true)) h

theorem secOp_mono {i : Nat} {K K' : Act → Prop} {h : Act} (hk : ∀ h, K h → K' h) (hh : secOp P ops W sec F i K h) : secOp P ops W sec F i K' h := by
  unfold secOp at *
  split
  · exact hk _ (by simpa [*] using hh)
  · rename_i o ho
    simp only [ho] at hh
    split
    · rename_i hw
      simp only [hw, if_true] at hh
      obtain ⟨v, h1, h2⟩ := hh
      exact ⟨v, h1, hk _ h2⟩
    · rename_i hw
      simp only [hw] at hh
      exact ⟨hh.1, hk _ hh.2⟩

theorem wpOp_of_sec (hst : ∀ t v w w', F t v w → Below w.heap.size w w' → F t v w') (hB : secB md ops sec = true) {i : Nat} {h a : Act} {w : World} {K : Act → Prop} {K' : Act → World → Prop} {Q' : Exit → Act → World → Prop} {listed : Array Bool}
    (hi : i ∈ Region.ready md ops listed) (hs : ∀ t ∈ sec, t < h.tmps.size) (hag : SecAg sec h a) (hb : Below W.heap.size W w) (hf : secFacts ops sec F listed a w)
    (hK : ∀ h' a' w', K h' → h'.tmps.size = h.tmps.size → SecAg sec h' a' → Below W.heap.size W w' → secFacts ops sec F (listed.setIfInBounds i true) a' w' → K' a' w') (hh : secOp P ops W sec F i K h) : wpOp P ops Q' i K' a w := by
  obtain ⟨_, o, ho, _⟩ := mem_ready.1 hi
  unfold secOp at hh
  unfold wpOp
  simp only [ho] at hh ⊢
  have hset : ∀ j, (listed.setIfInBounds i true).getD j false = true → j = i ∨ listed.getD j false = true := fun j hj => by
    by_cases e : i = j
    · exact .inl e.symm
    · rw [getD_set_ne false e] at hj; exact .inr hj
  rw [secB_guard hB ho hag]
  split
  · rename_i hw
    simp only [hw, if_true] at hh
    obtain ⟨v, hsp, hk⟩ := hh
    have h3 := hsp a w hb (secB_looks hB ho hi hag hf)
    -- behind a good value
    have on : ∀ u w', Below w.heap.size w w' → secGood sec F o.dst v u w' → K' (a.put o.dst u) w' := fun u w' hbw hg => by
      refine hK _ _ _ hk (put_size _ _ _) (hag.put fun t ht => ?_) (hb.trans (hbw.mono hb.size)) ?_
      · unfold secGood at hg
        rw [ht] at hg
        simp only at hg
        by_cases hts : t ∈ sec
        · exact .inl hts
        · rw [if_neg hts] at hg; exact .inr hg
      · intro j oj d hj hl hd hds
        by_cases e : o.dst = some d
        · unfold secGood at hg
          rw [e] at hg ⊢
          simp only [if_pos hds] at hg
          rw [getD_put, if_pos ⟨rfl, by rw [hag.size]; exact hs d hds⟩]
          exact hg
        · rw [getD_put_ne _ _ _ (fun x hx hxd => e (by rw [hx, hxd]))]
          rcases hset j hl with rfl | hl'
          · exact absurd (by rw [ho] at hj; cases hj; exact hd) e
          · exact hst _ _ _ _ (hf j oj d hj hl' hd hds) hbw
    refine .inl ?_
    unfold Oper.wp
    generalize (execOp a.eval o).run P w = r at h3 ⊢
    cases r with
    | ok x w' =>
      cases x <;> simp only [secUpon] at h3 <;> simp only [Oper.upon]
      case value u => exact on u w' h3.1 h3.2
      case skip => exact on undef w' h3.1 h3.2
      case enter f args =>
        obtain ⟨rfl, hc⟩ := h3
        refine hc.mono fun e w'' ⟨u, he, h4, h5⟩ => ?_
        subst he
        exact on u w'' h4 h5
    | halt x w' => simp only [secUpon] at h3
  · rename_i hw
    simp only [hw] at hh
    refine hK _ _ _ hh.2 (put_size _ _ _) (hag.put fun _ _ => .inr rfl) hb ?_
    intro j oj d hj hl hd hds
    have e : ∀ x, o.dst = some x → x ≠ d := fun x hx hxd => hh.1 x hx (hxd ▸ hds)
    rw [getD_put_ne _ _ _ e]
    rcases hset j hl with rfl | hl'
    · rw [ho] at hj; cases hj; exact absurd rfl (e d hd)
    · exact hf j oj d hj hl' hd hds

theorem wpAny_of_X (hst : ∀ t v w w', F t v w → Below w.heap.size w w' → F t v w') (hB : secB md ops sec = true) {n g : Nat} {L : Array Bool → Act → Prop} {Q' : Exit → Act → World → Prop}
    (hL : ∀ listed h a w, L listed h → (∀ t ∈ sec, t < h.tmps.size) → SecAg sec h a → Below W.heap.size W w → secFacts ops sec F listed a w → wpAny P md ops Q' g listed a w) :
    ∀ (f : Nat) (listed : Array Bool) (h a : Act) (w : World), (∀ t ∈ sec, t < h.tmps.size) → SecAg sec h a → Below W.heap.size W w → secFacts ops sec F listed a w →
      wpAnyX P md ops W sec F n L f listed h → wpAny P md ops Q' (f + g) listed a w
  | 0, listed, h, a, w, hs, hag, hb, hf, hx => by rw [Nat.zero_add]; exact hL _ _ _ _ hx hs hag hb hf
  | f + 1, listed, h, a, w, hs, hag, hb, hf, hx => by
    rw [show f + 1 + g = (f + g) + 1 by omega]
    refine ⟨fun h0 => absurd h0 hx.1, fun i hi => ?_⟩
    exact wpOp_of_sec hst hB hi hs hag hb hf (fun h' a' w' hk hsz hag' hb' hf' => wpAny_of_X hst hB hL f _ h' a' w' (fun t ht => by rw [hsz]; exact hs t ht) hag' hb' hf' hk) (hx.2 i hi).2

/-! ### the order of the text serves any -/
def SecYields (P : Program) (ops : Array Oper) (W : World) (sec : List Tmp) (F : Tmp → Value → World → Prop) (o : Oper) (v : Value) (h : Act) : Prop :=
  (Region.wanted o (yielded ops h.tmps) = true ∧ secSpec P ops W sec F o h v) ∨ (Region.wanted o (yielded ops h.tmps) = false ∧ (∀ d, o.dst = some d → d ∉ sec) ∧ v = undef)

theorem secSpec_put {o : Oper} {h : Act} {v : Value} (hs : secSpec P ops W sec F o h v) {d : Option Tmp} (u : Value) (hd : ∀ x, d = some x → x ∉ o.looksAt ops) : secSpec P ops W sec F o (h.put d u) v := by
  intro a w hb hl
  refine hs a w hb fun t ht => ?_
  have := hl t ht
  rw [getD_put_ne h u t (fun x hx hxt => hd x hx (hxt ▸ ht))] at this
  exact this
theorem secSpec_unput {o : Oper} {h : Act} {v : Value} {d : Option Tmp} (u : Value) (hd : ∀ x, d = some x → x ∉ o.looksAt ops) (hs : secSpec P ops W sec F o (h.put d u) v) : secSpec P ops W sec F o h v := by
  intro a w hb hl
  refine hs a w hb fun t ht => ?_
  have := hl t ht
  rw [getD_put_ne h u t (fun x hx hxt => hd x hx (hxt ▸ ht))]
  exact this
theorem SecYields.op {i : Nat} {o : Oper} {v : Value} {h : Act} (hi : ops[i]? = some o) (hy : SecYields P ops W sec F o v h) {K : Act → Prop} (hk : K (h.put o.dst v)) : secOp P ops W sec F i K h := by
  unfold secOp
  simp only [hi]
  rcases hy with ⟨hw, hv⟩ | ⟨hw, hd, rfl⟩
  · simp only [hw, if_true]; exact ⟨v, hv, hk⟩
  · simp only [hw, Bool.false_eq_true, if_false]; exact ⟨hd, hk⟩
theorem secYields_of {i : Nat} {o : Oper} {h : Act} {K : Act → Prop} (hi : ops[i]? = some o) (hh : secOp P ops W sec F i K h) : ∃ v, SecYields P ops W sec F o v h ∧ K (h.put o.dst v) := by
  unfold secOp at hh
  simp only [hi] at hh
  by_cases hw : Region.wanted o (yielded ops h.tmps) = true
  · simp only [hw, if_true] at hh
    obtain ⟨v, h1, h2⟩ := hh
    exact ⟨v, .inl ⟨hw, h1⟩, h2⟩
  · simp only [hw] at hh
    exact ⟨undef, .inr ⟨by simpa using hw, hh.1, rfl⟩, hh.2⟩
theorem secOp_put {j : Nat} {oi oj : Oper} {v : Value} (hj : ops[j]? = some oj) (hap : oi.apart ops oj = true) {K : Act → Prop} {h : Act}
    (hy : SecYields P ops W sec F oi v h) (hh : secOp P ops W sec F j K (h.put oi.dst v)) : secOp P ops W sec F j (fun h' => SecYields P ops W sec F oi v h' ∧ K (h'.put oi.dst v)) h := by
  obtain ⟨h1, h2, h3⟩ := Oper.apart_spec hap
  have keep : ∀ u, SecYields P ops W sec F oi v (h.put oj.dst u) := fun u => by
    unfold SecYields
    rw [wanted_put oi h oj.dst u h3]
    rcases hy with ⟨hw, hv⟩ | ⟨hw, hd⟩
    · exact .inl ⟨hw, secSpec_put hv u h3⟩
    · exact .inr ⟨hw, hd⟩
  unfold secOp at *
  simp only [hj] at *
  rw [wanted_put oj h oi.dst v h1] at hh
  split
  · rename_i hw
    simp only [hw, if_true] at hh
    obtain ⟨u, hu, hn⟩ := hh
    exact ⟨u, secSpec_unput v h1 hu, keep u, by rw [← Act.put_comm h v u h2]; exact hn⟩
  · rename_i hw
    simp only [hw] at hh
    exact ⟨hh.1, keep _, by rw [← Act.put_comm h v undef h2]; exact hh.2⟩

theorem wpAnyX_first {n i : Nat} {oi : Oper} {v : Value} {L : Array Bool → Act → Prop} (hi : ops[i]? = some oi)
    (hs : Region.sinkB md ops n = true) (hc : Region.chainB md ops n = true) (hn : n < ops.size) (hin : i < n) (hdone : ∀ listed h, L listed h → ∀ j ∈ Region.ready md ops listed, n ≤ j) :
    ∀ (f : Nat) (listed : Array Bool) (h : Act), HeadInv md ops n listed →
      (∀ j oj, ops[j]? = some oj → j ≠ i → listed.getD j true = false → (∀ e ∈ oj.after, Region.binds md e = true → e.on ≠ i) → oi.apart ops oj = true) →
      i ∈ Region.ready md ops listed → SecYields P ops W sec F oi v h →
      wpAnyX P md ops W sec F n L f (listed.setIfInBounds i true) (h.put oi.dst v) → wpAnyX P md ops W sec F n L (f + 1) listed h := by
  intro f
  induction f with
  | zero =>
    intro listed h inv _ hr hy H
    have hun := (mem_ready.1 hr).1
    refine ⟨fun h0 => (by rw [h0] at hr; cases hr), fun j hj => ?_⟩
    have hjn : j < n := Nat.lt_of_not_le fun hge => tail_waits hs hc hn inv _ i rfl hin hun j hge hj
    refine ⟨hjn, ?_⟩
    by_cases hji : j = i
    · subst hji; exact hy.op hi H
    · have := hdone _ _ H j (ready_mono hj hji)
      omega
  | succ f ih =>
    intro listed h inv hfree hr hy H
    have hun := (mem_ready.1 hr).1
    refine ⟨fun h0 => (by rw [h0] at hr; cases hr), fun j hj => ?_⟩
    have hjn : j < n := Nat.lt_of_not_le fun hge => tail_waits hs hc hn inv _ i rfl hin hun j hge hj
    refine ⟨hjn, ?_⟩
    by_cases hji : j = i
    · subst hji; exact hy.op hi H
    · have h1 := (H.2 j (ready_mono hj hji)).2
      obtain ⟨hjun, oj, hoj, hall⟩ := mem_ready.1 hj
      have hnot : ∀ e ∈ oj.after, Region.binds md e = true → e.on ≠ i := fun e he hb heq => by
        have h4 := hall e he hb
        rw [heq, getD_both hun] at h4
        cases h4
      have h2 := secOp_put hoj (hfree j oj hoj hji hjun hnot) hy h1
      refine secOp_mono (fun h' h3 => ih (listed.setIfInBounds j true) h' (inv.set hj hjn) (fun k ok hk hki hunk hno => ?_) (ready_mono hr (Ne.symm hji)) h3.1 ?_) h2
      · refine hfree k ok hk hki ?_ hno
        by_cases hjk : j = k
        · subst hjk; exact hjun
        · rw [getD_set_ne true hjk] at hunk; exact hunk
      · rw [Array.setIfInBounds_comm _ _ hji]
        exact h3.2

theorem wpAnyX_lex {n g : Nat} {Lq : Act → Prop} (hs : Region.sinkB md ops n = true) (hc : Region.chainB md ops n = true) (hn : n < ops.size) :
    ∀ (l : List Oper) (k : Nat) (listed : Array Bool) (h : Act), (∀ j, j < l.length → l[j]? = ops[k + j]?) → k + l.length = n → HeadInv md ops n listed → (∀ j, j < k → listed.getD j false = true) →
    Region.lexHead md ops g l.length k listed = true → wpSec P ops W sec F Lq l h →
    wpAnyX P md ops W sec F n (fun listed' h' => Region.seqB md ops g n listed' = true ∧ (∀ j, j < n → listed'.getD j false = true) ∧ Lq h') l.length listed h
  | [], k, listed, h, _, hk, _, hall, hB, hh => by
    obtain rfl : k = n := by simpa using hk
    exact ⟨by simpa [Region.lexHead] using hB, hall, hh⟩
  | o :: l, k, listed, h, hl, hk, inv, hall, hB, hh => by
    have h0 : ops[k]? = some o := by simpa using (hl 0 (by simp)).symm
    simp only [List.length_cons, Region.lexHead, Bool.and_eq_true] at hB
    obtain ⟨⟨hr, hf⟩, hB'⟩ := hB
    have hkn : k < n := by simp only [List.length_cons] at hk; omega
    have hr' : k ∈ Region.ready md ops listed := by simpa using hr
    have hst : secOp P ops W sec F k (wpSec P ops W sec F Lq l) h := by unfold secOp; simp only [h0]; exact hh
    obtain ⟨v, hy, hK⟩ := secYields_of h0 hst
    exact wpAnyX_first h0 hs hc hn hkn (fun listed' h' hL => seqB_ready hL.1) l.length listed h inv (Region.free_spec h0 hf) hr' hy
      (wpAnyX_lex hs hc hn l (k + 1) _ _ (fun j hj => by have := hl (j + 1) (by simp; omega); simpa [Nat.add_assoc, Nat.add_comm 1 j] using this) (by simp only [List.length_cons] at hk; omega) (inv.set hr' hkn)
        (fun j hj => by
          by_cases e : k = j
          · subst e
            have hkl : k < listed.size := by rw [inv.size]; omega
            simp [hkl]
          · exact getD_set_true (hall j (by omega))) hB' hK)

theorem wpAny_sec {Q : Exit → Act → World → Prop} {a : Act} {w : World} {l : List Oper} (n : Nat) (sec : List Tmp) (F : Tmp → Value → World → Prop)
    (hst : ∀ t v w w', F t v w → Below w.heap.size w w' → F t v w') (hB : Region.lexTailB .any l.toArray n = true) (hS : secB .any l.toArray sec = true)
    (hW : (sec.all fun t => (l.take n).any fun o => o.dst == some t) = true) (hz : (sec.all fun t => decide (t < a.tmps.size)) = true)
    (h : wpSec P l.toArray w sec F (fun h' => ∀ (xs : Tmp → Value) (m : Later w), (∀ t ∈ sec, F t (xs t) m.w) → wpList P l.toArray Q (l.drop n) (secFill xs sec h') m.w) (l.take n) a) :
    wpAny P .any l.toArray Q l.toArray.size (Array.replicate l.toArray.size false) a { w with drawn := w.drawn + 1 } := by
  simp only [Region.lexTailB, Bool.and_eq_true, decide_eq_true_eq] at hB
  obtain ⟨⟨⟨⟨hsel, hn⟩, hs⟩, hc⟩, hlex⟩ := hB
  have hn' : n < l.length := by simpa using hn
  have htl : (l.take n).length = n := by simp; omega
  have hdl : (l.drop n).length = l.toArray.size - n := by simp
  have hzz : ∀ t ∈ sec, t < a.tmps.size := fun t ht => by simpa using List.all_eq_true.1 hz t ht
  have inv0 : HeadInv .any l.toArray n (Array.replicate l.toArray.size false) :=
    ⟨by simp, fun j oj _ hl => (by rw [getD_replicate_false] at hl; cases hl), fun t _ ht => getD_in (by simpa using ht) (getD_replicate_false _ _)⟩
  have H := wpAnyX_lex (md := .any) (g := l.toArray.size - n) hs hc hn (l.take n) 0 _ a (fun j hj => by
    have hj' : j < n := by rw [htl] at hj; exact hj
    simp [hj']) (by simpa using htl) inv0 (fun j hj => by omega) (by rw [htl]; exact hlex) h
  have := wpAny_of_X (Q' := Q) (g := l.toArray.size - n) hst hS (fun listed h' a' w' hL hs' hag hb hf => by
    have hfill := hag.fill hs'
    have hq := hL.2.2 (fun t => a'.tmps.getD t undef) ⟨w', hb⟩ (fun t ht => by
      have h1 := List.all_eq_true.1 hW t ht
      obtain ⟨o, ho, hd⟩ := List.any_eq_true.1 h1
      obtain ⟨j, hj, hjo⟩ := List.getElem_of_mem ho
      have hjn : j < n := by omega
      have hjl : j < l.length := by omega
      refine hf j o t ?_ (hL.2.1 j hjn) (by simpa using hd) ht
      rw [List.getElem?_toArray, List.getElem?_eq_getElem hjl, ← hjo, List.getElem_take])
    rw [← hfill] at hq
    have h5 := wpAny_of_seq (md := .any) (Q' := Q) (l.drop n) n listed a' w' (fun j => by simp [List.getElem?_drop]) (by rw [hdl]; exact hL.1) hq
    rwa [hdl] at h5) _ _ a a { w with drawn := w.drawn + 1 } hzz (SecAg.refl a) ((Below.refl _ _).drew) (fun i o d _ hl => by rw [getD_replicate_false] at hl; cases hl) H
  rw [htl, show n + (l.toArray.size - n) = l.toArray.size by omega] at this
  exact this
/-- **A drawn region, walked once**: the first n operations in the order of the text, hidden slots by their facts; then the rest as it stands, in any later world. -/
theorem wp_region_sec {id : Nat} {Q : Exit → Act → World → Prop} {a : Act} {w : World} {l : List Oper} (n : Nat) (sec : List Tmp) (F : Tmp → Value → World → Prop)
    (hst : ∀ t v w w', F t v w → Below w.heap.size w w' → F t v w') (hm : P.follows .mixedOrders = true) (hB : Region.lexTailB .any l.toArray n = true) (hS : secB .any l.toArray sec = true)
    (hW : (sec.all fun t => (l.take n).any fun o => o.dst == some t) = true) (hz : (sec.all fun t => decide (t < a.tmps.size)) = true)
    (h : wpSec P l.toArray w sec F (fun h' => ∀ (xs : Tmp → Value) (m : Later w), (∀ t ∈ sec, F t (xs t) m.w) → wpList P l.toArray Q (l.drop n) (secFill xs sec h') m.w) (l.take n) a) :
    (Code.region id l.toArray true).wp P Q a w :=
  wp_region_any hm (wpAny_sec n sec F hst hB hS hW hz h)
end

end Go.Proofs.Ytmpikfnemhjoeaa

namespace Go.Proofs.Ytmpikfnemhjoeaa
open Go.RowKit
set_option linter.unusedVariables false

section
variable {P : Program} {ops : Array Oper} {W : World} {sec : List Tmp} {F : Tmp → Value → World → Prop} {Q : Act → Prop} {rest : List Oper} {o : Oper} {h : Act}

/-- operations that are no call of a Go function -/
def plainOp (o : Oper) : Bool :=
  match o.op with
  | .move _ => true | .assign _ => true | .pick .. => true | .build .. => true | .load .. => true | .fieldAddr .. => true | .field .. => true | .indexAddr .. => true | .index .. => true
  | .convert .. => true | .binOp .. => true | .unOp .. => true | .extract .. => true | .slice .. => true
  | .call c => (match c.callee with | .builtin .len => true | .builtin .cap => true | .builtin .min => true | .builtin .max => true | _ => false)
  | _ => false
def noSel (o : Oper) : Bool := match o.op with | .select .. => false | _ => true
theorem noSel_spec (hs : noSel o = true) : ∀ cs b, o.op ≠ .select cs b := by
  intro cs b e
  unfold noSel at hs
  rw [e] at hs
  cases hs
theorem plain_sel (hs : plainOp o = true) : ∀ cs b, o.op ≠ .select cs b := by
  intro cs b e
  unfold plainOp at hs
  rw [e] at hs
  cases hs

theorem value_noEnter (s : Sem Value) (w : World) (f : FuncId) (args : Array Value) (w' : World) : (do pure (.value (← s)) : Sem Next).run P w ≠ .ok (.enter f args) w' := by
  rw [Sem.run_bind]
  cases s.run P w <;> simp [Sem.run_pure, Result.andThen]
theorem plain_noEnter (hp : plainOp o = true) (ρ : Operand → Value) (w : World) (f : FuncId) (args : Array Value) (w' : World) : (execOp ρ o).run P w ≠ .ok (.enter f args) w' := by
  obtain ⟨dst, op, type, pos, after, guard⟩ := o
  unfold plainOp at hp
  cases op
  case call c =>
    obtain ⟨callee, xs, ats⟩ := c
    cases callee with
    | builtin b =>
      cases b
      all_goals first
        | (exfalso; revert hp; simp; done)
        | (simp only [execOp, resolve, invoke, builtin, Sem.run_bind, Sem.run_pure, Result.andThen, ne_eq]
           split <;> simp)
    | invoke r n => (exfalso; revert hp; simp)
    | value f => (exfalso; revert hp; simp)
  case pick c a b =>
    simp only [execOp, Sem.run_bind, Sem.run_pure, Result.andThen, ne_eq]
    split <;> simp
  all_goals first
    | (exfalso; revert hp; simp; done)
    | (simp only [execOp]; exact value_noEnter _ _ _ _ _)
    | (simp [execOp, Sem.run_pure]; done)

def secOpenL (ops : Array Oper) (sec : List Tmp) (o : Oper) : Bool := (o.looksAt ops).all fun t => !sec.contains t
def secOpenD (sec : List Tmp) (o : Oper) : Bool := match o.dst with | some d => !sec.contains d | none => true
theorem eval_open {a : Act} {w : World} (hl : secOpenL ops sec o = true) (hs : ∀ cs b, o.op ≠ .select cs b) (hk : secLooks ops sec F o h a w) : execOp a.eval o = execOp h.eval o := by
  refine execOp_congr o hs fun x hx => ?_
  cases x with
  | tmp t =>
    have hm : t ∈ o.looksAt ops := List.mem_append_left _ (List.mem_filterMap.2 ⟨.tmp t, by simpa using hx, rfl⟩)
    have h1 := hk t hm
    have h2 := List.all_eq_true.1 hl t hm
    have h3 : t ∉ sec := by simpa using h2
    rw [if_neg h3] at h1
    exact h1
  | const v => rfl
  | global g => rfl
  | func f => rfl
theorem good_open {u v : Value} {w : World} (hd : secOpenD sec o = true) (e : u = v) : secGood sec F o.dst v u w := by
  unfold secGood
  unfold secOpenD at hd
  split
  · rename_i d hdd
    rw [hdd] at hd
    rw [if_neg (by simpa using hd)]
    exact e
  · trivial

/-- a plain operation that reads and writes open slots -/
theorem sec_plain (hw : Region.wanted o (yielded ops h.tmps) = true) (hp : plainOp o = true) (hl : secOpenL ops sec o = true) (hd : secOpenD sec o = true)
    (hk : ∀ K : Act → Prop, (∀ a, wpSec P ops W sec F Q rest a → K a) → o.quiet P h (fun w' => ∃ n : Later W, w' = n.w) K) : wpSec P ops W sec F Q (o :: rest) h := by
  obtain ⟨v, h1, h2⟩ := hk _ fun _ hh => hh
  unfold wpSec
  rw [if_pos hw]
  refine ⟨v, fun a w hb hlk => ?_, h2⟩
  rw [eval_open hl (plain_sel hp) hlk]
  have h3 := h1 w ⟨⟨w, hb⟩, rfl⟩
  have h4 := plain_noEnter (P := P) hp h.eval w
  unfold Oper.quietAt at h3
  generalize (execOp h.eval o).run P w = r at h3 h4
  cases r with
  | ok x w' =>
    cases x <;> simp only [Oper.quietUpon] at h3 <;> simp only [secUpon]
    case value u => obtain ⟨rfl, e⟩ := h3; exact ⟨Below.refl _ _, good_open hd e⟩
    case skip => obtain ⟨rfl, e⟩ := h3; exact ⟨Below.refl _ _, good_open hd e.symm⟩
    case enter f args => exact absurd rfl (h4 f args w')
  | halt x w' => simp only [Oper.quietUpon] at h3
/-- a nil check of a pointer that is none -/
theorem sec_nil {x : Operand} {p : Addr} (hw : Region.wanted o (yielded ops h.tmps) = true) (ho : o.op = .nilCheck x) (hx : h.eval x = .pointer (some p)) (hl : secOpenL ops sec o = true) (hd : secOpenD sec o = true)
    (hk : ∀ K : Act → Prop, (∀ a, wpSec P ops W sec F Q rest a → K a) → o.quiet P h (fun w' => ∃ n : Later W, w' = n.w) K) : wpSec P ops W sec F Q (o :: rest) h := by
  obtain ⟨v, h1, h2⟩ := hk _ fun _ hh => hh
  unfold wpSec
  rw [if_pos hw]
  refine ⟨v, fun a w hb hlk => ?_, h2⟩
  rw [eval_open hl (fun cs b => by rw [ho]; simp) hlk]
  have h3 := h1 w ⟨⟨w, hb⟩, rfl⟩
  have h4 : ∀ f args w', (execOp h.eval o).run P w ≠ .ok (.enter f args) w' := fun f args w' => by simp [execOp, ho, hx, Sem.run_pure]
  unfold Oper.quietAt at h3
  generalize (execOp h.eval o).run P w = r at h3 h4
  cases r with
  | ok x w' =>
    cases x <;> simp only [Oper.quietUpon] at h3 <;> simp only [secUpon]
    case value u => obtain ⟨rfl, e⟩ := h3; exact ⟨Below.refl _ _, good_open hd e⟩
    case skip => obtain ⟨rfl, e⟩ := h3; exact ⟨Below.refl _ _, good_open hd e.symm⟩
    case enter f args => exact absurd rfl (h4 f args w')
  | halt x w' => simp only [Oper.quietUpon] at h3
theorem sec_skip (hw : Region.wanted o (yielded ops h.tmps) = false) (hd : secOpenD sec o = true) (hk : wpSec P ops W sec F Q rest (h.put o.dst undef)) : wpSec P ops W sec F Q (o :: rest) h := by
  unfold wpSec
  rw [if_neg (by rw [hw]; exact Bool.false_ne_true)]
  refine ⟨fun d e => ?_, hk⟩
  unfold secOpenD at hd
  rw [e] at hd
  simpa using hd

/-- a call that makes new memory alone and answers v -/
theorem sec_call {v : Value} (hw : Region.wanted o (yielded ops h.tmps) = true) (hn : noSel o = true) (hl : secOpenL ops sec o = true) (hd : secOpenD sec o = true)
    (hz : (match o.dst with | some d => decide (d < h.tmps.size) | none => false) = true)
    (hq : ∀ (m : Later W) (K : Act → Prop), K (h.put o.dst v) → o.quiet P h (fun w' => ∃ n : Later m.w, w' = n.w) K) (hk : wpSec P ops W sec F Q rest (h.put o.dst v)) : wpSec P ops W sec F Q (o :: rest) h := by
  unfold wpSec
  rw [if_pos hw]
  refine ⟨v, fun a w hb hlk => ?_, hk⟩
  rw [eval_open hl (noSel_spec hn) hlk]
  obtain ⟨v', h1, h2⟩ := hq ⟨w, hb⟩ (fun a => a = h.put o.dst v) rfl
  have ev : v' = v := by
    cases ed : o.dst with
    | none => rw [ed] at hz; cases hz
    | some d =>
      rw [ed] at hz h2
      have h3 : d < h.tmps.size := by simpa using hz
      have h4 := congrArg (fun a : Act => a.tmps.getD d undef) h2
      simp only [getD_put, h3, and_self, if_true] at h4
      exact h4
  subst ev
  have h3 := h1 w ⟨⟨w, Below.refl _ _⟩, rfl⟩
  unfold Oper.quietAt at h3
  generalize (execOp h.eval o).run P w = r at h3
  cases r with
  | ok x w' =>
    cases x <;> simp only [Oper.quietUpon] at h3 <;> simp only [secUpon]
    case value u => obtain ⟨rfl, e⟩ := h3; exact ⟨Below.refl _ _, good_open hd e⟩
    case skip => obtain ⟨rfl, e⟩ := h3; exact ⟨Below.refl _ _, good_open hd e.symm⟩
    case enter f args =>
      obtain ⟨rfl, hc⟩ := h3
      exact ⟨rfl, hc.mono fun e w'' ⟨he, n, hnw⟩ => ⟨_, he, by rw [hnw]; exact n.h, good_open hd rfl⟩⟩
  | halt x w' => simp only [Oper.quietUpon] at h3

/-- an operation that lays a new block, whose value is hidden -/
theorem sec_new {s : Tmp} {mk : World → Value} {ob : World → Obj} (hw : Region.wanted o (yielded ops h.tmps) = true) (hn : noSel o = true) (hl : secOpenL ops sec o = true) (hd : o.dst = some s) (hs : sec.contains s = true)
    (hrun : ∀ w, (execOp h.eval o).run P w = .ok (.value (mk w)) (w.alloc (ob w))) (hF : ∀ w, F s (mk w) (w.alloc (ob w))) (hk : wpSec P ops W sec F Q rest (h.put o.dst undef)) : wpSec P ops W sec F Q (o :: rest) h := by
  unfold wpSec
  rw [if_pos hw]
  refine ⟨undef, fun a w hb hlk => ?_, hk⟩
  rw [eval_open hl (noSel_spec hn) hlk, hrun w]
  refine ⟨(Below.refl _ _).alloc (Nat.le_refl _) _, ?_⟩
  unfold secGood
  rw [hd]
  simp only
  rw [if_pos (by simpa using hs)]
  exact hF w

/-- an operation that reads hidden slots, by their facts, and yields v -/
theorem sec_read {v : Value} (hw : Region.wanted o (yielded ops h.tmps) = true) (hd : secOpenD sec o = true)
    (hrun : ∀ (a : Act) (w : World), Below W.heap.size W w → secLooks ops sec F o h a w → (execOp a.eval o).run P w = .ok (.value v) w) (hk : wpSec P ops W sec F Q rest (h.put o.dst v)) : wpSec P ops W sec F Q (o :: rest) h := by
  unfold wpSec
  rw [if_pos hw]
  refine ⟨v, fun a w hb hlk => ?_, hk⟩
  rw [hrun a w hb hlk]
  exact ⟨Below.refl _ _, good_open hd rfl⟩

/-- what a hidden slot is known to be: a slice of bytes in a block of its own -/
def isBytes (e : TypeId) (xs : List Int) (v : Value) (w : World) : Prop := ∃ b, v = .slice (some ⟨b, 0, none⟩) xs.length xs.length ∧ w.heap[b]? = some (.cells (xs.map (Value.int .u8)).toArray e (0, 0))
theorem isBytes_later {e : TypeId} {xs : List Int} {v : Value} {w w' : World} (h : isBytes e xs v w) (hb : Below w.heap.size w w') : isBytes e xs v w' := by
  obtain ⟨b, h1, h2⟩ := h
  exact ⟨b, h1, by rw [hb.block b (Array.getElem?_eq_some_iff.1 h2).1]; exact h2⟩
theorem isBytes_new (w : World) (e : TypeId) (xs : List Int) : isBytes e xs (.slice (some ⟨w.heap.size, 0, none⟩) xs.length xs.length) (w.alloc (.cells (xs.map (Value.int .u8)).toArray e)) :=
  ⟨w.heap.size, rfl, heap_alloc_new w _⟩
theorem isBytes_string {e src dst : TypeId} {xs : List Int} {v : Value} {w : World} (hs : P.underlying src = some (.slice e)) (he : P.underlying e = some (.int .u8)) (hd : P.underlying dst = some .string)
    (h : isBytes e xs v w) : (convert src dst v).run P w = .ok (.string (strOfNums xs)) w := by
  obtain ⟨b, rfl, h2⟩ := h
  refine run_convert_bytes_arg w src e hs he b 0 xs.length xs.length xs rfl (fun i hi => ?_) dst hd
  rw [Nat.zero_add, cell_of_row _ _ _ _ _ _ h2]
  simp [List.getD_eq_getElem?_getD, List.getElem?_eq_getElem hi]
end

end Go.Proofs.Ytmpikfnemhjoeaa
