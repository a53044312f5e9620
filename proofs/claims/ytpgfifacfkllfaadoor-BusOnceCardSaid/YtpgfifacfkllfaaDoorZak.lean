/- Bus, plain: what a slot makes of a bus; what may be of a bus. No program is meant. Of no program: a region that draws and begins with a move that only its last operations look at ('b.l = append(b.l, x)'), walked once: the move is made first. Bus, the document's side: who is the first of those that offer (the first loop of Slot). -/
import Derived.Test.YtpgfifacfkllfaaDoorZaj
import Derived.Test.YtpgfifacfkllfaaDoorZag
import Derived.Test.YtpgfifacfkllfaaDoorZad
import Derived.Deep.DeepCutAuto
import Derived.Deep.RegionWith
namespace Go.Proofs.YtpgfifacfkllfaaDoor
open Go.RowKit
set_option linter.unusedVariables false

def frz : Fr := ⟨0, 0, 0, ByteArray.mk #[]⟩
def Bs.off (s : Bs) (i : Nat) : Bool := (s.N.getD i cf0).o
/-- does the node offer a frame? -/
def Bs.has (s : Bs) (own : Fr) (has : Bool) (i : Nat) : Bool := if i = 0 then has && decide (0 ≤ keyG own) else !(s.W.getD i []).isEmpty
/-- which one -/
def Bs.x (s : Bs) (own : Fr) (i : Nat) : Fr := if i = 0 then own else (s.W.getD i []).headD own
/-- behind so many nodes: who is the first, and with what -/
def Bs.best (s : Bs) (own : Fr) (has : Bool) : Nat → Int × Fr
  | 0 => (-1, frz)
  | i + 1 => if s.has own has i && (!s.off i && (decide ((s.best own has i).1 < 0) || decide (keyG (s.x own i) < keyG (s.best own has i).2))) then ((i : Int), s.x own i) else s.best own has i
theorem best_rng (s : Bs) (own : Fr) (has : Bool) : ∀ i, -1 ≤ (s.best own has i).1 ∧ (s.best own has i).1 < i
  | 0 => by unfold Bs.best; decide
  | i + 1 => by
    have := best_rng s own has i
    unfold Bs.best
    split
    · simp only; omega
    · omega

theorem Bs.at_zero (s : Bs) (own : Fr) (has : Bool) : s.has own has 0 = (has && decide (0 ≤ keyG own)) ∧ s.x own 0 = own := ⟨rfl, rfl⟩
theorem Bs.at_nil {s : Bs} {k : Nat} (own : Fr) (has : Bool) (hk : ¬ k = 0) (h : s.W.getD k [] = []) : s.has own has k = false ∧ s.x own k = own := by
  unfold Bs.has Bs.x
  rw [if_neg hk, if_neg hk, h]; exact ⟨rfl, rfl⟩
theorem Bs.at_cons {s : Bs} {k : Nat} {f : Fr} {M : List Fr} (own : Fr) (has : Bool) (hk : ¬ k = 0) (h : s.W.getD k [] = f :: M) : s.has own has k = true ∧ s.x own k = f := by
  unfold Bs.has Bs.x
  rw [if_neg hk, if_neg hk, h]; exact ⟨rfl, rfl⟩

/-- who is the first has a frame to send -/
theorem best_has (s : Bs) (own : Fr) (has : Bool) (m : Nat) : ∀ i, (s.best own has i).1 = (m : Int) → s.has own has m = true ∧ (s.best own has i).2 = s.x own m ∧ s.off m = false ∧ m < i
  | 0, h => by unfold Bs.best at h; simp only at h; omega
  | i + 1, h => by
    unfold Bs.best at h ⊢
    split at h
    · rename_i hc
      simp only at h
      obtain rfl : i = m := by omega
      rw [if_pos hc]
      simp only [Bool.and_eq_true, Bool.not_eq_true'] at hc
      exact ⟨hc.1, rfl, hc.2.1, by omega⟩
    · rename_i hc
      rw [if_neg hc]
      obtain ⟨h1, h2, h3, h4⟩ := best_has s own has m i h
      exact ⟨h1, h2, h3, by omega⟩

/-! ### the first k of a row turned -/
def turnN {α : Type} (g : Nat → α → α) : List α → Nat → List α
  | [], _ => []
  | N, 0 => N
  | c :: N, k + 1 => g 0 c :: turnN (fun i => g (i + 1)) N k
theorem turnN_zero {α : Type} (g : Nat → α → α) (N : List α) : turnN g N 0 = N := by cases N <;> rfl
theorem turnN_len {α : Type} : ∀ (N : List α) (g : Nat → α → α) (k : Nat), (turnN g N k).length = N.length
  | [], g, k => by cases k <;> rfl
  | c :: N, g, 0 => rfl
  | c :: N, g, k + 1 => by unfold turnN; simp [turnN_len N]
theorem turnN_get {α : Type} : ∀ (N : List α) (g : Nat → α → α) (k i : Nat), (turnN g N k)[i]? = if i < k then (N[i]?).map (g i) else N[i]?
  | [], g, k, i => by cases k <;> simp [turnN]
  | c :: N, g, 0, i => by simp [turnN]
  | c :: N, g, k + 1, 0 => by simp [turnN]
  | c :: N, g, k + 1, i + 1 => by
    unfold turnN
    simp only [List.getElem?_cons_succ]
    rw [turnN_get N _ k i]
    simp
theorem turnN_set {α : Type} (N : List α) (g : Nat → α → α) (k : Nat) (h : k < N.length) : (turnN g N k).set k (g k N[k]) = turnN g N (k + 1) := by
  apply List.ext_getElem?
  intro i
  rw [List.getElem?_set, turnN_get, turnN_get, turnN_len]
  by_cases e : k = i
  · subst e
    rw [if_pos rfl, if_pos h, if_pos (Nat.lt_succ_self k), List.getElem?_eq_getElem h]; rfl
  · rw [if_neg e]
    by_cases h1 : i < k
    · rw [if_pos h1, if_pos (by omega)]
    · rw [if_neg h1, if_neg (by omega)]
theorem turnN_same {α : Type} (N : List α) (g : Nat → α → α) (k : Nat) (h : k < N.length) (he : g k N[k] = N[k]) : turnN g N k = turnN g N (k + 1) := by
  rw [← turnN_set N g k h, he]
  apply List.ext_getElem?
  intro i
  rw [List.getElem?_set, turnN_len]
  by_cases e : k = i
  · subst e
    rw [if_pos rfl, if_pos h, turnN_get, if_neg (by omega), List.getElem?_eq_getElem h]
  · rw [if_neg e]
theorem turnN_at {α : Type} (N : List α) (g : Nat → α → α) (k : Nat) (h : k < N.length) : (turnN g N k)[k]'(by rw [turnN_len]; exact h) = N[k] := by
  have := turnN_get N g k k
  rw [if_neg (by omega), List.getElem?_eq_getElem (by rw [turnN_len]; exact h), List.getElem?_eq_getElem h] at this
  exact Option.some.inj this

/-! ### a slot -/
/-- who was off is one slot nearer to being back, node 0 only behind a Fix -/
def Bs.gIdle (s : Bs) (i : Nat) (c : Cf) : Cf := if s.off i && (decide (0 < i) || s.fx) then c.do_ 4 s.back else c
/-- those that were not off have sent, failed, heard or missed -/
def Bs.gSent (s : Bs) (bad : Bool) (best : Int) (i : Nat) (c : Cf) : Cf := if s.off i then c else c.do_ (if (i : Int) = best then (if bad then 2 else 0) else if bad then 3 else 1) s.back
def Bs.N1 (s : Bs) : List Cf := turnN s.gIdle s.N s.N.length
def Bs.fx1 (s : Bs) : Bool := s.fx && (s.N1.getD 0 cf0).o
def Bs.N2 (s : Bs) (bad : Bool) (best : Int) : List Cf := turnN (s.gSent bad best) s.N1 s.N.length
/-- a slot: the bus behind it, and the event -/
def Bs.slot (s : Bs) (own : Fr) (has bad : Bool) : Bs × Int × Int × Fr :=
  if (s.best own has s.N.length).1 < 0 then ({ s with N := s.N1, fx := s.fx1, sl := s.sl + 1 }, 0, 0, frz)
  else if bad then ({ s with N := s.N2 true (s.best own has s.N.length).1, fx := s.fx1, sl := s.sl + 1 }, 2, (s.best own has s.N.length).1, (s.best own has s.N.length).2)
  else ({ s with N := s.N2 false (s.best own has s.N.length).1, fx := s.fx1, sl := s.sl + 1,
                 log := s.log ++ [⟨(s.best own has s.N.length).2, (s.best own has s.N.length).1, s.sl⟩],
                 W := if 0 < (s.best own has s.N.length).1 then s.W.set (s.best own has s.N.length).1.toNat (s.W.getD (s.best own has s.N.length).1.toNat []).tail else s.W }, 1, (s.best own has s.N.length).1, (s.best own has s.N.length).2)
end Go.Proofs.YtpgfifacfkllfaaDoor

namespace Go.Proofs.YtpgfifacfkllfaaDoor
open Go.RowKit
set_option linter.unusedVariables false

/-- the operation n waits for the first one, too -/
def tieL : Nat → List Oper → List Oper
  | _, [] => []
  | 0, o :: l => { o with after := o.after.push { on := 0, ground := .data } } :: l
  | n + 1, o :: l => o :: tieL n l
theorem tieL_get : ∀ (n : Nat) (l : List Oper) (j : Nat), (tieL n l)[j]? = if j = n then (l[j]?).map (fun o => { o with after := o.after.push { on := 0, ground := .data } }) else l[j]?
  | n, [], j => by simp [tieL]
  | 0, o :: l, 0 => by simp [tieL]
  | 0, o :: l, j + 1 => by simp [tieL]
  | n + 1, o :: l, 0 => by simp [tieL]
  | n + 1, o :: l, j + 1 => by
    unfold tieL
    simp only [List.getElem?_cons_succ]
    rw [tieL_get n l j]
    simp
theorem tieL_len : ∀ (n : Nat) (l : List Oper), (tieL n l).length = l.length
  | n, [] => by simp [tieL]
  | 0, o :: l => by simp [tieL]
  | n + 1, o :: l => by simp [tieL, tieL_len n l]

def tiedB (l : List Oper) (n : Nat) : Bool :=
  match l[0]?, l[n]? with
  | some o0, some on =>
    (match o0.op with | .move (.tmp s) => on.dst != some s | _ => false) && o0.dst.isSome && o0.guard.isNone && o0.after.all (fun e => !Region.binds .any e) && o0.apart l.toArray on &&
    (match on.op with | .select .. => false | _ => true) && decide (0 < n) && (List.range l.length).all (fun t => decide (t ≤ n) || Region.waitsFor .any l.toArray t 0)
  | _, _ => false

section
variable {P : Program} {l : List Oper} {n : Nat}
theorem yielded_tie (tmps : Array Value) : yielded (tieL n l).toArray tmps = yielded l.toArray tmps := by
  funext j
  unfold yielded
  rw [List.getElem?_toArray, List.getElem?_toArray, tieL_get]
  by_cases h : j = n
  · subst h; rw [if_pos rfl]; cases l[j]? <;> rfl
  · rw [if_neg h]
/-- only the normal way out -/
def OnlyN (Q : Exit → Act → World → Prop) : Exit → Act → World → Prop := Exit.then (fun a w => Q .normal a w) (fun _ _ _ => False)
theorem onlyN_mono {Q : Exit → Act → World → Prop} : ∀ e a w, OnlyN Q e a w → Q e a w := by
  intro e a w h
  cases e <;> first | exact h | exact False.elim h
theorem onlyN_out {Q : Exit → Act → World → Prop} : ¬ LetsOut (OnlyN Q) := fun ⟨_, _, h⟩ => h
theorem wpOp_tie {Q : Exit → Act → World → Prop} {j : Nat} {K : Act → World → Prop} {a : Act} {w : World} (h : wpOp P (tieL n l).toArray Q j K a w) : wpOp P l.toArray Q j K a w := by
  unfold wpOp at *
  rw [yielded_tie] at h
  rw [List.getElem?_toArray, tieL_get] at h
  rw [List.getElem?_toArray]
  by_cases e : j = n
  · subst e
    rw [if_pos rfl] at h
    cases ho : l[j]? with
    | none => rw [ho] at h; exact h
    | some o => rw [ho] at h; exact h
  · rw [if_neg e] at h; exact h
/-- what is ready of the tied ones is ready of the others -/
theorem ready_tie {listed : Array Bool} {j : Nat} (h : j ∈ Region.ready .any l.toArray listed) (h0 : j ≠ n ∨ listed.getD 0 false = true) : j ∈ Region.ready .any (tieL n l).toArray listed := by
  obtain ⟨h1, o, ho, hall⟩ := mem_ready.1 h
  rw [List.getElem?_toArray] at ho
  by_cases e : j = n
  · subst e
    have hl := h0.resolve_left (fun h => h rfl)
    refine mem_ready.2 ⟨h1, _, by rw [List.getElem?_toArray, tieL_get, if_pos rfl, ho]; rfl, fun x hx hb => ?_⟩
    simp only [Array.mem_push] at hx
    rcases hx with hx | rfl
    · exact hall x hx hb
    · exact hl
  · exact mem_ready.2 ⟨h1, o, by rw [List.getElem?_toArray, tieL_get, if_neg e]; exact ho, hall⟩
theorem ready_untie {listed : Array Bool} {j : Nat} (h : j ∈ Region.ready .any (tieL n l).toArray listed) : j ∈ Region.ready .any l.toArray listed := by
  obtain ⟨h1, o, ho, hall⟩ := mem_ready.1 h
  rw [List.getElem?_toArray, tieL_get] at ho
  by_cases e : j = n
  · subst e
    rw [if_pos rfl] at ho
    cases h2 : l[j]? with
    | none => rw [h2] at ho; cases ho
    | some o' =>
      rw [h2] at ho
      injection ho with ho
      subst ho
      exact mem_ready.2 ⟨h1, o', by rw [List.getElem?_toArray]; exact h2, fun x hx hb => hall x (by simp [hx]) hb⟩
  · rw [if_neg e] at ho
    exact mem_ready.2 ⟨h1, o, by rw [List.getElem?_toArray]; exact ho, hall⟩
/-- an operation behind the move is the same ahead of it -/
theorem wpOp_late {Q : Exit → Act → World → Prop} {o0 on : Oper} {d0 : Tmp} {v : Value} (hn : l[n]? = some on) (hd : o0.dst = some d0) (hap : o0.apart l.toArray on = true) (hsel : ∀ cs b, on.op ≠ .select cs b)
    {K : Act → World → Prop} {a : Act} {w : World} (h : wpOp P l.toArray (OnlyN Q) n K (a.put (some d0) v) w) :
    wpOp P l.toArray (OnlyN Q) n (fun a' w' => K (a'.put (some d0) v) w' ∧ ∃ b : Act, ∃ u, a' = b.put on.dst u ∧ b.tmps = a.tmps) a w := by
  obtain ⟨h1, h2, h3⟩ := Oper.apart_spec hap
  have hl : (l.toArray)[n]? = some on := by rw [List.getElem?_toArray]; exact hn
  unfold wpOp at *
  rw [hl] at h ⊢
  simp only at h ⊢
  rw [wanted_put on a (some d0) v (fun d e => h1 d (hd.trans e))] at h
  have hev : execOp (a.put (some d0) v).eval on = execOp a.eval on := execOp_congr on hsel fun x hx => Act.eval_put fun d e hxe => by
    subst hxe
    exact h1 d (hd.trans e) (List.mem_append_left _ (List.mem_filterMap.2 ⟨.tmp d, by simpa using hx, rfl⟩))
  have hcm : ∀ (b : Act) u, (b.put (some d0) v).put on.dst u = (b.put on.dst u).put (some d0) v := fun b u => Act.put_comm b v u (fun d e => h2 d (hd.trans e))
  split
  · rename_i hw
    simp only [hw, if_true] at h
    refine .inl ?_
    rcases h with h | ⟨_, h⟩
    · unfold Oper.wp at h ⊢
      rw [hev] at h
      generalize (execOp a.eval on).run P w = r at h ⊢
      cases r with
      | ok x w' =>
        cases x <;> simp only [Oper.upon] at h ⊢
        case value u => exact ⟨by rw [← hcm]; exact h, a, u, rfl, rfl⟩
        case skip => exact ⟨by rw [← hcm]; exact h, a, undef, rfl, rfl⟩
        case defer d => exact ⟨by rw [← hcm, ← Act.put_defers]; exact h, { a with defers := d :: a.defers }, undef, rfl, rfl⟩
        case enter f args =>
          refine Calls.mono h fun e w'' he => ?_
          cases e with
          | returned u => exact ⟨by rw [← hcm]; exact he, a, u, rfl, rfl⟩
          | panicked c => exact False.elim he
          | outgrown => exact False.elim (onlyN_out he)
        case row r args => exact Rows.mono h fun u w'' he => ⟨by rw [← hcm]; exact he, a, u, rfl, rfl⟩
      | halt x w' => cases x <;> simp only [Oper.upon] at h ⊢ <;> exact h
    · exact False.elim (onlyN_out h)
  · rename_i hw
    simp only [hw] at h
    exact ⟨by rw [← hcm]; exact h, a, undef, rfl, rfl⟩
theorem wpAny_untie {Q : Exit → Act → World → Prop} {o0 on : Oper} {s0 d0 : Tmp} (h0 : l[0]? = some o0) (hn : l[n]? = some on) (hop : o0.op = .move (.tmp s0)) (hd : o0.dst = some d0) (hgd : o0.guard = none) (haf : o0.after.all (fun e => !Region.binds .any e) = true)
    (hap : o0.apart l.toArray on = true) (hds : on.dst ≠ some s0) (hsel : ∀ cs b, on.op ≠ .select cs b) (hn0 : 0 < n) (hlate : ∀ t, n < t → t < l.length → Region.waitsFor .any l.toArray t 0 = true)
    (hs : Region.sinkB .any (tieL n l).toArray n = true) (hc : Region.chainB .any (tieL n l).toArray n = true) :
    ∀ (f : Nat) (listed : Array Bool) (a : Act) (w : World), listed.size = l.length → (listed.getD 0 false = true ∨ HeadInv .any (tieL n l).toArray n listed) →
      wpAny P .any (tieL n l).toArray (OnlyN Q) f listed a w → wpAny P .any l.toArray (OnlyN Q) f listed a w := by
  have hnl : n < l.length := by
    rcases Nat.lt_or_ge n l.length with h | h
    · exact h
    · rw [List.getElem?_eq_none h] at hn; cases hn
  have hnt : n < (tieL n l).toArray.size := by simp [tieL_len]; exact hnl
  have h0t : (l.toArray)[0]? = some o0 := by rw [List.getElem?_toArray]; exact h0
  have g0 : ∀ (x : Array Bool) (t : Nat), t < x.size → (x.getD t false = true ∨ x.getD t true = false) := fun x t ht => by
    cases h : x[t]'ht
    · right; simp [ht, h]
    · left; simp [ht, h]
  have r0 : ∀ listed : Array Bool, listed.getD 0 true = false → 0 ∈ Region.ready .any l.toArray listed := fun listed hl =>
    mem_ready.2 ⟨hl, o0, h0t, fun e he hb => by have := (Array.all_eq_true_iff_forall_mem.1 haf) e he; rw [hb] at this; cases this⟩
  have move : ∀ (K : Act → World → Prop) (a : Act) (w : World), wpOp P l.toArray (OnlyN Q) 0 K a w ↔ K (a.put (some d0) (a.eval (.tmp s0))) w := fun K a w => by
    unfold wpOp
    rw [h0t]
    simp only
    rw [if_pos (by unfold Region.wanted; rw [hgd])]
    have he : (execOp a.eval o0).run P w = .ok (.value (a.eval (.tmp s0))) w := by simp [execOp, hop, Sem.run_pure]
    constructor
    · rintro (h | ⟨_, h⟩)
      · unfold Oper.wp at h; rw [he] at h; simp only [Oper.upon] at h; rw [← hd]; exact h
      · exact False.elim (onlyN_out h)
    · intro h
      refine .inl ?_
      unfold Oper.wp; rw [he]; simp only [Oper.upon]; rw [hd]; exact h
  intro f
  induction f using Nat.strongRecOn with
  | _ f ih =>
  cases f with
  | zero =>
    intro listed a w hz inv h
    refine ⟨?_, h.2⟩
    have h1 := h.1
    cases hr : Region.ready .any l.toArray listed with
    | nil => rfl
    | cons j js =>
      exfalso
      have hj : j ∈ Region.ready .any l.toArray listed := by rw [hr]; exact List.mem_cons_self
      by_cases hjn : j ≠ n ∨ listed.getD 0 false = true
      · have := ready_tie (n := n) hj hjn; rw [h1] at this; cases this
      · rw [not_or] at hjn
        have hl0 : listed.getD 0 true = false := (g0 listed 0 (by omega)).resolve_left hjn.2
        have := ready_tie (n := n) (r0 listed hl0) (.inl (by omega)); rw [h1] at this; cases this
  | succ f =>
    intro listed a w hz inv h
    refine ⟨fun hr => h.1 (by
      cases hr2 : Region.ready .any (tieL n l).toArray listed with
      | nil => rfl
      | cons j js => have hj := ready_untie (n := n) (l := l) (listed := listed) (j := j) (by rw [hr2]; exact List.mem_cons_self); rw [hr] at hj; cases hj), fun j hj => ?_⟩
    by_cases hj2 : j ≠ n ∨ listed.getD 0 false = true
    · have hjt := ready_tie (n := n) hj hj2
      refine wpOp_mono (fun a' w' hk => ih f (Nat.lt_succ_self f) (listed.setIfInBounds j true) a' w' (by simpa using hz) ?_ hk) (wpOp_tie (h.2 j hjt))
      by_cases hl : listed.getD 0 false = true
      · exact .inl (getD_set_true hl)
      · have hl0 : listed.getD 0 true = false := (g0 listed 0 (by omega)).resolve_left hl
        have inv' := inv.resolve_left hl
        by_cases e0 : j = 0
        · subst e0; left; have h0l : 0 < listed.size := by omega
          simp [h0l]
        · have hjn : j < n := Nat.lt_of_not_le fun hge => tail_waits hs hc hnt inv' _ 0 rfl hn0 hl0 j hge hjt
          exact .inr (inv'.set hjt hjn)
    · rw [not_or] at hj2
      obtain ⟨hjn, hl⟩ := hj2
      have hjn : j = n := Classical.not_not.1 hjn
      subst hjn
      have hl0 : listed.getD 0 true = false := (g0 listed 0 (by omega)).resolve_left hl
      have inv' := inv.resolve_left hl
      have hr0 := ready_tie (n := j) (r0 listed hl0) (.inl (by omega))
      have H1 := (move _ _ _).1 (wpOp_tie (h.2 0 hr0))
      have hlist : (listed.setIfInBounds 0 true).getD 0 false = true := by have h0l : 0 < listed.size := by omega
                                                                           simp [h0l]
      have hjr : j ∈ Region.ready .any (tieL j l).toArray (listed.setIfInBounds 0 true) := ready_tie (ready_mono hj (by omega)) (.inr hlist)
      cases f with
      | zero => have := H1.1; rw [this] at hjr; cases hjr
      | succ f =>
        have H2 := wpOp_tie (H1.2 j hjr)
        refine wpOp_mono (fun a' w' hk => ?_) (wpOp_late hn hd hap hsel H2)
        obtain ⟨hk, b, u, rfl, hbt⟩ := hk
        have hev : (b.put on.dst u).eval (.tmp s0) = a.eval (.tmp s0) := by
          rw [Act.eval_put (fun d e hx => by injection hx with hx; subst hx; exact hds e)]
          show b.tmps.getD s0 undef = a.tmps.getD s0 undef
          rw [hbt]
        have hl02 : (listed.setIfInBounds j true).getD 0 true = false := by rw [getD_set_ne true (by omega)]; exact hl0
        have hone : ∀ t ∈ Region.ready .any l.toArray (listed.setIfInBounds j true), t = 0 := fun t ht => by
          apply Classical.byContradiction
          intro ht0
          obtain ⟨u1, ot, hot, hall⟩ := mem_ready.1 ht
          have htl : t < l.length := by
            rcases Nat.lt_or_ge t l.length with h | h
            · exact h
            · rw [List.getElem?_toArray, List.getElem?_eq_none h] at hot; cases hot
          by_cases htj : t = j
          · subst htj
            have hjl : t < listed.size := by omega
            simp [hjl] at u1
          · have u2 : listed.getD t true = false := by rw [getD_set_ne true (Ne.symm htj)] at u1; exact u1
            rcases Nat.lt_or_ge t j with hlt | hge
            · have inv2 := inv'.set hr0 hn0
              exact tail_waits hs hc hnt inv2 _ t rfl hlt (by rw [getD_set_ne true (Ne.symm ht0)]; exact u2) j (Nat.le_refl _) hjr
            · obtain ⟨oj, hoj, e, he, hb, hon⟩ := Region.waitsFor_spec (hlate t (by omega) htl)
              have : oj = ot := Option.some.inj (hoj.symm.trans hot)
              subst this
              have h5 := hall e he hb
              rw [hon, getD_both hl02] at h5
              cases h5
        refine ⟨fun hr => ?_, fun t ht => ?_⟩
        · have := r0 _ hl02; rw [hr] at this; cases this
        · obtain rfl := hone t ht
          rw [move, hev]
          refine ih f (by omega) _ _ _ (by simpa using hz) (.inl ?_) ?_
          · have h0l : 0 < listed.size := by omega
            simp [h0l]
          · rw [Array.setIfInBounds_comm _ _ (by omega)]; exact hk

theorem wpOp_imp {ops : Array Oper} {Q Q' : Exit → Act → World → Prop} (hQ : ∀ e a w, Q e a w → Q' e a w) {j : Nat} {K K' : Act → World → Prop} (hK : ∀ a w, K a w → K' a w) {a : Act} {w : World} (h : wpOp P ops Q j K a w) : wpOp P ops Q' j K' a w := by
  have hO : LetsOut Q → LetsOut Q' := fun ⟨a, w, h⟩ => ⟨a, w, hQ _ _ _ h⟩
  unfold wpOp at *
  cases ho : ops[j]? with
  | none => rw [ho] at h; exact hK _ _ h
  | some o =>
    rw [ho] at h
    simp only at h ⊢
    split
    · rename_i hw
      simp only [hw, if_true] at h
      rcases h with h | ⟨h1, h2⟩
      · refine .inl ?_
        unfold Oper.wp at h ⊢
        generalize (execOp a.eval o).run P w = r at h ⊢
        cases r with
        | ok x w' =>
          cases x <;> simp only [Oper.upon] at h ⊢
          case value u => exact hK _ _ h
          case skip => exact hK _ _ h
          case defer d => exact hK _ _ h
          case enter f args =>
            refine Calls.mono h fun e w'' he => ?_
            cases e with
            | returned u => exact hK _ _ he
            | panicked c => exact hQ _ _ _ he
            | outgrown => exact hO he
          case row r args => exact Rows.mono h fun u w'' he => hK _ _ he
        | halt x w' => cases x <;> simp only [Oper.upon] at h ⊢ <;> exact hQ _ _ _ h
      · exact .inr ⟨h1, hO h2⟩
    · rename_i hw
      simp only [hw] at h
      exact hK _ _ h
theorem wpAny_imp {ops : Array Oper} {md : Region.Mode} {Q Q' : Exit → Act → World → Prop} (hQ : ∀ e a w, Q e a w → Q' e a w) : ∀ (f : Nat) (listed : Array Bool) (a : Act) (w : World), wpAny P md ops Q f listed a w → wpAny P md ops Q' f listed a w
  | 0, listed, a, w, h => ⟨h.1, hQ _ _ _ h.2⟩
  | f + 1, listed, a, w, h => ⟨fun hr => hQ _ _ _ (h.1 hr), fun j hj => wpOp_imp hQ (fun a' w' h' => wpAny_imp hQ f _ a' w' h') (h.2 j hj)⟩
/-- **The region walked once**, the move first: the first n operations in the order of the text, then the rest as it stands; no operation may panic. -/
theorem wp_region_tied {id : Nat} {Q : Exit → Act → World → Prop} {a : Act} {w : World} {l' : List Oper} (n : Nat) (sec : List Tmp) (F : Tmp → Value → World → Prop) (hl : tieL n l = l') (hT : tiedB l n = true)
    (hst : ∀ t v w w', F t v w → Below w.heap.size w w' → F t v w') (hm : P.follows .mixedOrders = true) (hB : Region.lexTailB .any l'.toArray n = true) (hS : secB .any l'.toArray sec = true)
    (hW : (sec.all fun t => (l'.take n).any fun o => o.dst == some t) = true) (hz : (sec.all fun t => decide (t < a.tmps.size)) = true)
    (h : wpSec P l'.toArray w sec F (fun h' => ∀ (xs : Tmp → Value) (m : Later w), (∀ t ∈ sec, F t (xs t) m.w) → wpList P l'.toArray (Exit.then (fun a w => Q .normal a w) (fun _ _ _ => False)) (l'.drop n) (secFill xs sec h') m.w) (l'.take n) a) :
    (Code.region id l.toArray true).wp P Q a w := by
  subst hl
  have H := wpAny_sec (Q := OnlyN Q) n sec F hst hB hS hW hz h
  have hB' := hB
  simp only [Region.lexTailB, Bool.and_eq_true, decide_eq_true_eq] at hB'
  obtain ⟨⟨⟨⟨hsel, hn⟩, hs⟩, hc⟩, hlex⟩ := hB'
  unfold tiedB at hT
  split at hT
  · rename_i o0 on h0 hn'
    simp only [Bool.and_eq_true, decide_eq_true_eq] at hT
    obtain ⟨⟨⟨⟨⟨⟨⟨t1, t2⟩, t3⟩, t4⟩, t5⟩, t6⟩, t7⟩, t8⟩ := hT
    obtain ⟨d0, hd⟩ := Option.isSome_iff_exists.1 t2
    have hgd : o0.guard = none := by simpa using t3
    cases hop : o0.op with
    | move x =>
      cases x with
      | tmp s0 =>
        rw [hop] at t1
        have hds : on.dst ≠ some s0 := by simpa using t1
        have hse : ∀ cs b, on.op ≠ .select cs b := fun cs b e => by rw [e] at t6; cases t6
        refine wp_region_any hm ?_
        have hlt : (tieL n l).toArray.size = l.toArray.size := by simp [tieL_len]
        rw [hlt] at H
        have := wpAny_untie (Q := Q) h0 hn' hop hd hgd t4 t5 hds hse t7 (fun t h1 h2 => by
          have h3 := List.all_eq_true.1 t8 t (List.mem_range.2 h2)
          simp only [Bool.or_eq_true, decide_eq_true_eq] at h3
          exact h3.resolve_left (by omega)) hs hc _ _ a _ (by simp) (.inr ⟨by simp [tieL_len], fun j oj _ hl => (by rw [getD_replicate_false] at hl; cases hl), fun t _ ht => getD_in (by simpa [tieL_len] using ht) (getD_replicate_false _ _)⟩) H
        exact wpAny_imp onlyN_mono _ _ _ _ this
      | _ => rw [hop] at t1; cases t1
    | _ => rw [hop] at t1; cases t1
  · cases hT
end
end Go.Proofs.YtpgfifacfkllfaaDoor

namespace Go.Proofs.YtpgfifacfkllfaaDoor
open Go.RowKit
set_option linter.unusedVariables false

/-- a row of Bools -/
def BoolR (g n : Nat) (f : Nat → Bool) (w : World) : Prop := ∀ x, x < n → w.cell? ⟨g, x, none⟩ = some (.bool (f x)) ∧ w.frozen? ⟨g, x, none⟩ = false
theorem BoolR.set {g n x : Nat} {f : Nat → Bool} {w : World} {b : Bool} (h : BoolR g n f w) (hx : x < n) : BoolR g n (fun y => if y = x then b else f y) (w.setCell ⟨g, x, none⟩ (.bool b)) := by
  intro y hy
  rw [World.frozen?_setCell]
  refine ⟨?_, (h y hy).2⟩
  dsimp only
  by_cases hyx : y = x
  · subst hyx
    rw [if_pos rfl, World.cell?_setCell_same' _ _ _ (by rw [(h y hy).1]; rfl)]
  · rw [if_neg hyx, World.cell?_setCell_other _ _ _ _ (by intro e; injection e; omega)]
    exact (h y hy).1
theorem BoolR.congr {g n : Nat} {f f' : Nat → Bool} {w : World} (h : BoolR g n f w) (he : ∀ x, x < n → f x = f' x) : BoolR g n f' w := fun x hx => by
  rw [← he x hx]; exact h x hx
theorem BoolR.later {g n : Nat} {f : Nat → Bool} {w w1 : World} (h : BoolR g n f w) (hg : g < w.heap.size) (hb : Below w.heap.size w w1) : BoolR g n f w1 := fun x hx =>
  ⟨(hb.cell (p := ⟨g, x, none⟩) hg).trans (h x hx).1, (hb.frozen (p := ⟨g, x, none⟩) hg).trans (h x hx).2⟩
theorem BoolR.other {g n b j : Nat} {f : Nat → Bool} {w : World} {u : Value} (h : BoolR g n f w) (hne : g ≠ b) : BoolR g n f (w.setCell ⟨b, j, none⟩ u) := fun x hx =>
  ⟨by rw [World.cell?_setCell_other _ _ _ _ (by intro e; injection e with e; exact hne e.symm)]; exact (h x hx).1, by rw [World.frozen?_setCell]; exact (h x hx).2⟩
theorem info_bl : (Tryd.prog.info? 4).map (fun i => (i.zero, i.size, i.bytes)) = some (some (.bool false), 1, 1) := by kernel_rfl
theorem run_mkB (n : Nat) (hn : n ≤ 1000) (w : World) :
    (Instr.makeSlice 69 (.int .i64 n) (.int .i64 n)).run Tryd.prog w = .ok (.slice (some ⟨w.heap.size, 0, none⟩) n n) (w.alloc (.cells (madeCells #[.bool false] n) 4)) := by
  obtain ⟨i0, hi, hz0, hz1, hz2⟩ := info_parts info_bl
  have := run_make (P := Tryd.prog) w 69 4 i0 (.bool false) Tryd.underlying69 hi hz0 .i64 .i64 (n : Int) (n : Int) (by omega) (Int.le_refl _) (by rw [hz2]; omega) (by omega)
  rw [hz1, Nat.mul_one, Int.toNat_natCast] at this
  exact this
theorem BoolR.made (w : World) (n : Nat) : BoolR w.heap.size n (fun _ => false) (w.alloc (.cells (madeCells #[.bool false] n) 4)) := by
  intro x hx
  have h : (w.alloc (.cells (madeCells #[.bool false] n) 4)).heap[w.heap.size]? = some (.cells (madeCells #[.bool false] n) 4 (0, 0)) := heap_alloc_new _ _
  refine ⟨?_, Lib.frozen_of_heap h x⟩
  rw [Lib.cell_of_heap h]
  unfold madeCells
  simp [hx, Nat.mod_one]

/-- the memory of Slot's first loop -/
structure SlM (w : World) (b gn gw : Nat) (ws : List Value) (vl : Value) (s : Bs) (own f : Fr) (bo br go bf i : Nat) (wr : World) : Prop where
  bus : BusM wr b gn gw ws vl s
  below : Below w.heap.size w wr
  fo : BoxF wr bo own.i own.n own.l own.d
  ff : BoxF wr bf f.i f.n f.l f.d
  fb : BoolR go s.N.length (fun x => decide (x < i) && s.off x) wr
  gl : go < wr.heap.size
  bo0 : w.heap.size ≤ bo
  go0 : w.heap.size ≤ go
  bf0 : w.heap.size ≤ bf
  n1 : bo ≠ go
  n2 : bo ≠ bf
  n3 : go ≠ bf
  ev : wr.heap[br]? = some (.cells #[.int .i64 0, .int .i64 0, .int .i64 0, .int .i64 0, .int .i64 0, .string (ByteArray.mk #[])] 64 (0, 0))
  br0 : w.heap.size ≤ br
  n4 : br ≠ go
  n5 : br ≠ bf
theorem SlM.later {w wr w' : World} {b gn gw : Nat} {ws : List Value} {vl : Value} {s : Bs} {own f : Fr} {bo br go bf i : Nat} (h : SlM w b gn gw ws vl s own f bo br go bf i wr) (hb : Below wr.heap.size wr w') : SlM w b gn gw ws vl s own f bo br go bf i w' :=
  ⟨h.bus.later hb, h.below.trans (hb.mono h.below.size), h.fo.later hb, h.ff.later hb, h.fb.later h.gl hb, Nat.lt_of_lt_of_le h.gl hb.size, h.bo0, h.go0, h.bf0, h.n1, h.n2, h.n3, (hb.block br (heap_some_lt h.ev)).trans h.ev, h.br0, h.n4, h.n5⟩
/-- one node more is marked -/
theorem SlM.mark {w wr : World} {b gn gw : Nat} {ws : List Value} {vl : Value} {s : Bs} {own f : Fr} {bo br go bf i : Nat} (hb : ∀ k, busO b gn gw ws vl k → k < w.heap.size) (h : SlM w b gn gw ws vl s own f bo br go bf i wr) (hi : i < s.N.length) : SlM w b gn gw ws vl s own f bo br go bf (i + 1) (wr.setCell ⟨go, i, none⟩ (.bool (s.off i))) := by
  have ho : ∀ k, k ≠ go → (wr.setCell ⟨go, i, none⟩ (.bool (s.off i))).heap[k]? = wr.heap[k]? := fun k hk => Below.heap_setCell _ _ _ _ hk
  have hg := h.go0
  refine ⟨h.bus.stay (fun k hk => ho k (fun e => by have := hb k hk; omega)) (by simp [World.setCell]), h.below.setCell (p := ⟨go, i, none⟩) h.go0 _, (ho bo h.n1).trans h.fo, (ho bf (fun e => h.n3 e.symm)).trans h.ff, (h.fb.set hi).congr (fun x _ => ?_), by simp [World.setCell]; exact h.gl, h.bo0, h.go0, h.bf0, h.n1, h.n2, h.n3, (ho br h.n4).trans h.ev, h.br0, h.n4, h.n5⟩
  by_cases e : x = i
  · subst e; rw [if_pos rfl]; simp
  · rw [if_neg e]; congr 1; rw [Bool.eq_iff_iff]; simp; omega
/-- the first one is another one now -/
theorem SlM.turn {w wr : World} {b gn gw : Nat} {ws : List Value} {vl : Value} {s : Bs} {own f g : Fr} {bo br go bf i : Nat} {w' : World} (hb : ∀ k, busO b gn gw ws vl k → k < w.heap.size) (h : SlM w b gn gw ws vl s own f bo br go bf i wr)
    (hw : w' = (((wr.setCell ⟨bf, 0, none⟩ (.int .i64 g.i)).setCell ⟨bf, 1, none⟩ (.int .i64 g.n)).setCell ⟨bf, 2, none⟩ (.int .i64 g.l)).setCell ⟨bf, 3, none⟩ (.string g.d)) : SlM w b gn gw ws vl s own g bo br go bf i w' := by
  have ho : ∀ k, k ≠ bf → w'.heap[k]? = wr.heap[k]? := fun k hk => by
    rw [hw, Below.heap_setCell _ _ _ _ hk, Below.heap_setCell _ _ _ _ hk, Below.heap_setCell _ _ _ _ hk, Below.heap_setCell _ _ _ _ hk]
  have hz : w'.heap.size = wr.heap.size := by rw [hw]; simp [World.setCell]
  have hB : Below w.heap.size w w' := by
    rw [hw]
    exact (((h.below.setCell (p := ⟨bf, 0, none⟩) h.bf0 _).setCell (p := ⟨bf, 1, none⟩) h.bf0 _).setCell (p := ⟨bf, 2, none⟩) h.bf0 _).setCell (p := ⟨bf, 3, none⟩) h.bf0 _
  have hbf := h.bf0
  have hff := h.ff
  unfold BoxF at hff
  have a0 := heap_setCell_same wr bf 0 _ _ (.int .i64 g.i) hff
  have a1 := heap_setCell_same _ bf 1 _ _ (.int .i64 g.n) a0
  have a2 := heap_setCell_same _ bf 2 _ _ (.int .i64 g.l) a1
  have a3 := heap_setCell_same _ bf 3 _ _ (.string g.d) a2
  refine ⟨h.bus.stay (fun k hk => ho k (fun e => by have := hb k hk; omega)) (by omega), hB, (ho bo h.n2).trans h.fo, ?_, fun x hx => ?_, by rw [hz]; exact h.gl, h.bo0, h.go0, h.bf0, h.n1, h.n2, h.n3, (ho br h.n5).trans h.ev, h.br0, h.n4, h.n5⟩
  · unfold BoxF; rw [hw, a3]; rfl
  · have hx2 := h.fb x hx
    have e := ho go h.n3
    exact ⟨(World.cell?_of_block (w := wr) (a := ⟨go, x, none⟩) e).trans hx2.1, (World.frozen?_of_block (w := wr) (a := ⟨go, x, none⟩) e).trans hx2.2⟩
/-! ### a frame stored whole -/
def putFr (w : World) (b : Nat) (f : Fr) : World := (((w.setCell ⟨b, 0, none⟩ (.int .i64 f.i)).setCell ⟨b, 1, none⟩ (.int .i64 f.n)).setCell ⟨b, 2, none⟩ (.int .i64 f.l)).setCell ⟨b, 3, none⟩ (.string f.d)
theorem fr_put {w : World} {b : Nat} {i n l : Int} {d : ByteArray} (h : BoxF w b i n l d) (f : Fr) : BoxF (putFr w b f) b f.i f.n f.l f.d := by
  unfold BoxF at h
  have a0 := heap_setCell_same w b 0 _ _ (.int .i64 f.i) h
  have a1 := heap_setCell_same _ b 1 _ _ (.int .i64 f.n) a0
  have a2 := heap_setCell_same _ b 2 _ _ (.int .i64 f.l) a1
  have a3 := heap_setCell_same _ b 3 _ _ (.string f.d) a2
  unfold BoxF putFr
  rw [a3]; rfl
theorem putFr_other {w : World} {b k : Nat} {f : Fr} (h : k ≠ b) : (putFr w b f).heap[k]? = w.heap[k]? := by
  unfold putFr
  rw [Below.heap_setCell _ _ _ _ h, Below.heap_setCell _ _ _ _ h, Below.heap_setCell _ _ _ _ h, Below.heap_setCell _ _ _ _ h]
theorem putFr_below {B b : Nat} {w0 w : World} (h : Below B w0 w) (hb : B ≤ b) (f : Fr) : Below B w0 (putFr w b f) :=
  (((h.setCell (p := ⟨b, 0, none⟩) hb _).setCell (p := ⟨b, 1, none⟩) hb _).setCell (p := ⟨b, 2, none⟩) hb _).setCell (p := ⟨b, 3, none⟩) hb _
theorem box_live {w : World} {b : Nat} {i n l : Int} {d : ByteArray} (h : BoxF w b i n l d) : w.frozen? ⟨b, 0, none⟩ = false ∧ w.frozen? ⟨b, 1, none⟩ = false ∧ w.frozen? ⟨b, 2, none⟩ = false ∧ w.frozen? ⟨b, 3, none⟩ = false := by
  unfold BoxF at h
  exact ⟨Lib.frozen_of_heap h 0, Lib.frozen_of_heap h 1, Lib.frozen_of_heap h 2, Lib.frozen_of_heap h 3⟩
/-- a box of the call's own, made behind w1 -/
structure OwnF (w1 : World) (bx : Nat) (f : Fr) (wx : World) : Prop where
  box : BoxF wx bx f.i f.n f.l f.d
  below : Below w1.heap.size w1 wx
  new : w1.heap.size ≤ bx
theorem OwnF.later {w1 wx wy : World} {bx : Nat} {f : Fr} (h : OwnF w1 bx f wx) (hb : Below wx.heap.size wx wy) : OwnF w1 bx f wy := ⟨h.box.later hb, h.below.trans (hb.mono h.below.size), h.new⟩
theorem OwnF.put {w1 wx : World} {bx : Nat} {f : Fr} (h : OwnF w1 bx f wx) (g : Fr) : OwnF w1 bx g (putFr wx bx g) := ⟨fr_put h.box g, putFr_below h.below h.new g, h.new⟩
theorem key8_a {w1 w2 : World} {own : Fr} (hb : Below w1.drew.heap.size w1.drew w2) : OwnF w1 w2.heap.size own (w2.alloc (.cells #[.int .i64 own.i, .int .i64 own.n, .int .i64 own.l, .string own.d] 30)) := by
  have h1 : Below w1.heap.size w1 w2 := (Below.refl _ w1).drew.trans hb
  exact ⟨BoxF.made w2 _ _ _ _, h1.alloc h1.size _, h1.size⟩
theorem key8_b {w1 w2 : World} {own : Fr} (hb : Below (w1.alloc (.cells #[.int .i64 0, .int .i64 0, .int .i64 0, .string (ByteArray.mk #[])] 30)).drew.heap.size (w1.alloc (.cells #[.int .i64 0, .int .i64 0, .int .i64 0, .string (ByteArray.mk #[])] 30)).drew w2) :
    OwnF w1 w1.heap.size own (putFr w2 w1.heap.size own) := by
  have h0 : OwnF w1 w1.heap.size ⟨0, 0, 0, ByteArray.mk #[]⟩ (w1.alloc (.cells #[.int .i64 0, .int .i64 0, .int .i64 0, .string (ByteArray.mk #[])] 30)).drew := ⟨BoxF.made w1 _ _ _ _, ((Below.refl _ w1).alloc (Nat.le_refl _) _).drew, Nat.le_refl _⟩
  exact (h0.later hb).put own
theorem key8_c {w1 w2 : World} {own : Fr} (hb : Below (w1.alloc (.cells #[.int .i64 own.i, .int .i64 own.n, .int .i64 own.l, .string own.d] 30)).drew.heap.size (w1.alloc (.cells #[.int .i64 own.i, .int .i64 own.n, .int .i64 own.l, .string own.d] 30)).drew w2) :
    OwnF w1 w1.heap.size own w2 := by
  have h0 : OwnF w1 w1.heap.size own (w1.alloc (.cells #[.int .i64 own.i, .int .i64 own.n, .int .i64 own.l, .string own.d] 30)).drew := ⟨BoxF.made w1 _ _ _ _, ((Below.refl _ w1).alloc (Nat.le_refl _) _).drew, Nat.le_refl _⟩
  exact h0.later hb
/-- the first of a row -/
theorem RowQ.hd {w : World} {A : Option Addr} {n cap : Nat} {f : Fr} {M : List Fr} (h : RowQ frC 4 w (.slice A n cap) (f :: M)) : ∃ g o, A = some ⟨g, o, none⟩ ∧ n = M.length + 1 ∧ g < w.heap.size ∧ w.cell? ⟨g, o, none⟩ = some (.int .i64 f.i) ∧ w.cell? ⟨g, o + 1, none⟩ = some (.int .i64 f.n) ∧ w.cell? ⟨g, o + 2, none⟩ = some (.int .i64 f.l) ∧ w.cell? ⟨g, o + 3, none⟩ = some (.string f.d) := by
  rcases h with ⟨_, h⟩ | ⟨g, o, cap', hv, h1, h2, h3, h4, h5⟩
  · cases h
  · injection hv with hA hn hc
    exact ⟨g, o, hA, hn, h3, h4 0 _ rfl, h4 1 _ rfl, h4 2 _ rfl, h4 3 _ rfl⟩
end Go.Proofs.YtpgfifacfkllfaaDoor
