/- Of no program: the steps of the walk of XSec, one kind of operation each. Of no program: lists in memory: a slice that reads as a list of things of k cells e .. -/
import Derived.Test.YtimdkcchjanpaaaGreatDoorZac
import Derived.Laws.BytesArg
import Derived.Test.YtimdkcchjanpaaaGreatDoorZaa
import Derived.Deep.AppendLies
import Derived.Maps.AppendAt
import Derived.OwnWalk
import Derived.Below
import Derived.Lib.OthersKept
import Derived.Deep.Draws
import Derived.Lib.Hide
import Derived.Laws.AppendOwnNone
namespace Go.Proofs.YtimdkcchjanpaaaGreatDoor
open Go.RowKit
set_option linter.unusedVariables false
section
variable {P:Program} {ops:Array Oper} {W:World} {sec:List Tmp} {F:Tmp → Value → World → Prop} {Q:Act → Prop} {rest:List Oper} {o:Oper} {h:Act}
def plainOp (o:Oper):Bool :=
  match o.op with
  | .move _ => true | .assign _ => true | .pick .. => true | .build .. => true | .load .. => true | .fieldAddr .. => true | .field .. => true | .indexAddr .. => true | .index .. => true
  | .convert .. => true | .binOp .. => true | .unOp .. => true | .extract .. => true | .slice .. => true
  | .call c => (match c.callee with | .builtin .len => true | .builtin .cap => true | .builtin .min => true | .builtin .max => true | _ => false)
  | _ => false
def noSel (o:Oper):Bool:=match o.op with | .select .. => false | _ => true
theorem noSel_spec (hs:noSel o = true):∀ cs b,o.op ≠ .select cs b:=by
  intro cs b e
  unfold noSel at hs
  rw [e] at hs
  cases hs
theorem plain_sel (hs:plainOp o = true):∀ cs b,o.op ≠ .select cs b:=by
  intro cs b e
  unfold plainOp at hs
  rw [e] at hs
  cases hs
theorem value_noEnter (s:Sem Value) (w:World) (f:FuncId) (args:Array Value) (w':World):(do pure (.value (← s)):Sem Next).run P w ≠ .ok (.enter f args) w':=by
  rw [Sem.run_bind]
  cases s.run P w <;> simp [Sem.run_pure,Result.andThen]
theorem plain_noEnter (hp:plainOp o = true) (ρ:Operand → Value) (w:World) (f:FuncId) (args:Array Value) (w':World):(execOp ρ o).run P w ≠ .ok (.enter f args) w':=by
  obtain ⟨dst,op,type,pos,after,guard⟩:=o
  unfold plainOp at hp
  cases op
  case call c =>
    obtain ⟨callee,xs,ats⟩:=c
    cases callee with
    | builtin b =>
      cases b
      all_goals first
        | (exfalso; revert hp; simp; done)
        | (simp only [execOp,resolve,invoke,builtin,Sem.run_bind,Sem.run_pure,Result.andThen,ne_eq]
           split <;> simp)
    | invoke r n => (exfalso; revert hp; simp)
    | value f => (exfalso; revert hp; simp)
  case pick c a b =>
    simp only [execOp,Sem.run_bind,Sem.run_pure,Result.andThen,ne_eq]
    split <;> simp
  all_goals first
    | (exfalso; revert hp; simp; done)
    | (simp only [execOp]; exact value_noEnter _ _ _ _ _)
    | (simp [execOp,Sem.run_pure]; done)
def secOpenL (ops:Array Oper) (sec:List Tmp) (o:Oper):Bool:=(o.looksAt ops).all fun t => !sec.contains t
def secOpenD (sec:List Tmp) (o:Oper):Bool:=match o.dst with | some d => !sec.contains d | none => true
theorem eval_open {a:Act} {w:World} (hl:secOpenL ops sec o = true) (hs:∀ cs b,o.op ≠ .select cs b) (hk:secLooks ops sec F o h a w):execOp a.eval o = execOp h.eval o:=by
  refine execOp_congr o hs fun x hx => ?_
  cases x with
  | tmp t =>
    have hm:t ∈ o.looksAt ops:=List.mem_append_left _ (List.mem_filterMap.2 ⟨.tmp t,by simpa using hx,rfl⟩)
    have h1:=hk t hm
    have h2:=List.all_eq_true.1 hl t hm
    have h3:t ∉ sec:=by simpa using h2
    rw [if_neg h3] at h1
    exact h1
  | const v => rfl
  | global g => rfl
  | func f => rfl
theorem good_open {u v:Value} {w:World} (hd:secOpenD sec o = true) (e:u = v):secGood sec F o.dst v u w:=by
  unfold secGood
  unfold secOpenD at hd
  split
  · rename_i d hdd
    rw [hdd] at hd
    rw [if_neg (by simpa using hd)]
    exact e
  · trivial
theorem sec_plain (hw:Region.wanted o (yielded ops h.tmps) = true) (hp:plainOp o = true) (hl:secOpenL ops sec o = true) (hd:secOpenD sec o = true)
    (hk:∀ K:Act → Prop,(∀ a,wpSec P ops W sec F Q rest a → K a) → o.quiet P h (fun w' => ∃ n:Later W,w' = n.w) K):wpSec P ops W sec F Q (o :: rest) h:=by
  obtain ⟨v,h1,h2⟩:=hk _ fun _ hh => hh
  unfold wpSec
  rw [if_pos hw]
  refine ⟨v,fun a w hb hlk => ?_,h2⟩
  rw [eval_open hl (plain_sel hp) hlk]
  have h3:=h1 w ⟨⟨w,hb⟩,rfl⟩
  have h4:=plain_noEnter (P:=P) hp h.eval w
  unfold Oper.quietAt at h3
  generalize (execOp h.eval o).run P w = r at h3 h4
  cases r with
  | ok x w' =>
    cases x <;> simp only [Oper.quietUpon] at h3 <;> simp only [secUpon]
    case value u => obtain ⟨rfl,e⟩:=h3; exact ⟨Below.refl _ _,good_open hd e⟩
    case skip => obtain ⟨rfl,e⟩:=h3; exact ⟨Below.refl _ _,good_open hd e.symm⟩
    case enter f args => exact absurd rfl (h4 f args w')
  | halt x w' => simp only [Oper.quietUpon] at h3
theorem sec_nil {x:Operand} {p:Addr} (hw:Region.wanted o (yielded ops h.tmps) = true) (ho:o.op = .nilCheck x) (hx:h.eval x = .pointer (some p)) (hl:secOpenL ops sec o = true) (hd:secOpenD sec o = true)
    (hk:∀ K:Act → Prop,(∀ a,wpSec P ops W sec F Q rest a → K a) → o.quiet P h (fun w' => ∃ n:Later W,w' = n.w) K):wpSec P ops W sec F Q (o :: rest) h:=by
  obtain ⟨v,h1,h2⟩:=hk _ fun _ hh => hh
  unfold wpSec
  rw [if_pos hw]
  refine ⟨v,fun a w hb hlk => ?_,h2⟩
  rw [eval_open hl (fun cs b => by rw [ho]; simp) hlk]
  have h3:=h1 w ⟨⟨w,hb⟩,rfl⟩
  have h4:∀ f args w',(execOp h.eval o).run P w ≠ .ok (.enter f args) w':=fun f args w' => by simp [execOp,ho,hx,Sem.run_pure]
  unfold Oper.quietAt at h3
  generalize (execOp h.eval o).run P w = r at h3 h4
  cases r with
  | ok x w' =>
    cases x <;> simp only [Oper.quietUpon] at h3 <;> simp only [secUpon]
    case value u => obtain ⟨rfl,e⟩:=h3; exact ⟨Below.refl _ _,good_open hd e⟩
    case skip => obtain ⟨rfl,e⟩:=h3; exact ⟨Below.refl _ _,good_open hd e.symm⟩
    case enter f args => exact absurd rfl (h4 f args w')
  | halt x w' => simp only [Oper.quietUpon] at h3
theorem sec_call {v:Value} (hw:Region.wanted o (yielded ops h.tmps) = true) (hn:noSel o = true) (hl:secOpenL ops sec o = true) (hd:secOpenD sec o = true)
    (hz:(match o.dst with | some d => decide (d < h.tmps.size) | none => false) = true)
    (hq:∀ (m:Later W) (K:Act → Prop),K (h.put o.dst v) → o.quiet P h (fun w' => ∃ n:Later m.w,w' = n.w) K) (hk:wpSec P ops W sec F Q rest (h.put o.dst v)):wpSec P ops W sec F Q (o :: rest) h:=by
  unfold wpSec
  rw [if_pos hw]
  refine ⟨v,fun a w hb hlk => ?_,hk⟩
  rw [eval_open hl (noSel_spec hn) hlk]
  obtain ⟨v',h1,h2⟩:=hq ⟨w,hb⟩ (fun a => a = h.put o.dst v) rfl
  have ev:v' = v:=by
    cases ed:o.dst with
    | none => rw [ed] at hz; cases hz
    | some d =>
      rw [ed] at hz h2
      have h3:d < h.tmps.size:=by simpa using hz
      have h4:=congrArg (fun a:Act => a.tmps.getD d undef) h2
      simp only [getD_put,h3,and_self,if_true] at h4
      exact h4
  subst ev
  have h3:=h1 w ⟨⟨w,Below.refl _ _⟩,rfl⟩
  unfold Oper.quietAt at h3
  generalize (execOp h.eval o).run P w = r at h3
  cases r with
  | ok x w' =>
    cases x <;> simp only [Oper.quietUpon] at h3 <;> simp only [secUpon]
    case value u => obtain ⟨rfl,e⟩:=h3; exact ⟨Below.refl _ _,good_open hd e⟩
    case skip => obtain ⟨rfl,e⟩:=h3; exact ⟨Below.refl _ _,good_open hd e.symm⟩
    case enter f args =>
      obtain ⟨rfl,hc⟩:=h3
      exact ⟨rfl,hc.mono fun e w'' ⟨he,n,hnw⟩ => ⟨_,he,by rw [hnw]; exact n.h,good_open hd rfl⟩⟩
  | halt x w' => simp only [Oper.quietUpon] at h3
end
end Go.Proofs.YtimdkcchjanpaaaGreatDoor
namespace Go.Proofs.YtimdkcchjanpaaaGreatDoor
open Go.RowKit
set_option linter.unusedVariables false
theorem addr_block (a:Addr) (n:Nat):(a.add n).block = a.block:=by unfold Addr.add; split <;> rfl
theorem addr_add (a:Addr) (i j:Nat):(a.add i).add j = a.add (i + j):=by
  unfold Addr.add
  by_cases hi:i = 0
  · subst hi; simp
  · by_cases hj:j = 0
    · subst hj; simp [hi]
    · simp [hi,hj,Nat.add_assoc]
section
variable {α:Type} {c:α → List Value} {k:Nat} {w w':World} {B B':Nat} {v:Value} {L:List α}
def SlG (c:α → List Value) (k:Nat) (w:World) (B:Nat) (v:Value) (L:List α):Prop :=
  ∃ A cap,v = .slice A L.length cap ∧ L.length ≤ maxLen ∧ ∀ i a,L[i]? = some a → ∃ x,A = some x ∧ x.block < B ∧ ∀ j u,(c a)[j]? = some u → w.cell? (x.add (i * k + j)) = some u
theorem SlG.keep (h:SlG c k w B v L) (hk:∀ p:Addr,p.block < B → w'.cell? p = w.cell? p) (hB:B ≤ B'):SlG c k w' B' v L:=by
  obtain ⟨A,cap,hv,hm,hc⟩:=h
  refine ⟨A,cap,hv,hm,fun i a ha => ?_⟩
  obtain ⟨x,hx,hxb,hcell⟩:=hc i a ha
  exact ⟨x,hx,by omega,fun j u hu => (hk _ (by rw [addr_block]; exact hxb)).trans (hcell j u hu)⟩
theorem SlG.later (h:SlG c k w w.heap.size v L) (hb:Below w.heap.size w w'):SlG c k w' w'.heap.size v L:=h.keep (fun p hp => hb.cell hp) hb.size
theorem SlG.nil (c:α → List Value) (k:Nat) (w:World) (B:Nat):SlG c k w B (.slice none 0 0) []:=⟨none,0,rfl,Nat.zero_le _,fun i a h => by simp at h⟩
theorem SlG.at_ (h:SlG c k w B v L) {i:Nat} (hi:i < L.length):∃ x cap,v = .slice (some x) L.length cap ∧ x.block < B ∧ ∀ j u,(c (L[i]'hi))[j]? = some u → w.cell? ((x.add (i * k)).add j) = some u:=by
  obtain ⟨A,cap,hv,hm,hc⟩:=h
  obtain ⟨x,hx,hxb,hcell⟩:=hc i _ (List.getElem?_eq_getElem hi)
  subst hx
  exact ⟨x,cap,hv,hxb,fun j u hu => by rw [addr_add]; exact hcell j u hu⟩
theorem slice_of_row {s:List Sh} {a:Option Addr} {len cap:Nat} {R:Nat → List Value} (h:IsRowOf w s a len cap R) (f:List Value → α) (hc:∀ l,FitsAll s l → c (f l) = l) (hs:s.length = k) (h0:0 < k) :
    ∃ L:List α,SlG c k w w.heap.size (.slice a len cap) L ∧ L.length = len ∧ ∀ x ∈ L,FitsAll s (c x):=by
  rcases h with ⟨rfl,rfl,rfl⟩ | ⟨x,rfl,hl,hm,hcell⟩
  · exact ⟨[],SlG.nil _ _ _ _,rfl,fun x hx => by cases hx⟩
  · refine ⟨(List.range len).map fun i => f (R i),⟨some x,cap,by simp,by simp; omega,fun i b hb => ?_⟩,by simp,fun y hy => ?_⟩
    · have hi:i < len:=by
        rcases Nat.lt_or_ge i len with h | h
        · exact h
        · rw [List.getElem?_eq_none (by simpa using h)] at hb; cases hb
      have hb':b = f (R i):=by
        rw [List.getElem?_eq_getElem (by simpa using hi)] at hb
        simpa using hb.symm
      subst hb'
      obtain ⟨hf,hcs⟩:=hcell i (by omega)
      have hlen:=hf.length
      have h00:=hcs 0 (by omega)
      rw [List.getElem?_eq_getElem (by omega)] at h00
      refine ⟨x,rfl, ?_,fun j u hu => ?_⟩
      · have:=World.block_lt_of_cell? w _ h00
        rwa [addr_block] at this
      · rw [hc _ hf] at hu
        have hj:j < s.length:=by
          rcases Nat.lt_or_ge j s.length with h | h
          · exact h
          · rw [List.getElem?_eq_none (by rw [hlen]; exact h)] at hu; cases hu
        rw [← hs,hcs j hj]
        exact hu
    · obtain ⟨i,hi,rfl⟩:=List.mem_map.1 hy
      have hi':=List.mem_range.1 hi
      have hf:=(hcell i (by omega)).1
      rw [hc _ hf]
      exact hf
def rowG (c:α → List Value) (L:List α):List Value:=L.flatMap c
theorem rowG_app (a b:List α):rowG c (a ++ b) = rowG c a ++ rowG c b:=by simp [rowG]
theorem rowG_length (hk:∀ a,(c a).length = k):∀ L:List α,(rowG c L).length = L.length * k
  | [] => by simp [rowG]
  | a :: L => by
    have:=rowG_length hk L
    simp only [rowG,List.flatMap_cons,List.length_append,hk,List.length_cons] at this ⊢
    rw [this,Nat.add_mul]; omega
theorem rowG_get (hk:∀ a,(c a).length = k):∀ (L:List α) (i:Nat) (a:α),L[i]? = some a → ∀ j u,(c a)[j]? = some u → (rowG c L)[i * k + j]? = some u
  | [],i,a,h,_,_,_ => by simp at h
  | b :: L,0,a,h,j,u,hu => by
    simp only [List.getElem?_cons_zero,Option.some.injEq] at h
    subst h
    have hj:j < (c b).length:=by
      rcases Nat.lt_or_ge j (c b).length with h | h
      · exact h
      · rw [List.getElem?_eq_none h] at hu; cases hu
    simp only [rowG,List.flatMap_cons,Nat.zero_mul,Nat.zero_add]
    rw [List.getElem?_append_left hj]; exact hu
  | b :: L,i + 1,a,h,j,u,hu => by
    simp only [List.getElem?_cons_succ] at h
    have:=rowG_get hk L i a h j u hu
    simp only [rowG,List.flatMap_cons] at this ⊢
    rw [List.getElem?_append_right (by rw [hk,Nat.add_mul]; omega),hk,show (i + 1) * k + j - k = i * k + j by rw [Nat.add_mul]; omega]
    exact this
variable {E:TypeId} {w0 wr w1:World}
end
end Go.Proofs.YtimdkcchjanpaaaGreatDoor
namespace Go.Proofs.YtimdkcchjanpaaaGreatDoor
open Go.RowKit
set_option linter.unusedVariables false
structure Kept (O:Nat → Prop) (w w':World):Prop where
  os:w'.os = w.os
  tape:w'.tape = w.tape
  output:w'.output = w.output
  size:w.heap.size ≤ w'.heap.size
  block:∀ k,k < w.heap.size → ¬ O k → w'.heap[k]? = w.heap[k]?
theorem Kept.of_below {O:Nat → Prop} {w w':World} (h:Below w.heap.size w w'):Kept O w w':=⟨h.os,h.tape,h.output,h.size,fun k hk _ => h.block k hk⟩
theorem Kept.refl (O:Nat → Prop) (w:World):Kept O w w := .of_below (Below.refl _ _)
def Grows (O:Nat → Prop) (w:World) (O':Nat → Prop):Prop := ∀ k,O' k → O k ∨ w.heap.size ≤ k
theorem Grows.refl (O:Nat → Prop) (w:World):Grows O w O:=fun k h => .inl h
theorem Kept.trans {O O':Nat → Prop} {w w1 w2:World} (h:Kept O w w1) (h':Kept O' w1 w2) (hg:Grows O w O'):Kept O w w2 :=
  ⟨h'.os.trans h.os,h'.tape.trans h.tape,h'.output.trans h.output,Nat.le_trans h.size h'.size,fun k hk hn =>
    (h'.block k (Nat.lt_of_lt_of_le hk h.size) (fun ho => by rcases hg k ho with h1 | h1; exact hn h1; omega)).trans (h.block k hk hn)⟩
theorem Grows.trans {O O' O2:Nat → Prop} {w w1:World} (h:Grows O w O') (h':Grows O' w1 O2) (hs:w.heap.size ≤ w1.heap.size):Grows O w O2:=fun k hk => by
  rcases h' k hk with h1 | h1
  · exact h k h1
  · exact .inr (Nat.le_trans hs h1)
theorem Kept.below {O:Nat → Prop} {B:Nat} {a w w':World} (h:Kept O w w') (hb:Below B a w) (hB:B ≤ w.heap.size) (ho:∀ k,O k → B ≤ k):Below B a w' :=
  hb.trans ⟨h.os,h.tape,h.output,h.size,fun k hk => h.block k (by omega) (fun h1 => by have:=ho k h1; omega)⟩
theorem Kept.cell {O:Nat → Prop} {w w':World} (h:Kept O w w') {p:Addr} (hp:p.block < w.heap.size) (hn:¬ O p.block):w'.cell? p = w.cell? p:=World.cell?_of_block (w:=w) (h.block p.block hp hn)
theorem Kept.frozen {O:Nat → Prop} {w w':World} (h:Kept O w w') {p:Addr} (hp:p.block < w.heap.size) (hn:¬ O p.block):w'.frozen? p = w.frozen? p:=World.frozen?_of_block (w:=w) (h.block p.block hp hn)
structure IsObj {σ:Type} (I:World → Value → σ → (Nat → Prop) → Prop):Prop where
  stay:∀ {w w':World} {v:Value} {s:σ} {O:Nat → Prop},I w v s O → (∀ k,O k → w'.heap[k]? = w.heap[k]?) → I w' v s O
  lt:∀ {w:World} {v:Value} {s:σ} {O:Nat → Prop},I w v s O → ∀ k,O k → k < w.heap.size
def Stp {σ:Type} (I:World → Value → σ → (Nat → Prop) → Prop) (v:Value) (O:Nat → Prop) (w:World) (s':σ) (w':World):Prop := ∃ O',I w' v s' O' ∧ Kept O w w' ∧ Grows O w O'
structure Has {σ:Type} (I:World → Value → σ → (Nat → Prop) → Prop) (w0:World) (v:Value) (s:σ) (O:Nat → Prop) (w:World):Prop where
  inv:I w v s O
  below:Below w0.heap.size w0 w
  new:∀ k,O k → w0.heap.size ≤ k
section
variable {σ:Type} {I:World → Value → σ → (Nat → Prop) → Prop} {w0 w w':World} {v:Value} {s s':σ} {O O':Nat → Prop}
theorem Has.step (hI:IsObj I) (h:Has I w0 v s O w) (hi:I w' v s' O') (hk:Kept O w w') (hg:Grows O w O'):Has I w0 v s' O' w' :=
  ⟨hi,hk.below h.below h.below.size h.new,fun k ho => by rcases hg k ho with h1 | h1; exact h.new k h1; exact Nat.le_trans h.below.size h1⟩
theorem Has.later (hI:IsObj I) (h:Has I w0 v s O w) (hb:Below w.heap.size w w'):Has I w0 v s O w' :=
  ⟨hI.stay h.inv (fun k hk => hb.block k (hI.lt h.inv k hk)),fbelow_t' h.below hb,h.new⟩
  where fbelow_t' {a b c:World} (h:Below a.heap.size a b) (h':Below b.heap.size b c):Below a.heap.size a c:=h.trans (h'.mono h.size)
theorem Has.setCell (hI:IsObj I) (h:Has I w0 v s O w) {p:Addr} (hp:w0.heap.size ≤ p.block) (hn:¬ O p.block) (u:Value):Has I w0 v s O (w.setCell p u) :=
  ⟨hI.stay h.inv (fun k hk => Below.heap_setCell _ _ _ _ (fun e => hn (e ▸ hk))),h.below.setCell hp u,h.new⟩
theorem out_step {k:Nat} (h:k < w.heap.size) (hn:¬ O k) (hg:Grows O w O'):¬ O' k:=fun ho => by
  rcases hg k ho with h1 | h1
  · exact hn h1
  · omega
end
section
variable {α:Type} {c:α → List Value} {n:Nat} {w w':World} {v:Value} {L:List α} {O O':Nat → Prop}
def SlA (c:α → List Value) (n:Nat) (w:World) (O:Nat → Prop) (v:Value) (L:List α):Prop :=
  ∃ A cap,v = .slice A L.length cap ∧ L.length ≤ maxLen ∧ ∀ i a,L[i]? = some a → ∃ x,A = some x ∧ x.block < w.heap.size ∧ ¬ O x.block ∧ ∀ j u,(c a)[j]? = some u → w.cell? (x.add (i * n + j)) = some u
theorem SlA.sl (h:SlA c n w O v L):SlG c n w w.heap.size v L:=by
  obtain ⟨A,cap,hv,hm,hc⟩:=h
  refine ⟨A,cap,hv,hm,fun i a ha => ?_⟩
  obtain ⟨x,h1,h2,_,h4⟩:=hc i a ha
  exact ⟨x,h1,h2,h4⟩
theorem SlA.of_sl (h:SlG c n w w.heap.size v L) (hn:∀ x k c',v = .slice (some x) k c' → L ≠ [] → ¬ O x.block):SlA c n w O v L:=by
  obtain ⟨A,cap,hv,hm,hc⟩:=h
  refine ⟨A,cap,hv,hm,fun i a ha => ?_⟩
  obtain ⟨x,h1,h2,h4⟩:=hc i a ha
  subst h1
  exact ⟨x,rfl,h2,hn x _ _ hv (fun e => by subst e; simp at ha),h4⟩
theorem SlA.nil (c:α → List Value) (n:Nat) (w:World) (O:Nat → Prop):SlA c n w O (.slice none 0 0) []:=⟨none,0,rfl,Nat.zero_le _,fun i a h => by simp at h⟩
end
end Go.Proofs.YtimdkcchjanpaaaGreatDoor
namespace Go.Proofs.YtimdkcchjanpaaaGreatDoor
open Go.RowKit
set_option linter.unusedVariables false
theorem getX {X Z:List Value} {o:Nat} (h:X.length = o) (j:Nat):(X ++ Z).toArray[o + j]? = Z[j]?:=by
  subst h
  simp [List.getElem?_append_right]
theorem setX {X Z:List Value} {o:Nat} (h:X.length = o) (j:Nat) (u:Value):(X ++ Z).toArray.setIfInBounds (o + j) u = (X ++ Z.set j u).toArray:=by
  subst h
  rw [List.setIfInBounds_toArray,List.set_append_right _ _ (by omega)]
  simp
end Go.Proofs.YtimdkcchjanpaaaGreatDoor
namespace Go.Proofs.YtimdkcchjanpaaaGreatDoor
open Go.RowKit
set_option linter.unusedVariables false
def intC (n:Int):List Value := [.int .i64 n]
abbrev SlI (w:World) (v:Value) (L:List Int):Prop:=SlG intC 1 w w.heap.size v L
theorem SlG.at1 {α:Type} {c:α → List Value} {w:World} {B:Nat} {v:Value} {L:List α} (h:SlG c 1 w B v L) {k:Nat} (hk:k < L.length) {u:Value} (hu:c (L[k]'hk) = [u]) :
    ∃ x cap,v = .slice (some x) L.length cap ∧ x.block < B ∧ w.cell? (x.add k) = some u:=by
  obtain ⟨x,cap,hv,hb,hc⟩:=h.at_ hk
  have:=hc 0 u (by rw [hu]; rfl)
  rw [addr_add,Nat.mul_one,Nat.add_zero] at this
  exact ⟨x,cap,hv,hb,this⟩
theorem take_snoc {α:Type} {L:List α} {k:Nat} (h:k < L.length):L.take (k + 1) = L.take k ++ [L[k]]:=List.take_succ_eq_append_getElem h
end Go.Proofs.YtimdkcchjanpaaaGreatDoor
namespace Go.Proofs.YtimdkcchjanpaaaGreatDoor
open Go.RowKit
set_option linter.unusedVariables false
def OwnO (v:Value):Nat → Prop:=fun k => v.ownBlock = some k
def Apart (O O':Nat → Prop):Prop := ∀ k,O k → O' k → False
theorem Apart.symm {O O':Nat → Prop} (h:Apart O O'):Apart O' O:=fun k a b => h k b a
theorem Apart.step {O O' P:Nat → Prop} {w:World} (h:Apart O P) (hP:∀ k,P k → k < w.heap.size) (hg:Grows O w O'):Apart O' P:=fun k a b => by
  rcases hg k a with h1 | h1
  · exact h k h1 b
  · have:=hP k b; omega
def FlatE (P:Program) (T E:TypeId) (k bytes:Nat):Prop:=P.underlying T = some (.slice E) ∧ ∃ i z,P.info? E = some i ∧ i.zero = some z ∧ i.size = k ∧ i.bytes = bytes ∧ z.cells.size = k ∧ 0 < k ∧ bytes ≤ 100
section
variable {α:Type} {c:α → List Value} {k bytes:Nat} {T E:TypeId} {P:Program}
def RdA (c:α → List Value) (k:Nat) (w:World) (v:Value) (L:List α):Prop:=SlG c k w w.heap.size v L ∧ (v = .slice none 0 0 ∨ ∃ x cap,v = .slice (some x) L.length cap ∧ L.length ≤ cap)
theorem rowG_cells' (hk:∀ a,(c a).length = k) {L:List α} {j:Nat} {u:Value} (h:(rowG c L)[j]? = some u):∃ i r a,L[i]? = some a ∧ (c a)[r]? = some u ∧ j = i * k + r:=by
  induction L generalizing j with
  | nil => simp [rowG] at h
  | cons a L ih =>
    by_cases hj:j < k
    · refine ⟨0,j,a,rfl, ?_,by simp⟩
      unfold rowG at h
      rw [List.flatMap_cons,List.getElem?_append_left (by rw [hk]; exact hj)] at h
      exact h
    · unfold rowG at h
      rw [List.flatMap_cons,List.getElem?_append_right (by rw [hk]; omega),hk] at h
      obtain ⟨i,r,b,h1,h2,h3⟩:=ih h
      refine ⟨i + 1,r,b,by simpa using h1,h2, ?_⟩
      rw [Nat.add_mul]; omega
theorem RdA.one (hk:∀ a,(c a).length = k) (w:World) (b:α) (t:TypeId) {g:Nat} {w':World} (hg:w.heap.size = g) (hw:w' = w.alloc (.cells (c b).toArray t)):RdA c k w' (.slice (some ⟨g,0,none⟩) 1 1) [b]:=by
  subst hg hw
  refine ⟨⟨_,_,rfl,by unfold maxLen; simp,fun i a ha => ?_⟩, .inr ⟨_,_,rfl,Nat.le_refl _⟩⟩
  have hi:i = 0:=by
    rcases Nat.lt_or_ge i 1 with h | h
    · omega
    · rw [List.getElem?_eq_none (by simpa using h)] at ha; cases ha
  subst hi
  simp at ha
  subst ha
  refine ⟨_,rfl,by simp,fun j u hu => ?_⟩
  rw [Nat.zero_mul,Nat.zero_add]
  exact World.news_of_block (B:=w.heap.size) (cs:=(c b).toArray) (t:=t) (fr:=(0,0)) (by unfold World.alloc; simp) j u (by simpa using hu)
end
end Go.Proofs.YtimdkcchjanpaaaGreatDoor
namespace Go.Proofs.YtimdkcchjanpaaaGreatDoor
open Go.RowKit
set_option linter.unusedVariables false
abbrev PartP (σ:Type):Type:=List Value → World → σ → (Nat → Prop) → Prop
structure IsPart {σ:Type} (n:Nat) (P:PartP σ):Prop where
  len:∀ {C w s R},P C w s R → C.length = n
  stay:∀ {C w w' s R},P C w s R → (∀ k,R k → w'.heap[k]? = w.heap[k]?) → P C w' s R
  lt:∀ {C w s R},P C w s R → ∀ k,R k → k < w.heap.size
def Held {σ:Type} (P:PartP σ) (TB:TypeId) (od:Nat) (X Y:List Value):World → Value → σ → (Nat → Prop) → Prop:=fun w v s O =>
  ∃ b C R,v = .pointer (some ⟨b,od,none⟩) ∧ O = (fun k => k = b ∨ R k) ∧ w.heap[b]? = some (.cells (X ++ (C ++ Y)).toArray TB (0,0)) ∧ X.length = od ∧ P C w s R ∧ ¬ R b
section
variable {σ:Type} {P:PartP σ} {TB:TypeId} {od n:Nat} {X Y:List Value} {w w':World} {s s':σ} {b:Nat}
theorem Held.at_ {O:Nat → Prop} (h:Held P TB od X Y w (.pointer (some ⟨b,od,none⟩)) s O):∃ C R,O = (fun k => k = b ∨ R k) ∧ w.heap[b]? = some (.cells (X ++ (C ++ Y)).toArray TB (0,0)) ∧ P C w s R ∧ ¬ R b:=by
  obtain ⟨b',C,R,hv,hO,hb,_,hP,hn⟩:=h
  injection hv with hv; injection hv with hv; injection hv with hv
  subst hv
  exact ⟨C,R,hO,hb,hP,hn⟩
theorem part_step {R:Nat → Prop} (hs:Stp (Held P TB od X Y) (.pointer (some ⟨b,od,none⟩)) (fun k => k = b ∨ R k) w s' w') :
    ∃ C' R',w'.heap[b]? = some (.cells (X ++ (C' ++ Y)).toArray TB (0,0)) ∧ P C' w' s' R' ∧ ¬ R' b ∧ Kept (fun k => k = b ∨ R k) w w' ∧ (∀ k,R' k → R k ∨ w.heap.size ≤ k):=by
  obtain ⟨O',h,hk,hg⟩:=hs
  obtain ⟨C,R',rfl,hb,hP,hn⟩:=h.at_
  refine ⟨C,R',hb,hP,hn,hk,fun k h1 => ?_⟩
  rcases hg k (.inr h1) with (h2 | h2) | h2
  · subst h2; exact (hn h1).elim
  · exact .inl h2
  · exact .inr h2
end
def setR (R:Nat → Nat → Prop) (i:Nat) (Q:Nat → Prop):Nat → Nat → Prop:=fun j => if j = i then Q else R j
theorem setR_same (R:Nat → Nat → Prop) (i:Nat) (Q:Nat → Prop):setR R i Q i = Q:=if_pos rfl
theorem setR_other (R:Nat → Nat → Prop) {i j:Nat} (h:j ≠ i) (Q:Nat → Prop):setR R i Q j = R j:=if_neg h
def ownR (b:Nat) (R:Nat → Nat → Prop):Nat → Prop:=fun k => k = b ∨ ∃ i,R i k
structure Parts (w:World) (b:Nat) (R:Nat → Nat → Prop):Prop where
  blk:b < w.heap.size
  lt:∀ i k,R i k → k < w.heap.size
  nb:∀ i, ¬ R i b
  ap:∀ i j,i ≠ j → Apart (R i) (R j)
section
variable {w w':World} {b i:Nat} {R:Nat → Nat → Prop} {Q:Nat → Prop}
theorem Parts.ownLt (h:Parts w b R):∀ k,ownR b R k → k < w.heap.size:=by
  rintro k (rfl | ⟨i,hk⟩)
  · exact h.blk
  · exact h.lt i k hk
theorem Parts.size (h:Parts w b R) (hz:w.heap.size ≤ w'.heap.size):Parts w' b R:=⟨Nat.lt_of_lt_of_le h.blk hz,fun i k hk => Nat.lt_of_lt_of_le (h.lt i k hk) hz,h.nb,h.ap⟩
theorem Parts.set (h:Parts w b R) (hz:w.heap.size ≤ w'.heap.size) (hq:∀ k,Q k → k < w'.heap.size) (hb:¬ Q b) (hg:∀ k,Q k → R i k ∨ w.heap.size ≤ k):Parts w' b (setR R i Q):=by
  have out:∀ j k,j ≠ i → Q k → R j k → False:=fun j k hj h1 h2 => by
    rcases hg k h1 with h3 | h3
    · exact h.ap j i hj k h2 h3
    · have:=h.lt j k h2; omega
  refine ⟨Nat.lt_of_lt_of_le h.blk hz,fun j k hk => ?_,fun j => ?_,fun j l hjl k h1 h2 => ?_⟩
  · by_cases e:j = i
    · subst e; rw [setR_same] at hk; exact hq k hk
    · rw [setR_other _ e] at hk; exact Nat.lt_of_lt_of_le (h.lt j k hk) hz
  · by_cases e:j = i
    · subst e; rw [setR_same]; exact hb
    · rw [setR_other _ e]; exact h.nb j
  · by_cases e:j = i
    · subst e
      rw [setR_same] at h1
      rw [setR_other _ (fun e => hjl e.symm)] at h2
      exact out l k (fun e => hjl e.symm) h1 h2
    · rw [setR_other _ e] at h1
      by_cases e2:l = i
      · subst e2; rw [setR_same] at h2; exact out j k e h2 h1
      · rw [setR_other _ e2] at h2; exact h.ap j l hjl k h1 h2
theorem ownR_set (hg:∀ k,Q k → R i k ∨ w.heap.size ≤ k):Grows (ownR b R) w (ownR b (setR R i Q)):=by
  rintro k (rfl | ⟨j,hk⟩)
  · exact .inl (.inl rfl)
  · by_cases e:j = i
    · subst e; rw [setR_same] at hk
      exact (hg k hk).imp (fun h => .inr ⟨_,h⟩) id
    · rw [setR_other _ e] at hk; exact .inl (.inr ⟨j,hk⟩)
theorem ownR_kept (hk:Kept (fun k => k = b ∨ R i k) w w'):Kept (ownR b R) w w' :=
  ⟨hk.os,hk.tape,hk.output,hk.size,fun k h1 h2 => hk.block k h1 (fun h3 => h2 (h3.imp id (fun h => ⟨i,h⟩)))⟩
theorem Parts.other (h:Parts w b R) (hk:Kept (fun k => k = b ∨ R i k) w w') {j:Nat} (hj:j ≠ i):∀ k,R j k → w'.heap[k]? = w.heap[k]?:=fun k h1 =>
  hk.block k (h.lt j k h1) (fun h2 => by
    rcases h2 with rfl | h2
    · exact h.nb j h1
    · exact h.ap j i hj k h1 h2)
end
end Go.Proofs.YtimdkcchjanpaaaGreatDoor
namespace Go.Proofs.YtimdkcchjanpaaaGreatDoor
open Go.RowKit
set_option linter.unusedVariables false
theorem tab_heap_lt {w:World} {k:Nat} {v:Obj} (h:w.heap[k]? = some v):k < w.heap.size:=by
  rcases Nat.lt_or_ge k w.heap.size with h1 | h1
  · exact h1
  · rw [Array.getElem?_eq_none h1] at h; cases h
def TabO (O:Nat → Prop):Prop := ¬ O 1 ∧ ¬ O 0
theorem Tabs.kept {O:Nat → Prop} {w w':World} (h:Tabs w) (hk:Kept O w w') (ho:TabO O):Tabs w':=by
  obtain ⟨⟨t,fr,h1⟩,t2,fr2,h2⟩:=h
  exact ⟨⟨t,fr,by rw [hk.block _ (tab_heap_lt h1) ho.1]; exact h1⟩,t2,fr2,by rw [hk.block _ (tab_heap_lt h2) ho.2]; exact h2⟩
theorem TabO.grows {O O':Nat → Prop} {w:World} (h:TabO O) (hT:Tabs w) (hg:Grows O w O'):TabO O':=by
  obtain ⟨⟨t,fr,h1⟩,t2,fr2,h2⟩:=hT
  exact ⟨fun h3 => (hg _ h3).elim h.1 (fun h4 => absurd (tab_heap_lt h1) (by omega)),fun h3 => (hg _ h3).elim h.2 (fun h4 => absurd (tab_heap_lt h2) (by omega))⟩
theorem TabO.fresh {O:Nat → Prop} {w:World} (hT:Tabs w) (h:∀ k,O k → w.heap.size ≤ k):TabO O:=TabO.grows (O:=fun _ => False) (by unfold TabO; simp) hT (fun k hk => .inr (h k hk))
end Go.Proofs.YtimdkcchjanpaaaGreatDoor
