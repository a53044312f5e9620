/- Of no program: a row in a block of its own, from any place of it on (x[1:] of it too), whose spare places can be written: read, cut at its head, appended to; .. -/
import Derived.Test.YtimdkcchjanpaaaGreatDoorZad
import Derived.Deep.AppendSrc
import Derived.Laws.IdiomCopy
import Derived.Deep.RegionLaw
import Derived.Test.YtimdkcchjanpaaaGreatDoorZac
import Derived.Test.YtimdkcchjanpaaaGreatDoorZaa
import Derived.Test.YtimdkcchjanpaaaGreatDoorZae
import Derived.Deep.RegionWith
set_option maxHeartbeats 2000000
namespace Go.Proofs.YtimdkcchjanpaaaGreatDoor
open Go.RowKit
set_option linter.unusedVariables false
section
variable {α:Type} {c:α → List Value} {k bytes:Nat} {T E:TypeId} {P:Program} {w w':World} {v:Value} {L M:List α}
def RowQ (c:α → List Value) (k:Nat) (w:World) (v:Value) (L:List α):Prop :=
  (v = .slice none 0 0 ∧ L = []) ∨ ∃ g o cap,v = .slice (some ⟨g,o,none⟩) L.length cap ∧ L.length ≤ cap ∧ cap ≤ maxLen ∧ g < w.heap.size ∧
    (∀ j u,(rowG c L)[j]? = some u → w.cell? ⟨g,o + j,none⟩ = some u) ∧ ∀ j,j < cap * k → (w.cell? ⟨g,o + j,none⟩).isSome = true ∧ w.frozen? ⟨g,o + j,none⟩ = false
theorem RowQ.nil (w:World):RowQ c k w (.slice none 0 0) [] := .inl ⟨rfl,rfl⟩
theorem RowQ.stay (h:RowQ c k w v L) (hs:∀ g,OwnO v g → w'.heap[g]? = w.heap[g]?) (hz:w.heap.size ≤ w'.heap.size):RowQ c k w' v L:=by
  rcases h with h | ⟨g,o,cap,rfl,h1,h2,h3,h4,h5⟩
  · exact .inl h
  · have e:=hs g rfl
    refine .inr ⟨g,o,cap,rfl,h1,h2,Nat.lt_of_lt_of_le h3 hz,fun j u hu => (World.cell?_of_block (w:=w) (a:=⟨g,o + j,none⟩) e).trans (h4 j u hu),fun j hj => ⟨?_,(World.frozen?_of_block (w:=w) (a:=⟨g,o + j,none⟩) e).trans (h5 j hj).2⟩⟩
    rw [World.cell?_of_block (w:=w) (a:=⟨g,o + j,none⟩) e]
    exact (h5 j hj).1
theorem RowQ.stayL (h:RowQ c k w v L) (hs:∀ g,OwnO v g → w'.heap[g]? = w.heap[g]?) (hz:∀ g,OwnO v g → g < w'.heap.size):RowQ c k w' v L:=by
  rcases h with h | ⟨g,o,cap,rfl,h1,h2,h3,h4,h5⟩
  · exact .inl h
  · have e:=hs g rfl
    refine .inr ⟨g,o,cap,rfl,h1,h2,hz g rfl,fun j u hu => (World.cell?_of_block (w:=w) (a:=⟨g,o + j,none⟩) e).trans (h4 j u hu),fun j hj => ⟨?_,(World.frozen?_of_block (w:=w) (a:=⟨g,o + j,none⟩) e).trans (h5 j hj).2⟩⟩
    rw [World.cell?_of_block (w:=w) (a:=⟨g,o + j,none⟩) e]
    exact (h5 j hj).1
theorem RowQ.lt (h:RowQ c k w v L):∀ g,OwnO v g → g < w.heap.size:=by
  rcases h with ⟨rfl,_⟩ | ⟨g,o,cap,rfl,h1,h2,h3,h4,h5⟩
  · intro g hg; cases hg
  · intro g' hg'
    injection hg' with e
    have e:g = g':=e
    subst e
    exact h3
theorem RowQ.later (h:RowQ c k w v L) (hb:Below w.heap.size w w'):RowQ c k w' v L:=h.stay (fun g hg => hb.block g (h.lt g hg)) hb.size
theorem qaddr (g o j:Nat):(⟨g,o,none⟩:Addr).add j = ⟨g,o + j,none⟩:=by
  unfold Addr.add
  by_cases h0:j = 0
  · subst h0; simp
  · rw [if_neg h0]
theorem RowQ.sl (h:RowQ c k w v L) (hk:∀ a,(c a).length = k) (hm:L.length ≤ maxLen):SlG c k w w.heap.size v L:=by
  rcases h with ⟨rfl,rfl⟩ | ⟨g,o,cap,rfl,h1,h2,h3,h4,h5⟩
  · exact SlG.nil _ _ _ _
  · refine ⟨_,cap,rfl,hm,fun i a ha => ⟨_,rfl,h3,fun j u hu => ?_⟩⟩
    rw [qaddr]
    exact h4 _ u (rowG_get hk L i a ha j u hu)
theorem RowQ.tail {a:α} {A:Option Addr} {n cap:Nat} (h:RowQ c k w (.slice A n cap) (a :: M)) (hk:∀ a,(c a).length = k):∃ x,A = some x ∧ n = M.length + 1 ∧ M.length + 1 ≤ cap ∧ RowQ c k w (.slice (some (if cap = 1 then x else x.add k)) M.length (cap - 1)) M:=by
  rcases h with ⟨_,h0⟩ | ⟨g,o,cap',hv,h1,h2,h3,h4,h5⟩
  · cases h0
  · injection hv with hA hn hcap
    subst hA; subst hcap
    simp only [List.length_cons] at hn h1
    refine ⟨_,rfl,hn,h1, ?_⟩
    have hrow:rowG c (a :: M) = c a ++ rowG c M:=by simp [rowG]
    by_cases e:cap = 1
    · have:M = []:=List.eq_nil_of_length_eq_zero (by omega)
      subst this
      subst e
      exact .inr ⟨g,o,0,rfl,Nat.le_refl _,Nat.zero_le _,h3,fun j u hu => by simp [rowG] at hu,fun j hj => by omega⟩
    · rw [if_neg e,qaddr]
      refine .inr ⟨g,o + k,cap - 1,rfl,by omega,by omega,h3,fun j u hu => ?_,fun j hj => ?_⟩
      · rw [Nat.add_assoc]
        refine h4 (k + j) u ?_
        rw [hrow,List.getElem?_append_right (by rw [hk]; omega),hk,Nat.add_sub_cancel_left]
        exact hu
      · rw [Nat.add_assoc]
        refine h5 (k + j) ?_
        obtain ⟨m,rfl⟩:∃ m,cap = m + 1:=⟨cap - 1,by omega⟩
        rw [Nat.add_sub_cancel] at hj
        rw [Nat.add_mul]; omega
theorem RowQ.src {u:Value} (hr:RdA c k w u M) (hk:∀ a,(c a).length = k) (hone:∀ a, ∀ u ∈ c a,u.oneCell' = true) (ht:P.underlying T = some (.slice E)):Src P k T u M.length (rowG c M) w:=by
  obtain ⟨hsl,hsh⟩:=hr
  rcases hsh with rfl | ⟨p,cp,rfl,_⟩
  · obtain ⟨A,cap,hv,_,_⟩:=hsl
    injection hv with _ hl _
    obtain rfl:M = []:=List.eq_nil_of_length_eq_zero hl.symm
    exact Src.ofNil w ht 0
  · refine Src.ofSlice w ht p M.length cp (rowG c M) (rowG_length hk M) (fun j u hu => ?_) (fun u hu => ?_)
    · obtain ⟨i,r,b,h1,h2,rfl⟩:=rowG_cells' hk hu
      obtain ⟨A,cap,hv,_,hc⟩:=hsl
      injection hv with hA _ _
      subst hA
      obtain ⟨x',hx',_,hcell⟩:=hc i b h1
      injection hx' with hx'
      subst hx'
      exact hcell r u h2
    · obtain ⟨j,hj,rfl⟩:=List.getElem_of_mem hu
      obtain ⟨i,r,b,h1,h2,_⟩:=rowG_cells' hk (List.getElem?_eq_getElem hj)
      exact hone b _ (List.mem_of_getElem? h2)
theorem setCells_heap (w:World) (g o:Nat) (vs:List Value) {i:Nat} (hne:i ≠ g):(w.setCells g o vs).heap[i]? = w.heap[i]?:=by
  induction vs generalizing w o with
  | nil => rfl
  | cons v vs ih => rw [World.setCells,ih,Below.heap_setCell _ _ _ _ hne]
theorem setCells_size (w:World) (g o:Nat) (vs:List Value):(w.setCells g o vs).heap.size = w.heap.size:=by
  induction vs generalizing w o with
  | nil => rfl
  | cons v vs ih => rw [World.setCells,ih]; simp [World.setCell]
theorem setCells_rest (w:World) (g o:Nat) (vs:List Value):(w.setCells g o vs).os = w.os ∧ (w.setCells g o vs).tape = w.tape ∧ (w.setCells g o vs).output = w.output:=by
  induction vs generalizing w o with
  | nil => exact ⟨rfl,rfl,rfl⟩
  | cons v vs ih => exact ih _ _
theorem RowQ.run (hT:FlatE P T E k bytes) (hk:∀ a,(c a).length = k) (h:RowQ c k w v L) {u:Value} (hs:Src P k T u M.length (rowG c M) w) (hsz:L.length + M.length ≤ 1000000) (ty:TypeId) :
    ∃ v' w',(Builtin.append_ #[T,T] ty #[v,u]).run P w = .ok v' w' ∧ RowQ c k w' v' (L ++ M) ∧ Kept (OwnO v) w w' ∧ Grows (OwnO v) w (OwnO v'):=by
  obtain ⟨ht,i0,z,hi,hz,hz1,hz2,hz3,hk0,hby⟩:=hT
  have hs':Src P i0.size T u M.length (rowG c M) w:=by rw [hz1]; exact hs
  have grow:∀ (A:Option Addr) (cap:Nat),v = .slice A L.length cap → (Builtin.firstCells i0.size L.length (.slice A L.length cap)).run P w.drew = .ok (rowG c L).toArray w.drew → cap < L.length + M.length →
      ∃ v' w',(Builtin.append_ #[T,T] ty #[v,u]).run P w = .ok v' w' ∧ RowQ c k w' v' (L ++ M) ∧ Kept (OwnO v) w w' ∧ Grows (OwnO v) w (OwnO v'):=by
    intro A cap hv hold hlt
    subst hv
    have hby2:(L.length + M.length) * bytes ≤ 1000000 * 100:=Nat.mul_le_mul hsz hby
    have hr:=run_append_grow_src (P:=P) w T T ty E i0 z ht hi hz A L.length cap (rowG c L) hold u M.length (rowG c M) hs' hlt (by omega) (growslice_fits (by omega) (by rw [hz2]; omega))
    have hge:=grownCap_ge w (L.length + M.length) cap E
    generalize hC:grownCap w (L.length + M.length) cap E = C at hr hge
    have hCm:C ≤ maxLen:=by rw [← hC]; exact grownCap_le_maxLen _ _ _ _ (by unfold maxLen; omega)
    have hl:((rowG c L ++ rowG c M).toArray ++ Builtin.zeroCells z.cells (C - (L.length + M.length))).size = C * k:=by
      rw [Array.size_append,size_zeroCells,hz3]
      simp only [List.size_toArray,List.length_append,rowG_length hk]
      rw [← Nat.add_mul,← Nat.add_mul]
      congr 1
      omega
    refine ⟨_,_,hr, .inr ⟨w.heap.size,0,C,by rw [List.length_append],by rw [List.length_append]; exact hge,hCm,by simp,fun j x hx => ?_,fun j hj => ⟨?_, ?_⟩⟩, ?_, ?_⟩
    · show (w.drew.alloc _).cell? ⟨w.drew.heap.size,0 + j,none⟩ = _
      rw [Nat.zero_add,World.cell?_alloc_at _ _ _ _ rfl]
      rw [rowG_app] at hx
      have hj:j < (rowG c L ++ rowG c M).length:=by
        rcases Nat.lt_or_ge j (rowG c L ++ rowG c M).length with h | h
        · exact h
        · rw [List.getElem?_eq_none h] at hx; cases hx
      rw [Array.getElem?_append_left (by simpa using hj)]
      simpa using hx
    · show ((w.drew.alloc _).cell? ⟨w.drew.heap.size,0 + j,none⟩).isSome = true
      rw [Nat.zero_add,World.cell?_alloc_at _ _ _ _ rfl,Array.getElem?_eq_getElem (by rw [hl]; exact hj)]
      rfl
    · show (w.drew.alloc _).frozen? ⟨w.drew.heap.size,0 + j,none⟩ = false
      unfold World.frozen?
      rw [heap_alloc_new]
      simp
    · exact .of_below ((Below.refl _ w).drew.alloc (Nat.le_refl _) _)
    · intro g hg
      injection hg with e
      exact .inr (by have e:w.heap.size = g:=e; omega)
  rcases h with ⟨rfl,rfl⟩ | ⟨g,o,cap,rfl,h1,h2,h3,h4,h5⟩
  · by_cases hM:M = []
    · subst hM
      have hz0:(Builtin.append_ #[T,T] ty #[.slice none 0 0,u]).run P w = .ok (.slice none 0 0) w:=by
        have hc:=hs'.cells
        have hl:=hs'.len
        simp only [List.length_nil] at hc hl
        rcases hs'.kind with ⟨e',hk'⟩ | hk' <;> simp [Builtin.append_,run_underlying ht,sizeOf,typeInfo,hi,hl,hc]
      exact ⟨_,_,hz0, .inl ⟨rfl,rfl⟩,Kept.refl _ _,Grows.refl _ _⟩
    · exact grow none 0 rfl (run_firstCells_none w.drew i0.size 0 0 0) (by have:=List.length_pos_iff.2 hM; simp; omega)
  · by_cases hroom:L.length + M.length ≤ cap
    · have hml:(rowG c M).length = M.length * k:=rowG_length hk M
      have hll:(rowG c L).length = L.length * k:=rowG_length hk L
      have hle:L.length * k + M.length * k ≤ cap * k:=by rw [← Nat.add_mul]; exact Nat.mul_le_mul_right _ hroom
      have hr:=run_append_room_src (P:=P) w T T ty E i0 ht hi g o L.length cap u M.length (rowG c M) hs' hroom
        (fun j hj => by rw [hz1,Nat.add_assoc]; exact (h5 _ (by omega)).1) (fun j hj => by rw [hz1,Nat.add_assoc]; exact (h5 _ (by omega)).2)
      rw [hz1] at hr
      refine ⟨_,_,hr, .inr ⟨g,o,cap,by rw [List.length_append],by rw [List.length_append]; exact hroom,h2,by rw [setCells_size]; exact h3,fun j x hx => ?_,fun j hj => ⟨?_, ?_⟩⟩, ?_,Grows.refl _ _⟩
      · rw [rowG_app] at hx
        by_cases hj:j < (rowG c L).length
        · rw [List.getElem?_append_left hj] at hx
          rw [World.cell?_setCells_out g _ _ _ _ (fun _ _ => .inl (by simp only; omega))]
          exact h4 j x hx
        · rw [List.getElem?_append_right (by omega)] at hx
          have hj2:j - (rowG c L).length < (rowG c M).length:=by
            rcases Nat.lt_or_ge (j - (rowG c L).length) (rowG c M).length with h | h
            · exact h
            · rw [List.getElem?_eq_none h] at hx; cases hx
          have:=World.cell?_setCells_in g (rowG c M) (o + L.length * k) w (fun j hj => by rw [Nat.add_assoc]; exact (h5 _ (by omega)).1) (j - (rowG c L).length) hj2
          rw [show o + L.length * k + (j - (rowG c L).length) = o + j by omega] at this
          rw [this,← hx,List.getElem?_eq_getElem hj2]
      · have key:∀ (vs:List Value) (q:Nat) (w:World) (x:Addr),(w.cell? x).isSome = true → ((w.setCells g q vs).cell? x).isSome = true:=by
          intro vs
          induction vs with
          | nil => intro q w x h; exact h
          | cons b vs ih =>
            intro q w x h
            refine ih _ _ _ ?_
            by_cases e:(⟨g,q,none⟩:Addr) = x
            · subst e; rw [World.cell?_setCell_same' _ _ _ h]; rfl
            · rw [World.cell?_setCell_other _ _ _ _ (by intro h; exact e (by first | exact h | exact h.symm))]; exact h
        exact key _ _ _ _ (h5 j hj).1
      · rw [World.frozen?_setCells]; exact (h5 j hj).2
      · obtain ⟨r1,r2,r3⟩:=setCells_rest w g (o + L.length * k) (rowG c M)
        exact ⟨r1,r2,r3,by rw [setCells_size]; exact Nat.le_refl _,fun i _ hn => setCells_heap _ _ _ _ (fun e => hn (by subst e; rfl))⟩
    · refine grow _ cap rfl ?_ (by omega)
      refine run_firstCells_some w.drew i0.size L.length ⟨g,o,none⟩ L.length cap (rowG c L) (by rw [hz1,rowG_length hk]) (fun j x hx => ?_)
      rw [qaddr]
      exact h4 j x hx
theorem wpList_qO {ops:Array Oper} {rest:List Oper} {o:Oper} {a:Act} {Q:Exit → Act → World → Prop} {W:World} (hT:FlatE P T E k bytes) (hk:∀ a,(c a).length = k) (hone:∀ a, ∀ u ∈ c a,u.oneCell' = true) (hgd:o.guard = none) (s x:Operand)
    (ho:o.op = .call { callee := .builtin .append,args := #[s,x],argTypes := #[T,T] }) {v u:Value} (hs:a.eval s = v) (hg:RowQ c k W v L)
    (hx:a.eval x = u) (hr:RdA c k W u M) (hsz:L.length + M.length ≤ 1000000)
    (h:∀ v' w',RowQ c k w' v' (L ++ M) → Kept (OwnO v) W w' → Grows (OwnO v) W (OwnO v') → wpList P ops Q rest (a.put o.dst v') w'):wpList P ops Q (o :: rest) a W:=by
  refine wpList_plain hgd fun K hK' => ?_
  obtain ⟨v',w',hrun,r1,r2,r3⟩:=hg.run hT hk (RowQ.src hr hk hone hT.1) hsz o.type
  unfold Oper.wp
  simp [execOp,ho,resolve,invoke,builtin,hs,hx,hrun,Result.andThen]
  exact hK' _ _ (h v' w' r1 r2 r3)
end
end Go.Proofs.YtimdkcchjanpaaaGreatDoor
namespace Go.Proofs.YtimdkcchjanpaaaGreatDoor
open Go.RowKit
set_option linter.unusedVariables false
def frC (f:Fr):List Value := [.int .i64 f.i, .int .i64 f.n, .int .i64 f.l, .string f.d]
theorem frC_len (f:Fr):(frC f).length = 4:=rfl
end Go.Proofs.YtimdkcchjanpaaaGreatDoor
namespace Go.Proofs.YtimdkcchjanpaaaGreatDoor
open Go.RowKit
set_option linter.unusedVariables false
theorem heap_some_lt {w:World} {k:Nat} {o:Obj} (h:w.heap[k]? = some o):k < w.heap.size:=(Array.getElem?_eq_some_iff.1 h).1
end Go.Proofs.YtimdkcchjanpaaaGreatDoor
namespace Go.Proofs.YtimdkcchjanpaaaGreatDoor
open Go.RowKit
set_option linter.unusedVariables false
structure Pk where
  f:Fr
  fr:Int
  tag:Int
  lp:Bool
def pkC (p:Pk):List Value := [.int .i64 p.f.i, .int .i64 p.f.n, .int .i64 p.f.l, .string p.f.d, .int .i64 p.fr, .int .i64 p.tag, .bool p.lp]
theorem pkC_len (p:Pk):(pkC p).length = 7:=rfl
def inC (x:Int):List Value := [.int .i64 x]
theorem inC_len (x:Int):(inC x).length = 1:=rfl
structure Bx where
  S:List Int
  P:List Pk
  ord:List Int
  fin:List Int
structure BxM (w:World) (b gs gp:Nat) (vo ve:Value) (s:Bx):Prop where
  box:w.heap[b]? = some (.cells #[.slice (some ⟨gs,0,none⟩) s.S.length s.S.length, .slice (some ⟨gp,0,none⟩) s.S.length s.S.length,vo,ve] 146 (0,0))
  st:w.heap[gs]? = some (.cells (rowG inC s.S).toArray 3 (0,0))
  pk:w.heap[gp]? = some (.cells (rowG pkC s.P).toArray 37 (0,0))
  len:s.P.length = s.S.length
  ord:RowQ inC 1 w vo s.ord
  fin:RowQ inC 1 w ve s.fin
  h1:b ≠ gs
  h2:b ≠ gp
  h3:gs ≠ gp
  f1:¬ OwnO vo b ∧ ¬ OwnO vo gs ∧ ¬ OwnO vo gp
  f2:¬ OwnO ve b ∧ ¬ OwnO ve gs ∧ ¬ OwnO ve gp
  f3:Apart (OwnO vo) (OwnO ve)
def bxO (b gs gp:Nat) (vo ve:Value):Nat → Prop:=fun k => k = b ∨ k = gs ∨ k = gp ∨ OwnO vo k ∨ OwnO ve k
def BxD (w:World) (v:Value) (s:Bx) (O:Nat → Prop):Prop := ∃ b gs gp vo ve,v = .pointer (some ⟨b,0,none⟩) ∧ O = bxO b gs gp vo ve ∧ BxM w b gs gp vo ve s
section
variable {w w':World} {b gs gp:Nat} {vo ve:Value} {s:Bx}
theorem BxM.lt (h:BxM w b gs gp vo ve s):∀ k,bxO b gs gp vo ve k → k < w.heap.size:=by
  rintro k (rfl | rfl | rfl | hk | hk)
  · exact heap_some_lt h.box
  · exact heap_some_lt h.st
  · exact heap_some_lt h.pk
  · exact h.ord.lt k hk
  · exact h.fin.lt k hk
theorem BxM.stay (h:BxM w b gs gp vo ve s) (hs:∀ k,bxO b gs gp vo ve k → w'.heap[k]? = w.heap[k]?):BxM w' b gs gp vo ve s:=by
  have hz:∀ k,bxO b gs gp vo ve k → k < w'.heap.size:=fun k hk => by
    have h1:=hs k hk
    have h2:=h.lt k hk
    rw [Array.getElem?_eq_getElem h2] at h1
    exact heap_some_lt h1
  exact ⟨(hs b (.inl rfl)).trans h.box,(hs gs (.inr (.inl rfl))).trans h.st,(hs gp (.inr (.inr (.inl rfl)))).trans h.pk,h.len,
    h.ord.stayL (fun k hk => hs k (.inr (.inr (.inr (.inl hk))))) (fun k hk => hz k (.inr (.inr (.inr (.inl hk))))),
    h.fin.stayL (fun k hk => hs k (.inr (.inr (.inr (.inr hk))))) (fun k hk => hz k (.inr (.inr (.inr (.inr hk))))),h.h1,h.h2,h.h3,h.f1,h.f2,h.f3⟩
theorem BxM.later (h:BxM w b gs gp vo ve s) (hb:Below w.heap.size w w'):BxM w' b gs gp vo ve s:=h.stay (fun k hk => hb.block k (h.lt k hk))
theorem isObj_box:IsObj BxD where
  stay:=by
    rintro w w' v s O ⟨b,gs,gp,vo,ve,rfl,rfl,h⟩ hs
    exact ⟨b,gs,gp,vo,ve,rfl,rfl,h.stay hs⟩
  lt:=by
    rintro w v s O ⟨b,gs,gp,vo,ve,rfl,rfl,h⟩
    exact h.lt
theorem BxM.cells (h:BxM w b gs gp vo ve s):w.cell? ⟨b,0,none⟩ = some (.slice (some ⟨gs,0,none⟩) s.S.length s.S.length) ∧ w.cell? ⟨b,1,none⟩ = some (.slice (some ⟨gp,0,none⟩) s.S.length s.S.length) ∧ w.cell? ⟨b,2,none⟩ = some vo ∧ w.cell? ⟨b,3,none⟩ = some ve:=by
  have hb:=h.box
  refine ⟨?_, ?_, ?_, ?_⟩ <;> (rw [Lib.cell_of_heap hb]; rfl)
theorem BxM.live (h:BxM w b gs gp vo ve s) (j:Nat):w.frozen? ⟨b,j,none⟩ = false:=Lib.frozen_of_heap h.box j
theorem BxM.state (h:BxM w b gs gp vo ve s) {i:Nat} {x:Int} (hx:s.S[i]? = some x):w.cell? ⟨gs,i,none⟩ = some (.int .i64 x) ∧ w.frozen? ⟨gs,i,none⟩ = false:=by
  refine ⟨?_,Lib.frozen_of_heap h.st i⟩
  rw [Lib.cell_of_heap h.st]
  simpa using rowG_get inC_len s.S i _ hx 0 _ rfl
theorem BxM.packet (h:BxM w b gs gp vo ve s) {i:Nat} {p:Pk} (hp:s.P[i]? = some p):∀ j u,(pkC p)[j]? = some u → w.cell? ⟨gp,i * 7 + j,none⟩ = some u:=fun j u hu => by
  rw [Lib.cell_of_heap h.pk]
  simpa using rowG_get pkC_len s.P i _ hp j u hu
end
def Bx.free (s:Bx) (k:Nat):Nat:=((s.S.take k).filter (· == 0)).length
theorem Bx.free_succ (s:Bx) {k:Nat} (h:k < s.S.length):s.free (k + 1) = s.free k + (if s.S[k] = 0 then 1 else 0):=by
  unfold Bx.free
  rw [List.take_succ_eq_append_getElem h,List.filter_append,List.length_append]
  by_cases h0:s.S[k] = 0 <;> simp [h0]
theorem Bx.free_le (s:Bx) (k:Nat):s.free k ≤ k:=by
  unfold Bx.free
  exact Nat.le_trans (List.length_filter_le _ _) (by rw [List.length_take]; omega)
theorem xfree_v {v:Value} {s:Bx} {O:Nat → Prop} (w:World) (h:BxD w v s O) (hl:s.S.length ≤ 1000):Calls Tryz.prog 128 #[v] w fun e w' => e = .returned (.int .i64 (s.free s.S.length:Nat)) ∧ w = w':=by
  obtain ⟨b,gs,gp,vo,ve,rfl,rfl,h⟩:=h
  have H:=Lib.hid h
  obtain ⟨c0,c1,c2,c3⟩:=h.cells
  have hb:=heap_some_lt h.box
  have hg:=heap_some_lt h.st
  have hl2:(s.S.length:Int) ≤ 1000:=by omega
  clear h
  go_enter Tryz.func128,Tryz.ntmps128
  go_wp2_with fail
  go_loop [3,4] (fun n i => ∃ k:Nat,k ≤ s.S.length ∧ i = .int .i64 k ∧ n = .int .i64 (s.free k:Nat)) (fun _ i => s.S.length - (intOf i).toNat)
  case atStart => exact ⟨0,by omega,rfl,rfl⟩
  case round =>
    obtain ⟨k,hk,rfl,rfl⟩:=hrel
    have hf:=s.free_le k
    by_cases hlt:k < s.S.length
    · have hkl:(k:Int) < (s.S.length:Int):=by omega
      obtain ⟨x,hx⟩:∃ x,s.S[k]? = some x:=⟨_,List.getElem?_eq_getElem hlt⟩
      have hx2:s.S[k] = x:=by rw [List.getElem?_eq_getElem hlt] at hx; exact Option.some.inj hx
      have a0:=(H.out.state hx).1
      have HS:=Lib.hid (s.free_succ hlt)
      rw [hx2] at HS
      clear hx hx2
      by_cases h0:x = 0
      · subst h0
        have hsc:Hid (s.free (k + 1) = s.free k + 1):=Lib.hid (by rw [HS.out]; rfl)
        go_wp2
        exact ⟨⟨k + 1,by omega,by go_num,by rw [hsc.out]; go_num⟩,by simp [intOf]; omega⟩
      · have hsc:Hid (s.free (k + 1) = s.free k):=Lib.hid (by rw [HS.out,if_neg h0]; rfl)
        have e0:(x == 0) = false:=by simp [h0]
        go_wp2
        exact ⟨⟨k + 1,by omega,by go_num,by rw [hsc.out]⟩,by simp [intOf]; omega⟩
    · obtain rfl:k = s.S.length:=by omega
      go_wp2
      go_ret
      exact ⟨rfl,rfl⟩
end Go.Proofs.YtimdkcchjanpaaaGreatDoor
namespace Go.Proofs.YtimdkcchjanpaaaGreatDoor
open Go.RowKit
set_option linter.unusedVariables false
def pk0:Pk:=⟨⟨0,0,0,ByteArray.mk #[]⟩,0,0,false⟩
abbrev pkV (p:Pk):Value := .agg #[.int .i64 p.f.i, .int .i64 p.f.n, .int .i64 p.f.l, .string p.f.d, .int .i64 p.fr, .int .i64 p.tag, .bool p.lp]
def BoxP (w:World) (b:Nat) (p:Pk):Prop:=w.heap[b]? = some (.cells #[.int .i64 p.f.i, .int .i64 p.f.n, .int .i64 p.f.l, .string p.f.d, .int .i64 p.fr, .int .i64 p.tag, .bool p.lp] 37 (0,0))
theorem BoxP.made (w:World) (p:Pk):BoxP (w.alloc (.cells #[.int .i64 p.f.i, .int .i64 p.f.n, .int .i64 p.f.l, .string p.f.d, .int .i64 p.fr, .int .i64 p.tag, .bool p.lp] 37)) w.heap.size p:=by unfold BoxP World.alloc; simp
theorem BoxP.lt {w:World} {b:Nat} {p:Pk} (h:BoxP w b p):b < w.heap.size:=(Array.getElem?_eq_some_iff.1 h).1
theorem BoxP.later {w w':World} {b:Nat} {p:Pk} (h:BoxP w b p) (hb:Below w.heap.size w w'):BoxP w' b p:=(hb.block b h.lt).trans h
theorem BoxP.kept {w w':World} {b:Nat} {p:Pk} {O:Nat → Prop} (h:BoxP w b p) (hk:Kept O w w') (hn:¬ O b):BoxP w' b p:=(hk.block b h.lt hn).trans h
theorem BoxP.cells {w:World} {b:Nat} {p:Pk} (h:BoxP w b p):w.cell? ⟨b,0,none⟩ = some (.int .i64 p.f.i) ∧ w.cell? ⟨b,1,none⟩ = some (.int .i64 p.f.n) ∧ w.cell? ⟨b,2,none⟩ = some (.int .i64 p.f.l) ∧ w.cell? ⟨b,3,none⟩ = some (.string p.f.d) ∧
    w.cell? ⟨b,4,none⟩ = some (.int .i64 p.fr) ∧ w.cell? ⟨b,5,none⟩ = some (.int .i64 p.tag) ∧ w.cell? ⟨b,6,none⟩ = some (.bool p.lp):=by
  unfold BoxP at h
  refine ⟨?_, ?_, ?_, ?_, ?_, ?_, ?_⟩ <;> (rw [Lib.cell_of_heap h]; rfl)
def putP (w:World) (g i:Nat) (p:Pk):World :=
  ((((((w.setCell ⟨g,i * 7,none⟩ (.int .i64 p.f.i)).setCell ⟨g,i * 7 + 1,none⟩ (.int .i64 p.f.n)).setCell ⟨g,i * 7 + 2,none⟩ (.int .i64 p.f.l)).setCell ⟨g,i * 7 + 3,none⟩ (.string p.f.d)).setCell ⟨g,i * 7 + 4,none⟩ (.int .i64 p.fr)).setCell ⟨g,i * 7 + 5,none⟩ (.int .i64 p.tag)).setCell ⟨g,i * 7 + 6,none⟩ (.bool p.lp)
theorem rowG_setP (c:Pk):∀ (N:List Pk) (i:Nat),i < N.length → (((((((rowG pkC N).set (i * 7) (.int .i64 c.f.i)).set (i * 7 + 1) (.int .i64 c.f.n)).set (i * 7 + 2) (.int .i64 c.f.l)).set (i * 7 + 3) (.string c.f.d)).set (i * 7 + 4) (.int .i64 c.fr)).set (i * 7 + 5) (.int .i64 c.tag)).set (i * 7 + 6) (.bool c.lp) = rowG pkC (N.set i c)
  | [],i,h => by cases h
  | a :: N,0,h => rfl
  | a :: N,i + 1,h => by
    have ih:=rowG_setP c N i (by simpa using h)
    have e:rowG pkC (a :: N) = pkC a ++ rowG pkC N:=by simp [rowG]
    have e2:rowG pkC ((a :: N).set (i + 1) c) = pkC a ++ rowG pkC (N.set i c):=by simp [rowG]
    rw [e,e2,← ih]
    have l:(pkC a).length = 7:=rfl
    iterate 7 rw [List.set_append_right _ _ (by rw [l]; omega)]
    rw [l]
    congr 1
    rw [show (i + 1) * 7 - 7 = i * 7 by omega,show (i + 1) * 7 + 1 - 7 = i * 7 + 1 by omega,show (i + 1) * 7 + 2 - 7 = i * 7 + 2 by omega,show (i + 1) * 7 + 3 - 7 = i * 7 + 3 by omega,show (i + 1) * 7 + 4 - 7 = i * 7 + 4 by omega,show (i + 1) * 7 + 5 - 7 = i * 7 + 5 by omega,show (i + 1) * 7 + 6 - 7 = i * 7 + 6 by omega]
theorem putP_other {w:World} {g i k:Nat} {c:Pk} (h:k ≠ g):(putP w g i c).heap[k]? = w.heap[k]?:=by
  unfold putP
  iterate 7 rw [Below.heap_setCell _ _ _ _ h]
theorem putP_size (w:World) (g i:Nat) (c:Pk):(putP w g i c).heap.size = w.heap.size:=by unfold putP; simp [World.setCell]
theorem setCell_rest1 (w:World) (a:Addr) (u:Value):(w.setCell a u).os = w.os ∧ (w.setCell a u).tape = w.tape ∧ (w.setCell a u).output = w.output:=⟨rfl,rfl,rfl⟩
theorem putP_rest (w:World) (g i:Nat) (c:Pk):(putP w g i c).os = w.os ∧ (putP w g i c).tape = w.tape ∧ (putP w g i c).output = w.output:=by
  unfold putP
  refine ⟨?_, ?_, ?_⟩
  · iterate 7 rw [(setCell_rest1 _ _ _).1]
  · iterate 7 rw [(setCell_rest1 _ _ _).2.1]
  · iterate 7 rw [(setCell_rest1 _ _ _).2.2]
theorem zeroPk (w:World):(zeroValue 37).run Tryz.prog w = .ok (.agg #[.int .i64 0, .int .i64 0, .int .i64 0, .string (ByteArray.mk #[]), .int .i64 0, .int .i64 0, .bool false]) w:=by kernel_rfl
def putB (w:World) (z:Nat) (p:Pk):World :=
  ((((((w.setCell ⟨z,0,none⟩ (.int .i64 p.f.i)).setCell ⟨z,1,none⟩ (.int .i64 p.f.n)).setCell ⟨z,2,none⟩ (.int .i64 p.f.l)).setCell ⟨z,3,none⟩ (.string p.f.d)).setCell ⟨z,4,none⟩ (.int .i64 p.fr)).setCell ⟨z,5,none⟩ (.int .i64 p.tag)).setCell ⟨z,6,none⟩ (.bool p.lp)
theorem putB_other {w:World} {z k:Nat} {p:Pk} (h:k ≠ z):(putB w z p).heap[k]? = w.heap[k]?:=by
  unfold putB
  iterate 7 rw [Below.heap_setCell _ _ _ _ h]
theorem putB_size (w:World) (z:Nat) (p:Pk):(putB w z p).heap.size = w.heap.size:=by unfold putB; simp [World.setCell]
theorem putB_rest (w:World) (z:Nat) (c:Pk):(putB w z c).os = w.os ∧ (putB w z c).tape = w.tape ∧ (putB w z c).output = w.output:=by
  unfold putB
  refine ⟨?_, ?_, ?_⟩
  · iterate 7 rw [(setCell_rest1 _ _ _).1]
  · iterate 7 rw [(setCell_rest1 _ _ _).2.1]
  · iterate 7 rw [(setCell_rest1 _ _ _).2.2]
theorem BoxP.put {w:World} {z:Nat} {p0:Pk} (h:BoxP w z p0) (p:Pk):BoxP (putB w z p) z p:=by
  unfold BoxP at *
  have a0:=heap_setCell_same w z 0 _ _ (.int .i64 p.f.i) h
  have a1:=heap_setCell_same _ z 1 _ _ (.int .i64 p.f.n) a0
  have a2:=heap_setCell_same _ z 2 _ _ (.int .i64 p.f.l) a1
  have a3:=heap_setCell_same _ z 3 _ _ (.string p.f.d) a2
  have a4:=heap_setCell_same _ z 4 _ _ (.int .i64 p.fr) a3
  have a5:=heap_setCell_same _ z 5 _ _ (.int .i64 p.tag) a4
  have a6:=heap_setCell_same _ z 6 _ _ (.bool p.lp) a5
  unfold putB
  rw [a6]
  rfl
theorem putB_below {w a:World} {B z:Nat} (p:Pk) (h:Below B a w) (hz:B ≤ z):Below B a (putB w z p):=by
  unfold putB
  iterate 7 refine Below.setCell ?_ hz _
  exact h
end Go.Proofs.YtimdkcchjanpaaaGreatDoor
namespace Go.Proofs.YtimdkcchjanpaaaGreatDoor
open Go.RowKit
set_option linter.unusedVariables false
section
variable {σ τ:Type} {I:World → Value → σ → (Nat → Prop) → Prop} {J:World → Value → τ → (Nat → Prop) → Prop} {w0 w w' W:World} {v v':Value} {s s':σ} {t t':τ} {O O' O1 U:Nat → Prop}
structure Pair (I:World → Value → σ → (Nat → Prop) → Prop) (J:World → Value → τ → (Nat → Prop) → Prop) (w0:World) (v v':Value) (s:σ) (t:τ) (O O':Nat → Prop) (w:World):Prop where
  a:Has I w0 v s O w
  b:Has J w0 v' t O' w
  ap:Apart O O'
theorem Has.other (hI:IsObj I) (hJ:IsObj J) (hx:Has I w0 v s O w) (h:Has J w0 v' t O' w) (ha:∀ k,O k → O' k → False) (hk:Kept O w w'):Has J w0 v' t O' w' :=
  ⟨hJ.stay h.inv (fun k ho => hk.block k (hJ.lt h.inv k ho) (fun hi => ha k hi ho)),hk.below h.below h.below.size hx.new,h.new⟩
theorem Pair.later (hI:IsObj I) (hJ:IsObj J) (h:Pair I J w0 v v' s t O O' w) (hb:Below w.heap.size w w'):Pair I J w0 v v' s t O O' w':=⟨h.a.later hI hb,h.b.later hJ hb,h.ap⟩
theorem Pair.stepA (hI:IsObj I) (hJ:IsObj J) (h:Pair I J w0 v v' s t O O' w) (hi:I w' v s' O1) (hk:Kept O w w') (hg:Grows O w O1):Pair I J w0 v v' s' t O1 O' w' :=
  ⟨h.a.step hI hi hk hg,h.a.other hI hJ h.b h.ap hk,h.ap.step (hJ.lt h.b.inv) hg⟩
theorem Pair.stepB (hI:IsObj I) (hJ:IsObj J) (h:Pair I J w0 v v' s t O O' w) (hi:J w' v' t' O1) (hk:Kept O' w w') (hg:Grows O' w O1):Pair I J w0 v v' s t' O O1 w' :=
  ⟨h.b.other hJ hI h.a (fun k a b => h.ap k b a) hk,h.b.step hJ hi hk hg,(h.ap.symm.step (hI.lt h.a.inv) hg).symm⟩
theorem kept_from (hb:Below w.heap.size w w') (h:Kept U w' W):Kept U w W:=(Kept.of_below hb).trans h (Grows.refl _ _)
theorem grows_from (hb:Below w.heap.size w w') (h:Grows U w' O):Grows U w O:=fun k hk => (h k hk).imp_right (Nat.le_trans hb.size)
def HidB (ob:Tmp → Option Obj) (W:World) (O O':Nat → Prop) (xs:Tmp → Option Value) (w:World):Prop :=
  (∀ t u,xs t = some u → ∃ g,u = .pointer (some ⟨g,0,none⟩) ∧ W.heap.size ≤ g ∧ ¬ O g ∧ ¬ O' g ∧ ∃ b,ob t = some b ∧ w.heap[g]? = some b) ∧ ∀ t t' u,xs t = some u → xs t' = some u → t = t'
theorem HidB.none_ (ob:Tmp → Option Obj) (W:World) (O O':Nat → Prop) (w:World):HidB ob W O O' (fun _ => none) w:=⟨fun t u (h:(none:Option Value) = some u) => (by cases h),fun t t' u (h:(none:Option Value) = some u) => (by cases h)⟩
theorem hid_lt {w:World} {g:Nat} {b:Obj} (h:w.heap[g]? = some b):g < w.heap.size:=(Array.getElem?_eq_some_iff.1 h).1
theorem HidB.stepA {ob:Tmp → Option Obj} {xs:Tmp → Option Value} (h:HidB ob W O O' xs w) (hk:Kept O w w') (hg:Grows O w O1):HidB ob W O1 O' xs w':=by
  refine ⟨fun t u ht => ?_,h.2⟩
  obtain ⟨g,h1,h2,h3,h4,b,h5,h6⟩:=h.1 t u ht
  exact ⟨g,h1,h2,out_step (hid_lt h6) h3 hg,h4,b,h5,(hk.block g (hid_lt h6) h3).trans h6⟩
theorem HidB.stepB {ob:Tmp → Option Obj} {xs:Tmp → Option Value} (h:HidB ob W O O' xs w) (hk:Kept O' w w') (hg:Grows O' w O1):HidB ob W O O1 xs w':=by
  refine ⟨fun t u ht => ?_,h.2⟩
  obtain ⟨g,h1,h2,h3,h4,b,h5,h6⟩:=h.1 t u ht
  exact ⟨g,h1,h2,h3,out_step (hid_lt h6) h4 hg,b,h5,(hk.block g (hid_lt h6) h4).trans h6⟩
def PairC (I:World → Value → σ → (Nat → Prop) → Prop) (J:World → Value → τ → (Nat → Prop) → Prop) (w0 W:World) (U:Nat → Prop) (v v':Value) (ob:Tmp → Option Obj) (s:σ) (t:τ) (xs:Tmp → Option Value) (w:World):Prop :=
  ∃ O O',Pair I J w0 v v' s t O O' w ∧ Kept U W w ∧ Grows U W O ∧ Grows U W O' ∧ HidB ob W O O' xs w
section
variable {ob:Tmp → Option Obj} {xs:Tmp → Option Value}
theorem PairC.mk (hI:IsObj I) (hJ:IsObj J) (h:Pair I J w0 v v' s t O O' w):PairC I J w0 w (fun k => O k ∨ O' k) v v' ob s t (fun _ => none) w.drew :=
  ⟨O,O',h.later hI hJ (Below.refl _ _).drew, .of_below (Below.refl _ _).drew,fun k hk => .inl (.inl hk),fun k hk => .inl (.inr hk),HidB.none_ _ _ _ _ _⟩
theorem PairC.stepA (hI:IsObj I) (hJ:IsObj J) (h:Pair I J w0 v v' s t O O' w) (h2:Kept U W w) (h3:Grows U W O) (h4:Grows U W O') (h5:HidB ob W O O' xs w) (hs:Stp I v O w s' w'):PairC I J w0 W U v v' ob s' t xs w':=by
  obtain ⟨O1,hi,hk,hg⟩:=hs
  exact ⟨O1,O',h.stepA hI hJ hi hk hg,h2.trans hk h3,h3.trans hg h2.size,h4,h5.stepA hk hg⟩
theorem PairC.stepB (hI:IsObj I) (hJ:IsObj J) (h:Pair I J w0 v v' s t O O' w) (h2:Kept U W w) (h3:Grows U W O) (h4:Grows U W O') (h5:HidB ob W O O' xs w) (hs:Stp J v' O' w t' w'):PairC I J w0 W U v v' ob s t' xs w':=by
  obtain ⟨O1,hi,hk,hg⟩:=hs
  exact ⟨O,O1,h.stepB hI hJ hi hk hg,h2.trans hk h4,h3,h4.trans hg h2.size,h5.stepB hk hg⟩
theorem PairC.kept (h:PairC I J w0 W U v v' ob s t xs w):Kept U W w:=by obtain ⟨_,_,_,h,_⟩:=h; exact h
def PairS (I:World → Value → σ → (Nat → Prop) → Prop) (J:World → Value → τ → (Nat → Prop) → Prop) (w0 W:World) (U:Nat → Prop) (v v':Value) (ob:Tmp → Option Obj) (s s':σ) (t t':τ):Nat → (Tmp → Option Value) → World → Prop
  | 0 => PairC I J w0 W U v v' ob s t
  | 1 => PairC I J w0 W U v v' ob s' t
  | _ + 2 => PairC I J w0 W U v v' ob s' t'
theorem PairS.kept {j:Nat} (h:PairS I J w0 W U v v' ob s s' t t' j xs w):Kept U W w:=by
  match j,h with
  | 0,h => exact PairC.kept (s:=s) (t:=t) h
  | 1,h => exact PairC.kept (s:=s') (t:=t) h
  | _ + 2,h => exact PairC.kept (s:=s') (t:=t') h
end
end
end Go.Proofs.YtimdkcchjanpaaaGreatDoor
namespace Go.Proofs.YtimdkcchjanpaaaGreatDoor
open Go.RowKit
set_option linter.unusedVariables false
section
variable {α:Type} {c:α → List Value} {kk:Nat} {u:Value} {X L:List α} {W w w':World} {tx tr:Tmp} {j:Nat} {xs:Tmp → Option Value}
def AppQ (c:α → List Value) (kk:Nat) (u:Value) (X L:List α) (W:World) (tx tr:Tmp) (j:Nat) (xs:Tmp → Option Value) (w:World):Prop :=
  Kept (OwnO u) W w ∧ ((j = 0 ∧ xs tr = none ∧ RowQ c kk w u L ∧ ∀ x,xs tx = some x → RdA c kk w x X) ∨ (j = 1 ∧ ∃ v',xs tr = some v' ∧ RowQ c kk w v' (L ++ X) ∧ Grows (OwnO u) W (OwnO v')))
theorem AppQ.start (h:RowQ c kk W u L):AppQ c kk u X L W tx tr 0 (fun _ => none) W.drew :=
  ⟨.of_below (Below.refl _ _).drew, .inl ⟨rfl,rfl,h.later (Below.refl _ _).drew,fun x hx => by cases hx⟩⟩
theorem AppQ.one {f:α} {t:TypeId} (hkk:∀ a,(c a).length = kk) (hne:tr ≠ tx) (j:Nat) (xs:Tmp → Option Value) (w:World) (h:AppQ c kk u [f] L W tx tr j xs w) :
    AppQ c kk u [f] L W tx tr j (fun t => if t = tx then some (.slice (some ⟨w.heap.size,0,none⟩) 1 1) else xs t) (w.alloc (.cells (c f).toArray t)):=by
  have hb:Below w.heap.size w (w.alloc (.cells (c f).toArray t)):=(Below.refl _ _).alloc (Nat.le_refl _) _
  obtain ⟨h1,h2⟩:=h
  refine ⟨h1.trans (.of_below (O:=OwnO u) hb) (Grows.refl _ _), ?_⟩
  rcases h2 with ⟨rfl,h0,h3,h4⟩ | ⟨rfl,v',h3,h4,h5⟩
  · refine .inl ⟨rfl,by simp only; rw [if_neg hne]; exact h0,h3.later hb,fun x hx => ?_⟩
    simp at hx
    rw [← hx]
    exact RdA.one hkk w f t rfl rfl
  · exact .inr ⟨rfl,v',by simp only; rw [if_neg hne]; exact h3,h4.later hb,h5⟩
theorem AppQ.app (xs:Tmp → Option Value) (w:World) (v':Value) (w':World) (h:AppQ c kk u X L W tx tr 0 xs w) (hq:RowQ c kk w' v' (L ++ X)) (hk:Kept (OwnO u) w w') (hg:Grows (OwnO u) w (OwnO v')) :
    AppQ c kk u X L W tx tr 1 (fun t => if t = tr then some v' else xs t) w':=by
  obtain ⟨h1,_⟩:=h
  refine ⟨h1.trans hk (Grows.refl _ _), .inr ⟨rfl,v',by simp,hq,fun k hk' => ?_⟩⟩
  rcases hg k hk' with h2 | h2
  · exact .inl h2
  · exact .inr (Nat.le_trans h1.size h2)
theorem AppQ.rd (xs:Tmp → Option Value) (w:World) (x:Value) (h:AppQ c kk u X L W tx tr 0 xs w) (hx:xs tx = some x):RowQ c kk w u L ∧ RdA c kk w x X:=by
  rcases h.2 with ⟨_,_,h1,h2⟩ | ⟨h0,_⟩
  · exact ⟨h1,h2 x hx⟩
  · cases h0
theorem AppQ.out {v:Value} (h:AppQ c kk u X L W tx tr 1 xs w) (hv:xs tr = some v):Kept (OwnO u) W w ∧ RowQ c kk w v (L ++ X) ∧ Grows (OwnO u) W (OwnO v):=by
  obtain ⟨h1,h2⟩:=h
  rcases h2 with ⟨h0,_⟩ | ⟨_,v',h3,h4,h5⟩
  · cases h0
  · rw [hv] at h3
    injection h3 with h3
    subst h3
    exact ⟨h1,h4,h5⟩
end
end Go.Proofs.YtimdkcchjanpaaaGreatDoor
namespace Go.Proofs.YtimdkcchjanpaaaGreatDoor
open Go.RowKit
set_option linter.unusedVariables false
theorem sec_callF {P:Program} {ops:Array Oper} {W:World} {sec:List Tmp} {F:Tmp → Value → World → Prop} {o:Oper} {h:Act} {rest:List Oper} {Q:Act → Prop} {s:Tmp} {f:FuncId} {args:Array Value}
    (hw:Region.wanted o (yielded ops h.tmps) = true) (hn:noSel o = true) (hl:secOpenL ops sec o = true) (hd:o.dst = some s) (hs:sec.contains s = true)
    (hrun:∀ w,(execOp h.eval o).run P w = .ok (.enter f args) w) (hc:∀ q:Later W,Calls P f args q.w fun e w'' => ∃ u,e = .returned u ∧ Below q.w.heap.size q.w w'' ∧ F s u w'')
    (hk:wpSec P ops W sec F Q rest (h.put o.dst undef)):wpSec P ops W sec F Q (o :: rest) h:=by
  unfold wpSec
  rw [if_pos hw]
  refine ⟨undef,fun a w hb hlk => ?_,hk⟩
  rw [eval_open hl (noSel_spec hn) hlk,hrun w]
  refine ⟨rfl,(hc ⟨w,hb⟩).mono ?_⟩
  rintro e w'' ⟨u,he,hb',hF⟩
  refine ⟨u,he,hb', ?_⟩
  unfold secGood
  rw [hd]
  simp only
  rw [if_pos (by simpa using hs)]
  exact hF
end Go.Proofs.YtimdkcchjanpaaaGreatDoor
namespace Go.Proofs.YtimdkcchjanpaaaGreatDoor
open Go.RowKit
set_option linter.unusedVariables false
end Go.Proofs.YtimdkcchjanpaaaGreatDoor
namespace Go.Proofs.YtimdkcchjanpaaaGreatDoor
open Go.RowKit
set_option linter.unusedVariables false
theorem made_rep (z:Array Value) (n:Nat) (hz:0 < z.size):madeCells z (n * z.size) = ((List.replicate n z.toList).flatten).toArray:=by
  apply Array.ext'
  rw [List.toList_toArray]
  apply List.ext_getElem?
  intro i
  unfold madeCells
  simp only [Array.toList_map,Array.toList_range,List.getElem?_map]
  have hl:∀ n,((List.replicate n z.toList).flatten).length = n * z.size:=by
    intro n
    induction n with
    | zero => simp
    | succ n ih => rw [List.replicate_succ,List.flatten_cons,List.length_append,ih,Nat.add_mul]; simp; omega
  have hg:∀ n i,i < n * z.size → ((List.replicate n z.toList).flatten)[i]? = z[i % z.size]?:=by
    intro n
    induction n with
    | zero => intro i hi; omega
    | succ n ih =>
      intro i hi
      rw [List.replicate_succ,List.flatten_cons]
      by_cases h:i < z.size
      · rw [List.getElem?_append_left (by simpa using h),Nat.mod_eq_of_lt h]; simp
      · rw [List.getElem?_append_right (by simp; omega)]
        rw [Nat.add_mul] at hi
        have:=ih (i - z.size) (by omega)
        simp only [Array.length_toList]
        rw [this,Nat.mod_eq_sub_mod (show i ≥ z.size by omega)]
  by_cases hi:i < n * z.size
  · rw [hg n i hi,List.getElem?_range hi]
    have hm:i % z.size < z.size:=Nat.mod_lt _ hz
    simp [hm]
  · rw [List.getElem?_eq_none (by simp; omega),List.getElem?_eq_none (by rw [hl]; omega)]; rfl
theorem three_blocks (w:World) (A B C:Obj):(((w.alloc A).alloc B).alloc C).drew.heap[w.heap.size]? = some A ∧ (((w.alloc A).alloc B).alloc C).drew.heap[w.heap.size + 1]? = some B ∧ (((w.alloc A).alloc B).alloc C).drew.heap[w.heap.size + 1 + 1]? = some C ∧ Below w.heap.size w (((w.alloc A).alloc B).alloc C).drew:=by
  have s1:(w.alloc A).heap.size = w.heap.size + 1:=by simp
  have s2:((w.alloc A).alloc B).heap.size = w.heap.size + 1 + 1:=by simp
  have n1:=heap_alloc_new w A
  have n2:=heap_alloc_new (w.alloc A) B
  have n3:=heap_alloc_new ((w.alloc A).alloc B) C
  rw [s1] at n2
  rw [s2] at n3
  refine ⟨?_, ?_,n3, ?_⟩
  · show (((w.alloc A).alloc B).alloc C).heap[w.heap.size]? = _
    rw [Below.heap_alloc _ _ _ (by omega),Below.heap_alloc _ _ _ (by omega)]
    exact n1
  · show (((w.alloc A).alloc B).alloc C).heap[w.heap.size + 1]? = _
    rw [Below.heap_alloc _ _ _ (by omega)]
    exact n2
  · exact ((((Below.refl _ w).alloc (Nat.le_refl _) A).alloc (by omega) B).alloc (by omega) C).drew
end Go.Proofs.YtimdkcchjanpaaaGreatDoor
namespace Go.Proofs.YtimdkcchjanpaaaGreatDoor
open Go.RowKit
set_option linter.unusedVariables false
end Go.Proofs.YtimdkcchjanpaaaGreatDoor
namespace Go.Proofs.YtimdkcchjanpaaaGreatDoor
open Go.RowKit
set_option linter.unusedVariables false
theorem own_fresh {w w1:World} {o:Obj} {v3:Value} {w3:World} (hb:Below w.heap.size w w1) (hk:Kept (OwnO (.slice (some ⟨w1.heap.size,0,none⟩) 0 0)) (w1.alloc o) w3)
    (hg:Grows (OwnO (.slice (some ⟨w1.heap.size,0,none⟩) 0 0)) (w1.alloc o) (OwnO v3)):Below w.heap.size w w3 ∧ ∀ g,OwnO v3 g → w.heap.size ≤ g:=by
  have own:∀ k,OwnO (.slice (some ⟨w1.heap.size,0,none⟩) 0 0) k → k = w1.heap.size:=fun k h => by
    injection h with h
    exact h.symm
  have hs:=hb.size
  have ha:Below w.heap.size w (w1.alloc o):=hb.trans (((Below.refl w1.heap.size w1).alloc (Nat.le_refl _) o).mono hs)
  refine ⟨hk.below ha ha.size (fun k h => by rw [own k h]; exact hs),fun g h => ?_⟩
  rcases hg g h with h1 | h1
  · rw [own g h1]; exact hs
  · exact Nat.le_trans ha.size h1
theorem own_app {w w3 w4:World} {o:Obj} {v3 v4:Value} (hb:Below w.heap.size w w3) (ho:∀ g,OwnO v3 g → w.heap.size ≤ g) (hk:Kept (OwnO v3) (w3.alloc o) w4) (hg:Grows (OwnO v3) (w3.alloc o) (OwnO v4)):Below w.heap.size w w4 ∧ ∀ g,OwnO v4 g → w.heap.size ≤ g:=by
  have ha:Below w.heap.size w (w3.alloc o):=hb.trans (((Below.refl w3.heap.size w3).alloc (Nat.le_refl _) o).mono hb.size)
  refine ⟨hk.below ha ha.size ho,fun g h => ?_⟩
  rcases hg g h with h1 | h1
  · exact ho g h1
  · exact Nat.le_trans ha.size h1
theorem own_app2 {w w3 w4:World} {v3 v4:Value} (hb:Below w.heap.size w w3) (ho:∀ g,OwnO v3 g → w.heap.size ≤ g) (hk:Kept (OwnO v3) w3 w4) (hg:Grows (OwnO v3) w3 (OwnO v4)):Below w.heap.size w w4 ∧ ∀ g,OwnO v4 g → w.heap.size ≤ g:=by
  refine ⟨hk.below hb hb.size ho,fun g h => ?_⟩
  rcases hg g h with h1 | h1
  · exact ho g h1
  · exact Nat.le_trans hb.size h1
theorem RowQ.form {α:Type} {c:α → List Value} {k:Nat} {w:World} {v:Value} {L:List α} {a:α} (h:RowQ c k w v (L ++ [a])):∃ g o cap,v = .slice (some ⟨g,o,none⟩) (L.length + 1) cap:=by
  rcases h with ⟨_,h⟩ | ⟨g,o,cap,hv,_⟩
  · simp at h
  · exact ⟨g,o,cap,by rw [hv]; simp⟩
theorem RowQ.shape {α:Type} {c:α → List Value} {k:Nat} {w:World} {v:Value} {L:List α} (h:RowQ c k w v L):∃ A cap,v = .slice A L.length cap:=by
  rcases h with ⟨rfl,rfl⟩ | ⟨g,o,cap,hv,_⟩
  · exact ⟨none,0,rfl⟩
  · exact ⟨_,cap,hv⟩
theorem RowQ.formN {α:Type} {c:α → List Value} {k:Nat} {w:World} {v:Value} {L:List α} (h:RowQ c k w v L) (hl:0 < L.length):∃ g o cap,v = .slice (some ⟨g,o,none⟩) L.length cap:=by
  rcases h with ⟨_,h⟩ | ⟨g,o,cap,hv,_⟩
  · subst h; simp at hl
  · exact ⟨g,o,cap,hv⟩
end Go.Proofs.YtimdkcchjanpaaaGreatDoor
