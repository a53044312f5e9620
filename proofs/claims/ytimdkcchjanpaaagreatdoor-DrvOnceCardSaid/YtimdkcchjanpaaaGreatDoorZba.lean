/- Drv, the code: its parts (queue, controller, table) wherever they stand; what a driver is in memory. Box, plain: where no mailbox is the first free one, none .. -/
import Derived.Test.YtimdkcchjanpaaaGreatDoorZad
import Derived.Test.YtimdkcchjanpaaaGreatDoorZaj
import Derived.Test.YtimdkcchjanpaaaGreatDoorZal
import Derived.Test.YtimdkcchjanpaaaGreatDoorZau
import Derived.Test.YtimdkcchjanpaaaGreatDoorZav
import Derived.Test.YtimdkcchjanpaaaGreatDoorZaz
import Derived.Test.YtimdkcchjanpaaaGreatDoorZak
import Derived.Test.YtimdkcchjanpaaaGreatDoorZao
set_option maxHeartbeats 2000000
namespace Go.Proofs.YtimdkcchjanpaaaGreatDoor
open Go.RowKit
set_option linter.unusedVariables false
def BdP:PartP Bq:=fun C w s R => ∃ (gm:Nat) (D:DataW Value) (V:Nat → Value),C = bdC gm s.bands s.room (s.L.length:Nat) s.st ∧ R = (fun k => k = gm ∨ ∃ i:Nat,OwnO (V i) k) ∧ MapH Tryz.prog 3 w gm D ∧ SzN 1000 D ∧ (∀ i:Nat,AtM nilP D i (V i)) ∧ (∀ i:Nat,RowQ pkC 7 w (V i) (bandF s.L i)) ∧
  (∀ i:Nat, ¬ OwnO (V i) gm) ∧ ∀ i j:Nat,i ≠ j → Apart (OwnO (V i)) (OwnO (V j))
theorem bd_eq (TB:TypeId) (od:Nat) (X Y:List Value):BdD TB od X Y = Held BdP TB od X Y:=by
  funext w v s O
  refine propext ⟨?_, ?_⟩
  · rintro ⟨b,gm,D,V,rfl,rfl,h⟩
    refine ⟨b,_,_,rfl,rfl,h.box,h.off,⟨gm,D,V,rfl,rfl,h.map,h.size,h.here,h.row,fun i => (h.f1 i).2,h.f2⟩, ?_⟩
    rintro (h1 | ⟨i,h1⟩)
    · exact h.h1 h1
    · exact (h.f1 i).1 h1
  · rintro ⟨b,C,R,rfl,rfl,hb,ho,⟨gm,D,V,rfl,rfl,h1,h2,h3,h4,h5,h6⟩,hn⟩
    exact ⟨b,gm,D,V,rfl,rfl,⟨hb,ho,h1,h2,h3,h4,fun e => hn (.inl e),fun i => ⟨fun h => hn (.inr ⟨i,h⟩),h5 i⟩,h6⟩⟩
theorem part_key {w w':World} {R:Nat → Prop} (hl:∀ k,R k → k < w.heap.size) (hs:∀ k,R k → w'.heap[k]? = w.heap[k]?):∀ k,R k → k < w'.heap.size:=fun k hk => by
  have h1:=hl k hk
  have h2:=hs k hk
  rw [Array.getElem?_eq_getElem h1] at h2
  exact heap_some_lt h2
theorem isPart_bd:IsPart 5 BdP:=by
  have lt:∀ {C w s R},BdP C w s R → ∀ k,R k → k < w.heap.size:=by
    rintro C w s R ⟨gm,D,V,rfl,rfl,h1,h2,h3,h4,h5,h6⟩ k (rfl | ⟨i,hk⟩)
    · exact h1.lt
    · exact (h4 i).lt k hk
  refine ⟨?_, ?_,lt⟩
  · rintro C w s R ⟨gm,D,V,rfl,_⟩
    rfl
  · intro C w w' s R h hs
    have key:=part_key (lt h) hs
    obtain ⟨gm,D,V,rfl,rfl,h1,h2,h3,h4,h5,h6⟩:=h
    exact ⟨gm,D,V,rfl,rfl,h1.stay (hs gm (.inl rfl)),h2,h3,fun i => (h4 i).stayL (fun g hg => hs g (.inr ⟨i,hg⟩)) (fun g hg => key g (.inr ⟨i,hg⟩)),h5,h6⟩
def EkP:PartP Ec:=fun C w s R => ∃ (m:Nat) (Z:List (Option Nat)),C = [.slice (some ⟨m,0,none⟩) Z.length Z.length] ∧ R = (fun k => k = m ∨ ∃ i:Nat,Z[i]? = some (some k)) ∧ w.heap[m]? = some (.cells (Z.map ptV).toArray 159 (0,0)) ∧ (∀ i k,Z[i]? = some (some k) → BoxP w k (s.H.getD i pk0)) ∧
  (∀ (i:Nat) k,Z[i]? = some (some k) → k ≠ m) ∧ (∀ (i j:Nat) k,Z[i]? = some (some k) → Z[j]? = some (some k) → i = j) ∧ s.F = Z.map Option.isSome
theorem ek_eq (TB:TypeId) (od:Nat) (X Y:List Value):EkD TB od X Y = Held EkP TB od X Y:=by
  funext w v s O
  refine propext ⟨?_, ?_⟩
  · rintro ⟨b,m,Z,rfl,rfl,h⟩
    refine ⟨b, [.slice (some ⟨m,0,none⟩) Z.length Z.length],_,rfl,rfl,h.box,h.off,⟨m,Z,rfl,rfl,h.row,h.here,fun i k hk => (h.f1 i k hk).2,h.f2,h.full⟩, ?_⟩
    rintro (h1 | ⟨i,h1⟩)
    · exact h.h1 h1
    · exact (h.f1 i b h1).1 rfl
  · rintro ⟨b,C,R,rfl,rfl,hb,ho,⟨m,Z,rfl,rfl,h1,h2,h3,h4,h5⟩,hn⟩
    exact ⟨b,m,Z,rfl,rfl,⟨hb,ho,h1,h2,fun e => hn (.inl e),fun i k hk => ⟨fun e => hn (.inr ⟨i,e ▸ hk⟩),h3 i k hk⟩,h4,h5⟩⟩
theorem isPart_ek:IsPart 1 EkP:=by
  have lt:∀ {C w s R},EkP C w s R → ∀ k,R k → k < w.heap.size:=by
    rintro C w s R ⟨m,Z,rfl,rfl,h1,h2,h3,h4,h5⟩ k (rfl | ⟨i,hk⟩)
    · exact heap_some_lt h1
    · exact (h2 i k hk).lt
  refine ⟨?_, ?_,lt⟩
  · rintro C w s R ⟨m,Z,rfl,_⟩
    rfl
  · rintro C w w' s R ⟨m,Z,rfl,rfl,h1,h2,h3,h4,h5⟩ hs
    exact ⟨m,Z,rfl,rfl,(hs m (.inl rfl)).trans h1,fun i k hk => (hs k (.inr ⟨i,hk⟩)).trans (h2 i k hk),h3,h4,h5⟩
structure CkR (w:World) (g:Nat) (vt ve fa:Value) (M:List (Int × Pk)) (Of:Nat → Prop) (p:Option Addr) (S:List Fr) (f m n:Nat) (s:Ct):Prop where
  row:w.heap[g]? = some (.cells (rowG mbC M).toArray 170 (0,0))
  turn:RowQ inC 1 w vt s.bx.trn
  fin:RowQ inC 1 w ve s.bx.fin
  f1:¬ OwnO vt g
  f2:¬ OwnO ve g
  f3:Apart (OwnO vt) (OwnO ve)
  bs:BmS M s.bx
  rr:(p = none ∧ S = [] ∧ f = 0) ∨ ∃ q,p = some ⟨q,0,none⟩ ∧ w.heap[q]? = some (.cells (rowG frC S).toArray 35 (0,0)) ∧ f < S.length
  len:s.fifo.length ≤ S.length
  fit:S.length ≤ m
  lo:1 ≤ m
  hi:m ≤ 1000
  mem:∀ i,i < s.fifo.length → S[(f + i) % S.length]? = s.fifo[i]?
  ac:AccK w fa s.acc Of
  hm:s.room = m
  hn:s.lost = n
  a1:Apart (fun k => k = g ∨ OwnO vt k ∨ OwnO ve k) (rO p)
  a2:Apart (fun k => k = g ∨ OwnO vt k ∨ OwnO ve k) Of
  a3:Apart (rO p) Of
def ckQ (g:Nat) (vt ve:Value) (p:Option Addr) (Of:Nat → Prop):Nat → Prop:=fun k => (k = g ∨ OwnO vt k ∨ OwnO ve k) ∨ rO p k ∨ Of k
def CkP:PartP Ct:=fun C w s R => ∃ (g:Nat) (vt ve fa:Value) (M:List (Int × Pk)) (Of:Nat → Prop) (p:Option Addr) (S:List Fr) (f m n:Nat),C = ckS g M :: vt :: ve :: ckY fa p S.length (f:Int) (s.fifo.length:Int) (m:Int) (n:Int) s.asks ∧ R = ckQ g vt ve p Of ∧ CkR w g vt ve fa M Of p S f m n s
theorem ckO_eq (b g:Nat) (vt ve:Value) (p:Option Addr) (Of:Nat → Prop):ckO b g vt ve p Of = fun k => k = b ∨ ckQ g vt ve p Of k:=by
  funext k
  unfold ckO bmO ckQ
  refine propext ⟨?_, ?_⟩
  · rintro ((h | h | h | h) | h | h)
    · exact .inl h
    · exact .inr (.inl (.inl h))
    · exact .inr (.inl (.inr (.inl h)))
    · exact .inr (.inl (.inr (.inr h)))
    · exact .inr (.inr (.inl h))
    · exact .inr (.inr (.inr h))
  · rintro (h | (h | h | h) | h | h)
    · exact .inl (.inl h)
    · exact .inl (.inr (.inl h))
    · exact .inl (.inr (.inr (.inl h)))
    · exact .inl (.inr (.inr (.inr h)))
    · exact .inr (.inl h)
    · exact .inr (.inr h)
theorem ck_eq (TB:TypeId) (od:Nat) (X Y:List Value):CkD TB od X Y = Held CkP TB od X Y:=by
  funext w v s O
  refine propext ⟨?_, ?_⟩
  · rintro ⟨b,g,vt,ve,fa,M,Of,p,S,f,m,n,rfl,rfl,h⟩
    refine ⟨b,_,_,rfl,ckO_eq _ _ _ _ _ _,h.bm.box,h.bm.off,⟨g,vt,ve,fa,M,Of,p,S,f,m,n,rfl,rfl,⟨h.bm.row,h.bm.turn,h.bm.fin,h.bm.f1.2,h.bm.f2.2,h.bm.f3,h.bs, ?_,h.rf.len,h.rf.fit,h.rf.lo,h.rf.hi,h.rf.mem,h.ac,h.hm,h.hn,fun k h1 h2 => h.a1 k (.inr h1) h2,fun k h1 h2 => h.a2 k (.inr h1) h2,h.a3⟩⟩, ?_⟩
    · rcases h.rf.row with h1 | ⟨q,h1,h2,_,h3⟩
      · exact .inl h1
      · exact .inr ⟨q,h1,h2,h3⟩
    · rintro ((h1 | h1 | h1) | h1 | h1)
      · exact h.bm.h1 h1
      · exact h.bm.f1.1 h1
      · exact h.bm.f2.1 h1
      · exact h.a1 b (.inl rfl) h1
      · exact h.a2 b (.inl rfl) h1
  · rintro ⟨b,C,R,rfl,rfl,hb,ho,⟨g,vt,ve,fa,M,Of,p,S,f,m,n,rfl,rfl,h⟩,hn⟩
    have n1:∀ k,ckQ g vt ve p Of k → k ≠ b:=fun k hk e => hn (e ▸ hk)
    refine ⟨b,g,vt,ve,fa,M,Of,p,S,f,m,n,rfl,(ckO_eq _ _ _ _ _ _).symm,⟨⟨hb,ho,h.row,h.turn,h.fin,fun e => n1 g (.inl (.inl rfl)) e.symm,⟨fun h1 => hn (.inl (.inr (.inl h1))),h.f1⟩,⟨fun h1 => hn (.inl (.inr (.inr h1))),h.f2⟩,h.f3⟩,h.bs,⟨by rw [ck_box]; exact hb,by simp [ho], ?_,h.len,h.fit,h.lo,h.hi,h.mem⟩,h.ac,h.hm,h.hn, ?_, ?_,h.a3⟩⟩
    · rcases h.rr with h1 | ⟨q,h1,h2,h3⟩
      · exact .inl h1
      · exact .inr ⟨q,h1,h2,n1 q (.inr (.inl ⟨_,h1,rfl⟩)),h3⟩
    · rintro k (rfl | h1) h2
      · exact hn (.inr (.inl h2))
      · exact h.a1 k h1 h2
    · rintro k (rfl | h1) h2
      · exact hn (.inr (.inr h2))
      · exact h.a2 k h1 h2
theorem isPart_ck:IsPart 10 CkP:=by
  have lt:∀ {C w s R},CkP C w s R → ∀ k,R k → k < w.heap.size:=by
    rintro C w s R ⟨g,vt,ve,fa,M,Of,p,S,f,m,n,rfl,rfl,h⟩ k ((rfl | hk | hk) | hk | hk)
    · exact heap_some_lt h.row
    · exact h.turn.lt k hk
    · exact h.fin.lt k hk
    · obtain ⟨a,rfl,rfl⟩:=hk
      rcases h.rr with ⟨h1,_⟩ | ⟨q,h1,h2,_⟩
      · cases h1
      · injection h1 with h1; subst h1; exact heap_some_lt h2
    · exact h.ac.lt k hk
  refine ⟨?_, ?_,lt⟩
  · rintro C w s R ⟨g,vt,ve,fa,M,Of,p,S,f,m,n,rfl,_⟩
    rfl
  · intro C w w' s R h hs
    have key:=part_key (lt h) hs
    obtain ⟨g,vt,ve,fa,M,Of,p,S,f,m,n,rfl,rfl,h⟩:=h
    refine ⟨g,vt,ve,fa,M,Of,p,S,f,m,n,rfl,rfl,⟨(hs g (.inl (.inl rfl))).trans h.row,h.turn.stayL (fun k hk => hs k (.inl (.inr (.inl hk)))) (fun k hk => key k (.inl (.inr (.inl hk)))),h.fin.stayL (fun k hk => hs k (.inl (.inr (.inr hk)))) (fun k hk => key k (.inl (.inr (.inr hk)))),
      h.f1,h.f2,h.f3,h.bs, ?_,h.len,h.fit,h.lo,h.hi,h.mem,h.ac.stay (fun k hk => hs k (.inr (.inr hk))),h.hm,h.hn,h.a1,h.a2,h.a3⟩⟩
    rcases h.rr with h1 | ⟨q,h1,h2,h3⟩
    · exact .inl h1
    · exact .inr ⟨q,h1,(hs q (.inr (.inl ⟨_,h1,rfl⟩))).trans h2,h3⟩
def cgC (c:Cg):List Value := [.int .i64 c.bo, .int .i64 c.fi, .int .i64 c.ba, .int .i64 c.de, .int .i64 c.qu, .int .i64 c.no, .int .i64 c.re, .slice c.A c.n c.cp]
def sxC (x:Sx):List Value := [.int .i64 x.tf, .int .i64 x.tb, .int .i64 x.rf, .int .i64 x.rb, .int .i64 x.ab, .int .i64 x.fx]
structure DkM (w:World) (b:Nat) (st:Int) (cg:Cg) (sx:Sx) (L:List Flt) (q:Bq) (c:Ct) (e:Ec) (R:Nat → Nat → Prop) (Cq Cc Ce:List Value):Prop where
  box:w.heap[b]? = some (.cells (.int .i64 st :: (Cq ++ (cgC cg ++ (Cc ++ (Ce ++ sxC sx))))).toArray 102 (0,0))
  q:BdP Cq w q (R 0)
  c:CkP Cc w c (R 1)
  e:EkP Ce w e (R 2)
  k:RowQ flC 3 w cg.va L
  hk:R 3 = OwnO cg.va
  pt:Parts w b R
  fit:∀ x ∈ L,x.fits
  few:cg.n ≤ 50
def Dk (w:World) (b:Nat) (st:Int) (cg:Cg) (sx:Sx) (L:List Flt) (q:Bq) (c:Ct) (e:Ec) (R:Nat → Nat → Prop):Prop := ∃ Cq Cc Ce,DkM w b st cg sx L q c e R Cq Cc Ce
abbrev dkT:TypeId:=102
section
variable {w w':World} {b:Nat} {st:Int} {cg:Cg} {sx:Sx} {L:List Flt} {q:Bq} {c:Ct} {e:Ec} {R:Nat → Nat → Prop} {Cq Cc Ce:List Value}
theorem DkM.lenQ (h:DkM w b st cg sx L q c e R Cq Cc Ce):Cq.length = 5:=isPart_bd.len h.q
theorem DkM.lenC (h:DkM w b st cg sx L q c e R Cq Cc Ce):Cc.length = 10:=isPart_ck.len h.c
theorem DkM.lenE (h:DkM w b st cg sx L q c e R Cq Cc Ce):Ce.length = 1:=isPart_ek.len h.e
theorem DkM.stay (h:DkM w b st cg sx L q c e R Cq Cc Ce) (hz:w.heap.size ≤ w'.heap.size) (hs:∀ k,ownR b R k → w'.heap[k]? = w.heap[k]?):DkM w' b st cg sx L q c e R Cq Cc Ce :=
  ⟨(hs b (.inl rfl)).trans h.box,isPart_bd.stay h.q (fun k hk => hs k (.inr ⟨0,hk⟩)),isPart_ck.stay h.c (fun k hk => hs k (.inr ⟨1,hk⟩)),isPart_ek.stay h.e (fun k hk => hs k (.inr ⟨2,hk⟩)),
    h.k.stay (fun k hk => hs k (.inr ⟨3,by rw [h.hk]; exact hk⟩)) hz,h.hk,h.pt.size hz,h.fit,h.few⟩
theorem DkM.later (h:DkM w b st cg sx L q c e R Cq Cc Ce) (hb:Below w.heap.size w w'):DkM w' b st cg sx L q c e R Cq Cc Ce:=h.stay hb.size (fun k hk => hb.block k (h.pt.ownLt k hk))
theorem DkM.atQ (h:DkM w b st cg sx L q c e R Cq Cc Ce):BdD dkT 1 [.int .i64 st] (cgC cg ++ (Cc ++ (Ce ++ sxC sx))) w (.pointer (some ⟨b,1,none⟩)) q (fun k => k = b ∨ R 0 k):=by
  rw [bd_eq]
  exact ⟨b,Cq,R 0,rfl,rfl,h.box,rfl,h.q,h.pt.nb 0⟩
theorem DkM.atC (h:DkM w b st cg sx L q c e R Cq Cc Ce):CkD dkT 14 (.int .i64 st :: (Cq ++ cgC cg)) (Ce ++ sxC sx) w (.pointer (some ⟨b,14,none⟩)) c (fun k => k = b ∨ R 1 k):=by
  rw [ck_eq]
  refine ⟨b,Cc,R 1,rfl,rfl, ?_,by simp [h.lenQ,cgC],h.c,h.pt.nb 1⟩
  rw [show (Value.int .i64 st :: (Cq ++ cgC cg)) ++ (Cc ++ (Ce ++ sxC sx)) = .int .i64 st :: (Cq ++ (cgC cg ++ (Cc ++ (Ce ++ sxC sx)))) by simp]
  exact h.box
theorem DkM.atE (h:DkM w b st cg sx L q c e R Cq Cc Ce):EkD dkT 24 (.int .i64 st :: (Cq ++ (cgC cg ++ Cc))) (sxC sx) w (.pointer (some ⟨b,24,none⟩)) e (fun k => k = b ∨ R 2 k):=by
  rw [ek_eq]
  refine ⟨b,Ce,R 2,rfl,rfl, ?_,by simp [h.lenQ,h.lenC,cgC],h.e,h.pt.nb 2⟩
  rw [show (Value.int .i64 st :: (Cq ++ (cgC cg ++ Cc))) ++ (Ce ++ sxC sx) = .int .i64 st :: (Cq ++ (cgC cg ++ (Cc ++ (Ce ++ sxC sx)))) by simp]
  exact h.box
theorem DkM.onQ {q':Bq} (h:DkM w b st cg sx L q c e R Cq Cc Ce) (hs:Stp (BdD dkT 1 [.int .i64 st] (cgC cg ++ (Cc ++ (Ce ++ sxC sx)))) (.pointer (some ⟨b,1,none⟩)) (fun k => k = b ∨ R 0 k) w q' w') :
    ∃ R',Dk w' b st cg sx L q' c e R' ∧ Kept (ownR b R) w w' ∧ Grows (ownR b R) w (ownR b R'):=by
  rw [bd_eq] at hs
  obtain ⟨C',Q,hb,hP,hn,hk,hg⟩:=part_step hs
  have ho:=fun j hj => h.pt.other (i:=0) hk (j:=j) hj
  refine ⟨setR R 0 Q,⟨C',Cc,Ce,hb,hP,isPart_ck.stay h.c (ho 1 (by decide)),isPart_ek.stay h.e (ho 2 (by decide)), ?_,h.hk,h.pt.set hk.size (isPart_bd.lt hP) hn hg,h.fit,h.few⟩,ownR_kept hk,ownR_set hg⟩
  exact h.k.stay (fun k hk' => ho 3 (by decide) k (by rw [h.hk]; exact hk')) hk.size
theorem DkM.onC {c':Ct} (h:DkM w b st cg sx L q c e R Cq Cc Ce) (hs:Stp (CkD dkT 14 (.int .i64 st :: (Cq ++ cgC cg)) (Ce ++ sxC sx)) (.pointer (some ⟨b,14,none⟩)) (fun k => k = b ∨ R 1 k) w c' w') :
    ∃ R',Dk w' b st cg sx L q c' e R' ∧ Kept (ownR b R) w w' ∧ Grows (ownR b R) w (ownR b R'):=by
  rw [ck_eq] at hs
  obtain ⟨C',Q,hb,hP,hn,hk,hg⟩:=part_step hs
  have ho:=fun j hj => h.pt.other (i:=1) hk (j:=j) hj
  refine ⟨setR R 1 Q,⟨Cq,C',Ce, ?_,isPart_bd.stay h.q (ho 0 (by decide)),hP,isPart_ek.stay h.e (ho 2 (by decide)), ?_,h.hk,h.pt.set hk.size (isPart_ck.lt hP) hn hg,h.fit,h.few⟩,ownR_kept hk,ownR_set hg⟩
  · rw [show Value.int .i64 st :: (Cq ++ (cgC cg ++ (C' ++ (Ce ++ sxC sx)))) = (Value.int .i64 st :: (Cq ++ cgC cg)) ++ (C' ++ (Ce ++ sxC sx)) by simp]
    exact hb
  · exact h.k.stay (fun k hk' => ho 3 (by decide) k (by rw [h.hk]; exact hk')) hk.size
theorem DkM.onE {e':Ec} (h:DkM w b st cg sx L q c e R Cq Cc Ce) (hs:Stp (EkD dkT 24 (.int .i64 st :: (Cq ++ (cgC cg ++ Cc))) (sxC sx)) (.pointer (some ⟨b,24,none⟩)) (fun k => k = b ∨ R 2 k) w e' w') :
    ∃ R',Dk w' b st cg sx L q c e' R' ∧ Kept (ownR b R) w w' ∧ Grows (ownR b R) w (ownR b R'):=by
  rw [ek_eq] at hs
  obtain ⟨C',Q,hb,hP,hn,hk,hg⟩:=part_step hs
  have ho:=fun j hj => h.pt.other (i:=2) hk (j:=j) hj
  refine ⟨setR R 2 Q,⟨Cq,Cc,C', ?_,isPart_bd.stay h.q (ho 0 (by decide)),isPart_ck.stay h.c (ho 1 (by decide)),hP, ?_,h.hk,h.pt.set hk.size (isPart_ek.lt hP) hn hg,h.fit,h.few⟩,ownR_kept hk,ownR_set hg⟩
  · rw [show Value.int .i64 st :: (Cq ++ (cgC cg ++ (Cc ++ (C' ++ sxC sx)))) = (Value.int .i64 st :: (Cq ++ (cgC cg ++ Cc))) ++ (C' ++ sxC sx) by simp]
    exact hb
  · exact h.k.stay (fun k hk' => ho 3 (by decide) k (by rw [h.hk]; exact hk')) hk.size
theorem DkM.cell0 (h:DkM w b st cg sx L q c e R Cq Cc Ce):w.cell? ⟨b,0,none⟩ = some (.int .i64 st):=by rw [Lib.cell_of_heap h.box]; simp
theorem DkM.live (h:DkM w b st cg sx L q c e R Cq Cc Ce) (j:Nat):w.frozen? ⟨b,j,none⟩ = false:=Lib.frozen_of_heap h.box j
theorem DkM.cells6 (h:DkM w b st cg sx L q c e R Cq Cc Ce):∀ j v,(cgC cg)[j]? = some v → w.cell? ⟨b,6 + j,none⟩ = some v:=fun j v hv => by
  rw [Lib.cell_of_heap h.box,show Value.int .i64 st :: (Cq ++ (cgC cg ++ (Cc ++ (Ce ++ sxC sx)))) = (Value.int .i64 st :: Cq) ++ (cgC cg ++ (Cc ++ (Ce ++ sxC sx))) by simp,getX (by simp [h.lenQ])]
  rw [List.getElem?_append_left (by
    rcases Nat.lt_or_ge j (cgC cg).length with h | h
    · exact h
    · rw [List.getElem?_eq_none h] at hv; cases hv)]
  exact hv
theorem DkM.cells25 (h:DkM w b st cg sx L q c e R Cq Cc Ce):∀ j v,(sxC sx)[j]? = some v → w.cell? ⟨b,25 + j,none⟩ = some v:=fun j v hv => by
  rw [Lib.cell_of_heap h.box,show Value.int .i64 st :: (Cq ++ (cgC cg ++ (Cc ++ (Ce ++ sxC sx)))) = (Value.int .i64 st :: (Cq ++ (cgC cg ++ (Cc ++ Ce)))) ++ sxC sx by simp,getX (by simp [h.lenQ,h.lenC,h.lenE,cgC])]
  exact hv
theorem DkM.setB {v:Value} {j:Nat} {st':Int} {sx':Sx} (h:DkM w b st cg sx L q c e R Cq Cc Ce) (hc:(Value.int .i64 st :: (Cq ++ (cgC cg ++ (Cc ++ (Ce ++ sxC sx))))).set j v = Value.int .i64 st' :: (Cq ++ (cgC cg ++ (Cc ++ (Ce ++ sxC sx'))))) :
    DkM (w.setCell ⟨b,j,none⟩ v) b st' cg sx' L q c e R Cq Cc Ce ∧ Kept (ownR b R) w (w.setCell ⟨b,j,none⟩ v):=by
  have hz:w.heap.size ≤ (w.setCell ⟨b,j,none⟩ v).heap.size:=by simp [World.setCell]
  have ho:∀ k,k ≠ b → (w.setCell ⟨b,j,none⟩ v).heap[k]? = w.heap[k]?:=fun k hk => Below.heap_setCell _ _ _ _ hk
  have hR:∀ i k,R i k → (w.setCell ⟨b,j,none⟩ v).heap[k]? = w.heap[k]?:=fun i k hk => ho k (fun e => h.pt.nb i (e ▸ hk))
  refine ⟨⟨?_,isPart_bd.stay h.q (hR 0),isPart_ck.stay h.c (hR 1),isPart_ek.stay h.e (hR 2),h.k.stay (fun k hk => hR 3 k (by rw [h.hk]; exact hk)) hz,h.hk,h.pt.size hz,h.fit,h.few⟩,⟨rfl,rfl,rfl,hz,fun k _ hk => ho k (fun e => hk (.inl e))⟩⟩
  rw [heap_setCell_same w b j _ _ _ h.box,List.setIfInBounds_toArray,hc]
theorem DkM.setSt (h:DkM w b st cg sx L q c e R Cq Cc Ce) (st':Int):DkM (w.setCell ⟨b,0,none⟩ (.int .i64 st')) b st' cg sx L q c e R Cq Cc Ce ∧ Kept (ownR b R) w (w.setCell ⟨b,0,none⟩ (.int .i64 st')):=h.setB rfl
theorem DkM.setSx {j:Nat} {v:Value} {sx':Sx} (h:DkM w b st cg sx L q c e R Cq Cc Ce) (hv:(sxC sx).set j v = sxC sx'):DkM (w.setCell ⟨b,25 + j,none⟩ v) b st cg sx' L q c e R Cq Cc Ce ∧ Kept (ownR b R) w (w.setCell ⟨b,25 + j,none⟩ v):=by
  refine h.setB ?_
  have e:∀ y,Value.int .i64 st :: (Cq ++ (cgC cg ++ (Cc ++ (Ce ++ y)))) = (Value.int .i64 st :: (Cq ++ (cgC cg ++ (Cc ++ Ce)))) ++ y:=fun y => by simp
  rw [e,e,List.set_append_right _ _ (by simp [h.lenQ,h.lenC,h.lenE,cgC])]
  rw [show 25 + j - (Value.int .i64 st :: (Cq ++ (cgC cg ++ (Cc ++ Ce)))).length = j by simp [h.lenQ,h.lenC,h.lenE,cgC],hv]
end
end Go.Proofs.YtimdkcchjanpaaaGreatDoor
namespace Go.Proofs.YtimdkcchjanpaaaGreatDoor
open Go.RowKit
set_option linter.unusedVariables false
theorem free_no {s:Bx}:∀ {k},k ≤ s.S.length → s.first k = none → s.free k = 0
  | 0,_,_ => by simp [Bx.free]
  | k + 1,hk,h => by
    unfold Bx.first at h
    cases hf:s.first k with
    | some i => rw [hf] at h; cases h
    | none =>
      rw [hf] at h
      simp only at h
      have ih:=free_no (by omega) hf
      rw [Bx.free_succ s (by omega),ih]
      split
      · rename_i h0
        rw [if_pos (by rw [List.getD_eq_getElem?_getD,List.getElem?_eq_getElem (by omega)]; exact h0)] at h
        cases h
      · rfl
end Go.Proofs.YtimdkcchjanpaaaGreatDoor
namespace Go.Proofs.YtimdkcchjanpaaaGreatDoor
open Go.RowKit
set_option linter.unusedVariables false
structure TabE (e:Ec) (x:Bx):Prop where
  lH:e.H.length = x.S.length
  lF:e.F.length = x.S.length
  F:∀ i,e.F.getD i false = decide (x.S.getD i 0 ≠ 0)
  H:∀ i,x.S.getD i 0 ≠ 0 → e.H.getD i pk0 = x.P.getD i pk0
  pz:∀ i,x.S.getD i 0 = 0 → x.P.getD i pk0 = pk0
theorem getD_rep {α:Type} (n i:Nat) (a:α):(List.replicate n a).getD i a = a:=by
  rw [List.getD_eq_getElem?_getD,List.getElem?_replicate]
  split <;> rfl
theorem TabE.new (n:Nat):TabE (ecNew n) (bxNew n) :=
  ⟨by simp [ecNew,bxNew],by simp [ecNew,bxNew],fun i => by
    show (List.replicate n false).getD i false = decide ((List.replicate n (0:Int)).getD i 0 ≠ 0)
    rw [getD_rep,getD_rep]; rfl,fun i h => (h (getD_rep _ _ _)).elim,fun i _ => getD_rep _ _ _⟩
theorem TabE.ok {e:Ec} {x:Bx} (h:TabE e x) (ok:x.Ok):e.Ok:=⟨h.lH.trans h.lF.symm,by rw [h.lF]; exact ok.n1,by rw [h.lF]; exact ok.n2⟩
theorem TabE.same {e:Ec} {x y:Bx} (h:TabE e x) (hl:y.S.length = x.S.length) (hS:∀ i,y.S.getD i 0 = 0 ↔ x.S.getD i 0 = 0) (hP:y.P = x.P):TabE e y :=
  ⟨h.lH.trans hl.symm,h.lF.trans hl.symm,fun i => by rw [h.F i]; exact decide_eq_decide.2 (not_congr (hS i).symm),fun i hi => by rw [hP]; exact h.H i (fun e => hi ((hS i).2 e)),fun i hi => by rw [hP]; exact h.pz i ((hS i).1 hi)⟩
theorem TabE.end_ {e:Ec} {x:Bx} (h:TabE e x) (b:Int) {st:Int} (hst:st ≠ 0):TabE e (x.end_ b st).1:=by
  unfold Bx.end_
  split
  · exact h
  · rename_i hn
    refine h.same (by simp [Bx.endAt]) (fun i => ?_) rfl
    show (x.S.set b.toNat st).getD i 0 = 0 ↔ _
    rw [getD_set']
    split
    · rename_i h1
      have h2:x.S.getD b.toNat 0 = 1:=Decidable.byContradiction fun h3 => hn (.inr (.inr h3))
      rw [← h1.1,h2]
      exact ⟨fun h => (hst h).elim,fun h => by cases h⟩
    · exact Iff.rfl
theorem TabE.abs {e:Ec} {x:Bx} (h:TabE e x):∀ k,TabE e (x.abs k).1
  | 0 => h
  | k + 1 => (TabE.abs h k).end_ _ (by decide)
theorem TabE.put {e:Ec} {x:Bx} {p:Pk} (h:TabE e x) (hk:0 ≤ keyG p.f) (hf:x.free x.S.length ≠ 0) (ok:x.Ok) :
    ∃ i:Nat,x.put p = (x.putAt i p,(i:Int),0) ∧ (e.put i p).2 = 0 ∧ TabE (e.put i p).1 (x.putAt i p):=by
  cases hi:x.first x.S.length with
  | none => exact absurd (free_no (Nat.le_refl _) hi) hf
  | some i =>
    obtain ⟨h1,h2⟩:=Bx.first_some hi
    have h3:x.S.getD i 0 = 0:=by rw [List.getD_eq_getElem?_getD,List.getElem?_eq_getElem h1] at h2 ⊢; exact h2
    have hp:=ec_put (s:=e) (i:=i) (by rw [h.lF]; exact h1) (by rw [h.F i,h3]; rfl) p
    refine ⟨i,by unfold Bx.put; rw [if_neg (by omega),hi],by rw [hp], ?_⟩
    rw [hp]
    have hlP:=ok.lp
    refine ⟨by simp [Bx.putAt,h.lH],by simp [Bx.putAt,h.lF],fun j => ?_,fun j hj => ?_,fun j hj => ?_⟩
    · show (e.F.set i true).getD j false = decide ((x.S.set i 1).getD j 0 ≠ 0)
      rw [getD_set',getD_set',h.lF]
      split
      · rfl
      · exact h.F j
    · show (e.H.set i p).getD j pk0 = (x.P.set i p).getD j pk0
      change (x.S.set i 1).getD j 0 ≠ 0 at hj
      rw [getD_set'] at hj ⊢
      rw [getD_set',h.lH,hlP]
      split
      · rfl
      · rename_i h4
        rw [if_neg h4] at hj
        exact h.H j hj
    · show (x.P.set i p).getD j pk0 = pk0
      change (x.S.set i 1).getD j 0 = 0 at hj
      rw [getD_set'] at hj ⊢
      rw [hlP]
      split
      · rename_i h4
        rw [if_pos h4] at hj
        cases hj
      · rename_i h4
        rw [if_neg h4] at hj
        exact h.pz j hj
theorem TabE.take {e:Ec} {x:Bx} {y:Int} {r:List Int} (h:TabE e x) (ok:x.Ok) (hf:x.fin = y :: r) :
    (e.get x.tk.1).2.1 = x.tk.2.1 ∧ (e.get x.tk.1).2.2 = 0 ∧ TabE (e.get x.tk.1).1 x.take.1 ∧ x.tk = (x.take.2.1,x.take.2.2.1,x.take.2.2.2,0):=by
  obtain ⟨h1,h2,h3⟩:=ok.fin y (by rw [hf]; simp)
  obtain ⟨n,rfl⟩:=Int.eq_ofNat_of_zero_le h1
  have hn:n < x.S.length:=by omega
  rw [Int.toNat_natCast] at h3
  have h0:x.S.getD n 0 ≠ 0:=by rcases h3 with h3 | h3 <;> rw [h3] <;> decide
  have ht:x.tk = (x.take.2.1,x.take.2.2.1,x.take.2.2.2,0):=by unfold Bx.tk; rw [hf]
  have ht2:x.take = ({ x with S:=x.S.set n 0,P:=x.P.set n pk0,fin:=r },(n:Int),x.P.getD n pk0,x.S.getD n 0 == 2):=by unfold Bx.take; rw [hf]; rfl
  have hg:=ec_get (s:=e) (i:=n) (by rw [h.lF]; exact hn) (by rw [h.F n]; exact decide_eq_true h0)
  rw [ht,ht2]
  simp only
  rw [hg]
  refine ⟨h.H n h0,rfl,⟨by simp [h.lH],by simp [h.lF],fun j => ?_,fun j hj => ?_,fun j hj => ?_⟩,trivial⟩
  · show (e.F.set n false).getD j false = decide ((x.S.set n 0).getD j 0 ≠ 0)
    rw [getD_set',getD_set',h.lF]
    split
    · rfl
    · exact h.F j
  · show e.H.getD j pk0 = (x.P.set n pk0).getD j pk0
    change (x.S.set n 0).getD j 0 ≠ 0 at hj
    rw [getD_set'] at hj ⊢
    rw [ok.lp]
    split
    · rename_i h4; rw [if_pos h4] at hj; exact (hj rfl).elim
    · rename_i h4; rw [if_neg h4] at hj; exact h.H j hj
  · show (x.P.set n pk0).getD j pk0 = pk0
    change (x.S.set n 0).getD j 0 = 0 at hj
    rw [getD_set'] at hj ⊢
    rw [ok.lp]
    split
    · rfl
    · rename_i h4; rw [if_neg h4] at hj; exact h.pz j hj
theorem TabE.all0 {e:Ec} {x:Bx} (h:TabE e x) (ok:x.Ok) (hS:∀ i,x.S.getD i 0 = 0) (ho:x.ord = []) (hf:x.fin = []):x = bxNew x.S.length:=by
  have e1:x.S = List.replicate x.S.length 0:=List.eq_replicate_iff.2 ⟨rfl,fun a ha => by
    obtain ⟨i,hi,rfl⟩:=List.getElem_of_mem ha
    have:=hS i
    rwa [List.getD_eq_getElem?_getD,List.getElem?_eq_getElem hi] at this⟩
  have e2:x.P = List.replicate x.S.length pk0:=List.eq_replicate_iff.2 ⟨ok.lp,fun a ha => by
    obtain ⟨i,hi,rfl⟩:=List.getElem_of_mem ha
    have:=h.pz i (hS i)
    rwa [List.getD_eq_getElem?_getD,List.getElem?_eq_getElem hi] at this⟩
  obtain ⟨S,P,o,f⟩:=x
  simp only at ho hf e1 e2 ⊢
  subst ho hf
  unfold bxNew
  rw [← e1,← e2]
theorem full_free {x:Bx} (hf:x.Full) (ho:x.ord = []) (hn:x.fin = []):∀ i,x.S.getD i 0 = 0:=by
  have h:=hf.cnt
  rw [ho,hn] at h
  simp only [List.length_nil,Nat.add_zero] at h
  unfold Bx.free at h
  rw [List.take_length] at h
  have h2:=(List.length_filter_eq_length_iff.1 h)
  intro i
  rw [List.getD_eq_getElem?_getD]
  cases hi:x.S[i]? with
  | none => rfl
  | some a => simpa using h2 a (List.mem_of_getElem? hi)
theorem end_S {x:Bx} {b st:Int} (hst:st ≠ 1) (hb:0 ≤ b):(x.end_ b st).1.S.getD b.toNat 0 ≠ 1 ∧ ∀ j,x.S.getD j 0 ≠ 1 → (x.end_ b st).1.S.getD j 0 ≠ 1:=by
  unfold Bx.end_
  split
  · rename_i h
    refine ⟨?_,fun j hj => hj⟩
    rcases h with h | h | h
    · omega
    · show x.S.getD b.toNat 0 ≠ 1
      rw [List.getD_eq_getElem?_getD,List.getElem?_eq_none (by omega)]
      decide
    · exact h
  · rename_i hn
    have hl:b.toNat < x.S.length:=by
      rcases Int.lt_or_le b x.S.length with h | h
      · omega
      · exact absurd (.inr (.inl h)) hn
    refine ⟨?_,fun j hj => ?_⟩
    · show (x.S.set b.toNat st).getD b.toNat 0 ≠ 1
      rw [getD_set',if_pos ⟨rfl,hl⟩]; exact hst
    · show (x.S.set b.toNat st).getD j 0 ≠ 1
      rw [getD_set']
      split
      · exact hst
      · exact hj
theorem abs_S (x:Bx):∀ k j,j < k → (x.abs k).1.S.getD j 0 ≠ 1
  | k + 1,j,hj => by
    obtain ⟨h1,h2⟩:=end_S (x:=(x.abs k).1) (b:=(k:Int)) (st:=3) (by decide) (by omega)
    show (((x.abs k).1.end_ (k:Int) 3).1).S.getD j 0 ≠ 1
    rcases Nat.lt_or_ge j k with h | h
    · exact h2 j (abs_S x k j h)
    · obtain rfl:j = k:=by omega
      simpa using h1
theorem abs_ord {x:Bx} (ok:x.Ok):(x.abs x.S.length).1.ord = []:=by
  have h:=Bx.Ok.abs ok x.S.length
  cases ho:(x.abs x.S.length).1.ord with
  | nil => rfl
  | cons y r =>
    obtain ⟨h1,h2,h3⟩:=h.ord y (by rw [ho]; simp)
    rw [Bx.abs_len] at h2
    exact absurd h3 (abs_S x _ _ (by omega))
theorem take_ord (x:Bx):x.take.1.ord = x.ord ∧ x.take.1.S.length = x.S.length:=by
  unfold Bx.take
  split
  · exact ⟨rfl,rfl⟩
  · exact ⟨rfl,by simp⟩
structure DkS (s:Dr) (cg:Cg) (L:List Flt) (q:Bq) (c:Ct) (e:Ec):Prop where
  bo:cg.bo = s.c.bo
  fi:cg.fi = s.c.fi
  la:L = s.la
  qL:q.L = s.q.L
  qb:q.bands = s.q.bands
  qr:q.room = s.q.room
  cx:c.bx = s.ct.bx
  cf:c.fifo = s.ct.fifo
  cr:c.room = s.ct.room
  ca:c.acc = s.ct.acc
  ls:s.st ≠ 0 → c.lost = s.ct.lost
  ak:0 ≤ c.asks ∧ c.asks < 16
  l0:0 ≤ c.lost
  te:TabE e c.bx
  nb:c.bx.S.length = boxesN s.c.bo
  nq:q.bands = roomN s.c.ba
  nr:q.room = roomN s.c.de
  nf:c.room = roomN s.c.fi
  dn:s.st = 0 → q.L = [] ∧ ∀ i,c.bx.S.getD i 0 = 0
section
variable {s:Dr} {cg:Cg} {L:List Flt} {q:Bq} {c:Ct} {e:Ec} {B:Int}
theorem DkS.cOk (h:DkS s cg L q c e) (ok:s.Ok B):c.Ok :=
  ⟨by rw [h.cx]; exact ok.ct.bx,h.ak,by rw [h.cr]; exact ok.ct.room,by rw [h.cf,h.cr]; exact ok.ct.fifo,h.l0⟩
theorem DkS.qOk (h:DkS s cg L q c e) (ok:s.Ok B):q.Ok :=
  ⟨by rw [h.qb]; exact ok.q.bands,by rw [h.qr]; exact ok.q.room,by rw [h.qL,h.qr]; exact ok.q.len,by rw [h.qL,h.qb]; exact ok.q.rng⟩
end
def DkD (w:World) (v:Value) (s:Dr) (O:Nat → Prop):Prop := ∃ b cg L q c e R,v = .pointer (some ⟨b,0,none⟩) ∧ O = ownR b R ∧ Dk w b s.st cg s.sx L q c e R ∧ DkS s cg L q c e ∧ TabO (ownR b R)
theorem isObj_dk:IsObj DkD where
  stay:=by
    rintro w w' v s O ⟨b,cg,L,q,c,e,R,rfl,rfl,⟨Cq,Cc,Ce,h⟩,hs,hT⟩ hh
    have key:=part_key h.pt.ownLt hh
    refine ⟨b,cg,L,q,c,e,R,rfl,rfl,⟨Cq,Cc,Ce, ?_⟩,hs,hT⟩
    exact ⟨(hh b (.inl rfl)).trans h.box,isPart_bd.stay h.q (fun k hk => hh k (.inr ⟨0,hk⟩)),isPart_ck.stay h.c (fun k hk => hh k (.inr ⟨1,hk⟩)),isPart_ek.stay h.e (fun k hk => hh k (.inr ⟨2,hk⟩)),
      h.k.stayL (fun k hk => hh k (.inr ⟨3,by rw [h.hk]; exact hk⟩)) (fun k hk => key k (.inr ⟨3,by rw [h.hk]; exact hk⟩)),h.hk,⟨key b (.inl rfl),fun i k hk => key k (.inr ⟨i,hk⟩),h.pt.nb,h.pt.ap⟩,h.fit,h.few⟩
  lt:=by
    rintro w v s O ⟨b,cg,L,q,c,e,R,rfl,rfl,⟨Cq,Cc,Ce,h⟩,hs,hT⟩
    exact h.pt.ownLt
def DkW (W:World) (O:Nat → Prop) (b:Nat) (st:Int) (cg:Cg) (sx:Sx) (L:List Flt) (q:Bq) (c:Ct) (e:Ec) (w:World):Prop := ∃ R,Dk w b st cg sx L q c e R ∧ Kept O W w ∧ Grows O W (ownR b R)
section
variable {W w w':World} {O:Nat → Prop} {b:Nat} {st:Int} {cg:Cg} {sx:Sx} {L:List Flt} {q:Bq} {c:Ct} {e:Ec}
theorem Dk.start {R:Nat → Nat → Prop} (h:Dk W b st cg sx L q c e R):DkW W (ownR b R) b st cg sx L q c e W:=⟨R,h,Kept.refl _ _,Grows.refl _ _⟩
theorem DkW.later (h:DkW W O b st cg sx L q c e w) (hb:Below w.heap.size w w'):DkW W O b st cg sx L q c e w':=by
  obtain ⟨R,⟨Cq,Cc,Ce,h1⟩,h2,h3⟩:=h
  exact ⟨R,⟨Cq,Cc,Ce,h1.later hb⟩,h2.trans (.of_below (O:=O) hb) (Grows.refl _ _),h3⟩
theorem DkW.blt (h:DkW W O b st cg sx L q c e w):b < w.heap.size:=by
  obtain ⟨R,⟨Cq,Cc,Ce,h1⟩,_⟩:=h
  exact h1.pt.blk
theorem DkW.live (h:DkW W O b st cg sx L q c e w) (j:Nat):w.frozen? ⟨b,j,none⟩ = false:=by
  obtain ⟨R,⟨Cq,Cc,Ce,h1⟩,_⟩:=h
  exact h1.live j
theorem DkW.cell0 (h:DkW W O b st cg sx L q c e w):w.cell? ⟨b,0,none⟩ = some (.int .i64 st):=by
  obtain ⟨R,⟨Cq,Cc,Ce,h1⟩,_⟩:=h
  exact h1.cell0
theorem DkW.cells25 (h:DkW W O b st cg sx L q c e w):w.cell? ⟨b,25,none⟩ = some (.int .i64 sx.tf) ∧ w.cell? ⟨b,26,none⟩ = some (.int .i64 sx.tb) ∧ w.cell? ⟨b,27,none⟩ = some (.int .i64 sx.rf) ∧ w.cell? ⟨b,28,none⟩ = some (.int .i64 sx.rb) ∧ w.cell? ⟨b,29,none⟩ = some (.int .i64 sx.ab) ∧ w.cell? ⟨b,30,none⟩ = some (.int .i64 sx.fx):=by
  obtain ⟨R,⟨Cq,Cc,Ce,h1⟩,_⟩:=h
  exact ⟨h1.cells25 0 _ rfl,h1.cells25 1 _ rfl,h1.cells25 2 _ rfl,h1.cells25 3 _ rfl,h1.cells25 4 _ rfl,h1.cells25 5 _ rfl⟩
theorem DkW.cells6 (h:DkW W O b st cg sx L q c e w):w.cell? ⟨b,6,none⟩ = some (.int .i64 cg.bo) ∧ w.cell? ⟨b,7,none⟩ = some (.int .i64 cg.fi) ∧ w.cell? ⟨b,8,none⟩ = some (.int .i64 cg.ba) ∧ w.cell? ⟨b,9,none⟩ = some (.int .i64 cg.de) ∧ w.cell? ⟨b,10,none⟩ = some (.int .i64 cg.qu) ∧ w.cell? ⟨b,11,none⟩ = some (.int .i64 cg.no) ∧ w.cell? ⟨b,12,none⟩ = some (.int .i64 cg.re) ∧ w.cell? ⟨b,13,none⟩ = some (.slice cg.A cg.n cg.cp):=by
  obtain ⟨R,⟨Cq,Cc,Ce,h1⟩,_⟩:=h
  exact ⟨h1.cells6 0 _ rfl,h1.cells6 1 _ rfl,h1.cells6 2 _ rfl,h1.cells6 3 _ rfl,h1.cells6 4 _ rfl,h1.cells6 5 _ rfl,h1.cells6 6 _ rfl,h1.cells6 7 _ rfl⟩
theorem DkW.setSt (h:DkW W O b st cg sx L q c e w) (st':Int):DkW W O b st' cg sx L q c e (w.setCell ⟨b,0,none⟩ (.int .i64 st')):=by
  obtain ⟨R,⟨Cq,Cc,Ce,h1⟩,h2,h3⟩:=h
  obtain ⟨h4,h5⟩:=h1.setSt st'
  exact ⟨R,⟨Cq,Cc,Ce,h4⟩,h2.trans h5 h3,h3⟩
theorem DkW.setSx (h:DkW W O b st cg sx L q c e w) (j:Nat) (v:Value) (sx':Sx) (hv:(sxC sx).set j v = sxC sx'):DkW W O b st cg sx' L q c e (w.setCell ⟨b,25 + j,none⟩ v):=by
  obtain ⟨R,⟨Cq,Cc,Ce,h1⟩,h2,h3⟩:=h
  obtain ⟨h4,h5⟩:=h1.setSx hv
  exact ⟨R,⟨Cq,Cc,Ce,h4⟩,h2.trans h5 h3,h3⟩
theorem DkW.atQ (h:DkW W O b st cg sx L q c e w):∃ Y Oq,BdD dkT 1 [.int .i64 st] Y w (.pointer (some ⟨b,1,none⟩)) q Oq ∧ ∀ q' w',Stp (BdD dkT 1 [.int .i64 st] Y) (.pointer (some ⟨b,1,none⟩)) Oq w q' w' → DkW W O b st cg sx L q' c e w':=by
  obtain ⟨R,⟨Cq,Cc,Ce,h1⟩,h2,h3⟩:=h
  refine ⟨_,_,h1.atQ,fun q' w' hs => ?_⟩
  obtain ⟨R',h4,h5,h6⟩:=h1.onQ hs
  exact ⟨R',h4,h2.trans h5 h3,h3.trans h6 h2.size⟩
theorem DkW.atC (h:DkW W O b st cg sx L q c e w):∃ X Y Oc,CkD dkT 14 X Y w (.pointer (some ⟨b,14,none⟩)) c Oc ∧ ∀ c' w',Stp (CkD dkT 14 X Y) (.pointer (some ⟨b,14,none⟩)) Oc w c' w' → DkW W O b st cg sx L q c' e w':=by
  obtain ⟨R,⟨Cq,Cc,Ce,h1⟩,h2,h3⟩:=h
  refine ⟨_,_,_,h1.atC,fun c' w' hs => ?_⟩
  obtain ⟨R',h4,h5,h6⟩:=h1.onC hs
  exact ⟨R',h4,h2.trans h5 h3,h3.trans h6 h2.size⟩
theorem DkW.atE (h:DkW W O b st cg sx L q c e w):∃ X Y Oe,EkD dkT 24 X Y w (.pointer (some ⟨b,24,none⟩)) e Oe ∧ ∀ e' w',Stp (EkD dkT 24 X Y) (.pointer (some ⟨b,24,none⟩)) Oe w e' w' → DkW W O b st cg sx L q c e' w':=by
  obtain ⟨R,⟨Cq,Cc,Ce,h1⟩,h2,h3⟩:=h
  refine ⟨_,_,_,h1.atE,fun e' w' hs => ?_⟩
  obtain ⟨R',h4,h5,h6⟩:=h1.onE hs
  exact ⟨R',h4,h2.trans h5 h3,h3.trans h6 h2.size⟩
theorem DkW.full (h:DkW W O b st cg sx L q c e w):c.bx.Full:=by
  obtain ⟨R,⟨Cq,Cc,Ce,h1⟩,_⟩:=h
  obtain ⟨g,vt,ve,fa,M,Of,p,S,f,m,n,_,_,h4⟩:=h1.c
  exact h4.bs.full
theorem DkW.stp {s':Dr} (h:DkW W O b s'.st cg s'.sx L q c e w) (hs:DkS s' cg L q c e) (hO:TabO O) (hT:Tabs W):Stp DkD (.pointer (some ⟨b,0,none⟩)) O W s' w:=by
  obtain ⟨R,h1,h2,h3⟩:=h
  exact ⟨ownR b R,⟨b,cg,L,q,c,e,R,rfl,rfl,h1,hs,hO.grows hT h3⟩,h2,h3⟩
theorem DkW.tabs (h:DkW W O b st cg sx L q c e w) (hT:Tabs W) (hO:TabO O):Tabs w:=by
  obtain ⟨R,h1,h2,h3⟩:=h
  exact hT.kept h2 hO
end
end Go.Proofs.YtimdkcchjanpaaaGreatDoor
namespace Go.Proofs.YtimdkcchjanpaaaGreatDoor
open Go.RowKit
set_option linter.unusedVariables false
theorem dkpass_t {w:World} {b:Nat} {a to:Int} (c0:w.cell? ⟨b,0,none⟩ = some (.int .i64 a)) (f0:w.frozen? ⟨b,0,none⟩ = false) :
    Calls Tryz.prog 34 #[.pointer (some ⟨b,0,none⟩), .int .i64 a, .int .i64 to] w fun e w' => e = .returned (.bool true) ∧ w' = w.setCell ⟨b,0,none⟩ (.int .i64 to):=by
  have hd:(a != a) = false:=by simp
  go_enter Tryz.func34,Tryz.ntmps34
  go_wp2
  go_ret
  exact ⟨rfl,rfl⟩
theorem dkpass_f {w:World} {b:Nat} {a fr to:Int} (c0:w.cell? ⟨b,0,none⟩ = some (.int .i64 a)) (hne:a ≠ fr) :
    Calls Tryz.prog 34 #[.pointer (some ⟨b,0,none⟩), .int .i64 fr, .int .i64 to] w fun e w' => e = .returned (.bool false) ∧ w = w':=by
  have hd:(a != fr) = true:=by simpa using hne
  clear hne
  go_enter Tryz.func34,Tryz.ntmps34
  go_wp2
  go_ret
  exact ⟨rfl,rfl⟩
theorem dkworks_v {w:World} {b:Nat} {a r:Int} (c0:w.cell? ⟨b,0,none⟩ = some (.int .i64 a)) (hr:(if a = 0 then 7 else 0) = r) :
    Calls Tryz.prog 36 #[.pointer (some ⟨b,0,none⟩)] w fun e w' => e = .returned (.int .i64 r) ∧ w = w':=by
  by_cases h:a = 0
  · have hd:(a == 0) = true:=by simpa using h
    rw [if_pos h] at hr
    subst hr
    clear h
    go_enter Tryz.func36,Tryz.ntmps36
    go_wp2
    go_ret
    exact ⟨rfl,rfl⟩
  · have hd:(a == 0) = false:=by simpa using h
    rw [if_neg h] at hr
    subst hr
    clear h
    go_enter Tryz.func36,Tryz.ntmps36
    go_wp2
    go_ret
    exact ⟨rfl,rfl⟩
theorem dkisup_v {w:World} {b:Nat} {a:Int} {r:Bool} (c0:w.cell? ⟨b,0,none⟩ = some (.int .i64 a)) (hr:(a == 1) = r) :
    Calls Tryz.prog 57 #[.pointer (some ⟨b,0,none⟩)] w fun e w' => e = .returned (.bool r) ∧ w = w':=by
  cases r
  all_goals (
    go_enter Tryz.func57,Tryz.ntmps57
    go_wp2
    go_ret
    exact ⟨rfl,rfl⟩)
theorem dkstate_v {w:World} {v:Value} {s:Dr} {O:Nat → Prop} (h:DkD w v s O):Calls Tryz.prog 16 #[v] w fun e w' => e = .returned (.int .i64 s.st) ∧ Below w.heap.size w w':=by
  obtain ⟨b,cg,L,q,c,e,R,rfl,rfl,hd,hs,hO⟩:=h
  have c0:=hd.start.cell0
  clear hd hs hO
  go_enter Tryz.func16,Tryz.ntmps16
  go_wp2
  go_ret
  exact ⟨rfl,Below.refl _ _⟩
theorem dkboxes_v {w:World} {v:Value} {s:Dr} {O:Nat → Prop} {B:Int} (h:DkD w v s O) (ok:s.Ok B):Calls Tryz.prog 14 #[v] w (Gives w fun w' u => SlA inC 1 w' (fun k => k < w.heap.size) u s.ct.bx.S ∧ ShapeOk u):=by
  obtain ⟨b,cg,L,q,c,e,R,rfl,rfl,hd,hs,hO⟩:=h
  obtain ⟨X,Y,Oc,hc,_⟩:=hd.start.atC
  have HC:=Lib.hid (kkstates_v hc (hs.cOk ok))
  rw [← hs.cx]
  clear hd hs hO hc ok
  go_enter Tryz.func14,Tryz.ntmps14
  go_wp2_with fail
  refine HC.out.mono ?_
  rintro e w1 ⟨u,rfl,h1,hb⟩
  have H1:=Lib.hid h1
  clear h1
  go_wp2
  go_ret
  exact ⟨_,rfl,H1.out,hb⟩
theorem dkqueued_v {w:World} {v:Value} {s:Dr} {O:Nat → Prop} {B:Int} (h:DkD w v s O) (ok:s.Ok B):Calls Tryz.prog 15 #[v] w (Gives w fun w' u => SlA pkC 7 w' (fun k => k < w.heap.size) u s.q.all ∧ ShapeOk u):=by
  obtain ⟨b,cg,L,q,c,e,R,rfl,rfl,hd,hs,hO⟩:=h
  obtain ⟨Y,Oq,hq,_⟩:=hd.start.atQ
  have HC:=Lib.hid (kqall_v _ hq (hs.qOk ok))
  have e:s.q.all = q.all:=by rw [Bq.all_F,Bq.all_F,hs.qL,hs.qb]
  rw [e]
  clear hd hs hO hq ok e
  go_enter Tryz.func15,Tryz.ntmps15
  go_wp2_with fail
  refine HC.out.mono ?_
  rintro e w1 ⟨u,rfl,h1,hb⟩
  have H1:=Lib.hid h1
  clear h1
  go_wp2
  go_ret
  exact ⟨_,rfl,H1.out,hb⟩
theorem dkkept_v {w:World} {v:Value} {s:Dr} {O:Nat → Prop} (h:DkD w v s O):Calls Tryz.prog 27 #[v] w fun e w' => e = .returned (.int .i64 (s.ct.fifo.length:Nat)) ∧ Below w.heap.size w w':=by
  obtain ⟨b,cg,L,q,c,e,R,rfl,rfl,hd,hs,hO⟩:=h
  obtain ⟨X,Y,Oc,hc,_⟩:=hd.start.atC
  have HC:=Lib.hid (kkkept_v hc)
  rw [← hs.cf]
  clear hd hs hO hc
  go_enter Tryz.func27,Tryz.ntmps27
  go_wp2_with fail
  refine HC.out.mono ?_
  rintro e w1 ⟨rfl,hb⟩
  go_wp2
  go_ret
  exact ⟨rfl,hb⟩
theorem dklost_v {w:World} {v:Value} {s:Dr} {O:Nat → Prop} (h:DkD w v s O) (h0:s.st ≠ 0):Calls Tryz.prog 26 #[v] w fun e w' => e = .returned (.int .i64 s.ct.lost) ∧ Below w.heap.size w w':=by
  obtain ⟨b,cg,L,q,c,e,R,rfl,rfl,hd,hs,hO⟩:=h
  obtain ⟨X,Y,Oc,hc,_⟩:=hd.start.atC
  have HC:=Lib.hid (kklost_v hc)
  rw [← hs.ls h0]
  clear hd hs hO hc
  go_enter Tryz.func26,Tryz.ntmps26
  go_wp2_with fail
  refine HC.out.mono ?_
  rintro e w1 ⟨rfl,hb⟩
  go_wp2
  go_ret
  exact ⟨rfl,hb⟩
theorem dkstats_v {w:World} {v:Value} {s:Dr} {O:Nat → Prop} (h:DkD w v s O):Calls Tryz.prog 25 #[v] w fun e w' => e = .returned (sxV s.sx) ∧ Below w.heap.size w w':=by
  obtain ⟨b,cg,L,q,c,e,R,rfl,rfl,hd,hs,hO⟩:=h
  have hb0:=(Below.refl w.heap.size w).alloc (Nat.le_refl _) (.cells #[.int .i64 0, .int .i64 0, .int .i64 0, .int .i64 0, .int .i64 0, .int .i64 0] 58)
  have hx:=heap_alloc_new w (.cells #[.int .i64 0, .int .i64 0, .int .i64 0, .int .i64 0, .int .i64 0, .int .i64 0] 58)
  obtain ⟨w0,e0⟩:∃ w0,w.alloc (.cells #[.int .i64 0, .int .i64 0, .int .i64 0, .int .i64 0, .int .i64 0, .int .i64 0] 58) = w0:=⟨_,rfl⟩
  rw [e0] at hb0 hx
  obtain ⟨c0,c1,c2,c3,c4,c5⟩:=(hd.start.later hb0).cells25
  have HB0:=Lib.hid hb0
  have fl:∀ j,w0.frozen? ⟨w.heap.size,j,none⟩ = false:=fun j => Lib.frozen_of_heap hx j
  have x0:=Lib.cell_of_heap hx 0
  have x1:=Lib.cell_of_heap hx 1
  have x2:=Lib.cell_of_heap hx 2
  have x3:=Lib.cell_of_heap hx 3
  have x4:=Lib.cell_of_heap hx 4
  have x5:=Lib.cell_of_heap hx 5
  simp only [List.getElem?_toArray,List.getElem?_cons_zero,List.getElem?_cons_succ] at x0 x1 x2 x3 x4 x5
  have HX:=Lib.hid hx
  have hlt:=heap_some_lt hx
  generalize s.sx = x at *
  obtain ⟨t0,t1,t2,t3,t4,t5⟩:=x
  simp only at c0 c1 c2 c3 c4 c5
  clear hd hs hO hb0 hx
  go_enter Tryz.func25,Tryz.ntmps25
  go_wp2_with fail
  have a0:=heap_setCell_same w0 w.heap.size 0 _ _ (.int .i64 t0) HX.out
  have a1:=heap_setCell_same _ w.heap.size 1 _ _ (.int .i64 t1) a0
  have a2:=heap_setCell_same _ w.heap.size 2 _ _ (.int .i64 t2) a1
  have a3:=heap_setCell_same _ w.heap.size 3 _ _ (.int .i64 t3) a2
  have a4:=heap_setCell_same _ w.heap.size 4 _ _ (.int .i64 t4) a3
  have a5:=heap_setCell_same _ w.heap.size 5 _ _ (.int .i64 t5) a4
  have g0:=Lib.cell_of_heap a5 0
  have g1:=Lib.cell_of_heap a5 1
  have g2:=Lib.cell_of_heap a5 2
  have g3:=Lib.cell_of_heap a5 3
  have g4:=Lib.cell_of_heap a5 4
  have g5:=Lib.cell_of_heap a5 5
  simp at g0 g1 g2 g3 g4 g5
  refine bodyPost_ret (v:=sxV ⟨t0,t1,t2,t3,t4,t5⟩) ?_ rfl ⟨rfl,(((((HB0.out.setCell (Nat.le_refl _) _).setCell (Nat.le_refl _) _).setCell (Nat.le_refl _) _).setCell (Nat.le_refl _) _).setCell (Nat.le_refl _) _).setCell (Nat.le_refl _) _⟩
  simp [results,Tryz.results25,go_sem,g0,g1,g2,g3,g4,g5]
end Go.Proofs.YtimdkcchjanpaaaGreatDoor
