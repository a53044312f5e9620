/- Drv, the code: New. Drv, the code: New. Drv, the code: New, the walk. Drv, the code: what the walks ask of it. -/
import Derived.Test.YtimdkcchjanpaaaGreatDoorZbe
import Derived.Test.YtimdkcchjanpaaaGreatDoorZaf
import Derived.Test.YtimdkcchjanpaaaGreatDoorZbc
import Derived.Test.YtimdkcchjanpaaaGreatDoorZbb
import Derived.Test.YtimdkcchjanpaaaGreatDoorZbd
set_option maxHeartbeats 16000000
namespace Go.Proofs.YtimdkcchjanpaaaGreatDoor
open Go.RowKit
set_option linter.unusedVariables false
def cg1 (c:Cg) (A:Option Addr) (n cp:Nat):Cg:=⟨c.bo,c.fi,0,0,0,0,0,A,n,cp⟩
def NC (W:World) (L:List Flt) (v:Value) (w:World):Prop:=RowQ flC 3 w v L ∧ ∀ k,OwnO v k → W.heap.size ≤ k
def zcg:Cg:=⟨0,0,0,0,0,0,0,none,0,0⟩
structure NG (W:World) (c:Cg) (L:List Flt) (k:Nat) (xs:Tmp → Option Value) (w:World):Prop where
  bel:Below W.heap.size W w
  own:∀ v,xs 10 = some v → (∃ A n cp,v = .slice A n cp) ∧ NC W L v w
  cfg:∀ v,xs 11 = some v → ∃ A n cp,v = cgV (cg1 c A n cp) ∧ xs 10 = some (.slice A n cp)
  box:∀ v,xs 3 = some v → ∃ z,v = .pointer (some ⟨z,0,none⟩) ∧ W.heap.size ≤ z ∧ w.heap[z]? = some (.cells (cgC zcg).toArray 24 (0,0)) ∧ ∀ u,xs 10 = some u → ¬ OwnO u z
section
variable {W w w':World} {c:Cg} {L:List Flt} {k:Nat} {xs:Tmp → Option Value}
theorem NG.start:NG W c L 0 (fun _ => none) W.drew:=⟨(Below.refl _ _).drew,(fun v h => by cases h),(fun v h => by cases h),fun v h => by cases h⟩
theorem NG.keep (h:NG W c L k xs w):Kept (fun _ => False) W w := .of_below h.bel
theorem NG.clone {v:Value} (h:NG W c L k xs w) (h0:xs 10 = none) (hs:∃ A n cp,v = .slice A n cp) (hr:RowQ flC 3 w' v L) (hn:∀ k,OwnO v k → w.heap.size ≤ k) (hb:Below w.heap.size w w'):NG W c L k (fun t => if t = 10 then some v else xs t) w':=by
  have hz:=h.bel.size
  refine ⟨fbelow_t h.bel hb,fun u hu => ?_,fun u hu => ?_,fun u hu => ?_⟩
  · have hu:some v = some u:=hu
    injection hu with hu
    subst hu
    exact ⟨hs,hr,fun k hk => Nat.le_trans hz (hn k hk)⟩
  · have hu:xs 11 = some u:=hu
    obtain ⟨A,n,cp,_,h1⟩:=h.cfg u hu
    rw [h0] at h1; cases h1
  · have hu:xs 3 = some u:=hu
    obtain ⟨z,h1,h2,h3,h4⟩:=h.box u hu
    have hlt:=heap_some_lt h3
    refine ⟨z,h1,h2,(hb.block z hlt).trans h3,fun y hy => ?_⟩
    have hy:some v = some y:=hy
    injection hy with hy
    subst hy
    exact fun ho => by have:=hn z ho; omega
theorem NG.build {A:Option Addr} {n cp:Nat} (h:NG W c L k xs w) (h1:xs 10 = some (.slice A n cp)):NG W c L k (fun t => if t = 11 then some (cgV (cg1 c A n cp)) else xs t) w:=by
  refine ⟨h.bel,fun u hu => h.own u hu,fun u hu => ?_,fun u hu => h.box u hu⟩
  have hu:some (cgV (cg1 c A n cp)) = some u:=hu
  injection hu with hu
  exact ⟨A,n,cp,hu.symm,h1⟩
theorem NG.made (h:NG W c L k xs w) (h0:xs 3 = none):NG W c L k (fun t => if t = 3 then some (.pointer (some ⟨w.heap.size,0,none⟩)) else xs t) (w.alloc (.cells (cgC zcg).toArray 24)):=by
  have hb:=(Below.refl w.heap.size w).alloc (Nat.le_refl _) (.cells (cgC zcg).toArray 24)
  refine ⟨fbelow_t h.bel hb,fun u hu => ?_,fun u hu => h.cfg u hu,fun u hu => ?_⟩
  · obtain ⟨h1,h2,h3⟩:=h.own u hu
    exact ⟨h1,h2.later hb,h3⟩
  · have hu:some (Value.pointer (some ⟨w.heap.size,0,none⟩)) = some u:=hu
    injection hu with hu
    refine ⟨_,hu.symm,h.bel.size,heap_alloc_new w _,fun y hy ho => ?_⟩
    obtain ⟨_,h2,_⟩:=h.own y hy
    have:=h2.lt _ ho
    omega
end
def NQp (W:World) (a r:Int) (v:Value) (w:World):Prop := ∃ b gm,v = .pointer (some ⟨b,0,none⟩) ∧ w.heap[b]? = some (.cells (bdC gm a r 0 false).toArray 69 (0,0)) ∧ MapH Tryz.prog 3 w gm (.map []) ∧ (∃ x y,w.heap[gm]? = some (.map x y)) ∧ W.heap.size ≤ gm
def NQa (W:World) (a r:Int) (v:Value) (w:World):Prop := ∃ gm,v = .agg (bdC gm a r 0 false).toArray ∧ MapH Tryz.prog 3 w gm (.map []) ∧ (∃ x y,w.heap[gm]? = some (.map x y)) ∧ W.heap.size ≤ gm
def NCp (W:World) (s:Ct) (v:Value) (w:World):Prop := ∃ b g fa M Of m,v = .pointer (some ⟨b,0,none⟩) ∧ CkM 87 0 [] [] w b g nlV nlV fa M Of none [] 0 m 0 s ∧ ∀ k,ckO b g nlV nlV none Of k → W.heap.size ≤ k
def ckL (g:Nat) (fa:Value) (M:List (Int × Pk)) (m:Nat):List Value := [ckS g M,nlV,nlV,fa, .slice none 0 0, .int .i64 0, .int .i64 0, .int .i64 m, .int .i64 0, .int .i64 0]
def NCa (W:World) (s:Ct) (v:Value) (w:World):Prop := ∃ g fa M Of m,v = .agg (ckL g fa M m).toArray ∧ CkR w g nlV nlV fa M Of none [] 0 m 0 s ∧ ∀ k,ckQ g nlV nlV none Of k → W.heap.size ≤ k
def NEp (W:World) (n:Nat) (v:Value) (w:World):Prop := ∃ O,EkD 92 0 [] [] w v (ecNew n) O ∧ ∀ k,O k → W.heap.size ≤ k
def NEa (W:World) (n:Nat) (v:Value) (w:World):Prop := ∃ (m:Nat) (Z:List (Option Nat)) (R:Nat → Prop),v = .agg #[.slice (some ⟨m,0,none⟩) Z.length Z.length] ∧ R = (fun k => k = m ∨ ∃ i:Nat,Z[i]? = some (some k)) ∧ EkP [.slice (some ⟨m,0,none⟩) Z.length Z.length] w (ecNew n) R ∧ W.heap.size ≤ m
def NXa (W:World) (cg:Cg) (s:Ct) (n:Nat) (v:Value) (w:World):Prop := ∃ l1 l2:List Value,v = .agg (cgC cg ++ (l1 ++ l2)).toArray ∧ NCa W s (.agg l1.toArray) w ∧ NEa W n (.agg l2.toArray) w
def NYa (W:World) (a r:Int) (cg:Cg) (s:Ct) (n:Nat) (v:Value) (w:World):Prop := ∃ lq l1 l2:List Value,v = .agg (.int .i64 0 :: (lq ++ (cgC cg ++ (l1 ++ (l2 ++ sxC sx0))))).toArray ∧ NQa W a r (.agg lq.toArray) w ∧ NCa W s (.agg l1.toArray) w ∧ NEa W n (.agg l2.toArray) w
def NF (W:World) (a r:Int) (cg:Cg) (s:Ct) (n:Nat) (t:Tmp) (v:Value) (w:World):Prop :=
  if t = 16 ∨ t = 17 then NQp W a r v w else if t = 18 ∨ t = 19 then NQa W a r v w else if t = 22 ∨ t = 23 then NCp W s v w else if t = 24 then NCa W s v w else if t = 27 ∨ t = 28 then NEp W n v w else if t = 29 then NEa W n v w else if t = 30 then NXa W cg s n v w else if t = 31 then NYa W a r cg s n v w else True
section
variable {W w w':World} {a r:Int} {cg:Cg} {s:Ct} {n:Nat} {v:Value}
theorem CkR.stay {g:Nat} {vt ve fa:Value} {M:List (Int × Pk)} {Of:Nat → Prop} {p:Option Addr} {S:List Fr} {f m n:Nat} (h:CkR w g vt ve fa M Of p S f m n s) (hb:Below w.heap.size w w'):CkR w' g vt ve fa M Of p S f m n s:=by
  have hp:CkP _ w s _:=⟨g,vt,ve,fa,M,Of,p,S,f,m,n,rfl,rfl,h⟩
  refine ⟨(hb.block _ (heap_some_lt h.row)).trans h.row,h.turn.later hb,h.fin.later hb,h.f1,h.f2,h.f3,h.bs, ?_,h.len,h.fit,h.lo,h.hi,h.mem,h.ac.stay (fun k hk => hb.block k (h.ac.lt k hk)),h.hm,h.hn,h.a1,h.a2,h.a3⟩
  rcases h.rr with h1 | ⟨q,h1,h2,h3⟩
  · exact .inl h1
  · exact .inr ⟨q,h1,(hb.block q (heap_some_lt h2)).trans h2,h3⟩
theorem NQp.later (h:NQp W a r v w) (hb:Below w.heap.size w w'):NQp W a r v w':=by
  obtain ⟨b,gm,h1,h2,h3,⟨x,y,h4⟩,h5⟩:=h
  exact ⟨b,gm,h1,(hb.block b (heap_some_lt h2)).trans h2,h3.stay (hb.block gm h3.lt),⟨x,y,(hb.block gm h3.lt).trans h4⟩,h5⟩
theorem NQa.later (h:NQa W a r v w) (hb:Below w.heap.size w w'):NQa W a r v w':=by
  obtain ⟨gm,h1,h3,⟨x,y,h4⟩,h5⟩:=h
  exact ⟨gm,h1,h3.stay (hb.block gm h3.lt),⟨x,y,(hb.block gm h3.lt).trans h4⟩,h5⟩
theorem NCp.later (h:NCp W s v w) (hb:Below w.heap.size w w'):NCp W s v w':=by
  obtain ⟨b,g,fa,M,Of,m,h1,h2,h3⟩:=h
  exact ⟨b,g,fa,M,Of,m,h1,h2.later hb,h3⟩
theorem NCa.later (h:NCa W s v w) (hb:Below w.heap.size w w'):NCa W s v w':=by
  obtain ⟨g,fa,M,Of,m,h1,h2,h3⟩:=h
  exact ⟨g,fa,M,Of,m,h1,h2.stay hb,h3⟩
theorem NEp.later (h:NEp W n v w) (hb:Below w.heap.size w w'):NEp W n v w':=by
  obtain ⟨O,h1,h2⟩:=h
  exact ⟨O,isObj_ek.stay h1 (fun k hk => hb.block k (isObj_ek.lt h1 k hk)),h2⟩
theorem NEa.later (h:NEa W n v w) (hb:Below w.heap.size w w'):NEa W n v w':=by
  obtain ⟨m,Z,R,h1,h2,h3,h4⟩:=h
  exact ⟨m,Z,R,h1,h2,isPart_ek.stay h3 (fun k hk => hb.block k (isPart_ek.lt h3 k hk)),h4⟩
theorem NF.later {t:Tmp} (h:NF W a r cg s n t v w) (hb:Below w.heap.size w w'):NF W a r cg s n t v w':=by
  unfold NF at h ⊢
  repeat' split
  · rename_i e; rw [if_pos e] at h; exact NQp.later h hb
  · rename_i e1 e; rw [if_neg e1,if_pos e] at h; exact NQa.later h hb
  · rename_i e1 e2 e; rw [if_neg e1,if_neg e2,if_pos e] at h; exact NCp.later h hb
  · rename_i e1 e2 e3 e; rw [if_neg e1,if_neg e2,if_neg e3,if_pos e] at h; exact NCa.later h hb
  · rename_i e1 e2 e3 e4 e; rw [if_neg e1,if_neg e2,if_neg e3,if_neg e4,if_pos e] at h; exact NEp.later h hb
  · rename_i e1 e2 e3 e4 e5 e; rw [if_neg e1,if_neg e2,if_neg e3,if_neg e4,if_neg e5,if_pos e] at h; exact NEa.later h hb
  · rename_i e1 e2 e3 e4 e5 e6 e
    rw [if_neg e1,if_neg e2,if_neg e3,if_neg e4,if_neg e5,if_neg e6,if_pos e] at h
    obtain ⟨l1,l2,h1,h2,h3⟩:=h
    exact ⟨l1,l2,h1,h2.later hb,h3.later hb⟩
  · rename_i e1 e2 e3 e4 e5 e6 e7 e
    rw [if_neg e1,if_neg e2,if_neg e3,if_neg e4,if_neg e5,if_neg e6,if_neg e7,if_pos e] at h
    obtain ⟨lq,l1,l2,h1,h2,h3,h4⟩:=h
    exact ⟨lq,l1,l2,h1,h2.later hb,h3.later hb,h4.later hb⟩
  · trivial
theorem u32_out {w:World} {fa:Value} {L:List Flt} {Of:Nat → Prop} {k:Nat} (h:AccK w fa L Of) (hk:Of k):(∃ u,Bx1 w k u 22) ∨ ∃ o x,w.cell? ⟨k,o,none⟩ = some (.int .u32 x):=by
  rcases h with ⟨_,_,rfl⟩ | ⟨kb,u,h0,_,h1,h2,_,_,rfl⟩
  · exact hk.elim
  · rcases hk with rfl | hk
    · exact .inl ⟨u,h1⟩
    · rcases h2 with ⟨rfl,h3⟩ | ⟨g',o',cap,rfl,h3,h4,h5,h6,h7⟩
      · exact absurd h3 h0
      · injection hk with e
        have e:g' = k:=e
        subst e
        cases L with
        | nil => exact absurd rfl h0
        | cons x L => exact .inr ⟨_,_,h6 0 (.int .u32 x.i) (by simp [rowG,flC])⟩
end
end Go.Proofs.YtimdkcchjanpaaaGreatDoor
namespace Go.Proofs.YtimdkcchjanpaaaGreatDoor
open Go.RowKit
set_option linter.unusedVariables false
def newR (gm g m:Nat) (Of Ou:Nat → Prop) (Z:List (Option Nat)):Nat → Nat → Prop:=fun i =>
  if i = 0 then (fun k => k = gm ∨ ∃ j:Nat,OwnO nilP k) else if i = 1 then ckQ g nlV nlV none Of else if i = 2 then (fun k => k = m ∨ ∃ j:Nat,Z[j]? = some (some k)) else if i = 3 then Ou else fun _ => False
theorem dkD_new {w W2 w9:World} {c cg:Cg} {L:List Flt} {v:Value} {lq l1 l2:List Value} (hT:Tabs w) (hbo:cg.bo = c.bo) (hfi:cg.fi = c.fi) (hn:cg.n ≤ 50) (hfit:∀ x ∈ L,x.fits)
    (hW:Below w.heap.size w W2) (h9:Below W2.heap.size W2 w9) (hrow:RowQ flC 3 W2 cg.va L) (hown:∀ k,OwnO cg.va k → w.heap.size ≤ k)
    (hq:NQa W2 (roomN c.ba) (roomN c.de) (.agg lq.toArray) w9) (hc:NCa W2 (ctNew cg L) (.agg l1.toArray) w9) (he:NEa W2 (boxesN c.bo) (.agg l2.toArray) w9) :
    ∃ O,DkD (w9.alloc (.cells (.int .i64 0 :: (lq ++ (cgC cg ++ (l1 ++ (l2 ++ sxC sx0))))).toArray 102)) (.pointer (some ⟨w9.heap.size,0,none⟩)) (drNew c L) O ∧ (∀ k,O k → w.heap.size ≤ k):=by
  obtain ⟨gm,hq1,hq2,⟨mx,my,hq3⟩,hq4⟩:=hq
  obtain ⟨g,fa,M,Of,m,hc1,hc2,hc3⟩:=hc
  obtain ⟨me,Z,R2,he1,rfl,he2,he3⟩:=he
  injection hq1 with hq1
  injection hc1 with hc1
  injection he1 with he1
  obtain rfl:lq = bdC gm (roomN c.ba) (roomN c.de) 0 false:=by simpa using hq1
  obtain rfl:l1 = ckL g fa M m:=by simpa using hc1
  obtain rfl:l2 = [.slice (some ⟨me,0,none⟩) Z.length Z.length]:=by simpa using he1
  obtain ⟨w10,e10⟩:∃ x,w9.alloc (.cells (.int .i64 0 :: (bdC gm (roomN c.ba) (roomN c.de) 0 false ++ (cgC cg ++ (ckL g fa M m ++ ([.slice (some ⟨me,0,none⟩) Z.length Z.length] ++ sxC sx0))))).toArray 102) = x:=⟨_,rfl⟩
  have hb:=(Below.refl w9.heap.size w9).alloc (Nat.le_refl _) (.cells (.int .i64 0 :: (bdC gm (roomN c.ba) (roomN c.de) 0 false ++ (cgC cg ++ (ckL g fa M m ++ ([.slice (some ⟨me,0,none⟩) Z.length Z.length] ++ sxC sx0))))).toArray 102)
  have hx:=heap_alloc_new w9 (.cells (.int .i64 0 :: (bdC gm (roomN c.ba) (roomN c.de) 0 false ++ (cgC cg ++ (ckL g fa M m ++ ([.slice (some ⟨me,0,none⟩) Z.length Z.length] ++ sxC sx0))))).toArray 102)
  rw [e10] at hb hx ⊢
  have hs2:=h9.size
  have nn:∀ k, ¬ OwnO nilP k:=fun k h => by cases h
  have hgl:gm < w9.heap.size:=hq2.lt
  have hckP:CkP (ckL g fa M m) w9 (ctNew cg L) (ckQ g nlV nlV none Of):=⟨g,nlV,nlV,fa,M,Of,none, [],0,m,0,rfl,rfl,hc2⟩
  have hcl:=isPart_ck.lt hckP
  have hel:=isPart_ek.lt he2
  obtain ⟨me',Z',hz1,hz2,hz3,hz4,hz5,hz6,hz7⟩:=he2
  have hz1':me' = me ∧ Z'.length = Z.length:=by
    injection hz1 with hz1 _
    injection hz1 with hz1 hz8 _
    injection hz1 with hz1
    injection hz1 with hz1
    exact ⟨hz1.symm,hz8.symm⟩
  have hZn:∀ (i k:Nat),Z'[i]? ≠ some (some k):=fun i k hk => by
    have h1:(Z'.map Option.isSome)[i]? = some true:=by rw [List.getElem?_map,hk]; rfl
    rw [← hz7] at h1
    unfold ecNew at h1
    simp only at h1
    rw [List.getElem?_replicate] at h1
    split at h1 <;> cases h1
  have hR2:∀ k,(k = me ∨ ∃ i:Nat,Z[i]? = some (some k)) → k = me:=fun k hk => by
    have hk':(fun k => k = me ∨ ∃ i:Nat,Z[i]? = some (some k)) k:=hk
    rw [hz2] at hk'
    rcases hk' with h | ⟨i,h⟩
    · rw [h,hz1'.1]
    · exact absurd h (hZn i k)
  have hme:w9.heap[me]? = some (.cells (Z'.map ptV).toArray 159 (0,0)):=by rw [← hz1'.1]; exact hz3
  have hRq:∀ k,(k = gm ∨ ∃ j:Nat,OwnO nilP k) → k = gm:=fun k hk => by
    rcases hk with h | ⟨_,h⟩
    · exact h
    · exact absurd h (nn k)
  have hRc:∀ k,ckQ g nlV nlV none Of k → k = g ∨ Of k:=fun k hk => by
    rcases hk with (h | h | h) | h | h
    · exact .inl h
    · cases h
    · cases h
    · obtain ⟨a,h,_⟩:=h; cases h
    · exact .inr h
  have hgrow:=hc2.row
  have hcellM:∀ o,w9.cell? ⟨gm,o,none⟩ = none:=fun o => by simp [World.cell?,hq3]
  have a01:∀ k,(k = gm ∨ ∃ j:Nat,OwnO nilP k) → ckQ g nlV nlV none Of k → False:=fun k h1 h2 => by
    obtain rfl:=hRq k h1
    rcases hRc _ h2 with rfl | h3
    · rw [hq3] at hgrow; cases hgrow
    · rcases u32_out hc2.ac h3 with ⟨u,h4⟩ | ⟨o,x,h4⟩
      · unfold Bx1 at h4; rw [hq3] at h4; cases h4
      · rw [hcellM] at h4; cases h4
  have a02:∀ k,(k = gm ∨ ∃ j:Nat,OwnO nilP k) → (k = me ∨ ∃ i:Nat,Z[i]? = some (some k)) → False:=fun k h1 h2 => by
    obtain rfl:=hRq k h1
    have:=hR2 _ h2
    subst this
    rw [hq3] at hme; cases hme
  have a12:∀ k,ckQ g nlV nlV none Of k → (k = me ∨ ∃ i:Nat,Z[i]? = some (some k)) → False:=fun k h1 h2 => by
    have:=hR2 _ h2
    subst this
    rcases hRc _ h1 with rfl | h3
    · rw [hme] at hgrow
      injection hgrow with h4
      injection h4 with _ h5 _
      revert h5
      decide
    · rcases u32_out hc2.ac h3 with ⟨u,h4⟩ | ⟨o,x,h4⟩
      · unfold Bx1 at h4; rw [hme] at h4
        injection h4 with h4
        injection h4 with _ h5 _
        revert h5
        decide
      · rw [Lib.cell_of_heap hme] at h4
        rw [List.getElem?_toArray,List.getElem?_map] at h4
        cases hzo:Z'[o]? with
        | none => rw [hzo] at h4; cases h4
        | some y => rw [hzo] at h4; injection h4 with h4; cases h4
  have oul:∀ k,OwnO cg.va k → k < W2.heap.size:=hrow.lt
  have new0:∀ k,(k = gm ∨ ∃ j:Nat,OwnO nilP k) → W2.heap.size ≤ k:=fun k h => by rw [hRq k h]; exact hq4
  have new2:∀ k,(k = me ∨ ∃ i:Nat,Z[i]? = some (some k)) → W2.heap.size ≤ k:=fun k h => by rw [hR2 k h]; exact he3
  have keyR:∀ i k,newR gm g me Of (OwnO cg.va) Z i k → (i = 0 ∧ (k = gm ∨ ∃ j:Nat,OwnO nilP k)) ∨ (i = 1 ∧ ckQ g nlV nlV none Of k) ∨ (i = 2 ∧ (k = me ∨ ∃ i:Nat,Z[i]? = some (some k))) ∨ (i = 3 ∧ OwnO cg.va k):=fun i k h => by
    unfold newR at h
    split at h
    · exact .inl ⟨by assumption,h⟩
    · split at h
      · exact .inr (.inl ⟨by assumption,h⟩)
      · split at h
        · exact .inr (.inr (.inl ⟨by assumption,h⟩))
        · split at h
          · exact .inr (.inr (.inr ⟨by assumption,h⟩))
          · exact h.elim
  have ltR:∀ i k,newR gm g me Of (OwnO cg.va) Z i k → k < w9.heap.size:=fun i k h => by
    rcases keyR i k h with ⟨_,h⟩ | ⟨_,h⟩ | ⟨_,h⟩ | ⟨_,h⟩
    · rw [hRq k h]; exact hgl
    · exact hcl k h
    · exact hel k h
    · exact Nat.lt_of_lt_of_le (oul k h) hs2
  have hpt:Parts w10 w9.heap.size (newR gm g me Of (OwnO cg.va) Z):=by
    refine ⟨heap_some_lt hx,fun i k h => Nat.lt_of_lt_of_le (ltR i k h) hb.size,fun i h => absurd (ltR i _ h) (Nat.lt_irrefl _),fun i j hij k h1 h2 => ?_⟩
    rcases keyR i k h1 with ⟨rfl,h3⟩ | ⟨rfl,h3⟩ | ⟨rfl,h3⟩ | ⟨rfl,h3⟩ <;> rcases keyR j k h2 with ⟨rfl,h4⟩ | ⟨rfl,h4⟩ | ⟨rfl,h4⟩ | ⟨rfl,h4⟩
    · exact hij rfl
    · exact a01 k h3 h4
    · exact a02 k h3 h4
    · have:=new0 k h3; have:=oul k h4; omega
    · exact a01 k h4 h3
    · exact hij rfl
    · exact a12 k h3 h4
    · have:=hc3 k h3; have:=oul k h4; omega
    · exact a02 k h4 h3
    · exact a12 k h4 h3
    · exact hij rfl
    · have:=new2 k h3; have:=oul k h4; omega
    · have:=new0 k h4; have:=oul k h3; omega
    · have:=hc3 k h4; have:=oul k h3; omega
    · have:=new2 k h4; have:=oul k h3; omega
    · exact hij rfl
  have hnew:∀ k,ownR w9.heap.size (newR gm g me Of (OwnO cg.va) Z) k → w.heap.size ≤ k:=fun k h => by
    have:=hW.size
    rcases h with rfl | ⟨i,h⟩
    · omega
    · rcases keyR i k h with ⟨_,h⟩ | ⟨_,h⟩ | ⟨_,h⟩ | ⟨_,h⟩
      · have:=new0 k h; omega
      · have:=hc3 k h; omega
      · have:=new2 k h; omega
      · exact hown k h
  have hqP:BdP (bdC gm (roomN c.ba) (roomN c.de) 0 false) w10 (bqNew c.ba c.de) (fun k => k = gm ∨ ∃ j:Nat,OwnO nilP k) :=
    ⟨gm, .map [],fun _ => nilP,rfl,rfl,hq2.stay (hb.block gm hgl),SzN.empty _,fun i => AtM.empty _ _,fun i => RowQ.nil _,fun i => nn _,fun i j _ k h _ => nn k h⟩
  have heP:EkP [.slice (some ⟨me,0,none⟩) Z.length Z.length] w10 (ecNew (boxesN c.bo)) (fun k => k = me ∨ ∃ i:Nat,Z[i]? = some (some k)) :=
    isPart_ek.stay ⟨me',Z',hz1,hz2,hz3,hz4,hz5,hz6,hz7⟩ (fun k hk => hb.block k (hel k hk))
  have hbx:(ctNew cg L).bx = bxNew (boxesN c.bo):=by unfold ctNew; rw [hbo]
  refine ⟨ownR w9.heap.size (newR gm g me Of (OwnO cg.va) Z),⟨w9.heap.size,cg,L,bqNew c.ba c.de,ctNew cg L,ecNew (boxesN c.bo),_,rfl,rfl,⟨_,_,_,⟨hx,hqP,isPart_ck.stay hckP (fun k hk => hb.block k (hcl k hk)),heP,(hrow.later h9).later hb,rfl,hpt,hfit,hn⟩⟩, ?_,TabO.fresh hT hnew⟩,hnew⟩
  exact ⟨hbo,hfi,rfl,rfl,rfl,rfl,hbx,rfl,by show roomN cg.fi = roomN c.fi; rw [hfi],rfl,fun h => absurd rfl h,⟨by show (0:Int) ≤ 0; decide,by show (0:Int) < 16; decide⟩,by show (0:Int) ≤ 0; decide,by rw [hbx]; exact TabE.new _,by rw [hbx]; simp [bxNew]; rfl,rfl,rfl,by show roomN cg.fi = roomN c.fi; rw [hfi],fun _ => ⟨rfl,fun i => by rw [hbx]; exact getD_rep _ _ _⟩⟩
end Go.Proofs.YtimdkcchjanpaaaGreatDoor
namespace Go.Proofs.YtimdkcchjanpaaaGreatDoor
open Go.RowKit
set_option linter.unusedVariables false
def putCg (w:World) (z:Nat) (cg:Cg):World:=(((((((w.setCell ⟨z,0,none⟩ (.int .i64 cg.bo)).setCell ⟨z,1,none⟩ (.int .i64 cg.fi)).setCell ⟨z,2,none⟩ (.int .i64 cg.ba)).setCell ⟨z,3,none⟩ (.int .i64 cg.de)).setCell ⟨z,4,none⟩ (.int .i64 cg.qu)).setCell ⟨z,5,none⟩ (.int .i64 cg.no)).setCell ⟨z,6,none⟩ (.int .i64 cg.re)).setCell ⟨z,7,none⟩ (.slice cg.A cg.n cg.cp)
theorem putCg_kept (w:World) (z:Nat) (cg:Cg):Kept (fun k => k = z) w (putCg w z cg):=by
  unfold putCg
  have h0:Kept (fun k => k = z) w w:=Kept.refl _ w
  have h1:=h0.setCell (p:=⟨z,0,none⟩) (rfl:z = z) (.int .i64 cg.bo)
  have h2:=h1.setCell (p:=⟨z,1,none⟩) (rfl:z = z) (.int .i64 cg.fi)
  have h3:=h2.setCell (p:=⟨z,2,none⟩) (rfl:z = z) (.int .i64 cg.ba)
  have h4:=h3.setCell (p:=⟨z,3,none⟩) (rfl:z = z) (.int .i64 cg.de)
  have h5:=h4.setCell (p:=⟨z,4,none⟩) (rfl:z = z) (.int .i64 cg.qu)
  have h6:=h5.setCell (p:=⟨z,5,none⟩) (rfl:z = z) (.int .i64 cg.no)
  have h7:=h6.setCell (p:=⟨z,6,none⟩) (rfl:z = z) (.int .i64 cg.re)
  have h8:=h7.setCell (p:=⟨z,7,none⟩) (rfl:z = z) (.slice cg.A cg.n cg.cp)
  exact h8
theorem putCg_box {w:World} {z:Nat} {c0:Cg} (cg:Cg) (h:w.heap[z]? = some (.cells (cgC c0).toArray 24 (0,0))):(putCg w z cg).heap[z]? = some (.cells (cgC cg).toArray 24 (0,0)):=by
  have a0:=heap_setCell_same _ z 0 _ _ (.int .i64 cg.bo) h
  have a1:=heap_setCell_same _ z 1 _ _ (.int .i64 cg.fi) a0
  have a2:=heap_setCell_same _ z 2 _ _ (.int .i64 cg.ba) a1
  have a3:=heap_setCell_same _ z 3 _ _ (.int .i64 cg.de) a2
  have a4:=heap_setCell_same _ z 4 _ _ (.int .i64 cg.qu) a3
  have a5:=heap_setCell_same _ z 5 _ _ (.int .i64 cg.no) a4
  have a6:=heap_setCell_same _ z 6 _ _ (.int .i64 cg.re) a5
  have a7:=heap_setCell_same _ z 7 _ _ (.slice cg.A cg.n cg.cp) a6
  unfold putCg
  rw [a7]
  simp [cgC]
theorem cg_at {w:World} {z:Nat} {cg:Cg} (h:w.heap[z]? = some (.cells (cgC cg).toArray 24 (0,0))):w.cell? ⟨z,0,none⟩ = some (.int .i64 cg.bo) ∧ w.cell? ⟨z,1,none⟩ = some (.int .i64 cg.fi) ∧ w.cell? ⟨z,2,none⟩ = some (.int .i64 cg.ba) ∧ w.cell? ⟨z,3,none⟩ = some (.int .i64 cg.de) ∧ w.cell? ⟨z,4,none⟩ = some (.int .i64 cg.qu) ∧ w.cell? ⟨z,5,none⟩ = some (.int .i64 cg.no) ∧ w.cell? ⟨z,6,none⟩ = some (.int .i64 cg.re) ∧ w.cell? ⟨z,7,none⟩ = some (.slice cg.A cg.n cg.cp):=by
  refine ⟨?_, ?_, ?_, ?_, ?_, ?_, ?_, ?_⟩ <;> (rw [Lib.cell_of_heap h]; rfl)
theorem dknew_v (c:Cg) (L:List Flt) (w:World) (hT:Tabs w) (h:SlG flC 3 w w.heap.size c.va L) (hfit:∀ x ∈ L,x.fits) (hm:c.n ≤ 50):Calls Tryz.prog 8 #[cgV c] w fun e w' => ∃ v O,e = .returned v ∧ DkD w' v (drNew c L) O ∧ Below w.heap.size w w' ∧ ∀ k,O k → w.heap.size ≤ k:=by
  have hb0:Below w.heap.size w (w.alloc (cgO c)):=(Below.refl _ _).alloc (Nat.le_refl _) _
  have hx0:(w.alloc (cgO c)).heap[w.heap.size]? = some (.cells (cgC c).toArray 24 (0,0)):=heap_alloc_new w _
  obtain ⟨w0,e0⟩:∃ w0,w.alloc (cgO c) = w0:=⟨_,rfl⟩
  rw [e0] at hb0 hx0
  have HE0:w.alloc (.cells #[.int .i64 c.bo, .int .i64 c.fi, .int .i64 c.ba, .int .i64 c.de, .int .i64 c.qu, .int .i64 c.no, .int .i64 c.re, .slice c.A c.n c.cp] 24) = w0:=e0
  have HX0:=Lib.hid hx0
  have HB0:=Lib.hid hb0
  have HS:=Lib.hid (h.later hb0)
  have HT:=Lib.hid hT
  have HF:=Lib.hid hfit
  have HM:=Lib.hid hm
  have HLN:Hid (L.length ≤ 50):=Lib.hid (by
    obtain ⟨A,cap,hv,_⟩:=h
    injection hv with _ h2 _
    omega)
  obtain ⟨d0,d1,d2,d3,d4,d5,d6,d7⟩:=cg_at hx0
  have hz0:w.heap.size < w0.heap.size:=heap_some_lt hx0
  have HSTT:Hid (NG w0 c L 0 (fun _ => none) w0.drew):=Lib.hid NG.start
  clear h hT hfit hm hb0 hx0 e0
  go_enter Tryz.func8,Tryz.ntmps8
  go_upto_region 1 with fail
  have hcl:∀ (n:KLater (fun _ => False) w0) (o:Nat),n.w.cell? ⟨w.heap.size,o,none⟩ = w0.cell? ⟨w.heap.size,o,none⟩:=fun n o => n.cell w.heap.size o hz0 (fun h => h)
  refine wp_region_st 9 [] (NG w0 c L) [3,10,11] HSTT.out (by kernel_rfl) (by kernel_rfl) (by kernel_rfl) (by kernel_rfl) (by kernel_rfl) (by kernel_rfl) (by kernel_rfl) ?_
  simp only [List.take_succ_cons,List.take_zero,List.drop_succ_cons,List.drop_zero]
  repeat ((first | refine st_plain (fun h => h.keep) (by rfl) (by rfl) (by rfl) (by rfl) (by rfl) ?_ | refine st_nil (fun h => h.keep) (by rfl) (by rfl) (by rfl) (by rfl) (by rfl) (by rfl) ?_); intro K hK; go_big_quiet_op; go_big_quiet_on)
  refine st_callFF (s:=10) (f:=30) (args := #[.slice c.A c.n c.cp]) (by rfl) (by rfl) (by rfl) (by rfl) (by rfl) (by rfl) (fun w => by simp [go_sem]) (fun j xs w' hG h0 => ?_) ?_
  · refine (cloneAny_v (HS.out.later hG.bel) HM.out).mono ?_
    rintro e w'' ⟨v,he,hr,hn,hb⟩
    obtain ⟨A,k,hv⟩:=hr.shape
    exact ⟨v,he,hG.clone h0 ⟨_,_,_,hv⟩ hr hn hb⟩
  simp only [Act.put,List.setIfInBounds_toArray,List.set_cons_succ,List.set_cons_zero]
  refine st_anyF (s:=11) (by rfl) (by rfl) (by rfl) (by rfl) (fun j xs a w' hG h0 hl => ?_) ?_
  · have l5:=hl 5 (by decide)
    have l7:=hl 7 (by decide)
    have l10:=hl 10 (by decide)
    rw [if_neg (by decide)] at l5 l7
    rw [if_pos (by decide)] at l10
    obtain ⟨⟨A,n,cp,hv⟩,_⟩:=hG.own _ l10
    rw [hv] at l10
    refine ⟨cgV (cg1 c A n cp), ?_,hG.build l10⟩
    have l5':a.tmps.getD 5 undef = .int .i64 c.bo:=l5
    have l7':a.tmps.getD 7 undef = .int .i64 c.fi:=l7
    rw [Array.getD_eq_getD_getElem?] at hv l5' l7'
    simp [execOp,go_sem,Act.eval,hv,l5',l7',cg1]
  simp only [Act.put,List.setIfInBounds_toArray,List.set_cons_succ,List.set_cons_zero]
  refine st_newF (s:=3) (mk:=fun w => .pointer (some ⟨w.heap.size,0,none⟩)) (ob:=fun _ => .cells (cgC zcg).toArray 24) (by rfl) (by rfl) (by rfl) (by rfl) (by rfl) (by rfl) (fun _ => by kernel_rfl) (fun j xs w h h0 => h.made h0) ?_
  simp only [Act.put,List.setIfInBounds_toArray,List.set_cons_succ,List.set_cons_zero]
  intro ys xs w1 hF h1
  have e3:=hF 3 (by simp)
  have e11:=hF 11 (by simp)
  obtain ⟨A,n,cp,hy11,h10⟩:=h1.cfg _ e11
  obtain ⟨z,hy3,hzz,hbx,hnz⟩:=h1.box _ e3
  have hrow:=(h1.own _ h10).2
  have hno:=hnz _ h10
  simp only [secFill]
  simp only [Act.put,List.setIfInBounds_toArray,List.set_cons_succ,List.set_cons_zero,hy3,hy11]
  have HB1:=Lib.hid (fbelow_t HB0.out h1.bel)
  have HZ1:Hid (w.heap.size < z):=Lib.hid (by omega)
  have HBX:=Lib.hid hbx
  have HROW:=Lib.hid hrow
  have HNO:=Lib.hid hno
  have hzl:=heap_some_lt hbx
  have HX1:Hid (w1.heap[w.heap.size]? = some (.cells (cgC c).toArray 24 (0,0))):=Lib.hid ((h1.bel.block _ hz0).trans HX0.out)
  have HW0:Hid (w.heap.size ≤ w0.heap.size):=Lib.hid (by omega)
  obtain ⟨t0,t1,t2,t3,t4,t5,t6,t7⟩:=cg_at hbx
  unfold zcg at t0 t1 t2 t3 t4 t5 t6 t7
  have fl:∀ j,w1.frozen? ⟨z,j,none⟩ = false:=fun j => Lib.frozen_of_heap HBX.out j
  generalize ys 10 = y10
  clear hF h1 e3 e11 hy3 hy11 hzz hbx hnz hrow hno h10 hcl d0 d1 d2 d3 d4 d5 d6 d7 hz0 HE0
  go_upto_region 2 with fail
  generalize hfold:(((((((w1.setCell ⟨z,0,none⟩ (.int .i64 (cg1 c A n cp).bo)).setCell ⟨z,1,none⟩ (.int .i64 (cg1 c A n cp).fi)).setCell ⟨z,2,none⟩ (.int .i64 (cg1 c A n cp).ba)).setCell ⟨z,3,none⟩ (.int .i64 (cg1 c A n cp).de)).setCell ⟨z,4,none⟩ (.int .i64 (cg1 c A n cp).qu)).setCell ⟨z,5,none⟩ (.int .i64 (cg1 c A n cp).no)).setCell ⟨z,6,none⟩ (.int .i64 (cg1 c A n cp).re)).setCell ⟨z,7,none⟩ (.slice (cg1 c A n cp).A (cg1 c A n cp).n (cg1 c A n cp).cp) = w2
  have HF2:Hid (putCg w1 z (cg1 c A n cp) = w2):=Lib.hid hfold
  clear hfold t0 t1 t2 t3 t4 t5 t6 t7 fl hzl
  have hk2:Kept (fun k => k = z) w1 w2:=by rw [← HF2.out]; exact putCg_kept _ _ _
  have hz2:w2.heap[z]? = some (.cells (cgC (cg1 c A n cp)).toArray 24 (0,0)):=by rw [← HF2.out]; exact putCg_box _ HBX.out
  have hx2:w2.heap[w.heap.size]? = some (.cells (cgC c).toArray 24 (0,0)):=(hk2.block _ (heap_some_lt HX1.out) (by have:=HZ1.out; omega)).trans HX1.out
  have hb2:Below w.heap.size w w2:=⟨hk2.os.trans HB1.out.os,hk2.tape.trans HB1.out.tape,hk2.output.trans HB1.out.output,Nat.le_trans HB1.out.size hk2.size,fun k hk => (hk2.block k (Nat.lt_of_lt_of_le hk HB1.out.size) (by have:=HZ1.out; omega)).trans (HB1.out.block k hk)⟩
  have hr2:RowQ flC 3 w2 (.slice A n cp) L:=HROW.out.1.stay (fun k hk => hk2.block k (HROW.out.1.lt k hk) (fun e => HNO.out (e ▸ hk))) hk2.size
  have HB2:=Lib.hid hb2
  have HR2:=Lib.hid hr2
  have HOW:Hid (∀ k,OwnO (.slice A n cp) k → w.heap.size ≤ k):=Lib.hid (fun k hk => Nat.le_trans HW0.out (HROW.out.2 k hk))
  have HN2:Hid (n ≤ 50):=Lib.hid (by
    have hsl:=hr2.sl flC_len (by have:=HLN.out; unfold maxLen; omega)
    obtain ⟨A',cap',hv,_⟩:=hsl
    injection hv with _ h9 _
    have:=HLN.out; omega)
  have HSL:Hid (SlG flC 3 w2 w2.heap.size (.slice A n cp) L):=Lib.hid (hr2.sl flC_len (by have:=HLN.out; unfold maxLen; omega))
  obtain ⟨d0,d1,d2,d3,d4,d5,d6,d7⟩:=cg_at hx2
  obtain ⟨k0,k1,k2,k3,k4,k5,k6,k7⟩:=cg_at hz2
  simp only [cg1] at k0 k1 k2 k3 k4 k5 k6 k7
  have hxl:=heap_some_lt hx2
  have hzl:=heap_some_lt hz2
  clear hk2 hz2 hx2 hb2 hr2 HF2
  have hcl:∀ (n:Later w2) (b o:Nat),b < w2.heap.size → n.w.cell? ⟨b,o,none⟩ = w2.cell? ⟨b,o,none⟩:=later_cells w2
  refine wp_region_sec 20 [16,17,18,19,22,23,24,27,28,29,30,31] (NF w2 (roomN c.ba) (roomN c.de) (cg1 c A n cp) (ctNew (cg1 c A n cp) L) (boxesN c.bo)) (fun _ _ _ _ h hb => h.later hb) (by kernel_rfl) (by kernel_rfl) (by kernel_rfl) (by kernel_rfl) (by kernel_rfl) ?_
  simp only [List.take_succ_cons,List.take_zero,List.drop_succ_cons,List.drop_zero]
  repeat (refine sec_plain (by rfl) (by rfl) (by rfl) (by rfl) ?_; intro K hK; go_big_quiet_op; go_big_quiet_on)
  refine sec_callF (s:=16) (f:=31) (args := #[.int .i64 c.ba, .int .i64 c.de]) (by rfl) (by rfl) (by rfl) (by rfl) (by rfl) (fun w => by simp [go_sem]) ?_ ?_
  · intro q
    refine (kqnewN_v c.ba c.de q.w).mono ?_
    rintro e w' ⟨b,gm,he,h1,h2,h3,h4,h5⟩
    exact ⟨_,he,h5,b,gm,rfl,h1,h2,h3,Nat.le_trans q.h.size h4⟩
  simp only [Act.put,List.setIfInBounds_toArray,List.set_cons_succ,List.set_cons_zero]
  refine sec_readF (s:=17) (by rfl) (by rfl) (by rfl) (fun a w hb hl => ?_) ?_
  · have h5:=hl 16 (by decide)
    rw [if_pos (by decide)] at h5
    have h5':NQp w2 (roomN c.ba) (roomN c.de) _ w:=h5
    obtain ⟨b,gm,h1,h2⟩:=id h5'
    exact ⟨_,by simp [execOp,go_sem,Act.eval,h1],h5'⟩
  simp only [Act.put,List.setIfInBounds_toArray,List.set_cons_succ,List.set_cons_zero]
  refine sec_readF (s:=18) (by rfl) (by rfl) (by rfl) (fun a w hb hl => ?_) ?_
  · have h5:=hl 17 (by decide)
    rw [if_pos (by decide)] at h5
    have h5':NQp w2 (roomN c.ba) (roomN c.de) _ w:=h5
    obtain ⟨b,gm,h1,h2,h3⟩:=h5'
    have n0:=Lib.cell_of_heap h2 0
    have n1:=Lib.cell_of_heap h2 1
    have n2:=Lib.cell_of_heap h2 2
    have n3:=Lib.cell_of_heap h2 3
    have n4:=Lib.cell_of_heap h2 4
    simp [bdC] at n0 n1 n2 n3 n4
    exact ⟨.agg (bdC gm (roomN c.ba) (roomN c.de) 0 false).toArray,by simp [execOp,go_sem,Act.eval,h1,n0,n1,n2,n3,n4,bdC],gm,rfl,h3⟩
  simp only [Act.put,List.setIfInBounds_toArray,List.set_cons_succ,List.set_cons_zero]
  refine sec_readF (s:=19) (by rfl) (by rfl) (by rfl) (fun a w hb hl => ?_) ?_
  · have h5:=hl 18 (by decide)
    rw [if_pos (by decide)] at h5
    have h5':NQa w2 (roomN c.ba) (roomN c.de) _ w:=h5
    obtain ⟨gm,h1,h3⟩:=h5'
    rw [Array.getD_eq_getD_getElem?] at h1
    exact ⟨.agg (bdC gm (roomN c.ba) (roomN c.de) 0 false).toArray,by simp [execOp,go_sem,Act.eval,h1,bdC],gm,rfl,h3⟩
  simp only [Act.put,List.setIfInBounds_toArray,List.set_cons_succ,List.set_cons_zero]
  repeat (refine sec_plain (by rfl) (by rfl) (by rfl) (by rfl) ?_; intro K hK; go_big_quiet_op; go_big_quiet_on)
  refine sec_callF (s:=22) (f:=32) (args := #[cgV (cg1 c A n cp)]) (by rfl) (by rfl) (by rfl) (by rfl) (by rfl) (fun w => by simp [go_sem,cg1]) ?_ ?_
  · intro q
    refine (kknew_v (cg1 c A n cp) L q.w (HSL.out.later q.h) HF.out HN2.out).mono ?_
    rintro e w' ⟨v,O,he,⟨b,g,fa,M,Of,m,rfl,rfl,h1⟩,h2,h3⟩
    exact ⟨_,he,h2,b,g,fa,M,Of,m,rfl,h1,fun k hk => Nat.le_trans q.h.size (h3 k hk)⟩
  simp only [Act.put,List.setIfInBounds_toArray,List.set_cons_succ,List.set_cons_zero]
  refine sec_readF (s:=23) (by rfl) (by rfl) (by rfl) (fun a w hb hl => ?_) ?_
  · have h5:=hl 22 (by decide)
    rw [if_pos (by decide)] at h5
    have h5':NCp w2 (ctNew (cg1 c A n cp) L) _ w:=h5
    obtain ⟨b,g,fa,M,Of,m,h1,h2⟩:=id h5'
    exact ⟨_,by simp [execOp,go_sem,Act.eval,h1],h5'⟩
  simp only [Act.put,List.setIfInBounds_toArray,List.set_cons_succ,List.set_cons_zero]
  refine sec_readF (s:=24) (by rfl) (by rfl) (by rfl) (fun a w hb hl => ?_) ?_
  · have h5:=hl 23 (by decide)
    rw [if_pos (by decide)] at h5
    have h5':NCp w2 (ctNew (cg1 c A n cp) L) _ w:=h5
    obtain ⟨b,g,fa,M,Of,m,h1,h2,h3⟩:=h5'
    have hbx:=h2.bm.box
    have n0:=Lib.cell_of_heap hbx 0
    have n1:=Lib.cell_of_heap hbx 1
    have n2:=Lib.cell_of_heap hbx 2
    have n3:=Lib.cell_of_heap hbx 3
    have n4:=Lib.cell_of_heap hbx 4
    have n5:=Lib.cell_of_heap hbx 5
    have n6:=Lib.cell_of_heap hbx 6
    have n7:=Lib.cell_of_heap hbx 7
    have n8:=Lib.cell_of_heap hbx 8
    have n9:=Lib.cell_of_heap hbx 9
    have hd:CkD 87 0 [] [] w (.pointer (some ⟨b,0,none⟩)) (ctNew (cg1 c A n cp) L) (ckO b g nlV nlV none Of):=⟨b,g,nlV,nlV,fa,M,Of,none, [],0,m,0,rfl,rfl,h2⟩
    have hr:CkR w g nlV nlV fa M Of none [] 0 m 0 (ctNew (cg1 c A n cp) L):=⟨h2.bm.row,h2.bm.turn,h2.bm.fin,h2.bm.f1.2,h2.bm.f2.2,h2.bm.f3,h2.bs, .inl ⟨rfl,rfl,rfl⟩,h2.rf.len,h2.rf.fit,h2.rf.lo,h2.rf.hi,h2.rf.mem,h2.ac,h2.hm,h2.hn,fun k a b => h2.a1 k (.inr a) b,fun k a b => h2.a2 k (.inr a) b,h2.a3⟩
    simp [ckY,rfC,ctNew] at n0 n1 n2 n3 n4 n5 n6 n7 n8 n9
    refine ⟨.agg (ckL g fa M m).toArray,by simp [execOp,go_sem,Act.eval,h1,n0,n1,n2,n3,n4,n5,n6,n7,n8,n9,ckL],g,fa,M,Of,m,rfl,hr,fun k hk => h3 k ?_⟩
    rw [ckO_eq]
    exact .inr hk
  simp only [Act.put,List.setIfInBounds_toArray,List.set_cons_succ,List.set_cons_zero]
  repeat (refine sec_plain (by rfl) (by rfl) (by rfl) (by rfl) ?_; intro K hK; go_big_quiet_op; go_big_quiet_on)
  refine sec_callF (s:=27) (f:=33) (args := #[.int .i64 c.bo]) (by rfl) (by rfl) (by rfl) (by rfl) (by rfl) (fun w => by simp [go_sem]) ?_ ?_
  · intro q
    refine (kenew_v c.bo q.w).mono ?_
    rintro e w' ⟨v,O,he,h1,h2,h3⟩
    exact ⟨v,he,h2,O,h1,fun k hk => Nat.le_trans q.h.size (h3 k hk)⟩
  simp only [Act.put,List.setIfInBounds_toArray,List.set_cons_succ,List.set_cons_zero]
  refine sec_readF (s:=28) (by rfl) (by rfl) (by rfl) (fun a w hb hl => ?_) ?_
  · have h5:=hl 27 (by decide)
    rw [if_pos (by decide)] at h5
    have h5':NEp w2 (boxesN c.bo) _ w:=h5
    obtain ⟨O,⟨b,m,Z,h1,h2⟩,_⟩:=id h5'
    exact ⟨_,by simp [execOp,go_sem,Act.eval,h1],h5'⟩
  simp only [Act.put,List.setIfInBounds_toArray,List.set_cons_succ,List.set_cons_zero]
  refine sec_readF (s:=29) (by rfl) (by rfl) (by rfl) (fun a w hb hl => ?_) ?_
  · have h5:=hl 28 (by decide)
    rw [if_pos (by decide)] at h5
    have h5':NEp w2 (boxesN c.bo) _ w:=h5
    obtain ⟨O,⟨b,m,Z,h1,rfl,h2⟩,h3⟩:=h5'
    have n0:=h2.cells
    refine ⟨.agg #[.slice (some ⟨m,0,none⟩) Z.length Z.length],by simp [execOp,go_sem,Act.eval,h1,n0],m,Z,_,rfl,rfl,⟨m,Z,rfl,rfl,h2.row,h2.here,fun i k hk => (h2.f1 i k hk).2,h2.f2,h2.full⟩,h3 m (.inr (.inl rfl))⟩
  simp only [Act.put,List.setIfInBounds_toArray,List.set_cons_succ,List.set_cons_zero]
  refine sec_readF (s:=30) (by rfl) (by rfl) (by rfl) (fun a w hb hl => ?_) ?_
  · have h5:=hl 24 (by decide)
    have h6:=hl 29 (by decide)
    have h7:=hl 20 (by decide)
    rw [if_pos (by decide)] at h5 h6
    rw [if_neg (by decide)] at h7
    have h5':NCa w2 (ctNew (cg1 c A n cp) L) _ w:=h5
    have h6':NEa w2 (boxesN c.bo) _ w:=h6
    have h7':a.tmps.getD 20 undef = cgV (cg1 c A n cp):=h7
    obtain ⟨g,fa,M,Of,m,h1,h2,h3⟩:=h5'
    obtain ⟨me,Z,R,h8,h9⟩:=h6'
    have hk:fa = .nilFunc ∨ ∃ k c,fa = .func (.func k) #[] c:=by
      rcases h2.ac with ⟨h,_⟩ | ⟨kb,u,_,h,_⟩
      · exact .inl h
      · exact .inr ⟨_,_,h⟩
    rw [Array.getD_eq_getD_getElem?] at h1 h7' h8
    refine ⟨Value.agg (cgC (cg1 c A n cp) ++ (ckL g fa M m ++ [Value.slice (some ⟨me,0,none⟩) Z.length Z.length])).toArray, ?_,ckL g fa M m, [Value.slice (some ⟨me,0,none⟩) Z.length Z.length],rfl,⟨g,fa,M,Of,m,rfl,h2,h3⟩,me,Z,R,rfl,h9⟩
    rcases hk with rfl | ⟨k9,c9,rfl⟩ <;> simp [execOp,go_sem,Act.eval,h1,h7',h8,ckL,cgC,cg1]
  simp only [Act.put,List.setIfInBounds_toArray,List.set_cons_succ,List.set_cons_zero]
  refine sec_readF (s:=31) (by rfl) (by rfl) (by rfl) (fun a w hb hl => ?_) ?_
  · have h5:=hl 19 (by decide)
    have h6:=hl 30 (by decide)
    rw [if_pos (by decide)] at h5 h6
    have h5':NQa w2 (roomN c.ba) (roomN c.de) _ w:=h5
    have h6':NXa w2 (cg1 c A n cp) (ctNew (cg1 c A n cp) L) (boxesN c.bo) _ w:=h6
    obtain ⟨gm,h1,h2⟩:=h5'
    obtain ⟨l1,l2,h3,h4,h7⟩:=h6'
    obtain ⟨g,fa,M,Of,m,hc1,hc2,hc3⟩:=id h4
    obtain ⟨me,Z,R,he1,he2⟩:=id h7
    obtain rfl:l1 = ckL g fa M m:=by injection hc1 with hc1; simpa using hc1
    obtain rfl:l2 = [Value.slice (some ⟨me,0,none⟩) Z.length Z.length]:=by injection he1 with he1; simpa using he1
    have hk:fa = .nilFunc ∨ ∃ k c,fa = .func (.func k) #[] c:=by
      rcases hc2.ac with ⟨h,_⟩ | ⟨kb,u,_,h,_⟩
      · exact .inl h
      · exact .inr ⟨_,_,h⟩
    rw [Array.getD_eq_getD_getElem?] at h1 h3
    refine ⟨Value.agg (.int .i64 0 :: (bdC gm (roomN c.ba) (roomN c.de) 0 false ++ (cgC (cg1 c A n cp) ++ (ckL g fa M m ++ ([Value.slice (some ⟨me,0,none⟩) Z.length Z.length] ++ sxC sx0))))).toArray, ?_,bdC gm (roomN c.ba) (roomN c.de) 0 false,ckL g fa M m, [Value.slice (some ⟨me,0,none⟩) Z.length Z.length],rfl,⟨gm,rfl,h2⟩,h4,h7⟩
    rcases hk with rfl | ⟨k9,c9,rfl⟩ <;> simp [execOp,go_sem,Act.eval,h1,h3,bdC,ckL,cgC,cg1,sxC,sx0]
  simp only [Act.put,List.setIfInBounds_toArray,List.set_cons_succ,List.set_cons_zero]
  intro xs m9 hF
  have h31:NYa w2 (roomN c.ba) (roomN c.de) (cg1 c A n cp) (ctNew (cg1 c A n cp) L) (boxesN c.bo) (xs 31) m9.w:=hF 31 (by simp)
  obtain ⟨lq,l1,l2,hv,hq,hc,he⟩:=h31
  simp only [secFill,Act.put,List.setIfInBounds_toArray,List.set_cons_succ,List.set_cons_zero,hv]
  clear hF hcl d0 d1 d2 d3 d4 d5 d6 d7 k0 k1 k2 k3 k4 k5 k6 k7
  have HQ:=Lib.hid hq
  have HC:=Lib.hid hc
  have HE:=Lib.hid he
  clear hq hc he hv
  go_wp2
  go_ret
  obtain ⟨O,h1,h2⟩:=dkD_new (v:=undef) (c:=c) (cg:=cg1 c A n cp) HT.out rfl rfl HN2.out HF.out HB2.out m9.h HR2.out HOW.out HQ.out HC.out HE.out
  have hb:=fbelow_t HB2.out m9.h
  exact ⟨_,O,rfl,h1,hb.alloc hb.size _,h2⟩
end Go.Proofs.YtimdkcchjanpaaaGreatDoor
namespace Go.Proofs.YtimdkcchjanpaaaGreatDoor
open Go.RowKit
set_option linter.unusedVariables false
theorem drvReal:DrvI Tabs DkD where
  tab:=fun h hb => h.below hb
  obj:=isObj_dk
  ptr:=by
    rintro w v s O ⟨b,cg,L,q,c,e,R,rfl,_⟩
    exact ⟨_,rfl⟩
  new:=fun c L w hT h hf hn => dknew_v c L w hT h hf hn
  up:=fun h ok hT _ => dkup_v h ok hT
  down:=fun h ok hT _ => dkdown_v h ok hT
  state:=fun h _ => dkstate_v h
  send:=fun b p h ok hT hp => dksend_v b p h ok hT hp
  offer:=fun h ok _ => dkoffer_v h ok
  won:=fun h ok hT => dkwon_v h ok hT
  hear:=fun f h ok hB hT hn _ => dkhear_v f h ok hB hT hn
  tx:=fun h ok hB hT => dktx_v h ok hB hT
  rx:=fun h ok hB hT => dkrx_v h ok hB hT
  off:=fun h ok hT => dkoff_v h ok hT
  fix:=fun h ok hB hT => dkfix_v h ok hB hT
  back:=fun h ok hT => dkback_v h ok hT
  stats:=fun h _ => dkstats_v h
  queued:=fun h ok => dkqueued_v h ok
  boxes:=fun h ok => dkboxes_v h ok
  kept:=fun h _ => dkkept_v h
  lost:=fun h _ h0 => dklost_v h h0
end Go.Proofs.YtimdkcchjanpaaaGreatDoor
