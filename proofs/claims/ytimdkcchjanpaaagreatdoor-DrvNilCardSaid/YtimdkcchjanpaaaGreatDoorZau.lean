/- Ctrl, the code: New. Printed by gen_ck.py. -/
import Derived.Test.YtimdkcchjanpaaaGreatDoorZat
import Derived.Test.YtimdkcchjanpaaaGreatDoorZaf
set_option maxHeartbeats 8000000
namespace Go.Proofs.YtimdkcchjanpaaaGreatDoor
open Go.RowKit
set_option linter.unusedVariables false
variable {TB:TypeId} {od:Nat} {X Y:List Value}
section
variable {P:Program} {ops:Array Oper} {W:World} {sec:List Tmp} {F:Tmp → Value → World → Prop} {o:Oper} {h:Act} {rest:List Oper} {Q:Act → Prop} {s:Tmp}
theorem sec_readF (hw:Region.wanted o (yielded ops h.tmps) = true) (hd:o.dst = some s) (hs:sec.contains s = true)
    (hrun:∀ (a:Act) (w:World),Below W.heap.size W w → secLooks ops sec F o h a w → ∃ u,(execOp a.eval o).run P w = .ok (.value u) w ∧ F s u w) (hk:wpSec P ops W sec F Q rest (h.put o.dst undef)):wpSec P ops W sec F Q (o :: rest) h:=by
  unfold wpSec
  rw [if_pos hw]
  refine ⟨undef,fun a w hb hlk => ?_,hk⟩
  obtain ⟨u,h1,h2⟩:=hrun a w hb hlk
  rw [h1]
  refine ⟨Below.refl _ _, ?_⟩
  unfold secGood
  rw [hd]
  simp only
  rw [if_pos (by simpa using hs)]
  exact h2
theorem slg_src {α:Type} {c:α → List Value} {k:Nat} {w:World} {T E:TypeId} {M:List α} {p:Addr} {n cp:Nat} (hsl:SlG c k w w.heap.size (.slice (some p) n cp) M) (hk:∀ a,(c a).length = k) (hone:∀ a, ∀ u ∈ c a,u.oneCell' = true) (ht:P.underlying T = some (.slice E)):n = M.length ∧ Src P k T (.slice (some p) n cp) M.length (rowG c M) w:=by
  obtain ⟨A,cap,hv,_,hc⟩:=hsl
  injection hv with hA hn hcap
  subst hA hn hcap
  refine ⟨rfl,Src.ofSlice w ht p M.length cp (rowG c M) (rowG_length hk M) (fun j u hu => ?_) (fun u hu => ?_)⟩
  · obtain ⟨i,r,b,h1,h2,rfl⟩:=rowG_cells' hk hu
    obtain ⟨x',hx',_,hcell⟩:=hc i b h1
    injection hx' with hx'
    subst hx'
    exact hcell r u h2
  · obtain ⟨j,hj,rfl⟩:=List.getElem_of_mem hu
    obtain ⟨i,r,b,h1,h2,_⟩:=rowG_cells' hk (List.getElem?_eq_getElem hj)
    exact hone b _ (List.mem_of_getElem? h2)
theorem wpList_qS {α:Type} {c:α → List Value} {k bytes:Nat} {T E:TypeId} {rest:List Oper} {a:Act} {Q:Exit → Act → World → Prop} {L M:List α} (hT:FlatE P T E k bytes) (hk:∀ a,(c a).length = k) (hgd:o.guard = none) (s x:Operand)
    (ho:o.op = .call { callee := .builtin .append,args := #[s,x],argTypes := #[T,T] }) {v u:Value} (hs:a.eval s = v) (hg:RowQ c k W v L)
    (hx:a.eval x = u) (hr:Src P k T u M.length (rowG c M) W) (hsz:L.length + M.length ≤ 1000000)
    (h:∀ v' w',RowQ c k w' v' (L ++ M) → Kept (OwnO v) W w' → Grows (OwnO v) W (OwnO v') → wpList P ops Q rest (a.put o.dst v') w'):wpList P ops Q (o :: rest) a W:=by
  refine wpList_plain hgd fun K hK' => ?_
  obtain ⟨v',w',hrun,r1,r2,r3⟩:=hg.run hT hk hr hsz o.type
  unfold Oper.wp
  simp [execOp,ho,resolve,invoke,builtin,hs,hx,hrun,Result.andThen]
  exact hK' _ _ (h v' w' r1 r2 r3)
end
theorem info_fl:(Tryz.prog.info? 66).map (fun i => (i.zero,i.size,i.bytes)) = some (some (.agg #[.int .u32 0, .int .u32 0, .bool false]),3,12):=by kernel_rfl
theorem flat_fl:FlatE Tryz.prog 22 66 3 12:=by
  obtain ⟨i0,hi,hz0,hz1,hz2⟩:=info_parts info_fl
  exact ⟨Tryz.underlying22,i0,_,hi,hz0,hz1,hz2,rfl,by decide,by decide⟩
theorem flC_one:∀ f:Flt, ∀ u ∈ flC f,u.oneCell' = true:=fun f u hu => by
  simp [flC] at hu
  rcases hu with rfl | rfl | rfl <;> rfl
theorem some_eqFl (a:Addr) (n c:Nat) (w:World):(binOp .eql 22 (.slice (some a) n c) (.slice none 0 0)).run Tryz.prog w = .ok (.bool false) w:=by kernel_rfl
theorem clonefl_v {w:World} {x:Addr} {n cp:Nat} {L:List Flt} (h:SlG flC 3 w w.heap.size (.slice (some x) n cp) L) (hm:n ≤ 50) :
    Calls Tryz.prog 30 #[.slice (some x) n cp] w fun e w' => ∃ u,e = .returned u ∧ RowQ flC 3 w' u L ∧ (∀ k,OwnO u k → w.heap.size ≤ k) ∧ Below w.heap.size w w':=by
  have hb0:=(Below.refl w.heap.size w).alloc (Nat.le_refl _) (.cells (#[]:Array Value) 66)
  have hs:n = L.length ∧ Src Tryz.prog 3 22 (.slice (some x) n cp) L.length (rowG flC L) (w.alloc (.cells (#[]:Array Value) 66)):=slg_src (h.later hb0) flC_len flC_one Tryz.underlying22
  obtain ⟨hn,hs⟩:=hs
  have HS:=Lib.hid hs
  have HL:Hid (L.length ≤ 50):=Lib.hid (by omega)
  have hq:=some_eqFl
  clear h hs hm hn hb0
  go_enter Tryz.func30,Tryz.ntmps30
  go_wp2_with (at_builtin; refine wpList_qS (c:=flC) (L := []) (M:=L) flat_fl flC_len rfl (.tmp 5) (.tmp 6) rfl (by simp [Act.eval]) (RowQ.empty w _) (by simp [Act.eval]) HS.out (by have:=HL.out; simp; omega) ?_; rintro v3 w3 hq3 hk3 hg3; have HQ3:=Lib.hid hq3; have HK3:=Lib.hid hk3; have HG3:=Lib.hid hg3; clear hq3 hk3 hg3)
  go_wp2
  go_ret
  have hb0:=(Below.refl w.heap.size w).alloc (Nat.le_refl _) (.cells (#[]:Array Value) 66)
  have own:∀ k,OwnO (.slice (some ⟨w.heap.size,0,none⟩) 0 0) k → k = w.heap.size:=fun k h => by
    injection h with h
    exact h.symm
  refine ⟨_,rfl,by simpa using HQ3.out,fun k hk => ?_,HK3.out.below hb0 (by have:=hb0.size; omega) (fun k h => Nat.le_of_eq (own k h).symm)⟩
  rcases HG3.out k hk with h3 | h3
  · exact Nat.le_of_eq (own k h3).symm
  · have:=hb0.size; omega
theorem kkany_v {w:World} {A:Option Addr} {n cp:Nat} {L:List Flt} (h:SlG flC 3 w w.heap.size (.slice A n cp) L) (hfit:∀ x ∈ L,x.fits) (hm:n ≤ 50) :
    Calls Tryz.prog 73 #[.slice A n cp] w fun e w' => ∃ u,e = .returned u ∧ (∃ Of,AccK w' u L Of ∧ ∀ k,Of k → w.heap.size ≤ k) ∧ Below w.heap.size w w':=by
  obtain ⟨A1,c1,hv,hm2,hc⟩:=id h
  injection hv with hA hn hcap
  subst hA hn hcap
  cases L with
  | nil =>
    clear h hfit hc
    simp only [List.length_nil]
    go_enter Tryz.func73,Tryz.ntmps73
    go_wp2
    refine bodyPost_ret (v := .nilFunc) ?_ rfl ⟨_,rfl,⟨_, .inl ⟨rfl,rfl,rfl⟩,fun k hk => hk.elim⟩,Below.refl _ _⟩
    simp [results,Tryz.results73,go_sem]
  | cons x L =>
    obtain ⟨a,ha,_⟩:=hc 0 x rfl
    subst ha
    have HC:=Lib.hid (clonefl_v h hm)
    have HF:=Lib.hid hfit
    have HM:=Lib.hid hm
    obtain ⟨k,hk⟩:∃ k,(x :: L).length = k:=⟨_,rfl⟩
    have hk1:((k:Int) == 0) = false:=by rw [← hk]; simp; omega
    have hk2:(k == 0) = false:=by rw [← hk]; simp
    have HK:=Lib.hid hk
    rw [hk] at HC HM ⊢
    clear h hfit hc hm hm2 hk
    go_enter Tryz.func73,Tryz.ntmps73
    go_wp2_with fail
    refine HC.out.mono ?_
    rintro e w1 ⟨u,rfl,hq,ho,hb⟩
    obtain ⟨A9,c9,hsh⟩:=hq.shape
    subst hsh
    obtain ⟨k9,hk9⟩:∃ k,(x :: L).length = k:=⟨_,rfl⟩
    rw [hk9] at hq ho ⊢
    have HQ:=Lib.hid hq
    have HO:=Lib.hid ho
    have HB:=Lib.hid hb
    clear hq ho hb HC hk9
    go_wp2
    have hb2:=(Below.refl w1.heap.size w1).alloc (Nat.le_refl _) (.cells #[.slice A9 k9 c9] 22)
    refine bodyPost_ret (v := .func (.func 109) #[] #[.pointer (some ⟨w1.heap.size,0,none⟩)]) (by simp [results,Tryz.results73,go_sem]) rfl ?_
    refine ⟨_,rfl,⟨_,   .inr ⟨w1.heap.size, .slice A9 k9 c9,by simp,rfl,Bx1.made _ _ _ rfl,HQ.out.later hb2,HF.out,by have:=HM.out; have:=HK.out; omega,rfl⟩, ?_⟩,fbelow_t HB.out hb2⟩
    rintro k (rfl | hk)
    · exact HB.out.size
    · exact HO.out k hk
abbrev nlV:Value := .slice none 0 0
def NwP (W:World) (mb:Nat) (v:Value) (w:World):Prop := ∃ b g M,v = .pointer (some ⟨b,0,none⟩) ∧ BmM 76 0 [] [] w b g nlV nlV M [] [] ∧ BmS M (bxNew mb) ∧ W.heap.size ≤ g
def NwB (W:World) (mb:Nat) (v:Value) (w:World):Prop := ∃ b g M,v = .agg #[ckS g M,nlV,nlV] ∧ BmM 76 0 [] [] w b g nlV nlV M [] [] ∧ BmS M (bxNew mb) ∧ W.heap.size ≤ g
def NwA (W:World) (L:List Flt) (v:Value) (w:World):Prop := ∃ Of,AccK w v L Of ∧ ∀ k,Of k → W.heap.size ≤ k
def NwR (mr:Nat) (v:Value) (w:World):Prop := ∃ b,v = .pointer (some ⟨b,0,none⟩) ∧ RfM 81 0 [] [] w b none [] 0 ⟨[],mr,0⟩
def NwI (W:World) (mr:Nat) (L:List Flt) (v:Value) (w:World):Prop := ∃ fa,v = .agg #[fa, .slice none 0 0, .int .i64 0, .int .i64 0, .int .i64 mr, .int .i64 0] ∧ NwA W L fa w
def NwF (W:World) (mb mr:Nat) (L:List Flt) (t:Tmp) (v:Value) (w:World):Prop :=
  if t = 5 ∨ t = 6 then NwP W mb v w else if t = 7 ∨ t = 8 then NwB W mb v w else if t = 11 then NwA W L v w else if t = 14 ∨ t = 15 then NwR mr v w else if t = 16 then v = .agg #[.slice none 0 0, .int .i64 0, .int .i64 0, .int .i64 mr, .int .i64 0] else if t = 17 then NwI W mr L v w else True
theorem NwA.later {W w w':World} {L:List Flt} {v:Value} (h:NwA W L v w) (hb:Below w.heap.size w w'):NwA W L v w':=by
  obtain ⟨Of,h1,h2⟩:=h
  exact ⟨Of,h1.stay (fun k hk => hb.block k (h1.lt k hk)),h2⟩
theorem NwF.later {W w w':World} {mb mr:Nat} {L:List Flt} {t:Tmp} {v:Value} (h:NwF W mb mr L t v w) (hb:Below w.heap.size w w'):NwF W mb mr L t v w':=by
  unfold NwF at h ⊢
  split
  · rename_i e; rw [if_pos e] at h
    obtain ⟨b,g,M,h1,h2,h3,h4⟩:=h
    exact ⟨b,g,M,h1,h2.later hb,h3,h4⟩
  · rename_i e; rw [if_neg e] at h
    split
    · rename_i e; rw [if_pos e] at h
      obtain ⟨b,g,M,h1,h2,h3,h4⟩:=h
      exact ⟨b,g,M,h1,h2.later hb,h3,h4⟩
    · rename_i e; rw [if_neg e] at h
      split
      · rename_i e; rw [if_pos e] at h
        exact NwA.later h hb
      · rename_i e; rw [if_neg e] at h
        split
        · rename_i e; rw [if_pos e] at h
          obtain ⟨b,h1,h2⟩:=h
          exact ⟨b,h1,h2.later hb⟩
        · rename_i e; rw [if_neg e] at h
          split
          · rename_i e; rw [if_pos e] at h
            exact h
          · rename_i e; rw [if_neg e] at h
            split
            · rename_i e; rw [if_pos e] at h
              obtain ⟨fa,h1,h2⟩:=h
              exact ⟨fa,h1,h2.later hb⟩
            · trivial
theorem mb_no32 (N:List (Int × Pk)):∀ v ∈ rowG mbC N, ∀ x,v ≠ .int .u32 x:=by
  intro v hv x
  unfold rowG at hv
  obtain ⟨a,_,ha⟩:=List.mem_flatMap.1 hv
  simp [mbC,pkC] at ha
  rcases ha with rfl | rfl | rfl | rfl | rfl | rfl | rfl | rfl <;> (intro h; cases h)
theorem acc_apart {w:World} {fa:Value} {L:List Flt} {Of:Nat → Prop} {g:Nat} {N:List (Int × Pk)} (h:AccK w fa L Of) (hg:w.heap[g]? = some (.cells (rowG mbC N).toArray 170 (0,0))):¬ Of g:=by
  rcases h with ⟨_,_,rfl⟩ | ⟨kb,u,h0,_,h1,h2,_,_,rfl⟩
  · exact fun h => h
  · rintro (rfl | hk)
    · unfold Bx1 at h1
      rw [hg] at h1
      injection h1 with h1
      injection h1 with _ h3 _
      revert h3
      decide
    · rcases h2 with ⟨rfl,h3⟩ | ⟨g',o',cap,rfl,h3,h4,h5,h6,h7⟩
      · exact h0 h3
      · injection hk with e
        have e:g' = g:=e
        subst e
        cases L with
        | nil => exact h0 rfl
        | cons x L =>
          have h8:=h6 0 (.int .u32 x.i) (by simp [rowG,flC])
          rw [Lib.cell_of_heap hg] at h8
          exact mb_no32 N _ (by simpa using Array.mem_of_getElem? h8) _ rfl
theorem acc_kinds {W w:World} {L:List Flt} {x:Value} (h:NwA W L x w):x = .nilFunc ∨ ∃ k c,x = .func (.func k) #[] c:=by
  obtain ⟨Of,h1,_⟩:=h
  rcases h1 with ⟨rfl,_⟩ | ⟨kb,u,_,rfl,_⟩
  · exact .inl rfl
  · exact .inr ⟨_,_,rfl⟩
def CkN (TB:TypeId) (od:Nat) (X Y:List Value) (w:World) (v:Value) (s:Ct) (O:Nat → Prop):Prop := ∃ b g fa M Of m,v = .pointer (some ⟨b,od,none⟩) ∧ O = ckO b g nlV nlV none Of ∧ CkM TB od X Y w b g nlV nlV fa M Of none [] 0 m 0 s
theorem CkN.d {w:World} {v:Value} {s:Ct} {O:Nat → Prop} (h:CkN TB od X Y w v s O):CkD TB od X Y w v s O:=by
  obtain ⟨b,g,fa,M,Of,m,h1,h2,h3⟩:=h
  exact ⟨b,g,nlV,nlV,fa,M,Of,none, [],0,m,0,h1,h2,h3⟩
theorem ckD_new {W w:World} {mb mr:Nat} {c:Cg} {L:List Flt} {fa:Value} {b g:Nat} {M:List (Int × Pk)} (hmb:boxesN c.bo = mb) (hmr:roomN c.fi = (mr:Int)) (h1:1 ≤ mr) (h2:mr ≤ 1000) (hW:W.heap.size ≤ w.heap.size)
    (hm:BmM 76 0 [] [] w b g nlV nlV M [] []) (hs:BmS M (bxNew mb)) (ho:W.heap.size ≤ g) (ha:NwA W L fa w) :
    ∃ O,CkN 87 0 [] [] (w.alloc (.cells #[ckS g M,nlV,nlV,fa,nlV, .int .i64 0, .int .i64 0, .int .i64 mr, .int .i64 0, .int .i64 0] 87)) (.pointer (some ⟨w.heap.size,0,none⟩)) (ctNew c L) O ∧ ∀ k,O k → W.heap.size ≤ k:=by
  have hb:=(Below.refl w.heap.size w).alloc (Nat.le_refl _) (.cells #[ckS g M,nlV,nlV,fa,nlV, .int .i64 0, .int .i64 0, .int .i64 mr, .int .i64 0, .int .i64 0] 87)
  have hn:=heap_alloc_new w (.cells #[ckS g M,nlV,nlV,fa,nlV, .int .i64 0, .int .i64 0, .int .i64 mr, .int .i64 0, .int .i64 0] 87)
  generalize w.alloc (.cells #[ckS g M,nlV,nlV,fa,nlV, .int .i64 0, .int .i64 0, .int .i64 mr, .int .i64 0, .int .i64 0] 87) = w' at hb hn ⊢
  obtain ⟨Of,ha1,ha2⟩:=ha
  have hal:=ha1.lt
  have hml:=hm.lt
  have hap1:=acc_apart ha1 hm.row
  have hmm:BmM 87 0 [] (ckY fa none 0 0 0 (mr:Int) 0 0 ++ []) w' w.heap.size g nlV nlV M [] []:=hm.move hn rfl (fun k hk => hb.block k (hml k (.inr hk))) hb.size (.inr (Nat.le_refl _))
  have out:∀ k,bmO w.heap.size g nlV nlV k → k = w.heap.size ∨ k = g:=fun k hk => by
    rcases hk with h | h | h | h
    · exact .inl h
    · exact .inr h
    · cases h
    · cases h
  have e:(ctNew c L).bx = bxNew mb:=by unfold ctNew; rw [hmb]
  refine ⟨_,⟨w.heap.size,g,fa,M,Of,mr,rfl,rfl,⟨?_, ?_,⟨?_,rfl, .inl ⟨rfl,rfl,rfl⟩,Nat.le_refl _,Nat.zero_le _,h1,h2,fun i hi => ?_⟩,ha1.stay (fun k hk => hb.block k (hal k hk)),hmr,rfl, ?_, ?_, ?_⟩⟩, ?_⟩
  · rw [e]; exact hmm
  · rw [e]; exact hs
  · exact hmm.box
  · cases hi
  · rintro k _ ⟨a,h,_⟩; cases h
  · intro k hk h3
    rcases out k hk with rfl | rfl
    · have:=hal _ h3; omega
    · exact hap1 h3
  · rintro k ⟨a,h,_⟩ _; cases h
  · rintro k (hk | ⟨a,h,_⟩ | hk)
    · rcases out k hk with rfl | rfl
      · exact hW
      · exact ho
    · cases h
    · exact ha2 k hk
theorem kknewbox_v {n:Int} {mb:Nat} (hmb:boxesN n = mb) (w:World):Calls Tryz.prog 72 #[.int .i64 n] w fun e w' => ∃ u,e = .returned u ∧ NwP w mb u w' ∧ Below w.heap.size w w':=by
  have hm2:mb ≤ 1000:=by rw [← hmb]; unfold boxesN; split <;> (try split) <;> omega
  have mk1:=run_mkM mb hm2
  obtain ⟨ZM,hM⟩:∃ Z,rowG mbC (List.replicate mb (0,pk0)) = Z:=⟨_,rfl⟩
  rw [hM] at mk1
  have HZ:=Lib.hid hM
  have hmin:min (max n 1) 1000 = (mb:Int):=by
    rw [← hmb]
    unfold boxesN
    split
    · omega
    · split <;> omega
  clear hM hmb
  go_enter Tryz.func72,Tryz.ntmps72
  go_wp2
  go_ret
  obtain ⟨w1,e1⟩:∃ w1,w.alloc (.cells ZM.toArray 170) = w1:=⟨_,rfl⟩
  have s1:w1.heap.size = w.heap.size + 1:=by rw [← e1]; simp
  have n1:=heap_alloc_new w (.cells ZM.toArray 170)
  have hb1:Below w.heap.size w w1:=by rw [← e1]; exact (Below.refl _ w).alloc (Nat.le_refl _) _
  rw [e1] at n1 ⊢
  rw [← HZ.out] at n1
  have n2:=heap_alloc_new w1 (.cells #[.slice (some ⟨w.heap.size,0,none⟩) mb mb, .slice none 0 0, .slice none 0 0] 76)
  have hb2:=(Below.refl _ w1).alloc (Nat.le_refl _) (.cells #[.slice (some ⟨w.heap.size,0,none⟩) mb mb, .slice none 0 0, .slice none 0 0] 76)
  rw [s1] at n2
  have nn:∀ k, ¬ OwnO (.slice none 0 0) k:=fun k h => by cases h
  have hl:(List.replicate mb ((0:Int),pk0)).length = mb:=by simp
  refine ⟨_,rfl,⟨w.heap.size + 1,w.heap.size,List.replicate mb (0,pk0),rfl,⟨by rw [hl]; exact n2,rfl,(hb2.block _ (by omega)).trans n1,RowQ.nil _,RowQ.nil _,by omega,⟨nn _,nn _⟩,⟨nn _,nn _⟩,fun k h => (nn k h).elim⟩,⟨by simp [bxNew],by simp [bxNew],Bx.Full.new mb⟩,Nat.le_refl _⟩,fbelow_t hb1 hb2⟩
theorem kknew_v (c:Cg) (L:List Flt) (w:World) (h:SlG flC 3 w w.heap.size c.va L) (hfit:∀ x ∈ L,x.fits) (hm:c.n ≤ 50):Calls Tryz.prog 32 #[cgV c] w fun e w' => ∃ v O,e = .returned v ∧ CkN 87 0 [] [] w' v (ctNew c L) O ∧ Below w.heap.size w w' ∧ ∀ k,O k → w.heap.size ≤ k:=by
  obtain ⟨w0,e0⟩:∃ w0,w.alloc (cgO c) = w0:=⟨_,rfl⟩
  have hb0:Below w.heap.size w w0:=by rw [← e0]; exact (Below.refl _ _).alloc (Nat.le_refl _) _
  have HB0:=Lib.hid hb0
  have hz0:w.heap.size < w0.heap.size:=by rw [← e0]; simp
  obtain ⟨d0,d1,d7⟩:=cg_cells w c
  rw [e0] at d0 d1 d7
  have HS:=Lib.hid (h.later hb0)
  have HF:=Lib.hid hfit
  have HM:=Lib.hid hm
  obtain ⟨mb,hmb⟩:∃ m,boxesN c.bo = m:=⟨_,rfl⟩
  obtain ⟨mr,hmr⟩:∃ m:Nat,roomN c.fi = (m:Int):=⟨(roomN c.fi).toNat,by have:=roomN_rng c.fi; omega⟩
  have HMB:=Lib.hid hmb
  have HMR:=Lib.hid hmr
  have HRG:Hid (1 ≤ mr ∧ mr ≤ 1000):=Lib.hid (by have:=roomN_rng c.fi; omega)
  clear hb0 h hfit hm hmb hmr
  go_enter Tryz.func32,Tryz.ntmps32
  go_upto_region 1 with fail
  have hcl:∀ (n:Later w0) (b o:Nat),b < w0.heap.size → n.w.cell? ⟨b,o,none⟩ = w0.cell? ⟨b,o,none⟩:=later_cells w0
  refine wp_region_sec 15 [5,6,7,8,11,14,15,16,17] (NwF w mb mr L) (fun _ _ _ _ h hb => h.later hb) (by kernel_rfl) (by kernel_rfl) (by kernel_rfl) (by kernel_rfl) (by kernel_rfl) ?_
  simp only [List.take_succ_cons,List.take_zero,List.drop_succ_cons,List.drop_zero]
  repeat (refine sec_plain (by rfl) (by rfl) (by rfl) (by rfl) ?_; intro K hK; go_big_quiet_op; go_big_quiet_on)
  refine sec_callF (s:=5) (f:=72) (args := #[.int .i64 c.bo]) (by rfl) (by rfl) (by rfl) (by rfl) (by rfl) (fun w => by simp [go_sem]) ?_ ?_
  · intro q
    refine (kknewbox_v HMB.out q.w).mono ?_
    rintro e w' ⟨v,he,⟨b,g,M,h1,h2,h3,h4⟩,h5⟩
    exact ⟨v,he,h5,b,g,M,h1,h2,h3,Nat.le_trans HB0.out.size (Nat.le_trans q.h.size h4)⟩
  simp only [Act.put,List.setIfInBounds_toArray,List.set_cons_succ,List.set_cons_zero]
  refine sec_readF (s:=6) (by rfl) (by rfl) (by rfl) (fun a w hb hl => ?_) ?_
  · have h5:=hl 5 (by decide)
    rw [if_pos (by decide)] at h5
    have h5':NwP _ mb _ w:=h5
    obtain ⟨b,g,M,h1,h2⟩:=id h5'
    exact ⟨_,by simp [execOp,go_sem,Act.eval,h1],h5'⟩
  simp only [Act.put,List.setIfInBounds_toArray,List.set_cons_succ,List.set_cons_zero]
  refine sec_readF (s:=7) (by rfl) (by rfl) (by rfl) (fun a w hb hl => ?_) ?_
  · have h6:=hl 6 (by decide)
    rw [if_pos (by decide)] at h6
    have h6':NwP _ mb _ w:=h6
    obtain ⟨b,g,M,h1,h2,h3,h4⟩:=h6'
    obtain ⟨q0,q1,q2⟩:=h2.cells
    exact ⟨.agg #[ckS g M,nlV,nlV],by simp [execOp,go_sem,Act.eval,h1,q0,q1,q2],b,g,M,rfl,h2,h3,h4⟩
  simp only [Act.put,List.setIfInBounds_toArray,List.set_cons_succ,List.set_cons_zero]
  refine sec_readF (s:=8) (by rfl) (by rfl) (by rfl) (fun a w hb hl => ?_) ?_
  · have h7:=hl 7 (by decide)
    rw [if_pos (by decide)] at h7
    have h7':NwB _ mb _ w:=h7
    obtain ⟨b,g,M,h1,h2⟩:=id h7'
    have h1b:=h1
    rw [Array.getD_eq_getD_getElem?] at h1b
    exact ⟨.agg #[ckS g M,nlV,nlV],by simp [execOp,go_sem,Act.eval,h1b],b,g,M,rfl,h2⟩
  simp only [Act.put,List.setIfInBounds_toArray,List.set_cons_succ,List.set_cons_zero]
  repeat (refine sec_plain (by rfl) (by rfl) (by rfl) (by rfl) ?_; intro K hK; go_big_quiet_op; go_big_quiet_on)
  refine sec_callF (s:=11) (f:=73) (args := #[.slice c.A c.n c.cp]) (by rfl) (by rfl) (by rfl) (by rfl) (by rfl) (fun w => by simp [go_sem]) ?_ ?_
  · intro q
    refine (kkany_v (HS.out.later q.h) HF.out HM.out).mono ?_
    rintro e w' ⟨v,he,⟨Of,h1,h2⟩,h3⟩
    exact ⟨v,he,h3,Of,h1,fun k hk => Nat.le_trans HB0.out.size (Nat.le_trans q.h.size (h2 k hk))⟩
  simp only [Act.put,List.setIfInBounds_toArray,List.set_cons_succ,List.set_cons_zero]
  repeat (refine sec_plain (by rfl) (by rfl) (by rfl) (by rfl) ?_; intro K hK; go_big_quiet_op; go_big_quiet_on)
  refine sec_callF (s:=14) (f:=74) (args := #[.int .i64 c.fi]) (by rfl) (by rfl) (by rfl) (by rfl) (by rfl) (fun w => by simp [go_sem]) ?_ ?_
  · intro q
    refine (rfnew_v c.fi q.w).mono ?_
    rintro e w' ⟨b,he,_,h2,h3⟩
    have e1:(roomN c.fi).toNat = mr:=by rw [HMR.out]; simp
    rw [e1] at h2
    exact ⟨_,he,h3,b,rfl,h2⟩
  simp only [Act.put,List.setIfInBounds_toArray,List.set_cons_succ,List.set_cons_zero]
  refine sec_readF (s:=15) (by rfl) (by rfl) (by rfl) (fun a w hb hl => ?_) ?_
  · have h5:=hl 14 (by decide)
    rw [if_pos (by decide)] at h5
    have h5':NwR mr _ w:=h5
    obtain ⟨b,h1,h2⟩:=id h5'
    exact ⟨_,by simp [execOp,go_sem,Act.eval,h1],h5'⟩
  simp only [Act.put,List.setIfInBounds_toArray,List.set_cons_succ,List.set_cons_zero]
  refine sec_readF (s:=16) (by rfl) (by rfl) (by rfl) (fun a w hb hl => ?_) ?_
  · have h5:=hl 15 (by decide)
    rw [if_pos (by decide)] at h5
    have h5':NwR mr _ w:=h5
    obtain ⟨b,h1,h2⟩:=id h5'
    obtain ⟨q0,q1,q2,q3,q4⟩:=h2.cells
    simp only [Nat.zero_add] at q1 q2 q3 q4
    exact ⟨.agg #[.slice none 0 0, .int .i64 0, .int .i64 0, .int .i64 mr, .int .i64 0],by simp [execOp,go_sem,Act.eval,h1,q0,q1,q2,q3,q4],rfl⟩
  simp only [Act.put,List.setIfInBounds_toArray,List.set_cons_succ,List.set_cons_zero]
  refine sec_readF (s:=17) (by rfl) (by rfl) (by rfl) (fun a w hb hl => ?_) ?_
  · have h5:=hl 11 (by decide)
    rw [if_pos (by decide)] at h5
    have h5':NwA _ L _ w:=h5
    have h6:=hl 16 (by decide)
    rw [if_pos (by decide)] at h6
    have h6':_ = Value.agg #[.slice none 0 0, .int .i64 0, .int .i64 0, .int .i64 mr, .int .i64 0]:=h6
    obtain ⟨x,hx⟩:∃ x,a.tmps.getD 11 undef = x:=⟨_,rfl⟩
    rw [hx] at h5'
    rw [Array.getD_eq_getD_getElem?] at hx h6'
    refine ⟨.agg #[x, .slice none 0 0, .int .i64 0, .int .i64 0, .int .i64 mr, .int .i64 0], ?_,x,rfl,h5'⟩
    rcases acc_kinds h5' with rfl | ⟨k1,c1,rfl⟩ <;> simp [execOp,go_sem,Act.eval,hx,h6']
  simp only [Act.put,List.setIfInBounds_toArray,List.set_cons_succ,List.set_cons_zero]
  intro xs m9 hF
  have h8:=hF 8 (by simp)
  have h17:=hF 17 (by simp)
  have h8':NwB w mb (xs 8) m9.w:=h8
  have h17':NwI w mr L (xs 17) m9.w:=h17
  obtain ⟨b,g,M,hx8,hm8,hs8,ho8⟩:=h8'
  obtain ⟨fa,hx17,ha17⟩:=h17'
  have hk:=acc_kinds ha17
  have hbd:=fbelow_t HB0.out m9.h
  obtain ⟨O,hck,hco⟩:=ckD_new (W:=w) (c:=c) HMB.out HMR.out HRG.out.1 HRG.out.2 hbd.size hm8 hs8 ho8 ha17
  have HCK:=Lib.hid hck
  have HCO:=Lib.hid hco
  have HBD:=Lib.hid (fbelow_t hbd ((Below.refl m9.w.heap.size m9.w).alloc (Nat.le_refl _) (.cells #[ckS g M,nlV,nlV,fa,nlV, .int .i64 0, .int .i64 0, .int .i64 mr, .int .i64 0, .int .i64 0] 87)))
  simp only [secFill,Act.put,List.setIfInBounds_toArray,List.set_cons_succ,List.set_cons_zero,hx8,hx17]
  generalize xs 5 = v5
  generalize xs 6 = v6
  generalize xs 7 = v7
  generalize xs 11 = v11
  generalize xs 14 = v14
  generalize xs 15 = v15
  generalize xs 16 = v16
  clear hF xs hcl d0 d1 d7 h8 h17 hx8 hx17 hm8 hs8 ho8 ha17 hbd hck hco
  generalize m9.w = w9 at HCK HBD ⊢
  rcases hk with rfl | ⟨k1,c1,rfl⟩
  · go_wp2
    go_ret
    exact ⟨_,O,rfl,HCK.out,HBD.out,HCO.out⟩
  · go_wp2
    go_ret
    exact ⟨_,O,rfl,HCK.out,HBD.out,HCO.out⟩
end Go.Proofs.YtimdkcchjanpaaaGreatDoor
