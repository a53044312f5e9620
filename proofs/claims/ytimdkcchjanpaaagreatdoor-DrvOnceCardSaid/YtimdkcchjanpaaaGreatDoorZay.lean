/- Of no program: as XStep, but each operation knows how far the chain is at least (lv: for each operation, how many of the chain it waits for, through others t .. -/
import Derived.Test.YtimdkcchjanpaaaGreatDoorZae
import Derived.Test.YtimdkcchjanpaaaGreatDoorZax
set_option maxHeartbeats 8000000
namespace Go.Proofs.YtimdkcchjanpaaaGreatDoor
open Go.RowKit
set_option linter.unusedVariables false
section
variable {P:Program} {ops:Array Oper} {md:Region.Mode} {st lv:List Nat} {G:Nat → (Tmp → Option Value) → World → Prop} {sec:List Tmp}
def slSpec (P:Program) (ops:Array Oper) (st:List Nat) (lv:List Nat) (G:Nat → (Tmp → Option Value) → World → Prop) (sec:List Tmp) (i:Nat) (o:Oper) (h:Act) (v:Value):Prop :=
  ∀ (j:Nat) (xs:Tmp → Option Value) (a:Act) (w:World),j ≤ st.length → (∀ k:Nat,st[k]? = some i → j = k) → lv.getD i 0 ≤ j → G j xs w → stFresh sec xs o → stLooks ops sec xs o h a →
    stUpon P w (fun u w' => G (if i ∈ st then j + 1 else j) (hidPut sec xs o.dst u) w' ∧ stGood sec o.dst v u) ((execOp a.eval o).run P w)
def slOp (P:Program) (ops:Array Oper) (st:List Nat) (lv:List Nat) (G:Nat → (Tmp → Option Value) → World → Prop) (sec:List Tmp) (i:Nat) (K:Act → Prop) (h:Act):Prop :=
  match ops[i]? with
  | none => K h
  | some o => if Region.wanted o (yielded ops h.tmps) then ∃ v,slSpec P ops st lv G sec i o h v ∧ K (h.put o.dst v) else StSkip st sec i o ∧ K (h.put o.dst undef)
def wpSl (P:Program) (ops:Array Oper) (st:List Nat) (lv:List Nat) (G:Nat → (Tmp → Option Value) → World → Prop) (sec:List Tmp) (Q:Act → Prop):Nat → List Oper → Act → Prop
  | _, [],h => Q h
  | i,o :: rest,h => if Region.wanted o (yielded ops h.tmps) then ∃ v,slSpec P ops st lv G sec i o h v ∧ wpSl P ops st lv G sec Q (i + 1) rest (h.put o.dst v)
      else StSkip st sec i o ∧ wpSl P ops st lv G sec Q (i + 1) rest (h.put o.dst undef)
def LevL (st lv:List Nat) (listed:Array Bool) (j:Nat):Prop:=Lev st listed j ∧ ∀ i,listed.getD i false = true → lv.getD i 0 ≤ j
def lvB (md:Region.Mode) (ops:Array Oper) (st lv:List Nat):Bool :=
  (List.range lv.length).all fun i => lv.getD i 0 == 0 || match ops[i]? with
    | some o => o.after.any fun e => Region.binds md e && (decide (lv.getD i 0 ≤ lv.getD e.on 0) || (List.range st.length).any fun k => st[k]? == some e.on && decide (lv.getD i 0 ≤ k + 1))
    | none => false
theorem LevL.zero {st lv:List Nat} (n:Nat):LevL st lv (Array.replicate n false) 0:=⟨lev_zero n,fun i h => by rw [getD_replicate_false] at h; cases h⟩
theorem lv_ready {lv:List Nat} {md:Region.Mode} {ops:Array Oper} {st:List Nat} (h:lvB md ops st lv = true) {listed:Array Bool} {i j:Nat} (hl:LevL st lv listed j) (hi:i ∈ Region.ready md ops listed):lv.getD i 0 ≤ j:=by
  obtain ⟨_,o,ho,hw⟩:=mem_ready.1 hi
  by_cases hil:i < lv.length
  · have h1:=List.all_eq_true.1 h i (List.mem_range.2 hil)
    simp only [Bool.or_eq_true,beq_iff_eq] at h1
    rcases h1 with h1 | h1
    · omega
    · rw [ho] at h1
      simp only at h1
      obtain ⟨e,he,hb⟩:=Array.any_eq_true'.1 h1
      simp only [Bool.and_eq_true,Bool.or_eq_true,decide_eq_true_eq] at hb
      have hlist:=hw e he hb.1
      rcases hb.2 with h2 | h2
      · exact Nat.le_trans h2 (hl.2 _ hlist)
      · obtain ⟨k,_,hk⟩:=List.any_eq_true.1 h2
        simp only [Bool.and_eq_true,beq_iff_eq,decide_eq_true_eq] at hk
        have:=(hl.1.2 k e.on hk.1).1 hlist
        omega
  · have:lv.getD i 0 = 0:=by rw [List.getD_eq_getElem?_getD,List.getElem?_eq_none (by omega)]; rfl
    omega
theorem LevL.step {lv:List Nat} {md:Region.Mode} {ops:Array Oper} {st:List Nat} (h:lvB md ops st lv = true) {listed:Array Bool} {i j j':Nat} (hl:LevL st lv listed j) (hi:i ∈ Region.ready md ops listed) (h':Lev st (listed.setIfInBounds i true) j') (hj:j ≤ j'):LevL st lv (listed.setIfInBounds i true) j':=by
  refine ⟨h',fun k hk => ?_⟩
  by_cases e:i = k
  · subst e; exact Nat.le_trans (lv_ready h hl hi) hj
  · rw [getD_set_ne false e] at hk
    exact Nat.le_trans (hl.2 k hk) hj
def slB (md:Region.Mode) (ops:Array Oper) (st lv:List Nat) (n:Nat):Bool :=
  decide st.Nodup && (List.range st.length).all (fun k => match st[k]?,st[k + 1]? with | some a,some b => Region.waitsFor md ops b a || decide (k + 1 ≤ lv.getD b 0) | _,_ => true) &&
    st.all (fun s => decide (s < n))
theorem slB_spec {md:Region.Mode} {ops:Array Oper} {st lv:List Nat} {n:Nat} (h:slB md ops st lv n = true):st.Nodup ∧ (∀ k a b:Nat,st[k]? = some a → st[k + 1]? = some b → Region.waitsFor md ops b a = true ∨ k + 1 ≤ lv.getD b 0) ∧ ∀ s ∈ st,s < n:=by
  unfold slB at h
  simp only [Bool.and_eq_true,decide_eq_true_eq] at h
  obtain ⟨⟨h1,h2⟩,h3⟩:=h
  refine ⟨h1,fun k a b ha hb => ?_,fun s hs => by simpa using List.all_eq_true.1 h3 s hs⟩
  have hk:k < st.length:=by
    rcases Nat.lt_or_ge k st.length with h | h
    · exact h
    · rw [List.getElem?_eq_none h] at ha; cases ha
  have:=List.all_eq_true.1 h2 k (List.mem_range.2 hk)
  rw [ha,hb] at this
  simpa using this
theorem levL_step {md:Region.Mode} {ops:Array Oper} {st lv:List Nat} {n:Nat} (hB:slB md ops st lv n = true) (hLB:lvB md ops st lv = true) {listed:Array Bool} {i j k:Nat} (h:LevL st lv listed j) (hr:i ∈ Region.ready md ops listed) (hi:st[k]? = some i):j = k ∧ Lev st (listed.setIfInBounds i true) (j + 1):=by
  obtain ⟨hnd,hch,hall⟩:=slB_spec hB
  refine lev_core hnd ?_ h.1 hr hi
  cases k with
  | zero => omega
  | succ k =>
    have hk:k + 1 < st.length:=by
      rcases Nat.lt_or_ge (k + 1) st.length with h1 | h1
      · exact h1
      · rw [List.getElem?_eq_none h1] at hi; cases hi
    obtain ⟨s,hs⟩:∃ s,st[k]? = some s:=⟨_,List.getElem?_eq_getElem (by omega)⟩
    rcases hch k s i hs hi with h1 | h1
    · exact lev_waits h.1 hr hs h1
    · exact Nat.le_trans h1 (lv_ready hLB h hr)
def wpAnySl (P:Program) (md:Region.Mode) (ops:Array Oper) (st:List Nat) (lv:List Nat) (G:Nat → (Tmp → Option Value) → World → Prop) (sec:List Tmp) (n:Nat) (L:Array Bool → Act → Prop):Nat → Array Bool → Act → Prop
  | 0,listed,h => L listed h
  | f + 1,listed,h => Region.ready md ops listed ≠ [] ∧ ∀ i ∈ Region.ready md ops listed,i < n ∧ slOp P ops st lv G sec i (wpAnySl P md ops st lv G sec n L f (listed.setIfInBounds i true)) h
theorem slOp_mono {i:Nat} {K K':Act → Prop} {h:Act} (hk:∀ h,K h → K' h) (hh:slOp P ops st lv G sec i K h):slOp P ops st lv G sec i K' h:=by
  unfold slOp at *
  split
  · exact hk _ (by simpa [*] using hh)
  · rename_i o ho
    simp only [ho] at hh
    split
    · rename_i hw
      simp only [hw,if_true] at hh
      obtain ⟨v,h1,h2⟩:=hh
      exact ⟨v,h1,hk _ h2⟩
    · rename_i hw
      simp only [hw] at hh
      exact ⟨hh.1,hk _ hh.2⟩
theorem wpOp_of_sl {n0:Nat} (hO:onceB ops sec = true) (hB:secB md ops sec = true) (hS:slB md ops st lv n0 = true) (hLB:lvB md ops st lv = true) {i:Nat} {h a:Act} {w:World} {K:Act → Prop} {K':Act → World → Prop} {Q':Exit → Act → World → Prop} {listed:Array Bool} {j:Nat} {xs:Tmp → Option Value}
    (hi:i ∈ Region.ready md ops listed) (hs:∀ t ∈ sec,t < h.tmps.size) (hag:SecAg sec h a) (hlv:LevL st lv listed j) (hb:G j xs w) (hf:HidV ops sec listed a xs)
    (hK:∀ h' a' w' j' xs',K h' → h'.tmps.size = h.tmps.size → SecAg sec h' a' → LevL st lv (listed.setIfInBounds i true) j' → G j' xs' w' → HidV ops sec (listed.setIfInBounds i true) a' xs' → K' a' w') (hh:slOp P ops st lv G sec i K h):wpOp P ops Q' i K' a w:=by
  obtain ⟨hun,o,ho,_⟩:=mem_ready.1 hi
  unfold slOp at hh
  unfold wpOp
  simp only [ho] at hh ⊢
  rw [secB_guard hB ho hag]
  split
  · rename_i hw
    simp only [hw,if_true] at hh
    obtain ⟨v,hsp,hk⟩:=hh
    have hjk:∀ k:Nat,st[k]? = some i → j = k:=fun k hk => (levL_step hS hLB hlv hi hk).1
    have hlv':LevL st lv (listed.setIfInBounds i true) (if i ∈ st then j + 1 else j):=by
      by_cases hm:i ∈ st
      · rw [if_pos hm]
        obtain ⟨k,hk1,hk2⟩:=List.getElem_of_mem hm
        exact (LevL.step hLB hlv hi (levL_step hS hLB hlv hi (by rw [List.getElem?_eq_getElem hk1,hk2])).2 (Nat.le_succ _))
      · rw [if_neg hm]; exact LevL.step hLB hlv hi (lev_set hlv.1 hm) (Nat.le_refl _)
    have hfr:stFresh sec xs o:=fun t hd ht => by
      rw [hf i o t ho hd ht,getD_both hun]; rfl
    have h3:=hsp j xs a w hlv.1.1 hjk (lv_ready hLB hlv hi) hb hfr (hidV_looks hB ho hi hag hf)
    have on:∀ u w',(G (if i ∈ st then j + 1 else j) (hidPut sec xs o.dst u) w' ∧ stGood sec o.dst v u) → K' (a.put o.dst u) w':=fun u w' ⟨hbw,hg⟩ => by
      refine hK _ _ _ _ _ hk (put_size _ _ _) (hag.put fun t ht => ?_) hlv' hbw (hidV_put hO hf ho hun (fun t ht => by rw [hag.size]; exact hs t ht) u)
      unfold stGood at hg
      rw [ht] at hg
      exact hg
    refine .inl ?_
    unfold Oper.wp
    generalize (execOp a.eval o).run P w = r at h3 ⊢
    cases r with
    | ok x w' =>
      cases x <;> simp only [stUpon] at h3 <;> simp only [Oper.upon]
      case value u => exact on u w' h3
      case skip => exact on undef w' h3
      case enter f args =>
        obtain ⟨rfl,hc⟩:=h3
        refine hc.mono fun e w'' ⟨u,he,h4⟩ => ?_
        subst he
        exact on u w'' h4
    | halt x w' => simp only [stUpon] at h3
  · rename_i hw
    simp only [hw] at hh
    have hm:i ∉ st:=hh.1.2
    exact hK _ _ _ _ _ hh.2 (put_size _ _ _) (hag.put fun _ _ => .inr rfl) (LevL.step hLB hlv hi (lev_set hlv.1 hm) (Nat.le_refl _)) hb (hidV_skip hf ho hh.1.1 _)
theorem wpAny_of_Sl {n0:Nat} (hO:onceB ops sec = true) (hB:secB md ops sec = true) (hS:slB md ops st lv n0 = true) (hLB:lvB md ops st lv = true) {n g:Nat} {L:Array Bool → Act → Prop} {Q':Exit → Act → World → Prop}
    (hL:∀ listed h a w j xs,L listed h → (∀ t ∈ sec,t < h.tmps.size) → SecAg sec h a → LevL st lv listed j → G j xs w → HidV ops sec listed a xs → wpAny P md ops Q' g listed a w) :
    ∀ (f:Nat) (listed:Array Bool) (h a:Act) (w:World) (j:Nat) (xs:Tmp → Option Value),(∀ t ∈ sec,t < h.tmps.size) → SecAg sec h a → LevL st lv listed j → G j xs w → HidV ops sec listed a xs →
      wpAnySl P md ops st lv G sec n L f listed h → wpAny P md ops Q' (f + g) listed a w
  | 0,listed,h,a,w,j,xs,hs,hag,hlv,hb,hf,hx => by rw [Nat.zero_add]; exact hL _ _ _ _ _ _ hx hs hag hlv hb hf
  | f + 1,listed,h,a,w,j,xs,hs,hag,hlv,hb,hf,hx => by
    rw [show f + 1 + g = (f + g) + 1 by omega]
    refine ⟨fun h0 => absurd h0 hx.1,fun i hi => ?_⟩
    exact wpOp_of_sl hO hB hS hLB hi hs hag hlv hb hf (fun h' a' w' j' xs' hk hsz hag' hlv' hb' hf' => wpAny_of_Sl hO hB hS hLB hL f _ h' a' w' j' xs' (fun t ht => by rw [hsz]; exact hs t ht) hag' hlv' hb' hf' hk) (hx.2 i hi).2
def SlYields (P:Program) (ops:Array Oper) (st:List Nat) (lv:List Nat) (G:Nat → (Tmp → Option Value) → World → Prop) (sec:List Tmp) (i:Nat) (o:Oper) (v:Value) (h:Act):Prop :=
  (Region.wanted o (yielded ops h.tmps) = true ∧ slSpec P ops st lv G sec i o h v) ∨ (Region.wanted o (yielded ops h.tmps) = false ∧ StSkip st sec i o ∧ v = undef)
theorem slSpec_put {i:Nat} {o:Oper} {h:Act} {v:Value} (hs:slSpec P ops st lv G sec i o h v) {d:Option Tmp} (u:Value) (hd:∀ x,d = some x → x ∉ o.looksAt ops):slSpec P ops st lv G sec i o (h.put d u) v:=by
  intro j xs a w hj hjk hlj hb hfr hl
  refine hs j xs a w hj hjk hlj hb hfr fun t ht => ?_
  have:=hl t ht
  rw [getD_put_ne h u t (fun x hx hxt => hd x hx (hxt ▸ ht))] at this
  exact this
theorem slSpec_unput {i:Nat} {o:Oper} {h:Act} {v:Value} {d:Option Tmp} (u:Value) (hd:∀ x,d = some x → x ∉ o.looksAt ops) (hs:slSpec P ops st lv G sec i o (h.put d u) v):slSpec P ops st lv G sec i o h v:=by
  intro j xs a w hj hjk hlj hb hfr hl
  refine hs j xs a w hj hjk hlj hb hfr fun t ht => ?_
  have:=hl t ht
  rw [getD_put_ne h u t (fun x hx hxt => hd x hx (hxt ▸ ht))]
  exact this
theorem SlYields.op {i:Nat} {o:Oper} {v:Value} {h:Act} (hi:ops[i]? = some o) (hy:SlYields P ops st lv G sec i o v h) {K:Act → Prop} (hk:K (h.put o.dst v)):slOp P ops st lv G sec i K h:=by
  unfold slOp
  simp only [hi]
  rcases hy with ⟨hw,hv⟩ | ⟨hw,hd,rfl⟩
  · simp only [hw,if_true]; exact ⟨v,hv,hk⟩
  · simp only [hw,Bool.false_eq_true,if_false]; exact ⟨hd,hk⟩
theorem slYields_of {i:Nat} {o:Oper} {h:Act} {K:Act → Prop} (hi:ops[i]? = some o) (hh:slOp P ops st lv G sec i K h):∃ v,SlYields P ops st lv G sec i o v h ∧ K (h.put o.dst v):=by
  unfold slOp at hh
  simp only [hi] at hh
  by_cases hw:Region.wanted o (yielded ops h.tmps) = true
  · simp only [hw,if_true] at hh
    obtain ⟨v,h1,h2⟩:=hh
    exact ⟨v, .inl ⟨hw,h1⟩,h2⟩
  · simp only [hw] at hh
    exact ⟨undef, .inr ⟨by simpa using hw,hh.1,rfl⟩,hh.2⟩
theorem slOp_put {i j:Nat} {oi oj:Oper} {v:Value} (hj:ops[j]? = some oj) (hap:oi.apart ops oj = true) {K:Act → Prop} {h:Act}
    (hy:SlYields P ops st lv G sec i oi v h) (hh:slOp P ops st lv G sec j K (h.put oi.dst v)):slOp P ops st lv G sec j (fun h' => SlYields P ops st lv G sec i oi v h' ∧ K (h'.put oi.dst v)) h:=by
  obtain ⟨h1,h2,h3⟩:=Oper.apart_spec hap
  have keep:∀ u,SlYields P ops st lv G sec i oi v (h.put oj.dst u):=fun u => by
    unfold SlYields
    rw [wanted_put oi h oj.dst u h3]
    rcases hy with ⟨hw,hv⟩ | ⟨hw,hd⟩
    · exact .inl ⟨hw,slSpec_put hv u h3⟩
    · exact .inr ⟨hw,hd⟩
  unfold slOp at *
  simp only [hj] at *
  rw [wanted_put oj h oi.dst v h1] at hh
  split
  · rename_i hw
    simp only [hw,if_true] at hh
    obtain ⟨u,hu,hn⟩:=hh
    exact ⟨u,slSpec_unput v h1 hu,keep u,by rw [← Act.put_comm h v u h2]; exact hn⟩
  · rename_i hw
    simp only [hw] at hh
    exact ⟨hh.1,keep _,by rw [← Act.put_comm h v undef h2]; exact hh.2⟩
theorem wpAnySl_first {n i:Nat} {oi:Oper} {v:Value} {L:Array Bool → Act → Prop} (hi:ops[i]? = some oi)
    (hs:Region.sinkB md ops n = true) (hc:Region.chainB md ops n = true) (hn:n < ops.size) (hin:i < n) (hdone:∀ listed h,L listed h → ∀ j ∈ Region.ready md ops listed,n ≤ j) :
    ∀ (f:Nat) (listed:Array Bool) (h:Act),HeadInv md ops n listed →
      (∀ j oj,ops[j]? = some oj → j ≠ i → listed.getD j true = false → (∀ e ∈ oj.after,Region.binds md e = true → e.on ≠ i) → oi.apart ops oj = true) →
      i ∈ Region.ready md ops listed → SlYields P ops st lv G sec i oi v h →
      wpAnySl P md ops st lv G sec n L f (listed.setIfInBounds i true) (h.put oi.dst v) → wpAnySl P md ops st lv G sec n L (f + 1) listed h:=by
  intro f
  induction f with
  | zero =>
    intro listed h inv _ hr hy H
    have hun:=(mem_ready.1 hr).1
    refine ⟨fun h0 => (by rw [h0] at hr; cases hr),fun j hj => ?_⟩
    have hjn:j < n:=Nat.lt_of_not_le fun hge => tail_waits hs hc hn inv _ i rfl hin hun j hge hj
    refine ⟨hjn, ?_⟩
    by_cases hji:j = i
    · subst hji; exact hy.op hi H
    · have:=hdone _ _ H j (ready_mono hj hji)
      omega
  | succ f ih =>
    intro listed h inv hfree hr hy H
    have hun:=(mem_ready.1 hr).1
    refine ⟨fun h0 => (by rw [h0] at hr; cases hr),fun j hj => ?_⟩
    have hjn:j < n:=Nat.lt_of_not_le fun hge => tail_waits hs hc hn inv _ i rfl hin hun j hge hj
    refine ⟨hjn, ?_⟩
    by_cases hji:j = i
    · subst hji; exact hy.op hi H
    · have h1:=(H.2 j (ready_mono hj hji)).2
      obtain ⟨hjun,oj,hoj,hall⟩:=mem_ready.1 hj
      have hnot:∀ e ∈ oj.after,Region.binds md e = true → e.on ≠ i:=fun e he hb heq => by
        have h4:=hall e he hb
        rw [heq,getD_both hun] at h4
        cases h4
      have h2:=slOp_put hoj (hfree j oj hoj hji hjun hnot) hy h1
      refine slOp_mono (fun h' h3 => ih (listed.setIfInBounds j true) h' (inv.set hj hjn) (fun k ok hk hki hunk hno => ?_) (ready_mono hr (Ne.symm hji)) h3.1 ?_) h2
      · refine hfree k ok hk hki ?_ hno
        by_cases hjk:j = k
        · subst hjk; exact hjun
        · rw [getD_set_ne true hjk] at hunk; exact hunk
      · rw [Array.setIfInBounds_comm _ _ hji]
        exact h3.2
theorem wpAnySl_lex {n g:Nat} {Lq:Act → Prop} (hs:Region.sinkB md ops n = true) (hc:Region.chainB md ops n = true) (hn:n < ops.size) :
    ∀ (l:List Oper) (k:Nat) (listed:Array Bool) (h:Act),(∀ j,j < l.length → l[j]? = ops[k + j]?) → k + l.length = n → HeadInv md ops n listed → (∀ j,j < k → listed.getD j false = true) →
    Region.lexHead md ops g l.length k listed = true → wpSl P ops st lv G sec Lq k l h →
    wpAnySl P md ops st lv G sec n (fun listed' h' => Region.seqB md ops g n listed' = true ∧ (∀ j,j < n → listed'.getD j false = true) ∧ Lq h') l.length listed h
  | [],k,listed,h,_,hk,_,hall,hB,hh => by
    obtain rfl:k = n:=by simpa using hk
    exact ⟨by simpa [Region.lexHead] using hB,hall,hh⟩
  | o :: l,k,listed,h,hl,hk,inv,hall,hB,hh => by
    have h0:ops[k]? = some o:=by simpa using (hl 0 (by simp)).symm
    simp only [List.length_cons,Region.lexHead,Bool.and_eq_true] at hB
    obtain ⟨⟨hr,hf⟩,hB'⟩:=hB
    have hkn:k < n:=by simp only [List.length_cons] at hk; omega
    have hr':k ∈ Region.ready md ops listed:=by simpa using hr
    have hst:slOp P ops st lv G sec k (wpSl P ops st lv G sec Lq (k + 1) l) h:=by unfold slOp; simp only [h0]; exact hh
    obtain ⟨v,hy,hK⟩:=slYields_of h0 hst
    exact wpAnySl_first h0 hs hc hn hkn (fun listed' h' hL => seqB_ready hL.1) l.length listed h inv (Region.free_spec h0 hf) hr' hy
      (wpAnySl_lex hs hc hn l (k + 1) _ _ (fun j hj => by have:=hl (j + 1) (by simp; omega); simpa [Nat.add_assoc,Nat.add_comm 1 j] using this) (by simp only [List.length_cons] at hk; omega) (inv.set hr' hkn)
        (fun j hj => by
          by_cases e:k = j
          · subst e
            have hkl:k < listed.size:=by rw [inv.size]; omega
            simp [hkl]
          · exact getD_set_true (hall j (by omega))) hB' hK)
end
section
variable {P:Program}
theorem wpAny_sl {Q:Exit → Act → World → Prop} {a:Act} {w:World} {l:List Oper} (n:Nat) (st:List Nat) (lv:List Nat) (G:Nat → (Tmp → Option Value) → World → Prop) (sec:List Tmp)
    (h0:G 0 (fun _ => none) w.drew) (hB:Region.lexTailB .any l.toArray n = true) (hS:secB .any l.toArray sec = true) (hO:onceB l.toArray sec = true) (hT:slB .any l.toArray st lv n = true) (hLB:lvB .any l.toArray st lv = true)
    (hW:(sec.all fun t => (l.take n).any fun o => o.dst == some t) = true) (hz:(sec.all fun t => decide (t < a.tmps.size)) = true)
    (h:wpSl P l.toArray st lv G sec (fun h' => ∀ (ys:Tmp → Value) (xs:Tmp → Option Value) (w':World),(∀ t ∈ sec,xs t = some (ys t)) → G st.length xs w' → wpList P l.toArray Q (l.drop n) (secFill ys sec h') w') 0 (l.take n) a) :
    wpAny P .any l.toArray Q l.toArray.size (Array.replicate l.toArray.size false) a { w with drawn:=w.drawn + 1 }:=by
  simp only [Region.lexTailB,Bool.and_eq_true,decide_eq_true_eq] at hB
  obtain ⟨⟨⟨⟨hsel,hn⟩,hs⟩,hc⟩,hlex⟩:=hB
  have hn':n < l.length:=by simpa using hn
  have htl:(l.take n).length = n:=by simp; omega
  have hdl:(l.drop n).length = l.toArray.size - n:=by simp
  have hzz:∀ t ∈ sec,t < a.tmps.size:=fun t ht => by simpa using List.all_eq_true.1 hz t ht
  have inv0:HeadInv .any l.toArray n (Array.replicate l.toArray.size false) :=
    ⟨by simp,fun j oj _ hl => (by rw [getD_replicate_false] at hl; cases hl),fun t _ ht => getD_in (by simpa using ht) (getD_replicate_false _ _)⟩
  have H:=wpAnySl_lex (md := .any) (g:=l.toArray.size - n) hs hc hn (l.take n) 0 _ a (fun j hj => by
    have hj':j < n:=by rw [htl] at hj; exact hj
    simp [hj']) (by simpa using htl) inv0 (fun j hj => by omega) (by rw [htl]; exact hlex) h
  have:=wpAny_of_Sl (Q':=Q) (g:=l.toArray.size - n) hO hS hT hLB (fun listed h' a' w' j xs hL hs' hag hlv hb hf => by
    have hfill:=hag.fill hs'
    obtain rfl:=lev_end (slB_spec hT).2.2 hlv.1 hL.2.1
    have hq:=hL.2.2 (fun t => a'.tmps.getD t undef) xs w' (fun t ht => by
      have h1:=List.all_eq_true.1 hW t ht
      obtain ⟨o,ho,hd⟩:=List.any_eq_true.1 h1
      obtain ⟨j,hj,hjo⟩:=List.getElem_of_mem ho
      have hjn:j < n:=by omega
      have hjl:j < l.length:=by omega
      have h2:=hf j o t (by rw [List.getElem?_toArray,List.getElem?_eq_getElem hjl,← hjo,List.getElem_take]) (by simpa using hd) ht
      rw [if_pos (hL.2.1 j hjn)] at h2
      exact h2) hb
    rw [← hfill] at hq
    have h5:=wpAny_of_seq (md := .any) (Q':=Q) (l.drop n) n listed a' w' (fun j => by simp [List.getElem?_drop]) (by rw [hdl]; exact hL.1) hq
    rwa [hdl] at h5) _ _ a a { w with drawn:=w.drawn + 1 } 0 (fun _ => none) hzz (SecAg.refl a) (LevL.zero _) h0 (fun i o t _ _ _ => by rw [getD_replicate_false]; rfl) H
  rw [htl,show n + (l.toArray.size - n) = l.toArray.size by omega] at this
  exact this
theorem wp_region_sl {id:Nat} {Q:Exit → Act → World → Prop} {a:Act} {w:World} {l:List Oper} (n:Nat) (st:List Nat) (lv:List Nat) (G:Nat → (Tmp → Option Value) → World → Prop) (sec:List Tmp)
    (h0:G 0 (fun _ => none) w.drew) (hm:P.follows .mixedOrders = true) (hB:Region.lexTailB .any l.toArray n = true) (hS:secB .any l.toArray sec = true) (hO:onceB l.toArray sec = true) (hT:slB .any l.toArray st lv n = true) (hLB:lvB .any l.toArray st lv = true)
    (hW:(sec.all fun t => (l.take n).any fun o => o.dst == some t) = true) (hz:(sec.all fun t => decide (t < a.tmps.size)) = true)
    (h:wpSl P l.toArray st lv G sec (fun h' => ∀ (ys:Tmp → Value) (xs:Tmp → Option Value) (w':World),(∀ t ∈ sec,xs t = some (ys t)) → G st.length xs w' → wpList P l.toArray Q (l.drop n) (secFill ys sec h') w') 0 (l.take n) a) :
    (Code.region id l.toArray true).wp P Q a w :=
  wp_region_any hm (wpAny_sl n st lv G sec h0 hB hS hO hT hLB hW hz h)
end
section
variable {P:Program} {ops:Array Oper} {st lv:List Nat} {G:Nat → (Tmp → Option Value) → World → Prop} {sec:List Tmp} {Q:Act → Prop} {o:Oper} {rest:List Oper} {h:Act} {i:Nat} {O:Nat → Prop} {W:World}
theorem sl_plain (hC:∀ {j xs w},G j xs w → Kept O W w) (hi:st.contains i = false) (hw:Region.wanted o (yielded ops h.tmps) = true) (hp:plainOp o = true) (hl:secOpenL ops sec o = true) (hd:secOpenD sec o = true)
    (hk:∀ K:Act → Prop,(∀ a,wpSl P ops st lv G sec Q (i + 1) rest a → K a) → o.quiet P h (fun w' => ∃ n:KLater O W,w' = n.w) K):wpSl P ops st lv G sec Q i (o :: rest) h:=by
  obtain ⟨v,h1,h2⟩:=hk _ fun _ hh => hh
  unfold wpSl
  rw [if_pos hw]
  refine ⟨v,fun j xs a w hj hjk hlj hb hfr hlk => ?_,h2⟩
  have hi':i ∉ st:=by simpa using hi
  rw [if_neg hi',eval_open hl (plain_sel hp) (stLooks_open hl hlk w)]
  simp only [hidPut_open hd]
  have h3:=h1 w ⟨⟨w,hC hb⟩,rfl⟩
  have h4:=plain_noEnter (P:=P) hp h.eval w
  unfold Oper.quietAt at h3
  generalize (execOp h.eval o).run P w = r at h3 h4
  cases r with
  | ok x w' =>
    cases x <;> simp only [Oper.quietUpon] at h3 <;> simp only [stUpon]
    case value u => obtain ⟨rfl,e⟩:=h3; exact ⟨hb,stGood_open _ e⟩
    case skip => obtain ⟨rfl,e⟩:=h3; exact ⟨hb,stGood_open _ e.symm⟩
    case enter f args => exact absurd rfl (h4 f args w')
  | halt x w' => simp only [Oper.quietUpon] at h3
theorem sl_nil {x:Operand} {p:Addr} (hC:∀ {j xs w},G j xs w → Kept O W w) (hi:st.contains i = false) (hw:Region.wanted o (yielded ops h.tmps) = true) (ho:o.op = .nilCheck x) (hx:h.eval x = .pointer (some p)) (hl:secOpenL ops sec o = true) (hd:secOpenD sec o = true)
    (hk:∀ K:Act → Prop,(∀ a,wpSl P ops st lv G sec Q (i + 1) rest a → K a) → o.quiet P h (fun w' => ∃ n:KLater O W,w' = n.w) K):wpSl P ops st lv G sec Q i (o :: rest) h:=by
  obtain ⟨v,h1,h2⟩:=hk _ fun _ hh => hh
  unfold wpSl
  rw [if_pos hw]
  refine ⟨v,fun j xs a w hj hjk hlj hb hfr hlk => ?_,h2⟩
  have hi':i ∉ st:=by simpa using hi
  rw [if_neg hi',eval_open hl (fun cs b => by rw [ho]; simp) (stLooks_open hl hlk w)]
  simp only [hidPut_open hd]
  have h3:=h1 w ⟨⟨w,hC hb⟩,rfl⟩
  have h4:∀ f args w',(execOp h.eval o).run P w ≠ .ok (.enter f args) w':=fun f args w' => by simp [execOp,ho,hx,Sem.run_pure]
  unfold Oper.quietAt at h3
  generalize (execOp h.eval o).run P w = r at h3 h4
  cases r with
  | ok x w' =>
    cases x <;> simp only [Oper.quietUpon] at h3 <;> simp only [stUpon]
    case value u => obtain ⟨rfl,e⟩:=h3; exact ⟨hb,stGood_open _ e⟩
    case skip => obtain ⟨rfl,e⟩:=h3; exact ⟨hb,stGood_open _ e.symm⟩
    case enter f args => exact absurd rfl (h4 f args w')
  | halt x w' => simp only [Oper.quietUpon] at h3
theorem sl_skip (hi:st.contains i = false) (hw:Region.wanted o (yielded ops h.tmps) = false) (hd:secOpenD sec o = true) (hk:wpSl P ops st lv G sec Q (i + 1) rest (h.put o.dst undef)):wpSl P ops st lv G sec Q i (o :: rest) h:=by
  unfold wpSl
  rw [if_neg (by rw [hw]; exact Bool.false_ne_true)]
  refine ⟨⟨fun d e => ?_,by simpa using hi⟩,hk⟩
  unfold secOpenD at hd
  rw [e] at hd
  simpa using hd
theorem sl_step {f:FuncId} {args:Array Value} {v:Value} (k:Nat) (hi:st[k]? = some i) (hw:Region.wanted o (yielded ops h.tmps) = true) (hn:noSel o = true) (hl:secOpenL ops sec o = true) (hd:secOpenD sec o = true)
    (hrun:∀ w,(execOp h.eval o).run P w = .ok (.enter f args) w) (hc:∀ xs w,G k xs w → Calls P f args w fun e w' => e = .returned v ∧ G (k + 1) xs w')
    (hk:wpSl P ops st lv G sec Q (i + 1) rest (h.put o.dst v)):wpSl P ops st lv G sec Q i (o :: rest) h:=by
  unfold wpSl
  rw [if_pos hw]
  refine ⟨v,fun j xs a w hj hjk hlj hb hfr hlk => ?_,hk⟩
  obtain rfl:=hjk k hi
  rw [if_pos (List.mem_of_getElem? hi),eval_open hl (noSel_spec hn) (stLooks_open hl hlk w),hrun w]
  simp only [hidPut_open hd]
  refine ⟨rfl,(hc xs w hb).mono ?_⟩
  rintro e w' ⟨he,h1⟩
  exact ⟨v,he,h1,stGood_open _ rfl⟩
theorem sl_stepF {f:FuncId} {args:Array Value} {s:Tmp} (k:Nat) (hi:st[k]? = some i) (hw:Region.wanted o (yielded ops h.tmps) = true) (hn:noSel o = true) (hl:secOpenL ops sec o = true) (hd:o.dst = some s) (hs:sec.contains s = true)
    (hrun:∀ w,(execOp h.eval o).run P w = .ok (.enter f args) w) (hc:∀ xs w,G k xs w → xs s = none → Calls P f args w fun e w' => ∃ u,e = .returned u ∧ G (k + 1) (fun t => if t = s then Option.some u else xs t) w')
    (hk:wpSl P ops st lv G sec Q (i + 1) rest (h.put o.dst undef)):wpSl P ops st lv G sec Q i (o :: rest) h:=by
  unfold wpSl
  rw [if_pos hw]
  refine ⟨undef,fun j xs a w hj hjk hlj hb hfr hlk => ?_,hk⟩
  obtain rfl:=hjk k hi
  have hs':s ∈ sec:=by simpa using hs
  rw [if_pos (List.mem_of_getElem? hi),eval_open hl (noSel_spec hn) (stLooks_open hl hlk w),hrun w]
  refine ⟨rfl,(hc xs w hb (hfr s hd hs')).mono ?_⟩
  rintro e w' ⟨u,he,h1⟩
  refine ⟨u,he, ?_,by rw [hd]; exact .inl hs'⟩
  rw [hd]
  unfold hidPut
  simp only
  rw [if_pos hs']
  exact h1
theorem sl_move {s1 s2:Tmp} (hi:st.contains i = false) (hw:Region.wanted o (yielded ops h.tmps) = true) (hd:o.dst = some s2) (hs1:sec.contains s1 = true) (hs2:sec.contains s2 = true) (hl1:s1 ∈ o.looksAt ops)
    (hrun:∀ (a:Act) w,(execOp a.eval o).run P w = .ok (.value (a.tmps.getD s1 undef)) w) (hG:∀ j xs w u,G j xs w → xs s1 = some u → xs s2 = none → G j (fun t => if t = s2 then Option.some u else xs t) w)
    (hk:wpSl P ops st lv G sec Q (i + 1) rest (h.put o.dst undef)):wpSl P ops st lv G sec Q i (o :: rest) h:=by
  unfold wpSl
  rw [if_pos hw]
  refine ⟨undef,fun j xs a w hj hjk hlj hb hfr hlk => ?_,hk⟩
  have hi':i ∉ st:=by simpa using hi
  have m1:s1 ∈ sec:=by simpa using hs1
  have m2:s2 ∈ sec:=by simpa using hs2
  have h1:=hlk s1 hl1
  rw [if_pos m1] at h1
  rw [if_neg hi',hrun a w]
  refine ⟨?_,by rw [hd]; exact .inl m2⟩
  rw [hd]
  unfold hidPut
  simp only
  rw [if_pos m2]
  exact hG j xs w _ hb h1 (hfr s2 hd m2)
end
end Go.Proofs.YtimdkcchjanpaaaGreatDoor
namespace Go.Proofs.YtimdkcchjanpaaaGreatDoor
open Go.RowKit
set_option linter.unusedVariables false
def NdG (W:World) (c:Cg) (L:List Flt) (k:Nat) (xs:Tmp → Option Value) (w:World):Prop:=Below W.heap.size W w ∧
  ((k = 0 ∧ xs 5 = none ∧ xs 10 = none) ∨ (k = 1 ∧ xs 10 = none ∧ ∃ u O,xs 5 = some u ∧ CtD w u (ctNew c L) O ∧ ∀ x,O x → W.heap.size ≤ x) ∨
   (k = 2 ∧ ∃ u O v O',xs 5 = some u ∧ xs 10 = some v ∧ CtD w u (ctNew c L) O ∧ BqD w v (bqNew c.ba c.de) O' ∧ Apart O O' ∧ (∀ x,O x → W.heap.size ≤ x) ∧ ∀ x,O' x → W.heap.size ≤ x))
theorem NdG.kept {W w:World} {c:Cg} {L:List Flt} {k:Nat} {xs:Tmp → Option Value} (h:NdG W c L k xs w):Kept (fun _ => False) W w := .of_below h.1
theorem NdG.one {W w w':World} {c:Cg} {L:List Flt} {xs:Tmp → Option Value} (h:NdG W c L 0 xs w) {u:Value} {O:Nat → Prop} (hi:CtD w' u (ctNew c L) O) (hb:Below w.heap.size w w') (hn:∀ x,O x → w.heap.size ≤ x):NdG W c L 1 (fun t => if t = 5 then some u else xs t) w':=by
  obtain ⟨h1,h2⟩:=h
  rcases h2 with ⟨_,_,h3⟩ | ⟨h2,_⟩ | ⟨h2,_⟩
  · exact ⟨fbelow_t h1 hb, .inr (.inl ⟨rfl,by simp [h3],u,O,by simp,hi,fun x hx => Nat.le_trans h1.size (hn x hx)⟩)⟩
  · cases h2
  · cases h2
theorem NdG.two {W w w':World} {c:Cg} {L:List Flt} {xs:Tmp → Option Value} (h:NdG W c L 1 xs w) {v:Value} {O':Nat → Prop} (hi:BqD w' v (bqNew c.ba c.de) O') (hb:Below w.heap.size w w') (hn:∀ x,O' x → w.heap.size ≤ x):NdG W c L 2 (fun t => if t = 10 then some v else xs t) w':=by
  obtain ⟨h1,h2⟩:=h
  rcases h2 with ⟨h2,_⟩ | ⟨_,_,u,O,h3,h4,h5⟩ | ⟨h2,_⟩
  · cases h2
  · have hl:=isObj_ct.lt h4
    exact ⟨fbelow_t h1 hb, .inr (.inr ⟨rfl,u,O,v,O',by simp [h3],by simp,isObj_ct.stay h4 (fun k hk => hb.block k (hl k hk)),hi,fun k h6 h7 => by have:=hl k h6; have:=hn k h7; omega,h5,fun x hx => Nat.le_trans h1.size (hn x hx)⟩)⟩
  · cases h2
theorem xdnew_v (c:Cg) (L:List Flt) (w:World):Calls Tryz.prog 13 #[cgV c] w fun e w' => ∃ v O,e = .returned v ∧ DrD w' v (drNew c L) O ∧ Below w.heap.size w w' ∧ ∀ k,O k → w.heap.size ≤ k:=by
  obtain ⟨w0,e0⟩:∃ w0,w.alloc (cgO c) = w0:=⟨_,rfl⟩
  have hb0:Below w.heap.size w w0:=by rw [← e0]; exact (Below.refl _ _).alloc (Nat.le_refl _) _
  have HB0:=Lib.hid hb0
  have hz0:w.heap.size < w0.heap.size:=by rw [← e0]; simp
  have hx0:w0.heap[w.heap.size]? = some (.cells #[.int .i64 c.bo, .int .i64 c.fi, .int .i64 c.ba, .int .i64 c.de, .int .i64 c.qu, .int .i64 c.no, .int .i64 c.re, .slice c.A c.n c.cp] 24 (0,0)):=by rw [← e0]; unfold World.alloc; simp
  have d:=fun j => Lib.cell_of_heap hx0 j
  have d0:=d 0
  have d1:=d 1
  have d2:=d 2
  have d3:=d 3
  have d4:=d 4
  have d5:=d 5
  have d6:=d 6
  have d7:=d 7
  simp at d0 d1 d2 d3 d4 d5 d6 d7
  clear hb0 hx0 d
  go_enter Tryz.func13,Tryz.ntmps13
  go_upto_region 1 with fail
  have hcl:∀ (n:KLater (fun _ => False) w0) (o:Nat),n.w.cell? ⟨w.heap.size,o,none⟩ = w0.cell? ⟨w.heap.size,o,none⟩:=fun n o => n.cell w.heap.size o hz0 (fun h => h)
  refine wp_region_sl 8 [2,7] [] (NdG w0 c L) [5,10] ⟨(Below.refl _ _).drew, .inl ⟨rfl,rfl,rfl⟩⟩ (by kernel_rfl) (by kernel_rfl) (by kernel_rfl) (by kernel_rfl) (by kernel_rfl) (by kernel_rfl) (by kernel_rfl) (by kernel_rfl) ?_
  simp only [List.take_succ_cons,List.take_zero,List.drop_succ_cons,List.drop_zero]
  repeat (refine sl_plain (O:=fun _ => False) (fun h => h.kept) (by rfl) (by rfl) (by rfl) (by rfl) (by rfl) ?_; intro K hK; go_big_quiet_op; go_big_quiet_on)
  refine sl_stepF (s:=5) (f:=53) (args := #[cgV c]) 0 (by rfl) (by rfl) (by rfl) (by rfl) (by rfl) (by rfl) (fun w => by simp [go_sem]) (fun xs9 w9 h9 hx9 => ?_) ?_
  · refine (xcnew_v c L w9).mono ?_
    rintro e w' ⟨v,O,he,hi,hb,hn⟩
    exact ⟨v,he,h9.one hi hb hn⟩
  simp only [Act.put,List.setIfInBounds_toArray,List.set_cons_succ,List.set_cons_zero]
  repeat (refine sl_plain (O:=fun _ => False) (fun h => h.kept) (by rfl) (by rfl) (by rfl) (by rfl) (by rfl) ?_; intro K hK; go_big_quiet_op; go_big_quiet_on)
  refine sl_stepF (s:=10) (f:=54) (args := #[.int .i64 c.ba, .int .i64 c.de]) 1 (by rfl) (by rfl) (by rfl) (by rfl) (by rfl) (by rfl) (fun w => by simp [go_sem]) (fun xs9 w9 h9 hx9 => ?_) ?_
  · refine (xbnew_v c.ba c.de w9).mono ?_
    rintro e w' ⟨v,O,he,hi,hb,hn⟩
    exact ⟨v,he,h9.two hi hb hn⟩
  simp only [Act.put,List.setIfInBounds_toArray,List.set_cons_succ,List.set_cons_zero]
  intro ys xs w9 hF h9
  obtain ⟨h9b,h9⟩:=h9
  rcases h9 with ⟨h3,_⟩ | ⟨h3,_⟩ | ⟨_,u,O,v,O',f1,f2,hc,hq,hap,ho,ho'⟩
  · cases h3
  · cases h3
  have e5:ys 5 = u:=by have:=(hF 5 (by simp)).symm.trans f1; injection this
  have e10:ys 10 = v:=by have:=(hF 10 (by simp)).symm.trans f2; injection this
  simp only [secFill,Act.put,List.setIfInBounds_toArray,List.set_cons_succ,List.set_cons_zero]
  rw [e5,e10]
  have lc:=isObj_ct.lt hc
  have lq:=isObj_bq.lt hq
  have hci:=hc
  obtain ⟨bb,bv,Ob,vf,rfl,rfl,_⟩:=hci
  have hqi:=hq
  obtain ⟨bq,vl,rfl,rfl,_⟩:=hqi
  have hb2:=(Below.refl w9.heap.size w9).alloc (Nat.le_refl _) (.cells (drC c (.pointer (some ⟨bb,0,none⟩)) (.pointer (some ⟨bq,0,none⟩)) 0 sx0) 115)
  have hn:=heap_alloc_new w9 (.cells (drC c (.pointer (some ⟨bb,0,none⟩)) (.pointer (some ⟨bq,0,none⟩)) 0 sx0) 115)
  have HM:Hid (DrM (w9.alloc (.cells (drC c (.pointer (some ⟨bb,0,none⟩)) (.pointer (some ⟨bq,0,none⟩)) 0 sx0) 115)) w9.heap.size (.pointer (some ⟨bb,0,none⟩)) (.pointer (some ⟨bq,0,none⟩)) (ctO bb Ob vf) (bqO bq vl) (drNew c L)):=Lib.hid
    ⟨hn,isObj_ct.stay hc (fun k hk => hb2.block k (lc k hk)),isObj_bq.stay hq (fun k hk => hb2.block k (lq k hk)),fun h => by have:=lc _ h; omega,fun h => by have:=lq _ h; omega,hap⟩
  have HB:=Lib.hid (fbelow_t (fbelow_t HB0.out h9b) hb2)
  have HO:Hid (∀ k,drO w9.heap.size (ctO bb Ob vf) (bqO bq vl) k → w.heap.size ≤ k):=Lib.hid (by
    rintro k (rfl | h | h)
    · exact (fbelow_t HB0.out h9b).size
    · exact Nat.le_trans HB0.out.size (ho k h)
    · exact Nat.le_trans HB0.out.size (ho' k h))
  clear hF f1 f2 e5 e10 hc hq hap ho ho' lc lq hb2 hn h9b hcl d0 d1 d2 d3 d4 d5 d6 d7
  go_wp2
  go_ret
  exact ⟨_,_,rfl,⟨_,_,_,_,_,rfl,rfl,HM.out⟩,HB.out,HO.out⟩
theorem xdback_v {w:World} {v:Value} {s:Dr} {O:Nat → Prop} {B:Int} (h:DrD w v s O) (ok:s.Ok B):Calls Tryz.prog 49 #[v] w fun e w' => e = .returned (.tuple #[]) ∧ Stp DrD v O w s.back w':=by
  obtain ⟨b,cp,qp,Oc,Oq,rfl,rfl,h⟩:=h
  have H:=Lib.hid h
  obtain ⟨c8,c9,c10,_⟩:=h.cells
  have f10:=h.live 10
  have hbz:=h.blt
  by_cases h0:s.st = 3
  · have hd:(s.st == 3) = true:=by simp [h0]
    obtain ⟨s1,hs1⟩:∃ s1:Dr,({ s with st:=1,ct := { s.ct with asks:=clrK s.ct.asks 8 4 } }:Dr) = s1:=⟨_,rfl⟩
    have HE:Hid (s.back = s1.push):=Lib.hid (by unfold Dr.back; rw [if_pos h0,hs1])
    have HO1:Hid (s1.Ok B):=Lib.hid (by rw [← hs1]; exact ⟨ok.ct.clear 8,ok.q,ok.ls,⟨by show (0:Int) ≤ 1; decide,by show (1:Int) ≤ 3; decide⟩,ok.sx,ok.qk,ok.bk,ok.fk,ok.va⟩)
    rw [HE.out]
    have hci:=h.ct
    obtain ⟨bb,bv,Ob,vf,rfl,rfl,_⟩:=hci
    obtain ⟨m1,k1⟩:=h.setNum (s' := { s with st:=1 }) 10 (.int .i64 1) rfl rfl rfl
    have HM:=Lib.hid m1
    have HK:=Lib.hid k1
    have HAK:Hid (0 ≤ s.ct.asks ∧ s.ct.asks < 16):=Lib.hid ok.ct.ak
    have HS1:=Lib.hid hs1
    clear h ok m1 k1 h0 hs1
    go_enter Tryz.func49,Tryz.ntmps49
    go_wp2_with fail
    refine (xclear_v (n:=8) _ HM.out.ct HAK.out).mono ?_
    rintro e w1 ⟨rfl,hs⟩
    obtain ⟨Oc',m3,k3,g3⟩:=HM.out.ctrl hs
    have hk13:=HK.out.trans k3 (Grows.refl _ _)
    have hg13:Grows (drO b (ctO bb Ob vf) Oq) w (drO b Oc' Oq):=fun k hk => (g3 k hk).imp id (fun h => Nat.le_trans HK.out.size h)
    have hm3:DrD w1 (.pointer (some ⟨b,0,none⟩)) s1 (drO b Oc' Oq):=by
      rw [← HS1.out]; exact ⟨b,_,_,_,_,rfl,rfl,m3⟩
    have HK3:=Lib.hid hk13
    have HG3:=Lib.hid hg13
    have HM3:=Lib.hid hm3
    clear hs m3 k3 g3 hk13 hg13 hm3
    go_wp2_with fail
    refine (xdpush_v HM3.out HO1.out).mono ?_
    rintro e w2 ⟨rfl,O',h1,h2,h3⟩
    have H1:=Lib.hid h1
    have H2:=Lib.hid h2
    have H3:=Lib.hid h3
    clear h1 h2 h3
    go_wp2
    go_end0
    exact ⟨rfl,O',H1.out,HK3.out.trans H2.out HG3.out,HG3.out.trans H3.out HK3.out.size⟩
  · have hd:(s.st == 3) = false:=by simp [h0]
    have HE:Hid (s.back = s):=Lib.hid (by unfold Dr.back; rw [if_neg h0])
    rw [HE.out]
    clear h h0
    go_enter Tryz.func49,Tryz.ntmps49
    go_wp2
    go_end0
    exact ⟨rfl,H.out.stp (Below.refl _ _)⟩
end Go.Proofs.YtimdkcchjanpaaaGreatDoor
namespace Go.Proofs.YtimdkcchjanpaaaGreatDoor
open Go.RowKit
set_option linter.unusedVariables false
theorem Dr.Ok.putq {s:Dr} {B:Int} (h:s.Ok B) (b:Int) (p:Pk) (hk:0 ≤ keyG p.f):({ s with q:=(s.q.put b p).1 }:Dr).Ok B:=by
  refine ⟨h.ct,h.q.put b p,h.ls,h.st,h.sx,fun o ho => ?_,h.bk,h.fk,h.va⟩
  simp only at ho
  unfold Bq.put at ho
  split at ho
  · exact h.qk o ho
  · simp only [List.mem_append,List.mem_singleton] at ho
    rcases ho with ho | rfl
    · exact h.qk o ho
    · exact hk
theorem Bq.put_kinds (s:Bq) (b:Int) (p:Pk):((s.put b p).2 = 0) ∨ ((s.put b p).2 = 5 ∧ (s.put b p).1 = s):=by
  unfold Bq.put
  split
  · exact .inr ⟨rfl,rfl⟩
  · exact .inl rfl
theorem xdsend_v {w:World} {v:Value} {s:Dr} {O:Nat → Prop} {B:Int} (bi:Int) (p:Pk) (h:DrD w v s O) (ok:s.Ok B):Calls Tryz.prog 42 #[v, .int .i64 bi,pkV p] w fun e w' => e = .returned (.int .i64 (s.send bi p).2) ∧ Stp DrD v O w (s.send bi p).1 w':=by
  obtain ⟨b,cp,qp,Oc,Oq,rfl,rfl,h⟩:=h
  have H:=Lib.hid h
  have hb0:=(Below.refl w.heap.size w).alloc (Nat.le_refl _) (.cells #[.int .i64 p.f.i, .int .i64 p.f.n, .int .i64 p.f.l, .string p.f.d, .int .i64 p.fr, .int .i64 p.tag, .bool p.lp] 37)
  obtain ⟨w0,e0⟩:∃ w0,w.alloc (.cells #[.int .i64 p.f.i, .int .i64 p.f.n, .int .i64 p.f.l, .string p.f.d, .int .i64 p.fr, .int .i64 p.tag, .bool p.lp] 37) = w0:=⟨_,rfl⟩
  have hp0:BoxP w0 w.heap.size p:=by rw [← e0]; exact BoxP.made w p
  rw [e0] at hb0
  have HB0:=Lib.hid hb0
  have HP0:=Lib.hid hp0
  have HOK:=Lib.hid ok
  have h0m:=h.later hb0
  obtain ⟨c8,c9,c10,_⟩:=h0m.cells
  have hbz:=h0m.blt
  obtain ⟨d0,d1,d2,d3,d4,d5,d6⟩:=hp0.cells
  have hpz:=hp0.lt
  obtain ⟨q,hq⟩:∃ q,keyG p.f = q:=⟨_,rfl⟩
  have HQ:Hid (keyV p.f.i p.f.n p.f.l p.f.d.size = q):=Lib.hid hq
  have HKQ:=Lib.hid hq
  have HSE:Hid (s.send bi p = if s.st = 0 then (s,7) else if q < 0 then (s,4) else if (s.q.put bi p).2 = 0 then (({ s with q:=(s.q.put bi p).1 }:Dr).push,0) else (s,(s.q.put bi p).2)):=Lib.hid (by unfold Dr.send; rw [hq])
  obtain ⟨sx,hsx⟩:∃ x,s.send bi p = x:=⟨_,rfl⟩
  rw [hsx] at HSE ⊢
  have hqi:=h.q
  obtain ⟨bq,vl,rfl,rfl,_⟩:=hqi
  clear h h0m hb0 hp0 ok hq hsx
  by_cases h1:s.st = 0
  · have hd:(s.st == 0) = true:=by simp [h1]
    obtain rfl:(s,7) = sx:=by rw [HSE.out,if_pos h1]
    clear h1
    go_enter Tryz.func42,Tryz.ntmps42
    go_wp2
    go_ret
    exact ⟨rfl,H.out.stp HB0.out⟩
  have hd:(s.st == 0) = false:=by simp [h1]
  by_cases h2:q < 0
  · have hd2:decide (q < 0) = true:=decide_eq_true h2
    obtain rfl:(s,4) = sx:=by rw [HSE.out,if_neg h1,if_pos h2]
    clear h1 h2
    go_enter Tryz.func42,Tryz.ntmps42
    go_wp2_with fail
    refine (rkey_v HQ.out _).mono ?_
    rintro e w1 ⟨rfl,hb⟩
    go_wp2
    go_ret
    exact ⟨rfl,H.out.stp (fbelow_t HB0.out hb)⟩
  have hd2:decide (q < 0) = false:=decide_eq_false h2
  have HSE2:Hid (sx = if (s.q.put bi p).2 = 0 then (({ s with q:=(s.q.put bi p).1 }:Dr).push,0) else (s,(s.q.put bi p).2)):=Lib.hid (by rw [HSE.out,if_neg h1,if_neg h2])
  have HK0:Hid (0 ≤ keyG p.f):=Lib.hid (by rw [HKQ.out]; omega)
  clear h1 h2 HSE
  go_enter Tryz.func42,Tryz.ntmps42
  go_wp2_with fail
  refine (rkey_v HQ.out _).mono ?_
  rintro e w1 ⟨rfl,hb⟩
  have HB1:=Lib.hid (fbelow_t HB0.out hb)
  have HP1:=Lib.hid (HP0.out.later hb)
  clear c8 c9 c10 hbz d0 d1 d2 d3 d4 d5 d6 hpz e0 hb
  go_upto_region 5 with fail
  have h1m:=H.out.later HB1.out
  obtain ⟨c8,c9,c10,_⟩:=h1m.cells
  have hbz:=h1m.blt
  obtain ⟨d0,d1,d2,d3,d4,d5,d6⟩:=HP1.out.cells
  have hpz:=HP1.out.lt
  clear h1m
  have hcl:∀ (n:Later w1) (b o:Nat),b < w1.heap.size → n.w.cell? ⟨b,o,none⟩ = w1.cell? ⟨b,o,none⟩:=later_cells w1
  refine wp_region_sec 6 [] (fun _ _ _ => True) (fun _ _ _ _ _ _ => True.intro) (by kernel_rfl) (by kernel_rfl) (by kernel_rfl) (by kernel_rfl) (by kernel_rfl) ?_
  simp only [List.take_succ_cons,List.take_zero,List.drop_succ_cons,List.drop_zero]
  repeat ((first | refine sec_plain (by rfl) (by rfl) (by rfl) (by rfl) ?_ | refine sec_nil (by rfl) (by rfl) (by rfl) (by rfl) (by rfl) ?_); intro K hK; go_big_quiet_op; go_big_quiet_on)
  intro xs m9 hF
  simp only [secFill]
  clear hF xs hcl c8 c9 c10 hbz d0 d1 d2 d3 d4 d5 d6 hpz
  have HB2:=Lib.hid (fbelow_t HB1.out m9.h)
  generalize m9.w = w2 at HB2 ⊢
  have HM2:=Lib.hid (H.out.later HB2.out)
  have hpk:=s.q.put_kinds bi p
  have HPK:=Lib.hid hpk
  obtain ⟨r,hr⟩:∃ r,(s.q.put bi p).2 = r:=⟨_,rfl⟩
  have HR:=Lib.hid hr
  rw [hr] at HSE2 HPK
  clear hpk hr
  go_wp2_with fail
  refine (xqput_v w2 HM2.out.q HR.out HOK.out.q).mono ?_
  rintro e w3 ⟨rfl,hs⟩
  obtain ⟨Oq',m3,k3,g3⟩:=HM2.out.queue hs
  have HM3:=Lib.hid m3
  have HK3:=Lib.hid ((Kept.of_below (O:=drO b Oc (bqO bq vl)) HB2.out).trans k3 (Grows.refl _ _))
  have HG3:Hid (Grows (drO b Oc (bqO bq vl)) w (drO b Oc Oq')):=Lib.hid (fun k hk => (g3 k hk).imp id (fun h => Nat.le_trans HB2.out.size h))
  clear hs m3 k3 g3
  by_cases h5:r = 0
  · subst h5
    obtain rfl:(({ s with q:=(s.q.put bi p).1 }:Dr).push,0) = sx:=by rw [HSE2.out,if_pos rfl]
    go_wp2_with fail
    refine (xdpush_v ⟨b,_,_,_,_,rfl,rfl,HM3.out⟩ (HOK.out.putq bi p HK0.out)).mono ?_
    rintro e w4 ⟨rfl,O',p1,p2,p3⟩
    have P1:=Lib.hid p1
    have P2:=Lib.hid p2
    have P3:=Lib.hid p3
    clear p1 p2 p3
    go_wp2
    go_ret
    exact ⟨rfl,O',P1.out,HK3.out.trans P2.out HG3.out,HG3.out.trans P3.out HK3.out.size⟩
  · obtain ⟨e5,e6⟩:=HPK.out.resolve_left h5
    subst e5
    obtain rfl:(s,5) = sx:=by rw [HSE2.out,if_neg (by decide)]
    go_wp2
    go_ret
    have hm:=HM3.out
    rw [e6] at hm
    exact ⟨rfl,xqdone hm HK3.out HG3.out⟩
end Go.Proofs.YtimdkcchjanpaaaGreatDoor
