/- Of no program: a region that draws its order, in which some calls ('st', by their numbers) turn memory, in a fixed chain, each waiting for the one before; al .. -/
import Derived.Test.YtimdkcchjanpaaaGreatDoorZad
import Derived.Maps.OwnSet
import Derived.Test.YtimdkcchjanpaaaGreatDoorZab
namespace Go.Proofs.YtimdkcchjanpaaaGreatDoor
open Go.RowKit
set_option linter.unusedVariables false
section
variable {P:Program} {ops:Array Oper} {md:Region.Mode} {st:List Nat} {G:Nat → (Tmp → Option Value) → World → Prop} {sec:List Tmp}
def stUpon (P:Program) (w:World) (good:Value → World → Prop):Result Next → Prop
  | .ok (.value u) w' => good u w'
  | .ok .skip w' => good undef w'
  | .ok (.enter f args) w' => w' = w ∧ Calls P f args w (fun e w'' => ∃ u,e = .returned u ∧ good u w'')
  | _ => False
def hidPut (sec:List Tmp) (xs:Tmp → Option Value) (d:Option Tmp) (u:Value):Tmp → Option Value :=
  match d with
  | some t => if t ∈ sec then fun s => if s = t then some u else xs s else xs
  | none => xs
def stLooks (ops:Array Oper) (sec:List Tmp) (xs:Tmp → Option Value) (o:Oper) (h a:Act):Prop := ∀ t ∈ o.looksAt ops,if t ∈ sec then xs t = some (a.tmps.getD t undef) else a.tmps.getD t undef = h.tmps.getD t undef
def stGood (sec:List Tmp) (d:Option Tmp) (v u:Value):Prop:=match d with | some t => t ∈ sec ∨ u = v | none => True
def stFresh (sec:List Tmp) (xs:Tmp → Option Value) (o:Oper):Prop := ∀ t,o.dst = some t → t ∈ sec → xs t = none
def stSpec (P:Program) (ops:Array Oper) (st:List Nat) (G:Nat → (Tmp → Option Value) → World → Prop) (sec:List Tmp) (i:Nat) (o:Oper) (h:Act) (v:Value):Prop :=
  ∀ (j:Nat) (xs:Tmp → Option Value) (a:Act) (w:World),j ≤ st.length → (∀ k:Nat,st[k]? = some i → j = k) → G j xs w → stFresh sec xs o → stLooks ops sec xs o h a →
    stUpon P w (fun u w' => G (if i ∈ st then j + 1 else j) (hidPut sec xs o.dst u) w' ∧ stGood sec o.dst v u) ((execOp a.eval o).run P w)
def StSkip (st:List Nat) (sec:List Tmp) (i:Nat) (o:Oper):Prop:=(∀ d,o.dst = some d → d ∉ sec) ∧ i ∉ st
def stOp (P:Program) (ops:Array Oper) (st:List Nat) (G:Nat → (Tmp → Option Value) → World → Prop) (sec:List Tmp) (i:Nat) (K:Act → Prop) (h:Act):Prop :=
  match ops[i]? with
  | none => K h
  | some o => if Region.wanted o (yielded ops h.tmps) then ∃ v,stSpec P ops st G sec i o h v ∧ K (h.put o.dst v) else StSkip st sec i o ∧ K (h.put o.dst undef)
def wpSt (P:Program) (ops:Array Oper) (st:List Nat) (G:Nat → (Tmp → Option Value) → World → Prop) (sec:List Tmp) (Q:Act → Prop):Nat → List Oper → Act → Prop
  | _, [],h => Q h
  | i,o :: rest,h => if Region.wanted o (yielded ops h.tmps) then ∃ v,stSpec P ops st G sec i o h v ∧ wpSt P ops st G sec Q (i + 1) rest (h.put o.dst v)
      else StSkip st sec i o ∧ wpSt P ops st G sec Q (i + 1) rest (h.put o.dst undef)
def HidV (ops:Array Oper) (sec:List Tmp) (listed:Array Bool) (a:Act) (xs:Tmp → Option Value):Prop :=
  ∀ i o t,ops[i]? = some o → o.dst = some t → t ∈ sec → xs t = if listed.getD i false = true then some (a.tmps.getD t undef) else none
def onceB (ops:Array Oper) (sec:List Tmp):Bool:=sec.all fun t => (List.range ops.size).all fun i => (List.range ops.size).all fun j => i == j || (ops[i]?).bind (·.dst) != some t || (ops[j]?).bind (·.dst) != some t
theorem onceB_spec (h:onceB ops sec = true) {i j:Nat} {oi oj:Oper} {t:Tmp} (ht:t ∈ sec) (hi:ops[i]? = some oi) (hj:ops[j]? = some oj) (di:oi.dst = some t) (dj:oj.dst = some t):i = j:=by
  have lt:∀ k o,ops[k]? = some o → k < ops.size:=fun k o hk => (Array.getElem?_eq_some_iff.1 hk).1
  have h1:=List.all_eq_true.1 (List.all_eq_true.1 (List.all_eq_true.1 h t ht) i (List.mem_range.2 (lt i oi hi))) j (List.mem_range.2 (lt j oj hj))
  rw [hi,hj] at h1
  simp only [Option.bind_some,di,dj,bne_self_eq_false,Bool.or_false,beq_iff_eq] at h1
  exact h1
theorem hidV_put {listed:Array Bool} {a:Act} {xs:Tmp → Option Value} (hO:onceB ops sec = true) (h:HidV ops sec listed a xs) {i:Nat} {o:Oper} (hi:ops[i]? = some o) (hn:listed.getD i true = false) (hz:∀ t ∈ sec,t < a.tmps.size) (u:Value) :
    HidV ops sec (listed.setIfInBounds i true) (a.put o.dst u) (hidPut sec xs o.dst u):=by
  intro i' o' t hi' hd ht
  have hin:i < listed.size:=by
    rcases Nat.lt_or_ge i listed.size with h1 | h1
    · exact h1
    · simp [Array.getD,Nat.not_lt_of_ge h1] at hn
  by_cases e:o.dst = some t
  · obtain rfl:=onceB_spec hO ht hi hi' e hd
    rw [e]
    unfold hidPut
    simp only
    rw [if_pos ht,if_pos rfl]
    have:(listed.setIfInBounds i true).getD i false = true:=by simp [Array.getD,hin]
    rw [if_pos this,getD_put,if_pos ⟨rfl,hz t ht⟩]
  · have hne:i ≠ i':=by
      rintro rfl
      rw [hi] at hi'
      cases hi'
      exact e hd
    have hx:hidPut sec xs o.dst u t = xs t:=by
      unfold hidPut
      cases hd0:o.dst with
      | none => rfl
      | some d =>
        simp only
        split
        · show (if t = d then Option.some u else xs t) = xs t
          rw [if_neg (fun h' => e (by rw [hd0,h']))]
        · rfl
    rw [hx,getD_set_ne false hne,getD_put_ne _ _ _ (fun x hx0 hxt => e (by rw [hx0,hxt]))]
    exact h i' o' t hi' hd ht
theorem hidV_skip {listed:Array Bool} {a:Act} {xs:Tmp → Option Value} (h:HidV ops sec listed a xs) {i:Nat} {o:Oper} (hi:ops[i]? = some o) (hd0:∀ d,o.dst = some d → d ∉ sec) (u:Value) :
    HidV ops sec (listed.setIfInBounds i true) (a.put o.dst u) xs:=by
  intro i' o' t hi' hd ht
  have e:o.dst ≠ some t:=fun e => hd0 t e ht
  have hne:i ≠ i':=by
    rintro rfl
    rw [hi] at hi'
    cases hi'
    exact e hd
  rw [getD_set_ne false hne,getD_put_ne _ _ _ (fun x hx0 hxt => e (by rw [hx0,hxt]))]
  exact h i' o' t hi' hd ht
theorem hidV_looks (hB:secB md ops sec = true) {i:Nat} {o:Oper} (ho:ops[i]? = some o) {listed:Array Bool} (hi:i ∈ Region.ready md ops listed) {h a:Act} {xs:Tmp → Option Value}
    (hag:SecAg sec h a) (hf:HidV ops sec listed a xs):stLooks ops sec xs o h a:=by
  have hm:o ∈ ops:=Array.mem_of_getElem? ho
  have h1:=Array.all_eq_true_iff_forall_mem.1 hB o hm
  simp only [Bool.and_eq_true] at h1
  have h2:=List.all_eq_true.1 h1.2
  obtain ⟨_,o',ho',hall⟩:=mem_ready.1 hi
  obtain rfl:o' = o:=Option.some.inj (ho'.symm.trans ho)
  intro t ht
  have h3:=h2 t ht
  split
  · rename_i hs
    simp only [Bool.or_eq_true,Bool.not_eq_true'] at h3
    rcases h3 with h3 | h3
    · have:sec.contains t = true:=by simpa using hs
      rw [this] at h3; cases h3
    · obtain ⟨e,he,hb⟩:=Array.any_eq_true'.1 h3
      simp only [Bool.and_eq_true,beq_iff_eq] at hb
      have hl:=hall e he hb.1
      cases hx:ops[e.on]? with
      | none => rw [hx] at hb; cases hb.2
      | some x =>
        rw [hx] at hb
        have:=hf e.on x t hx hb.2 hs
        rw [if_pos hl] at this
        exact this
  · rename_i hs
    exact hag.eq t hs
def Lev (st:List Nat) (listed:Array Bool) (j:Nat):Prop:=j ≤ st.length ∧ ∀ k s:Nat,st[k]? = some s → (listed.getD s false = true ↔ k < j)
def stB (md:Region.Mode) (ops:Array Oper) (st:List Nat) (n:Nat):Bool :=
  decide st.Nodup && (List.range st.length).all (fun k => match st[k]?,st[k + 1]? with | some a,some b => Region.waitsFor md ops b a | _,_ => true) &&
    st.all (fun s => decide (s < n))
theorem stB_spec {n:Nat} (h:stB md ops st n = true):st.Nodup ∧ (∀ k a b:Nat,st[k]? = some a → st[k + 1]? = some b → Region.waitsFor md ops b a = true) ∧ ∀ s ∈ st,s < n:=by
  unfold stB at h
  simp only [Bool.and_eq_true,decide_eq_true_eq] at h
  obtain ⟨⟨h1,h2⟩,h3⟩:=h
  refine ⟨h1,fun k a b ha hb => ?_,fun s hs => ?_⟩
  · have hk:k < st.length:=by
      rcases Nat.lt_or_ge k st.length with h | h
      · exact h
      · rw [List.getElem?_eq_none h] at ha; cases ha
    have:=List.all_eq_true.1 h2 k (List.mem_range.2 hk)
    rw [ha,hb] at this
    exact this
  · simpa using List.all_eq_true.1 h3 s hs
theorem lev_zero (n:Nat):Lev st (Array.replicate n false) 0:=⟨Nat.zero_le _,fun k s _ => by rw [getD_replicate_false]; simp⟩
theorem lev_set {listed:Array Bool} {i j:Nat} (h:Lev st listed j) (hi:i ∉ st):Lev st (listed.setIfInBounds i true) j:=by
  refine ⟨h.1,fun k s hs => ?_⟩
  have hne:i ≠ s:=by rintro rfl; exact hi (List.mem_of_getElem? hs)
  rw [getD_set_ne false hne]
  exact h.2 k s hs
theorem lev_core {listed:Array Bool} {i j k:Nat} (hnd:st.Nodup) (hkj:k ≤ j) (h:Lev st listed j) (hr:i ∈ Region.ready md ops listed) (hi:st[k]? = some i):j = k ∧ Lev st (listed.setIfInBounds i true) (j + 1):=by
  obtain ⟨hun,o,ho,hw⟩:=mem_ready.1 hr
  have hk:k < st.length:=by
    rcases Nat.lt_or_ge k st.length with h1 | h1
    · exact h1
    · rw [List.getElem?_eq_none h1] at hi; cases hi
  have h1:¬ k < j:=fun hc => by
    have:=(h.2 k i hi).2 hc
    rw [getD_both hun] at this
    cases this
  have h2:j = k:=by omega
  subst h2
  refine ⟨rfl,hk,fun k' s hs => ?_⟩
  by_cases e:i = s
  · subst e
    have:k' = j:=by
      have hk':k' < st.length:=by
        rcases Nat.lt_or_ge k' st.length with h1 | h1
        · exact h1
        · rw [List.getElem?_eq_none h1] at hs; cases hs
      rw [List.getElem?_eq_getElem hk'] at hs
      rw [List.getElem?_eq_getElem hk] at hi
      exact (List.getElem_inj hnd).1 ((Option.some.inj hs).trans (Option.some.inj hi).symm)
    subst this
    have hin:i < listed.size:=by
      rcases Nat.lt_or_ge i listed.size with h1 | h1
      · exact h1
      · simp [Array.getD,Nat.not_lt_of_ge h1] at hun
    simp [Array.getD,hin]
  · rw [getD_set_ne false e,h.2 k' s hs]
    have:k' ≠ j:=by
      rintro rfl
      exact e (Option.some.inj (hi.symm.trans hs))
    omega
theorem lev_waits {listed:Array Bool} {i j k s:Nat} (h:Lev st listed j) (hr:i ∈ Region.ready md ops listed) (hs:st[k]? = some s) (hw:Region.waitsFor md ops i s = true):k + 1 ≤ j:=by
  obtain ⟨_,o,ho,hall⟩:=mem_ready.1 hr
  obtain ⟨oj,hoj,e,he,hb,hon⟩:=Region.waitsFor_spec hw
  obtain rfl:oj = o:=Option.some.inj (hoj.symm.trans ho)
  exact (h.2 k s hs).1 (hon ▸ hall e he hb)
theorem lev_step {n:Nat} (hB:stB md ops st n = true) {listed:Array Bool} {i j k:Nat} (h:Lev st listed j) (hr:i ∈ Region.ready md ops listed) (hi:st[k]? = some i):j = k ∧ Lev st (listed.setIfInBounds i true) (j + 1):=by
  obtain ⟨hnd,hch,hall⟩:=stB_spec hB
  refine lev_core hnd ?_ h hr hi
  cases k with
  | zero => omega
  | succ k =>
    have hk:k + 1 < st.length:=by
      rcases Nat.lt_or_ge (k + 1) st.length with h1 | h1
      · exact h1
      · rw [List.getElem?_eq_none h1] at hi; cases hi
    obtain ⟨s,hs⟩:∃ s,st[k]? = some s:=⟨_,List.getElem?_eq_getElem (by omega)⟩
    exact lev_waits h hr hs (hch k s i hs hi)
theorem lev_end {n:Nat} (hall:∀ s ∈ st,s < n) {listed:Array Bool} {j:Nat} (h:Lev st listed j) (ha:∀ i,i < n → listed.getD i false = true):j = st.length:=by
  rcases Nat.lt_or_ge j st.length with h1 | h1
  · have h2:=(h.2 j _ (List.getElem?_eq_getElem h1)).1 (ha _ (hall _ (List.getElem_mem h1)))
    omega
  · exact Nat.le_antisymm h.1 h1
theorem lev_all {n:Nat} (hB:stB md ops st n = true) {listed:Array Bool} {j:Nat} (h:Lev st listed j) (ha:∀ i,i < n → listed.getD i false = true):j = st.length:=lev_end (stB_spec hB).2.2 h ha
def wpAnySt (P:Program) (md:Region.Mode) (ops:Array Oper) (st:List Nat) (G:Nat → (Tmp → Option Value) → World → Prop) (sec:List Tmp) (n:Nat) (L:Array Bool → Act → Prop):Nat → Array Bool → Act → Prop
  | 0,listed,h => L listed h
  | f + 1,listed,h => Region.ready md ops listed ≠ [] ∧ ∀ i ∈ Region.ready md ops listed,i < n ∧ stOp P ops st G sec i (wpAnySt P md ops st G sec n L f (listed.setIfInBounds i true)) h
theorem stOp_mono {i:Nat} {K K':Act → Prop} {h:Act} (hk:∀ h,K h → K' h) (hh:stOp P ops st G sec i K h):stOp P ops st G sec i K' h:=by
  unfold stOp at *
  split
  · exact hk _ (by simpa [*] using hh)
  · rename_i o ho
    simp only [ho] at hh
    split
    · rename_i hw
      simp only [hw,if_true] at hh
      obtain ⟨v,h1,h2⟩:=hh
      exact ⟨v,h1,hk _ h2⟩
    · rename_i hw
      simp only [hw] at hh
      exact ⟨hh.1,hk _ hh.2⟩
theorem wpOp_of_st {n0:Nat} (hO:onceB ops sec = true) (hB:secB md ops sec = true) (hS:stB md ops st n0 = true) {i:Nat} {h a:Act} {w:World} {K:Act → Prop} {K':Act → World → Prop} {Q':Exit → Act → World → Prop} {listed:Array Bool} {j:Nat} {xs:Tmp → Option Value}
    (hi:i ∈ Region.ready md ops listed) (hs:∀ t ∈ sec,t < h.tmps.size) (hag:SecAg sec h a) (hlv:Lev st listed j) (hb:G j xs w) (hf:HidV ops sec listed a xs)
    (hK:∀ h' a' w' j' xs',K h' → h'.tmps.size = h.tmps.size → SecAg sec h' a' → Lev st (listed.setIfInBounds i true) j' → G j' xs' w' → HidV ops sec (listed.setIfInBounds i true) a' xs' → K' a' w') (hh:stOp P ops st G sec i K h):wpOp P ops Q' i K' a w:=by
  obtain ⟨hun,o,ho,_⟩:=mem_ready.1 hi
  unfold stOp at hh
  unfold wpOp
  simp only [ho] at hh ⊢
  rw [secB_guard hB ho hag]
  split
  · rename_i hw
    simp only [hw,if_true] at hh
    obtain ⟨v,hsp,hk⟩:=hh
    have hjk:∀ k:Nat,st[k]? = some i → j = k:=fun k hk => (lev_step hS hlv hi hk).1
    have hlv':Lev st (listed.setIfInBounds i true) (if i ∈ st then j + 1 else j):=by
      by_cases hm:i ∈ st
      · rw [if_pos hm]
        obtain ⟨k,hk1,hk2⟩:=List.getElem_of_mem hm
        exact (lev_step hS hlv hi (by rw [List.getElem?_eq_getElem hk1,hk2])).2
      · rw [if_neg hm]; exact lev_set hlv hm
    have hfr:stFresh sec xs o:=fun t hd ht => by
      rw [hf i o t ho hd ht,getD_both hun]; rfl
    have h3:=hsp j xs a w hlv.1 hjk hb hfr (hidV_looks hB ho hi hag hf)
    have on:∀ u w',(G (if i ∈ st then j + 1 else j) (hidPut sec xs o.dst u) w' ∧ stGood sec o.dst v u) → K' (a.put o.dst u) w':=fun u w' ⟨hbw,hg⟩ => by
      refine hK _ _ _ _ _ hk (put_size _ _ _) (hag.put fun t ht => ?_) hlv' hbw (hidV_put hO hf ho hun (fun t ht => by rw [hag.size]; exact hs t ht) u)
      unfold stGood at hg
      rw [ht] at hg
      exact hg
    refine .inl ?_
    unfold Oper.wp
    generalize (execOp a.eval o).run P w = r at h3 ⊢
    cases r with
    | ok x w' =>
      cases x <;> simp only [stUpon] at h3 <;> simp only [Oper.upon]
      case value u => exact on u w' h3
      case skip => exact on undef w' h3
      case enter f args =>
        obtain ⟨rfl,hc⟩:=h3
        refine hc.mono fun e w'' ⟨u,he,h4⟩ => ?_
        subst he
        exact on u w'' h4
    | halt x w' => simp only [stUpon] at h3
  · rename_i hw
    simp only [hw] at hh
    have hm:i ∉ st:=hh.1.2
    exact hK _ _ _ _ _ hh.2 (put_size _ _ _) (hag.put fun _ _ => .inr rfl) (lev_set hlv hm) hb (hidV_skip hf ho hh.1.1 _)
theorem wpAny_of_St {n0:Nat} (hO:onceB ops sec = true) (hB:secB md ops sec = true) (hS:stB md ops st n0 = true) {n g:Nat} {L:Array Bool → Act → Prop} {Q':Exit → Act → World → Prop}
    (hL:∀ listed h a w j xs,L listed h → (∀ t ∈ sec,t < h.tmps.size) → SecAg sec h a → Lev st listed j → G j xs w → HidV ops sec listed a xs → wpAny P md ops Q' g listed a w) :
    ∀ (f:Nat) (listed:Array Bool) (h a:Act) (w:World) (j:Nat) (xs:Tmp → Option Value),(∀ t ∈ sec,t < h.tmps.size) → SecAg sec h a → Lev st listed j → G j xs w → HidV ops sec listed a xs →
      wpAnySt P md ops st G sec n L f listed h → wpAny P md ops Q' (f + g) listed a w
  | 0,listed,h,a,w,j,xs,hs,hag,hlv,hb,hf,hx => by rw [Nat.zero_add]; exact hL _ _ _ _ _ _ hx hs hag hlv hb hf
  | f + 1,listed,h,a,w,j,xs,hs,hag,hlv,hb,hf,hx => by
    rw [show f + 1 + g = (f + g) + 1 by omega]
    refine ⟨fun h0 => absurd h0 hx.1,fun i hi => ?_⟩
    exact wpOp_of_st hO hB hS hi hs hag hlv hb hf (fun h' a' w' j' xs' hk hsz hag' hlv' hb' hf' => wpAny_of_St hO hB hS hL f _ h' a' w' j' xs' (fun t ht => by rw [hsz]; exact hs t ht) hag' hlv' hb' hf' hk) (hx.2 i hi).2
def StYields (P:Program) (ops:Array Oper) (st:List Nat) (G:Nat → (Tmp → Option Value) → World → Prop) (sec:List Tmp) (i:Nat) (o:Oper) (v:Value) (h:Act):Prop :=
  (Region.wanted o (yielded ops h.tmps) = true ∧ stSpec P ops st G sec i o h v) ∨ (Region.wanted o (yielded ops h.tmps) = false ∧ StSkip st sec i o ∧ v = undef)
theorem stSpec_put {i:Nat} {o:Oper} {h:Act} {v:Value} (hs:stSpec P ops st G sec i o h v) {d:Option Tmp} (u:Value) (hd:∀ x,d = some x → x ∉ o.looksAt ops):stSpec P ops st G sec i o (h.put d u) v:=by
  intro j xs a w hj hjk hb hfr hl
  refine hs j xs a w hj hjk hb hfr fun t ht => ?_
  have:=hl t ht
  rw [getD_put_ne h u t (fun x hx hxt => hd x hx (hxt ▸ ht))] at this
  exact this
theorem stSpec_unput {i:Nat} {o:Oper} {h:Act} {v:Value} {d:Option Tmp} (u:Value) (hd:∀ x,d = some x → x ∉ o.looksAt ops) (hs:stSpec P ops st G sec i o (h.put d u) v):stSpec P ops st G sec i o h v:=by
  intro j xs a w hj hjk hb hfr hl
  refine hs j xs a w hj hjk hb hfr fun t ht => ?_
  have:=hl t ht
  rw [getD_put_ne h u t (fun x hx hxt => hd x hx (hxt ▸ ht))]
  exact this
theorem StYields.op {i:Nat} {o:Oper} {v:Value} {h:Act} (hi:ops[i]? = some o) (hy:StYields P ops st G sec i o v h) {K:Act → Prop} (hk:K (h.put o.dst v)):stOp P ops st G sec i K h:=by
  unfold stOp
  simp only [hi]
  rcases hy with ⟨hw,hv⟩ | ⟨hw,hd,rfl⟩
  · simp only [hw,if_true]; exact ⟨v,hv,hk⟩
  · simp only [hw,Bool.false_eq_true,if_false]; exact ⟨hd,hk⟩
theorem stYields_of {i:Nat} {o:Oper} {h:Act} {K:Act → Prop} (hi:ops[i]? = some o) (hh:stOp P ops st G sec i K h):∃ v,StYields P ops st G sec i o v h ∧ K (h.put o.dst v):=by
  unfold stOp at hh
  simp only [hi] at hh
  by_cases hw:Region.wanted o (yielded ops h.tmps) = true
  · simp only [hw,if_true] at hh
    obtain ⟨v,h1,h2⟩:=hh
    exact ⟨v, .inl ⟨hw,h1⟩,h2⟩
  · simp only [hw] at hh
    exact ⟨undef, .inr ⟨by simpa using hw,hh.1,rfl⟩,hh.2⟩
theorem stOp_put {i j:Nat} {oi oj:Oper} {v:Value} (hj:ops[j]? = some oj) (hap:oi.apart ops oj = true) {K:Act → Prop} {h:Act}
    (hy:StYields P ops st G sec i oi v h) (hh:stOp P ops st G sec j K (h.put oi.dst v)):stOp P ops st G sec j (fun h' => StYields P ops st G sec i oi v h' ∧ K (h'.put oi.dst v)) h:=by
  obtain ⟨h1,h2,h3⟩:=Oper.apart_spec hap
  have keep:∀ u,StYields P ops st G sec i oi v (h.put oj.dst u):=fun u => by
    unfold StYields
    rw [wanted_put oi h oj.dst u h3]
    rcases hy with ⟨hw,hv⟩ | ⟨hw,hd⟩
    · exact .inl ⟨hw,stSpec_put hv u h3⟩
    · exact .inr ⟨hw,hd⟩
  unfold stOp at *
  simp only [hj] at *
  rw [wanted_put oj h oi.dst v h1] at hh
  split
  · rename_i hw
    simp only [hw,if_true] at hh
    obtain ⟨u,hu,hn⟩:=hh
    exact ⟨u,stSpec_unput v h1 hu,keep u,by rw [← Act.put_comm h v u h2]; exact hn⟩
  · rename_i hw
    simp only [hw] at hh
    exact ⟨hh.1,keep _,by rw [← Act.put_comm h v undef h2]; exact hh.2⟩
theorem wpAnySt_first {n i:Nat} {oi:Oper} {v:Value} {L:Array Bool → Act → Prop} (hi:ops[i]? = some oi)
    (hs:Region.sinkB md ops n = true) (hc:Region.chainB md ops n = true) (hn:n < ops.size) (hin:i < n) (hdone:∀ listed h,L listed h → ∀ j ∈ Region.ready md ops listed,n ≤ j) :
    ∀ (f:Nat) (listed:Array Bool) (h:Act),HeadInv md ops n listed →
      (∀ j oj,ops[j]? = some oj → j ≠ i → listed.getD j true = false → (∀ e ∈ oj.after,Region.binds md e = true → e.on ≠ i) → oi.apart ops oj = true) →
      i ∈ Region.ready md ops listed → StYields P ops st G sec i oi v h →
      wpAnySt P md ops st G sec n L f (listed.setIfInBounds i true) (h.put oi.dst v) → wpAnySt P md ops st G sec n L (f + 1) listed h:=by
  intro f
  induction f with
  | zero =>
    intro listed h inv _ hr hy H
    have hun:=(mem_ready.1 hr).1
    refine ⟨fun h0 => (by rw [h0] at hr; cases hr),fun j hj => ?_⟩
    have hjn:j < n:=Nat.lt_of_not_le fun hge => tail_waits hs hc hn inv _ i rfl hin hun j hge hj
    refine ⟨hjn, ?_⟩
    by_cases hji:j = i
    · subst hji; exact hy.op hi H
    · have:=hdone _ _ H j (ready_mono hj hji)
      omega
  | succ f ih =>
    intro listed h inv hfree hr hy H
    have hun:=(mem_ready.1 hr).1
    refine ⟨fun h0 => (by rw [h0] at hr; cases hr),fun j hj => ?_⟩
    have hjn:j < n:=Nat.lt_of_not_le fun hge => tail_waits hs hc hn inv _ i rfl hin hun j hge hj
    refine ⟨hjn, ?_⟩
    by_cases hji:j = i
    · subst hji; exact hy.op hi H
    · have h1:=(H.2 j (ready_mono hj hji)).2
      obtain ⟨hjun,oj,hoj,hall⟩:=mem_ready.1 hj
      have hnot:∀ e ∈ oj.after,Region.binds md e = true → e.on ≠ i:=fun e he hb heq => by
        have h4:=hall e he hb
        rw [heq,getD_both hun] at h4
        cases h4
      have h2:=stOp_put hoj (hfree j oj hoj hji hjun hnot) hy h1
      refine stOp_mono (fun h' h3 => ih (listed.setIfInBounds j true) h' (inv.set hj hjn) (fun k ok hk hki hunk hno => ?_) (ready_mono hr (Ne.symm hji)) h3.1 ?_) h2
      · refine hfree k ok hk hki ?_ hno
        by_cases hjk:j = k
        · subst hjk; exact hjun
        · rw [getD_set_ne true hjk] at hunk; exact hunk
      · rw [Array.setIfInBounds_comm _ _ hji]
        exact h3.2
theorem wpAnySt_lex {n g:Nat} {Lq:Act → Prop} (hs:Region.sinkB md ops n = true) (hc:Region.chainB md ops n = true) (hn:n < ops.size) :
    ∀ (l:List Oper) (k:Nat) (listed:Array Bool) (h:Act),(∀ j,j < l.length → l[j]? = ops[k + j]?) → k + l.length = n → HeadInv md ops n listed → (∀ j,j < k → listed.getD j false = true) →
    Region.lexHead md ops g l.length k listed = true → wpSt P ops st G sec Lq k l h →
    wpAnySt P md ops st G sec n (fun listed' h' => Region.seqB md ops g n listed' = true ∧ (∀ j,j < n → listed'.getD j false = true) ∧ Lq h') l.length listed h
  | [],k,listed,h,_,hk,_,hall,hB,hh => by
    obtain rfl:k = n:=by simpa using hk
    exact ⟨by simpa [Region.lexHead] using hB,hall,hh⟩
  | o :: l,k,listed,h,hl,hk,inv,hall,hB,hh => by
    have h0:ops[k]? = some o:=by simpa using (hl 0 (by simp)).symm
    simp only [List.length_cons,Region.lexHead,Bool.and_eq_true] at hB
    obtain ⟨⟨hr,hf⟩,hB'⟩:=hB
    have hkn:k < n:=by simp only [List.length_cons] at hk; omega
    have hr':k ∈ Region.ready md ops listed:=by simpa using hr
    have hst:stOp P ops st G sec k (wpSt P ops st G sec Lq (k + 1) l) h:=by unfold stOp; simp only [h0]; exact hh
    obtain ⟨v,hy,hK⟩:=stYields_of h0 hst
    exact wpAnySt_first h0 hs hc hn hkn (fun listed' h' hL => seqB_ready hL.1) l.length listed h inv (Region.free_spec h0 hf) hr' hy
      (wpAnySt_lex hs hc hn l (k + 1) _ _ (fun j hj => by have:=hl (j + 1) (by simp; omega); simpa [Nat.add_assoc,Nat.add_comm 1 j] using this) (by simp only [List.length_cons] at hk; omega) (inv.set hr' hkn)
        (fun j hj => by
          by_cases e:k = j
          · subst e
            have hkl:k < listed.size:=by rw [inv.size]; omega
            simp [hkl]
          · exact getD_set_true (hall j (by omega))) hB' hK)
end
section
variable {P:Program}
theorem wpAny_st {Q:Exit → Act → World → Prop} {a:Act} {w:World} {l:List Oper} (n:Nat) (st:List Nat) (G:Nat → (Tmp → Option Value) → World → Prop) (sec:List Tmp)
    (h0:G 0 (fun _ => none) w.drew) (hB:Region.lexTailB .any l.toArray n = true) (hS:secB .any l.toArray sec = true) (hO:onceB l.toArray sec = true) (hT:stB .any l.toArray st n = true)
    (hW:(sec.all fun t => (l.take n).any fun o => o.dst == some t) = true) (hz:(sec.all fun t => decide (t < a.tmps.size)) = true)
    (h:wpSt P l.toArray st G sec (fun h' => ∀ (ys:Tmp → Value) (xs:Tmp → Option Value) (w':World),(∀ t ∈ sec,xs t = some (ys t)) → G st.length xs w' → wpList P l.toArray Q (l.drop n) (secFill ys sec h') w') 0 (l.take n) a) :
    wpAny P .any l.toArray Q l.toArray.size (Array.replicate l.toArray.size false) a { w with drawn:=w.drawn + 1 }:=by
  simp only [Region.lexTailB,Bool.and_eq_true,decide_eq_true_eq] at hB
  obtain ⟨⟨⟨⟨hsel,hn⟩,hs⟩,hc⟩,hlex⟩:=hB
  have hn':n < l.length:=by simpa using hn
  have htl:(l.take n).length = n:=by simp; omega
  have hdl:(l.drop n).length = l.toArray.size - n:=by simp
  have hzz:∀ t ∈ sec,t < a.tmps.size:=fun t ht => by simpa using List.all_eq_true.1 hz t ht
  have inv0:HeadInv .any l.toArray n (Array.replicate l.toArray.size false) :=
    ⟨by simp,fun j oj _ hl => (by rw [getD_replicate_false] at hl; cases hl),fun t _ ht => getD_in (by simpa using ht) (getD_replicate_false _ _)⟩
  have H:=wpAnySt_lex (md := .any) (g:=l.toArray.size - n) hs hc hn (l.take n) 0 _ a (fun j hj => by
    have hj':j < n:=by rw [htl] at hj; exact hj
    simp [hj']) (by simpa using htl) inv0 (fun j hj => by omega) (by rw [htl]; exact hlex) h
  have:=wpAny_of_St (Q':=Q) (g:=l.toArray.size - n) hO hS hT (fun listed h' a' w' j xs hL hs' hag hlv hb hf => by
    have hfill:=hag.fill hs'
    obtain rfl:=lev_all hT hlv hL.2.1
    have hq:=hL.2.2 (fun t => a'.tmps.getD t undef) xs w' (fun t ht => by
      have h1:=List.all_eq_true.1 hW t ht
      obtain ⟨o,ho,hd⟩:=List.any_eq_true.1 h1
      obtain ⟨j,hj,hjo⟩:=List.getElem_of_mem ho
      have hjn:j < n:=by omega
      have hjl:j < l.length:=by omega
      have h2:=hf j o t (by rw [List.getElem?_toArray,List.getElem?_eq_getElem hjl,← hjo,List.getElem_take]) (by simpa using hd) ht
      rw [if_pos (hL.2.1 j hjn)] at h2
      exact h2) hb
    rw [← hfill] at hq
    have h5:=wpAny_of_seq (md := .any) (Q':=Q) (l.drop n) n listed a' w' (fun j => by simp [List.getElem?_drop]) (by rw [hdl]; exact hL.1) hq
    rwa [hdl] at h5) _ _ a a { w with drawn:=w.drawn + 1 } 0 (fun _ => none) hzz (SecAg.refl a) (lev_zero _) h0 (fun i o t _ _ _ => by rw [getD_replicate_false]; rfl) H
  rw [htl,show n + (l.toArray.size - n) = l.toArray.size by omega] at this
  exact this
theorem wp_region_st {id:Nat} {Q:Exit → Act → World → Prop} {a:Act} {w:World} {l:List Oper} (n:Nat) (st:List Nat) (G:Nat → (Tmp → Option Value) → World → Prop) (sec:List Tmp)
    (h0:G 0 (fun _ => none) w.drew) (hm:P.follows .mixedOrders = true) (hB:Region.lexTailB .any l.toArray n = true) (hS:secB .any l.toArray sec = true) (hO:onceB l.toArray sec = true) (hT:stB .any l.toArray st n = true)
    (hW:(sec.all fun t => (l.take n).any fun o => o.dst == some t) = true) (hz:(sec.all fun t => decide (t < a.tmps.size)) = true)
    (h:wpSt P l.toArray st G sec (fun h' => ∀ (ys:Tmp → Value) (xs:Tmp → Option Value) (w':World),(∀ t ∈ sec,xs t = some (ys t)) → G st.length xs w' → wpList P l.toArray Q (l.drop n) (secFill ys sec h') w') 0 (l.take n) a) :
    (Code.region id l.toArray true).wp P Q a w :=
  wp_region_any hm (wpAny_st n st G sec h0 hB hS hO hT hW hz h)
end
structure KLater (O:Nat → Prop) (W:World) where
  w:World
  h:Kept O W w
instance KLater.some {O:Nat → Prop} {W:World}:Nonempty (KLater O W):=⟨⟨W,Kept.refl _ _⟩⟩
theorem KLater.cell {O:Nat → Prop} {W:World} (n:KLater O W) (b o:Nat) (h:b < W.heap.size) (hn:¬ O b):n.w.cell? ⟨b,o,none⟩ = W.cell? ⟨b,o,none⟩:=n.h.cell (p:=⟨b,o,none⟩) h hn
section
variable {P:Program} {ops:Array Oper} {st:List Nat} {G:Nat → (Tmp → Option Value) → World → Prop} {sec:List Tmp} {Q:Act → Prop} {o:Oper} {rest:List Oper} {h:Act} {i:Nat} {O:Nat → Prop} {W:World}
theorem stLooks_open {xs:Tmp → Option Value} {a:Act} (hl:secOpenL ops sec o = true) (hk:stLooks ops sec xs o h a) (w:World):secLooks ops sec (fun _ _ _ => True) o h a w:=by
  intro t ht
  have h1:=hk t ht
  split
  · trivial
  · rename_i hn; rw [if_neg hn] at h1; exact h1
theorem hidPut_open {xs:Tmp → Option Value} {u:Value} (hd:secOpenD sec o = true):hidPut sec xs o.dst u = xs:=by
  unfold secOpenD at hd
  unfold hidPut
  cases h0:o.dst with
  | none => rfl
  | some d => rw [h0] at hd; simp only; rw [if_neg (by simpa using hd)]
theorem stGood_open {u v:Value} (d:Option Tmp) (e:u = v):stGood sec d v u:=by unfold stGood; cases d with | none => trivial | some t => exact .inr e
theorem st_plain (hC:∀ {j xs w},G j xs w → Kept O W w) (hi:st.contains i = false) (hw:Region.wanted o (yielded ops h.tmps) = true) (hp:plainOp o = true) (hl:secOpenL ops sec o = true) (hd:secOpenD sec o = true)
    (hk:∀ K:Act → Prop,(∀ a,wpSt P ops st G sec Q (i + 1) rest a → K a) → o.quiet P h (fun w' => ∃ n:KLater O W,w' = n.w) K):wpSt P ops st G sec Q i (o :: rest) h:=by
  obtain ⟨v,h1,h2⟩:=hk _ fun _ hh => hh
  unfold wpSt
  rw [if_pos hw]
  refine ⟨v,fun j xs a w hj hjk hb hfr hlk => ?_,h2⟩
  have hi':i ∉ st:=by simpa using hi
  rw [if_neg hi',eval_open hl (plain_sel hp) (stLooks_open hl hlk w)]
  simp only [hidPut_open hd]
  have h3:=h1 w ⟨⟨w,hC hb⟩,rfl⟩
  have h4:=plain_noEnter (P:=P) hp h.eval w
  unfold Oper.quietAt at h3
  generalize (execOp h.eval o).run P w = r at h3 h4
  cases r with
  | ok x w' =>
    cases x <;> simp only [Oper.quietUpon] at h3 <;> simp only [stUpon]
    case value u => obtain ⟨rfl,e⟩:=h3; exact ⟨hb,stGood_open _ e⟩
    case skip => obtain ⟨rfl,e⟩:=h3; exact ⟨hb,stGood_open _ e.symm⟩
    case enter f args => exact absurd rfl (h4 f args w')
  | halt x w' => simp only [Oper.quietUpon] at h3
theorem st_nil {x:Operand} {p:Addr} (hC:∀ {j xs w},G j xs w → Kept O W w) (hi:st.contains i = false) (hw:Region.wanted o (yielded ops h.tmps) = true) (ho:o.op = .nilCheck x) (hx:h.eval x = .pointer (some p)) (hl:secOpenL ops sec o = true) (hd:secOpenD sec o = true)
    (hk:∀ K:Act → Prop,(∀ a,wpSt P ops st G sec Q (i + 1) rest a → K a) → o.quiet P h (fun w' => ∃ n:KLater O W,w' = n.w) K):wpSt P ops st G sec Q i (o :: rest) h:=by
  obtain ⟨v,h1,h2⟩:=hk _ fun _ hh => hh
  unfold wpSt
  rw [if_pos hw]
  refine ⟨v,fun j xs a w hj hjk hb hfr hlk => ?_,h2⟩
  have hi':i ∉ st:=by simpa using hi
  rw [if_neg hi',eval_open hl (fun cs b => by rw [ho]; simp) (stLooks_open hl hlk w)]
  simp only [hidPut_open hd]
  have h3:=h1 w ⟨⟨w,hC hb⟩,rfl⟩
  have h4:∀ f args w',(execOp h.eval o).run P w ≠ .ok (.enter f args) w':=fun f args w' => by simp [execOp,ho,hx,Sem.run_pure]
  unfold Oper.quietAt at h3
  generalize (execOp h.eval o).run P w = r at h3 h4
  cases r with
  | ok x w' =>
    cases x <;> simp only [Oper.quietUpon] at h3 <;> simp only [stUpon]
    case value u => obtain ⟨rfl,e⟩:=h3; exact ⟨hb,stGood_open _ e⟩
    case skip => obtain ⟨rfl,e⟩:=h3; exact ⟨hb,stGood_open _ e.symm⟩
    case enter f args => exact absurd rfl (h4 f args w')
  | halt x w' => simp only [Oper.quietUpon] at h3
theorem st_skip (hi:st.contains i = false) (hw:Region.wanted o (yielded ops h.tmps) = false) (hd:secOpenD sec o = true) (hk:wpSt P ops st G sec Q (i + 1) rest (h.put o.dst undef)):wpSt P ops st G sec Q i (o :: rest) h:=by
  unfold wpSt
  rw [if_neg (by rw [hw]; exact Bool.false_ne_true)]
  refine ⟨⟨fun d e => ?_,by simpa using hi⟩,hk⟩
  unfold secOpenD at hd
  rw [e] at hd
  simpa using hd
theorem st_step {f:FuncId} {args:Array Value} {v:Value} (k:Nat) (hi:st[k]? = some i) (hw:Region.wanted o (yielded ops h.tmps) = true) (hn:noSel o = true) (hl:secOpenL ops sec o = true) (hd:secOpenD sec o = true)
    (hrun:∀ w,(execOp h.eval o).run P w = .ok (.enter f args) w) (hc:∀ xs w,G k xs w → Calls P f args w fun e w' => e = .returned v ∧ G (k + 1) xs w')
    (hk:wpSt P ops st G sec Q (i + 1) rest (h.put o.dst v)):wpSt P ops st G sec Q i (o :: rest) h:=by
  unfold wpSt
  rw [if_pos hw]
  refine ⟨v,fun j xs a w hj hjk hb hfr hlk => ?_,hk⟩
  obtain rfl:=hjk k hi
  rw [if_pos (List.mem_of_getElem? hi),eval_open hl (noSel_spec hn) (stLooks_open hl hlk w),hrun w]
  simp only [hidPut_open hd]
  refine ⟨rfl,(hc xs w hb).mono ?_⟩
  rintro e w' ⟨he,h1⟩
  exact ⟨v,he,h1,stGood_open _ rfl⟩
theorem st_call {f:FuncId} {args:Array Value} {v:Value} (hi:st.contains i = false) (hw:Region.wanted o (yielded ops h.tmps) = true) (hn:noSel o = true) (hl:secOpenL ops sec o = true) (hd:secOpenD sec o = true)
    (hrun:∀ w,(execOp h.eval o).run P w = .ok (.enter f args) w) (hc:∀ j xs w,G j xs w → Calls P f args w fun e w' => e = .returned v ∧ G j xs w')
    (hk:wpSt P ops st G sec Q (i + 1) rest (h.put o.dst v)):wpSt P ops st G sec Q i (o :: rest) h:=by
  unfold wpSt
  rw [if_pos hw]
  refine ⟨v,fun j xs a w hj hjk hb hfr hlk => ?_,hk⟩
  have hi':i ∉ st:=by simpa using hi
  rw [if_neg hi',eval_open hl (noSel_spec hn) (stLooks_open hl hlk w),hrun w]
  simp only [hidPut_open hd]
  refine ⟨rfl,(hc j xs w hb).mono ?_⟩
  rintro e w' ⟨he,h1⟩
  exact ⟨v,he,h1,stGood_open _ rfl⟩
theorem st_new {s:Tmp} {mk:World → Value} {ob:World → Obj} (hi:st.contains i = false) (hw:Region.wanted o (yielded ops h.tmps) = true) (hn:noSel o = true) (hl:secOpenL ops sec o = true) (hd:o.dst = some s) (hs:sec.contains s = true)
    (hrun:∀ w,(execOp h.eval o).run P w = .ok (.value (mk w)) (w.alloc (ob w))) (hG:∀ j xs w,G j xs w → G j (fun t => if t = s then Option.some (mk w) else xs t) (w.alloc (ob w)))
    (hk:wpSt P ops st G sec Q (i + 1) rest (h.put o.dst undef)):wpSt P ops st G sec Q i (o :: rest) h:=by
  unfold wpSt
  rw [if_pos hw]
  refine ⟨undef,fun j xs a w hj hjk hb hfr hlk => ?_,hk⟩
  have hi':i ∉ st:=by simpa using hi
  have hs':s ∈ sec:=by simpa using hs
  rw [if_neg hi',eval_open hl (noSel_spec hn) (stLooks_open hl hlk w),hrun w,hd]
  refine ⟨?_, .inl hs'⟩
  have:=hG j xs w hb
  unfold hidPut
  simp only
  rw [if_pos hs']
  exact this
end
end Go.Proofs.YtimdkcchjanpaaaGreatDoor
namespace Go.Proofs.YtimdkcchjanpaaaGreatDoor
open Go.RowKit
open Go.Maps (Keyed IsMap Tidy)
set_option linter.unusedVariables false
def heldR (v:Value):Option (DataW Value × List MemPlace):=some (.held v, [])
def AtM (z:Value) (D:DataW Value) (i:Int) (u:Value):Prop:=D.atKey (.int .i64 i) (.held z) = .held u
def MapH (P:Program) (k:TypeId) (w:World) (b:Nat) (D:DataW Value):Prop:=w.ownsMap P k heldR b (Maps.size D) D
theorem keyLit (i:Int):WideAt.IsKeyLit (.int .i64 i):=trivial
theorem litInt_inj {i j:Int} (h:Lit.int .i64 i = Lit.int .i64 j):i = j:=by injection h
theorem countP_turn {p q:Nat → Bool} (i:Nat):∀ n,(∀ j,j ≠ i → q j = p j) → (i < n → p i = false → q i = true → (List.range n).countP q = (List.range n).countP p + 1) ∧ (n ≤ i ∨ q i = p i → (List.range n).countP q = (List.range n).countP p)
  | 0,_ => ⟨fun h => by omega,fun _ => rfl⟩
  | n + 1,h => by
    obtain ⟨h1,h2⟩:=countP_turn i n h
    rw [List.range_succ,List.countP_append,List.countP_append]
    simp only [List.countP_cons,List.countP_nil]
    constructor
    · intro hi hp hq
      by_cases e:n = i
      · subst e
        rw [h2 (.inl (Nat.le_refl _)),hp,hq]; simp
      · rw [h1 (by omega) hp hq,h n e]; omega
    · intro hi
      by_cases e:n = i
      · subst e
        rcases hi with hi | hi
        · omega
        · rw [h2 (.inl (Nat.le_refl _)),hi]
      · rw [h2 (by rcases hi with hi | hi; exact .inl (by omega); exact .inr hi),h n e]
theorem AtM.put_same {D:DataW Value} (hD:Tidy D) (z v:Value) (i:Int):AtM z (D.put (.int .i64 i) (.held v)) i v:=Maps.atKey_put_same hD.isMap (keyLit _) _ _
theorem AtM.put_other {D:DataW Value} {z u:Value} {i j:Int} (h:AtM z D j u) (hne:j ≠ i) (d:DataW Value):AtM z (D.put (.int .i64 i) d) j u:=(Maps.atKey_put_other (fun e => hne (litInt_inj e)) d _).trans h
theorem AtM.del_same (D:DataW Value) (z:Value) (i:Int):AtM z (D.del (.int .i64 i)) i z:=Maps.atKey_del_same _
theorem AtM.del_other {D:DataW Value} {z u:Value} {i j:Int} (h:AtM z D j u) (hne:j ≠ i):AtM z (D.del (.int .i64 i)) j u:=(Maps.atKey_del_other (fun e => hne (litInt_inj e)) _).trans h
theorem AtM.empty (z:Value) (i:Int):AtM z (.map []) i z:=rfl
theorem Kept.of_turned {w w':World} {b:Nat} (h:w.mapTurned w' b):Kept (fun k => k = b) w w':=by
  obtain ⟨es,clock,es',clock',hb,rfl⟩:=h
  exact ⟨rfl,rfl,rfl,by simp [ChangeMaps.setBlock],fun k _ hk => ChangeMaps.heap_setBlock_other hb _ hk⟩
section
variable {P:Program} {k:TypeId} {w w':World} {b:Nat} {D:DataW Value}
theorem ownsMap_tight {R:Value → Option (DataW Value × List MemPlace)} {n:Nat} (h:w.ownsMap P k R b n D):w.ownsMap P k R b (Maps.size D) D:=by
  obtain ⟨es,clock,hb,F,hs,rfl⟩:=h
  exact ⟨es,clock,hb,F,by simp [Maps.size,length_sorted],rfl⟩
theorem MapH.made (w:World) (P:Program) (k:TypeId):MapH P k (w.alloc (.map #[] 0)) w.heap.size (.map []):=World.ownsMap_made w P k heldR
theorem MapH.stay (h:MapH P k w b D) (hs:w'.heap[b]? = w.heap[b]?):MapH P k w' b D:=by
  obtain ⟨es,clock,hb,r⟩:=h
  exact ⟨es,clock,hs.trans hb,r⟩
theorem MapH.lt (h:MapH P k w b D):b < w.heap.size:=World.ownsMap.lt h
theorem MapH.tidy (h:MapH P k w b D) (K:Keyed P k):Tidy D:=World.ownsMap.tidy h K
theorem MapH.look {t e:TypeId} {z u:Value} {i:Int} (h:MapH P k w b D) (K:Keyed P k) (ht:P.underlying t = some (.map k e)) (hz:(zeroValue e).run P w = .ok z w) (hkey:keyOf P k (.int .i64 i) = some (.int .i64 i)) (hu:AtM z D i u) :
    (Instr.lookup t (.map (some b)) (.int .i64 i) false).run P w = .ok u w:=by
  obtain ⟨v,ps,hrun,hv⟩:=World.ownsMap.lookup h K ht hz (zd := .held z) (zp := []) rfl hkey
  unfold heldR at hv
  rw [show D.atKey (.int .i64 i) (.held z) = .held u from hu] at hv
  simp only [Option.some.injEq,Prod.mk.injEq,DataW.held.injEq] at hv
  rw [hrun,hv.1]
theorem MapH.store {t e:TypeId} {i:Int} (h:MapH P k w b D) (K:Keyed P k) (ht:P.underlying t = some (.map k e)) (hn:Maps.size D < maxLen) (hkey:keyOf P k (.int .i64 i) = some (.int .i64 i)) (v:Value) :
    ∃ w',(Instr.mapUpdate t (.map (some b)) (.int .i64 i) v).run P w = .ok () w' ∧ MapH P k w' b (D.put (.int .i64 i) (.held v)) ∧ w.mapTurned w' b:=by
  obtain ⟨w',hrun,h1,h2⟩:=World.ownsMap.store h K ht hn hkey (val:=v) (d := .held v) (ps := []) rfl
  exact ⟨w',hrun,ownsMap_tight h1,h2⟩
theorem MapH.drop {t e:TypeId} {i:Int} (h:MapH P k w b D) (K:Keyed P k) (ht:P.underlying t = some (.map k e)) (hkey:keyOf P k (.int .i64 i) = some (.int .i64 i)) (ty:TypeId) :
    ∃ w',(Builtin.delete_ #[t,k] ty #[.map (some b), .int .i64 i]).run P w = .ok (.tuple #[]) w' ∧ MapH P k w' b (D.del (.int .i64 i)) ∧ w.mapTurned w' b:=by
  obtain ⟨w',hrun,h1,h2⟩:=World.ownsMap.drop h K ht hkey ty
  exact ⟨w',hrun,ownsMap_tight h1,h2⟩
end
section
variable {P:Program} (w:World) {ops:Array Oper} {rest:List Oper} {o:Oper} {a:Act} {Q:Exit → Act → World → Prop} {k e t:TypeId} {b:Nat} {D:DataW Value}
theorem wpList_storeH (hg:o.guard = none) (m x v:Operand) (hop:o.op = Op.mapUpdate t m x v) (K:Keyed P k) (ht:P.underlying t = some (.map k e)) (i:Int) (val:Value)
    (hm:a.eval m = .map (some b)) (h:MapH P k w b D) (hn:Maps.size D < maxLen) (hx:a.eval x = .int .i64 i) (hv:a.eval v = val) (hkey:keyOf P k (.int .i64 i) = some (.int .i64 i))
    (hK:∀ w',MapH P k w' b (D.put (.int .i64 i) (.held val)) → w.mapTurned w' b → wpList P ops Q rest (a.put o.dst undef) w'):wpList P ops Q (o :: rest) a w:=by
  refine wpList_plain hg fun K' hK' => ?_
  obtain ⟨w',hrun,r1,r2⟩:=h.store K ht hn hkey val
  unfold Oper.wp
  simp [execOp,hop,hm,hx,hv,hrun,Result.andThen]
  exact hK' _ _ (hK w' r1 r2)
theorem wpList_dropH (hg:o.guard = none) (m x:Operand) (hop:o.op = Op.call { callee:=Callee.builtin Builtin.delete,args := #[m,x],argTypes := #[t,k] }) (K:Keyed P k) (ht:P.underlying t = some (.map k e)) (i:Int)
    (hm:a.eval m = .map (some b)) (h:MapH P k w b D) (hx:a.eval x = .int .i64 i) (hkey:keyOf P k (.int .i64 i) = some (.int .i64 i))
    (hK:∀ w',MapH P k w' b (D.del (.int .i64 i)) → w.mapTurned w' b → wpList P ops Q rest (a.put o.dst (.tuple #[])) w'):wpList P ops Q (o :: rest) a w:=by
  refine wpList_plain hg fun K' hK' => ?_
  obtain ⟨w',hrun,r1,r2⟩:=h.drop K ht hkey o.type
  unfold Oper.wp
  simp [execOp,hop,resolve,invoke,builtin,hm,hx,hrun,Result.andThen]
  exact hK' _ _ (hK w' r1 r2)
theorem st_look {st:List Nat} {G:Nat → (Tmp → Option Value) → World → Prop} {sec:List Tmp} {Q:Act → Prop} {h:Act} {n:Nat} (m x:Operand) (u:Value) (hi:st.contains n = false) (hw:Region.wanted o (yielded ops h.tmps) = true) (hl:secOpenL ops sec o = true) (hd:secOpenD sec o = true)
    (ho:o.op = Op.lookup t m x false) (mv xv:Value) (hm:h.eval m = mv) (hx:h.eval x = xv) (hrun:∀ j xs w,G j xs w → (Instr.lookup t mv xv false).run P w = .ok u w)
    (hk:wpSt P ops st G sec Q (n + 1) rest (h.put o.dst u)):wpSt P ops st G sec Q n (o :: rest) h:=by
  unfold wpSt
  rw [if_pos hw]
  refine ⟨u,fun j xs a w hj hjk hb hfr hlk => ?_,hk⟩
  have hi':n ∉ st:=by simpa using hi
  have e:(execOp h.eval o).run P w = .ok (.value u) w:=by simp [execOp,ho,hm,hx,hrun j xs w hb,Result.andThen]
  rw [if_neg hi',eval_open hl (fun cs b => by rw [ho]; simp) (stLooks_open hl hlk w),e]
  simp only [hidPut_open hd,stUpon]
  exact ⟨hb,stGood_open _ rfl⟩
end
end Go.Proofs.YtimdkcchjanpaaaGreatDoor
namespace Go.Proofs.YtimdkcchjanpaaaGreatDoor
open Go.RowKit
open Go.Maps (Keyed IsMap Tidy)
set_option linter.unusedVariables false
def cntMap (n:Nat) (D:DataW Value):Nat:=(List.range n).countP fun i:Nat => Maps.has D (.int .i64 (i:Int))
def SzN (n:Nat) (D:DataW Value):Prop:=Maps.size D ≤ cntMap n D
section
variable {n:Nat} {D:DataW Value}
theorem SzN.le (h:SzN n D):Maps.size D ≤ n:=Nat.le_trans h (by unfold cntMap; exact Nat.le_trans List.countP_le_length (by simp))
theorem SzN.put (h:SzN n D) (hD:Tidy D) {i:Nat} (hi:i < n) (u:DataW Value):SzN n (D.put (.int .i64 i) u):=by
  have hs:=Maps.size_put hD (k := .int .i64 (i:Int)) u
  have hc:=countP_turn (p:=fun j:Nat => Maps.has D (.int .i64 (j:Int))) (q:=fun j:Nat => Maps.has (D.put (.int .i64 (i:Int)) u) (.int .i64 (j:Int))) i n (fun j hj => Maps.has_put_other (fun e => hj (by have:=litInt_inj e; omega)) u)
  have hq:Maps.has (D.put (.int .i64 (i:Int)) u) (.int .i64 (i:Int)) = true:=Maps.has_put_same hD.isMap (keyLit _) u
  unfold SzN cntMap at *
  rw [hs]
  cases hp:Maps.has D (.int .i64 (i:Int))
  · rw [hc.1 hi hp hq]; simp; omega
  · rw [hc.2 (.inr (hq.trans hp.symm))]; simp; omega
theorem SzN.del (h:SzN n D) (hD:Tidy D) (i:Nat) (hi:i < n):SzN n (D.del (.int .i64 i)):=by
  have hs:=Maps.size_del (k := .int .i64 (i:Int)) hD
  have hc:=countP_turn (q:=fun j:Nat => Maps.has D (.int .i64 (j:Int))) (p:=fun j:Nat => Maps.has (D.del (.int .i64 (i:Int))) (.int .i64 (j:Int))) i n (fun j hj => (Maps.has_del_other (fun e => hj (by have:=litInt_inj e; omega))).symm)
  have hq:Maps.has (D.del (.int .i64 (i:Int))) (.int .i64 (i:Int)) = false:=Maps.has_del_same
  unfold SzN cntMap at *
  cases hp:Maps.has D (.int .i64 (i:Int))
  · rw [hp] at hs
    have:=hc.2 (.inr (hp.trans hq.symm))
    simp at hs; omega
  · rw [hp] at hs
    have:=hc.1 hi hq hp
    simp at hs; omega
theorem SzN.empty (n:Nat):SzN n (.map []):=Nat.zero_le _
end
section
variable {P:Program} {k:TypeId} {w:World} {b:Nat} {D:DataW Value}
theorem MapH.clear {t e:TypeId} (h:MapH P k w b D) (ht:P.underlying t = some (.map k e)) (ty:TypeId) :
    ∃ w',(Builtin.clear_ #[t] ty #[.map (some b)]).run P w = .ok (.tuple #[]) w' ∧ MapH P k w' b (.map []) ∧ w.mapTurned w' b:=by
  obtain ⟨es,clock,hb,F,hs,_⟩:=h
  refine ⟨ChangeMaps.setBlock w b (.map #[] clock), ?_,⟨#[],clock,ChangeMaps.heap_setBlock_same hb _, ?_, ?_,rfl⟩,⟨es,clock, #[],clock,hb,rfl⟩⟩
  · simp [Builtin.clear_,run_underlying ht,MapKept.run_getObj_map hb,MapKept.run_setObj_map _ hb,Result.andThen]
    rfl
  · exact ⟨by simp,MapKept.stamped_empty clock,by simp⟩
  · exact Nat.zero_le _
end
section
variable {P:Program} (w:World) {ops:Array Oper} {rest:List Oper} {o:Oper} {a:Act} {Q:Exit → Act → World → Prop} {k e t:TypeId} {b:Nat} {D:DataW Value}
theorem wpList_clearH (hg:o.guard = none) (m:Operand) (hop:o.op = Op.call { callee:=Callee.builtin Builtin.clear,args := #[m],argTypes := #[t] }) (ht:P.underlying t = some (.map k e))
    (hm:a.eval m = .map (some b)) (h:MapH P k w b D)
    (hK:∀ w',MapH P k w' b (.map []) → w.mapTurned w' b → wpList P ops Q rest (a.put o.dst (.tuple #[])) w'):wpList P ops Q (o :: rest) a w:=by
  refine wpList_plain hg fun K' hK' => ?_
  obtain ⟨w',hrun,r1,r2⟩:=h.clear ht o.type
  unfold Oper.wp
  simp [execOp,hop,resolve,invoke,builtin,hm,hrun,Result.andThen]
  exact hK' _ _ (hK w' r1 r2)
end
end Go.Proofs.YtimdkcchjanpaaaGreatDoor
namespace Go.Proofs.YtimdkcchjanpaaaGreatDoor
open Go.RowKit
set_option linter.unusedVariables false
end Go.Proofs.YtimdkcchjanpaaaGreatDoor
namespace Go.Proofs.YtimdkcchjanpaaaGreatDoor
open Go.RowKit
set_option linter.unusedVariables false
end Go.Proofs.YtimdkcchjanpaaaGreatDoor
