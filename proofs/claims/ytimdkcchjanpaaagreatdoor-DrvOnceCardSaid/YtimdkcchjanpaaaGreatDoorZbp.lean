/- Drv, plain: what a driver holds (queued, or in a mailbox) is neither lost nor doubled (for DrvOnce). -/
import Derived.Test.YtimdkcchjanpaaaGreatDoorZbi
import Derived.Test.YtimdkcchjanpaaaGreatDoorZai
namespace Go.Proofs.YtimdkcchjanpaaaGreatDoor
open Go.RowKit
set_option linter.unusedVariables false
def boxedL:List Int → List Pk → List Pk
  | a :: S,p :: P => if a = 0 then boxedL S P else p :: boxedL S P
  | _,_ => []
theorem boxedL_put:∀ (S:List Int) (P:List Pk) (i:Nat) (a:Int) (p:Pk),i < S.length → i < P.length → S.getD i 1 = 0 → a ≠ 0 → (boxedL (S.set i a) (P.set i p)).Perm (p :: boxedL S P)
  | [],_,i,_,_,h,_,_,_ => by simp at h
  | _ :: _, [],i,_,_,_,h,_,_ => by simp at h
  | x :: S,y :: P,0,a,p,_,_,h0,ha => by
    have hx:x = 0:=by simpa using h0
    subst hx
    simp only [List.set_cons_zero,boxedL]
    rw [if_neg ha]
    exact List.Perm.refl _
  | x :: S,y :: P,i + 1,a,p,h1,h2,h0,ha => by
    have ih:=boxedL_put S P i a p (by simpa using h1) (by simpa using h2) (by simpa using h0) ha
    simp only [List.set_cons_succ,boxedL]
    split
    · exact ih
    · exact (ih.cons y).trans (List.Perm.swap p y _)
theorem boxedL_take:∀ (S:List Int) (P:List Pk) (i:Nat),i < S.length → i < P.length → S.getD i 0 ≠ 0 → (boxedL S P).Perm (P.getD i pk0 :: boxedL (S.set i 0) (P.set i pk0))
  | [],_,i,h,_,_ => by simp at h
  | _ :: _, [],i,_,h,_ => by simp at h
  | x :: S,y :: P,0,_,_,h0 => by
    have hx:x ≠ 0:=by simpa using h0
    simp only [List.set_cons_zero,boxedL,List.getD_cons_zero,if_true]
    rw [if_neg hx]
  | x :: S,y :: P,i + 1,h1,h2,h0 => by
    have ih:=boxedL_take S P i (by simpa using h1) (by simpa using h2) (by simpa using h0)
    simp only [List.set_cons_succ,boxedL,List.getD_cons_succ]
    split
    · exact ih
    · exact (ih.cons y).trans (List.Perm.swap _ y _)
theorem boxedL_end:∀ (S:List Int) (P:List Pk) (i:Nat) (a:Int),S.getD i 0 ≠ 0 → a ≠ 0 → boxedL (S.set i a) P = boxedL S P
  | [],_,i,_,_,_ => by simp
  | _ :: _, [],i,_,_,_ => by cases i <;> simp [boxedL]
  | x :: S,y :: P,0,a,h0,ha => by
    have hx:x ≠ 0:=by simpa using h0
    simp only [List.set_cons_zero,boxedL]
    rw [if_neg hx,if_neg ha]
  | x :: S,y :: P,i + 1,a,h0,ha => by
    have ih:=boxedL_end S P i a (by simpa using h0) ha
    simp only [List.set_cons_succ,boxedL,ih]
theorem boxedL_len:∀ (S:List Int) (P:List Pk),P.length = S.length → (boxedL S P).length + (S.filter (· == 0)).length = S.length
  | [],P,_ => by simp [boxedL]
  | x :: S, [],h => by simp at h
  | x :: S,y :: P,h => by
    have ih:=boxedL_len S P (by simpa using h)
    simp only [boxedL,List.filter_cons,List.length_cons]
    by_cases hx:x = 0
    · subst hx; simp; omega
    · rw [if_neg hx,if_neg (by simpa using hx),List.length_cons]; omega
def heldX (x:Bx × Bq):List Pk:=x.2.L.map (fun o => o.p) ++ boxedL x.1.S x.1.P
def Dr.held (s:Dr):List Pk:=s.q.L.map (fun o => o.p) ++ boxedL s.ct.bx.S s.ct.bx.P
theorem take_perm {q:Bq} (h:q.take.2.2 = true):(q.L.map fun o => o.p).Perm (q.take.2.1 :: q.take.1.L.map fun o => o.p):=by
  unfold Bq.take at h ⊢
  split at h
  · cases h
  · rename_i i hi
    split at h
    · cases h
    · rename_i hs
      have hl:=Bq.first_lt hi
      rw [if_neg hs]
      simp only
      rw [List.getD_eq_getElem?_getD,List.getElem?_eq_getElem hl]
      simp only [Option.getD_some]
      obtain ⟨e1,e2⟩:=split_at (List.getElem?_eq_getElem hl)
      rw [e2]
      conv => lhs; rw [e1]
      rw [List.map_append,List.map_append,List.map_cons]
      exact List.perm_middle
theorem bput_perm {b:Bx} {p:Pk} (hok:b.Ok) (hk:0 ≤ keyG p.f) (hf:b.free b.S.length ≠ 0):(boxedL (b.put p).1.S (b.put p).1.P).Perm (p :: boxedL b.S b.P):=by
  unfold Bx.put
  rw [if_neg (by omega)]
  cases hi:b.first b.S.length with
  | none => exact absurd (free_no (Nat.le_refl _) hi) hf
  | some i =>
    obtain ⟨h1,h2⟩:=Bx.first_some hi
    exact boxedL_put b.S b.P i 1 p h1 (by rw [hok.lp]; exact h1) h2 (by decide)
theorem pshR_held {x:Bx × Bq} (h:PshI x):(heldX (pshR x)).Perm (heldX x):=by
  unfold pshR
  split
  · exact List.Perm.refl _
  · rename_i hf
    split
    · exact List.Perm.refl _
    · rename_i ht
      have ht:x.2.take.2.2 = true:=by simpa using ht
      have h1:=take_perm ht
      have h2:=bput_perm h.bx ((q_take h.qk).1 ht) hf
      unfold heldX
      simp only
      refine (h2.append_left _).trans ?_
      refine List.perm_middle.trans ?_
      exact (h1.symm.append_right _)
theorem psh_held {x:Bx × Bq} (h:PshI x):∀ k,(heldX (psh x k)).Perm (heldX x)
  | 0 => List.Perm.refl _
  | k + 1 => (pshR_held (h.psh k)).trans (psh_held h k)
section
variable {s:Dr} {B:Int}
theorem pshd_held (h:s.Ok B):(heldX s.pshd).Perm s.held:=by
  unfold Dr.pshd
  exact psh_held h.pshI _
theorem held_pushTo {y:Bx × Bq} (h1:(heldX y).Perm s.held):(s.pushTo y).held.Perm s.held:=by
  unfold Dr.pushTo
  split
  · exact List.Perm.refl _
  · exact h1
theorem push_held (h:s.Ok B):s.push.held.Perm s.held:=by
  unfold Dr.push
  exact held_pushTo (pshd_held h)
theorem send_held (h:s.Ok B) (b:Int) (p:Pk) (h0:(s.send b p).2 = 0):(s.send b p).1.held.Perm (p :: s.held):=by
  unfold Dr.send at h0 ⊢
  split at h0
  · exact absurd h0 (show ¬ (7:Int) = 0 by decide)
  · rename_i hs
    split at h0
    · exact absurd h0 (show ¬ (4:Int) = 0 by decide)
    · rename_i hk
      rw [if_neg hs,if_neg hk]
      split at h0
      · rename_i hp
        rw [if_pos hp]
        simp only
        refine (push_held (s:=({ s with q:=(s.q.put b p).1 }:Dr)) (B:=B) ⟨h.ct,h.q.put b p,h.ls,h.st,h.sx,fun o ho => ?_,h.bk,h.fk,h.va⟩).trans ?_
        · simp only at ho
          unfold Bq.put at ho
          split at ho
          · exact h.qk o ho
          · simp only [List.mem_append,List.mem_singleton] at ho
            rcases ho with ho | rfl
            · exact h.qk o ho
            · show 0 ≤ keyG p.f
              omega
        · unfold Dr.held
          simp only
          have hq:(s.q.put b p).1.L = s.q.L ++ [⟨s.q.at_ b,p⟩]:=by
            unfold Bq.put at hp ⊢
            split at hp
            · exact absurd hp (show ¬ (5:Int) = 0 by decide)
            · rename_i hn
              rw [if_neg hn]
          rw [hq,List.map_append,List.append_assoc]
          exact List.perm_middle
      · rename_i hp
        exact absurd h0 hp
theorem send_same (b:Int) (p:Pk) (h0:(s.send b p).2 ≠ 0):(s.send b p).1 = s:=by
  unfold Dr.send at h0 ⊢
  repeat' split
  all_goals first | rfl | (rename_i h1 h2 h3; rw [if_neg h1,if_neg h2,if_pos h3] at h0; exact absurd rfl h0)
theorem btake_perm {b:Bx} (hok:b.Ok) (hf:b.fin ≠ []):(boxedL b.S b.P).Perm (b.take.2.2.1 :: boxedL b.take.1.S b.take.1.P):=by
  unfold Bx.take
  cases hx:b.fin with
  | nil => exact absurd hx hf
  | cons x r =>
    obtain ⟨h1,h2,h3⟩:=hok.fin x (by rw [hx]; simp)
    simp only
    exact boxedL_take b.S b.P x.toNat (by omega) (by rw [hok.lp]; omega) (by rcases h3 with h3 | h3 <;> (rw [h3]; decide))
theorem tx_held (h:s.Ok B) (h0:s.tx.2.2.2 = 0):s.held.Perm (s.tx.2.1 :: s.tx.1.held):=by
  unfold Dr.tx at h0 ⊢
  split at h0
  · exact absurd h0 (show ¬ (7:Int) = 0 by decide)
  · rename_i hs
    rw [if_neg hs]
    cases hf:s.ct.bx.fin with
    | nil => rw [hf] at h0; exact absurd h0 (show ¬ (6:Int) = 0 by decide)
    | cons x r =>
      simp only
      have h1:=btake_perm h.ct.bx (by rw [hf]; simp)
      obtain ⟨e1,e2,e3,e4,e5⟩:=s.ct.told_same
      have h2:=push_held (s:=({ s with ct:=s.ct.told,sx:=s.sx.tx s.ct.bx.take.2.2.1 s.ct.bx.take.2.2.2 }:Dr)) (B:=B + 64) ⟨h.ct.told,h.q,by simp only; rw [e3]; have:=h.ls; omega,h.st,h.sx.tx (tk_ln h.bk) _,h.qk,by simp only; rw [e1]; exact bk_take h.bk,by simp only; rw [e2]; exact h.fk,by simp only; rw [e4,e5]; exact h.va⟩
      refine List.Perm.trans ?_ (h2.symm.cons _)
      unfold Dr.held
      simp only
      rw [e1]
      exact (h1.append_left _).trans List.perm_middle
theorem tx_same (h0:s.tx.2.2.2 ≠ 0):s.tx.1 = s:=by
  unfold Dr.tx at h0 ⊢
  split
  · rfl
  · rename_i hs
    rw [if_neg hs] at h0
    split
    · rfl
    · rename_i x r hf
      rw [hf] at h0
      exact absurd rfl h0
theorem end_held {b:Bx} {i st:Int} (hst:st ≠ 0):boxedL (b.end_ i st).1.S (b.end_ i st).1.P = boxedL b.S b.P:=by
  unfold Bx.end_
  split
  · rfl
  · rename_i h
    have h3:b.S.getD i.toNat 0 = 1:=Classical.byContradiction fun hh => h (.inr (.inr hh))
    exact boxedL_end b.S b.P i.toNat st (by rw [h3]; decide) hst
theorem abs_held (b:Bx):∀ k,boxedL (b.abs k).1.S (b.abs k).1.P = boxedL b.S b.P
  | 0 => rfl
  | k + 1 => by unfold Bx.abs; simp only; rw [end_held (by decide),abs_held b k]
theorem doOp_held (h:s.Ok B) (o:Op9) (k0:o.k ≠ 0) (k1:o.k ≠ 1) (k8:o.k ≠ 8) (k9:o.k ≠ 9):(s.doOp o).held.Perm s.held:=by
  unfold Dr.doOp
  rw [if_neg k0,if_neg k1]
  split
  · unfold Dr.rx
    split
    · exact List.Perm.refl _
    · split
      · exact List.Perm.refl _
      · unfold Dr.held
        simp only
        split <;> exact List.Perm.refl _
  split
  · unfold Dr.won
    split
    · unfold Dr.held Ct.won
      split
      · exact List.Perm.refl _
      · simp only
        rw [end_held (by decide)]
    · exact List.Perm.refl _
  split
  · unfold Dr.hear
    split
    · unfold Dr.held Ct.hear
      simp only
      repeat' split
      all_goals exact List.Perm.refl _
    · exact List.Perm.refl _
  split
  · unfold Dr.off
    split <;> exact List.Perm.refl _
  split
  · unfold Dr.fix
    split
    · exact List.Perm.refl _
    · unfold Dr.held Ct.abort
      simp only
      split <;> (simp only; rw [abs_held])
  split
  · unfold Dr.back
    split
    · exact (push_held (s:=({ s with st:=1,ct := { s.ct with asks:=clrK s.ct.asks 8 4 } }:Dr)) (B:=B) ⟨h.ct.clear 8,h.q,h.ls,⟨by show (0:Int) ≤ 1; decide,by show (1:Int) ≤ 3; decide⟩,h.sx,h.qk,h.bk,h.fk,h.va⟩).trans (List.Perm.refl _)
    · exact List.Perm.refl _
  exact List.Perm.refl _
end
structure OnceP (s:Dr) (M:List Pk) (U:Nat → Bool) (n:Nat):Prop where
  mem:∀ p ∈ s.held, ∃ j:Nat,p.tag = j ∧ M[j]? = some p ∧ U j = false
  nd:(s.held.map fun p => p.tag).Nodup
  cnt:M.length = n + s.held.length
  new:∀ j,M.length ≤ j → U j = false
theorem OnceP.perm {s s':Dr} {M:List Pk} {U:Nat → Bool} {n:Nat} (h:OnceP s M U n) (hp:s'.held.Perm s.held):OnceP s' M U n :=
  ⟨fun p hm => h.mem p (hp.mem_iff.1 hm),(hp.map _).nodup_iff.2 h.nd,by rw [hp.length_eq]; exact h.cnt,h.new⟩
theorem OnceP.lt {s:Dr} {M:List Pk} {U:Nat → Bool} {n:Nat} (h:OnceP s M U n) {p:Pk} (hp:p ∈ s.held):0 ≤ p.tag ∧ p.tag < M.length:=by
  obtain ⟨j,h1,h2,_⟩:=h.mem p hp
  obtain ⟨h3,_⟩:=List.getElem?_eq_some_iff.1 h2
  omega
theorem OnceP.send {s s':Dr} {M:List Pk} {U:Nat → Bool} {n:Nat} {p:Pk} (h:OnceP s M U n) (hp:s'.held.Perm (p :: s.held)) (ht:p.tag = M.length):OnceP s' (M ++ [p]) U n:=by
  refine ⟨fun q hq => ?_, ?_, ?_,fun j h1 => h.new j (by simp at h1; omega)⟩
  · rcases List.mem_cons.1 (hp.mem_iff.1 hq) with rfl | hq
    · exact ⟨M.length,ht,by simp,h.new _ (Nat.le_refl _)⟩
    · obtain ⟨j,h1,h2,h3⟩:=h.mem q hq
      obtain ⟨h4,_⟩:=List.getElem?_eq_some_iff.1 h2
      exact ⟨j,h1,by rw [List.getElem?_append_left h4]; exact h2,h3⟩
  · refine (hp.map _).nodup_iff.2 ?_
    rw [List.map_cons,List.nodup_cons]
    refine ⟨fun hm => ?_,h.nd⟩
    obtain ⟨q,hq,e⟩:=List.mem_map.1 hm
    have:=h.lt hq
    omega
  · rw [hp.length_eq,List.length_append,h.cnt]; simp only [List.length_cons,List.length_nil]; omega
theorem OnceP.tx {s s':Dr} {M:List Pk} {U:Nat → Bool} {n:Nat} {p:Pk} (h:OnceP s M U n) (hp:s.held.Perm (p :: s'.held)):∃ j:Nat,p.tag = j ∧ M[j]? = some p ∧ U j = false ∧ OnceP s' M (fun i => if i = j then true else U i) (n + 1):=by
  obtain ⟨j,h1,h2,h3⟩:=h.mem p (hp.mem_iff.2 (by simp))
  have hnd:=(hp.map (fun p => p.tag)).nodup_iff.1 h.nd
  rw [List.map_cons,List.nodup_cons] at hnd
  obtain ⟨h5,_⟩:=List.getElem?_eq_some_iff.1 h2
  refine ⟨j,h1,h2,h3,fun q hq => ?_,hnd.2, ?_,fun i h6 => ?_⟩
  · obtain ⟨i,g1,g2,g3⟩:=h.mem q (hp.mem_iff.2 (List.mem_cons_of_mem _ hq))
    refine ⟨i,g1,g2, ?_⟩
    rw [if_neg]
    · exact g3
    · intro e
      subst e
      exact hnd.1 (List.mem_map.2 ⟨q,hq,by rw [g1,h1]⟩)
  · rw [h.cnt,hp.length_eq,List.length_cons]; omega
  · rw [if_neg (by omega)]
    exact h.new i h6
theorem mem_all {q:Bq} {p:Pk} (h:p ∈ q.all):p ∈ q.L.map (fun o => o.p):=by
  rw [Bq.all_F] at h
  unfold allF at h
  obtain ⟨b,_,hb⟩:=List.mem_flatMap.1 h
  unfold bandF at hb
  obtain ⟨o,ho,rfl⟩:=List.mem_map.1 hb
  exact List.mem_map.2 ⟨o,(List.mem_filter.1 ho).1,rfl⟩
theorem all_len {q:Bq} (h:q.Ok):q.all.length = q.L.length:=Bq.all_len (s := { q with st:=false }) rfl (h.stop false) rfl
theorem held_len {s:Dr} {B:Int} (h:s.Ok B):s.held.length = s.q.all.length + (s.ct.bx.S.length - s.ct.bx.free s.ct.bx.S.length):=by
  unfold Dr.held
  have h1:=boxedL_len s.ct.bx.S s.ct.bx.P h.ct.bx.lp
  have h2:s.ct.bx.free s.ct.bx.S.length = (s.ct.bx.S.filter (· == 0)).length:=by unfold Bx.free; rw [List.take_length]
  rw [List.length_append,List.length_map,all_len h.q,h2]
  omega
theorem OnceP.new_ {s:Dr} (hh:s.held = []):OnceP s [] (fun _ => false) 0 :=
  ⟨by rw [hh]; nofun,by rw [hh]; exact List.nodup_nil,by rw [hh]; rfl,fun j _ => rfl⟩
theorem boxedL_new:∀ n (P:List Pk),boxedL (List.replicate n 0) P = []
  | 0,P => by cases P <;> rfl
  | n + 1, [] => by simp [boxedL]
  | n + 1,p :: P => by rw [List.replicate_succ]; simp only [boxedL,if_true]; exact boxedL_new n P
theorem fresh_held (s:Dr) (st:Int):(s.fresh st).held = []:=by
  unfold Dr.held Dr.fresh
  show [] ++ boxedL (bxNew (boxesN s.c.bo)).S (bxNew (boxesN s.c.bo)).P = []
  unfold bxNew
  rw [boxedL_new]
  rfl
end Go.Proofs.YtimdkcchjanpaaaGreatDoor
