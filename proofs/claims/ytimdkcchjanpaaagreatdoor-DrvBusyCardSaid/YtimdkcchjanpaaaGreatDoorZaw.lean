/- Drv, plain: the document's driver as a state. Drv, the document's side: what a driver is in memory. Drv, the document's side: New, Up, Down, Off, Fix. Printe .. -/
import Derived.Test.YtimdkcchjanpaaaGreatDoorZat
import Derived.Test.YtimdkcchjanpaaaGreatDoorZah
import Derived.Test.YtimdkcchjanpaaaGreatDoorZaf
set_option maxHeartbeats 4000000
namespace Go.Proofs.YtimdkcchjanpaaaGreatDoor
open Go.RowKit
set_option linter.unusedVariables false
structure Sx where
  tf:Int
  tb:Int
  rf:Int
  rb:Int
  ab:Int
  fx:Int
structure Dr where
  c:Cg
  la:List Flt
  ct:Ct
  q:Bq
  st:Int
  sx:Sx
def sx0:Sx:=⟨0,0,0,0,0,0⟩
def drNew (c:Cg) (L:List Flt):Dr:=⟨c,L,ctNew c L,bqNew c.ba c.de,0,sx0⟩
def Dr.fresh (s:Dr) (st:Int):Dr := { s with ct:=ctNew s.c s.la,q:=bqNew s.c.ba s.c.de,st:=st }
def Dr.up (s:Dr):Dr × Int:=if s.st ≠ 0 then (s,2) else (s.fresh 1,0)
def Dr.down (s:Dr):Dr × Int:=if s.st = 0 then (s,7) else (s.fresh 0,0)
def pshR (x:Bx × Bq):Bx × Bq:=if x.1.free x.1.S.length = 0 then x else if x.2.take.2.2 = false then x else ((x.1.put x.2.take.2.1).1,x.2.take.1)
def psh (x:Bx × Bq):Nat → Bx × Bq
  | 0 => x
  | k + 1 => pshR (psh x k)
def pshN:Nat:=1001
def Dr.pshd (s:Dr):Bx × Bq:=psh (s.ct.bx, { s.q with st:=false }) pshN
def Dr.pushTo (s:Dr) (y:Bx × Bq):Dr:=if s.st ≠ 1 then s else { s with ct := { s.ct with bx:=y.1 },q := { y.2 with st:=decide (y.1.free y.1.S.length = 0) } }
def Dr.push (s:Dr):Dr:=s.pushTo s.pshd
def Dr.send (s:Dr) (b:Int) (p:Pk):Dr × Int :=
  if s.st = 0 then (s,7) else if keyG p.f < 0 then (s,4) else if (s.q.put b p).2 = 0 then (({ s with q:=(s.q.put b p).1 }:Dr).push,0) else (s,(s.q.put b p).2)
def Sx.tx (x:Sx) (p:Pk) (is:Bool):Sx:=if is then { x with tf:=x.tf + 1,tb:=x.tb + p.f.l } else { x with ab:=x.ab + 1 }
def Ct.told (s:Ct):Ct:=if s.bx.take.1.fin = [] then { s with bx:=s.bx.take.1,asks:=clrK s.asks 1 4 } else { s with bx:=s.bx.take.1 }
def Dr.tx (s:Dr):Dr × Pk × Bool × Int :=
  if s.st = 0 then (s,pk0,false,7) else match s.ct.bx.fin with
    | [] => (s,pk0,false,6)
    | _ :: _ => (({ s with ct:=s.ct.told,sx:=s.sx.tx s.ct.bx.take.2.2.1 s.ct.bx.take.2.2.2 }:Dr).push,s.ct.bx.take.2.2.1,s.ct.bx.take.2.2.2,0)
def Dr.rx (s:Dr):Dr × Fr × Int :=
  if s.st = 0 then (s,frz,7) else match s.ct.fifo with
    | [] => (s,frz,6)
    | f :: r => ({ s with ct:=if r = [] then { s.ct with fifo:=r,asks:=clrK s.ct.asks 6 4 } else { s.ct with fifo:=r },sx := { s.sx with rf:=s.sx.rf + 1,rb:=s.sx.rb + f.l } },f,0)
def Dr.off (s:Dr):Dr:=if s.st = 1 ∨ s.st = 3 then { s with st:=2,q := { s.q with st:=true },ct := { s.ct with asks:=setB s.ct.asks 8 } } else s
def Dr.fix (s:Dr):Dr × Int:=if s.st ≠ 2 then (s,2) else ({ s with st:=3,ct:=s.ct.abort.1,sx := { s.sx with fx:=s.sx.fx + 1 } },0)
def Dr.back (s:Dr):Dr:=if s.st = 3 then ({ s with st:=1,ct := { s.ct with asks:=clrK s.ct.asks 8 4 } }:Dr).push else s
def Dr.won (s:Dr):Dr × Bool:=if s.st = 1 then ({ s with ct:=s.ct.won },s.ct.off.2) else (s,false)
def Dr.hear (s:Dr) (f:Fr):Dr × Bool:=if s.st = 1 then ({ s with ct:=(s.ct.hear f).1 },(s.ct.hear f).2) else (s,false)
def Dr.offer (s:Dr):Fr × Bool:=if s.st = 1 then s.ct.off else (frz,false)
theorem psh_stay {x:Bx × Bq} {k:Nat} (h:pshR (psh x k) = psh x k):∀ n,k ≤ n → psh x n = psh x k
  | 0,hn => by
    obtain rfl:k = 0:=by omega
    rfl
  | n + 1,hn => by
    rcases Nat.lt_or_ge n k with h1 | h1
    · obtain rfl:k = n + 1:=by omega
      rfl
    · show pshR (psh x n) = psh x k
      rw [psh_stay h n h1,h]
theorem psh_full {x:Bx × Bq} {k:Nat} (h:(psh x k).1.free (psh x k).1.S.length = 0) (hk:k ≤ pshN):psh x pshN = psh x k:=psh_stay (by unfold pshR; rw [if_pos h]) pshN hk
theorem psh_none {x:Bx × Bq} {k:Nat} (h:(psh x k).2.take.2.2 = false) (hk:k ≤ pshN):psh x pshN = psh x k:=psh_stay (by unfold pshR; rw [if_pos h]; split <;> rfl) pshN hk
theorem psh_more {x:Bx × Bq} {k:Nat} (h:(psh x k).1.free (psh x k).1.S.length ≠ 0) (h2:(psh x k).2.take.2.2 = true):psh x (k + 1) = (((psh x k).1.put (psh x k).2.take.2.1).1,(psh x k).2.take.1):=by
  show pshR (psh x k) = _
  unfold pshR
  rw [if_neg h,if_neg (by rw [h2]; decide)]
def lnOk (f:Fr):Prop:=0 ≤ f.l ∧ f.l ≤ 64
theorem key_ln {f:Fr} (h:0 ≤ keyG f):lnOk f:=by
  unfold keyG keyV at h
  split at h
  · rename_i h1
    simp only [Bool.and_eq_true,okF] at h1
    obtain ⟨⟨⟨⟨h2,h3⟩,h4⟩,h5⟩,h6⟩:=h1
    unfold lenOk at h4
    unfold lnOk
    split at h4
    · simp at h4; omega
    · split at h4
      · refine ⟨Int.not_lt.1 fun h => ?_,Int.not_lt.1 fun h => ?_⟩
        · rw [isLen_lo h] at h4; cases h4
        · rw [isLen_hi h] at h4; cases h4
      · simp at h4; omega
  · omega
structure Sx.Ok (x:Sx) (B:Int):Prop where
  tf:0 ≤ x.tf ∧ x.tf ≤ B
  tb:0 ≤ x.tb ∧ x.tb ≤ B
  rf:0 ≤ x.rf ∧ x.rf ≤ B
  rb:0 ≤ x.rb ∧ x.rb ≤ B
  ab:0 ≤ x.ab ∧ x.ab ≤ B
  fx:0 ≤ x.fx ∧ x.fx ≤ B
structure PshI (x:Bx × Bq):Prop where
  bx:x.1.Ok
  q:x.2.Ok
  st:x.2.st = false
  qk:∀ o ∈ x.2.L,0 ≤ keyG o.p.f
  bk:∀ p ∈ x.1.P,lnOk p.f
structure Dr.Ok (s:Dr) (B:Int):Prop where
  ct:s.ct.Ok
  q:s.q.Ok
  ls:s.ct.lost ≤ B
  st:0 ≤ s.st ∧ s.st ≤ 3
  sx:s.sx.Ok B
  qk:∀ o ∈ s.q.L,0 ≤ keyG o.p.f
  bk:∀ p ∈ s.ct.bx.P,lnOk p.f
  fk:∀ f ∈ s.ct.fifo,lnOk f
  va:s.ct.va = s.c.va ∧ s.ct.acc = s.la
theorem pk0_ln:lnOk pk0.f:=by
  unfold lnOk pk0
  decide
theorem bk_put {s:Bx} {p:Pk} (h:∀ p ∈ s.P,lnOk p.f) (hp:0 ≤ keyG p.f → lnOk p.f):∀ p' ∈ (s.put p).1.P,lnOk p'.f:=by
  unfold Bx.put
  split
  · exact h
  · rename_i hk
    split
    · intro q hq
      rcases List.mem_or_eq_of_mem_set hq with h1 | rfl
      · exact h q h1
      · exact hp (by omega)
    · exact h
theorem bk_end {s:Bx} {i st:Int}:(s.end_ i st).1.P = s.P:=by
  unfold Bx.end_
  split <;> rfl
theorem bk_abs (s:Bx):∀ k,(s.abs k).1.P = s.P
  | 0 => rfl
  | k + 1 => by unfold Bx.abs; simp only; rw [bk_end,bk_abs s k]
theorem bk_take {s:Bx} (h:∀ p ∈ s.P,lnOk p.f):∀ p ∈ s.take.1.P,lnOk p.f:=by
  unfold Bx.take
  split
  · exact h
  · intro q hq
    rcases List.mem_or_eq_of_mem_set hq with h1 | rfl
    · exact h q h1
    · exact pk0_ln
theorem bk_new (n:Int):∀ p ∈ (bxNew (boxesN n)).P,lnOk p.f:=fun p hp => by
  have:p = pk0:=by
    unfold bxNew at hp
    exact List.eq_of_mem_replicate hp
  subst this
  exact pk0_ln
theorem tk_ln {s:Bx} (h:∀ p ∈ s.P,lnOk p.f):lnOk s.take.2.2.1.f:=by
  unfold Bx.take
  split
  · exact pk0_ln
  · rename_i x r hf
    simp only
    rw [List.getD_eq_getElem?_getD]
    cases hx:s.P[x.toNat]? with
    | none => exact pk0_ln
    | some p => exact h p (List.mem_of_getElem? hx)
theorem q_take {s:Bq} (h:∀ o ∈ s.L,0 ≤ keyG o.p.f):(s.take.2.2 = true → 0 ≤ keyG s.take.2.1.f) ∧ (∀ o ∈ s.take.1.L,0 ≤ keyG o.p.f) ∧ s.take.1.st = s.st ∧ s.take.1.bands = s.bands ∧ s.take.1.room = s.room:=by
  unfold Bq.take
  split
  · exact ⟨nofun,h,rfl,rfl,rfl⟩
  · rename_i i hi
    split
    · exact ⟨nofun,h,rfl,rfl,rfl⟩
    · have hl:=Bq.first_lt hi
      refine ⟨fun _ => ?_,fun o ho => h o (List.mem_of_mem_eraseIdx ho),rfl,rfl,rfl⟩
      simp only
      rw [List.getD_eq_getElem?_getD,List.getElem?_eq_getElem hl]
      exact h _ (List.getElem_mem hl)
theorem PshI.round {x:Bx × Bq} (h:PshI x):PshI (pshR x):=by
  unfold pshR
  split
  · exact h
  · split
    · exact h
    · rename_i h1 h2
      obtain ⟨k1,k2,k3,_⟩:=q_take h.qk
      exact ⟨h.bx.put _,h.q.take,k3.trans h.st,k2,bk_put h.bk (fun hk => key_ln hk)⟩
theorem PshI.psh {x:Bx × Bq} (h:PshI x):∀ k,PshI (psh x k)
  | 0 => h
  | k + 1 => (PshI.psh h k).round
section
variable {s:Dr} {B:Int}
theorem Dr.Ok.pshI (h:s.Ok B):PshI (s.ct.bx, { s.q with st:=false }):=⟨h.ct.bx,h.q.stop false,rfl,h.qk,h.bk⟩
theorem Dr.Ok.pshd (h:s.Ok B):PshI s.pshd:=by
  unfold Dr.pshd
  exact PshI.psh h.pshI _
theorem Dr.Ok.pushTo (h:s.Ok B) {y:Bx × Bq} (hp:PshI y):(s.pushTo y).Ok B:=by
  unfold Dr.pushTo
  split
  · exact h
  · exact ⟨⟨hp.bx,h.ct.ak,h.ct.room,h.ct.fifo,h.ct.ls⟩,hp.q.stop _,h.ls,h.st,h.sx,hp.qk,hp.bk,h.fk,h.va⟩
theorem Dr.Ok.push (h:s.Ok B):s.push.Ok B:=h.pushTo h.pshd
theorem Sx.Ok.mono {x:Sx} {C:Int} (h:x.Ok B) (hc:B ≤ C):x.Ok C:=⟨⟨h.tf.1,by have:=h.tf.2; omega⟩,⟨h.tb.1,by have:=h.tb.2; omega⟩,⟨h.rf.1,by have:=h.rf.2; omega⟩,⟨h.rb.1,by have:=h.rb.2; omega⟩,⟨h.ab.1,by have:=h.ab.2; omega⟩,⟨h.fx.1,by have:=h.fx.2; omega⟩⟩
theorem Dr.Ok.mono {C:Int} (h:s.Ok B) (hc:B ≤ C):s.Ok C:=⟨h.ct,h.q,by have:=h.ls; omega,h.st,h.sx.mono hc,h.qk,h.bk,h.fk,h.va⟩
theorem Dr.Ok.new (c:Cg) (L:List Flt):(drNew c L).Ok 0 :=
  ⟨Ct.Ok.new c L,Bq.Ok.new _ _,Int.le_refl _,⟨Int.le_refl _,by show (0:Int) ≤ 3; decide⟩,⟨⟨Int.le_refl _,Int.le_refl _⟩,⟨Int.le_refl _,Int.le_refl _⟩,⟨Int.le_refl _,Int.le_refl _⟩,⟨Int.le_refl _,Int.le_refl _⟩,⟨Int.le_refl _,Int.le_refl _⟩,⟨Int.le_refl _,Int.le_refl _⟩⟩,nofun,bk_new c.bo,nofun,⟨rfl,rfl⟩⟩
theorem Dr.Ok.fresh (h:s.Ok B) {st:Int} (hs:0 ≤ st ∧ st ≤ 3) (hB:0 ≤ B):(s.fresh st).Ok B:=⟨Ct.Ok.new s.c s.la,Bq.Ok.new _ _,hB,hs,h.sx,nofun,bk_new s.c.bo,nofun,⟨rfl,rfl⟩⟩
theorem Dr.Ok.up (h:s.Ok B) (hB:0 ≤ B):s.up.1.Ok B:=by
  unfold Dr.up
  split
  · exact h
  · exact h.fresh (by decide) hB
theorem Dr.Ok.down (h:s.Ok B) (hB:0 ≤ B):s.down.1.Ok B:=by
  unfold Dr.down
  split
  · exact h
  · exact h.fresh (by decide) hB
theorem Dr.Ok.send (h:s.Ok B) (b:Int) (p:Pk):(s.send b p).1.Ok B:=by
  unfold Dr.send
  split
  · exact h
  · split
    · exact h
    · rename_i hk
      split
      · refine Dr.Ok.push ⟨h.ct,h.q.put b p,h.ls,h.st,h.sx,fun o ho => ?_,h.bk,h.fk,h.va⟩
        simp only at ho
        unfold Bq.put at ho
        split at ho
        · exact h.qk o ho
        · simp only [List.mem_append,List.mem_singleton] at ho
          rcases ho with ho | rfl
          · exact h.qk o ho
          · show 0 ≤ keyG p.f
            omega
      · exact h
theorem Ct.Ok.told {c:Ct} (h:c.Ok):c.told.Ok:=by
  have hk:=clrK_rng (n:=1) h.ak 4 (Nat.le_refl _)
  unfold Ct.told
  generalize clrK c.asks 1 4 = a at hk ⊢
  split
  · exact ⟨h.bx.take,hk,h.room,h.fifo,h.ls⟩
  · exact ⟨h.bx.take,h.ak,h.room,h.fifo,h.ls⟩
theorem Ct.told_same (c:Ct):c.told.bx = c.bx.take.1 ∧ c.told.fifo = c.fifo ∧ c.told.lost = c.lost ∧ c.told.va = c.va ∧ c.told.acc = c.acc:=by
  unfold Ct.told
  split <;> exact ⟨rfl,rfl,rfl,rfl,rfl⟩
theorem Sx.Ok.tx {x:Sx} (h:x.Ok B) {p:Pk} (hp:lnOk p.f) (is:Bool):(x.tx p is).Ok (B + 64):=by
  obtain ⟨h1,h2⟩:=hp
  have hm:=h.mono (C:=B + 64) (by omega)
  unfold Sx.tx
  split
  · exact ⟨⟨by have:=h.tf.1; simp only; omega,by have:=h.tf.2; simp only; omega⟩,⟨by have:=h.tb.1; simp only; omega,by have:=h.tb.2; simp only; omega⟩,hm.rf,hm.rb,hm.ab,hm.fx⟩
  · exact ⟨hm.tf,hm.tb,hm.rf,hm.rb,⟨by have:=h.ab.1; simp only; omega,by have:=h.ab.2; simp only; omega⟩,hm.fx⟩
theorem Dr.Ok.tx (h:s.Ok B):s.tx.1.Ok (B + 64):=by
  have hm:=h.mono (C:=B + 64) (by omega)
  unfold Dr.tx
  split
  · exact hm
  · split
    · exact hm
    · obtain ⟨e1,e2,e3,e4,e5⟩:=s.ct.told_same
      exact Dr.Ok.push ⟨h.ct.told,h.q,by simp only; rw [e3]; have:=h.ls; omega,h.st,h.sx.tx (tk_ln h.bk) _,h.qk,by simp only; rw [e1]; exact bk_take h.bk,by simp only; rw [e2]; exact h.fk,by simp only; rw [e4,e5]; exact h.va⟩
theorem Dr.Ok.rx (h:s.Ok B):s.rx.1.Ok (B + 64):=by
  have hm:=h.mono (C:=B + 64) (by omega)
  unfold Dr.rx
  split
  · exact hm
  · cases hf:s.ct.fifo with
    | nil => exact hm
    | cons f r =>
      have hl:=h.fk f (by rw [hf]; simp)
      obtain ⟨l1,l2⟩:=hl
      have hfi:=h.ct.fifo
      rw [hf] at hfi
      have hr:(r.length:Int) ≤ s.ct.room:=by simp at hfi; omega
      have hx:({ s.sx with rf:=s.sx.rf + 1,rb:=s.sx.rb + f.l }:Sx).Ok (B + 64):=⟨hm.sx.tf,hm.sx.tb,⟨by have:=h.sx.rf.1; simp only; omega,by have:=h.sx.rf.2; simp only; omega⟩,⟨by have:=h.sx.rb.1; simp only; omega,by have:=h.sx.rb.2; simp only; omega⟩,hm.sx.ab,hm.sx.fx⟩
      have hk:∀ g ∈ r,lnOk g:=fun g hg => h.fk g (by rw [hf]; exact List.mem_cons_of_mem _ hg)
      have hka:=clrK_rng (n:=6) h.ct.ak 4 (Nat.le_refl _)
      generalize clrK s.ct.asks 6 4 = a at hka ⊢
      by_cases h0:r = []
      · simp only [if_pos h0]
        exact ⟨⟨h.ct.bx,hka,h.ct.room,hr,h.ct.ls⟩,h.q,hm.ls,h.st,hx,h.qk,h.bk,hk,h.va⟩
      · simp only [if_neg h0]
        exact ⟨⟨h.ct.bx,h.ct.ak,h.ct.room,hr,h.ct.ls⟩,h.q,hm.ls,h.st,hx,h.qk,h.bk,hk,h.va⟩
theorem Dr.Ok.off (h:s.Ok B):s.off.Ok B:=by
  unfold Dr.off
  split
  · exact ⟨h.ct.set (.inr (.inr (.inr rfl))),h.q.stop true,h.ls,⟨by show (0:Int) ≤ 2; decide,by show (2:Int) ≤ 3; decide⟩,h.sx,h.qk,h.bk,h.fk,h.va⟩
  · exact h
theorem Dr.Ok.fix (h:s.Ok B):s.fix.1.Ok (B + 64):=by
  have hm:=h.mono (C:=B + 64) (by omega)
  unfold Dr.fix
  split
  · exact hm
  · obtain ⟨a1,a2,a3⟩:=s.ct.abort_acc
    have hbx:s.ct.abort.1.bx.P = s.ct.bx.P:=by
      unfold Ct.abort
      split <;> exact bk_abs _ _
    have hff:s.ct.abort.1.fifo = s.ct.fifo:=by
      unfold Ct.abort
      split <;> rfl
    exact ⟨h.ct.abort,h.q,by simp only; rw [a3]; exact hm.ls,⟨by show (0:Int) ≤ 3; decide,by show (3:Int) ≤ 3; decide⟩,⟨hm.sx.tf,hm.sx.tb,hm.sx.rf,hm.sx.rb,hm.sx.ab,⟨by have:=h.sx.fx.1; simp only; omega,by have:=h.sx.fx.2; simp only; omega⟩⟩,h.qk,by simp only; rw [hbx]; exact h.bk,by simp only; rw [hff]; exact h.fk,by simp only; rw [a1,a2]; exact h.va⟩
theorem Dr.Ok.back (h:s.Ok B):s.back.Ok B:=by
  unfold Dr.back
  split
  · exact Dr.Ok.push ⟨h.ct.clear 8,h.q,h.ls,⟨by show (0:Int) ≤ 1; decide,by show (1:Int) ≤ 3; decide⟩,h.sx,h.qk,h.bk,h.fk,h.va⟩
  · exact h
theorem Dr.Ok.won (h:s.Ok B):s.won.1.Ok B:=by
  unfold Dr.won
  split
  · obtain ⟨a1,a2,a3⟩:=s.ct.won_acc
    have hbx:s.ct.won.bx.P = s.ct.bx.P:=by
      unfold Ct.won
      split
      · rfl
      · exact bk_end
    have hff:s.ct.won.fifo = s.ct.fifo:=by
      unfold Ct.won
      split <;> rfl
    exact ⟨h.ct.won,h.q,by simp only; rw [a3]; exact h.ls,h.st,h.sx,h.qk,by simp only; rw [hbx]; exact h.bk,by simp only; rw [hff]; exact h.fk,by simp only; rw [a1,a2]; exact h.va⟩
  · exact h
theorem Dr.Ok.hear (h:s.Ok B) (f:Fr):(s.hear f).1.Ok (B + 64):=by
  have hm:=h.mono (C:=B + 64) (by omega)
  unfold Dr.hear
  split
  · obtain ⟨a1,a2,a3,a4⟩:=s.ct.hear_acc f
    have hbx:(s.ct.hear f).1.bx = s.ct.bx:=by
      unfold Ct.hear
      split
      · rfl
      · split <;> rfl
    have hff:∀ g ∈ (s.ct.hear f).1.fifo,lnOk g:=by
      unfold Ct.hear
      split
      · exact h.fk
      · rename_i hl
        split
        · exact h.fk
        · intro g hg
          simp only [List.mem_append,List.mem_singleton] at hg
          rcases hg with hg | rfl
          · exact h.fk g hg
          · refine key_ln ?_
            unfold letF at hl
            simp at hl
            exact hl.1
    exact ⟨h.ct.hear f,h.q,by simp only; have:=h.ls; omega,h.st,hm.sx,h.qk,by simp only; rw [hbx]; exact h.bk,hff,by simp only; rw [a1,a2]; exact h.va⟩
  · exact hm
end
end Go.Proofs.YtimdkcchjanpaaaGreatDoor
namespace Go.Proofs.YtimdkcchjanpaaaGreatDoor
open Go.RowKit
set_option linter.unusedVariables false
abbrev drC (c:Cg) (cp qp:Value) (st:Int) (x:Sx):Array Value := #[.int .i64 c.bo, .int .i64 c.fi, .int .i64 c.ba, .int .i64 c.de, .int .i64 c.qu, .int .i64 c.no, .int .i64 c.re, .slice c.A c.n c.cp,cp,qp, .int .i64 st, .int .i64 x.tf, .int .i64 x.tb, .int .i64 x.rf, .int .i64 x.rb, .int .i64 x.ab, .int .i64 x.fx]
structure DrM (w:World) (b:Nat) (cp qp:Value) (Oc Oq:Nat → Prop) (s:Dr):Prop where
  box:w.heap[b]? = some (.cells (drC s.c cp qp s.st s.sx) 115 (0,0))
  ct:CtD w cp s.ct Oc
  q:BqD w qp s.q Oq
  h1:¬ Oc b
  h2:¬ Oq b
  h3:Apart Oc Oq
def drO (b:Nat) (Oc Oq:Nat → Prop):Nat → Prop:=fun k => k = b ∨ Oc k ∨ Oq k
def DrD (w:World) (v:Value) (s:Dr) (O:Nat → Prop):Prop := ∃ b cp qp Oc Oq,v = .pointer (some ⟨b,0,none⟩) ∧ O = drO b Oc Oq ∧ DrM w b cp qp Oc Oq s
section
variable {w w':World} {b:Nat} {cp qp:Value} {Oc Oq:Nat → Prop} {s:Dr}
theorem DrM.lt (h:DrM w b cp qp Oc Oq s):∀ k,drO b Oc Oq k → k < w.heap.size:=by
  rintro k (rfl | hk | hk)
  · exact heap_some_lt h.box
  · exact isObj_ct.lt h.ct k hk
  · exact isObj_bq.lt h.q k hk
theorem DrM.stay (h:DrM w b cp qp Oc Oq s) (hs:∀ k,drO b Oc Oq k → w'.heap[k]? = w.heap[k]?):DrM w' b cp qp Oc Oq s :=
  ⟨(hs b (.inl rfl)).trans h.box,isObj_ct.stay h.ct (fun k hk => hs k (.inr (.inl hk))),isObj_bq.stay h.q (fun k hk => hs k (.inr (.inr hk))),h.h1,h.h2,h.h3⟩
theorem DrM.later (h:DrM w b cp qp Oc Oq s) (hb:Below w.heap.size w w'):DrM w' b cp qp Oc Oq s:=h.stay (fun k hk => hb.block k (h.lt k hk))
theorem isObj_dr:IsObj DrD where
  stay:=by
    rintro w w' v s O ⟨b,cp,qp,Oc,Oq,rfl,rfl,h⟩ hs
    exact ⟨b,cp,qp,Oc,Oq,rfl,rfl,h.stay hs⟩
  lt:=by
    rintro w v s O ⟨b,cp,qp,Oc,Oq,rfl,rfl,h⟩
    exact h.lt
theorem DrM.stp (h:DrM w b cp qp Oc Oq s) (hb:Below w.heap.size w w'):Stp DrD (.pointer (some ⟨b,0,none⟩)) (drO b Oc Oq) w s w':=⟨_,⟨b,cp,qp,Oc,Oq,rfl,rfl,h.later hb⟩, .of_below hb,Grows.refl _ _⟩
theorem DrM.live (h:DrM w b cp qp Oc Oq s) (j:Nat):w.frozen? ⟨b,j,none⟩ = false:=Lib.frozen_of_heap h.box j
theorem DrM.blt (h:DrM w b cp qp Oc Oq s):b < w.heap.size:=heap_some_lt h.box
theorem DrM.ctrl {ct':Ct} (h:DrM w b cp qp Oc Oq s) (hs:Stp CtD cp Oc w ct' w'):∃ Oc',DrM w' b cp qp Oc' Oq { s with ct:=ct' } ∧ Kept (drO b Oc Oq) w w' ∧ Grows (drO b Oc Oq) w (drO b Oc' Oq):=by
  obtain ⟨Oc',h1,hk,hg⟩:=hs
  have lb:=h.blt
  have lq:=isObj_bq.lt h.q
  refine ⟨Oc',⟨(hk.block b lb h.h1).trans h.box,h1,isObj_bq.stay h.q (fun k hk' => hk.block k (lq k hk') (fun h2 => h.h3 k h2 hk')),fun h2 => ?_,h.h2,h.h3.step lq hg⟩, ?_, ?_⟩
  · rcases hg b h2 with h3 | h3
    · exact h.h1 h3
    · omega
  · exact ⟨hk.os,hk.tape,hk.output,hk.size,fun k h2 h3 => hk.block k h2 (fun h4 => h3 (.inr (.inl h4)))⟩
  · rintro k (h2 | h2 | h2)
    · exact .inl (.inl h2)
    · exact (hg k h2).imp (fun h => .inr (.inl h)) id
    · exact .inl (.inr (.inr h2))
theorem DrM.queue {q':Bq} (h:DrM w b cp qp Oc Oq s) (hs:Stp BqD qp Oq w q' w'):∃ Oq',DrM w' b cp qp Oc Oq' { s with q:=q' } ∧ Kept (drO b Oc Oq) w w' ∧ Grows (drO b Oc Oq) w (drO b Oc Oq'):=by
  obtain ⟨Oq',h1,hk,hg⟩:=hs
  have lb:=h.blt
  have lc:=isObj_ct.lt h.ct
  refine ⟨Oq',⟨(hk.block b lb h.h2).trans h.box,isObj_ct.stay h.ct (fun k hk' => hk.block k (lc k hk') (fun h2 => h.h3 k hk' h2)),h1,h.h1,fun h2 => ?_,(h.h3.symm.step lc hg).symm⟩, ?_, ?_⟩
  · rcases hg b h2 with h3 | h3
    · exact h.h2 h3
    · omega
  · exact ⟨hk.os,hk.tape,hk.output,hk.size,fun k h2 h3 => hk.block k h2 (fun h4 => h3 (.inr (.inr h4)))⟩
  · rintro k (h2 | h2 | h2)
    · exact .inl (.inl h2)
    · exact .inl (.inr (.inl h2))
    · exact (hg k h2).imp (fun h => .inr (.inr h)) id
theorem ctd_boxes {bv:Value} {Ob:Nat → Prop} {vf:Value} {c:Ct} {bx':Bx} {bb:Nat} (h:CtM w bb bv Ob vf c) (hs:Stp BxD bv Ob w bx' w'):Stp CtD (.pointer (some ⟨bb,0,none⟩)) (ctO bb Ob vf) w { c with bx:=bx' } w':=by
  obtain ⟨Ob',h1,h2,h3⟩:=h.boxes hs
  exact ⟨_,⟨bb,bv,Ob',vf,rfl,rfl,h1⟩,h2,h3⟩
theorem DrM.setNum {s':Dr} (h:DrM w b cp qp Oc Oq s) (j:Nat) (u:Value) (hc:(drC s.c cp qp s.st s.sx).setIfInBounds j u = drC s'.c cp qp s'.st s'.sx) (h1:s'.ct = s.ct) (h2:s'.q = s.q) :
    DrM (w.setCell ⟨b,j,none⟩ u) b cp qp Oc Oq s' ∧ Kept (drO b Oc Oq) w (w.setCell ⟨b,j,none⟩ u):=by
  have ho:∀ k,k ≠ b → (w.setCell ⟨b,j,none⟩ u).heap[k]? = w.heap[k]?:=fun k hk => Below.heap_setCell _ _ _ _ hk
  refine ⟨⟨?_, ?_, ?_,h.h1,h.h2,h.h3⟩,rfl,rfl,rfl,by simp [World.setCell],fun k _ hk => ho k (fun e => hk (.inl e))⟩
  · rw [heap_setCell_same w b j _ _ _ h.box,hc]
  · rw [h1]; exact isObj_ct.stay h.ct (fun k hk => ho k (fun e => h.h1 (e ▸ hk)))
  · rw [h2]; exact isObj_bq.stay h.q (fun k hk => ho k (fun e => h.h2 (e ▸ hk)))
theorem DrM.setCtrl {cp':Value} {Oc':Nat → Prop} {ct':Ct} (h:DrM w b cp qp Oc Oq s) (hb:Below w.heap.size w w') (hi:CtD w' cp' ct' Oc') (hn:∀ k,Oc' k → w.heap.size ≤ k) :
    DrM (w'.setCell ⟨b,8,none⟩ cp') b cp' qp Oc' Oq { s with ct:=ct' } ∧ Kept (drO b Oc Oq) w (w'.setCell ⟨b,8,none⟩ cp') ∧ Grows (drO b Oc Oq) w (drO b Oc' Oq):=by
  have hm:=h.later hb
  have lb:=h.blt
  have lq:=isObj_bq.lt h.q
  have ho:∀ k,k ≠ b → (w'.setCell ⟨b,8,none⟩ cp').heap[k]? = w'.heap[k]?:=fun k hk => Below.heap_setCell _ _ _ _ hk
  refine ⟨⟨?_,isObj_ct.stay hi (fun k hk => ho k (fun e => by have:=hn k hk; omega)),isObj_bq.stay hm.q (fun k hk => ho k (fun e => h.h2 (e ▸ hk))),fun h1 => by have:=hn b h1; omega,h.h2,fun k h1 h2 => by have:=hn k h1; have:=lq k h2; omega⟩, ?_, ?_⟩
  · rw [heap_setCell_same w' b 8 _ _ _ hm.box]; rfl
  · exact (Kept.of_below (O:=drO b Oc Oq) hb).trans ⟨rfl,rfl,rfl,by simp [World.setCell],fun k _ hk => ho k (fun e => hk (.inl e))⟩ (Grows.refl _ _)
  · rintro k (h2 | h2 | h2)
    · exact .inl (.inl h2)
    · exact .inr (hn k h2)
    · exact .inl (.inr (.inr h2))
theorem DrM.setQueue {qp':Value} {Oq':Nat → Prop} {q':Bq} (h:DrM w b cp qp Oc Oq s) (hb:Below w.heap.size w w') (hi:BqD w' qp' q' Oq') (hn:∀ k,Oq' k → w.heap.size ≤ k) :
    DrM (w'.setCell ⟨b,9,none⟩ qp') b cp qp' Oc Oq' { s with q:=q' } ∧ Kept (drO b Oc Oq) w (w'.setCell ⟨b,9,none⟩ qp') ∧ Grows (drO b Oc Oq) w (drO b Oc Oq'):=by
  have hm:=h.later hb
  have lb:=h.blt
  have lc:=isObj_ct.lt h.ct
  have ho:∀ k,k ≠ b → (w'.setCell ⟨b,9,none⟩ qp').heap[k]? = w'.heap[k]?:=fun k hk => Below.heap_setCell _ _ _ _ hk
  refine ⟨⟨?_,isObj_ct.stay hm.ct (fun k hk => ho k (fun e => h.h1 (e ▸ hk))),isObj_bq.stay hi (fun k hk => ho k (fun e => by have:=hn k hk; omega)),h.h1,fun h1 => by have:=hn b h1; omega,fun k h1 h2 => by have:=hn k h2; have:=lc k h1; omega⟩, ?_, ?_⟩
  · rw [heap_setCell_same w' b 9 _ _ _ hm.box]; rfl
  · exact (Kept.of_below (O:=drO b Oc Oq) hb).trans ⟨rfl,rfl,rfl,by simp [World.setCell],fun k _ hk => ho k (fun e => hk (.inl e))⟩ (Grows.refl _ _)
  · rintro k (h2 | h2 | h2)
    · exact .inl (.inl h2)
    · exact .inl (.inr (.inl h2))
    · exact .inr (hn k h2)
end
end Go.Proofs.YtimdkcchjanpaaaGreatDoor
namespace Go.Proofs.YtimdkcchjanpaaaGreatDoor
open Go.RowKit
set_option linter.unusedVariables false
theorem DrM.cells {w:World} {b:Nat} {cp qp:Value} {Oc Oq:Nat → Prop} {s:Dr} (h:DrM w b cp qp Oc Oq s):w.cell? ⟨b,8,none⟩ = some cp ∧ w.cell? ⟨b,9,none⟩ = some qp ∧ w.cell? ⟨b,10,none⟩ = some (.int .i64 s.st) ∧
    w.cell? ⟨b,11,none⟩ = some (.int .i64 s.sx.tf) ∧ w.cell? ⟨b,12,none⟩ = some (.int .i64 s.sx.tb) ∧ w.cell? ⟨b,13,none⟩ = some (.int .i64 s.sx.rf) ∧ w.cell? ⟨b,14,none⟩ = some (.int .i64 s.sx.rb) ∧ w.cell? ⟨b,15,none⟩ = some (.int .i64 s.sx.ab) ∧ w.cell? ⟨b,16,none⟩ = some (.int .i64 s.sx.fx):=by
  have h:=h.box
  refine ⟨?_, ?_, ?_, ?_, ?_, ?_, ?_, ?_, ?_⟩ <;> (rw [Lib.cell_of_heap h]; rfl)
theorem DrM.conf {w:World} {b:Nat} {cp qp:Value} {Oc Oq:Nat → Prop} {s:Dr} (h:DrM w b cp qp Oc Oq s):w.cell? ⟨b,0,none⟩ = some (.int .i64 s.c.bo) ∧ w.cell? ⟨b,1,none⟩ = some (.int .i64 s.c.fi) ∧ w.cell? ⟨b,2,none⟩ = some (.int .i64 s.c.ba) ∧ w.cell? ⟨b,3,none⟩ = some (.int .i64 s.c.de) ∧
    w.cell? ⟨b,4,none⟩ = some (.int .i64 s.c.qu) ∧ w.cell? ⟨b,5,none⟩ = some (.int .i64 s.c.no) ∧ w.cell? ⟨b,6,none⟩ = some (.int .i64 s.c.re) ∧ w.cell? ⟨b,7,none⟩ = some (.slice s.c.A s.c.n s.c.cp):=by
  have h:=h.box
  refine ⟨?_, ?_, ?_, ?_, ?_, ?_, ?_, ?_⟩ <;> (rw [Lib.cell_of_heap h]; rfl)
def FrsF (W:World) (q:Bq) (v:Value) (w:World):Prop := ∃ O,BqD w v q O ∧ ∀ k,O k → W.heap.size ≤ k
theorem xdfresh_v {w:World} {v:Value} {s:Dr} {O:Nat → Prop} (h:DrD w v s O):Calls Tryz.prog 95 #[v] w fun e w' => e = .returned (.tuple #[]) ∧ Stp DrD v O w (s.fresh s.st) w':=by
  obtain ⟨b,cp,qp,Oc,Oq,rfl,rfl,h⟩:=h
  have H:=Lib.hid h
  obtain ⟨c0,c1,c2,c3,c4,c5,c6,c7⟩:=h.conf
  have hbz:=h.blt
  clear h
  go_enter Tryz.func95,Tryz.ntmps95
  go_wp2_with fail
  refine (xcnew_v s.c s.la w).mono ?_
  rintro e w1 ⟨cp1,O1,rfl,hc,hb1,hn1⟩
  have hci:=hc
  obtain ⟨bb,bv,Ob,vf,rfl,rfl,_⟩:=hci
  obtain ⟨m1,k1,g1⟩:=H.out.setCtrl hb1 hc hn1
  have HM:=Lib.hid m1
  have HK:=Lib.hid k1
  have HG:=Lib.hid g1
  have f8:=(H.out.later hb1).live 8
  have c8:=((H.out.later hb1).cells).1
  clear c0 c1 c2 c3 c4 c5 c6 c7 hc m1 k1 g1 hn1
  go_upto_region 1 with fail
  generalize hw2:w1.setCell ⟨b,8,none⟩ (.pointer (some ⟨bb,0,none⟩)) = w2 at HM HK
  obtain ⟨c0,c1,c2,c3,c4,c5,c6,c7⟩:=HM.out.conf
  have hz2:=HM.out.blt
  clear hw2 c8 f8 hb1 hbz
  have hcl:∀ (n:Later w2) (b o:Nat),b < w2.heap.size → n.w.cell? ⟨b,o,none⟩ = w2.cell? ⟨b,o,none⟩:=later_cells w2
  refine wp_region_sec 14 [21] (fun _ v w' => FrsF w2 (bqNew s.c.ba s.c.de) v w') (fun _ _ _ _ ⟨O,h,ho⟩ hb => ⟨O,isObj_bq.stay h (fun k hk => hb.block k (isObj_bq.lt h k hk)),ho⟩) (by kernel_rfl) (by kernel_rfl) (by kernel_rfl) (by kernel_rfl) (by kernel_rfl) ?_
  simp only [List.take_succ_cons,List.take_zero,List.drop_succ_cons,List.drop_zero]
  repeat ((first | refine sec_plain (by rfl) (by rfl) (by rfl) (by rfl) ?_ | refine sec_nil (by rfl) (by rfl) (by rfl) (by rfl) (by rfl) ?_); intro K hK; go_big_quiet_op; go_big_quiet_on)
  refine sec_callF (s:=21) (f:=54) (args := #[.int .i64 s.c.ba, .int .i64 s.c.de]) (by rfl) (by rfl) (by rfl) (by rfl) (by rfl) (fun w => by simp [go_sem]) ?_ ?_
  · intro q
    refine (xbnew_v s.c.ba s.c.de q.w).mono ?_
    rintro e w' ⟨v,O,he,h1,h2,h3⟩
    exact ⟨v,he,h2,O,h1,fun k hk => Nat.le_trans q.h.size (h3 k hk)⟩
  simp only [Act.put,List.setIfInBounds_toArray,List.set_cons_succ,List.set_cons_zero]
  repeat ((first | refine sec_plain (by rfl) (by rfl) (by rfl) (by rfl) ?_ | refine sec_nil (by rfl) (by rfl) (by rfl) (by rfl) (by rfl) ?_); intro K hK; go_big_quiet_op; go_big_quiet_on)
  intro xs m9 hF
  obtain ⟨Oq',hq,hnq⟩:=hF 21 (by simp)
  simp only [secFill,Act.put,List.setIfInBounds_toArray,List.set_cons_succ,List.set_cons_zero]
  generalize xs 21 = qp1 at hq
  have hqi:=hq
  obtain ⟨bq,vl,rfl,rfl,_⟩:=hqi
  clear hF xs hcl c0 c1 c2 c3 c4 c5 c6 c7
  obtain ⟨m2,k2,g2⟩:=HM.out.setQueue m9.h hq hnq
  have HM2:=Lib.hid m2
  have HK2:=Lib.hid k2
  have HG2:=Lib.hid g2
  have f9:=(HM.out.later m9.h).live 9
  have c9:=((HM.out.later m9.h).cells).2.1
  have hz3:=(HM.out.later m9.h).blt
  clear m2 k2 g2 hq hnq
  generalize m9.w = w3 at HM2 HK2 f9 c9 hz3 ⊢
  go_wp2
  go_end0
  exact ⟨rfl,_,⟨b,_,_,_,_,rfl,rfl,HM2.out⟩,HK.out.trans HK2.out HG.out,HG.out.trans HG2.out HK.out.size⟩
theorem xdup_v {w:World} {v:Value} {s:Dr} {O:Nat → Prop} (h:DrD w v s O):Calls Tryz.prog 50 #[v] w fun e w' => e = .returned (.int .i64 s.up.2) ∧ Stp DrD v O w s.up.1 w':=by
  obtain ⟨b,cp,qp,Oc,Oq,rfl,rfl,h⟩:=h
  have H:=Lib.hid h
  obtain ⟨c8,c9,c10,_⟩:=h.cells
  have hbz:=h.blt
  clear h
  by_cases h0:s.st = 0
  · have hd:(s.st != 0) = false:=by simp [h0]
    have HE:Hid (s.up = (s.fresh 1,0)):=Lib.hid (by unfold Dr.up; rw [if_neg (fun h => h h0)])
    rw [HE.out]
    clear h0
    go_enter Tryz.func50,Tryz.ntmps50
    go_wp2_with fail
    refine (xdfresh_v ⟨b,cp,qp,Oc,Oq,rfl,rfl,H.out⟩).mono ?_
    rintro e w1 ⟨rfl,O',⟨b1,cp1,qp1,Oc1,Oq1,hv,rfl,hm⟩,hk,hg⟩
    injection hv with hv; injection hv with hv; injection hv with hv
    subst hv
    obtain ⟨m2,k2⟩:=hm.setNum (s':=s.fresh 1) 10 (.int .i64 1) rfl rfl rfl
    have HM:=Lib.hid m2
    have HK:=Lib.hid (hk.trans k2 hg)
    have HG:=Lib.hid hg
    have f10:=hm.live 10
    have c10':=hm.cells.2.2.1
    have hz:=hm.blt
    clear c8 c9 c10 hm m2 k2 hk hg
    go_wp2
    go_ret
    exact ⟨rfl,_,⟨b,_,_,_,_,rfl,rfl,HM.out⟩,HK.out,HG.out⟩
  · have hd:(s.st != 0) = true:=by simp [h0]
    have HE:Hid (s.up = (s,2)):=Lib.hid (by unfold Dr.up; rw [if_pos h0])
    rw [HE.out]
    clear h0
    go_enter Tryz.func50,Tryz.ntmps50
    go_wp2
    go_ret
    exact ⟨rfl,H.out.stp (Below.refl _ _)⟩
theorem xddown_v {w:World} {v:Value} {s:Dr} {O:Nat → Prop} (h:DrD w v s O):Calls Tryz.prog 51 #[v] w fun e w' => e = .returned (.int .i64 s.down.2) ∧ Stp DrD v O w s.down.1 w':=by
  obtain ⟨b,cp,qp,Oc,Oq,rfl,rfl,h⟩:=h
  have H:=Lib.hid h
  obtain ⟨c8,c9,c10,_⟩:=h.cells
  have hbz:=h.blt
  clear h
  by_cases h0:s.st = 0
  · have hd:(s.st == 0) = true:=by simp [h0]
    have HE:Hid (s.down = (s,7)):=Lib.hid (by unfold Dr.down; rw [if_pos h0])
    rw [HE.out]
    clear h0
    go_enter Tryz.func51,Tryz.ntmps51
    go_wp2
    go_ret
    exact ⟨rfl,H.out.stp (Below.refl _ _)⟩
  · have hd:(s.st == 0) = false:=by simp [h0]
    have HE:Hid (s.down = (s.fresh 0,0)):=Lib.hid (by unfold Dr.down; rw [if_neg h0])
    rw [HE.out]
    clear h0
    go_enter Tryz.func51,Tryz.ntmps51
    go_wp2_with fail
    refine (xdfresh_v ⟨b,cp,qp,Oc,Oq,rfl,rfl,H.out⟩).mono ?_
    rintro e w1 ⟨rfl,O',⟨b1,cp1,qp1,Oc1,Oq1,hv,rfl,hm⟩,hk,hg⟩
    injection hv with hv; injection hv with hv; injection hv with hv
    subst hv
    obtain ⟨m2,k2⟩:=hm.setNum (s':=s.fresh 0) 10 (.int .i64 0) rfl rfl rfl
    have HM:=Lib.hid m2
    have HK:=Lib.hid (hk.trans k2 hg)
    have HG:=Lib.hid hg
    have f10:=hm.live 10
    have c10':=hm.cells.2.2.1
    have hz:=hm.blt
    clear c8 c9 c10 hm m2 k2 hk hg
    go_wp2
    go_ret
    exact ⟨rfl,_,⟨b,_,_,_,_,rfl,rfl,HM.out⟩,HK.out,HG.out⟩
theorem xqdone {w0 w:World} {b:Nat} {cp qp:Value} {Oc Oq O:Nat → Prop} {s:Dr} (h:DrM w b cp qp Oc Oq s) (hk:Kept O w0 w) (hg:Grows O w0 (drO b Oc Oq)):Stp DrD (.pointer (some ⟨b,0,none⟩)) O w0 s w:=⟨_,⟨b,cp,qp,Oc,Oq,rfl,rfl,h⟩,hk,hg⟩
theorem DrM.setStop {w:World} {b bq:Nat} {cp vl:Value} {Oc:Nat → Prop} {s:Dr} (h:DrM w b cp (.pointer (some ⟨bq,0,none⟩)) Oc (bqO bq vl) s) (hq:BqM w bq vl s.q) (x:Bool) :
    DrM (w.setCell ⟨bq,3,none⟩ (.bool x)) b cp (.pointer (some ⟨bq,0,none⟩)) Oc (bqO bq vl) { s with q := { s.q with st:=x } } ∧ Kept (drO b Oc (bqO bq vl)) w (w.setCell ⟨bq,3,none⟩ (.bool x)):=by
  obtain ⟨h1,h2⟩:=hq.setStop x
  have ho:∀ k,k ≠ bq → (w.setCell ⟨bq,3,none⟩ (.bool x)).heap[k]? = w.heap[k]?:=fun k hk => Below.heap_setCell _ _ _ _ hk
  exact ⟨⟨(ho b (fun e => h.h2 (.inl e))).trans h.box,isObj_ct.stay h.ct (fun k hk => ho k (fun e => h.h3 k hk (.inl e))),⟨bq,vl,rfl,rfl,h1⟩,h.h1,h.h2,h.h3⟩,h2.os,h2.tape,h2.output,h2.size,fun k h3 h4 => h2.block k h3 (fun h5 => h4 (.inr (.inr h5)))⟩
theorem xdoff_v {w:World} {v:Value} {s:Dr} {O:Nat → Prop} {B:Int} (h:DrD w v s O) (ok:s.Ok B):Calls Tryz.prog 47 #[v] w fun e w' => e = .returned (.tuple #[]) ∧ Stp DrD v O w s.off w':=by
  obtain ⟨b,cp,qp,Oc,Oq,rfl,rfl,h⟩:=h
  have H:=Lib.hid h
  obtain ⟨c8,c9,c10,_⟩:=h.cells
  have f10:=h.live 10
  have hbz:=h.blt
  by_cases h0:s.st = 1 ∨ s.st = 3
  · have HE:Hid (s.off = { s with st:=2,q := { s.q with st:=true },ct := { s.ct with asks:=setB s.ct.asks 8 } }):=Lib.hid (by unfold Dr.off; rw [if_pos h0])
    obtain ⟨sx,hsx⟩:∃ x,s.off = x:=⟨_,rfl⟩
    rw [hsx] at HE ⊢
    have hqi:=h.q
    obtain ⟨bq,vl,rfl,rfl,hqm⟩:=hqi
    have hci:=h.ct
    obtain ⟨bb,bv,Ob,vf,rfl,rfl,_⟩:=hci
    obtain ⟨m1,k1⟩:=h.setNum (s' := { s with st:=2 }) 10 (.int .i64 2) rfl rfl rfl
    have hne:b ≠ bq:=fun e => h.h2 (.inl e)
    have hqm1:BqM (w.setCell ⟨b,10,none⟩ (.int .i64 2)) bq vl ({ s with st:=2 }:Dr).q:=hqm.stay (fun k hk => Below.heap_setCell _ _ _ _ (fun e => h.h2 ((show _ = b from e) ▸ hk)))
    obtain ⟨m2,k2⟩:=m1.setStop hqm1 true
    have hqz:bq < w.heap.size:=hqm.lt bq (.inl rfl)
    obtain ⟨q0,q1,q2,q3⟩:=hqm.cells
    have qf:w.frozen? ⟨bq,3,none⟩ = false:=Lib.frozen_of_heap hqm.box 3
    have HM:=Lib.hid m2
    have HK:=Lib.hid (k1.trans k2 (Grows.refl _ _))
    have HAK:Hid (0 ≤ s.ct.asks ∧ s.ct.asks < 16):=Lib.hid ok.ct.ak
    clear h ok m1 k1 m2 k2 hqm hqm1 hsx
    rcases h0 with h0 | h0
    · have hd:(s.st == 1) = true:=by simp [h0]
      clear h0
      go_enter Tryz.func47,Tryz.ntmps47
      go_wp2_with fail
      refine (xset_v (bit:=8) _ HM.out.ct HAK.out (by decide)).mono ?_
      rintro e w1 ⟨rfl,hs⟩
      have HS:=Lib.hid hs
      clear hs
      go_wp2
      go_end0
      obtain ⟨Oc',m3,k3,g3⟩:=HM.out.ctrl HS.out
      rw [HE.out]
      exact ⟨rfl,xqdone m3 (HK.out.trans k3 (Grows.refl _ _)) (fun k hk => (g3 k hk).imp id (fun h => Nat.le_trans HK.out.size h))⟩
    · have hd:(s.st == 1) = false:=by simp [h0]
      have hd3:(s.st == 3) = true:=by simp [h0]
      clear h0
      go_enter Tryz.func47,Tryz.ntmps47
      go_wp2_with fail
      refine (xset_v (bit:=8) _ HM.out.ct HAK.out (by decide)).mono ?_
      rintro e w1 ⟨rfl,hs⟩
      have HS:=Lib.hid hs
      clear hs
      go_wp2
      go_end0
      obtain ⟨Oc',m3,k3,g3⟩:=HM.out.ctrl HS.out
      rw [HE.out]
      exact ⟨rfl,xqdone m3 (HK.out.trans k3 (Grows.refl _ _)) (fun k hk => (g3 k hk).imp id (fun h => Nat.le_trans HK.out.size h))⟩
  · have HE:Hid (s.off = s):=Lib.hid (by unfold Dr.off; rw [if_neg h0])
    rw [HE.out]
    have hd:(s.st == 1) = false:=by simp; exact fun h => h0 (.inl h)
    have hd3:(s.st == 3) = false:=by simp; exact fun h => h0 (.inr h)
    clear h h0
    go_enter Tryz.func47,Tryz.ntmps47
    go_wp2
    go_end0
    exact ⟨rfl,H.out.stp (Below.refl _ _)⟩
theorem xdfix_v {w:World} {v:Value} {s:Dr} {O:Nat → Prop} {B:Int} (h:DrD w v s O) (ok:s.Ok B) (hB:B ≤ 100000000):Calls Tryz.prog 48 #[v] w fun e w' => e = .returned (.int .i64 s.fix.2) ∧ Stp DrD v O w s.fix.1 w':=by
  obtain ⟨b,cp,qp,Oc,Oq,rfl,rfl,h⟩:=h
  have H:=Lib.hid h
  obtain ⟨c8,c9,c10,_⟩:=h.cells
  have f10:=h.live 10
  have hbz:=h.blt
  by_cases h0:s.st = 2
  · have hd:(s.st != 2) = false:=by simp [h0]
    have HE:Hid (s.fix = ({ s with st:=3,ct:=s.ct.abort.1,sx := { s.sx with fx:=s.sx.fx + 1 } },0)):=Lib.hid (by unfold Dr.fix; rw [if_neg (fun h => h h0)])
    obtain ⟨sx,hsx⟩:∃ x,s.fix = x:=⟨_,rfl⟩
    rw [hsx] at HE ⊢
    obtain rfl:=HE.out.symm
    have hci:=h.ct
    obtain ⟨bb,bv,Ob,vf,rfl,rfl,_⟩:=hci
    obtain ⟨m1,k1⟩:=h.setNum (s' := { s with st:=3 }) 10 (.int .i64 3) rfl rfl rfl
    have HM:=Lib.hid m1
    have HK:=Lib.hid k1
    have HOK:=Lib.hid ok
    have hfx:=ok.sx.fx
    have HFX:=Lib.hid hfx
    have HBB:=Lib.hid hB
    clear h ok m1 k1 hsx h0 hfx
    go_enter Tryz.func48,Tryz.ntmps48
    go_wp2_with fail
    refine (xabort_v _ HM.out.ct HOK.out.ct).mono ?_
    rintro e w1 ⟨rfl,hs⟩
    obtain ⟨Oc',m3,k3,g3⟩:=HM.out.ctrl hs
    have k13:=HK.out.trans k3 (Grows.refl _ _)
    obtain ⟨m4,k4⟩:=m3.setNum (s' := { s with st:=3,ct:=s.ct.abort.1,sx := { s.sx with fx:=s.sx.fx + 1 } }) 16 (.int .i64 (s.sx.fx + 1)) rfl rfl rfl
    have HM4:=Lib.hid m4
    have HK4:=Lib.hid (k13.trans k4 (fun k hk => (g3 k hk).imp id (fun h => Nat.le_trans HK.out.size h)))
    have HG4:Hid (Grows (drO b (ctO bb Ob vf) Oq) w (drO b Oc' Oq)):=Lib.hid (fun k hk => (g3 k hk).imp id (fun h => Nat.le_trans HK.out.size h))
    have c16:=m3.cells.2.2.2.2.2.2.2.2
    have f16:=m3.live 16
    have hz:=m3.blt
    obtain ⟨x1,x2⟩:=HFX.out
    have x3:s.sx.fx < 1000000000:=by have:=HBB.out; omega
    clear hs m3 k3 k13 m4 k4 g3 c8 c9 c10 f10
    go_wp2
    go_ret
    exact ⟨rfl,xqdone HM4.out HK4.out HG4.out⟩
  · have hd:(s.st != 2) = true:=by simp [h0]
    have HE:Hid (s.fix = (s,2)):=Lib.hid (by unfold Dr.fix; rw [if_pos h0])
    rw [HE.out]
    clear h h0
    go_enter Tryz.func48,Tryz.ntmps48
    go_wp2
    go_ret
    exact ⟨rfl,H.out.stp (Below.refl _ _)⟩
end Go.Proofs.YtimdkcchjanpaaaGreatDoor
