/- Of no program: a region that draws its order and makes two objects at once (the code's and the document's), whatever kinds they are. Drv: what holds ahead of .. -/
import Derived.Test.YtimdkcchjanpaaaGreatDoorZat
import Derived.Test.YtimdkcchjanpaaaGreatDoorZay
import Derived.Test.YtimdkcchjanpaaaGreatDoorZbi
import Derived.Test.YtimdkcchjanpaaaGreatDoorZbj
namespace Go.Proofs.YtimdkcchjanpaaaGreatDoor
open Go.RowKit
set_option linter.unusedVariables false
theorem belJ {a b c:World} (h:Below a.heap.size a b) (h':Below b.heap.size b c):Below a.heap.size a c:=h.trans (h'.mono h.size)
def NewJ {σ τ:Type} (I:World → Value → σ → (Nat → Prop) → Prop) (J:World → Value → τ → (Nat → Prop) → Prop) (w0 W:World) (s0:σ) (t0:τ) (a b c:Tmp) (k:Nat) (xs:Tmp → Option Value) (w:World):Prop:=Below W.heap.size W w ∧
  ((k = 0 ∧ xs a = none ∧ xs b = none ∧ xs c = none) ∨ (k = 1 ∧ xs b = none ∧ ∃ u O,Has I w0 u s0 O w ∧ xs a = some u ∧ ∀ x,xs c = some x → x = u) ∨
   (k = 2 ∧ ∃ u v O O',Pair I J w0 u v s0 t0 O O' w ∧ xs a = some u ∧ xs b = some v ∧ ∀ x,xs c = some x → x = u))
section
variable {σ τ:Type} {I:World → Value → σ → (Nat → Prop) → Prop} {J:World → Value → τ → (Nat → Prop) → Prop} {w0 W w w':World} {s0:σ} {t0:τ} {a b c:Tmp} {k:Nat} {xs:Tmp → Option Value}
theorem NewJ.start:NewJ I J w0 W s0 t0 a b c 0 (fun _ => none) W.drew:=⟨(Below.refl _ _).drew, .inl ⟨rfl,rfl,rfl,rfl⟩⟩
theorem NewJ.kept (h:NewJ I J w0 W s0 t0 a b c k xs w):Kept (fun _ => False) W w := .of_below h.1
theorem NewJ.one (h:NewJ I J w0 W s0 t0 a b c 0 xs w) (hW:Below w0.heap.size w0 W) (hac:c ≠ a) (hab:b ≠ a) {u:Value} {O:Nat → Prop} (hi:I w' u s0 O) (hb:Below w.heap.size w w') (hn:∀ k,O k → w.heap.size ≤ k):NewJ I J w0 W s0 t0 a b c 1 (fun t => if t = a then some u else xs t) w':=by
  obtain ⟨hb0,h1⟩:=h
  have hbb:=belJ hb0 hb
  refine ⟨hbb, .inr (.inl ⟨rfl, ?_,u,O,⟨hi,belJ hW hbb,fun k hk => Nat.le_trans hW.size (Nat.le_trans hb0.size (hn k hk))⟩,by simp,fun x hx => ?_⟩)⟩
  · rcases h1 with ⟨_,h2,h3,h4⟩ | ⟨h,_⟩ | ⟨h,_⟩
    · simp only [if_neg hab]; exact h3
    · cases h
    · cases h
  · rcases h1 with ⟨_,h2,h3,h4⟩ | ⟨h,_⟩ | ⟨h,_⟩
    · simp only [if_neg hac] at hx; rw [h4] at hx; cases hx
    · cases h
    · cases h
theorem NewJ.two (hI:IsObj I) (h:NewJ I J w0 W s0 t0 a b c 1 xs w) (hW:Below w0.heap.size w0 W) (hab:a ≠ b) (hcb:c ≠ b) {v:Value} {O':Nat → Prop} (hi:J w' v t0 O') (hb:Below w.heap.size w w') (hn:∀ k,O' k → w.heap.size ≤ k):NewJ I J w0 W s0 t0 a b c 2 (fun t => if t = b then some v else xs t) w':=by
  obtain ⟨hb0,h1⟩:=h
  have hbb:=belJ hb0 hb
  rcases h1 with ⟨h,_⟩ | ⟨_,h2,u,O,h3,h4,h5⟩ | ⟨h,_⟩
  · cases h
  · refine ⟨hbb, .inr (.inr ⟨rfl,u,v,O,O',⟨h3.later hI hb,⟨hi,belJ hW hbb,fun k hk => Nat.le_trans hW.size (Nat.le_trans hb0.size (hn k hk))⟩,fun k k1 k2 => ?_⟩,by simp only [if_neg hab]; exact h4,by simp,fun x hx => ?_⟩)⟩
    · have:=hI.lt h3.inv k k1
      have:=hn k k2
      omega
    · simp only [if_neg hcb] at hx
      exact h5 x hx
  · cases h
theorem NewJ.move (h:NewJ I J w0 W s0 t0 a b c k xs w) {u:Value} (ha:xs a = some u) (hca:a ≠ c) (hcb:b ≠ c):NewJ I J w0 W s0 t0 a b c k (fun t => if t = c then some u else xs t) w:=by
  obtain ⟨hb0,h1⟩:=h
  refine ⟨hb0, ?_⟩
  rcases h1 with ⟨_,h2,_⟩ | ⟨rfl,h2,u',O,h3,h4,h5⟩ | ⟨rfl,u',v',O,O',h3,h4,h5,h6⟩
  · rw [ha] at h2; cases h2
  · rw [ha] at h4
    injection h4 with h4
    subst h4
    exact .inr (.inl ⟨rfl,by simp only [if_neg hcb]; exact h2,u,O,h3,by simp only [if_neg hca]; exact ha,fun x hx => by simp at hx; exact hx.symm⟩)
  · rw [ha] at h4
    injection h4 with h4
    subst h4
    exact .inr (.inr ⟨rfl,u,v',O,O',h3,by simp only [if_neg hca]; exact ha,by simp only [if_neg hcb]; exact h5,fun x hx => by simp at hx; exact hx.symm⟩)
theorem NewJ.out {ua ub uc:Value} (h:NewJ I J w0 W s0 t0 a b c 2 xs w) (ha:xs a = some ua) (hb:xs b = some ub) (hc:xs c = some uc):∃ O O',uc = ua ∧ Pair I J w0 ua ub s0 t0 O O' w:=by
  obtain ⟨_,⟨h,_⟩ | ⟨h,_⟩ | ⟨_,u,v,O,O',h1,h2,h3,h4⟩⟩:=h
  · cases h
  · cases h
  · rw [ha] at h2
    rw [hb] at h3
    injection h2 with h2
    injection h3 with h3
    subst h2 h3
    exact ⟨O,O',h4 uc hc,h1⟩
end
end Go.Proofs.YtimdkcchjanpaaaGreatDoor
namespace Go.Proofs.YtimdkcchjanpaaaGreatDoor
open Go.RowKit
set_option linter.unusedVariables false
theorem fdB_len {c:Cg} {L:List Op9} (h:fdB c L = true):L.length ≤ 300:=by
  unfold fdB at h
  simp only [Bool.and_eq_true,decide_eq_true_eq] at h
  exact h.1.1
theorem fdB_n {c:Cg} {L:List Op9} (h:fdB c L = true):c.n ≤ 50:=by
  unfold fdB at h
  simp only [Bool.and_eq_true,decide_eq_true_eq] at h
  exact h.2
theorem Bq.all_nil {q:Bq} (h:q.L = []):q.all = []:=by
  unfold Bq.all Bq.allTo Bq.inBand
  rw [h]
  simp
theorem won_up {s:Dr} (h:s.won.2 = true):s.st = 1:=by
  unfold Dr.won at h
  split at h
  · assumption
  · cases h
theorem hear_up {s:Dr} {f:Fr} (h:(s.hear f).2 = true):s.st = 1:=by
  unfold Dr.hear at h
  split at h
  · assumption
  · cases h
theorem doOp3 {s:Dr} {o:Op9} (h:o.k = 3):s.doOp o = s.won.1:=by unfold Dr.doOp; rw [h]; rfl
theorem doOp4 {s:Dr} {o:Op9} (h:o.k = 4):s.doOp o = (s.hear o.p.f).1:=by unfold Dr.doOp; rw [h]; rfl
structure BusyR (w:World) (s t:Dr) (k:Nat):Prop where
  ps:DoPre w s (64 * k)
  pt:DoPre w t (64 * k)
  busy:s.Busy
theorem BusyR.more {w:World} {s t t':Dr} {k:Nat} (h:BusyR w s t k) (o:Op9) (ht:t' = t ∨ t' = t.doOp o):BusyR w (s.doOp o) t' (k + 1):=by
  have e:(64 * ((k + 1:Nat):Int)) = 64 * (k:Int) + 64:=by omega
  refine ⟨by rw [e]; exact h.ps.step (by omega) o, ?_,h.busy.doOp h.ps.ok o⟩
  rw [e]
  rcases ht with rfl | rfl
  · exact ⟨h.pt.ok.mono (by omega),h.pt.sl,h.pt.fit,h.pt.few⟩
  · exact h.pt.step (by omega) o
end Go.Proofs.YtimdkcchjanpaaaGreatDoor
