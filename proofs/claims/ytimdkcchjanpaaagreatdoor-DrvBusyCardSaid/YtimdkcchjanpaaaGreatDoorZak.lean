/- Box, plain: what Put, End and Take make of mailboxes; what may be of them. No program is meant. Echo: what the walks ask of the code; a table's places, plain .. -/
import Derived.Test.YtimdkcchjanpaaaGreatDoorZaj
import Derived.Test.YtimdkcchjanpaaaGreatDoorZah
import Derived.Test.YtimdkcchjanpaaaGreatDoorZad
import Derived.Test.YtimdkcchjanpaaaGreatDoorZaf
import Derived.Test.YtimdkcchjanpaaaGreatDoorZae
set_option maxHeartbeats 4000000
namespace Go.Proofs.YtimdkcchjanpaaaGreatDoor
open Go.RowKit
set_option linter.unusedVariables false
def Bx.first (s:Bx):Nat → Option Nat
  | 0 => none
  | k + 1 => match s.first k with
    | some i => some i
    | none => if s.S.getD k 1 = 0 then some k else none
theorem Bx.first_some {s:Bx} {i:Nat}:∀ {k},s.first k = some i → i < k ∧ s.S.getD i 1 = 0
  | 0,h => by cases h
  | k + 1,h => by
    unfold Bx.first at h
    cases hk:s.first k with
    | some j =>
      rw [hk] at h
      simp only at h
      injection h with h
      subst h
      have:=Bx.first_some hk
      exact ⟨by omega,this.2⟩
    | none =>
      rw [hk] at h
      simp only at h
      split at h
      · injection h with h; subst h; exact ⟨Nat.lt_succ_self _,by assumption⟩
      · cases h
theorem Bx.first_at {s:Bx} {k:Nat} (h:s.first k = none) (h0:s.S.getD k 1 = 0):∀ n,k < n → s.first n = some k:=by
  intro n
  induction n with
  | zero => intro h; omega
  | succ n ih =>
    intro hk
    unfold Bx.first
    by_cases e:k = n
    · subst e; rw [h]; simp only; rw [if_pos h0]
    · rw [ih (by omega)]
theorem Bx.first_more {s:Bx} {k:Nat} (h:s.first k = none) (h0:¬ s.S.getD k 1 = 0):s.first (k + 1) = none:=by unfold Bx.first; rw [h]; simp only; rw [if_neg h0]
def Bx.putAt (s:Bx) (i:Nat) (p:Pk):Bx := { s with S:=s.S.set i 1,P:=s.P.set i p,ord:=s.ord ++ [(i:Int)] }
def Bx.put (s:Bx) (p:Pk):Bx × Int × Int :=
  if keyG p.f < 0 then (s,0,4) else match s.first s.S.length with
    | some i => (s.putAt i p,i,0)
    | none => (s,0,5)
def Bx.endAt (s:Bx) (i:Nat) (st:Int):Bx := { s with S:=s.S.set i st,ord:=s.ord.filter (fun x => x != (i:Int)),fin:=s.fin ++ [(i:Int)] }
def Bx.end_ (s:Bx) (box st:Int):Bx × Int:=if box < 0 ∨ (s.S.length:Int) ≤ box ∨ s.S.getD box.toNat 0 ≠ 1 then (s,2) else (s.endAt box.toNat st,0)
def Bx.take (s:Bx):Bx × Int × Pk × Bool:=match s.fin with
  | [] => (s, -1,pk0,false)
  | x :: r => ({ s with S:=s.S.set x.toNat 0,P:=s.P.set x.toNat pk0,fin:=r },x,s.P.getD x.toNat pk0,s.S.getD x.toNat 0 == 2)
structure Bx.Ok (s:Bx):Prop where
  n1:1 ≤ s.S.length
  n2:s.S.length ≤ 1000
  lp:s.P.length = s.S.length
  ord:∀ x ∈ s.ord,0 ≤ x ∧ x < s.S.length ∧ s.S.getD x.toNat 0 = 1
  fin:∀ x ∈ s.fin,0 ≤ x ∧ x < s.S.length ∧ (s.S.getD x.toNat 0 = 2 ∨ s.S.getD x.toNat 0 = 3)
  nd1:s.ord.Nodup
  nd2:s.fin.Nodup
  key:∀ x ∈ s.ord,0 ≤ s.key x
theorem nodup_le:∀ (n:Nat) (L:List Int),L.Nodup → (∀ x ∈ L,0 ≤ x ∧ x < n) → L.length ≤ n
  | 0,L,_,h => by
    cases L with
    | nil => exact Nat.le_refl _
    | cons a L => have:=h a (by simp); omega
  | n + 1,L,hn,h => by
    have h1:=nodup_le n (L.erase (n:Int)) (hn.erase _) (fun x hx => by
      have h2:=h x (List.mem_of_mem_erase hx)
      have h3:x ≠ (n:Int):=fun e => by subst e; exact (List.Nodup.not_mem_erase hn) hx
      omega)
    by_cases hm:(n:Int) ∈ L
    · have:=List.length_erase_of_mem hm
      omega
    · rw [List.erase_of_not_mem hm] at h1
      omega
theorem Bx.Ok.ordOk {s:Bx} (h:s.Ok):s.ordOk:=fun x hx => ⟨(h.ord x hx).1,(h.ord x hx).2.1⟩
theorem Bx.Ok.ordLe {s:Bx} (h:s.Ok):s.ord.length ≤ 1000:=Nat.le_trans (nodup_le _ _ h.nd1 fun x hx => ⟨(h.ord x hx).1,(h.ord x hx).2.1⟩) h.n2
theorem Bx.Ok.finLe {s:Bx} (h:s.Ok):s.fin.length ≤ 1000:=Nat.le_trans (nodup_le _ _ h.nd2 fun x hx => ⟨(h.fin x hx).1,(h.fin x hx).2.1⟩) h.n2
theorem boxesN_rng (n:Int):1 ≤ boxesN n ∧ boxesN n ≤ 1000:=by unfold boxesN; split <;> (try split) <;> omega
theorem Bx.Ok.new (n:Int):(bxNew (boxesN n)).Ok:=by
  have:=boxesN_rng n
  exact ⟨by simp [bxNew]; omega,by simp [bxNew]; omega,by simp [bxNew],nofun,nofun,List.nodup_nil,List.nodup_nil,nofun⟩
theorem getD_set' {α:Type} (l:List α) (i j:Nat) (a d:α):(l.set i a).getD j d = if i = j ∧ i < l.length then a else l.getD j d:=by
  rw [List.getD_eq_getElem?_getD,List.getD_eq_getElem?_getD,List.getElem?_set]
  by_cases h:i = j
  · subst h
    by_cases h2:i < l.length
    · rw [if_pos rfl,if_pos h2,if_pos ⟨rfl,h2⟩]; rfl
    · rw [if_pos rfl,if_neg h2,if_neg (fun h => h2 h.2),List.getElem?_eq_none (by omega)]
  · rw [if_neg h,if_neg (fun h' => h h'.1)]
theorem Bx.getD_01 {s:Bx} {i:Nat} (h:i < s.S.length):s.S.getD i 1 = s.S.getD i 0:=by rw [List.getD_eq_getElem?_getD,List.getD_eq_getElem?_getD,List.getElem?_eq_getElem h]; rfl
theorem Bx.Ok.putAt {s:Bx} (h:s.Ok) {i:Nat} (hi:i < s.S.length) (h0:s.S.getD i 1 = 0) {p:Pk} (hp:0 ≤ keyG p.f):(s.putAt i p).Ok:=by
  rw [Bx.getD_01 hi] at h0
  have hno:(i:Int) ∉ s.ord:=fun hm => by
    have:=(h.ord _ hm).2.2
    rw [Int.toNat_natCast,h0] at this
    omega
  have hnf:(i:Int) ∉ s.fin:=fun hm => by
    have:=(h.fin _ hm).2.2
    rw [Int.toNat_natCast,h0] at this
    omega
  refine ⟨by simp [Bx.putAt]; exact h.n1,by simp [Bx.putAt]; exact h.n2,by simp [Bx.putAt]; exact h.lp,fun x hx => ?_,fun x hx => ?_, ?_,h.nd2,fun x hx => ?_⟩
  · simp only [Bx.putAt,List.mem_append,List.mem_singleton] at hx
    simp only [Bx.putAt,List.length_set,getD_set']
    rcases hx with hx | rfl
    · obtain ⟨h1,h2,h3⟩:=h.ord x hx
      refine ⟨h1,h2, ?_⟩
      rw [if_neg (fun h' => hno (by rw [h'.1,Int.toNat_of_nonneg h1]; exact hx))]; exact h3
    · refine ⟨by omega,by omega, ?_⟩
      rw [Int.toNat_natCast,if_pos ⟨rfl,hi⟩]
  · have hx':x ∈ s.fin:=hx
    obtain ⟨h1,h2,h3⟩:=h.fin x hx'
    simp only [Bx.putAt,List.length_set,getD_set']
    refine ⟨h1,h2, ?_⟩
    rw [if_neg (fun h' => hnf (by rw [h'.1,Int.toNat_of_nonneg h1]; exact hx'))]; exact h3
  · show (s.ord ++ [(i:Int)]).Nodup
    rw [List.nodup_append]
    exact ⟨h.nd1,by simp,fun a ha b hb => by simp at hb; subst hb; exact fun e => hno (e ▸ ha)⟩
  · simp only [Bx.putAt,List.mem_append,List.mem_singleton] at hx
    simp only [Bx.key,Bx.putAt,getD_set']
    rcases hx with hx | rfl
    · rw [if_neg (fun h' => hno (by rw [h'.1,Int.toNat_of_nonneg (h.ord x hx).1]; exact hx))]; exact h.key x hx
    · rw [Int.toNat_natCast,if_pos ⟨rfl,by rw [h.lp]; exact hi⟩]; exact hp
theorem Bx.Ok.put {s:Bx} (h:s.Ok) (p:Pk):(s.put p).1.Ok:=by
  unfold Bx.put
  split
  · exact h
  · split
    · rename_i hk i hf
      obtain ⟨h1,h2⟩:=Bx.first_some hf
      exact h.putAt h1 h2 (by omega)
    · exact h
theorem Bx.Ok.endAt {s:Bx} (h:s.Ok) {i:Nat} (hi:i < s.S.length) (h1:s.S.getD i 0 = 1) {st:Int} (hst:st = 2 ∨ st = 3):(s.endAt i st).Ok:=by
  have hnf:(i:Int) ∉ s.fin:=fun hm => by
    have:=(h.fin _ hm).2.2
    rw [Int.toNat_natCast,h1] at this
    omega
  refine ⟨by simp [Bx.endAt]; exact h.n1,by simp [Bx.endAt]; exact h.n2,by simp [Bx.endAt]; exact h.lp,fun x hx => ?_,fun x hx => ?_,h.nd1.filter _, ?_,fun x hx => ?_⟩
  · simp only [Bx.endAt,List.mem_filter,bne_iff_ne,ne_eq] at hx
    obtain ⟨h2,h3,h4⟩:=h.ord x hx.1
    simp only [Bx.endAt,List.length_set,getD_set']
    refine ⟨h2,h3, ?_⟩
    rw [if_neg (fun h' => hx.2 (by rw [h'.1,Int.toNat_of_nonneg h2]))]; exact h4
  · simp only [Bx.endAt,List.mem_append,List.mem_singleton] at hx
    simp only [Bx.endAt,List.length_set,getD_set']
    rcases hx with hx | rfl
    · obtain ⟨h2,h3,h4⟩:=h.fin x hx
      refine ⟨h2,h3, ?_⟩
      rw [if_neg (fun h' => hnf (by rw [h'.1,Int.toNat_of_nonneg h2]; exact hx))]; exact h4
    · refine ⟨by omega,by omega, ?_⟩
      rw [Int.toNat_natCast,if_pos ⟨rfl,hi⟩]; exact hst
  · show (s.fin ++ [(i:Int)]).Nodup
    rw [List.nodup_append]
    exact ⟨h.nd2,by simp,fun a ha b hb => by simp at hb; subst hb; exact fun e => hnf (e ▸ ha)⟩
  · simp only [Bx.endAt,List.mem_filter] at hx
    exact h.key x hx.1
theorem Bx.Ok.end_ {s:Bx} (h:s.Ok) (box:Int) {st:Int} (hst:st = 2 ∨ st = 3):(s.end_ box st).1.Ok:=by
  unfold Bx.end_
  split
  · exact h
  · rename_i hc
    exact h.endAt (by omega) (by omega) hst
theorem Bx.Ok.take {s:Bx} (h:s.Ok):s.take.1.Ok:=by
  unfold Bx.take
  cases hf:s.fin with
  | nil => exact h
  | cons x r =>
    obtain ⟨h1,h2,h3⟩:=h.fin x (by rw [hf]; simp)
    have hnd:=h.nd2
    rw [hf,List.nodup_cons] at hnd
    have hno:∀ y ∈ s.ord,x.toNat ≠ y.toNat:=fun y hy e => by
      have:=(h.ord y hy).2.2
      rw [← e] at this
      omega
    refine ⟨by simp; exact h.n1,by simp; exact h.n2,by simp; exact h.lp,fun y hy => ?_,fun y hy => ?_,h.nd1,hnd.2,fun y hy => ?_⟩
    · obtain ⟨g1,g2,g3⟩:=h.ord y hy
      simp only [List.length_set,getD_set']
      refine ⟨g1,g2, ?_⟩
      rw [if_neg (fun h' => hno y hy h'.1)]; exact g3
    · obtain ⟨g1,g2,g3⟩:=h.fin y (by rw [hf]; simp; exact .inr hy)
      simp only [List.length_set,getD_set']
      refine ⟨g1,g2, ?_⟩
      rw [if_neg (fun h' => hnd.1 (by rw [show x = y by omega]; exact hy))]; exact g3
    · simp only [Bx.key,getD_set']
      rw [if_neg (fun h' => hno y hy h'.1)]; exact h.key y hy
end Go.Proofs.YtimdkcchjanpaaaGreatDoor
namespace Go.Proofs.YtimdkcchjanpaaaGreatDoor
open Go.RowKit
set_option linter.unusedVariables false
structure Ec where
  H:List Pk
  F:List Bool
def ecNew (n:Nat):Ec:=⟨List.replicate n pk0,List.replicate n false⟩
def Ec.has (s:Ec) (i:Int):Bool:=decide (0 ≤ i) && decide (i < s.F.length)
def Ec.at_ (s:Ec) (i:Int):Bool:=s.F.getD i.toNat false
def Ec.put (s:Ec) (i:Int) (p:Pk):Ec × Int:=if s.has i then (if s.at_ i then (s,5) else (⟨s.H.set i.toNat p,s.F.set i.toNat true⟩,0)) else (s,2)
def Ec.get (s:Ec) (i:Int):Ec × Pk × Int:=if s.has i then (if s.at_ i then (⟨s.H,s.F.set i.toNat false⟩,s.H.getD i.toNat pk0,0) else (s,pk0,6)) else (s,pk0,2)
def allE:List Pk → List Bool → List Pk
  | p :: H,f :: F => if f then p :: allE H F else allE H F
  | _,_ => []
def Ec.all (s:Ec):List Pk:=allE s.H s.F
def Ec.flush (s:Ec):Ec:=⟨s.H,List.replicate s.F.length false⟩
structure Ec.Ok (s:Ec):Prop where
  len:s.H.length = s.F.length
  n1:1 ≤ s.F.length
  n2:s.F.length ≤ 1000
theorem allE_len:∀ (H:List Pk) (F:List Bool),(allE H F).length ≤ F.length
  | [],_ => by simp [allE]
  | _ :: _, [] => by simp [allE]
  | p :: H,f :: F => by
    have:=allE_len H F
    unfold allE
    split
    · simp; omega
    · simp; omega
end Go.Proofs.YtimdkcchjanpaaaGreatDoor
namespace Go.Proofs.YtimdkcchjanpaaaGreatDoor
open Go.RowKit
set_option linter.unusedVariables false
section
variable {σ:Type} {I:World → Value → σ → (Nat → Prop) → Prop} {w0 w w':World} {v:Value} {s s':σ} {O O':Nat → Prop} {z:Nat} {o:Obj}
end
end Go.Proofs.YtimdkcchjanpaaaGreatDoor
namespace Go.Proofs.YtimdkcchjanpaaaGreatDoor
open Go.RowKit
set_option linter.unusedVariables false
end Go.Proofs.YtimdkcchjanpaaaGreatDoor
namespace Go.Proofs.YtimdkcchjanpaaaGreatDoor
open Go.RowKit
set_option linter.unusedVariables false
theorem ec_put {s:Ec} {i:Nat} (hi:i < s.F.length) (h0:s.F.getD i false = false) (p:Pk):s.put i p = (⟨s.H.set i p,s.F.set i true⟩,0):=by
  have h1:s.has i = true:=by unfold Ec.has; simp; omega
  have h2:s.at_ i = false:=h0
  unfold Ec.put
  rw [if_pos h1,h2]
  rfl
theorem ec_get {s:Ec} {i:Nat} (hi:i < s.F.length) (h0:s.F.getD i false = true):s.get i = (⟨s.H,s.F.set i false⟩,s.H.getD i pk0,0):=by
  have h1:s.has i = true:=by unfold Ec.has; simp; omega
  have h2:s.at_ i = true:=h0
  unfold Ec.get
  rw [if_pos h1,h2]
  rfl
end Go.Proofs.YtimdkcchjanpaaaGreatDoor
namespace Go.Proofs.YtimdkcchjanpaaaGreatDoor
open Go.RowKit
set_option linter.unusedVariables false
variable {TB:TypeId} {od:Nat} {X Y:List Value}
def ptV (o:Option Nat):Value := .pointer (o.map fun k => ⟨k,0,none⟩)
theorem ptV_none:ptV none = .pointer none:=rfl
theorem ptV_some (k:Nat):ptV (some k) = .pointer (some ⟨k,0,none⟩):=rfl
structure EkM (TB:TypeId) (od:Nat) (X Y:List Value) (w:World) (b m:Nat) (R:List (Option Nat)) (s:Ec):Prop where
  box:w.heap[b]? = some (.cells (X ++ (.slice (some ⟨m,0,none⟩) R.length R.length :: Y)).toArray TB (0,0))
  off:X.length = od
  row:w.heap[m]? = some (.cells (R.map ptV).toArray 159 (0,0))
  here:∀ i k,R[i]? = some (some k) → BoxP w k (s.H.getD i pk0)
  h1:b ≠ m
  f1:∀ (i:Nat) k,R[i]? = some (some k) → k ≠ b ∧ k ≠ m
  f2:∀ (i j:Nat) k,R[i]? = some (some k) → R[j]? = some (some k) → i = j
  full:s.F = R.map Option.isSome
def ekO (b m:Nat) (R:List (Option Nat)):Nat → Prop:=fun k => k = b ∨ k = m ∨ ∃ i:Nat,R[i]? = some (some k)
def EkD (TB:TypeId) (od:Nat) (X Y:List Value) (w:World) (v:Value) (s:Ec) (O:Nat → Prop):Prop := ∃ b m R,v = .pointer (some ⟨b,od,none⟩) ∧ O = ekO b m R ∧ EkM TB od X Y w b m R s
section
variable {w w':World} {b m:Nat} {R:List (Option Nat)} {s:Ec}
theorem EkM.lt (h:EkM TB od X Y w b m R s):∀ k,ekO b m R k → k < w.heap.size:=by
  rintro k (rfl | rfl | ⟨i,hk⟩)
  · exact heap_some_lt h.box
  · exact heap_some_lt h.row
  · exact (h.here i k hk).lt
theorem EkM.stay (h:EkM TB od X Y w b m R s) (hs:∀ k,ekO b m R k → w'.heap[k]? = w.heap[k]?):EkM TB od X Y w' b m R s :=
  ⟨(hs b (.inl rfl)).trans h.box,h.off,(hs m (.inr (.inl rfl))).trans h.row,fun i k hk => (hs k (.inr (.inr ⟨i,hk⟩))).trans (h.here i k hk),h.h1,h.f1,h.f2,h.full⟩
theorem EkM.later (h:EkM TB od X Y w b m R s) (hb:Below w.heap.size w w'):EkM TB od X Y w' b m R s:=h.stay (fun k hk => hb.block k (h.lt k hk))
theorem EkM.len (h:EkM TB od X Y w b m R s):s.F.length = R.length:=by rw [h.full]; simp
theorem EkM.cells (h:EkM TB od X Y w b m R s):w.cell? ⟨b,od,none⟩ = some (.slice (some ⟨m,0,none⟩) R.length R.length):=by
  have e0:w.cell? ⟨b,od + 0,none⟩ = some (.slice (some ⟨m,0,none⟩) R.length R.length):=by rw [Lib.cell_of_heap h.box,getX h.off]; rfl
  simpa using e0
theorem EkM.at_ (h:EkM TB od X Y w b m R s) {i:Nat} {o:Option Nat} (hi:R[i]? = some o):w.cell? ⟨m,i,none⟩ = some (ptV o) ∧ w.frozen? ⟨m,i,none⟩ = false ∧ s.F.getD i false = o.isSome:=by
  refine ⟨?_,Lib.frozen_of_heap h.row i, ?_⟩
  · rw [Lib.cell_of_heap h.row]; simp [hi]
  · rw [h.full,List.getD_eq_getElem?_getD,List.getElem?_map,hi]; rfl
theorem EkM.look (h:EkM TB od X Y w b m R s) {i:Nat} (hi:i < R.length) (hf:s.F.getD i false = true):∃ k,R[i]? = some (some k):=by
  obtain ⟨o,ho⟩:∃ o,R[i]? = some o:=⟨_,List.getElem?_eq_getElem hi⟩
  have:=(h.at_ ho).2.2
  rw [hf] at this
  cases o with
  | none => cases this
  | some k => exact ⟨k,ho⟩
theorem EkM.lookN (h:EkM TB od X Y w b m R s) {i:Nat} (hi:i < R.length) (hf:s.F.getD i false = false):R[i]? = some none:=by
  obtain ⟨o,ho⟩:∃ o,R[i]? = some o:=⟨_,List.getElem?_eq_getElem hi⟩
  have:=(h.at_ ho).2.2
  rw [hf] at this
  cases o with
  | none => exact ho
  | some k => cases this
theorem EkM.drop (h:EkM TB od X Y w b m R s) (i:Nat):EkM TB od X Y (w.setCell ⟨m,i,none⟩ (.pointer none)) b m (R.set i none) ⟨s.H,s.F.set i false⟩:=by
  have ho:∀ k,k ≠ m → (w.setCell ⟨m,i,none⟩ (.pointer none)).heap[k]? = w.heap[k]?:=fun k hk => Below.heap_setCell _ _ _ _ hk
  have hr:∀ (j:Nat) k,(R.set i none)[j]? = some (some k) → R[j]? = some (some k):=fun j k hj => by
    rw [List.getElem?_set] at hj
    split at hj
    · split at hj <;> cases hj
    · exact hj
  refine ⟨?_,h.off, ?_,fun j k hj => ?_,h.h1,fun j k hj => h.f1 j k (hr j k hj),fun j l k hj hl => h.f2 j l k (hr j k hj) (hr l k hl), ?_⟩
  · rw [ho b h.h1,h.box]; simp
  · rw [heap_setCell_same w m i _ _ _ h.row]
    simp [ptV_none,List.map_set]
  · have h2:=hr j k hj
    exact (ho k (h.f1 j k h2).2).trans (h.here j k h2)
  · simp [h.full,List.map_set]
theorem ekO_sub (i:Nat):∀ k,ekO b m (R.set i none) k → ekO b m R k:=by
  rintro k (h | h | ⟨j,h⟩)
  · exact .inl h
  · exact .inr (.inl h)
  · rw [List.getElem?_set] at h
    split at h
    · split at h <;> cases h
    · exact .inr (.inr ⟨j,h⟩)
theorem ekO_drop (i:Nat):Grows (ekO b m R) w (ekO b m (R.set i none)):=fun k h => .inl (ekO_sub i k h)
theorem ekSet_kept {i:Nat} {u:Value}:Kept (ekO b m R) w (w.setCell ⟨m,i,none⟩ u):=⟨rfl,rfl,rfl,by simp [World.setCell],fun k _ hk => Below.heap_setCell _ _ _ _ (fun e => hk (.inr (.inl e)))⟩
theorem EkM.put (h:EkM TB od X Y w b m R s) {i k:Nat} {p:Pk} (hi:i < R.length) (hl:s.H.length = R.length) (hp:BoxP w k p) (hn:¬ ekO b m R k):EkM TB od X Y (w.setCell ⟨m,i,none⟩ (.pointer (some ⟨k,0,none⟩))) b m (R.set i (some k)) ⟨s.H.set i p,s.F.set i true⟩:=by
  have ho:∀ j,j ≠ m → (w.setCell ⟨m,i,none⟩ (.pointer (some ⟨k,0,none⟩))).heap[j]? = w.heap[j]?:=fun j hj => Below.heap_setCell _ _ _ _ hj
  have kb:k ≠ b:=fun e => hn (.inl e)
  have km:k ≠ m:=fun e => hn (.inr (.inl e))
  have hr:∀ (j:Nat) l,(R.set i (some k))[j]? = some (some l) → (j = i ∧ l = k) ∨ (j ≠ i ∧ R[j]? = some (some l)):=fun j l hj => by
    rw [List.getElem?_set] at hj
    split at hj
    · rename_i e
      injection hj with hj
      injection hj with hj
      exact .inl ⟨e.symm,hj.symm⟩
    · rename_i e
      exact .inr ⟨fun e2 => e e2.symm,hj⟩
  refine ⟨?_,h.off, ?_,fun j l hj => ?_,h.h1,fun j l hj => ?_,fun j j' l hj hl' => ?_, ?_⟩
  · rw [ho b h.h1,h.box]; simp
  · rw [heap_setCell_same w m i _ _ _ h.row]
    simp [ptV_some,List.map_set]
  · rcases hr j l hj with ⟨rfl,rfl⟩ | ⟨e,h2⟩
    · show BoxP _ l ((s.H.set j p).getD j pk0)
      rw [getD_set',if_pos ⟨rfl,by omega⟩]
      exact (ho l km).trans hp
    · show BoxP _ l ((s.H.set i p).getD j pk0)
      rw [getD_set',if_neg (fun e2 => e e2.1.symm)]
      exact (ho l (h.f1 j l h2).2).trans (h.here j l h2)
  · rcases hr j l hj with ⟨rfl,rfl⟩ | ⟨e,h2⟩
    · exact ⟨kb,km⟩
    · exact h.f1 j l h2
  · rcases hr j l hj with ⟨rfl,rfl⟩ | ⟨e,h2⟩
    · rcases hr j' l hl' with ⟨rfl, -⟩ | ⟨e',h2'⟩
      · rfl
      · exact absurd (.inr (.inr ⟨j',h2'⟩)) hn
    · rcases hr j' l hl' with ⟨rfl,rfl⟩ | ⟨e',h2'⟩
      · exact absurd (.inr (.inr ⟨j,h2⟩)) hn
      · exact h.f2 j j' l h2 h2'
  · simp [h.full,List.map_set]
theorem ekO_put {i k:Nat} (hk:w.heap.size ≤ k):Grows (ekO b m R) w (ekO b m (R.set i (some k))):=by
  rintro l (h | h | ⟨j,h⟩)
  · exact .inl (.inl h)
  · exact .inl (.inr (.inl h))
  · rw [List.getElem?_set] at h
    split at h
    · split at h
      · injection h with h
        injection h with h
        exact .inr (h ▸ hk)
      · cases h
    · exact .inl (.inr (.inr ⟨j,h⟩))
end
theorem isObj_ek:IsObj (EkD TB od X Y) where
  stay:=by
    rintro w w' v s O ⟨b,m,R,rfl,rfl,h⟩ hs
    exact ⟨b,m,R,rfl,rfl,h.stay hs⟩
  lt:=by
    rintro w v s O ⟨b,m,R,rfl,rfl,h⟩
    exact h.lt
theorem EkM.stp {w w':World} {b m:Nat} {R:List (Option Nat)} {s:Ec} (h:EkM TB od X Y w b m R s) (hb:Below w.heap.size w w'):Stp (EkD TB od X Y) (.pointer (some ⟨b,od,none⟩)) (ekO b m R) w s w' :=
  ⟨_,⟨b,m,R,rfl,rfl,h.later hb⟩, .of_below hb,Grows.refl _ _⟩
theorem info_pt:(Tryz.prog.info? 159).map (fun i => (i.zero,i.size,i.bytes)) = some (some (.pointer none),1,8):=by kernel_rfl
theorem rep_pt (n:Nat):madeCells (Value.pointer none).cells (n * 1) = (List.replicate n (ptV none)).toArray:=by
  have h:=made_rep #[Value.pointer none] n (by decide)
  refine Eq.trans h ?_
  congr 1
  clear h
  induction n with
  | zero => rfl
  | succ n ih => rw [List.replicate_succ,List.flatten_cons,ih]; rfl
theorem run_mkPt (n:Nat) (hn:n ≤ 1000) (w:World) :
    (Instr.makeSlice 90 (.int .i64 n) (.int .i64 n)).run Tryz.prog w = .ok (.slice (some ⟨w.heap.size,0,none⟩) n n) (w.alloc (.cells (List.replicate n (ptV none)).toArray 159)):=by
  obtain ⟨i0,hi,hz0,hz1,hz2⟩:=info_parts info_pt
  have:=run_make (P:=Tryz.prog) w 90 159 i0 _ Tryz.underlying90 hi hz0 .i64 .i64 (n:Int) (n:Int) (by omega) (Int.le_refl _) (by rw [hz2]; omega) (by omega)
  rw [hz1,Int.toNat_natCast,rep_pt] at this
  exact this
theorem ekD_new {w w':World} {n:Nat} (e:w' = (w.alloc (.cells (List.replicate n (ptV none)).toArray 159)).alloc (.cells #[.slice (some ⟨w.heap.size,0,none⟩) n n] 92)) :
    ∃ O,EkD 92 0 [] [] w' (.pointer (some ⟨w.heap.size + 1,0,none⟩)) (ecNew n) O ∧ Below w.heap.size w w' ∧ ∀ k,O k → w.heap.size ≤ k:=by
  subst e
  obtain ⟨w1,e1⟩:∃ w1,w.alloc (.cells (List.replicate n (ptV none)).toArray 159) = w1:=⟨_,rfl⟩
  have s1:w1.heap.size = w.heap.size + 1:=by rw [← e1]; simp
  have n1:=heap_alloc_new w (.cells (List.replicate n (ptV none)).toArray 159)
  have hb1:Below w.heap.size w w1:=by rw [← e1]; exact (Below.refl _ w).alloc (Nat.le_refl _) _
  rw [e1] at n1 ⊢
  have n2:=heap_alloc_new w1 (.cells #[.slice (some ⟨w.heap.size,0,none⟩) n n] 92)
  have hb2:=(Below.refl _ w1).alloc (Nat.le_refl _) (.cells #[.slice (some ⟨w.heap.size,0,none⟩) n n] 92)
  rw [s1] at n2
  have hN:∀ (i:Nat) k,(List.replicate n (none:Option Nat))[i]? ≠ some (some k):=fun i k h => by
    rw [List.getElem?_replicate] at h
    split at h <;> cases h
  have hl:(List.replicate n (none:Option Nat)).length = n:=by simp
  refine ⟨_,⟨_,_,List.replicate n none,rfl,rfl,⟨by rw [hl]; exact n2,rfl, ?_,fun i k h => (hN i k h).elim,by omega,fun i k h => (hN i k h).elim,fun i j k h => (hN i k h).elim,by simp [ecNew]⟩⟩,fbelow_t hb1 hb2, ?_⟩
  · rw [List.map_replicate]; exact (hb2.block _ (by omega)).trans n1
  · rintro k (rfl | rfl | ⟨i,hk⟩)
    · omega
    · exact Nat.le_refl _
    · exact (hN i k hk).elim
theorem kenew_v (n:Int) (w:World):Calls Tryz.prog 33 #[.int .i64 n] w fun e w' => ∃ v O,e = .returned v ∧ EkD 92 0 [] [] w' v (ecNew (boxesN n)) O ∧ Below w.heap.size w w' ∧ ∀ k,O k → w.heap.size ≤ k:=by
  obtain ⟨m,hm⟩:∃ m,boxesN n = m:=⟨_,rfl⟩
  have hm2:m ≤ 1000:=by rw [← hm]; unfold boxesN; split <;> (try split) <;> omega
  have mk1:=run_mkPt m hm2
  obtain ⟨ZM,hM⟩:∃ Z,List.replicate m (ptV none) = Z:=⟨_,rfl⟩
  rw [hM] at mk1
  have HZ:=Lib.hid hM
  obtain ⟨q,hq⟩:∃ q:Nat,(if n < 1 then 1 else n) = (q:Int):=⟨(if n < 1 then 1 else n).toNat,by split <;> omega⟩
  have hmin:(if 1000 < (q:Int) then 1000 else (q:Int)) = (m:Int):=by
    rw [← hm,← hq]
    unfold boxesN
    split <;> split <;> (try split) <;> omega
  have HD:Hid (∀ w':World,w' = (w.alloc (.cells ZM.toArray 159)).alloc (.cells #[.slice (some ⟨w.heap.size,0,none⟩) m m] 92) → ∃ O,EkD 92 0 [] [] w' (.pointer (some ⟨w.heap.size + 1,0,none⟩)) (ecNew m) O ∧ Below w.heap.size w w' ∧ ∀ k,O k → w.heap.size ≤ k):=Lib.hid (fun w' e => ekD_new (by rw [HZ.out]; exact e))
  rw [hm]
  clear hm hM
  go_enter Tryz.func33,Tryz.ntmps33
  go_wp2
  go_ret
  obtain ⟨O,h⟩:=HD.out _ rfl
  exact ⟨_,O,rfl,h⟩
end Go.Proofs.YtimdkcchjanpaaaGreatDoor
namespace Go.Proofs.YtimdkcchjanpaaaGreatDoor
open Go.RowKit
set_option linter.unusedVariables false
variable {TB:TypeId} {od:Nat} {X Y:List Value}
theorem kehas_t {w:World} {b m:Nat} {R:List (Option Nat)} {s:Ec} {i:Nat} (h:EkM TB od X Y w b m R s) (hi:i < R.length) :
    Calls Tryz.prog 123 #[.pointer (some ⟨b,od,none⟩), .int .i64 i] w fun e w' => e = .returned (.bool true) ∧ w = w':=by
  have c0:=h.cells
  have d1:decide ((0:Int) ≤ (i:Int)) = true:=decide_eq_true (by omega)
  have d2:decide (i < R.length) = true:=decide_eq_true hi
  clear h hi
  go_enter Tryz.func123,Tryz.ntmps123
  go_wp2
  go_ret
  exact ⟨rfl,rfl⟩
theorem kehas_f {w:World} {b m:Nat} {R:List (Option Nat)} {s:Ec} {i:Int} (h:EkM TB od X Y w b m R s) (hi:¬ (0 ≤ i ∧ i < R.length)) :
    Calls Tryz.prog 123 #[.pointer (some ⟨b,od,none⟩), .int .i64 i] w fun e w' => e = .returned (.bool false) ∧ w = w':=by
  have c0:=h.cells
  clear h
  by_cases h0:i < 0
  · have d1:decide ((0:Int) ≤ i) = false:=decide_eq_false (by omega)
    clear h0 hi
    go_enter Tryz.func123,Tryz.ntmps123
    go_wp2
    go_ret
    exact ⟨rfl,rfl⟩
  · have d1:decide ((0:Int) ≤ i) = true:=decide_eq_true (by omega)
    have d2:decide (i < (R.length:Int)) = false:=decide_eq_false (by omega)
    clear h0 hi
    go_enter Tryz.func123,Tryz.ntmps123
    go_wp2
    go_ret
    exact ⟨rfl,rfl⟩
theorem ek_done {w w8:World} {b m z:Nat} {R R':List (Option Nat)} {s':Ec} {p0:Pk} (p:Pk) (hk:Kept (ekO b m R) w w8) (hz:w.heap.size ≤ z) (hm:EkM TB od X Y w8 b m R' s') (hl:∀ k,ekO b m R' k → k ≠ z)
    (hb:BoxP w8 z p0):BoxP (putB w8 z p) z p ∧ EkM TB od X Y (putB w8 z p) b m R' s' ∧ Kept (ekO b m R) w (putB w8 z p):=by
  have hP:=hb.put p
  have hO:∀ k,k ≠ z → (putB w8 z p).heap[k]? = w8.heap[k]?:=fun k h => putB_other h
  have hS:=putB_size w8 z p
  obtain ⟨r1,r2,r3⟩:=putB_rest w8 z p
  generalize putB w8 z p = W at hP hO hS r1 r2 r3 ⊢
  exact ⟨hP,hm.stay (fun k hk' => hO k (hl k hk')),
    ⟨r1.trans hk.os,r2.trans hk.tape,r3.trans hk.output,by rw [hS]; exact hk.size,fun k h1 h2 => (hO k (by omega)).trans (hk.block k h1 h2)⟩⟩
theorem kelift_v {w:World} {b m k:Nat} {R:List (Option Nat)} {s:Ec} {i:Nat} {p:Pk} (h:EkM TB od X Y w b m R s) (hk:R[i]? = some (some k)) (hp:s.H.getD i pk0 = p) :
    Calls Tryz.prog 124 #[.pointer (some ⟨b,od,none⟩), .int .i64 i] w fun e w' => e = .returned (pkV p) ∧ EkM TB od X Y w' b m (R.set i none) ⟨s.H,s.F.set i false⟩ ∧ Kept (ekO b m R) w w':=by
  have hzr:=zeroPk
  have hi:i < R.length:=by
    rcases Nat.lt_or_ge i R.length with h | h
    · exact h
    · rw [List.getElem?_eq_none h] at hk; cases hk
  have H:=Lib.hid h
  have HK:=Lib.hid hk
  have hb0:=(Below.refl w.heap.size w).alloc (Nat.le_refl _) (.cells #[.int .i64 0, .int .i64 0, .int .i64 0, .string (ByteArray.mk #[]), .int .i64 0, .int .i64 0, .bool false] 37)
  have HB0:=Lib.hid hb0
  have HZ0:=Lib.hid (BoxP.made w pk0)
  have HM0:=Lib.hid (h.later hb0)
  have HP0:Hid (BoxP (w.alloc (.cells #[.int .i64 0, .int .i64 0, .int .i64 0, .string (ByteArray.mk #[]), .int .i64 0, .int .i64 0, .bool false] 37)) k p):=Lib.hid (by rw [← hp]; exact (h.here i k hk).later hb0)
  have c0:=HM0.out.cells
  obtain ⟨c1,c2,c3⟩:=HM0.out.at_ hk
  rw [ptV_some] at c1
  obtain ⟨d0,d1,d2,d3,d4,d5,d6⟩:=HP0.out.cells
  clear h hk hb0 hp c2 c3
  go_enter Tryz.func124,Tryz.ntmps124
  go_upto_region 2 with fail
  obtain ⟨w1,hw1⟩:∃ w1,(w.alloc (.cells #[.int .i64 0, .int .i64 0, .int .i64 0, .string (ByteArray.mk #[]), .int .i64 0, .int .i64 0, .bool false] 37)).alloc (.cells #[.int .i64 p.f.i, .int .i64 p.f.n, .int .i64 p.f.l, .string p.f.d, .int .i64 p.fr, .int .i64 p.tag, .bool p.lp] 37) = w1:=⟨_,rfl⟩
  rw [hw1]
  have hb1:Below (w.alloc (.cells #[.int .i64 0, .int .i64 0, .int .i64 0, .string (ByteArray.mk #[]), .int .i64 0, .int .i64 0, .bool false] 37)).heap.size (w.alloc (.cells #[.int .i64 0, .int .i64 0, .int .i64 0, .string (ByteArray.mk #[]), .int .i64 0, .int .i64 0, .bool false] 37)) w1:=by rw [← hw1]; exact (Below.refl _ _).alloc (Nat.le_refl _) _
  have HB1:=Lib.hid (fbelow_t HB0.out hb1)
  have HZ1:Hid (BoxP w1 w.heap.size pk0):=Lib.hid (HZ0.out.later hb1)
  have HP1:Hid (BoxP w1 (w.heap.size + 1) p):=Lib.hid (by have:=BoxP.made (w.alloc (.cells #[.int .i64 0, .int .i64 0, .int .i64 0, .string (ByteArray.mk #[]), .int .i64 0, .int .i64 0, .bool false] 37)) p; rw [hw1,World.size_alloc] at this; exact this)
  have HM1:=Lib.hid (H.out.later HB1.out)
  clear c0 c1 d0 d1 d2 d3 d4 d5 d6 hw1 hb1 HM0 HZ0 HP0 HB0
  have HL:=Lib.hid H.out.lt
  have HS2:=Lib.hid (HM1.out.drop i)
  have c0:=HM1.out.cells
  obtain ⟨c1,c2,c3⟩:=HM1.out.at_ HK.out
  rw [ptV_some] at c1
  clear c3
  have hmw:m < w.heap.size:=HL.out m (.inr (.inl rfl))
  have hpk:∀ k q,BoxP w1 k q → w.heap.size ≤ k → BoxP (w1.setCell ⟨m,i,none⟩ (.pointer none)) k q:=fun k q h hk => (Below.heap_setCell _ _ _ _ (fun e => by have e:k = m:=e; omega)).trans h
  have HZ2:=Lib.hid (hpk _ _ HZ1.out (Nat.le_refl _))
  have HP2:=Lib.hid (hpk _ _ HP1.out (by omega))
  have HK2:Hid (Kept (ekO b m R) w (w1.setCell ⟨m,i,none⟩ (.pointer none))):=Lib.hid ((Kept.of_below (O:=ekO b m R) HB1.out).trans ekSet_kept (Grows.refl _ _))
  obtain ⟨w2,hw2⟩:∃ w2,w1.setCell ⟨m,i,none⟩ (.pointer none) = w2:=⟨_,rfl⟩
  rw [hw2] at HS2 HZ2 HP2 HK2
  clear hpk HZ1 HP1 HM1
  have HFIN:=Lib.hid (ek_done p HK2.out (Nat.le_refl _) HS2.out (fun k hk e => by have:=HL.out k (ekO_sub i k hk); omega) HZ2.out)
  go_upto_region 3 with fail
  clear hw2 c0 c1 c2
  obtain ⟨d0,d1,d2,d3,d4,d5,d6⟩:=HP2.out.cells
  obtain ⟨e0,e1,e2,e3,e4,e5,e6⟩:=HZ2.out.cells
  have fl:∀ j,w2.frozen? ⟨w.heap.size,j,none⟩ = false:=fun j => Lib.frozen_of_heap HZ2.out j
  go_wp2_with fail
  obtain ⟨r0,r1,r2,r3,r4,r5,r6⟩:=HFIN.out.1.cells
  unfold putB at r0 r1 r2 r3 r4 r5 r6
  refine bodyPost_ret (v:=pkV p) ?_ rfl ⟨rfl,HFIN.out.2⟩
  simp [results,Tryz.results124,go_sem,r0,r1,r2,r3,r4,r5,r6]
inductive EkCase (s:Ec) (i:Int) (R:List (Option Nat)):Prop where
  | out (h:¬ (0 ≤ i ∧ i < R.length)) (e:s.has i = false)
  | empty (j:Nat) (hi:i = j) (hj:j < R.length) (hr:R[j]? = some none) (e:s.has i = true) (f:s.at_ i = false)
  | full (j k:Nat) (hi:i = j) (hj:j < R.length) (hr:R[j]? = some (some k)) (e:s.has i = true) (f:s.at_ i = true)
theorem EkM.case {w:World} {b m:Nat} {R:List (Option Nat)} {s:Ec} (h:EkM TB od X Y w b m R s) (i:Int):EkCase s i R:=by
  have hl:=h.len
  by_cases hi:0 ≤ i ∧ i < R.length
  · obtain ⟨j,rfl⟩:=Int.eq_ofNat_of_zero_le hi.1
    have hj:j < R.length:=by omega
    have he:s.has (j:Int) = true:=by unfold Ec.has; simp; omega
    cases hf:s.F.getD j false with
    | false => exact .empty j rfl hj (h.lookN hj hf) he hf
    | true =>
      obtain ⟨k,hk⟩:=h.look hj hf
      exact .full j k rfl hj hk he hf
  · refine .out hi ?_
    unfold Ec.has
    rw [Bool.eq_false_iff]
    intro hc
    simp at hc
    omega
theorem keput_v {v:Value} {s:Ec} {O:Nat → Prop} (w:World) (i:Int) (p:Pk) (h:EkD TB od X Y w v s O) (ok:s.Ok) :
    Calls Tryz.prog 119 #[v, .int .i64 i,pkV p] w fun e w' => e = .returned (.int .i64 (s.put i p).2) ∧ Stp (EkD TB od X Y) v O w (s.put i p).1 w':=by
  obtain ⟨b,m,R,rfl,rfl,hm⟩:=h
  have hb0:=(Below.refl w.heap.size w).alloc (Nat.le_refl _) (.cells #[.int .i64 p.f.i, .int .i64 p.f.n, .int .i64 p.f.l, .string p.f.d, .int .i64 p.fr, .int .i64 p.tag, .bool p.lp] 37)
  have HP0:=Lib.hid (BoxP.made w p)
  obtain ⟨w0,hw0⟩:∃ w0,w.alloc (.cells #[.int .i64 p.f.i, .int .i64 p.f.n, .int .i64 p.f.l, .string p.f.d, .int .i64 p.fr, .int .i64 p.tag, .bool p.lp] 37) = w0:=⟨_,rfl⟩
  rw [hw0] at hb0 HP0
  have HB0:=Lib.hid hb0
  have HM:=Lib.hid hm
  have HM0:=Lib.hid (hm.later hb0)
  have HL:=Lib.hid hm.lt
  have hll:s.H.length = R.length:=by rw [ok.len,hm.len]
  rcases hm.case i with ⟨h1,h2⟩ | ⟨j,rfl,hj,hr,h2,h3⟩ | ⟨j,k,rfl,hj,hr,h2,h3⟩
  · have HE:Hid (s.put i p = (s,2)):=Lib.hid (by unfold Ec.put; rw [h2]; rfl)
    rw [HE.out]
    have HC:=Lib.hid (kehas_f HM0.out h1)
    clear h1 h2 hm hb0 hll
    go_enter Tryz.func119,Tryz.ntmps119
    go_wp2_with fail
    refine HC.out.mono ?_
    rintro e w1 ⟨rfl,rfl⟩
    go_wp2
    go_ret
    exact ⟨rfl,HM.out.stp HB0.out⟩
  · have HE:Hid (s.put (j:Int) p = (⟨s.H.set j p,s.F.set j true⟩,0)):=Lib.hid (by unfold Ec.put; rw [h2,h3]; rfl)
    rw [HE.out]
    have HC:=Lib.hid (kehas_t HM0.out hj)
    have c0:=HM0.out.cells
    obtain ⟨c1,c2, -⟩:=HM0.out.at_ hr
    rw [ptV_none] at c1
    have HN:Hid (¬ ekO b m R w.heap.size):=Lib.hid (fun hc => absurd (HL.out _ hc) (Nat.lt_irrefl _))
    have HF:=Lib.hid (HM0.out.put hj hll HP0.out HN.out)
    clear h2 h3 hr hm hb0 hll
    go_enter Tryz.func119,Tryz.ntmps119
    go_wp2_with fail
    refine HC.out.mono ?_
    rintro e w1 ⟨rfl,hw1⟩
    rw [← hw1] at *
    clear hw1
    go_wp2
    go_ret
    exact ⟨rfl,_,⟨b,m,_,rfl,rfl,HF.out⟩,(Kept.of_below (O:=ekO b m R) HB0.out).trans ekSet_kept (Grows.refl _ _),ekO_put (Nat.le_refl _)⟩
  · have HE:Hid (s.put (j:Int) p = (s,5)):=Lib.hid (by unfold Ec.put; rw [h2,h3]; rfl)
    rw [HE.out]
    have HC:=Lib.hid (kehas_t HM0.out hj)
    have c0:=HM0.out.cells
    obtain ⟨c1,c2, -⟩:=HM0.out.at_ hr
    rw [ptV_some] at c1
    clear h2 h3 hr hm hb0 hll
    go_enter Tryz.func119,Tryz.ntmps119
    go_wp2_with fail
    refine HC.out.mono ?_
    rintro e w1 ⟨rfl,hw1⟩
    rw [← hw1] at *
    clear hw1
    go_wp2
    go_ret
    exact ⟨rfl,HM.out.stp HB0.out⟩
theorem stp_box {w w0 w1:World} {v:Value} {s':Ec} {O:Nat → Prop} {p0:Pk} (p:Pk) (hb:Below w.heap.size w w0) (hs:Stp (EkD TB od X Y) v O w0 s' w1) (hO:∀ k,O k → k < w.heap.size) (hz:BoxP w0 w.heap.size p0) :
    BoxP w1 w.heap.size p0 ∧ BoxP (putB w1 w.heap.size p) w.heap.size p ∧ Stp (EkD TB od X Y) v O w s' (putB w1 w.heap.size p):=by
  obtain ⟨O',h1,h2,h3⟩:=hs
  have hn:¬ O w.heap.size:=fun h => absurd (hO _ h) (Nat.lt_irrefl _)
  have hb1:BoxP w1 w.heap.size p0:=hz.kept h2 hn
  have hP:=hb1.put p
  have hX:∀ k,k ≠ w.heap.size → (putB w1 w.heap.size p).heap[k]? = w1.heap[k]?:=fun k h => putB_other h
  have hS:=putB_size w1 w.heap.size p
  obtain ⟨r1,r2,r3⟩:=putB_rest w1 w.heap.size p
  generalize putB w1 w.heap.size p = W at hP hX hS r1 r2 r3 ⊢
  have k0:Kept O w w1:=(Kept.of_below (O:=O) hb).trans h2 (Grows.refl _ _)
  refine ⟨hb1,hP,O',isObj_ek.stay h1 (fun k hk => hX k (fun e => ?_)),⟨r1.trans k0.os,r2.trans k0.tape,r3.trans k0.output,by rw [hS]; exact k0.size,fun k h1 h2 => (hX k (by omega)).trans (k0.block k h1 h2)⟩,fun k hk => ?_⟩
  · have hlt:=hz.lt
    rcases h3 k hk with h | h
    · exact hn (e ▸ h)
    · omega
  · rcases h3 k hk with h | h
    · exact .inl h
    · exact .inr (Nat.le_trans hb.size h)
theorem keget_v {v:Value} {s:Ec} {O:Nat → Prop} (w:World) (i:Int) (h:EkD TB od X Y w v s O) (ok:s.Ok) :
    Calls Tryz.prog 83 #[v, .int .i64 i] w fun e w' => e = .returned (.tuple #[pkV (s.get i).2.1, .int .i64 (s.get i).2.2]) ∧ Stp (EkD TB od X Y) v O w (s.get i).1 w':=by
  obtain ⟨b,m,R,rfl,rfl,hm⟩:=h
  have hzr:=zeroPk
  have hb0:=(Below.refl w.heap.size w).alloc (Nat.le_refl _) (.cells #[.int .i64 0, .int .i64 0, .int .i64 0, .string (ByteArray.mk #[]), .int .i64 0, .int .i64 0, .bool false] 37)
  have HZ0:=Lib.hid (BoxP.made w pk0)
  obtain ⟨w0,hw0⟩:∃ w0,w.alloc (.cells #[.int .i64 0, .int .i64 0, .int .i64 0, .string (ByteArray.mk #[]), .int .i64 0, .int .i64 0, .bool false] 37) = w0:=⟨_,rfl⟩
  have HZ:Hid (BoxP w0 w.heap.size pk0):=Lib.hid (by rw [← hw0]; exact HZ0.out)
  clear HZ0
  rw [hw0] at hb0
  have HB0:=Lib.hid hb0
  have HM:=Lib.hid hm
  have HM0:=Lib.hid (hm.later hb0)
  have HL:=Lib.hid hm.lt
  obtain ⟨d0,d1,d2,d3,d4,d5,d6⟩:=HZ.out.cells
  have fl:∀ j,w0.frozen? ⟨w.heap.size,j,none⟩ = false:=fun j => Lib.frozen_of_heap HZ.out j
  have HD:=Lib.hid (hm.stp (putB_below pk0 hb0 (Nat.le_refl _)))
  have HPR:=Lib.hid (HZ.out.put pk0)
  obtain ⟨r0,r1,r2,r3,r4,r5,r6⟩:=HPR.out.cells
  unfold putB pk0 at r0 r1 r2 r3 r4 r5 r6
  unfold putB pk0 at HD
  clear HPR
  rcases hm.case i with ⟨h1,h2⟩ | ⟨j,rfl,hj,hr,h2,h3⟩ | ⟨j,k,rfl,hj,hr,h2,h3⟩
  · have HE:Hid (s.get i = (s,pk0,2)):=Lib.hid (by unfold Ec.get; rw [h2]; rfl)
    rw [HE.out]
    have HC:=Lib.hid (kehas_f HM0.out h1)
    clear h1 h2 hm hb0
    go_enter Tryz.func83,Tryz.ntmps83
    go_wp2_with fail
    refine HC.out.mono ?_
    rintro e w1 ⟨rfl,hw1⟩
    rw [← hw1] at *
    clear hw1
    go_wp2_with fail
    refine bodyPost_ret (v := .tuple #[pkV pk0, .int .i64 2]) ?_ rfl ⟨rfl,HD.out⟩
    simp [results,Tryz.results83,go_sem,pk0,r0,r1,r2,r3,r4,r5,r6]
  · have HE:Hid (s.get (j:Int) = (s,pk0,6)):=Lib.hid (by unfold Ec.get; rw [h2,h3]; rfl)
    rw [HE.out]
    have HC:=Lib.hid (kehas_t HM0.out hj)
    have c0:=HM0.out.cells
    obtain ⟨c1,c2, -⟩:=HM0.out.at_ hr
    rw [ptV_none] at c1
    clear h2 h3 hr hm hb0
    go_enter Tryz.func83,Tryz.ntmps83
    go_wp2_with fail
    refine HC.out.mono ?_
    rintro e w1 ⟨rfl,hw1⟩
    rw [← hw1] at *
    clear hw1
    go_wp2_with fail
    refine bodyPost_ret (v := .tuple #[pkV pk0, .int .i64 6]) ?_ rfl ⟨rfl,HD.out⟩
    simp [results,Tryz.results83,go_sem,pk0,r0,r1,r2,r3,r4,r5,r6]
  · obtain ⟨p,hp⟩:∃ p,s.H.getD j pk0 = p:=⟨_,rfl⟩
    have HE:Hid (s.get (j:Int) = (⟨s.H,s.F.set j false⟩,p,0)):=Lib.hid (by unfold Ec.get; rw [h2,h3,← hp]; rfl)
    rw [HE.out]
    have HC:=Lib.hid (kehas_t HM0.out hj)
    have HF:=Lib.hid (kelift_v HM0.out hr hp)
    have c0:=HM0.out.cells
    obtain ⟨c1,c2, -⟩:=HM0.out.at_ hr
    rw [ptV_some] at c1
    clear h2 h3 hr hm hb0 hp r0 r1 r2 r3 r4 r5 r6 HD
    go_enter Tryz.func83,Tryz.ntmps83
    go_wp2_with fail
    refine HC.out.mono ?_
    rintro e w1 ⟨rfl,hw1⟩
    rw [← hw1] at *
    clear hw1
    go_wp2_with fail
    refine HF.out.mono ?_
    rintro e w2 ⟨rfl,hm2,hk2⟩
    have hs2:Stp (EkD TB od X Y) (.pointer (some ⟨b,od,none⟩)) (ekO b m R) w0 ⟨s.H,s.F.set j false⟩ w2:=⟨_,⟨b,m,_,rfl,rfl,hm2⟩,hk2,ekO_drop j⟩
    obtain ⟨q1,q2,q3⟩:=stp_box p HB0.out hs2 HL.out HZ.out
    have HQ2:=Lib.hid q2
    have HQ3:=Lib.hid q3
    clear hs2 hm2 hk2 c0 c1 c2 d0 d1 d2 d3 d4 d5 d6 q2 q3 fl
    obtain ⟨d0,d1,d2,d3,d4,d5,d6⟩:=q1.cells
    have fl:∀ j,w2.frozen? ⟨w.heap.size,j,none⟩ = false:=fun j => Lib.frozen_of_heap q1 j
    clear q1
    go_wp2_with fail
    obtain ⟨r0,r1,r2,r3,r4,r5,r6⟩:=HQ2.out.cells
    unfold putB at r0 r1 r2 r3 r4 r5 r6
    refine bodyPost_ret (v := .tuple #[pkV p, .int .i64 0]) ?_ rfl ⟨rfl,HQ3.out⟩
    simp [results,Tryz.results83,go_sem,r0,r1,r2,r3,r4,r5,r6]
end Go.Proofs.YtimdkcchjanpaaaGreatDoor
namespace Go.Proofs.YtimdkcchjanpaaaGreatDoor
open Go.RowKit
set_option linter.unusedVariables false
def Bx1 (w:World) (k:Nat) (v:Value) (t:TypeId):Prop:=w.heap[k]? = some (.cells #[v] t (0,0))
theorem Bx1.cell {w:World} {k:Nat} {v:Value} {t:TypeId} (h:Bx1 w k v t):w.cell? ⟨k,0,none⟩ = some v:=by rw [Lib.cell_of_heap h]; rfl
theorem Bx1.live {w:World} {k:Nat} {v:Value} {t:TypeId} (h:Bx1 w k v t):w.frozen? ⟨k,0,none⟩ = false:=Lib.frozen_of_heap h 0
theorem Bx1.lt {w:World} {k:Nat} {v:Value} {t:TypeId} (h:Bx1 w k v t):k < w.heap.size:=(Array.getElem?_eq_some_iff.1 h).1
theorem Bx1.set {w:World} {k:Nat} {v:Value} {t:TypeId} (h:Bx1 w k v t) (u:Value):Bx1 (w.setCell ⟨k,0,none⟩ u) k u t:=by
  unfold Bx1
  rw [heap_setCell_same w k 0 #[v] t u h]
  rfl
theorem Bx1.other {w:World} {k:Nat} {v:Value} {t:TypeId} (h:Bx1 w k v t) {l:Nat} (hl:k ≠ l) (u:Value):Bx1 (w.setCell ⟨l,0,none⟩ u) k v t:=by
  unfold Bx1
  rw [Below.heap_setCell _ _ _ _ hl]
  exact h
theorem Bx1.made (w:World) (v:Value) (t:TypeId) {k:Nat} (hk:w.heap.size = k):Bx1 (w.alloc (.cells #[v] t)) k v t:=by
  subst hk
  unfold Bx1 World.alloc
  simp
theorem Bx1.later {w w':World} {k:Nat} {v:Value} {t:TypeId} (h:Bx1 w k v t) (hb:Below w.heap.size w w'):Bx1 w' k v t:=(hb.block k h.lt).trans h
theorem Bx1.kept {w w':World} {k:Nat} {v:Value} {t:TypeId} {O:Nat → Prop} (h:Bx1 w k v t) (hk:Kept O w w') (hn:¬ O k):Bx1 w' k v t:=(hk.block k h.lt hn).trans h
section
variable {α:Type} {c:α → List Value} {kk:Nat} {u:Value} {f:α} {t:TypeId} {L:List α} {W w w':World} {tx tr:Tmp} {xs:Tmp → Option Value}
def RowS (c:α → List Value) (kk:Nat) (u:Value) (f:α) (t:TypeId) (L:List α) (W:World) (tx tr:Tmp) (xs:Tmp → Option Value) (w:World):Prop :=
  (xs tr = none ∧ RowQ c kk w u L ∧ ∀ x,xs tx = some x → ∃ g,x = .slice (some ⟨g,0,none⟩) 1 1 ∧ W.heap.size ≤ g ∧ w.heap[g]? = some (.cells (c f).toArray t (0,0))) ∨ ∃ v',xs tr = some v' ∧ RowQ c kk w v' (L ++ [f]) ∧ Grows (OwnO u) W (OwnO v')
theorem RowS.start (h:RowQ c kk W u L):RowS c kk u f t L W tx tr (fun _ => none) W.drew := .inl ⟨rfl,h.later (Below.refl _ _).drew,fun x hx => by cases hx⟩
theorem RowS.keep {O:Nat → Prop} (h:RowS c kk u f t L W tx tr xs w) (hk:Kept O w w') (hW:W.heap.size ≤ w.heap.size) (hO:∀ k,O k → k < W.heap.size ∧ ¬ OwnO u k):RowS c kk u f t L W tx tr xs w':=by
  rcases h with ⟨h0,h1,h2⟩ | ⟨v',h0,h1,h2⟩
  · refine .inl ⟨h0,h1.stay (fun g hg => hk.block g (h1.lt g hg) (fun ho => (hO g ho).2 hg)) hk.size,fun x hx => ?_⟩
    obtain ⟨g,e,hg,hh⟩:=h2 x hx
    exact ⟨g,e,hg,(hk.block g (Array.getElem?_eq_some_iff.1 hh).1 (fun ho => by have:=(hO g ho).1; omega)).trans hh⟩
  · refine .inr ⟨v',h0,h1.stay (fun g hg => hk.block g (h1.lt g hg) (fun ho => ?_)) hk.size,h2⟩
    have:=hO g ho
    rcases h2 g hg with h3 | h3
    · exact this.2 h3
    · omega
theorem RowS.later (h:RowS c kk u f t L W tx tr xs w) (hb:Below w.heap.size w w') (hW:W.heap.size ≤ w.heap.size):RowS c kk u f t L W tx tr xs w':=h.keep (O:=fun _ => False) (.of_below hb) hW (fun k hk => hk.elim)
theorem RowS.one (h:RowS c kk u f t L W tx tr xs w) (hne:tr ≠ tx) (hW:W.heap.size ≤ w.heap.size):RowS c kk u f t L W tx tr (fun r => if r = tx then some (.slice (some ⟨w.heap.size,0,none⟩) 1 1) else xs r) (w.alloc (.cells (c f).toArray t)):=by
  have hb:Below w.heap.size w (w.alloc (.cells (c f).toArray t)):=(Below.refl _ _).alloc (Nat.le_refl _) _
  have h':=h.later hb hW
  rcases h' with ⟨h0,h1,h2⟩ | ⟨v',h0,h1,h2⟩
  · refine .inl ⟨by simp only; rw [if_neg hne]; exact h0,h1,fun x hx => ?_⟩
    simp at hx
    subst hx
    exact ⟨_,rfl,hW,by unfold World.alloc; simp⟩
  · exact .inr ⟨v',by simp only; rw [if_neg hne]; exact h0,h1,h2⟩
theorem RdA.block (hkk:∀ a,(c a).length = kk) {g:Nat} (h:w.heap[g]? = some (.cells (c f).toArray t (0,0))):RdA c kk w (.slice (some ⟨g,0,none⟩) 1 1) [f]:=by
  refine ⟨⟨_,_,rfl,by unfold maxLen; simp,fun i a ha => ?_⟩, .inr ⟨_,_,rfl,Nat.le_refl _⟩⟩
  have hi:i = 0:=by
    rcases Nat.lt_or_ge i 1 with h | h
    · omega
    · rw [List.getElem?_eq_none (by simpa using h)] at ha; cases ha
  subst hi
  simp at ha
  subst ha
  refine ⟨_,rfl,(Array.getElem?_eq_some_iff.1 h).1,fun j u hu => ?_⟩
  rw [Nat.zero_mul,Nat.zero_add,qaddr,Lib.cell_of_heap h]
  simpa using hu
theorem RowS.rd (hkk:∀ a,(c a).length = kk) (h:RowS c kk u f t L W tx tr xs w) (h0:xs tr = none) {x:Value} (hx:xs tx = some x):RowQ c kk w u L ∧ RdA c kk w x [f]:=by
  rcases h with ⟨_,h1,h2⟩ | ⟨v',h1,_⟩
  · obtain ⟨g,rfl,_,hg⟩:=h2 x hx
    exact ⟨h1,RdA.block hkk hg⟩
  · rw [h0] at h1; cases h1
theorem RowS.app {v':Value} (hq:RowQ c kk w' v' (L ++ [f])) (hg:Grows (OwnO u) w (OwnO v')) (hW:W.heap.size ≤ w.heap.size):RowS c kk u f t L W tx tr (fun r => if r = tr then some v' else xs r) w' :=
  .inr ⟨v',by simp,hq,fun k hk => (hg k hk).imp id (Nat.le_trans hW)⟩
theorem RowS.out {v:Value} (h:RowS c kk u f t L W tx tr xs w) (hv:xs tr = some v):RowQ c kk w v (L ++ [f]) ∧ Grows (OwnO u) W (OwnO v):=by
  rcases h with ⟨h0,_⟩ | ⟨v',h1,h2,h3⟩
  · rw [hv] at h0; cases h0
  · rw [hv] at h1
    injection h1 with h1
    subst h1
    exact ⟨h2,h3⟩
end
section
variable {α β:Type} {c:α → List Value} {kk:Nat} {u:Value} {f:α} {t:TypeId} {L:List α} {c':β → List Value} {kk':Nat} {u':Value} {f':β} {t':TypeId} {L':List β} {W w w':World} {tx tr tx' tr':Tmp} {xs:Tmp → Option Value}
theorem kept_to {A B:Nat → Prop} (h:Kept A w w') (hs:∀ k,A k → B k):Kept B w w':=⟨h.os,h.tape,h.output,h.size,fun k hk hn => h.block k hk (fun ha => hn (hs k ha))⟩
end
section
variable {P:Program} {ops:Array Oper} {st:List Nat} {G:Nat → (Tmp → Option Value) → World → Prop} {sec:List Tmp} {Q:Act → Prop} {o:Oper} {rest:List Oper} {h:Act} {i:Nat}
theorem st_appF {α:Type} {c:α → List Value} {kk bytes:Nat} {T E:TypeId} {L M:List α} {ts tx tr:Tmp} {v:Value} (hT:FlatE P T E kk bytes) (hkk:∀ a,(c a).length = kk) (hone:∀ a, ∀ u ∈ c a,u.oneCell' = true)
    (hi:st.contains i = false) (hw:Region.wanted o (yielded ops h.tmps) = true) (ho:o.op = .call { callee := .builtin .append,args := #[.tmp ts, .tmp tx],argTypes := #[T,T] }) (hd:o.dst = some tr)
    (hs1:sec.contains tr = true) (hs2:sec.contains tx = true) (hs3:sec.contains ts = false) (hl1:ts ∈ o.looksAt ops) (hl2:tx ∈ o.looksAt ops) (hv:h.tmps.getD ts undef = v)
    (hrd:∀ j xs w x,G j xs w → xs tr = none → xs tx = some x → RowQ c kk w v L ∧ RdA c kk w x M) (hsz:L.length + M.length ≤ 1000000)
    (hG:∀ j xs w v' w',G j xs w → RowQ c kk w' v' (L ++ M) → Kept (OwnO v) w w' → Grows (OwnO v) w (OwnO v') → G j (fun t => if t = tr then some v' else xs t) w')
    (hk:wpSt P ops st G sec Q (i + 1) rest (h.put o.dst undef)):wpSt P ops st G sec Q i (o :: rest) h:=by
  unfold wpSt
  rw [if_pos hw]
  refine ⟨undef,fun j xs a w hj hjk hb hfr hlk => ?_,hk⟩
  have hi':i ∉ st:=by simpa using hi
  have h1:=hlk ts hl1
  have h2:=hlk tx hl2
  have s1:tr ∈ sec:=by simpa using hs1
  rw [if_neg (by simpa using hs3),hv] at h1
  rw [if_pos (by simpa using hs2)] at h2
  obtain ⟨x,hx⟩:∃ x,a.tmps.getD tx undef = x:=⟨_,rfl⟩
  rw [hx] at h2
  obtain ⟨r1,r2⟩:=hrd j xs w _ hb (hfr tr hd s1) h2
  obtain ⟨v',w',hrun,q1,q2,q3⟩:=r1.run hT hkk (RowQ.src r2 hkk hone hT.1) hsz o.type
  have e1:a.eval (.tmp ts) = v:=h1
  have e2:a.eval (.tmp tx) = x:=hx
  rw [if_neg hi']
  simp [execOp,ho,resolve,invoke,builtin,e1,e2,hrun,Result.andThen,stUpon,hd]
  refine ⟨?_, .inl s1⟩
  have:=hG j xs w v' w' hb q1 q2 q3
  unfold hidPut
  simp only
  rw [if_pos s1]
  exact this
end
end Go.Proofs.YtimdkcchjanpaaaGreatDoor
