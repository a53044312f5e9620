/- Box, the code: what its mailboxes are in memory. Of no program: rows of numbers that the library's calls turn: an insertion, a cut; what the shelf says of th .. -/
import Derived.Test.YtimdkcchjanpaaaGreatDoorZao
import Derived.Test.YtimdkcchjanpaaaGreatDoorZam
import Derived.Test.YtimdkcchjanpaaaGreatDoorZah
import Derived.Test.YtimdkcchjanpaaaGreatDoorZad
import Derived.Test.YtimdkcchjanpaaaGreatDoorZaf
import Derived.Laws.LoneSync
import Derived.Shelf.Slices.Turned
import Derived.Shelf.Slices.Cells
import Derived.Shelf.Slices.Empties
import Derived.Shelf.Spec.SlicesInsertGrow
import Derived.Test.YtimdkcchjanpaaaGreatDoorZag
import Derived.Shelf.SlicesQ.IndexFunc
import Derived.Deep.LoopGhost
import Derived.BigQuiet
set_option maxHeartbeats 4000000
namespace Go.Proofs.YtimdkcchjanpaaaGreatDoor
open Go.RowKit
set_option linter.unusedVariables false
def mbC (m:Int × Pk):List Value := .int .i64 m.1 :: pkC m.2
theorem mbC_len (m:Int × Pk):(mbC m).length = 8:=rfl
structure BmM (TB:TypeId) (od:Nat) (X Y:List Value) (w:World) (b g:Nat) (vt ve:Value) (M:List (Int × Pk)) (T E:List Int):Prop where
  box:w.heap[b]? = some (.cells (X ++ (Value.slice (some ⟨g,0,none⟩) M.length M.length :: vt :: ve :: Y)).toArray TB (0,0))
  off:X.length = od
  row:w.heap[g]? = some (.cells (rowG mbC M).toArray 170 (0,0))
  turn:RowQ inC 1 w vt T
  fin:RowQ inC 1 w ve E
  h1:b ≠ g
  f1:¬ OwnO vt b ∧ ¬ OwnO vt g
  f2:¬ OwnO ve b ∧ ¬ OwnO ve g
  f3:Apart (OwnO vt) (OwnO ve)
structure BmS (M:List (Int × Pk)) (s:Bx):Prop where
  hS:M.map (·.1) = s.S
  hP:M.map (·.2) = s.P
  full:s.Full
def bmO (b g:Nat) (vt ve:Value):Nat → Prop:=fun k => k = b ∨ k = g ∨ OwnO vt k ∨ OwnO ve k
def BmD (TB:TypeId) (od:Nat) (X Y:List Value) (w:World) (v:Value) (s:Bx) (O:Nat → Prop):Prop:=(∃ b g vt ve M,v = .pointer (some ⟨b,od,none⟩) ∧ O = bmO b g vt ve ∧ BmM TB od X Y w b g vt ve M s.trn s.fin ∧ BmS M s)
section
variable {TB:TypeId} {od:Nat} {X Y:List Value} {w w':World} {b g:Nat} {vt ve:Value} {M:List (Int × Pk)} {T E:List Int} {s:Bx}
theorem BmM.lt (h:BmM TB od X Y w b g vt ve M T E):∀ k,bmO b g vt ve k → k < w.heap.size:=by
  rintro k (rfl | rfl | hk | hk)
  · exact heap_some_lt h.box
  · exact heap_some_lt h.row
  · exact h.turn.lt k hk
  · exact h.fin.lt k hk
theorem BmM.stay (h:BmM TB od X Y w b g vt ve M T E) (hs:∀ k,bmO b g vt ve k → w'.heap[k]? = w.heap[k]?):BmM TB od X Y w' b g vt ve M T E:=by
  have hz:∀ k,bmO b g vt ve k → k < w'.heap.size:=fun k hk => by
    have h1:=hs k hk
    have h2:=h.lt k hk
    rw [Array.getElem?_eq_getElem h2] at h1
    exact heap_some_lt h1
  exact ⟨(hs b (.inl rfl)).trans h.box,h.off,(hs g (.inr (.inl rfl))).trans h.row,
    h.turn.stayL (fun k hk => hs k (.inr (.inr (.inl hk)))) (fun k hk => hz k (.inr (.inr (.inl hk)))),
    h.fin.stayL (fun k hk => hs k (.inr (.inr (.inr hk)))) (fun k hk => hz k (.inr (.inr (.inr hk)))),h.h1,h.f1,h.f2,h.f3⟩
theorem BmM.later (h:BmM TB od X Y w b g vt ve M T E) (hb:Below w.heap.size w w'):BmM TB od X Y w' b g vt ve M T E:=h.stay (fun k hk => hb.block k (h.lt k hk))
theorem isObj_bm:IsObj (BmD TB od X Y) where
  stay:=by
    rintro w w' v s O ⟨b,g,vt,ve,M,rfl,rfl,h,hf⟩ hs
    exact ⟨b,g,vt,ve,M,rfl,rfl,h.stay hs,hf⟩
  lt:=by
    rintro w v s O ⟨b,g,vt,ve,M,rfl,rfl,h,_⟩
    exact h.lt
theorem BmS.len (h:BmS M s):M.length = s.S.length:=by rw [← h.hS]; simp
theorem BmM.cells (h:BmM TB od X Y w b g vt ve M T E):w.cell? ⟨b,od,none⟩ = some (.slice (some ⟨g,0,none⟩) M.length M.length) ∧ w.cell? ⟨b,od + 1,none⟩ = some vt ∧ w.cell? ⟨b,od + 2,none⟩ = some ve:=by
  have hb:=h.box
  have e0:w.cell? ⟨b,od + 0,none⟩ = some (.slice (some ⟨g,0,none⟩) M.length M.length):=by rw [Lib.cell_of_heap hb,getX h.off]; rfl
  refine ⟨by simpa using e0, ?_, ?_⟩ <;> (rw [Lib.cell_of_heap hb,getX h.off]; rfl)
theorem BmM.live (h:BmM TB od X Y w b g vt ve M T E) (j:Nat):w.frozen? ⟨b,j,none⟩ = false:=Lib.frozen_of_heap h.box j
theorem BmM.liveR (h:BmM TB od X Y w b g vt ve M T E) (j:Nat):w.frozen? ⟨g,j,none⟩ = false:=Lib.frozen_of_heap h.row j
theorem BmS.at_ (h:BmS M s) {i:Nat} (hi:i < s.S.length):M[i]? = some (s.S.getD i 0,s.P.getD i pk0):=by
  have hl:i < M.length:=by rw [h.len]; exact hi
  rw [List.getElem?_eq_getElem hl,← h.hS,← h.hP,List.getD_eq_getElem?_getD,List.getD_eq_getElem?_getD,List.getElem?_map,List.getElem?_map,List.getElem?_eq_getElem hl]
  rfl
theorem BmM.mail (h:BmM TB od X Y w b g vt ve M T E) {i:Nat} {x:Int} {p:Pk} (hx:M[i]? = some (x,p)) :
    w.cell? ⟨g,i * 8,none⟩ = some (.int .i64 x) ∧ w.cell? ⟨g,i * 8 + 1,none⟩ = some (.int .i64 p.f.i) ∧ w.cell? ⟨g,i * 8 + 2,none⟩ = some (.int .i64 p.f.n) ∧ w.cell? ⟨g,i * 8 + 3,none⟩ = some (.int .i64 p.f.l) ∧ w.cell? ⟨g,i * 8 + 4,none⟩ = some (.string p.f.d) ∧
    w.cell? ⟨g,i * 8 + 5,none⟩ = some (.int .i64 p.fr) ∧ w.cell? ⟨g,i * 8 + 6,none⟩ = some (.int .i64 p.tag) ∧ w.cell? ⟨g,i * 8 + 7,none⟩ = some (.bool p.lp):=by
  have key:∀ j u,(mbC (x,p))[j]? = some u → w.cell? ⟨g,i * 8 + j,none⟩ = some u:=fun j u hu => by
    rw [Lib.cell_of_heap h.row]
    simpa using rowG_get mbC_len M i _ hx j u hu
  exact ⟨key 0 _ rfl,key 1 _ rfl,key 2 _ rfl,key 3 _ rfl,key 4 _ rfl,key 5 _ rfl,key 6 _ rfl,key 7 _ rfl⟩
end
def putM (w:World) (g i:Nat) (x:Int) (p:Pk):World :=
  (((((((w.setCell ⟨g,i * 8,none⟩ (.int .i64 x)).setCell ⟨g,i * 8 + 1,none⟩ (.int .i64 p.f.i)).setCell ⟨g,i * 8 + 2,none⟩ (.int .i64 p.f.n)).setCell ⟨g,i * 8 + 3,none⟩ (.int .i64 p.f.l)).setCell ⟨g,i * 8 + 4,none⟩ (.string p.f.d)).setCell ⟨g,i * 8 + 5,none⟩ (.int .i64 p.fr)).setCell ⟨g,i * 8 + 6,none⟩ (.int .i64 p.tag)).setCell ⟨g,i * 8 + 7,none⟩ (.bool p.lp)
theorem mb_split (m:Int × Pk) (L:List (Int × Pk)):rowG mbC (m :: L) = mbC m ++ rowG mbC L:=by simp [rowG]
theorem rowG_setM (x:Int) (p:Pk):∀ (N:List (Int × Pk)) (i:Nat),i < N.length → ((((((((rowG mbC N).set (i * 8) (.int .i64 x)).set (i * 8 + 1) (.int .i64 p.f.i)).set (i * 8 + 2) (.int .i64 p.f.n)).set (i * 8 + 3) (.int .i64 p.f.l)).set (i * 8 + 4) (.string p.f.d)).set (i * 8 + 5) (.int .i64 p.fr)).set (i * 8 + 6) (.int .i64 p.tag)).set (i * 8 + 7) (.bool p.lp) = rowG mbC (N.set i (x,p))
  | [],i,h => by cases h
  | a :: N,0,h => rfl
  | a :: N,i + 1,h => by
    have ih:=rowG_setM x p N i (by simpa using h)
    rw [List.set_cons_succ,mb_split,mb_split,← ih]
    have l:(mbC a).length = 8:=rfl
    iterate 8 rw [List.set_append_right _ _ (by rw [l]; omega)]
    rw [l]
    congr 1
    rw [show (i + 1) * 8 - 8 = i * 8 by omega,show (i + 1) * 8 + 1 - 8 = i * 8 + 1 by omega,show (i + 1) * 8 + 2 - 8 = i * 8 + 2 by omega,show (i + 1) * 8 + 3 - 8 = i * 8 + 3 by omega,show (i + 1) * 8 + 4 - 8 = i * 8 + 4 by omega,show (i + 1) * 8 + 5 - 8 = i * 8 + 5 by omega,show (i + 1) * 8 + 6 - 8 = i * 8 + 6 by omega,show (i + 1) * 8 + 7 - 8 = i * 8 + 7 by omega]
theorem rowG_setS (x:Int):∀ (N:List (Int × Pk)) (i:Nat) {y:Int} {p:Pk},N[i]? = some (y,p) → (rowG mbC N).set (i * 8) (.int .i64 x) = rowG mbC (N.set i (x,p))
  | [],i,_,_,h => by simp at h
  | a :: N,0,y,p,h => by
    simp at h
    subst h
    rfl
  | a :: N,i + 1,y,p,h => by
    have ih:=rowG_setS x N i (by simpa using h)
    have l:(mbC a).length = 8:=rfl
    rw [List.set_cons_succ,mb_split,mb_split,← ih,List.set_append_right _ _ (by rw [l]; omega),l]
    congr 1
    rw [show (i + 1) * 8 - 8 = i * 8 by omega]
theorem putM_other {w:World} {g i k:Nat} {x:Int} {c:Pk} (h:k ≠ g):(putM w g i x c).heap[k]? = w.heap[k]?:=by
  unfold putM
  iterate 8 rw [Below.heap_setCell _ _ _ _ h]
theorem putM_size (w:World) (g i:Nat) (x:Int) (c:Pk):(putM w g i x c).heap.size = w.heap.size:=by unfold putM; simp [World.setCell]
theorem putM_rest (w:World) (g i:Nat) (x:Int) (c:Pk):(putM w g i x c).os = w.os ∧ (putM w g i x c).tape = w.tape ∧ (putM w g i x c).output = w.output:=by
  unfold putM
  refine ⟨?_, ?_, ?_⟩
  · iterate 8 rw [(setCell_rest1 _ _ _).1]
  · iterate 8 rw [(setCell_rest1 _ _ _).2.1]
  · iterate 8 rw [(setCell_rest1 _ _ _).2.2]
theorem putM_row {w:World} {g i:Nat} {M:List (Int × Pk)} {x:Int} {p:Pk} (h:w.heap[g]? = some (.cells (rowG mbC M).toArray 170 (0,0))) (hi:i < M.length):(putM w g i x p).heap[g]? = some (.cells (rowG mbC (M.set i (x,p))).toArray 170 (0,0)):=by
  have a0:=heap_setCell_same w g (i * 8) _ _ (.int .i64 x) h
  have a1:=heap_setCell_same _ g (i * 8 + 1) _ _ (.int .i64 p.f.i) a0
  have a2:=heap_setCell_same _ g (i * 8 + 2) _ _ (.int .i64 p.f.n) a1
  have a3:=heap_setCell_same _ g (i * 8 + 3) _ _ (.int .i64 p.f.l) a2
  have a4:=heap_setCell_same _ g (i * 8 + 4) _ _ (.string p.f.d) a3
  have a5:=heap_setCell_same _ g (i * 8 + 5) _ _ (.int .i64 p.fr) a4
  have a6:=heap_setCell_same _ g (i * 8 + 6) _ _ (.int .i64 p.tag) a5
  have a7:=heap_setCell_same _ g (i * 8 + 7) _ _ (.bool p.lp) a6
  unfold putM
  rw [a7]
  simp only [List.setIfInBounds_toArray]
  rw [rowG_setM x p M i hi]
section
variable {TB:TypeId} {od:Nat} {X Y:List Value} {w w':World} {b g:Nat} {vt ve v':Value} {M:List (Int × Pk)} {T E T':List Int}
theorem BmM.setTurn (h:BmM TB od X Y w b g vt ve M T E) (hq:RowQ inC 1 w' v' T') (hk:Kept (OwnO vt) w w') (hg:Grows (OwnO vt) w (OwnO v')) :
    BmM TB od X Y (w'.setCell ⟨b,od + 1,none⟩ v') b g v' ve M T' E ∧ Kept (bmO b g vt ve) w (w'.setCell ⟨b,od + 1,none⟩ v') ∧ Grows (bmO b g vt ve) w (bmO b g v' ve):=by
  have hz:w'.heap.size ≤ (w'.setCell ⟨b,od + 1,none⟩ v').heap.size:=by simp [World.setCell]
  have ho:∀ k,k ≠ b → (w'.setCell ⟨b,od + 1,none⟩ v').heap[k]? = w'.heap[k]?:=fun k hk => Below.heap_setCell _ _ _ _ hk
  have hlt:=h.lt
  obtain ⟨u1,u2⟩:=h.f1
  have nv:∀ k,k < w.heap.size → ¬ OwnO vt k → ¬ OwnO v' k:=fun k h1 h2 h3 => by rcases hg k h3 with h4 | h4; exact h2 h4; omega
  have lb:=hlt b (.inl rfl)
  have lg:=hlt g (.inr (.inl rfl))
  refine ⟨⟨?_,h.off, ?_,hq.stay (fun k hk' => ho k (fun e => nv b lb u1 (e ▸ hk'))) hz, ?_,h.h1,⟨nv b lb u1,nv g lg u2⟩,h.f2,fun k h1 h2 => ?_⟩, ?_, ?_⟩
  · rw [heap_setCell_same w' b (od + 1) _ _ _ ((hk.block b lb u1).trans h.box),setX h.off]; rfl
  · rw [ho g (fun e => h.h1 e.symm),hk.block g lg u2]; exact h.row
  · exact (h.fin.stay (fun k hk' => hk.block k (h.fin.lt k hk') (fun h6 => h.f3 k h6 hk')) hk.size).stay (fun k hk' => ho k (fun e => h.f2.1 (e ▸ hk'))) hz
  · exact nv k (h.fin.lt k h2) (fun h3 => h.f3 k h3 h2) h1
  · exact ⟨hk.os,hk.tape,hk.output,Nat.le_trans hk.size hz,fun k h1 h2 => (ho k (fun e => h2 (.inl e))).trans (hk.block k h1 (fun h3 => h2 (.inr (.inr (.inl h3)))))⟩
  · rintro k (h1 | h1 | h1 | h1)
    · exact .inl (.inl h1)
    · exact .inl (.inr (.inl h1))
    · exact (hg k h1).imp (fun h => .inr (.inr (.inl h))) id
    · exact .inl (.inr (.inr (.inr h1)))
theorem BmM.setFin (h:BmM TB od X Y w b g vt ve M T E) (hq:RowQ inC 1 w' v' T') (hk:Kept (OwnO ve) w w') (hg:Grows (OwnO ve) w (OwnO v')) :
    BmM TB od X Y (w'.setCell ⟨b,od + 2,none⟩ v') b g vt v' M T T' ∧ Kept (bmO b g vt ve) w (w'.setCell ⟨b,od + 2,none⟩ v') ∧ Grows (bmO b g vt ve) w (bmO b g vt v'):=by
  have hz:w'.heap.size ≤ (w'.setCell ⟨b,od + 2,none⟩ v').heap.size:=by simp [World.setCell]
  have ho:∀ k,k ≠ b → (w'.setCell ⟨b,od + 2,none⟩ v').heap[k]? = w'.heap[k]?:=fun k hk => Below.heap_setCell _ _ _ _ hk
  have hlt:=h.lt
  obtain ⟨u1,u2⟩:=h.f2
  have nv:∀ k,k < w.heap.size → ¬ OwnO ve k → ¬ OwnO v' k:=fun k h1 h2 h3 => by rcases hg k h3 with h4 | h4; exact h2 h4; omega
  have lb:=hlt b (.inl rfl)
  have lg:=hlt g (.inr (.inl rfl))
  refine ⟨⟨?_,h.off, ?_, ?_,hq.stay (fun k hk' => ho k (fun e => nv b lb u1 (e ▸ hk'))) hz,h.h1,h.f1,⟨nv b lb u1,nv g lg u2⟩,fun k h1 h2 => ?_⟩, ?_, ?_⟩
  · rw [heap_setCell_same w' b (od + 2) _ _ _ ((hk.block b lb u1).trans h.box),setX h.off]; rfl
  · rw [ho g (fun e => h.h1 e.symm),hk.block g lg u2]; exact h.row
  · exact (h.turn.stay (fun k hk' => hk.block k (h.turn.lt k hk') (fun h6 => h.f3 k hk' h6)) hk.size).stay (fun k hk' => ho k (fun e => h.f1.1 (e ▸ hk'))) hz
  · exact nv k (h.turn.lt k h1) (fun h3 => h.f3 k h1 h3) h2
  · exact ⟨hk.os,hk.tape,hk.output,Nat.le_trans hk.size hz,fun k h1 h2 => (ho k (fun e => h2 (.inl e))).trans (hk.block k h1 (fun h3 => h2 (.inr (.inr (.inr h3)))))⟩
  · rintro k (h1 | h1 | h1 | h1)
    · exact .inl (.inl h1)
    · exact .inl (.inr (.inl h1))
    · exact .inl (.inr (.inr (.inl h1)))
    · exact (hg k h1).imp (fun h => .inr (.inr (.inr h))) id
theorem BmM.setRow {M':List (Int × Pk)} (h:BmM TB od X Y w b g vt ve M T E) (e1:w'.heap.size = w.heap.size) (e2:w'.os = w.os ∧ w'.tape = w.tape ∧ w'.output = w.output) (ho:∀ k,k ≠ g → w'.heap[k]? = w.heap[k]?) (hl:M'.length = M.length)
    (hr:w'.heap[g]? = some (.cells (rowG mbC M').toArray 170 (0,0))):BmM TB od X Y w' b g vt ve M' T E ∧ Kept (bmO b g vt ve) w w':=by
  refine ⟨⟨?_,h.off,hr,h.turn.stay (fun k hk => ho k (fun e => h.f1.2 (e ▸ hk))) (by omega),h.fin.stay (fun k hk => ho k (fun e => h.f2.2 (e ▸ hk))) (by omega),h.h1,h.f1,h.f2,h.f3⟩,⟨e2.1,e2.2.1,e2.2.2,by omega,fun k _ hn => ho k (fun e => hn (.inr (.inl e)))⟩⟩
  rw [ho b h.h1,hl]; exact h.box
theorem BmM.setMail (h:BmM TB od X Y w b g vt ve M T E) {i:Nat} (hi:i < M.length) (x:Int) (p:Pk):BmM TB od X Y (putM w g i x p) b g vt ve (M.set i (x,p)) T E ∧ Kept (bmO b g vt ve) w (putM w g i x p) :=
  h.setRow (putM_size _ _ _ _ _) (putM_rest _ _ _ _ _) (fun k hk => putM_other hk) (by simp) (putM_row h.row hi)
theorem BmM.setState (h:BmM TB od X Y w b g vt ve M T E) {i:Nat} {y:Int} {p:Pk} (hi:M[i]? = some (y,p)) (x:Int):BmM TB od X Y (w.setCell ⟨g,i * 8,none⟩ (.int .i64 x)) b g vt ve (M.set i (x,p)) T E ∧ Kept (bmO b g vt ve) w (w.setCell ⟨g,i * 8,none⟩ (.int .i64 x)):=by
  refine h.setRow (by simp [World.setCell]) ⟨rfl,rfl,rfl⟩ (fun k hk => Below.heap_setCell _ _ _ _ hk) (by simp) ?_
  rw [heap_setCell_same w g (i * 8) _ _ _ h.row]
  simp only [List.setIfInBounds_toArray]
  rw [rowG_setS x M i hi]
end
end Go.Proofs.YtimdkcchjanpaaaGreatDoor
namespace Go.Proofs.YtimdkcchjanpaaaGreatDoor
open Go.RowKit
set_option linter.unusedVariables false
theorem rowI_map (L:List Int):rowG inC L = L.map (Value.int .i64):=by
  induction L with
  | nil => rfl
  | cons a L ih => rw [show rowG inC (a :: L) = inC a ++ rowG inC L by simp [rowG],ih]; rfl
theorem int_one (L:List Int):∀ v ∈ L.map (Value.int .i64),v.oneCell' = true:=by
  intro v hv
  obtain ⟨x,_,rfl⟩:=List.mem_map.1 hv
  rfl
structure RowC (w:World) (g o cap:Nat) (L:List Int):Prop where
  le:L.length ≤ cap
  mx:cap ≤ maxLen
  lt:g < w.heap.size
  cell:∀ j u,(L.map (Value.int .i64))[j]? = some u → w.cell? ⟨g,o + j,none⟩ = some u
  live:∀ j,j < cap → (w.cell? ⟨g,o + j,none⟩).isSome = true ∧ w.frozen? ⟨g,o + j,none⟩ = false
theorem RowC.q {w:World} {g o cap:Nat} {L:List Int} (h:RowC w g o cap L) {n:Nat} (hn:n = L.length):RowQ inC 1 w (.slice (some ⟨g,o,none⟩) n cap) L :=
  .inr ⟨g,o,cap,by rw [hn],h.le,h.mx,h.lt,fun j u hu => h.cell j u (by rw [rowI_map] at hu; exact hu),fun j hj => h.live j (by omega)⟩
theorem RowQ.c {w:World} {v:Value} {L:List Int} (h:RowQ inC 1 w v L):(v = .slice none 0 0 ∧ L = []) ∨ ∃ g o cap,v = .slice (some ⟨g,o,none⟩) L.length cap ∧ RowC w g o cap L:=by
  rcases h with h | ⟨g,o,cap,hv,h1,h2,h3,h4,h5⟩
  · exact .inl h
  · exact .inr ⟨g,o,cap,hv,h1,h2,h3,fun j u hu => h4 j u (by rw [rowI_map]; exact hu),fun j hj => h5 j (by omega)⟩
theorem some_setCell {w:World} {x:Addr} (h:(w.cell? x).isSome = true) (a:Addr) (u:Value):((w.setCell a u).cell? x).isSome = true:=by
  by_cases e:a = x
  · subst e; rw [World.cell?_setCell_same' _ _ _ h]; rfl
  · rw [World.cell?_setCell_other _ _ _ _ e]; exact h
theorem some_setCells (g:Nat):∀ (vs:List Value) (q:Nat) (w:World) (x:Addr),(w.cell? x).isSome = true → ((w.setCells g q vs).cell? x).isSome = true
  | [],q,w,x,h => h
  | b :: vs,q,w,x,h => some_setCells g vs _ _ _ (some_setCell h _ _)
theorem kept_setCells {w w':World} {g:Nat} {O:Nat → Prop} (h:Kept O w w') (hg:O g) (o:Nat) (vs:List Value):Kept O w (w'.setCells g o vs):=by
  obtain ⟨r1,r2,r3⟩:=setCells_rest w' g o vs
  exact ⟨r1.trans h.os,r2.trans h.tape,r3.trans h.output,by rw [setCells_size]; exact h.size,fun k hk hn => (setCells_heap _ _ _ _ (fun e => hn (by rw [e]; exact hg))).trans (h.block k hk hn)⟩
theorem bel_drewN (w:World) (q:Nat):Below w.heap.size w (w.drewN q):=⟨rfl,rfl,rfl,Nat.le_refl _,fun k hk => rfl⟩
theorem setCells_at {w:World} {g o:Nat} {vs:List Value} (hs:∀ j,j < vs.length → (w.cell? ⟨g,o + j,none⟩).isSome = true) {p:Nat} {u:Value} :
    (p < o ∨ o + vs.length ≤ p → (w.setCells g o vs).cell? ⟨g,p,none⟩ = w.cell? ⟨g,p,none⟩) ∧ (∀ j,p = o + j → vs[j]? = some u → (w.setCells g o vs).cell? ⟨g,p,none⟩ = some u):=by
  refine ⟨fun h => World.cell?_setCells_out _ _ _ _ _ (fun _ _ => h), ?_⟩
  rintro j rfl hj
  obtain ⟨h1,h2⟩:=List.getElem?_eq_some_iff.1 hj
  rw [World.cell?_setCells_in _ _ _ _ hs j h1,h2]
theorem RowC.shift {w w':World} {g o cap i:Nat} {L:List Int} {x:Int} (h:RowC w g o cap L) (hi:i ≤ L.length) (hr:L.length + 1 ≤ cap)
    (hw:w' = (w.drew.setCells g (o + (i + 1)) ((L.map (Value.int .i64)).drop i)).setCells g (o + i) [.int .i64 x]):RowC w' g o cap (L.take i ++ x :: L.drop i) ∧ Kept (fun k => k = g) w w':=by
  have hl:((L.map (Value.int .i64)).drop i).length = L.length - i:=by simp
  have s0:∀ j,j < cap → (w.drew.cell? ⟨g,o + j,none⟩).isSome = true:=fun j hj => (h.live j hj).1
  have s1:∀ j,j < ((L.map (Value.int .i64)).drop i).length → (w.drew.cell? ⟨g,o + (i + 1) + j,none⟩).isSome = true:=fun j hj => by
    rw [hl] at hj
    rw [Nat.add_assoc]
    exact s0 _ (by omega)
  have s2:∀ j,j < [Value.int .i64 x].length → ((w.drew.setCells g (o + (i + 1)) ((L.map (Value.int .i64)).drop i)).cell? ⟨g,o + i + j,none⟩).isSome = true:=fun j hj => some_setCells _ _ _ _ _ (by
    simp at hj
    subst hj
    exact s0 _ (by omega))
  subst hw
  refine ⟨⟨by simp; omega,h.mx,by rw [setCells_size,setCells_size]; exact h.lt,fun j u hu => ?_,fun j hj => ⟨some_setCells _ _ _ _ _ (some_setCells _ _ _ _ _ (s0 j hj)), ?_⟩⟩, ?_⟩
  · simp only [List.map_append,List.map_cons,List.map_take,List.map_drop] at hu
    have ht:((L.map (Value.int .i64)).take i).length = i:=by simp; omega
    by_cases h1:j < i
    · rw [List.getElem?_append_left (by omega),List.getElem?_take,if_pos h1] at hu
      rw [(setCells_at s2 (u:=u)).1 (.inl (by omega)),(setCells_at s1 (u:=u)).1 (.inl (by omega))]
      exact h.cell j u hu
    · rw [List.getElem?_append_right (by omega),ht] at hu
      by_cases h2:j = i
      · subst h2
        rw [Nat.sub_self] at hu
        exact (setCells_at s2).2 0 rfl hu
      · obtain ⟨d,rfl⟩:∃ d,j = i + 1 + d:=⟨j - (i + 1),by omega⟩
        rw [show i + 1 + d - i = d + 1 by omega,List.getElem?_cons_succ] at hu
        rw [(setCells_at s2 (u:=u)).1 (.inr (by simp; omega))]
        exact (setCells_at s1).2 d (by omega) hu
  · rw [World.frozen?_setCells,World.frozen?_setCells]
    exact (h.live j hj).2
  · exact kept_setCells (O:=fun k => k = g) (kept_setCells (O:=fun k => k = g) (.of_below (Below.refl _ w).drew) rfl _ _) rfl _ _
theorem RowC.endRoom {w w':World} {g o cap:Nat} {L:List Int} {x:Int} (h:RowC w g o cap L) (hr:L.length + 1 ≤ cap) (hw:w' = w.setCells g (o + L.length) [.int .i64 x]):RowC w' g o cap (L ++ [x]) ∧ Kept (fun k => k = g) w w':=by
  have s2:∀ j,j < [Value.int .i64 x].length → (w.cell? ⟨g,o + L.length + j,none⟩).isSome = true:=fun j hj => by
    simp at hj
    subst hj
    exact (h.live _ (by omega)).1
  subst hw
  refine ⟨⟨by simp; omega,h.mx,by rw [setCells_size]; exact h.lt,fun j u hu => ?_,fun j hj => ⟨some_setCells _ _ _ _ _ (h.live j hj).1,by rw [World.frozen?_setCells]; exact (h.live j hj).2⟩⟩,kept_setCells (O:=fun k => k = g) (.refl _ _) rfl _ _⟩
  rw [List.map_append] at hu
  by_cases h1:j < L.length
  · rw [List.getElem?_append_left (by simpa using h1)] at hu
    rw [(setCells_at s2 (u:=u)).1 (.inl (by omega))]
    exact h.cell j u hu
  · rw [List.getElem?_append_right (by simpa using h1)] at hu
    exact (setCells_at s2).2 (j - L.length) (by omega) (by simpa using hu)
theorem RowC.made {w w':World} {cap:Nat} {L:List Int} {cs:Array Value} {t:TypeId} (hw:w' = w.drew.alloc (.cells cs t)) (hs:cs.size = cap) (hm:cap ≤ maxLen) (hl:L.length ≤ cap) (hc:∀ (j:Nat) (u:Value),(L.map (Value.int .i64))[j]? = some u → cs[j]? = some u):RowC w' w.heap.size 0 cap L ∧ Below w.heap.size w w':=by
  subst hw
  have hh:(w.drew.alloc (.cells cs t)).heap[w.heap.size]? = some (.cells cs t (0,0)):=heap_alloc_new w.drew _
  refine ⟨⟨hl,hm,by simp,fun j u hu => ?_,fun j hj => ⟨?_, ?_⟩⟩,(Below.refl _ w).drew.alloc (Nat.le_refl _) _⟩
  · rw [Nat.zero_add,Lib.cell_of_heap hh]; exact hc j u hu
  · rw [Nat.zero_add,Lib.cell_of_heap hh,Array.getElem?_eq_getElem (by omega)]; rfl
  · exact Lib.frozen_of_heap hh _
theorem RowC.made2 {w w':World} {cap i:Nat} {L:List Int} {x:Int} {cs:Array Value} {t:TypeId} (hi:i ≤ L.length) (hs:cs.size = cap) (hm:cap ≤ maxLen) (hl:L.length + 1 ≤ cap) (hc:∀ j,j < i → cs[j]? = (L.map (Value.int .i64))[j]?)
    (hw:w' = (((w.alloc (.cells cs t)).drew.setCells w.heap.size i [.int .i64 x]).drew).setCells w.heap.size (i + 1) ((L.map (Value.int .i64)).drop i)):RowC w' w.heap.size 0 cap (L.take i ++ x :: L.drop i) ∧ Below w.heap.size w w':=by
  have hh:(w.alloc (.cells cs t)).drew.heap[w.heap.size]? = some (.cells cs t (0,0)):=heap_alloc_new w _
  have hb:Below w.heap.size w (w.alloc (.cells cs t)).drew:=((Below.refl _ w).alloc (Nat.le_refl _) _).drew
  have s0:∀ j,j < cap → ((w.alloc (.cells cs t)).drew.cell? ⟨w.heap.size,j,none⟩).isSome = true:=fun j hj => by
    rw [Lib.cell_of_heap hh,Array.getElem?_eq_getElem (by omega)]; rfl
  generalize (w.alloc (.cells cs t)).drew = w1 at hw hh s0 hb
  have hl2:((L.map (Value.int .i64)).drop i).length = L.length - i:=by simp
  have s1:∀ j,j < [Value.int .i64 x].length → (w1.cell? ⟨w.heap.size,i + j,none⟩).isSome = true:=fun j hj => by
    simp at hj
    subst hj
    exact s0 _ (by omega)
  have s2:∀ j,j < ((L.map (Value.int .i64)).drop i).length → ((w1.setCells w.heap.size i [.int .i64 x]).drew.cell? ⟨w.heap.size,i + 1 + j,none⟩).isSome = true:=fun j hj => by
    rw [hl2] at hj
    exact some_setCells _ _ _ _ _ (s0 _ (by omega))
  subst hw
  refine ⟨⟨by simp; omega,hm,by rw [setCells_size]; show _ < (w1.setCells _ _ _).heap.size; rw [setCells_size]; exact heap_some_lt hh,fun j u hu => ?_,fun j hj => ⟨by rw [Nat.zero_add]; exact some_setCells _ _ _ _ _ (some_setCells _ _ _ _ _ (s0 j hj)), ?_⟩⟩, ?_⟩
  · rw [Nat.zero_add]
    simp only [List.map_append,List.map_cons,List.map_take,List.map_drop] at hu
    have ht:((L.map (Value.int .i64)).take i).length = i:=by simp; omega
    by_cases h1:j < i
    · rw [List.getElem?_append_left (by omega),List.getElem?_take,if_pos h1] at hu
      rw [(setCells_at s2 (u:=u)).1 (.inl (by omega))]
      show (w1.setCells _ _ _).cell? _ = _
      rw [(setCells_at s1 (u:=u)).1 (.inl (by omega)),Lib.cell_of_heap hh,hc j h1]
      exact hu
    · rw [List.getElem?_append_right (by omega),ht] at hu
      by_cases h2:j = i
      · subst h2
        rw [Nat.sub_self] at hu
        rw [(setCells_at s2 (u:=u)).1 (.inl (by omega))]
        exact (setCells_at s1).2 0 rfl hu
      · obtain ⟨d,rfl⟩:∃ d,j = i + 1 + d:=⟨j - (i + 1),by omega⟩
        rw [show i + 1 + d - i = d + 1 by omega,List.getElem?_cons_succ] at hu
        exact (setCells_at s2).2 d rfl hu
  · rw [World.frozen?_setCells]
    show (w1.setCells _ _ _).frozen? _ = _
    rw [World.frozen?_setCells]
    exact Lib.frozen_of_heap hh _
  · refine (kept_setCells (O:=fun k => k = w.heap.size) ?_ rfl _ _).below (Below.refl _ w) (Nat.le_refl _) (fun k h => by omega)
    have k1:=kept_setCells (O:=fun k => k = w.heap.size) (.of_below hb) rfl i [.int .i64 x]
    exact ⟨k1.os,k1.tape,k1.output,k1.size,k1.block⟩
theorem RowC.cutAt {w w':World} {g o cap i q:Nat} {L:List Int} (h:RowC w g o cap L) (hi:i < L.length) (hw:w' = (w.drewN q).setCells g o ((L.take i ++ L.drop (i + 1) ++ List.replicate 1 0).map (Value.int .i64))):RowC w' g o cap (L.take i ++ L.drop (i + 1)) ∧ Kept (fun k => k = g) w w':=by
  have hl:((L.take i ++ L.drop (i + 1) ++ List.replicate 1 (0:Int)).map (Value.int .i64)).length = L.length:=by simp; omega
  have s1:∀ j,j < ((L.take i ++ L.drop (i + 1) ++ List.replicate 1 (0:Int)).map (Value.int .i64)).length → ((w.drewN q).cell? ⟨g,o + j,none⟩).isSome = true:=fun j hj => (h.live j (by have:=h.le; omega)).1
  subst hw
  refine ⟨⟨by have:=h.le; simp; omega,h.mx,by rw [setCells_size]; exact h.lt,fun j u hu => ?_,fun j hj => ⟨some_setCells _ _ _ _ _ (h.live j hj).1,by rw [World.frozen?_setCells]; exact (h.live j hj).2⟩⟩,kept_setCells (O:=fun k => k = g) (.of_below (bel_drewN w q)) rfl _ _⟩
  refine (setCells_at s1).2 j rfl ?_
  rw [List.map_append,List.getElem?_append_left ?_]
  · exact hu
  · rcases Nat.lt_or_ge j ((L.take i ++ L.drop (i + 1)).map (Value.int .i64)).length with h1 | h1
    · exact h1
    · rw [List.getElem?_eq_none h1] at hu; cases hu
end Go.Proofs.YtimdkcchjanpaaaGreatDoor
namespace Go.Proofs.YtimdkcchjanpaaaGreatDoor
open Go.RowKit Go.Shelf
set_option linter.unusedVariables false
def lyIx_ren:Go.Shelf.Ren:=⟨fun | 108 => 163 | n => n,fun | 28 => 48 | 3 => 3 | 0 => 0 | 4 => 4 | n => n,fun | n => n⟩
theorem lyIx:Go.Proofs.Lays.n108 Tryz.prog lyIx_ren := {
  mixed:=by kernel_rfl
  f108:=Tryz.func163.trans (congrArg some (by kernel_rfl))
  t0:=Tryz.underlying0
  a0:=Tryz.isAgg0
  z0:=Tryz.sizeOf0
  v0:=Tryz.zeroValue0
  t3:=Tryz.underlying3
  a3:=Tryz.isAgg3
  z3:=Tryz.sizeOf3
  v3:=Tryz.zeroValue3
  t4:=Tryz.underlying4
  a4:=Tryz.isAgg4
  z4:=Tryz.sizeOf4
  v4:=Tryz.zeroValue4
  t28:=Tryz.underlying48
  a28:=Tryz.isAgg48
  z28:=Tryz.sizeOf48
  v28:=Tryz.zeroValue48 }
def lyDel_ren:Go.Shelf.Ren:=⟨fun | 23 => 144 | n => n,fun | 22 => 48 | 3 => 3 | 4 => 4 | 0 => 0 | n => n,fun | n => n⟩
theorem lyDel:Go.Proofs.Lays2.n23 Tryz.prog lyDel_ren := {
  mixed:=by kernel_rfl
  f23:=Tryz.func144.trans (congrArg some (by kernel_rfl))
  t0:=Tryz.underlying0
  a0:=Tryz.isAgg0
  z0:=Tryz.sizeOf0
  v0:=Tryz.zeroValue0
  t3:=Tryz.underlying3
  a3:=Tryz.isAgg3
  z3:=Tryz.sizeOf3
  v3:=Tryz.zeroValue3
  t4:=Tryz.underlying4
  a4:=Tryz.isAgg4
  z4:=Tryz.sizeOf4
  v4:=Tryz.zeroValue4
  t22:=Tryz.underlying48
  a22:=Tryz.isAgg48
  z22:=Tryz.sizeOf48
  v22:=Tryz.zeroValue48
  i3:=by kernel_rfl }
def lyIns_ren:Go.Shelf.Ren:=⟨fun | 21 => 159 | 27 => 164 | 28 => 165 | 35 => 169 | 39 => 170 | n => n,fun | 22 => 48 | 3 => 3 | 4 => 4 | 0 => 0 | n => n,fun | n => n⟩
theorem lyIns:Go.Proofs.Lays2.n21 Tryz.prog lyIns_ren := {
  mixed:=by kernel_rfl
  f21:=Tryz.func159.trans (congrArg some (by kernel_rfl))
  f27:=Tryz.func164.trans (congrArg some (by kernel_rfl))
  f28:=Tryz.func165.trans (congrArg some (by kernel_rfl))
  f35:=Tryz.func169.trans (congrArg some (by kernel_rfl))
  f39:=Tryz.func170.trans (congrArg some (by kernel_rfl))
  t0:=Tryz.underlying0
  a0:=Tryz.isAgg0
  z0:=Tryz.sizeOf0
  v0:=Tryz.zeroValue0
  t3:=Tryz.underlying3
  a3:=Tryz.isAgg3
  z3:=Tryz.sizeOf3
  v3:=Tryz.zeroValue3
  t4:=Tryz.underlying4
  a4:=Tryz.isAgg4
  z4:=Tryz.sizeOf4
  v4:=Tryz.zeroValue4
  t22:=Tryz.underlying48
  a22:=Tryz.isAgg48
  z22:=Tryz.sizeOf48
  v22:=Tryz.zeroValue48
  i3:=by kernel_rfl }
theorem sl_index_v {w:World} {v:Value} {L:List Int} {x:Int} {i:Nat} (h:RowQ inC 1 w v L) (hl:L.length ≤ 1000000) (hn:L.Nodup) (hx:L[i]? = some x) :
    Calls Tryz.prog 163 #[v, .int .i64 x] w fun e w' => e = .returned (.int .i64 i) ∧ w' = w:=by
  obtain ⟨hi,hx⟩:=List.getElem?_eq_some_iff.1 hx
  rcases h.c with ⟨_,rfl⟩ | ⟨g,o,cap,rfl,hc⟩
  · simp at hi
  · have h0:=Any.slices_Index_int lyIx g o L.length cap L x w (Nat.le_refl _) (by omega) (fun j hj => hc.cell j _ (by rw [List.getElem?_map,List.getElem?_eq_getElem hj,List.getD_eq_getElem?_getD,List.getElem?_eq_getElem hj]; rfl))
    rw [Lib.idxOf_hit L L.length i x hi (Nat.le_refl _) (by rw [List.getD_eq_getElem?_getD,List.getElem?_eq_getElem hi]; exact hx) (fun j hj e => by
      rw [List.getD_eq_getElem?_getD,List.getElem?_eq_getElem (by omega)] at e
      have:=(List.getElem_inj hn).1 (show L[j]'(by omega) = L[i] from e.trans hx.symm)
      omega)] at h0
    exact h0
theorem sl_delete_v {w:World} {v:Value} {L:List Int} {i:Nat} (h:RowQ inC 1 w v L) (hi:i < L.length) :
    Calls Tryz.prog 144 #[v, .int .i64 i, .int .i64 ((i:Int) + 1)] w fun e w' => ∃ v',e = .returned v' ∧ RowQ inC 1 w' v' (L.take i ++ L.drop (i + 1)) ∧ Kept (OwnO v) w w' ∧ Grows (OwnO v) w (OwnO v'):=by
  rcases h.c with ⟨_,rfl⟩ | ⟨g,o,cap,rfl,hc⟩
  · simp at hi
  · have h0:=Any.slices_Delete_int_cells lyDel g o L.length cap i (i + 1) L w (Nat.le_refl _) hc.le (by have:=hc.mx; unfold maxLen at this; omega) (by omega) (by omega) (fun j hj => hc.cell j _ (by rw [List.getElem?_map,List.getElem?_eq_getElem hj,List.getD_eq_getElem?_getD,List.getElem?_eq_getElem hj]; rfl)) (fun j hj => (hc.live j (by have:=hc.le; omega)).2)
    rw [List.take_length,show i + 1 - i = 1 by omega,show ((i + 1:Nat):Int) = (i:Int) + 1 by omega] at h0
    refine h0.mono ?_
    rintro e w' ⟨rfl,q,hw⟩
    obtain ⟨h1,h2⟩:=hc.cutAt hi hw
    exact ⟨_,rfl,h1.q (by simp; omega),⟨h2.os,h2.tape,h2.output,h2.size,fun k hk hn => h2.block k hk (fun e => hn (by subst e; rfl))⟩,fun k hk => .inl hk⟩
theorem sl_delete0_v {w:World} {v:Value} {x:Int} {L:List Int} (h:RowQ inC 1 w v (x :: L)) :
    Calls Tryz.prog 144 #[v, .int .i64 0, .int .i64 1] w fun e w' => ∃ v',e = .returned v' ∧ RowQ inC 1 w' v' L ∧ Kept (OwnO v) w w' ∧ Grows (OwnO v) w (OwnO v'):=sl_delete_v (i:=0) h (by simp)
theorem zero_cells (n:Nat):(Builtin.zeroCells (Value.int .i64 0).cells n).size = n:=by
  rw [size_zeroCells]
  exact Nat.mul_one n
theorem sl_insert_v {w:World} {v:Value} {L:List Int} {i vb:Nat} {x:Int} {t:TypeId} (h:RowQ inC 1 w v L) (hi:i ≤ L.length) (hl:L.length ≤ 1000000) (hv:w.heap[vb]? = some (.cells #[.int .i64 x] t (0,0))) (hn:¬ OwnO v vb) :
    Calls Tryz.prog 159 #[v, .int .i64 i, .slice (some ⟨vb,0,none⟩) 1 1] w fun e w' => ∃ v',e = .returned v' ∧ RowQ inC 1 w' v' (L.take i ++ x :: L.drop i) ∧ Kept (OwnO v) w w' ∧ Grows (OwnO v) w (OwnO v'):=by
  have hvs:∀ (j:Nat) (u:Value), [Value.int .i64 x][j]? = some u → w.cell? ⟨vb,0 + j,none⟩ = some u:=fun j u hu => by
    rw [Lib.cell_of_heap hv,Nat.zero_add]
    simpa using hu
  have hone:∀ v ∈ [Value.int .i64 x],v.oneCell' = true:=fun v h => by simp at h; subst h; rfl
  have hoc:=int_one L
  have hmapl:(L.map (Value.int .i64)).length = L.length:=by simp
  have hdone:∀ {e:Ending} {w':World} {g cap:Nat} {L':List Int},RowC w' w.heap.size 0 cap L' ∧ Below w.heap.size w w' → e = .returned (.slice (some ⟨w.heap.size,0,none⟩) L'.length cap) → ∃ v',e = .returned v' ∧ RowQ inC 1 w' v' L' ∧ Kept (OwnO v) w w' ∧ Grows (OwnO v) w (OwnO v'):=fun ⟨h1,h2⟩ he =>
    ⟨_,he,h1.q rfl, .of_below h2,fun k hk => .inr (by injection hk with hk; have hk:w.heap.size = k:=hk; omega)⟩
  have hgl:∀ n:Nat,n ≤ 1000001 → ∀ (c:Nat),grownCap w n c (lyIns_ren.t 3) ≤ maxLen:=fun n hn c => grownCap_le_maxLen _ _ _ _ (by unfold maxLen; omega)
  rcases h.c with ⟨rfl,rfl⟩ | ⟨g,o,cap,rfl,hc⟩
  · obtain rfl:i = 0:=by simpa using hi
    refine (Any2.slices_Insert_int_end_grow lyIns none 0 0 vb 0 1 1 [] [.int .i64 x] w (by decide) (Nat.le_refl _) (by decide) (by decide) rfl rfl (fun _ => rfl) (fun a h => by cases h) hvs hone).mono ?_
    rintro e w' ⟨he,hw⟩
    have hge:=grownCap_ge w (0 + 1) 0 (lyIns_ren.t 3)
    refine hdone (g:=0) (RowC.made (cap:=grownCap w (0 + 1) 0 (lyIns_ren.t 3)) hw (by rw [Array.size_append,zero_cells]; simp only [List.nil_append,List.size_toArray,List.length_singleton]; omega) (hgl (0 + 1) (by omega) 0) (by simpa using hge) (fun j u hu => ?_)) (by simpa using he)
    have hj:j < 1:=by
      rcases Nat.lt_or_ge j 1 with h | h
      · exact h
      · rw [List.getElem?_eq_none (by simpa using h)] at hu; cases hu
    rw [Array.getElem?_append_left (by simpa using hj)]
    simpa using hu
  · have hroom:∀ {w':World} {L':List Int},RowC w' g o cap L' ∧ Kept (fun k => k = g) w w' → L'.length = L.length + 1 → ∀ {e:Ending},e = .returned (.slice (some ⟨g,o,none⟩) (L.length + 1) cap) →
        ∃ v',e = .returned v' ∧ RowQ inC 1 w' v' L' ∧ Kept (OwnO (.slice (some ⟨g,o,none⟩) L.length cap)) w w' ∧ Grows (OwnO (.slice (some ⟨g,o,none⟩) L.length cap)) w (OwnO v'):=fun ⟨h1,h2⟩ hlen e he =>
      ⟨_,he,h1.q hlen.symm,⟨h2.os,h2.tape,h2.output,h2.size,fun k hk hn => h2.block k hk (fun e => hn (by subst e; rfl))⟩,fun k hk => .inl hk⟩
    have hbig:cap ≤ 9223372036854775807:=by have:=hc.mx; unfold maxLen at this; omega
    have hne:vb ≠ g:=fun e => hn (by subst e; rfl)
    rcases Nat.lt_or_ge i L.length with hlt | hge
    · by_cases hr:L.length + 1 ≤ cap
      · obtain ⟨u,hu⟩:=Option.isSome_iff_exists.1 (hc.live 0 (by omega)).1
        obtain ⟨tB,kB,hsB,hkB,_⟩:=World.shape?_of_cell? hu
        refine (Any2.slices_Insert_int_shift lyIns g o L.length cap i vb 0 1 1 (L.map (Value.int .i64)) [.int .i64 x] w hlt (by decide) hr hbig hne hmapl rfl hc.cell (fun j hj => (hc.live j (by omega)).1) (fun j hj => (hc.live j (by omega)).2) hvs hoc hone t tB 1 kB (by unfold World.shape?; rw [hv]; rfl) hsB (by omega) (Lib.frozen_of_heap hv 0) (Lib.frozen_of_heap hv 1)).mono ?_
        rintro e w' ⟨he,hw⟩
        exact hroom (hc.shift hi hr hw) (by simp; omega) he
      · refine (Any2.slices_Insert_int_grow lyIns g o L.length cap i vb 0 1 1 (L.map (Value.int .i64)) [.int .i64 x] w hlt (by decide) hc.le (by omega) (by omega) hmapl rfl hc.cell hvs hoc hone).mono ?_
        rintro e w' ⟨he,hw⟩
        have hge:=grownCap_ge w (L.length + 1) cap (lyIns_ren.t 3)
        have hm:=hgl (L.length + 1) (by omega) cap
        refine hdone (g:=0) (RowC.made2 hi ?_ hm hge (fun j hj => ?_) hw) (by rw [he]; congr 3; simp; omega)
        · simp only [Array.size_append,zero_cells,List.size_toArray,List.length_take,hmapl]
          omega
        · rw [Array.append_assoc,Array.getElem?_append_left (by simp; omega)]
          simp [hj]
    · obtain rfl:i = L.length:=by omega
      rw [List.take_length,List.drop_length]
      by_cases hr:L.length + 1 ≤ cap
      · refine (Any2.slices_Insert_int_end_room lyIns g o L.length cap vb 0 1 1 [.int .i64 x] w (by decide) hr hbig rfl (fun j hj => by rw [Nat.add_assoc]; exact (hc.live _ (by omega)).1) (fun j hj => by rw [Nat.add_assoc]; exact (hc.live _ (by omega)).2) hvs hone).mono ?_
        rintro e w' ⟨he,hw⟩
        exact hroom (hc.endRoom hr hw) (by simp) he
      · refine (Any2.slices_Insert_int_end_grow lyIns (some ⟨g,o,none⟩) L.length cap vb 0 1 1 (L.map (Value.int .i64)) [.int .i64 x] w (by decide) hc.le (by omega) (by omega) hmapl rfl (fun h => by cases h) (fun a ha j u hu => by injection ha with ha; subst ha; rw [qaddr]; exact hc.cell j u hu) hvs hone).mono ?_
        rintro e w' ⟨he,hw⟩
        have hge:=grownCap_ge w (L.length + 1) cap (lyIns_ren.t 3)
        have hm:=hgl (L.length + 1) (by omega) cap
        refine hdone (g:=0) (RowC.made hw ?_ hm (by simpa using hge) (fun j u hu => ?_)) (by rw [he]; congr 3; simp)
        · rw [Array.size_append,zero_cells]
          simp only [List.size_toArray,List.length_append,hmapl,List.length_singleton]
          omega
        · have hj:j < L.length + 1:=by
            rcases Nat.lt_or_ge j (L.length + 1) with h | h
            · exact h
            · rw [List.getElem?_eq_none (by simpa using h)] at hu; cases hu
          rw [Array.getElem?_append_left (by simpa using hj)]
          simpa using hu
end Go.Proofs.YtimdkcchjanpaaaGreatDoor
namespace Go.Proofs.YtimdkcchjanpaaaGreatDoor
open Go.RowKit Go.Shelf
set_option linter.unusedVariables false
variable {TB:TypeId} {od:Nat} {X Y:List Value}
def SrchP (n:Nat) (p:Nat → Bool) (w:World) (e:Ending) (w':World):Prop:=(∃ k:Nat,k ≤ n ∧ e = .returned (.int .i64 k) ∧ (∀ t,t < k → p t = false) ∧ ∀ t,k ≤ t → t < n → p t = true) ∧ Below w.heap.size w w'
def SrchI (n:Nat) (p:Nat → Bool) (lo hi:Nat):Prop:=(∀ t,t < lo → p t = false) ∧ ∀ t,hi ≤ t → t < n → p t = true
theorem search_v (g:Nat) (cb:Array Value) (n:Nat) (p:Nat → Bool) (w:World) (eg:∀ args w,(callFunc g args).run Tryz.prog w = .ok (.enter g args) w) (hsz:n ≤ 1000000)
    (hf:∀ (W:World) (i:Nat),Below w.heap.size w W → i < n → Calls Tryz.prog g (#[.int .i64 i] ++ cb) W fun e w' => e = .returned (.bool (p i)) ∧ Below W.heap.size W w')
    (hmono:∀ a b,a ≤ b → b < n → p a = true → p b = true):Calls Tryz.prog 166 #[.int .i64 n, .func (.func g) #[] cb] w (SrchP n p w):=by
  have HF:=Lib.hid hf
  have HM:=Lib.hid hmono
  have hsz2:(n:Int) ≤ 1000000:=by omega
  clear hf hmono
  go_enter Tryz.func166,Tryz.ntmps166
  go_wp2
  go_loopg [5,6] n (fun kx s5 s6 wr => ∃ (lo hi:Nat),s5 = .int .i64 lo ∧ s6 = .int .i64 hi ∧ lo ≤ hi ∧ hi ≤ n ∧ hi - lo ≤ kx ∧ Hid (Below w.heap.size w wr) ∧ Hid (SrchI n p lo hi))
  case atStart => exact ⟨0,n,rfl,rfl,Nat.zero_le _,Nat.le_refl _,by omega,Lib.hid (Below.refl _ w),Lib.hid ⟨fun t ht => absurd ht (Nat.not_lt_zero _),fun t h1 h2 => by omega⟩⟩
  case round =>
    obtain ⟨lo,hi,rfl,rfl,hlh,hin,hg,HB,HI⟩:=hrel
    by_cases hlt:lo < hi
    · have hc:=HF.out wr ((lo + hi) / 2) HB.out (by omega)
      rw [show (((lo + hi) / 2:Nat):Int) = ((lo:Int) + (hi:Int)) / 2 by omega] at hc
      cases hp:p ((lo + hi) / 2) <;> rw [hp] at hc
      · have HP:=Lib.hid hp
        clear hp
        go_wp2_with (go_at_fn g; refine hc.mono ?_; rintro e w' ⟨rfl,hb'⟩; have HB':=Lib.hid (fbelow_t HB.out hb'); clear hb')
        go_roundg (hi - ((lo + hi) / 2 + 1))
        case measure => omega
        case rel =>
          have I2:Hid (SrchI n p ((lo + hi) / 2 + 1) hi):=Lib.hid ⟨fun t ht => (by
            cases h:p t with
            | false => rfl
            | true => have:=HM.out t ((lo + hi) / 2) (by omega) (by omega) h; rw [HP.out] at this; cases this),HI.out.2⟩
          exact ⟨(lo + hi) / 2 + 1,hi,by rw [show ((lo:Int) + (hi:Int)) / 2 + 1 = (((lo + hi) / 2 + 1:Nat):Int) by omega],rfl,by omega,hin,Nat.le_refl _,HB',I2⟩
      · have HP:=Lib.hid hp
        clear hp
        go_wp2_with (go_at_fn g; refine hc.mono ?_; rintro e w' ⟨rfl,hb'⟩; have HB':=Lib.hid (fbelow_t HB.out hb'); clear hb')
        go_roundg ((lo + hi) / 2 - lo)
        case measure => omega
        case rel =>
          have I2:Hid (SrchI n p lo ((lo + hi) / 2)):=Lib.hid ⟨HI.out.1,fun t ht htn => HM.out ((lo + hi) / 2) t ht htn HP.out⟩
          exact ⟨lo,(lo + hi) / 2,rfl,by rw [show ((lo:Int) + (hi:Int)) / 2 = (((lo + hi) / 2:Nat):Int) by omega],by omega,by omega,Nat.le_refl _,HB',I2⟩
    · obtain rfl:hi = lo:=by omega
      go_wp2
      go_ret
      exact ⟨⟨hi,hin,rfl,HI.out.1,HI.out.2⟩,HB.out⟩
instance:Inhabited Pk:=⟨pk0⟩
theorem free_pred (w:World):PredBelow Tryz.prog 158 #[] (fun x => .agg (mbC x).toArray) (fun x => decide (x.1 = 0)) w:=fun W x hb => by
  show Calls Tryz.prog 158 #[.agg #[.int .i64 x.1, .int .i64 x.2.f.i, .int .i64 x.2.f.n, .int .i64 x.2.f.l, .string x.2.f.d, .int .i64 x.2.fr, .int .i64 x.2.tag, .bool x.2.lp]] W _
  go_enter Tryz.func158,Tryz.ntmps158
  go_wp2
  all_goals (go_ret; exact ⟨by simp_all; rfl,hb.alloc hb.size _⟩)
def lyIf_ren:Go.Shelf.Ren:=⟨fun | 6 => 157 | n => n,fun | 22 => 74 | 23 => 170 | 25 => 192 | 3 => 3 | 4 => 4 | 0 => 0 | n => n,fun | n => n⟩
theorem lyIf:Go.Proofs.SlLaysH0.n6 Tryz.prog lyIf_ren := {
  mixed:=by kernel_rfl
  f6 := ⟨ "slices.IndexFunc[[]signalbox/box.mailbox,signalbox/box.mailbox]", by kernel_rfl, Tryz.func157.trans (congrArg some (by kernel_rfl))⟩
  t0:=Tryz.underlying0
  a0:=Tryz.isAgg0
  z0:=Tryz.sizeOf0
  v0:=Tryz.zeroValue0
  t3:=Tryz.underlying3
  a3:=Tryz.isAgg3
  z3:=Tryz.sizeOf3
  v3:=Tryz.zeroValue3
  t4:=Tryz.underlying4
  a4:=Tryz.isAgg4
  z4:=Tryz.sizeOf4
  v4:=Tryz.zeroValue4
  t22:=Tryz.underlying74
  a22:=Tryz.isAgg74
  z22:=Tryz.sizeOf74
  v22:=Tryz.zeroValue74
  t25:=Tryz.underlying192
  a25:=Tryz.isAgg192
  z25:=Tryz.sizeOf192
  v25:=Tryz.zeroValue192 }
theorem mail_enters:∀ args w,(callFunc 158 args).run Tryz.prog w = .ok (.enter 158 args) w:=enters_of Tryz.func158 (by kernel_rfl) rfl
theorem first_idx {M:List (Int × Pk)} {s:Bx} (hS:M.map (·.1) = s.S):Lib.idxBy (fun _ y => decide (y.1 = 0)) M default = match s.first s.S.length with | some i => (i:Int) | none => -1:=by
  have hl:s.S.length = M.length:=by rw [← hS]; simp
  have hg:∀ j,j < M.length → (M[j]!).1 = s.S.getD j 0:=fun j hj => by
    rw [getElem!_pos M j hj,← hS,List.getD_eq_getElem?_getD,List.getElem?_map,List.getElem?_eq_getElem hj]; rfl
  have hm:=Lib.idxBy_miss (fun (_:Int × Pk) y => decide (y.1 = 0)) M M.length default
  have hh:=fun k hk => Lib.idxBy_hit (fun (_:Int × Pk) y => decide (y.1 = 0)) M M.length k default hk (Nat.le_refl _)
  rw [List.take_length] at hm
  simp only [List.take_length] at hh
  by_cases h:∃ i,i < s.S.length ∧ s.S.getD i 0 = 0
  · have h2:∃ i,(i < s.S.length ∧ s.S.getD i 0 = 0) ∧ ∀ j,j < i → s.S.getD j 0 ≠ 0:=by
      obtain ⟨i,hi⟩:=h
      induction i using Nat.strongRecOn with
      | ind i ih =>
        by_cases hx:∃ j,j < i ∧ s.S.getD j 0 = 0
        · obtain ⟨j,hj1,hj2⟩:=hx
          exact ih j hj1 ⟨by omega,hj2⟩
        · exact ⟨i,hi,fun j hj e => hx ⟨j,hj,e⟩⟩
    obtain ⟨i,⟨h3,h4⟩,h5⟩:=h2
    rw [Bx.first_spec h3 h4 h5]
    exact hh i (by omega) (by rw [hg i (by omega)]; simpa using h4) (fun j hj => by rw [hg j (by omega)]; simpa using h5 j hj)
  · rw [Bx.first_none (fun j hj e => h ⟨j,hj,e⟩)]
    exact hm (fun j hj => by rw [hg j hj]; simpa using fun e => h ⟨j,by omega,e⟩)
theorem indexfunc_v {w:World} {b g:Nat} {vt ve:Value} {M:List (Int × Pk)} {T E:List Int} {s:Bx} {r:Int} (h:BmM TB od X Y w b g vt ve M T E) (hS:M.map (·.1) = s.S) (hl:M.length ≤ 1000) (hr:(match s.first s.S.length with | some i => (i:Int) | none => -1) = r) :
    Calls Tryz.prog 157 #[.slice (some ⟨g,0,none⟩) M.length M.length, .func (.func 158) #[] #[]] w fun e w' => e = .returned (.int .i64 r) ∧ Below w.heap.size w w':=by
  have h0:=AnyQ.slices_IndexFunc lyIf 8 Tryz.isAgg170 Tryz.sizeOf170 mbC mbC_len (fun x => decide (x.1 = 0)) 158 #[] mail_enters g 0 M.length M.length M w (free_pred w) (Nat.le_refl _) (by omega) (heap_some_lt h.row) (fun j hj i v hi => by
    rw [Lib.cell_of_heap h.row]
    simpa using rowG_get mbC_len M j _ (by rw [getElem!_pos M j hj]; exact List.getElem?_eq_getElem hj) i v hi)
  rw [List.take_length,first_idx hS,hr] at h0
  exact h0
end Go.Proofs.YtimdkcchjanpaaaGreatDoor
