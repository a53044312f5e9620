/- Band: what is taken is the first of all that are there. Of no program: 'clear' of a slice of one thing of several cells; a row whose head is cleared and cut  .. -/
import Derived.Test.YtimdkcchjanpaaaGreatDoorZah
import Derived.Test.YtimdkcchjanpaaaGreatDoorZaf
import Derived.Laws.IdiomCopy
import Derived.Lib.SliceRun
import Derived.Test.YtimdkcchjanpaaaGreatDoorZae
import Derived.Test.YtimdkcchjanpaaaGreatDoorZad
set_option maxHeartbeats 8000000
namespace Go.Proofs.YtimdkcchjanpaaaGreatDoor
open Go.RowKit
set_option linter.unusedVariables false
def Bq.bd (s:Bq) (k:Nat):Int:=(s.L.getD k ⟨0,pk0⟩).b
theorem Bq.first_spec {s:Bq}:∀ {k i:Nat},s.first k = some i → i < k ∧ (∀ j,j < i → s.bd i < s.bd j) ∧ ∀ j,j < k → s.bd i ≤ s.bd j
  | 0,i,h => by cases h
  | k + 1,i,h => by
    unfold Bq.first at h
    cases hk:s.first k with
    | none =>
      rw [hk] at h
      injection h with h
      subst h
      obtain rfl:=Bq.first_none hk
      refine ⟨by omega,fun j hj => by omega,fun j hj => ?_⟩
      have:j = 0:=by omega
      subst this
      exact Int.le_refl _
    | some m =>
      rw [hk] at h
      simp only at h
      obtain ⟨h1,h2,h3⟩:=Bq.first_spec hk
      by_cases hl:(s.L.getD k ⟨0,pk0⟩).b < (s.L.getD m ⟨0,pk0⟩).b
      · rw [if_pos hl] at h
        injection h with h
        subst h
        have hl:s.bd k < s.bd m:=hl
        refine ⟨by omega,fun j hj => by have:=h3 j hj; omega,fun j hj => ?_⟩
        by_cases e:j = k
        · subst e; exact Int.le_refl _
        · have:=h3 j (by omega); omega
      · rw [if_neg hl] at h
        injection h with h
        subst h
        have hl:¬ s.bd k < s.bd m:=hl
        refine ⟨by omega,h2,fun j hj => ?_⟩
        by_cases e:j = k
        · subst e; omega
        · exact h3 j (by omega)
theorem Bq.first_some {s:Bq} (h:s.L ≠ []):∃ i,s.first s.L.length = some i:=by
  cases hf:s.first s.L.length with
  | none => exact absurd (List.eq_nil_of_length_eq_zero (Bq.first_none hf)) h
  | some i => exact ⟨i,rfl⟩
def bandF (L:List On) (b:Nat):List Pk:=(L.filter fun o => o.b == (b:Int)).map fun o => o.p
theorem bandF_app (L M:List On) (b:Nat):bandF (L ++ M) b = bandF L b ++ bandF M b:=by unfold bandF; rw [List.filter_append,List.map_append]
theorem bandF_none {L:List On} {b:Nat} (h:∀ o ∈ L,o.b ≠ (b:Int)):bandF L b = []:=by
  unfold bandF
  rw [List.filter_eq_nil_iff.2 (fun o ho => by simpa using h o ho)]
  rfl
theorem bandF_one (x:On) (b:Nat):bandF [x] b = if x.b = (b:Int) then [x.p] else []:=by
  unfold bandF
  by_cases h:x.b = (b:Int) <;> simp [h]
def allF (L:List On) (n:Nat):List Pk:=(List.range n).flatMap (bandF L)
theorem allF_succ (L:List On) (n:Nat):allF L (n + 1) = allF L n ++ bandF L n:=by unfold allF; rw [List.range_succ,List.flatMap_append]; simp
theorem Bq.all_F (s:Bq):s.all = allF s.L s.bands.toNat:=by
  unfold Bq.all Bq.allTo allF
  congr 1
  funext b
  unfold Bq.inBand bandF
  rw [List.take_of_length_le (Nat.le_refl _)]
theorem allF_less {L:List On} {c:Nat} (h:∀ o ∈ L,(c:Int) ≤ o.b):∀ n,n ≤ c → allF L n = []
  | 0,_ => rfl
  | n + 1,hn => by rw [allF_succ,allF_less h n (by omega),bandF_none (fun o ho e => by have:=h o ho; omega)]; rfl
theorem allF_cons {L1 L2:List On} {x:On} {c:Nat} (hx:x.b = (c:Int)) (h1:∀ o ∈ L1,(c:Int) < o.b) (h2:∀ o ∈ L2,(c:Int) ≤ o.b):∀ n,c < n → allF (L1 ++ x :: L2) n = x.p :: allF (L1 ++ L2) n
  | 0,h => by omega
  | n + 1,h => by
    have e:L1 ++ x :: L2 = L1 ++ ([x] ++ L2):=rfl
    rw [allF_succ,allF_succ]
    by_cases hc:c = n
    · subst hc
      have a1:∀ o ∈ L1 ++ x :: L2,(c:Int) ≤ o.b:=fun o ho => by
        simp only [List.mem_append,List.mem_cons] at ho
        rcases ho with ho | rfl | ho
        · have:=h1 o ho; omega
        · omega
        · exact h2 o ho
      have a2:∀ o ∈ L1 ++ L2,(c:Int) ≤ o.b:=fun o ho => by
        simp only [List.mem_append] at ho
        rcases ho with ho | ho
        · have:=h1 o ho; omega
        · exact h2 o ho
      rw [allF_less a1 c (Nat.le_refl _),allF_less a2 c (Nat.le_refl _),e,bandF_app,bandF_app,bandF_app,bandF_one,if_pos hx,bandF_none (L:=L1) (fun o ho e => by have:=h1 o ho; omega)]
      rfl
    · rw [allF_cons hx h1 h2 n (by omega),e,bandF_app,bandF_app,bandF_app,bandF_one,if_neg (by omega)]
      rfl
theorem split_at {L:List On} {i:Nat} {x:On} (h:L[i]? = some x):L = L.take i ++ x :: L.drop (i + 1) ∧ L.eraseIdx i = L.take i ++ L.drop (i + 1):=by
  have hi:i < L.length:=by
    rcases Nat.lt_or_ge i L.length with h1 | h1
    · exact h1
    · rw [List.getElem?_eq_none h1] at h; cases h
  rw [List.getElem?_eq_getElem hi] at h
  injection h with h
  refine ⟨?_,List.eraseIdx_eq_take_drop_succ L i⟩
  rw [← h]
  simp
theorem Bq.take_all {s:Bq} (hok:s.Ok) (hs:s.st = false) (hn:s.L ≠ []):s.take.2.2 = true ∧ s.all = s.take.2.1 :: s.take.1.all ∧ s.take.1.st = false ∧ s.take.1.bands = s.bands ∧ s.L.length = s.take.1.L.length + 1:=by
  obtain ⟨i,hi⟩:=Bq.first_some hn
  obtain ⟨h1,h2,h3⟩:=Bq.first_spec hi
  obtain ⟨x,hx⟩:∃ x,s.L[i]? = some x:=⟨_,List.getElem?_eq_getElem h1⟩
  have e:s.take = ({ s with L:=s.L.eraseIdx i },x.p,true):=by unfold Bq.take; rw [hi]; simp [hs,List.getD_eq_getElem?_getD,hx]
  rw [e]
  obtain ⟨e1,e2⟩:=split_at hx
  have hb:∀ j y,s.L[j]? = some y → s.bd j = y.b:=fun j y hy => by unfold Bq.bd; rw [List.getD_eq_getElem?_getD,hy]; rfl
  have hxb:=hb i x hx
  obtain ⟨r1,r2⟩:=hok.rng x (List.mem_of_getElem? hx)
  obtain ⟨c,hc⟩:=Int.eq_ofNat_of_zero_le r1
  refine ⟨rfl, ?_,hs,rfl, ?_⟩
  · show s.all = x.p :: Bq.all { s with L:=s.L.eraseIdx i }
    rw [Bq.all_F,Bq.all_F]
    show allF s.L s.bands.toNat = x.p :: allF (s.L.eraseIdx i) s.bands.toNat
    rw [e2]
    conv => lhs; rw [e1]
    refine allF_cons hc (fun o ho => ?_) (fun o ho => ?_) _ (by omega)
    · obtain ⟨j,hj,rfl⟩:=List.getElem_of_mem ho
      rw [List.length_take] at hj
      have hj2:j < s.L.length:=by omega
      rw [List.getElem_take]
      have:=h2 j (by omega)
      rw [hb j _ (List.getElem?_eq_getElem hj2),hxb] at this
      omega
    · obtain ⟨j,hj,rfl⟩:=List.getElem_of_mem ho
      rw [List.length_drop] at hj
      have hj2:i + 1 + j < s.L.length:=by omega
      rw [List.getElem_drop]
      have:=h3 (i + 1 + j) hj2
      rw [hb _ _ (List.getElem?_eq_getElem hj2),hxb] at this
      omega
  · show s.L.length = (s.L.eraseIdx i).length + 1
    rw [List.length_eraseIdx,if_pos h1]
    omega
theorem Bq.take_stop {s:Bq} (hs:s.st = true):s.take = (s,pk0,false):=by
  unfold Bq.take
  split
  · rfl
  · rw [if_pos hs]
theorem Bq.take_nil {s:Bq} (hs:s.L = []):s.take = (s,pk0,false):=by unfold Bq.take; rw [hs]; rfl
theorem Bq.all_len {s:Bq}:∀ {n:Nat},s.L.length = n → s.Ok → s.st = false → s.all.length = n
  | 0,h,_,_ => by rw [Bq.all_F,List.eq_nil_of_length_eq_zero h,allF_less (c:=s.bands.toNat) (fun o ho => by cases ho) _ (Nat.le_refl _)]; rfl
  | n + 1,h,hok,hs => by
    obtain ⟨h1,h2,h3,h4,h5⟩:=Bq.take_all hok hs (by intro e; rw [e] at h; cases h)
    rw [h2,List.length_cons,Bq.all_len (n:=n) (by omega) hok.take h3]
end Go.Proofs.YtimdkcchjanpaaaGreatDoor
namespace Go.Proofs.YtimdkcchjanpaaaGreatDoor
open Go.RowKit
set_option linter.unusedVariables false
theorem wpList_clearK {P:Program} {w:World} {ops:Array Oper} {rest:List Oper} {o:Oper} {a:Act} {Q:Exit → Act → World → Prop} (hgd:o.guard = none) (x:Operand) (T E:TypeId)
    (ho:o.op = .call { callee := .builtin .clear,args := #[x],argTypes := #[T] }) (ht:P.underlying T = some (.slice E)) (z:Value) (hz:∀ w,(zeroValue E).run P w = .ok z w) (zs:List Value) (hzs:(Builtin.zeroCells z.cells 1).toList = zs) (hone:∀ u ∈ zs,u.oneCell' = true)
    (g i c:Nat) (hx:a.eval x = .slice (some ⟨g,i,none⟩) 1 c) (hc:∀ j,j < zs.length → (w.cell? ⟨g,i + j,none⟩).isSome = true) (hf:∀ j,j < zs.length → w.frozen? ⟨g,i + j,none⟩ = false)
    (h:wpList P ops Q rest (a.put o.dst (.tuple #[])) (w.setCells g i zs)):wpList P ops Q (o :: rest) a w:=by
  refine wpList_plain hgd fun K hK => ?_
  have hst:=run_storeCells_cells (P:=P) g i zs 0 w (by simpa using hc) (by simpa using hf) hone
  simp only [Nat.add_zero] at hst
  unfold Oper.wp
  simp [execOp,ho,resolve,invoke,builtin,hx,Builtin.clear_,run_underlying ht,hz,hzs,hst,Result.andThen]
  exact hK _ _ h
section
variable {α:Type} {c:α → List Value} {k:Nat} {w:World} {v:Value} {L M:List α}
theorem RowQ.head {a:α} (h:RowQ c k w v (a :: M)):∃ g o cap,v = .slice (some ⟨g,o,none⟩) (M.length + 1) cap ∧ M.length + 1 ≤ cap ∧ ∀ j,j < k → (w.cell? ⟨g,o + j,none⟩).isSome = true ∧ w.frozen? ⟨g,o + j,none⟩ = false:=by
  rcases h with ⟨_,h⟩ | ⟨g,o,cap,hv,h1,h2,h3,h4,h5⟩
  · cases h
  · simp only [List.length_cons] at hv h1
    refine ⟨g,o,cap,hv,h1,fun j hj => h5 j ?_⟩
    exact Nat.lt_of_lt_of_le hj (Nat.le_mul_of_pos_left _ (by omega))
theorem RowQ.cut {a:α} {g o n cap:Nat} {zs:List Value} (h:RowQ c k w (.slice (some ⟨g,o,none⟩) n cap) (a :: M)) (hk:∀ a,(c a).length = k) (hM:1 ≤ M.length) (hz:zs.length = k) :
    RowQ c k (w.setCells g o zs) (.slice (some ⟨g,o + k,none⟩) M.length (cap - 1)) M:=by
  rcases h with ⟨h,_⟩ | ⟨g',o',cap',hv,h1,h2,h3,h4,h5⟩
  · cases h
  · injection hv with hA hn hcap
    injection hA with hA
    injection hA with e1 e2
    subst e1 e2 hcap
    simp only [List.length_cons] at h1
    have hrow:rowG c (a :: M) = c a ++ rowG c M:=by simp [rowG]
    refine .inr ⟨g,o + k,cap - 1,rfl,by omega,by omega,by rw [setCells_size]; exact h3,fun j u hu => ?_,fun j hj => ?_⟩
    · rw [World.cell?_setCells_out g _ _ _ _ (fun _ _ => .inr (by simp only; omega)),Nat.add_assoc]
      refine h4 (k + j) u ?_
      rw [hrow,List.getElem?_append_right (by rw [hk]; omega),hk,Nat.add_sub_cancel_left]
      exact hu
    · rw [World.cell?_setCells_out g _ _ _ _ (fun _ _ => .inr (by simp only; omega)),World.frozen?_setCells,Nat.add_assoc]
      refine h5 (k + j) ?_
      obtain ⟨m,rfl⟩:∃ m,cap = m + 1:=⟨cap - 1,by omega⟩
      rw [Nat.add_sub_cancel] at hj
      rw [Nat.add_mul]; omega
theorem cut_kept {g o n cap n' o' cap':Nat} {zs:List Value}:Kept (OwnO (.slice (some ⟨g,o,none⟩) n cap)) w (w.setCells g o zs) ∧ Grows (OwnO (.slice (some ⟨g,o,none⟩) n cap)) w (OwnO (.slice (some ⟨g,o',none⟩) n' cap')):=by
  obtain ⟨r1,r2,r3⟩:=setCells_rest w g o zs
  exact ⟨⟨r1,r2,r3,by rw [setCells_size]; exact Nat.le_refl _,fun i _ hn => setCells_heap _ _ _ _ (fun e => hn (by subst e; rfl))⟩,fun k hk => .inl hk⟩
end
end Go.Proofs.YtimdkcchjanpaaaGreatDoor
namespace Go.Proofs.YtimdkcchjanpaaaGreatDoor
open Go.RowKit
open Go.Maps (Keyed)
set_option linter.unusedVariables false
theorem lawJ:Keyed Tryz.prog 3:=Maps.int_keyed Tryz.underlying3
theorem keyJ {i:Int} (h : -9223372036854775808 ≤ i ∧ i ≤ 9223372036854775807):keyOf Tryz.prog 3 (.int .i64 i) = some (.int .i64 i) :=
  Maps.keyOf_int_mk Tryz.underlying3 (by simp [Lit.wf,IntKind.min,IntKind.max,IntKind.signed,IntKind.bits]; omega)
theorem zeroPs (w:World):(zeroValue 32).run Tryz.prog w = .ok (.slice none 0 0) w:=by kernel_rfl
abbrev nilP:Value := .slice none 0 0
def rowOf (V:Nat → Value) (i:Nat) (v:Value):Nat → Value:=fun j => if j = i then v else V j
theorem rowOf_same (V:Nat → Value) (i:Nat) (v:Value):rowOf V i v i = v:=if_pos rfl
theorem rowOf_other (V:Nat → Value) {i j:Nat} (h:j ≠ i) (v:Value):rowOf V i v j = V j:=if_neg h
def bdC (gm:Nat) (a r n:Int) (q:Bool):List Value := [.map (some gm), .int .i64 a, .int .i64 r, .int .i64 n, .bool q]
structure BdM (TB:TypeId) (od:Nat) (X Y:List Value) (w:World) (b gm:Nat) (D:DataW Value) (V:Nat → Value) (s:Bq) (n:Int):Prop where
  box:w.heap[b]? = some (.cells (X ++ (bdC gm s.bands s.room n s.st ++ Y)).toArray TB (0,0))
  off:X.length = od
  map:MapH Tryz.prog 3 w gm D
  size:SzN 1000 D
  here:∀ i:Nat,AtM nilP D i (V i)
  row:∀ i:Nat,RowQ pkC 7 w (V i) (bandF s.L i)
  h1:b ≠ gm
  f1:∀ i:Nat, ¬ OwnO (V i) b ∧ ¬ OwnO (V i) gm
  f2:∀ i j:Nat,i ≠ j → Apart (OwnO (V i)) (OwnO (V j))
def bdO (b gm:Nat) (V:Nat → Value):Nat → Prop:=fun k => k = b ∨ k = gm ∨ ∃ i,OwnO (V i) k
def BdD (TB:TypeId) (od:Nat) (X Y:List Value) (w:World) (v:Value) (s:Bq) (O:Nat → Prop):Prop := ∃ b gm D V,v = .pointer (some ⟨b,od,none⟩) ∧ O = bdO b gm V ∧ BdM TB od X Y w b gm D V s s.L.length
section
variable {TB:TypeId} {od:Nat} {X Y:List Value} {w w':World} {b gm:Nat} {D:DataW Value} {V:Nat → Value} {s:Bq} {n:Int}
theorem BdM.lt (h:BdM TB od X Y w b gm D V s n):∀ k,bdO b gm V k → k < w.heap.size:=by
  rintro k (rfl | rfl | ⟨i,hk⟩)
  · exact heap_some_lt h.box
  · exact h.map.lt
  · exact (h.row i).lt k hk
theorem BdM.stay (h:BdM TB od X Y w b gm D V s n) (hs:∀ k,bdO b gm V k → w'.heap[k]? = w.heap[k]?):BdM TB od X Y w' b gm D V s n:=by
  have key:∀ k,bdO b gm V k → k < w'.heap.size:=fun k hk => by
    have h1:=h.lt k hk
    have h2:=hs k hk
    rw [Array.getElem?_eq_getElem h1] at h2
    exact heap_some_lt h2
  exact ⟨(hs b (.inl rfl)).trans h.box,h.off,h.map.stay (hs gm (.inr (.inl rfl))),h.size,h.here,
    fun i => (h.row i).stayL (fun g hg => hs g (.inr (.inr ⟨i,hg⟩))) (fun g hg => key g (.inr (.inr ⟨i,hg⟩))),h.h1,h.f1,h.f2⟩
theorem BdM.later (h:BdM TB od X Y w b gm D V s n) (hb:Below w.heap.size w w'):BdM TB od X Y w' b gm D V s n:=h.stay (fun k hk => hb.block k (h.lt k hk))
theorem BdM.cells (h:BdM TB od X Y w b gm D V s n) :
    w.cell? ⟨b,od,none⟩ = some (.map (some gm)) ∧ w.cell? ⟨b,od + 1,none⟩ = some (.int .i64 s.bands) ∧ w.cell? ⟨b,od + 2,none⟩ = some (.int .i64 s.room) ∧
    w.cell? ⟨b,od + 3,none⟩ = some (.int .i64 n) ∧ w.cell? ⟨b,od + 4,none⟩ = some (.bool s.st):=by
  have hb:=h.box
  have e0:w.cell? ⟨b,od + 0,none⟩ = some (.map (some gm)):=by rw [Lib.cell_of_heap hb,getX h.off]; rfl
  refine ⟨by simpa using e0, ?_, ?_, ?_, ?_⟩ <;> (rw [Lib.cell_of_heap hb,getX h.off]; rfl)
theorem BdM.live (h:BdM TB od X Y w b gm D V s n):∀ j,w.frozen? ⟨b,j,none⟩ = false:=fun j => Lib.frozen_of_heap h.box j
theorem BdM.look (h:BdM TB od X Y w b gm D V s n) (i:Nat) (hi:i < 1000):(Instr.lookup 67 (.map (some gm)) (.int .i64 i) false).run Tryz.prog w = .ok (V i) w :=
  h.map.look lawJ Tryz.underlying67 (zeroPs w) (keyJ (by omega)) (h.here i)
theorem BdM.setBox {q:Bool} {m:Int} (h:BdM TB od X Y w b gm D V s n) (j:Nat) (u:Value)
    (hc:(bdC gm s.bands s.room n s.st ++ Y).set j u = bdC gm s.bands s.room m q ++ Y) :
    BdM TB od X Y (w.setCell ⟨b,od + j,none⟩ u) b gm D V { s with st:=q } m:=by
  have hz:w.heap.size ≤ (w.setCell ⟨b,od + j,none⟩ u).heap.size:=by simp [World.setCell]
  have ho:∀ k,k ≠ b → (w.setCell ⟨b,od + j,none⟩ u).heap[k]? = w.heap[k]?:=fun k hk => Below.heap_setCell _ _ _ _ hk
  refine ⟨?_,h.off,h.map.stay (ho _ (fun e => h.h1 e.symm)),h.size,h.here,fun i => (h.row i).stay (fun g hg => ho g (fun e => (h.f1 i).1 (e ▸ hg))) hz,h.h1,h.f1,h.f2⟩
  rw [heap_setCell_same w b (od + j) _ _ _ h.box,setX h.off,hc]
theorem bdSet_kept {j:Nat} {u:Value}:Kept (bdO b gm V) w (w.setCell ⟨b,j,none⟩ u):=⟨rfl,rfl,rfl,by simp [World.setCell],fun k _ hk => Below.heap_setCell _ _ _ _ (fun e => hk (.inl e))⟩
theorem BdM.setCount (h:BdM TB od X Y w b gm D V s n) (m:Int):BdM TB od X Y (w.setCell ⟨b,od + 3,none⟩ (.int .i64 m)) b gm D V s m:=h.setBox 3 _ rfl
theorem BdM.setStop (h:BdM TB od X Y w b gm D V s n) (q:Bool):BdM TB od X Y (w.setCell ⟨b,od + 4,none⟩ (.bool q)) b gm D V { s with st:=q } n:=h.setBox 4 _ rfl
theorem bdO_set {i:Nat} {v':Value} (hg:Grows (OwnO (V i)) w (OwnO v')):Grows (bdO b gm V) w (bdO b gm (rowOf V i v')):=by
  rintro k (h | h | ⟨j,h⟩)
  · exact .inl (.inl h)
  · exact .inl (.inr (.inl h))
  · by_cases e:j = i
    · subst e
      rw [rowOf_same] at h
      rcases hg k h with h1 | h1
      · exact .inl (.inr (.inr ⟨j,h1⟩))
      · exact .inr h1
    · rw [rowOf_other _ e] at h
      exact .inl (.inr (.inr ⟨j,h⟩))
theorem BdM.setRow {w2:World} {D':DataW Value} {L':List On} (h:BdM TB od X Y w b gm D V s n) {i:Nat} {v':Value} (hq:RowQ pkC 7 w' v' (bandF L' i)) (hL:∀ j,j ≠ i → bandF L' j = bandF s.L j) (hk:Kept (OwnO (V i)) w w') (hg:Grows (OwnO (V i)) w (OwnO v'))
    (hm:MapH Tryz.prog 3 w2 gm D') (hz':SzN 1000 D') (ha:AtM nilP D' i v') (hn:∀ (j:Nat) (x:Value),j ≠ i → AtM nilP D j x → AtM nilP D' j x) (ht:w'.mapTurned w2 gm) :
    BdM TB od X Y w2 b gm D' (rowOf V i v') { s with L:=L' } n ∧ Kept (bdO b gm V) w w2 ∧ Grows (bdO b gm V) w (bdO b gm (rowOf V i v')):=by
  have kt:=Kept.of_turned ht
  have hz:=kt.size
  have hlt:=h.lt
  obtain ⟨u1,u3⟩:=h.f1 i
  have nv:∀ k,k < w.heap.size → ¬ OwnO (V i) k → ¬ OwnO v' k:=fun k h1 h2 h3 => by rcases hg k h3 with h4 | h4; exact h2 h4; omega
  have lb:=hlt b (.inl rfl)
  have lw:=hlt gm (.inr (.inl rfl))
  have ho:∀ k,k < w'.heap.size → k ≠ gm → w2.heap[k]? = w'.heap[k]?:=fun k h1 hk => kt.block k h1 hk
  have l2:∀ k,k < w.heap.size → k < w'.heap.size:=fun k h1 => Nat.lt_of_lt_of_le h1 hk.size
  have other:∀ m,m ≠ i → Apart (OwnO v') (OwnO (V m)):=fun m hm k h1 h2 => nv k ((h.row m).lt k h2) (fun h3 => h.f2 i m (fun e => hm e.symm) k h3 h2) h1
  refine ⟨⟨?_,h.off,hm,hz',fun j => ?_,fun j => ?_,h.h1,fun j => ?_,fun j l hjl => ?_⟩, ?_,bdO_set hg⟩
  · rw [ho b (l2 b lb) h.h1,hk.block b lb u1]; exact h.box
  · by_cases e:j = i
    · subst e; rw [rowOf_same]; exact ha
    · rw [rowOf_other _ e]; exact hn j _ e (h.here j)
  · by_cases e:j = i
    · subst e
      rw [rowOf_same]
      exact hq.stay (fun g hg' => ho g (hq.lt g hg') (fun e => nv gm lw u3 (e ▸ hg'))) hz
    · rw [rowOf_other _ e]
      show RowQ pkC 7 w2 (V j) (bandF L' j)
      rw [hL j e]
      have h5:=h.row j
      exact (h5.stay (fun g hg' => hk.block g (h5.lt g hg') (fun h6 => h.f2 i j (fun e2 => e e2.symm) g h6 hg')) hk.size).stay (fun g hg' => ho g (l2 g (h5.lt g hg')) (fun e => (h.f1 j).2 (e ▸ hg'))) hz
  · by_cases e:j = i
    · subst e; rw [rowOf_same]; exact ⟨nv b lb u1,nv gm lw u3⟩
    · rw [rowOf_other _ e]; exact h.f1 j
  · by_cases e:j = i
    · subst e
      rw [rowOf_same,rowOf_other _ (fun e => hjl e.symm)]
      exact other l (fun e => hjl e.symm)
    · rw [rowOf_other _ e]
      by_cases e2:l = i
      · subst e2; rw [rowOf_same]; exact (other j e).symm
      · rw [rowOf_other _ e2]; exact h.f2 j l hjl
  · refine ⟨kt.os.trans hk.os,kt.tape.trans hk.tape,kt.output.trans hk.output,Nat.le_trans hk.size hz,fun k h1 h2 => ?_⟩
    rw [ho k (l2 k h1) (fun e => h2 (.inr (.inl e)))]
    exact hk.block k h1 (fun h3 => h2 (.inr (.inr ⟨i,h3⟩)))
theorem BdM.clear {w2:World} (h:BdM TB od X Y w b gm D V s n) (hm:MapH Tryz.prog 3 w2 gm (.map [])) (ht:w.mapTurned w2 gm) :
    BdM TB od X Y w2 b gm (.map []) (fun _ => nilP) { s with L := [] } n ∧ Kept (bdO b gm V) w w2 ∧ Grows (bdO b gm V) w (bdO b gm (fun _ => nilP)):=by
  have kt:=Kept.of_turned ht
  have lb:=h.lt b (.inl rfl)
  have nn:∀ k, ¬ OwnO nilP k:=fun k h => by cases h
  refine ⟨⟨(kt.block b lb h.h1).trans h.box,h.off,hm,SzN.empty _,fun i => AtM.empty _ _,fun i => RowQ.nil _,h.h1,fun i => ⟨nn _,nn _⟩,fun i j _ k h _ => (nn k h).elim⟩, ?_, ?_⟩
  · exact ⟨kt.os,kt.tape,kt.output,kt.size,fun k h1 h2 => kt.block k h1 (fun e => h2 (.inr (.inl e)))⟩
  · rintro k (h | h | ⟨j,h⟩)
    · exact .inl (.inl h)
    · exact .inl (.inr (.inl h))
    · exact (nn k h).elim
end
theorem isObj_bd {TB:TypeId} {od:Nat} {X Y:List Value}:IsObj (BdD TB od X Y) where
  stay:=by
    rintro w w' v s O ⟨b,gm,D,V,rfl,rfl,h⟩ hs
    exact ⟨b,gm,D,V,rfl,rfl,h.stay hs⟩
  lt:=by
    rintro w v s O ⟨b,gm,D,V,rfl,rfl,h⟩
    exact h.lt
theorem BdM.stp {TB:TypeId} {od:Nat} {X Y:List Value} {w w':World} {b gm:Nat} {D:DataW Value} {V:Nat → Value} {s:Bq} (h:BdM TB od X Y w b gm D V s s.L.length) (hb:Below w.heap.size w w'):Stp (BdD TB od X Y) (.pointer (some ⟨b,od,none⟩)) (bdO b gm V) w s w' :=
  ⟨_,⟨b,gm,D,V,rfl,rfl,h.later hb⟩, .of_below hb,Grows.refl _ _⟩
theorem bandF_put (L:List On) (x:On) (j:Nat):bandF (L ++ [x]) j = bandF L j ++ (if x.b = (j:Int) then [x.p] else []):=by rw [bandF_app,bandF_one]
theorem bandF_len (L:List On) (j:Nat):(bandF L j).length ≤ L.length:=by
  unfold bandF
  rw [List.length_map]
  exact List.length_filter_le _ _
theorem bandF_erase {L:List On} {i:Nat} {x:On} (h:L[i]? = some x) (j:Nat) (hj:x.b ≠ (j:Int)):bandF (L.eraseIdx i) j = bandF L j:=by
  obtain ⟨e1,e2⟩:=split_at h
  rw [e2]
  conv => rhs; rw [e1]
  have e:L.take i ++ x :: L.drop (i + 1) = L.take i ++ ([x] ++ L.drop (i + 1)):=rfl
  rw [e,bandF_app,bandF_app,bandF_app,bandF_one,if_neg hj]
  rfl
structure TakeAt (s:Bq) (i c:Nat) (p:Pk) (M:List Pk):Prop where
  lt:(c:Int) < s.bands
  least:∀ j,j < c → bandF s.L j = []
  row:bandF s.L c = p :: M
  rest:bandF (s.L.eraseIdx i) c = M
  other:∀ j,j ≠ c → bandF (s.L.eraseIdx i) j = bandF s.L j
  len:(s.L.eraseIdx i).length + 1 = s.L.length
  take:s.st = false → s.take = ({ s with L:=s.L.eraseIdx i },p,true)
theorem take_at {s:Bq} (hok:s.Ok) (hn:s.L ≠ []):∃ i c p M,TakeAt s i c p M:=by
  obtain ⟨i,hi⟩:=Bq.first_some hn
  obtain ⟨h1,h2,h3⟩:=Bq.first_spec hi
  obtain ⟨x,hx⟩:∃ x,s.L[i]? = some x:=⟨_,List.getElem?_eq_getElem h1⟩
  obtain ⟨e1,e2⟩:=split_at hx
  have hb:∀ j y,s.L[j]? = some y → s.bd j = y.b:=fun j y hy => by unfold Bq.bd; rw [List.getD_eq_getElem?_getD,hy]; rfl
  have hxb:=hb i x hx
  obtain ⟨r1,r2⟩:=hok.rng x (List.mem_of_getElem? hx)
  obtain ⟨c,hc⟩:=Int.eq_ofNat_of_zero_le r1
  have hall:∀ o ∈ s.L,(c:Int) ≤ o.b:=fun o ho => by
    obtain ⟨j,hj,rfl⟩:=List.getElem_of_mem ho
    have:=h3 j hj
    rw [hb j _ (List.getElem?_eq_getElem hj),hxb] at this
    omega
  have hL1:bandF (s.L.take i) c = []:=bandF_none (fun o ho e => by
    obtain ⟨j,hj,rfl⟩:=List.getElem_of_mem ho
    rw [List.length_take] at hj
    have hj2:j < s.L.length:=by omega
    rw [List.getElem_take] at e
    have:=h2 j (by omega)
    rw [hb j _ (List.getElem?_eq_getElem hj2),hxb] at this
    omega)
  refine ⟨i,c,x.p,bandF (s.L.drop (i + 1)) c,by omega,fun j hj => bandF_none (fun o ho e => by have:=hall o ho; omega), ?_, ?_,fun j hj => bandF_erase hx j (by omega), ?_,fun hs => ?_⟩
  · conv => lhs; rw [e1]
    have e:s.L.take i ++ x :: s.L.drop (i + 1) = s.L.take i ++ ([x] ++ s.L.drop (i + 1)):=rfl
    rw [e,bandF_app,bandF_app,bandF_one,if_pos hc,hL1]
    rfl
  · rw [e2,bandF_app,hL1]; rfl
  · rw [List.length_eraseIdx,if_pos h1]; omega
  · unfold Bq.take; rw [hi]; simp [hs,List.getD_eq_getElem?_getD,hx]
end Go.Proofs.YtimdkcchjanpaaaGreatDoor
namespace Go.Proofs.YtimdkcchjanpaaaGreatDoor
open Go.RowKit
set_option linter.unusedVariables false
section
variable {w w':World} {g:Nat} {ws:List Value} {W:List (List Fr)}
end
section
variable {P:Program} {ops:Array Oper} {st:List Nat} {G:Nat → (Tmp → Option Value) → World → Prop} {sec:List Tmp} {Q:Act → Prop} {o:Oper} {rest:List Oper} {h:Act} {i:Nat}
theorem st_app {α:Type} {c:α → List Value} {kk bytes:Nat} {T E:TypeId} {L M:List α} {ts tx tr:Tmp} {v:Value} (hT:FlatE P T E kk bytes) (hkk:∀ a,(c a).length = kk) (hone:∀ a, ∀ u ∈ c a,u.oneCell' = true)
    (k:Nat) (hi:st[k]? = some i) (hw:Region.wanted o (yielded ops h.tmps) = true) (ho:o.op = .call { callee := .builtin .append,args := #[.tmp ts, .tmp tx],argTypes := #[T,T] }) (hd:o.dst = some tr)
    (hs1:sec.contains tr = true) (hs2:sec.contains tx = true) (hs3:sec.contains ts = false) (hl1:ts ∈ o.looksAt ops) (hl2:tx ∈ o.looksAt ops) (hv:h.tmps.getD ts undef = v)
    (hrd:∀ xs w x,G k xs w → xs tx = some x → RowQ c kk w v L ∧ RdA c kk w x M) (hsz:L.length + M.length ≤ 1000000)
    (hG:∀ xs w v' w',G k xs w → RowQ c kk w' v' (L ++ M) → Kept (OwnO v) w w' → Grows (OwnO v) w (OwnO v') → G (k + 1) (fun t => if t = tr then some v' else xs t) w')
    (hk:wpSt P ops st G sec Q (i + 1) rest (h.put o.dst undef)):wpSt P ops st G sec Q i (o :: rest) h:=by
  unfold wpSt
  rw [if_pos hw]
  refine ⟨undef,fun j xs a w hj hjk hb hfr hlk => ?_,hk⟩
  obtain rfl:=hjk k hi
  have h1:=hlk ts hl1
  have h2:=hlk tx hl2
  have s1:tr ∈ sec:=by simpa using hs1
  rw [if_neg (by simpa using hs3),hv] at h1
  rw [if_pos (by simpa using hs2)] at h2
  obtain ⟨x,hx⟩:∃ x,a.tmps.getD tx undef = x:=⟨_,rfl⟩
  rw [hx] at h2
  obtain ⟨r1,r2⟩:=hrd xs w _ hb h2
  obtain ⟨v',w',hrun,q1,q2,q3⟩:=r1.run hT hkk (RowQ.src r2 hkk hone hT.1) hsz o.type
  have e1:a.eval (.tmp ts) = v:=h1
  have e2:a.eval (.tmp tx) = x:=hx
  rw [if_pos (List.mem_of_getElem? hi)]
  simp [execOp,ho,resolve,invoke,builtin,e1,e2,hrun,Result.andThen,stUpon,hd]
  refine ⟨?_, .inl s1⟩
  have:=hG xs w v' w' hb q1 q2 q3
  unfold hidPut
  simp only
  rw [if_pos s1]
  exact this
end
end Go.Proofs.YtimdkcchjanpaaaGreatDoor
namespace Go.Proofs.YtimdkcchjanpaaaGreatDoor
open Go.RowKit
open Go.Maps (Keyed IsMap Tidy)
set_option linter.unusedVariables false
variable {TB:TypeId} {od:Nat} {X Y:List Value}
theorem kqwithin_v {n r:Int} (h:roomN n = r) (w:World):Calls Tryz.prog 71 #[.int .i64 n] w fun e w' => e = .returned (.int .i64 r) ∧ w = w':=by
  have hmin:min (max n 1) 1000 = r:=by
    rw [← h]
    unfold roomN
    split
    · omega
    · split <;> omega
  clear h
  go_enter Tryz.func71,Tryz.ntmps71
  go_wp2
  all_goals (go_ret; refine ⟨?_,rfl⟩; rw [← hmin]; exact fret_int (by omega))
theorem kqstop_v {v:Value} {s:Bq} {O:Nat → Prop} (w:World) (h:BdD TB od X Y w v s O):Calls Tryz.prog 61 #[v] w fun e w' => e = .returned (.tuple #[]) ∧ Stp (BdD TB od X Y) v O w { s with st:=true } w':=by
  obtain ⟨b,gm,D,V,rfl,rfl,hm⟩:=h
  have HS:=Lib.hid (hm.setStop true)
  obtain ⟨c0,c1,c2,c3,c4⟩:=hm.cells
  have f4:=hm.live (od + 4)
  clear hm
  go_enter Tryz.func61,Tryz.ntmps61
  go_wp2
  go_end0
  exact ⟨rfl,_,⟨b,gm,D,V,rfl,rfl,HS.out⟩,bdSet_kept,Grows.refl _ _⟩
theorem kqwake_v {v:Value} {s:Bq} {O:Nat → Prop} (w:World) (h:BdD TB od X Y w v s O):Calls Tryz.prog 77 #[v] w fun e w' => e = .returned (.tuple #[]) ∧ Stp (BdD TB od X Y) v O w { s with st:=false } w':=by
  obtain ⟨b,gm,D,V,rfl,rfl,hm⟩:=h
  have HS:=Lib.hid (hm.setStop false)
  obtain ⟨c0,c1,c2,c3,c4⟩:=hm.cells
  have f4:=hm.live (od + 4)
  clear hm
  go_enter Tryz.func77,Tryz.ntmps77
  go_wp2
  go_end0
  exact ⟨rfl,_,⟨b,gm,D,V,rfl,rfl,HS.out⟩,bdSet_kept,Grows.refl _ _⟩
theorem kqflush_v {v:Value} {s:Bq} {O:Nat → Prop} (w:World) (h:BdD TB od X Y w v s O):Calls Tryz.prog 66 #[v] w fun e w' => e = .returned (.int .i64 (s.L.length:Nat)) ∧ Stp (BdD TB od X Y) v O w { s with L := [] } w':=by
  obtain ⟨b,gm,D,V,rfl,rfl,hm⟩:=h
  have HM:=Lib.hid hm
  obtain ⟨c0,c1,c2,c3,c4⟩:=hm.cells
  clear hm
  go_enter Tryz.func66,Tryz.ntmps66
  go_wp2_with (refine wpList_clearH _ rfl (.tmp 13) rfl Tryz.underlying67 rfl HM.out.map ?_; intro w3 hm3 ht3; obtain ⟨q1,q2,q3⟩:=HM.out.clear hm3 ht3; have HQ1:=Lib.hid q1; have HQ2:=Lib.hid q2; have HQ3:=Lib.hid q3; clear q1 q2 q3 hm3 ht3 c0 c1 c2 c3 c4; obtain ⟨c0,c1,c2,c3,c4⟩:=HQ1.out.cells; have f3:=HQ1.out.live (od + 3))
  go_ret
  exact ⟨rfl,_,⟨b,gm,_,_,rfl,rfl,HQ1.out.setCount 0⟩,HQ2.out.trans bdSet_kept HQ3.out,HQ3.out⟩
theorem kqput_v {v:Value} {s:Bq} {O:Nat → Prop} (w:World) (i:Int) (p:Pk) (h:BdD TB od X Y w v s O) (hok:s.Ok) :
    Calls Tryz.prog 38 #[v, .int .i64 i,pkV p] w fun e w' => e = .returned (.int .i64 (s.put i p).2) ∧ Stp (BdD TB od X Y) v O w (s.put i p).1 w':=by
  obtain ⟨b,gm,D,V,rfl,rfl,hm⟩:=h
  have HB0:=Lib.hid ((Below.refl w.heap.size w).alloc (Nat.le_refl _) (.cells #[.int .i64 p.f.i, .int .i64 p.f.n, .int .i64 p.f.l, .string p.f.d, .int .i64 p.fr, .int .i64 p.tag, .bool p.lp] 37))
  have HM:=Lib.hid hm
  have HM0:=Lib.hid (hm.later HB0.out)
  obtain ⟨c0,c1,c2,c3,c4⟩:=HM0.out.cells
  by_cases hf:(s.L.length:Int) = s.room
  · have HE:Hid (s.put i p = (s,5)):=Lib.hid (by unfold Bq.put; rw [if_pos hf])
    rw [HE.out]
    have hd:decide (s.room ≤ (s.L.length:Int)) = true:=decide_eq_true (by omega)
    clear hf hm hok
    go_enter Tryz.func38,Tryz.ntmps38
    go_wp2
    go_quiet (fail)
    go_wp2
    go_ret
    exact ⟨rfl,HM.out.stp (below_drewN HB0.out _)⟩
  · have HE:Hid (s.put i p = ({ s with L:=s.L ++ [⟨s.at_ i,p⟩] },0)):=Lib.hid (by unfold Bq.put; rw [if_neg hf])
    have HLL:Hid (s.L.length < 1000):=Lib.hid (by have:=hok.room; have:=hok.len; omega)
    obtain ⟨a1,a2⟩:=hok.at_ i
    obtain ⟨j,hj⟩:=Int.eq_ofNat_of_zero_le a1
    have hbd:=hok.bands
    have HJ:Hid (j < 1000):=Lib.hid (by omega)
    obtain ⟨m,hmax⟩:∃ m:Nat,(if i < 0 then 0 else i) = (m:Int):=by
      split
      · exact ⟨0,rfl⟩
      · exact ⟨i.toNat,by omega⟩
    have hmin:(if s.bands - 1 < (m:Int) then s.bands - 1 else (m:Int)) = (j:Int):=by
      rw [← hj,← hmax]
      unfold Bq.at_
      split <;> split <;> (try split) <;> omega
    rw [hj] at HE
    have hd:decide (s.room ≤ (s.L.length:Int)) = false:=decide_eq_false (by have:=hok.len; omega)
    rw [HE.out]
    obtain ⟨b1,b2⟩:=hbd
    clear hf hm hok a1 a2 hj
    have HP0:Hid (BoxP (w.alloc (.cells #[.int .i64 p.f.i, .int .i64 p.f.n, .int .i64 p.f.l, .string p.f.d, .int .i64 p.fr, .int .i64 p.tag, .bool p.lp] 37)) w.heap.size p):=Lib.hid (BoxP.made w p)
    go_enter Tryz.func38,Tryz.ntmps38
    go_wp2
    go_quiet (fail)
    generalize hwd:(w.alloc _).drewN _ = wd
    have HBD:Hid (Below w.heap.size w wd):=Lib.hid (by rw [← hwd]; exact below_drewN HB0.out _)
    have HPD:Hid (BoxP wd w.heap.size p):=Lib.hid (by rw [← hwd]; exact HP0.out)
    clear hwd hd c0 c1 c2 c3 c4
    have HMD:=Lib.hid (HM.out.later HBD.out)
    obtain ⟨c0,c1,c2,c3,c4⟩:=HMD.out.cells
    obtain ⟨d0,d1,d2,d3,d4,d5,d6⟩:=HPD.out.cells
    have hzb:b < wd.heap.size:=HMD.out.lt b (.inl rfl)
    have hzf:w.heap.size < wd.heap.size:=HPD.out.lt
    obtain ⟨u,hu⟩:∃ u,V j = u:=⟨_,rfl⟩
    have HU:=Lib.hid hu
    obtain ⟨R,hR⟩:∃ R,bandF s.L j = R:=⟨_,rfl⟩
    have HR:=Lib.hid hR
    have hrow:=HMD.out.row j
    rw [hu,hR] at hrow
    obtain ⟨A5,cap5,rfl⟩:=hrow.shape
    have HRQ:=Lib.hid hrow
    have hnb:¬ OwnO (Value.slice A5 R.length cap5) b:=by rw [← hu]; exact (HMD.out.f1 j).1
    have hnf:¬ OwnO (Value.slice A5 R.length cap5) w.heap.size:=fun h => by rw [← hu] at h; exact absurd (HM.out.lt _ (.inr (.inr ⟨j,h⟩))) (Nat.lt_irrefl _)
    have HNM:Hid (¬ OwnO (Value.slice A5 R.length cap5) gm):=Lib.hid (by rw [← hu]; exact (HMD.out.f1 j).2)
    have HLK:Hid (∀ w',Kept (OwnO (.slice A5 R.length cap5)) wd w' → (Instr.lookup 67 (.map (some gm)) (.int .i64 j) false).run Tryz.prog w' = .ok (.slice A5 R.length cap5) w'):=Lib.hid (fun w' hk => by
      have:=MapH.look (HMD.out.map.stay (hk.block gm HMD.out.map.lt HNM.out)) lawJ Tryz.underlying67 (zeroPs w') (keyJ (by have:=HJ.out; omega)) (HMD.out.here j)
      rw [HU.out] at this
      exact this)
    have HRL:Hid (R.length < 1000):=Lib.hid (by rw [← hR]; exact Nat.lt_of_le_of_lt (bandF_len _ _) HLL.out)
    clear hu hR hrow
    go_upto_region 8 with fail
    have hcb:∀ (q:KLater (OwnO (.slice A5 R.length cap5)) wd) (o:Nat),q.w.cell? ⟨b,o,none⟩ = wd.cell? ⟨b,o,none⟩:=fun q o => q.cell b o hzb hnb
    have hcf:∀ (q:KLater (OwnO (.slice A5 R.length cap5)) wd) (o:Nat),q.w.cell? ⟨w.heap.size,o,none⟩ = wd.cell? ⟨w.heap.size,o,none⟩:=fun q o => q.cell w.heap.size o hzf hnf
    refine wp_region_st 14 [13] (AppQ pkC 7 (.slice A5 R.length cap5) [p] R wd 40 41) [40,41] (AppQ.start HRQ.out) (by kernel_rfl) (by kernel_rfl) (by kernel_rfl) (by kernel_rfl) (by kernel_rfl) (by kernel_rfl) (by kernel_rfl) ?_
    simp only [List.take_succ_cons,List.take_zero,List.drop_succ_cons,List.drop_zero]
    repeat (refine st_plain (fun h => h.1) (by rfl) (by rfl) (by rfl) (by rfl) (by rfl) ?_; intro K hK; go_big_quiet_op; go_big_quiet_on)
    refine st_nil (fun h => h.1) (by rfl) (by rfl) (by rfl) (by rfl) (by rfl) (by rfl) ?_; intro K hK; go_big_quiet_op; go_big_quiet_on
    repeat (refine st_plain (fun h => h.1) (by rfl) (by rfl) (by rfl) (by rfl) (by rfl) ?_; intro K hK; go_big_quiet_op; go_big_quiet_on)
    refine st_nil (fun h => h.1) (by rfl) (by rfl) (by rfl) (by rfl) (by rfl) (by rfl) ?_; intro K hK; go_big_quiet_op; go_big_quiet_on
    repeat (refine st_plain (fun h => h.1) (by rfl) (by rfl) (by rfl) (by rfl) (by rfl) ?_; intro K hK; go_big_quiet_op; go_big_quiet_on)
    refine st_look (.tmp 36) (.tmp 37) (.slice A5 R.length cap5) (by rfl) (by rfl) (by rfl) (by rfl) (by rfl) (.map (some gm)) (.int .i64 j) (by rfl) (by rfl) (fun j xs w3 hG => HLK.out w3 hG.1) ?_
    simp only [Act.put,List.setIfInBounds_toArray,List.set_cons_succ,List.set_cons_zero]
    repeat (refine st_plain (fun h => h.1) (by rfl) (by rfl) (by rfl) (by rfl) (by rfl) ?_; intro K hK; go_big_quiet_op; go_big_quiet_on)
    refine st_new (s:=40) (mk:=fun w => .slice (some ⟨w.heap.size,0,none⟩) 1 1) (ob:=fun _ => .cells (pkC p).toArray 37) (by rfl) (by rfl) (by rfl) (by rfl) (by rfl) (by rfl) (fun _ => by kernel_rfl) (AppQ.one pkC_len (by decide)) ?_
    simp only [Act.put,List.setIfInBounds_toArray,List.set_cons_succ,List.set_cons_zero]
    refine st_app (ts:=38) (tx:=40) (tr:=41) (L:=R) (M := [p]) flat_pk pkC_len pkC_one 0 (by rfl) (by rfl) (by rfl) (by rfl) (by rfl) (by rfl) (by rfl) (by decide) (by decide) (by rfl) AppQ.rd (by have:=HRL.out; simp; omega) (fun xs w v' w' hG => AppQ.app xs w v' w' hG) ?_
    simp only [Act.put,List.setIfInBounds_toArray,List.set_cons_succ,List.set_cons_zero]
    intro ys xs w2 hF h2
    have e41:=hF 41 (by simp)
    obtain ⟨k1,k2,k3⟩:=AppQ.out h2 e41
    simp only [secFill]
    simp only [Act.put,List.setIfInBounds_toArray,List.set_cons_succ,List.set_cons_zero]
    have hmap:MapH Tryz.prog 3 w2 gm D:=HMD.out.map.stay (k1.block gm HMD.out.map.lt HNM.out)
    have htd:=hmap.tidy lawJ
    have hj3:=HJ.out
    refine wpList_storeH _ rfl (.tmp 31) (.tmp 32) (.tmp 41) rfl lawJ Tryz.underlying67 (j:Int) (ys 41) rfl hmap (by have:=HMD.out.size.le; unfold maxLen; omega) rfl rfl (keyJ (by omega)) ?_
    intro w3 hm3 ht3
    have hq0:RowQ pkC 7 w2 (ys 41) (bandF (s.L ++ [⟨(j:Int),p⟩]) j):=by rw [bandF_put,if_pos rfl,HR.out]; exact k2
    rw [← HU.out] at k1 k3
    obtain ⟨q1,q2,q3⟩:=HMD.out.setRow hq0 (fun l hl => by rw [bandF_put,if_neg (fun e => hl (by have e:(j:Int) = (l:Int):=e; omega)),List.append_nil]) k1 k3 hm3 (HMD.out.size.put htd hj3 _) (AtM.put_same htd _ _ _) (fun m x hne hx => hx.put_other (by omega) _) ht3
    have HQ1:=Lib.hid q1
    have HQ2:=Lib.hid ((Kept.of_below (O:=bdO b gm V) HBD.out).trans q2 (Grows.refl _ _))
    have HQ3:Hid (Grows (bdO b gm V) w (bdO b gm (rowOf V j (ys 41)))):=Lib.hid (fun k hk => (q3 k hk).imp id (fun h => Nat.le_trans HBD.out.size h))
    clear q1 q2 q3 hm3 ht3 hmap htd hj3 k1 k2 k3 h2 hF e41 hcb hcf hq0 c0 c1 c2 c3 c4 hmax hmin
    obtain ⟨c0,c1,c2,c3,c4⟩:=HQ1.out.cells
    have f3:=HQ1.out.live (od + 3)
    have hll:=HLL.out
    go_wp2
    go_ret
    refine ⟨rfl,_,⟨b,gm,D.put (.int .i64 j) (.held (ys 41)),rowOf V j (ys 41),rfl,rfl, ?_⟩,HQ2.out.trans bdSet_kept HQ3.out,HQ3.out⟩
    have hc:=HQ1.out.setCount ((s.L ++ [(⟨(j:Int),p⟩:On)]).length:Nat)
    simp only [List.length_append,List.length_singleton,Int.natCast_add,Int.natCast_one] at hc ⊢
    exact hc
end Go.Proofs.YtimdkcchjanpaaaGreatDoor
