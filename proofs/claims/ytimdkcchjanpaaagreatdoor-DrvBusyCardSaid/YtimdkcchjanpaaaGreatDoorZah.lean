/- Band, the document's side: what a queue is in memory; what is stored into it. Of no program: a row in a block of its own as what another reads; an empty one. .. -/
import Derived.Test.YtimdkcchjanpaaaGreatDoorZaf
import Derived.Test.YtimdkcchjanpaaaGreatDoorZag
import Derived.BigQuiet
import Derived.Deep.Cut
import Derived.Test.YtimdkcchjanpaaaGreatDoorZad
set_option maxHeartbeats 16000000
namespace Go.Proofs.YtimdkcchjanpaaaGreatDoor
open Go.RowKit
set_option linter.unusedVariables false
structure On where
  b:Int
  p:Pk
def onC (o:On):List Value := .int .i64 o.b :: pkC o.p
theorem onC_len (o:On):(onC o).length = 8:=rfl
structure Bq where
  L:List On
  bands:Int
  room:Int
  st:Bool
structure BqM (w:World) (b:Nat) (vl:Value) (s:Bq):Prop where
  box:w.heap[b]? = some (.cells #[vl, .int .i64 s.bands, .int .i64 s.room, .bool s.st] 150 (0,0))
  row:RowQ onC 8 w vl s.L
  h1:¬ OwnO vl b
def bqO (b:Nat) (vl:Value):Nat → Prop:=fun k => k = b ∨ OwnO vl k
def BqD (w:World) (v:Value) (s:Bq) (O:Nat → Prop):Prop := ∃ b vl,v = .pointer (some ⟨b,0,none⟩) ∧ O = bqO b vl ∧ BqM w b vl s
section
variable {w w':World} {b:Nat} {vl:Value} {s:Bq}
theorem BqM.lt (h:BqM w b vl s):∀ k,bqO b vl k → k < w.heap.size:=by
  rintro k (rfl | hk)
  · exact heap_some_lt h.box
  · exact h.row.lt k hk
theorem BqM.stay (h:BqM w b vl s) (hs:∀ k,bqO b vl k → w'.heap[k]? = w.heap[k]?):BqM w' b vl s:=by
  have hz:∀ k,bqO b vl k → k < w'.heap.size:=fun k hk => by
    have h1:=hs k hk
    have h2:=h.lt k hk
    rw [Array.getElem?_eq_getElem h2] at h1
    exact heap_some_lt h1
  exact ⟨(hs b (.inl rfl)).trans h.box,h.row.stayL (fun k hk => hs k (.inr hk)) (fun k hk => hz k (.inr hk)),h.h1⟩
theorem BqM.later (h:BqM w b vl s) (hb:Below w.heap.size w w'):BqM w' b vl s:=h.stay (fun k hk => hb.block k (h.lt k hk))
theorem isObj_bq:IsObj BqD where
  stay:=by
    rintro w w' v s O ⟨b,vl,rfl,rfl,h⟩ hs
    exact ⟨b,vl,rfl,rfl,h.stay hs⟩
  lt:=by
    rintro w v s O ⟨b,vl,rfl,rfl,h⟩
    exact h.lt
theorem BqM.cells (h:BqM w b vl s):w.cell? ⟨b,0,none⟩ = some vl ∧ w.cell? ⟨b,1,none⟩ = some (.int .i64 s.bands) ∧ w.cell? ⟨b,2,none⟩ = some (.int .i64 s.room) ∧ w.cell? ⟨b,3,none⟩ = some (.bool s.st):=by
  have hb:=h.box
  refine ⟨?_, ?_, ?_, ?_⟩ <;> (rw [Lib.cell_of_heap hb]; rfl)
theorem BqM.live (h:BqM w b vl s) (j:Nat):w.frozen? ⟨b,j,none⟩ = false:=Lib.frozen_of_heap h.box j
theorem BqM.stp (h:BqM w b vl s) (hb:Below w.heap.size w w'):Stp BqD (.pointer (some ⟨b,0,none⟩)) (bqO b vl) w s w':=⟨_,⟨b,vl,rfl,rfl,h.later hb⟩, .of_below hb,Grows.refl _ _⟩
theorem BqM.setStop (h:BqM w b vl s) (q:Bool):BqM (w.setCell ⟨b,3,none⟩ (.bool q)) b vl { s with st:=q } ∧ Kept (bqO b vl) w (w.setCell ⟨b,3,none⟩ (.bool q)):=by
  have ho:∀ k,k ≠ b → (w.setCell ⟨b,3,none⟩ (.bool q)).heap[k]? = w.heap[k]?:=fun k hk => Below.heap_setCell _ _ _ _ hk
  have hz:w.heap.size ≤ (w.setCell ⟨b,3,none⟩ (.bool q)).heap.size:=by simp [World.setCell]
  refine ⟨⟨?_,h.row.stay (fun g hg => ho g (fun e => h.h1 (e ▸ hg))) hz,h.h1⟩,⟨rfl,rfl,rfl,hz,fun k _ hk => ho k (fun e => hk (.inl e))⟩⟩
  rw [heap_setCell_same w b 3 _ _ _ h.box]; rfl
theorem BqM.setRow {vl':Value} {L':List On} (h:BqM w b vl s) (hb:Below w.heap.size w w') (hq:RowQ onC 8 w' vl' L') (hg:Grows (OwnO vl) w (OwnO vl')) :
    BqM (w'.setCell ⟨b,0,none⟩ vl') b vl' { s with L:=L' } ∧ Kept (bqO b vl) w (w'.setCell ⟨b,0,none⟩ vl') ∧ Grows (bqO b vl) w (bqO b vl'):=by
  have hm:=h.later hb
  have lb:=heap_some_lt h.box
  have ho:∀ k,k ≠ b → (w'.setCell ⟨b,0,none⟩ vl').heap[k]? = w'.heap[k]?:=fun k hk => Below.heap_setCell _ _ _ _ hk
  have hz:w'.heap.size ≤ (w'.setCell ⟨b,0,none⟩ vl').heap.size:=by simp [World.setCell]
  have hn:¬ OwnO vl' b:=fun h4 => by
    rcases hg b h4 with h5 | h5
    · exact h.h1 h5
    · omega
  refine ⟨⟨?_,hq.stay (fun g hg' => ho g (fun e => hn (e ▸ hg'))) hz,hn⟩, ?_, ?_⟩
  · rw [heap_setCell_same w' b 0 _ _ _ hm.box]; rfl
  · exact (Kept.of_below (O:=bqO b vl) hb).trans ⟨rfl,rfl,rfl,hz,fun k _ hk => ho k (fun e => hk (.inl e))⟩ (Grows.refl _ _)
  · rintro k (rfl | h4)
    · exact .inl (.inl rfl)
    · rcases hg k h4 with h5 | h5
      · exact .inl (.inr h5)
      · exact .inr h5
end
theorem BqM.one {w:World} {b:Nat} {vl:Value} {s:Bq} (h:BqM w b vl s) (hl:s.L.length ≤ 1000) {k:Nat} (hk:k < s.L.length):∃ x c,vl = .slice (some x) s.L.length c ∧ x.block < w.heap.size ∧ ∀ j u,(onC (s.L[k]'hk))[j]? = some u → w.cell? ((x.add (k * 8)).add j) = some u :=
  SlG.at_ (h.row.sl onC_len (by unfold maxLen; omega)) hk
def bqNew (bands room:Int):Bq:=⟨[],roomN bands,roomN room,false⟩
theorem xbnew_v (bands room:Int) (w:World):Calls Tryz.prog 54 #[.int .i64 bands, .int .i64 room] w fun e w' => ∃ v O,e = .returned v ∧ BqD w' v (bqNew bands room) O ∧ Below w.heap.size w w' ∧ ∀ k,O k → w.heap.size ≤ k:=by
  have HF:Hid (∃ O,BqD (w.alloc (.cells #[.slice none 0 0, .int .i64 (roomN bands), .int .i64 (roomN room), .bool false] 150)) (.pointer (some ⟨w.heap.size,0,none⟩)) (bqNew bands room) O ∧ ∀ k,O k → w.heap.size ≤ k):=Lib.hid
    ⟨_,⟨w.heap.size, .slice none 0 0,rfl,rfl,⟨by unfold World.alloc; simp; exact ⟨rfl,rfl,rfl⟩,RowQ.nil _,nofun⟩⟩,by
      rintro k (rfl | h)
      · exact Nat.le_refl _
      · cases h⟩
  have HB:=Lib.hid ((Below.refl w.heap.size w).alloc (Nat.le_refl _) (.cells #[.slice none 0 0, .int .i64 (roomN bands), .int .i64 (roomN room), .bool false] 150))
  go_enter Tryz.func54,Tryz.ntmps54
  go_wp2_with fail
  refine (xroom_v rfl w).mono ?_
  rintro e w1 ⟨rfl,rfl⟩
  go_wp2_with fail
  refine (xroom_v rfl w).mono ?_
  rintro e w1 ⟨rfl,rfl⟩
  go_wp2_with fail
  go_ret
  obtain ⟨O,h1,h2⟩:=HF.out
  exact ⟨_,O,rfl,h1,HB.out,h2⟩
def Bq.at_ (s:Bq) (b:Int):Int:=if b < 0 then 0 else if s.bands ≤ b then s.bands - 1 else b
def Bq.put (s:Bq) (b:Int) (p:Pk):Bq × Int:=if (s.L.length:Int) = s.room then (s,5) else ({ s with L:=s.L ++ [⟨s.at_ b,p⟩] },0)
def Bq.first (s:Bq):Nat → Option Nat
  | 0 => none
  | k + 1 => match s.first k with
    | none => some k
    | some i => if (s.L.getD k ⟨0,pk0⟩).b < (s.L.getD i ⟨0,pk0⟩).b then some k else some i
theorem Bq.first_lt {s:Bq} {i:Nat}:∀ {k},s.first k = some i → i < k
  | 0,h => by cases h
  | k + 1,h => by
    unfold Bq.first at h
    cases hk:s.first k with
    | none => rw [hk] at h; injection h with h; omega
    | some j =>
      rw [hk] at h
      simp only at h
      have:=Bq.first_lt hk
      split at h <;> (injection h with h; omega)
theorem Bq.first_none {s:Bq}:∀ {k},s.first k = none → k = 0
  | 0,_ => rfl
  | k + 1,h => by
    unfold Bq.first at h
    cases hk:s.first k with
    | none => rw [hk] at h; cases h
    | some j => rw [hk] at h; simp only at h; split at h <;> cases h
def Bq.take (s:Bq):Bq × Pk × Bool:=match s.first s.L.length with
  | none => (s,pk0,false)
  | some i => if s.st then (s,pk0,false) else ({ s with L:=s.L.eraseIdx i },(s.L.getD i ⟨0,pk0⟩).p,true)
structure Bq.Ok (s:Bq):Prop where
  bands:1 ≤ s.bands ∧ s.bands ≤ 1000
  room:1 ≤ s.room ∧ s.room ≤ 1000
  len:(s.L.length:Int) ≤ s.room
  rng:∀ o ∈ s.L,0 ≤ o.b ∧ o.b < s.bands
theorem Bq.Ok.new (bands room:Int):(bqNew bands room).Ok:=⟨roomN_rng _,roomN_rng _,by have:=roomN_rng room; show ((([]:List On).length:Nat):Int) ≤ roomN room; simp; omega,nofun⟩
theorem Bq.Ok.at_ {s:Bq} (h:s.Ok) (b:Int):0 ≤ s.at_ b ∧ s.at_ b < s.bands:=by
  have:=h.bands
  unfold Bq.at_
  split
  · omega
  · split <;> omega
theorem Bq.Ok.put {s:Bq} (h:s.Ok) (b:Int) (p:Pk):(s.put b p).1.Ok:=by
  unfold Bq.put
  split
  · exact h
  · rename_i hn
    refine ⟨h.bands,h.room,by show (((s.L ++ [_]).length:Nat):Int) ≤ s.room; have:=h.len; simp; omega,fun o ho => ?_⟩
    simp only [List.mem_append,List.mem_singleton] at ho
    rcases ho with ho | rfl
    · exact h.rng o ho
    · exact h.at_ b
theorem Bq.Ok.take {s:Bq} (h:s.Ok):s.take.1.Ok:=by
  unfold Bq.take
  split
  · exact h
  · split
    · exact h
    · rename_i i _ _
      refine ⟨h.bands,h.room, ?_,fun o ho => h.rng o (List.mem_of_mem_eraseIdx ho)⟩
      have h1:=h.len
      have h2:(s.L.eraseIdx i).length ≤ s.L.length:=by rw [List.length_eraseIdx]; split <;> omega
      show (((s.L.eraseIdx i).length:Nat):Int) ≤ s.room
      omega
theorem Bq.Ok.stop {s:Bq} (h:s.Ok) (q:Bool):({ s with st:=q }:Bq).Ok:=⟨h.bands,h.room,h.len,h.rng⟩
def Bq.inBand (s:Bq) (k j:Nat):List Pk:=((s.L.take j).filter fun o => o.b == (k:Int)).map fun o => o.p
def Bq.allTo (s:Bq) (k:Nat):List Pk:=(List.range k).flatMap fun b => s.inBand b s.L.length
def Bq.all (s:Bq):List Pk:=s.allTo s.bands.toNat
end Go.Proofs.YtimdkcchjanpaaaGreatDoor
namespace Go.Proofs.YtimdkcchjanpaaaGreatDoor
open Go.RowKit
set_option linter.unusedVariables false
theorem RowQ.rda {α:Type} {c:α → List Value} {k:Nat} {w:World} {v:Value} {L:List α} (h:RowQ c k w v L) (hk:∀ a,(c a).length = k) (hm:L.length ≤ maxLen):RdA c k w v L:=by
  refine ⟨h.sl hk hm, ?_⟩
  rcases h with ⟨h,_⟩ | ⟨g,o,cap,hv,h1,_⟩
  · exact .inl h
  · exact .inr ⟨_,cap,hv,h1⟩
theorem RowQ.empty {α:Type} {c:α → List Value} {k:Nat} (w:World) (o:Obj):RowQ c k (w.alloc o) (.slice (some ⟨w.heap.size,0,none⟩) 0 0) ([]:List α) :=
  .inr ⟨_,0,0,rfl,Nat.le_refl _,Nat.zero_le _,by simp,fun j u h => by simp [rowG] at h,fun j hj => by omega⟩
section
variable {α:Type} {c:α → List Value} {k:Nat} {w:World} {g o n cap j:Nat} {L:List α}
theorem RdA.cutHead (h:RdA c k w (.slice (some ⟨g,o,none⟩) n cap) L) (hj:j ≤ L.length) (hc:L.length ≤ cap):RdA c k w (.slice (some ⟨g,o,none⟩) j cap) (L.take j):=by
  obtain ⟨⟨A,cap',hv,hm,hcell⟩,_⟩:=h
  injection hv with hA _ hcap
  subst hA; subst hcap
  refine ⟨⟨_,cap,by rw [List.length_take,Nat.min_eq_left hj],by rw [List.length_take]; omega,fun i a ha => ?_⟩, .inr ⟨_,cap,by rw [List.length_take,Nat.min_eq_left hj],by rw [List.length_take]; omega⟩⟩
  have hi:i < j:=by
    rcases Nat.lt_or_ge i j with h1 | h1
    · exact h1
    · rw [List.getElem?_eq_none (by rw [List.length_take]; omega)] at ha; cases ha
  rw [List.getElem?_take_of_lt hi] at ha
  exact hcell i a ha
theorem RdA.cutTail (h:RdA c k w (.slice (some ⟨g,o,none⟩) n cap) L) (hj:j ≤ L.length) (hc:L.length ≤ cap):RdA c k w (.slice (some ⟨g,if cap = j then o else o + j * k,none⟩) (n - j) (cap - j)) (L.drop j):=by
  obtain ⟨⟨A,cap',hv,hm,hcell⟩,_⟩:=h
  injection hv with hA hn hcap
  subst hA; subst hcap; subst hn
  refine ⟨⟨_,_,by rw [List.length_drop],by rw [List.length_drop]; omega,fun i a ha => ?_⟩, .inr ⟨_,_,by rw [List.length_drop],by rw [List.length_drop]; omega⟩⟩
  rw [List.getElem?_drop] at ha
  obtain ⟨x',hx',hb,hq⟩:=hcell (j + i) a ha
  injection hx' with hx'
  subst hx'
  have hlt:j + i < L.length:=by
    rcases Nat.lt_or_ge (j + i) L.length with h | h
    · exact h
    · rw [List.getElem?_eq_none h] at ha; cases ha
  refine ⟨_,rfl,hb,fun t u hu => ?_⟩
  have:=hq t u hu
  rw [if_neg (by omega),qaddr]
  rw [qaddr] at this
  rw [show o + j * k + (i * k + t) = o + ((j + i) * k + t) by rw [Nat.add_mul]; omega]
  exact this
end
end Go.Proofs.YtimdkcchjanpaaaGreatDoor
namespace Go.Proofs.YtimdkcchjanpaaaGreatDoor
open Go.RowKit
set_option linter.unusedVariables false
theorem info_on:(Tryz.prog.info? 163).map (fun i => (i.zero,i.size,i.bytes)) = some (some (.agg #[.int .i64 0, .int .i64 0, .int .i64 0, .int .i64 0, .string (ByteArray.mk #[]), .int .i64 0, .int .i64 0, .bool false]),8,72):=by kernel_rfl
theorem flat_on:FlatE Tryz.prog 148 163 8 72:=by
  obtain ⟨i0,hi,hz0,hz1,hz2⟩:=info_parts info_on
  exact ⟨Tryz.underlying148,i0,_,hi,hz0,hz1,hz2,rfl,by decide,by decide⟩
theorem onC_one:∀ f:On, ∀ u ∈ onC f,u.oneCell' = true:=fun f u hu => by
  simp only [onC,pkC,List.mem_cons,List.not_mem_nil,or_false] at hu
  rcases hu with rfl | rfl | rfl | rfl | rfl | rfl | rfl | rfl <;> rfl
theorem put_done {w w':World} {b:Nat} {vl vl':Value} {s:Bq} {L':List On} (hm:BqM w b vl s) (hb:Below w.heap.size w w') (hq:RowQ onC 8 w' vl' L') (ho:∀ g,OwnO vl' g → w.heap.size ≤ g) :
    Stp BqD (.pointer (some ⟨b,0,none⟩)) (bqO b vl) w { s with L:=L' } (w'.setCell ⟨b,0,none⟩ vl'):=by
  obtain ⟨h1,h2,h3⟩:=hm.setRow hb hq (fun g h => .inr (ho g h))
  exact ⟨_,⟨b,_,rfl,rfl,h1⟩,h2,h3⟩
theorem xqput_v {v:Value} {s:Bq} {O:Nat → Prop} {p:Pk} {i e:Int} (w:World) (h:BqD w v s O) (hk:(s.put i p).2 = e) (hok:s.Ok) :
    Calls Tryz.prog 85 #[v, .int .i64 i,pkV p] w fun x w' => x = .returned (.int .i64 e) ∧ Stp BqD v O w (s.put i p).1 w':=by
  obtain ⟨b,vl,rfl,rfl,hm⟩:=h
  have HM:=Lib.hid hm
  have HK:=Lib.hid hk
  have HB0:=Lib.hid ((Below.refl w.heap.size w).alloc (Nat.le_refl _) (.cells #[.int .i64 p.f.i, .int .i64 p.f.n, .int .i64 p.f.l, .string p.f.d, .int .i64 p.fr, .int .i64 p.tag, .bool p.lp] 37))
  have HP0:=Lib.hid (BoxP.made w p)
  have HM0:=Lib.hid (HM.out.later HB0.out)
  have hlb:b < w.heap.size:=heap_some_lt HM.out.box
  have HOK:=Lib.hid hok
  obtain ⟨A,cap,hvl⟩:=hm.row.shape
  subst hvl
  obtain ⟨c0,c1,c2,c3⟩:=HM0.out.cells
  clear hm hk
  by_cases hf:(s.L.length:Int) = s.room
  · have HE:Hid (s.put i p = (s,5)):=Lib.hid (by unfold Bq.put; rw [if_pos hf])
    rw [HE.out] at HK ⊢
    obtain rfl:5 = e:=HK.out
    have hfb:((s.L.length:Int) == s.room) = true:=by simp [hf]
    clear hf
    go_enter Tryz.func85,Tryz.ntmps85
    go_wp2
    go_quiet (fail)
    go_wp2
    go_ret
    exact ⟨rfl,HM.out.stp (below_drewN HB0.out _)⟩
  · have HE:Hid (s.put i p = ({ s with L:=s.L ++ [⟨s.at_ i,p⟩] },0)):=Lib.hid (by unfold Bq.put; rw [if_neg hf])
    have HLL:Hid (s.L.length < 1000):=Lib.hid (by have:=hok.room; have:=hok.len; omega)
    have HBD0:=Lib.hid hok.bands
    rw [HE.out] at HK ⊢
    obtain rfl:0 = e:=HK.out
    have hfb:((s.L.length:Int) == s.room) = false:=by simp [hf]
    clear hf hok
    go_enter Tryz.func85,Tryz.ntmps85
    go_wp2
    go_quiet (fail)
    generalize hwd:(w.alloc _).drewN _ = wd
    have HBD:Hid (Below w.heap.size w wd):=Lib.hid (by rw [← hwd]; exact below_drewN HB0.out _)
    have HPD:Hid (BoxP wd w.heap.size p):=Lib.hid (by rw [← hwd]; exact HP0.out)
    clear hwd hfb c0 c1 c2 c3
    have HMD:=Lib.hid (HM.out.later HBD.out)
    obtain ⟨c0,c1,c2,c3⟩:=HMD.out.cells
    have hlb2:b < wd.heap.size:=heap_some_lt HMD.out.box
    have HRD:Hid (RdA onC 8 (wd.alloc (.cells #[] 163)) (.slice A s.L.length cap) s.L):=Lib.hid
      ((HMD.out.row.later ((Below.refl _ _).alloc (Nat.le_refl _) _)).rda onC_len (by have:=HLL.out; unfold maxLen; omega))
    by_cases hi:i < 0
    · have HA:Hid (s.at_ i = 0):=Lib.hid (by unfold Bq.at_; rw [if_pos hi])
      have d1:decide (i < 0) = true:=decide_eq_true hi
      have d2:decide (s.bands ≤ 0) = false:=decide_eq_false (by have:=HBD0.out; omega)
      clear hi
      go_upto_region 8 with (at_builtin; refine wpList_qO (c:=onC) (L := []) (M:=s.L) flat_on onC_len onC_one rfl (.tmp 31) (.tmp 35) rfl (by simp [Act.eval]) (RowQ.empty _ _) (by simp [Act.eval]) HRD.out (by have:=HLL.out; simp; omega) ?_; rintro v3 w3 hq3 hk3 hg3; have hq3:RowQ onC 8 w3 v3 s.L:=hq3; obtain ⟨A3,cap3,rfl⟩:=hq3.shape; have HQ3:=Lib.hid hq3; have HF3:=Lib.hid (own_fresh (Below.refl _ wd) hk3 hg3); clear hq3 hk3 hg3)
      clear c0 c1 c2 c3
      have HB3:=Lib.hid (fbelow_t HBD.out HF3.out.1)
      have HO3:Hid (∀ g,OwnO (.slice A3 s.L.length cap3) g → w.heap.size ≤ g):=Lib.hid (fun g h => Nat.le_trans HBD.out.size (HF3.out.2 g h))
      have HM3:=Lib.hid (HM.out.later HB3.out)
      have HP3:=Lib.hid (HPD.out.later HF3.out.1)
      obtain ⟨c0,c1,c2,c3⟩:=HM3.out.cells
      obtain ⟨d0,d1,d2,d3,d4,d5,d6⟩:=HP3.out.cells
      have f0:=HM3.out.live 0
      have hlb3:b < w3.heap.size:=heap_some_lt HM3.out.box
      have hlp3:w.heap.size < w3.heap.size:=HP3.out.lt
      have HBL:Hid (Below w3.heap.size w3 (w3.alloc (.cells #[.int .i64 0, .int .i64 p.f.i, .int .i64 p.f.n, .int .i64 p.f.l, .string p.f.d, .int .i64 p.fr, .int .i64 p.tag, .bool p.lp] 163))):=Lib.hid ((Below.refl _ _).alloc (Nat.le_refl _) _)
      have HRQ:=Lib.hid (HQ3.out.later HBL.out)
      have HR1:Hid (RdA onC 8 (w3.alloc (.cells #[.int .i64 0, .int .i64 p.f.i, .int .i64 p.f.n, .int .i64 p.f.l, .string p.f.d, .int .i64 p.fr, .int .i64 p.tag, .bool p.lp] 163)) (.slice (some ⟨w3.heap.size,0,none⟩) 1 1) [⟨0,p⟩]):=Lib.hid (RdA.one onC_len _ _ _ rfl rfl)
      go_wp2_with (at_builtin; refine wpList_qO (c:=onC) (L:=s.L) (M := [⟨0,p⟩]) flat_on onC_len onC_one rfl (.tmp 38) (.tmp 42) rfl (by rfl) HRQ.out (by rfl) HR1.out (by have:=HLL.out; simp; omega) ?_; rintro v4 w4 hq4 hk4 hg4; obtain ⟨g4,o4,cap4,rfl⟩:=hq4.form; have HQ4:=Lib.hid hq4; have HF4:=Lib.hid (own_app HB3.out HO3.out hk4 hg4); clear hq4 hk4 hg4; have y0:=(HM.out.later HF4.out.1).cells.1; have y1:=(HM.out.later HF4.out.1).live 0)
      have HD:=Lib.hid (put_done HM.out HF4.out.1 HQ4.out HF4.out.2)
      go_wp2
      go_ret
      rw [HA.out]
      exact ⟨rfl,HD.out⟩
    · by_cases hi2:s.bands ≤ i
      · have HA:Hid (s.at_ i = s.bands - 1):=Lib.hid (by unfold Bq.at_; rw [if_neg hi,if_pos hi2])
        have d1:decide (i < 0) = false:=decide_eq_false hi
        have d2:decide (s.bands ≤ i) = true:=decide_eq_true hi2
        have b1:=HBD0.out.1
        have b2:=HBD0.out.2
        clear hi hi2
        go_upto_region 8 with (at_builtin; refine wpList_qO (c:=onC) (L := []) (M:=s.L) flat_on onC_len onC_one rfl (.tmp 31) (.tmp 35) rfl (by simp [Act.eval]) (RowQ.empty _ _) (by simp [Act.eval]) HRD.out (by have:=HLL.out; simp; omega) ?_; rintro v3 w3 hq3 hk3 hg3; have hq3:RowQ onC 8 w3 v3 s.L:=hq3; obtain ⟨A3,cap3,rfl⟩:=hq3.shape; have HQ3:=Lib.hid hq3; have HF3:=Lib.hid (own_fresh (Below.refl _ wd) hk3 hg3); clear hq3 hk3 hg3)
        clear c0 c1 c2 c3
        have HB3:=Lib.hid (fbelow_t HBD.out HF3.out.1)
        have HO3:Hid (∀ g,OwnO (.slice A3 s.L.length cap3) g → w.heap.size ≤ g):=Lib.hid (fun g h => Nat.le_trans HBD.out.size (HF3.out.2 g h))
        have HM3:=Lib.hid (HM.out.later HB3.out)
        have HP3:=Lib.hid (HPD.out.later HF3.out.1)
        obtain ⟨c0,c1,c2,c3⟩:=HM3.out.cells
        obtain ⟨d0,d1,d2,d3,d4,d5,d6⟩:=HP3.out.cells
        have f0:=HM3.out.live 0
        have hlb3:b < w3.heap.size:=heap_some_lt HM3.out.box
        have hlp3:w.heap.size < w3.heap.size:=HP3.out.lt
        have HBL:Hid (Below w3.heap.size w3 (w3.alloc (.cells #[.int .i64 (s.bands - 1), .int .i64 p.f.i, .int .i64 p.f.n, .int .i64 p.f.l, .string p.f.d, .int .i64 p.fr, .int .i64 p.tag, .bool p.lp] 163))):=Lib.hid ((Below.refl _ _).alloc (Nat.le_refl _) _)
        have HRQ:=Lib.hid (HQ3.out.later HBL.out)
        have HR1:Hid (RdA onC 8 (w3.alloc (.cells #[.int .i64 (s.bands - 1), .int .i64 p.f.i, .int .i64 p.f.n, .int .i64 p.f.l, .string p.f.d, .int .i64 p.fr, .int .i64 p.tag, .bool p.lp] 163)) (.slice (some ⟨w3.heap.size,0,none⟩) 1 1) [⟨(s.bands - 1),p⟩]):=Lib.hid (RdA.one onC_len _ _ _ rfl rfl)
        go_wp2_with (at_builtin; refine wpList_qO (c:=onC) (L:=s.L) (M := [⟨(s.bands - 1),p⟩]) flat_on onC_len onC_one rfl (.tmp 38) (.tmp 42) rfl (by rfl) HRQ.out (by rfl) HR1.out (by have:=HLL.out; simp; omega) ?_; rintro v4 w4 hq4 hk4 hg4; obtain ⟨g4,o4,cap4,rfl⟩:=hq4.form; have HQ4:=Lib.hid hq4; have HF4:=Lib.hid (own_app HB3.out HO3.out hk4 hg4); clear hq4 hk4 hg4; have y0:=(HM.out.later HF4.out.1).cells.1; have y1:=(HM.out.later HF4.out.1).live 0)
        have HD:=Lib.hid (put_done HM.out HF4.out.1 HQ4.out HF4.out.2)
        go_wp2
        go_ret
        rw [HA.out]
        exact ⟨rfl,HD.out⟩
      · have HA:Hid (s.at_ i = i):=Lib.hid (by unfold Bq.at_; rw [if_neg hi,if_neg hi2])
        have d1:decide (i < 0) = false:=decide_eq_false hi
        have d2:decide (s.bands ≤ i) = false:=decide_eq_false hi2
        clear hi hi2
        go_upto_region 8 with (at_builtin; refine wpList_qO (c:=onC) (L := []) (M:=s.L) flat_on onC_len onC_one rfl (.tmp 31) (.tmp 35) rfl (by simp [Act.eval]) (RowQ.empty _ _) (by simp [Act.eval]) HRD.out (by have:=HLL.out; simp; omega) ?_; rintro v3 w3 hq3 hk3 hg3; have hq3:RowQ onC 8 w3 v3 s.L:=hq3; obtain ⟨A3,cap3,rfl⟩:=hq3.shape; have HQ3:=Lib.hid hq3; have HF3:=Lib.hid (own_fresh (Below.refl _ wd) hk3 hg3); clear hq3 hk3 hg3)
        clear c0 c1 c2 c3
        have HB3:=Lib.hid (fbelow_t HBD.out HF3.out.1)
        have HO3:Hid (∀ g,OwnO (.slice A3 s.L.length cap3) g → w.heap.size ≤ g):=Lib.hid (fun g h => Nat.le_trans HBD.out.size (HF3.out.2 g h))
        have HM3:=Lib.hid (HM.out.later HB3.out)
        have HP3:=Lib.hid (HPD.out.later HF3.out.1)
        obtain ⟨c0,c1,c2,c3⟩:=HM3.out.cells
        obtain ⟨d0,d1,d2,d3,d4,d5,d6⟩:=HP3.out.cells
        have f0:=HM3.out.live 0
        have hlb3:b < w3.heap.size:=heap_some_lt HM3.out.box
        have hlp3:w.heap.size < w3.heap.size:=HP3.out.lt
        have HBL:Hid (Below w3.heap.size w3 (w3.alloc (.cells #[.int .i64 i, .int .i64 p.f.i, .int .i64 p.f.n, .int .i64 p.f.l, .string p.f.d, .int .i64 p.fr, .int .i64 p.tag, .bool p.lp] 163))):=Lib.hid ((Below.refl _ _).alloc (Nat.le_refl _) _)
        have HRQ:=Lib.hid (HQ3.out.later HBL.out)
        have HR1:Hid (RdA onC 8 (w3.alloc (.cells #[.int .i64 i, .int .i64 p.f.i, .int .i64 p.f.n, .int .i64 p.f.l, .string p.f.d, .int .i64 p.fr, .int .i64 p.tag, .bool p.lp] 163)) (.slice (some ⟨w3.heap.size,0,none⟩) 1 1) [⟨i,p⟩]):=Lib.hid (RdA.one onC_len _ _ _ rfl rfl)
        go_wp2_with (at_builtin; refine wpList_qO (c:=onC) (L:=s.L) (M := [⟨i,p⟩]) flat_on onC_len onC_one rfl (.tmp 38) (.tmp 42) rfl (by rfl) HRQ.out (by rfl) HR1.out (by have:=HLL.out; simp; omega) ?_; rintro v4 w4 hq4 hk4 hg4; obtain ⟨g4,o4,cap4,rfl⟩:=hq4.form; have HQ4:=Lib.hid hq4; have HF4:=Lib.hid (own_app HB3.out HO3.out hk4 hg4); clear hq4 hk4 hg4; have y0:=(HM.out.later HF4.out.1).cells.1; have y1:=(HM.out.later HF4.out.1).live 0)
        have HD:=Lib.hid (put_done HM.out HF4.out.1 HQ4.out HF4.out.2)
        go_wp2
        go_ret
        rw [HA.out]
        exact ⟨rfl,HD.out⟩
end Go.Proofs.YtimdkcchjanpaaaGreatDoor
namespace Go.Proofs.YtimdkcchjanpaaaGreatDoor
open Go.RowKit
set_option linter.unusedVariables false
def fI:Option Nat → Int
  | none => -1
  | some i => i
theorem Bq.first_step_none {s:Bq} {k:Nat} (h:s.first k = none):s.first (k + 1) = some k:=by unfold Bq.first; rw [h]
theorem Bq.first_step_lt {s:Bq} {k i:Nat} (h:s.first k = some i) (hl:(s.L.getD k ⟨0,pk0⟩).b < (s.L.getD i ⟨0,pk0⟩).b):s.first (k + 1) = some k:=by unfold Bq.first; rw [h]; exact if_pos hl
theorem Bq.first_step_ge {s:Bq} {k i:Nat} (h:s.first k = some i) (hl:¬ (s.L.getD k ⟨0,pk0⟩).b < (s.L.getD i ⟨0,pk0⟩).b):s.first (k + 1) = some i:=by unfold Bq.first; rw [h]; exact if_neg hl
theorem BqM.band {w:World} {b g o cap n:Nat} {s:Bq} (h:BqM w b (.slice (some ⟨g,o,none⟩) n cap) s) (hl:s.L.length ≤ 1000) {k:Nat} (hk:k < s.L.length):w.cell? ⟨g,o + k * 8,none⟩ = some (.int .i64 (s.L.getD k ⟨0,pk0⟩).b):=by
  obtain ⟨x,c,h1,h2,h3⟩:=h.one hl hk
  injection h1 with h1 _ _
  injection h1 with h1
  subst h1
  have:=h3 0 _ rfl
  rw [List.getD_eq_getElem?_getD,List.getElem?_eq_getElem hk]
  rw [qaddr,qaddr,Nat.add_zero] at this
  exact this
theorem xqfirst_v {b:Nat} {vl:Value} {s:Bq} {r:Int} (w:World) (hm:BqM w b vl s) (hl:s.L.length ≤ 1000) (hr:fI (s.first s.L.length) = r) :
    Calls Tryz.prog 148 #[.pointer (some ⟨b,0,none⟩)] w fun x w' => x = .returned (.int .i64 r) ∧ Below w.heap.size w w':=by
  have HM:=Lib.hid hm
  have HR:=Lib.hid hr
  have HL:=Lib.hid hl
  by_cases h0:s.L.length = 0
  · have HN:Hid (r = -1):=Lib.hid (by rw [← hr,h0]; rfl)
    obtain ⟨A,cap,hvl⟩:=hm.row.shape
    rw [h0] at hvl
    subst hvl
    obtain ⟨c0,c1,c2,c3⟩:=hm.cells
    clear hm hr hl h0
    go_enter Tryz.func148,Tryz.ntmps148
    go_wp2
    go_loop [4,3] (fun i t => i = .int .i64 0 ∧ t = .int .i64 (-1)) (fun i t => 1)
    case atStart => exact ⟨rfl,rfl⟩
    case round =>
      obtain ⟨rfl,rfl⟩:=hrel
      go_wp2
      go_ret
      rw [HN.out]
      exact ⟨rfl,Below.refl _ _⟩
  · obtain ⟨g,o,cap,hvl⟩:=hm.row.formN (by omega)
    have h1:0 < s.L.length:=by omega
    subst hvl
    clear hm hr hl h0
    go_enter Tryz.func148,Tryz.ntmps148
    go_wp2
    go_loopw [4,3] (fun i t wr => ∃ k:Nat,k ≤ s.L.length ∧ i = .int .i64 k ∧ t = .int .i64 (fI (s.first k)) ∧ Hid (Below w.heap.size w wr)) (fun i _ _ => s.L.length - (intOf i).toNat)
    case atStart => exact ⟨0,Nat.zero_le _,rfl,rfl,Lib.hid (Below.refl _ _)⟩
    case round =>
      obtain ⟨k,hk,rfl,rfl,HB⟩:=hrel
      have HMR:=Lib.hid (HM.out.later HB.out)
      obtain ⟨c0,c1,c2,c3⟩:=HMR.out.cells
      have hL:=HL.out
      by_cases hlt:k < s.L.length
      · have hd:decide ((k:Int) < (s.L.length:Int)) = true:=decide_eq_true (by omega)
        have m0:=HMR.out.band HL.out hlt
        obtain ⟨f,hf⟩:∃ f,s.first k = f:=⟨_,rfl⟩
        have HF:=Lib.hid hf
        rw [hf]
        clear hf
        cases f with
        | none =>
          have HS:=Lib.hid (Bq.first_step_none HF.out)
          simp only [fI]
          have hd2:decide ((-1:Int) < 0) = true:=rfl
          go_wp2
          go_quiet (fail)
          go_wp2
          go_roundw
          case rel => exact ⟨k + 1,by omega,by go_num,by rw [HS.out],Lib.hid (below_drewN HB.out _)⟩
          case measure => simp [intOf]; omega
        | some j =>
          have hj:j < s.L.length:=by have:=Bq.first_lt HF.out; omega
          have n0:=HMR.out.band HL.out hj
          simp only [fI]
          have hd2:decide ((j:Int) < 0) = false:=decide_eq_false (by omega)
          by_cases hlq:(s.L.getD k ⟨0,pk0⟩).b < (s.L.getD j ⟨0,pk0⟩).b
          · have HS:=Lib.hid (Bq.first_step_lt HF.out hlq)
            have hd3:decide ((s.L.getD k ⟨0,pk0⟩).b < (s.L.getD j ⟨0,pk0⟩).b) = true:=decide_eq_true hlq
            generalize (s.L.getD k ⟨0,pk0⟩).b = x at *
            generalize (s.L.getD j ⟨0,pk0⟩).b = y at *
            clear hlq
            go_wp2
            go_quiet (fail)
            go_wp2
            go_roundw
            case rel => exact ⟨k + 1,by omega,by go_num,by rw [HS.out],Lib.hid (below_drewN HB.out _)⟩
            case measure => simp [intOf]; omega
          · have HS:=Lib.hid (Bq.first_step_ge HF.out hlq)
            have hd3:decide ((s.L.getD k ⟨0,pk0⟩).b < (s.L.getD j ⟨0,pk0⟩).b) = false:=decide_eq_false hlq
            generalize (s.L.getD k ⟨0,pk0⟩).b = x at *
            generalize (s.L.getD j ⟨0,pk0⟩).b = y at *
            clear hlq
            go_wp2
            go_quiet (fail)
            go_wp2
            go_roundw
            case rel => exact ⟨k + 1,by omega,by go_num,by rw [HS.out],Lib.hid (below_drewN HB.out _)⟩
            case measure => simp [intOf]; omega
      · obtain rfl:k = s.L.length:=by omega
        go_wp2
        go_ret
        rw [HR.out]
        exact ⟨rfl,HB.out⟩
end Go.Proofs.YtimdkcchjanpaaaGreatDoor
namespace Go.Proofs.YtimdkcchjanpaaaGreatDoor
open Go.RowKit
set_option linter.unusedVariables false
theorem cutQ_head {g o n cap j:Nat} (h:j ≤ cap) (w:World):(Instr.sliceAt 148 (.slice (some ⟨g,o,none⟩) n cap) none (some (.int .i64 (j:Int))) none).run Tryz.prog w = .ok (.slice (some ⟨g,o,none⟩) j cap) w:=by
  have e2:(j:Int) ≤ (cap:Int):=by omega
  simp [go_sem,e2]
theorem cutQ_tail {g o n cap j:Nat} (h:j + 1 ≤ n) (hn:n ≤ cap) (w:World):(Instr.sliceAt 148 (.slice (some ⟨g,o,none⟩) n cap) (some (.int .i64 ((j:Int) + 1))) none none).run Tryz.prog w = .ok (.slice (some ⟨g,if cap = j + 1 then o else o + (j + 1) * 8,none⟩) (n - (j + 1)) (cap - (j + 1))) w:=by
  have e2:(j:Int) + 1 ≤ (n:Int):=by omega
  have e3:(n:Int) ≤ (cap:Int):=by omega
  have e4:(0:Int) ≤ (j:Int) + 1:=by omega
  have e5:((j:Int) + 1).toNat = j + 1:=by omega
  simp [go_sem,e2,e4,e5]
  split <;> simp_all []
theorem Bq.erase_eq (L:List On) (i:Nat):L.take i ++ L.drop (i + 1) = L.eraseIdx i:=(List.eraseIdx_eq_take_drop_succ L i).symm
theorem BqM.pack {w:World} {b g o cap n i:Nat} {s:Bq} {on:On} (h:BqM w b (.slice (some ⟨g,o,none⟩) n cap) s) (hl:s.L.length ≤ 1000) (hon:s.L[i]? = some on):w.cell? ⟨g,o + i * 8 + 1,none⟩ = some (.int .i64 on.p.f.i) ∧ w.cell? ⟨g,o + i * 8 + 2,none⟩ = some (.int .i64 on.p.f.n) ∧
    w.cell? ⟨g,o + i * 8 + 3,none⟩ = some (.int .i64 on.p.f.l) ∧ w.cell? ⟨g,o + i * 8 + 4,none⟩ = some (.string on.p.f.d) ∧ w.cell? ⟨g,o + i * 8 + 5,none⟩ = some (.int .i64 on.p.fr) ∧ w.cell? ⟨g,o + i * 8 + 6,none⟩ = some (.int .i64 on.p.tag) ∧ w.cell? ⟨g,o + i * 8 + 7,none⟩ = some (.bool on.p.lp):=by
  have hk:i < s.L.length:=by
    rcases Nat.lt_or_ge i s.L.length with h1 | h1
    · exact h1
    · rw [List.getElem?_eq_none h1] at hon; cases hon
  obtain ⟨x,c,h1,h2,h3⟩:=h.one hl hk
  injection h1 with h1 _ _
  injection h1 with h1
  subst h1
  rw [List.getElem?_eq_getElem hk] at hon
  injection hon with hon
  rw [hon] at h3
  simp only [qaddr] at h3
  exact ⟨h3 1 _ rfl,h3 2 _ rfl,h3 3 _ rfl,h3 4 _ rfl,h3 5 _ rfl,h3 6 _ rfl,h3 7 _ rfl⟩
theorem qtake_done {w w4:World} {b z:Nat} {vl vl':Value} {s:Bq} {L':List On} {p0:Pk} (p:Pk) (hm:BqM w b vl s) (hb:Below w.heap.size w w4) (hq:RowQ onC 8 w4 vl' L') (hz:w.heap.size ≤ z) (ho:∀ g,OwnO vl' g → z < g) (hx:BoxP w4 z p0) :
    BoxP (putB (w4.setCell ⟨b,0,none⟩ vl') z p) z p ∧ Stp BqD (.pointer (some ⟨b,0,none⟩)) (bqO b vl) w { s with L:=L' } (putB (w4.setCell ⟨b,0,none⟩ vl') z p):=by
  have lb:=heap_some_lt hm.box
  obtain ⟨h1,h2,h3⟩:=hm.setRow hb hq (fun g h => .inr (by have:=ho g h; omega))
  have hx5:BoxP (w4.setCell ⟨b,0,none⟩ vl') z p0:=by
    have:(w4.setCell ⟨b,0,none⟩ vl').heap[z]? = w4.heap[z]?:=Below.heap_setCell _ _ _ _ (fun e => by have e:z = b:=e; omega)
    exact this.trans hx
  have hn:∀ k,bqO b vl' k → k ≠ z:=by
    rintro k (rfl | hk) e
    · omega
    · have:=ho k hk; omega
  refine ⟨hx5.put p,_,⟨b,_,rfl,rfl,h1.stay (fun k hk => putB_other (hn k hk))⟩, ?_,h3⟩
  obtain ⟨r1,r2,r3⟩:=putB_rest (w4.setCell ⟨b,0,none⟩ vl') z p
  exact ⟨r1.trans h2.os,r2.trans h2.tape,r3.trans h2.output,by rw [putB_size]; exact h2.size,fun k h4 h5 => (putB_other (by omega)).trans (h2.block k h4 h5)⟩
theorem xqtake_v {v:Value} {s:Bq} {O:Nat → Prop} {p:Pk} {is:Bool} (w:World) (h:BqD w v s O) (hk:s.take.2 = (p,is)) (hok:s.Ok) :
    Calls Tryz.prog 129 #[v] w fun x w' => x = .returned (.tuple #[pkV p, .bool is]) ∧ Stp BqD v O w s.take.1 w':=by
  obtain ⟨b,vl,rfl,rfl,hm⟩:=h
  have HM:=Lib.hid hm
  have HK:=Lib.hid hk
  have hb0:=(Below.refl w.heap.size w).alloc (Nat.le_refl _) (.cells #[.int .i64 0, .int .i64 0, .int .i64 0, .string (ByteArray.mk #[]), .int .i64 0, .int .i64 0, .bool false] 37)
  have HB0:=Lib.hid hb0
  have HP0:Hid (BoxP (w.alloc (.cells #[.int .i64 0, .int .i64 0, .int .i64 0, .string (ByteArray.mk #[]), .int .i64 0, .int .i64 0, .bool false] 37)) w.heap.size pk0):=Lib.hid (BoxP.made w pk0)
  have HM0:=Lib.hid (hm.later hb0)
  have hzr:=zeroPk
  have HLL:Hid (s.L.length ≤ 1000):=Lib.hid (by have:=hok.room; have:=hok.len; omega)
  have hlb:b < w.heap.size:=heap_some_lt hm.box
  obtain ⟨f,hf⟩:∃ f,s.first s.L.length = f:=⟨_,rfl⟩
  obtain ⟨r,hr⟩:∃ r,fI f = r:=⟨_,rfl⟩
  have HF:=Lib.hid hf
  have HR:Hid (fI (s.first s.L.length) = r):=Lib.hid (by rw [hf]; exact hr)
  cases f with
  | none =>
    have HE:Hid (s.take = (s,pk0,false)):=Lib.hid (by unfold Bq.take; rw [hf])
    rw [HE.out] at HK ⊢
    obtain ⟨rfl,rfl⟩:pk0 = p ∧ false = is:=by have e1:=HK.out; simpa using e1
    obtain rfl : -1 = r:=hr
    have hd:decide ((-1:Int) < 0) = true:=rfl
    clear hm hk hb0 hok hf
    go_enter Tryz.func129,Tryz.ntmps129
    go_wp2_with fail
    refine (xqfirst_v _ HM0.out HLL.out HR.out).mono ?_
    rintro x w1 ⟨rfl,hb1⟩
    have HB1:=Lib.hid (fbelow_t HB0.out hb1)
    have HM1:=Lib.hid (HM.out.later HB1.out)
    have HP1:=Lib.hid (HP0.out.later hb1)
    obtain ⟨c0,c1,c2,c3⟩:=HM1.out.cells
    obtain ⟨d0,d1,d2,d3,d4,d5,d6⟩:=HP1.out.cells
    have fl:∀ j,w1.frozen? ⟨w.heap.size,j,none⟩ = false:=fun j => Lib.frozen_of_heap HP1.out j
    have HD:=Lib.hid (HM.out.stp (putB_below pk0 HB1.out (Nat.le_refl _)))
    have HPR:=Lib.hid (HP1.out.put pk0)
    obtain ⟨r0,r1,r2,r3,r4,r5,r6⟩:=HPR.out.cells
    unfold putB pk0 at r0 r1 r2 r3 r4 r5 r6
    unfold putB pk0 at HD
    clear hb1
    go_wp2_with fail
    refine bodyPost_ret (v := .tuple #[pkV pk0, .bool false]) ?_ rfl ⟨rfl,HD.out⟩
    simp [results,Tryz.results129,go_sem,pk0,r0,r1,r2,r3,r4,r5,r6]
  | some i =>
    obtain rfl:(i:Int) = r:=hr
    have hd:decide ((i:Int) < 0) = false:=decide_eq_false (by omega)
    by_cases hst:s.st = true
    · have HE:Hid (s.take = (s,pk0,false)):=Lib.hid (by unfold Bq.take; rw [hf]; exact if_pos hst)
      rw [HE.out] at HK ⊢
      obtain ⟨rfl,rfl⟩:pk0 = p ∧ false = is:=by have e1:=HK.out; simpa using e1
      clear hm hk hb0 hok hf
      go_enter Tryz.func129,Tryz.ntmps129
      go_wp2_with fail
      refine (xqfirst_v _ HM0.out HLL.out HR.out).mono ?_
      rintro x w1 ⟨rfl,hb1⟩
      have HB1:=Lib.hid (fbelow_t HB0.out hb1)
      have HM1:=Lib.hid (HM.out.later HB1.out)
      have HP1:=Lib.hid (HP0.out.later hb1)
      obtain ⟨c0,c1,c2,c3⟩:=HM1.out.cells
      obtain ⟨d0,d1,d2,d3,d4,d5,d6⟩:=HP1.out.cells
      have fl:∀ j,w1.frozen? ⟨w.heap.size,j,none⟩ = false:=fun j => Lib.frozen_of_heap HP1.out j
      have HD:=Lib.hid (HM.out.stp (putB_below pk0 HB1.out (Nat.le_refl _)))
      have HPR:=Lib.hid (HP1.out.put pk0)
      obtain ⟨r0,r1,r2,r3,r4,r5,r6⟩:=HPR.out.cells
      unfold putB pk0 at r0 r1 r2 r3 r4 r5 r6
      unfold putB pk0 at HD
      rw [hst] at c3
      clear hb1
      go_wp2_with fail
      refine bodyPost_ret (v := .tuple #[pkV pk0, .bool false]) ?_ rfl ⟨rfl,HD.out⟩
      simp [results,Tryz.results129,go_sem,pk0,r0,r1,r2,r3,r4,r5,r6]
    · have hsf:s.st = false:=by simpa using hst
      have hi:i < s.L.length:=Bq.first_lt hf
      obtain ⟨on,hon⟩:∃ on,s.L[i]? = some on:=⟨_,List.getElem?_eq_getElem hi⟩
      have HE:Hid (s.take = ({ s with L:=s.L.eraseIdx i },on.p,true)):=Lib.hid (by unfold Bq.take; rw [hf]; simp [hst,List.getD_eq_getElem?_getD,hon])
      rw [HE.out] at HK ⊢
      obtain ⟨rfl,rfl⟩:on.p = p ∧ true = is:=by have e1:=HK.out; simpa using e1
      have hrow:=hm.row
      obtain ⟨g,o,cap,hvl⟩:=hrow.formN (by omega)
      subst hvl
      have hcl:s.L.length ≤ cap:=by
        rcases hrow with ⟨h,_⟩ | ⟨g',o',cap',hv,h1,_⟩
        · injection h with h1 _ _; cases h1
        · injection hv with _ _ h2; omega
      have HCL:=Lib.hid hcl
      have HON:=Lib.hid hon
      have hcut1:=fun w => cutQ_head (g:=g) (o:=o) (n:=s.L.length) (cap:=cap) (j:=i) (by omega) w
      have hcut2:=fun w => cutQ_tail (g:=g) (o:=o) (n:=s.L.length) (cap:=cap) (j:=i) (by omega) hcl w
      clear hm hk hb0 hok hf hst hrow hcl hon
      go_enter Tryz.func129,Tryz.ntmps129
      go_wp2_with fail
      refine (xqfirst_v _ HM0.out HLL.out HR.out).mono ?_
      rintro x w1 ⟨rfl,hb1⟩
      have HB1:=Lib.hid (fbelow_t HB0.out hb1)
      have HM1:=Lib.hid (HM.out.later HB1.out)
      have HP1:=Lib.hid (HP0.out.later hb1)
      have hlb1:b < w1.heap.size:=heap_some_lt HM1.out.box
      obtain ⟨c0,c1,c2,c3⟩:=HM1.out.cells
      rw [hsf] at c3
      obtain ⟨m1,m2,m3,m4,m5,m6,m7⟩:=HM1.out.pack HLL.out HON.out
      clear hb1
      go_upto_region 5 with fail
      generalize hw2:World.alloc w1 _ = w2
      have HB2:Hid (Below w1.heap.size w1 w2):=Lib.hid (by rw [← hw2]; exact (Below.refl _ w1).alloc (Nat.le_refl _) _)
      have HP2:Hid (BoxP w2 w1.heap.size on.p):=Lib.hid (by rw [← hw2]; exact BoxP.made w1 on.p)
      have HZ2:Hid (BoxP w2 w.heap.size pk0):=Lib.hid (HP1.out.later HB2.out)
      have HBD:=Lib.hid (fbelow_t HB1.out HB2.out)
      have HMD:=Lib.hid (HM.out.later HBD.out)
      have hz12:w.heap.size < w1.heap.size:=HP1.out.lt
      have hz1:w1.heap.size < w2.heap.size:=HP2.out.lt
      clear c0 c1 c2 c3 m1 m2 m3 m4 m5 m6 m7 hw2
      obtain ⟨c0,c1,c2,c3⟩:=HMD.out.cells
      have hlb2:b < w2.heap.size:=heap_some_lt HMD.out.box
      have HRD:Hid (RdA onC 8 (w2.alloc (.cells #[] 163)) (.slice (some ⟨g,o,none⟩) i cap) (s.L.take i)):=Lib.hid
        (((HMD.out.row.later ((Below.refl _ _).alloc (Nat.le_refl _) _)).rda onC_len (by have:=HLL.out; unfold maxLen; omega)).cutHead (by omega) HCL.out)
      go_upto_region 6 with (at_builtin; refine wpList_qO (c:=onC) (L := []) (M:=s.L.take i) flat_on onC_len onC_one rfl (.tmp 26) (.tmp 32) rfl (by simp [Act.eval]) (RowQ.empty _ _) (by simp [Act.eval]) HRD.out (by have:=HLL.out; simp; omega) ?_; rintro v3 w3 hq3 hk3 hg3; have hq3:RowQ onC 8 w3 v3 (s.L.take i):=hq3; obtain ⟨A3,cap3,rfl⟩:=hq3.shape; have HQ3:=Lib.hid hq3; have HF3:=Lib.hid (own_fresh (Below.refl _ w2) hk3 hg3); clear hq3 hk3 hg3)
      clear c0 c1 c2 c3
      have hLL:=HLL.out
      have HB3:=Lib.hid (fbelow_t HBD.out HF3.out.1)
      have HM3:=Lib.hid (HM.out.later HB3.out)
      obtain ⟨c0,c1,c2,c3⟩:=HM3.out.cells
      have f0:=HM3.out.live 0
      have hlb3:b < w3.heap.size:=heap_some_lt HM3.out.box
      have HRE:Hid (RdA onC 8 w3 (.slice (some ⟨g,if cap = i + 1 then o else o + (i + 1) * 8,none⟩) (s.L.length - (i + 1)) (cap - (i + 1))) (s.L.drop (i + 1))):=Lib.hid
        ((HM3.out.row.rda onC_len (by have:=HLL.out; unfold maxLen; omega)).cutTail (by omega) HCL.out)
      go_upto_region 7 with (at_builtin; refine wpList_qO (c:=onC) (L:=s.L.take i) (M:=s.L.drop (i + 1)) flat_on onC_len onC_one rfl (.tmp 35) (.tmp 42) rfl (by simp [Act.eval]) HQ3.out (by simp [Act.eval]) HRE.out (by have:=HLL.out; simp; omega) ?_; rintro v4 w4 hq4 hk4 hg4; obtain ⟨A4,n4,cap4,rfl⟩:∃ A n c,v4 = .slice A n c:=(by obtain ⟨A,c,h⟩:=hq4.shape; exact ⟨A,_,c,h⟩); have HQ4:=Lib.hid hq4; have HF4:=Lib.hid (own_app2 HF3.out.1 HF3.out.2 hk4 hg4); clear hq4 hk4 hg4; have y0:=(HMD.out.later HF4.out.1).cells.1; have y1:=(HMD.out.later HF4.out.1).live 0)
      have HB4:=Lib.hid (fbelow_t HBD.out HF4.out.1)
      have HT:=Lib.hid (qtake_done on.p HM.out HB4.out HQ4.out (Nat.le_refl _) (fun g h => by have:=HF4.out.2 g h; omega) (HZ2.out.later HF4.out.1))
      have hx1:∀ z p0,BoxP w4 z p0 → z ≠ b → BoxP (w4.setCell ⟨b,0,none⟩ (.slice A4 n4 cap4)) z p0:=fun z p0 h hn => (Below.heap_setCell _ _ _ _ (fun e => hn e)).trans h
      have HX1:=Lib.hid (hx1 _ _ (HP2.out.later HF4.out.1) (by omega))
      have HX2:=Lib.hid (hx1 _ _ (HZ2.out.later HF4.out.1) (by omega))
      generalize w4.setCell ⟨b,0,none⟩ (.slice A4 n4 cap4) = w5 at *
      clear c0 c1 c2 c3 f0 y0 y1 hx1
      obtain ⟨d0,d1,d2,d3,d4,d5,d6⟩:=HX1.out.cells
      obtain ⟨e0,e1,e2,e3,e4,e5,e6⟩:=HX2.out.cells
      have fl:∀ j,w5.frozen? ⟨w.heap.size,j,none⟩ = false:=fun j => Lib.frozen_of_heap HX2.out j
      have HE2:=Lib.hid (Bq.erase_eq s.L i)
      rw [HE2.out] at HT
      go_wp2_with fail
      all_goals (
        obtain ⟨r0,r1,r2,r3,r4,r5,r6⟩:=HT.out.1.cells
        unfold putB at r0 r1 r2 r3 r4 r5 r6
        have HS2:=HT.out.2
        rw [hsf] at HS2
        refine bodyPost_ret (v := .tuple #[pkV on.p, .bool true]) ?_ rfl ⟨rfl,HS2⟩
        simp [results,Tryz.results129,go_sem,r0,r1,r2,r3,r4,r5,r6])
end Go.Proofs.YtimdkcchjanpaaaGreatDoor
namespace Go.Proofs.YtimdkcchjanpaaaGreatDoor
open Go.RowKit
set_option linter.unusedVariables false
theorem info_pkt:(Tryz.prog.info? 37).map (fun i => (i.zero,i.size,i.bytes)) = some (some (.agg #[.int .i64 0, .int .i64 0, .int .i64 0, .string (ByteArray.mk #[]), .int .i64 0, .int .i64 0, .bool false]),7,64):=by kernel_rfl
theorem flat_pk:FlatE Tryz.prog 32 37 7 64:=by
  obtain ⟨i0,hi,hz0,hz1,hz2⟩:=info_parts info_pkt
  exact ⟨Tryz.underlying32,i0,_,hi,hz0,hz1,hz2,rfl,by decide,by decide⟩
theorem pkC_one:∀ p:Pk, ∀ u ∈ pkC p,u.oneCell' = true:=fun f u hu => by
  simp only [pkC,List.mem_cons,List.not_mem_nil,or_false] at hu
  rcases hu with rfl | rfl | rfl | rfl | rfl | rfl | rfl <;> rfl
end Go.Proofs.YtimdkcchjanpaaaGreatDoor
namespace Go.Proofs.YtimdkcchjanpaaaGreatDoor
open Go.RowKit
set_option linter.unusedVariables false
def Gives (w:World) (p:World → Value → Prop) (e:Ending) (w':World):Prop := ∃ u,e = .returned u ∧ p w' u ∧ Below w.heap.size w w'
def ShapeOk (u:Value):Prop:=u = .slice none 0 0 ∨ ∃ x n c,u = .slice (some x) n c ∧ n ≤ c
end Go.Proofs.YtimdkcchjanpaaaGreatDoor
namespace Go.Proofs.YtimdkcchjanpaaaGreatDoor
open Go.RowKit
set_option linter.unusedVariables false
def Bq.tk (s:Bq):Pk × Int:=(s.take.2.1,if s.take.2.2 = true then 0 else 6)
end Go.Proofs.YtimdkcchjanpaaaGreatDoor
