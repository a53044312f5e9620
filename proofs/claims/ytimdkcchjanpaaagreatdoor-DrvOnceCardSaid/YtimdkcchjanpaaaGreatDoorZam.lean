/- Ring, the code, rows of frames within a greater block: New, Len, Lost, slot, Peek. Of no program: 'copy' of things of several cells, into a row that is known .. -/
import Derived.Test.YtimdkcchjanpaaaGreatDoorZal
import Derived.Test.YtimdkcchjanpaaaGreatDoorZag
import Derived.BigQuiet
import Derived.Laws.CopyOwn
import Derived.Test.YtimdkcchjanpaaaGreatDoorZad
import Derived.Test.YtimdkcchjanpaaaGreatDoorZaf
import Derived.Test.YtimdkcchjanpaaaGreatDoorZak
set_option maxHeartbeats 8000000
namespace Go.Proofs.YtimdkcchjanpaaaGreatDoor
open Go.RowKit
set_option linter.unusedVariables false
variable {TB:TypeId} {o:Nat} {X Y:List Value}
theorem rfM_new {w:World} {b m:Nat} (h:w.heap[b]? = some (.cells #[.slice none 0 0, .int .i64 0, .int .i64 0, .int .i64 (m:Int), .int .i64 0] 81 (0,0))) (h1:1 ≤ m) (h2:m ≤ 1000):RfM 81 0 [] [] w b none [] 0 ⟨[],m,0⟩ :=
  ⟨h,rfl, .inl ⟨rfl,rfl,rfl⟩,Nat.le_refl _,Nat.zero_le _,h1,h2,fun i hi => by simp at hi⟩
theorem rfnew_v (room:Int) (w:World):Calls Tryz.prog 74 #[.int .i64 room] w fun e w' => ∃ b,e = .returned (.pointer (some ⟨b,0,none⟩)) ∧ w.heap.size ≤ b ∧ RfM 81 0 [] [] w' b none [] 0 ⟨[],(roomN room).toNat,0⟩ ∧ Below w.heap.size w w':=by
  obtain ⟨m,hm⟩:∃ m,(roomN room).toNat = m:=⟨_,rfl⟩
  have HM:=Lib.hid hm
  rw [hm]
  clear hm
  go_enter Tryz.func74,Tryz.ntmps74
  go_wp2
  all_goals (
    go_ret
    have hm:=HM.out
    unfold roomN at hm)
  · have hv:(m:Int) = 1:=by rw [if_pos (by assumption)] at hm; omega
    exact ⟨w.heap.size,rfl,Nat.le_refl _,rfM_new (by rw [hv]; exact heap_alloc_new w _) (by omega) (by omega),(Below.refl _ _).alloc (Nat.le_refl _) _⟩
  · have hv:(m:Int) = 1000:=by rw [if_neg (by omega),if_pos (by assumption)] at hm; omega
    exact ⟨w.heap.size,rfl,Nat.le_refl _,rfM_new (by rw [hv]; exact heap_alloc_new w _) (by omega) (by omega),(Below.refl _ _).alloc (Nat.le_refl _) _⟩
  · have hv:(m:Int) = room:=by rw [if_neg (by omega),if_neg (by omega)] at hm; omega
    exact ⟨w.heap.size,rfl,Nat.le_refl _,rfM_new (by rw [hv]; exact heap_alloc_new w _) (by omega) (by omega),(Below.refl _ _).alloc (Nat.le_refl _) _⟩
theorem rflen_v {w:World} {v:Value} {s:Rg Fr} {O:Nat → Prop} (h:RfI TB o X Y w v s O):Calls Tryz.prog 108 #[v] w (Reads w (.int .i64 s.L.length)):=by
  obtain ⟨b,p,S,f,rfl,rfl,h⟩:=h
  have H:=Lib.hid h
  obtain ⟨a0,a1,a2,a3,a4⟩:=h.cells
  have hb:=h.blt
  clear h
  unfold Reads
  go_enter Tryz.func108,Tryz.ntmps108
  go_wp2
  go_ret
  exact ⟨rfl,0,rfl⟩
theorem rflost_v {w:World} {v:Value} {s:Rg Fr} {O:Nat → Prop} (h:RfI TB o X Y w v s O):Calls Tryz.prog 107 #[v] w (Reads w (.int .i64 s.n)):=by
  obtain ⟨b,p,S,f,rfl,rfl,h⟩:=h
  have H:=Lib.hid h
  obtain ⟨a0,a1,a2,a3,a4⟩:=h.cells
  have hb:=h.blt
  clear h
  unfold Reads
  go_enter Tryz.func107,Tryz.ntmps107
  go_wp2
  go_ret
  exact ⟨rfl,0,rfl⟩
theorem rfslot_v {w:World} {b f k i:Nat} {p:Option Addr} (hf:f < k) (hz:k ≤ 1000) (hi:i ≤ 1000) (hb:b < w.heap.size) (a0:w.cell? ⟨b,o,none⟩ = some (.slice p k k)) (a1:w.cell? ⟨b,o + 1,none⟩ = some (.int .i64 (f:Int))) {r:Nat} (hr:(f + i) % k = r):Calls Tryz.prog 134 #[.pointer (some ⟨b,o,none⟩), .int .i64 (i:Int)] w (Reads w (.int .i64 (r:Int))):=by
  have hm:Int.tmod ((f:Int) + (i:Int)) (k:Int) = (r:Int):=by rw [← hr]; simp [← Int.natCast_add,← Int.ofNat_tmod]
  have h0:(k:Int) ≠ 0:=by omega
  clear hr
  unfold Reads
  go_enter Tryz.func134,Tryz.ntmps134
  go_wp2
  go_quiet (fail)
  go_wp2
  go_ret
  exact ⟨rfl,nq,rfl⟩
abbrev zfO:Obj := .cells #[.int .i64 0, .int .i64 0, .int .i64 0, .string (ByteArray.mk #[])] 35
abbrev frV (f:Fr):Value := .agg #[.int .i64 f.i, .int .i64 f.n, .int .i64 f.l, .string f.d]
theorem rfpeek_f {w:World} {v:Value} {m n:Nat} {O:Nat → Prop} (h:RfI TB o X Y w v ⟨[],m,n⟩ O):Calls Tryz.prog 153 #[v] w fun e w' => e = .returned (.tuple #[frV fr0, .int .i64 6]) ∧ Below w.heap.size w w':=by
  obtain ⟨b,p,S,f,rfl,rfl,h⟩:=h
  obtain ⟨a0,a1,a2,a3,a4⟩:=h.cells
  simp only [List.length_nil,Int.natCast_zero] at a2
  have hb:=h.blt
  clear h
  go_enter Tryz.func153,Tryz.ntmps153
  go_wp2
  refine bodyPost_ret (v := .tuple #[frV fr0, .int .i64 6]) ?_ rfl ⟨rfl,((Below.refl _ w).alloc (Nat.le_refl _) _).alloc (by simp) _⟩
  simp [results,Tryz.results153,go_sem]
theorem rfpeek_t {w:World} {v:Value} {x:Fr} {L:List Fr} {m n:Nat} {O:Nat → Prop} (h:RfI TB o X Y w v ⟨x :: L,m,n⟩ O):Calls Tryz.prog 153 #[v] w fun e w' => e = .returned (.tuple #[frV x, .int .i64 0]) ∧ Below w.heap.size w w':=by
  obtain ⟨b,p,S,f,rfl,rfl,h⟩:=h
  rcases h.row with ⟨rfl,rfl,rfl⟩ | ⟨g,rfl,hg,hgb,hf⟩
  · have:=h.len; simp at this
  obtain ⟨x0,x1,x2,x3⟩:=rowF_cell hg (round_first hf h.mem)
  have h0:(((x :: L).length:Nat):Int) ≠ 0:=by simp; omega
  obtain ⟨k,hk⟩:∃ k,S.length = k:=⟨_,rfl⟩
  obtain ⟨r,hr⟩:∃ r,(x :: L).length = r:=⟨_,rfl⟩
  have hz:k ≤ 1000:=by have:=h.fit; have:=h.hi; omega
  have hb:b < w.heap.size:=h.blt
  have hgl:g < w.heap.size:=rheap_lt hg
  obtain ⟨a0,a1,a2,a3,a4⟩:=h.cells
  rw [hk] at a0 hf
  simp only [hr] at a2 h0
  clear h hk hg hr
  go_enter Tryz.func153,Tryz.ntmps153
  go_wp2
  go_region
  go_wp2
  refine bodyPost_ret (v := .tuple #[frV x, .int .i64 0]) ?_ rfl ⟨rfl,(((Below.refl _ w).alloc (Nat.le_refl _) _).alloc (by simp) _).drew⟩
  simp [results,Tryz.results153,go_sem]
end Go.Proofs.YtimdkcchjanpaaaGreatDoor
namespace Go.Proofs.YtimdkcchjanpaaaGreatDoor
open Go.RowKit
set_option linter.unusedVariables false
section
variable {P:Program}
theorem run_copy_rowK (w:World) (dT sT ty elem:TypeId) (g o dLen dCap:Nat) (a:Addr) (sLen sCap:Nat) (cur:Array Value) (t:TypeId) (cs:List Value) (k n:Nat)
    (hu:P.underlying dT = some (.slice elem)) (hs:(P.info? elem).map (·.size) = some k)
    (hg:w.heap[g]? = some (.cells cur t (0,0))) (hn:n = Nat.min sLen dLen) (hcl:cs.length = n * k)
    (hsrc:∀ j v,cs[j]? = some v → w.cell? (a.add j) = some v) (hfit:o + cs.length ≤ cur.size) (h1:∀ v ∈ cs,v.oneCell' = true) :
    (Builtin.copy_ #[dT,sT] ty #[.slice (some ⟨g,o,none⟩) dLen dCap, .slice (some a) sLen sCap]).run P w =
      .ok (goInt n) (w.setRow g (cur.toList.take o ++ cs ++ cur.toList.drop (o + cs.length)).toArray):=by
  have hl:=run_loadCells_list (P:=P) w a cs hsrc
  have hst:=run_storeCells_at P g o t cs 0 cur w hg (by simpa using hfit) h1
  cases hq:P.info? elem with
  | none => simp [hq] at hs
  | some i =>
    have hi:i.size = k:=by simpa [hq] using hs
    rw [hcl] at hl
    simp [Builtin.copy_,run_underlying hu,Builtin.lenOf,Builtin.firstCells,sizeOf,typeInfo,hq,hi,← hn,hl,hst]
theorem run_copy_noneK (w:World) (dT sT ty elem:TypeId) (d a:Option Addr) (dLen dCap sLen sCap k:Nat) (hu:P.underlying dT = some (.slice elem)) (hs:(P.info? elem).map (·.size) = some k) (hn:Nat.min sLen dLen = 0) :
    (Builtin.copy_ #[dT,sT] ty #[.slice d dLen dCap, .slice a sLen sCap]).run P w = .ok (goInt 0) w:=by
  cases hq:P.info? elem with
  | none => simp [hq] at hs
  | some i =>
    have hl:∀ (x:Addr),(loadCells x 0).run P w = .ok #[] w:=fun x => by simpa using run_loadCells_list (P:=P) w x [] (by simp)
    cases d <;> cases a <;> simp [Builtin.copy_,run_underlying hu,Builtin.lenOf,Builtin.firstCells,sizeOf,typeInfo,hq,hn,storeCells,hl]
theorem wpList_copy_spliceK {w:World} {ops:Array Oper} {rest:List Oper} {o:Oper} {a:Act} {Q:Exit → Act → World → Prop} (hgd:o.guard = none) (d s:Operand) (dT sT:TypeId)
    (ho:o.op = .call { callee := .builtin .copy,args := #[d,s],argTypes := #[dT,sT] }) (elem:TypeId) (k n:Nat) (hu:P.underlying dT = some (.slice elem)) (hsz:(P.info? elem).map (·.size) = some k) (hk:0 < k)
    (dp sp:Option Addr) (dLen dCap sLen sCap:Nat) (hd:a.eval d = .slice dp dLen dCap) (hs:a.eval s = .slice sp sLen sCap)
    (g off:Nat) (cur:List Value) (t:TypeId) (hg:w.heap[g]? = some (.cells cur.toArray t (0,0))) (cs:List Value) (hn:n = Nat.min sLen dLen) (hcl:cs.length = n * k)
    (hpos:0 < n → dp = some ⟨g,off,none⟩ ∧ ∃ ad,sp = some ad ∧ ∀ j v,cs[j]? = some v → w.cell? (ad.add j) = some v)
    (hfit:off + cs.length ≤ cur.length) (h1:∀ v ∈ cs,v.oneCell' = true) (B:Nat) (w0:World) (hb:Below B w0 w) (hBg:B ≤ g)
    (h:∀ w',Hid (w'.heap[g]? = some (.cells (splice cur off cs).toArray t (0,0))) → Below B w0 w' → wpList P ops Q rest (a.put o.dst (goInt n)) w') :
    wpList P ops Q (o :: rest) a w:=by
  refine wpList_plain hgd fun K hK => ?_
  by_cases h0:n = 0
  · subst h0
    obtain rfl:cs = []:=List.eq_nil_of_length_eq_zero (by simpa using hcl)
    have hrun:=run_copy_noneK (P:=P) w dT sT o.type elem dp sp dLen dCap sLen sCap k hu hsz hn.symm
    unfold Oper.wp
    simp [execOp,ho,resolve,invoke,builtin,hd,hs,hrun,Result.andThen]
    exact hK _ _ (h w (show _ = _ by simpa [splice] using hg) hb)
  · obtain ⟨rfl,ad,rfl,hsrc⟩:=hpos (by omega)
    have hrun:=run_copy_rowK (P:=P) w dT sT o.type elem g off dLen dCap ad sLen sCap cur.toArray t cs k n hu hsz hg hn hcl hsrc (by simpa using hfit) h1
    unfold Oper.wp
    simp [execOp,ho,resolve,invoke,builtin,hd,hs,hrun,Result.andThen]
    exact hK _ _ (h _ (show _ = _ by simpa [splice] using setRow_heap w g _ _ t _ hg) (below_setRow hb hBg _))
end
end Go.Proofs.YtimdkcchjanpaaaGreatDoor
namespace Go.Proofs.YtimdkcchjanpaaaGreatDoor
open Go.RowKit
set_option linter.unusedVariables false
variable {TB:TypeId} {o:Nat} {X Y:List Value}
theorem h0row {w:World} {S:List Fr} {g n:Nat} (hg:w.heap[g]? = some (.cells (rowG frC S).toArray 35 (0,0))):SfP w (some ⟨g,0,none⟩) (S.take n):=by
  have:=SfP.row (i:=0) (n:=n) hg
  simpa using this
theorem rfpieces_x1 {w:World} {b g k f l:Nat} (hf:f < k) (hz:k ≤ 1000) (hl:l ≤ k) (hb:b < w.heap.size) (hgl:g < w.heap.size)
   (a0:w.cell? ⟨b,o,none⟩ = some (.slice (some ⟨g,0,none⟩) k k)) (a1:w.cell? ⟨b,o + 1,none⟩ = some (.int .i64 (f:Int))) (a2:w.cell? ⟨b,o + 2,none⟩ = some (.int .i64 (l:Int))) (h:f + l ≤ k) (h0:0 < l):Calls Tryz.prog 152 #[.pointer (some ⟨b,o,none⟩)] w (Reads w (.tuple #[.slice (some ⟨g,f * 4,none⟩) l l, .slice (some ⟨g,0,none⟩) 0 0])):=by
  unfold Reads
  go_enter Tryz.func152,Tryz.ntmps152
  go_wp2
  go_quiet (fail)
  have hr:¬ (0 < (f:Int) + (l:Int) - (k:Int)):=by omega
  go_wp2
  all_goals (
    go_quiet (fail)
    go_wp2
    go_ret2
    refine ⟨?_,_,World.drewN_drewN _ _ _⟩
    first | rfl | (try simp); try omega)
theorem rfpieces_x2 {w:World} {b g k f l:Nat} (hf:f < k) (hz:k ≤ 1000) (hl:l ≤ k) (hb:b < w.heap.size) (hgl:g < w.heap.size)
   (a0:w.cell? ⟨b,o,none⟩ = some (.slice (some ⟨g,0,none⟩) k k)) (a1:w.cell? ⟨b,o + 1,none⟩ = some (.int .i64 (f:Int))) (a2:w.cell? ⟨b,o + 2,none⟩ = some (.int .i64 (l:Int))) (h:k < f + l):Calls Tryz.prog 152 #[.pointer (some ⟨b,o,none⟩)] w (Reads w (.tuple #[.slice (some ⟨g,f * 4,none⟩) (k - f) (k - f), .slice (some ⟨g,0,none⟩) (f + l - k) (f + l - k)])):=by
  unfold Reads
  go_enter Tryz.func152,Tryz.ntmps152
  go_wp2
  go_quiet (fail)
  have hr:0 < (f:Int) + (l:Int) - (k:Int):=by omega
  go_wp2
  all_goals (
    go_quiet (fail)
    go_wp2
    go_ret2
    refine ⟨?_,_,World.drewN_drewN _ _ _⟩
    first | rfl | (try simp); try omega)
theorem rfpieces_x3 {w:World} {b g k f l:Nat} (hf:f < k) (hz:k ≤ 1000) (hl:l ≤ k) (hb:b < w.heap.size) (hgl:g < w.heap.size)
   (a0:w.cell? ⟨b,o,none⟩ = some (.slice (some ⟨g,0,none⟩) k k)) (a1:w.cell? ⟨b,o + 1,none⟩ = some (.int .i64 (f:Int))) (a2:w.cell? ⟨b,o + 2,none⟩ = some (.int .i64 (l:Int))) (h0:l = 0):Calls Tryz.prog 152 #[.pointer (some ⟨b,o,none⟩)] w (Reads w (.tuple #[.slice (some ⟨g,0,none⟩) 0 0, .slice (some ⟨g,0,none⟩) 0 0])):=by
  subst h0
  simp only [Int.natCast_zero] at a2
  unfold Reads
  go_enter Tryz.func152,Tryz.ntmps152
  go_wp2
  go_quiet (fail)
  have hr:¬ (0 < (f:Int) - (k:Int)):=by omega
  go_wp2
  all_goals (
    go_quiet (fail)
    go_wp2
    go_ret2
    refine ⟨?_,_,World.drewN_drewN _ _ _⟩
    first | rfl | (try simp); try omega)
theorem rfpieces_x0 {w:World} {b:Nat} (hb:b < w.heap.size)
   (a0:w.cell? ⟨b,o,none⟩ = some (.slice none 0 0)) (a1:w.cell? ⟨b,o + 1,none⟩ = some (.int .i64 0)) (a2:w.cell? ⟨b,o + 2,none⟩ = some (.int .i64 0)):Calls Tryz.prog 152 #[.pointer (some ⟨b,o,none⟩)] w (Reads w (.tuple #[.slice none 0 0, .slice none 0 0])):=by
  unfold Reads
  go_enter Tryz.func152,Tryz.ntmps152
  go_wp2
  go_quiet (fail)
  go_wp2
  all_goals (
    go_quiet (fail)
    go_wp2
    go_ret2
    exact ⟨rfl,_,World.drewN_drewN _ _ _⟩)
theorem rfpieces_v {w:World} {b:Nat} {p:Option Addr} {S:List Fr} {f:Nat} {s:Rg Fr} (h:RfM TB o X Y w b p S f s):∃ v,PcF w v s.L ∧ ∀ w',Below w.heap.size w w' → Calls Tryz.prog 152 #[.pointer (some ⟨b,o,none⟩)] w' (Reads w' v):=by
  have hl:=h.len
  have hz:S.length ≤ 1000:=Nat.le_trans h.fit h.hi
  rcases h.row with ⟨rfl,rfl,rfl⟩ | ⟨g,rfl,hg,hgb,hf⟩
  · have h0:s.L = []:=List.eq_nil_of_length_eq_zero (by simpa using hl)
    refine ⟨.tuple #[.slice none 0 0, .slice none 0 0], ?_,fun w' hb => ?_⟩
    · rw [h0]; exact ⟨[], [],none,none,rfl,rfl,SfP.none_ _ _,SfP.none_ _ _⟩
    · obtain ⟨a0,a1,a2,a3,a4⟩:=(h.later hb).cells
      rw [h0] at a2
      exact rfpieces_x0 (h.later hb).blt a0 a1 a2
  · have hgl:=rheap_lt hg
    have hp:=round_pieces hf hl h.mem
    by_cases h0:s.L.length = 0
    · have h0':s.L = []:=List.eq_nil_of_length_eq_zero h0
      refine ⟨_, ?_,fun w' hb => by obtain ⟨a0,a1,a2,_,_⟩:=(h.later hb).cells; exact rfpieces_x3 hf hz hl (h.later hb).blt (Nat.lt_of_lt_of_le (rheap_lt hg) hb.size) a0 a1 a2 h0⟩
      rw [h0']
      exact ⟨[], [],_,_,rfl,rfl,SfP.none_ _ _,SfP.none_ _ _⟩
    · by_cases h1:f + s.L.length ≤ S.length
      · refine ⟨_, ?_,fun w' hb => by obtain ⟨a0,a1,a2,_,_⟩:=(h.later hb).cells; exact rfpieces_x1 hf hz hl (h.later hb).blt (Nat.lt_of_lt_of_le (rheap_lt hg) hb.size) a0 a1 a2 h1 (by omega)⟩
        have e:f + s.L.length - S.length = 0:=by omega
        refine ⟨_,_,some ⟨g,f * 4,none⟩,some ⟨g,0,none⟩, ?_,hp,SfP.row hg,h0row hg⟩
        rw [e]
        simp
        omega
      · refine ⟨_, ?_,fun w' hb => by obtain ⟨a0,a1,a2,_,_⟩:=(h.later hb).cells; exact rfpieces_x2 hf hz hl (h.later hb).blt (Nat.lt_of_lt_of_le (rheap_lt hg) hb.size) a0 a1 a2 (by omega)⟩
        refine ⟨_,_,some ⟨g,f * 4,none⟩,some ⟨g,0,none⟩, ?_,hp,SfP.row hg,h0row hg⟩
        simp
        omega
theorem info_rf:(Tryz.prog.info? 35).map (fun i => (i.zero,i.size,i.bytes)) = some (some (.agg (frC fr0).toArray),4,40):=by kernel_rfl
theorem info_rf4:(Tryz.prog.info? 35).map (·.size) = some 4:=by kernel_rfl
theorem rep_rf (n:Nat):madeCells (Value.agg (frC fr0).toArray).cells (n * 4) = (rowG frC (List.replicate n fr0)).toArray:=by
  have h:=made_rep (frC fr0).toArray n (by decide)
  have e:(Value.agg (frC fr0).toArray).cells = (frC fr0).toArray:=by kernel_rfl
  rw [e]
  refine Eq.trans h ?_
  congr 1
  unfold rowG
  rw [List.flatMap_def,List.map_replicate]
theorem run_mkrf (n:Nat) (hn:n ≤ 1000) (w:World) :
    (Instr.makeSlice 79 (.int .i64 n) (.int .i64 n)).run Tryz.prog w = .ok (.slice (some ⟨w.heap.size,0,none⟩) n n) (w.alloc (.cells (rowG frC (List.replicate n fr0)).toArray 35)):=by
  obtain ⟨i0,hi,hz0,hz1,hz2⟩:=info_parts info_rf
  have:=run_make (P:=Tryz.prog) w 79 35 i0 _ Tryz.underlying79 hi hz0 .i64 .i64 (n:Int) (n:Int) (by omega) (Int.le_refl _) (by rw [hz2]; omega) (by omega)
  rw [hz1,Int.toNat_natCast,rep_rf] at this
  exact this
theorem zero_rf:∀ w,(zeroValue 35).run Tryz.prog w = .ok (.agg (frC fr0).toArray) w:=fun w => by kernel_rfl
theorem zero_rfC:(Builtin.zeroCells (Value.agg (frC fr0).toArray).cells 1).toList = frC fr0:=by kernel_rfl
theorem frC_oneC:∀ f:Fr, ∀ u ∈ frC f,u.oneCell' = true:=fun f u hu => by
  simp [frC] at hu
  rcases hu with rfl | rfl | rfl | rfl <;> rfl
theorem rowF_one (L:List Fr):∀ v ∈ rowG frC L,v.oneCell' = true:=by
  intro v hv
  unfold rowG at hv
  obtain ⟨a,_,ha⟩:=List.mem_flatMap.1 hv
  exact frC_oneC a v ha
theorem rfcopied_v {w:World} {b:Nat} {p:Option Addr} {S:List Fr} {f k:Nat} {s:Rg Fr} (h:RfM TB o X Y w b p S f s) (hk:s.L.length ≤ k) (hk2:k ≤ 1000) :
    Calls Tryz.prog 133 #[.pointer (some ⟨b,o,none⟩), .int .i64 (k:Int)] w fun e w' => ∃ g,e = .returned (.slice (some ⟨g,0,none⟩) k k) ∧ w.heap.size ≤ g ∧ w'.heap[g]? = some (.cells (rowG frC (s.L ++ List.replicate (k - s.L.length) fr0)).toArray 35 (0,0)) ∧ Below w.heap.size w w':=by
  have H:=Lib.hid h
  have hmk:=run_mkrf k hk2
  obtain ⟨Z,hZ⟩:∃ Z,rowG frC (List.replicate k fr0) = Z:=⟨_,rfl⟩
  have hZl:Z.length = k * 4:=by rw [← hZ,rowG_length frC_len]; simp
  have HZ:=Lib.hid hZ
  have HZl:=Lib.hid hZl
  rw [hZ] at hmk
  obtain ⟨L,hL⟩:∃ L,s.L = L:=⟨_,rfl⟩
  have HL:=Lib.hid hL
  rw [hL] at hk ⊢
  have HK:=Lib.hid hk
  clear h hZ hZl hL hk
  go_enter Tryz.func133,Tryz.ntmps133
  go_wp2_with fail
  obtain ⟨v,hv,hc⟩:=rfpieces_v H.out
  refine (hc _ ((Below.refl _ _).alloc (Nat.le_refl _) (.cells Z.toArray 35))).mono ?_
  rw [HL.out] at hv
  obtain ⟨A,B,p1,p2,rfl,hAB,hA,hB⟩:=hv
  rintro e w1 ⟨rfl,n,hw⟩
  have HG:Hid (w1.heap[w.heap.size]? = some (.cells Z.toArray 35 (0,0))):=Lib.hid (by rw [hw]; exact heap_alloc_new w _)
  have HB:Hid (Below w.heap.size w w1):=Lib.hid (by rw [hw]; exact below_drewN ((Below.refl _ _).alloc (Nat.le_refl _) _) n)
  have HA:=Lib.hid hA
  have HS:=Lib.hid hB
  have HAB:=Lib.hid hAB
  obtain ⟨na,hna⟩:∃ n,A.length = n:=⟨_,rfl⟩
  obtain ⟨nb,hnb⟩:∃ n,B.length = n:=⟨_,rfl⟩
  have hab:na + nb ≤ k:=by have:=HK.out; rw [hAB,List.length_append] at this; omega
  have HNA:=Lib.hid hna
  have HNB:=Lib.hid hnb
  obtain ⟨XA,hX⟩:∃ X,rowG frC A = X:=⟨_,rfl⟩
  obtain ⟨XB,hY⟩:∃ Y,rowG frC B = Y:=⟨_,rfl⟩
  have HX:=Lib.hid hX
  have HY:=Lib.hid hY
  have hXl:XA.length = na * 4:=by rw [← hX,rowG_length frC_len,hna]
  have hYl:XB.length = nb * 4:=by rw [← hY,rowG_length frC_len,hnb]
  have hXo:∀ v ∈ XA,v.oneCell' = true:=by rw [← hX]; exact rowF_one A
  have hYo:∀ v ∈ XB,v.oneCell' = true:=by rw [← hY]; exact rowF_one B
  have HXl:=Lib.hid hXl
  have HYl:=Lib.hid hYl
  have HXo:=Lib.hid hXo
  have HYo:=Lib.hid hYo
  rw [hna,hnb]
  have hg1:w.heap.size < w1.heap.size:=rheap_lt HG.out
  have hfin:splice (splice Z 0 XA) (na * 4) XB = rowG frC (L ++ List.replicate (k - L.length) fr0):=by
    have h1:=splice_repF fr0 k A B (by omega)
    rw [hna,hX,hY,HZ.out] at h1
    rw [h1,HAB.out]
  have HF:=Lib.hid hfin
  clear hA hB hw hAB hna hnb hX hY hXo hYo hYl hc hmk hfin
  by_cases hkn:k = na
  · subst hkn
    go_wp2_with (first | (refine wpList_copy_spliceK rfl (.tmp 16) (.tmp 17) 79 79 rfl 35 4 k Tryz.underlying79 info_rf4 (by decide) (some ⟨w.heap.size,0,none⟩) p1 k k k k rfl rfl w.heap.size 0 Z 35 HG.out XA (by exact (Nat.min_eq_left (by omega)).symm) HXl.out (fun h0 => ⟨rfl,HA.out.src HB.out HX.out HNA.out h0⟩) (by rw [HXl.out,HZl.out]; omega) HXo.out w.heap.size w HB.out (Nat.le_refl _) ?_; intro w2 hg2 hb2) | (refine wpList_copy_spliceK rfl (.tmp 19) (.tmp 20) 79 79 rfl 35 4 0 Tryz.underlying79 info_rf4 (by decide) (some ⟨w.heap.size,0,none⟩) p2 0 0 nb nb rfl rfl w.heap.size (k * 4) (splice Z 0 XA) 35 hg2.out XB (by simp) (by rw [HYl.out]; omega) (fun h0 => by omega) (by rw [length_splice Z 0 XA (by rw [HXl.out,HZl.out]; omega),HYl.out,HZl.out]; omega) HYo.out w.heap.size w hb2 (Nat.le_refl _) ?_; intro w3 hg3 hb3))
    go_ret
    exact ⟨w.heap.size,rfl,Nat.le_refl _,by rw [← HF.out]; exact hg3.out,hb3⟩
  · go_wp2_with (first | (refine wpList_copy_spliceK rfl (.tmp 16) (.tmp 17) 79 79 rfl 35 4 na Tryz.underlying79 info_rf4 (by decide) (some ⟨w.heap.size,0,none⟩) p1 k k na na rfl rfl w.heap.size 0 Z 35 HG.out XA (by exact (Nat.min_eq_left (by omega)).symm) HXl.out (fun h0 => ⟨rfl,HA.out.src HB.out HX.out HNA.out h0⟩) (by rw [HXl.out,HZl.out]; omega) HXo.out w.heap.size w HB.out (Nat.le_refl _) ?_; intro w2 hg2 hb2) | (refine wpList_copy_spliceK rfl (.tmp 19) (.tmp 20) 79 79 rfl 35 4 nb Tryz.underlying79 info_rf4 (by decide) (some ⟨w.heap.size,na * 4,none⟩) p2 (k - na) (k - na) nb nb rfl rfl w.heap.size (na * 4) (splice Z 0 XA) 35 hg2.out XB (by exact (Nat.min_eq_left (by omega)).symm) HYl.out (fun h0 => ⟨rfl,HS.out.src hb2 HY.out HNB.out h0⟩) (by rw [length_splice Z 0 XA (by rw [HXl.out,HZl.out]; omega),HYl.out,HZl.out]; omega) HYo.out w.heap.size w hb2 (Nat.le_refl _) ?_; intro w3 hg3 hb3))
    go_ret
    exact ⟨w.heap.size,rfl,Nat.le_refl _,by rw [← HF.out]; exact hg3.out,hb3⟩
end Go.Proofs.YtimdkcchjanpaaaGreatDoor
namespace Go.Proofs.YtimdkcchjanpaaaGreatDoor
open Go.RowKit
set_option linter.unusedVariables false
theorem rowG_setI (x:Int):∀ (N:List Int) (i:Nat),(rowG inC N).set i (.int .i64 x) = rowG inC (N.set i x)
  | [],i => rfl
  | a :: N,0 => rfl
  | a :: N,i + 1 => by
    have ih:=rowG_setI x N i
    have e:rowG inC (a :: N) = inC a ++ rowG inC N:=by simp [rowG]
    have e2:rowG inC ((a :: N).set (i + 1) x) = inC a ++ rowG inC (N.set i x):=by simp [rowG]
    rw [e,e2,← ih]
    rfl
section
variable {w w':World} {b gs gp:Nat} {vo ve:Value} {s:Bx}
theorem BxM.setState (h:BxM w b gs gp vo ve s) (i:Nat) (x:Int):BxM (w.setCell ⟨gs,i,none⟩ (.int .i64 x)) b gs gp vo ve { s with S:=s.S.set i x } ∧ Kept (bxO b gs gp vo ve) w (w.setCell ⟨gs,i,none⟩ (.int .i64 x)):=by
  have hz:w.heap.size ≤ (w.setCell ⟨gs,i,none⟩ (.int .i64 x)).heap.size:=by simp [World.setCell]
  have ho:∀ k,k ≠ gs → (w.setCell ⟨gs,i,none⟩ (.int .i64 x)).heap[k]? = w.heap[k]?:=fun k hk => Below.heap_setCell _ _ _ _ hk
  refine ⟨⟨?_, ?_, ?_,by simpa using h.len, ?_, ?_,h.h1,h.h2,h.h3,h.f1,h.f2,h.f3⟩,⟨rfl,rfl,rfl,hz,fun k _ hk => ho k (fun e => hk (.inr (.inl e)))⟩⟩
  · rw [ho b h.h1,h.box]; simp
  · rw [heap_setCell_same w gs i _ _ _ h.st]
    simp only [List.setIfInBounds_toArray]
    rw [rowG_setI]
  · rw [ho gp (fun e => h.h3 e.symm)]; exact h.pk
  · exact h.ord.stay (fun k hk => ho k (fun e => h.f1.2.1 (e ▸ hk))) hz
  · exact h.fin.stay (fun k hk => ho k (fun e => h.f2.2.1 (e ▸ hk))) hz
theorem BxM.setPacket (h:BxM w b gs gp vo ve s) {i:Nat} (hi:i < s.P.length) (p:Pk):BxM (putP w gp i p) b gs gp vo ve { s with P:=s.P.set i p } ∧ Kept (bxO b gs gp vo ve) w (putP w gp i p):=by
  have hz:w.heap.size ≤ (putP w gp i p).heap.size:=by rw [putP_size]; exact Nat.le_refl _
  refine ⟨⟨?_, ?_, ?_,by simpa using h.len, ?_, ?_,h.h1,h.h2,h.h3,h.f1,h.f2,h.f3⟩,⟨(putP_rest w gp i p).1,(putP_rest w gp i p).2.1,(putP_rest w gp i p).2.2,hz,fun k _ hk => putP_other (fun e => hk (.inr (.inr (.inl e))))⟩⟩
  · rw [putP_other h.h2]; exact h.box
  · rw [putP_other h.h3]; exact h.st
  · have a0:=heap_setCell_same w gp (i * 7) _ _ (.int .i64 p.f.i) h.pk
    have a1:=heap_setCell_same _ gp (i * 7 + 1) _ _ (.int .i64 p.f.n) a0
    have a2:=heap_setCell_same _ gp (i * 7 + 2) _ _ (.int .i64 p.f.l) a1
    have a3:=heap_setCell_same _ gp (i * 7 + 3) _ _ (.string p.f.d) a2
    have a4:=heap_setCell_same _ gp (i * 7 + 4) _ _ (.int .i64 p.fr) a3
    have a5:=heap_setCell_same _ gp (i * 7 + 5) _ _ (.int .i64 p.tag) a4
    have a6:=heap_setCell_same _ gp (i * 7 + 6) _ _ (.bool p.lp) a5
    unfold putP
    rw [a6]
    simp only [List.setIfInBounds_toArray]
    rw [rowG_setP p s.P i hi]
  · exact h.ord.stay (fun k hk => putP_other (fun e => h.f1.2.2 (e ▸ hk))) hz
  · exact h.fin.stay (fun k hk => putP_other (fun e => h.f2.2.2 (e ▸ hk))) hz
theorem BxM.setOrd {v':Value} {L':List Int} (h:BxM w b gs gp vo ve s) (hq:RowQ inC 1 w' v' L') (hk:Kept (OwnO vo) w w') (hg:Grows (OwnO vo) w (OwnO v')) :
    BxM (w'.setCell ⟨b,2,none⟩ v') b gs gp v' ve { s with ord:=L' } ∧ Kept (bxO b gs gp vo ve) w (w'.setCell ⟨b,2,none⟩ v') ∧ Grows (bxO b gs gp vo ve) w (bxO b gs gp v' ve):=by
  have hz:w'.heap.size ≤ (w'.setCell ⟨b,2,none⟩ v').heap.size:=by simp [World.setCell]
  have ho:∀ k,k ≠ b → (w'.setCell ⟨b,2,none⟩ v').heap[k]? = w'.heap[k]?:=fun k hk => Below.heap_setCell _ _ _ _ hk
  have hlt:=h.lt
  obtain ⟨u1,u2,u3⟩:=h.f1
  have nv:∀ k,k < w.heap.size → ¬ OwnO vo k → ¬ OwnO v' k:=fun k h1 h2 h3 => by rcases hg k h3 with h4 | h4; exact h2 h4; omega
  have lb:=hlt b (.inl rfl)
  have ls:=hlt gs (.inr (.inl rfl))
  have lp:=hlt gp (.inr (.inr (.inl rfl)))
  refine ⟨⟨?_, ?_, ?_,h.len,hq.stay (fun k hk' => ho k (fun e => nv b lb u1 (e ▸ hk'))) hz, ?_,h.h1,h.h2,h.h3,⟨nv b lb u1,nv gs ls u2,nv gp lp u3⟩,h.f2,fun k h1 h2 => ?_⟩, ?_, ?_⟩
  · rw [heap_setCell_same w' b 2 _ _ _ ((hk.block b lb u1).trans h.box)]; rfl
  · rw [ho gs (fun e => h.h1 e.symm),hk.block gs ls u2]; exact h.st
  · rw [ho gp (fun e => h.h2 e.symm),hk.block gp lp u3]; exact h.pk
  · exact (h.fin.stay (fun k hk' => hk.block k (h.fin.lt k hk') (fun h6 => h.f3 k h6 hk')) hk.size).stay (fun k hk' => ho k (fun e => h.f2.1 (e ▸ hk'))) hz
  · exact nv k (h.fin.lt k h2) (fun h3 => h.f3 k h3 h2) h1
  · exact ⟨hk.os,hk.tape,hk.output,Nat.le_trans hk.size hz,fun k h1 h2 => (ho k (fun e => h2 (.inl e))).trans (hk.block k h1 (fun h3 => h2 (.inr (.inr (.inr (.inl h3))))))⟩
  · rintro k (h1 | h1 | h1 | h1 | h1)
    · exact .inl (.inl h1)
    · exact .inl (.inr (.inl h1))
    · exact .inl (.inr (.inr (.inl h1)))
    · exact (hg k h1).imp (fun h => .inr (.inr (.inr (.inl h)))) id
    · exact .inl (.inr (.inr (.inr (.inr h1))))
theorem BxM.setFin {v':Value} {L':List Int} (h:BxM w b gs gp vo ve s) (hq:RowQ inC 1 w' v' L') (hk:Kept (OwnO ve) w w') (hg:Grows (OwnO ve) w (OwnO v')) :
    BxM (w'.setCell ⟨b,3,none⟩ v') b gs gp vo v' { s with fin:=L' } ∧ Kept (bxO b gs gp vo ve) w (w'.setCell ⟨b,3,none⟩ v') ∧ Grows (bxO b gs gp vo ve) w (bxO b gs gp vo v'):=by
  have hz:w'.heap.size ≤ (w'.setCell ⟨b,3,none⟩ v').heap.size:=by simp [World.setCell]
  have ho:∀ k,k ≠ b → (w'.setCell ⟨b,3,none⟩ v').heap[k]? = w'.heap[k]?:=fun k hk => Below.heap_setCell _ _ _ _ hk
  have hlt:=h.lt
  obtain ⟨u1,u2,u3⟩:=h.f2
  have nv:∀ k,k < w.heap.size → ¬ OwnO ve k → ¬ OwnO v' k:=fun k h1 h2 h3 => by rcases hg k h3 with h4 | h4; exact h2 h4; omega
  have lb:=hlt b (.inl rfl)
  have ls:=hlt gs (.inr (.inl rfl))
  have lp:=hlt gp (.inr (.inr (.inl rfl)))
  refine ⟨⟨?_, ?_, ?_,h.len, ?_,hq.stay (fun k hk' => ho k (fun e => nv b lb u1 (e ▸ hk'))) hz,h.h1,h.h2,h.h3,h.f1,⟨nv b lb u1,nv gs ls u2,nv gp lp u3⟩,fun k h1 h2 => ?_⟩, ?_, ?_⟩
  · rw [heap_setCell_same w' b 3 _ _ _ ((hk.block b lb u1).trans h.box)]; rfl
  · rw [ho gs (fun e => h.h1 e.symm),hk.block gs ls u2]; exact h.st
  · rw [ho gp (fun e => h.h2 e.symm),hk.block gp lp u3]; exact h.pk
  · exact (h.ord.stay (fun k hk' => hk.block k (h.ord.lt k hk') (fun h6 => h.f3 k hk' h6)) hk.size).stay (fun k hk' => ho k (fun e => h.f1.1 (e ▸ hk'))) hz
  · exact nv k (h.ord.lt k h1) (fun h3 => h.f3 k h1 h3) h2
  · exact ⟨hk.os,hk.tape,hk.output,Nat.le_trans hk.size hz,fun k h1 h2 => (ho k (fun e => h2 (.inl e))).trans (hk.block k h1 (fun h3 => h2 (.inr (.inr (.inr (.inr h3))))))⟩
  · rintro k (h1 | h1 | h1 | h1 | h1)
    · exact .inl (.inl h1)
    · exact .inl (.inr (.inl h1))
    · exact .inl (.inr (.inr (.inl h1)))
    · exact .inl (.inr (.inr (.inr (.inl h1))))
    · exact (hg k h1).imp (fun h => .inr (.inr (.inr (.inr h)))) id
end
end Go.Proofs.YtimdkcchjanpaaaGreatDoor
namespace Go.Proofs.YtimdkcchjanpaaaGreatDoor
open Go.RowKit
set_option linter.unusedVariables false
theorem flat_in:FlatE Tryz.prog 48 3 1 8:=by
  obtain ⟨i0,hi,hz0,hz1,hz2⟩:=info_parts info_in
  exact ⟨Tryz.underlying48,i0,_,hi,hz0,hz1,hz2,rfl,by decide,by decide⟩
theorem inC_one:∀ n:Int, ∀ u ∈ inC n,u.oneCell' = true:=fun n u hu => by
  simp only [inC,List.mem_cons,List.not_mem_nil,or_false] at hu
  subst hu; rfl
theorem xput_v {v:Value} {s:Bx} {O:Nat → Prop} {p:Pk} {i e:Int} (w:World) (h:BxD w v s O) (hk:(s.put p).2 = (i,e)) (hl:s.S.length ≤ 1000) (hol:s.ord.length ≤ 1000) :
    Calls Tryz.prog 130 #[v,pkV p] w fun x w' => x = .returned (.tuple #[.int .i64 i, .int .i64 e]) ∧ Stp BxD v O w (s.put p).1 w':=by
  obtain ⟨b,gs,gp,vo,ve,rfl,rfl,hm⟩:=h
  have HM:=Lib.hid hm
  have HK:=Lib.hid hk
  have HOL:=Lib.hid hol
  have hb0:=(Below.refl w.heap.size w).alloc (Nat.le_refl _) (.cells #[.int .i64 p.f.i, .int .i64 p.f.n, .int .i64 p.f.l, .string p.f.d, .int .i64 p.fr, .int .i64 p.tag, .bool p.lp] 37)
  have HB0:=Lib.hid hb0
  have HP0:=Lib.hid (BoxP.made w p)
  have hl2:(s.S.length:Int) ≤ 1000:=by omega
  have HS:Hid (∀ w':World,Below w.heap.size w w' → Stp BxD (.pointer (some ⟨b,0,none⟩)) (bxO b gs gp vo ve) w s w'):=Lib.hid (fun w' hb => ⟨_,⟨b,gs,gp,vo,ve,rfl,rfl,HM.out.later hb⟩, .of_below hb,Grows.refl _ _⟩)
  obtain ⟨q,hq⟩:∃ q,keyG p.f = q:=⟨_,rfl⟩
  have HQ:Hid (keyV p.f.i p.f.n p.f.l p.f.d.size = q):=Lib.hid hq
  obtain ⟨d0,d1,d2,d3,d4,d5,d6⟩:=HP0.out.cells
  clear hb0 hk hol hm
  by_cases h3:q < 0
  · have HE:Hid (s.put p = (s,0,4)):=Lib.hid (by unfold Bx.put; rw [if_pos (by rw [hq]; exact h3)])
    rw [HE.out] at HK ⊢
    obtain ⟨rfl,rfl⟩:0 = i ∧ 4 = e:=by have e1:=HK.out; simpa using e1
    go_enter Tryz.func130,Tryz.ntmps130
    go_wp2_with fail
    refine (rkey_v HQ.out _).mono ?_
    rintro x w1 ⟨rfl,hb⟩
    go_wp2
    go_ret2
    exact ⟨rfl,HS.out _ (fbelow_t HB0.out hb)⟩
  · have HPU:Hid (s.put p = match s.first s.S.length with | some i => (s.putAt i p,(i:Int),0) | none => (s,0,5)):=Lib.hid (by unfold Bx.put; rw [if_neg (by rw [hq]; exact h3)]; try (cases s.first s.S.length <;> rfl))
    have hd3:decide (q < 0) = false:=decide_eq_false h3
    clear hq h3
    go_enter Tryz.func130,Tryz.ntmps130
    go_wp2_with fail
    refine (rkey_v HQ.out _).mono ?_
    rintro x w1 ⟨rfl,hb⟩
    have HB1:=Lib.hid (fbelow_t HB0.out hb)
    have HM1:=Lib.hid (HM.out.later HB1.out)
    have HP1:=Lib.hid (HP0.out.later hb)
    clear d0 d1 d2 d3 d4 d5 d6 hb
    obtain ⟨c0,c1,c2,c3⟩:=HM1.out.cells
    go_wp2_with fail
    go_loop [6] (fun i => ∃ k:Nat,k ≤ s.S.length ∧ i = .int .i64 k ∧ Hid (s.first k = none)) (fun i => s.S.length - (intOf i).toNat)
    case atStart => exact ⟨0,Nat.zero_le _,rfl,Lib.hid rfl⟩
    case round =>
      obtain ⟨k,hk,rfl,HI⟩:=hrel
      by_cases hlt:k < s.S.length
      · have hkl:(k:Int) < (s.S.length:Int):=by omega
        obtain ⟨x,hx⟩:∃ x,s.S[k]? = some x:=⟨_,List.getElem?_eq_getElem hlt⟩
        obtain ⟨a0,a1⟩:=HM1.out.state hx
        have hx2:s.S.getD k 1 = x:=by rw [List.getD_eq_getElem?_getD,hx]; rfl
        by_cases h0:x = 0
        · subst h0
          have HF:=Lib.hid (Bx.first_at HI.out hx2 _ hlt)
          have HE:Hid (s.put p = (s.putAt k p,(k:Int),0)):=Lib.hid (by rw [HPU.out,HF.out])
          have HW1:=Lib.hid (HM1.out.setState k 1)
          clear hx hx2
          obtain ⟨rfl,rfl⟩:(k:Int) = i ∧ 0 = e:=by have e1:=HK.out; rw [HE.out] at e1; simpa using e1
          have hbs:b < w1.heap.size:=heap_some_lt HM1.out.box
          have hps:=HP1.out.lt
          have hno:¬ w.heap.size = gs:=fun e => by have:=heap_some_lt HM.out.st; omega
          go_upto_region 8 with fail
          generalize hws:w1.setCell ⟨gs,k,none⟩ (.int .i64 1) = ws at *
          have HPS:Hid (BoxP ws w.heap.size p):=Lib.hid (HP1.out.kept (O:=fun x => x = gs) (by rw [← hws]; exact ⟨rfl,rfl,rfl,by simp [World.setCell],fun x _ hx => Below.heap_setCell _ _ _ _ hx⟩) hno)
          obtain ⟨d0,d1,d2,d3,d4,d5,d6⟩:=HPS.out.cells
          obtain ⟨q0,q1,q2,q3⟩:=HW1.out.1.cells
          simp only [List.length_set] at q0 q1
          have hbs2:b < ws.heap.size:=heap_some_lt HW1.out.1.box
          have hps2:=HPS.out.lt
          clear c0 c1 c2 c3 a0 a1
          have hqb:∀ (q:KLater (fun _ => False) ws) (o:Nat),q.w.cell? ⟨b,o,none⟩ = ws.cell? ⟨b,o,none⟩:=fun q o => q.cell b o hbs2 (fun h => h)
          have hqp:∀ (q:KLater (fun _ => False) ws) (o:Nat),q.w.cell? ⟨w.heap.size,o,none⟩ = ws.cell? ⟨w.heap.size,o,none⟩:=fun q o => q.cell w.heap.size o hps2 (fun h => h)
          refine wp_region_st 7 [] (fun _ _ w' => Below ws.heap.size ws w') [] (Below.refl _ _).drew (by kernel_rfl) (by kernel_rfl) (by kernel_rfl) (by kernel_rfl) (by kernel_rfl) (by kernel_rfl) (by kernel_rfl) ?_
          simp only [List.take_succ_cons,List.take_zero,List.drop_succ_cons,List.drop_zero]
          repeat (refine st_plain (O:=fun _ => False) (fun h => .of_below h) (by rfl) (by rfl) (by rfl) (by rfl) (by rfl) ?_; intro K hK; go_big_quiet_op; go_big_quiet_on)
          refine st_nil (O:=fun _ => False) (fun h => .of_below h) (by rfl) (by rfl) (by rfl) (by rfl) (by rfl) (by rfl) ?_; intro K hK; go_big_quiet_op; go_big_quiet_on
          repeat (refine st_plain (O:=fun _ => False) (fun h => .of_below h) (by rfl) (by rfl) (by rfl) (by rfl) (by rfl) ?_; intro K hK; go_big_quiet_op; go_big_quiet_on)
          intro ys xs w2 hF h2
          simp only [secFill]
          have HM2:=Lib.hid (HW1.out.1.later h2)
          have hkP:k < s.P.length:=by rw [HM.out.len]; exact hlt
          obtain ⟨p',hp'⟩:∃ p',s.P[k]? = some p':=⟨_,List.getElem?_eq_getElem hkP⟩
          have m0:=HM2.out.packet hp' 0 _ rfl
          rw [Nat.add_zero] at m0
          have m1:=HM2.out.packet hp' 1 _ rfl
          have m2:=HM2.out.packet hp' 2 _ rfl
          have m3:=HM2.out.packet hp' 3 _ rfl
          have m4:=HM2.out.packet hp' 4 _ rfl
          have m5:=HM2.out.packet hp' 5 _ rfl
          have m6:=HM2.out.packet hp' 6 _ rfl
          have ml:∀ j,w2.frozen? ⟨gp,j,none⟩ = false:=fun j => Lib.frozen_of_heap HM2.out.pk j
          have HW3:=Lib.hid (HM2.out.setPacket (i:=k) hkP p)
          have HK3:Hid (Kept (bxO b gs gp vo ve) w (putP w2 gp k p)):=Lib.hid
            ((((Kept.of_below (O:=bxO b gs gp vo ve) HB1.out).trans HW1.out.2 (Grows.refl _ _)).trans (.of_below (O:=bxO b gs gp vo ve) h2) (Grows.refl _ _)).trans HW3.out.2 (Grows.refl _ _))
          clear q0 q1 q2 q3 d0 d1 d2 d3 d4 d5 d6 hqb hqp hF h2 hp'
          obtain ⟨q0,q1,q2,q3⟩:=HW3.out.1.cells
          have f2:=HW3.out.1.live 2
          have hbz:b < (putP w2 gp k p).heap.size:=heap_some_lt HW3.out.1.box
          have HBL:Hid (Below (putP w2 gp k p).heap.size (putP w2 gp k p) ((putP w2 gp k p).alloc (.cells #[.int .i64 (k:Int)] 3))):=Lib.hid ((Below.refl _ _).alloc (Nat.le_refl _) _)
          have HRQ:Hid (RowQ inC 1 ((putP w2 gp k p).alloc (.cells #[.int .i64 (k:Int)] 3)) vo s.ord):=Lib.hid (HW3.out.1.ord.later HBL.out)
          have HRD:Hid (RdA inC 1 ((putP w2 gp k p).alloc (.cells #[.int .i64 (k:Int)] 3)) (.slice (some ⟨(putP w2 gp k p).heap.size,0,none⟩) 1 1) [(k:Int)]):=Lib.hid (RdA.one inC_len _ _ _ rfl rfl)
          obtain ⟨wp,hwp⟩:∃ wp,putP w2 gp k p = wp:=⟨_,rfl⟩
          have HWP:=Lib.hid hwp
          rw [hwp] at HW3 HK3 q0 q1 q2 q3 f2 hbz HBL HRQ HRD
          clear hwp
          have hfold:((((((w2.setCell ⟨gp,k * 7,none⟩ (.int .i64 p.f.i)).setCell ⟨gp,k * 7 + 1,none⟩ (.int .i64 p.f.n)).setCell ⟨gp,k * 7 + 2,none⟩ (.int .i64 p.f.l)).setCell ⟨gp,k * 7 + 3,none⟩ (.string p.f.d)).setCell ⟨gp,k * 7 + 4,none⟩ (.int .i64 p.fr)).setCell ⟨gp,k * 7 + 5,none⟩ (.int .i64 p.tag)).setCell ⟨gp,k * 7 + 6,none⟩ (.bool p.lp) = wp:=HWP.out
          go_wp2_with (at_builtin; refine wpList_qO (c:=inC) (L:=s.ord) (M := [(k:Int)]) flat_in inC_len inC_one rfl (.tmp 45) (.tmp 47) rfl (by rfl) HRQ.out (by rfl) HRD.out (by have:=HOL.out; simp; omega) ?_; rintro v3 w3 hq3 hk3 hg3; obtain ⟨g3,o3,cap3,rfl⟩:=hq3.form; have HQ3:=Lib.hid hq3; have HK3b:=Lib.hid hk3; have HG3:=Lib.hid hg3; have y0:=(hk3.cell (p:=⟨b,2,none⟩) (Nat.lt_of_lt_of_le hbz HBL.out.size) HW3.out.1.f1.1).trans ((HBL.out.cell (p:=⟨b,2,none⟩) hbz).trans q2); have y1:=(hk3.frozen (p:=⟨b,2,none⟩) (Nat.lt_of_lt_of_le hbz HBL.out.size) HW3.out.1.f1.1).trans ((HBL.out.frozen (p:=⟨b,2,none⟩) hbz).trans f2); clear hq3 hk3 hg3)
          obtain ⟨r1,r2,r3⟩:=(HW3.out.1.later HBL.out).setOrd HQ3.out HK3b.out HG3.out
          have HD:Hid (Stp BxD (.pointer (some ⟨b,0,none⟩)) (bxO b gs gp vo ve) w (s.putAt k p) (w3.setCell ⟨b,2,none⟩ (.slice (some ⟨g3,o3,none⟩) (s.ord.length + 1) cap3))):=Lib.hid
            ⟨_,⟨b,gs,gp,_,ve,rfl,rfl,r1⟩,(HK3.out.trans (.of_below (O:=bxO b gs gp vo ve) HBL.out) (Grows.refl _ _)).trans r2 (Grows.refl _ _),fun k hk => (r3 k hk).imp id (fun h => Nat.le_trans (Nat.le_trans HK3.out.size HBL.out.size) h)⟩
          clear r1 r2 r3
          go_wp2
          go_ret2
          rw [HE.out]
          exact ⟨rfl,HD.out⟩
        · have HR:Hid (s.first (k + 1) = none):=Lib.hid (Bx.first_more HI.out (by rw [hx2]; exact h0))
          have e0:(x == 0) = false:=by simp [h0]
          clear hx hx2
          go_wp2
          exact ⟨⟨k + 1,by omega,by go_num,HR⟩,by simp [intOf]; omega⟩
      · obtain rfl:k = s.S.length:=by omega
        have HE:Hid (s.put p = (s,0,5)):=Lib.hid (by rw [HPU.out,HI.out])
        obtain ⟨rfl,rfl⟩:0 = i ∧ 5 = e:=by have e1:=HK.out; rw [HE.out] at e1; simpa using e1
        go_wp2
        go_ret2
        rw [HE.out]
        exact ⟨rfl,HS.out _ HB1.out⟩
end Go.Proofs.YtimdkcchjanpaaaGreatDoor
