/- Box, the code: a frame's place among those that are ready. Box: the chapter's example; walk of BoxNil. Box: walk of BoxNil. Of no program: a row of bytes tha .. -/
import Derived.Test.YtimdkcchjanpaaaGreatDoorZap
import Derived.Test.YtimdkcchjanpaaaGreatDoorZag
import Derived.Test.YtimdkcchjanpaaaGreatDoorZao
import Derived.Test.YtimdkcchjanpaaaGreatDoorZak
import Derived.Test.YtimdkcchjanpaaaGreatDoorZac
import Derived.Test.YtimdkcchjanpaaaGreatDoorZab
import Derived.Test.YtimdkcchjanpaaaGreatDoorZaa
import Derived.Test.YtimdkcchjanpaaaGreatDoorZad
import Derived.Lib.ConvBytes
import Derived.Test.YtimdkcchjanpaaaGreatDoorZaf
import Derived.Test.YtimdkcchjanpaaaGreatDoorZam
import Derived.Test.YtimdkcchjanpaaaGreatDoorZal
set_option maxHeartbeats 8000000
namespace Go.Proofs.YtimdkcchjanpaaaGreatDoor
open Go.RowKit Go.Shelf
set_option linter.unusedVariables false
variable {TB:TypeId} {od:Nat} {X Y:List Value}
theorem key_fl {i n l:Int} {sz:Nat} (h:0 ≤ keyV i n l sz) : -9223372036854775808 ≤ n ∧ n ≤ 9223372036854775807:=by
  unfold keyV at h
  split at h
  · rename_i h1
    simp only [okF,okFl,Bool.and_eq_true,decide_eq_true_eq] at h1
    omega
  · omega
theorem placeC_v {W:World} {b g fb pb:Nat} {vt ve:Value} {M:List (Int × Pk)} {T E:List Int} {f:Fr} {i y:Nat} {x:Int} {p:Pk} {q:Bool} (h:BmM TB od X Y W b g vt ve M T E) (hT:Tabs W) (hi:T[i]? = some (y:Int)) (hl:T.length ≤ 1000) (hy:M[y]? = some (x,p)) (hM:M.length ≤ 1000)
    (hf:BoxF W fb f.i f.n f.l f.d) (hb:Bx1 W pb (.pointer (some ⟨b,od,none⟩)) 121) (hq:lessB (keyG f) (keyG p.f) = q) (hn : -9223372036854775808 ≤ f.n ∧ f.n ≤ 9223372036854775807) (hp : -9223372036854775808 ≤ p.f.n ∧ p.f.n ≤ 9223372036854775807) :
    Calls Tryz.prog 167 #[.int .i64 i, .pointer (some ⟨fb,0,none⟩), .pointer (some ⟨pb,0,none⟩)] W fun e w' => e = .returned (.bool q) ∧ Below W.heap.size W w':=by
  obtain ⟨hi1,hi2⟩:=List.getElem?_eq_some_iff.1 hi
  have hyl:y < M.length:=(List.getElem?_eq_some_iff.1 hy).1
  obtain ⟨A,cap,hv,hxs⟩:∃ A cap,vt = .slice A T.length cap ∧ ∃ x,A = some x ∧ x.block < W.heap.size ∧ W.cell? (x.add i) = some (.int .i64 y):=by
    obtain ⟨x,cx,hv1,hxb,hcell⟩:=SlG.at_ (h.turn.sl inC_len (by unfold maxLen; omega)) hi1
    have a0:W.cell? (x.add (i * 1)) = some (.int .i64 (T[i]'hi1)):=hcell 0 _ rfl
    rw [Nat.mul_one,hi2] at a0
    exact ⟨_,_,hv1,x,rfl,hxb,a0⟩
  subst hv
  obtain ⟨xa,rfl,hxb,hxc⟩:=hxs
  have a1:∀ m:Later W,m.w.cell? (xa.add i) = some (.int .i64 y):=fun m => (m.h.cell (by rw [addr_block]; exact hxb)).trans hxc
  obtain ⟨c0,c1,c2⟩:=h.cells
  obtain ⟨m0,m1,m2,m3,m4,m5,m6,m7⟩:=h.mail hy
  obtain ⟨d0,d1,d2,d3⟩:=hf.cells
  have e0:=hb.cell
  have z0:b < W.heap.size:=h.lt b (.inl rfl)
  have z1:g < W.heap.size:=h.lt g (.inr (.inl rfl))
  have z2:=hf.lt
  have z3:=hb.lt
  have l1:(i:Int) < (T.length:Int):=by omega
  have l2:(y:Int) < (M.length:Int):=by omega
  have l3:(T.length:Int) ≤ 1000:=by omega
  have l4:(M.length:Int) ≤ 1000:=by omega
  have hl:=later_cells
  have HQ:=Lib.hid hq
  have HT:=Lib.hid hT
  have HN:=Lib.hid hn
  have HP:=Lib.hid hp
  clear h hf hb hq hT hi hi2 hy hxb hxc hn hp
  go_enter Tryz.func167,Tryz.ntmps167
  go_wp2_with fail
  refine wp_region_later (by kernel_rfl) (by kernel_rfl) ?_
  repeat (go_big_quiet_step (fail))
  go_big_quiet_step (exact Later.call (less_v rfl rfl HQ.out _ (Later.tabs _ HT.out) HN.out.1 HN.out.2 HP.out.1 HP.out.2))
  repeat (go_big_quiet_step (fail))
  refine wpQuiet_nil ?_
  rintro w1 ⟨m,rfl⟩
  go_wp2
  go_ret
  exact ⟨rfl,m.h⟩
def PlaceP (s:Bx) (k:Int) (w:World) (e:Ending) (w':World):Prop:=(∃ n:Nat,n ≤ s.trn.length ∧ e = .returned (.int .i64 n) ∧ (∀ t,t < n → ¬ k < s.key (s.trn.getD t 0)) ∧ ∀ t,n ≤ t → t < s.trn.length → k < s.key (s.trn.getD t 0)) ∧ Below w.heap.size w w'
theorem placeC_ent:∀ args w,(callFunc 167 args).run Tryz.prog w = .ok (.enter 167 args) w:=enters_of Tryz.func167 (by kernel_rfl) rfl
theorem place_v {w:World} {b g:Nat} {vt ve:Value} {M:List (Int × Pk)} {s:Bx} {f:Fr} (h:BmM TB od X Y w b g vt ve M s.trn s.fin) (hs:BmS M s) (ok:s.Ok) (hT:Tabs w) (h0:0 ≤ keyG f) :
    Calls Tryz.prog 160 #[.pointer (some ⟨b,od,none⟩), .agg #[.int .i64 f.i, .int .i64 f.n, .int .i64 f.l, .string f.d]] w (PlaceP s (keyG f) w):=by
  obtain ⟨w2,e2⟩:∃ w2,(w.alloc (.cells #[.pointer (some ⟨b,od,none⟩)] 121)).alloc (.cells #[.int .i64 f.i, .int .i64 f.n, .int .i64 f.l, .string f.d] 35) = w2:=⟨_,rfl⟩
  obtain ⟨w1,e1⟩:∃ w1,w.alloc (.cells #[.pointer (some ⟨b,od,none⟩)] 121) = w1:=⟨_,rfl⟩
  have s1:w1.heap.size = w.heap.size + 1:=by rw [← e1]; simp
  have hb1:Below w.heap.size w w1:=by rw [← e1]; exact (Below.refl _ w).alloc (Nat.le_refl _) _
  have hb2:Below w1.heap.size w1 w2:=by rw [← e2,e1]; exact (Below.refl _ w1).alloc (Nat.le_refl _) _
  have hx:Bx1 w2 w.heap.size (.pointer (some ⟨b,od,none⟩)) 121:=(by rw [← e1]; exact Bx1.made _ _ _ rfl:Bx1 w1 w.heap.size (.pointer (some ⟨b,od,none⟩)) 121).later hb2
  have hf:BoxF w2 (w.heap.size + 1) f.i f.n f.l f.d:=by rw [← e2,e1,← s1]; exact BoxF.made _ _ _ _ _
  have hw:Below w.heap.size w w2:=fbelow_t hb1 hb2
  have hm:=h.later hw
  have HT:=Lib.hid (hT.below hw)
  have hTl:s.trn.length ≤ 1000:=by rw [s.trn_len]; exact ok.ordLe
  obtain ⟨A,cap,hv⟩:=hm.turn.shape
  subst hv
  obtain ⟨c0,c1,c2⟩:=hm.cells
  have x0:=hx.cell
  have HS:=Lib.hid (search_v 167 #[.pointer (some ⟨w.heap.size + 1,0,none⟩), .pointer (some ⟨w.heap.size,0,none⟩)] s.trn.length (fun t => decide (keyG f < s.key (s.trn.getD t 0))) w2 placeC_ent (by omega) (fun W i hW hi => by
    obtain ⟨k1,k2,k3⟩:=ok.trnOk _ (List.getElem_mem hi)
    have hk4:=ok.key _ (mem_turnK.1 (List.getElem_mem hi))
    have hgd:s.trn.getD i 0 = s.trn[i]'hi:=by rw [List.getD_eq_getElem?_getD,List.getElem?_eq_getElem hi]; rfl
    obtain ⟨y,hy⟩:∃ y:Nat,(s.trn[i]'hi) = (y:Int):=⟨(s.trn[i]'hi).toNat,by omega⟩
    rw [hy] at k2 hgd hk4
    have hmy:=hs.at_ (i:=y) (by omega)
    have hkey:s.key (y:Int) = keyG (s.P.getD y pk0).f:=by unfold Bx.key; rw [Int.toNat_natCast]
    rw [hkey] at hk4
    refine (placeC_v (W:=W) (f:=f) (i:=i) (y:=y) (q:=decide (keyG f < s.key (s.trn.getD i 0))) (hm.later hW) (HT.out.below hW) (by rw [List.getElem?_eq_getElem hi,hy]) hTl hmy (by rw [hs.len]; exact ok.n2) (hf.later hW) (hx.later hW) ?_ (key_fl h0) (key_fl hk4))
    rw [hgd,hkey]
    unfold lessB
    rw [decide_eq_true h0]; rfl) (fun a b' hab hb' ha => by
    simp only [decide_eq_true_eq] at ha ⊢
    exact Bx.trn_mono hab hb' ha))
  have HW:=Lib.hid hw
  have htl2:(s.trn.length:Int) ≤ 1000:=by omega
  clear h hs ok hT h0 hm hf hx hb1 hb2 hw
  subst e1
  go_enter Tryz.func160,Tryz.ntmps160
  go_wp2_with fail
  refine HS.out.mono ?_
  rintro e w' ⟨⟨n,k1,rfl,k2,k3⟩,hb'⟩
  have K2:=Lib.hid k2
  have K3:=Lib.hid k3
  clear k2 k3
  go_wp2
  go_ret
  exact ⟨⟨n,k1,rfl,fun t ht => by simpa using K2.out t ht,fun t h1 h2 => by simpa using K3.out t h1 h2⟩,fbelow_t HW.out hb'⟩
end Go.Proofs.YtimdkcchjanpaaaGreatDoor
namespace Go.Proofs.YtimdkcchjanpaaaGreatDoor
open Go.RowKit
set_option linter.unusedVariables false
end Go.Proofs.YtimdkcchjanpaaaGreatDoor
namespace Go.Proofs.YtimdkcchjanpaaaGreatDoor
open Go.RowKit
set_option linter.unusedVariables false
end Go.Proofs.YtimdkcchjanpaaaGreatDoor
namespace Go.Proofs.YtimdkcchjanpaaaGreatDoor
open Go.RowKit
set_option linter.unusedVariables false
theorem drewN_two (w:World) (a b:Nat):(w.drewN a).drewN b = w.drewN (a + b):=by
  unfold World.drewN
  simp [Nat.add_assoc]
end Go.Proofs.YtimdkcchjanpaaaGreatDoor
namespace Go.Proofs.YtimdkcchjanpaaaGreatDoor
open Go.RowKit
set_option linter.unusedVariables false
theorem list_take_eq {A B:List Int} {k:Nat} (hl:A.length = B.length) (h:k < A.length) (h':k < B.length) (he:A.take k = B.take k):A.take (k + 1) = B.take (k + 1) ↔ A[k] = B[k]:=by
  rw [take_snoc h,take_snoc h',he]
  constructor
  · intro e
    have:=List.append_cancel_left e
    simpa using this
  · intro e; rw [e]
theorem sints_v {v v':Value} {L L':List Int} {q:Bool} (h:decide (L = L') = q) (w:World) (hv:SlI w v L) (hv':SlI w v' L') :
    Calls Tryz.prog 29 #[v,v'] w fun e w' => e = .returned (.bool q) ∧ ∃ m,w' = w.drewN m:=by
  have H:=Lib.hid h
  have HV:=Lib.hid hv
  have HV':=Lib.hid hv'
  obtain ⟨A,cap,rfl,hlen,_⟩:=hv
  obtain ⟨A',cap',rfl,hlen',_⟩:=hv'
  unfold maxLen at hlen hlen'
  clear h
  by_cases hl:L.length = L'.length
  · have hne:((L.length:Int) != (L'.length:Int)) = false:=by simp; omega
    have HL:=Lib.hid hl
    clear hl
    go_enter Tryz.func29,Tryz.ntmps29
    go_wp2_with fail
    go_loopw [5] (fun i wr => ∃ k:Nat,k ≤ L.length ∧ i = .int .i64 k ∧ Hid (L.take k = L'.take k) ∧ ∃ m,wr = w.drewN m) (fun i _ => L.length - (intOf i).toNat)
    case atStart => exact ⟨0,Nat.zero_le _,rfl,Lib.hid rfl,0,rfl⟩
    case round =>
      obtain ⟨k,hk,rfl,HI,m,rfl⟩:=hrel
      by_cases hlt:k < L.length
      · have hlt2:k < L'.length:=by rw [← HL.out]; exact hlt
        obtain ⟨x,c1,hv1,hxb,c0⟩:=HV.out.at1 hlt rfl
        injection hv1 with hA _ hcap
        subst hA
        subst hcap
        obtain ⟨y,c2,hv2,hyb,d0⟩:=HV'.out.at1 hlt2 rfl
        injection hv2 with hA _ hcap
        subst hA
        subst hcap
        have HT:=Lib.hid (list_take_eq HL.out hlt hlt2 HI.out)
        have c0':∀ m,(w.drewN m).cell? (x.add k) = some (.int .i64 L[k]):=fun _ => c0
        have d0':∀ m,(w.drewN m).cell? (y.add k) = some (.int .i64 L'[k]):=fun _ => d0
        have HNE:Hid (L[k] ≠ L'[k] → L ≠ L'):=Lib.hid (fun h e => h (by subst e; rfl))
        generalize L[k] = a at c0' HT HNE
        generalize L'[k] = b at d0' HT HNE
        clear c0 d0
        by_cases hab:a = b
        · have hb:(a != b) = false:=by simpa using hab
          have HN:Hid (L.take (k + 1) = L'.take (k + 1)):=Lib.hid (HT.out.2 hab)
          clear hab
          go_wp2_with fail
          go_quiet (fail)
          go_wp2
          go_roundw
          case rel => exact ⟨k + 1,by omega,by go_num,HN,_,rfl⟩
          case measure => simp [intOf]; omega
        · have hb:(a != b) = true:=by simpa using hab
          have HQ:Hid (false = q):=Lib.hid (by rw [← H.out,decide_eq_false (HNE.out hab)])
          clear hab
          go_wp2_with fail
          go_quiet (fail)
          go_wp2
          go_ret
          exact ⟨fret_bool HQ.out,_,drewN_two _ _ _⟩
      · obtain rfl:k = L.length:=by omega
        have HQ:Hid (true = q):=Lib.hid (by
          have:=HI.out
          rw [List.take_length,List.take_of_length_le (by rw [HL.out]; exact Nat.le_refl _)] at this
          rw [← H.out,decide_eq_true this])
        go_wp2
        go_ret
        exact ⟨fret_bool HQ.out,_,rfl⟩
  · have hne:((L.length:Int) != (L'.length:Int)) = true:=by simp; omega
    have HQ:Hid (false = q):=Lib.hid (by rw [← H.out,decide_eq_false (fun e => hl (by rw [e]))])
    clear hl
    go_enter Tryz.func29,Tryz.ntmps29
    go_wp2
    go_ret
    exact ⟨fret_bool HQ.out,0,rfl⟩
end Go.Proofs.YtimdkcchjanpaaaGreatDoor
namespace Go.Proofs.YtimdkcchjanpaaaGreatDoor
open Go.RowKit
set_option linter.unusedVariables false
structure Op9 where
  k:Int
  b:Int
  p:Pk
def opC9 (o:Op9):List Value := [.int .i64 o.k, .int .i64 o.b, .int .i64 o.p.f.i, .int .i64 o.p.f.n, .int .i64 o.p.f.l, .string o.p.f.d, .int .i64 o.p.fr, .int .i64 o.p.tag, .bool o.p.lp]
end Go.Proofs.YtimdkcchjanpaaaGreatDoor
namespace Go.Proofs.YtimdkcchjanpaaaGreatDoor
open Go.RowKit
set_option linter.unusedVariables false
def fx5 (f:Op9):Nat:=min f.p.f.d.size 5000
def fxN (L:List Op9) (k:Nat):Nat:=((L.take k).map fx5).sum
theorem fxN_succ (L:List Op9) (k:Nat) (h:k < L.length):fxN L (k + 1) = fxN L k + fx5 L[k]:=by
  unfold fxN
  rw [List.take_succ_eq_append_getElem h,List.map_append,List.sum_append]
  simp only [List.map_cons,List.map_nil,List.sum_cons,List.sum_nil,Nat.add_zero]
theorem fx5_le (f:Op9):fx5 f ≤ 5000:=Nat.min_le_right _ _
theorem fxN_le (L:List Op9):∀ k,fxN L k ≤ 5000 * k
  | 0 => by simp [fxN]
  | k + 1 => by
    have:=fxN_le L k
    by_cases h:k < L.length
    · rw [fxN_succ L k h]; have:=fx5_le L[k]; omega
    · have e:fxN L (k + 1) = fxN L k:=by unfold fxN; rw [List.take_of_length_le (by omega),List.take_of_length_le (by omega)]
      omega
theorem fx_min (n:Nat):min (n:Int) 5000 = ((min n 5000:Nat):Int):=by omega
end Go.Proofs.YtimdkcchjanpaaaGreatDoor
namespace Go.Proofs.YtimdkcchjanpaaaGreatDoor
open Go.RowKit Go.Shelf
set_option linter.unusedVariables false
variable {TB:TypeId} {od:Nat} {X Y:List Value}
theorem info_mb:(Tryz.prog.info? 170).map (fun i => (i.zero,i.size,i.bytes)) = some (some (.agg (mbC (0,pk0)).toArray),8,72):=by kernel_rfl
theorem rep_mb (n:Nat):madeCells (Value.agg (mbC (0,pk0)).toArray).cells (n * 8) = (rowG mbC (List.replicate n (0,pk0))).toArray:=by
  have h:=made_rep (mbC (0,pk0)).toArray n (by decide)
  have e:(Value.agg (mbC (0,pk0)).toArray).cells = (mbC (0,pk0)).toArray:=by kernel_rfl
  rw [e]
  refine Eq.trans h ?_
  congr 1
  unfold rowG
  rw [List.flatMap_def,List.map_replicate]
theorem run_mkM (n:Nat) (hn:n ≤ 1000) (w:World) :
    (Instr.makeSlice 74 (.int .i64 n) (.int .i64 n)).run Tryz.prog w = .ok (.slice (some ⟨w.heap.size,0,none⟩) n n) (w.alloc (.cells (rowG mbC (List.replicate n (0,pk0))).toArray 170)):=by
  obtain ⟨i0,hi,hz0,hz1,hz2⟩:=info_parts info_mb
  have:=run_make (P:=Tryz.prog) w 74 170 i0 _ Tryz.underlying74 hi hz0 .i64 .i64 (n:Int) (n:Int) (by omega) (Int.le_refl _) (by rw [hz2]; omega) (by omega)
  rw [hz1,Int.toNat_natCast,rep_mb] at this
  exact this
theorem kxfree_v {w:World} {v:Value} {s:Bx} {O:Nat → Prop} (h:BmD TB od X Y w v s O) (ok:s.Ok):Calls Tryz.prog 115 #[v] w fun e w' => e = .returned (.int .i64 (s.free s.S.length:Nat)) ∧ Below w.heap.size w w':=by
  obtain ⟨b,g,vt,ve,M,rfl,rfl,hm,hs⟩:=h
  obtain ⟨A1,k1,hv1⟩:=hm.turn.shape
  obtain ⟨A2,k2,hv2⟩:=hm.fin.shape
  subst hv1 hv2
  obtain ⟨c0,c1,c2⟩:=hm.cells
  have z0:b < w.heap.size:=hm.lt b (.inl rfl)
  have HL:Hid (M.length = s.S.length):=Lib.hid hs.len
  have HC:=Lib.hid hs.full.cnt
  have HN:=Lib.hid ok.n2
  have HT:Hid (s.trn.length = s.ord.length):=Lib.hid s.trn_len
  generalize s.free s.S.length = q at *
  have e:Hid ((M.length:Int) - (s.trn.length:Int) - (s.fin.length:Int) = (q:Int)):=Lib.hid (by have:=HL.out; have:=HC.out; have:=HT.out; omega)
  have w1:(M.length:Int) ≤ 1000 ∧ (s.trn.length:Int) ≤ 1000 ∧ (s.fin.length:Int) ≤ 1000:=by have:=HL.out; have:=HC.out; have:=HT.out; have:=HN.out; omega
  obtain ⟨w1,w2,w3⟩:=w1
  clear hm hs
  go_enter Tryz.func115,Tryz.ntmps115
  go_wp2_with fail
  go_quiet (fail)
  go_wp2
  go_ret
  exact ⟨by rw [← e.out]; go_num,below_drewN (Below.refl _ _) _⟩
theorem kxbest_v {w:World} {v:Value} {s:Bx} {O:Nat → Prop} (h:BmD TB od X Y w v s O) (ok:s.Ok):Calls Tryz.prog 103 #[v] w fun e w' => e = .returned (.tuple #[.int .i64 s.bst.1,pkV s.bst.2.1, .bool s.bst.2.2]) ∧ Below w.heap.size w w':=by
  obtain ⟨b,g,vt,ve,M,rfl,rfl,hm,hs⟩:=h
  obtain ⟨A1,k1,hv1⟩:=hm.turn.shape
  subst hv1
  have hb0:=(Below.refl w.heap.size w).alloc (Nat.le_refl _) (.cells #[.int .i64 0, .int .i64 0, .int .i64 0, .string (ByteArray.mk #[]), .int .i64 0, .int .i64 0, .bool false] 37)
  have HB0:=Lib.hid hb0
  obtain ⟨w0,e0⟩:∃ w0,w.alloc (.cells #[.int .i64 0, .int .i64 0, .int .i64 0, .string (ByteArray.mk #[]), .int .i64 0, .int .i64 0, .bool false] 37) = w0:=⟨_,rfl⟩
  have hm0:BmM TB od X Y w0 b g (.slice A1 s.trn.length k1) ve M s.trn s.fin:=by rw [← e0]; exact hm.later hb0
  have HP0:Hid (BoxP w0 w.heap.size pk0):=Lib.hid (by rw [← e0]; exact BoxP.made w pk0)
  cases hT:s.trn with
  | nil =>
    rw [Bx.bst_nil ok.ordOk hT]
    rw [hT] at hm0
    obtain ⟨c0,c1,c2⟩:=hm0.cells
    obtain ⟨d0,d1,d2,d3,d4,d5,d6⟩:=HP0.out.cells
    simp only [List.length_nil] at c1
    clear hm hs hm0 hT ok
    have HPZ:Hid (BoxP (putB w0 w.heap.size pk0) w.heap.size pk0 ∧ Below w.heap.size w (putB w0 w.heap.size pk0)):=Lib.hid ⟨HP0.out.put pk0,putB_below pk0 (by rw [← e0]; exact HB0.out) (Nat.le_refl _)⟩
    have gl:∀ j,w0.frozen? ⟨w.heap.size,j,none⟩ = false:=fun j => Lib.frozen_of_heap HP0.out j
    obtain ⟨wz,ez⟩:∃ wz,putB w0 w.heap.size pk0 = wz:=⟨_,rfl⟩
    rw [ez] at HPZ
    have hfold:((((((w0.setCell ⟨w.heap.size,0,none⟩ (.int .i64 0)).setCell ⟨w.heap.size,1,none⟩ (.int .i64 0)).setCell ⟨w.heap.size,2,none⟩ (.int .i64 0)).setCell ⟨w.heap.size,3,none⟩ (.string (ByteArray.mk #[]))).setCell ⟨w.heap.size,4,none⟩ (.int .i64 0)).setCell ⟨w.heap.size,5,none⟩ (.int .i64 0)).setCell ⟨w.heap.size,6,none⟩ (.bool false) = wz:=ez
    clear ez HB0 hb0
    go_enter Tryz.func103,Tryz.ntmps103
    go_wp2
    obtain ⟨g0,g1,g2,g3,g4,g5,g6⟩:=HPZ.out.1.cells
    refine bodyPost_ret (v := .tuple #[.int .i64 0,pkV pk0, .bool false]) ?_ rfl ⟨rfl,HPZ.out.2⟩
    simp [results,Tryz.results103,go_sem,g0,g1,g2,g3,g4,g5,g6]
  | cons y l =>
    rw [Bx.bst_cons ok.ordOk hT]
    obtain ⟨k1,k2,k3⟩:=ok.trnOk y (by rw [hT]; simp)
    obtain ⟨n,rfl⟩:∃ n:Nat,y = (n:Int):=⟨y.toNat,by omega⟩
    have hmy:=hs.at_ (i:=n) (by omega)
    rw [Int.toNat_natCast]
    generalize s.S.getD n 0 = x at hmy
    generalize s.P.getD n pk0 = p at hmy
    have hMl:M.length ≤ 1000:=by rw [hs.len]; exact ok.n2
    have hnl:n < M.length:=by rw [hs.len]; omega
    have htl:s.trn.length ≤ 1000:=by rw [s.trn_len]; exact ok.ordLe
    obtain ⟨xa,ca,hv1,hxb,hcell⟩:=SlG.at_ (hm0.turn.sl inC_len (by unfold maxLen; omega)) (i:=0) (by rw [hT]; simp)
    have a0:w0.cell? (xa.add (0 * 1)) = some (.int .i64 n):=hcell 0 _ (by simp [hT,inC])
    rw [Nat.mul_one,show xa.add 0 = xa by unfold Addr.add; simp] at a0
    injection hv1 with hA _ hcap
    subst hA hcap
    have l0:0 < s.trn.length:=by rw [hT]; simp
    have l1:(0:Int) < (s.trn.length:Int):=by omega
    have l2:(n:Int) < (M.length:Int):=by omega
    have l3:((s.trn.length:Int) == 0) = false:=beq_eq_false_iff_ne.2 (by omega)
    obtain ⟨c0,c1,c2⟩:=hm0.cells
    obtain ⟨m0,m1,m2,m3,m4,m5,m6,m7⟩:=hm0.mail hmy
    obtain ⟨d0,d1,d2,d3,d4,d5,d6⟩:=HP0.out.cells
    have z0:b < w0.heap.size:=hm0.lt b (.inl rfl)
    have z1:g < w0.heap.size:=hm0.lt g (.inr (.inl rfl))
    have z2:b ≠ w.heap.size:=fun e => absurd (hm.lt b (.inl rfl)) (by omega)
    have z3:g ≠ w.heap.size:=fun e => absurd (hm.lt g (.inr (.inl rfl))) (by omega)
    have gl:∀ j,w0.frozen? ⟨w.heap.size,j,none⟩ = false:=fun j => Lib.frozen_of_heap HP0.out j
    have HPZ:Hid (BoxP (putB w0 w.heap.size p) w.heap.size p ∧ Below w.heap.size w (putB w0 w.heap.size p)):=Lib.hid ⟨HP0.out.put p,putB_below p (by rw [← e0]; exact HB0.out) (Nat.le_refl _)⟩
    obtain ⟨wp,ep⟩:∃ wp,putB w0 w.heap.size p = wp:=⟨_,rfl⟩
    rw [ep] at HPZ
    have hfold:((((((w0.setCell ⟨w.heap.size,0,none⟩ (.int .i64 p.f.i)).setCell ⟨w.heap.size,1,none⟩ (.int .i64 p.f.n)).setCell ⟨w.heap.size,2,none⟩ (.int .i64 p.f.l)).setCell ⟨w.heap.size,3,none⟩ (.string p.f.d)).setCell ⟨w.heap.size,4,none⟩ (.int .i64 p.fr)).setCell ⟨w.heap.size,5,none⟩ (.int .i64 p.tag)).setCell ⟨w.heap.size,6,none⟩ (.bool p.lp) = wp:=ep
    clear hm hs hm0 hT ok hmy HB0 hb0 hcell k1 k2 k3 ep
    go_enter Tryz.func103,Tryz.ntmps103
    go_wp2_with fail
    go_region
    have HZ:Hid (BoxP wp.drew w.heap.size p ∧ Below w.heap.size w wp.drew):=Lib.hid ⟨HPZ.out.1,HPZ.out.2.drew⟩
    clear hfold c0 c1 c2 m0 m1 m2 m3 m4 m5 m6 m7 d0 d1 d2 d3 d4 d5 d6 gl
    go_wp2
    obtain ⟨g0,g1,g2,g3,g4,g5,g6⟩:=HZ.out.1.cells
    refine bodyPost_ret (v := .tuple #[.int .i64 n,pkV p, .bool true]) ?_ rfl ⟨rfl,HZ.out.2⟩
    simp [results,Tryz.results103,go_sem,g0,g1,g2,g3,g4,g5,g6]
def StatesI (M:List (Int × Pk)) (s:Bx) (w wr:World) (k:Nat):Prop:=Below w.heap.size w wr ∧ ∃ L:List Int,L = s.S.take k ++ List.replicate (M.length - k) 0 ∧ wr.heap[w.heap.size]? = some (.cells (rowG inC L).toArray 3 (0,0))
theorem statesI_lt {M:List (Int × Pk)} {s:Bx} {w wr:World} {k:Nat} (h:StatesI M s w wr k):w.heap.size < wr.heap.size:=by
  obtain ⟨_,L,_,h2⟩:=h
  exact heap_some_lt h2
theorem statesI_cell {M:List (Int × Pk)} {s:Bx} {w wr:World} {k:Nat} (h:StatesI M s w wr k) (hk:k < M.length) (hl:M.length = s.S.length):wr.cell? ⟨w.heap.size,k,none⟩ = some (.int .i64 0) ∧ wr.frozen? ⟨w.heap.size,k,none⟩ = false:=by
  obtain ⟨_,L,h1,h2⟩:=h
  refine ⟨?_,Lib.frozen_of_heap h2 _⟩
  rw [Lib.cell_of_heap h2]
  have hL:L[k]? = some 0:=by
    rw [h1,List.getElem?_append_right (by simp; omega)]
    simp [List.getElem?_replicate]
    omega
  simpa [inC] using rowG_get inC_len L k _ hL 0 _ rfl
theorem statesI_step {M:List (Int × Pk)} {s:Bx} {w wr:World} {k:Nat} {x:Int} (h:StatesI M s w wr k) (hk:k < M.length) (hl:M.length = s.S.length) (hx:s.S[k]? = some x):StatesI M s w (wr.setCell ⟨w.heap.size,k,none⟩ (.int .i64 x)) (k + 1):=by
  obtain ⟨h0,L,h1,h2⟩:=h
  refine ⟨h0.setCell (Nat.le_refl _) _,L.set k x, ?_, ?_⟩
  · obtain ⟨hk2,hx2⟩:=List.getElem?_eq_some_iff.1 hx
    rw [h1,List.take_succ_eq_append_getElem hk2,hx2,List.set_append_right _ _ (by simp; omega)]
    rw [List.append_assoc]
    congr 1
    rw [List.length_take,Nat.min_eq_left (by omega),Nat.sub_self]
    obtain ⟨d,hd⟩:∃ d,M.length - k = d + 1:=⟨M.length - k - 1,by omega⟩
    rw [hd,show M.length - (k + 1) = d by omega]
    rfl
  · rw [heap_setCell_same wr w.heap.size k _ _ _ h2]
    simp only [List.setIfInBounds_toArray]
    rw [rowG_setI]
theorem statesI_later {M:List (Int × Pk)} {s:Bx} {w wr wr':World} {k:Nat} (h:StatesI M s w wr k) (hb:Below wr.heap.size wr wr'):StatesI M s w wr' k:=by
  have hz:=statesI_lt h
  obtain ⟨h0,L,h1,h2⟩:=h
  exact ⟨fbelow_t h0 hb,L,h1,(hb.block _ hz).trans h2⟩
theorem statesI_done {M:List (Int × Pk)} {s:Bx} {w wr:World} (h:StatesI M s w wr M.length) (hl:M.length = s.S.length) (hm:M.length ≤ 1000):Gives w (fun w' u => SlA inC 1 w' (fun k => k < w.heap.size) u s.S ∧ ShapeOk u) (.returned (.slice (some ⟨w.heap.size,0,none⟩) M.length M.length)) wr:=by
  obtain ⟨h0,L,h1,h2⟩:=h
  rw [Nat.sub_self,hl,List.take_length] at h1
  simp only [List.replicate_zero,List.append_nil] at h1
  subst h1
  refine ⟨_,rfl,⟨⟨some ⟨w.heap.size,0,none⟩,M.length,by rw [hl],by unfold maxLen; omega,fun i a ha => ⟨_,rfl,heap_some_lt h2,by simp,fun j u hu => ?_⟩⟩, .inr ⟨_,_,_,rfl,Nat.le_refl _⟩⟩,h0⟩
  rw [qaddr,Lib.cell_of_heap h2,Nat.zero_add]
  simpa using rowG_get inC_len _ i _ ha j u hu
theorem kxstates_v {w:World} {v:Value} {s:Bx} {O:Nat → Prop} (h:BmD TB od X Y w v s O) (ok:s.Ok):Calls Tryz.prog 98 #[v] w (Gives w fun w' u => SlA inC 1 w' (fun k => k < w.heap.size) u s.S ∧ ShapeOk u):=by
  obtain ⟨b,g,vt,ve,M,rfl,rfl,hm,hs⟩:=h
  have hMl:M.length ≤ 1000:=by rw [hs.len]; exact ok.n2
  have mk1:=run_mkS M.length hMl
  obtain ⟨w1,e1⟩:∃ w1,w.alloc (.cells (rowG inC (List.replicate M.length 0)).toArray 3) = w1:=⟨_,rfl⟩
  have hb1:Below w.heap.size w w1:=by rw [← e1]; exact (Below.refl _ w).alloc (Nat.le_refl _) _
  have hr1:w1.heap[w.heap.size]? = some (.cells (rowG inC (List.replicate M.length 0)).toArray 3 (0,0)):=by rw [← e1]; exact heap_alloc_new w _
  have HM:=Lib.hid hm
  have HS:=Lib.hid hs
  obtain ⟨c0,c1,c2⟩:=hm.cells
  have z0:b < w.heap.size:=hm.lt b (.inl rfl)
  have l4:(M.length:Int) ≤ 1000:=by omega
  have HR:Hid (StatesI M s w w1 0):=Lib.hid ⟨hb1,_,rfl,by simpa using hr1⟩
  subst e1
  have HML:=Lib.hid hMl
  clear hm hs ok hb1 hr1 hMl
  go_enter Tryz.func98,Tryz.ntmps98
  go_wp2
  go_loopw [19] (fun i wr => ∃ k:Nat,k ≤ M.length ∧ i = .int .i64 k ∧ Hid (StatesI M s w wr k)) (fun i _ => M.length - (intOf i).toNat)
  case atStart => exact ⟨0,Nat.zero_le _,rfl,HR⟩
  case round =>
    obtain ⟨k,hk,rfl,HI⟩:=hrel
    have hmr:=HM.out.later HI.out.1
    by_cases hlt:k < M.length
    · have hkl:(k:Int) < (M.length:Int):=by omega
      have hks:k < s.S.length:=by have:=HS.out.len; omega
      have hmy:=HS.out.at_ hks
      have HX:Hid (s.S[k]? = some (s.S.getD k 0)):=Lib.hid (by rw [List.getD_eq_getElem?_getD,List.getElem?_eq_getElem hks]; rfl)
      generalize s.S.getD k 0 = x at hmy HX
      generalize s.P.getD k pk0 = p at hmy
      obtain ⟨m0,m1,m2,m3,m4,m5,m6,m7⟩:=hmr.mail hmy
      obtain ⟨q0,q1⟩:=statesI_cell HI.out hlt HS.out.len
      have HN:=Lib.hid (statesI_step HI.out hlt HS.out.len HX.out)
      have z1:w.heap.size < wr.heap.size:=statesI_lt HI.out
      clear hmr hmy hks
      go_wp2
      exact ⟨⟨k + 1,by omega,by go_num,Lib.hid (statesI_later HN.out ((Below.refl _ _).alloc (Nat.le_refl _) _))⟩,by simp [intOf]; omega⟩
    · obtain rfl:k = M.length:=by omega
      go_wp2
      go_ret
      exact statesI_done HI.out HS.out.len HML.out
end Go.Proofs.YtimdkcchjanpaaaGreatDoor
namespace Go.Proofs.YtimdkcchjanpaaaGreatDoor
open Go.RowKit Go.Shelf
set_option linter.unusedVariables false
variable {TB:TypeId} {od:Nat} {X Y:List Value}
def Bx.plc (s:Bx) (k:Int):Nat:=(s.trn.takeWhile (fun y => !decide (k < s.key y))).length
theorem takeWhile_at {p:Int → Bool}:∀ {l:List Int} {n:Nat},n ≤ l.length → (∀ t,t < n → p (l.getD t 0) = true) → (∀ t,n ≤ t → t < l.length → p (l.getD t 0) = false) → (l.takeWhile p).length = n
  | [],n,h,_,_ => by simp at h; subst h; rfl
  | y :: l,0,_,_,h => by
    have:=h 0 (Nat.le_refl _) (by simp)
    rw [List.takeWhile_cons,if_neg (by simpa using this)]; rfl
  | y :: l,n + 1,hn,h1,h2 => by
    have:=h1 0 (by omega)
    rw [List.takeWhile_cons,if_pos (by simpa using this),List.length_cons,takeWhile_at (n:=n) (by simpa using hn) (fun t ht => by simpa using h1 (t + 1) (by omega)) (fun t h3 h4 => by simpa using h2 (t + 1) (by omega) (by simpa using h4))]
theorem place_one {s:Bx} {k:Int} {n:Nat} (h0:n ≤ s.trn.length) (h1:∀ t,t < n → ¬ k < s.key (s.trn.getD t 0)) (h2:∀ t,n ≤ t → t < s.trn.length → k < s.key (s.trn.getD t 0)):n = s.plc k :=
  (takeWhile_at h0 (fun t ht => by simpa using h1 t ht) (fun t h3 h4 => by simpa using h2 t h3 h4)).symm
theorem place_w {w:World} {b g:Nat} {vt ve:Value} {M:List (Int × Pk)} {s:Bx} {f:Fr} (h:BmM TB od X Y w b g vt ve M s.trn s.fin) (hs:BmS M s) (ok:s.Ok) (hT:Tabs w) (h0:0 ≤ keyG f) :
    Calls Tryz.prog 160 #[.pointer (some ⟨b,od,none⟩), .agg #[.int .i64 f.i, .int .i64 f.n, .int .i64 f.l, .string f.d]] w fun e w' => e = .returned (.int .i64 (s.plc (keyG f):Nat)) ∧ Below w.heap.size w w':=by
  refine (place_v h hs ok hT h0).mono ?_
  rintro e w' ⟨⟨n,k1,rfl,k2,k3⟩,hb⟩
  rw [← place_one k1 k2 k3]
  exact ⟨rfl,hb⟩
theorem plc_spec {s:Bx} (k:Int):s.plc k ≤ s.trn.length ∧ (∀ t,t < s.plc k → ¬ k < s.key (s.trn.getD t 0)) ∧ ∀ t,s.plc k ≤ t → t < s.trn.length → k < s.key (s.trn.getD t 0):=by
  have hs:SortK s.key s.trn:=turnK_sort
  have hw:∀ (l:List Int),SortK s.key l → (l.takeWhile (fun y => !decide (k < s.key y))).length ≤ l.length ∧ (∀ t,t < (l.takeWhile (fun y => !decide (k < s.key y))).length → ¬ k < s.key (l.getD t 0)) ∧ ∀ t,(l.takeWhile (fun y => !decide (k < s.key y))).length ≤ t → t < l.length → k < s.key (l.getD t 0):=by
    intro l
    induction l with
    | nil => intro _; exact ⟨Nat.le_refl _,fun t ht => absurd ht (Nat.not_lt_zero _),fun t _ ht => absurd ht (Nat.not_lt_zero _)⟩
    | cons y l ih =>
      intro h
      have h':=List.pairwise_cons.1 h
      obtain ⟨i1,i2,i3⟩:=ih h'.2
      rw [List.takeWhile_cons]
      by_cases hy:k < s.key y
      · rw [if_neg (by simpa using hy)]
        refine ⟨Nat.zero_le _,fun t ht => absurd ht (Nat.not_lt_zero _),fun t _ ht => ?_⟩
        cases t with
        | zero => simpa using hy
        | succ t =>
          have ht':t < l.length:=by simpa using ht
          rw [List.getD_cons_succ,List.getD_eq_getElem?_getD,List.getElem?_eq_getElem ht']
          have:=h'.1 _ (List.getElem_mem ht')
          simp only [Option.getD_some]
          omega
      · rw [if_pos (by simpa using hy),List.length_cons]
        refine ⟨by simp; omega,fun t ht => ?_,fun t h3 h4 => ?_⟩
        · cases t with
          | zero => simpa using hy
          | succ t => simpa using i2 t (by omega)
        · cases t with
          | zero => omega
          | succ t => simpa using i3 t (by omega) (by simpa using h4)
  exact hw s.trn hs
def InsQ (u:Value) (x:Int) (L':List Int) (W:World) (tx tr:Tmp) (j:Nat) (xs:Tmp → Option Value) (w:World):Prop :=
  Kept (OwnO u) W w ∧ ((j ≤ 1 ∧ xs tr = none ∧ Below W.heap.size W w ∧ ∀ y,xs tx = some y → ∃ g,y = .slice (some ⟨g,0,none⟩) 1 1 ∧ W.heap.size ≤ g ∧ w.heap[g]? = some (.cells #[.int .i64 x] 3 (0,0))) ∨
    (j = 2 ∧ ∃ v',xs tr = some v' ∧ RowQ inC 1 w v' L' ∧ Grows (OwnO u) W (OwnO v')))
section
variable {u:Value} {x:Int} {L':List Int} {W w w':World} {tx tr:Tmp} {xs:Tmp → Option Value}
theorem InsQ.start:InsQ u x L' W tx tr 0 (fun _ => none) W.drew:=⟨.of_below (Below.refl _ _).drew, .inl ⟨by decide,rfl,(Below.refl _ _).drew,fun y h => by cases h⟩⟩
theorem InsQ.one (hne:tr ≠ tx) (j:Nat) (xs:Tmp → Option Value) (w:World) (h:InsQ u x L' W tx tr j xs w):InsQ u x L' W tx tr j (fun t => if t = tx then some (.slice (some ⟨w.heap.size,0,none⟩) 1 1) else xs t) (w.alloc (.cells #[.int .i64 x] 3)):=by
  have hb:Below w.heap.size w (w.alloc (.cells #[.int .i64 x] 3)):=(Below.refl _ _).alloc (Nat.le_refl _) _
  obtain ⟨h1,h2⟩:=h
  refine ⟨h1.trans (.of_below (O:=OwnO u) hb) (Grows.refl _ _), ?_⟩
  rcases h2 with ⟨hj,h0,h3,h4⟩ | ⟨rfl,v',h3,h4,h5⟩
  · refine .inl ⟨hj,by simp only; rw [if_neg hne]; exact h0,fbelow_t h3 hb,fun y hy => ?_⟩
    simp at hy
    subst hy
    exact ⟨_,rfl,h3.size,heap_alloc_new w _⟩
  · exact .inr ⟨rfl,v',by simp only; rw [if_neg hne]; exact h3,h4.later hb,h5⟩
theorem InsQ.zero (h:InsQ u x L' W tx tr 0 xs w):Below W.heap.size W w:=by
  rcases h.2 with ⟨_,_,h1,_⟩ | ⟨h0,_⟩
  · exact h1
  · cases h0
theorem InsQ.step (h:InsQ u x L' W tx tr 0 xs w) (hb:Below w.heap.size w w'):InsQ u x L' W tx tr 1 xs w':=by
  obtain ⟨h1,h2⟩:=h
  refine ⟨h1.trans (.of_below (O:=OwnO u) hb) (Grows.refl _ _), ?_⟩
  rcases h2 with ⟨hj,h0,h3,h4⟩ | ⟨h0,_⟩
  · refine .inl ⟨by decide,h0,fbelow_t h3 hb,fun y hy => ?_⟩
    obtain ⟨g,e1,e2,e3⟩:=h4 y hy
    exact ⟨g,e1,e2,(hb.block g (heap_some_lt e3)).trans e3⟩
  · cases h0
theorem InsQ.rd (h:InsQ u x L' W tx tr 1 xs w) {y:Value} (hy:xs tx = some y):Below W.heap.size W w ∧ ∃ g,y = .slice (some ⟨g,0,none⟩) 1 1 ∧ W.heap.size ≤ g ∧ w.heap[g]? = some (.cells #[.int .i64 x] 3 (0,0)):=by
  rcases h.2 with ⟨_,_,h1,h2⟩ | ⟨h0,_⟩
  · exact ⟨h1,h2 y hy⟩
  · cases h0
theorem InsQ.app {v':Value} (h:InsQ u x L' W tx tr 1 xs w) (hq:RowQ inC 1 w' v' L') (hk:Kept (OwnO u) w w') (hg:Grows (OwnO u) w (OwnO v')):InsQ u x L' W tx tr 2 (fun t => if t = tr then some v' else xs t) w' :=
  ⟨h.1.trans hk (Grows.refl _ _), .inr ⟨rfl,v',by simp,hq,fun k hk' => (hg k hk').imp id (Nat.le_trans h.1.size)⟩⟩
theorem InsQ.out {v:Value} (h:InsQ u x L' W tx tr 2 xs w) (hv:xs tr = some v):Kept (OwnO u) W w ∧ RowQ inC 1 w v L' ∧ Grows (OwnO u) W (OwnO v):=by
  obtain ⟨h1,h2⟩:=h
  rcases h2 with ⟨h0,_⟩ | ⟨_,v',h3,h4,h5⟩
  · omega
  · rw [hv] at h3
    injection h3 with h3
    subst h3
    exact ⟨h1,h4,h5⟩
end
end Go.Proofs.YtimdkcchjanpaaaGreatDoor
namespace Go.Proofs.YtimdkcchjanpaaaGreatDoor
open Go.RowKit Go.Shelf
set_option linter.unusedVariables false
variable {TB:TypeId} {od:Nat} {X Y:List Value}
set_option maxRecDepth 8000 in
theorem kxput_v {w:World} {v:Value} {s:Bx} {O:Nat → Prop} (p:Pk) (h:BmD TB od X Y w v s O) (ok:s.Ok) (hT:Tabs w) (hp:p.ok):Calls Tryz.prog 143 #[v,pkV p] w fun e w' => e = .returned (.tuple #[.int .i64 (s.put p).2.1, .int .i64 (s.put p).2.2]) ∧ Stp (BmD TB od X Y) v O w (s.put p).1 w':=by
  obtain ⟨b,g,vt,ve,M,rfl,rfl,hm,hs⟩:=h
  have hb0:=(Below.refl w.heap.size w).alloc (Nat.le_refl _) (.cells #[.int .i64 p.f.i, .int .i64 p.f.n, .int .i64 p.f.l, .string p.f.d, .int .i64 p.fr, .int .i64 p.tag, .bool p.lp] 37)
  obtain ⟨w0,e0⟩:∃ w0,w.alloc (.cells #[.int .i64 p.f.i, .int .i64 p.f.n, .int .i64 p.f.l, .string p.f.d, .int .i64 p.fr, .int .i64 p.tag, .bool p.lp] 37) = w0:=⟨_,rfl⟩
  have HB0:Hid (Below w.heap.size w w0):=Lib.hid (by rw [← e0]; exact hb0)
  have HP0:Hid (BoxP w0 w.heap.size p):=Lib.hid (by rw [← e0]; exact BoxP.made w p)
  have HM:=Lib.hid hm
  have HSS:=Lib.hid hs
  have HOK:=Lib.hid ok
  have HTT:=Lib.hid hT
  have HN:=Lib.hid hp
  have HS:Hid (∀ w':World,Below w.heap.size w w' → Stp (BmD TB od X Y) (.pointer (some ⟨b,od,none⟩)) (bmO b g vt ve) w s w'):=Lib.hid (fun w' hb => ⟨_,⟨b,g,vt,ve,M,rfl,rfl,HM.out.later hb,HSS.out⟩, .of_below hb,Grows.refl _ _⟩)
  obtain ⟨q,hq⟩:∃ q,keyG p.f = q:=⟨_,rfl⟩
  have HQ:Hid (keyV p.f.i p.f.n p.f.l p.f.d.size = q):=Lib.hid hq
  have HKQ:=Lib.hid hq
  obtain ⟨d0,d1,d2,d3,d4,d5,d6⟩:=HP0.out.cells
  have HPU:Hid (s.put p = if q < 0 then (s,(0:Int),(4:Int)) else match s.first s.S.length with | some i => (s.putAt i p,(i:Int),(0:Int)) | none => (s,(0:Int),(5:Int))):=Lib.hid (by unfold Bx.put; rw [hq]; rfl)
  clear hb0 hm hs ok hT hp hq
  by_cases h3:q < 0
  · have HE:Hid (s.put p = (s,0,4)):=Lib.hid (by rw [HPU.out,if_pos h3])
    rw [HE.out]
    have d9:decide (q < 0) = true:=decide_eq_true h3
    clear h3
    go_enter Tryz.func143,Tryz.ntmps143
    go_wp2_with fail
    refine (key_v HQ.out w0 (HTT.out.below HB0.out) HN.out.1 HN.out.2).mono ?_
    rintro e w1 ⟨rfl,hb⟩
    go_wp2
    go_ret2
    exact ⟨rfl,HS.out _ (fbelow_t HB0.out hb)⟩
  have d9:decide (q < 0) = false:=decide_eq_false h3
  have HQ0:Hid (0 ≤ q):=Lib.hid (by omega)
  have HPV:Hid (s.put p = match s.first s.S.length with | some i => (s.putAt i p,(i:Int),(0:Int)) | none => (s,(0:Int),(5:Int))):=Lib.hid (by rw [HPU.out,if_neg h3])
  have HML:Hid (M.length ≤ 1000):=Lib.hid (by rw [HSS.out.len]; exact HOK.out.n2)
  clear h3 HPU
  cases hfi:s.first s.S.length with
  | none =>
    have HE:Hid (s.put p = (s,0,5)):=Lib.hid (by rw [HPV.out,hfi])
    rw [HE.out]
    have HF:=Lib.hid hfi
    clear hfi
    go_enter Tryz.func143,Tryz.ntmps143
    go_wp2_with fail
    refine (key_v HQ.out w0 (HTT.out.below HB0.out) HN.out.1 HN.out.2).mono ?_
    rintro e w1 ⟨rfl,hb⟩
    have HB1:=Lib.hid (fbelow_t HB0.out hb)
    have HM1:=Lib.hid (HM.out.later HB1.out)
    clear hb d0 d1 d2 d3 d4 d5 d6
    obtain ⟨c0,c1,c2⟩:=HM1.out.cells
    go_wp2_with fail
    refine (indexfunc_v (r := -1) HM1.out HSS.out.hS HML.out (by rw [HF.out])).mono ?_
    rintro e w2 ⟨rfl,hb⟩
    go_wp2
    go_ret2
    exact ⟨rfl,HS.out _ (fbelow_t HB1.out hb)⟩
  | some n =>
    obtain ⟨hn,h01⟩:=Bx.first_some hfi
    have hz:s.S.getD n 0 = 0:=by rw [← Bx.getD_01 hn]; exact h01
    have HE:Hid (s.put p = (s.putAt n p,(n:Int),0)):=Lib.hid (by rw [HPV.out,hfi])
    rw [HE.out]
    have HF:=Lib.hid hfi
    have HNW:Hid (BmS (M.set n (1,p)) (s.putAt n p)):=Lib.hid ⟨by rw [List.map_set,HSS.out.hS]; rfl,by rw [List.map_set,HSS.out.hP]; rfl,HSS.out.full.putAt hn hz p⟩
    obtain ⟨j1,j2,j3⟩:=plc_spec (s:=s) q
    have HTR:Hid ((s.putAt n p).trn = s.trn.take (s.plc q) ++ (n:Int) :: s.trn.drop (s.plc q) ∧ (s.putAt n p).fin = s.fin):=Lib.hid ⟨Bx.trn_put HOK.out hn hz j1 (by rw [HKQ.out]; exact j2) (by rw [HKQ.out]; exact j3),rfl⟩
    have HPL:=Lib.hid j1
    have HNL:Hid (n < M.length):=Lib.hid (by rw [HSS.out.len]; exact hn)
    have HMY:=Lib.hid (HSS.out.at_ hn)
    have HTL:Hid (s.trn.length ≤ 1000):=Lib.hid (by rw [s.trn_len]; exact HOK.out.ordLe)
    have hnl:(n:Int) < 1000:=by have:=HNL.out; have:=HML.out; omega
    clear hfi hn h01 hz j1 j2 j3 HPV
    go_enter Tryz.func143,Tryz.ntmps143
    go_wp2_with fail
    refine (key_v HQ.out w0 (HTT.out.below HB0.out) HN.out.1 HN.out.2).mono ?_
    rintro e w1 ⟨rfl,hb⟩
    have HB1:=Lib.hid (fbelow_t HB0.out hb)
    have HM1:=Lib.hid (HM.out.later HB1.out)
    have HP1:=Lib.hid (HP0.out.later hb)
    clear hb d0 d1 d2 d3 d4 d5 d6
    obtain ⟨c0,c1,c2⟩:=HM1.out.cells
    go_wp2_with fail
    refine (indexfunc_v (r:=n) HM1.out HSS.out.hS HML.out (by rw [HF.out])).mono ?_
    rintro e w2 ⟨rfl,hb⟩
    have HB2:=Lib.hid (fbelow_t HB1.out hb)
    have HM2:=Lib.hid (HM1.out.later hb)
    have HP2:=Lib.hid (HP1.out.later hb)
    have HT2:=Lib.hid (HTT.out.below HB2.out)
    clear hb c0 c1 c2 e0
    obtain ⟨c0,c1,c2⟩:=HM2.out.cells
    obtain ⟨d0,d1,d2,d3,d4,d5,d6⟩:=HP2.out.cells
    have z0:b < w2.heap.size:=HM2.out.lt b (.inl rfl)
    have n1:¬ OwnO vt b:=HM2.out.f1.1
    have zp:w.heap.size < w2.heap.size:=HP2.out.lt
    have np:¬ OwnO vt w.heap.size:=fun h => by have:=HM.out.lt _ (.inr (.inr (.inl h))); omega
    go_upto_region 8 with fail
    have hcb:∀ (r:KLater (OwnO vt) w2) (o:Nat),r.w.cell? ⟨b,o,none⟩ = w2.cell? ⟨b,o,none⟩:=fun r o => r.cell b o z0 n1
    have hcp:∀ (r:KLater (OwnO vt) w2) (o:Nat),r.w.cell? ⟨w.heap.size,o,none⟩ = w2.cell? ⟨w.heap.size,o,none⟩:=fun r o => r.cell w.heap.size o zp np
    refine wp_region_st 14 [8,11] (InsQ vt n (s.trn.take (s.plc q) ++ (n:Int) :: s.trn.drop (s.plc q)) w2 32 33) [32,33] InsQ.start (by kernel_rfl) (by kernel_rfl) (by kernel_rfl) (by kernel_rfl) (by kernel_rfl) (by kernel_rfl) (by kernel_rfl) ?_
    simp only [List.take_succ_cons,List.take_zero,List.drop_succ_cons,List.drop_zero]
    repeat (refine st_plain (fun h => h.1) (by rfl) (by rfl) (by rfl) (by rfl) (by rfl) ?_; intro K hK; go_big_quiet_op; go_big_quiet_on)
    refine st_nil (fun h => h.1) (by rfl) (by rfl) (by rfl) (by rfl) (by rfl) (by rfl) ?_; intro K hK; go_big_quiet_op; go_big_quiet_on
    repeat (refine st_plain (fun h => h.1) (by rfl) (by rfl) (by rfl) (by rfl) (by rfl) ?_; intro K hK; go_big_quiet_op; go_big_quiet_on)
    refine st_step (f:=160) (args := #[.pointer (some ⟨b,od,none⟩), .agg #[.int .i64 p.f.i, .int .i64 p.f.n, .int .i64 p.f.l, .string p.f.d]]) (v := .int .i64 (s.plc q:Nat)) 0 (by rfl) (by rfl) (by rfl) (by rfl) (by rfl) (fun w => by simp [go_sem]) (fun xs9 w9 h9 => ?_) ?_
    · have hz:=h9.zero
      refine (place_w (f:=p.f) (HM2.out.later hz) HSS.out HOK.out (HT2.out.below hz) (by rw [HKQ.out]; exact HQ0.out)).mono ?_
      rw [HKQ.out]
      rintro e w' ⟨rfl,hb⟩
      exact ⟨rfl,h9.step hb⟩
    simp only [Act.put,List.setIfInBounds_toArray,List.set_cons_succ,List.set_cons_zero]
    repeat (refine st_plain (fun h => h.1) (by rfl) (by rfl) (by rfl) (by rfl) (by rfl) ?_; intro K hK; go_big_quiet_op; go_big_quiet_on)
    refine st_new (s:=32) (mk:=fun w => .slice (some ⟨w.heap.size,0,none⟩) 1 1) (ob:=fun _ => .cells #[.int .i64 n] 3) (by rfl) (by rfl) (by rfl) (by rfl) (by rfl) (by rfl) (fun _ => by kernel_rfl) (InsQ.one (by decide)) ?_
    simp only [Act.put,List.setIfInBounds_toArray,List.set_cons_succ,List.set_cons_zero]
    refine st_stepH (s:=33) 1 (by rfl) (by rfl) (by rfl) (by rfl) (fun xs9 a9 w9 h9 hx9 hlk => ?_) ?_
    · have h26:=hlk 26 (by decide)
      have h30:=hlk 30 (by decide)
      have h32:=hlk 32 (by decide)
      rw [if_neg (by decide)] at h26
      rw [if_neg (by decide)] at h30
      rw [if_pos (by decide)] at h32
      refine ⟨159, #[a9.tmps.getD 26 undef,a9.tmps.getD 30 undef,a9.tmps.getD 32 undef],by simp [go_sem], ?_⟩
      obtain ⟨hb9,g9,e9,l9,hh9⟩:=h9.rd h32
      rw [h26,h30,e9]
      refine (sl_insert_v (HM2.out.later hb9).turn HPL.out (by have:=HTL.out; omega) hh9 (fun ho => by have:=HM2.out.lt _ (.inr (.inr (.inl ho))); omega)).mono ?_
      rintro e w' ⟨v',he,hq1,hq2,hq3⟩
      exact ⟨v',he,h9.app hq1 hq2 hq3⟩
    simp only [Act.put,List.setIfInBounds_toArray,List.set_cons_succ,List.set_cons_zero]
    refine st_nil (fun h => h.1) (by rfl) (by rfl) (by rfl) (by rfl) (by rfl) (by rfl) ?_; intro K hK; go_big_quiet_op; go_big_quiet_on
    repeat (refine st_plain (fun h => h.1) (by rfl) (by rfl) (by rfl) (by rfl) (by rfl) ?_; intro K hK; go_big_quiet_op; go_big_quiet_on)
    intro ys xs w3 hF h2
    have e33:=hF 33 (by simp)
    obtain ⟨k1',k2',k3'⟩:=InsQ.out h2 e33
    simp only [secFill]
    simp only [Act.put,List.setIfInBounds_toArray,List.set_cons_succ,List.set_cons_zero]
    generalize ys 33 = v3 at k2' k3' e33
    obtain ⟨A8,c8,h8⟩:=k2'.shape
    subst h8
    obtain ⟨q1,q2,q3⟩:=HM2.out.setTurn k2' k1' k3'
    generalize (List.take (s.plc q) s.trn ++ (n:Int) :: List.drop (s.plc q) s.trn).length = tl at *
    have b1:w3.cell? ⟨b,od + 1,none⟩ = some vt:=(k1'.cell (p:=⟨b,od + 1,none⟩) z0 n1).trans c1
    have b1f:w3.frozen? ⟨b,od + 1,none⟩ = false:=(k1'.frozen (p:=⟨b,od + 1,none⟩) z0 n1).trans (HM2.out.live (od + 1))
    obtain ⟨w4,e4⟩:∃ w4,w3.setCell ⟨b,od + 1,none⟩ (.slice A8 tl c8) = w4:=⟨_,rfl⟩
    rw [e4] at q1 q2
    have HM4:=Lib.hid q1
    have HK4:=Lib.hid ((Kept.of_below (O:=bmO b g vt ve) HB2.out).trans q2 (Grows.refl _ _))
    have HG4:Hid (Grows (bmO b g vt ve) w (bmO b g (.slice A8 tl c8) ve)):=Lib.hid (fun k hk => (q3 k hk).imp id (fun h => Nat.le_trans HB2.out.size h))
    have HP4:Hid (BoxP w4 w.heap.size p):=Lib.hid (HP2.out.kept q2 (fun h => by have:=HM.out.lt _ h; omega))
    clear q1 q2 q3 k1' k2' k3' h2 hF e33 hcb hcp c0 c1 c2 d0 d1 d2 d3 d4 d5 d6 z0 zp n1 np
    go_upto_region 9 with fail
    clear e4 b1 b1f
    obtain ⟨c0,c1,c2⟩:=HM4.out.cells
    obtain ⟨d0,d1,d2,d3,d4,d5,d6⟩:=HP4.out.cells
    obtain ⟨m0,m1,m2,m3,m4,m5,m6,m7⟩:=HM4.out.mail HMY.out
    have ml:=HM4.out.liveR
    have l2:(n:Int) < (M.length:Int):=by have:=HNL.out; omega
    have l5:(M.length:Int) ≤ 1000:=by have:=HML.out; omega
    have HW:=Lib.hid (HM4.out.setMail (i:=n) HNL.out 1 p)
    obtain ⟨wp,ep⟩:∃ wp,putM w4 g n 1 p = wp:=⟨_,rfl⟩
    rw [ep] at HW
    have hfold:(((((((w4.setCell ⟨g,n * 8,none⟩ (.int .i64 1)).setCell ⟨g,n * 8 + 1,none⟩ (.int .i64 p.f.i)).setCell ⟨g,n * 8 + 2,none⟩ (.int .i64 p.f.n)).setCell ⟨g,n * 8 + 3,none⟩ (.int .i64 p.f.l)).setCell ⟨g,n * 8 + 4,none⟩ (.string p.f.d)).setCell ⟨g,n * 8 + 5,none⟩ (.int .i64 p.fr)).setCell ⟨g,n * 8 + 6,none⟩ (.int .i64 p.tag)).setCell ⟨g,n * 8 + 7,none⟩ (.bool p.lp) = wp:=ep
    have HFIN:Hid (Stp (BmD TB od X Y) (.pointer (some ⟨b,od,none⟩)) (bmO b g vt ve) w (s.putAt n p) wp.drew):=Lib.hid (by
      refine ⟨_,⟨b,g,_,ve,M.set n (1,p),rfl,rfl, ?_,HNW.out⟩, ?_,HG4.out⟩
      · rw [HTR.out.1,HTR.out.2]
        exact HW.out.1.later (Below.refl _ _).drew
      · exact (HK4.out.trans HW.out.2 HG4.out).trans (.of_below (Below.refl _ _).drew) (Grows.refl _ _))
    clear ep
    go_region
    go_wp2
    go_ret2
    exact ⟨rfl,HFIN.out⟩
end Go.Proofs.YtimdkcchjanpaaaGreatDoor
