/- Box, the document's side: End. Box, the document's side: Take. Match: the plain numbers: filters, which words they hit, the least word that two hit. No progr .. -/
import Derived.Test.YtimdkcchjanpaaaGreatDoorZam
import Derived.Test.YtimdkcchjanpaaaGreatDoorZai
import Derived.Test.YtimdkcchjanpaaaGreatDoorZaa
import Derived.Test.YtimdkcchjanpaaaGreatDoorZac
import Derived.Test.YtimdkcchjanpaaaGreatDoorZad
import Derived.Test.YtimdkcchjanpaaaGreatDoorZag
set_option maxHeartbeats 8000000
namespace Go.Proofs.YtimdkcchjanpaaaGreatDoor
open Go.RowKit
set_option linter.unusedVariables false
def EndS (w1:World) (L:List Int) (box:Int) (k:Nat) (r:Value) (wr:World):Prop:=Below w1.heap.size w1 wr ∧ RowQ inC 1 wr r ((L.take k).filter fun x => x != box) ∧ ∀ g,OwnO r g → w1.heap.size ≤ g
theorem EndS.skip {w1 wr:World} {L:List Int} {box x:Int} {k:Nat} {r:Value} (h:EndS w1 L box k r wr) (hx:L[k]? = some x) (he:x = box):EndS w1 L box (k + 1) r wr:=by
  obtain ⟨hl,rfl⟩:=List.getElem?_eq_some_iff.1 hx
  refine ⟨h.1, ?_,h.2.2⟩
  rw [List.take_succ_eq_append_getElem hl,List.filter_append,he]
  simpa using h.2.1
theorem EndS.add {w1 wr w3:World} {L:List Int} {box x:Int} {k:Nat} {r v3:Value} {o:Obj} (h:EndS w1 L box k r wr) (hx:L[k]? = some x) (he:x ≠ box) (hq:RowQ inC 1 w3 v3 (((L.take k).filter fun x => x != box) ++ [x]))
    (hk:Kept (OwnO r) (wr.alloc o) w3) (hg:Grows (OwnO r) (wr.alloc o) (OwnO v3)):EndS w1 L box (k + 1) v3 w3:=by
  obtain ⟨hl,rfl⟩:=List.getElem?_eq_some_iff.1 hx
  have hb:Below w1.heap.size w1 (wr.alloc o):=fbelow_t h.1 ((Below.refl _ _).alloc (Nat.le_refl _) o)
  refine ⟨hk.below hb hb.size h.2.2, ?_,fun g hg' => ?_⟩
  · rw [List.take_succ_eq_append_getElem hl,List.filter_append]
    have : [L[k]].filter (fun x => x != box) = [L[k]]:=by simp [he]
    rw [this]; exact hq
  · rcases hg g hg' with h1 | h1
    · exact h.2.2 g h1
    · exact Nat.le_trans hb.size h1
theorem EndS.done {w1 wr:World} {L:List Int} {box:Int} {r:Value} {b gs gp:Nat} {vo ve:Value} {s1:Bx} (h:EndS w1 L box L.length r wr) (hm:BxM w1 b gs gp vo ve s1) (hL:s1.ord = L) :
    ∃ L7 A7 c7,L7 = L.filter (fun x => x != box) ∧ r = .slice A7 L7.length c7 ∧ BxM (wr.setCell ⟨b,2,none⟩ r) b gs gp r ve { s1 with ord:=L7 } ∧ Kept (bxO b gs gp vo ve) w1 (wr.setCell ⟨b,2,none⟩ r) ∧ Grows (bxO b gs gp vo ve) w1 (bxO b gs gp r ve):=by
  have h1:=h.2.1
  rw [List.take_length] at h1
  obtain ⟨A,c,hr⟩:=h1.shape
  exact ⟨_,A,c,rfl,hr,hm.setOrd h1 (.of_below h.1) (fun g hg => .inr (h.2.2 g hg))⟩
theorem xend_v {v:Value} {s:Bx} {O:Nat → Prop} {box st e:Int} (w:World) (h:BxD w v s O) (hk:(s.end_ box st).2 = e) (hl:s.S.length ≤ 1000) (hol:s.ord.length ≤ 1000) (hfl:s.fin.length ≤ 1000) :
    Calls Tryz.prog 91 #[v, .int .i64 box, .int .i64 st] w fun x w' => x = .returned (.int .i64 e) ∧ Stp BxD v O w (s.end_ box st).1 w':=by
  obtain ⟨b,gs,gp,vo,ve,rfl,rfl,hm⟩:=h
  have HM:=Lib.hid hm
  have HK:=Lib.hid hk
  have HOL:=Lib.hid hol
  have HFL:=Lib.hid hfl
  have hl2:(s.S.length:Int) ≤ 1000:=by omega
  have HS:Hid (Stp BxD (.pointer (some ⟨b,0,none⟩)) (bxO b gs gp vo ve) w s w):=Lib.hid ⟨_,⟨b,gs,gp,vo,ve,rfl,rfl,hm⟩,Kept.refl _ _,Grows.refl _ _⟩
  obtain ⟨c0,c1,c2,c3⟩:=hm.cells
  clear hk hol hfl
  by_cases h1:box < 0
  · have HE:Hid (s.end_ box st = (s,2)):=Lib.hid (by unfold Bx.end_; rw [if_pos (.inl h1)])
    rw [HE.out] at HK ⊢
    obtain rfl:2 = e:=HK.out
    have hd:decide (box < 0) = true:=decide_eq_true h1
    clear hm
    go_enter Tryz.func91,Tryz.ntmps91
    go_wp2
    go_ret
    exact ⟨rfl,HS.out⟩
  by_cases h2:(s.S.length:Int) ≤ box
  · have HE:Hid (s.end_ box st = (s,2)):=Lib.hid (by unfold Bx.end_; rw [if_pos (.inr (.inl h2))])
    rw [HE.out] at HK ⊢
    obtain rfl:2 = e:=HK.out
    have hd:decide (box < 0) = false:=decide_eq_false h1
    have hd2:decide ((s.S.length:Int) ≤ box) = true:=decide_eq_true h2
    clear hm
    go_enter Tryz.func91,Tryz.ntmps91
    go_wp2
    go_ret
    exact ⟨rfl,HS.out⟩
  obtain ⟨n,rfl⟩:=Int.eq_ofNat_of_zero_le (show 0 ≤ box by omega)
  have hn:n < s.S.length:=by omega
  obtain ⟨x,hx⟩:∃ x,s.S[n]? = some x:=⟨_,List.getElem?_eq_getElem hn⟩
  obtain ⟨a0,a1⟩:=hm.state hx
  have hx2:s.S.getD n 0 = x:=by rw [List.getD_eq_getElem?_getD,hx]; rfl
  have hd:decide ((n:Int) < 0) = false:=decide_eq_false h1
  have hd2:decide ((s.S.length:Int) ≤ (n:Int)) = false:=decide_eq_false h2
  by_cases h3:x = 1
  · subst h3
    have HE:Hid (s.end_ n st = (s.endAt n st,0)):=Lib.hid (by unfold Bx.end_; rw [if_neg (by rw [Int.toNat_natCast,hx2]; omega),Int.toNat_natCast])
    rw [HE.out] at HK ⊢
    obtain rfl:0 = e:=HK.out
    have HW1:=Lib.hid (hm.setState n st)
    have hbs:b < w.heap.size:=heap_some_lt hm.box
    clear hm hx hx2 h1 h2
    go_enter Tryz.func91,Tryz.ntmps91
    go_wp2_with fail
    generalize hws:w.setCell ⟨gs,n,none⟩ (.int .i64 st) = w1 at *
    clear c0 c1 c2 c3 a0 a1 hws
    go_loopw [7,8] (fun r i wr => ∃ k:Nat,k ≤ s.ord.length ∧ i = .int .i64 k ∧ Hid (EndS w1 s.ord n k r wr)) (fun _ i _ => s.ord.length - (intOf i).toNat)
    case atStart => exact ⟨0,Nat.zero_le _,rfl,Lib.hid ⟨Below.refl _ _,RowQ.nil _,fun g hg => by cases hg⟩⟩
    case round =>
      obtain ⟨k,hk,rfl,HI⟩:=hrel
      have hb1:Below w1.heap.size w1 wr:=HI.out.1
      have HMr:=Lib.hid (HW1.out.1.later hb1)
      obtain ⟨q0,q1,q2,q3⟩:=HMr.out.cells
      have hbr:=heap_some_lt HMr.out.box
      have ho:=HMr.out.ord
      obtain ⟨AO,co,hv⟩:=ho.shape
      by_cases hlt:k < s.ord.length
      · have hkl:(k:Int) < (s.ord.length:Int):=by omega
        have hkm:(k:Int) < 1000:=by have:=HOL.out; omega
        obtain ⟨x,hx⟩:∃ x,s.ord[k]? = some x:=⟨_,List.getElem?_eq_getElem hlt⟩
        obtain ⟨p,cx,hv1,hxb,hcell⟩:=SlG.at_ (ho.sl inC_len (by have:=HOL.out; unfold maxLen; show s.ord.length ≤ _; omega)) hlt
        have hx3:s.ord[k]'hlt = x:=by rw [List.getElem?_eq_getElem hlt] at hx; exact Option.some.inj hx
        have a0:wr.cell? (p.add (k * 1)) = some (.int .i64 (s.ord[k]'hlt)):=hcell 0 _ rfl
        rw [Nat.mul_one,hx3] at a0
        have hv2:vo = .slice (some p) s.ord.length cx:=hv1
        rw [hv2] at q2
        by_cases he:x = (n:Int)
        · have HR:=Lib.hid (HI.out.skip hx he)
          have e0:(x != (n:Int)) = false:=by simp [he]
          clear hx hcell hv1 hv ho
          go_wp2_with fail
          go_roundw
          case rel => exact ⟨k + 1,by omega,by go_num,HR⟩
          case measure => simp [intOf]; omega
        · have e0:(x != (n:Int)) = true:=by simp [he]
          have HHE:=Lib.hid he
          have HX:=Lib.hid hx
          have HBL:Hid (Below wr.heap.size wr (wr.alloc (.cells #[.int .i64 x] 3))):=Lib.hid ((Below.refl _ _).alloc (Nat.le_refl _) _)
          have HRQ:=Lib.hid (HI.out.2.1.later HBL.out)
          have HRD:Hid (RdA inC 1 (wr.alloc (.cells #[.int .i64 x] 3)) (.slice (some ⟨wr.heap.size,0,none⟩) 1 1) [x]):=Lib.hid (RdA.one inC_len _ _ _ rfl rfl)
          have HLN:Hid (((s.ord.take k).filter fun x => x != (n:Int)).length + [x].length ≤ 1000000):=Lib.hid (by
            have h1:=List.length_filter_le (fun x => x != (n:Int)) (s.ord.take k)
            have h2:=HOL.out
            have h3:(s.ord.take k).length ≤ s.ord.length:=List.length_take_le' _ _
            simp only [List.length_singleton]
            omega)
          clear hx hcell hv1 hv ho he
          go_wp2_with (at_builtin; refine wpList_qO (c:=inC) (M := [x]) flat_in inC_len inC_one rfl (.tmp 55) (.tmp 63) rfl (by rfl) HRQ.out (by rfl) HRD.out HLN.out ?_; rintro v3 w3 hq3 hk3 hg3; have HR:=Lib.hid (HI.out.add HX.out HHE.out hq3 hk3 hg3); clear hq3 hk3 hg3)
          go_roundw
          case rel => exact ⟨k + 1,by omega,by go_num,HR⟩
          case measure => simp [intOf]; omega
      · obtain rfl:k = s.ord.length:=by omega
        obtain ⟨L7,A7,c7,hL7,hr,r1,r2,r3⟩:=HI.out.done HW1.out.1 rfl
        subst hr
        have HL7:=Lib.hid hL7
        have f2:=HMr.out.live 2
        have HR1:=Lib.hid r1
        have HR2:=Lib.hid r2
        have HR3:=Lib.hid r3
        rw [hv] at q2
        obtain ⟨wo,hwo⟩:∃ wo,wr.setCell ⟨b,2,none⟩ (.slice A7 L7.length c7) = wo:=⟨_,rfl⟩
        rw [hwo] at HR1 HR2
        have HBL:Hid (Below wo.heap.size wo (wo.alloc (.cells #[.int .i64 (n:Int)] 3))):=Lib.hid ((Below.refl _ _).alloc (Nat.le_refl _) _)
        have HRQ:=Lib.hid (HR1.out.fin.later HBL.out)
        have HRD:Hid (RdA inC 1 (wo.alloc (.cells #[.int .i64 (n:Int)] 3)) (.slice (some ⟨wo.heap.size,0,none⟩) 1 1) [(n:Int)]):=Lib.hid (RdA.one inC_len _ _ _ rfl rfl)
        have HLN:Hid (s.fin.length + [(n:Int)].length ≤ 1000000):=Lib.hid (by have:=HFL.out; simp only [List.length_singleton]; omega)
        have hbo:b < wo.heap.size:=heap_some_lt HR1.out.box
        obtain ⟨z0,z1,z2,z3⟩:=HR1.out.cells
        have g3l:=HR1.out.live 3
        clear hL7 r1 r2 r3 ho
        go_wp2_with (at_builtin; refine wpList_qO (c:=inC) (L:=s.fin) (M := [(n:Int)]) flat_in inC_len inC_one rfl (.tmp 73) (.tmp 75) rfl (by rfl) HRQ.out (by rfl) HRD.out HLN.out ?_; rintro v3 w3 hq3 hk3 hg3; obtain ⟨g3,o3,cap3,rfl⟩:=hq3.form; have HQ3:=Lib.hid hq3; have HK3b:=Lib.hid hk3; have HG3:=Lib.hid hg3; have y0:=(hk3.cell (p:=⟨b,3,none⟩) (Nat.lt_of_lt_of_le hbo HBL.out.size) HR1.out.f2.1).trans ((HBL.out.cell (p:=⟨b,3,none⟩) hbo).trans z3); have y1:=(hk3.frozen (p:=⟨b,3,none⟩) (Nat.lt_of_lt_of_le hbo HBL.out.size) HR1.out.f2.1).trans ((HBL.out.frozen (p:=⟨b,3,none⟩) hbo).trans g3l); clear hq3 hk3 hg3)
        obtain ⟨r1,r2,r3⟩:=(HR1.out.later HBL.out).setFin HQ3.out HK3b.out HG3.out
        have HKA:Hid (Kept (bxO b gs gp vo ve) w (wo.alloc (.cells #[.int .i64 (n:Int)] 3))):=Lib.hid ((HW1.out.2.trans HR2.out (Grows.refl _ _)).trans (.of_below (O:=bxO b gs gp vo ve) HBL.out) (Grows.refl _ _))
        have HGA:Hid (Grows (bxO b gs gp vo ve) w (bxO b gs gp (.slice A7 L7.length c7) ve)):=Lib.hid (fun k hk => (HR3.out k hk).imp id (fun h => Nat.le_trans HW1.out.2.size h))
        have HD:Hid (Stp BxD (.pointer (some ⟨b,0,none⟩)) (bxO b gs gp vo ve) w (s.endAt n st) (w3.setCell ⟨b,3,none⟩ (.slice (some ⟨g3,o3,none⟩) (s.fin.length + 1) cap3))):=Lib.hid (by
          refine ⟨_,⟨b,gs,gp,_,_,rfl,rfl, ?_⟩,HKA.out.trans r2 HGA.out,HGA.out.trans r3 HKA.out.size⟩
          have:=HL7.out
          subst this
          exact r1)
        clear r1 r2 r3
        rw [hv] at HD
        go_wp2
        go_ret
        exact ⟨rfl,HD.out⟩
  · have HE:Hid (s.end_ n st = (s,2)):=Lib.hid (by unfold Bx.end_; rw [if_pos (.inr (.inr (by rw [Int.toNat_natCast,hx2]; exact h3)))])
    rw [HE.out] at HK ⊢
    obtain rfl:2 = e:=HK.out
    have e0:(x != 1) = true:=by simp [h3]
    have e1:decide (x = 1) = false:=decide_eq_false h3
    clear hm hx hx2 h1 h2
    go_enter Tryz.func91,Tryz.ntmps91
    go_wp2
    go_ret
    exact ⟨rfl,HS.out⟩
end Go.Proofs.YtimdkcchjanpaaaGreatDoor
namespace Go.Proofs.YtimdkcchjanpaaaGreatDoor
open Go.RowKit
set_option linter.unusedVariables false
theorem BxM.cutFin {w:World} {b gs gp:Nat} {vo:Value} {s:Bx} {g o cap:Nat} {x:Int} {r:List Int} (h:BxM w b gs gp vo (.slice (some ⟨g,o,none⟩) (r.length + 1) cap) s) (hf:s.fin = x :: r) :
    BxM (w.setCell ⟨b,3,none⟩ (.slice (some (if cap = 1 then ⟨g,o,none⟩ else (⟨g,o,none⟩:Addr).add 1)) r.length (cap - 1))) b gs gp vo (.slice (some (if cap = 1 then ⟨g,o,none⟩ else (⟨g,o,none⟩:Addr).add 1)) r.length (cap - 1)) { s with fin:=r } ∧
    Kept (bxO b gs gp vo (.slice (some ⟨g,o,none⟩) (r.length + 1) cap)) w (w.setCell ⟨b,3,none⟩ (.slice (some (if cap = 1 then ⟨g,o,none⟩ else (⟨g,o,none⟩:Addr).add 1)) r.length (cap - 1))) ∧
    Grows (bxO b gs gp vo (.slice (some ⟨g,o,none⟩) (r.length + 1) cap)) w (bxO b gs gp vo (.slice (some (if cap = 1 then ⟨g,o,none⟩ else (⟨g,o,none⟩:Addr).add 1)) r.length (cap - 1))):=by
  have h1:=h.fin
  rw [hf] at h1
  obtain ⟨y,hy,_,_,hq⟩:=h1.tail inC_len
  injection hy with hy
  subst hy
  refine h.setFin hq (Kept.refl _ _) (fun k hk => .inl ?_)
  split at hk
  · exact hk
  · rw [qaddr] at hk; exact hk
theorem take_done {w w8:World} {b gs gp z:Nat} {vo ve:Value} {s':Bx} {O:Nat → Prop} {p0:Pk} (p:Pk) (hk:Kept O w w8) (hz:w.heap.size ≤ z) (hm:BxM w8 b gs gp vo ve s') (hl:∀ k,bxO b gs gp vo ve k → k ≠ z)
    (hg:Grows O w (bxO b gs gp vo ve)) (hb:BoxP w8 z p0):BoxP (putB w8 z p).drew z p ∧ Stp BxD (.pointer (some ⟨b,0,none⟩)) O w s' (putB w8 z p).drew:=by
  have hP:=hb.put p
  have hO:∀ k,k ≠ z → (putB w8 z p).heap[k]? = w8.heap[k]?:=fun k h => putB_other h
  have hS:=putB_size w8 z p
  obtain ⟨r1,r2,r3⟩:=putB_rest w8 z p
  generalize putB w8 z p = W at hP hO hS r1 r2 r3 ⊢
  have hM:BxM W b gs gp vo ve s':=hm.stay (fun k hk' => hO k (hl k hk'))
  have hK:Kept O w W:=⟨r1.trans hk.os,r2.trans hk.tape,r3.trans hk.output,by rw [hS]; exact hk.size,fun k h1 h2 => (hO k (by omega)).trans (hk.block k h1 h2)⟩
  have hb:=(Below.refl W.heap.size W).drew
  exact ⟨hP.later hb,_,⟨b,gs,gp,vo,ve,rfl,rfl,hM.later hb⟩,hK.trans (.of_below (O:=O) hb) (Grows.refl _ _),hg⟩
theorem xtake_v {v:Value} {s:Bx} {O:Nat → Prop} {i:Int} {p:Pk} {is:Bool} (w:World) (h:BxD w v s O) (hok:s.Ok) (hk:s.take.2 = (i,p,is)) :
    Calls Tryz.prog 87 #[v] w fun x w' => x = .returned (.tuple #[.int .i64 i,pkV p, .bool is]) ∧ Stp BxD v O w s.take.1 w':=by
  obtain ⟨b,gs,gp,vo,ve,rfl,rfl,hm⟩:=h
  have HM:=Lib.hid hm
  have hl:=hok.n2
  have HK:=Lib.hid hk
  have hb0:=(Below.refl w.heap.size w).alloc (Nat.le_refl _) (.cells #[.int .i64 0, .int .i64 0, .int .i64 0, .string (ByteArray.mk #[]), .int .i64 0, .int .i64 0, .bool false] 37)
  have HB0:=Lib.hid hb0
  have HM0:=Lib.hid (hm.later hb0)
  have hzr:=zeroPk
  cases hf:s.fin with
  | nil =>
    obtain ⟨c0,c1,c2,c3⟩:=HM0.out.cells
    have HE:Hid (s.take = (s, -1,pk0,false)):=Lib.hid (by unfold Bx.take; rw [hf])
    have hrow:=hm.fin
    rw [hf] at hrow
    obtain ⟨A5,c5,hsh⟩:=hrow.shape
    rw [List.length_nil] at hsh
    subst hsh
    rw [HE.out] at HK ⊢
    have HS:Hid (Stp BxD (.pointer (some ⟨b,0,none⟩)) (bxO b gs gp vo (.slice A5 0 c5)) w s (w.alloc (.cells #[.int .i64 0, .int .i64 0, .int .i64 0, .string (ByteArray.mk #[]), .int .i64 0, .int .i64 0, .bool false] 37))):=Lib.hid ⟨_,⟨b,gs,gp,vo,_,rfl,rfl,HM0.out⟩, .of_below hb0,Grows.refl _ _⟩
    obtain ⟨rfl,rfl,rfl⟩ : -1 = i ∧ pk0 = p ∧ false = is:=by have e1:=HK.out; simpa using e1
    clear hm hk hb0 hok hf hrow
    go_enter Tryz.func87,Tryz.ntmps87
    go_wp2
    refine bodyPost_ret (v := .tuple #[.int .i64 (-1),pkV pk0, .bool false]) ?_ rfl ⟨rfl,HS.out⟩
    simp [results,Tryz.results87,go_sem,pk0]
  | cons x r =>
    obtain ⟨h1,h2,h3⟩:=hok.fin x (by rw [hf]; simp)
    have hrl:r.length ≤ 1000:=by have:=hok.finLe; rw [hf,List.length_cons] at this; omega
    obtain ⟨n,rfl⟩:=Int.eq_ofNat_of_zero_le h1
    rw [Int.toNat_natCast] at h3
    have hn:n < s.S.length:=by omega
    obtain ⟨st,hst⟩:∃ st,s.S[n]? = some st:=⟨_,List.getElem?_eq_getElem hn⟩
    have hnP:n < s.P.length:=by rw [hm.len]; exact hn
    obtain ⟨pp,hpp⟩:∃ pp,s.P[n]? = some pp:=⟨_,List.getElem?_eq_getElem hnP⟩
    have HE:Hid (s.take = ({ s with S:=s.S.set n 0,P:=s.P.set n pk0,fin:=r },(n:Int),pp,st == 2)):=Lib.hid (by
      unfold Bx.take; rw [hf]
      simp only [Int.toNat_natCast,List.getD_eq_getElem?_getD,hst,hpp,Option.getD_some])
    rw [HE.out] at HK ⊢
    obtain ⟨rfl,rfl,rfl⟩:(n:Int) = i ∧ pp = p ∧ (st == 2) = is:=by have e1:=HK.out; simpa using e1
    have hrow:=hm.fin
    rw [hf] at hrow
    obtain ⟨g,o,cap,hsh,hcap,_⟩:=hrow.head
    subst hsh
    have hrow0:=hrow
    have x0:w.cell? ⟨g,o,none⟩ = some (.int .i64 n):=by
      rcases hrow0 with ⟨h0,_⟩ | ⟨g',o',cap',hv,q1,q2,q3,q4,q5⟩
      · cases h0
      · injection hv with hA _ _
        injection hA with hA
        injection hA with e1 e2
        subst e1 e2
        exact q4 0 _ rfl
    have hgz:g < w.heap.size:=hm.fin.lt g rfl
    have HC:=Lib.hid (hm.cutFin hf)
    have f3:=hm.live 3
    obtain ⟨c0,c1,c2,c3⟩:=hm.cells
    have hpos:((r.length:Int) + 1 == 0) = false:=by simp; omega
    have hpos2:(0:Int) < (r.length:Int) + 1:=by omega
    have hbz:b < w.heap.size:=heap_some_lt hm.box
    have HKV:Hid (0 = 0):=Lib.hid rfl
    clear hm hk hb0 hok hf hrow hrow0 h3
    go_enter Tryz.func87,Tryz.ntmps87
    by_cases hc1:cap = 1
    · subst hc1
      rw [if_pos rfl] at HC
      obtain rfl:r = []:=List.eq_nil_of_length_eq_zero (by omega)
      simp only [List.length_nil,Nat.sub_self] at HC
      go_wp2_with fail
      obtain ⟨w5,hw5⟩:∃ w5,w.setCell ⟨b,3,none⟩ (.slice (some ⟨g,o,none⟩) 0 0) = w5:=⟨_,rfl⟩
      rw [hw5] at HC ⊢
      have HB5:=Lib.hid ((Below.refl w5.heap.size w5).alloc (Nat.le_refl _) (.cells #[.int .i64 0, .int .i64 0, .int .i64 0, .string (ByteArray.mk #[]), .int .i64 0, .int .i64 0, .bool false] 37))
      have HM5:=Lib.hid (HC.out.1.later HB5.out)
      have hz5:w5.heap.size = w.heap.size:=by rw [← hw5]; simp [World.setCell]
      clear hw5 c0 c1 c2 c3 x0 f3
      obtain ⟨c0,c1,c2,c3⟩:=HM5.out.cells
      have a0:=(HM5.out.state (i:=n) hst).1
      have m0:=HM5.out.packet hpp 0 _ rfl
      rw [Nat.add_zero] at m0
      have m1:=HM5.out.packet hpp 1 _ rfl
      have m2:=HM5.out.packet hpp 2 _ rfl
      have m3:=HM5.out.packet hpp 3 _ rfl
      have m4:=HM5.out.packet hpp 4 _ rfl
      have m5:=HM5.out.packet hpp 5 _ rfl
      have m6:=HM5.out.packet hpp 6 _ rfl
      rw [← hz5]
      generalize hwz:w5.alloc (.cells #[.int .i64 0, .int .i64 0, .int .i64 0, .string (ByteArray.mk #[]), .int .i64 0, .int .i64 0, .bool false] 37) = wz at *
      have hbz1:b < wz.heap.size:=heap_some_lt HM5.out.box
      have hbz2:gs < wz.heap.size:=heap_some_lt HM5.out.st
      have hbz3:gp < wz.heap.size:=heap_some_lt HM5.out.pk
      go_region
      obtain ⟨w6,hw6⟩:∃ w6,(wz.alloc (.cells #[.int .i64 pp.f.i, .int .i64 pp.f.n, .int .i64 pp.f.l, .string pp.f.d, .int .i64 pp.fr, .int .i64 pp.tag, .bool pp.lp] 37)).drew = w6:=⟨_,rfl⟩
      have HB6:Hid (Below wz.heap.size wz w6):=Lib.hid (by rw [← hw6]; exact ((Below.refl _ _).alloc (Nat.le_refl _) _).drew)
      have HP6:Hid (BoxP w6 wz.heap.size pp):=Lib.hid (by rw [← hw6]; exact BoxP.made wz pp)
      have HZ6:Hid (BoxP w6 w5.heap.size pk0):=Lib.hid (by
        have h1:BoxP wz w5.heap.size pk0:=by rw [← hwz]; exact BoxP.made w5 pk0
        exact h1.later HB6.out)
      have HM6:=Lib.hid (HM5.out.later HB6.out)
      have hzw:w5.heap.size < wz.heap.size:=by rw [← hwz]; simp
      rw [hw6]
      clear hw6 c0 c1 c2 c3 a0 m0 m1 m2 m3 m4 m5 m6 hwz
      obtain ⟨c0,c1,c2,c3⟩:=HM6.out.cells
      obtain ⟨a0,a1⟩:=HM6.out.state (i:=n) hst
      have HS7:=Lib.hid (HM6.out.setState n 0)
      have hn1:¬ wz.heap.size = gs:=by omega
      have hn2:¬ wz.heap.size = gp:=by omega
      have hn3:¬ w5.heap.size = gs:=fun e => by have:=heap_some_lt HC.out.1.st; omega
      have hn4:¬ w5.heap.size = gp:=fun e => by have:=heap_some_lt HC.out.1.pk; omega
      obtain ⟨w7,hw7⟩:∃ w7,w6.setCell ⟨gs,n,none⟩ (.int .i64 0) = w7:=⟨_,rfl⟩
      rw [hw7] at HS7
      obtain ⟨q0,q1,q2,q3⟩:=HS7.out.1.cells
      simp only [List.length_set] at q0 q1
      have m0:=HS7.out.1.packet (i:=n) hpp 0 _ rfl
      rw [Nat.add_zero] at m0
      have m1:=HS7.out.1.packet (i:=n) hpp 1 _ rfl
      have m2:=HS7.out.1.packet (i:=n) hpp 2 _ rfl
      have m3:=HS7.out.1.packet (i:=n) hpp 3 _ rfl
      have m4:=HS7.out.1.packet (i:=n) hpp 4 _ rfl
      have m5:=HS7.out.1.packet (i:=n) hpp 5 _ rfl
      have m6:=HS7.out.1.packet (i:=n) hpp 6 _ rfl
      have ml:∀ j,w7.frozen? ⟨gp,j,none⟩ = false:=fun j => Lib.frozen_of_heap HS7.out.1.pk j
      have HS8:=Lib.hid (HS7.out.1.setPacket (i:=n) hnP pk0)
      obtain ⟨w8,hw8⟩:∃ w8,putP w7 gp n pk0 = w8:=⟨_,rfl⟩
      have HP8:Hid (BoxP w8 wz.heap.size pp):=Lib.hid (by
        have h1:w8.heap[wz.heap.size]? = w7.heap[wz.heap.size]?:=by rw [← hw8]; exact putP_other hn2
        have h2:w7.heap[wz.heap.size]? = w6.heap[wz.heap.size]?:=by rw [← hw7]; exact Below.heap_setCell _ _ _ _ hn1
        exact (h1.trans h2).trans HP6.out)
      have HZ8:Hid (BoxP w8 w5.heap.size pk0):=Lib.hid (by
        have h1:w8.heap[w5.heap.size]? = w7.heap[w5.heap.size]?:=by rw [← hw8]; exact putP_other hn4
        have h2:w7.heap[w5.heap.size]? = w6.heap[w5.heap.size]?:=by rw [← hw7]; exact Below.heap_setCell _ _ _ _ hn3
        exact (h1.trans h2).trans HZ6.out)
      have HK8:Hid (Kept (bxO b gs gp vo (.slice (some ⟨g,o,none⟩) (0 + 1) 1)) w w8):=Lib.hid (by
        rw [← hw8]
        exact ((((HC.out.2.1.trans (.of_below (O:=bxO b gs gp vo (.slice (some ⟨g,o,none⟩) 0 0)) HB5.out) HC.out.2.2).trans (.of_below (O:=bxO b gs gp vo (.slice (some ⟨g,o,none⟩) 0 0)) HB6.out) HC.out.2.2).trans HS7.out.2 HC.out.2.2).trans HS8.out.2 HC.out.2.2))
      have HWP:=Lib.hid hw8
      rw [hw8] at HS8
      have hfold:((((((w7.setCell ⟨gp,n * 7,none⟩ (.int .i64 0)).setCell ⟨gp,n * 7 + 1,none⟩ (.int .i64 0)).setCell ⟨gp,n * 7 + 2,none⟩ (.int .i64 0)).setCell ⟨gp,n * 7 + 3,none⟩ (.string (ByteArray.mk #[]))).setCell ⟨gp,n * 7 + 4,none⟩ (.int .i64 0)).setCell ⟨gp,n * 7 + 5,none⟩ (.int .i64 0)).setCell ⟨gp,n * 7 + 6,none⟩ (.bool false) = w8:=HWP.out
      rw [hz5] at HZ8
      have HI9:Hid (w.heap.size < w8.heap.size ∧ w5.heap.size = w.heap.size):=Lib.hid ⟨HZ8.out.lt,hz5⟩
      clear hw8
      go_wp2_with fail
      clear c0 c1 c2 c3 a0 a1 q0 q1 q2 q3 m0 m1 m2 m3 m4 m5 m6 ml hfold hw7
      obtain ⟨d0,d1,d2,d3,d4,d5,d6⟩:=HP8.out.cells
      obtain ⟨e0,e1,e2,e3,e4,e5,e6⟩:=HZ8.out.cells
      have fl:∀ j,w8.frozen? ⟨w.heap.size,j,none⟩ = false:=fun j => Lib.frozen_of_heap HZ8.out j
      have hne:¬ wz.heap.size = w.heap.size:=by omega
      go_region
      all_goals (
        have HTD:=Lib.hid (take_done pp HK8.out (Nat.le_refl _) HS8.out.1 (fun k hk => Nat.ne_of_lt (by have:=HC.out.1.lt k hk; have:=HI9.out.2; omega)) HC.out.2.2 HZ8.out)
        obtain ⟨r0,r1,r2,r3,r4,r5,r6⟩:=HTD.out.1.cells
        unfold putB at r0 r1 r2 r3 r4 r5 r6
        go_wp2
        refine bodyPost_ret (v := .tuple #[.int .i64 (n:Int),pkV pp, .bool (st == 2)]) ?_ rfl ⟨rfl,HTD.out.2⟩
        simp [results,Tryz.results87,go_sem,r0,r1,r2,r3,r4,r5,r6])
    · rw [if_neg hc1,qaddr] at HC
      go_wp2_with fail
      obtain ⟨w5,hw5⟩:∃ w5,w.setCell ⟨b,3,none⟩ (.slice (some ⟨g,o + 1,none⟩) r.length (cap - 1)) = w5:=⟨_,rfl⟩
      rw [hw5] at HC ⊢
      have HB5:=Lib.hid ((Below.refl w5.heap.size w5).alloc (Nat.le_refl _) (.cells #[.int .i64 0, .int .i64 0, .int .i64 0, .string (ByteArray.mk #[]), .int .i64 0, .int .i64 0, .bool false] 37))
      have HM5:=Lib.hid (HC.out.1.later HB5.out)
      have hz5:w5.heap.size = w.heap.size:=by rw [← hw5]; simp [World.setCell]
      clear hw5 c0 c1 c2 c3 x0 f3
      obtain ⟨c0,c1,c2,c3⟩:=HM5.out.cells
      have a0:=(HM5.out.state (i:=n) hst).1
      have m0:=HM5.out.packet hpp 0 _ rfl
      rw [Nat.add_zero] at m0
      have m1:=HM5.out.packet hpp 1 _ rfl
      have m2:=HM5.out.packet hpp 2 _ rfl
      have m3:=HM5.out.packet hpp 3 _ rfl
      have m4:=HM5.out.packet hpp 4 _ rfl
      have m5:=HM5.out.packet hpp 5 _ rfl
      have m6:=HM5.out.packet hpp 6 _ rfl
      rw [← hz5]
      generalize hwz:w5.alloc (.cells #[.int .i64 0, .int .i64 0, .int .i64 0, .string (ByteArray.mk #[]), .int .i64 0, .int .i64 0, .bool false] 37) = wz at *
      have hbz1:b < wz.heap.size:=heap_some_lt HM5.out.box
      have hbz2:gs < wz.heap.size:=heap_some_lt HM5.out.st
      have hbz3:gp < wz.heap.size:=heap_some_lt HM5.out.pk
      go_region
      obtain ⟨w6,hw6⟩:∃ w6,(wz.alloc (.cells #[.int .i64 pp.f.i, .int .i64 pp.f.n, .int .i64 pp.f.l, .string pp.f.d, .int .i64 pp.fr, .int .i64 pp.tag, .bool pp.lp] 37)).drew = w6:=⟨_,rfl⟩
      have HB6:Hid (Below wz.heap.size wz w6):=Lib.hid (by rw [← hw6]; exact ((Below.refl _ _).alloc (Nat.le_refl _) _).drew)
      have HP6:Hid (BoxP w6 wz.heap.size pp):=Lib.hid (by rw [← hw6]; exact BoxP.made wz pp)
      have HZ6:Hid (BoxP w6 w5.heap.size pk0):=Lib.hid (by
        have h1:BoxP wz w5.heap.size pk0:=by rw [← hwz]; exact BoxP.made w5 pk0
        exact h1.later HB6.out)
      have HM6:=Lib.hid (HM5.out.later HB6.out)
      have hzw:w5.heap.size < wz.heap.size:=by rw [← hwz]; simp
      rw [hw6]
      clear hw6 c0 c1 c2 c3 a0 m0 m1 m2 m3 m4 m5 m6 hwz
      obtain ⟨c0,c1,c2,c3⟩:=HM6.out.cells
      obtain ⟨a0,a1⟩:=HM6.out.state (i:=n) hst
      have HS7:=Lib.hid (HM6.out.setState n 0)
      have hn1:¬ wz.heap.size = gs:=by omega
      have hn2:¬ wz.heap.size = gp:=by omega
      have hn3:¬ w5.heap.size = gs:=fun e => by have:=heap_some_lt HC.out.1.st; omega
      have hn4:¬ w5.heap.size = gp:=fun e => by have:=heap_some_lt HC.out.1.pk; omega
      obtain ⟨w7,hw7⟩:∃ w7,w6.setCell ⟨gs,n,none⟩ (.int .i64 0) = w7:=⟨_,rfl⟩
      rw [hw7] at HS7
      obtain ⟨q0,q1,q2,q3⟩:=HS7.out.1.cells
      simp only [List.length_set] at q0 q1
      have m0:=HS7.out.1.packet (i:=n) hpp 0 _ rfl
      rw [Nat.add_zero] at m0
      have m1:=HS7.out.1.packet (i:=n) hpp 1 _ rfl
      have m2:=HS7.out.1.packet (i:=n) hpp 2 _ rfl
      have m3:=HS7.out.1.packet (i:=n) hpp 3 _ rfl
      have m4:=HS7.out.1.packet (i:=n) hpp 4 _ rfl
      have m5:=HS7.out.1.packet (i:=n) hpp 5 _ rfl
      have m6:=HS7.out.1.packet (i:=n) hpp 6 _ rfl
      have ml:∀ j,w7.frozen? ⟨gp,j,none⟩ = false:=fun j => Lib.frozen_of_heap HS7.out.1.pk j
      have HS8:=Lib.hid (HS7.out.1.setPacket (i:=n) hnP pk0)
      obtain ⟨w8,hw8⟩:∃ w8,putP w7 gp n pk0 = w8:=⟨_,rfl⟩
      have HP8:Hid (BoxP w8 wz.heap.size pp):=Lib.hid (by
        have h1:w8.heap[wz.heap.size]? = w7.heap[wz.heap.size]?:=by rw [← hw8]; exact putP_other hn2
        have h2:w7.heap[wz.heap.size]? = w6.heap[wz.heap.size]?:=by rw [← hw7]; exact Below.heap_setCell _ _ _ _ hn1
        exact (h1.trans h2).trans HP6.out)
      have HZ8:Hid (BoxP w8 w5.heap.size pk0):=Lib.hid (by
        have h1:w8.heap[w5.heap.size]? = w7.heap[w5.heap.size]?:=by rw [← hw8]; exact putP_other hn4
        have h2:w7.heap[w5.heap.size]? = w6.heap[w5.heap.size]?:=by rw [← hw7]; exact Below.heap_setCell _ _ _ _ hn3
        exact (h1.trans h2).trans HZ6.out)
      have HK8:Hid (Kept (bxO b gs gp vo (.slice (some ⟨g,o,none⟩) (r.length + 1) cap)) w w8):=Lib.hid (by
        rw [← hw8]
        exact ((((HC.out.2.1.trans (.of_below (O:=bxO b gs gp vo (.slice (some ⟨g,o + 1,none⟩) r.length (cap - 1))) HB5.out) HC.out.2.2).trans (.of_below (O:=bxO b gs gp vo (.slice (some ⟨g,o + 1,none⟩) r.length (cap - 1))) HB6.out) HC.out.2.2).trans HS7.out.2 HC.out.2.2).trans HS8.out.2 HC.out.2.2))
      have HWP:=Lib.hid hw8
      rw [hw8] at HS8
      have hfold:((((((w7.setCell ⟨gp,n * 7,none⟩ (.int .i64 0)).setCell ⟨gp,n * 7 + 1,none⟩ (.int .i64 0)).setCell ⟨gp,n * 7 + 2,none⟩ (.int .i64 0)).setCell ⟨gp,n * 7 + 3,none⟩ (.string (ByteArray.mk #[]))).setCell ⟨gp,n * 7 + 4,none⟩ (.int .i64 0)).setCell ⟨gp,n * 7 + 5,none⟩ (.int .i64 0)).setCell ⟨gp,n * 7 + 6,none⟩ (.bool false) = w8:=HWP.out
      rw [hz5] at HZ8
      have HI9:Hid (w.heap.size < w8.heap.size ∧ w5.heap.size = w.heap.size):=Lib.hid ⟨HZ8.out.lt,hz5⟩
      clear hw8
      go_wp2_with fail
      clear c0 c1 c2 c3 a0 a1 q0 q1 q2 q3 m0 m1 m2 m3 m4 m5 m6 ml hfold hw7
      obtain ⟨d0,d1,d2,d3,d4,d5,d6⟩:=HP8.out.cells
      obtain ⟨e0,e1,e2,e3,e4,e5,e6⟩:=HZ8.out.cells
      have fl:∀ j,w8.frozen? ⟨w.heap.size,j,none⟩ = false:=fun j => Lib.frozen_of_heap HZ8.out j
      have hne:¬ wz.heap.size = w.heap.size:=by omega
      go_region
      all_goals (
        have HTD:=Lib.hid (take_done pp HK8.out (Nat.le_refl _) HS8.out.1 (fun k hk => Nat.ne_of_lt (by have:=HC.out.1.lt k hk; have:=HI9.out.2; omega)) HC.out.2.2 HZ8.out)
        obtain ⟨r0,r1,r2,r3,r4,r5,r6⟩:=HTD.out.1.cells
        unfold putB at r0 r1 r2 r3 r4 r5 r6
        go_wp2
        refine bodyPost_ret (v := .tuple #[.int .i64 (n:Int),pkV pp, .bool (st == 2)]) ?_ rfl ⟨rfl,HTD.out.2⟩
        simp [results,Tryz.results87,go_sem,r0,r1,r2,r3,r4,r5,r6])
end Go.Proofs.YtimdkcchjanpaaaGreatDoor
namespace Go.Proofs.YtimdkcchjanpaaaGreatDoor
open Go.RowKit
set_option linter.unusedVariables false
structure Flt where
  i:Nat
  m:Nat
  v:Bool
def hitN (f:Flt) (w:Nat):Bool:=(((w ^^^ f.i) &&& f.m) == 0) != f.v
def SameN (f:Flt) (w:Nat):Prop := ∀ k,f.m.testBit k = true → w.testBit k = f.i.testBit k
theorem same_iff (f:Flt) (w:Nat):((((w ^^^ f.i) &&& f.m) == 0) = true) ↔ SameN f w:=by
  rw [beq_iff_eq]
  constructor
  · intro h k hk
    have:((w ^^^ f.i) &&& f.m).testBit k = false:=by rw [h]; exact Nat.zero_testBit k
    rw [Nat.testBit_and,Nat.testBit_xor,hk,Bool.and_true] at this
    revert this
    cases w.testBit k <;> cases f.i.testBit k <;> simp
  · intro h
    apply Nat.eq_of_testBit_eq
    intro k
    rw [Nat.testBit_and,Nat.testBit_xor,Nat.zero_testBit]
    cases hk:f.m.testBit k
    · simp
    · rw [h k hk]; simp
theorem bit_lt {u k:Nat} (hu:u < 4294967296) (hk:u.testBit k = true):k < 32:=by
  apply Decidable.byContradiction
  intro h
  have:2 ^ 32 ≤ 2 ^ k:=Nat.pow_le_pow_right (by decide) (by omega)
  have h2:=Nat.ge_two_pow_of_testBit hk
  omega
end Go.Proofs.YtimdkcchjanpaaaGreatDoor
namespace Go.Proofs.YtimdkcchjanpaaaGreatDoor
open Go.RowKit
set_option linter.unusedVariables false
theorem u32_nat (a:Nat) (ha:a < 4294967296):(BitVec.ofInt 32 (a:Int)).toNat = a:=by rw [BitVec.ofInt_natCast,BitVec.toNat_ofNat]; exact Nat.mod_eq_of_lt (by omega)
theorem u32_xor (a b:Nat) (ha:a < 4294967296) (hb:b < 4294967296):bits .xor .u32 (a:Int) (b:Int) = ((a ^^^ b:Nat):Int):=by
  show IntKind.u32.wrap (((BitVec.ofInt 32 (a:Int)) ^^^ (BitVec.ofInt 32 (b:Int))).toNat:Int) = _
  have:=Nat.xor_lt_two_pow (n:=32) ha hb
  rw [BitVec.toNat_xor,u32_nat a ha,u32_nat b hb,IntKind.wrap_u32]
  omega
theorem u32_and (a b:Nat) (ha:a < 4294967296) (hb:b < 4294967296):bits .and .u32 (a:Int) (b:Int) = ((a &&& b:Nat):Int):=by
  show IntKind.u32.wrap (((BitVec.ofInt 32 (a:Int)) &&& (BitVec.ofInt 32 (b:Int))).toNat:Int) = _
  have:=Nat.and_lt_two_pow (n:=32) a hb
  rw [BitVec.toNat_and,u32_nat a ha,u32_nat b hb,IntKind.wrap_u32]
  omega
def Flt.fits (f:Flt):Prop:=f.i < 4294967296 ∧ f.m < 4294967296
def flC (f:Flt):List Value := [.int .u32 f.i, .int .u32 f.m, .bool f.v]
theorem flC_len (f:Flt):(flC f).length = 3:=rfl
abbrev SlL (w:World) (B:Nat) (v:Value) (L:List Flt):Prop:=SlG flC 3 w B v L
theorem mhit_v {f:Flt} {u:Nat} {q:Bool} (h:hitN f u = q) (hf:f.fits) (hu:u < 4294967296) (w:World) :
    Calls Tryz.prog 154 #[.agg #[.int .u32 f.i, .int .u32 f.m, .bool f.v], .int .u32 u] w fun e w' => e = .returned (.bool q) ∧ Below w.heap.size w w':=by
  have H:=Lib.hid h
  obtain ⟨h1,h2⟩:=hf
  have e1:=u32_xor u f.i hu h1
  have e2:=u32_and (u ^^^ f.i) f.m (Nat.xor_lt_two_pow (n:=32) hu h1) h2
  have H2:=Lib.hid (And.intro hu (And.intro h1 h2))
  clear h h1 h2 hu
  go_enter Tryz.func154,Tryz.ntmps154
  go_wp2
  go_ret
  exact ⟨fret_bool (by rw [← H.out]; unfold hitN; rw [Bool.eq_iff_iff]; cases f.v <;> simp <;> omega),(Below.refl _ _).alloc (Nat.le_refl _) _⟩
def cntN (L:List Flt) (u:Nat):Nat:=(L.filter fun f => hitN f u).length
theorem cntN_snoc (L:List Flt) (f:Flt) (u:Nat):cntN (L ++ [f]) u = cntN L u + (if hitN f u then 1 else 0):=by
  unfold cntN
  rw [List.filter_append,List.length_append]
  cases h:hitN f u <;> simp [h]
theorem cntN_le (L:List Flt) (u:Nat):cntN L u ≤ L.length:=List.length_filter_le _ _
theorem hits_any {L:List Flt} {v:Value} {u:Nat} (w:World) (h:SlL w w.heap.size v L) (hfit:∀ f ∈ L,f.fits) (hu:u < 4294967296) :
    Calls Tryz.prog 140 #[.int .u32 u,v] w fun e w' => e = .returned (.int .i64 (cntN L u)) ∧ Below w.heap.size w w':=by
  have H:=Lib.hid h
  have HF:=Lib.hid hfit
  have HU:=Lib.hid hu
  obtain ⟨A,cap,rfl,hm,_⟩:=h
  unfold maxLen at hm
  clear hfit hu
  go_enter Tryz.func140,Tryz.ntmps140
  go_wp2_with fail
  go_loopw [5,10] (fun n i wr => ∃ k:Nat,k ≤ L.length ∧ i = .int .i64 k ∧ n = .int .i64 (cntN (L.take k) u) ∧ Below w.heap.size w wr) (fun _ i _ => L.length - (intOf i).toNat)
  case atStart => exact ⟨0,by omega,rfl,rfl,Below.refl _ _⟩
  case round =>
    obtain ⟨k,hk,rfl,rfl,hbw⟩:=hrel
    have HBW:=Lib.hid hbw
    clear hbw
    by_cases hlt:k < L.length
    · obtain ⟨x,cap1,hv,hxb,hcell⟩:=(H.out.later HBW.out).at_ hlt
      injection hv with hA hn hc
      subst hA hc
      have a0:wr.cell? (x.add (k * 3)) = some (.int .u32 (L[k]'hlt).i):=hcell 0 _ rfl
      have a1:wr.cell? ⟨(x.add (k * 3)).block,(x.add (k * 3)).off + 1,none⟩ = some (.int .u32 (L[k]'hlt).m):=hcell 1 _ rfl
      have a2:wr.cell? ⟨(x.add (k * 3)).block,(x.add (k * 3)).off + 2,none⟩ = some (.bool (L[k]'hlt).v):=hcell 2 _ rfl
      have hk1:(k:Int) < (L.length:Int):=by omega
      have hk0:(0:Int) ≤ (k:Int):=by omega
      have HFi:Hid ((L[k]'hlt).fits):=Lib.hid (HF.out _ (List.getElem_mem hlt))
      have HS:Hid (cntN (L.take (k + 1)) u = cntN (L.take k) u + (if hitN (L[k]'hlt) u then 1 else 0)):=Lib.hid (by rw [List.take_succ_eq_append_getElem hlt,cntN_snoc])
      have hcl:=cntN_le (L.take k) u
      have HCL:cntN (L.take k) u < 9223372036854775807:=by have:=List.length_take_le k L; omega
      clear hcell hxb hcl
      generalize L[k]'hlt = f at a0 a1 a2 HFi HS
      generalize hq:hitN f u = q at HS
      have HQ:=Lib.hid hq
      clear hq
      go_wp2_with fail
      refine (mhit_v HQ.out HFi.out HU.out _).mono ?_
      rintro e w2 ⟨rfl,hb2⟩
      have hB2:=Lib.hid (fbelow_t (Below.allocL HBW.out _) hb2)
      clear hb2
      cases q
      · go_wp2
        go_roundw
        case rel => exact ⟨k + 1,by omega,by go_num,by rw [HS.out]; go_num,hB2.out⟩
        case measure => simp [intOf]; omega
      · go_wp2
        go_roundw
        case rel => exact ⟨k + 1,by omega,by go_num,by rw [HS.out]; go_num,hB2.out⟩
        case measure => simp [intOf]; omega
    · obtain rfl:k = L.length:=by omega
      rw [List.take_length]
      go_wp2
      go_ret
      exact ⟨rfl,HBW.out⟩
end Go.Proofs.YtimdkcchjanpaaaGreatDoor
namespace Go.Proofs.YtimdkcchjanpaaaGreatDoor
open Go.RowKit
set_option linter.unusedVariables false
structure Ct where
  bx:Bx
  fifo:List Fr
  room:Int
  va:Value
  acc:List Flt
  lost:Int
  asks:Int
structure CtM (w:World) (b:Nat) (bv:Value) (Ob:Nat → Prop) (vf:Value) (s:Ct):Prop where
  box:w.heap[b]? = some (.cells #[bv,vf, .int .i64 s.room,s.va, .int .i64 s.lost, .int .i64 s.asks] 143 (0,0))
  bx:BxD w bv s.bx Ob
  fifo:RowQ frC 4 w vf s.fifo
  h1:¬ Ob b
  h2:¬ OwnO vf b
  h3:Apart Ob (OwnO vf)
def ctO (b:Nat) (Ob:Nat → Prop) (vf:Value):Nat → Prop:=fun k => k = b ∨ Ob k ∨ OwnO vf k
def CtD (w:World) (v:Value) (s:Ct) (O:Nat → Prop):Prop := ∃ b bv Ob vf,v = .pointer (some ⟨b,0,none⟩) ∧ O = ctO b Ob vf ∧ CtM w b bv Ob vf s
section
variable {w w':World} {b:Nat} {bv vf:Value} {Ob:Nat → Prop} {s:Ct}
theorem CtM.lt (h:CtM w b bv Ob vf s):∀ k,ctO b Ob vf k → k < w.heap.size:=by
  rintro k (rfl | hk | hk)
  · exact heap_some_lt h.box
  · exact isObj_box.lt h.bx k hk
  · exact h.fifo.lt k hk
theorem CtM.stay (h:CtM w b bv Ob vf s) (hs:∀ k,ctO b Ob vf k → w'.heap[k]? = w.heap[k]?):CtM w' b bv Ob vf s:=by
  have hz:∀ k,ctO b Ob vf k → k < w'.heap.size:=fun k hk => by
    have h1:=hs k hk
    have h2:=h.lt k hk
    rw [Array.getElem?_eq_getElem h2] at h1
    exact heap_some_lt h1
  exact ⟨(hs b (.inl rfl)).trans h.box,isObj_box.stay h.bx (fun k hk => hs k (.inr (.inl hk))),h.fifo.stayL (fun k hk => hs k (.inr (.inr hk))) (fun k hk => hz k (.inr (.inr hk))),h.h1,h.h2,h.h3⟩
theorem CtM.later (h:CtM w b bv Ob vf s) (hb:Below w.heap.size w w'):CtM w' b bv Ob vf s:=h.stay (fun k hk => hb.block k (h.lt k hk))
theorem isObj_ct:IsObj CtD where
  stay:=by
    rintro w w' v s O ⟨b,bv,Ob,vf,rfl,rfl,h⟩ hs
    exact ⟨b,bv,Ob,vf,rfl,rfl,h.stay hs⟩
  lt:=by
    rintro w v s O ⟨b,bv,Ob,vf,rfl,rfl,h⟩
    exact h.lt
theorem CtM.cells (h:CtM w b bv Ob vf s):w.cell? ⟨b,0,none⟩ = some bv ∧ w.cell? ⟨b,1,none⟩ = some vf ∧ w.cell? ⟨b,2,none⟩ = some (.int .i64 s.room) ∧ w.cell? ⟨b,3,none⟩ = some s.va ∧ w.cell? ⟨b,4,none⟩ = some (.int .i64 s.lost) ∧ w.cell? ⟨b,5,none⟩ = some (.int .i64 s.asks):=by
  have hb:=h.box
  refine ⟨?_, ?_, ?_, ?_, ?_, ?_⟩ <;> (rw [Lib.cell_of_heap hb]; rfl)
theorem CtM.live (h:CtM w b bv Ob vf s) (j:Nat):w.frozen? ⟨b,j,none⟩ = false:=Lib.frozen_of_heap h.box j
theorem CtM.stp (h:CtM w b bv Ob vf s) (hb:Below w.heap.size w w'):Stp CtD (.pointer (some ⟨b,0,none⟩)) (ctO b Ob vf) w s w':=⟨_,⟨b,bv,Ob,vf,rfl,rfl,h.later hb⟩, .of_below hb,Grows.refl _ _⟩
theorem CtM.setNum {s':Ct} (h:CtM w b bv Ob vf s) (j:Nat) (u:Value)
    (hc:(#[bv,vf, .int .i64 s.room,s.va, .int .i64 s.lost, .int .i64 s.asks]:Array Value).setIfInBounds j u = #[bv,vf, .int .i64 s'.room,s'.va, .int .i64 s'.lost, .int .i64 s'.asks]) (hB:s'.bx = s.bx) (hF:s'.fifo = s.fifo) :
    CtM (w.setCell ⟨b,j,none⟩ u) b bv Ob vf s':=by
  have ho:∀ k,k ≠ b → (w.setCell ⟨b,j,none⟩ u).heap[k]? = w.heap[k]?:=fun k hk => Below.heap_setCell _ _ _ _ hk
  have hz:w.heap.size ≤ (w.setCell ⟨b,j,none⟩ u).heap.size:=by simp [World.setCell]
  refine ⟨?_, ?_, ?_,h.h1,h.h2,h.h3⟩
  · rw [heap_setCell_same w b j _ _ _ h.box,← hc]
  · rw [hB]; exact isObj_box.stay h.bx (fun k hk => ho k (fun e => h.h1 (e ▸ hk)))
  · rw [hF]; exact h.fifo.stay (fun g hg => ho g (fun e => h.h2 (e ▸ hg))) hz
theorem setNum_kept {j:Nat} {u:Value}:Kept (ctO b Ob vf) w (w.setCell ⟨b,j,none⟩ u):=⟨rfl,rfl,rfl,by simp [World.setCell],fun k _ hk => Below.heap_setCell _ _ _ _ (fun e => hk (.inl e))⟩
theorem CtM.stpNum {s':Ct} (h:CtM w b bv Ob vf s) (j:Nat) (u:Value)
    (hc:(#[bv,vf, .int .i64 s.room,s.va, .int .i64 s.lost, .int .i64 s.asks]:Array Value).setIfInBounds j u = #[bv,vf, .int .i64 s'.room,s'.va, .int .i64 s'.lost, .int .i64 s'.asks]) (hB:s'.bx = s.bx) (hF:s'.fifo = s.fifo) :
    Stp CtD (.pointer (some ⟨b,0,none⟩)) (ctO b Ob vf) w s' (w.setCell ⟨b,j,none⟩ u):=⟨_,⟨b,bv,Ob,vf,rfl,rfl,h.setNum j u hc hB hF⟩,setNum_kept,Grows.refl _ _⟩
theorem CtM.boxes {bx':Bx} (h:CtM w b bv Ob vf s) (hs:Stp BxD bv Ob w bx' w'):∃ Ob',CtM w' b bv Ob' vf { s with bx:=bx' } ∧ Kept (ctO b Ob vf) w w' ∧ Grows (ctO b Ob vf) w (ctO b Ob' vf):=by
  obtain ⟨Ob',h1,hk,hg⟩:=hs
  have lb:=heap_some_lt h.box
  have key:Kept (ctO b Ob vf) w w':=⟨hk.os,hk.tape,hk.output,hk.size,fun k h2 h3 => hk.block k h2 (fun h4 => h3 (.inr (.inl h4)))⟩
  refine ⟨Ob',⟨(hk.block b lb h.h1).trans h.box,h1,h.fifo.stay (fun g hg' => hk.block g (h.fifo.lt g hg') (fun h4 => h.h3 g h4 hg')) hk.size,fun h4 => ?_,h.h2,fun k h4 h5 => ?_⟩,key, ?_⟩
  · rcases hg b h4 with h5 | h5
    · exact h.h1 h5
    · omega
  · rcases hg k h4 with h6 | h6
    · exact h.h3 k h6 h5
    · have:=h.fifo.lt k h5; omega
  · rintro k (rfl | h4 | h4)
    · exact .inl (.inl rfl)
    · rcases hg k h4 with h5 | h5
      · exact .inl (.inr (.inl h5))
      · exact .inr h5
    · exact .inl (.inr (.inr h4))
theorem CtM.setFifo {vf':Value} {L':List Fr} (h:CtM w b bv Ob vf s) (hb:Below w.heap.size w w') (hq:RowQ frC 4 w' vf' L') (hg:Grows (OwnO vf) w (OwnO vf')) :
    CtM (w'.setCell ⟨b,1,none⟩ vf') b bv Ob vf' { s with fifo:=L' } ∧ Kept (ctO b Ob vf) w (w'.setCell ⟨b,1,none⟩ vf') ∧ Grows (ctO b Ob vf) w (ctO b Ob vf'):=by
  have hm:=h.later hb
  have lb:=heap_some_lt h.box
  have ho:∀ k,k ≠ b → (w'.setCell ⟨b,1,none⟩ vf').heap[k]? = w'.heap[k]?:=fun k hk => Below.heap_setCell _ _ _ _ hk
  have hz:w'.heap.size ≤ (w'.setCell ⟨b,1,none⟩ vf').heap.size:=by simp [World.setCell]
  have hn:¬ OwnO vf' b:=fun h4 => by
    rcases hg b h4 with h5 | h5
    · exact h.h2 h5
    · omega
  have hbl:=isObj_box.lt h.bx
  refine ⟨⟨?_,isObj_box.stay hm.bx (fun k hk => ho k (fun e => h.h1 (e ▸ hk))),hq.stay (fun g hg' => ho g (fun e => hn (e ▸ hg'))) hz,h.h1,hn,fun k h4 h5 => ?_⟩, ?_, ?_⟩
  · rw [heap_setCell_same w' b 1 _ _ _ hm.box]; rfl
  · rcases hg k h5 with h6 | h6
    · exact h.h3 k h4 h6
    · have:=hbl k h4; omega
  · exact (Kept.of_below (O:=ctO b Ob vf) hb).trans ⟨rfl,rfl,rfl,hz,fun k _ hk => ho k (fun e => hk (.inl e))⟩ (Grows.refl _ _)
  · rintro k (rfl | h4 | h4)
    · exact .inl (.inl rfl)
    · exact .inl (.inr (.inl h4))
    · rcases hg k h4 with h5 | h5
      · exact .inl (.inr (.inr h5))
      · exact .inr h5
end
end Go.Proofs.YtimdkcchjanpaaaGreatDoor
