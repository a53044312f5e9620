/- Ctrl, the document's side: Won, Fetch. Match: contracts of Witness and its closure, Covers. Match: contracts of the document's bit, Hit, flip. Match: the con .. -/
import Derived.Test.YtimdkcchjanpaaaGreatDoorZar
import Derived.Test.YtimdkcchjanpaaaGreatDoorZan
set_option maxHeartbeats 4000000
namespace Go.Proofs.YtimdkcchjanpaaaGreatDoor
open Go.RowKit
set_option linter.unusedVariables false
theorem stp_comb {σ:Type} {I:World → Value → σ → (Nat → Prop) → Prop} {v:Value} {O O1:Nat → Prop} {w w1 w2:World} {s2:σ} (hk:Kept O w w1) (hg:Grows O w O1) (h2:Stp I v O1 w1 s2 w2):Stp I v O w s2 w2:=by
  obtain ⟨O2,h,k2,g2⟩:=h2
  exact ⟨O2,h,hk.trans k2 hg,hg.trans g2 hk.size⟩
theorem Ct.won_yes {s:Ct} {k:Int} (h:s.bx.best s.bx.ord.length = k) (hk:¬ k < 0):s.won = { s with bx:=(s.bx.end_ k 2).1,asks:=setB s.asks 1 }:=by unfold Ct.won; rw [h,if_neg hk]
theorem Ct.won_no {s:Ct} {k:Int} (h:s.bx.best s.bx.ord.length = k) (hk:k < 0):s.won = s:=by unfold Ct.won; rw [h,if_pos hk]
theorem xwon_v {v:Value} {s:Ct} {O:Nat → Prop} (w:World) (h:CtD w v s O) (hok:s.Ok) :
    Calls Tryz.prog 45 #[v] w fun e w' => e = .returned (.bool s.off.2) ∧ Stp CtD v O w s.won w':=by
  obtain ⟨b,bv,Ob,vf,rfl,rfl,hm⟩:=h
  have HM:=Lib.hid hm
  have HOK:=Lib.hid hok
  obtain ⟨c0,c1,c2,c3,c4,c5⟩:=HM.out.cells
  have hbx:=HM.out.bx
  obtain ⟨b5,gs,gp,vo,ve,rfl,rfl,hbm⟩:=hbx
  have HBM:=Lib.hid hbm
  have HOF:Hid (s.off.2 = !decide (s.bx.best s.bx.ord.length < 0)):=Lib.hid (by unfold Ct.off; split <;> rename_i h1 <;> simp [h1])
  obtain ⟨q,hq⟩:∃ q,s.off.2 = q:=⟨_,rfl⟩
  rw [hq] at HOF ⊢
  clear hm hok hbm hq
  go_enter Tryz.func45,Tryz.ntmps45
  go_wp2_with fail
  refine (xbest_v w ⟨b5,gs,gp,vo,ve,rfl,rfl,HBM.out⟩ HOK.out.bx.ordOk HOK.out.bx.n2 (by have:=HOK.out.bx.ordLe; omega)).mono ?_
  rintro e w1 ⟨rfl,hb1⟩
  have HB1:=Lib.hid hb1
  have HM1:=Lib.hid (HM.out.later hb1)
  clear hb1 c0 c1 c2 c3 c4 c5
  obtain ⟨k,hk⟩:∃ k,s.bx.best s.bx.ord.length = k:=⟨_,rfl⟩
  have HK:=Lib.hid hk
  rw [hk] at HOF ⊢
  clear hk
  by_cases h0:k < 0
  · have hd:decide (k < 0) = true:=decide_eq_true h0
    have hQ:=HOF.out
    rw [hd] at hQ
    subst hQ
    have HF:Hid (Stp CtD (.pointer (some ⟨b,0,none⟩)) (ctO b (bxO b5 gs gp vo ve) vf) w s.won w1):=Lib.hid (by rw [Ct.won_no HK.out h0]; exact HM.out.stp HB1.out)
    clear h0
    go_wp2
    go_ret
    exact ⟨rfl,HF.out⟩
  · have hd:decide (k < 0) = false:=decide_eq_false h0
    have hQ:=HOF.out
    rw [hd] at hQ
    subst hQ
    obtain ⟨c0,c1,c2,c3,c4,c5⟩:=HM1.out.cells
    have HWY:=Lib.hid (Ct.won_yes HK.out h0)
    clear h0
    go_wp2_with fail
    refine (xend_v w1 HM1.out.bx rfl HOK.out.bx.n2 HOK.out.bx.ordLe HOK.out.bx.finLe).mono ?_
    rintro e w2 ⟨rfl,hs2⟩
    obtain ⟨Ob',hm2,hk2,hg2⟩:=HM1.out.boxes hs2
    have HM2:=Lib.hid hm2
    have HK2:=Lib.hid hk2
    have HG2:=Lib.hid hg2
    clear hs2 hm2 hk2 hg2 c0 c1 c2 c3 c4 c5
    go_wp2_with fail
    refine (xset_v (s := { s with bx:=(s.bx.end_ k 2).1 }) w2 ⟨_,_,_,_,rfl,rfl,HM2.out⟩ HOK.out.ak (by decide)).mono ?_
    rintro e w3 ⟨rfl,hs3⟩
    have HF:Hid (Stp CtD (.pointer (some ⟨b,0,none⟩)) (ctO b (bxO b5 gs gp vo ve) vf) w s.won w3):=Lib.hid (by
      rw [HWY.out]
      exact stp_comb ((Kept.of_below HB1.out).trans HK2.out (Grows.refl _ _)) (fun k hk => (HG2.out k hk).imp id (fun h => Nat.le_trans HB1.out.size h)) hs3)
    clear hs3
    go_wp2
    go_ret
    exact ⟨rfl,HF.out⟩
def Ct.fetch (s:Ct):Ct × Fr × Bool:=match s.fifo with
  | [] => (s,frz,false)
  | f :: r => ({ s with fifo:=r },f,true)
theorem RowQ.ctFirst4 {w:World} {g o n cap:Nat} {f:Fr} {M:List Fr} (h:RowQ frC 4 w (.slice (some ⟨g,o,none⟩) n cap) (f :: M)) :
    w.cell? ⟨g,o,none⟩ = some (.int .i64 f.i) ∧ w.cell? ⟨g,o + 1,none⟩ = some (.int .i64 f.n) ∧ w.cell? ⟨g,o + 2,none⟩ = some (.int .i64 f.l) ∧ w.cell? ⟨g,o + 3,none⟩ = some (.string f.d):=by
  rcases h with ⟨h,_⟩ | ⟨g',o',cap',hv,h1,h2,h3,h4,h5⟩
  · cases h
  · injection hv with hA _ _
    injection hA with hA
    injection hA with e1 e2
    subst e1 e2
    exact ⟨h4 0 _ rfl,h4 1 _ rfl,h4 2 _ rfl,h4 3 _ rfl⟩
theorem CtM.cutFifo {w w':World} {b:Nat} {bv:Value} {Ob:Nat → Prop} {s:Ct} {g o cap:Nat} {f:Fr} {r:List Fr} (h:CtM w b bv Ob (.slice (some ⟨g,o,none⟩) (r.length + 1) cap) s) (hf:s.fifo = f :: r) (hb:Below w.heap.size w w') :
    CtM (w'.setCell ⟨b,1,none⟩ (.slice (some (if cap = 1 then ⟨g,o,none⟩ else (⟨g,o,none⟩:Addr).add 4)) r.length (cap - 1))) b bv Ob (.slice (some (if cap = 1 then ⟨g,o,none⟩ else (⟨g,o,none⟩:Addr).add 4)) r.length (cap - 1)) { s with fifo:=r } ∧
    Kept (ctO b Ob (.slice (some ⟨g,o,none⟩) (r.length + 1) cap)) w (w'.setCell ⟨b,1,none⟩ (.slice (some (if cap = 1 then ⟨g,o,none⟩ else (⟨g,o,none⟩:Addr).add 4)) r.length (cap - 1))) ∧
    Grows (ctO b Ob (.slice (some ⟨g,o,none⟩) (r.length + 1) cap)) w (ctO b Ob (.slice (some (if cap = 1 then ⟨g,o,none⟩ else (⟨g,o,none⟩:Addr).add 4)) r.length (cap - 1))):=by
  have h1:=h.fifo
  rw [hf] at h1
  obtain ⟨y,hy,_,_,hq⟩:=h1.tail frC_len
  injection hy with hy
  subst hy
  refine h.setFifo hb (hq.later hb) (fun k hk => .inl ?_)
  split at hk
  · exact hk
  · rw [qaddr] at hk; exact hk
theorem boxF_kept4 {w:World} {a:Nat} {x0 x1 x2 x3:Value}:Kept (fun k => k = a) w ((((w.setCell ⟨a,0,none⟩ x0).setCell ⟨a,1,none⟩ x1).setCell ⟨a,2,none⟩ x2).setCell ⟨a,3,none⟩ x3) :=
  ⟨rfl,rfl,rfl,by simp [World.setCell],fun k _ hk => by
    rw [Below.heap_setCell _ _ _ _ hk,Below.heap_setCell _ _ _ _ hk,Below.heap_setCell _ _ _ _ hk,Below.heap_setCell _ _ _ _ hk]⟩
theorem fetch_done {w W0 w2:World} {b z:Nat} {bv V u:Value} {Ob O:Nat → Prop} {s':Ct} {f:Fr} {i n l:Int} {d:ByteArray} (hm:CtM (W0.setCell ⟨b,1,none⟩ u) b bv Ob V s') (hk:Kept O w (W0.setCell ⟨b,1,none⟩ u)) (hg:Grows O w (ctO b Ob V)) (hz:BoxF W0 z i n l d) (hb:b < z) (hwz:w.heap.size ≤ z) (hno:∀ k,ctO b Ob V k → k < z)
    (hw:(((((W0.setCell ⟨b,1,none⟩ u).setCell ⟨z,0,none⟩ (.int .i64 f.i)).setCell ⟨z,1,none⟩ (.int .i64 f.n)).setCell ⟨z,2,none⟩ (.int .i64 f.l)).setCell ⟨z,3,none⟩ (.string f.d)) = w2):BoxF w2 z f.i f.n f.l f.d ∧ Stp CtD (.pointer (some ⟨b,0,none⟩)) O w s' w2:=by
  have hz1:BoxF (W0.setCell ⟨b,1,none⟩ u) z i n l d:=(Below.heap_setCell _ _ _ _ (by omega:z ≠ b)).trans hz
  have h4:Kept (fun k => k = z) (W0.setCell ⟨b,1,none⟩ u) w2:=by rw [← hw]; exact boxF_kept4
  refine ⟨by rw [← hw]; exact boxF_set hz1,_,⟨b,bv,Ob,V,rfl,rfl,hm.stay (fun k hk' => h4.block k (hm.lt k hk') (fun e => by have:=hno k hk'; omega))⟩,hk.trans h4 (fun k e => .inr (by omega)),hg⟩
theorem xfetch_v {v:Value} {s:Ct} {O:Nat → Prop} (w:World) (h:CtD w v s O) (hok:s.Ok) :
    Calls Tryz.prog 89 #[v] w fun e w' => e = .returned (.tuple #[.agg #[.int .i64 s.fetch.2.1.i, .int .i64 s.fetch.2.1.n, .int .i64 s.fetch.2.1.l, .string s.fetch.2.1.d], .bool s.fetch.2.2]) ∧ Stp CtD v O w s.fetch.1 w':=by
  obtain ⟨b,bv,Ob,vf,rfl,rfl,hm⟩:=h
  obtain ⟨w0,e0⟩:∃ w0,w.alloc (.cells #[.int .i64 0, .int .i64 0, .int .i64 0, .string (ByteArray.mk #[])] 35) = w0:=⟨_,rfl⟩
  have hb0:Below w.heap.size w w0:=by rw [← e0]; exact (Below.refl _ _).alloc (Nat.le_refl _) _
  have HB0:=Lib.hid hb0
  have HF0:Hid (BoxF w0 w.heap.size 0 0 0 (ByteArray.mk #[])):=Lib.hid (by rw [← e0]; exact BoxF.made _ _ _ _ _)
  have hz0:w0.heap.size = w.heap.size + 1:=by rw [← e0]; simp
  have HM:=Lib.hid hm
  have HM0:=Lib.hid (hm.later hb0)
  obtain ⟨c0,c1,c2,c3,c4,c5⟩:=HM0.out.cells
  obtain ⟨g0,g1,g2,g3⟩:=HF0.out.cells
  have fl:∀ j,w0.frozen? ⟨w.heap.size,j,none⟩ = false:=fun j => Lib.frozen_of_heap HF0.out j
  have hrl:s.fifo.length ≤ 1000:=by have:=hok.fifo; have:=hok.room; omega
  have hrow:=hm.fifo
  cases hf:s.fifo with
  | nil =>
    have HE:Hid (s.fetch = (s,frz,false)):=Lib.hid (by unfold Ct.fetch; rw [hf])
    rw [hf] at hrow
    obtain ⟨A5,c5',hsh⟩:=hrow.shape
    rw [List.length_nil] at hsh
    subst hsh
    rw [HE.out]
    clear hm hb0 hok hf hrow hrl hz0
    go_enter Tryz.func89,Tryz.ntmps89
    go_wp2
    generalize hw2:(World.setCell _ ⟨w.heap.size,3,none⟩ _) = w2
    have HF2:BoxF w2 w.heap.size 0 0 0 (ByteArray.mk #[]):=by rw [← hw2]; exact boxF_set HF0.out
    have HB2:Below w.heap.size w w2:=by rw [← hw2]; exact boxF_below HB0.out (Nat.le_refl _)
    clear hw2 g0 g1 g2 g3
    obtain ⟨d0,d1,d2,d3⟩:=HF2.cells
    refine bodyPost_ret (v := .tuple #[.agg #[.int .i64 0, .int .i64 0, .int .i64 0, .string (ByteArray.mk #[])], .bool false]) ?_ rfl ⟨rfl, ?_⟩
    · simp [results,Tryz.results89,go_sem,d0,d1,d2,d3]
    · exact ⟨_,⟨b,bv,Ob,_,rfl,rfl,HM.out.later HB2⟩, .of_below HB2,Grows.refl _ _⟩
  | cons f r =>
    have HE:Hid (s.fetch = ({ s with fifo:=r },f,true)):=Lib.hid (by unfold Ct.fetch; rw [hf])
    rw [hf] at hrow hrl
    obtain ⟨g,o,cap,hsh,hcap,_⟩:=hrow.head
    subst hsh
    have hgb:g < w.heap.size:=hrow.lt g rfl
    have hb1:Below w0.heap.size w0 (w0.alloc (.cells #[.int .i64 f.i, .int .i64 f.n, .int .i64 f.l, .string f.d] 35)):=(Below.refl _ _).alloc (Nat.le_refl _) _
    have HB1:=Lib.hid (fbelow_t hb0 hb1)
    have HC:=Lib.hid (hm.cutFifo hf HB1.out)
    have HLT:=Lib.hid hm.lt
    have HF1:=Lib.hid (BoxF.made w0 f.i f.n f.l f.d)
    have HZ1:=Lib.hid (HF0.out.later hb1)
    have HM1:=Lib.hid (hm.later HB1.out)
    obtain ⟨x0,x1,x2,x3⟩:=(hrow.later hb0).ctFirst4
    have hbz:b < w.heap.size:=heap_some_lt hm.box
    have hn1:¬ w.heap.size = b:=by omega
    have hn2:¬ w0.heap.size = b:=by omega
    have hn3:¬ w0.heap.size = w.heap.size:=by omega
    have hn4:¬ w.heap.size = w0.heap.size:=by omega
    have hpos:((r.length:Int) + 1 == 0) = false:=by simp; omega
    have hpos2:(0:Int) < (r.length:Int) + 1:=by omega
    rw [HE.out]
    clear c0 c1 c2 c3 c4 c5 g0 g1 g2 g3 fl
    obtain ⟨c0,c1,c2,c3,c4,c5⟩:=HM0.out.cells
    obtain ⟨q0,q1,q2,q3,q4,q5⟩:=HM1.out.cells
    have qf:=HM1.out.live
    obtain ⟨y0,y1,y2,y3⟩:=HF1.out.cells
    obtain ⟨g0,g1,g2,g3⟩:=HZ1.out.cells
    have fl:∀ j,(w0.alloc (.cells #[.int .i64 f.i, .int .i64 f.n, .int .i64 f.l, .string f.d] 35)).frozen? ⟨w.heap.size,j,none⟩ = false:=fun j => Lib.frozen_of_heap HZ1.out j
    have HZZ:Hid (w0.heap.size = w.heap.size + 1):=Lib.hid hz0
    clear hm hb0 hb1 hok hf hrow hz0
    go_enter Tryz.func89,Tryz.ntmps89
    by_cases hc1:cap = 1
    · subst hc1
      rw [if_pos rfl] at HC
      obtain rfl:r = []:=List.eq_nil_of_length_eq_zero (by omega)
      simp only [List.length_nil,Nat.sub_self] at HC
      go_wp2
      generalize hw2:(World.setCell _ ⟨w.heap.size,3,none⟩ _) = w2
      obtain ⟨k1,k2⟩:=fetch_done HC.out.1 HC.out.2.1 HC.out.2.2 HZ1.out hbz (Nat.le_refl _) (fun k hk => HLT.out k hk) hw2
      clear hw2 c0 c1 c2 c3 c4 c5 q0 q1 q2 q3 q4 q5 y0 y1 y2 y3 g0 g1 g2 g3 fl qf x0 x1 x2 x3
      obtain ⟨d0,d1,d2,d3⟩:=k1.cells
      refine bodyPost_ret (v := .tuple #[.agg #[.int .i64 f.i, .int .i64 f.n, .int .i64 f.l, .string f.d], .bool true]) ?_ rfl ⟨rfl,k2⟩
      simp [results,Tryz.results89,go_sem,d0,d1,d2,d3]
    · rw [if_neg hc1,qaddr] at HC
      go_wp2
      generalize hw2:(World.setCell _ ⟨w.heap.size,3,none⟩ _) = w2
      obtain ⟨k1,k2⟩:=fetch_done HC.out.1 HC.out.2.1 HC.out.2.2 HZ1.out hbz (Nat.le_refl _) (fun k hk => HLT.out k hk) hw2
      clear hw2 c0 c1 c2 c3 c4 c5 q0 q1 q2 q3 q4 q5 y0 y1 y2 y3 g0 g1 g2 g3 fl qf x0 x1 x2 x3
      obtain ⟨d0,d1,d2,d3⟩:=k1.cells
      refine bodyPost_ret (v := .tuple #[.agg #[.int .i64 f.i, .int .i64 f.n, .int .i64 f.l, .string f.d], .bool true]) ?_ rfl ⟨rfl,k2⟩
      simp [results,Tryz.results89,go_sem,d0,d1,d2,d3]
end Go.Proofs.YtimdkcchjanpaaaGreatDoor
namespace Go.Proofs.YtimdkcchjanpaaaGreatDoor
open Go.RowKit
set_option linter.unusedVariables false
end Go.Proofs.YtimdkcchjanpaaaGreatDoor
namespace Go.Proofs.YtimdkcchjanpaaaGreatDoor
open Go.RowKit
set_option linter.unusedVariables false
def shW (u j:Nat):Int:=((u / 2 ^ j:Nat):Int)
theorem shW_succ (u j:Nat):shW u j / 2 = shW u (j + 1):=by
  unfold shW
  rw [Nat.pow_succ,← Nat.div_div_eq_div_mul]
  omega
theorem shW_bd (u j:Nat) (h:u < 4294967296):0 ≤ shW u j ∧ shW u j < 4294967296:=by
  exact ⟨Int.natCast_nonneg _,Int.ofNat_lt.2 (Nat.lt_of_le_of_lt (Nat.div_le_self _ _) h)⟩
theorem shW_bit (u j:Nat):(shW u j % 2 == 1) = u.testBit j:=by
  unfold shW
  rw [Nat.testBit_eq_decide_div_mod_eq,Bool.eq_iff_iff]
  simp only [beq_iff_eq,decide_eq_true_eq]
  omega
theorem rbit_v {u k:Nat} {q:Bool} (h:u.testBit k = q) (hu:u < 4294967296) (hk:k ≤ 31) (w:World) :
    Calls Tryz.prog 162 #[.int .u32 u, .int .i64 k] w fun e w' => e = .returned (.bool q) ∧ w = w':=by
  have H:=Lib.hid (show (shW u k % 2 == 1) = q by rw [shW_bit]; exact h)
  have HU:=Lib.hid hu
  have h0:(u:Int) = shW u 0:=by simp [shW]
  rw [h0]
  clear h hu h0
  go_enter Tryz.func162,Tryz.ntmps162
  go_wp2
  go_loop [0,5] (fun n i => ∃ j:Nat,j ≤ k ∧ i = .int .i64 j ∧ n = .int .u32 (shW u j)) (fun _ i => k - (intOf i).toNat)
  case atStart => exact ⟨0,Nat.zero_le _,rfl,rfl⟩
  case round =>
    obtain ⟨j,hj,rfl,rfl⟩:=hrel
    have hsb:=shW_bd u j HU.out
    by_cases hlt:j < k
    · have HS:=Lib.hid (shW_succ u j)
      go_wp2
      go_round
      case rel => exact ⟨j + 1,by omega,by go_num,by rw [HS.out]⟩
      case measure => simp [intOf]; omega
    · obtain rfl:j = k:=by omega
      go_wp2
      go_ret
      exact ⟨fret_bool H.out,rfl⟩
def sameTo (f:Flt) (u:Nat):Nat → Bool
  | 0 => true
  | j + 1 => if f.m.testBit j && (f.i.testBit j != u.testBit j) then false else sameTo f u j
theorem sameTo_iff (f:Flt) (u:Nat):∀ j,sameTo f u j = true ↔ ∀ k,k < j → f.m.testBit k = true → u.testBit k = f.i.testBit k
  | 0 => by simp [sameTo]
  | j + 1 => by
    have ih:=sameTo_iff f u j
    unfold sameTo
    constructor
    · intro h k hk hm
      by_cases e:k = j
      · subst e
        rw [hm] at h
        revert h
        cases f.i.testBit k <;> cases u.testBit k <;> simp
      · split at h
        · cases h
        · exact ih.1 h k (by omega) hm
    · intro h
      have h1:=ih.2 fun k hk => h k (by omega)
      have h2:=h j (by omega)
      rw [h1]
      cases hm:f.m.testBit j
      · simp
      · rw [h2 hm]; simp
theorem sameTo_32 (f:Flt) (u:Nat) (hf:f.fits):(sameTo f u 32 != f.v) = hitN f u:=by
  have:sameTo f u 32 = (((u ^^^ f.i) &&& f.m) == 0):=by
    rw [Bool.eq_iff_iff,same_iff,sameTo_iff]
    exact ⟨fun h k hk => h k (bit_lt hf.2 hk) hk,fun h k _ hk => h k hk⟩
  unfold hitN
  rw [this]
theorem rhit_v {f:Flt} {u:Nat} {q:Bool} (h:hitN f u = q) (hf:f.fits) (hu:u < 4294967296) (w:World) :
    Calls Tryz.prog 149 #[.agg #[.int .u32 f.i, .int .u32 f.m, .bool f.v], .int .u32 u] w fun e w' => e = .returned (.bool q) ∧ Below w.heap.size w w':=by
  have H:=Lib.hid ((sameTo_32 f u hf).trans h)
  have HF:=Lib.hid hf
  have HU:=Lib.hid hu
  clear h hf hu
  go_enter Tryz.func149,Tryz.ntmps149
  go_wp2
  go_loop [5,6] (fun s i => ∃ j:Nat,j ≤ 32 ∧ i = .int .i64 j ∧ s = .bool (sameTo f u j)) (fun _ i => 32 - (intOf i).toNat)
  case atStart => exact ⟨0,Nat.zero_le _,rfl,rfl⟩
  case round =>
    obtain ⟨j,hj,rfl,rfl⟩:=hrel
    by_cases hlt:j < 32
    · have HS:Hid (sameTo f u (j + 1) = if f.m.testBit j && (f.i.testBit j != u.testBit j) then false else sameTo f u j):=Lib.hid rfl
      generalize hm:f.m.testBit j = qm at HS
      have HM:=Lib.hid hm
      generalize hi:f.i.testBit j = qi at HS
      have HI:=Lib.hid hi
      generalize hw:u.testBit j = qw at HS
      have HW:=Lib.hid hw
      clear hm hi hw
      generalize sameTo f u j = sj at HS
      go_wp2_with fail
      refine (rbit_v HM.out HF.out.2 (by omega) _).mono ?_
      rintro e w1 ⟨rfl,rfl⟩
      cases qm
      · go_wp2
        go_round
        case rel => exact ⟨j + 1,by omega,by go_num,by rw [HS.out]; rfl⟩
        case measure => simp [intOf]; omega
      · go_wp2_with fail
        refine (rbit_v HI.out HF.out.1 (by omega) _).mono ?_
        rintro e w1 ⟨rfl,rfl⟩
        go_wp2_with fail
        refine (rbit_v HW.out HU.out (by omega) _).mono ?_
        rintro e w1 ⟨rfl,rfl⟩
        cases qi <;> cases qw <;>
        · go_wp2
          go_round
          case rel => exact ⟨j + 1,by omega,by go_num,by rw [HS.out]; rfl⟩
          case measure => simp [intOf]; omega
    · obtain rfl:j = 32:=by omega
      generalize hs:sameTo f u 32 = s32 at H
      go_wp2
      go_ret
      exact ⟨fret_bool H.out,(Below.refl _ _).alloc (Nat.le_refl _) _⟩
def flipN (u k:Nat):Nat:=if 31 < k then u else if u.testBit k then u - 2 ^ k else u + 2 ^ k
end Go.Proofs.YtimdkcchjanpaaaGreatDoor
namespace Go.Proofs.YtimdkcchjanpaaaGreatDoor
open Go.RowKit
set_option linter.unusedVariables false
def candN (n i k:Nat):Nat:=flipN (flipN n i) k
def Best (P:Nat → Bool) (n t c:Nat) (q:Bool):Prop :=
  (q = true ∧ c < 4294967296 ∧ P c = true ∧ ∀ i k,k ≤ 32 → i * 33 + k < t → P (candN n i k) = true → c ≤ candN n i k) ∨
  (q = false ∧ c = 0 ∧ ∀ i k,k ≤ 32 → i * 33 + k < t → P (candN n i k) = false)
end Go.Proofs.YtimdkcchjanpaaaGreatDoor
namespace Go.Proofs.YtimdkcchjanpaaaGreatDoor
open Go.RowKit
set_option linter.unusedVariables false
end Go.Proofs.YtimdkcchjanpaaaGreatDoor
namespace Go.Proofs.YtimdkcchjanpaaaGreatDoor
open Go.RowKit
set_option linter.unusedVariables false
def carB (i n l:Int) (sz:Nat):Bool:=okF i n l sz && !fX n
theorem word_nat (i n l:Int) (sz:Nat):∃ v:Nat,wordV i n l sz = (v:Int) ∧ v < 4294967296:=by
  unfold wordV
  cases ho:okF i n l sz
  · exact ⟨0,rfl,by decide⟩
  · have g:=good ho
    have h0:=g.i0
    have h1:=g.top
    have hw:0 ≤ wordN i n ∧ wordN i n < 4294967296:=by
      unfold wordN b01
      cases fE n <;> cases fR n <;> cases fX n <;> simp <;> omega
    obtain ⟨v,hv⟩:=Int.eq_ofNat_of_zero_le hw.1
    exact ⟨v,by simpa using hv,by omega⟩
theorem carries_v {i n l:Int} {d:ByteArray} {q:Bool} (h:carB i n l d.size = q) (w:World) (hT:Tabs w) (hn1 : -9223372036854775808 ≤ n) (hn2:n ≤ 9223372036854775807) :
    Calls Tryz.prog 139 #[.agg #[.int .i64 i, .int .i64 n, .int .i64 l, .string d]] w fun e w' => e = .returned (.bool q) ∧ Below w.heap.size w w':=by
  have HT:=Lib.hid hT
  cases ho:okF i n l d.size
  · have H:=Lib.hid ho
    have HQ:Hid (false = q):=Lib.hid (by rw [← h]; unfold carB; rw [ho]; rfl)
    clear h ho hT
    go_enter Tryz.func139,Tryz.ntmps139
    go_wp2_with fail
    refine (right_f H.out _ (HT.out.alloc _) hn1 hn2).mono ?_
    rintro e w1 ⟨rfl,hb⟩
    go_wp2
    go_ret
    exact ⟨fret_bool HQ.out,fbelow_a _ hb⟩
  · have H:=Lib.hid ho
    cases hx:fX n
    · have HQ:Hid (true = q):=Lib.hid (by rw [← h]; unfold carB; rw [ho,hx]; rfl)
      have a4:=and4_f hx
      clear h ho hT hx
      go_enter Tryz.func139,Tryz.ntmps139
      go_wp2_with fail
      refine (right_t H.out _ (HT.out.alloc _)).mono ?_
      rintro e w1 ⟨rfl,hb⟩
      obtain ⟨hc1,hf1⟩:=fbcell hb
      have z1:w.heap.size < w1.heap.size:=by have:=hb.size; simp only [World.size_alloc] at this; omega
      go_wp2
      go_ret
      exact ⟨fret_bool HQ.out,fbelow_a _ hb⟩
    · have HQ:Hid (false = q):=Lib.hid (by rw [← h]; unfold carB; rw [ho,hx]; rfl)
      have a4:=and4_t hx
      clear h ho hT hx
      go_enter Tryz.func139,Tryz.ntmps139
      go_wp2_with fail
      refine (right_t H.out _ (HT.out.alloc _)).mono ?_
      rintro e w1 ⟨rfl,hb⟩
      obtain ⟨hc1,hf1⟩:=fbcell hb
      have z1:w.heap.size < w1.heap.size:=by have:=hb.size; simp only [World.size_alloc] at this; omega
      go_wp2
      go_ret
      exact ⟨fret_bool HQ.out,fbelow_a _ hb⟩
theorem rmatch_v {f:Flt} {i n l:Int} {d:ByteArray} {v:Nat} {q:Bool} (c:Bool) (hc:carB i n l d.size = c) (hv:wordV i n l d.size = (v:Int)) (hvl:v < 4294967296) (h:(c && hitN f v) = q) (hf:f.fits)
    (w:World) :
    Calls Tryz.prog 131 #[.agg #[.int .u32 f.i, .int .u32 f.m, .bool f.v], .agg #[.int .i64 i, .int .i64 n, .int .i64 l, .string d]] w fun e w' => e = .returned (.bool q) ∧ Below w.heap.size w w':=by
  have HV:=Lib.hid hv
  have HVL:=Lib.hid hvl
  have HF:=Lib.hid hf
  have H:=Lib.hid h
  have hl:=later_cells
  clear hv hvl hf h
  cases ho:okF i n l d.size
  · have HO:=Lib.hid ho
    have HQ:Hid (false = q):=Lib.hid (by rw [← H.out,← hc]; unfold carB; rw [ho]; rfl)
    clear hc ho
    go_enter Tryz.func131,Tryz.ntmps131
    go_wp2_with fail
    refine wp_region_later (by kernel_rfl) (by kernel_rfl) ?_
    repeat (go_big_quiet_step (fail))
    go_big_quiet_step (exact Later.call (rright_v HO.out _))
    repeat (go_big_quiet_step (fail))
    refine wpQuiet_nil ?_
    rintro w1 ⟨m,rfl⟩
    go_wp2
    go_ret
    exact ⟨fret_bool HQ.out,fbelow_a _ (fbelow_a _ m.h)⟩
  · have HO:=Lib.hid ho
    have g:=good ho
    have HG:=Lib.hid (And.intro g.n0 g.n1)
    cases hx:fX n
    · have HX:=Lib.hid hx
      have HQ:Hid (hitN f v = q):=Lib.hid (by rw [← H.out,← hc]; unfold carB; rw [ho,hx]; rfl)
      clear hc ho hx g
      go_enter Tryz.func131,Tryz.ntmps131
      go_wp2_with fail
      refine wp_region_later (by kernel_rfl) (by kernel_rfl) ?_
      repeat (go_big_quiet_step (fail))
      go_big_quiet_step (exact Later.call (rright_v HO.out _))
      repeat (go_big_quiet_step (fail))
      go_big_quiet_step (exact Later.call (has4 HX.out HG.out.1 HG.out.2 _ _ _ _))
      repeat (go_big_quiet_step (fail))
      go_big_quiet_step (exact Later.call (rword_v HV.out _))
      repeat (go_big_quiet_step (fail))
      go_big_quiet_step (exact Later.call (rhit_v HQ.out HF.out HVL.out _))
      repeat (go_big_quiet_step (fail))
      refine wpQuiet_nil ?_
      rintro w1 ⟨m,rfl⟩
      go_wp2
      go_ret
      exact ⟨rfl,fbelow_a _ (fbelow_a _ m.h)⟩
    · have HX:=Lib.hid hx
      have HQ:Hid (false = q):=Lib.hid (by rw [← H.out,← hc]; unfold carB; rw [ho,hx]; rfl)
      clear hc ho hx g
      go_enter Tryz.func131,Tryz.ntmps131
      go_wp2_with fail
      refine wp_region_later (by kernel_rfl) (by kernel_rfl) ?_
      repeat (go_big_quiet_step (fail))
      go_big_quiet_step (exact Later.call (rright_v HO.out _))
      repeat (go_big_quiet_step (fail))
      go_big_quiet_step (exact Later.call (has4 HX.out HG.out.1 HG.out.2 _ _ _ _))
      repeat (go_big_quiet_step (fail))
      refine wpQuiet_nil ?_
      rintro w1 ⟨m,rfl⟩
      go_wp2
      go_ret
      exact ⟨fret_bool HQ.out,fbelow_a _ (fbelow_a _ m.h)⟩
end Go.Proofs.YtimdkcchjanpaaaGreatDoor
namespace Go.Proofs.YtimdkcchjanpaaaGreatDoor
open Go.RowKit
set_option linter.unusedVariables false
def anyB (c:Bool) (L:List Flt) (join:Bool) (v:Nat):Bool:=c && decide (0 < cntN L v) && (decide (cntN L v = L.length) || !join)
theorem any_v {L:List Flt} {s:Value} {join:Bool} {i n l:Int} {d:ByteArray} {v:Nat} {q:Bool} (c:Bool) (hc:carB i n l d.size = c) (hv:wordV i n l d.size = (v:Int)) (hvl:v < 4294967296) (h:anyB c L join v = q) (hfit:∀ f ∈ L,f.fits)
    (w:World) (hs:SlL w w.heap.size s L) (hT:Tabs w) (hn1 : -9223372036854775808 ≤ n) (hn2:n ≤ 9223372036854775807) :
    Calls Tryz.prog 110 #[s, .bool join, .agg #[.int .i64 i, .int .i64 n, .int .i64 l, .string d]] w fun e w' => e = .returned (.bool q) ∧ Below w.heap.size w w':=by
  have HT:=Lib.hid hT
  have HC:=Lib.hid hc
  have HV:=Lib.hid hv
  have HVL:=Lib.hid hvl
  have HF:=Lib.hid hfit
  have HS:=Lib.hid hs
  have HN:=Lib.hid (And.intro hn1 hn2)
  have H:=Lib.hid h
  obtain ⟨A,cap,rfl,hm,_⟩:=hs
  unfold maxLen at hm
  clear hT hc hv hvl hfit hn1 hn2 h
  cases c
  · go_enter Tryz.func110,Tryz.ntmps110
    go_wp2_with fail
    refine (carries_v HC.out _ (HT.out.alloc _) HN.out.1 HN.out.2).mono ?_
    rintro e w1 ⟨rfl,hb⟩
    go_wp2
    go_ret
    exact ⟨fret_bool H.out,fbelow_a _ hb⟩
  · have hle:=cntN_le L v
    have HQ:Hid ((decide (0 < cntN L v) && (decide (cntN L v = L.length) || !join)) = q):=Lib.hid (by rw [← H.out]; simp [anyB])
    clear H
    generalize hcn:cntN L v = x at hle HQ
    have HX:=Lib.hid hcn
    clear hcn
    go_enter Tryz.func110,Tryz.ntmps110
    go_wp2_with fail
    refine (carries_v HC.out _ (HT.out.alloc _) HN.out.1 HN.out.2).mono ?_
    rintro e w1 ⟨rfl,hb1⟩
    obtain ⟨hc1,hf1⟩:=fbcell hb1
    have z1:w.heap.size < w1.heap.size:=by have:=hb1.size; simp only [World.size_alloc] at this; omega
    have HT1:=Lib.hid ((HT.out.alloc _).below hb1)
    have HB1:=Lib.hid (fbelow_a _ hb1)
    go_wp2_with fail
    refine (word_v HV.out _ HT1.out HN.out.1 HN.out.2).mono ?_
    rintro e w2 ⟨rfl,hb2⟩
    have HB2:=Lib.hid (fbelow_t HB1.out hb2)
    go_wp2_with fail
    refine (hits_any _ (HS.out.later HB2.out) HF.out HVL.out).mono ?_
    rintro e w3 ⟨rfl,hb3⟩
    have HB3:=Lib.hid (fbelow_t HB2.out hb3)
    clear hb1 hb2 hb3 hc1 hf1 z1
    rw [HX.out]
    by_cases h0:0 < x
    · by_cases h1:x = L.length
      · subst h1
        go_wp2
        go_ret
        exact ⟨fret_bool (by rw [← HQ.out]; simp [h0]),HB3.out⟩
      · cases join <;>
        · go_wp2
          go_ret
          exact ⟨fret_bool (by rw [← HQ.out]; simp [h0,h1] <;> omega),HB3.out⟩
    · obtain rfl:x = 0:=by omega
      go_wp2
      go_ret
      exact ⟨fret_bool (by rw [← HQ.out]; simp),HB3.out⟩
def cntC (c:Bool) (L:List Flt) (v:Nat):Nat:=if c then cntN L v else 0
theorem cntC_snoc (c:Bool) (L:List Flt) (f:Flt) (v:Nat):cntC c (L ++ [f]) v = cntC c L v + (if (c && hitN f v) = true then 1 else 0):=by
  unfold cntC
  cases c
  · simp
  · simp [cntN_snoc]
theorem cntC_le (c:Bool) (L:List Flt) (v:Nat):cntC c L v ≤ L.length:=by
  unfold cntC
  split
  · exact cntN_le L v
  · omega
theorem anyB_cnt (c:Bool) (L:List Flt) (v:Nat):anyB c L true v = (decide (0 < cntC c L v) && decide (cntC c L v = L.length)) ∧ anyB c L false v = decide (0 < cntC c L v):=by
  unfold anyB cntC
  cases c <;> simp
theorem rany_v {L:List Flt} {s:Value} {join:Bool} {i n l:Int} {d:ByteArray} {v:Nat} {q:Bool} (c:Bool) (hc:carB i n l d.size = c) (hv:wordV i n l d.size = (v:Int)) (hvl:v < 4294967296) (h:anyB c L join v = q) (hfit:∀ f ∈ L,f.fits)
    (w:World) (hs:SlL w w.heap.size s L) :
    Calls Tryz.prog 93 #[s, .bool join, .agg #[.int .i64 i, .int .i64 n, .int .i64 l, .string d]] w fun e w' => e = .returned (.bool q) ∧ Below w.heap.size w w':=by
  have HC:=Lib.hid hc
  have HV:=Lib.hid hv
  have HVL:=Lib.hid hvl
  have HF:=Lib.hid hfit
  have HS:=Lib.hid hs
  have H:=Lib.hid h
  have hl:=later_cells
  obtain ⟨A,cap,rfl,hm,_⟩:=hs
  unfold maxLen at hm
  clear hc hv hvl hfit h
  go_enter Tryz.func93,Tryz.ntmps93
  go_wp2
  go_loopw [7,8] (fun m k wr => ∃ j:Nat,j ≤ L.length ∧ k = .int .i64 j ∧ m = .int .i64 (cntC c (L.take j) v) ∧ Hid (Below w.heap.size w wr ∧ w.heap.size < wr.heap.size ∧ ∀ o u,(w.alloc (.cells #[.int .i64 i, .int .i64 n, .int .i64 l, .string d] 35)).cell? ⟨w.heap.size,o,none⟩ = some u → wr.cell? ⟨w.heap.size,o,none⟩ = some u)) (fun _ k _ => L.length - (intOf k).toNat)
  case atStart => exact ⟨0,by omega,rfl,by unfold cntC cntN; simp,Lib.hid ⟨fbelow_a _ (Below.refl _ _),by simp,fun _ _ h => h⟩⟩
  case round =>
    obtain ⟨k,hk,rfl,rfl,HW⟩:=hrel
    have hcl:=cntC_le c (L.take k) v
    by_cases hlt:k < L.length
    · obtain ⟨x,cap1,hv,hxb,hcell⟩:=(HS.out.later HW.out.1).at_ hlt
      injection hv with hA hn hc
      subst hA hc
      have a0:∀ m:Later wr,m.w.cell? (x.add (k * 3)) = some (.int .u32 (L[k]'hlt).i):=fun m => (m.h.cell (by rw [addr_block]; exact hxb)).trans (hcell 0 _ rfl)
      have a1:∀ m:Later wr,m.w.cell? ⟨(x.add (k * 3)).block,(x.add (k * 3)).off + 1,none⟩ = some (.int .u32 (L[k]'hlt).m):=fun m => (m.h.cell (p:=⟨(x.add (k * 3)).block,(x.add (k * 3)).off + 1,none⟩) (by rw [addr_block]; exact hxb)).trans (hcell 1 _ rfl)
      have a2:∀ m:Later wr,m.w.cell? ⟨(x.add (k * 3)).block,(x.add (k * 3)).off + 2,none⟩ = some (.bool (L[k]'hlt).v):=fun m => (m.h.cell (p:=⟨(x.add (k * 3)).block,(x.add (k * 3)).off + 2,none⟩) (by rw [addr_block]; exact hxb)).trans (hcell 2 _ rfl)
      have z0:=HW.out.2.1
      have x0:wr.cell? ⟨w.heap.size,0,none⟩ = some (.int .i64 i):=HW.out.2.2 0 _ (by simp [go_sem])
      have x1:wr.cell? ⟨w.heap.size,1,none⟩ = some (.int .i64 n):=HW.out.2.2 1 _ (by simp [go_sem])
      have x2:wr.cell? ⟨w.heap.size,2,none⟩ = some (.int .i64 l):=HW.out.2.2 2 _ (by simp [go_sem])
      have x3:wr.cell? ⟨w.heap.size,3,none⟩ = some (.string d):=HW.out.2.2 3 _ (by simp [go_sem])
      have hk1:(k:Int) < (L.length:Int):=by omega
      have hk0:(0:Int) ≤ (k:Int):=by omega
      have HFi:Hid ((L[k]'hlt).fits):=Lib.hid (HF.out _ (List.getElem_mem hlt))
      have HSn:Hid (cntC c (L.take (k + 1)) v = cntC c (L.take k) v + (if (c && hitN (L[k]'hlt) v) = true then 1 else 0)):=Lib.hid (by rw [List.take_succ_eq_append_getElem hlt,cntC_snoc])
      have HCL:cntC c (L.take k) v < 9223372036854775807:=by have:=List.length_take_le k L; omega
      clear hcell hxb hcl
      generalize L[k]'hlt = f at a0 a1 a2 HFi HSn
      generalize hq:(c && hitN f v) = q1 at HSn
      have HQ:=Lib.hid hq
      clear hq
      go_wp2_with fail
      refine wp_region_later (by kernel_rfl) (by kernel_rfl) ?_
      repeat (go_big_quiet_step (fail))
      go_big_quiet_step (exact Later.call (rmatch_v c HC.out HV.out HVL.out HQ.out HFi.out _))
      repeat (go_big_quiet_step (fail))
      refine wpQuiet_nil ?_
      rintro w1 ⟨m,rfl⟩
      have HW1:Hid (Below w.heap.size w m.w ∧ w.heap.size < m.w.heap.size ∧ ∀ o u,(w.alloc (.cells #[.int .i64 i, .int .i64 n, .int .i64 l, .string d] 35)).cell? ⟨w.heap.size,o,none⟩ = some u → m.w.cell? ⟨w.heap.size,o,none⟩ = some u) :=
        Lib.hid ⟨fbelow_t HW.out.1 m.h,Nat.lt_of_lt_of_le HW.out.2.1 m.h.size,fun o u hu => (m.cell _ _ HW.out.2.1).trans (HW.out.2.2 o u hu)⟩
      cases q1
      · go_wp2
        go_roundw
        case rel => exact ⟨k + 1,by omega,by go_num,by rw [HSn.out]; go_num,HW1⟩
        case measure => simp [intOf]; omega
      · go_wp2
        go_roundw
        case rel => exact ⟨k + 1,by omega,by go_num,by rw [HSn.out]; go_num,HW1⟩
        case measure => simp [intOf]; omega
    · obtain rfl:k = L.length:=by omega
      rw [List.take_length] at hcl ⊢
      have HA:=Lib.hid (anyB_cnt c L v)
      generalize cntC c L v = y at HA hcl
      by_cases h0:0 < y
      · by_cases h1:y = L.length
        · subst h1
          cases join
          · go_wp2
            go_ret
            exact ⟨fret_bool (by rw [← H.out,HA.out.2]; simp [h0]),HW.out.1⟩
          · go_wp2
            go_ret
            exact ⟨fret_bool (by rw [← H.out,HA.out.1]; simp [h0]),HW.out.1⟩
        · cases join
          · go_wp2
            go_ret
            exact ⟨fret_bool (by rw [← H.out,HA.out.2]; simp [h0]),HW.out.1⟩
          · go_wp2
            go_ret
            exact ⟨fret_bool (by rw [← H.out,HA.out.1]; simp [h0,h1] <;> omega),HW.out.1⟩
      · obtain rfl:y = 0:=by omega
        cases join
        · go_wp2
          go_ret
          exact ⟨fret_bool (by rw [← H.out,HA.out.2]; simp),HW.out.1⟩
        · go_wp2
          go_ret
          exact ⟨fret_bool (by rw [← H.out,HA.out.1]; simp),HW.out.1⟩
end Go.Proofs.YtimdkcchjanpaaaGreatDoor
