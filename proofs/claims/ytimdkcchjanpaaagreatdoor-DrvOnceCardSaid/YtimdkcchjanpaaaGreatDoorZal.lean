/- Of no program: a step of the chain that reads hidden slots, and whose answer is hidden. Of no program: 'append(append([]T{}, d...), e)' in a region that draw .. -/
import Derived.Test.YtimdkcchjanpaaaGreatDoorZae
import Derived.Test.YtimdkcchjanpaaaGreatDoorZaf
import Derived.Test.YtimdkcchjanpaaaGreatDoorZak
import Derived.Test.YtimdkcchjanpaaaGreatDoorZah
import Derived.Test.YtimdkcchjanpaaaGreatDoorZad
import Derived.Laws.CopyOwn
import Derived.Laws.MakeOwn
set_option maxHeartbeats 4000000
namespace Go.Proofs.YtimdkcchjanpaaaGreatDoor
open Go.RowKit
set_option linter.unusedVariables false
theorem st_stepH {P:Program} {ops:Array Oper} {st:List Nat} {G:Nat → (Tmp → Option Value) → World → Prop} {sec:List Tmp} {Q:Act → Prop} {o:Oper} {rest:List Oper} {h:Act} {i:Nat} {s:Tmp} (k:Nat) (hi:st[k]? = some i) (hw:Region.wanted o (yielded ops h.tmps) = true) (hd:o.dst = some s) (hs:sec.contains s = true)
    (hrun:∀ (xs:Tmp → Option Value) (a:Act) (w:World),G k xs w → xs s = none → stLooks ops sec xs o h a → ∃ f args,(execOp a.eval o).run P w = .ok (.enter f args) w ∧ Calls P f args w fun e w' => ∃ u,e = .returned u ∧ G (k + 1) (fun t => if t = s then some u else xs t) w')
    (hk:wpSt P ops st G sec Q (i + 1) rest (h.put o.dst undef)):wpSt P ops st G sec Q i (o :: rest) h:=by
  unfold wpSt
  rw [if_pos hw]
  refine ⟨undef,fun j xs a w hj hjk hb hfr hlk => ?_,hk⟩
  obtain rfl:=hjk k hi
  have hs':s ∈ sec:=by simpa using hs
  obtain ⟨f,args,he,hc⟩:=hrun xs a w hb (hfr s hd hs') hlk
  rw [if_pos (List.mem_of_getElem? hi),he]
  refine ⟨rfl,hc.mono ?_⟩
  rintro e w' ⟨u,h0,h1⟩
  refine ⟨u,h0, ?_,by rw [hd]; exact .inl hs'⟩
  rw [hd]
  unfold hidPut
  simp only
  rw [if_pos hs']
  exact h1
end Go.Proofs.YtimdkcchjanpaaaGreatDoor
namespace Go.Proofs.YtimdkcchjanpaaaGreatDoor
open Go.RowKit
set_option linter.unusedVariables false
section
variable {P:Program} {ops:Array Oper} {st:List Nat} {G:Nat → (Tmp → Option Value) → World → Prop} {sec:List Tmp} {Q:Act → Prop} {o:Oper} {rest:List Oper} {h:Act} {i:Nat}
end
structure A2 {α:Type} (c:α → List Value) (kk:Nat) (t:TypeId) (a b e r:Tmp) (L:List α) (x:α) (W:World) (k:Nat) (xs:Tmp → Option Value) (w:World):Prop where
  below:Below W.heap.size W w
  one:∀ u,xs e = some u → ∃ g,u = .slice (some ⟨g,0,none⟩) 1 1 ∧ W.heap.size ≤ g ∧ w.heap[g]? = some (.cells (c x).toArray t (0,0))
  k0:k = 0 → xs b = none ∧ xs r = none ∧ ∀ u,xs a = some u → ∃ g,u = .slice (some ⟨g,0,none⟩) 0 0 ∧ W.heap.size ≤ g ∧ g < w.heap.size ∧ xs e ≠ some (.slice (some ⟨g,0,none⟩) 1 1)
  k1:k = 1 → xs r = none ∧ ∃ u,xs b = some u ∧ RowQ c kk w u L ∧ ∀ g,OwnO u g → W.heap.size ≤ g ∧ xs e ≠ some (.slice (some ⟨g,0,none⟩) 1 1)
  k2:k = 2 → ∃ u,xs r = some u ∧ RowQ c kk w u (L ++ [x]) ∧ ∀ g,OwnO u g → W.heap.size ≤ g
section
variable {α:Type} {c:α → List Value} {kk:Nat} {t:TypeId} {a b e r:Tmp} {L:List α} {x:α} {W w w':World} {k:Nat} {xs:Tmp → Option Value}
end
end Go.Proofs.YtimdkcchjanpaaaGreatDoor
namespace Go.Proofs.YtimdkcchjanpaaaGreatDoor
open Go.RowKit
set_option linter.unusedVariables false
variable {TB:TypeId} {od:Nat} {X Y:List Value}
def EkAt (TB:TypeId) (od:Nat) (X Y:List Value) (w:World) (b k N:Nat) (o:Option Nat):Prop := ∃ m R s,EkM TB od X Y w b m R s ∧ R.length = N ∧ R[k]? = some o
def EkLen (TB:TypeId) (od:Nat) (X Y:List Value) (w:World) (b N:Nat):Prop := ∃ m R s,EkM TB od X Y w b m R s ∧ R.length = N
theorem EkLen.at_ {w:World} {b k N:Nat} (h:EkLen TB od X Y w b N) (hk:k < N):∃ o m,EkAt TB od X Y w b k N o ∧ w.cell? ⟨b,od,none⟩ = some (.slice (some ⟨m,0,none⟩) N N) ∧ w.cell? ⟨m,k,none⟩ = some (ptV o):=by
  obtain ⟨m,R,s,h1,h2⟩:=h
  subst h2
  obtain ⟨o,ho⟩:∃ o,R[k]? = some o:=⟨_,List.getElem?_eq_getElem hk⟩
  exact ⟨o,m,⟨m,R,s,h1,rfl,ho⟩,h1.cells,(h1.at_ ho).1⟩
structure EkInv (TB:TypeId) (od:Nat) (X Y:List Value) (g:Nat) (lb:Array Value) (b N:Nat) (Inv:Nat → World → Prop):Prop where
  obj:∀ k w,k ≤ N → Inv k w → EkLen TB od X Y w b N
  no:∀ k w,k < N → Inv k w → EkAt TB od X Y w b k N none → Inv (k + 1) w
  yes:∀ k w z,k < N → Inv k w → EkAt TB od X Y w b k N (some z) → Calls Tryz.prog g (#[.int .i64 k] ++ lb) w fun e w' => e = .returned (.tuple #[]) ∧ Inv (k + 1) w'
theorem keach_v (g:Nat) (lb:Array Value) (eg:∀ args w,(callFunc g args).run Tryz.prog w = .ok (.enter g args) w) {b N:Nat} {Inv:Nat → World → Prop} (hI:EkInv TB od X Y g lb b N Inv) (hN:N ≤ 1000) (w:World) (h0:Inv 0 w) :
    Calls Tryz.prog 136 #[.pointer (some ⟨b,od,none⟩), .func (.func g) #[] lb] w fun e w' => e = .returned (.tuple #[]) ∧ Inv N w':=by
  have HI:=Lib.hid hI
  have H0:=Lib.hid h0
  have hc0:∃ m,w.cell? ⟨b,od,none⟩ = some (.slice (some ⟨m,0,none⟩) N N):=by
    obtain ⟨m,R,s,h1,h2⟩:=hI.obj 0 w (Nat.zero_le _) h0
    subst h2
    exact ⟨m,h1.cells⟩
  obtain ⟨m0,c0⟩:=hc0
  clear hI h0
  go_enter Tryz.func136,Tryz.ntmps136
  go_wp2
  go_loopw [12] (fun x wr => ∃ k:Nat,k ≤ N ∧ x = .int .i64 k ∧ Hid (Inv k wr)) (fun x _ => N - (intOf x).toNat)
  case atStart => exact ⟨0,Nat.zero_le _,rfl,H0⟩
  case round =>
    obtain ⟨k,hk,rfl,HR⟩:=hrel
    clear c0
    by_cases hlt:k < N
    · have hd:decide (k < N) = true:=decide_eq_true hlt
      obtain ⟨o,m,HA,c0,c1⟩:=(HI.out.obj k wr hk HR.out).at_ hlt
      cases o with
      | none =>
        rw [ptV_none] at c1
        have HS:=Lib.hid (HI.out.no k wr hlt HR.out HA)
        clear HA
        go_wp2
        go_roundw
        case rel => exact ⟨k + 1,by omega,by go_num,HS⟩
        case measure => simp [intOf]; omega
      | some z =>
        rw [ptV_some] at c1
        have CS:=Lib.hid (HI.out.yes k wr z hlt HR.out HA)
        clear HA
        go_wp2_with fail
        refine CS.out.mono ?_
        rintro e W' ⟨rfl,hI⟩
        have HS:=Lib.hid hI
        clear hI c0 c1
        go_wp2
        go_roundw
        case rel => exact ⟨k + 1,by omega,by go_num,HS⟩
        case measure => simp [intOf]; omega
    · have hd:decide (k < N) = false:=decide_eq_false hlt
      obtain rfl:k = N:=by omega
      go_wp2
      go_end0
      exact ⟨rfl,HR.out⟩
theorem EkM.flag {w:World} {b m k:Nat} {R:List (Option Nat)} {s:Ec} {o:Option Nat} (h:EkM TB od X Y w b m R s) (ho:R[k]? = some o):s.F[k]? = some o.isSome:=by rw [h.full,List.getElem?_map,ho]; rfl
theorem EkAt.get {w:World} {b k N m:Nat} {o:Option Nat} {R:List (Option Nat)} {s:Ec} (h:EkAt TB od X Y w b k N o) (hm:EkM TB od X Y w b m R s):R[k]? = some o:=by
  obtain ⟨m',R',s',h1,h2,h3⟩:=h
  have e:=h1.box.symm.trans hm.box
  injection e with e
  injection e with e
  have e:(Value.slice (some ⟨m',0,none⟩) R'.length R'.length) = (Value.slice (some ⟨m,0,none⟩) R.length R.length):=by simpa using e
  injection e with e
  injection e with e
  injection e with e
  subst e
  have e2:=h1.row.symm.trans hm.row
  injection e2 with e2
  injection e2 with e2
  have e2:R'.map ptV = R.map ptV:=by simpa using e2
  have hi:∀ a b:Option Nat,ptV a = ptV b → a = b:=fun a b h => by
    cases a <;> cases b <;> simp [ptV] at h ⊢
    exact h
  have:R' = R:=List.map_inj_right (fun a b h => hi a b h) |>.1 e2
  rw [← this]; exact h3
end Go.Proofs.YtimdkcchjanpaaaGreatDoor
namespace Go.Proofs.YtimdkcchjanpaaaGreatDoor
open Go.RowKit
set_option linter.unusedVariables false
variable {TB:TypeId} {od:Nat} {X Y:List Value}
def flK (F:List Bool) (k:Nat):List Bool:=List.replicate k false ++ F.drop k
def gatK (s:Ec) (k:Nat):List Pk:=allE (s.H.take k) (s.F.take k)
theorem flK_zero (F:List Bool):flK F 0 = F:=rfl
theorem flK_all (F:List Bool):flK F F.length = List.replicate F.length false:=by unfold flK; rw [List.drop_length,List.append_nil]
theorem flK_at {F:List Bool} {k:Nat} {b:Bool} (h:(flK F k)[k]? = some b):F[k]? = some b:=by
  unfold flK at h
  rw [List.getElem?_append_right (by simp),List.length_replicate,Nat.sub_self,List.getElem?_drop,Nat.add_zero] at h
  exact h
theorem flK_set {F:List Bool} {k:Nat} {b:Bool} (h:F[k]? = some b):(flK F k).set k false = flK F (k + 1):=by
  have hk:k < F.length:=by
    rcases Nat.lt_or_ge k F.length with h1 | h1
    · exact h1
    · rw [List.getElem?_eq_none h1] at h; cases h
  unfold flK
  rw [List.set_append_right _ _ (by simp),List.length_replicate,Nat.sub_self,List.drop_eq_getElem_cons hk,List.set_cons_zero,List.replicate_succ',List.append_assoc]
  rfl
theorem flK_skip {F:List Bool} {k:Nat} (h:F[k]? = some false):flK F k = flK F (k + 1):=by
  rw [← flK_set h]
  have hk:k < F.length:=by
    rcases Nat.lt_or_ge k F.length with h1 | h1
    · exact h1
    · rw [List.getElem?_eq_none h1] at h; cases h
  refine (List.ext_getElem? fun j => ?_)
  rw [List.getElem?_set]
  split
  · rename_i e
    subst e
    have hl:k < (flK F k).length:=by unfold flK; simp; omega
    rw [if_pos hl]
    unfold flK
    rw [List.getElem?_append_right (by simp),List.length_replicate,Nat.sub_self,List.getElem?_drop,Nat.add_zero,h]
  · rfl
theorem allE_app:∀ (H H':List Pk) (F F':List Bool),H.length = F.length → allE (H ++ H') (F ++ F') = allE H F ++ allE H' F'
  | [],_, [],_,_ => rfl
  | [],_,_ :: _,_,h => by cases h
  | _ :: _,_, [],_,h => by cases h
  | p :: H,H',f :: F,F',h => by
    have ih:=allE_app H H' F F' (by simpa using h)
    simp only [List.cons_append,allE]
    split
    · rw [ih]; rfl
    · exact ih
theorem gatK_succ {s:Ec} {k:Nat} {b:Bool} (hl:s.H.length = s.F.length) (h:s.F[k]? = some b):gatK s (k + 1) = gatK s k ++ if b then [s.H.getD k pk0] else []:=by
  have hk:k < s.F.length:=by
    rcases Nat.lt_or_ge k s.F.length with h1 | h1
    · exact h1
    · rw [List.getElem?_eq_none h1] at h; cases h
  have hp:s.H[k]? = some (s.H.getD k pk0):=by rw [List.getD_eq_getElem?_getD,List.getElem?_eq_getElem (by omega)]; rfl
  unfold gatK
  rw [List.take_add_one,List.take_add_one,hp,h]
  rw [allE_app _ _ _ _ (by rw [List.length_take,List.length_take,hl])]
  cases b <;> simp [allE]
theorem gatK_len (s:Ec) (k:Nat):(gatK s k).length ≤ k:=by
  unfold gatK
  exact Nat.le_trans (allE_len _ _) (by rw [List.length_take]; omega)
theorem gatK_all (s:Ec) (hl:s.H.length = s.F.length):gatK s s.F.length = s.all:=by
  unfold gatK Ec.all
  rw [List.take_length,← hl,List.take_length]
structure FlI (TB:TypeId) (od:Nat) (X Y:List Value) (w:World) (b m:Nat) (R:List (Option Nat)) (s:Ec) (k:Nat) (u:Value) (Rk:List (Option Nat)) (wr:World):Prop where
  tab:EkM TB od X Y wr b m Rk ⟨s.H,flK s.F k⟩
  len:Rk.length = R.length
  sub:∀ j,ekO b m Rk j → ekO b m R j
  kept:Kept (ekO b m R) w wr
  bt:Bx1 wr w.heap.size (.pointer (some ⟨b,od,none⟩)) 93
  bs:Bx1 wr (w.heap.size + 1) u 32
  row:RowQ pkC 7 wr u (gatK s k)
  own:∀ g,OwnO u g → w.heap.size + 2 ≤ g
def FlJ (TB:TypeId) (od:Nat) (X Y:List Value) (w:World) (b m:Nat) (R:List (Option Nat)) (s:Ec) (k:Nat) (wr:World):Prop := ∃ u Rk,FlI TB od X Y w b m R s k u Rk wr
structure EkFl (TB:TypeId) (od:Nat) (X Y:List Value) (b m:Nat) (R R':List (Option Nat)) (s s':Ec) (u:Value) (p:Pk) (L:List Pk) (W:World) (j:Nat) (xs:Tmp → Option Value) (w:World):Prop where
  kept:Kept (fun k => ekO b m R k ∨ OwnO u k) W w
  tab:EkM TB od X Y w b m (if j = 0 then R else R') (if j = 0 then s else s')
  row:RowS pkC 7 u p 37 L W 8 9 xs w
section
variable {b m j:Nat} {R R':List (Option Nat)} {s s':Ec} {u v':Value} {p:Pk} {L:List Pk} {W w w':World} {xs:Tmp → Option Value}
theorem EkFl.start (h:EkM TB od X Y W b m R s) (hq:RowQ pkC 7 W u L):EkFl TB od X Y b m R R' s s' u p L W 0 (fun _ => none) W.drew:=⟨.of_below (Below.refl _ _).drew,h.later (Below.refl _ _).drew,RowS.start hq⟩
theorem EkFl.one (h:EkFl TB od X Y b m R R' s s' u p L W j xs w):EkFl TB od X Y b m R R' s s' u p L W j (fun r => if r = 8 then some (.slice (some ⟨w.heap.size,0,none⟩) 1 1) else xs r) (w.alloc (.cells (pkC p).toArray 37)):=by
  have hb:Below w.heap.size w (w.alloc (.cells (pkC p).toArray 37)):=(Below.refl _ _).alloc (Nat.le_refl _) _
  exact ⟨h.kept.trans (.of_below (O:=fun k => ekO b m R k ∨ OwnO u k) hb) (Grows.refl _ _),h.tab.later hb,h.row.one (by decide) h.kept.size⟩
theorem EkFl.app (h:EkFl TB od X Y b m R R' s s' u p L W j xs w) (hlt:∀ k,OwnO u k → k < W.heap.size) (hap:Apart (ekO b m R) (OwnO u)) (hsub:∀ k,ekO b m R' k → ekO b m R k) (hq:RowQ pkC 7 w' v' (L ++ [p])) (hk:Kept (OwnO u) w w') (hg:Grows (OwnO u) w (OwnO v')):EkFl TB od X Y b m R R' s s' u p L W j (fun r => if r = 9 then some v' else xs r) w':=by
  refine ⟨h.kept.trans (kept_to hk fun k h => .inr h) (Grows.refl _ _),h.tab.stay (fun k hk' => hk.block k (h.tab.lt k hk') (fun ho => hap k ?_ ho)),RowS.app hq hg h.kept.size⟩
  split at hk'
  · exact hk'
  · exact hsub k hk'
theorem EkFl.lift (h:EkFl TB od X Y b m R R' s s' u p L W 0 xs w) (hltR:∀ k,ekO b m R k → k < W.heap.size) (hap:Apart (ekO b m R) (OwnO u)) (hm:EkM TB od X Y w' b m R' s') (hk:Kept (ekO b m R) w w'):EkFl TB od X Y b m R R' s s' u p L W 1 xs w' :=
  ⟨h.kept.trans (kept_to hk fun k h => .inl h) (Grows.refl _ _),hm,h.row.keep hk h.kept.size (fun k hk' => ⟨hltR k hk',fun ho => hap k hk' ho⟩)⟩
end
theorem flushClos {w wr:World} {b m y:Nat} {R Rk:List (Option Nat)} {s:Ec} {k:Nat} {u:Value} (hltR:∀ j,ekO b m R j → j < w.heap.size) (hlen:s.H.length = s.F.length) (hn:s.F.length ≤ 1000) (h:FlI TB od X Y w b m R s k u Rk wr) (hy:Rk[k]? = some (some y)) :
    Calls Tryz.prog 137 #[.int .i64 k, .pointer (some ⟨w.heap.size + 1,0,none⟩), .pointer (some ⟨w.heap.size,0,none⟩)] wr fun e w' => e = .returned (.tuple #[]) ∧ FlJ TB od X Y w b m R s (k + 1) w':=by
  have H:=Lib.hid h
  have HY:=Lib.hid hy
  have hf:s.F[k]? = some true:=flK_at (h.tab.flag hy)
  obtain ⟨p,hp⟩:∃ p,s.H.getD k pk0 = p:=⟨_,rfl⟩
  have HP:=Lib.hid hp
  have HG:Hid (gatK s (k + 1) = gatK s k ++ [p]):=Lib.hid (by rw [gatK_succ hlen hf,hp]; rfl)
  have HS:Hid ((flK s.F k).set k false = flK s.F (k + 1)):=Lib.hid (flK_set hf)
  have HK:Hid (k < 1000):=Lib.hid (by
    rcases Nat.lt_or_ge k s.F.length with h1 | h1
    · omega
    · rw [List.getElem?_eq_none h1] at hf; cases hf)
  have c0:=h.bt.cell
  have c1:=h.bs.cell
  have f1:=h.bs.live
  have HLT:=Lib.hid hltR
  have hap:Apart (ekO b m Rk) (OwnO u):=fun j hj ho => by have:=hltR j (h.sub j hj); have:=h.own j ho; omega
  have HAP:=Lib.hid hap
  have HUL:=Lib.hid h.row.lt
  obtain ⟨A,cap,rfl⟩:=h.row.shape
  have HRow:=Lib.hid h.row
  have hz0:=h.bt.lt
  have hz1:=h.bs.lt
  have n0:¬ (ekO b m Rk w.heap.size ∨ OwnO (.slice A (gatK s k).length cap) w.heap.size):=by
    rintro (h1 | h1)
    · have:=hltR _ (h.sub _ h1); omega
    · have:=h.own _ h1; omega
  have n1:¬ (ekO b m Rk (w.heap.size + 1) ∨ OwnO (.slice A (gatK s k).length cap) (w.heap.size + 1)):=by
    rintro (h1 | h1)
    · have:=hltR _ (h.sub _ h1); omega
    · have:=h.own _ h1; omega
  generalize hL:gatK s k = L at *
  clear h hy hf hp hap hltR
  go_enter Tryz.func137,Tryz.ntmps137
  have hc0:∀ (q:KLater (fun j => ekO b m Rk j ∨ OwnO (.slice A L.length cap) j) wr) (o:Nat),q.w.cell? ⟨w.heap.size,o,none⟩ = wr.cell? ⟨w.heap.size,o,none⟩:=fun q o => q.cell w.heap.size o hz0 n0
  have hc1:∀ (q:KLater (fun j => ekO b m Rk j ∨ OwnO (.slice A L.length cap) j) wr) (o:Nat),q.w.cell? ⟨w.heap.size + 1,o,none⟩ = wr.cell? ⟨w.heap.size + 1,o,none⟩:=fun q o => q.cell (w.heap.size + 1) o hz1 n1
  refine wp_region_st 6 [3] (EkFl TB od X Y b m Rk (Rk.set k none) ⟨s.H,flK s.F k⟩ ⟨s.H,(flK s.F k).set k false⟩ (.slice A L.length cap) p L wr) [8,9] (EkFl.start H.out.tab HRow.out) (by kernel_rfl) (by kernel_rfl) (by kernel_rfl) (by kernel_rfl) (by kernel_rfl) (by kernel_rfl) (by kernel_rfl) ?_
  simp only [List.take_succ_cons,List.take_zero,List.drop_succ_cons,List.drop_zero]
  iterate 3 (refine st_plain (fun h => h.kept) (by rfl) (by rfl) (by rfl) (by rfl) (by rfl) ?_; intro K hK; go_big_quiet_op; go_big_quiet_on)
  refine st_step (f:=124) (args := #[.pointer (some ⟨b,od,none⟩), .int .i64 k]) (v:=pkV p) 0 (by rfl) (by rfl) (by rfl) (by rfl) (by rfl) (fun w => by simp [go_sem]) (fun xs9 w9 h9 => ?_) ?_
  · have g1:EkM TB od X Y w9 b m Rk ⟨s.H,flK s.F k⟩:=h9.tab
    refine (kelift_v g1 HY.out HP.out).mono ?_
    rintro e w' ⟨he,hm',hk'⟩
    exact ⟨he,h9.lift (fun j hj => Nat.lt_of_lt_of_le (HLT.out j (H.out.sub j hj)) H.out.kept.size) HAP.out hm' hk'⟩
  simp only [Act.put,List.setIfInBounds_toArray,List.set_cons_succ,List.set_cons_zero]
  refine st_new (s:=8) (mk:=fun w => .slice (some ⟨w.heap.size,0,none⟩) 1 1) (ob:=fun _ => .cells (pkC p).toArray 37) (by rfl) (by rfl) (by rfl) (by rfl) (by rfl) (by rfl) (fun _ => by kernel_rfl) (fun j xs w h => h.one) ?_
  simp only [Act.put,List.setIfInBounds_toArray,List.set_cons_succ,List.set_cons_zero]
  refine st_appF (ts:=4) (tx:=8) (tr:=9) (L:=L) (M := [p]) flat_pk pkC_len pkC_one (by rfl) (by rfl) (by rfl) (by rfl) (by rfl) (by rfl) (by rfl) (by decide) (by decide) (by rfl) (fun j xs w x hG h0 hx => hG.row.rd pkC_len h0 hx) (by rw [← hL]; have:=gatK_len s k; have:=HK.out; simp; omega) (fun j xs w v' w' hG h1 h2 h3 => hG.app HUL.out HAP.out (ekO_sub k) h1 h2 h3) ?_
  simp only [Act.put,List.setIfInBounds_toArray,List.set_cons_succ,List.set_cons_zero]
  intro ys xs w2 hF h2
  have e9:=hF 9 (by simp)
  obtain ⟨hq9,hg9⟩:=h2.row.out e9
  have ht2:EkM TB od X Y w2 b m (Rk.set k none) ⟨s.H,(flK s.F k).set k false⟩:=h2.tab
  rw [HS.out] at ht2
  have HT2:=Lib.hid ht2
  have HK2:=Lib.hid h2.kept
  have HQ9:=Lib.hid hq9
  have HG9:=Lib.hid hg9
  have HB2:=Lib.hid (H.out.bt.kept h2.kept n0)
  have HBS2:=Lib.hid (H.out.bs.kept h2.kept n1)
  have c9:=HBS2.out.cell
  have f9:=HBS2.out.live
  simp only [secFill]
  simp only [Act.put,List.setIfInBounds_toArray,List.set_cons_succ,List.set_cons_zero]
  generalize ys 9 = u9 at *
  obtain ⟨A9,cap9,hv9⟩:=HQ9.out.shape
  rw [List.length_append,List.length_singleton] at hv9
  subst hv9
  clear hF h2 e9 hc0 hc1 ht2 hq9 hg9 c0 c1 f1
  go_wp2
  go_end0
  have hge:∀ g,OwnO (.slice A9 (L.length + 1) cap9) g → w.heap.size + 2 ≤ g:=fun g hg => by
    rcases HG9.out g hg with h | h
    · exact H.out.own g h
    · omega
  have hne:∀ g,g ≠ w.heap.size + 1 → (w2.setCell ⟨w.heap.size + 1,0,none⟩ (.slice A9 (L.length + 1) cap9)).heap[g]? = w2.heap[g]?:=fun g hg => Below.heap_setCell _ _ _ _ hg
  have hsz:w2.heap.size ≤ (w2.setCell ⟨w.heap.size + 1,0,none⟩ (.slice A9 (L.length + 1) cap9)).heap.size:=by simp [World.setCell]
  have hkr:Kept (ekO b m R) w w2:=⟨HK2.out.os.trans H.out.kept.os,HK2.out.tape.trans H.out.kept.tape,HK2.out.output.trans H.out.kept.output,Nat.le_trans H.out.kept.size HK2.out.size,fun j h1 h2 => by
    rw [HK2.out.block j (Nat.lt_of_lt_of_le h1 H.out.kept.size) (by
      rintro (h3 | h3)
      · exact h2 (H.out.sub j h3)
      · have:=H.out.own j h3; omega)]
    exact H.out.kept.block j h1 h2⟩
  refine ⟨rfl, .slice A9 (L.length + 1) cap9,Rk.set k none,HT2.out.stay (fun j hj => hne j (fun e => ?_)),by rw [List.length_set]; exact H.out.len,fun j hj => H.out.sub j (ekO_sub k j hj),⟨hkr.os,hkr.tape,hkr.output,Nat.le_trans hkr.size hsz,fun j h1 h2 => (hne j (by omega)).trans (hkr.block j h1 h2)⟩,HB2.out.other (by omega) _,HBS2.out.set _, ?_,hge⟩
  · have:=HLT.out j (H.out.sub j (ekO_sub k j hj)); omega
  · rw [HG.out]
    exact HQ9.out.stay (fun g hg => hne g (by have:=hge g hg; omega)) hsz
theorem flInv {w:World} {b m N:Nat} {R:List (Option Nat)} {s:Ec} (hltR:∀ j,ekO b m R j → j < w.heap.size) (hlen:s.H.length = s.F.length) (hR:s.F.length = N) (hN:N ≤ 1000) (hRl:R.length = N) :
    EkInv TB od X Y 137 #[.pointer (some ⟨w.heap.size + 1,0,none⟩), .pointer (some ⟨w.heap.size,0,none⟩)] b N (FlJ TB od X Y w b m R s) where
  obj:=fun k wr _ ⟨u,Rk,h⟩ => ⟨m,Rk,_,h.tab,h.len.trans hRl⟩
  no:=fun k wr hk ⟨u,Rk,h⟩ ha => by
    have hf:=flK_at (h.tab.flag (ha.get h.tab))
    have hf:s.F[k]? = some false:=hf
    have hg:gatK s (k + 1) = gatK s k:=by rw [gatK_succ hlen hf]; simp
    exact ⟨u,Rk,by rw [← flK_skip hf]; exact h.tab,h.len,h.sub,h.kept,h.bt,h.bs,by rw [hg]; exact h.row,h.own⟩
  yes:=fun k wr y hk ⟨u,Rk,h⟩ ha => flushClos hltR hlen (by omega) h (ha.get h.tab)
theorem keflush_v {v:Value} {s:Ec} {O:Nat → Prop} (w:World) (h:EkD TB od X Y w v s O) (ok:s.Ok) :
    Calls Tryz.prog 105 #[v] w fun e w' => ∃ u,e = .returned u ∧ SlG pkC 7 w' w'.heap.size u s.all ∧ Stp (EkD TB od X Y) v O w s.flush w':=by
  obtain ⟨b,m,R,rfl,rfl,hm⟩:=h
  have hl:=hm.len
  have hn2:=ok.n2
  have hb1:=(Below.refl w.heap.size w).alloc (Nat.le_refl _) (.cells #[.pointer (some ⟨b,od,none⟩)] 93)
  obtain ⟨w1,hw1⟩:∃ w1,w.alloc (.cells #[.pointer (some ⟨b,od,none⟩)] 93) = w1:=⟨_,rfl⟩
  have x1:Bx1 w1 w.heap.size (.pointer (some ⟨b,od,none⟩)) 93:=by rw [← hw1]; exact Bx1.made w _ _ rfl
  have s1:w1.heap.size = w.heap.size + 1:=by rw [← hw1]; simp
  rw [hw1] at hb1
  have hb2:=(Below.refl w1.heap.size w1).alloc (Nat.le_refl _) (.cells #[.slice none 0 0] 32)
  obtain ⟨w2,hw2⟩:∃ w2,w1.alloc (.cells #[.slice none 0 0] 32) = w2:=⟨_,rfl⟩
  have x2:Bx1 w2 (w.heap.size + 1) (.slice none 0 0) 32:=by rw [← hw2]; exact Bx1.made w1 _ _ s1
  rw [hw2] at hb2
  have hb:=fbelow_t hb1 hb2
  have hI:FlJ TB od X Y w b m R s 0 w2:=⟨.slice none 0 0,R,by rw [flK_zero]; exact hm.later hb,rfl,fun j h => h, .of_below hb,x1.later hb2,x2,by rw [show gatK s 0 = [] by unfold gatK; rw [List.take_zero]; rfl]; exact RowQ.nil _,fun g hg => by cases hg⟩
  have HC:=Lib.hid (keach_v 137 #[.pointer (some ⟨w.heap.size + 1,0,none⟩), .pointer (some ⟨w.heap.size,0,none⟩)] (fun _ _ => by kernel_rfl) (flInv hm.lt ok.len hl (by omega) rfl) (by omega) _ hI)
  have HG:Hid (gatK s R.length = s.all):=Lib.hid (by rw [← hl]; exact gatK_all s ok.len)
  have HF:Hid ((⟨s.H,flK s.F R.length⟩:Ec) = s.flush):=Lib.hid (by rw [← hl,flK_all]; rfl)
  have c0:=(x1.later hb2).cell
  have HN:Hid (s.all.length ≤ maxLen):=Lib.hid (by have:=allE_len s.H s.F; unfold Ec.all maxLen; omega)
  clear hm hl hb hI ok hn2 hb1 hb2 x1 x2
  go_enter Tryz.func105,Tryz.ntmps105
  go_wp2_with fail
  refine HC.out.mono ?_
  rintro e w3 ⟨rfl,u,Rk,hJ⟩
  have c3:=hJ.bs.cell
  have HJ:=Lib.hid hJ
  have hrow:=hJ.row
  rw [HG.out] at hrow
  obtain ⟨A3,cap3,rfl⟩:=hrow.shape
  have HR:=Lib.hid hrow
  clear hJ hrow c0
  go_wp2
  go_ret
  refine ⟨_,rfl,HR.out.sl pkC_len HN.out,_,⟨b,m,Rk,rfl,rfl, ?_⟩,HJ.out.kept,fun k hk => .inl (HJ.out.sub k hk)⟩
  rw [← HF.out]; exact HJ.out.tab
end Go.Proofs.YtimdkcchjanpaaaGreatDoor
namespace Go.Proofs.YtimdkcchjanpaaaGreatDoor
open Go.RowKit
set_option linter.unusedVariables false
structure Rg (α:Type) where
  L:List α
  m:Nat
  n:Nat
def Reads (w:World) (v:Value) (e:Ending) (w':World):Prop:=e = .returned v ∧ ∃ n,w' = w.drewN n
def rgO (b:Nat) (p:Option Addr):Nat → Prop:=fun k => k = b ∨ ∃ a,p = some a ∧ k = a.block
theorem rheap_lt {w:World} {k:Nat} {o:Obj} (h:w.heap[k]? = some o):k < w.heap.size:=(Array.getElem?_eq_some_iff.1 h).1
theorem mod_two {x k:Nat} (h1:k ≤ x) (h2:x < k + k):x % k = x - k:=by
  rw [Nat.mod_eq_sub_mod h1,Nat.mod_eq_of_lt (by omega)]
theorem mod_cut {x k:Nat} (h:x < k + k):x % k = if x < k then x else x - k:=by
  by_cases h1:x < k
  · rw [if_pos h1,Nat.mod_eq_of_lt h1]
  · rw [if_neg h1,mod_two (by omega) h]
section
variable {α:Type} {S L:List α} {f:Nat}
theorem round_put (hf:f < S.length) (hl:L.length < S.length) (hm:∀ i,i < L.length → S[(f + i) % S.length]? = L[i]?) (x:α) :
    ∀ i,i < (L ++ [x]).length → (S.set ((f + L.length) % S.length) x)[(f + i) % (S.set ((f + L.length) % S.length) x).length]? = (L ++ [x])[i]?:=by
  intro i hi
  rw [List.length_append] at hi
  simp at hi
  rw [List.length_set,List.getElem?_set]
  have e1:=mod_cut (x:=f + L.length) (k:=S.length) (by omega)
  have e2:=mod_cut (x:=f + i) (k:=S.length) (by omega)
  by_cases h:i = L.length
  · subst h
    rw [if_pos rfl,if_pos (Nat.mod_lt _ (by omega)),List.getElem?_append_right (Nat.le_refl _)]
    simp
  · have hne:(f + L.length) % S.length ≠ (f + i) % S.length:=by
      rw [e1,e2]
      split <;> split <;> omega
    rw [if_neg hne,List.getElem?_append_left (by omega)]
    exact hm i (by omega)
theorem round_take {x:α} (hf:f < S.length) (hl:(x :: L).length ≤ S.length) (hm:∀ i,i < (x :: L).length → S[(f + i) % S.length]? = (x :: L)[i]?) (z:α) :
    ∀ i,i < L.length → (S.set f z)[((f + 1) % S.length + i) % (S.set f z).length]? = L[i]?:=by
  intro i hi
  simp at hl
  rw [List.length_set,List.getElem?_set]
  have e1:=mod_cut (x:=f + 1) (k:=S.length) (by omega)
  have e3:=mod_cut (x:=f + (i + 1)) (k:=S.length) (by omega)
  have e4:((f + 1) % S.length + i) % S.length = (f + (i + 1)) % S.length:=by
    rw [Nat.mod_add_mod]
    congr 1
    omega
  have hne:f ≠ (f + (i + 1)) % S.length:=by
    rw [e3]
    split <;> omega
  rw [e4,if_neg hne,hm (i + 1) (by simp; omega)]
  simp
theorem round_first {x:α} (hf:f < S.length) (hm:∀ i,i < (x :: L).length → S[(f + i) % S.length]? = (x :: L)[i]?):S[f]? = some x:=by
  have:=hm 0 (by simp)
  rwa [Nat.add_zero,Nat.mod_eq_of_lt hf] at this
theorem round_pieces (hf:f < S.length) (hl:L.length ≤ S.length) (hm:∀ i,i < L.length → S[(f + i) % S.length]? = L[i]?) :
    L = (S.drop f).take (f + L.length - (f + L.length - S.length) - f) ++ S.take (f + L.length - S.length):=by
  apply List.ext_getElem?
  intro i
  by_cases hi:i < L.length
  · rw [← hm i hi,mod_cut (by omega),List.getElem?_append]
    simp only [List.length_take,List.length_drop,List.getElem?_take,List.getElem?_drop]
    by_cases h:f + i < S.length
    · rw [if_pos h,if_pos (by omega),if_pos (by omega)]
    · rw [if_neg h,if_neg (by omega),if_pos (by omega)]
      congr 1
      omega
  · rw [List.getElem?_eq_none (by omega),List.getElem?_eq_none (by simp; omega)]
theorem round_new (z:α) {k:Nat} (hk:L.length ≤ k):∀ i,i < L.length → (L ++ List.replicate (k - L.length) z)[(0 + i) % (L ++ List.replicate (k - L.length) z).length]? = L[i]?:=by
  intro i hi
  rw [Nat.mod_eq_of_lt (by simp; omega),Nat.zero_add,List.getElem?_append_left hi]
end
theorem Kept.setCell {O:Nat → Prop} {w w':World} (h:Kept O w w') {p:Addr} (hp:O p.block) (u:Value):Kept O w (w'.setCell p u) :=
  ⟨h.os,h.tape,h.output,by simpa [World.setCell] using h.size,fun k hk hn => (Below.heap_setCell w' p u k (by intro e; exact hn (by rw [e]; exact hp))).trans (h.block k hk hn)⟩
theorem Kept.setNew {O:Nat → Prop} {w w':World} (h:Kept O w w') {p:Addr} (hp:w.heap.size ≤ p.block) (u:Value):Kept O w (w'.setCell p u) :=
  ⟨h.os,h.tape,h.output,by simpa [World.setCell] using h.size,fun k hk hn => (Below.heap_setCell w' p u k (by intro e; omega)).trans (h.block k hk hn)⟩
theorem Kept.below_ {O:Nat → Prop} {w w' w2:World} (h:Kept O w w') (hb:Below w'.heap.size w' w2):Kept O w w2 :=
  ⟨hb.os.trans h.os,hb.tape.trans h.tape,hb.output.trans h.output,Nat.le_trans h.size hb.size,fun k hk hn => (hb.block k (Nat.lt_of_lt_of_le hk h.size)).trans (h.block k hk hn)⟩
end Go.Proofs.YtimdkcchjanpaaaGreatDoor
namespace Go.Proofs.YtimdkcchjanpaaaGreatDoor
open Go.RowKit
set_option linter.unusedVariables false
abbrev fr0:Fr:=⟨0,0,0,ByteArray.mk #[]⟩
def rfC (p:Option Addr) (k:Nat) (f l m n:Int):List Value := [.slice p k k, .int .i64 f, .int .i64 l, .int .i64 m, .int .i64 n]
structure RfM (TB:TypeId) (o:Nat) (X Y:List Value) (w:World) (b:Nat) (p:Option Addr) (S:List Fr) (f:Nat) (s:Rg Fr):Prop where
  box:w.heap[b]? = some (.cells (X ++ (rfC p S.length (f:Int) (s.L.length:Int) (s.m:Int) (s.n:Int) ++ Y)).toArray TB (0,0))
  off:X.length = o
  row:(p = none ∧ S = [] ∧ f = 0) ∨ ∃ g,p = some ⟨g,0,none⟩ ∧ w.heap[g]? = some (.cells (rowG frC S).toArray 35 (0,0)) ∧ g ≠ b ∧ f < S.length
  len:s.L.length ≤ S.length
  fit:S.length ≤ s.m
  lo:1 ≤ s.m
  hi:s.m ≤ 1000
  mem:∀ i,i < s.L.length → S[(f + i) % S.length]? = s.L[i]?
def RfI (TB:TypeId) (o:Nat) (X Y:List Value):World → Value → Rg Fr → (Nat → Prop) → Prop:=fun w v s O => ∃ b p S f,v = .pointer (some ⟨b,o,none⟩) ∧ O = rgO b p ∧ RfM TB o X Y w b p S f s
section
variable {TB:TypeId} {o:Nat} {X Y:List Value} {w w':World} {b f:Nat} {p:Option Addr} {S:List Fr} {s:Rg Fr}
theorem RfM.stay (h:RfM TB o X Y w b p S f s) (hs:∀ k,rgO b p k → w'.heap[k]? = w.heap[k]?):RfM TB o X Y w' b p S f s:=by
  refine ⟨(hs b (.inl rfl)).trans h.box,h.off, ?_,h.len,h.fit,h.lo,h.hi,h.mem⟩
  rcases h.row with h1 | ⟨g,rfl,h2,h3,h4⟩
  · exact .inl h1
  · exact .inr ⟨g,rfl,(hs g (.inr ⟨_,rfl,rfl⟩)).trans h2,h3,h4⟩
theorem RfM.lt (h:RfM TB o X Y w b p S f s):∀ k,rgO b p k → k < w.heap.size:=by
  rintro k (rfl | ⟨a,rfl,rfl⟩)
  · exact rheap_lt h.box
  · rcases h.row with ⟨h1,_⟩ | ⟨g,h1,h2,_⟩
    · cases h1
    · injection h1 with h1; subst h1; exact rheap_lt h2
theorem RfM.later (h:RfM TB o X Y w b p S f s) (hb:Below w.heap.size w w'):RfM TB o X Y w' b p S f s:=h.stay (fun k hk => hb.block k (h.lt k hk))
theorem rfI_obj (TB:TypeId) (o:Nat) (X Y:List Value):IsObj (RfI TB o X Y) where
  stay:=by
    rintro w w' v s O ⟨b,p,S,f,rfl,rfl,h⟩ hs
    exact ⟨b,p,S,f,rfl,rfl,h.stay hs⟩
  lt:=by
    rintro w v s O ⟨b,p,S,f,rfl,rfl,h⟩
    exact h.lt
theorem rf_cells {k:Nat} {f l m n:Int} (hb:w.heap[b]? = some (.cells (X ++ (rfC p k f l m n ++ Y)).toArray TB (0,0))) (ho:X.length = o):w.cell? ⟨b,o,none⟩ = some (.slice p k k) ∧ w.cell? ⟨b,o + 1,none⟩ = some (.int .i64 f) ∧ w.cell? ⟨b,o + 2,none⟩ = some (.int .i64 l) ∧ w.cell? ⟨b,o + 3,none⟩ = some (.int .i64 m) ∧ w.cell? ⟨b,o + 4,none⟩ = some (.int .i64 n):=by
  have e0:w.cell? ⟨b,o + 0,none⟩ = some (.slice p k k):=by rw [Lib.cell_of_heap hb,getX ho]; rfl
  refine ⟨by simpa using e0, ?_, ?_, ?_, ?_⟩ <;> (rw [Lib.cell_of_heap hb,getX ho]; rfl)
theorem RfM.cells (h:RfM TB o X Y w b p S f s):w.cell? ⟨b,o,none⟩ = some (.slice p S.length S.length) ∧ w.cell? ⟨b,o + 1,none⟩ = some (.int .i64 (f:Int)) ∧ w.cell? ⟨b,o + 2,none⟩ = some (.int .i64 (s.L.length:Int)) ∧ w.cell? ⟨b,o + 3,none⟩ = some (.int .i64 (s.m:Int)) ∧ w.cell? ⟨b,o + 4,none⟩ = some (.int .i64 (s.n:Int)):=rf_cells h.box h.off
theorem RfM.live (h:RfM TB o X Y w b p S f s) (i:Nat):w.frozen? ⟨b,i,none⟩ = false:=Lib.frozen_of_heap h.box i
theorem RfM.blt (h:RfM TB o X Y w b p S f s):b < w.heap.size:=rheap_lt h.box
theorem rowF_cell {g:Nat} (h:w.heap[g]? = some (.cells (rowG frC S).toArray 35 (0,0))) {i:Nat} {x:Fr} (hx:S[i]? = some x):w.cell? ⟨g,i * 4,none⟩ = some (.int .i64 x.i) ∧ w.cell? ⟨g,i * 4 + 1,none⟩ = some (.int .i64 x.n) ∧ w.cell? ⟨g,i * 4 + 2,none⟩ = some (.int .i64 x.l) ∧ w.cell? ⟨g,i * 4 + 3,none⟩ = some (.string x.d):=by
  have key:∀ j u,(frC x)[j]? = some u → w.cell? ⟨g,i * 4 + j,none⟩ = some u:=fun j u hu => by
    rw [Lib.cell_of_heap h]
    simpa using rowG_get frC_len S i _ hx j u hu
  exact ⟨key 0 _ rfl,key 1 _ rfl,key 2 _ rfl,key 3 _ rfl⟩
end
def putS (w:World) (g i:Nat) (x:Fr):World:=(((w.setCell ⟨g,i * 4,none⟩ (.int .i64 x.i)).setCell ⟨g,i * 4 + 1,none⟩ (.int .i64 x.n)).setCell ⟨g,i * 4 + 2,none⟩ (.int .i64 x.l)).setCell ⟨g,i * 4 + 3,none⟩ (.string x.d)
theorem fr_split (m:Fr) (L:List Fr):rowG frC (m :: L) = frC m ++ rowG frC L:=by simp [rowG]
theorem rowG_setFr (x:Fr):∀ (N:List Fr) (i:Nat),i < N.length → ((((rowG frC N).set (i * 4) (.int .i64 x.i)).set (i * 4 + 1) (.int .i64 x.n)).set (i * 4 + 2) (.int .i64 x.l)).set (i * 4 + 3) (.string x.d) = rowG frC (N.set i x)
  | [],i,h => by cases h
  | a :: N,0,h => rfl
  | a :: N,i + 1,h => by
    have ih:=rowG_setFr x N i (by simpa using h)
    rw [List.set_cons_succ,fr_split,fr_split,← ih]
    have l:(frC a).length = 4:=rfl
    iterate 4 rw [List.set_append_right _ _ (by rw [l]; omega)]
    rw [l]
    congr 1
    rw [show (i + 1) * 4 - 4 = i * 4 by omega,show (i + 1) * 4 + 1 - 4 = i * 4 + 1 by omega,show (i + 1) * 4 + 2 - 4 = i * 4 + 2 by omega,show (i + 1) * 4 + 3 - 4 = i * 4 + 3 by omega]
theorem putS_other {w:World} {g i k:Nat} {x:Fr} (h:k ≠ g):(putS w g i x).heap[k]? = w.heap[k]?:=by
  unfold putS
  iterate 4 rw [Below.heap_setCell _ _ _ _ h]
theorem putS_row {w:World} {g i:Nat} {S:List Fr} {x:Fr} (h:w.heap[g]? = some (.cells (rowG frC S).toArray 35 (0,0))) (hi:i < S.length):(putS w g i x).heap[g]? = some (.cells (rowG frC (S.set i x)).toArray 35 (0,0)):=by
  have a0:=heap_setCell_same w g (i * 4) _ _ (.int .i64 x.i) h
  have a1:=heap_setCell_same _ g (i * 4 + 1) _ _ (.int .i64 x.n) a0
  have a2:=heap_setCell_same _ g (i * 4 + 2) _ _ (.int .i64 x.l) a1
  have a3:=heap_setCell_same _ g (i * 4 + 3) _ _ (.string x.d) a2
  unfold putS
  rw [a3]
  simp only [List.setIfInBounds_toArray]
  rw [rowG_setFr x S i hi]
structure RfW (TB:TypeId) (o:Nat) (X Y:List Value) (O:Nat → Prop) (w0 w:World) (b g:Nat) (S:List Fr) (f l m n:Int):Prop where
  box:w.heap[b]? = some (.cells (X ++ (rfC (some ⟨g,0,none⟩) S.length f l m n ++ Y)).toArray TB (0,0))
  off:X.length = o
  row:w.heap[g]? = some (.cells (rowG frC S).toArray 35 (0,0))
  gb:g ≠ b
  kept:Kept O w0 w
  ob:O b
  og:O g ∨ w0.heap.size ≤ g
section
variable {TB:TypeId} {o:Nat} {X Y:List Value} {O:Nat → Prop} {w0 w w':World} {b g:Nat} {S:List Fr} {f l m n:Int}
theorem RfM.mid {f:Nat} {s:Rg Fr} (h:RfM TB o X Y w b (some ⟨g,0,none⟩) S f s):RfW TB o X Y (rgO b (some ⟨g,0,none⟩)) w w b g S f s.L.length s.m s.n ∧ f < S.length:=by
  rcases h.row with ⟨h1,_⟩ | ⟨g',h1,h2,h3,h4⟩
  · cases h1
  · injection h1 with h1
    injection h1 with h1
    subst h1
    exact ⟨⟨h.box,h.off,h2,h3,Kept.refl _ _, .inl rfl, .inl (.inr ⟨_,rfl,rfl⟩)⟩,h4⟩
theorem RfW.cells (h:RfW TB o X Y O w0 w b g S f l m n):w.cell? ⟨b,o,none⟩ = some (.slice (some ⟨g,0,none⟩) S.length S.length) ∧ w.cell? ⟨b,o + 1,none⟩ = some (.int .i64 f) ∧ w.cell? ⟨b,o + 2,none⟩ = some (.int .i64 l) ∧ w.cell? ⟨b,o + 3,none⟩ = some (.int .i64 m) ∧ w.cell? ⟨b,o + 4,none⟩ = some (.int .i64 n):=rf_cells h.box h.off
theorem RfW.live (h:RfW TB o X Y O w0 w b g S f l m n) (i:Nat):w.frozen? ⟨b,i,none⟩ = false:=Lib.frozen_of_heap h.box i
theorem RfW.liveG (h:RfW TB o X Y O w0 w b g S f l m n) (i:Nat):w.frozen? ⟨g,i,none⟩ = false:=Lib.frozen_of_heap h.row i
theorem RfW.slot (h:RfW TB o X Y O w0 w b g S f l m n) {i:Nat} {x:Fr} (hx:S[i]? = some x):w.cell? ⟨g,i * 4,none⟩ = some (.int .i64 x.i) ∧ w.cell? ⟨g,i * 4 + 1,none⟩ = some (.int .i64 x.n) ∧ w.cell? ⟨g,i * 4 + 2,none⟩ = some (.int .i64 x.l) ∧ w.cell? ⟨g,i * 4 + 3,none⟩ = some (.string x.d):=rowF_cell h.row hx
theorem RfW.blt (h:RfW TB o X Y O w0 w b g S f l m n):b < w.heap.size:=rheap_lt h.box
theorem RfW.glt (h:RfW TB o X Y O w0 w b g S f l m n):g < w.heap.size:=rheap_lt h.row
theorem RfW.later (h:RfW TB o X Y O w0 w b g S f l m n) (hb:Below w.heap.size w w'):RfW TB o X Y O w0 w' b g S f l m n :=
  ⟨(hb.block _ h.blt).trans h.box,h.off,(hb.block _ h.glt).trans h.row,h.gb,h.kept.below_ hb,h.ob,h.og⟩
theorem RfW.drewN (h:RfW TB o X Y O w0 w b g S f l m n) (k:Nat):RfW TB o X Y O w0 (w.drewN k) b g S f l m n:=h.later (below_drewN (Below.refl _ _) k)
theorem kept_row {w1:World} (hk:Kept O w0 w) (hg:O g ∨ w0.heap.size ≤ g) (e1:w1.heap.size = w.heap.size) (e2:w1.os = w.os ∧ w1.tape = w.tape ∧ w1.output = w.output) (ho:∀ k,k ≠ g → w1.heap[k]? = w.heap[k]?):Kept O w0 w1 :=
  ⟨e2.1.trans hk.os,e2.2.1.trans hk.tape,e2.2.2.trans hk.output,by rw [e1]; exact hk.size,fun k h1 h2 => (ho k (fun e => by rcases hg with h3 | h3; exact h2 (e ▸ h3); omega)).trans (hk.block k h1 h2)⟩
theorem RfW.setSlot (h:RfW TB o X Y O w0 w b g S f l m n) {i:Nat} (hi:i < S.length) (x:Fr):RfW TB o X Y O w0 (putS w g i x) b g (S.set i x) f l m n :=
  ⟨by rw [putS_other (fun e => h.gb e.symm),List.length_set]; exact h.box,h.off,putS_row h.row hi,h.gb,
    kept_row h.kept h.og (by unfold putS; simp [World.setCell]) ⟨rfl,rfl,rfl⟩ (fun k hk => putS_other hk),h.ob,h.og⟩
theorem RfW.setBox (h:RfW TB o X Y O w0 w b g S f l m n) (i:Nat) (v:Value):(w.setCell ⟨b,o + i,none⟩ v).heap[b]? = some (.cells (X ++ (rfC (some ⟨g,0,none⟩) S.length f l m n ++ Y).set i v).toArray TB (0,0)):=by
  rw [heap_setCell_same w b (o + i) _ _ _ h.box,setX h.off]
theorem RfW.setF (h:RfW TB o X Y O w0 w b g S f l m n) (f':Int):RfW TB o X Y O w0 (w.setCell ⟨b,o + 1,none⟩ (.int .i64 f')) b g S f' l m n :=
  ⟨h.setBox 1 _,h.off,(Below.heap_setCell w ⟨b,o + 1,none⟩ _ g h.gb).trans h.row,h.gb,h.kept.setCell (p:=⟨b,o + 1,none⟩) h.ob _,h.ob,h.og⟩
theorem RfW.setL (h:RfW TB o X Y O w0 w b g S f l m n) (l':Int):RfW TB o X Y O w0 (w.setCell ⟨b,o + 2,none⟩ (.int .i64 l')) b g S f l' m n :=
  ⟨h.setBox 2 _,h.off,(Below.heap_setCell w ⟨b,o + 2,none⟩ _ g h.gb).trans h.row,h.gb,h.kept.setCell (p:=⟨b,o + 2,none⟩) h.ob _,h.ob,h.og⟩
theorem RfW.setN (h:RfW TB o X Y O w0 w b g S f l m n) (n':Int):RfW TB o X Y O w0 (w.setCell ⟨b,o + 4,none⟩ (.int .i64 n')) b g S f l m n' :=
  ⟨h.setBox 4 _,h.off,(Below.heap_setCell w ⟨b,o + 4,none⟩ _ g h.gb).trans h.row,h.gb,h.kept.setCell (p:=⟨b,o + 4,none⟩) h.ob _,h.ob,h.og⟩
theorem RfW.stp {f' m' n':Nat} {L:List Fr} (h:RfW TB o X Y O w0 w b g S f l m n) (hf:f = f') (hl:l = L.length) (hm:m = m') (hn:n = n') (hS:f' < S.length) (hL:L.length ≤ S.length) (hz:S.length ≤ m') (h1:1 ≤ m') (h2:m' ≤ 1000)
    (hmem:∀ i,i < L.length → S[(f' + i) % S.length]? = L[i]?):Stp (RfI TB o X Y) (.pointer (some ⟨b,o,none⟩)) O w0 ⟨L,m',n'⟩ w:=by
  subst hf hl hm hn
  refine ⟨rgO b (some ⟨g,0,none⟩),⟨b,_,S,f',rfl,rfl,⟨h.box,h.off, .inr ⟨g,rfl,h.row,h.gb,hS⟩,hL,hz,h1,h2,hmem⟩⟩,h.kept, ?_⟩
  rintro k (rfl | ⟨a,h3,rfl⟩)
  · exact .inl h.ob
  · injection h3 with h3
    subst h3
    exact h.og
end
section
variable {TB:TypeId} {o:Nat} {X Y:List Value} {w w':World} {b f:Nat} {p:Option Addr} {S A:List Fr}
def SfP (w:World) (p:Option Addr) (A:List Fr):Prop:=0 < A.length → ∃ ad,p = some ad ∧ ad.block < w.heap.size ∧ ∀ j u,(rowG frC A)[j]? = some u → w.cell? (ad.add j) = some u
def PcF (w:World) (v:Value) (L:List Fr):Prop := ∃ A B p1 p2,v = .tuple #[.slice p1 A.length A.length, .slice p2 B.length B.length] ∧ L = A ++ B ∧ SfP w p1 A ∧ SfP w p2 B
theorem SfP.none_ (w:World) (p:Option Addr):SfP w p []:=fun h => by simp at h
theorem SfP.row {g i n:Nat} (hg:w.heap[g]? = some (.cells (rowG frC S).toArray 35 (0,0))):SfP w (some ⟨g,i * 4,none⟩) ((S.drop i).take n):=fun _ => by
  refine ⟨_,rfl,rheap_lt hg,fun j u hu => ?_⟩
  rw [qaddr,Lib.cell_of_heap hg]
  obtain ⟨q,r,x,h1,h2,rfl⟩:=rowG_cells' frC_len hu
  rw [List.getElem?_take] at h1
  split at h1
  · rw [List.getElem?_drop] at h1
    have:=rowG_get frC_len S (i + q) x h1 r u h2
    rw [show i * 4 + (q * 4 + r) = (i + q) * 4 + r by omega]
    simpa using this
  · cases h1
theorem SfP.later (h:SfP w p A) (hb:Below w.heap.size w w'):SfP w' p A:=fun h0 => by
  obtain ⟨ad,h1,h2,h3⟩:=h h0
  exact ⟨ad,h1,Nat.lt_of_lt_of_le h2 hb.size,fun j u hu => (hb.cell (by rw [addr_block]; exact h2)).trans (h3 j u hu)⟩
theorem SfP.src (h:SfP w p A) (hb:Below w.heap.size w w') {Z:List Value} {n:Nat} (hX:rowG frC A = Z) (hn:A.length = n) (h0:0 < n):∃ ad,p = some ad ∧ ∀ j v,Z[j]? = some v → w'.cell? (ad.add j) = some v:=by
  subst hX
  obtain ⟨ad,h1,_,h3⟩:=(h.later hb) (by omega)
  exact ⟨ad,h1,h3⟩
end
theorem splice_repF (z:Fr) (k:Nat) (A B:List Fr) (h:A.length + B.length ≤ k):splice (splice (rowG frC (List.replicate k z)) 0 (rowG frC A)) (A.length * 4) (rowG frC B) = rowG frC ((A ++ B) ++ List.replicate (k - (A ++ B).length) z):=by
  have lA:(rowG frC A).length = A.length * 4:=rowG_length frC_len A
  have lB:(rowG frC B).length = B.length * 4:=rowG_length frC_len B
  obtain ⟨d,rfl⟩:∃ d,k = A.length + (B.length + d):=⟨k - A.length - B.length,by omega⟩
  have e:List.replicate (A.length + (B.length + d)) z = List.replicate A.length z ++ (List.replicate B.length z ++ List.replicate d z):=by simp [List.replicate_append_replicate]
  have r1:(rowG frC (List.replicate A.length z)).length = A.length * 4:=by rw [rowG_length frC_len]; simp
  have r2:(rowG frC (List.replicate B.length z)).length = B.length * 4:=by rw [rowG_length frC_len]; simp
  unfold splice
  rw [e,rowG_app,rowG_app,lA,lB]
  have e1:List.take 0 (rowG frC (List.replicate A.length z) ++ (rowG frC (List.replicate B.length z) ++ rowG frC (List.replicate d z))) ++ (rowG frC A ++ List.drop (0 + A.length * 4) (rowG frC (List.replicate A.length z) ++ (rowG frC (List.replicate B.length z) ++ rowG frC (List.replicate d z)))) = rowG frC A ++ (rowG frC (List.replicate B.length z) ++ rowG frC (List.replicate d z)):=by
    rw [Nat.zero_add,← r1,List.drop_left]; simp
  rw [e1]
  have e2:(rowG frC A ++ (rowG frC (List.replicate B.length z) ++ rowG frC (List.replicate d z))).take (A.length * 4) = rowG frC A:=by rw [← lA,List.take_left]
  have e3:(rowG frC A ++ (rowG frC (List.replicate B.length z) ++ rowG frC (List.replicate d z))).drop (A.length * 4 + B.length * 4) = rowG frC (List.replicate d z):=by
    rw [← lA,← r2,List.drop_append,List.drop_append]; simp
  rw [e2,e3,rowG_app,rowG_app,List.append_assoc]
  congr 3
  simp; omega
end Go.Proofs.YtimdkcchjanpaaaGreatDoor
