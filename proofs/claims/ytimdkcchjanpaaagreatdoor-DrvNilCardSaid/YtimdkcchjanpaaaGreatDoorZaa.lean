/- Later worlds: a region that draws its order, whose operations read what lay there before and whose callees make new memory alone ('Below'), walked once, in t .. -/
import Derived.Test.YtimdkcchjanpaaaGreatDoorRows
import Derived.WalkKit
import Derived.BigQuiet
import Derived.Deep.Quiet
import Derived.Deep.QuietTactic
import Derived.Lib.Hide
import Derived.Below
import Derived.ProofKit
import Derived.OpenShut
import Derived.ChangeArms
import Derived.ChangeOld
import Derived.Lib.SmallJoins
import Derived.LaidMore
import Derived.Deep.Slices
import Derived.WalkSpells
import Derived.WalkLawsBesides
import Derived.Laws.BytesArg
import Derived.LoopTactic
import Derived.LoopN
import Derived.Laws.MakeOwn
import Derived.Deep.AppendLies
import Derived.Lib.OthersKept
import Derived.Laws.BitsLemmas
import Derived.Laws.Rows
import Derived.WalkSmall
set_option maxHeartbeats 2000000
namespace Go.Proofs.YtimdkcchjanpaaaGreatDoor
open Go.RowKit
set_option linter.unusedVariables false
structure Later (W:World) where
  w:World
  h:Below W.heap.size W w
instance laterOne (W:World):Nonempty (Later W):=⟨⟨W,Below.refl _ _⟩⟩
theorem Later.cell {W:World} (n:Later W) (b o:Nat) (h:b < W.heap.size):n.w.cell? ⟨b,o,none⟩ = W.cell? ⟨b,o,none⟩:=n.h.cell (p:=⟨b,o,none⟩) h
theorem later_cells:∀ (W:World) (n:Later W) (b o:Nat),b < W.heap.size → n.w.cell? ⟨b,o,none⟩ = W.cell? ⟨b,o,none⟩:=fun _ n b o h => n.cell b o h
theorem wp_region_later {P:Program} {id:Nat} {Q:Exit → Act → World → Prop} {a:Act} {w:World} {l:List Oper} (hm:P.follows .mixedOrders = true) (hB:Region.lexB .any l.toArray = true)
    (h:wpQuiet P l.toArray (fun w' => ∃ n:Later w,w' = n.w) (fun a' => ∀ w',(∃ n:Later w,w' = n.w) → Q .normal a' w') l a):(Code.region id l.toArray true).wp P Q a w :=
  wp_region_quiet (C:=fun w' => ∃ n:Later w,w' = n.w) hm hB ⟨⟨w.drew,(Below.refl _ _).drew⟩,rfl⟩ (by simpa using h)
theorem Later.call {P:Program} {f:FuncId} {args:Array Value} {W:World} {n:Later W} {v:Value}
    (h:Calls P f args n.w fun e w' => e = .returned v ∧ Below n.w.heap.size n.w w'):Calls P f args n.w fun e w'' => e = .returned v ∧ ∃ m:Later W,w'' = m.w :=
  h.mono fun _ w' ⟨he,hb⟩ => ⟨he,⟨w',n.h.trans (hb.mono n.h.size)⟩,rfl⟩
theorem Later.drew {P:Program} {f:FuncId} {args:Array Value} {W:World} {n:Later W} {v:Value}
    (h:Calls P f args n.w fun e w' => e = .returned v ∧ ∃ k,w' = n.w.drewN k):Calls P f args n.w fun e w'' => e = .returned v ∧ ∃ m:Later W,w'' = m.w :=
  h.mono fun _ w' ⟨he,k,hb⟩ => ⟨he,⟨w',by rw [hb]; exact n.h.trans ⟨rfl,rfl,rfl,Nat.le_refl _,fun _ _ => rfl⟩⟩,rfl⟩
end Go.Proofs.YtimdkcchjanpaaaGreatDoor
namespace Go.Proofs.YtimdkcchjanpaaaGreatDoor
open Go.RowKit Go.ChangeShapes Go.WideShapes Go.Joins
set_option linter.unusedVariables false
def flatB (P:Program):Nat → TypeId → Bool
  | 0,_ => false
  | k + 1,t => match P.underlying t with
    | some .bool => true
    | some (.int _) => true
    | some .string => true
    | some (.struct fs) => (fs.toList.all fun f => flatB P k f.type) && ((List.range (P.cellsOf t)).all fun i => fs.toList.any fun f => decide (f.offset ≤ i) && decide (i < f.offset + P.cellsOf f.type))
    | some (.array n e) => flatB P k e && decide (P.cellsOf t = n * P.cellsOf e)
    | _ => false
theorem seg_get {l:List Value} {off c i:Nat} (h0:off ≤ i) (h1:i < off + c):l[i]? = ((l.drop off).take c)[i - off]?:=by
  rw [List.getElem?_take_of_lt (by omega),List.getElem?_drop]
  congr 1
  omega
section
variable {H:Type} {enc enc':TypeId × Value → H} {P:Program} {w w':World} {base base':Nat} {sp sp':Nat → Bool} {held held':Bool}
theorem flat_inj:∀ (k:Nat) (t:TypeId) (n n':Nat) (cs cs':List Value) (x x':DataW H × List MemPlace),flatB P k t = true →
    DataW.trod enc P w base sp held n t cs = some x → DataW.trod enc' P w' base' sp' held' n' t cs' = some x' → x.1 = x'.1 → cs = cs'
  | 0,t,n,n',cs,cs',x,x',hf,_,_,_ => by cases hf
  | k + 1,t,n,n',cs,cs',x,x',hf,h,h',he => by
    unfold flatB at hf
    split at hf
    · rename_i ht
      obtain ⟨b,rfl,rfl⟩:=DataW.trod_bool ht h
      obtain ⟨b',rfl,rfl⟩:=DataW.trod_bool ht h'
      cases he; rfl
    · rename_i ht
      obtain ⟨b,rfl,rfl,_⟩:=DataW.trod_int ht h
      obtain ⟨b',rfl,rfl,_⟩:=DataW.trod_int ht h'
      cases he; rfl
    · rename_i ht
      obtain ⟨b,rfl,rfl,_⟩:=DataW.trod_string ht h
      obtain ⟨b',rfl,rfl,_⟩:=DataW.trod_string ht h'
      obtain ⟨⟨b⟩⟩:=b
      obtain ⟨⟨b'⟩⟩:=b'
      simp at he
      rw [he]
    · rename_i fs ht
      obtain ⟨xs,m,_,rfl,hl,hxl,hx⟩:=DataW.trod_struct ht h
      obtain ⟨xs',m',_,rfl,hl',hxl',hx'⟩:=DataW.trod_struct ht h'
      simp only [Bool.and_eq_true,List.all_eq_true,List.any_eq_true,List.mem_range,decide_eq_true_eq] at hf
      obtain ⟨hf1,hf2⟩:=hf
      have he':xs.map (·.1) = xs'.map (·.1):=by simpa using he
      apply List.ext_getElem?
      intro i
      by_cases hi:i < P.cellsOf t
      · obtain ⟨f,hfm,h0,h1⟩:=hf2 i hi
        obtain ⟨j,hj,hjf⟩:=List.getElem_of_mem hfm
        have hj':j < fs.size:=by simpa using hj
        have hjf':fs[j]? = some f:=by rw [Array.getElem?_eq_getElem hj']; simpa using hjf
        have e1:=hx j f hjf'
        have e2:=hx' j f hjf'
        have g1:xs[j]? = some xs[j]:=List.getElem?_eq_getElem (by omega)
        have g2:xs'[j]? = some xs'[j]:=List.getElem?_eq_getElem (by omega)
        have he2:(xs[j]).1 = (xs'[j]).1:=by
          have:=congrArg (·[j]?) he'
          simpa [g1,g2] using this
        rw [seg_get h0 h1,seg_get (l:=cs') h0 h1]
        rw [flat_inj k f.type m m' _ _ _ _ (hf1 f hfm) (e1.trans g1) (e2.trans g2) he2]
      · rw [List.getElem?_eq_none (by omega),List.getElem?_eq_none (by omega)]
    · rename_i len e ht
      obtain ⟨xs,m,_,rfl,hl,hxl,hx⟩:=DataW.trod_array ht h
      obtain ⟨xs',m',_,rfl,hl',hxl',hx'⟩:=DataW.trod_array ht h'
      simp only [Bool.and_eq_true,decide_eq_true_eq] at hf
      obtain ⟨hf1,hf2⟩:=hf
      have he':xs.map (·.1) = xs'.map (·.1):=by simpa using he
      apply List.ext_getElem?
      intro i
      by_cases hi:i < P.cellsOf t
      · have hc:0 < P.cellsOf e:=by
          rcases Nat.eq_zero_or_pos (P.cellsOf e) with h | h
          · rw [hf2,h] at hi; simp at hi
          · exact h
        have hj:i / P.cellsOf e < len:=(Nat.div_lt_iff_lt_mul hc).2 (by omega)
        have e1:=hx (i / P.cellsOf e) hj
        have e2:=hx' (i / P.cellsOf e) hj
        have g1:xs[i / P.cellsOf e]? = some (xs[i / P.cellsOf e]'(by omega)):=List.getElem?_eq_getElem (by omega)
        have g2:xs'[i / P.cellsOf e]? = some (xs'[i / P.cellsOf e]'(by omega)):=List.getElem?_eq_getElem (by omega)
        have he2:(xs[i / P.cellsOf e]'(by omega)).1 = (xs'[i / P.cellsOf e]'(by omega)).1:=by
          have:=congrArg (·[i / P.cellsOf e]?) he'
          simpa [g1,g2] using this
        have h0:i / P.cellsOf e * P.cellsOf e ≤ i:=Nat.div_mul_le_self _ _
        have h1:i < i / P.cellsOf e * P.cellsOf e + P.cellsOf e:=by have:=Nat.lt_div_mul_add (a:=i) hc; omega
        rw [seg_get h0 h1,seg_get (l:=cs') h0 h1]
        rw [flat_inj k e m m' _ _ _ _ hf1 (e1.trans g1) (e2.trans g2) he2]
      · rw [List.getElem?_eq_none (by omega),List.getElem?_eq_none (by omega)]
    · cases hf
end
theorem var_cells {P:Program} {W:World} {cs:Array Value} {name:String} {k g:Nat} {t:TypeId} {fuel m:Nat} {d:DataW Unit} {p q:List MemPlace} {known:Array Value} (hf:flatB P k t = true) (hg:P.globalNamed name = some g)
    (hv:W.var? P name = some cs) (h:DataW.trod (fun _ => ()) P W 0 (fun _ => true) false fuel t cs.toList = some (d,p))
    (hk:DataW.trod (fun _ => ()) P W 0 (fun _ => true) false m t known.toList = some (d,q)):∃ t fr,W.heap[g]? = some (.cells known t fr):=by
  have e:cs = known:=Array.toList_inj.1 (flat_inj k t _ _ _ _ _ _ hf h hk rfl)
  subst e
  unfold World.var? at hv
  simp only [hg,Option.bind_some] at hv
  split at hv
  · rename_i c t fr hh
    cases hv
    exact ⟨t,fr,hh⟩
  · cases hv
end Go.Proofs.YtimdkcchjanpaaaGreatDoor
namespace Go.Proofs.YtimdkcchjanpaaaGreatDoor
open Go.RowKit Go.ChangeShapes Go.WideShapes Go.Deep
set_option linter.unusedVariables false
inductive Sh where
  | int (k:IntKind)
  | bool
  | str
def Sh.fits:Sh → Value → Prop
  | .int k,v => ∃ n,v = .int k n ∧ (Lit.int k n).wf = true
  | .bool,v => ∃ b,v = .bool b
  | .str,v => ∃ s,v = .string s ∧ s.size ≤ maxLen
def FitsAll:List Sh → List Value → Prop
  | [], [] => True
  | s :: ss,v :: vs => s.fits v ∧ FitsAll ss vs
  | _,_ => False
theorem FitsAll.cons {s:Sh} {ss:List Sh} {l:List Value} (h:FitsAll (s :: ss) l):∃ v vs,l = v :: vs ∧ s.fits v ∧ FitsAll ss vs:=by
  cases l with
  | nil => cases h
  | cons v vs => exact ⟨v,vs,rfl,h.1,h.2⟩
theorem FitsAll.nil {l:List Value} (h:FitsAll [] l):l = []:=by
  cases l with
  | nil => rfl
  | cons v vs => cases h
theorem FitsAll.length:∀ {ss:List Sh} {l:List Value},FitsAll ss l → l.length = ss.length
  | [], [],_ => rfl
  | _ :: ss,_ :: l,h => by simp [FitsAll.length h.2]
  | [],_ :: _,h => by cases h
  | _ :: _, [],h => by cases h
theorem FitsAll.app:∀ {a b:List Sh} {l m:List Value},FitsAll a l → FitsAll b m → FitsAll (a ++ b) (l ++ m)
  | [],_, [],_,_,h => h
  | _ :: a,_,_ :: l,_,h,h' => ⟨h.1,FitsAll.app h.2 h'⟩
  | [],_,_ :: _,_,h,_ => by cases h
  | _ :: _,_, [],_,h,_ => by cases h
def goSh (P:Program) (sub:TypeId → Option (List Sh)):Nat → List Field → Option (List Sh)
  | _, [] => some []
  | off,f :: fs => (sub f.type).bind fun s => if f.offset = off ∧ s.length = P.cellsOf f.type then (goSh P sub (off + s.length) fs).map (s ++ ·) else none
def shapeOf (P:Program):Nat → TypeId → Option (List Sh)
  | 0,_ => none
  | k + 1,t => match P.underlying t with
    | some .bool => some [.bool]
    | some (.int i) => some [.int i]
    | some .string => some [.str]
    | some (.struct fs) => (goSh P (shapeOf P k) 0 fs.toList).bind fun s => if s.length = P.cellsOf t then some s else none
    | some (.array n e) => (shapeOf P k e).bind fun s => if s.length = P.cellsOf e ∧ P.cellsOf t = n * P.cellsOf e then some ((List.replicate n s).flatten) else none
    | _ => none
section
variable {H:Type} {enc:TypeId × Value → H} {P:Program} {w:World} {base:Nat} {sp:Nat → Bool} {held:Bool}
theorem goSh_fits {sub:TypeId → Option (List Sh)} {cs:List Value}:∀ (fs:List Field) (off:Nat) (s:List Sh),goSh P sub off fs = some s →
    (∀ f ∈ fs, ∀ s',sub f.type = some s' → FitsAll s' ((cs.drop f.offset).take (P.cellsOf f.type))) → cs.length = off + s.length → FitsAll s (cs.drop off)
  | [],off,s,h,_,hl => by
    cases h
    rw [List.drop_eq_nil_of_le (by simp at hl; omega)]
    trivial
  | f :: fs,off,s,h,hf,hl => by
    unfold goSh at h
    obtain ⟨s1,h1,h2⟩:=Option.bind_eq_some_iff.1 h
    split at h2
    · rename_i hc
      obtain ⟨s2,h3,rfl⟩:=Option.map_eq_some_iff.1 h2
      have a1:=hf f (List.mem_cons_self ..) s1 h1
      have a2:=goSh_fits fs (off + s1.length) s2 h3 (fun g hg => hf g (List.mem_cons_of_mem _ hg)) (by simp at hl; omega)
      rw [hc.1,← hc.2] at a1
      have e:cs.drop off = (cs.drop off).take s1.length ++ cs.drop (off + s1.length):=by
        rw [← List.drop_drop,List.take_append_drop]
      rw [e]
      exact a1.app a2
    · cases h2
theorem rep_fits {s:List Sh} {c:Nat} {cs:List Value} (hs:s.length = c):∀ (n i:Nat),(∀ j,i ≤ j → j < i + n → FitsAll s ((cs.drop (j * c)).take c)) → cs.length = (i + n) * c → FitsAll ((List.replicate n s).flatten) (cs.drop (i * c))
  | 0,i,_,hl => by
    rw [List.drop_eq_nil_of_le (by simp at hl; omega)]
    trivial
  | n + 1,i,h,hl => by
    rw [List.replicate_succ,List.flatten_cons]
    have a1:=h i (Nat.le_refl _) (by omega)
    have a2:=rep_fits hs n (i + 1) (fun j h1 h2 => h j (by omega) (by omega)) (by rw [hl]; congr 1; omega)
    have e:cs.drop (i * c) = (cs.drop (i * c)).take c ++ cs.drop ((i + 1) * c):=by
      rw [Nat.add_mul,Nat.one_mul,← List.drop_drop,List.take_append_drop]
    rw [e]
    exact a1.app a2
theorem fits_of:∀ (k:Nat) (t:TypeId) (n:Nat) (s:List Sh) (cs:List Value) (x:DataW H × List MemPlace),shapeOf P k t = some s →
    DataW.trod enc P w base sp held n t cs = some x → FitsAll s cs
  | 0,_,_,_,_,_,h,_ => by cases h
  | k + 1,t,n,s,cs,x,hs,h => by
    unfold shapeOf at hs
    split at hs
    · rename_i ht
      cases hs
      obtain ⟨b,rfl,rfl⟩:=DataW.trod_bool ht h
      exact ⟨⟨b,rfl⟩,trivial⟩
    · rename_i ht
      cases hs
      obtain ⟨b,rfl,rfl,hw⟩:=DataW.trod_int ht h
      exact ⟨⟨b,rfl,hw⟩,trivial⟩
    · rename_i ht
      cases hs
      obtain ⟨b,rfl,rfl,hw⟩:=DataW.trod_string ht h
      exact ⟨⟨b,rfl,hw⟩,trivial⟩
    · rename_i fs ht
      obtain ⟨s',h1,h2⟩:=Option.bind_eq_some_iff.1 hs
      split at h2
      · rename_i hc
        cases h2
        obtain ⟨xs,m,_,rfl,hl,hxl,hx⟩:=DataW.trod_struct ht h
        have:=goSh_fits (P:=P) (sub:=shapeOf P k) (cs:=cs) fs.toList 0 s h1 (fun f hf s1 hs1 => ?_) (by omega)
        · simpa using this
        · obtain ⟨j,hj,hjf⟩:=List.getElem_of_mem hf
          have hj':j < fs.size:=by simpa using hj
          have hjf':fs[j]? = some f:=by rw [Array.getElem?_eq_getElem hj']; simpa using hjf
          exact fits_of k f.type m s1 _ _ hs1 ((hx j f hjf').trans (List.getElem?_eq_getElem (by omega)))
      · cases h2
    · rename_i len e ht
      obtain ⟨s',h1,h2⟩:=Option.bind_eq_some_iff.1 hs
      split at h2
      · rename_i hc
        cases h2
        obtain ⟨xs,m,_,rfl,hl,hxl,hx⟩:=DataW.trod_array ht h
        have:=rep_fits (cs:=cs) hc.1 len 0 (fun j _ hj => fits_of k e m s' _ _ h1 ((hx j (by omega)).trans (List.getElem?_eq_getElem (by omega)))) (by rw [hl,hc.2,Nat.zero_add])
        simpa using this
      · cases h2
    · cases hs
theorem open_flat {r:Reach} {b0 k:Nat} {t:TypeId} {fs:Array Field} {v:Value} {d:DataW H} {p:List MemPlace} {s:List Sh} (hs:P.underlying t = some (.struct fs)) (hsh:shapeOf P k t = some s)
    (hv:Value.okWide P w r b0 t v) (h:DataW.Trod enc P w base sp held t v d p):∃ l:List Value,v = .agg l.toArray ∧ FitsAll s l:=by
  obtain ⟨cs,rfl,_⟩:=okWide_struct hs hv
  obtain ⟨n,hn⟩:=h
  refine ⟨cs.toList,by simp, ?_⟩
  have:=fits_of k t n s _ _ hsh hn
  simpa [Value.cells] using this
def IsRowOf (w:World) (s:List Sh) (a:Option Addr) (len cap:Nat) (F:Nat → List Value):Prop :=
  (a = none ∧ len = 0 ∧ cap = 0) ∨
  ∃ x,a = some x ∧ len ≤ cap ∧ cap ≤ maxLen ∧ ∀ i,i < cap → FitsAll s (F i) ∧ ∀ j,j < s.length → w.cell? (x.add (i * s.length + j)) = (F i)[j]?
theorem open_slice_flat {r:Reach} {b0 k:Nat} {t e:TypeId} {v:Value} {d:DataW H} {p:List MemPlace} {s:List Sh} (ht:P.underlying t = some (.slice e)) (hsh:shapeOf P k e = some s) (hc:P.cellsOf e = s.length)
    (hv:Value.okWide P w r b0 t v) (h:DataW.Trod enc P w base (fun _ => true) held t v d p):∃ a len cap F,v = .slice a len cap ∧ IsRowOf w s a len cap F:=by
  obtain ⟨a,len,cap,rfl⟩:=okWide_slice ht hv
  obtain ⟨n,hn⟩:=h
  rcases Go.Deep.open_slice ht hn with ⟨hcs,_⟩ | ⟨x,len',cap',m,n',D,Pl,hcs,hb,hl,hm,hmm,hx,hi⟩
  · simp [Value.cells] at hcs
    obtain ⟨rfl,rfl,rfl⟩:=hcs
    exact ⟨none,0,0,fun _ => [],rfl, .inl ⟨rfl,rfl,rfl⟩⟩
  · simp [Value.cells] at hcs
    obtain ⟨rfl,rfl,rfl⟩:=hcs
    have hmc:m = cap:=by simpa using hmm
    subst hmc
    refine ⟨some x,len,m,fun i => if h:i < m then (hi i h).choose else [],rfl, .inr ⟨x,rfl,hl,hm,fun i h => ?_⟩⟩
    simp only [h,dif_pos]
    have hsp:=(hi i h).choose_spec
    refine ⟨fits_of k e n' s _ _ hsh hsp.2,fun j hj => ?_⟩
    have:=(World.cells?_some hsp.1).2.2 j (by omega)
    rw [Go.Deep.add_add] at this
    rw [← hc]
    exact this
end
end Go.Proofs.YtimdkcchjanpaaaGreatDoor
namespace Go.Proofs.YtimdkcchjanpaaaGreatDoor
open Go.RowKit
end Go.Proofs.YtimdkcchjanpaaaGreatDoor
namespace Go.Proofs.YtimdkcchjanpaaaGreatDoor
open Go.RowKit
set_option linter.unusedVariables false
def bt (s:ByteArray) (k:Nat):Int:=((s.data.toList[k]?.getD 0).toNat:Int)
end Go.Proofs.YtimdkcchjanpaaaGreatDoor
namespace Go.Proofs.YtimdkcchjanpaaaGreatDoor
open Go.RowKit
set_option linter.unusedVariables false
section
variable {P:Program}
end
end Go.Proofs.YtimdkcchjanpaaaGreatDoor
namespace Go.Proofs.YtimdkcchjanpaaaGreatDoor
open Go.RowKit
set_option linter.unusedVariables false
theorem ofInt_toNat (n:Int):(BitVec.ofInt 64 n).toNat = (n % 18446744073709551616).toNat:=by
  rw [BitVec.toNat_ofInt]; rfl
theorem nat_and_pow (N i:Nat):N &&& 2 ^ i = N / 2 ^ i % 2 * 2 ^ i:=by
  apply Nat.eq_of_testBit_eq
  intro j
  rw [Nat.testBit_and,Nat.testBit_two_pow]
  by_cases hij:i = j
  · subst hij
    rw [Nat.testBit_eq_decide_div_mod_eq]
    rcases Nat.mod_two_eq_zero_or_one (N / 2 ^ i) with h | h <;> simp [h,Nat.testBit_two_pow_self]
  · rcases Nat.mod_two_eq_zero_or_one (N / 2 ^ i) with h | h <;> simp [h,hij]
theorem and_p (n:Int) (i:Nat) (hi:i < 63):bits .and .i64 n ((2 ^ i:Nat):Int) = (((n % 18446744073709551616).toNat / 2 ^ i % 2 * 2 ^ i:Nat):Int):=by
  have hp:2 ^ i < 2 ^ 63:=Nat.pow_lt_pow_right (by decide) hi
  have e2:(BitVec.ofInt 64 ((2 ^ i:Nat):Int)).toNat = 2 ^ i:=by
    rw [BitVec.ofInt_natCast,BitVec.toNat_ofNat]; exact Nat.mod_eq_of_lt (by omega)
  have hb:((n % 18446744073709551616).toNat &&& 2 ^ i) = (n % 18446744073709551616).toNat / 2 ^ i % 2 * 2 ^ i:=by
    exact nat_and_pow _ _
  have hle:(n % 18446744073709551616).toNat / 2 ^ i % 2 * 2 ^ i ≤ 2 ^ i:=by
    rcases Nat.mod_two_eq_zero_or_one ((n % 18446744073709551616).toNat / 2 ^ i) with h | h <;> simp [h]
  show IntKind.i64.wrap (((BitVec.ofInt 64 n) &&& (BitVec.ofInt 64 ((2 ^ i:Nat):Int))).toNat:Int) = _
  rw [BitVec.toNat_and,ofInt_toNat,e2,hb,IntKind.wrap_i64]
  omega
def fE (n:Int):Bool:=decide (n % 2 = 1)
def fR (n:Int):Bool:=decide (n / 2 % 2 = 1)
def fX (n:Int):Bool:=decide (n / 4 % 2 = 1)
def fD (n:Int):Bool:=decide (n / 8 % 2 = 1)
def fB (n:Int):Bool:=decide (n / 16 % 2 = 1)
def fS (n:Int):Bool:=decide (n / 32 % 2 = 1)
theorem and1 (n:Int):bits .and .i64 n 1 = if fE n then 1 else 0:=by
  have:=and_p n 0 (by decide); unfold fE; simp at this; rw [this]; by_cases h:n % 2 = 1 <;> simp [h] <;> omega
theorem and2 (n:Int):bits .and .i64 n 2 = if fR n then 2 else 0:=by
  have:=and_p n 1 (by decide); unfold fR; simp at this; rw [this]; by_cases h:n / 2 % 2 = 1 <;> simp [h] <;> omega
theorem and4 (n:Int):bits .and .i64 n 4 = if fX n then 4 else 0:=by
  have:=and_p n 2 (by decide); unfold fX; simp at this; rw [this]; by_cases h:n / 4 % 2 = 1 <;> simp [h] <;> omega
theorem and8 (n:Int):bits .and .i64 n 8 = if fD n then 8 else 0:=by
  have:=and_p n 3 (by decide); unfold fD; simp at this; rw [this]; by_cases h:n / 8 % 2 = 1 <;> simp [h] <;> omega
theorem and1_t {n:Int} (h:fE n = true):bits .and .i64 n 1 = 1:=by rw [and1,h]; rfl
theorem and1_f {n:Int} (h:fE n = false):bits .and .i64 n 1 = 0:=by rw [and1,h]; rfl
theorem and2_t {n:Int} (h:fR n = true):bits .and .i64 n 2 = 2:=by rw [and2,h]; rfl
theorem and2_f {n:Int} (h:fR n = false):bits .and .i64 n 2 = 0:=by rw [and2,h]; rfl
theorem and4_t {n:Int} (h:fX n = true):bits .and .i64 n 4 = 4:=by rw [and4,h]; rfl
theorem and4_f {n:Int} (h:fX n = false):bits .and .i64 n 4 = 0:=by rw [and4,h]; rfl
theorem and8_t {n:Int} (h:fD n = true):bits .and .i64 n 8 = 8:=by rw [and8,h]; rfl
theorem and8_f {n:Int} (h:fD n = false):bits .and .i64 n 8 = 0:=by rw [and8,h]; rfl
def okFl (n:Int):Bool:=decide (0 ≤ n) && decide (n ≤ 63) && !(fX n && (fE n || fR n || fD n)) && !(fD n && fR n) && !((fB n || fS n) && !fD n)
def barN (n:Int):Int:=if fX n then -5 else if fD n then -62 else -16
def topN (n:Int):Int:=if fE n || fX n then 536870911 else 2047
theorem wrap_zero (r:BitVec 64) (h:IntKind.i64.wrap (r.toNat:Int) = 0):r = 0#64:=by
  rw [IntKind.wrap_i64] at h
  have:=r.isLt
  apply BitVec.eq_of_toNat_eq
  show r.toNat = 0
  omega
theorem and_high (n b:Int) (h1 : -9223372036854775808 ≤ n) (h2:n ≤ 9223372036854775807) (hb:BitVec.ofInt 64 b &&& 18446744073709551552#64 = 18446744073709551552#64) (h:bits .and .i64 n b = 0):0 ≤ n ∧ n ≤ 63:=by
  have h0:=wrap_zero _ (show IntKind.i64.wrap (((BitVec.ofInt 64 n) &&& (BitVec.ofInt 64 b)).toNat:Int) = 0 from h)
  have h3:BitVec.ofInt 64 n &&& 18446744073709551552#64 = 0#64:=by rw [← hb,← BitVec.and_assoc,h0]; simp
  have h5:=congrArg BitVec.toNat h3
  have h4:(BitVec.ofInt 64 n).toNat ≤ 63:=by
    rw [BitVec.toNat_and] at h5
    have h6:((BitVec.ofInt 64 n).toNat &&& 18446744073709551552) = 0:=h5
    apply Classical.byContradiction
    intro hc
    obtain ⟨i,hi,ht⟩:=Nat.exists_ge_and_testBit_of_ge_two_pow (n:=6) (show 2 ^ 6 ≤ (BitVec.ofInt 64 n).toNat by omega)
    have h64:i < 64:=by
      apply Classical.byContradiction
      intro h7
      have hlt:=(BitVec.ofInt 64 n).isLt
      rw [Nat.testBit_lt_two_pow (Nat.lt_of_lt_of_le hlt (Nat.pow_le_pow_right (by decide) (by omega)))] at ht
      cases ht
    have h8:(18446744073709551552:Nat).testBit i = true:=by
      have:∀ j:Fin 64,6 ≤ j.val → (18446744073709551552:Nat).testBit j.val = true:=by decide +kernel
      exact this ⟨i,h64⟩ hi
    have h9:=congrArg (fun x => x.testBit i) h6
    simp only [Nat.testBit_and,ht,h8,Bool.and_self,Nat.zero_testBit] at h9
    cases h9
  rw [ofInt_toNat] at h4
  omega
theorem flag_cases {n:Int} (h0:0 ≤ n) (h1:n ≤ 63):∃ k:Fin 64,n = ((k.val:Nat):Int):=⟨⟨n.toNat,by omega⟩,by simp; omega⟩
theorem bar_small:∀ k:Fin 64,(bits .and .i64 ((k.val:Nat):Int) (barN ((k.val:Nat):Int)) = 0) ↔ okFl ((k.val:Nat):Int) = true:=by decide +kernel
theorem bar_ok (n:Int) (h1 : -9223372036854775808 ≤ n) (h2:n ≤ 9223372036854775807):bits .and .i64 n (barN n) = 0 ↔ okFl n = true:=by
  by_cases h:0 ≤ n ∧ n ≤ 63
  · obtain ⟨k,rfl⟩:=flag_cases h.1 h.2
    exact bar_small k
  · constructor
    · intro h0
      refine absurd (and_high n _ h1 h2 ?_ h0) h
      unfold barN
      split
      · decide +kernel
      · split <;> decide +kernel
    · intro h0
      unfold okFl at h0
      simp only [Bool.and_eq_true,decide_eq_true_eq] at h0
      exact absurd ⟨h0.1.1.1.1,h0.1.1.1.2⟩ h
def lens:List Int := [0,1,2,3,4,5,6,7,8,12,16,20,24,32,48,64]
def codeN (n:Int):Int:=if 0 ≤ n ∧ n ≤ 8 then n else if n = 12 then 9 else if n = 16 then 10 else if n = 20 then 11 else if n = 24 then 12 else if n = 32 then 13 else if n = 48 then 14 else if n = 64 then 15 else -1
def isLen (n:Int):Bool:=decide (0 ≤ codeN n)
def lenOk (n l:Int):Bool:=if fX n then decide (l = 8) else if fD n then isLen l else decide (0 ≤ l) && decide (l ≤ 8)
def datOk (n l:Int) (sz:Nat):Bool:=if fR n then decide (sz = 0) else decide ((sz:Int) = l)
def idOk (i n:Int):Bool:=decide (0 ≤ i) && decide (i ≤ topN n)
def okF (i n l:Int) (sz:Nat):Bool:=okFl n && idOk i n && lenOk n l && datOk n l sz
def b01 (b:Bool):Int:=if b then 1 else 0
def wordN (i n:Int):Int:=i + 2147483648 * b01 (fE n) + 1073741824 * b01 (fR n) + 536870912 * b01 (fX n)
def keyN (i n:Int):Int :=
  if fE n then i / 262144 * 4194304 + 3145728 + i % 262144 * 4 + b01 (fR n) * 2 + b01 (fD n)
  else i * 4194304 + b01 (fR n) * 2097152 + b01 (fD n)
end Go.Proofs.YtimdkcchjanpaaaGreatDoor
namespace Go.Proofs.YtimdkcchjanpaaaGreatDoor
open Go.RowKit
set_option linter.unusedVariables false
theorem fret_int {k:IntKind} {a b:Int} (h:a = b):Ending.returned (.int k a) = .returned (.int k b):=by rw [h]
theorem fret_bool {a b:Bool} (h:a = b):Ending.returned (.bool a) = .returned (.bool b):=by rw [h]
def lenCells:Array Value := #[.int .i64 0, .int .i64 1, .int .i64 2, .int .i64 3, .int .i64 4, .int .i64 5, .int .i64 6, .int .i64 7, .int .i64 8, .int .i64 12, .int .i64 16, .int .i64 20, .int .i64 24, .int .i64 32, .int .i64 48, .int .i64 64]
def markCells:Array Value := #[.int .i64 1, .int .u32 2147483648, .int .i64 2, .int .u32 1073741824, .int .i64 4, .int .u32 536870912]
theorem lt_of_heap {w:World} {k:Nat} {o:Obj} (h:w.heap[k]? = some o):k < w.heap.size:=(Array.getElem?_eq_some_iff.1 h).1
def TabL (w:World):Prop := ∃ t fr,w.heap[1]? = some (.cells lenCells t fr)
def TabM (w:World):Prop := ∃ t fr,w.heap[0]? = some (.cells markCells t fr)
theorem TabM.below {w w':World} (h:TabM w) (hb:Below w.heap.size w w'):TabM w':=by obtain ⟨t,fr,h1⟩:=h; exact ⟨t,fr,by rw [hb.block _ (lt_of_heap h1)]; exact h1⟩
def Tabs (w:World):Prop:=TabL w ∧ TabM w
theorem Tabs.below {w w':World} (h:Tabs w) (hb:Below w.heap.size w w'):Tabs w':=by
  obtain ⟨⟨t,fr,h1⟩,h2⟩:=h
  exact ⟨⟨t,fr,by rw [hb.block _ (lt_of_heap h1)]; exact h1⟩,h2.below hb⟩
theorem Tabs.alloc {w:World} (h:Tabs w) (o:Obj):Tabs (w.alloc o):=h.below ((Below.refl _ _).alloc (Nat.le_refl _) o)
theorem Tabs.drewN {w:World} (h:Tabs w) (n:Nat):Tabs (w.drewN n):=h
theorem Tabs.cell {w:World} (h:Tabs w) (i:Nat):w.cell? ⟨1,i,none⟩ = lenCells[i]?:=by
  obtain ⟨⟨t,fr,h1⟩,_⟩:=h
  exact cell_of_row _ _ _ _ _ _ h1
theorem barred_any (n:Int) (w:World) :
    Calls Tryz.prog 111 #[.int .i64 n] w fun e w' => e = .returned (.int .i64 (barN n)) ∧ w = w':=by
  unfold barN
  cases hX:fX n
  · have h4:=and4_f hX
    clear hX
    cases hD:fD n
    · have h8:=and8_f hD
      clear hD
      simp only [Bool.false_eq_true,if_false]
      go_enter Tryz.func111,Tryz.ntmps111
      go_wp2
      go_ret
      exact ⟨fret_int (by decide +kernel),rfl⟩
    · have h8:=and8_t hD
      clear hD
      simp only [Bool.false_eq_true,if_false,if_true]
      go_enter Tryz.func111,Tryz.ntmps111
      go_wp2
      go_ret
      exact ⟨fret_int (by decide +kernel),rfl⟩
  · have h4:=and4_t hX
    clear hX
    simp only [if_true]
    go_enter Tryz.func111,Tryz.ntmps111
    go_wp2
    go_ret
    exact ⟨fret_int (by decide +kernel),rfl⟩
theorem and5 (n:Int):bits .and .i64 n 5 ≠ 0 ↔ (fE n || fX n) = true:=by
  have e:(BitVec.ofInt 64 n).toNat &&& 5 = ((BitVec.ofInt 64 n).toNat &&& 1) ||| ((BitVec.ofInt 64 n).toNat &&& 4):=by
    rw [← Nat.and_or_distrib_left]; rfl
  have h1:=nat_and_pow (BitVec.ofInt 64 n).toNat 0
  have h4:=nat_and_pow (BitVec.ofInt 64 n).toNat 2
  have hv:bits .and .i64 n 5 = (((BitVec.ofInt 64 n).toNat &&& 5:Nat):Int):=by
    have hle:(BitVec.ofInt 64 n).toNat &&& 5 ≤ 5:=Nat.and_le_right
    show IntKind.i64.wrap (((BitVec.ofInt 64 n) &&& (BitVec.ofInt 64 5)).toNat:Int) = _
    rw [BitVec.toNat_and]
    show IntKind.i64.wrap (((BitVec.ofInt 64 n).toNat &&& 5:Nat):Int) = _
    rw [IntKind.wrap_i64]
    omega
  rw [hv,e]
  simp only [Nat.pow_zero,Nat.div_one,Nat.mul_one] at h1
  rw [h1,h4,ofInt_toNat]
  unfold fE fX
  simp only [Bool.or_eq_true,decide_eq_true_eq,ne_eq,Int.natCast_eq_zero,Nat.or_eq_zero_iff]
  omega
theorem top_any (n:Int) (w:World) :
    Calls Tryz.prog 112 #[.int .i64 n] w fun e w' => e = .returned (.int .i64 (topN n)) ∧ w = w':=by
  unfold topN
  have h5:=and5 n
  cases hq:(fE n || fX n)
  · have h0:bits .and .i64 n 5 = 0:=Classical.byContradiction fun h => by have h6:=h5.1 h; rw [hq] at h6; cases h6
    clear h5 hq
    simp only [Bool.false_eq_true,if_false]
    go_enter Tryz.func112,Tryz.ntmps112
    go_wp2
    go_ret
    exact ⟨rfl,rfl⟩
  · have h0:(bits .and .i64 n 5 != 0) = true:=by rw [bne_iff_ne]; exact h5.2 hq
    clear h5 hq
    simp only [if_true]
    go_enter Tryz.func112,Tryz.ntmps112
    go_wp2
    go_ret
    exact ⟨rfl,rfl⟩
theorem one2_any (n:Int) (w:World) :
    Calls Tryz.prog 76 #[.int .i64 n, .int .i64 2] w fun e w' => e = .returned (.int .i64 (b01 (fR n))) ∧ w = w':=by
  unfold b01
  cases hq:fR n
  · have h2:=and2_f hq
    clear hq
    simp only [Bool.false_eq_true,if_false]
    go_enter Tryz.func76,Tryz.ntmps76
    go_wp2
    go_ret
    exact ⟨rfl,rfl⟩
  · have h2:=and2_t hq
    clear hq
    simp only [if_true]
    go_enter Tryz.func76,Tryz.ntmps76
    go_wp2
    go_ret
    exact ⟨rfl,rfl⟩
theorem one8_any (n:Int) (w:World) :
    Calls Tryz.prog 76 #[.int .i64 n, .int .i64 8] w fun e w' => e = .returned (.int .i64 (b01 (fD n))) ∧ w = w':=by
  unfold b01
  cases hq:fD n
  · have h8:=and8_f hq
    clear hq
    simp only [Bool.false_eq_true,if_false]
    go_enter Tryz.func76,Tryz.ntmps76
    go_wp2
    go_ret
    exact ⟨rfl,rfl⟩
  · have h8:=and8_t hq
    clear hq
    simp only [if_true]
    go_enter Tryz.func76,Tryz.ntmps76
    go_wp2
    go_ret
    exact ⟨rfl,rfl⟩
theorem nilB (d:ByteArray):d.toList.isEmpty = decide (d.size = 0):=by
  rw [ByteArray.toList_eq]
  obtain ⟨⟨l⟩⟩:=d
  cases l <;> rfl
theorem dataFit_any (i n l:Int) (d:ByteArray) (w:World) :
    Calls Tryz.prog 114 #[.agg #[.int .i64 i, .int .i64 n, .int .i64 l, .string d]] w fun e w' => e = .returned (.bool (datOk n l d.size)) ∧ Below w.heap.size w w':=by
  unfold datOk
  cases hq:fR n
  · have h2:=and2_f hq
    clear hq
    simp only [Bool.false_eq_true,if_false]
    go_enter Tryz.func114,Tryz.ntmps114
    go_wp2
    go_ret
    exact ⟨fret_bool (by rw [Bool.eq_iff_iff]; simp),(Below.refl _ _).alloc (Nat.le_refl _) _⟩
  · have h2:=and2_t hq
    clear hq
    simp only [if_true]
    go_enter Tryz.func114,Tryz.ntmps114
    go_wp2
    go_ret
    exact ⟨fret_bool (nilB d),(Below.refl _ _).alloc (Nat.le_refl _) _⟩
end Go.Proofs.YtimdkcchjanpaaaGreatDoor
namespace Go.Proofs.YtimdkcchjanpaaaGreatDoor
open Go.RowKit
set_option linter.unusedVariables false
def noLen (n:Int) (k:Nat):Prop := ∀ j,j < k → lens.getD j 0 ≠ n
theorem noLen_succ {n:Int} {k:Nat} (h:noLen n k) (hk:lens.getD k 0 ≠ n):noLen n (k + 1):=by
  intro j hj
  by_cases e:j = k
  · rw [e]; exact hk
  · exact h j (by omega)
theorem code_at:∀ k:Fin 16,codeN (lens.getD k.val 0) = k.val:=by decide
theorem codeN_hit {n:Int} {k:Nat} (hk:k < 16) (h:lens.getD k 0 = n):codeN n = k:=by rw [← h]; exact code_at ⟨k,hk⟩
theorem codeN_miss {n:Int} (h:noLen n 16):codeN n = -1:=by
  have h0:=h 0 (by omega); have h1:=h 1 (by omega); have h2:=h 2 (by omega); have h3:=h 3 (by omega); have h4:=h 4 (by omega); have h5:=h 5 (by omega); have h6:=h 6 (by omega); have h7:=h 7 (by omega)
  have h8:=h 8 (by omega); have h9:=h 9 (by omega); have h10:=h 10 (by omega); have h11:=h 11 (by omega); have h12:=h 12 (by omega); have h13:=h 13 (by omega); have h14:=h 14 (by omega); have h15:=h 15 (by omega)
  simp [lens] at h0 h1 h2 h3 h4 h5 h6 h7 h8 h9 h10 h11 h12 h13 h14 h15
  unfold codeN
  repeat (rw [if_neg (by omega)])
theorem lens_idx (k:Nat) (hk:k < 16) (w:World):(Instr.index 196 (.agg lenCells) (.int .i64 k)).run Tryz.prog w = .ok (.int .i64 (lens.getD k 0)) w:=by
  have:k = 0 ∨ k = 1 ∨ k = 2 ∨ k = 3 ∨ k = 4 ∨ k = 5 ∨ k = 6 ∨ k = 7 ∨ k = 8 ∨ k = 9 ∨ k = 10 ∨ k = 11 ∨ k = 12 ∨ k = 13 ∨ k = 14 ∨ k = 15:=by omega
  rcases this with rfl | rfl | rfl | rfl | rfl | rfl | rfl | rfl | rfl | rfl | rfl | rfl | rfl | rfl | rfl | rfl <;> (show _ = _; kernel_rfl)
theorem codeClos_t (x n:Int) (b:Nat) (w:World) (hc:w.cell? ⟨b,0,none⟩ = some (.int .i64 n)) (h:x = n) :
    Calls Tryz.prog 156 #[.int .i64 x, .pointer (some ⟨b,0,none⟩)] w fun e w' => e = .returned (.bool true) ∧ w = w':=by
  have h1:(x == n) = true:=by simpa using h
  clear h
  go_enter Tryz.func156,Tryz.ntmps156
  go_wp2
  go_ret
  exact ⟨rfl,rfl⟩
theorem codeClos_f (x n:Int) (b:Nat) (w:World) (hc:w.cell? ⟨b,0,none⟩ = some (.int .i64 n)) (h:x ≠ n) :
    Calls Tryz.prog 156 #[.int .i64 x, .pointer (some ⟨b,0,none⟩)] w fun e w' => e = .returned (.bool false) ∧ w = w':=by
  have h1:(x == n) = false:=by simpa using h
  clear h
  go_enter Tryz.func156,Tryz.ntmps156
  go_wp2
  go_ret
  exact ⟨rfl,rfl⟩
def codeE (n:Int):Ending:=if isLen n then .returned (.tuple #[.int .i64 (codeN n), .bool true]) else .returned (.tuple #[.int .i64 0, .bool false])
theorem codeE_t {n:Int} {k:Nat} (h:codeN n = k):Ending.returned (.tuple #[.int .i64 k, .bool true]) = codeE n:=by
  unfold codeE
  rw [if_pos (by unfold isLen; rw [h]; simp),h]
theorem codeE_f {n:Int} (h:codeN n = -1):Ending.returned (.tuple #[.int .i64 0, .bool false]) = codeE n:=by
  unfold codeE
  rw [if_neg (by unfold isLen; rw [h]; simp)]
theorem firstCode_any (n:Int) (b:Nat) (w:World) (hT:Tabs w) (hc:w.cell? ⟨b,0,none⟩ = some (.int .i64 n)) :
    Calls Tryz.prog 155 #[.func (.func 156) #[] #[.pointer (some ⟨b,0,none⟩)]] w fun e w' => e = codeE n ∧ w = w':=by
  obtain ⟨⟨t,fr,hg⟩,_⟩:=hT
  have HG:=Lib.hid hg
  clear hg
  go_enter Tryz.func155,Tryz.ntmps155
  go_wp2_with (refine wpList_load_row rfl 196 _ rfl 1 rfl t lenCells fr _ HG.out Tryz.underlying196 rfl (by kernel_rfl) ?_)
  go_loop [4,5,7] (fun _ _ i => ∃ k:Nat,k ≤ 16 ∧ i = .int .i64 k ∧ noLen n k) (fun _ _ i => 16 - (intOf i).toNat)
  case atStart => exact ⟨0,by omega,rfl,fun j hj => by omega⟩
  case round =>
    obtain ⟨k,hk,rfl,hno⟩:=hrel
    by_cases hlt:k < 16
    · have hi:=lens_idx k hlt
      by_cases hx:lens.getD k 0 = n
      · have hE:=Lib.hid (codeE_t (codeN_hit hlt hx))
        have HX:=Lib.hid hx
        clear hx hno
        go_wp2_with (go_at_call 156; refine (codeClos_t (lens.getD k 0) n b _ hc HX.out).mono ?_; rintro e w1 ⟨rfl,rfl⟩)
        go_ret2
        exact ⟨hE.out,rfl⟩
      · have hno':=Lib.hid (noLen_succ hno hx)
        have HX:=Lib.hid hx
        clear hx hno
        go_wp2_with (go_at_call 156; refine (codeClos_f (lens.getD k 0) n b _ hc HX.out).mono ?_; rintro e w1 ⟨rfl,rfl⟩)
        go_round
        case rel => exact ⟨k + 1,by omega,by go_num,hno'.out⟩
        case measure => simp [intOf]; omega
    · obtain rfl:k = 16:=by omega
      have hE:=Lib.hid (codeE_f (codeN_miss hno))
      clear hno
      go_wp2
      go_ret2
      exact ⟨hE.out,rfl⟩
end Go.Proofs.YtimdkcchjanpaaaGreatDoor
namespace Go.Proofs.YtimdkcchjanpaaaGreatDoor
open Go.RowKit
set_option linter.unusedVariables false
theorem fbelow_t {w w1 w2:World} (h:Below w.heap.size w w1) (h':Below w1.heap.size w1 w2):Below w.heap.size w w2:=h.trans (h'.mono h.size)
theorem fbelow_a {w w2:World} (o:Obj) (h':Below (w.alloc o).heap.size (w.alloc o) w2):Below w.heap.size w w2:=fbelow_t ((Below.refl _ _).alloc (Nat.le_refl _) o) h'
theorem code_t (n:Int) (w:World) (hT:Tabs w) (h:isLen n = true) :
    Calls Tryz.prog 142 #[.int .i64 n] w fun e w' => e = .returned (.tuple #[.int .i64 (codeN n), .bool true]) ∧ Below w.heap.size w w':=by
  have HE:Hid (codeE n = .returned (.tuple #[.int .i64 (codeN n), .bool true])):=Lib.hid (by unfold codeE; rw [if_pos h])
  clear h
  have HT:=Lib.hid hT
  clear hT
  have hmf:∀ (fn:Fn) (first cap:Array Value) (w:World),(Instr.makeFunc fn first cap).run Tryz.prog w = .ok (.func fn first cap) w:=fun _ _ _ _ => rfl
  go_enter Tryz.func142,Tryz.ntmps142
  go_wp2_with fail
  refine (firstCode_any n _ _ (HT.out.alloc _) ?_).mono ?_
  · rw [World.cell?_alloc_at _ _ _ _ rfl]; rfl
  rintro e w1 ⟨he,rfl⟩
  rw [HE.out] at he
  subst he
  go_wp2
  go_ret2
  exact ⟨rfl,(Below.refl _ _).alloc (Nat.le_refl _) _⟩
theorem code_f (n:Int) (w:World) (hT:Tabs w) (h:isLen n = false) :
    Calls Tryz.prog 142 #[.int .i64 n] w fun e w' => e = .returned (.tuple #[.int .i64 0, .bool false]) ∧ Below w.heap.size w w':=by
  have HE:Hid (codeE n = .returned (.tuple #[.int .i64 0, .bool false])):=Lib.hid (by unfold codeE; rw [h]; rfl)
  clear h
  have HT:=Lib.hid hT
  clear hT
  have hmf:∀ (fn:Fn) (first cap:Array Value) (w:World),(Instr.makeFunc fn first cap).run Tryz.prog w = .ok (.func fn first cap) w:=fun _ _ _ _ => rfl
  go_enter Tryz.func142,Tryz.ntmps142
  go_wp2_with fail
  refine (firstCode_any n _ _ (HT.out.alloc _) ?_).mono ?_
  · rw [World.cell?_alloc_at _ _ _ _ rfl]; rfl
  rintro e w1 ⟨he,rfl⟩
  rw [HE.out] at he
  subst he
  go_wp2
  go_ret2
  exact ⟨rfl,(Below.refl _ _).alloc (Nat.le_refl _) _⟩
theorem Tabs.len {w:World} (h:Tabs w) (k:Nat) (hk:k < 16):w.cell? ⟨1,k,none⟩ = some (.int .i64 (lens.getD k 0)):=by
  rw [h.cell]
  have:k = 0 ∨ k = 1 ∨ k = 2 ∨ k = 3 ∨ k = 4 ∨ k = 5 ∨ k = 6 ∨ k = 7 ∨ k = 8 ∨ k = 9 ∨ k = 10 ∨ k = 11 ∨ k = 12 ∨ k = 13 ∨ k = 14 ∨ k = 15:=by omega
  rcases this with rfl | rfl | rfl | rfl | rfl | rfl | rfl | rfl | rfl | rfl | rfl | rfl | rfl | rfl | rfl | rfl <;> rfl
def lenAt (k:Nat):Int:=lens.getD k 0
theorem rsizes_any (w:World) :
    Calls Tryz.prog 161 #[] w fun e w' => e = .returned (.slice (some ⟨w.heap.size,0,none⟩) 16 16) ∧ (∀ k:Nat,k < 16 → w'.cell? ⟨w.heap.size,k,none⟩ = some (.int .i64 (lens.getD k 0))) ∧ Below w.heap.size w w':=by
  go_enter Tryz.func161,Tryz.ntmps161
  go_wp2
  go_ret
  refine ⟨rfl,fun k hk => ?_,(Below.refl _ _).alloc (Nat.le_refl _) _⟩
  rw [World.cell?_alloc_at _ _ _ _ rfl]
  have:k = 0 ∨ k = 1 ∨ k = 2 ∨ k = 3 ∨ k = 4 ∨ k = 5 ∨ k = 6 ∨ k = 7 ∨ k = 8 ∨ k = 9 ∨ k = 10 ∨ k = 11 ∨ k = 12 ∨ k = 13 ∨ k = 14 ∨ k = 15:=by omega
  rcases this with rfl | rfl | rfl | rfl | rfl | rfl | rfl | rfl | rfl | rfl | rfl | rfl | rfl | rfl | rfl | rfl <;> rfl
theorem rcode_any (n:Int) (w:World) :
    Calls Tryz.prog 146 #[.int .i64 n] w fun e w' => e = .returned (.int .i64 (codeN n)) ∧ Below w.heap.size w w':=by
  go_enter Tryz.func146,Tryz.ntmps146
  go_wp2_with fail
  refine (rsizes_any _).mono ?_
  rintro e w1 ⟨rfl,hcs,hb⟩
  have HC:=Lib.hid hcs
  clear hcs
  go_wp2_with fail
  go_loop [4] (fun i => ∃ k:Nat,k ≤ 16 ∧ i = .int .i64 k ∧ noLen n k) (fun i => 16 - (intOf i).toNat)
  case atStart => exact ⟨0,by omega,rfl,fun j hj => by omega⟩
  case round =>
    obtain ⟨k,hk,rfl,hno⟩:=hrel
    by_cases hlt:k < 16
    · have hi:w1.cell? ⟨w.heap.size,k,none⟩ = some (.int .i64 (lenAt k)):=HC.out k hlt
      by_cases hx:lenAt k = n
      · have hE:=Lib.hid (codeN_hit hlt hx)
        have hx':(lenAt k == n) = true:=by simpa using hx
        clear hx hno
        go_wp2
        go_ret
        exact ⟨fret_int hE.out.symm,hb⟩
      · have hno':=Lib.hid (noLen_succ hno hx)
        have hx':(lenAt k == n) = false:=by simpa using hx
        clear hx hno
        go_wp2
        go_round
        case rel => exact ⟨k + 1,by omega,by go_num,hno'.out⟩
        case measure => simp [intOf]; omega
    · obtain rfl:k = 16:=by omega
      have hE:=Lib.hid (codeN_miss hno)
      clear hno
      go_wp2
      go_ret
      exact ⟨fret_int hE.out.symm,hb⟩
end Go.Proofs.YtimdkcchjanpaaaGreatDoor
