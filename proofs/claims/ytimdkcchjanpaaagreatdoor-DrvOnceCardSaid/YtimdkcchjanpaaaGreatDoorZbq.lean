/- Of no program: a row of Bools of the call's own. Parted out of BusE. Drv: the memory of DrvOnce's walk: the driver, the row of what was taken, the row of wha .. -/
import Derived.Test.YtimdkcchjanpaaaGreatDoorZaf
import Derived.Test.YtimdkcchjanpaaaGreatDoorZbp
import Derived.Test.YtimdkcchjanpaaaGreatDoorZbk
import Derived.Test.YtimdkcchjanpaaaGreatDoorZah
import Derived.Test.YtimdkcchjanpaaaGreatDoorZal
namespace Go.Proofs.YtimdkcchjanpaaaGreatDoor
open Go.RowKit
set_option linter.unusedVariables false
def BoolR (g n:Nat) (f:Nat → Bool) (w:World):Prop := ∀ x,x < n → w.cell? ⟨g,x,none⟩ = some (.bool (f x)) ∧ w.frozen? ⟨g,x,none⟩ = false
theorem BoolR.set {g n x:Nat} {f:Nat → Bool} {w:World} {b:Bool} (h:BoolR g n f w) (hx:x < n):BoolR g n (fun y => if y = x then b else f y) (w.setCell ⟨g,x,none⟩ (.bool b)):=by
  intro y hy
  rw [World.frozen?_setCell]
  refine ⟨?_,(h y hy).2⟩
  dsimp only
  by_cases hyx:y = x
  · subst hyx
    rw [if_pos rfl,World.cell?_setCell_same' _ _ _ (by rw [(h y hy).1]; rfl)]
  · rw [if_neg hyx,World.cell?_setCell_other _ _ _ _ (by intro e; injection e; omega)]
    exact (h y hy).1
theorem BoolR.later {g n:Nat} {f:Nat → Bool} {w w1:World} (h:BoolR g n f w) (hg:g < w.heap.size) (hb:Below w.heap.size w w1):BoolR g n f w1:=fun x hx =>
  ⟨(hb.cell (p:=⟨g,x,none⟩) hg).trans (h x hx).1,(hb.frozen (p:=⟨g,x,none⟩) hg).trans (h x hx).2⟩
theorem BoolR.other {g n b j:Nat} {f:Nat → Bool} {w:World} {u:Value} (h:BoolR g n f w) (hne:g ≠ b):BoolR g n f (w.setCell ⟨b,j,none⟩ u):=fun x hx =>
  ⟨by rw [World.cell?_setCell_other _ _ _ _ (by intro e; injection e with e; exact hne e.symm)]; exact (h x hx).1,by rw [World.frozen?_setCell]; exact (h x hx).2⟩
theorem info_bl:(Tryz.prog.info? 4).map (fun i => (i.zero,i.size,i.bytes)) = some (some (.bool false),1,1):=by kernel_rfl
theorem run_mkB (n:Nat) (hn:n ≤ 1000) (w:World) :
    (Instr.makeSlice 33 (.int .i64 n) (.int .i64 n)).run Tryz.prog w = .ok (.slice (some ⟨w.heap.size,0,none⟩) n n) (w.alloc (.cells (madeCells #[.bool false] n) 4)):=by
  obtain ⟨i0,hi,hz0,hz1,hz2⟩:=info_parts info_bl
  have:=run_make (P:=Tryz.prog) w 33 4 i0 (.bool false) Tryz.underlying33 hi hz0 .i64 .i64 (n:Int) (n:Int) (by omega) (Int.le_refl _) (by rw [hz2]; omega) (by omega)
  rw [hz1,Nat.mul_one,Int.toNat_natCast] at this
  exact this
theorem BoolR.made (w:World) (n:Nat):BoolR w.heap.size n (fun _ => false) (w.alloc (.cells (madeCells #[.bool false] n) 4)):=by
  intro x hx
  have h:(w.alloc (.cells (madeCells #[.bool false] n) 4)).heap[w.heap.size]? = some (.cells (madeCells #[.bool false] n) 4 (0,0)):=heap_alloc_new _ _
  refine ⟨?_,Lib.frozen_of_heap h x⟩
  rw [Lib.cell_of_heap h]
  unfold madeCells
  simp [hx,Nat.mod_one]
end Go.Proofs.YtimdkcchjanpaaaGreatDoor
namespace Go.Proofs.YtimdkcchjanpaaaGreatDoor
open Go.RowKit
set_option linter.unusedVariables false
abbrev cgCs (c:Cg):Array Value := #[.int .i64 c.bo, .int .i64 c.fi, .int .i64 c.ba, .int .i64 c.de, .int .i64 c.qu, .int .i64 c.no, .int .i64 c.re, .slice c.A c.n c.cp]
structure OnM (I:World → Value → Dr → (Nat → Prop) → Prop) (w0:World) (v:Value) (s:Dr) (O:Nat → Prop) (cb tb N:Nat) (c:Cg) (u:Value) (M:List Pk) (U:Nat → Bool) (w:World):Prop where
  has:Has I w0 v s O w
  row:RowQ pkC 7 w u M
  own:∀ g,OwnO u g → w0.heap.size ≤ g ∧ ¬ O g ∧ g ≠ tb ∧ g ≠ cb
  tab:BoolR tb N U w
  t0:w0.heap.size ≤ tb
  t1:tb < w.heap.size
  t2:¬ O tb
  t3:tb ≠ cb
  cfg:w.heap[cb]? = some (.cells (cgCs c) 24 (0,0))
  c1:¬ O cb
section
variable {I:World → Value → Dr → (Nat → Prop) → Prop} {w0 w w':World} {v u u':Value} {s s':Dr} {O O1:Nat → Prop} {cb tb N:Nat} {c:Cg} {M M':List Pk} {U:Nat → Bool}
theorem BoolR.kept {g n:Nat} {f:Nat → Bool} (h:BoolR g n f w) (hg:g < w.heap.size) (hk:Kept O w w') (hn:¬ O g):BoolR g n f w':=fun x hx =>
  ⟨(hk.cell (p:=⟨g,x,none⟩) hg hn).trans (h x hx).1,(hk.frozen (p:=⟨g,x,none⟩) hg hn).trans (h x hx).2⟩
theorem OnM.call (hI:IsObj I) (h:OnM I w0 v s O cb tb N c u M U w) (hi:I w' v s' O1) (hk:Kept O w w') (hg:Grows O w O1):OnM I w0 v s' O1 cb tb N c u M U w' :=
  ⟨h.has.step hI hi hk hg,h.row.stay (fun g hg' => hk.block g (h.row.lt g hg') (h.own g hg').2.1) hk.size,
    fun g hg' => ⟨(h.own g hg').1,out_step (h.row.lt g hg') (h.own g hg').2.1 hg,(h.own g hg').2.2⟩,
    h.tab.kept h.t1 hk h.t2,h.t0,Nat.lt_of_lt_of_le h.t1 hk.size,out_step h.t1 h.t2 hg,h.t3,(hk.block cb (heap_some_lt h.cfg) h.c1).trans h.cfg,out_step (heap_some_lt h.cfg) h.c1 hg⟩
theorem OnM.later (hI:IsObj I) (h:OnM I w0 v s O cb tb N c u M U w) (hb:Below w.heap.size w w'):OnM I w0 v s O cb tb N c u M U w' :=
  ⟨h.has.later hI hb,h.row.later hb,h.own,h.tab.later h.t1 hb,h.t0,Nat.lt_of_lt_of_le h.t1 hb.size,h.t2,h.t3,(hb.block cb (heap_some_lt h.cfg)).trans h.cfg,h.c1⟩
theorem OnM.app (hI:IsObj I) (h:OnM I w0 v s O cb tb N c u M U w) (hq:RowQ pkC 7 w' u' M') (hk:Kept (OwnO u) w w') (hg:Grows (OwnO u) w (OwnO u')):OnM I w0 v s O cb tb N c u' M' U w':=by
  have nO:∀ k,O k → ¬ OwnO u k:=fun k h1 h2 => (h.own k h2).2.1 h1
  have nt:¬ OwnO u tb:=fun h2 => (h.own tb h2).2.2.1 rfl
  have nc:¬ OwnO u cb:=fun h2 => (h.own cb h2).2.2.2 rfl
  have lO:=hI.lt h.has.inv
  have lc:=heap_some_lt h.cfg
  refine ⟨⟨hI.stay h.has.inv (fun k hk' => hk.block k (lO k hk') (nO k hk')),hk.below h.has.below h.has.below.size (fun k hk' => (h.own k hk').1),h.has.new⟩,hq,fun g hg' => ?_,h.tab.kept h.t1 hk nt,h.t0,Nat.lt_of_lt_of_le h.t1 hk.size,h.t2,h.t3,(hk.block cb lc nc).trans h.cfg,h.c1⟩
  rcases hg g hg' with h1 | h1
  · exact h.own g h1
  · refine ⟨Nat.le_trans h.has.below.size h1,fun ho => ?_, ?_, ?_⟩
    · have:=lO g ho; omega
    · have:=h.t1; omega
    · omega
theorem OnM.tell (hI:IsObj I) (h:OnM I w0 v s O cb tb N c u M U w) {j:Nat} (hj:j < N):OnM I w0 v s O cb tb N c u M (fun i => if i = j then true else U i) (w.setCell ⟨tb,j,none⟩ (.bool true)):=by
  have ho:∀ k,k ≠ tb → (w.setCell ⟨tb,j,none⟩ (.bool true)).heap[k]? = w.heap[k]?:=fun k hk => Below.heap_setCell _ _ _ _ hk
  exact ⟨h.has.setCell hI (p:=⟨tb,j,none⟩) h.t0 h.t2 _,h.row.stay (fun g hg => ho g (h.own g hg).2.2.1) (by simp [World.setCell]),h.own,h.tab.set hj,h.t0,by simp [World.setCell]; exact h.t1,h.t2,h.t3,(ho cb (fun e => h.t3 e.symm)).trans h.cfg,h.c1⟩
theorem OnM.turn (hI:IsObj I) (h:OnM I w0 v s O cb tb N c u M U w) {g j:Nat} (hg:w0.heap.size ≤ g) (h1:¬ O g) (h2:¬ OwnO u g) (h3:g ≠ tb) (h4:g ≠ cb) (y:Value):OnM I w0 v s O cb tb N c u M U (w.setCell ⟨g,j,none⟩ y):=by
  have ho:∀ k,k ≠ g → (w.setCell ⟨g,j,none⟩ y).heap[k]? = w.heap[k]?:=fun k hk => Below.heap_setCell _ _ _ _ hk
  exact ⟨h.has.setCell hI (p:=⟨g,j,none⟩) hg h1 _,h.row.stay (fun k hk => ho k (fun e => h2 (e ▸ hk))) (by simp [World.setCell]),h.own,h.tab.other (fun e => h3 e.symm),h.t0,by simp [World.setCell]; exact h.t1,h.t2,h.t3,(ho cb (fun e => h4 e.symm)).trans h.cfg,h.c1⟩
theorem OnM.fresh (hI:IsObj I) (h:OnM I w0 v s O cb tb N c u M U w) {g:Nat} (hg:w.heap.size ≤ g):w0.heap.size ≤ g ∧ ¬ O g ∧ ¬ OwnO u g ∧ g ≠ tb ∧ g ≠ cb:=by
  refine ⟨Nat.le_trans h.has.below.size hg,fun h1 => ?_,fun h1 => ?_,fun e => ?_,fun e => ?_⟩
  · have:=hI.lt h.has.inv g h1; omega
  · have:=h.row.lt g h1; omega
  · have:=h.t1; omega
  · have:=heap_some_lt h.cfg; omega
end
abbrev Pk.tagged (p:Pk) (t:Int):Pk:=⟨p.f,p.fr,t,p.lp⟩
theorem BoxP.tag {w:World} {g:Nat} {p:Pk} (h:BoxP w g p) (t:Int):BoxP (w.setCell ⟨g,5,none⟩ (.int .i64 t)) g (p.tagged t):=by
  unfold BoxP at *
  rw [heap_setCell_same w g 5 _ _ (.int .i64 t) h]
  rfl
def OnG (I:World → Value → Dr → (Nat → Prop) → Prop) (w0 W:World) (v:Value) (s s' t0:Dr) (O:Nat → Prop) (a b:Tmp) (k:Nat) (xs:Tmp → Option Value) (w:World):Prop:=Kept O W w ∧
  ((k = 0 ∧ Has I w0 v s O w ∧ xs a = none) ∨ (k = 1 ∧ ∃ g O',xs a = some (.pointer (some ⟨g,0,none⟩)) ∧ Pair I DrD w0 v (.pointer (some ⟨g,0,none⟩)) s t0 O O' w ∧ ∀ k,O' k → W.heap.size ≤ k) ∨
   (k = 2 ∧ ∃ O1,I w v s' O1 ∧ Grows O W O1))
section
variable {I:World → Value → Dr → (Nat → Prop) → Prop} {w0 W w w':World} {v:Value} {s s' t0:Dr} {O O' O1:Nat → Prop} {a b:Tmp} {k:Nat} {xs:Tmp → Option Value}
theorem OnG.start (hI:IsObj I) (h:Has I w0 v s O W):OnG I w0 W v s s' t0 O a b 0 (fun _ => none) W.drew :=
  ⟨.of_below (Below.refl _ _).drew, .inl ⟨rfl,h.later hI (Below.refl _ _).drew,rfl⟩⟩
theorem OnG.one (hI:IsObj I) (h:OnG I w0 W v s s' t0 O a b 0 xs w) {u:Value} (hi:DrD w' u t0 O') (hb:Below w.heap.size w w') (hn:∀ k,O' k → w.heap.size ≤ k):OnG I w0 W v s s' t0 O a b 1 (fun t => if t = a then some u else xs t) w':=by
  obtain ⟨h1,⟨_,h2,h3⟩ | ⟨h,_⟩ | ⟨h,_⟩⟩:=h
  · obtain ⟨g,e⟩:∃ g,u = .pointer (some ⟨g,0,none⟩):=by obtain ⟨g,cp,qp,Oc,Oq,h,_,_⟩:=hi; exact ⟨g,h⟩
    subst e
    refine ⟨h1.trans (.of_below (O:=O) hb) (Grows.refl _ _), .inr (.inl ⟨rfl,g,O',by simp,⟨h2.later hI hb,⟨hi,belJ h2.below hb,fun k hk => Nat.le_trans h2.below.size (hn k hk)⟩,fun k k1 k2 => ?_⟩,fun k hk => Nat.le_trans h1.size (hn k hk)⟩)⟩
    have:=hI.lt h2.inv k k1
    have:=hn k k2
    omega
  · cases h
  · cases h
theorem OnG.get (h:OnG I w0 W v s s' t0 O a b 1 xs w) {u:Value} (hu:xs a = some u):∃ g O',u = .pointer (some ⟨g,0,none⟩) ∧ Pair I DrD w0 v (.pointer (some ⟨g,0,none⟩)) s t0 O O' w ∧ ∀ k,O' k → W.heap.size ≤ k:=by
  obtain ⟨_,⟨h,_⟩ | ⟨_,g,O',h1,h2,h3⟩ | ⟨h,_⟩⟩:=h
  · cases h
  · rw [hu] at h1
    injection h1 with h1
    exact ⟨g,O',h1,h2,h3⟩
  · cases h
theorem OnG.two (h:OnG I w0 W v s s' t0 O a b 1 xs w) {ys:Tmp → Option Value} (hi:I w' v s' O1) (hn:∀ k,O' k → W.heap.size ≤ k) (hk:Kept (fun k => O k ∨ O' k) w w') (hg:Grows (fun k => O k ∨ O' k) w O1):OnG I w0 W v s s' t0 O a b 2 ys w':=by
  obtain ⟨h1,_⟩:=h
  refine ⟨⟨hk.os.trans h1.os,hk.tape.trans h1.tape,hk.output.trans h1.output,Nat.le_trans h1.size hk.size,fun k hk' hno => ?_⟩, .inr (.inr ⟨rfl,O1,hi,fun k hk' => ?_⟩)⟩
  · rw [hk.block k (Nat.lt_of_lt_of_le hk' h1.size) (fun hh => by
      rcases hh with hh | hh
      · exact hno hh
      · have:=hn k hh; omega)]
    exact h1.block k hk' hno
  · rcases hg k hk' with (h2 | h2) | h2
    · exact .inl h2
    · exact .inr (hn k h2)
    · exact .inr (Nat.le_trans h1.size h2)
theorem OnG.out (h:OnG I w0 W v s s' t0 O a b 2 xs w):∃ O1,I w v s' O1 ∧ Kept O W w ∧ Grows O W O1:=by
  obtain ⟨h1,⟨h,_⟩ | ⟨h,_⟩ | ⟨_,O1,h2,h3⟩⟩:=h
  · cases h
  · cases h
  · exact ⟨O1,h2,h1,h3⟩
end
end Go.Proofs.YtimdkcchjanpaaaGreatDoor
