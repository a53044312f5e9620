/- Bus, the document's side: the memory of Slot's later loops. Bus, the document's side: Slot behind the log (the frame is taken from those that wait). Bus, the document's side: Slot, the log's entry. -/
import Derived.Test.YtpgfifacfkllfaaDoorZak
import Derived.Deep.RegionLaw
namespace Go.Proofs.YtpgfifacfkllfaaDoor
open Go.RowKit
set_option linter.unusedVariables false

structure Sl2 (w : World) (b gn gw : Nat) (ws : List Value) (vl : Value) (s0 s : Bs) (f : Fr) (br gl bf : Nat) (wr : World) : Prop where
  bus : BusM wr b gn gw ws vl s
  kept : Kept (busO b gn gw ws vl) w wr
  own : ∀ k, busO b gn gw ws vl k → k < w.heap.size
  ff : BoxF wr bf f.i f.n f.l f.d
  fb : BoolR gl s0.N.length s0.off wr
  gl1 : gl < wr.heap.size
  gl0 : w.heap.size ≤ gl
  bf0 : w.heap.size ≤ bf
  ev : wr.heap[br]? = some (.cells #[.int .i64 0, .int .i64 0, .int .i64 0, .int .i64 0, .int .i64 0, .string (ByteArray.mk #[])] 64 (0, 0))
  br0 : w.heap.size ≤ br
  n5 : br ≠ bf
theorem SlM.two {w wr : World} {b gn gw : Nat} {ws : List Value} {vl : Value} {s : Bs} {own f : Fr} {bo br go bf : Nat} (hb : ∀ k, busO b gn gw ws vl k → k < w.heap.size) (h : SlM w b gn gw ws vl s own f bo br go bf s.N.length wr) : Sl2 w b gn gw ws vl s s f br go bf wr :=
  ⟨h.bus, .of_below h.below, hb, h.ff, h.fb.congr (fun x hx => by simp [hx]), h.gl, h.go0, h.bf0, h.ev, h.br0, h.n5⟩
variable {w wr w' : World} {b gn gw : Nat} {ws : List Value} {vl : Value} {s0 s : Bs} {f : Fr} {br gl bf : Nat}
theorem Sl2.later (h : Sl2 w b gn gw ws vl s0 s f br gl bf wr) (hb : Below wr.heap.size wr w') : Sl2 w b gn gw ws vl s0 s f br gl bf w' :=
  ⟨h.bus.later hb, h.kept.trans (.of_below (O := busO b gn gw ws vl) hb) (Grows.refl _ _), h.own, h.ff.later hb, h.fb.later h.gl1 hb, Nat.lt_of_lt_of_le h.gl1 hb.size, h.gl0, h.bf0, (hb.block br (heap_some_lt h.ev)).trans h.ev, h.br0, h.n5⟩
/-- the bus's own blocks have turned -/
theorem Sl2.turn {s' : Bs} (h : Sl2 w b gn gw ws vl s0 s f br gl bf wr) (hm : BusM w' b gn gw ws vl s') (hk : Kept (busO b gn gw ws vl) wr w') : Sl2 w b gn gw ws vl s0 s' f br gl bf w' := by
  have key : ∀ k, w.heap.size ≤ k → k < wr.heap.size → w'.heap[k]? = wr.heap[k]? := fun k h1 h2 => hk.block k h2 (fun ho => by have := h.own k ho; omega)
  refine ⟨hm, h.kept.trans hk (Grows.refl _ _), h.own, (key bf h.bf0 h.ff.lt).trans h.ff, fun x hx => ?_, Nat.lt_of_lt_of_le h.gl1 hk.size, h.gl0, h.bf0, (key br h.br0 (heap_some_lt h.ev)).trans h.ev, h.br0, h.n5⟩
  have e := key gl h.gl0 h.gl1
  have hx2 := h.fb x hx
  exact ⟨(World.cell?_of_block (w := wr) (a := ⟨gl, x, none⟩) e).trans hx2.1, (World.frozen?_of_block (w := wr) (a := ⟨gl, x, none⟩) e).trans hx2.2⟩
theorem Sl2.node {i : Nat} (h : Sl2 w b gn gw ws vl s0 s f br gl bf wr) (hi : i < s.N.length) (c : Cf) : Sl2 w b gn gw ws vl s0 { s with N := s.N.set i c } f br gl bf (putN wr gn i c) := h.turn (h.bus.setNode hi c) putN_kept
theorem Sl2.box {s' : Bs} (h : Sl2 w b gn gw ws vl s0 s f br gl bf wr) (j : Nat) (u : Value) (hm : BusM (wr.setCell ⟨b, j, none⟩ u) b gn gw ws vl s') : Sl2 w b gn gw ws vl s0 s' f br gl bf (wr.setCell ⟨b, j, none⟩ u) :=
  h.turn hm ⟨rfl, rfl, rfl, by simp [World.setCell], fun k _ hk => Below.heap_setCell _ _ _ _ (fun e => hk (.inl e))⟩
theorem Sl2.fix (h : Sl2 w b gn gw ws vl s0 s f br gl bf wr) (x : Bool) : Sl2 w b gn gw ws vl s0 { s with fx := x } f br gl bf (wr.setCell ⟨b, 3, none⟩ (.bool x)) := h.box 3 _ (h.bus.setBox (s' := { s with fx := x }) 3 (.bool x) rfl rfl rfl rfl)
theorem Sl2.slot (h : Sl2 w b gn gw ws vl s0 s f br gl bf wr) (x : Int) : Sl2 w b gn gw ws vl s0 { s with sl := x } f br gl bf (wr.setCell ⟨b, 4, none⟩ (.int .i64 x)) := h.box 4 _ (h.bus.setBox (s' := { s with sl := x }) 4 (.int .i64 x) rfl rfl rfl rfl)
theorem Sl2.done (h : Sl2 w b gn gw ws vl s0 s f br gl bf wr) : Stp BusD (.pointer (some ⟨b, 0, none⟩)) (busO b gn gw ws vl) w s wr := ⟨_, ⟨b, gn, gw, ws, vl, rfl, rfl, h.bus⟩, h.kept, Grows.refl _ _⟩
/-! ### the event's box -/
def BoxE (w : World) (br : Nat) (k n : Int) (f : Fr) : Prop := w.heap[br]? = some (.cells #[.int .i64 k, .int .i64 n, .int .i64 f.i, .int .i64 f.n, .int .i64 f.l, .string f.d] 64 (0, 0))
theorem BoxE.cells {w : World} {br : Nat} {k n : Int} {f : Fr} (h : BoxE w br k n f) : w.cell? ⟨br, 0, none⟩ = some (.int .i64 k) ∧ w.cell? ⟨br, 1, none⟩ = some (.int .i64 n) ∧ w.cell? ⟨br, 2, none⟩ = some (.int .i64 f.i) ∧ w.cell? ⟨br, 3, none⟩ = some (.int .i64 f.n) ∧ w.cell? ⟨br, 4, none⟩ = some (.int .i64 f.l) ∧ w.cell? ⟨br, 5, none⟩ = some (.string f.d) := by
  unfold BoxE at h
  refine ⟨?_, ?_, ?_, ?_, ?_, ?_⟩ <;> (rw [Lib.cell_of_heap h]; rfl)
theorem BoxE.live {w : World} {br : Nat} {k n : Int} {f : Fr} (h : BoxE w br k n f) : w.frozen? ⟨br, 0, none⟩ = false ∧ w.frozen? ⟨br, 1, none⟩ = false ∧ w.frozen? ⟨br, 2, none⟩ = false ∧ w.frozen? ⟨br, 3, none⟩ = false ∧ w.frozen? ⟨br, 4, none⟩ = false ∧ w.frozen? ⟨br, 5, none⟩ = false := by
  unfold BoxE at h
  exact ⟨Lib.frozen_of_heap h 0, Lib.frozen_of_heap h 1, Lib.frozen_of_heap h 2, Lib.frozen_of_heap h 3, Lib.frozen_of_heap h 4, Lib.frozen_of_heap h 5⟩
def putEv (w : World) (br : Nat) (k n : Int) (f : Fr) : World := (((((w.setCell ⟨br, 0, none⟩ (.int .i64 k)).setCell ⟨br, 1, none⟩ (.int .i64 n)).setCell ⟨br, 2, none⟩ (.int .i64 f.i)).setCell ⟨br, 3, none⟩ (.int .i64 f.n)).setCell ⟨br, 4, none⟩ (.int .i64 f.l)).setCell ⟨br, 5, none⟩ (.string f.d)
theorem BoxE.put {w : World} {br : Nat} {k n : Int} {f : Fr} (h : BoxE w br k n f) (k' n' : Int) (f' : Fr) : BoxE (putEv w br k' n' f') br k' n' f' := by
  unfold BoxE at h
  have a0 := heap_setCell_same w br 0 _ _ (.int .i64 k') h
  have a1 := heap_setCell_same _ br 1 _ _ (.int .i64 n') a0
  have a2 := heap_setCell_same _ br 2 _ _ (.int .i64 f'.i) a1
  have a3 := heap_setCell_same _ br 3 _ _ (.int .i64 f'.n) a2
  have a4 := heap_setCell_same _ br 4 _ _ (.int .i64 f'.l) a3
  have a5 := heap_setCell_same _ br 5 _ _ (.string f'.d) a4
  simp only [List.setIfInBounds_toArray, List.set_cons_succ, List.set_cons_zero] at a5
  exact a5
theorem putEv_other {w : World} {br g : Nat} {k n : Int} {f : Fr} (h : g ≠ br) : (putEv w br k n f).heap[g]? = w.heap[g]? := by
  unfold putEv
  rw [Below.heap_setCell _ _ _ _ h, Below.heap_setCell _ _ _ _ h, Below.heap_setCell _ _ _ _ h, Below.heap_setCell _ _ _ _ h, Below.heap_setCell _ _ _ _ h, Below.heap_setCell _ _ _ _ h]
theorem putEv_below {br : Nat} {w0 w : World} (h : Below br w0 w) (k n : Int) (f : Fr) : Below br w0 (putEv w br k n f) :=
  (((((h.setCell (p := ⟨br, 0, none⟩) (Nat.le_refl _) _).setCell (p := ⟨br, 1, none⟩) (Nat.le_refl _) _).setCell (p := ⟨br, 2, none⟩) (Nat.le_refl _) _).setCell (p := ⟨br, 3, none⟩) (Nat.le_refl _) _).setCell (p := ⟨br, 4, none⟩) (Nat.le_refl _) _).setCell (p := ⟨br, 5, none⟩) (Nat.le_refl _) _
theorem Sl2.box_e (h : Sl2 w b gn gw ws vl s0 s f br gl bf wr) : BoxE wr br 0 0 ⟨0, 0, 0, ByteArray.mk #[]⟩ := h.ev
/-- the event stored, and returned -/
theorem stp_ev {w wr : World} {b gn gw br : Nat} {ws : List Value} {vl : Value} {s : Bs} {O : Nat → Prop} (h : BusM wr b gn gw ws vl s) (hk : Kept O w wr) (hg : Grows O w (busO b gn gw ws vl)) (hbr : w.heap.size ≤ br) (hbl : br < wr.heap.size) (hno : ¬ busO b gn gw ws vl br) (k n : Int) (f : Fr) :
    Stp BusD (.pointer (some ⟨b, 0, none⟩)) O w s (putEv wr br k n f) := by
  have hb := putEv_below (Below.refl br wr) k n f
  exact ⟨_, ⟨b, gn, gw, ws, vl, rfl, rfl, h.stay (fun g hg' => putEv_other (fun e => hno (e ▸ hg'))) hb.size⟩, ⟨hb.os.trans hk.os, hb.tape.trans hk.tape, hb.output.trans hk.output, Nat.le_trans hk.size hb.size, fun g h1 h2 => (hb.block g (by omega)).trans (hk.block g h1 h2)⟩, hg⟩
theorem Sl2.ret (h : Sl2 w b gn gw ws vl s0 s f br gl bf wr) (k n : Int) (g : Fr) : Stp BusD (.pointer (some ⟨b, 0, none⟩)) (busO b gn gw ws vl) w s (putEv wr br k n g) :=
  stp_ev h.bus h.kept (Grows.refl _ _) h.br0 (heap_some_lt h.ev) (fun ho => by have := h.own br ho; have := h.br0; omega) k n g
theorem Sl2.cellsAt {n : Nat} (h : Sl2 w b gn gw ws vl s0 s f br gl bf wr) (hn : s.N.length = n) :
    wr.cell? ⟨b, 0, none⟩ = some (.slice (some ⟨gn, 0, none⟩) n n) ∧ wr.cell? ⟨b, 1, none⟩ = some (.slice (some ⟨gw, 0, none⟩) n n) ∧ wr.cell? ⟨b, 2, none⟩ = some (.int .i64 s.back) ∧
    wr.cell? ⟨b, 3, none⟩ = some (.bool s.fx) ∧ wr.cell? ⟨b, 4, none⟩ = some (.int .i64 s.sl) ∧ wr.cell? ⟨b, 5, none⟩ = some vl := by
  subst hn; exact h.bus.cells
theorem Sl2.nodeAt {i : Nat} {c : Cf} (h : Sl2 w b gn gw ws vl s0 s f br gl bf wr) (hc : s.N[i]? = some c) :
    wr.cell? ⟨gn, i * 4, none⟩ = some (.int .i64 c.t) ∧ wr.cell? ⟨gn, i * 4 + 1, none⟩ = some (.int .i64 c.r) ∧ wr.cell? ⟨gn, i * 4 + 2, none⟩ = some (.bool c.o) ∧ wr.cell? ⟨gn, i * 4 + 3, none⟩ = some (.int .i64 c.d) ∧
    wr.frozen? ⟨gn, i * 4, none⟩ = false ∧ wr.frozen? ⟨gn, i * 4 + 1, none⟩ = false ∧ wr.frozen? ⟨gn, i * 4 + 2, none⟩ = false ∧ wr.frozen? ⟨gn, i * 4 + 3, none⟩ = false := by
  obtain ⟨hi, rfl⟩ := List.getElem?_eq_some_iff.1 hc
  obtain ⟨h0, h1, h2, h3⟩ := h.bus.node hi
  exact ⟨h0, h1, h2, h3, h.bus.nlive _, h.bus.nlive _, h.bus.nlive _, h.bus.nlive _⟩
theorem cfdo_b {c e : Cf} {what back : Int} (h : c.do_ what back = e) (hb : -9223372036854775808 ≤ back ∧ back ≤ 9223372036854775807) (w : World) :
    Calls Tryd.prog 44 #[cfV c, .int .i64 what, .int .i64 back] w fun x w' => x = .returned (cfV e) ∧ Below w.heap.size w w' := by
  rw [← h]; exact cfdo_v hb.1 hb.2 w
theorem turnN_next {α : Type} {N : List α} {g : Nat → α → α} {k : Nat} {c : α} (h : N[k]? = some c) : (turnN g N k)[k]? = some c ∧ turnN g N (k + 1) = (turnN g N k).set k (g k c) := by
  obtain ⟨hi, rfl⟩ := List.getElem?_eq_some_iff.1 h
  refine ⟨?_, (turnN_set N g k hi).symm⟩
  rw [turnN_get, if_neg (by omega)]; exact h
theorem turnN_skip {α : Type} {N : List α} {g : Nat → α → α} {k : Nat} {c : α} (h : N[k]? = some c) (he : g k c = c) : turnN g N (k + 1) = turnN g N k := by
  obtain ⟨hi, rfl⟩ := List.getElem?_eq_some_iff.1 h
  exact (turnN_same N g k hi he).symm
theorem Bs.off_at {s : Bs} {k : Nat} {c : Cf} (h : s.N[k]? = some c) : s.off k = c.o := by unfold Bs.off; rw [List.getD_eq_getElem?_getD, h]; rfl
/-! ### behind the log -/
structure Sl3 (w : World) (b gn gw : Nat) (ws0 : List Value) (vl0 : Value) (ws : List Value) (vl : Value) (s : Bs) (f : Fr) (br bf : Nat) (wr : World) : Prop where
  bus : BusM wr b gn gw ws vl s
  kept : Kept (busO b gn gw ws0 vl0) w wr
  grows : Grows (busO b gn gw ws0 vl0) w (busO b gn gw ws vl)
  ff : BoxF wr bf f.i f.n f.l f.d
  ev : BoxE wr br 0 0 ⟨0, 0, 0, ByteArray.mk #[]⟩
  br0 : w.heap.size ≤ br
  nobr : ¬ busO b gn gw ws vl br
  nobf : ¬ busO b gn gw ws vl bf
theorem Sl2.logged {w3 : World} {v' : Value} {L' : List Lg} (h' : Sl2 w b gn gw ws vl s0 s f br gl bf wr) (hq : RowQ lgC 6 w3 v' L') (hk : Kept (OwnO vl) wr w3) (hg : Grows (OwnO vl) wr (OwnO v')) :
    Sl3 w b gn gw ws vl ws v' { s with log := L' } f br bf (w3.setCell ⟨b, 5, none⟩ v') := by
  obtain ⟨m1, m2, m3⟩ := h'.bus.setLog hq hk hg
  have nbr : ¬ busO b gn gw ws vl br := fun ho => by have := h'.own br ho; have := h'.br0; omega
  have nbf : ¬ busO b gn gw ws vl bf := fun ho => by have := h'.own bf ho; have := h'.bf0; omega
  have lbr := heap_some_lt h'.ev
  have lbf := h'.ff.lt
  exact ⟨m1, h'.kept.trans m2 (Grows.refl _ _), fun k hk' => by
      rcases m3 k hk' with h1 | h1
      · exact .inl h1
      · exact .inr (Nat.le_trans h'.kept.size h1), (m2.block bf lbf nbf).trans h'.ff, (m2.block br lbr nbr).trans h'.ev, h'.br0, out_step lbr nbr m3, out_step lbf nbf m3⟩
theorem RdA.later {α : Type} {c : α → List Value} {k : Nat} {w w' : World} {v : Value} {L : List α} (h : RdA c k w v L) (hb : Below w.heap.size w w') : RdA c k w' v L := ⟨h.1.keep (fun p hp => hb.cell hp) hb.size, h.2⟩
/-- a row of one entry, new -/
def LgNew (e : Lg) (v : Value) (w : World) : Prop := RdA lgC 6 w v [e]
theorem LgNew.made (e : Lg) (w : World) : LgNew e (.slice (some ⟨w.heap.size, 0, none⟩) 1 1) (w.alloc (.cells (lgC e).toArray 53)) := RdA.one lgC_len w e 53 rfl rfl
theorem Sl3.later {ws0 : List Value} {vl0 : Value} (h : Sl3 w b gn gw ws0 vl0 ws vl s f br bf wr) (hb : Below wr.heap.size wr w') : Sl3 w b gn gw ws0 vl0 ws vl s f br bf w' :=
  ⟨h.bus.later hb, h.kept.trans (.of_below (O := busO b gn gw ws0 vl0) hb) (Grows.refl _ _), h.grows, h.ff.later hb, (hb.block br (heap_some_lt h.ev)).trans h.ev, h.br0, h.nobr, h.nobf⟩
theorem cut_own {x : Addr} {n n' cap cap' k : Nat} {c : Prop} [Decidable c] : ∀ g, OwnO (.slice (some (if c then x else x.add k)) n cap) g → OwnO (.slice (some x) n' cap') g := fun g hg => by
  have : (Value.slice (some (if c then x else x.add k)) n cap).ownBlock = (Value.slice (some x) n' cap').ownBlock := by
    by_cases e : c
    · rw [if_pos e]; rfl
    · rw [if_neg e]; show some (x.add k).block = some x.block; rw [addr_block]
  exact this.symm.trans hg
theorem Sl3.waited {ws0 : List Value} {vl0 : Value} {i : Nat} {u v' : Value} {L' : List Fr} (h : Sl3 w b gn gw ws0 vl0 ws vl s f br bf wr) (hu : ws[i]? = some u) (hq : RowQ frC 4 wr v' L') (ho : ∀ k, OwnO v' k → OwnO u k) :
    Sl3 w b gn gw ws0 vl0 (ws.set i v') vl { s with W := s.W.set i L' } f br bf (wr.setCell ⟨gw, i, none⟩ v') := by
  have hg : Grows (OwnO u) wr (OwnO v') := fun k hk => .inl (ho k hk)
  obtain ⟨m1, m2⟩ := h.bus.setWait hu hq (Kept.refl _ _) hg
  have m3 : Grows (busO b gn gw ws vl) wr (busO b gn gw (ws.set i v') vl) := busO_set hu hg
  exact ⟨m1, h.kept.trans m2 h.grows, h.grows.trans m3 h.kept.size, (m2.block bf h.ff.lt h.nobf).trans h.ff, (m2.block br (heap_some_lt h.ev) h.nobr).trans h.ev, h.br0, out_step (heap_some_lt h.ev) h.nobr m3, out_step h.ff.lt h.nobf m3⟩
theorem Sl3.ret {ws0 : List Value} {vl0 : Value} (h : Sl3 w b gn gw ws0 vl0 ws vl s f br bf wr) (k n : Int) (g : Fr) : Stp BusD (.pointer (some ⟨b, 0, none⟩)) (busO b gn gw ws0 vl0) w s (putEv wr br k n g) :=
  stp_ev h.bus h.kept h.grows h.br0 (heap_some_lt h.ev) h.nobr k n g
theorem info_lg : (Tryd.prog.info? 53).map (fun i => (i.zero, i.size, i.bytes)) = some (some (.agg #[.int .i64 0, .int .i64 0, .int .i64 0, .string (ByteArray.mk #[]), .int .i64 0, .int .i64 0]), 6, 56) := by kernel_rfl
theorem flat_lg : FlatE Tryd.prog 49 53 6 56 := by
  obtain ⟨i0, hi, hz0, hz1, hz2⟩ := info_parts info_lg
  exact ⟨Tryd.underlying49, i0, _, hi, hz0, hz1, hz2, rfl, by decide, by decide⟩
theorem lgC_one : ∀ e : Lg, ∀ u ∈ lgC e, u.oneCell' = true := fun e u hu => by
  simp only [lgC, List.mem_cons, List.not_mem_nil, or_false] at hu
  rcases hu with rfl | rfl | rfl | rfl | rfl | rfl <;> rfl
end Go.Proofs.YtpgfifacfkllfaaDoor

namespace Go.Proofs.YtpgfifacfkllfaaDoor
open Go.RowKit
set_option linter.unusedVariables false

def bodyOf (f : Func) : Code := f.body.getD .skip
def Code.tl : Code → Code
  | .seq _ y => y
  | c => c
def evC (k n : Int) (f : Fr) : Value := .agg #[.int .i64 k, .int .i64 n, .int .i64 f.i, .int .i64 f.n, .int .i64 f.l, .string f.d]

set_option maxRecDepth 20000 in
set_option maxHeartbeats 8000000 in
theorem bslot_five {w wc : World} {b gn gw : Nat} {ws : List Value} {v3 : Value} {s s' : Bs} {own : Fr} {has : Bool} {p : Int × Fr} {bo br gl bf : Nat} {AL : Option Addr} {cl : Nat} {z4 z6 z7 z12 z13 z14 z15 z16 z17 z18 z19 z20 z21 z22 z23 z24 z25 z26 z27 z28 z29 z30 z31 z32 z33 z34 z35 z36 z37 z38 z39 z40 z41 z42 z43 z44 z45 z46 z47 z48 z49 z50 z51 z52 z53 z54 z55 z56 z57 z58 z59 z60 z61 z62 z63 z64 z65 z66 z67 z68 z69 z70 z71 z72 z73 z74 z75 z76 z77 z78 z79 z80 z81 z82 z83 z84 z85 z86 z87 z88 z89 z90 z91 z92 z93 z94 z95 z96 z97 z98 z99 z100 z101 z102 z103 z104 z105 z106 z107 z108 z109 z110 z111 z112 z113 z114 z115 z116 z117 z118 z119 z120 z121 z122 z123 z124 z125 z126 z127 z128 z129 z130 z131 z132 z133 z134 z135 z136 z137 z138 z139 z140 z141 z142 z143 z144 z145 z146 z147 z148 z149 z150 z151 z152 z153 z154 z155 z156 z157 z158 z159 z160 z161 z162 z163 z164 z165 z166 z167 z168 z169 z170 z171 z172 z173 z174 z175 z176 z177 z178 z179 z180 z181 z182 z183 z184 z185 z186 z187 z188 z189 z190 z191 z192 z193 z194 z195 z196 z197 z198 z199 z200 z201 z202 z203 z204 z205 z206 z207 z208 z209 z210 z211 z212 z213 z214 z215 z216 z217 z218 z219 z220 z221 z222 z223 z224 z225 z226 z227 z228 z229 z230 z231 z232 z233 z234 z235 z236 z237 z238 z239 z240 z241 z242 z243 : Value}
    (hN0 : 0 < s.N.length) (hN : s.N.length ≤ 32) (HP : Hid (s.best own has s.N.length = p)) (hbr : -1 ≤ p.1 ∧ p.1 < s.N.length) (HPN : Hid (0 ≤ p.1)) (hpd : decide (p.1 < 0) = false) (hl1 : s.N1.length = s.N.length)
    (HSS : Hid ({ s with N := s.N2 false p.1, W := if 0 < p.1 then s.W.set p.1.toNat (s.W.getD p.1.toNat []).tail else s.W, fx := s.fx1, sl := s.sl + 1, log := s.log ++ [⟨p.2, p.1, s.sl⟩] } = s'))
    (HS7 : Hid (Sl3 w b gn gw ws (.slice AL s.log.length cl) ws v3 { s with N := s.N2 false p.1, fx := s.fx1, sl := s.sl + 1, log := s.log ++ [⟨p.2, p.1, s.sl⟩] } p.2 br bf wc)) :
    Code.wp Tryd.prog (Code.tl (Code.tl (Code.tl (Code.tl (Code.tl (Code.tl (Code.tl (Code.tl (Code.tl (Code.tl (Code.tl (Code.tl (bodyOf Tryd.f26))))))))))))) (bodyPost Tryd.prog Tryd.f26 fun e w' => e = .returned (evC 1 p.1 p.2) ∧ Stp BusD (.pointer (some ⟨b, 0, none⟩)) (busO b gn gw ws (.slice AL s.log.length cl)) w s' w')
      { tmps := #[.pointer (some ⟨b, 0, none⟩), .agg #[.int .i64 own.i, .int .i64 own.n, .int .i64 own.l, .string own.d], .bool has, .bool false, z4, .pointer (some ⟨bo, 0, none⟩), z6, z7, .pointer (some ⟨br, 0, none⟩), .slice (some ⟨gl, 0, none⟩) s.N.length s.N.length, .int .i64 p.1, .pointer (some ⟨bf, 0, none⟩), z12, z13, z14, z15, z16, z17, z18, z19, z20, z21, z22, z23, z24, z25, z26, z27, z28, z29, z30, z31, z32, z33, z34, z35, z36, z37, z38, z39, z40, z41, z42, z43, z44, z45, z46, z47, z48, z49, z50, z51, z52, z53, z54, z55, z56, z57, z58, z59, z60, z61, z62, z63, z64, z65, z66, z67, z68, z69, z70, z71, z72, z73, z74, z75, z76, z77, z78, z79, z80, z81, z82, z83, z84, z85, z86, z87, z88, z89, z90, z91, z92, z93, z94, z95, z96, z97, z98, z99, z100, z101, z102, z103, z104, z105, z106, z107, z108, z109, z110, z111, z112, z113, z114, z115, z116, z117, z118, z119, z120, z121, z122, z123, z124, z125, z126, z127, z128, z129, z130, z131, z132, z133, z134, z135, z136, z137, z138, z139, z140, z141, z142, z143, z144, z145, z146, z147, z148, z149, z150, z151, z152, z153, z154, z155, z156, z157, z158, z159, z160, z161, z162, z163, z164, z165, z166, z167, z168, z169, z170, z171, z172, z173, z174, z175, z176, z177, z178, z179, z180, z181, z182, z183, z184, z185, z186, z187, z188, z189, z190, z191, z192, z193, z194, z195, z196, z197, z198, z199, z200, z201, z202, z203, z204, z205, z206, z207, z208, z209, z210, z211, z212, z213, z214, z215, z216, z217, z218, z219, z220, z221, z222, z223, z224, z225, z226, z227, z228, z229, z230, z231, z232, z233, z234, z235, z236, z237, z238, z239, z240, z241, z242, z243], defers := [] } wc := by
  conv => arg 2; dsimp only [bodyOf, Code.tl, Tryd.f26]
  obtain ⟨d0, d1, d2, d3⟩ := HS7.out.ff.cells
  obtain ⟨e0, e1, e2, e3, e4, e5⟩ := BoxE.cells HS7.out.ev
  obtain ⟨f0, f1, f2, f3, f4, f5⟩ := BoxE.live HS7.out.ev
  by_cases hp0 : 0 < p.1
  · obtain ⟨m, hm⟩ : ∃ m : Nat, p.1 = (m : Int) := ⟨p.1.toNat, by omega⟩
    have hbh := best_has s own has m s.N.length (by rw [HP.out]; exact hm)
    obtain ⟨hb1, _, _, hb4⟩ := hbh
    have hm0 : ¬ m = 0 := by omega
    have hmW : m < s.W.length := by have := HS7.out.bus.lenW; simp only at this; have h2 : (s.N2 false p.1).length = s.N.length := (turnN_len _ _ _).trans hl1; omega
    have hmw : m < ws.length := by have := HS7.out.bus.len; simp only at this; have h2 : (s.N2 false p.1).length = s.N.length := (turnN_len _ _ _).trans hl1; omega
    obtain ⟨u, hu⟩ : ∃ u, ws[m]? = some u := ⟨_, List.getElem?_eq_getElem hmw⟩
    obtain ⟨f, M, hfM⟩ : ∃ f M, s.W[m]? = some (f :: M) := by
      have h1 : s.W[m]? = some s.W[m] := List.getElem?_eq_getElem hmW
      cases h2 : s.W[m] with
      | nil => exact absurd hb1 (by rw [(Bs.at_nil own has hm0 (by rw [List.getD_eq_getElem?_getD, h1, h2]; rfl)).1]; decide)
      | cons f M => exact ⟨f, M, by rw [h1, h2]⟩
    have hr := HS7.out.bus.row m u (f :: M) hu hfM
    obtain ⟨A, cap, rfl⟩ := hr.shape
    obtain ⟨x, rfl, hn, hcap, htail⟩ := hr.tail frC_len
    obtain ⟨x0, y0⟩ := HS7.out.bus.wait hu
    have hnl : (s.N2 false p.1).length = s.N.length := (turnN_len _ _ _).trans hl1
    have c1 : wc.cell? ⟨b, 1, none⟩ = some (.slice (some ⟨gw, 0, none⟩) s.N.length s.N.length) := by have h := HS7.out.bus.cells.2.1; simp only [hnl] at h; exact h
    have HSE : Hid ({ s with N := s.N2 false p.1, fx := s.fx1, sl := s.sl + 1, log := s.log ++ [⟨p.2, p.1, s.sl⟩], W := s.W.set m M } = s') := Lib.hid (by
      rw [← HSS.out, if_pos hp0]
      have e1 : p.1.toNat = m := by omega
      rw [e1, List.getD_eq_getElem?_getD, hfM]; rfl)
    have HU := Lib.hid hu
    have HFM := Lib.hid hfM
    have HEV : Hid (evC 1 (m : Int) p.2 = evC 1 p.1 p.2) := Lib.hid (by rw [hm])
    rw [hn] at x0
    have hcl : ∀ (n : Later wc) (b o : Nat), b < wc.heap.size → n.w.cell? ⟨b, o, none⟩ = wc.cell? ⟨b, o, none⟩ := later_cells wc
    have hzb : b < wc.heap.size := HS7.out.bus.lt b (.inl rfl)
    have hzw : gw < wc.heap.size := HS7.out.bus.lt gw (.inr (.inr (.inl rfl)))
    have hmi : (m : Int) < (s.N.length : Int) := by omega
    have hmp : (0 : Int) < (m : Int) := by omega
    have HM0 : Hid (M.length + 1 ≤ cap) := Lib.hid hcap
    have hcp : (M.length : Int) + 1 ≤ (cap : Int) := by omega
    rw [hm]
    clear d0 d1 d2 d3 e0 e1 e2 e3 e4 e5 f0 f1 f2 f3 f4 f5 hp0 hpd hb1 hb4 hm0 hmW hmw hfM hu hr htail hnl HSS HPN hn hcap
    clear hm hbr
    go_upto_region 42 with fail
    go_cut [] (fun wx => Hid (Sl3 w b gn gw ws (.slice AL s.log.length cl) (ws.set m (.slice (some (if cap = 1 then x else x.add 4)) M.length (cap - 1))) v3 s' p.2 br bf wx))
    case first =>
      by_cases hc1 : cap = 1
      · have hM : M = [] := List.eq_nil_of_length_eq_zero (by have := HM0.out; omega)
        subst hM hc1
        simp only [List.length_nil] at x0 hcp
        refine wp_region_sec 14 [] (fun _ _ _ => True) (fun _ _ _ _ _ _ => True.intro) (by kernel_rfl) (by kernel_rfl) (by kernel_rfl) (by kernel_rfl) (by kernel_rfl) ?_
        simp only [List.take_succ_cons, List.take_zero, List.drop_succ_cons, List.drop_zero]
        repeat ((first | refine sec_plain (by rfl) (by rfl) (by rfl) (by rfl) ?_ | refine sec_nil (by rfl) (by rfl) (by rfl) (by rfl) (by rfl) ?_); intro K hK; go_big_quiet_op; go_big_quiet_on)
        intro xs m9 hF
        simp only [secFill]
        clear hF xs hcl hzb hzw x0 y0 c1
        have HS7b := Lib.hid (HS7.out.later m9.h)
        generalize m9.w = wd at HS7b ⊢
        obtain ⟨x0, y0⟩ := HS7b.out.bus.wait HU.out
        obtain ⟨x', hx', _, _, htail⟩ := (HS7b.out.bus.row m _ (f :: _) HU.out HFM.out).tail frC_len
        injection hx' with hx'
        subst hx'
        have HS8 := Lib.hid (HS7b.out.waited HU.out htail cut_own)
        simp only [HSE.out] at HS8
        clear htail
        go_wp2
        go_meet
        exact HS8
      · have hc2 : ¬ (cap : Int) = 1 := by omega
        have hx4 : x.add 4 = ⟨x.block, x.off + 4, none⟩ := by unfold Addr.add; simp
        have HX4 := Lib.hid (And.intro hc1 hx4)
        clear hx4
        refine wp_region_sec 14 [] (fun _ _ _ => True) (fun _ _ _ _ _ _ => True.intro) (by kernel_rfl) (by kernel_rfl) (by kernel_rfl) (by kernel_rfl) (by kernel_rfl) ?_
        simp only [List.take_succ_cons, List.take_zero, List.drop_succ_cons, List.drop_zero]
        repeat ((first | refine sec_plain (by rfl) (by rfl) (by rfl) (by rfl) ?_ | refine sec_nil (by rfl) (by rfl) (by rfl) (by rfl) (by rfl) ?_); intro K hK; go_big_quiet_op; go_big_quiet_on)
        intro xs m9 hF
        simp only [secFill]
        clear hF xs hcl hzb hzw x0 y0 c1
        have HS7b := Lib.hid (HS7.out.later m9.h)
        generalize m9.w = wd at HS7b ⊢
        obtain ⟨x0, y0⟩ := HS7b.out.bus.wait HU.out
        obtain ⟨x', hx', _, _, htail⟩ := (HS7b.out.bus.row m _ (f :: _) HU.out HFM.out).tail frC_len
        injection hx' with hx'
        subst hx'
        have HS8 := Lib.hid (HS7b.out.waited HU.out htail cut_own)
        simp only [HSE.out] at HS8
        clear htail
        go_wp2
        go_meet
        simp only [if_neg HX4.out.1, HX4.out.2] at HS8 ⊢
        exact HS8
    case rest =>
      have HS8 := hcut
      clear hcut x0 y0 c1 hcl hzb hzw HS7
      obtain ⟨d0, d1, d2, d3⟩ := HS8.out.ff.cells
      obtain ⟨e0, e1, e2, e3, e4, e5⟩ := BoxE.cells HS8.out.ev
      obtain ⟨f0, f1, f2, f3, f4, f5⟩ := BoxE.live HS8.out.ev

      have hq := (BoxE.put HS8.out.ev 1 (m : Int) p.2).cells
      have HR := Lib.hid (HS8.out.ret 1 (m : Int) p.2)
      obtain ⟨w9, hw9⟩ : ∃ w9, putEv wc br 1 (m : Int) p.2 = w9 := ⟨_, rfl⟩
      rw [hw9] at hq HR
      unfold putEv at hw9
      have HQ9 := Lib.hid hq
      have HW9 := Lib.hid hw9
      clear hq hw9
      go_wp2
      rw [HW9.out]
      obtain ⟨r0, r1, r2, r3, r4, r5⟩ := HQ9.out
      refine bodyPost_ret (v := evC 1 (m : Int) p.2) (by simp [results, Tryd.results26, go_sem, r0, r1, r2, r3, r4, r5]; rfl) rfl ⟨by first | rfl | exact congrArg Ending.returned HEV.out, HR.out⟩
  · have HSE : Hid ({ s with N := s.N2 false p.1, fx := s.fx1, sl := s.sl + 1, log := s.log ++ [⟨p.2, p.1, s.sl⟩] } = s') := Lib.hid (by rw [← HSS.out, if_neg hp0])
    have hpd2 : decide (0 < p.1) = false := decide_eq_false hp0
    clear hp0
    have HS8 := HS7
    rw [HSE.out] at HS8
    have hq := (BoxE.put HS8.out.ev 1 p.1 p.2).cells
    have HR := Lib.hid (HS8.out.ret 1 p.1 p.2)
    obtain ⟨w9, hw9⟩ : ∃ w9, putEv wc br 1 p.1 p.2 = w9 := ⟨_, rfl⟩
    rw [hw9] at hq HR
    unfold putEv at hw9
    have HQ9 := Lib.hid hq
    have HW9 := Lib.hid hw9
    clear hq hw9
    go_wp2
    rw [HW9.out]
    obtain ⟨r0, r1, r2, r3, r4, r5⟩ := HQ9.out
    refine bodyPost_ret (v := _) (by simp [results, Tryd.results26, go_sem, r0, r1, r2, r3, r4, r5]; rfl) rfl ⟨rfl, HR.out⟩
end Go.Proofs.YtpgfifacfkllfaaDoor

namespace Go.Proofs.YtpgfifacfkllfaaDoor
open Go.RowKit
set_option linter.unusedVariables false

set_option maxRecDepth 20000 in
set_option maxHeartbeats 8000000 in
theorem bslot_four {w wo : World} {b gn gw : Nat} {ws : List Value} {vl : Value} {s s' : Bs} {own : Fr} {has : Bool} {p : Int × Fr} {bo br gl bf : Nat} {z4 z6 z7 z12 z13 z14 z15 z16 z17 z18 z19 z20 z21 z22 z23 z24 z25 z26 z27 z28 z29 z30 z31 z32 z33 z34 z35 z36 z37 z38 z39 z40 z41 z42 z43 z44 z45 z46 z47 z48 z49 z50 z51 z52 z53 z54 z55 z56 z57 z58 z59 z60 z61 z62 z63 z64 z65 z66 z67 z68 z69 z70 z71 z72 z73 z74 z75 z76 z77 z78 z79 z80 z81 z82 z83 z84 z85 z86 z87 z88 z89 z90 z91 z92 z93 z94 z95 z96 z97 z98 z99 z100 z101 z102 z103 z104 z105 z106 z107 z108 z109 z110 z111 z112 z113 z114 z115 z116 z117 z118 z119 z120 z121 z122 z123 z124 z125 z126 z127 z128 z129 z130 z131 z132 z133 z134 z135 z136 z137 z138 z139 z140 z141 z142 z143 z144 z145 z146 z147 z148 z149 z150 z151 z152 z153 z154 z155 z156 z157 z158 z159 z160 z161 z162 z163 z164 z165 z166 z167 z168 z169 z170 z171 z172 z173 z174 z175 z176 z177 z178 z179 z180 z181 z182 z183 z184 z185 z186 z187 z188 z189 z190 z191 z192 z193 z194 z195 z196 z197 z198 z199 z200 z201 z202 z203 z204 z205 z206 z207 z208 z209 z210 z211 z212 z213 z214 z215 z216 z217 z218 z219 z220 z221 z222 z223 z224 z225 z226 z227 z228 z229 z230 z231 z232 z233 z234 z235 z236 z237 z238 z239 z240 z241 z242 z243 : Value}
    (hN0 : 0 < s.N.length) (hN : s.N.length ≤ 32) (HSL : Hid (0 ≤ s.sl ∧ s.sl ≤ 1000000)) (HLG : Hid (s.log.length ≤ 100000)) (HP : Hid (s.best own has s.N.length = p)) (hbr : -1 ≤ p.1 ∧ p.1 < s.N.length) (HPN : Hid (0 ≤ p.1)) (hpd : decide (p.1 < 0) = false) (hl1 : s.N1.length = s.N.length)
    (HSS : Hid ({ s with N := s.N2 false p.1, W := if 0 < p.1 then s.W.set p.1.toNat (s.W.getD p.1.toNat []).tail else s.W, fx := s.fx1, sl := s.sl + 1, log := s.log ++ [⟨p.2, p.1, s.sl⟩] } = s'))
    (HS6 : Hid (Sl2 w b gn gw ws vl s { s with N := s.N2 false p.1, fx := s.fx1, sl := s.sl + 1 } p.2 br gl bf wo)) :
    Code.wp Tryd.prog (Code.tl (Code.tl (Code.tl (Code.tl (Code.tl (Code.tl (Code.tl (Code.tl (Code.tl (Code.tl (Code.tl (bodyOf Tryd.f26)))))))))))) (bodyPost Tryd.prog Tryd.f26 fun e w' => e = .returned (evC 1 p.1 p.2) ∧ Stp BusD (.pointer (some ⟨b, 0, none⟩)) (busO b gn gw ws vl) w s' w')
      { tmps := #[.pointer (some ⟨b, 0, none⟩), .agg #[.int .i64 own.i, .int .i64 own.n, .int .i64 own.l, .string own.d], .bool has, .bool false, z4, .pointer (some ⟨bo, 0, none⟩), z6, z7, .pointer (some ⟨br, 0, none⟩), .slice (some ⟨gl, 0, none⟩) s.N.length s.N.length, .int .i64 p.1, .pointer (some ⟨bf, 0, none⟩), z12, z13, z14, z15, z16, z17, z18, z19, z20, z21, z22, z23, z24, z25, z26, z27, z28, z29, z30, z31, z32, z33, z34, z35, z36, z37, z38, z39, z40, z41, z42, z43, z44, z45, z46, z47, z48, z49, z50, z51, z52, z53, z54, z55, z56, z57, z58, z59, z60, z61, z62, z63, z64, z65, z66, z67, z68, z69, z70, z71, z72, z73, z74, z75, z76, z77, z78, z79, z80, z81, z82, z83, z84, z85, z86, z87, z88, z89, z90, z91, z92, z93, z94, z95, z96, z97, z98, z99, z100, z101, z102, z103, z104, z105, z106, z107, z108, z109, z110, z111, z112, z113, z114, z115, z116, z117, z118, z119, z120, z121, z122, z123, z124, z125, z126, z127, z128, z129, z130, z131, z132, z133, z134, z135, z136, z137, z138, z139, z140, z141, z142, z143, z144, z145, z146, z147, z148, z149, z150, z151, z152, z153, z154, z155, z156, z157, z158, z159, z160, z161, z162, z163, z164, z165, z166, z167, z168, z169, z170, z171, z172, z173, z174, z175, z176, z177, z178, z179, z180, z181, z182, z183, z184, z185, z186, z187, z188, z189, z190, z191, z192, z193, z194, z195, z196, z197, z198, z199, z200, z201, z202, z203, z204, z205, z206, z207, z208, z209, z210, z211, z212, z213, z214, z215, z216, z217, z218, z219, z220, z221, z222, z223, z224, z225, z226, z227, z228, z229, z230, z231, z232, z233, z234, z235, z236, z237, z238, z239, z240, z241, z242, z243], defers := [] } wo := by
  conv => arg 2; dsimp only [bodyOf, Code.tl, Tryd.f26]
  obtain ⟨d0, d1, d2, d3⟩ := HS6.out.ff.cells
  obtain ⟨e0, e1, e2, e3, e4, e5⟩ := HS6.out.box_e.cells
  obtain ⟨f0, f1, f2, f3, f4, f5⟩ := HS6.out.box_e.live
  have hnl2 : (s.N2 false p.1).length = s.N.length := (turnN_len _ _ _).trans hl1
  obtain ⟨c0, c1, c2, c3, c4, c5⟩ := HS6.out.cellsAt hnl2
  simp only at c2 c3 c4
  clear hnl2
  have HQL := Lib.hid HS6.out.bus.log
  simp only at HQL
  obtain ⟨AL, cl, hvl⟩ := HQL.out.shape
  have hsl1 := HSL.out
  have hsw : IntKind.i64.wrap s.sl = s.sl := by rw [IntKind.wrap_i64]; omega
  have hzb : b < wo.heap.size := HS6.out.bus.lt b (.inl rfl)
  have hzf : bf < wo.heap.size := HS6.out.ff.lt
  have hcl : ∀ (n : Later wo) (b o : Nat), b < wo.heap.size → n.w.cell? ⟨b, o, none⟩ = wo.cell? ⟨b, o, none⟩ := later_cells wo
  have HLL : Hid (s.log.length + [(⟨p.2, p.1, s.sl⟩ : Lg)].length ≤ 1000000) := Lib.hid (by have := HLG.out; simp; omega)
  subst hvl
  go_upto_region 40 with fail
  clear c0 c1 c2 c3
  go_cut [] (fun wx => ∃ v3, Hid (Sl3 w b gn gw ws (.slice AL s.log.length cl) ws v3 { s with N := s.N2 false p.1, fx := s.fx1, sl := s.sl + 1, log := s.log ++ [⟨p.2, p.1, s.sl⟩] } p.2 br bf wx))
  case first =>
    refine wp_region_tied 14 [221] (fun _ v w => LgNew ⟨p.2, p.1, s.sl⟩ v w) (by simp only [tieL]; rfl) (by kernel_rfl) (fun _ _ _ _ h hb => RdA.later h hb) (by kernel_rfl) (by kernel_rfl) (by kernel_rfl) (by kernel_rfl) (by kernel_rfl) ?_
    simp only [List.take_succ_cons, List.take_zero, List.drop_succ_cons, List.drop_zero]
    repeat ((first | refine sec_plain (by rfl) (by rfl) (by rfl) (by rfl) ?_ | refine sec_nil (by rfl) (by rfl) (by rfl) (by rfl) (by rfl) ?_); intro K hK; go_big_quiet_op; go_big_quiet_on)
    refine sec_new (s := 221) (mk := fun w => .slice (some ⟨w.heap.size, 0, none⟩) 1 1) (ob := fun w => .cells #[.int .i64 p.2.i, .int .i64 p.2.n, .int .i64 p.2.l, .string p.2.d, .int .i64 p.1, .int .i64 s.sl] 53) (by rfl) (by rfl) (by rfl) (by rfl) (by rfl) (fun _ => by kernel_rfl) (fun w => LgNew.made ⟨p.2, p.1, s.sl⟩ w) ?_
    try simp only [Act.put, List.setIfInBounds_toArray, List.set_cons_succ, List.set_cons_zero]
    intro xs m hF
    have HF := Lib.hid (hF 221 (by simp))
    simp only [secFill]
    generalize xs 221 = v1 at HF ⊢
    have HM7 := Lib.hid (HS6.out.later m.h)
    clear hF xs hcl c4 c5 d0 d1 d2 d3 e0 e1 e2 e3 e4 e5 f0 f1 f2 f3 f4 f5 hsw hzb hzf
    generalize m.w = w7 at HF HM7 ⊢
    refine wpList_qO (c := lgC) flat_lg lgC_len lgC_one rfl (.tmp 212) (.tmp 221) rfl (by rfl) HM7.out.bus.log (by rfl) HF.out HLL.out ?_
    intro v3 w3 hq3 hk3 hg3
    obtain ⟨g3, o3, cap3, rfl⟩ := hq3.form
    have HL := Lib.hid (HM7.out.logged hq3 hk3 hg3)
    have y5 : w3.frozen? ⟨b, 5, none⟩ = false := (hk3.frozen (p := ⟨b, 5, none⟩) (HM7.out.bus.lt b (.inl rfl)) HM7.out.bus.f3.1).trans (HM7.out.bus.live 5)
    have y6 : w3.cell? ⟨b, 5, none⟩ = some (.slice AL s.log.length cl) := (hk3.cell (p := ⟨b, 5, none⟩) (HM7.out.bus.lt b (.inl rfl)) HM7.out.bus.f3.1).trans HM7.out.bus.cells.2.2.2.2.2
    clear hq3 hk3 hg3
    go_wp2
    go_meet
    exact ⟨_, HL⟩
  case rest =>
    obtain ⟨v3, HS7⟩ := hcut
    rename_i K0 hK0
    refine hK0 _ _ ?_
    exact bslot_five hN0 hN HP hbr HPN hpd hl1 HSS HS7
end Go.Proofs.YtpgfifacfkllfaaDoor
