/- Box: what the walks ask of the code. No program is meant but by its functions' numbers. Of no program: an object, and a block of the call's own beside it. Box: the chapter's example; walk of BoxNil. -/
import Derived.Test.YtghmidpbfpfcoaaDoorZak
import Derived.Test.YtghmidpbfpfcoaaDoorZal
import Derived.Test.YtghmidpbfpfcoaaDoorZag
namespace Go.Proofs.YtghmidpbfpfcoaaDoor
open Go.RowKit
set_option linter.unusedVariables false

/-- what Best tells -/
def Bx.bst (s : Bx) : Int × Pk × Bool := if s.best s.ord.length < 0 then (0, pk0, false) else (s.best s.ord.length, s.P.getD (s.best s.ord.length).toNat pk0, true)
abbrev dnV (i : Int) (p : Pk) (b : Bool) : Value := .agg #[.int .i64 i, .int .i64 p.f.i, .int .i64 p.f.n, .int .i64 p.f.l, .string p.f.d, .int .i64 p.fr, .int .i64 p.tag, .bool p.lp, .bool b]
/-- what Take tells -/
def Bx.tk (s : Bx) : Int × Pk × Bool × Int := match s.fin with
  | [] => (0, pk0, false, 6)
  | _ :: _ => (s.take.2.1, s.take.2.2.1, s.take.2.2.2, 0)
/-- the flags of a packet's frame are a number of 64 bits -/
def Pk.ok (p : Pk) : Prop := -9223372036854775808 ≤ p.f.n ∧ p.f.n ≤ 9223372036854775807
structure BoxApi (P : Program) (fN fP fB fS fA fT fU fF : Nat) (T : World → Prop) (I : World → Value → Bx → (Nat → Prop) → Prop) : Prop where
  tab : ∀ {w w'}, T w → Below w.heap.size w w' → T w'
  obj : IsObj I
  ptr : ∀ {w v s O}, I w v s O → ∃ a, v = .pointer (some a)
  new : ∀ (n : Int) (w : World), Calls P fN #[.int .i64 n] w fun e w' => ∃ v O, e = .returned v ∧ I w' v (bxNew (boxesN n)) O ∧ Below w.heap.size w w' ∧ ∀ k, O k → w.heap.size ≤ k
  put : ∀ {w v s O} (p : Pk), I w v s O → s.Ok → T w → p.ok → Calls P fP #[v, pkV p] w fun e w' => e = .returned (.tuple #[.int .i64 (s.put p).2.1, .int .i64 (s.put p).2.2]) ∧ Stp I v O w (s.put p).1 w'
  best : ∀ {w v s O}, I w v s O → s.Ok → T w → Calls P fB #[v] w fun e w' => e = .returned (.tuple #[.int .i64 s.bst.1, pkV s.bst.2.1, .bool s.bst.2.2]) ∧ Below w.heap.size w w'
  sent : ∀ {w v s O} (i : Int), I w v s O → s.Ok → Calls P fS #[v, .int .i64 i] w fun e w' => e = .returned (.int .i64 (s.end_ i 2).2) ∧ Stp I v O w (s.end_ i 2).1 w'
  abort : ∀ {w v s O} (i : Int), I w v s O → s.Ok → Calls P fA #[v, .int .i64 i] w fun e w' => e = .returned (.int .i64 (s.end_ i 3).2) ∧ Stp I v O w (s.end_ i 3).1 w'
  take : ∀ {w v s O}, I w v s O → s.Ok → Calls P fT #[v] w fun e w' => e = .returned (.tuple #[dnV s.tk.1 s.tk.2.1 s.tk.2.2.1, .int .i64 s.tk.2.2.2]) ∧ Stp I v O w s.take.1 w'
  states : ∀ {w v s O}, I w v s O → s.Ok → Calls P fU #[v] w (Gives w fun w' u => SlA inC 1 w' (fun k => k < w.heap.size) u s.S ∧ ShapeOk u)
  free : ∀ {w v s O}, I w v s O → s.Ok → Calls P fF #[v] w fun e w' => e = .returned (.int .i64 (s.free s.S.length : Nat)) ∧ Below w.heap.size w w'
/-- of nil -/
structure BoxNone (P : Program) (fP fB fS fA fT fU fF : Nat) : Prop where
  put : ∀ (p : Pk) w, Calls P fP #[.pointer none, pkV p] w fun e w' => e = .returned (.tuple #[.int .i64 0, .int .i64 1]) ∧ Below w.heap.size w w'
  best : ∀ w, Calls P fB #[.pointer none] w fun e w' => e = .returned (.tuple #[.int .i64 0, pkV pk0, .bool false]) ∧ Below w.heap.size w w'
  sent : ∀ (i : Int) w, Calls P fS #[.pointer none, .int .i64 i] w fun e w' => e = .returned (.int .i64 1) ∧ Below w.heap.size w w'
  abort : ∀ (i : Int) w, Calls P fA #[.pointer none, .int .i64 i] w fun e w' => e = .returned (.int .i64 1) ∧ Below w.heap.size w w'
  take : ∀ w, Calls P fT #[.pointer none] w fun e w' => e = .returned (.tuple #[dnV 0 pk0 false, .int .i64 1]) ∧ Below w.heap.size w w'
  states : ∀ w, Calls P fU #[.pointer none] w fun e w' => (∃ A c, e = .returned (.slice A 0 c)) ∧ Below w.heap.size w w'
  free : ∀ w, Calls P fF #[.pointer none] w fun e w' => e = .returned (.int .i64 0) ∧ Below w.heap.size w w'
abbrev BoxI (T : World → Prop) (I : World → Value → Bx → (Nat → Prop) → Prop) : Prop := BoxApi Tryd.prog 8 15 16 18 20 19 12 13 T I
abbrev BoxNo : Prop := BoxNone Tryd.prog 15 16 18 20 19 12 13
end Go.Proofs.YtghmidpbfpfcoaaDoor

namespace Go.Proofs.YtghmidpbfpfcoaaDoor
open Go.RowKit
set_option linter.unusedVariables false

/-- the object, and a block of the call's own beside it -/
structure HasB {σ : Type} (I : World → Value → σ → (Nat → Prop) → Prop) (w0 : World) (v : Value) (s : σ) (O : Nat → Prop) (z : Nat) (o : Obj) (w : World) : Prop where
  has : Has I w0 v s O w
  box : w.heap[z]? = some o
  no : ¬ O z
section
variable {σ : Type} {I : World → Value → σ → (Nat → Prop) → Prop} {w0 w w' : World} {v : Value} {s s' : σ} {O O' : Nat → Prop} {z : Nat} {o : Obj}
theorem HasB.made (hI : IsObj I) (h : Has I w0 v s O w) (o : Obj) (ho : (w.alloc o).heap[w.heap.size]? = some o) : HasB I w0 v s O w.heap.size o (w.alloc o) :=
  ⟨h.later hI ((Below.refl _ w).alloc (Nat.le_refl _) o), ho, fun h1 => absurd (hI.lt h.inv _ h1) (Nat.lt_irrefl _)⟩
theorem HasB.later (hI : IsObj I) (h : HasB I w0 v s O z o w) (hb : Below w.heap.size w w') : HasB I w0 v s O z o w' := ⟨h.has.later hI hb, (hb.block z (heap_some_lt h.box)).trans h.box, h.no⟩
theorem HasB.step (hI : IsObj I) (h : HasB I w0 v s O z o w) (hi : I w' v s' O') (hk : Kept O w w') (hg : Grows O w O') : HasB I w0 v s' O' z o w' :=
  ⟨h.has.step hI hi hk hg, (hk.block z (heap_some_lt h.box) h.no).trans h.box, out_step (heap_some_lt h.box) h.no hg⟩
end
end Go.Proofs.YtghmidpbfpfcoaaDoor

namespace Go.Proofs.YtghmidpbfpfcoaaDoor
open Go.RowKit
set_option linter.unusedVariables false

def pkL (i t : Int) : Pk := ⟨⟨i, 0, 0, ByteArray.mk #[]⟩, 0, t, false⟩
theorem packet_v (i t : Int) (w : World) : Calls Tryd.prog 21 #[.int .i64 i, .int .i64 t] w fun e w' => e = .returned (pkV (pkL i t)) ∧ Below w.heap.size w w' := by
  go_enter Tryd.func21, Tryd.ntmps21
  go_wp2
  refine bodyPost_ret (v := pkV (pkL i t)) ?_ rfl ⟨rfl, (Below.refl _ w).alloc (Nat.le_refl _) _⟩
  simp [results, Tryd.results21, go_sem, pkL]
def xA0 : Bx := bxNew (boxesN 2)
def xA1 : Bx := (xA0.put (pkL 5 1)).1
def xA2 : Bx := (xA1.put (pkL 3 2)).1
def xA3 : Bx := (xA2.put (pkL 1 3)).1
def xA4 : Bx := (xA3.end_ 1 2).1
def xA5 : Bx := xA4.take.1
def xA6 : Bx := (xA5.put (pkL 1 3)).1
theorem xA0_ok : xA0.Ok := Bx.Ok.new 2
theorem xA1_ok : xA1.Ok := xA0_ok.put _
theorem xA2_ok : xA2.Ok := xA1_ok.put _
theorem xA3_ok : xA3.Ok := xA2_ok.put _
theorem xA4_ok : xA4.Ok := xA3_ok.end_ 1 (.inl rfl)
theorem xA5_ok : xA5.Ok := xA4_ok.take
theorem xA_e1 : (xA0.put (pkL 5 1)).2 = (0, 0) := by decide +kernel
theorem xA_e2 : (xA1.put (pkL 3 2)).2 = (1, 0) := by decide +kernel
theorem xA_e3 : (xA2.put (pkL 1 3)).2 = (0, 5) := by decide +kernel
theorem xA_e4 : xA3.bst.1 = 1 ∧ xA3.bst.2.1.tag = 2 ∧ xA3.bst.2.2 = true := by decide +kernel
theorem xA_e5 : (xA3.end_ 1 2).2 = 0 := by decide +kernel
theorem xA_e6 : xA4.tk.2.1.tag = 2 ∧ xA4.tk.2.2.1 = true ∧ xA4.tk.2.2.2 = 0 := by decide +kernel
theorem xA_e7 : (xA5.put (pkL 1 3)).2 = (1, 0) := by decide +kernel
theorem pkL_ok (i t : Int) : (pkL i t).ok := ⟨by show (-9223372036854775808 : Int) ≤ 0; decide, by show (0 : Int) ≤ 9223372036854775807; decide⟩
set_option maxHeartbeats 4000000 in
theorem boxalive {T : World → Prop} {I : World → Value → Bx → (Nat → Prop) → Prop} (A : BoxI T I) (w : World) (hT : T w) :
    Calls Tryd.prog 7 #[] w fun e w' => e = .returned (.bool true) ∧ Below w.heap.size w w' := by
  have HA := Lib.hid A
  have HT := Lib.hid hT
  clear hT A
  go_enter Tryd.func7, Tryd.ntmps7
  go_wp2_with fail
  refine (HA.out.new 2 _).mono ?_
  rintro e w0 ⟨v, O0, rfl, hi, hb, hn⟩
  obtain ⟨a, rfl⟩ := HA.out.ptr hi
  have H1 : Hid (Has I w (.pointer (some a)) xA0 O0 w0) := Lib.hid ⟨hi, hb, hn⟩
  clear hi hb hn
  go_wp2_with fail
  refine (packet_v 5 1 _).mono ?_
  rintro e y1 ⟨rfl, hb⟩
  have HP1 := Lib.hid (H1.out.later HA.out.obj hb)
  clear hb
  go_wp2_with fail
  refine (HA.out.put (pkL 5 1) HP1.out.inv xA0_ok (HA.out.tab HT.out HP1.out.below) (pkL_ok _ _)).mono ?_
  rintro e w1 ⟨he, O1, hi, hk, hg⟩
  rw [xA_e1] at he
  subst he
  have H2 : Hid (Has I w (.pointer (some a)) xA1 O1 w1) := Lib.hid (HP1.out.step HA.out.obj hi hk hg)
  clear hi hk hg
  go_wp2_with fail
  refine (packet_v 3 2 _).mono ?_
  rintro e y2 ⟨rfl, hb⟩
  have HP2 := Lib.hid (H2.out.later HA.out.obj hb)
  clear hb
  go_wp2_with fail
  refine (HA.out.put (pkL 3 2) HP2.out.inv xA1_ok (HA.out.tab HT.out HP2.out.below) (pkL_ok _ _)).mono ?_
  rintro e w2 ⟨he, O2, hi, hk, hg⟩
  rw [xA_e2] at he
  subst he
  have H3 : Hid (Has I w (.pointer (some a)) xA2 O2 w2) := Lib.hid (HP2.out.step HA.out.obj hi hk hg)
  clear hi hk hg
  go_wp2_with fail
  refine (packet_v 1 3 _).mono ?_
  rintro e y3 ⟨rfl, hb⟩
  have HP3 := Lib.hid (H3.out.later HA.out.obj hb)
  clear hb
  go_wp2_with fail
  refine (HA.out.put (pkL 1 3) HP3.out.inv xA2_ok (HA.out.tab HT.out HP3.out.below) (pkL_ok _ _)).mono ?_
  rintro e w3 ⟨he, O3, hi, hk, hg⟩
  rw [xA_e3] at he
  subst he
  have H4 : Hid (Has I w (.pointer (some a)) xA3 O3 w3) := Lib.hid (HP3.out.step HA.out.obj hi hk hg)
  clear hi hk hg
  have e4 := xA_e4
  obtain ⟨b1, b2, b3⟩ := e4
  go_wp2_with fail
  refine (HA.out.best H4.out.inv xA3_ok (HA.out.tab HT.out H4.out.below)).mono ?_
  rintro e w4 ⟨rfl, hb⟩
  have HE4 := Lib.hid (H4.out.later HA.out.obj hb)
  clear hb
  generalize xA3.bst = q at b1 b2 b3 ⊢
  obtain ⟨bi, bp, bb⟩ := q
  simp only at b1 b2 b3
  subst b1 b3
  have HB2 := Lib.hid b2
  clear b2
  have HQ5 : Hid (HasB I w (.pointer (some a)) xA3 O3 w4.heap.size (.cells #[.int .i64 bp.f.i, .int .i64 bp.f.n, .int .i64 bp.f.l, .string bp.f.d, .int .i64 bp.fr, .int .i64 bp.tag, .bool bp.lp] 32 (0, 0)) (w4.alloc (.cells #[.int .i64 bp.f.i, .int .i64 bp.f.n, .int .i64 bp.f.l, .string bp.f.d, .int .i64 bp.fr, .int .i64 bp.tag, .bool bp.lp] 32))) := Lib.hid (HasB.made HA.out.obj HE4.out _ (BoxP.made w4 bp))
  go_wp2_with fail
  refine (HA.out.sent 1 HQ5.out.has.inv xA3_ok).mono ?_
  rintro e w5 ⟨he, O5, hi, hk, hg⟩
  rw [xA_e5] at he
  subst he
  have HQ6 : Hid (HasB I w (.pointer (some a)) xA4 O5 w4.heap.size _ w5) := Lib.hid (HQ5.out.step HA.out.obj hi hk hg)
  clear hi hk hg
  obtain ⟨t1, t2, t3⟩ := xA_e6
  go_wp2_with fail
  refine (HA.out.take HQ6.out.has.inv xA4_ok).mono ?_
  rintro e w6 ⟨rfl, O6, hi, hk, hg⟩
  have HQ7 : Hid (HasB I w (.pointer (some a)) xA5 O6 w4.heap.size _ w6) := Lib.hid (HQ6.out.step HA.out.obj hi hk hg)
  clear hi hk hg
  generalize xA4.tk = q at t1 t2 t3 ⊢
  obtain ⟨ti, tp, tb, te⟩ := q
  simp only at t1 t2 t3
  subst t2 t3
  have HT2 := Lib.hid t1
  clear t1
  have HB7 := Lib.hid (HQ7.out.later HA.out.obj ((Below.refl _ w6).alloc (Nat.le_refl _) (.cells #[.int .i64 ti, .int .i64 tp.f.i, .int .i64 tp.f.n, .int .i64 tp.f.l, .string tp.f.d, .int .i64 tp.fr, .int .i64 tp.tag, .bool tp.lp, .bool true] 53)))
  go_wp2_with fail
  refine (packet_v 1 3 _).mono ?_
  rintro e w7 ⟨rfl, hb⟩
  have hx : (w6.alloc (.cells #[.int .i64 ti, .int .i64 tp.f.i, .int .i64 tp.f.n, .int .i64 tp.f.l, .string tp.f.d, .int .i64 tp.fr, .int .i64 tp.tag, .bool tp.lp, .bool true] 53)).heap[w6.heap.size]? = some (.cells #[.int .i64 ti, .int .i64 tp.f.i, .int .i64 tp.f.n, .int .i64 tp.f.l, .string tp.f.d, .int .i64 tp.fr, .int .i64 tp.tag, .bool tp.lp, .bool true] 53 (0, 0)) := by unfold World.alloc; simp
  have HD7 := Lib.hid ((HasB.made HA.out.obj HQ7.out.has _ hx).later HA.out.obj hb)
  have HP7 := Lib.hid (HB7.out.later HA.out.obj hb)
  clear hb hx
  go_wp2_with fail
  refine (HA.out.put (pkL 1 3) HP7.out.has.inv xA5_ok (HA.out.tab HT.out HP7.out.has.below) (pkL_ok _ _)).mono ?_
  rintro e w8 ⟨he, O8, hi, hk, hg⟩
  rw [xA_e7] at he
  subst he
  have HP8 : Hid (HasB I w (.pointer (some a)) xA6 O8 w4.heap.size _ w8) := Lib.hid (HP7.out.step HA.out.obj hi hk hg)
  have HD8 : Hid (HasB I w (.pointer (some a)) xA6 O8 w6.heap.size _ w8) := Lib.hid (HD7.out.step HA.out.obj hi hk hg)
  clear hi hk hg
  have p2 : w8.cell? ⟨w4.heap.size, 5, none⟩ = some (.int .i64 2) := by rw [Lib.cell_of_heap HP8.out.box, ← HB2.out]; rfl
  have d6 : w8.cell? ⟨w6.heap.size, 6, none⟩ = some (.int .i64 2) := by rw [Lib.cell_of_heap HD8.out.box, ← HT2.out]; rfl
  have d8 : w8.cell? ⟨w6.heap.size, 8, none⟩ = some (.bool true) := by rw [Lib.cell_of_heap HD8.out.box]; rfl
  go_wp2
  go_ret
  exact ⟨rfl, HP8.out.has.below⟩
end Go.Proofs.YtghmidpbfpfcoaaDoor
