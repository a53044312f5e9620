/- Box, plain: what Put, End and Take make of mailboxes; what may be of them. No program is meant. Of no program: what a callee hands out: new memory alone; a slice's shape. Echo: what the walks ask of the code; a table's places, plain. No program is meant but by its functions' numbers. Of no program: an object, and a block of the call's own beside it. -/
import Derived.Test.YtmpikfnemhjoeaaZaf
import Derived.Test.YtmpikfnemhjoeaaZad
import Derived.Test.YtmpikfnemhjoeaaZae
namespace Go.Proofs.Ytmpikfnemhjoeaa
open Go.RowKit
set_option linter.unusedVariables false

/-- the first free one from k on -/
def Bx.first (s : Bx) : Nat → Option Nat
  | 0 => none
  | k + 1 => match s.first k with
    | some i => some i
    | none => if s.S.getD k 1 = 0 then some k else none
theorem Bx.first_some {s : Bx} {i : Nat} : ∀ {k}, s.first k = some i → i < k ∧ s.S.getD i 1 = 0
  | 0, h => by cases h
  | k + 1, h => by
    unfold Bx.first at h
    cases hk : s.first k with
    | some j =>
      rw [hk] at h
      simp only at h
      injection h with h
      subst h
      have := Bx.first_some hk
      exact ⟨by omega, this.2⟩
    | none =>
      rw [hk] at h
      simp only at h
      split at h
      · injection h with h; subst h; exact ⟨Nat.lt_succ_self _, by assumption⟩
      · cases h
theorem Bx.first_at {s : Bx} {k : Nat} (h : s.first k = none) (h0 : s.S.getD k 1 = 0) : ∀ n, k < n → s.first n = some k := by
  intro n
  induction n with
  | zero => intro h; omega
  | succ n ih =>
    intro hk
    unfold Bx.first
    by_cases e : k = n
    · subst e; rw [h]; simp only; rw [if_pos h0]
    · rw [ih (by omega)]
theorem Bx.first_more {s : Bx} {k : Nat} (h : s.first k = none) (h0 : ¬ s.S.getD k 1 = 0) : s.first (k + 1) = none := by unfold Bx.first; rw [h]; simp only; rw [if_neg h0]
def Bx.putAt (s : Bx) (i : Nat) (p : Pk) : Bx := { s with S := s.S.set i 1, P := s.P.set i p, ord := s.ord ++ [(i : Int)] }
def Bx.put (s : Bx) (p : Pk) : Bx × Int × Int :=
  if keyG p.f < 0 then (s, 0, 4) else match s.first s.S.length with
    | some i => (s.putAt i p, i, 0)
    | none => (s, 0, 5)
def Bx.endAt (s : Bx) (i : Nat) (st : Int) : Bx := { s with S := s.S.set i st, ord := s.ord.filter (fun x => x != (i : Int)), fin := s.fin ++ [(i : Int)] }
def Bx.end_ (s : Bx) (box st : Int) : Bx × Int := if box < 0 ∨ (s.S.length : Int) ≤ box ∨ s.S.getD box.toNat 0 ≠ 1 then (s, 2) else (s.endAt box.toNat st, 0)
def Bx.take (s : Bx) : Bx × Int × Pk × Bool := match s.fin with
  | [] => (s, -1, pk0, false)
  | x :: r => ({ s with S := s.S.set x.toNat 0, P := s.P.set x.toNat pk0, fin := r }, x, s.P.getD x.toNat pk0, s.S.getD x.toNat 0 == 2)
/-- what may be of mailboxes -/
structure Bx.Ok (s : Bx) : Prop where
  n1 : 1 ≤ s.S.length
  n2 : s.S.length ≤ 1000
  lp : s.P.length = s.S.length
  ord : ∀ x ∈ s.ord, 0 ≤ x ∧ x < s.S.length ∧ s.S.getD x.toNat 0 = 1
  fin : ∀ x ∈ s.fin, 0 ≤ x ∧ x < s.S.length ∧ (s.S.getD x.toNat 0 = 2 ∨ s.S.getD x.toNat 0 = 3)
  nd1 : s.ord.Nodup
  nd2 : s.fin.Nodup
  key : ∀ x ∈ s.ord, 0 ≤ s.key x
theorem nodup_le : ∀ (n : Nat) (L : List Int), L.Nodup → (∀ x ∈ L, 0 ≤ x ∧ x < n) → L.length ≤ n
  | 0, L, _, h => by
    cases L with
    | nil => exact Nat.le_refl _
    | cons a L => have := h a (by simp); omega
  | n + 1, L, hn, h => by
    have h1 := nodup_le n (L.erase (n : Int)) (hn.erase _) (fun x hx => by
      have h2 := h x (List.mem_of_mem_erase hx)
      have h3 : x ≠ (n : Int) := fun e => by subst e; exact (List.Nodup.not_mem_erase hn) hx
      omega)
    by_cases hm : (n : Int) ∈ L
    · have := List.length_erase_of_mem hm
      omega
    · rw [List.erase_of_not_mem hm] at h1
      omega
theorem Bx.Ok.ordOk {s : Bx} (h : s.Ok) : s.ordOk := fun x hx => ⟨(h.ord x hx).1, (h.ord x hx).2.1⟩
theorem Bx.Ok.ordLe {s : Bx} (h : s.Ok) : s.ord.length ≤ 1000 := Nat.le_trans (nodup_le _ _ h.nd1 fun x hx => ⟨(h.ord x hx).1, (h.ord x hx).2.1⟩) h.n2
theorem Bx.Ok.finLe {s : Bx} (h : s.Ok) : s.fin.length ≤ 1000 := Nat.le_trans (nodup_le _ _ h.nd2 fun x hx => ⟨(h.fin x hx).1, (h.fin x hx).2.1⟩) h.n2
theorem boxesN_rng (n : Int) : 1 ≤ boxesN n ∧ boxesN n ≤ 1000 := by unfold boxesN; split <;> (try split) <;> omega
theorem Bx.Ok.new (n : Int) : (bxNew (boxesN n)).Ok := by
  have := boxesN_rng n
  exact ⟨by simp [bxNew]; omega, by simp [bxNew]; omega, by simp [bxNew], nofun, nofun, List.nodup_nil, List.nodup_nil, nofun⟩
theorem getD_set' {α : Type} (l : List α) (i j : Nat) (a d : α) : (l.set i a).getD j d = if i = j ∧ i < l.length then a else l.getD j d := by
  rw [List.getD_eq_getElem?_getD, List.getD_eq_getElem?_getD, List.getElem?_set]
  by_cases h : i = j
  · subst h
    by_cases h2 : i < l.length
    · rw [if_pos rfl, if_pos h2, if_pos ⟨rfl, h2⟩]; rfl
    · rw [if_pos rfl, if_neg h2, if_neg (fun h => h2 h.2), List.getElem?_eq_none (by omega)]
  · rw [if_neg h, if_neg (fun h' => h h'.1)]
theorem Bx.getD_01 {s : Bx} {i : Nat} (h : i < s.S.length) : s.S.getD i 1 = s.S.getD i 0 := by rw [List.getD_eq_getElem?_getD, List.getD_eq_getElem?_getD, List.getElem?_eq_getElem h]; rfl
theorem Bx.Ok.putAt {s : Bx} (h : s.Ok) {i : Nat} (hi : i < s.S.length) (h0 : s.S.getD i 1 = 0) {p : Pk} (hp : 0 ≤ keyG p.f) : (s.putAt i p).Ok := by
  rw [Bx.getD_01 hi] at h0
  have hno : (i : Int) ∉ s.ord := fun hm => by
    have := (h.ord _ hm).2.2
    rw [Int.toNat_natCast, h0] at this
    omega
  have hnf : (i : Int) ∉ s.fin := fun hm => by
    have := (h.fin _ hm).2.2
    rw [Int.toNat_natCast, h0] at this
    omega
  refine ⟨by simp [Bx.putAt]; exact h.n1, by simp [Bx.putAt]; exact h.n2, by simp [Bx.putAt]; exact h.lp, fun x hx => ?_, fun x hx => ?_, ?_, h.nd2, fun x hx => ?_⟩
  · simp only [Bx.putAt, List.mem_append, List.mem_singleton] at hx
    simp only [Bx.putAt, List.length_set, getD_set']
    rcases hx with hx | rfl
    · obtain ⟨h1, h2, h3⟩ := h.ord x hx
      refine ⟨h1, h2, ?_⟩
      rw [if_neg (fun h' => hno (by rw [h'.1, Int.toNat_of_nonneg h1]; exact hx))]; exact h3
    · refine ⟨by omega, by omega, ?_⟩
      rw [Int.toNat_natCast, if_pos ⟨rfl, hi⟩]
  · have hx' : x ∈ s.fin := hx
    obtain ⟨h1, h2, h3⟩ := h.fin x hx'
    simp only [Bx.putAt, List.length_set, getD_set']
    refine ⟨h1, h2, ?_⟩
    rw [if_neg (fun h' => hnf (by rw [h'.1, Int.toNat_of_nonneg h1]; exact hx'))]; exact h3
  · show (s.ord ++ [(i : Int)]).Nodup
    rw [List.nodup_append]
    exact ⟨h.nd1, by simp, fun a ha b hb => by simp at hb; subst hb; exact fun e => hno (e ▸ ha)⟩
  · simp only [Bx.putAt, List.mem_append, List.mem_singleton] at hx
    simp only [Bx.key, Bx.putAt, getD_set']
    rcases hx with hx | rfl
    · rw [if_neg (fun h' => hno (by rw [h'.1, Int.toNat_of_nonneg (h.ord x hx).1]; exact hx))]; exact h.key x hx
    · rw [Int.toNat_natCast, if_pos ⟨rfl, by rw [h.lp]; exact hi⟩]; exact hp
theorem Bx.Ok.put {s : Bx} (h : s.Ok) (p : Pk) : (s.put p).1.Ok := by
  unfold Bx.put
  split
  · exact h
  · split
    · rename_i hk i hf
      obtain ⟨h1, h2⟩ := Bx.first_some hf
      exact h.putAt h1 h2 (by omega)
    · exact h
theorem Bx.Ok.endAt {s : Bx} (h : s.Ok) {i : Nat} (hi : i < s.S.length) (h1 : s.S.getD i 0 = 1) {st : Int} (hst : st = 2 ∨ st = 3) : (s.endAt i st).Ok := by
  have hnf : (i : Int) ∉ s.fin := fun hm => by
    have := (h.fin _ hm).2.2
    rw [Int.toNat_natCast, h1] at this
    omega
  refine ⟨by simp [Bx.endAt]; exact h.n1, by simp [Bx.endAt]; exact h.n2, by simp [Bx.endAt]; exact h.lp, fun x hx => ?_, fun x hx => ?_, h.nd1.filter _, ?_, fun x hx => ?_⟩
  · simp only [Bx.endAt, List.mem_filter, bne_iff_ne, ne_eq] at hx
    obtain ⟨h2, h3, h4⟩ := h.ord x hx.1
    simp only [Bx.endAt, List.length_set, getD_set']
    refine ⟨h2, h3, ?_⟩
    rw [if_neg (fun h' => hx.2 (by rw [h'.1, Int.toNat_of_nonneg h2]))]; exact h4
  · simp only [Bx.endAt, List.mem_append, List.mem_singleton] at hx
    simp only [Bx.endAt, List.length_set, getD_set']
    rcases hx with hx | rfl
    · obtain ⟨h2, h3, h4⟩ := h.fin x hx
      refine ⟨h2, h3, ?_⟩
      rw [if_neg (fun h' => hnf (by rw [h'.1, Int.toNat_of_nonneg h2]; exact hx))]; exact h4
    · refine ⟨by omega, by omega, ?_⟩
      rw [Int.toNat_natCast, if_pos ⟨rfl, hi⟩]; exact hst
  · show (s.fin ++ [(i : Int)]).Nodup
    rw [List.nodup_append]
    exact ⟨h.nd2, by simp, fun a ha b hb => by simp at hb; subst hb; exact fun e => hnf (e ▸ ha)⟩
  · simp only [Bx.endAt, List.mem_filter] at hx
    exact h.key x hx.1
theorem Bx.Ok.end_ {s : Bx} (h : s.Ok) (box : Int) {st : Int} (hst : st = 2 ∨ st = 3) : (s.end_ box st).1.Ok := by
  unfold Bx.end_
  split
  · exact h
  · rename_i hc
    exact h.endAt (by omega) (by omega) hst
theorem Bx.Ok.take {s : Bx} (h : s.Ok) : s.take.1.Ok := by
  unfold Bx.take
  cases hf : s.fin with
  | nil => exact h
  | cons x r =>
    obtain ⟨h1, h2, h3⟩ := h.fin x (by rw [hf]; simp)
    have hnd := h.nd2
    rw [hf, List.nodup_cons] at hnd
    have hno : ∀ y ∈ s.ord, x.toNat ≠ y.toNat := fun y hy e => by
      have := (h.ord y hy).2.2
      rw [← e] at this
      omega
    refine ⟨by simp; exact h.n1, by simp; exact h.n2, by simp; exact h.lp, fun y hy => ?_, fun y hy => ?_, h.nd1, hnd.2, fun y hy => ?_⟩
    · obtain ⟨g1, g2, g3⟩ := h.ord y hy
      simp only [List.length_set, getD_set']
      refine ⟨g1, g2, ?_⟩
      rw [if_neg (fun h' => hno y hy h'.1)]; exact g3
    · obtain ⟨g1, g2, g3⟩ := h.fin y (by rw [hf]; simp; exact .inr hy)
      simp only [List.length_set, getD_set']
      refine ⟨g1, g2, ?_⟩
      rw [if_neg (fun h' => hnd.1 (by rw [show x = y by omega]; exact hy))]; exact g3
    · simp only [Bx.key, getD_set']
      rw [if_neg (fun h' => hno y hy h'.1)]; exact h.key y hy
end Go.Proofs.Ytmpikfnemhjoeaa

namespace Go.Proofs.Ytmpikfnemhjoeaa
open Go.RowKit
set_option linter.unusedVariables false

/-- a callee that makes new memory alone, with what it returns behind a fact -/
def Gives (w : World) (p : World → Value → Prop) (e : Ending) (w' : World) : Prop := ∃ u, e = .returned u ∧ p w' u ∧ Below w.heap.size w w'
/-- a slice's length is not above its room -/
def CapOk (u : Value) : Prop := ∀ A n c, u = .slice A n c → n ≤ c
/-- nil, or with room for what it holds -/
def ShapeOk (u : Value) : Prop := u = .slice none 0 0 ∨ ∃ x n c, u = .slice (some x) n c ∧ n ≤ c
end Go.Proofs.Ytmpikfnemhjoeaa

namespace Go.Proofs.Ytmpikfnemhjoeaa
open Go.RowKit
set_option linter.unusedVariables false

/-- a table: what stood last at each place, and whether it stands there -/
structure Ec where
  H : List Pk
  F : List Bool
def ecNew (n : Nat) : Ec := ⟨List.replicate n pk0, List.replicate n false⟩
def Ec.has (s : Ec) (i : Int) : Bool := decide (0 ≤ i) && decide (i < s.F.length)
def Ec.at_ (s : Ec) (i : Int) : Bool := s.F.getD i.toNat false
def Ec.put (s : Ec) (i : Int) (p : Pk) : Ec × Int := if s.has i then (if s.at_ i then (s, 5) else (⟨s.H.set i.toNat p, s.F.set i.toNat true⟩, 0)) else (s, 2)
def Ec.get (s : Ec) (i : Int) : Ec × Pk × Int := if s.has i then (if s.at_ i then (⟨s.H, s.F.set i.toNat false⟩, s.H.getD i.toNat pk0, 0) else (s, pk0, 6)) else (s, pk0, 2)
def Ec.peek (s : Ec) (i : Int) : Pk × Bool := if s.has i && s.at_ i then (s.H.getD i.toNat pk0, true) else (pk0, false)
def Ec.len (s : Ec) : Nat := (s.F.filter id).length
def allE : List Pk → List Bool → List Pk
  | p :: H, f :: F => if f then p :: allE H F else allE H F
  | _, _ => []
def Ec.all (s : Ec) : List Pk := allE s.H s.F
def Ec.flush (s : Ec) : Ec := ⟨s.H, List.replicate s.F.length false⟩
structure Ec.Ok (s : Ec) : Prop where
  len : s.H.length = s.F.length
  n1 : 1 ≤ s.F.length
  n2 : s.F.length ≤ 1000
theorem Ec.Ok.new (n : Int) : (ecNew (boxesN n)).Ok := by
  have := boxesN_rng n
  exact ⟨by simp [ecNew], by simp [ecNew]; omega, by simp [ecNew]; omega⟩
theorem Ec.Ok.put {s : Ec} (h : s.Ok) (i : Int) (p : Pk) : (s.put i p).1.Ok := by
  unfold Ec.put
  split
  · split
    · exact h
    · exact ⟨by simpa using h.len, by simpa using h.n1, by simpa using h.n2⟩
  · exact h
theorem Ec.Ok.get {s : Ec} (h : s.Ok) (i : Int) : (s.get i).1.Ok := by
  unfold Ec.get
  split
  · split
    · exact ⟨by simpa using h.len, by simpa using h.n1, by simpa using h.n2⟩
    · exact h
  · exact h
theorem Ec.Ok.flush {s : Ec} (h : s.Ok) : s.flush.Ok := ⟨by simpa [Ec.flush] using h.len, by simpa [Ec.flush] using h.n1, by simpa [Ec.flush] using h.n2⟩
theorem allE_len : ∀ (H : List Pk) (F : List Bool), (allE H F).length ≤ F.length
  | [], _ => by simp [allE]
  | _ :: _, [] => by simp [allE]
  | p :: H, f :: F => by
    have := allE_len H F
    unfold allE
    split
    · simp; omega
    · simp; omega
theorem cntF_set : ∀ (F : List Bool) (i : Nat) (b : Bool), i < F.length → ((F.set i b).filter id).length + (if F.getD i false then 1 else 0) = (F.filter id).length + (if b then 1 else 0)
  | [], i, b, h => by cases h
  | f :: F, 0, b, h => by cases f <;> cases b <;> simp
  | f :: F, i + 1, b, h => by
    have := cntF_set F i b (by simpa using h)
    simp only [List.set_cons_succ, List.filter_cons, List.getD_cons_succ]
    generalize (if F.getD i false = true then 1 else 0) = q at this ⊢
    cases f
    · simpa using this
    · simp only [id, if_true, List.length_cons]; omega
theorem Ec.len_le (s : Ec) : s.len ≤ s.F.length := List.length_filter_le _ _
theorem Ec.flush_len (s : Ec) : s.flush.len = 0 := by simp [Ec.flush, Ec.len]
theorem Ec.new_len (n : Nat) : (ecNew n).len = 0 := by simp [ecNew, Ec.len]
structure EchoApi (P : Program) (fN fP fG fK fL fF : Nat) (I : World → Value → Ec → (Nat → Prop) → Prop) : Prop where
  obj : IsObj I
  ptr : ∀ {w v s O}, I w v s O → ∃ a, v = .pointer (some a)
  new : ∀ (n : Int) (w : World), Calls P fN #[.int .i64 n] w fun e w' => ∃ v O, e = .returned v ∧ I w' v (ecNew (boxesN n)) O ∧ Below w.heap.size w w' ∧ ∀ k, O k → w.heap.size ≤ k
  put : ∀ {w v s O} (i : Int) (p : Pk), I w v s O → s.Ok → Calls P fP #[v, .int .i64 i, pkV p] w fun e w' => e = .returned (.int .i64 (s.put i p).2) ∧ Stp I v O w (s.put i p).1 w'
  get : ∀ {w v s O} (i : Int), I w v s O → s.Ok → Calls P fG #[v, .int .i64 i] w fun e w' => e = .returned (.tuple #[pkV (s.get i).2.1, .int .i64 (s.get i).2.2]) ∧ Stp I v O w (s.get i).1 w'
  peek : ∀ {w v s O} (i : Int), I w v s O → s.Ok → Calls P fK #[v, .int .i64 i] w fun e w' => e = .returned (.tuple #[pkV (s.peek i).1, .bool (s.peek i).2]) ∧ Below w.heap.size w w'
  len : ∀ {w v s O}, I w v s O → s.Ok → Calls P fL #[v] w fun e w' => e = .returned (.int .i64 (s.len : Nat)) ∧ Below w.heap.size w w'
  flush : ∀ {w v s O}, I w v s O → s.Ok → Calls P fF #[v] w fun e w' => ∃ u, e = .returned u ∧ SlG pkC 7 w' w'.heap.size u s.all ∧ Stp I v O w s.flush w'
/-- of nil -/
structure EchoNone (P : Program) (fP fG fK fL fF : Nat) : Prop where
  put : ∀ (i : Int) (p : Pk) w, Calls P fP #[.pointer none, .int .i64 i, pkV p] w fun e w' => e = .returned (.int .i64 1) ∧ Below w.heap.size w w'
  get : ∀ (i : Int) w, Calls P fG #[.pointer none, .int .i64 i] w fun e w' => e = .returned (.tuple #[pkV pk0, .int .i64 1]) ∧ Below w.heap.size w w'
  peek : ∀ (i : Int) w, Calls P fK #[.pointer none, .int .i64 i] w fun e w' => e = .returned (.tuple #[pkV pk0, .bool false]) ∧ Below w.heap.size w w'
  len : ∀ w, Calls P fL #[.pointer none] w fun e w' => e = .returned (.int .i64 0) ∧ Below w.heap.size w w'
  flush : ∀ w, Calls P fF #[.pointer none] w fun e w' => ∃ A c, e = .returned (.slice A 0 c) ∧ Below w.heap.size w w'
abbrev EchoI (I : World → Value → Ec → (Nat → Prop) → Prop) : Prop := EchoApi Try.prog 7 9 11 10 14 13 I
abbrev EchoNo : Prop := EchoNone Try.prog 9 11 10 14 13
end Go.Proofs.Ytmpikfnemhjoeaa

namespace Go.Proofs.Ytmpikfnemhjoeaa
open Go.RowKit
set_option linter.unusedVariables false

/-- the object, and a block of the call's own beside it -/
structure HasB {σ : Type} (I : World → Value → σ → (Nat → Prop) → Prop) (w0 : World) (v : Value) (s : σ) (O : Nat → Prop) (z : Nat) (o : Obj) (w : World) : Prop where
  has : Has I w0 v s O w
  box : w.heap[z]? = some o
  no : ¬ O z
section
variable {σ : Type} {I : World → Value → σ → (Nat → Prop) → Prop} {w0 w w' : World} {v : Value} {s s' : σ} {O O' : Nat → Prop} {z : Nat} {o : Obj}
theorem HasB.made (hI : IsObj I) (h : Has I w0 v s O w) (o : Obj) (ho : (w.alloc o).heap[w.heap.size]? = some o) : HasB I w0 v s O w.heap.size o (w.alloc o) :=
  ⟨h.later hI ((Below.refl _ w).alloc (Nat.le_refl _) o), ho, fun h1 => absurd (hI.lt h.inv _ h1) (Nat.lt_irrefl _)⟩
theorem HasB.later (hI : IsObj I) (h : HasB I w0 v s O z o w) (hb : Below w.heap.size w w') : HasB I w0 v s O z o w' := ⟨h.has.later hI hb, (hb.block z (heap_some_lt h.box)).trans h.box, h.no⟩
theorem HasB.step (hI : IsObj I) (h : HasB I w0 v s O z o w) (hi : I w' v s' O') (hk : Kept O w w') (hg : Grows O w O') : HasB I w0 v s' O' z o w' :=
  ⟨h.has.step hI hi hk hg, (hk.block z (heap_some_lt h.box) h.no).trans h.box, out_step (heap_some_lt h.box) h.no hg⟩
end
end Go.Proofs.Ytmpikfnemhjoeaa
