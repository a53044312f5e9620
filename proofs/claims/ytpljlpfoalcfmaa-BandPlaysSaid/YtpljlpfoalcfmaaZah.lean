/- The document's Room, of layer 14 and of those behind it. Band, the document's side: what a queue is in memory; what is stored into it. Of no program: a row in a block of its own as what another reads; an empty one. Band, the document's side: Put. Band, the document's side: first. -/
import Derived.Test.YtpljlpfoalcfmaaZac
import Derived.Test.YtpljlpfoalcfmaaZaf
import Derived.Test.YtpljlpfoalcfmaaZag
import Derived.BigQuiet
import Derived.Deep.Cut
namespace Go.Proofs.Ytpljlpfoalcfmaa
open Go.RowKit
set_option linter.unusedVariables false

def roomN (n : Int) : Int := if n < 1 then 1 else if 1000 < n then 1000 else n
theorem roomN_rng (n : Int) : 1 ≤ roomN n ∧ roomN n ≤ 1000 := by unfold roomN; split <;> (try split) <;> omega
set_option maxHeartbeats 1000000 in
theorem xroom_v {n r : Int} (h : roomN n = r) (w : World) : Calls Try.prog 25 #[.int .i64 n] w fun e w' => e = .returned (.int .i64 r) ∧ w = w' := by
  unfold roomN at h
  by_cases h1 : n < 1
  · rw [if_pos h1] at h
    subst h
    have hd : decide (n < 1) = true := decide_eq_true h1
    go_enter Try.func25, Try.ntmps25
    go_wp2
    go_ret
    exact ⟨rfl, rfl⟩
  · rw [if_neg h1] at h
    have hd : decide (n < 1) = false := decide_eq_false h1
    by_cases h2 : 1000 < n
    · rw [if_pos h2] at h
      subst h
      have hd2 : decide (1000 < n) = true := decide_eq_true h2
      clear h1 h2
      go_enter Try.func25, Try.ntmps25
      go_wp2
      go_ret
      exact ⟨rfl, rfl⟩
    · rw [if_neg h2] at h
      subst h
      have hd2 : decide (1000 < n) = false := decide_eq_false h2
      clear h1 h2
      go_enter Try.func25, Try.ntmps25
      go_wp2
      go_ret
      exact ⟨rfl, rfl⟩
end Go.Proofs.Ytpljlpfoalcfmaa

namespace Go.Proofs.Ytpljlpfoalcfmaa
open Go.RowKit
set_option linter.unusedVariables false

/-- a packet, and its band -/
structure On where
  b : Int
  p : Pk
def onC (o : On) : List Value := .int .i64 o.b :: pkC o.p
theorem onC_len (o : On) : (onC o).length = 8 := rfl
structure Bq where
  L : List On
  bands : Int
  room : Int
  st : Bool
structure BqM (w : World) (b : Nat) (vl : Value) (s : Bq) : Prop where
  box : w.heap[b]? = some (.cells #[vl, .int .i64 s.bands, .int .i64 s.room, .bool s.st] 44 (0, 0))
  row : RowQ onC 8 w vl s.L
  h1 : ¬ OwnO vl b
def bqO (b : Nat) (vl : Value) : Nat → Prop := fun k => k = b ∨ OwnO vl k
def BqD (w : World) (v : Value) (s : Bq) (O : Nat → Prop) : Prop := ∃ b vl, v = .pointer (some ⟨b, 0, none⟩) ∧ O = bqO b vl ∧ BqM w b vl s
section
variable {w w' : World} {b : Nat} {vl : Value} {s : Bq}
theorem BqM.lt (h : BqM w b vl s) : ∀ k, bqO b vl k → k < w.heap.size := by
  rintro k (rfl | hk)
  · exact heap_some_lt h.box
  · exact h.row.lt k hk
theorem BqM.stay (h : BqM w b vl s) (hs : ∀ k, bqO b vl k → w'.heap[k]? = w.heap[k]?) : BqM w' b vl s := by
  have hz : ∀ k, bqO b vl k → k < w'.heap.size := fun k hk => by
    have h1 := hs k hk
    have h2 := h.lt k hk
    rw [Array.getElem?_eq_getElem h2] at h1
    exact heap_some_lt h1
  exact ⟨(hs b (.inl rfl)).trans h.box, h.row.stayL (fun k hk => hs k (.inr hk)) (fun k hk => hz k (.inr hk)), h.h1⟩
theorem BqM.later (h : BqM w b vl s) (hb : Below w.heap.size w w') : BqM w' b vl s := h.stay (fun k hk => hb.block k (h.lt k hk))
theorem isObj_bq : IsObj BqD where
  stay := by
    rintro w w' v s O ⟨b, vl, rfl, rfl, h⟩ hs
    exact ⟨b, vl, rfl, rfl, h.stay hs⟩
  lt := by
    rintro w v s O ⟨b, vl, rfl, rfl, h⟩
    exact h.lt
theorem BqM.cells (h : BqM w b vl s) : w.cell? ⟨b, 0, none⟩ = some vl ∧ w.cell? ⟨b, 1, none⟩ = some (.int .i64 s.bands) ∧ w.cell? ⟨b, 2, none⟩ = some (.int .i64 s.room) ∧ w.cell? ⟨b, 3, none⟩ = some (.bool s.st) := by
  have hb := h.box
  refine ⟨?_, ?_, ?_, ?_⟩ <;> (rw [Lib.cell_of_heap hb]; rfl)
theorem BqM.live (h : BqM w b vl s) (j : Nat) : w.frozen? ⟨b, j, none⟩ = false := Lib.frozen_of_heap h.box j
theorem BqM.stp (h : BqM w b vl s) (hb : Below w.heap.size w w') : Stp BqD (.pointer (some ⟨b, 0, none⟩)) (bqO b vl) w s w' := ⟨_, ⟨b, vl, rfl, rfl, h.later hb⟩, .of_below hb, Grows.refl _ _⟩
/-- stopped, or not -/
theorem BqM.setStop (h : BqM w b vl s) (q : Bool) : BqM (w.setCell ⟨b, 3, none⟩ (.bool q)) b vl { s with st := q } ∧ Kept (bqO b vl) w (w.setCell ⟨b, 3, none⟩ (.bool q)) := by
  have ho : ∀ k, k ≠ b → (w.setCell ⟨b, 3, none⟩ (.bool q)).heap[k]? = w.heap[k]? := fun k hk => Below.heap_setCell _ _ _ _ hk
  have hz : w.heap.size ≤ (w.setCell ⟨b, 3, none⟩ (.bool q)).heap.size := by simp [World.setCell]
  refine ⟨⟨?_, h.row.stay (fun g hg => ho g (fun e => h.h1 (e ▸ hg))) hz, h.h1⟩, ⟨rfl, rfl, rfl, hz, fun k _ hk => ho k (fun e => hk (.inl e))⟩⟩
  rw [heap_setCell_same w b 3 _ _ _ h.box]; rfl
/-- another row -/
theorem BqM.setRow {vl' : Value} {L' : List On} (h : BqM w b vl s) (hb : Below w.heap.size w w') (hq : RowQ onC 8 w' vl' L') (hg : Grows (OwnO vl) w (OwnO vl')) :
    BqM (w'.setCell ⟨b, 0, none⟩ vl') b vl' { s with L := L' } ∧ Kept (bqO b vl) w (w'.setCell ⟨b, 0, none⟩ vl') ∧ Grows (bqO b vl) w (bqO b vl') := by
  have hm := h.later hb
  have lb := heap_some_lt h.box
  have ho : ∀ k, k ≠ b → (w'.setCell ⟨b, 0, none⟩ vl').heap[k]? = w'.heap[k]? := fun k hk => Below.heap_setCell _ _ _ _ hk
  have hz : w'.heap.size ≤ (w'.setCell ⟨b, 0, none⟩ vl').heap.size := by simp [World.setCell]
  have hn : ¬ OwnO vl' b := fun h4 => by
    rcases hg b h4 with h5 | h5
    · exact h.h1 h5
    · omega
  refine ⟨⟨?_, hq.stay (fun g hg' => ho g (fun e => hn (e ▸ hg'))) hz, hn⟩, ?_, ?_⟩
  · rw [heap_setCell_same w' b 0 _ _ _ hm.box]; rfl
  · exact (Kept.of_below (O := bqO b vl) hb).trans ⟨rfl, rfl, rfl, hz, fun k _ hk => ho k (fun e => hk (.inl e))⟩ (Grows.refl _ _)
  · rintro k (rfl | h4)
    · exact .inl (.inl rfl)
    · rcases hg k h4 with h5 | h5
      · exact .inl (.inr h5)
      · exact .inr h5
end
/-- an element of a row -/
theorem BqM.one {w : World} {b : Nat} {vl : Value} {s : Bq} (h : BqM w b vl s) (hl : s.L.length ≤ 1000) {k : Nat} (hk : k < s.L.length) : ∃ x c, vl = .slice (some x) s.L.length c ∧ x.block < w.heap.size ∧ ∀ j u, (onC (s.L[k]'hk))[j]? = some u → w.cell? ((x.add (k * 8)).add j) = some u :=
  SlG.at_ (h.row.sl onC_len (by unfold maxLen; omega)) hk
/-! ### New -/
def bqNew (bands room : Int) : Bq := ⟨[], roomN bands, roomN room, false⟩
set_option maxHeartbeats 2000000 in
theorem xbnew_v (bands room : Int) (w : World) : Calls Try.prog 10 #[.int .i64 bands, .int .i64 room] w fun e w' => ∃ v O, e = .returned v ∧ BqD w' v (bqNew bands room) O ∧ Below w.heap.size w w' ∧ ∀ k, O k → w.heap.size ≤ k := by
  have HF : Hid (∃ O, BqD (w.alloc (.cells #[.slice none 0 0, .int .i64 (roomN bands), .int .i64 (roomN room), .bool false] 44)) (.pointer (some ⟨w.heap.size, 0, none⟩)) (bqNew bands room) O ∧ ∀ k, O k → w.heap.size ≤ k) := Lib.hid
    ⟨_, ⟨w.heap.size, .slice none 0 0, rfl, rfl, ⟨by unfold World.alloc; simp; exact ⟨rfl, rfl, rfl⟩, RowQ.nil _, nofun⟩⟩, by
      rintro k (rfl | h)
      · exact Nat.le_refl _
      · cases h⟩
  have HB := Lib.hid ((Below.refl w.heap.size w).alloc (Nat.le_refl _) (.cells #[.slice none 0 0, .int .i64 (roomN bands), .int .i64 (roomN room), .bool false] 44))
  go_enter Try.func10, Try.ntmps10
  go_wp2_with fail
  refine (xroom_v rfl w).mono ?_
  rintro e w1 ⟨rfl, rfl⟩
  go_wp2_with fail
  refine (xroom_v rfl w).mono ?_
  rintro e w1 ⟨rfl, rfl⟩
  go_wp2_with fail
  go_ret
  obtain ⟨O, h1, h2⟩ := HF.out
  exact ⟨_, O, rfl, h1, HB.out, h2⟩
/-! ### plain -/
def Bq.at_ (s : Bq) (b : Int) : Int := if b < 0 then 0 else if s.bands ≤ b then s.bands - 1 else b
def Bq.put (s : Bq) (b : Int) (p : Pk) : Bq × Int := if (s.L.length : Int) = s.room then (s, 5) else ({ s with L := s.L ++ [⟨s.at_ b, p⟩] }, 0)
/-- of the first k the first one of the least band -/
def Bq.first (s : Bq) : Nat → Option Nat
  | 0 => none
  | k + 1 => match s.first k with
    | none => some k
    | some i => if (s.L.getD k ⟨0, pk0⟩).b < (s.L.getD i ⟨0, pk0⟩).b then some k else some i
theorem Bq.first_lt {s : Bq} {i : Nat} : ∀ {k}, s.first k = some i → i < k
  | 0, h => by cases h
  | k + 1, h => by
    unfold Bq.first at h
    cases hk : s.first k with
    | none => rw [hk] at h; injection h with h; omega
    | some j =>
      rw [hk] at h
      simp only at h
      have := Bq.first_lt hk
      split at h <;> (injection h with h; omega)
theorem Bq.first_none {s : Bq} : ∀ {k}, s.first k = none → k = 0
  | 0, _ => rfl
  | k + 1, h => by
    unfold Bq.first at h
    cases hk : s.first k with
    | none => rw [hk] at h; cases h
    | some j => rw [hk] at h; simp only at h; split at h <;> cases h
def Bq.take (s : Bq) : Bq × Pk × Bool := match s.first s.L.length with
  | none => (s, pk0, false)
  | some i => if s.st then (s, pk0, false) else ({ s with L := s.L.eraseIdx i }, (s.L.getD i ⟨0, pk0⟩).p, true)
/-- what may be of a queue -/
structure Bq.Ok (s : Bq) : Prop where
  bands : 1 ≤ s.bands ∧ s.bands ≤ 1000
  room : 1 ≤ s.room ∧ s.room ≤ 1000
  len : (s.L.length : Int) ≤ s.room
  rng : ∀ o ∈ s.L, 0 ≤ o.b ∧ o.b < s.bands
theorem Bq.Ok.new (bands room : Int) : (bqNew bands room).Ok := ⟨roomN_rng _, roomN_rng _, by have := roomN_rng room; show ((([] : List On).length : Nat) : Int) ≤ roomN room; simp; omega, nofun⟩
theorem Bq.Ok.at_ {s : Bq} (h : s.Ok) (b : Int) : 0 ≤ s.at_ b ∧ s.at_ b < s.bands := by
  have := h.bands
  unfold Bq.at_
  split
  · omega
  · split <;> omega
theorem Bq.Ok.put {s : Bq} (h : s.Ok) (b : Int) (p : Pk) : (s.put b p).1.Ok := by
  unfold Bq.put
  split
  · exact h
  · rename_i hn
    refine ⟨h.bands, h.room, by show (((s.L ++ [_]).length : Nat) : Int) ≤ s.room; have := h.len; simp; omega, fun o ho => ?_⟩
    simp only [List.mem_append, List.mem_singleton] at ho
    rcases ho with ho | rfl
    · exact h.rng o ho
    · exact h.at_ b
theorem Bq.Ok.take {s : Bq} (h : s.Ok) : s.take.1.Ok := by
  unfold Bq.take
  split
  · exact h
  · split
    · exact h
    · rename_i i _ _
      refine ⟨h.bands, h.room, ?_, fun o ho => h.rng o (List.mem_of_mem_eraseIdx ho)⟩
      have h1 := h.len
      have h2 : (s.L.eraseIdx i).length ≤ s.L.length := by rw [List.length_eraseIdx]; split <;> omega
      show (((s.L.eraseIdx i).length : Nat) : Int) ≤ s.room
      omega
theorem Bq.Ok.stop {s : Bq} (h : s.Ok) (q : Bool) : ({ s with st := q } : Bq).Ok := ⟨h.bands, h.room, h.len, h.rng⟩
theorem Bq.Ok.flush {s : Bq} (h : s.Ok) : ({ s with L := [] } : Bq).Ok := ⟨h.bands, h.room, by have := h.room; show ((([] : List On).length : Nat) : Int) ≤ s.room; simp; omega, nofun⟩
/-- those of band k among the first j -/
def Bq.inBand (s : Bq) (k j : Nat) : List Pk := ((s.L.take j).filter fun o => o.b == (k : Int)).map fun o => o.p
def Bq.allTo (s : Bq) (k : Nat) : List Pk := (List.range k).flatMap fun b => s.inBand b s.L.length
/-- all, as they would be taken -/
def Bq.all (s : Bq) : List Pk := s.allTo s.bands.toNat
end Go.Proofs.Ytpljlpfoalcfmaa

namespace Go.Proofs.Ytpljlpfoalcfmaa
open Go.RowKit
set_option linter.unusedVariables false

theorem RowQ.rda {α : Type} {c : α → List Value} {k : Nat} {w : World} {v : Value} {L : List α} (h : RowQ c k w v L) (hk : ∀ a, (c a).length = k) (hm : L.length ≤ maxLen) : RdA c k w v L := by
  refine ⟨h.sl hk hm, ?_⟩
  rcases h with ⟨h, _⟩ | ⟨g, o, cap, hv, h1, _⟩
  · exact .inl h
  · exact .inr ⟨_, cap, hv, h1⟩
/-- an empty row in a block of its own -/
theorem RowQ.empty {α : Type} {c : α → List Value} {k : Nat} (w : World) (o : Obj) : RowQ c k (w.alloc o) (.slice (some ⟨w.heap.size, 0, none⟩) 0 0) ([] : List α) :=
  .inr ⟨_, 0, 0, rfl, Nat.le_refl _, Nat.zero_le _, by simp, fun j u h => by simp [rowG] at h, fun j hj => by omega⟩
end Go.Proofs.Ytpljlpfoalcfmaa

namespace Go.Proofs.Ytpljlpfoalcfmaa
open Go.RowKit
set_option linter.unusedVariables false

theorem info_on : (Try.prog.info? 60).map (fun i => (i.zero, i.size, i.bytes)) = some (some (.agg #[.int .i64 0, .int .i64 0, .int .i64 0, .int .i64 0, .string (ByteArray.mk #[]), .int .i64 0, .int .i64 0, .bool false]), 8, 72) := by kernel_rfl
theorem flat_on : FlatE Try.prog 42 60 8 72 := by
  obtain ⟨i0, hi, hz0, hz1, hz2⟩ := info_parts info_on
  exact ⟨Try.underlying42, i0, _, hi, hz0, hz1, hz2, rfl, by decide, by decide⟩
theorem onC_one : ∀ f : On, ∀ u ∈ onC f, u.oneCell' = true := fun f u hu => by
  simp only [onC, pkC, List.mem_cons, List.not_mem_nil, or_false] at hu
  rcases hu with rfl | rfl | rfl | rfl | rfl | rfl | rfl | rfl <;> rfl
theorem own_fresh {w w1 : World} {o : Obj} {v3 : Value} {w3 : World} (hb : Below w.heap.size w w1) (hk : Kept (OwnO (.slice (some ⟨w1.heap.size, 0, none⟩) 0 0)) (w1.alloc o) w3)
    (hg : Grows (OwnO (.slice (some ⟨w1.heap.size, 0, none⟩) 0 0)) (w1.alloc o) (OwnO v3)) : Below w.heap.size w w3 ∧ ∀ g, OwnO v3 g → w.heap.size ≤ g := by
  have own : ∀ k, OwnO (.slice (some ⟨w1.heap.size, 0, none⟩) 0 0) k → k = w1.heap.size := fun k h => by
    injection h with h
    exact h.symm
  have hs := hb.size
  have ha : Below w.heap.size w (w1.alloc o) := hb.trans (((Below.refl w1.heap.size w1).alloc (Nat.le_refl _) o).mono hs)
  refine ⟨hk.below ha ha.size (fun k h => by rw [own k h]; exact hs), fun g h => ?_⟩
  rcases hg g h with h1 | h1
  · rw [own g h1]; exact hs
  · exact Nat.le_trans ha.size h1
theorem own_app {w w3 w4 : World} {o : Obj} {v3 v4 : Value} (hb : Below w.heap.size w w3) (ho : ∀ g, OwnO v3 g → w.heap.size ≤ g) (hk : Kept (OwnO v3) (w3.alloc o) w4) (hg : Grows (OwnO v3) (w3.alloc o) (OwnO v4)) : Below w.heap.size w w4 ∧ ∀ g, OwnO v4 g → w.heap.size ≤ g := by
  have ha : Below w.heap.size w (w3.alloc o) := hb.trans (((Below.refl w3.heap.size w3).alloc (Nat.le_refl _) o).mono hb.size)
  refine ⟨hk.below ha ha.size ho, fun g h => ?_⟩
  rcases hg g h with h1 | h1
  · exact ho g h1
  · exact Nat.le_trans ha.size h1
theorem put_done {w w' : World} {b : Nat} {vl vl' : Value} {s : Bq} {L' : List On} (hm : BqM w b vl s) (hb : Below w.heap.size w w') (hq : RowQ onC 8 w' vl' L') (ho : ∀ g, OwnO vl' g → w.heap.size ≤ g) :
    Stp BqD (.pointer (some ⟨b, 0, none⟩)) (bqO b vl) w { s with L := L' } (w'.setCell ⟨b, 0, none⟩ vl') := by
  obtain ⟨h1, h2, h3⟩ := hm.setRow hb hq (fun g h => .inr (ho g h))
  exact ⟨_, ⟨b, _, rfl, rfl, h1⟩, h2, h3⟩
set_option maxHeartbeats 8000000 in
theorem xqput_v {v : Value} {s : Bq} {O : Nat → Prop} {p : Pk} {i e : Int} (w : World) (h : BqD w v s O) (hk : (s.put i p).2 = e) (hok : s.Ok) :
    Calls Try.prog 12 #[v, .int .i64 i, pkV p] w fun x w' => x = .returned (.int .i64 e) ∧ Stp BqD v O w (s.put i p).1 w' := by
  obtain ⟨b, vl, rfl, rfl, hm⟩ := h
  have HM := Lib.hid hm
  have HK := Lib.hid hk
  have HB0 := Lib.hid ((Below.refl w.heap.size w).alloc (Nat.le_refl _) (.cells #[.int .i64 p.f.i, .int .i64 p.f.n, .int .i64 p.f.l, .string p.f.d, .int .i64 p.fr, .int .i64 p.tag, .bool p.lp] 32))
  have HP0 := Lib.hid (BoxP.made w p)
  have HM0 := Lib.hid (HM.out.later HB0.out)
  have hlb : b < w.heap.size := heap_some_lt HM.out.box
  have HOK := Lib.hid hok
  obtain ⟨A, cap, hvl⟩ := hm.row.shape
  subst hvl
  obtain ⟨c0, c1, c2, c3⟩ := HM0.out.cells
  clear hm hk
  by_cases hf : (s.L.length : Int) = s.room
  · have HE : Hid (s.put i p = (s, 5)) := Lib.hid (by unfold Bq.put; rw [if_pos hf])
    rw [HE.out] at HK ⊢
    obtain rfl : 5 = e := HK.out
    have hfb : ((s.L.length : Int) == s.room) = true := by simp [hf]
    clear hf
    go_enter Try.func12, Try.ntmps12
    go_wp2
    go_quiet (fail)
    go_wp2
    go_ret
    exact ⟨rfl, HM.out.stp (below_drewN HB0.out _)⟩
  · have HE : Hid (s.put i p = ({ s with L := s.L ++ [⟨s.at_ i, p⟩] }, 0)) := Lib.hid (by unfold Bq.put; rw [if_neg hf])
    have HLL : Hid (s.L.length < 1000) := Lib.hid (by have := hok.room; have := hok.len; omega)
    have HBD0 := Lib.hid hok.bands
    rw [HE.out] at HK ⊢
    obtain rfl : 0 = e := HK.out
    have hfb : ((s.L.length : Int) == s.room) = false := by simp [hf]
    clear hf hok
    go_enter Try.func12, Try.ntmps12
    go_wp2
    go_quiet (fail)
    generalize hwd : (w.alloc _).drewN _ = wd
    have HBD : Hid (Below w.heap.size w wd) := Lib.hid (by rw [← hwd]; exact below_drewN HB0.out _)
    have HPD : Hid (BoxP wd w.heap.size p) := Lib.hid (by rw [← hwd]; exact HP0.out)
    clear hwd hfb c0 c1 c2 c3
    have HMD := Lib.hid (HM.out.later HBD.out)
    obtain ⟨c0, c1, c2, c3⟩ := HMD.out.cells
    have hlb2 : b < wd.heap.size := heap_some_lt HMD.out.box
    have HRD : Hid (RdA onC 8 (wd.alloc (.cells #[] 60)) (.slice A s.L.length cap) s.L) := Lib.hid
      ((HMD.out.row.later ((Below.refl _ _).alloc (Nat.le_refl _) _)).rda onC_len (by have := HLL.out; unfold maxLen; omega))
    by_cases hi : i < 0
    · have HA : Hid (s.at_ i = 0) := Lib.hid (by unfold Bq.at_; rw [if_pos hi])
      have d1 : decide (i < 0) = true := decide_eq_true hi
      have d2 : decide (s.bands ≤ 0) = false := decide_eq_false (by have := HBD0.out; omega)
      clear hi
      go_upto_region 8 with (at_builtin; refine wpList_qO (c := onC) (L := []) (M := s.L) flat_on onC_len onC_one rfl (.tmp 31) (.tmp 35) rfl (by simp [Act.eval]) (RowQ.empty _ _) (by simp [Act.eval]) HRD.out (by have := HLL.out; simp; omega) ?_; rintro v3 w3 hq3 hk3 hg3; have hq3 : RowQ onC 8 w3 v3 s.L := hq3; obtain ⟨A3, cap3, rfl⟩ := hq3.shape; have HQ3 := Lib.hid hq3; have HF3 := Lib.hid (own_fresh (Below.refl _ wd) hk3 hg3); clear hq3 hk3 hg3)
      clear c0 c1 c2 c3
      have HB3 := Lib.hid (fbelow_t HBD.out HF3.out.1)
      have HO3 : Hid (∀ g, OwnO (.slice A3 s.L.length cap3) g → w.heap.size ≤ g) := Lib.hid (fun g h => Nat.le_trans HBD.out.size (HF3.out.2 g h))
      have HM3 := Lib.hid (HM.out.later HB3.out)
      have HP3 := Lib.hid (HPD.out.later HF3.out.1)
      obtain ⟨c0, c1, c2, c3⟩ := HM3.out.cells
      obtain ⟨d0, d1, d2, d3, d4, d5, d6⟩ := HP3.out.cells
      have f0 := HM3.out.live 0
      have hlb3 : b < w3.heap.size := heap_some_lt HM3.out.box
      have hlp3 : w.heap.size < w3.heap.size := HP3.out.lt
      have HBL : Hid (Below w3.heap.size w3 (w3.alloc (.cells #[.int .i64 0, .int .i64 p.f.i, .int .i64 p.f.n, .int .i64 p.f.l, .string p.f.d, .int .i64 p.fr, .int .i64 p.tag, .bool p.lp] 60))) := Lib.hid ((Below.refl _ _).alloc (Nat.le_refl _) _)
      have HRQ := Lib.hid (HQ3.out.later HBL.out)
      have HR1 : Hid (RdA onC 8 (w3.alloc (.cells #[.int .i64 0, .int .i64 p.f.i, .int .i64 p.f.n, .int .i64 p.f.l, .string p.f.d, .int .i64 p.fr, .int .i64 p.tag, .bool p.lp] 60)) (.slice (some ⟨w3.heap.size, 0, none⟩) 1 1) [⟨0, p⟩]) := Lib.hid (RdA.one onC_len _ _ _ rfl rfl)
      go_wp2_with (at_builtin; refine wpList_qO (c := onC) (L := s.L) (M := [⟨0, p⟩]) flat_on onC_len onC_one rfl (.tmp 38) (.tmp 42) rfl (by rfl) HRQ.out (by rfl) HR1.out (by have := HLL.out; simp; omega) ?_; rintro v4 w4 hq4 hk4 hg4; obtain ⟨g4, o4, cap4, rfl⟩ := hq4.form; have HQ4 := Lib.hid hq4; have HF4 := Lib.hid (own_app HB3.out HO3.out hk4 hg4); clear hq4 hk4 hg4; have y0 := (HM.out.later HF4.out.1).cells.1; have y1 := (HM.out.later HF4.out.1).live 0)
      have HD := Lib.hid (put_done HM.out HF4.out.1 HQ4.out HF4.out.2)
      go_wp2
      go_ret
      rw [HA.out]
      exact ⟨rfl, HD.out⟩
    · by_cases hi2 : s.bands ≤ i
      · have HA : Hid (s.at_ i = s.bands - 1) := Lib.hid (by unfold Bq.at_; rw [if_neg hi, if_pos hi2])
        have d1 : decide (i < 0) = false := decide_eq_false hi
        have d2 : decide (s.bands ≤ i) = true := decide_eq_true hi2
        have b1 := HBD0.out.1
        have b2 := HBD0.out.2
        clear hi hi2
        go_upto_region 8 with (at_builtin; refine wpList_qO (c := onC) (L := []) (M := s.L) flat_on onC_len onC_one rfl (.tmp 31) (.tmp 35) rfl (by simp [Act.eval]) (RowQ.empty _ _) (by simp [Act.eval]) HRD.out (by have := HLL.out; simp; omega) ?_; rintro v3 w3 hq3 hk3 hg3; have hq3 : RowQ onC 8 w3 v3 s.L := hq3; obtain ⟨A3, cap3, rfl⟩ := hq3.shape; have HQ3 := Lib.hid hq3; have HF3 := Lib.hid (own_fresh (Below.refl _ wd) hk3 hg3); clear hq3 hk3 hg3)
        clear c0 c1 c2 c3
        have HB3 := Lib.hid (fbelow_t HBD.out HF3.out.1)
        have HO3 : Hid (∀ g, OwnO (.slice A3 s.L.length cap3) g → w.heap.size ≤ g) := Lib.hid (fun g h => Nat.le_trans HBD.out.size (HF3.out.2 g h))
        have HM3 := Lib.hid (HM.out.later HB3.out)
        have HP3 := Lib.hid (HPD.out.later HF3.out.1)
        obtain ⟨c0, c1, c2, c3⟩ := HM3.out.cells
        obtain ⟨d0, d1, d2, d3, d4, d5, d6⟩ := HP3.out.cells
        have f0 := HM3.out.live 0
        have hlb3 : b < w3.heap.size := heap_some_lt HM3.out.box
        have hlp3 : w.heap.size < w3.heap.size := HP3.out.lt
        have HBL : Hid (Below w3.heap.size w3 (w3.alloc (.cells #[.int .i64 (s.bands - 1), .int .i64 p.f.i, .int .i64 p.f.n, .int .i64 p.f.l, .string p.f.d, .int .i64 p.fr, .int .i64 p.tag, .bool p.lp] 60))) := Lib.hid ((Below.refl _ _).alloc (Nat.le_refl _) _)
        have HRQ := Lib.hid (HQ3.out.later HBL.out)
        have HR1 : Hid (RdA onC 8 (w3.alloc (.cells #[.int .i64 (s.bands - 1), .int .i64 p.f.i, .int .i64 p.f.n, .int .i64 p.f.l, .string p.f.d, .int .i64 p.fr, .int .i64 p.tag, .bool p.lp] 60)) (.slice (some ⟨w3.heap.size, 0, none⟩) 1 1) [⟨(s.bands - 1), p⟩]) := Lib.hid (RdA.one onC_len _ _ _ rfl rfl)
        go_wp2_with (at_builtin; refine wpList_qO (c := onC) (L := s.L) (M := [⟨(s.bands - 1), p⟩]) flat_on onC_len onC_one rfl (.tmp 38) (.tmp 42) rfl (by rfl) HRQ.out (by rfl) HR1.out (by have := HLL.out; simp; omega) ?_; rintro v4 w4 hq4 hk4 hg4; obtain ⟨g4, o4, cap4, rfl⟩ := hq4.form; have HQ4 := Lib.hid hq4; have HF4 := Lib.hid (own_app HB3.out HO3.out hk4 hg4); clear hq4 hk4 hg4; have y0 := (HM.out.later HF4.out.1).cells.1; have y1 := (HM.out.later HF4.out.1).live 0)
        have HD := Lib.hid (put_done HM.out HF4.out.1 HQ4.out HF4.out.2)
        go_wp2
        go_ret
        rw [HA.out]
        exact ⟨rfl, HD.out⟩
      · have HA : Hid (s.at_ i = i) := Lib.hid (by unfold Bq.at_; rw [if_neg hi, if_neg hi2])
        have d1 : decide (i < 0) = false := decide_eq_false hi
        have d2 : decide (s.bands ≤ i) = false := decide_eq_false hi2
        clear hi hi2
        go_upto_region 8 with (at_builtin; refine wpList_qO (c := onC) (L := []) (M := s.L) flat_on onC_len onC_one rfl (.tmp 31) (.tmp 35) rfl (by simp [Act.eval]) (RowQ.empty _ _) (by simp [Act.eval]) HRD.out (by have := HLL.out; simp; omega) ?_; rintro v3 w3 hq3 hk3 hg3; have hq3 : RowQ onC 8 w3 v3 s.L := hq3; obtain ⟨A3, cap3, rfl⟩ := hq3.shape; have HQ3 := Lib.hid hq3; have HF3 := Lib.hid (own_fresh (Below.refl _ wd) hk3 hg3); clear hq3 hk3 hg3)
        clear c0 c1 c2 c3
        have HB3 := Lib.hid (fbelow_t HBD.out HF3.out.1)
        have HO3 : Hid (∀ g, OwnO (.slice A3 s.L.length cap3) g → w.heap.size ≤ g) := Lib.hid (fun g h => Nat.le_trans HBD.out.size (HF3.out.2 g h))
        have HM3 := Lib.hid (HM.out.later HB3.out)
        have HP3 := Lib.hid (HPD.out.later HF3.out.1)
        obtain ⟨c0, c1, c2, c3⟩ := HM3.out.cells
        obtain ⟨d0, d1, d2, d3, d4, d5, d6⟩ := HP3.out.cells
        have f0 := HM3.out.live 0
        have hlb3 : b < w3.heap.size := heap_some_lt HM3.out.box
        have hlp3 : w.heap.size < w3.heap.size := HP3.out.lt
        have HBL : Hid (Below w3.heap.size w3 (w3.alloc (.cells #[.int .i64 i, .int .i64 p.f.i, .int .i64 p.f.n, .int .i64 p.f.l, .string p.f.d, .int .i64 p.fr, .int .i64 p.tag, .bool p.lp] 60))) := Lib.hid ((Below.refl _ _).alloc (Nat.le_refl _) _)
        have HRQ := Lib.hid (HQ3.out.later HBL.out)
        have HR1 : Hid (RdA onC 8 (w3.alloc (.cells #[.int .i64 i, .int .i64 p.f.i, .int .i64 p.f.n, .int .i64 p.f.l, .string p.f.d, .int .i64 p.fr, .int .i64 p.tag, .bool p.lp] 60)) (.slice (some ⟨w3.heap.size, 0, none⟩) 1 1) [⟨i, p⟩]) := Lib.hid (RdA.one onC_len _ _ _ rfl rfl)
        go_wp2_with (at_builtin; refine wpList_qO (c := onC) (L := s.L) (M := [⟨i, p⟩]) flat_on onC_len onC_one rfl (.tmp 38) (.tmp 42) rfl (by rfl) HRQ.out (by rfl) HR1.out (by have := HLL.out; simp; omega) ?_; rintro v4 w4 hq4 hk4 hg4; obtain ⟨g4, o4, cap4, rfl⟩ := hq4.form; have HQ4 := Lib.hid hq4; have HF4 := Lib.hid (own_app HB3.out HO3.out hk4 hg4); clear hq4 hk4 hg4; have y0 := (HM.out.later HF4.out.1).cells.1; have y1 := (HM.out.later HF4.out.1).live 0)
        have HD := Lib.hid (put_done HM.out HF4.out.1 HQ4.out HF4.out.2)
        go_wp2
        go_ret
        rw [HA.out]
        exact ⟨rfl, HD.out⟩
end Go.Proofs.Ytpljlpfoalcfmaa

namespace Go.Proofs.Ytpljlpfoalcfmaa
open Go.RowKit
set_option linter.unusedVariables false

def fI : Option Nat → Int
  | none => -1
  | some i => i
theorem Bq.first_step_none {s : Bq} {k : Nat} (h : s.first k = none) : s.first (k + 1) = some k := by unfold Bq.first; rw [h]
theorem Bq.first_step_lt {s : Bq} {k i : Nat} (h : s.first k = some i) (hl : (s.L.getD k ⟨0, pk0⟩).b < (s.L.getD i ⟨0, pk0⟩).b) : s.first (k + 1) = some k := by unfold Bq.first; rw [h]; exact if_pos hl
theorem Bq.first_step_ge {s : Bq} {k i : Nat} (h : s.first k = some i) (hl : ¬ (s.L.getD k ⟨0, pk0⟩).b < (s.L.getD i ⟨0, pk0⟩).b) : s.first (k + 1) = some i := by unfold Bq.first; rw [h]; exact if_neg hl
theorem BqM.band {w : World} {b g o cap n : Nat} {s : Bq} (h : BqM w b (.slice (some ⟨g, o, none⟩) n cap) s) (hl : s.L.length ≤ 1000) {k : Nat} (hk : k < s.L.length) : w.cell? ⟨g, o + k * 8, none⟩ = some (.int .i64 (s.L.getD k ⟨0, pk0⟩).b) := by
  obtain ⟨x, c, h1, h2, h3⟩ := h.one hl hk
  injection h1 with h1 _ _
  injection h1 with h1
  subst h1
  have := h3 0 _ rfl
  rw [List.getD_eq_getElem?_getD, List.getElem?_eq_getElem hk]
  rw [qaddr, qaddr, Nat.add_zero] at this
  exact this
theorem RowQ.formN {α : Type} {c : α → List Value} {k : Nat} {w : World} {v : Value} {L : List α} (h : RowQ c k w v L) (hl : 0 < L.length) : ∃ g o cap, v = .slice (some ⟨g, o, none⟩) L.length cap := by
  rcases h with ⟨_, h⟩ | ⟨g, o, cap, hv, _⟩
  · subst h; simp at hl
  · exact ⟨g, o, cap, hv⟩
set_option maxHeartbeats 4000000 in
theorem xqfirst_v {b : Nat} {vl : Value} {s : Bq} {r : Int} (w : World) (hm : BqM w b vl s) (hl : s.L.length ≤ 1000) (hr : fI (s.first s.L.length) = r) :
    Calls Try.prog 28 #[.pointer (some ⟨b, 0, none⟩)] w fun x w' => x = .returned (.int .i64 r) ∧ Below w.heap.size w w' := by
  have HM := Lib.hid hm
  have HR := Lib.hid hr
  have HL := Lib.hid hl
  by_cases h0 : s.L.length = 0
  · have HN : Hid (r = -1) := Lib.hid (by rw [← hr, h0]; rfl)
    obtain ⟨A, cap, hvl⟩ := hm.row.shape
    rw [h0] at hvl
    subst hvl
    obtain ⟨c0, c1, c2, c3⟩ := hm.cells
    clear hm hr hl h0
    go_enter Try.func28, Try.ntmps28
    go_wp2
    go_loop [4, 3] (fun i t => i = .int .i64 0 ∧ t = .int .i64 (-1)) (fun i t => 1)
    case atStart => exact ⟨rfl, rfl⟩
    case round =>
      obtain ⟨rfl, rfl⟩ := hrel
      go_wp2
      go_ret
      rw [HN.out]
      exact ⟨rfl, Below.refl _ _⟩
  · obtain ⟨g, o, cap, hvl⟩ := hm.row.formN (by omega)
    have h1 : 0 < s.L.length := by omega
    subst hvl
    clear hm hr hl h0
    go_enter Try.func28, Try.ntmps28
    go_wp2
    go_loopw [4, 3] (fun i t wr => ∃ k : Nat, k ≤ s.L.length ∧ i = .int .i64 k ∧ t = .int .i64 (fI (s.first k)) ∧ Hid (Below w.heap.size w wr)) (fun i _ _ => s.L.length - (intOf i).toNat)
    case atStart => exact ⟨0, Nat.zero_le _, rfl, rfl, Lib.hid (Below.refl _ _)⟩
    case round =>
      obtain ⟨k, hk, rfl, rfl, HB⟩ := hrel
      have HMR := Lib.hid (HM.out.later HB.out)
      obtain ⟨c0, c1, c2, c3⟩ := HMR.out.cells
      have hL := HL.out
      by_cases hlt : k < s.L.length
      · have hd : decide ((k : Int) < (s.L.length : Int)) = true := decide_eq_true (by omega)
        have m0 := HMR.out.band HL.out hlt
        obtain ⟨f, hf⟩ : ∃ f, s.first k = f := ⟨_, rfl⟩
        have HF := Lib.hid hf
        rw [hf]
        clear hf
        cases f with
        | none =>
          have HS := Lib.hid (Bq.first_step_none HF.out)
          simp only [fI]
          have hd2 : decide ((-1 : Int) < 0) = true := rfl
          go_wp2
          go_quiet (fail)
          go_wp2
          go_roundw
          case rel => exact ⟨k + 1, by omega, by go_num, by rw [HS.out], Lib.hid (below_drewN HB.out _)⟩
          case measure => simp [intOf]; omega
        | some j =>
          have hj : j < s.L.length := by have := Bq.first_lt HF.out; omega
          have n0 := HMR.out.band HL.out hj
          simp only [fI]
          have hd2 : decide ((j : Int) < 0) = false := decide_eq_false (by omega)
          by_cases hlq : (s.L.getD k ⟨0, pk0⟩).b < (s.L.getD j ⟨0, pk0⟩).b
          · have HS := Lib.hid (Bq.first_step_lt HF.out hlq)
            have hd3 : decide ((s.L.getD k ⟨0, pk0⟩).b < (s.L.getD j ⟨0, pk0⟩).b) = true := decide_eq_true hlq
            generalize (s.L.getD k ⟨0, pk0⟩).b = x at *
            generalize (s.L.getD j ⟨0, pk0⟩).b = y at *
            clear hlq
            go_wp2
            go_quiet (fail)
            go_wp2
            go_roundw
            case rel => exact ⟨k + 1, by omega, by go_num, by rw [HS.out], Lib.hid (below_drewN HB.out _)⟩
            case measure => simp [intOf]; omega
          · have HS := Lib.hid (Bq.first_step_ge HF.out hlq)
            have hd3 : decide ((s.L.getD k ⟨0, pk0⟩).b < (s.L.getD j ⟨0, pk0⟩).b) = false := decide_eq_false hlq
            generalize (s.L.getD k ⟨0, pk0⟩).b = x at *
            generalize (s.L.getD j ⟨0, pk0⟩).b = y at *
            clear hlq
            go_wp2
            go_quiet (fail)
            go_wp2
            go_roundw
            case rel => exact ⟨k + 1, by omega, by go_num, by rw [HS.out], Lib.hid (below_drewN HB.out _)⟩
            case measure => simp [intOf]; omega
      · obtain rfl : k = s.L.length := by omega
        go_wp2
        go_ret
        rw [HR.out]
        exact ⟨rfl, HB.out⟩
end Go.Proofs.Ytpljlpfoalcfmaa
