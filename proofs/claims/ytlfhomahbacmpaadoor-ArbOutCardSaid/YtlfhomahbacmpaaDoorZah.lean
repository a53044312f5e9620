/- Stuff: boxes that closures write; contracts of other, runs and what it makes, and of walk, over whatever function value. Stuff: contracts of Right, Turn, Stuff, each with what it hands to walk. Of no program: a row of bytes in a block of the call's own, whoever made it ('[]byte(s)' too): appended to, written into, read. Crc: the plain numbers: a check bit by bit; that it is linear, that its own bits leave nothing, and that what is turned within its width is found. No program is meant here. Crc: bits as numbers and as texts; contracts of the document's Bits, Number, Right, Add. -/
import Derived.Test.YtlfhomahbacmpaaDoorZag
import Derived.Lib.OthersKept
import Derived.Lib.Walk
import Derived.Lib.TrimU
import Derived.Deep.LoopGhost
import Derived.BigCall
import Derived.Laws.EntriesVeiled
import Derived.Deep.AppendSrc
import Derived.Test.YtlfhomahbacmpaaDoorRows
import Derived.WalkKit
import Derived.Test.YtlfhomahbacmpaaDoorZab
namespace Go.Proofs.YtlfhomahbacmpaaDoor
open Go.RowKit
set_option linter.unusedVariables false

/-! ### boxes -/
def Box (w : World) (k : Nat) (v : Value) (t : TypeId) : Prop := w.heap[k]? = some (.cells #[v] t (0, 0))
theorem Box.cell {w : World} {k : Nat} {v : Value} {t : TypeId} (h : Box w k v t) : w.cell? ⟨k, 0, none⟩ = some v := by rw [Lib.cell_of_heap h]; rfl
theorem Box.live {w : World} {k : Nat} {v : Value} {t : TypeId} (h : Box w k v t) : w.frozen? ⟨k, 0, none⟩ = false := Lib.frozen_of_heap h 0
theorem Box.lt {w : World} {k : Nat} {v : Value} {t : TypeId} (h : Box w k v t) : k < w.heap.size := (Array.getElem?_eq_some_iff.1 h).1
theorem Box.ne {w : World} {k l : Nat} {v u : Value} {t r : TypeId} (h : Box w k v t) (h' : Box w l u r) (ht : t ≠ r) : k ≠ l := by
  intro e
  subst e
  unfold Box at h h'
  rw [h] at h'
  cases h'
  exact ht rfl
theorem Box.set {w : World} {k : Nat} {v : Value} {t : TypeId} (h : Box w k v t) (u : Value) : Box (w.setCell ⟨k, 0, none⟩ u) k u t := by
  unfold Box
  rw [heap_setCell_same w k 0 #[v] t u h]
  rfl
theorem Box.other {w : World} {k : Nat} {v : Value} {t : TypeId} (h : Box w k v t) {l : Nat} (hl : k ≠ l) (u : Value) : Box (w.setCell ⟨l, 0, none⟩ u) k v t := by
  unfold Box
  rw [Below.heap_setCell _ _ _ _ hl]
  exact h
theorem Box.below {w w' : World} {k B : Nat} {v : Value} {t : TypeId} (h : Box w k v t) (hb : Below B w w') (hk : k < B) : Box w' k v t := (hb.block k hk).trans h
theorem Box.made (w : World) (v : Value) (t : TypeId) {k : Nat} (hk : w.heap.size = k) : Box (w.alloc (.cells #[v] t)) k v t := by
  subst hk
  unfold Box World.alloc
  simp
theorem Box.iterAt {w : World} {k i p q : Nat} {s : ByteArray} {v : Value} {t : TypeId} (h : Box w k v t) (hi : w.heap[i]? = some (.stringIter s p)) : Box (w.iterAt i s q) k v t := by
  refine (Lib.iterAt_other w i k s q ?_).trans h
  intro e
  subst e
  unfold Box at h
  rw [h] at hi
  cases hi
theorem Box.kept {w w' : World} {k b : Nat} {v : Value} {t e : TypeId} (h : Box w k v t) (hk : Lib.OthersKept e (some b) w w') (hb : k ≠ b) (ht : t ≠ e) : Box w' k v t :=
  hk k _ h (fun e1 => hb (Option.some.inj e1)) (fun c fz e1 => by cases e1; exact ht rfl)

/-- a string's iterator in block k stays as it is -/
def KeepsI (k : Nat) (w w' : World) : Prop := ∀ s p, w.heap[k]? = some (.stringIter s p) → w'.heap[k]? = some (.stringIter s p)
theorem KeepsI.refl (k : Nat) (w : World) : KeepsI k w w := fun _ _ h => h
theorem KeepsI.trans {k : Nat} {a b c : World} (h : KeepsI k a b) (h' : KeepsI k b c) : KeepsI k a c := fun s p hp => h' s p (h s p hp)
theorem KeepsI.kept {k b : Nat} {e : TypeId} {w w' : World} {o : Obj} (h : Lib.OthersKept e (some b) w w') (hb : w.heap[b]? = some o) (ho : ∀ s p, o ≠ .stringIter s p) : KeepsI k w w' := fun s p hp =>
  h.iter hp (by rintro rfl; rw [hb] at hp; exact ho s p (Option.some.inj hp))

/-- of two boxes and of nothing else the world may have turned -/
structure Upd (l m : Nat) (w w' : World) : Prop where
  os : w'.os = w.os
  tape : w'.tape = w.tape
  output : w'.output = w.output
  size : w'.heap.size = w.heap.size
  block : ∀ k, k ≠ l → k ≠ m → w'.heap[k]? = w.heap[k]?
theorem Upd.refl (l m : Nat) (w : World) : Upd l m w w := ⟨rfl, rfl, rfl, rfl, fun _ _ _ => rfl⟩
theorem Upd.trans {l m : Nat} {a b c : World} (h : Upd l m a b) (k : Upd l m b c) : Upd l m a c :=
  ⟨k.os.trans h.os, k.tape.trans h.tape, k.output.trans h.output, k.size.trans h.size, fun i hi hj => (k.block i hi hj).trans (h.block i hi hj)⟩
theorem Upd.setL (l m : Nat) (w : World) (u : Value) : Upd l m w (w.setCell ⟨l, 0, none⟩ u) :=
  ⟨rfl, rfl, rfl, by simp [World.setCell], fun k hk _ => Below.heap_setCell _ _ _ _ hk⟩
theorem Upd.setM (l m : Nat) (w : World) (u : Value) : Upd l m w (w.setCell ⟨m, 0, none⟩ u) :=
  ⟨rfl, rfl, rfl, by simp [World.setCell], fun k _ hk => Below.heap_setCell _ _ _ _ hk⟩
theorem Upd.below {l m B : Nat} {a w w' : World} (h : Below B a w) (u : Upd l m w w') (hl : B ≤ l) (hm : B ≤ m) : Below B a w' :=
  h.trans ⟨u.os, u.tape, u.output, by rw [u.size]; exact Nat.le_refl _, fun k hk => u.block k (by omega) (by omega)⟩
theorem Upd.box {l m k : Nat} {w w' : World} {v : Value} {t : TypeId} (u : Upd l m w w') (h : Box w k v t) (hl : k ≠ l) (hm : k ≠ m) : Box w' k v t := (u.block k hl hm).trans h
theorem Upd.keepsI {l m : Nat} {w w' : World} {v v' : Value} {t t' : TypeId} (u : Upd l m w w') (hl : Box w l v t) (hm : Box w m v' t') (k : Nat) : KeepsI k w w' := by
  intro s p hp
  rw [u.block k (by rintro rfl; unfold Box at hl; rw [hl] at hp; cases hp) (by rintro rfl; unfold Box at hm; rw [hm] at hp; cases hp)]
  exact hp
/-- a builder stays one while boxes of other types are written -/
theorem Upd.builder {T e t t' : TypeId} {B b l m : Nat} {bs : List Value} {w w' : World} {v v' : Value} (u : Upd l m w w') (h : Lib.IsBuilderF T e B b bs w) (hl : Box w l v t) (hm : Box w m v' t')
    (h1 : t ≠ T) (h2 : t ≠ e) (h3 : t' ≠ T) (h4 : t' ≠ e) : Lib.IsBuilderF T e B b bs w' := by
  have key : ∀ {k : Nat} {c : Array Value} {ty : TypeId} {fz : Nat × Nat}, w.heap[k]? = some (.cells c ty fz) → t ≠ ty → t' ≠ ty → w'.heap[k]? = some (.cells c ty fz) := by
    intro k c ty fz hk ht ht'
    rw [u.block k (by rintro rfl; unfold Box at hl; rw [hl] at hk; cases hk; exact ht rfl) (by rintro rfl; unfold Box at hm; rw [hm] at hk; cases hk; exact ht' rfl)]
    exact hk
  have one : ∀ p, Lib.BuilderAtF T e B b p bs w → Lib.BuilderAtF T e B b p bs w' := by
    rintro p ⟨hB, v, hb, hown, hne⟩
    refine ⟨hB, v, key hb h1 h3, ⟨hown.1, ?_⟩, hne⟩
    rcases hown.2 with hn | ⟨g, cap, cur, fz, hv, hbg, hg, rest⟩
    · exact .inl hn
    · exact .inr ⟨g, cap, cur, fz, hv, hbg, key hg h2 h4, rest⟩
  exact h.elim (fun x => .inl (one _ x)) (fun x => .inr (one _ x))
theorem bld_heap {T e : TypeId} {B b : Nat} {bs : List Value} {w : World} (h : Lib.IsBuilderF T e B b bs w) : B ≤ b ∧ ∃ p v, w.heap[b]? = some (.cells #[p, v] T (0, 0)) := by
  rcases h with ⟨h1, v, h2, _⟩ | ⟨h1, v, h2, _⟩
  · exact ⟨h1, _, _, h2⟩
  · exact ⟨h1, _, _, h2⟩
theorem Box.ne_bld {T e t : TypeId} {B b k : Nat} {bs : List Value} {w : World} {v : Value} (h : Box w k v t) (hb : Lib.IsBuilderF T e B b bs w) : k ≠ b := by
  obtain ⟨_, p, u, h2⟩ := bld_heap hb
  rintro rfl
  unfold Box at h
  rw [h] at h2
  cases h2
theorem bld_keepsI {T e : TypeId} {B b : Nat} {bs : List Value} {w w' : World} (hb : Lib.IsBuilderF T e B b bs w) (h : Lib.OthersKept e (some b) w w') (k : Nat) : KeepsI k w w' := by
  obtain ⟨_, p, u, h2⟩ := bld_heap hb
  exact KeepsI.kept h h2 (fun _ _ e => by cases e)

/-! ### other -/
/-! ### runs -/
/-! ### walk -/
def WalkPost (s : ByteArray) (Inv Fin : Nat → World → Prop) (e : Ending) (w : World) : Prop :=
  (e = .returned (.int .i64 (-1)) ∧ ∃ pos, ¬ pos < s.size ∧ Inv pos w) ∨ ∃ pos : Nat, pos < s.size ∧ e = .returned (.int .i64 pos) ∧ Fin pos w
def StepPost (k : Nat) (w1 : World) (Yes No : World → Prop) (e : Ending) (w2 : World) : Prop :=
  KeepsI k w1 w2 ∧ ((e = .returned (.bool true) ∧ Yes w2) ∨ (e = .returned (.bool false) ∧ No w2))

end Go.Proofs.YtlfhomahbacmpaaDoor

namespace Go.Proofs.YtlfhomahbacmpaaDoor
open Go.RowKit
set_option linter.unusedVariables false

/-! ### runes of bits -/
theorem rune_bit {s : ByteArray} {k : Nat} (hk : k < s.size) (hb : isBit (bt s k) = true) : ((Utf8.decode s k).1 : Int) = bt s k ∧ (Utf8.decode s k).2 = 1 := by
  have e := bt_eq s k hk
  have ha : (s[k]'hk).toNat < 128 := by
    rw [isBit_iff] at hb
    omega
  rw [decode_ascii s k hk ha]
  exact ⟨e, rfl⟩
theorem rune_not {s : ByteArray} {k : Nat} (hk : k < s.size) (hb : isBit (bt s k) = false) : isBit ((Utf8.decode s k).1 : Int) = false := by
  have e := bt_eq s k hk
  by_cases ha : (s[k]'hk).toNat < 128
  · rw [decode_ascii s k hk ha]
    rw [← e] at hb
    exact hb
  · have h := (decode_high s k hk (by omega)).1
    unfold isBit
    simp
    omega
theorem bits_step {s : ByteArray} {k : Nat} (hk : k < s.size) (h : bitsB ((byL s).take k) = true) (hb : isBit (bt s k) = true) : bitsB ((byL s).take (k + 1)) = true := by
  rw [byL_take hk, bitsB_app, h]
  simp [bitsB, hb]
theorem bits_not {s : ByteArray} {k : Nat} (hk : k < s.size) (hb : isBit (bt s k) = false) : bitsB (byL s) = false := by
  rw [← List.take_append_drop (k + 1) (byL s), bitsB_app, byL_take hk, bitsB_app]
  simp [bitsB, hb]
theorem bits_all {s : ByteArray} {k : Nat} (hk : ¬ k < s.size) (h : bitsB ((byL s).take k) = true) : bitsB (byL s) = true := by
  rwa [List.take_of_length_le (by rw [byL_len]; omega)] at h
theorem take_all {s : ByteArray} {k : Nat} (hk : ¬ k < s.size) : (byL s).take k = byL s := List.take_of_length_le (by rw [byL_len]; omega)
theorem rcells {x : Int} (hx : isBit x = true) : Lib.runeCells x = [.int .u8 x] := by
  rw [isBit_iff] at hx
  rcases hx with rfl | rfl <;> rfl
theorem bcells {O : List Int} (h : isBy O) : O.map (Value.int .u8) = Lib.byteCells (strOfNums O).data.toList := by
  have e := byL_nums h
  unfold byL at e
  unfold Lib.byteCells
  conv => lhs; rw [← e]
  rw [List.map_map]
  rfl
theorem str_list (s : ByteArray) : (⟨s.data.toList.toArray⟩ : ByteArray) = s := by
  cases s
  simp

/-! ### Right -/
def rInv (s : ByteArray) (w : World) (k : Nat) (w1 : World) : Prop := bitsB ((byL s).take k) = true ∧ Below w.heap.size w w1
def rFin (s : ByteArray) (w : World) (k : Nat) (w1 : World) : Prop := bitsB (byL s) = false ∧ Below w.heap.size w w1
theorem below_iter (w : World) (s : ByteArray) : Below w.heap.size w (w.iter s 0) := (Below.refl _ w).alloc (Nat.le_refl _) _
/-! ### Turn -/
structure OutSt (B b : Nat) (O : List Int) (w0 w : World) : Prop where
  below : Below B w0 w
  bld : Lib.IsBuilderF 61 5 B b (O.map (Value.int .u8)) w
  le : B ≤ w0.heap.size
theorem OutSt.iterAt {B b i p q : Nat} {O : List Int} {w0 w : World} {s : ByteArray} (h : OutSt B b O w0 w) (hi : w.heap[i]? = some (.stringIter s p)) (hB : B ≤ i) : OutSt B b O w0 (w.iterAt i s q) :=
  ⟨Lib.below_iterAt h.below hB s q, h.bld.iterAt hi q, h.le⟩
theorem OutSt.hB {B b : Nat} {O : List Int} {w0 w : World} (h : OutSt B b O w0 w) : B ≤ w.heap.size := Nat.le_trans h.le h.below.size
theorem bldF_below {T e : TypeId} {B b : Nat} {bs : List Value} {w w' : World} (h : Lib.IsBuilderF T e B b bs w) (hb : Below w.heap.size w w') : Lib.IsBuilderF T e B b bs w' := by
  have key : ∀ {k : Nat} {o : Obj}, w.heap[k]? = some o → w'.heap[k]? = some o := fun hk => (hb.block _ (Array.getElem?_eq_some_iff.1 hk).1).trans hk
  have one : ∀ p, Lib.BuilderAtF T e B b p bs w → Lib.BuilderAtF T e B b p bs w' := by
    rintro p ⟨hB, v, hb, hown, hne⟩
    refine ⟨hB, v, key hb, ⟨hown.1, ?_⟩, hne⟩
    rcases hown.2 with hn | ⟨g, cap, cur, fz, hv, hbg, hg, rest⟩
    · exact .inl hn
    · exact .inr ⟨g, cap, cur, fz, hv, hbg, key hg, rest⟩
  exact h.elim (fun x => .inl (one _ x)) (fun x => .inr (one _ x))
theorem OutSt.later {B b : Nat} {O : List Int} {w0 w w1 : World} (h : OutSt B b O w0 w) (hb : Below w.heap.size w w1) : OutSt B b O w0 w1 := ⟨h.below.trans (hb.mono h.hB), bldF_below h.bld hb, h.le⟩

def tInv (s : ByteArray) (B b : Nat) (w0 : World) (k : Nat) (w1 : World) : Prop := k ≤ s.size ∧ bitsB ((byL s).take k) = true ∧ OutSt B b (((byL s).take k).map oth) w0 w1
def tFin (s : ByteArray) (B : Nat) (w0 : World) (k : Nat) (w1 : World) : Prop := bitsB (byL s) = false ∧ Below B w0 w1
def turnS (L : List Int) : ByteArray := if bitsB L then strOfNums (L.map oth) else ByteArray.mk #[]
theorem bits_map_by {L : List Int} (h : bitsB L = true) : isBy (L.map oth) := isBy_bits (turn_bits h)
/-! ### Stuff -/
theorem Box.alloc {w : World} {k : Nat} {v : Value} {t : TypeId} (h : Box w k v t) (o : Obj) : Box (w.alloc o) k v t := h.below (((Below.refl w.heap.size w)).alloc (Nat.le_refl _) o) h.lt
theorem OutSt.alloc {B b : Nat} {O : List Int} {w0 w : World} (h : OutSt B b O w0 w) (o : Obj) : OutSt B b O w0 (w.alloc o) := ⟨h.below.alloc h.hB _, h.bld.alloc _, h.le⟩
end Go.Proofs.YtlfhomahbacmpaaDoor

namespace Go.Proofs.YtlfhomahbacmpaaDoor
open Go.RowKit
set_option linter.unusedVariables false

section
variable {P : Program}
/-- v is a row of the bytes L in a block from B on; all its places can be written -/
def FreeR (B : Nat) (w : World) (v : Value) (L : List Int) : Prop :=
  ∃ g c, v = .slice (some ⟨g, 0, none⟩) L.length c ∧ B ≤ g ∧ g < w.heap.size ∧ L.length ≤ c ∧ c ≤ maxLen ∧ (∀ j, j < L.length → w.cell? ⟨g, j, none⟩ = some (.int .u8 (L.getD j 0))) ∧ ∀ j, j < c → (w.cell? ⟨g, j, none⟩).isSome = true ∧ w.frozen? ⟨g, j, none⟩ = false
theorem getD_app_left {L M : List Int} {j : Nat} (h : j < L.length) : (L ++ M).getD j 0 = L.getD j 0 := by
  rw [List.getD_eq_getElem?_getD, List.getElem?_append_left h, List.getD_eq_getElem?_getD]
theorem getD_app_at (L : List Int) (b : Int) : (L ++ [b]).getD L.length 0 = b := by
  rw [List.getD_eq_getElem?_getD, List.getElem?_append_right (Nat.le_refl _)]; simp

/-- '[]byte(s)' -/
theorem free_bytes (w : World) (e : TypeId) (s : ByteArray) (hs : s.size ≤ maxLen) : FreeR w.heap.size (Lib.bytesWorld w e s) (.slice (some ⟨w.heap.size, 0, none⟩) s.size (grownCap w s.size 0 e)) (byL s) := by
  have hge := grownCap_ge w s.size 0 e
  have hsz : (Lib.bytesCells w e s).size = grownCap w s.size 0 e := by
    unfold Lib.bytesCells
    rw [Array.size_append, Array.size_map, Array.size_replicate]
    show s.size + _ = _
    omega
  refine ⟨w.heap.size, grownCap w s.size 0 e, by rw [byL_len], Nat.le_refl _, by rw [Lib.bytesWorld_size]; omega, by rw [byL_len]; exact hge, grownCap_le_maxLen w s.size 0 e hs, fun j hj => ?_, fun j hj => ?_⟩
  · rw [byL_len] at hj
    rw [Lib.bytesWorld_cell w e s j hj, byL_getD]
    unfold bt
    simp [List.getD_eq_getElem?_getD]
  · refine ⟨?_, ?_⟩
    · unfold World.cell?
      simp only [Lib.bytesWorld_at_new]
      rw [Array.getElem?_eq_getElem (by omega)]
      rfl
    · unfold World.frozen?
      simp only [Lib.bytesWorld_at_new]
      rw [hsz]
      simp; omega

/-- what a loop that appends to such a row knows -/
def GathR (B : Nat) (w : World) (v : Value) (L : List Int) (wr : World) : Prop := FreeR B wr v L ∧ Below B w wr ∧ B ≤ wr.heap.size
theorem free_later {B : Nat} {w w1 : World} {v : Value} {L : List Int} (h : FreeR B w v L) (hb : Below w.heap.size w w1) : FreeR B w1 v L := by
  obtain ⟨g, c, hv, hB, hg, hl, hm, h1, h2⟩ := h
  exact ⟨g, c, hv, hB, Nat.lt_of_lt_of_le hg hb.size, hl, hm, fun j hj => (hb.cell (p := ⟨g, j, none⟩) hg).trans (h1 j hj), fun j hj => ⟨by rw [hb.cell (p := ⟨g, j, none⟩) hg]; exact (h2 j hj).1, (hb.frozen (p := ⟨g, j, none⟩) hg).trans (h2 j hj).2⟩⟩
theorem GathR.later {B : Nat} {w wr w1 : World} {v : Value} {L : List Int} (h : GathR B w v L wr) (hb : Below wr.heap.size wr w1) : GathR B w v L w1 :=
  ⟨free_later h.1 hb, h.2.1.trans (hb.mono h.2.2), Nat.le_trans h.2.2 hb.size⟩

theorem run_append_free (t tx ty e : TypeId) (i : TypeInfo) (ht : P.underlying t = some (.slice e)) (hi : P.info? e = some i) (hz : i.zero = some (.int .u8 0)) (hsize : i.size = 1) (hby : i.bytes = 1)
    {B : Nat} {w : World} {v : Value} {L : List Int} (h : FreeR B w v L) (x : Value) (b : Int) (hs : Src P 1 tx x 1 [.int .u8 b] w) (hB : B ≤ w.heap.size) (hlen : L.length + 1 ≤ 1000000) :
    ∃ v' w', (Builtin.append_ #[t, tx] ty #[v, x]).run P w = .ok v' w' ∧ FreeR B w' v' (L ++ [b]) ∧ Below B w w' := by
  obtain ⟨g, c, rfl, hBg, hg, hl, hm, h1, h2⟩ := h
  have hs' : Src P i.size tx x 1 [.int .u8 b] w := by rw [hsize]; exact hs
  by_cases hroom : L.length + 1 ≤ c
  · have hr := run_append_room_src (P := P) w t tx ty e i ht hi g 0 L.length c x 1 [.int .u8 b] hs' hroom
      (fun j hj => by
        have : j = 0 := by simpa using hj
        subst this
        rw [hsize, Nat.zero_add, Nat.mul_one, Nat.add_zero]
        exact (h2 _ (by omega)).1)
      (fun j hj => by
        have : j = 0 := by simpa using hj
        subst this
        rw [hsize, Nat.zero_add, Nat.mul_one, Nat.add_zero]
        exact (h2 _ (by omega)).2)
    rw [hsize, Nat.zero_add, Nat.mul_one] at hr
    refine ⟨_, _, hr, ⟨g, c, by simp, hBg, by simp [World.setCells, World.setCell]; exact hg, by simp; exact hroom, hm, fun j hj => ?_, fun j hj => ⟨?_, ?_⟩⟩, ?_⟩
    · show (w.setCell ⟨g, L.length, none⟩ (.int .u8 b)).cell? ⟨g, j, none⟩ = _
      simp only [List.length_append, List.length_cons, List.length_nil] at hj
      by_cases hjl : j = L.length
      · subst hjl
        rw [World.cell?_setCell_same' _ _ _ (h2 _ (by omega)).1, getD_app_at]
      · rw [World.cell?_setCell_other _ _ _ _ (by intro e; injection e; omega), h1 j (by omega), getD_app_left (by omega)]
    · show ((w.setCell ⟨g, L.length, none⟩ (.int .u8 b)).cell? ⟨g, j, none⟩).isSome = true
      by_cases hjl : j = L.length
      · subst hjl
        rw [World.cell?_setCell_same' _ _ _ (h2 _ (by omega)).1]; rfl
      · rw [World.cell?_setCell_other _ _ _ _ (by intro e; injection e; omega)]
        exact (h2 j hj).1
    · show (w.setCell ⟨g, L.length, none⟩ (.int .u8 b)).frozen? ⟨g, j, none⟩ = false
      rw [World.frozen?_setCell]
      exact (h2 j hj).2
    · exact (Below.refl B w).setCell (p := ⟨g, L.length, none⟩) hBg _
  · have hold : (Builtin.firstCells i.size L.length (.slice (some ⟨g, 0, none⟩) L.length c)).run P w.drew = .ok (byteRow L).toArray w.drew := by
      refine run_firstCells_some w.drew i.size L.length ⟨g, 0, none⟩ L.length c (byteRow L) (by rw [hsize]; simp [byteRow]) (fun j u hu => ?_)
      have hj : j < L.length := by
        rcases Nat.lt_or_ge j L.length with h | h
        · exact h
        · rw [List.getElem?_eq_none (by simpa [byteRow] using h)] at hu; cases hu
      rw [addr_zero]
      unfold byteRow at hu
      rw [List.getElem?_map, List.getElem?_eq_getElem hj] at hu
      have := h1 j hj
      rw [List.getD_eq_getElem?_getD, List.getElem?_eq_getElem hj] at this
      exact this.trans hu
    have hr := run_append_grow_src (P := P) w t tx ty e i (.int .u8 0) ht hi hz (some ⟨g, 0, none⟩) L.length c (byteRow L) hold x 1 [.int .u8 b] hs' (by omega) (by omega) (growslice_fits (by omega) (by rw [hby]; omega))
    have hge := grownCap_ge w (L.length + 1) c e
    have hzc : (Value.int IntKind.u8 0).cells.size = 1 := rfl
    generalize hC : grownCap w (L.length + 1) c e = C at hr hge
    have hCm : C ≤ maxLen := by rw [← hC]; exact grownCap_le_maxLen _ _ _ _ (by unfold maxLen; omega)
    have hlist : (byteRow L ++ [Value.int .u8 b]) = byteRow (L ++ [b]) := by simp [byteRow]
    rw [hlist] at hr
    have hsz : ((byteRow (L ++ [b])).toArray ++ Builtin.zeroCells (Value.int IntKind.u8 0).cells (C - (L.length + 1))).size = C := by
      rw [Array.size_append, size_zeroCells, hzc]
      simp [byteRow]; omega
    refine ⟨_, _, hr, ⟨w.heap.size, C, by simp, hB, by simp, by simp; exact hge, hCm, fun j hj => ?_, fun j hj => ⟨?_, ?_⟩⟩, ?_⟩
    · simp only [List.length_append, List.length_cons, List.length_nil] at hj
      show (w.drew.alloc _).cell? ⟨w.drew.heap.size, j, none⟩ = _
      rw [World.cell?_alloc_at _ _ _ _ rfl]
      rw [Array.getElem?_append_left (by simp [byteRow]; omega)]
      simp only [byteRow, List.getElem?_toArray, List.getElem?_map, List.getD_eq_getElem?_getD]
      rw [List.getElem?_eq_getElem (by simp; omega)]
      rfl
    · show ((w.drew.alloc _).cell? ⟨w.drew.heap.size, j, none⟩).isSome = true
      rw [World.cell?_alloc_at _ _ _ _ rfl, Array.getElem?_eq_getElem (by rw [hsz]; exact hj)]
      rfl
    · show (w.drew.alloc _).frozen? ⟨w.drew.heap.size, j, none⟩ = false
      unfold World.frozen?
      rw [heap_alloc_new]
      simp
    · exact (Below.refl B w).drew.alloc hB _

theorem wpList_append_free {ops : Array Oper} {rest : List Oper} {o : Oper} {a : Act} {Q : Exit → Act → World → Prop} (hgd : o.guard = none) (s x : Operand) (t tx : TypeId)
    (ho : o.op = .call { callee := .builtin .append, args := #[s, x], argTypes := #[t, tx] })
    (e : TypeId) (i : TypeInfo) (ht : P.underlying t = some (.slice e)) (hi : P.info? e = some i) (hz : i.zero = some (.int .u8 0)) (hsize : i.size = 1) (hby : i.bytes = 1)
    {B : Nat} {w0 w : World} {v : Value} {L : List Int} (hv : a.eval s = v) (h : GathR B w0 v L w) (xv : Value) (b : Int) (hx : a.eval x = xv) (hs : Src P 1 tx xv 1 [.int .u8 b] w) (hlen : L.length + 1 ≤ 1000000)
    (hK : ∀ v' w', GathR B w0 v' (L ++ [b]) w' → wpList P ops Q rest (a.put o.dst v') w') : wpList P ops Q (o :: rest) a w := by
  refine wpList_plain hgd fun K hK' => ?_
  obtain ⟨v', w', hrun, r1, r2⟩ := run_append_free (P := P) t tx o.type e i ht hi hz hsize hby h.1 xv b hs h.2.2 hlen
  unfold Oper.wp
  simp [execOp, ho, resolve, invoke, builtin, hv, hx, hrun, Result.andThen]
  exact hK' _ _ (hK v' w' ⟨r1, h.2.1.trans r2, Nat.le_trans h.2.2 r2.size⟩)
end

end Go.Proofs.YtlfhomahbacmpaaDoor

namespace Go.Proofs.YtlfhomahbacmpaaDoor
open Go.RowKit
set_option linter.unusedVariables false

/-- one bit more: the number is doubled within its width; if its highest bit and the bit are unlike, it is xored with poly -/
def stepC (w p n : Nat) (b : Bool) : Nat := (2 * n) % 2 ^ w ^^^ (if (n.testBit (w - 1) != b) then p else 0)
def feedC (w p : Nat) (n : Nat) (L : List Bool) : Nat := L.foldl (stepC w p) n
theorem feedC_app (w p n : Nat) (L M : List Bool) : feedC w p n (L ++ M) = feedC w p (feedC w p n L) M := by unfold feedC; rw [List.foldl_append]
theorem feedC_cons (w p n : Nat) (b : Bool) (L : List Bool) : feedC w p n (b :: L) = feedC w p (stepC w p n b) L := rfl
theorem dbl_bit (n j : Nat) : (2 * n).testBit j = (decide (1 ≤ j) && n.testBit (j - 1)) := by
  cases j with
  | zero => rw [Nat.testBit_zero]; simp
  | succ j => rw [Nat.testBit_succ, Nat.mul_div_cancel_left n (by decide)]; simp
theorem step_bit (w p n j : Nat) (b : Bool) : (stepC w p n b).testBit j = ((decide (j < w) && (decide (1 ≤ j) && n.testBit (j - 1))) ^^ ((n.testBit (w - 1) ^^ b) && p.testBit j)) := by
  unfold stepC
  rw [Nat.testBit_xor, Nat.testBit_mod_two_pow, dbl_bit]
  congr 1
  cases n.testBit (w - 1) <;> cases b <;> simp
theorem step_lt {w p n : Nat} (hp : p < 2 ^ w) (b : Bool) : stepC w p n b < 2 ^ w := by
  unfold stepC
  apply Nat.xor_lt_two_pow
  · exact Nat.mod_lt _ (Nat.two_pow_pos w)
  · split
    · exact hp
    · exact Nat.two_pow_pos w
theorem feed_lt {w p : Nat} (hp : p < 2 ^ w) : ∀ (L : List Bool) (n : Nat), n < 2 ^ w → feedC w p n L < 2 ^ w
  | [], n, h => h
  | b :: L, n, _ => feed_lt hp L _ (step_lt hp b)
theorem step_xor (w p n m : Nat) (b c : Bool) : stepC w p (n ^^^ m) (b ^^ c) = stepC w p n b ^^^ stepC w p m c := by
  apply Nat.eq_of_testBit_eq
  intro j
  rw [Nat.testBit_xor, step_bit, step_bit, step_bit, Nat.testBit_xor, Nat.testBit_xor]
  cases decide (j < w) <;> cases decide (1 ≤ j) <;> cases n.testBit (j - 1) <;> cases m.testBit (j - 1) <;> cases n.testBit (w - 1) <;> cases m.testBit (w - 1) <;> cases b <;> cases c <;> cases p.testBit j <;> rfl
theorem feed_xor (w p : Nat) : ∀ (L M : List Bool) (n m : Nat), L.length = M.length → feedC w p (n ^^^ m) (List.zipWith (fun a b => a ^^ b) L M) = feedC w p n L ^^^ feedC w p m M
  | [], [], n, m, _ => rfl
  | b :: L, c :: M, n, m, h => by
    rw [List.zipWith_cons_cons, feedC_cons, feedC_cons, feedC_cons, step_xor]
    exact feed_xor w p L M _ _ (by simpa using h)
  | [], _ :: _, _, _, h => by cases h
  | _ :: _, [], _, _, h => by cases h
theorem step_00 (w p : Nat) : stepC w p 0 false = 0 := by unfold stepC; simp
theorem feed_zeros (w p : Nat) : ∀ k : Nat, feedC w p 0 (List.replicate k false) = 0
  | 0 => rfl
  | k + 1 => by rw [List.replicate_succ, feedC_cons, step_00]; exact feed_zeros w p k

/-- the lowest r bits of a number, the highest first -/
def bitsT (n : Nat) : Nat → List Bool
  | 0 => []
  | r + 1 => n.testBit r :: bitsT n r
theorem bitsT_len (n : Nat) : ∀ r, (bitsT n r).length = r
  | 0 => rfl
  | r + 1 => by simp [bitsT, bitsT_len n r]
/-- its own bits leave nothing -/
theorem feed_own (w p n : Nat) : ∀ r, r ≤ w → feedC w p ((n * 2 ^ (w - r)) % 2 ^ w) (bitsT n r) = 0
  | 0, _ => by
    show (n * 2 ^ (w - 0)) % 2 ^ w = 0
    rw [Nat.sub_zero, Nat.mul_mod_left]
  | r + 1, h => by
    have ih := feed_own w p n r (by omega)
    rw [bitsT, feedC_cons]
    have ht : ((n * 2 ^ (w - (r + 1))) % 2 ^ w).testBit (w - 1) = n.testBit r := by
      rw [Nat.testBit_mod_two_pow, Nat.testBit_mul_two_pow]
      have e1 : decide (w - 1 < w) = true := by simp; omega
      have e2 : decide (w - (r + 1) ≤ w - 1) = true := by simp; omega
      rw [e1, e2, show w - 1 - (w - (r + 1)) = r by omega]; rfl
    have hs : stepC w p ((n * 2 ^ (w - (r + 1))) % 2 ^ w) (n.testBit r) = (n * 2 ^ (w - r)) % 2 ^ w := by
      unfold stepC
      rw [ht]
      have e : w - r = (w - (r + 1)) + 1 := by omega
      rw [e, Nat.pow_succ]
      have : (2 * (n * 2 ^ (w - (r + 1)) % 2 ^ w)) % 2 ^ w = (n * (2 ^ (w - (r + 1)) * 2)) % 2 ^ w := by
        rw [Nat.mul_mod, Nat.mod_mod, ← Nat.mul_mod]
        congr 1
        rw [Nat.mul_comm 2, Nat.mul_assoc]
      rw [this]
      simp
    rw [hs]
    exact ih
theorem feed_bits {w p n : Nat} (hn : n < 2 ^ w) : feedC w p n (bitsT n w) = 0 := by
  have := feed_own w p n w (Nat.le_refl _)
  rwa [Nat.sub_self, Nat.pow_zero, Nat.mul_one, Nat.mod_eq_of_lt hn] at this

theorem step_0_inj {w p z : Nat} (hw : 1 ≤ w) (hp : p % 2 = 1) (hz : z < 2 ^ w) (h : stepC w p z false = 0) : z = 0 := by
  have ht : z.testBit (w - 1) = false := by
    have := step_bit w p z 0 false
    rw [h, Nat.zero_testBit] at this
    have hp0 : p.testBit 0 = true := by rw [Nat.testBit_zero]; simpa using hp
    rw [hp0] at this
    revert this
    cases z.testBit (w - 1) <;> simp
  have hlt : z < 2 ^ (w - 1) := by
    apply Nat.lt_pow_two_of_testBit
    intro i hi
    rcases Nat.lt_or_ge i w with h1 | h1
    · have : i = w - 1 := by omega
      rw [this]; exact ht
    · apply Nat.testBit_lt_two_pow
      exact Nat.lt_of_lt_of_le hz (Nat.pow_le_pow_right (by decide) h1)
  have h2 : 2 ^ w = 2 * 2 ^ (w - 1) := by
    have e : w = (w - 1) + 1 := by omega
    conv => lhs; rw [e]
    rw [Nat.pow_succ, Nat.mul_comm]
  unfold stepC at h
  rw [ht] at h
  have h3 : 2 * z % 2 ^ w = 2 * z := Nat.mod_eq_of_lt (by rw [h2]; omega)
  rw [h3] at h
  simp at h
  omega
theorem step_inj {w p n m : Nat} (hw : 1 ≤ w) (hp : p % 2 = 1) (hn : n < 2 ^ w) (hm : m < 2 ^ w) (b : Bool) (h : stepC w p n b = stepC w p m b) : n = m := by
  have h0 : stepC w p (n ^^^ m) false = 0 := by
    have := step_xor w p n m b b
    rw [Bool.xor_self, h, Nat.xor_self] at this
    exact this
  have hz := step_0_inj hw hp (Nat.xor_lt_two_pow hn hm) h0
  apply Nat.eq_of_testBit_eq
  intro j
  have := Nat.testBit_xor n m j
  rw [hz, Nat.zero_testBit] at this
  revert this
  cases n.testBit j <;> cases m.testBit j <;> simp
theorem feed_inj {w p : Nat} (hw : 1 ≤ w) (hp : p % 2 = 1) (hpl : p < 2 ^ w) : ∀ (L : List Bool) (n m : Nat), n < 2 ^ w → m < 2 ^ w → feedC w p n L = feedC w p m L → n = m
  | [], n, m, _, _, h => h
  | b :: L, n, m, hn, hm, h => step_inj hw hp hn hm b (feed_inj hw hp hpl L _ _ (step_lt hpl b) (step_lt hpl b) h)

/-- the bits as a number, at the top of the width -/
def topV (w : Nat) : List Bool → Nat
  | [] => 0
  | b :: L => (if b then 2 ^ (w - 1) else 0) ^^^ (topV w L) / 2
theorem topV_bit (w : Nat) (b : Bool) (L : List Bool) (j : Nat) : (topV w (b :: L)).testBit j = ((b && decide (w - 1 = j)) ^^ (topV w L).testBit (j + 1)) := by
  rw [topV, Nat.testBit_xor, Nat.testBit_succ]
  congr 1
  cases b
  · simp
  · simp [Nat.testBit_two_pow]
theorem topV_lt {w : Nat} (hw : 1 ≤ w) : ∀ L : List Bool, topV w L < 2 ^ w
  | [] => Nat.two_pow_pos w
  | b :: L => by
    rw [topV]
    apply Nat.xor_lt_two_pow
    · split
      · exact Nat.pow_lt_pow_right (by decide) (by omega)
      · exact Nat.two_pow_pos w
    · have := topV_lt hw L; omega
theorem topV_low (w : Nat) : ∀ (L : List Bool) (j : Nat), L.length ≤ w → j < w - L.length → (topV w L).testBit j = false
  | [], j, _, _ => Nat.zero_testBit j
  | b :: L, j, hl, hj => by
    simp only [List.length_cons] at hl hj
    rw [topV_bit, topV_low w L (j + 1) (by omega) (by omega)]
    have : decide (w - 1 = j) = false := by simp; omega
    rw [this]; simp
theorem step_top {w p n : Nat} (hw : 1 ≤ w) (b : Bool) : stepC w p n b = stepC w p (n ^^^ (if b then 2 ^ (w - 1) else 0)) false := by
  cases b
  · simp
  · have h := step_xor w p n (2 ^ (w - 1)) true true
    have h0 : stepC w p (2 ^ (w - 1)) true = 0 := by
      apply Nat.eq_of_testBit_eq
      intro j
      rw [step_bit, Nat.zero_testBit, Nat.testBit_two_pow_self, Nat.testBit_two_pow]
      have : (decide (j < w) && (decide (1 ≤ j) && decide (w - 1 = j - 1))) = false := by
        rcases Nat.lt_or_ge j w with h1 | h1
        · rcases Nat.lt_or_ge j 1 with h2 | h2
          · simp; omega
          · have : decide (w - 1 = j - 1) = false := by simp; omega
            rw [this]; simp
        · have : decide (j < w) = false := by simp; omega
          rw [this]; simp
      rw [this]; rfl
    rw [h0, Nat.xor_zero] at h
    rw [if_pos rfl]
    exact h.symm
theorem step_half {w p x : Nat} (hw : 1 ≤ w) (hx : x < 2 ^ w) (h0 : x.testBit 0 = false) : stepC w p (x / 2) false = x := by
  have h2 : 2 ^ w = 2 * 2 ^ (w - 1) := by
    have e : w = (w - 1) + 1 := by omega
    conv => lhs; rw [e]
    rw [Nat.pow_succ, Nat.mul_comm]
  have ht : (x / 2).testBit (w - 1) = false := Nat.testBit_lt_two_pow (by omega)
  have he : x % 2 = 0 := by
    rw [Nat.testBit_zero] at h0
    simpa using h0
  unfold stepC
  rw [ht, Nat.mod_eq_of_lt (by omega)]
  simp
  omega
theorem feed_top {w p : Nat} (hw : 1 ≤ w) : ∀ (L : List Bool) (n : Nat), L.length ≤ w → feedC w p n L = feedC w p (n ^^^ topV w L) (List.replicate L.length false)
  | [], n, _ => by simp [feedC, topV]
  | b :: L, n, hl => by
    simp only [List.length_cons] at hl
    rw [feedC_cons, feed_top hw L _ (by omega), List.length_cons, List.replicate_succ, feedC_cons]
    congr 1
    rw [step_top hw b]
    have hh := step_half (p := p) hw (topV_lt hw L) (topV_low w L 0 (by omega) (by omega))
    have hx := step_xor w p (n ^^^ (if b then 2 ^ (w - 1) else 0)) (topV w L / 2) false false
    rw [hh] at hx
    rw [topV, ← Nat.xor_assoc]
    exact hx.symm
theorem topV_none {w : Nat} (hw : 1 ≤ w) : ∀ L : List Bool, L.length ≤ w → topV w L = 0 → ∀ b ∈ L, b = false
  | [], _, _, b, hb => by cases hb
  | c :: L, hl, h, b, hb => by
    simp only [List.length_cons] at hl
    have hc : c = false := by
      have := topV_bit w c L (w - 1)
      rw [h, Nat.zero_testBit, Nat.testBit_lt_two_pow (x := topV w L) (i := w - 1 + 1) (by rw [show w - 1 + 1 = w by omega]; exact topV_lt hw L)] at this
      revert this
      cases c <;> simp
    subst hc
    rcases List.mem_cons.1 hb with rfl | hb
    · rfl
    · refine topV_none hw L (by omega) ?_ b hb
      rw [topV] at h
      simp at h
      have h0 := topV_low w L 0 (by omega) (by omega)
      rw [Nat.testBit_zero] at h0
      have : topV w L % 2 = 0 := by simpa using h0
      omega
/-- bits as many as the width, or less, from nothing on: they leave nothing only if all are nought -/
theorem feed_none {w p : Nat} (hw : 1 ≤ w) (hp : p % 2 = 1) (hpl : p < 2 ^ w) (D : List Bool) (hd : D.length ≤ w) (h : feedC w p 0 D = 0) : ∀ b ∈ D, b = false := by
  rw [feed_top hw D 0 hd, Nat.zero_xor] at h
  have h0 := feed_zeros w p D.length
  exact topV_none hw D hd (feed_inj hw hp hpl _ _ _ (topV_lt hw D) (Nat.two_pow_pos w) (h.trans h0.symm))
theorem zip_same : ∀ B B' : List Bool, B.length = B'.length → (∀ b ∈ List.zipWith (fun a b => a ^^ b) B B', b = false) → B = B'
  | [], [], _, _ => rfl
  | b :: B, c :: B', h, hz => by
    rw [List.zipWith_cons_cons] at hz
    have h1 := hz _ (List.mem_cons_self ..)
    have h2 := zip_same B B' (by simpa using h) fun x hx => hz x (List.mem_cons_of_mem _ hx)
    have : b = c := by revert h1; cases b <;> cases c <;> simp
    rw [this, h2]
  | [], _ :: _, h, _ => by cases h
  | _ :: _, [], h, _ => by cases h
/-- what is turned within the width is found -/
theorem feed_found {w p : Nat} (hw : 1 ≤ w) (hp : p % 2 = 1) (hpl : p < 2 ^ w) (A B B' C : List Bool) (hl : B.length = B'.length) (hb : B.length ≤ w) :
    feedC w p 0 (A ++ B ++ C) = feedC w p 0 (A ++ B' ++ C) ↔ B = B' := by
  constructor
  · intro h
    rw [feedC_app, feedC_app, feedC_app, feedC_app] at h
    have hA := feed_lt hpl A 0 (Nat.two_pow_pos w)
    have h1 := feed_inj hw hp hpl C _ _ (feed_lt hpl B _ hA) (feed_lt hpl B' _ hA) h
    have h2 := feed_xor w p B B' (feedC w p 0 A) (feedC w p 0 A) hl
    rw [Nat.xor_self, h1, Nat.xor_self] at h2
    exact zip_same B B' hl (feed_none hw hp hpl _ (by rw [List.length_zipWith]; omega) h2)
  · intro h; rw [h]

end Go.Proofs.YtlfhomahbacmpaaDoor

namespace Go.Proofs.YtlfhomahbacmpaaDoor
open Go.RowKit
set_option linter.unusedVariables false

def bitC (b : Bool) : Int := if b then 49 else 48
theorem bitC_bit (b : Bool) : isBit (bitC b) = true := by cases b <;> rfl
theorem bitC_inj {a b : Bool} : bitC a = bitC b ↔ a = b := by cases a <;> cases b <;> decide
def toB (L : List Int) : List Bool := L.map fun c => c == 49
theorem toB_len (L : List Int) : (toB L).length = L.length := by simp [toB]
theorem toB_app (a b : List Int) : toB (a ++ b) = toB a ++ toB b := by simp [toB]
theorem toB_C (L : List Bool) : toB (L.map bitC) = L := by
  unfold toB
  rw [List.map_map]
  conv => rhs; rw [← List.map_id L]
  exact List.map_congr_left fun b _ => by cases b <;> rfl
theorem C_toB {L : List Int} (h : bitsB L = true) : (toB L).map bitC = L := by
  unfold toB
  rw [List.map_map]
  conv => rhs; rw [← List.map_id L]
  refine List.map_congr_left fun c hc => ?_
  have := (isBit_iff c).1 (List.all_eq_true.1 h c hc)
  rcases this with rfl | rfl <;> rfl
theorem bitsB_C (L : List Bool) : bitsB (L.map bitC) = true := by
  unfold bitsB
  rw [List.all_eq_true]
  intro x hx
  obtain ⟨b, _, rfl⟩ := List.mem_map.1 hx
  exact bitC_bit b
/-- the bits of a number, as they are told -/
def bitsI (n w : Nat) : List Int := (bitsT n w).map bitC
theorem bitsI_len (n w : Nat) : (bitsI n w).length = w := by unfold bitsI; rw [List.length_map, bitsT_len]
theorem bitsI_succ (n w : Nat) : bitsI n (w + 1) = bitC (n.testBit w) :: bitsI n w := rfl
theorem bitsI_bits (n w : Nat) : bitsB (bitsI n w) = true := bitsB_C _
/-- the number of bits -/
def numA : Nat → List Bool → Nat
  | a, [] => a
  | a, b :: L => numA (2 * a + (if b then 1 else 0)) L
theorem numA_app : ∀ (L : List Bool) (a : Nat) (b : Bool), numA a (L ++ [b]) = 2 * numA a L + (if b then 1 else 0)
  | [], a, b => rfl
  | c :: L, a, b => by simp only [List.cons_append, numA]; exact numA_app L _ b
theorem numA_lt : ∀ (L : List Bool) (a k : Nat), a < 2 ^ k → numA a L < 2 ^ (k + L.length)
  | [], a, k, h => h
  | b :: L, a, k, h => by
    have := numA_lt L (2 * a + (if b then 1 else 0)) (k + 1) (by rw [Nat.pow_succ]; split <;> omega)
    simp only [numA, List.length_cons]
    rwa [show k + (L.length + 1) = k + 1 + L.length by omega]
theorem numA_bits (n : Nat) : ∀ (r a : Nat), numA a (bitsT n r) = a * 2 ^ r + n % 2 ^ r
  | 0, a => by simp [bitsT, numA, Nat.mod_one]
  | r + 1, a => by
    simp only [bitsT, numA]
    rw [numA_bits n r]
    have h1 := Nat.mod_mul (x := n) (a := 2 ^ r) (b := 2)
    rw [← Nat.pow_succ] at h1
    rw [h1, Nat.testBit_eq_decide_div_mod_eq, Nat.pow_succ]
    rcases Nat.mod_two_eq_zero_or_one (n / 2 ^ r) with h | h
    · simp only [h]; simp [Nat.mul_comm, Nat.mul_assoc]
    · simp only [h]
      simp only [decide_true, if_true, Nat.mul_one]
      rw [Nat.add_mul, Nat.one_mul, Nat.mul_comm 2 a, Nat.mul_assoc, Nat.mul_comm (2 ^ r) 2]
      omega
theorem num_bits {n r : Nat} (h : n < 2 ^ r) : numA 0 (bitsT n r) = n := by
  rw [numA_bits, Nat.mod_eq_of_lt h]; omega
theorem bits_num : ∀ (L : List Bool) (a : Nat), bitsT (numA a L) L.length = L
  | [], a => rfl
  | b :: L, a => by
    have key : ∀ (L : List Bool) (a : Nat), numA a L = a * 2 ^ L.length + numA 0 L := by
      intro L
      induction L with
      | nil => intro a; simp [numA]
      | cons c L ih =>
        intro a
        simp only [numA, List.length_cons]
        rw [ih (2 * a + _), ih (2 * 0 + _), Nat.pow_succ]
        simp only [Nat.mul_zero, Nat.zero_add]
        rw [Nat.add_mul, Nat.mul_comm 2 a, Nat.mul_assoc, Nat.mul_comm (2 ^ L.length) 2]
        omega
    have hl := numA_lt L 0 0 (by decide)
    rw [Nat.zero_add] at hl
    simp only [List.length_cons, bitsT, numA]
    rw [bits_num L]
    congr 1
    rw [key L, Nat.testBit_eq_decide_div_mod_eq, Nat.mul_comm, Nat.mul_add_div (Nat.two_pow_pos _), Nat.div_eq_of_lt hl]
    cases b <;> simp <;> omega

def shN (n j : Nat) : Int := ((n / 2 ^ j : Nat) : Int)
theorem shN_succ (n j : Nat) : shN n j / 2 = shN n (j + 1) := by
  unfold shN
  rw [Nat.pow_succ, ← Nat.div_div_eq_div_mul]
  omega
theorem shN_bd (n j : Nat) (h : n < 9223372036854775808) : 0 ≤ shN n j ∧ shN n j < 9223372036854775808 := by
  unfold shN
  exact ⟨Int.natCast_nonneg _, Int.ofNat_lt.2 (Nat.lt_of_le_of_lt (Nat.div_le_self _ _) h)⟩
theorem shN_bit (n j : Nat) : shN n j % 2 = if n.testBit j then 1 else 0 := by
  unfold shN
  rw [Nat.testBit_eq_decide_div_mod_eq]
  generalize n / 2 ^ j = x
  rcases Nat.mod_two_eq_zero_or_one x with h | h
  · simp only [h]; simp; omega
  · simp only [h]; simp; omega

theorem numsz (L : List Int) : (strOfNums L).size = L.length := by
  have h : (strOfNums L).data.toList.length = L.length := by rw [strOfNums_data]; simp
  simpa using h

/-- the document's Number -/
def numOk (L : List Int) : Bool := bitsB L && decide (L.length ≤ 60)

/-- may a width and a poly be? -/
def rightC (w p : Int) : Bool := decide (1 ≤ w) && decide (w ≤ 30) && decide (0 ≤ p) && decide (p < ((2 ^ w.toNat : Nat) : Int))

/-- where two texts of bits are unlike -/
def addI (A B : List Int) : List Int := List.zipWith (fun a b => if a = b then 48 else 49) A B
def addOk (A B : List Int) : Bool := bitsB A && bitsB B && decide (A.length = B.length)
theorem addI_take {a b : ByteArray} {k : Nat} (h1 : k < a.size) (h2 : k < b.size) : addI ((byL a).take (k + 1)) ((byL b).take (k + 1)) = addI ((byL a).take k) ((byL b).take k) ++ [if bt a k = bt b k then 48 else 49] := by
  unfold addI
  rw [byL_take h1, byL_take h2, List.zipWith_append (by rw [List.length_take, List.length_take, byL_len, byL_len]; omega)]
  rfl

end Go.Proofs.YtlfhomahbacmpaaDoor
