/- Octet: contracts of masked, its closure, Mask, Differ, and of the document's Mask, Differ. -/
import Derived.Test.YtjdlkcpcmobbjaaOctM
namespace Go.Proofs.Ytjdlkcpcmobbjaa
open Go.RowKit
set_option linter.unusedVariables false

/-- what mask m leaves of byte k of s -/
def mb (s m : ByteArray) (k : Nat) : Int := (((bt s k).toNat &&& (bt m k).toNat : Nat) : Int)
theorem mb_lt (s m : ByteArray) (k : Nat) : 0 ≤ mb s m k ∧ mb s m k < 256 := by
  have h : (bt s k).toNat &&& (bt m k).toNat < 2 ^ 8 := Nat.and_lt_two_pow _ (by have := bt_lt m k; omega)
  unfold mb
  omega
theorem mb_past (s m : ByteArray) (k : Nat) (h : m.size ≤ k) : mb s m k = 0 := by unfold mb; rw [bt_past m k h]; simp
theorem mb_and (s m : ByteArray) (k : Nat) : bits BinOp.and IntKind.u8 (bt s k) (bt m k) = mb s m k := by
  have h1 := bt_lt s k; have h2 := bt_lt m k
  exact u8_and _ _ h1.1 h1.2 h2.1 h2.2

theorem masked_any (s m : ByteArray) (w : World) :
    Calls Try.prog 28 #[.string s, .string m] w fun e w' =>
      e = .returned (.func (.func 31) #[] #[.pointer (some ⟨w.heap.size + 1, 0, none⟩), .pointer (some ⟨w.heap.size, 0, none⟩)]) ∧ (w.alloc (.cells #[.string s] 9)).alloc (.cells #[.string m] 9) = w' := by
  have hmf : ∀ (fn : Fn) (first cap : Array Value) (w : World), (Instr.makeFunc fn first cap).run Try.prog w = .ok (.func fn first cap) w := fun _ _ _ _ => rfl
  go_enter Try.func28, Try.ntmps28
  go_wp2
  go_ret
  exact ⟨rfl, rfl⟩

/-- what a world holds for a closure of masked -/
def Holds2 (w : World) (b : Nat) (s m : ByteArray) : Prop := w.cell? ⟨b, 0, none⟩ = some (.string s) ∧ w.cell? ⟨b + 1, 0, none⟩ = some (.string m)

set_option maxHeartbeats 1000000 in
theorem clos_any (s m : ByteArray) (b k : Nat) (w : World) (hs : s.size ≤ 100000000) (hm : m.size ≤ 100000000) (hk : k < s.size) (h : Holds2 w b s m) :
    Calls Try.prog 31 #[.int .i64 k, .pointer (some ⟨b + 1, 0, none⟩), .pointer (some ⟨b, 0, none⟩)] w fun e w' => e = .returned (.int .u8 (mb s m k)) ∧ ∃ n, w' = w.drewN n := by
  obtain ⟨hc, hc1⟩ := h
  by_cases hm : k < m.size
  · have hbe := bt_eq s k hk
    have hbm := bt_eq m k hm
    have HM := Lib.hid (mb_and s m k)
    have hx1 : (k : Int) < (s.size : Int) := by omega
    have hx2 : (k : Int) < (m.size : Int) := by omega
    have hx0 : (0 : Int) ≤ (k : Int) := by omega
    go_enter Try.func31, Try.ntmps31
    go_wp2
    go_quiet (fail)
    go_wp2
    go_ret
    exact ⟨ret_int HM.out, _, rfl⟩
  · have hx2 : (m.size : Int) ≤ (k : Int) := by omega
    rw [mb_past s m k (by omega)]
    go_enter Try.func31, Try.ntmps31
    go_wp2
    go_ret
    exact ⟨rfl, 0, rfl⟩

/-- the row that Mask fills: its first k bytes are masked, the others nought -/
def mrow (s m : ByteArray) (k : Nat) : List Int := (List.range s.size).map fun j => if j < k then mb s m j else 0
theorem mrow_zero (s m : ByteArray) : (mrow s m 0).map (Value.int .u8) = List.replicate s.size (.int .u8 0) := by
  apply List.ext_getElem?
  intro j
  unfold mrow
  by_cases hj : j < s.size
  · simp [hj]
  · simp [hj]
theorem mrow_set (s m : ByteArray) (k : Nat) (hk : k < s.size) : ((mrow s m k).map (Value.int .u8)).set k (.int .u8 (mb s m k)) = (mrow s m (k + 1)).map (Value.int .u8) := by
  apply List.ext_getElem?
  intro j
  unfold mrow
  by_cases hj : j < s.size
  · by_cases hjk : j = k
    · subst hjk
      simp [hj]
    · rw [List.getElem?_set_ne (by omega)]
      simp only [List.getElem?_map, List.getElem?_range hj, Option.map_some]
      by_cases h1 : j < k
      · rw [if_pos h1, if_pos (by omega)]
      · rw [if_neg h1, if_neg (by omega)]
  · rw [List.getElem?_eq_none (by simpa using hj), List.getElem?_eq_none (by simpa using hj)]
def mlist (s m : ByteArray) : List Int := (List.range s.size).map (mb s m)
theorem mrow_all (s m : ByteArray) : mrow s m s.size = mlist s m := by
  unfold mrow mlist
  apply List.map_congr_left
  intro j hj
  rw [if_pos (by simpa using hj)]

theorem run_make8f (n : Nat) (h1 : n ≤ 100000000) (w : World) :
    (Instr.makeSlice 40 (.int .i64 n) (.int .i64 n)).run Try.prog w = .ok (.slice (some ⟨w.heap.size, 0, none⟩) n n) (w.alloc (.cells (madeCells #[.int .u8 0] n) 5)) := by
  obtain ⟨i0, hi, hz0, hz1, hz2⟩ := info_parts info8
  have := run_make (P := Try.prog) w 40 5 i0 (.int .u8 0) Try.underlying40 hi hz0 .i64 .i64 n n (by omega) (Int.le_refl _) (by rw [hz2]; omega) (by omega)
  rw [hz1, Nat.mul_one, Int.toNat_natCast] at this
  exact this

def mkRel (B g : Nat) (s m : ByteArray) (w : World) (i : Value) (wr : World) : Prop :=
  ∃ k : Nat, k ≤ s.size ∧ i = .int .i64 k ∧ Below B w wr ∧ Holds2 wr B s m ∧ wr.ownsRow B 5 1 (.slice (some ⟨g, 0, none⟩) s.size s.size) s.size ((mrow s m k).map (Value.int .u8))

theorem mask_step {B g : Nat} {s m : ByteArray} {w wr : World} {k : Nat} (hk : k < s.size) (hB : Below B w wr) (hg : B + 1 < g) (hH : Holds2 wr B s m)
    (hown : wr.ownsRow B 5 1 (.slice (some ⟨g, 0, none⟩) s.size s.size) s.size ((mrow s m k).map (Value.int .u8))) :
    mkRel B g s m w (.int .i64 ((k : Int) + 1)) (wr.setCell ⟨g, k, none⟩ (.int .u8 (mb s m k))) := by
  have hst := hown.stored k (.int .u8 (mb s m k))
  refine ⟨k + 1, by omega, by simp, hB.setCell (by show B ≤ g; omega) _, ⟨?_, ?_⟩, ?_⟩
  · rw [World.cell?_setCell_other _ _ _ _ (by intro e; injection e; omega)]; exact hH.1
  · rw [World.cell?_setCell_other _ _ _ _ (by intro e; injection e; omega)]; exact hH.2
  · rw [← mrow_set s m k hk]; exact hst.1

set_option maxHeartbeats 1000000 in
theorem mask_any (s m : ByteArray) (w : World) (hs : s.size ≤ 100000000) (hm : m.size ≤ 100000000) :
    Calls Try.prog 21 #[.string s, .string m] w fun e w' => e = .returned (.string (strOfNums (mlist s m))) ∧ Below w.heap.size w w' := by
  have hmk := run_make8f s.size hs
  go_enter Try.func21, Try.ntmps21
  go_wp2_with fail
  refine (masked_any s m _).mono ?_
  rintro e w1 ⟨rfl, hw1⟩
  have hB : Below w.heap.size w w1 := by subst hw1; exact ((Below.refl _ _).alloc (Nat.le_refl _) _).alloc (by simp) _
  have hH : Holds2 w1 w.heap.size s m := by
    subst hw1
    refine ⟨?_, ?_⟩
    · rw [World.cell?_alloc_past _ _ _ (by simp), World.cell?_alloc_at _ _ _ _ rfl]; rfl
    · rw [World.cell?_alloc_at _ _ _ _ (by simp)]; rfl
  have hz : w1.heap.size = w.heap.size + 2 := by subst hw1; simp
  have Hz := Lib.hid hz
  clear hw1 hz
  go_wp2_with fail
  go_loopw [16] (fun i wr => mkRel w.heap.size w1.heap.size s m w i wr) (fun i _ => s.size - (intOf i).toNat)
  case atStart =>
    refine ⟨0, Nat.zero_le _, rfl, hB.alloc hB.size _, ⟨?_, ?_⟩, ?_⟩
    · rw [World.cell?_alloc_past _ _ _ (by rw [Hz.out]; omega)]; exact hH.1
    · rw [World.cell?_alloc_past _ _ _ (by rw [Hz.out]; omega)]; exact hH.2
    · rw [mrow_zero, ← toList_madeCells_one]
      exact World.ownsRow_lit w1 _ _ (by rw [Hz.out]; omega) (by unfold maxLen; omega) (by rw [size_madeCells, Nat.mul_one])
  case round =>
    obtain ⟨k, hk, rfl, hbw, hHr, hown⟩ := hrel
    have hg : w.heap.size + 1 < w1.heap.size := by rw [Hz.out]; omega
    by_cases hp : k < s.size
    · have hstep := fun nq => mask_step (wr := wr.drewN nq) hp (below_drewN hbw nq) hg hHr hown
      have hl : (mrow s m k).length = s.size := by simp [mrow]
      have hc0 : wr.cell? ⟨w1.heap.size, k, none⟩ = some (.int .u8 ((mrow s m k).getD k 0)) := by
        rw [hown.cellAt k (by omega), List.getElem?_map, List.getElem?_eq_getElem (by omega)]
        simp [List.getD, List.getElem?_eq_getElem (show k < (mrow s m k).length by omega)]
      have hf0 : wr.frozen? ⟨w1.heap.size, k, none⟩ = false := hown.frozenAt k
      clear hl hown
      go_wp2_with (go_at_call 31; refine (clos_any s m w.heap.size k _ hs hm hp hHr).mono ?_)
      rintro e w2 ⟨rfl, nq, rfl⟩
      have hc1 : (wr.drewN nq).cell? ⟨w1.heap.size, k, none⟩ = some (.int .u8 ((mrow s m k).getD k 0)) := hc0
      have hf1 : (wr.drewN nq).frozen? ⟨w1.heap.size, k, none⟩ = false := hf0
      go_wp2
      go_roundw
      case rel => exact hstep nq
      case measure => simp [intOf]; omega
    · obtain rfl : k = s.size := by omega
      rw [mrow_all] at hown
      have hcv := conv_own (P := Try.prog) wr 40 9 5 Try.underlying40 Try.underlying5 Try.underlying9 hown
      clear hown
      go_wp2
      go_ret
      exact ⟨rfl, hbw⟩

theorem masked_h (s m : ByteArray) (w : World) :
    Calls Try.prog 28 #[.string s, .string m] w fun e w' =>
      e = .returned (.func (.func 31) #[] #[.pointer (some ⟨w.heap.size + 1, 0, none⟩), .pointer (some ⟨w.heap.size, 0, none⟩)]) ∧ Below w.heap.size w w' ∧ Holds2 w' w.heap.size s m ∧ w'.heap.size = w.heap.size + 2 := by
  refine (masked_any s m w).mono ?_
  rintro e w1 ⟨rfl, rfl⟩
  refine ⟨rfl, ((Below.refl _ _).alloc (Nat.le_refl _) _).alloc (by simp) _, ⟨?_, ?_⟩, by simp⟩
  · rw [World.cell?_alloc_past _ _ _ (by simp), World.cell?_alloc_at _ _ _ _ rfl]; rfl
  · rw [World.cell?_alloc_at _ _ _ _ (by simp)]; rfl

def difB (s t m : ByteArray) : Bool := s.size != t.size || (List.range s.size).any fun i => mb s m i != mb t m i
theorem difB_size {s t m : ByteArray} (h : s.size ≠ t.size) : difB s t m = true := by unfold difB; simp [h]
theorem difB_at {s t m : ByteArray} {i : Nat} (hi : i < s.size) (h : mb s m i ≠ mb t m i) : difB s t m = true := by
  unfold difB
  rw [Bool.or_eq_true, List.any_eq_true]
  exact .inr ⟨i, by simpa using hi, by simpa using h⟩
theorem difB_no {s t m : ByteArray} (hs : s.size = t.size) (h : ∀ i, i < s.size → mb s m i = mb t m i) : difB s t m = false := by
  unfold difB
  rw [Bool.or_eq_false_iff, List.any_eq_false]
  exact ⟨by simp [hs], fun i hi => by simpa using h i (by simpa using hi)⟩
theorem difB_of_no {s t m : ByteArray} (h : difB s t m = false) : s.size = t.size ∧ ∀ i, i < s.size → mb s m i = mb t m i := by
  unfold difB at h
  rw [Bool.or_eq_false_iff, List.any_eq_false] at h
  exact ⟨by simpa using h.1, fun i hi => by simpa using h.2 i (by simpa using hi)⟩

theorem holds_drew {w : World} {b : Nat} {s m : ByteArray} (h : Holds2 w b s m) (n : Nat) : Holds2 (w.drewN n) b s m := h
theorem holds_below {B b : Nat} {w w' : World} {s m : ByteArray} (h : Holds2 w b s m) (hB : Below B w w') (hb : b + 1 < B) : Holds2 w' b s m :=
  ⟨(hB.cell (p := ⟨b, 0, none⟩) (by show b < B; omega)).trans h.1, (hB.cell (p := ⟨b + 1, 0, none⟩) hb).trans h.2⟩

set_option maxHeartbeats 1000000 in
theorem differ_any (a b m : ByteArray) (w : World) (ha : a.size ≤ 100000000) (hb : b.size ≤ 100000000) (hm : m.size ≤ 100000000) :
    Calls Try.prog 23 #[.string a, .string b, .string m] w fun e w' => e = .returned (.bool (difB a b m)) ∧ Below w.heap.size w w' := by
  by_cases hsz : a.size = b.size
  · have hszn : ((a.size : Int) != (b.size : Int)) = false := by simp; omega
    have HS := Lib.hid hsz
    clear hsz
    go_enter Try.func23, Try.ntmps23
    go_wp2_with fail
    refine (masked_h a m _).mono ?_
    rintro e w1 ⟨rfl, hb1, hh1, hz1⟩
    have Hz1 := Lib.hid hz1
    clear hz1
    go_wp2_with fail
    refine (masked_h b m _).mono ?_
    rintro e w2 ⟨rfl, hb2, hh2, hz2⟩
    have hh3 := holds_below hh1 hb2 (by rw [Hz1.out]; omega)
    have hb3 := below_t2 hb1 hb2
    clear hz2 hh1 hb1 hb2
    go_wp2_with fail
    go_loopw [23] (fun i wr => ∃ k : Nat, k ≤ a.size ∧ i = .int .i64 k ∧ Below w.heap.size w wr ∧ Holds2 wr w.heap.size a m ∧ Holds2 wr w1.heap.size b m ∧ ∀ j, j < k → mb a m j = mb b m j) (fun i _ => a.size - (intOf i).toNat)
    case atStart => exact ⟨0, Nat.zero_le _, rfl, hb3, hh3, hh2, fun j hj => by omega⟩
    case round =>
      obtain ⟨k, hk, rfl, hbw, hH1, hH2, heq⟩ := hrel
      by_cases hp : k < a.size
      · have hp2 : k < b.size := by rw [← HS.out]; exact hp
        by_cases hx : mb a m k = mb b m k
        · have heq2 : ∀ j, j < k + 1 → mb a m j = mb b m j := fun j hj => by
            rcases Nat.lt_or_ge j k with h | h
            · exact heq j h
            · rw [show j = k by omega]; exact hx
          have hc2 := fun (W : World) h => clos_any b m w1.heap.size k W hb hm hp2 h
          rw [← hx] at hc2
          clear hx heq
          go_wp2_with fail
          refine (clos_any a m w.heap.size k _ ha hm hp hH1).mono ?_
          rintro e w3 ⟨rfl, n1, rfl⟩
          go_wp2_with fail
          refine (hc2 _ (holds_drew hH2 n1)).mono ?_
          rintro e w3 ⟨rfl, n2, rfl⟩
          go_wp2
          go_roundw
          case rel => exact ⟨k + 1, by omega, by simp, below_drewN hbw _, holds_drew hH1 _, holds_drew hH2 _, heq2⟩
          case measure => simp [intOf]; omega
        · have Hd := Lib.hid (difB_at hp hx)
          have hx2 : (mb a m k != mb b m k) = true := by simpa using hx
          clear hx heq
          go_wp2_with fail
          refine (clos_any a m w.heap.size k _ ha hm hp hH1).mono ?_
          rintro e w3 ⟨rfl, n1, rfl⟩
          go_wp2_with fail
          refine (clos_any b m w1.heap.size k _ hb hm hp2 (holds_drew hH2 n1)).mono ?_
          rintro e w3 ⟨rfl, n2, rfl⟩
          go_wp2
          go_ret
          exact ⟨ret_bool Hd.out.symm, below_drewN hbw _⟩
      · obtain rfl : k = a.size := by omega
        have Hd := Lib.hid (difB_no HS.out heq)
        clear heq
        go_wp2
        go_ret
        exact ⟨ret_bool Hd.out.symm, hbw⟩
  · rw [difB_size hsz]
    have hszn : ((a.size : Int) != (b.size : Int)) = true := by simp; omega
    clear hsz
    go_enter Try.func23, Try.ntmps23
    go_wp2_with fail
    go_ret
    exact ⟨rfl, Below.refl _ _⟩

end Go.Proofs.Ytjdlkcpcmobbjaa
