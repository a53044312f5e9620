/- Octet: contracts of Unhex (octet): at digits, and else. -/
import Derived.Test.YtpjlomgiljpadaaDoorOctB
import Derived.Test.YtpjlomgiljpadaaDoorGen
import Derived.LoopTactic
namespace Go.Proofs.YtpjlomgiljpadaaDoor
open Go.RowKit
set_option linter.unusedVariables false

/-- the worth of byte k of s, as a digit -/
def dg (s : ByteArray) (k : Nat) : Int := dig (bt s k)
/-- the i-th byte that the digits of s make -/
def unb (s : ByteArray) (i : Nat) : Int := 16 * dg s (2 * i) + dg s (2 * i + 1)
def unl (s : ByteArray) (n : Nat) : List Int := (List.range n).map (unb s)
/-- the first k bytes of s are digits -/
def isdig (s : ByteArray) (k : Nat) : Prop := ∀ i, i < k → dg s i < 16

theorem unl_succ (s : ByteArray) (n : Nat) : unl s (n + 1) = unl s n ++ [unb s n] := by simp [unl, List.range_succ]
theorem unl_len (s : ByteArray) (n : Nat) : (unl s n).length = n := by simp [unl]

theorem wraps_i64p (n : Int) (h₀ : 0 ≤ n) (h₁ : n < 2 ^ 63) : IntKind.i64.wrap n = n := by rw [IntKind.wrap_i64]; omega
theorem or_dig (a b : Int) (ha : 0 ≤ a ∧ a < 16) (hb : 0 ≤ b ∧ b < 16) : bits BinOp.or IntKind.i64 (a * 16) b = 16 * a + b := by
  rw [bits_join .i64 63 (by decide) wraps_i64p 4 (a * 16) b (by omega) (by omega) (by omega) (by omega) (by omega) (by omega)]; omega

/-- what Unhex holds at the head of a round -/
def unRel (B : Nat) (s : ByteArray) (w : World) (high half v : Value) (wr : World) : Prop :=
  ∃ pos : Nat, pos ≤ s.size ∧ isdig s pos ∧ wr.heap[B + 1]? = some (.stringIter s pos) ∧ Below B w wr ∧
    half = .bool (decide (pos % 2 = 1)) ∧ (pos % 2 = 1 → high = .int .i64 (dg s (pos - 1))) ∧ (∃ h, high = .int .i64 h) ∧
    wr.ownsRow B 5 1 v (pos / 2) ((unl s (pos / 2)).map (Value.int .u8))


def unOk (s : ByteArray) : Prop := isdig s s.size ∧ s.size % 2 = 0
def UnPost (s : ByteArray) (w : World) (e : Ending) (w' : World) : Prop :=
  ((unOk s ∧ e = .returned (.tuple #[.string (strOfNums (unl s (s.size / 2))), .bool true])) ∨ (¬ unOk s ∧ e = .returned (.tuple #[.string ⟨#[]⟩, .bool false]))) ∧ Below w.heap.size w w'

theorem dg_bd (s : ByteArray) (k : Nat) : 0 ≤ dg s k ∧ dg s k ≤ 16 := dig_bd _
theorem bt_of_dg {s : ByteArray} {k : Nat} (h : dg s k < 16) : (48 ≤ bt s k ∧ bt s k ≤ 57) ∨ (65 ≤ bt s k ∧ bt s k ≤ 70) ∨ (97 ≤ bt s k ∧ bt s k ≤ 102) := by
  have := fun h => dig_no (r := bt s k) h
  unfold dg at h
  omega
theorem bt_of_no {s : ByteArray} {k : Nat} (h : ¬ dg s k < 16) : bt s k < 48 ∨ (57 < bt s k ∧ bt s k < 65) ∨ (70 < bt s k ∧ bt s k < 97) ∨ 102 < bt s k := by
  have h0 := fun h => dig_0 (r := bt s k) h
  have h1 := fun h => dig_A (r := bt s k) h
  have h2 := fun h => dig_a (r := bt s k) h
  unfold dg at h
  omega

theorem digit_dg (s : ByteArray) (k : Nat) (w : World) (h : dg s k < 16) :
    Calls Tryd.prog 50 #[.int .i32 (bt s k)] w fun e w' => e = .returned (.tuple #[.int .i64 (dg s k), .bool true]) ∧ w = w' :=
  digit_yes (bt s k) w (bt_of_dg h)

theorem next_dg (s : ByteArray) (pos k : Nat) (wr : World) (hp : pos < s.size) (h : dg s pos < 16) (hit : wr.heap[k]? = some (.stringIter s pos)) (ty : TypeId) :
    (Instr.next (.pointer (some ⟨k, 0, none⟩)) true ty).run Tryd.prog wr = .ok (.tuple #[.bool true, .int .i64 pos, .int .i32 (bt s pos)]) (wr.iterAt k s (pos + 1)) := by
  have hb := bt_of_dg h
  rw [← bt_eq s pos hp] at hb ⊢
  exact Lib.run_next_ascii_at wr k s pos ty hit hp (by omega)

/-- at a byte that is no digit the next rune is none either -/
theorem next_no (s : ByteArray) (pos k : Nat) (wr : World) (hp : pos < s.size) (h : ¬ dg s pos < 16) (hit : wr.heap[k]? = some (.stringIter s pos)) :
    ∃ (r : Int) (d : Nat), (r < 48 ∨ (57 < r ∧ r < 65) ∨ (70 < r ∧ r < 97) ∨ 102 < r) ∧
      ∀ ty, (Instr.next (.pointer (some ⟨k, 0, none⟩)) true ty).run Tryd.prog wr = .ok (.tuple #[.bool true, .int .i64 pos, .int .i32 r]) (wr.iterAt k s (pos + d)) := by
  refine ⟨_, _, ?_, fun ty => Lib.run_next_any_at wr k s pos ty hit hp⟩
  by_cases ha : (s[pos]'hp).toNat < 128
  · rw [decode_ascii s pos hp ha]
    have := bt_of_no h
    rw [← bt_eq s pos hp] at this
    exact this
  · have := (decode_high s pos hp (by omega)).1
    omega

theorem un_step0 {B : Nat} {s : ByteArray} {w wr : World} {pos : Nat} {v half : Value} (hp : pos < s.size) (hd : isdig s pos) (h : dg s pos < 16) (h2 : ¬ pos % 2 = 1)
    (hit : wr.heap[B + 1]? = some (.stringIter s pos)) (hB : Below B w wr) (hown : wr.ownsRow B 5 1 v (pos / 2) ((unl s (pos / 2)).map (Value.int .u8))) :
    unRel B s w (.int .i64 (dg s pos)) (.bool true) v (wr.iterAt (B + 1) s (pos + 1)) := by
  refine ⟨pos + 1, by omega, fun i hi => ?_, Lib.iterAt_heap _ _ _ _ _ hit, Lib.below_iterAt hB (by omega) _ _, ?_, fun _ => ?_, ⟨_, rfl⟩, ?_⟩
  · rcases Nat.lt_or_ge i pos with h' | h'
    · exact hd i h'
    · rw [show i = pos by omega]; exact h
  · rw [decide_eq_true (by omega)]
  · rw [Nat.add_sub_cancel]
  · rw [show (pos + 1) / 2 = pos / 2 by omega]
    exact own_iterAt hown hit _

theorem un_step1 {B : Nat} {s : ByteArray} {w wr w1 : World} {pos : Nat} {v v' : Value} {o : Obj} (hp : pos < s.size) (hd : isdig s pos) (h : dg s pos < 16) (h2 : pos % 2 = 1)
    (hit : wr.heap[B + 1]? = some (.stringIter s pos)) (hB : Below B w wr) (hsz : B + 1 < wr.heap.size) (hown : wr.ownsRow B 5 1 v (pos / 2) ((unl s (pos / 2)).map (Value.int .u8)))
    (hown1 : w1.ownsRow B 5 1 v' (pos / 2 + 1) ((unl s (pos / 2)).map (Value.int .u8) ++ [.int .u8 (16 * dg s (pos - 1) + dg s pos)]))
    (hgrow : ((wr.iterAt (B + 1) s (pos + 1)).alloc o).grownBy w1 v.ownBlock) :
    unRel B s w (.int .i64 (dg s pos)) (.bool false) v' w1 ∧ w1.heap[B + 1]? = some (.stringIter s (pos + 1)) := by
  have hit2 := Lib.iterAt_heap wr (B + 1) s pos (pos + 1) hit
  have hne := own_ne_iter hown hit
  have hit3 : w1.heap[B + 1]? = some (.stringIter s (pos + 1)) := by
    rw [hgrow.block (B + 1) (by simp [Lib.iterAt_size]; omega) hne, Below.heap_alloc _ _ _ (by rw [Lib.iterAt_size]; exact hsz)]
    exact hit2
  have hB2 := Lib.below_iterAt hB (k := B + 1) (by omega) s (pos + 1)
  refine ⟨⟨pos + 1, by omega, fun i hi => ?_, hit3, ?_, ?_, fun _ => ?_, ⟨_, rfl⟩, ?_⟩, hit3⟩
  · rcases Nat.lt_or_ge i pos with h' | h'
    · exact hd i h'
    · rw [show i = pos by omega]; exact h
  · refine (hB2.alloc (by rw [Lib.iterAt_size]; omega) o).grown hgrow (by simp [Lib.iterAt_size]; omega) (fun k hk => (hown.lt k hk).1)
  · rw [decide_eq_false (by omega)]
  · rw [Nat.add_sub_cancel]
  · rw [show (pos + 1) / 2 = pos / 2 + 1 by omega, unl_succ, List.map_append]
    have e : unb s (pos / 2) = 16 * dg s (pos - 1) + dg s pos := by
      unfold unb; rw [show 2 * (pos / 2) = pos - 1 by omega, show pos - 1 + 1 = pos by omega]
    rw [List.map_cons, List.map_nil, e]
    exact hown1

set_option maxHeartbeats 1000000 in
theorem unhex_any (s : ByteArray) (w : World) (hs : s.size ≤ 100000000) :
    Calls Tryd.prog 64 #[.string s] w (UnPost s w) := by
  have hmk := run_make8 ((s.size : Int) / 2) (by omega) (by omega)
  obtain ⟨i0, hi, hz0, hz1, hz2⟩ := info_parts info8
  go_enter Tryd.func64, Tryd.ntmps64
  go_wp2
  clear hmk
  go_loopw [4, 5, 6] (fun v high half wr => unRel w.heap.size s w high half v wr) (fun _ _ _ wr => s.size - wr.iterPos (w.heap.size + 1))
  case atStart =>
    refine ⟨0, by omega, fun i hi => by omega, ?_, ?_, rfl, fun h => by omega, ⟨_, rfl⟩, ?_⟩
    · have := World.iter_heap (w.alloc (.cells (madeCells #[.int .u8 0] (s.size / 2)) 5)) s 0
      simpa using this
    · exact ((Below.refl _ w).alloc (Nat.le_refl _) _).alloc (by simp) _
    · exact (World.ownsRow_made w _ _ (Nat.le_refl _) (by unfold maxLen; omega) (by rw [size_madeCells, Nat.mul_one])).alloc _
  case round =>
    obtain ⟨pos, hpos, hd, hit, hbw, rfl, hhi, ⟨hv, rfl⟩, hown⟩ := hrel
    have hsz : w.heap.size + 1 < wr.heap.size := (Array.getElem?_eq_some_iff.1 hit).1
    have Hit := Lib.hid hit
    by_cases hp : pos < s.size
    · by_cases hdg : dg s pos < 16
      · have hnx := next_dg s pos (w.heap.size + 1) wr hp hdg hit
        have Hit2 := Lib.hid (Lib.iterAt_heap wr (w.heap.size + 1) s pos (pos + 1) hit)
        have hdb := dg_bd s pos
        by_cases h2 : pos % 2 = 1
        · have hdb1 := dg_bd s (pos - 1)
          have hdl := hd (pos - 1) (by omega)
          obtain rfl : hv = dg s (pos - 1) := by have h' := hhi h2; injection h'
          have hown2 := own_iterAt hown hit (pos + 1)
          have hstep := fun v' w1 o => un_step1 (v' := v') (w1 := w1) (o := o) hp hd hdg h2 hit hbw hsz hown
          have hor := or_dig (dg s (pos - 1)) (dg s pos) ⟨hdb1.1, hdl⟩ ⟨hdb.1, hdg⟩
          have hsz2 : w.heap.size ≤ (wr.iterAt (w.heap.size + 1) s (pos + 1)).heap.size := by rw [Lib.iterAt_size]; omega
          rw [decide_eq_true h2]
          have H2 := Lib.hid h2
          clear h2 hit hown hd hhi
          go_wp2_with (first | (go_at_call 50; refine (digit_dg _ _ _ hdg).mono ?_; rintro e w' ⟨rfl, rfl⟩) | (at_builtin; refine wpList_append_own _ rfl _ _ 56 rfl w.heap.size 5 i0 (.int .u8 0) 1 1 Tryd.underlying56 hi hz0 hz1 hz2 rfl (by decide) _ (pos / 2) _ rfl (hown2.alloc _) ⟨(wr.iterAt (w.heap.size + 1) s (pos + 1)).heap.size, 0, none⟩ 1 1 [.int .u8 (16 * dg s (pos - 1) + dg s pos)] rfl rfl ?c1 ?c2 ?c3 ?c4 ?c5 ?_))
          case c1 => exact news_one _ _ _
          case c2 => intro u hu; simp at hu; subst hu; rfl
          case c3 => unfold maxLen; omega
          case c4 => omega
          case c5 => simp only [World.size_alloc]; omega
          intro v' w1 hown1 hgrow _
          obtain ⟨hr1, hit3⟩ := hstep v' w1 _ hown1 hgrow
          have Hit3 := Lib.hid hit3
          clear hit3 hown1 hgrow hstep hown2
          go_wp2
          go_roundw
          case rel => exact hr1
          case measure =>
            rw [iterPos_at _ _ _ _ Hit3.out, iterPos_at _ _ _ _ Hit.out]
            omega
        · have hstep := fun half => un_step0 (half := half) hp hd hdg h2 hit hbw hown
          rw [decide_eq_false h2]
          have H2 := Lib.hid h2
          clear h2 hit hown hd hhi
          go_wp2_with (go_at_call 50; refine (digit_dg _ _ _ hdg).mono ?_; rintro e w' ⟨rfl, rfl⟩)
          go_roundw
          case rel => exact hstep (.bool true)
          case measure =>
            rw [iterPos_at _ _ _ _ Hit2.out, iterPos_at _ _ _ _ Hit.out]
            omega
      · obtain ⟨r, d, hr, hnx⟩ := next_no s pos (w.heap.size + 1) wr hp hdg hit
        have hno : ¬ unOk s := fun h => hdg (h.1 pos hp)
        clear hit hown hd hhi
        go_wp2_with (go_at_call 50; refine (digit_no _ _ hr).mono ?_; rintro e w' ⟨rfl, rfl⟩)
        go_ret2
        exact ⟨.inr ⟨hno, rfl⟩, Lib.below_iterAt hbw (by omega) _ _⟩
    · have hnx : ∀ ty, (Instr.next (.pointer (some ⟨w.heap.size + 1, 0, none⟩)) true ty).run Tryd.prog wr = _ := fun ty => Lib.run_next_end_at wr (w.heap.size + 1) s pos ty hit hp
      obtain rfl : pos = s.size := by omega
      by_cases h2 : s.size % 2 = 1
      · have hno : ¬ unOk s := fun h => by have := h.2; omega
        rw [decide_eq_true h2]
        clear hit hown hd hhi h2
        go_wp2
        go_ret2
        exact ⟨.inr ⟨hno, rfl⟩, hbw⟩
      · have hyes : unOk s := ⟨hd, by omega⟩
        have hcv := conv_own (P := Tryd.prog) wr 56 9 5 Tryd.underlying56 Tryd.underlying5 Tryd.underlying9 hown
        rw [decide_eq_false h2]
        clear hit hown hd hhi h2
        go_wp2
        go_ret2
        exact ⟨.inl ⟨hyes, rfl⟩, hbw⟩

end Go.Proofs.YtpjlomgiljpadaaDoor
