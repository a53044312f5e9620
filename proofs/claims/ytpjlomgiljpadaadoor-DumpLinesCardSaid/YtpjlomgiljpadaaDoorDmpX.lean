/- Dump: the closure that cuts a text off, piece by piece. -/
import Derived.Test.YtpjlomgiljpadaaDoorDmpU
namespace Go.Proofs.YtpjlomgiljpadaaDoor
open Go.RowKit
set_option linter.unusedVariables false

/-! ### runes of more than one byte hold no byte below 128 -/
theorem get_bang (s : ByteArray) (k : Nat) (h : k < s.size) : ((s.get! k).toNat : Int) = bt s k := by
  rw [← bt_eq s k h]
  simp [ByteArray.get!, getElem!_pos, h]
  rfl
/-- at a byte from 128 on: the rune is none below 128, and neither is any byte of it -/
theorem decode_hi (s : ByteArray) (pos : Nat) (h : pos < s.size) (ha : 128 ≤ bt s pos) :
    128 ≤ (Utf8.decode s pos).1 ∧ 1 ≤ (Utf8.decode s pos).2 ∧ pos + (Utf8.decode s pos).2 ≤ s.size ∧ ∀ j, pos ≤ j → j < pos + (Utf8.decode s pos).2 → 128 ≤ bt s j := by
  have ha' : 128 ≤ (s[pos]'h).toNat := by have := bt_eq s pos h; omega
  have hh := decode_high s pos h ha'
  refine ⟨hh.1, hh.2, ?_⟩
  have g0 := get_bang s pos h
  have key : ∀ k, pos + k < s.size → (s.get! (pos + k)).toNat / 64 = 2 → 128 ≤ bt s (pos + k) := by
    intro k hk he
    have := get_bang s (pos + k) hk
    omega
  have one : ∀ n, n = 1 → pos + n ≤ s.size ∧ ∀ j, pos ≤ j → j < pos + n → 128 ≤ bt s j := by
    rintro n rfl
    refine ⟨by omega, fun j h1 h2 => ?_⟩
    obtain rfl : j = pos := by omega
    exact ha
  unfold Utf8.decode
  simp only [Nat.add_zero]
  split
  · exact one _ rfl
  · split
    · rename_i hc
      simp only [Bool.and_eq_true, decide_eq_true_eq, beq_iff_eq] at hc
      split
      · refine ⟨by have := hc.2.1; omega, fun j h1 h2 => ?_⟩
        rcases (show j = pos ∨ j = pos + 1 by simp only at h2; omega) with rfl | rfl
        · exact ha
        · exact key 1 hc.2.1 hc.2.2
      · exact one _ rfl
    · split
      · rename_i hc
        simp only [Bool.and_eq_true, decide_eq_true_eq, beq_iff_eq] at hc
        split
        · refine ⟨by have := hc.2.1; omega, fun j h1 h2 => ?_⟩
          rcases (show j = pos ∨ j = pos + 1 ∨ j = pos + 2 by simp only at h2; omega) with rfl | rfl | rfl
          · exact ha
          · exact key 1 hc.1.2.1 hc.1.2.2
          · exact key 2 hc.2.1 hc.2.2
        · exact one _ rfl
      · split
        · rename_i hc
          simp only [Bool.and_eq_true, decide_eq_true_eq, beq_iff_eq] at hc
          split
          · refine ⟨by have := hc.2.1; omega, fun j h1 h2 => ?_⟩
            rcases (show j = pos ∨ j = pos + 1 ∨ j = pos + 2 ∨ j = pos + 3 by simp only at h2; omega) with rfl | rfl | rfl | rfl
            · exact ha
            · exact key 1 hc.1.1.2.1 hc.1.1.2.2
            · exact key 2 hc.1.2.1 hc.1.2.2
            · exact key 3 hc.2.1 hc.2.2
          · exact one _ rfl
        · exact one _ rfl
/-- what 'next' says: the rune, and where the next one begins; between them no byte below 128, but the rune itself -/
theorem next_any (s : ByteArray) (pos k : Nat) (wr : World) (hp : pos < s.size) (hit : wr.heap[k]? = some (.stringIter s pos)) :
    ∃ (r : Int) (d : Nat), 1 ≤ d ∧ pos + d ≤ s.size ∧ ((r = bt s pos ∧ d = 1 ∧ r < 128) ∨ (128 ≤ r ∧ r ≤ 2147483647 ∧ ∀ j, pos ≤ j → j < pos + d → 128 ≤ bt s j)) ∧
      ∀ ty, (Instr.next (.pointer (some ⟨k, 0, none⟩)) true ty).run Tryd.prog wr = .ok (.tuple #[.bool true, .int .i64 pos, .int .i32 r]) (wr.iterAt k s (pos + d)) := by
  refine ⟨_, _, ?_, ?_, ?_, fun ty => Lib.run_next_any_at wr k s pos ty hit hp⟩
  · by_cases ha : (s[pos]'hp).toNat < 128
    · rw [decode_ascii s pos hp ha]; exact Nat.le_refl _
    · exact (decode_high s pos hp (by omega)).2
  · by_cases ha : bt s pos < 128
    · rw [decode_ascii s pos hp (by have := bt_eq s pos hp; omega)]; omega
    · exact (decode_hi s pos hp (by omega)).2.2.1
  · by_cases ha : bt s pos < 128
    · left
      have := bt_eq s pos hp
      rw [decode_ascii s pos hp (by omega)]
      exact ⟨this, rfl, by simp only; omega⟩
    · right
      have hh := decode_hi s pos hp (by omega)
      have := decode_le s pos
      exact ⟨by omega, by omega, hh.2.2.2⟩

/-! ### the closure -/
def CutYes (b : Nat) (p r : ByteArray) (w : World) (e : Ending) (w' : World) : Prop := e = .returned (.tuple #[.string p, .bool true]) ∧ ∃ w1, Below w.heap.size w w1 ∧ w' = w1.setCell ⟨b, 0, none⟩ (.string r)
def CutNo (w : World) (e : Ending) (w' : World) : Prop := e = .returned (.tuple #[.string (ByteArray.mk #[]), .bool false]) ∧ Below w.heap.size w w'

theorem iter_lt {w : World} {k : Nat} {s : ByteArray} {pos : Nat} (h : w.heap[k]? = some (.stringIter s pos)) : k < w.heap.size := (Array.getElem?_eq_some_iff.1 h).1
theorem box_cell {w : World} {b : Nat} {t : ByteArray} {ty : TypeId} (h : w.heap[b]? = some (.cells #[.string t] ty)) : w.cell? ⟨b, 0, none⟩ = some (.string t) ∧ w.frozen? ⟨b, 0, none⟩ = false ∧ b < w.heap.size := by
  refine ⟨?_, ?_, (Array.getElem?_eq_some_iff.1 h).1⟩
  · simp [World.cell?, h]
  · simp [World.frozen?, h]

def cutRel (B : Nat) (t : ByteArray) (k : Nat) (w wr : World) : Prop := ∃ pos : Nat, pos ≤ k ∧ wr.heap[B]? = some (.stringIter t pos) ∧ Below B w wr
set_option maxHeartbeats 2000000 in
theorem cut_no {t : ByteArray} {c : Int} {b : Nat} {ty : TypeId} (hc : ∀ j, j < t.size → bt t j ≠ c) (c0 : 0 ≤ c) (c1 : c < 128) (w : World) (hb : w.heap[b]? = some (.cells #[.string t] ty)) :
    Calls Tryd.prog 49 #[.int .i32 c, .pointer (some ⟨b, 0, none⟩)] w (CutNo w) := by
  obtain ⟨hbc, hbf, hbl⟩ := box_cell hb
  have HC := Lib.hid hc
  clear hc hb
  go_enter Tryd.func49, Tryd.ntmps49
  go_wp2_with fail
  go_loopw [] (fun wr => cutRel w.heap.size t t.size w wr) (fun wr => t.size - wr.iterPos w.heap.size)
  case atStart => exact ⟨0, Nat.zero_le _, World.iter_heap w t 0, (Below.refl _ w).alloc (Nat.le_refl _) _⟩
  case round =>
    obtain ⟨pos, hpos, hit, hbw⟩ := hrel
    have Hit := Lib.hid hit
    have HBW := Lib.hid hbw
    have hsz := iter_lt hit
    by_cases hp : pos < t.size
    · obtain ⟨r, d, d1, d2, hr, hnx⟩ := next_any t pos w.heap.size wr hp hit
      have hrc : (r == c) = false := by
        have := HC.out pos hp
        simp only [beq_eq_false_iff_ne, ne_eq]
        rcases hr with ⟨e, _, _⟩ | ⟨e, _, _⟩
        · rw [e]; exact this
        · omega
      have Hit2 := Lib.hid (Lib.iterAt_heap wr w.heap.size t pos (pos + d) hit)
      have HB2 := Lib.hid (Lib.below_iterAt hbw (k := w.heap.size) (Nat.le_refl _) t (pos + d))
      have hr0 : -2147483648 ≤ r ∧ r ≤ 2147483647 := by have := bt_lt t pos; omega
      clear hit hbw hr
      go_wp2_with fail
      go_roundw
      case rel => exact ⟨pos + d, d2, Hit2.out, HB2.out⟩
      case measure =>
        rw [iterPos_at _ _ _ _ Hit2.out, iterPos_at _ _ _ _ Hit.out]; omega
    · have hnx : ∀ ty, (Instr.next (.pointer (some ⟨w.heap.size, 0, none⟩)) true ty).run Tryd.prog wr = _ := fun ty => Lib.run_next_end_at wr w.heap.size t pos ty hit hp
      clear hit hbw
      go_wp2_with fail
      go_ret2
      exact ⟨rfl, HBW.out⟩

set_option maxHeartbeats 2000000 in
theorem cut_yes {t : ByteArray} {c : Int} {k b : Nat} {ty : TypeId} (hk : k < t.size) (hbk : bt t k = c) (hc : ∀ j, j < k → bt t j ≠ c) (c0 : 0 ≤ c) (c1 : c < 128) (ht : t.size ≤ 100000000) (w : World) (hb : w.heap[b]? = some (.cells #[.string t] ty)) :
    Calls Tryd.prog 49 #[.int .i32 c, .pointer (some ⟨b, 0, none⟩)] w (CutYes b (t.extract 0 k) (t.extract (k + 1) t.size) w) := by
  obtain ⟨hbc, hbf, hbl⟩ := box_cell hb
  have HC := Lib.hid hc
  have HK := Lib.hid hbk
  clear hc hb hbk
  go_enter Tryd.func49, Tryd.ntmps49
  go_wp2_with fail
  go_loopw [] (fun wr => cutRel w.heap.size t k w wr) (fun wr => t.size - wr.iterPos w.heap.size)
  case atStart => exact ⟨0, Nat.zero_le _, World.iter_heap w t 0, (Below.refl _ w).alloc (Nat.le_refl _) _⟩
  case round =>
    obtain ⟨pos, hpos, hit, hbw⟩ := hrel
    have Hit := Lib.hid hit
    have HBW := Lib.hid hbw
    have hsz := iter_lt hit
    have hp : pos < t.size := by omega
    obtain ⟨r, d, d1, d2, hr, hnx⟩ := next_any t pos w.heap.size wr hp hit
    have Hit2 := Lib.hid (Lib.iterAt_heap wr w.heap.size t pos (pos + d) hit)
    have HB2 := Lib.hid (Lib.below_iterAt hbw (k := w.heap.size) (Nat.le_refl _) t (pos + d))
    have hr0 : -2147483648 ≤ r ∧ r ≤ 2147483647 := by have := bt_lt t pos; omega
    by_cases hpk : pos = k
    · subst hpk
      have hrc : (r == c) = true := by
        simp only [beq_iff_eq]
        rcases hr with ⟨e, _, _⟩ | ⟨_, _, e⟩
        · rw [e]; exact HK.out
        · have := e pos (Nat.le_refl _) (by omega)
          have := HK.out
          omega
      have hcell : (wr.iterAt w.heap.size t (pos + d)).cell? ⟨b, 0, none⟩ = some (.string t) := by rw [(HB2.out).cell (p := ⟨b, 0, none⟩) hbl]; exact hbc
      have hfroz : (wr.iterAt w.heap.size t (pos + d)).frozen? ⟨b, 0, none⟩ = false := by rw [(HB2.out).frozen (p := ⟨b, 0, none⟩) hbl]; exact hbf
      clear hit hbw hr hbc hbf hsz
      go_wp2_with fail
      go_ret2
      exact ⟨rfl, _, HB2.out, rfl⟩
    · have hrc : (r == c) = false := by
        have := HC.out pos (by omega)
        simp only [beq_eq_false_iff_ne, ne_eq]
        rcases hr with ⟨e, _, _⟩ | ⟨e, _, _⟩
        · rw [e]; exact this
        · omega
      have hle : pos + d ≤ k := by
        rcases hr with ⟨_, e, _⟩ | ⟨_, _, e⟩
        · omega
        · apply Classical.byContradiction
          intro hc
          have := e k (by omega) (by omega)
          have := HK.out
          omega
      clear hit hbw hr
      go_wp2_with fail
      go_roundw
      case rel => exact ⟨pos + d, hle, Hit2.out, HB2.out⟩
      case measure =>
        rw [iterPos_at _ _ _ _ Hit2.out, iterPos_at _ _ _ _ Hit.out]; omega

set_option maxHeartbeats 1000000 in
/-- cutter itself: a closure over a new box -/
theorem cutter_any (s : ByteArray) (w : World) :
    Calls Tryd.prog 27 #[.string s] w fun e w' => e = .returned (.func (.func 49) #[] #[.pointer (some ⟨w.heap.size, 0, none⟩)]) ∧ w.alloc (.cells #[.string s] 9) = w' := by
  go_enter Tryd.func27, Tryd.ntmps27
  go_wp2
  go_ret
  exact ⟨rfl, rfl⟩

end Go.Proofs.YtpjlomgiljpadaaDoor
