/- Frame: the contracts of the document's KeyBits of narrow frames, Key. -/
import Derived.Test.YtellhnhkdbbngaaDoorFrmQ
namespace Go.Proofs.YtellhnhkdbbngaaDoor
open Go.RowKit
set_option linter.unusedVariables false

theorem narrowL_len (i : Int) (r dd : Bool) (k : Nat) : (narrowL i r dd k).length = 13 + k := by simp [narrowL, bitsL_len]; omega
theorem narrowL_succ (i : Int) (r dd : Bool) (k : Nat) : narrowL i r dd (k + 1) = narrowL i r dd k ++ [false] := by
  unfold narrowL; rw [List.replicate_succ']; simp
def narRel (W : World) (i : Int) (r dd : Bool) (v j : Value) (wr : World) : Prop := ∃ k : Nat, k ≤ 19 ∧ j = .int .i64 k ∧ gath W.heap.size W v (narrowL i r dd k) wr

set_option maxHeartbeats 4000000 in
theorem kb_narrow {i n l : Int} {d : ByteArray} {r dd : Bool} (i0 : 0 ≤ i) (i1 : i ≤ 536870911) (n0 : 0 ≤ n) (n1 : n ≤ 63) (he : fE n = false) (hr : fR n = r) (hd : fD n = dd) (w : World) :
    Calls Tryd.prog 34 #[.agg #[.int .i64 i, .int .i64 n, .int .i64 l, .string d]] w (KbPost (narrowL i r dd 19 ++ [dd]) w) := by
  have He := Lib.hid he
  have Hr := Lib.hid hr
  have Hd := Lib.hid hd
  clear he hr hd
  have G0 := Lib.hid (gath.nil (B := (w.alloc (.cells #[.int .i64 i, .int .i64 n, .int .i64 l, .string d] 23)).heap.size) (w := w.alloc (.cells #[.int .i64 i, .int .i64 n, .int .i64 l, .string d] 23)) (wr := w.alloc (.cells #[.int .i64 i, .int .i64 n, .int .i64 l, .string d] 23)) (Below.refl _ _) (Nat.le_refl _))
  go_enter Tryd.func34, Tryd.ntmps34
  go_wp2_with fail
  refine (has1 He.out n0 n1 _ _ _ _).mono ?_
  rintro e w1 ⟨rfl, hb1⟩
  have G1 := Lib.hid (G0.out.below hb1)
  obtain ⟨hc1, hf1⟩ := fbcell G1.out.2.1
  go_wp2_with fail
  refine (rbits11 _ _ i0 i1).mono ?_
  rintro e w2 ⟨v2, rfl, hg2⟩
  obtain ⟨g2, cap2, rfl, hr2⟩ := hg2.row (by rw [bitsL_len]; decide)
  have R2 := Lib.hid hr2
  have G2 := Lib.hid (G1.out.below hg2.2.1)
  obtain ⟨hc2, hf2⟩ := fbcell G2.out.2.1
  clear hr2 hg2
  have L3 : Hid ((bitsL i 11 11).length = 11) := Lib.hid (by rw [bitsL_len])
  have M3 : Hid ((([] : List Bool)).length + 11 ≤ 1000) := Lib.hid (by simp [bitsL_len])
  go_wp2_with (at_builtin; refine wpList_gath rfl _ _ rfl rfl (G2.out) g2 11 _ (bitsL i 11 11) rfl L3.out R2.out M3.out ?_)
  intro v3 w3 hg3
  have G3 := Lib.hid (gath.fix hg3)
  clear hg3
  obtain ⟨hc3, hf3⟩ := fbcell G3.out.2.1
  go_wp2_with fail
  refine (has2 Hr.out n0 n1 _ _ _ _).mono ?_
  rintro e w4 ⟨rfl, hb4⟩
  have G4 := Lib.hid (G3.out.below hb4)
  obtain ⟨hc4, hf4⟩ := fbcell G4.out.2.1
  have L5 : Hid (([r, false]).length = 2) := Lib.hid (by rfl)
  have M5 : Hid (([] ++ bitsL i 11 11).length + 2 ≤ 1000) := Lib.hid (by simp [bitsL_len])
  go_wp2_with (at_builtin; refine wpList_gath rfl _ _ rfl rfl (G4.out.alloc _) w4.heap.size 2 _ ([r, false]) rfl L5.out (row_two _ _ _ _) M5.out ?_)
  intro v5 w5 hg5
  have G5 := Lib.hid (gath.fix hg5)
  clear hg5
  obtain ⟨hc5, hf5⟩ := fbcell G5.out.2.1
  have G6 : Hid (gath (w.alloc (.cells #[.int .i64 i, .int .i64 n, .int .i64 l, .string d] 23)).heap.size (w.alloc (.cells #[.int .i64 i, .int .i64 n, .int .i64 l, .string d] 23)) v5 (narrowL i r dd 0) w5) := Lib.hid (by unfold narrowL; simpa using G5.out)
  clear hc1 hf1 hc2 hf2 hc3 hf3 hc4 hf4
  go_wp2_with fail
  go_loopw [3, 4] (fun v j wr => narRel (w.alloc (.cells #[.int .i64 i, .int .i64 n, .int .i64 l, .string d] 23)) i r dd v j wr) (fun _ j _ => 19 - (intOf j).toNat)
  case atStart => exact ⟨0, by omega, rfl, G6.out⟩
  case round =>
    obtain ⟨k, hk, rfl, hgk⟩ := hrel
    have GK := Lib.hid hgk
    have LK := Lib.hid (narrowL_len i r dd k)
    obtain ⟨hck, hfk⟩ := fbcell hgk.2.1
    clear hgk
    by_cases hp : k < 19
    · have M : Hid ((narrowL i r dd k).length + 1 ≤ 1000) := Lib.hid (by rw [LK.out]; omega)
      go_wp2_with (at_builtin; refine wpList_gath rfl _ _ rfl rfl (GK.out.alloc _) wr.heap.size 1 _ [false] rfl rfl (row_one _ _ _) M.out ?_)
      intro v' w' hg'
      have G' := Lib.hid (gath.fix hg')
      clear hg'
      go_wp2
      go_roundw
      case rel => exact ⟨k + 1, by omega, by go_num, by rw [narrowL_succ]; exact G'.out⟩
      case measure => simp [intOf]; omega
    · obtain rfl : k = 19 := by omega
      go_wp2_with fail
      refine (has8 Hd.out n0 n1 _ _ _ _).mono ?_
      rintro e w7 ⟨rfl, hb7⟩
      have G7 := Lib.hid (GK.out.below hb7)
      have M : Hid ((narrowL i r dd 19).length + 1 ≤ 1000) := Lib.hid (by rw [LK.out]; omega)
      go_wp2_with (at_builtin; refine wpList_gath rfl _ _ rfl rfl (G7.out.alloc _) w7.heap.size 1 _ [dd] rfl rfl (row_one _ _ _) M.out ?_)
      intro v' w' hg'
      have G' := Lib.hid (gath.fix hg')
      clear hg'
      go_wp2
      go_ret
      exact ⟨_, rfl, G'.out.base⟩

/-! ### the number of bits -/
def valL (l : List Bool) : Int := l.foldl (fun a b => 2 * a + b01 b) 0
theorem valL_snoc (l : List Bool) (b : Bool) : valL (l ++ [b]) = 2 * valL l + b01 b := by unfold valL; rw [List.foldl_append]; rfl
theorem snoc_ind {P : List Bool → Prop} (h0 : P []) (h1 : ∀ l b, P l → P (l ++ [b])) (l : List Bool) : P l := by
  rw [← List.reverse_reverse l]
  induction l.reverse with
  | nil => exact h0
  | cons a t ih => rw [List.reverse_cons]; exact h1 _ _ ih
theorem valL_bd (l : List Bool) : 0 ≤ valL l ∧ valL l < 2 ^ l.length := by
  refine snoc_ind (P := fun l => 0 ≤ valL l ∧ valL l < 2 ^ l.length) (by simp [valL]) (fun l b ih => ?_) l
  · show 0 ≤ valL (l ++ [b]) ∧ valL (l ++ [b]) < 2 ^ (l ++ [b]).length
    rw [valL_snoc, List.length_append]
    have := b01_bd b
    have e : (2 : Int) ^ (l.length + [b].length) = 2 * 2 ^ l.length := by rw [List.length_singleton, Int.pow_succ]; omega
    omega
theorem valL_app (a b : List Bool) : valL (a ++ b) = valL a * 2 ^ b.length + valL b := by
  refine snoc_ind (P := fun b => valL (a ++ b) = valL a * 2 ^ b.length + valL b) (by simp [valL]) (fun l x ih => ?_) b
  · show valL (a ++ (l ++ [x])) = valL a * 2 ^ (l ++ [x]).length + valL (l ++ [x])
    rw [← List.append_assoc, valL_snoc, valL_snoc, ih, List.length_append]
    have e : (2 : Int) ^ (l.length + [x].length) = 2 * 2 ^ l.length := by rw [List.length_singleton, Int.pow_succ]; omega
    rw [e, Int.mul_add]
    have e2 : 2 * (valL a * 2 ^ l.length) = valL a * (2 * 2 ^ l.length) := by rw [← Int.mul_assoc, ← Int.mul_assoc, Int.mul_comm 2 (valL a)]
    omega
theorem valL_bits (n : Int) (h0 : 0 ≤ n) (m : Nat) : ∀ k, k ≤ m → valL (bitsL n m k) = hv n (m - k) % 2 ^ k
  | 0, _ => by simp [bitsL, valL]
  | k + 1, hk => by
    have ih := valL_bits n h0 m k (by omega)
    rw [bitsL_succ, valL_snoc, ih]
    have e1 : m - k = (m - (k + 1)) + 1 := by omega
    rw [e1, hv_succ]
    unfold bitB
    rw [show m - 1 - k = m - (k + 1) by omega]
    generalize hv n (m - (k + 1)) = x
    have e : (2 : Int) ^ (k + 1) = 2 ^ k * 2 := Int.pow_succ _ _
    have hp : (0 : Int) < 2 ^ k := Int.pow_pos (by decide)
    rw [e]
    have hx : x % 2 = 0 ∨ x % 2 = 1 := by omega
    have hdm : x = 2 * (x / 2) + x % 2 := by omega
    have h3 : x % (2 ^ k * 2) = 2 * (x / 2 % 2 ^ k) + x % 2 := by
      have hq := Int.mul_ediv_add_emod (x / 2) (2 ^ k)
      have hr0 := Int.emod_nonneg (x / 2) (Int.ne_of_gt hp)
      have hr1 := Int.emod_lt_of_pos (x / 2) hp
      have h4 : x = (2 * (x / 2 % 2 ^ k) + x % 2) + (2 ^ k * 2) * (x / 2 / 2 ^ k) := by
        have h5 : (2 ^ k * 2) * (x / 2 / 2 ^ k) = 2 * (2 ^ k * (x / 2 / 2 ^ k)) := by rw [Int.mul_comm (2 ^ k) 2, Int.mul_assoc]
        omega
      have h6 : x % (2 ^ k * 2) = ((2 * (x / 2 % 2 ^ k) + x % 2) + (2 ^ k * 2) * (x / 2 / 2 ^ k)) % (2 ^ k * 2) := congrArg (· % (2 ^ k * 2)) h4
      rw [h6, Int.add_mul_emod_self_left]
      exact Int.emod_eq_of_lt (by omega) (by omega)
    rw [h3]
    rcases hx with h | h <;> simp [h, b01]

end Go.Proofs.YtellhnhkdbbngaaDoor
