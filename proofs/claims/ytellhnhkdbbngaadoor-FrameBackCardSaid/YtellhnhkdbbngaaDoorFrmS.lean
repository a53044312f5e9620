/- Frame: the contract of the document's Key; the walk of FrameKeys. -/
import Derived.Test.YtellhnhkdbbngaaDoorFrmR
namespace Go.Proofs.YtellhnhkdbbngaaDoor
open Go.RowKit
set_option linter.unusedVariables false

theorem valL_whole {n : Int} (h0 : 0 ≤ n) (m : Nat) (h1 : n < 2 ^ m) : valL (bitsL n m m) = n := by
  rw [valL_bits n h0 m m (Nat.le_refl _), Nat.sub_self, hv_zero]
  exact Int.emod_eq_of_lt h0 h1
theorem valL_two (a b : Bool) : valL [a, b] = 2 * b01 a + b01 b := by cases a <;> cases b <;> decide
theorem valL_one (a : Bool) : valL [a] = b01 a := by cases a <;> decide
theorem valL_zeros : ∀ k : Nat, valL (List.replicate k false) = 0
  | 0 => rfl
  | k + 1 => by rw [List.replicate_succ', valL_snoc, valL_zeros k]; rfl
theorem valL_wide {i : Int} (i0 : 0 ≤ i) (i1 : i ≤ 536870911) (r dd : Bool) : valL (wideL i r dd) = i / 262144 * 4194304 + 3145728 + i % 262144 * 4 + b01 r * 2 + b01 dd := by
  unfold wideL
  rw [valL_app, valL_app, valL_app, valL_app, valL_app, valL_whole (by omega) 11 (by omega), valL_whole (by omega) 18 (by omega), valL_two, valL_one, valL_one]
  simp [valL, b01, bitsL_len]
  omega
theorem valL_narrow {i : Int} (i0 : 0 ≤ i) (i1 : i ≤ 2047) (r dd : Bool) : valL (narrowL i r dd 19 ++ [dd]) = i * 4194304 + b01 r * 2097152 + b01 dd := by
  unfold narrowL
  rw [valL_app, valL_app, valL_app, valL_app, valL_zeros, valL_whole i0 11 (by omega), valL_two, valL_one, List.length_replicate]
  simp [valL, b01]
  omega
theorem wideL_len (i : Int) (r dd : Bool) : (wideL i r dd).length = 33 := by simp [wideL, bitsL_len]
theorem narrowL_len2 (i : Int) (r dd : Bool) : (narrowL i r dd 19 ++ [dd]).length = 33 := by simp [narrowL_len]

theorem rowAt.cell {w : World} {g : Nat} {l : List Bool} (h : rowAt w g l) (k : Nat) (hk : k < l.length) : w.cell? ⟨g, k, none⟩ = some (.bool l[k]) := by
  have := h k (.bool l[k]) (by simp [boolRow, hk])
  have e : (⟨g, 0, none⟩ : Addr).add k = ⟨g, k, none⟩ := by unfold Addr.add; split <;> simp_all
  rwa [e] at this
theorem valL_take {l : List Bool} {k : Nat} (hk : k < l.length) : valL (l.take (k + 1)) = 2 * valL (l.take k) + b01 l[k] := by
  rw [List.take_succ_eq_append_getElem hk, valL_snoc]
theorem valL_take_bd {l : List Bool} {k : Nat} (h33 : l.length = 33) : 0 ≤ valL (l.take k) ∧ valL (l.take k) ≤ 8589934592 := by
  have h := valL_bd (l.take k)
  have h2 : (2 : Int) ^ (l.take k).length ≤ 2 ^ 33 := by
    have h3 : 2 ^ (l.take k).length ≤ 2 ^ 33 := Nat.pow_le_pow_right (by decide) (by rw [List.length_take]; omega)
    exact_mod_cast h3
  omega

def keyRel (L : List Bool) (a i : Value) : Prop := ∃ k : Nat, k ≤ 33 ∧ i = .int .i64 k ∧ a = .int .i64 (valL (L.take k))

set_option maxHeartbeats 4000000 in
theorem rkey_no {i n l : Int} {d : ByteArray} (h : (okF i n l d.size && !fX n) = false) (w : World) :
    Calls Tryd.prog 23 #[.agg #[.int .i64 i, .int .i64 n, .int .i64 l, .string d]] w fun e w' => e = .returned (.int .i64 (-1)) ∧ Below w.heap.size w w' := by
  cases ho : okF i n l d.size
  · have H := Lib.hid ho
    clear h ho
    go_enter Tryd.func23, Tryd.ntmps23
    go_wp2_with fail
    refine (rright_v H.out _).mono ?_
    rintro e w1 ⟨rfl, hb⟩
    go_wp2
    go_ret
    exact ⟨rfl, fbelow_a _ hb⟩
  · have H := Lib.hid ho
    have g := good ho
    have n0 := g.n0
    have n1 := g.n1
    have hx : fX n = true := by rw [ho] at h; simpa using h
    have HX := Lib.hid hx
    clear h ho hx g
    go_enter Tryd.func23, Tryd.ntmps23
    go_wp2_with fail
    refine (rright_v H.out _).mono ?_
    rintro e w1 ⟨rfl, hb⟩
    obtain ⟨hc, hf⟩ := fbcell hb
    go_wp2_with fail
    refine (has4 HX.out n0 n1 _ _ _ _).mono ?_
    rintro e w2 ⟨rfl, hb2⟩
    go_wp2
    go_ret
    exact ⟨rfl, fbelow_t (fbelow_a _ hb) hb2⟩

set_option maxHeartbeats 4000000 in
theorem rkey_yes {i n l : Int} {d : ByteArray} {L : List Bool} (h : okF i n l d.size = true) (hx : fX n = false) (hL : L.length = 33)
    (hkb : ∀ w, Calls Tryd.prog 34 #[.agg #[.int .i64 i, .int .i64 n, .int .i64 l, .string d]] w (KbPost L w)) (w : World) :
    Calls Tryd.prog 23 #[.agg #[.int .i64 i, .int .i64 n, .int .i64 l, .string d]] w fun e w' => e = .returned (.int .i64 (valL L)) ∧ Below w.heap.size w w' := by
  have H := Lib.hid h
  have g := good h
  have n0 := g.n0
  have n1 := g.n1
  have HX := Lib.hid hx
  have HK := Lib.hid hkb
  have HL := Lib.hid hL
  clear h hx g hkb hL
  go_enter Tryd.func23, Tryd.ntmps23
  go_wp2_with fail
  refine (rright_v H.out _).mono ?_
  rintro e w1 ⟨rfl, hb1⟩
  obtain ⟨hc1, hf1⟩ := fbcell hb1
  have hz1 : w.heap.size < w1.heap.size := by have := hb1.size; simp only [World.size_alloc] at this; omega
  go_wp2_with fail
  refine (has4 HX.out n0 n1 _ _ _ _).mono ?_
  rintro e w2 ⟨rfl, hb2⟩
  obtain ⟨hc2, hf2⟩ := fbcell hb2
  go_wp2_with fail
  refine (HK.out _).mono ?_
  rintro e w3 ⟨v3, rfl, hg3⟩
  obtain ⟨g3, cap3, rfl, hr3⟩ := hg3.row (by rw [HL.out]; decide)
  rw [HL.out]
  have HR := Lib.hid hr3
  have hbb := fbelow_t (fbelow_t (fbelow_a _ hb1) hb2) hg3.2.1
  clear hr3 hg3 hc1 hf1 hc2 hf2
  go_wp2_with fail
  go_loop [3, 5] (fun a i => keyRel L a i) (fun _ i => 33 - (intOf i).toNat)
  case atStart => exact ⟨0, by omega, rfl, rfl⟩
  case round =>
    obtain ⟨k, hk, rfl, rfl⟩ := hrel
    by_cases hp : k < 33
    · have hpl : k < L.length := by rw [HL.out]; exact hp
      obtain ⟨q, hq⟩ : ∃ q, L[k]'hpl = q := ⟨_, rfl⟩
      have hcell := HR.out.cell k hpl
      obtain ⟨h0, h1⟩ := valL_take_bd (k := k) HL.out
      have hS := valL_take hpl
      rw [hq] at hcell hS
      have HS := Lib.hid hS
      clear hpl hS hq
      cases q
      · go_wp2
        go_round
        case rel => exact ⟨k + 1, by omega, by go_num, by rw [HS.out]; simp [b01]⟩
        case measure => simp [intOf]; omega
      · go_wp2
        go_round
        case rel => exact ⟨k + 1, by omega, by go_num, by rw [HS.out]; simp [b01]⟩
        case measure => simp [intOf]; omega
    · obtain rfl : k = 33 := by omega
      go_wp2
      go_ret
      exact ⟨fret_int (by rw [List.take_of_length_le (by rw [HL.out]; decide)]), hbb⟩

theorem rkey_any {i n l : Int} {d : ByteArray} (w : World) :
    Calls Tryd.prog 23 #[.agg #[.int .i64 i, .int .i64 n, .int .i64 l, .string d]] w fun e w' => e = .returned (.int .i64 (keyV i n l d.size)) ∧ Below w.heap.size w w' := by
  unfold keyV
  cases h : (okF i n l d.size && !fX n)
  · exact rkey_no h w
  · simp only [Bool.and_eq_true, Bool.not_eq_true'] at h
    have g := good h.1
    unfold keyN
    cases he : fE n
    · have i1 : i ≤ 2047 := by have := g.i1; rw [topN_v he h.2] at this; simpa using this
      refine (rkey_yes h.1 h.2 (narrowL_len2 i (fR n) (fD n)) (fun w => kb_narrow g.i0 g.top g.n0 g.n1 he rfl rfl w) w).mono fun e w' ⟨h1, h2⟩ => ⟨?_, h2⟩
      rw [h1, valL_narrow g.i0 i1]
      rfl
    · refine (rkey_yes h.1 h.2 (wideL_len i (fR n) (fD n)) (fun w => kb_wide g.i0 g.top g.n0 g.n1 he rfl rfl w) w).mono fun e w' ⟨h1, h2⟩ => ⟨?_, h2⟩
      rw [h1, valL_wide g.i0 g.top]
      rfl
theorem rkey_v {i n l v : Int} {d : ByteArray} (h : keyV i n l d.size = v) (w : World) :
    Calls Tryd.prog 23 #[.agg #[.int .i64 i, .int .i64 n, .int .i64 l, .string d]] w fun e w' => e = .returned (.int .i64 v) ∧ Below w.heap.size w w' := by
  rw [← h]; exact rkey_any w

end Go.Proofs.YtellhnhkdbbngaaDoor
