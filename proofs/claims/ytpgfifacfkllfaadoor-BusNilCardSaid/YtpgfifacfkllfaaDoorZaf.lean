/- Frame: the contracts of the document's KeyBits of narrow frames, Key. Frame: the contract of the document's Key; the walk of FrameKeys. Conf: what is known of a node; contracts of the document's Right, State, Do. Conf: the contract of the document's Do. -/
import Derived.Test.YtpgfifacfkllfaaDoorZae
import Derived.Test.YtpgfifacfkllfaaDoorZab
namespace Go.Proofs.YtpgfifacfkllfaaDoor
open Go.RowKit
set_option linter.unusedVariables false

theorem narrowL_len (i : Int) (r dd : Bool) (k : Nat) : (narrowL i r dd k).length = 13 + k := by simp [narrowL, bitsL_len]; omega
theorem narrowL_succ (i : Int) (r dd : Bool) (k : Nat) : narrowL i r dd (k + 1) = narrowL i r dd k ++ [false] := by
  unfold narrowL; rw [List.replicate_succ']; simp
def narRel (W : World) (i : Int) (r dd : Bool) (v j : Value) (wr : World) : Prop := ∃ k : Nat, k ≤ 19 ∧ j = .int .i64 k ∧ gath W.heap.size W v (narrowL i r dd k) wr

set_option maxHeartbeats 4000000 in
theorem kb_narrow {i n l : Int} {d : ByteArray} {r dd : Bool} (i0 : 0 ≤ i) (i1 : i ≤ 536870911) (n0 : 0 ≤ n) (n1 : n ≤ 63) (he : fE n = false) (hr : fR n = r) (hd : fD n = dd) (w : World) :
    Calls Tryd.prog 32 #[.agg #[.int .i64 i, .int .i64 n, .int .i64 l, .string d]] w (KbPost (narrowL i r dd 19 ++ [dd]) w) := by
  have He := Lib.hid he
  have Hr := Lib.hid hr
  have Hd := Lib.hid hd
  clear he hr hd
  have G0 := Lib.hid (gath.nil (B := (w.alloc (.cells #[.int .i64 i, .int .i64 n, .int .i64 l, .string d] 30)).heap.size) (w := w.alloc (.cells #[.int .i64 i, .int .i64 n, .int .i64 l, .string d] 30)) (wr := w.alloc (.cells #[.int .i64 i, .int .i64 n, .int .i64 l, .string d] 30)) (Below.refl _ _) (Nat.le_refl _))
  go_enter Tryd.func32, Tryd.ntmps32
  go_wp2_with fail
  refine (has1 He.out n0 n1 _ _ _ _).mono ?_
  rintro e w1 ⟨rfl, hb1⟩
  have G1 := Lib.hid (G0.out.below hb1)
  obtain ⟨hc1, hf1⟩ := fbcell G1.out.2.1
  go_wp2_with fail
  refine (rbits11 _ _ i0 i1).mono ?_
  rintro e w2 ⟨v2, rfl, hg2⟩
  obtain ⟨g2, cap2, rfl, hr2⟩ := hg2.row (by rw [bitsL_len]; decide)
  have R2 := Lib.hid hr2
  have G2 := Lib.hid (G1.out.below hg2.2.1)
  obtain ⟨hc2, hf2⟩ := fbcell G2.out.2.1
  clear hr2 hg2
  have L3 : Hid ((bitsL i 11 11).length = 11) := Lib.hid (by rw [bitsL_len])
  have M3 : Hid ((([] : List Bool)).length + 11 ≤ 1000) := Lib.hid (by simp [])
  go_wp2_with (at_builtin; refine wpList_gath rfl _ _ rfl rfl (G2.out) g2 11 _ (bitsL i 11 11) rfl L3.out R2.out M3.out ?_)
  intro v3 w3 hg3
  have G3 := Lib.hid (gath.fix hg3)
  clear hg3
  obtain ⟨hc3, hf3⟩ := fbcell G3.out.2.1
  go_wp2_with fail
  refine (has2 Hr.out n0 n1 _ _ _ _).mono ?_
  rintro e w4 ⟨rfl, hb4⟩
  have G4 := Lib.hid (G3.out.below hb4)
  obtain ⟨hc4, hf4⟩ := fbcell G4.out.2.1
  have L5 : Hid (([r, false]).length = 2) := Lib.hid (by rfl)
  have M5 : Hid (([] ++ bitsL i 11 11).length + 2 ≤ 1000) := Lib.hid (by simp [bitsL_len])
  go_wp2_with (at_builtin; refine wpList_gath rfl _ _ rfl rfl (G4.out.alloc _) w4.heap.size 2 _ ([r, false]) rfl L5.out (row_two _ _ _ _) M5.out ?_)
  intro v5 w5 hg5
  have G5 := Lib.hid (gath.fix hg5)
  clear hg5
  obtain ⟨hc5, hf5⟩ := fbcell G5.out.2.1
  have G6 : Hid (gath (w.alloc (.cells #[.int .i64 i, .int .i64 n, .int .i64 l, .string d] 30)).heap.size (w.alloc (.cells #[.int .i64 i, .int .i64 n, .int .i64 l, .string d] 30)) v5 (narrowL i r dd 0) w5) := Lib.hid (by unfold narrowL; simpa using G5.out)
  clear hc1 hf1 hc2 hf2 hc3 hf3 hc4 hf4
  go_wp2_with fail
  go_loopw [3, 4] (fun v j wr => narRel (w.alloc (.cells #[.int .i64 i, .int .i64 n, .int .i64 l, .string d] 30)) i r dd v j wr) (fun _ j _ => 19 - (intOf j).toNat)
  case atStart => exact ⟨0, by omega, rfl, G6.out⟩
  case round =>
    obtain ⟨k, hk, rfl, hgk⟩ := hrel
    have GK := Lib.hid hgk
    have LK := Lib.hid (narrowL_len i r dd k)
    obtain ⟨hck, hfk⟩ := fbcell hgk.2.1
    clear hgk
    by_cases hp : k < 19
    · have M : Hid ((narrowL i r dd k).length + 1 ≤ 1000) := Lib.hid (by rw [LK.out]; omega)
      go_wp2_with (at_builtin; refine wpList_gath rfl _ _ rfl rfl (GK.out.alloc _) wr.heap.size 1 _ [false] rfl rfl (row_one _ _ _) M.out ?_)
      intro v' w' hg'
      have G' := Lib.hid (gath.fix hg')
      clear hg'
      go_wp2
      go_roundw
      case rel => exact ⟨k + 1, by omega, by go_num, by rw [narrowL_succ]; exact G'.out⟩
      case measure => simp [intOf]; omega
    · obtain rfl : k = 19 := by omega
      go_wp2_with fail
      refine (has8 Hd.out n0 n1 _ _ _ _).mono ?_
      rintro e w7 ⟨rfl, hb7⟩
      have G7 := Lib.hid (GK.out.below hb7)
      have M : Hid ((narrowL i r dd 19).length + 1 ≤ 1000) := Lib.hid (by rw [LK.out]; omega)
      go_wp2_with (at_builtin; refine wpList_gath rfl _ _ rfl rfl (G7.out.alloc _) w7.heap.size 1 _ [dd] rfl rfl (row_one _ _ _) M.out ?_)
      intro v' w' hg'
      have G' := Lib.hid (gath.fix hg')
      clear hg'
      go_wp2
      go_ret
      exact ⟨_, rfl, G'.out.base⟩

/-! ### the number of bits -/
def valL (l : List Bool) : Int := l.foldl (fun a b => 2 * a + b01 b) 0
theorem valL_snoc (l : List Bool) (b : Bool) : valL (l ++ [b]) = 2 * valL l + b01 b := by unfold valL; rw [List.foldl_append]; rfl
theorem snoc_ind {P : List Bool → Prop} (h0 : P []) (h1 : ∀ l b, P l → P (l ++ [b])) (l : List Bool) : P l := by
  rw [← List.reverse_reverse l]
  induction l.reverse with
  | nil => exact h0
  | cons a t ih => rw [List.reverse_cons]; exact h1 _ _ ih
theorem valL_bd (l : List Bool) : 0 ≤ valL l ∧ valL l < 2 ^ l.length := by
  refine snoc_ind (P := fun l => 0 ≤ valL l ∧ valL l < 2 ^ l.length) (by simp [valL]) (fun l b ih => ?_) l
  · show 0 ≤ valL (l ++ [b]) ∧ valL (l ++ [b]) < 2 ^ (l ++ [b]).length
    rw [valL_snoc, List.length_append]
    have := b01_bd b
    have e : (2 : Int) ^ (l.length + [b].length) = 2 * 2 ^ l.length := by rw [List.length_singleton, Int.pow_succ]; omega
    omega
theorem valL_app (a b : List Bool) : valL (a ++ b) = valL a * 2 ^ b.length + valL b := by
  refine snoc_ind (P := fun b => valL (a ++ b) = valL a * 2 ^ b.length + valL b) (by simp [valL]) (fun l x ih => ?_) b
  · show valL (a ++ (l ++ [x])) = valL a * 2 ^ (l ++ [x]).length + valL (l ++ [x])
    rw [← List.append_assoc, valL_snoc, valL_snoc, ih, List.length_append]
    have e : (2 : Int) ^ (l.length + [x].length) = 2 * 2 ^ l.length := by rw [List.length_singleton, Int.pow_succ]; omega
    rw [e, Int.mul_add]
    have e2 : 2 * (valL a * 2 ^ l.length) = valL a * (2 * 2 ^ l.length) := by rw [← Int.mul_assoc, ← Int.mul_assoc, Int.mul_comm 2 (valL a)]
    omega
theorem valL_bits (n : Int) (h0 : 0 ≤ n) (m : Nat) : ∀ k, k ≤ m → valL (bitsL n m k) = hv n (m - k) % 2 ^ k
  | 0, _ => by simp [bitsL, valL]
  | k + 1, hk => by
    have ih := valL_bits n h0 m k (by omega)
    rw [bitsL_succ, valL_snoc, ih]
    have e1 : m - k = (m - (k + 1)) + 1 := by omega
    rw [e1, hv_succ]
    unfold fbitB
    rw [show m - 1 - k = m - (k + 1) by omega]
    generalize hv n (m - (k + 1)) = x
    have e : (2 : Int) ^ (k + 1) = 2 ^ k * 2 := Int.pow_succ _ _
    have hp : (0 : Int) < 2 ^ k := Int.pow_pos (by decide)
    rw [e]
    have hx : x % 2 = 0 ∨ x % 2 = 1 := by omega
    have hdm : x = 2 * (x / 2) + x % 2 := by omega
    have h3 : x % (2 ^ k * 2) = 2 * (x / 2 % 2 ^ k) + x % 2 := by
      have hq := Int.mul_ediv_add_emod (x / 2) (2 ^ k)
      have hr0 := Int.emod_nonneg (x / 2) (Int.ne_of_gt hp)
      have hr1 := Int.emod_lt_of_pos (x / 2) hp
      have h4 : x = (2 * (x / 2 % 2 ^ k) + x % 2) + (2 ^ k * 2) * (x / 2 / 2 ^ k) := by
        have h5 : (2 ^ k * 2) * (x / 2 / 2 ^ k) = 2 * (2 ^ k * (x / 2 / 2 ^ k)) := by rw [Int.mul_comm (2 ^ k) 2, Int.mul_assoc]
        omega
      have h6 : x % (2 ^ k * 2) = ((2 * (x / 2 % 2 ^ k) + x % 2) + (2 ^ k * 2) * (x / 2 / 2 ^ k)) % (2 ^ k * 2) := congrArg (· % (2 ^ k * 2)) h4
      rw [h6, Int.add_mul_emod_self_left]
      exact Int.emod_eq_of_lt (by omega) (by omega)
    rw [h3]
    rcases hx with h | h <;> simp [h, b01]

end Go.Proofs.YtpgfifacfkllfaaDoor

namespace Go.Proofs.YtpgfifacfkllfaaDoor
open Go.RowKit
set_option linter.unusedVariables false

theorem valL_whole {n : Int} (h0 : 0 ≤ n) (m : Nat) (h1 : n < 2 ^ m) : valL (bitsL n m m) = n := by
  rw [valL_bits n h0 m m (Nat.le_refl _), Nat.sub_self, hv_zero]
  exact Int.emod_eq_of_lt h0 h1
theorem valL_two (a b : Bool) : valL [a, b] = 2 * b01 a + b01 b := by cases a <;> cases b <;> decide
theorem valL_one (a : Bool) : valL [a] = b01 a := by cases a <;> decide
theorem valL_zeros : ∀ k : Nat, valL (List.replicate k false) = 0
  | 0 => rfl
  | k + 1 => by rw [List.replicate_succ', valL_snoc, valL_zeros k]; rfl
theorem valL_wide {i : Int} (i0 : 0 ≤ i) (i1 : i ≤ 536870911) (r dd : Bool) : valL (wideL i r dd) = i / 262144 * 4194304 + 3145728 + i % 262144 * 4 + b01 r * 2 + b01 dd := by
  unfold wideL
  rw [valL_app, valL_app, valL_app, valL_app, valL_app, valL_whole (by omega) 11 (by omega), valL_whole (by omega) 18 (by omega), valL_two, valL_one, valL_one]
  simp [valL, b01, bitsL_len]
  omega
theorem valL_narrow {i : Int} (i0 : 0 ≤ i) (i1 : i ≤ 2047) (r dd : Bool) : valL (narrowL i r dd 19 ++ [dd]) = i * 4194304 + b01 r * 2097152 + b01 dd := by
  unfold narrowL
  rw [valL_app, valL_app, valL_app, valL_app, valL_zeros, valL_whole i0 11 (by omega), valL_two, valL_one, List.length_replicate]
  simp [valL, b01]
  omega
theorem wideL_len (i : Int) (r dd : Bool) : (wideL i r dd).length = 33 := by simp [wideL, bitsL_len]
theorem narrowL_len2 (i : Int) (r dd : Bool) : (narrowL i r dd 19 ++ [dd]).length = 33 := by simp [narrowL_len]

theorem rowAt.cell {w : World} {g : Nat} {l : List Bool} (h : rowAt w g l) (k : Nat) (hk : k < l.length) : w.cell? ⟨g, k, none⟩ = some (.bool l[k]) := by
  have := h k (.bool l[k]) (by simp [boolRow, hk])
  have e : (⟨g, 0, none⟩ : Addr).add k = ⟨g, k, none⟩ := by unfold Addr.add; split <;> simp_all
  rwa [e] at this
theorem valL_take {l : List Bool} {k : Nat} (hk : k < l.length) : valL (l.take (k + 1)) = 2 * valL (l.take k) + b01 l[k] := by
  rw [List.take_succ_eq_append_getElem hk, valL_snoc]
theorem valL_take_bd {l : List Bool} {k : Nat} (h33 : l.length = 33) : 0 ≤ valL (l.take k) ∧ valL (l.take k) ≤ 8589934592 := by
  have h := valL_bd (l.take k)
  have h2 : (2 : Int) ^ (l.take k).length ≤ 2 ^ 33 := by
    have h3 : 2 ^ (l.take k).length ≤ 2 ^ 33 := Nat.pow_le_pow_right (by decide) (by rw [List.length_take]; omega)
    exact_mod_cast h3
  omega

def keyRel (L : List Bool) (a i : Value) : Prop := ∃ k : Nat, k ≤ 33 ∧ i = .int .i64 k ∧ a = .int .i64 (valL (L.take k))

set_option maxHeartbeats 4000000 in
theorem rkey_no {i n l : Int} {d : ByteArray} (h : (okF i n l d.size && !fX n) = false) (w : World) :
    Calls Tryd.prog 18 #[.agg #[.int .i64 i, .int .i64 n, .int .i64 l, .string d]] w fun e w' => e = .returned (.int .i64 (-1)) ∧ Below w.heap.size w w' := by
  cases ho : okF i n l d.size
  · have H := Lib.hid ho
    clear h ho
    go_enter Tryd.func18, Tryd.ntmps18
    go_wp2_with fail
    refine (rright_v H.out _).mono ?_
    rintro e w1 ⟨rfl, hb⟩
    go_wp2
    go_ret
    exact ⟨rfl, fbelow_a _ hb⟩
  · have H := Lib.hid ho
    have g := good ho
    have n0 := g.n0
    have n1 := g.n1
    have hx : fX n = true := by rw [ho] at h; simpa using h
    have HX := Lib.hid hx
    clear h ho hx g
    go_enter Tryd.func18, Tryd.ntmps18
    go_wp2_with fail
    refine (rright_v H.out _).mono ?_
    rintro e w1 ⟨rfl, hb⟩
    obtain ⟨hc, hf⟩ := fbcell hb
    go_wp2_with fail
    refine (has4 HX.out n0 n1 _ _ _ _).mono ?_
    rintro e w2 ⟨rfl, hb2⟩
    go_wp2
    go_ret
    exact ⟨rfl, fbelow_t (fbelow_a _ hb) hb2⟩

set_option maxHeartbeats 4000000 in
theorem rkey_yes {i n l : Int} {d : ByteArray} {L : List Bool} (h : okF i n l d.size = true) (hx : fX n = false) (hL : L.length = 33)
    (hkb : ∀ w, Calls Tryd.prog 32 #[.agg #[.int .i64 i, .int .i64 n, .int .i64 l, .string d]] w (KbPost L w)) (w : World) :
    Calls Tryd.prog 18 #[.agg #[.int .i64 i, .int .i64 n, .int .i64 l, .string d]] w fun e w' => e = .returned (.int .i64 (valL L)) ∧ Below w.heap.size w w' := by
  have H := Lib.hid h
  have g := good h
  have n0 := g.n0
  have n1 := g.n1
  have HX := Lib.hid hx
  have HK := Lib.hid hkb
  have HL := Lib.hid hL
  clear h hx g hkb hL
  go_enter Tryd.func18, Tryd.ntmps18
  go_wp2_with fail
  refine (rright_v H.out _).mono ?_
  rintro e w1 ⟨rfl, hb1⟩
  obtain ⟨hc1, hf1⟩ := fbcell hb1
  have hz1 : w.heap.size < w1.heap.size := by have := hb1.size; simp only [World.size_alloc] at this; omega
  go_wp2_with fail
  refine (has4 HX.out n0 n1 _ _ _ _).mono ?_
  rintro e w2 ⟨rfl, hb2⟩
  obtain ⟨hc2, hf2⟩ := fbcell hb2
  go_wp2_with fail
  refine (HK.out _).mono ?_
  rintro e w3 ⟨v3, rfl, hg3⟩
  obtain ⟨g3, cap3, rfl, hr3⟩ := hg3.row (by rw [HL.out]; decide)
  rw [HL.out]
  have HR := Lib.hid hr3
  have hbb := fbelow_t (fbelow_t (fbelow_a _ hb1) hb2) hg3.2.1
  clear hr3 hg3 hc1 hf1 hc2 hf2
  go_wp2_with fail
  go_loop [3, 5] (fun a i => keyRel L a i) (fun _ i => 33 - (intOf i).toNat)
  case atStart => exact ⟨0, by omega, rfl, rfl⟩
  case round =>
    obtain ⟨k, hk, rfl, rfl⟩ := hrel
    by_cases hp : k < 33
    · have hpl : k < L.length := by rw [HL.out]; exact hp
      obtain ⟨q, hq⟩ : ∃ q, L[k]'hpl = q := ⟨_, rfl⟩
      have hcell := HR.out.cell k hpl
      obtain ⟨h0, h1⟩ := valL_take_bd (k := k) HL.out
      have hS := valL_take hpl
      rw [hq] at hcell hS
      have HS := Lib.hid hS
      clear hpl hS hq
      cases q
      · go_wp2
        go_round
        case rel => exact ⟨k + 1, by omega, by go_num, by rw [HS.out]; simp [b01]⟩
        case measure => simp [intOf]; omega
      · go_wp2
        go_round
        case rel => exact ⟨k + 1, by omega, by go_num, by rw [HS.out]; simp [b01]⟩
        case measure => simp [intOf]; omega
    · obtain rfl : k = 33 := by omega
      go_wp2
      go_ret
      exact ⟨fret_int (by rw [List.take_of_length_le (by rw [HL.out]; decide)]), hbb⟩

theorem rkey_any {i n l : Int} {d : ByteArray} (w : World) :
    Calls Tryd.prog 18 #[.agg #[.int .i64 i, .int .i64 n, .int .i64 l, .string d]] w fun e w' => e = .returned (.int .i64 (keyV i n l d.size)) ∧ Below w.heap.size w w' := by
  unfold keyV
  cases h : (okF i n l d.size && !fX n)
  · exact rkey_no h w
  · simp only [Bool.and_eq_true, Bool.not_eq_true'] at h
    have g := good h.1
    unfold keyN
    cases he : fE n
    · have i1 : i ≤ 2047 := by have := g.i1; rw [topN_v he h.2] at this; simpa using this
      refine (rkey_yes h.1 h.2 (narrowL_len2 i (fR n) (fD n)) (fun w => kb_narrow g.i0 g.top g.n0 g.n1 he rfl rfl w) w).mono fun e w' ⟨h1, h2⟩ => ⟨?_, h2⟩
      rw [h1, valL_narrow g.i0 i1]
      rfl
    · refine (rkey_yes h.1 h.2 (wideL_len i (fR n) (fD n)) (fun w => kb_wide g.i0 g.top g.n0 g.n1 he rfl rfl w) w).mono fun e w' ⟨h1, h2⟩ => ⟨?_, h2⟩
      rw [h1, valL_wide g.i0 g.top]
      rfl
theorem rkey_v {i n l v : Int} {d : ByteArray} (h : keyV i n l d.size = v) (w : World) :
    Calls Tryd.prog 18 #[.agg #[.int .i64 i, .int .i64 n, .int .i64 l, .string d]] w fun e w' => e = .returned (.int .i64 v) ∧ Below w.heap.size w w' := by
  rw [← h]; exact rkey_any w

end Go.Proofs.YtpgfifacfkllfaaDoor

namespace Go.Proofs.YtpgfifacfkllfaaDoor
open Go.RowKit
set_option linter.unusedVariables false

structure Cf where
  t : Int
  r : Int
  o : Bool
  d : Int
def Cf.ok (c : Cf) : Bool := decide (0 ≤ c.t) && decide (c.t ≤ 263) && decide (0 ≤ c.r) && decide (c.r ≤ 135) && decide (0 ≤ c.d) && (if c.o then decide (255 < c.t) else decide (c.t ≤ 255) && decide (c.d = 0))
def Cf.state (c : Cf) : Int := if c.ok then (if c.o then 3 else if 127 < c.t ∨ 127 < c.r then 2 else if 95 < c.t ∨ 95 < c.r then 1 else 0) else -1
abbrev cfV (c : Cf) : Value := .agg #[.int .i64 c.t, .int .i64 c.r, .bool c.o, .int .i64 c.d]

set_option maxHeartbeats 2000000 in
theorem cfright_v {t r d : Int} {o q : Bool} (h : Cf.ok ⟨t, r, o, d⟩ = q) (w : World) :
    Calls Tryd.prog 53 #[.agg #[.int .i64 t, .int .i64 r, .bool o, .int .i64 d]] w fun e w' => e = .returned (.bool q) ∧ Below w.heap.size w w' := by
  have H := Lib.hid h
  clear h
  cases o
  all_goals (
    go_enter Tryd.func53, Tryd.ntmps53
    go_wp2
    all_goals (
      go_ret
      refine ⟨fret_bool ?_, (Below.refl _ _).alloc (Nat.le_refl _) _⟩
      rw [← H.out, Bool.eq_iff_iff]
      unfold Cf.ok
      simp <;> omega))

set_option maxHeartbeats 2000000 in
theorem cfstate_v {t r d v : Int} {o : Bool} (h : Cf.state ⟨t, r, o, d⟩ = v) (w : World) :
    Calls Tryd.prog 54 #[.agg #[.int .i64 t, .int .i64 r, .bool o, .int .i64 d]] w fun e w' => e = .returned (.int .i64 v) ∧ Below w.heap.size w w' := by
  have H := Lib.hid h
  obtain ⟨q, hq⟩ : ∃ q, Cf.ok ⟨t, r, o, d⟩ = q := ⟨_, rfl⟩
  have HQ := Lib.hid hq
  clear h hq
  cases q
  · have HV : Hid (-1 = v) := Lib.hid (by rw [← H.out]; unfold Cf.state; rw [HQ.out]; rfl)
    go_enter Tryd.func54, Tryd.ntmps54
    go_wp2_with fail
    refine (cfright_v HQ.out _).mono ?_
    rintro e w1 ⟨rfl, hb1⟩
    go_wp2
    go_ret
    exact ⟨fret_int HV.out, fbelow_a _ hb1⟩
  · have HV : Hid ((if o = true then 3 else if 127 < t ∨ 127 < r then 2 else if 95 < t ∨ 95 < r then 1 else 0) = v) := Lib.hid (by rw [← H.out]; unfold Cf.state; rw [HQ.out]; rfl)
    clear H
    cases o
    all_goals (
      go_enter Tryd.func54, Tryd.ntmps54
      go_wp2_with fail
      refine (cfright_v HQ.out _).mono ?_
      rintro e w1 ⟨rfl, hb1⟩
      have HB := Lib.hid (fbelow_a _ hb1)
      obtain ⟨hc, hf⟩ := fbcell hb1
      have hz : w.heap.size < w1.heap.size := by have := hb1.size; simp only [World.size_alloc] at this; omega
      clear hb1
      go_wp2
      all_goals (
        go_ret
        refine ⟨fret_int ?_, HB.out⟩
        have hv := HV.out
        rw [← hv]
        simp
        try omega))
end Go.Proofs.YtpgfifacfkllfaaDoor

namespace Go.Proofs.YtpgfifacfkllfaaDoor
open Go.RowKit
set_option linter.unusedVariables false

def Cf.sent (c : Cf) : Cf := if 0 < c.t then ⟨c.t - 1, c.r, c.o, c.d⟩ else c
def Cf.heard (c : Cf) : Cf := if 127 < c.r then ⟨c.t, 119, c.o, c.d⟩ else if 0 < c.r then ⟨c.t, c.r - 1, c.o, c.d⟩ else c
def Cf.failed (c : Cf) : Cf := ⟨c.t + 8, c.r, c.o || decide (255 < c.t + 8), c.d⟩
def Cf.missed (c : Cf) : Cf := ⟨c.t, min (if c.state = 2 then c.r + 1 else c.r + 8) 135, c.o, c.d⟩
def Cf.idle (c : Cf) (back : Int) : Cf := if (if back < 1 then 1 else back) - 1 ≤ c.d then ⟨0, 0, false, 0⟩ else ⟨c.t, c.r, c.o, c.d + 1⟩
/-- what is known of a node behind whatever happens -/
def Cf.do_ (c : Cf) (what back : Int) : Cf :=
  if c.ok = false then c else if c.o then (if what = 4 then c.idle back else c)
  else if what = 0 then c.sent else if what = 1 then c.heard else if what = 2 then c.failed else if what = 3 then c.missed else c

theorem cfV_eq {a b c : Int} {o : Bool} {x : Cf} (h : (⟨a, b, o, c⟩ : Cf) = x) : Ending.returned (.agg #[.int .i64 a, .int .i64 b, .bool o, .int .i64 c]) = .returned (cfV x) := by subst h; rfl
theorem cf_done {w w1 : World} (h : Below w.heap.size w w1) (a b c e : Value) : Below w.heap.size w ((((w1.setCell ⟨w.heap.size + 1, 0, none⟩ a).setCell ⟨w.heap.size + 1, 1, none⟩ b).setCell ⟨w.heap.size + 1, 2, none⟩ c).setCell ⟨w.heap.size + 1, 3, none⟩ e) :=
  ((((h.setCell (p := ⟨w.heap.size + 1, 0, none⟩) (Nat.le_succ _) _).setCell (p := ⟨w.heap.size + 1, 1, none⟩) (Nat.le_succ _) _).setCell (p := ⟨w.heap.size + 1, 2, none⟩) (Nat.le_succ _) _).setCell (p := ⟨w.heap.size + 1, 3, none⟩) (Nat.le_succ _) _)

def BoxC (w : World) (b : Nat) (t r : Int) (o : Bool) (d : Int) : Prop := w.heap[b]? = some (.cells #[.int .i64 t, .int .i64 r, .bool o, .int .i64 d] 42 (0, 0))
theorem BoxC.lt {w : World} {b : Nat} {t r d : Int} {o : Bool} (h : BoxC w b t r o d) : b < w.heap.size := (Array.getElem?_eq_some_iff.1 h).1
theorem BoxC.made (w : World) (t r : Int) (o : Bool) (d : Int) : BoxC (w.alloc (.cells #[.int .i64 t, .int .i64 r, .bool o, .int .i64 d] 42)) w.heap.size t r o d := by unfold BoxC World.alloc; simp
theorem BoxC.later {w w' : World} {b : Nat} {t r d : Int} {o : Bool} (h : BoxC w b t r o d) (hb : Below w.heap.size w w') : BoxC w' b t r o d := (hb.block b h.lt).trans h
theorem BoxC.cells {w : World} {b : Nat} {t r d : Int} {o : Bool} (h : BoxC w b t r o d) : w.cell? ⟨b, 0, none⟩ = some (.int .i64 t) ∧ w.cell? ⟨b, 1, none⟩ = some (.int .i64 r) ∧ w.cell? ⟨b, 2, none⟩ = some (.bool o) ∧ w.cell? ⟨b, 3, none⟩ = some (.int .i64 d) := by
  unfold BoxC at h
  refine ⟨?_, ?_, ?_, ?_⟩ <;> (rw [Lib.cell_of_heap h]; rfl)
theorem BoxC.live {w : World} {b : Nat} {t r d : Int} {o : Bool} (h : BoxC w b t r o d) : w.frozen? ⟨b, 0, none⟩ = false ∧ w.frozen? ⟨b, 1, none⟩ = false ∧ w.frozen? ⟨b, 2, none⟩ = false ∧ w.frozen? ⟨b, 3, none⟩ = false := by
  unfold BoxC at h
  exact ⟨Lib.frozen_of_heap h 0, Lib.frozen_of_heap h 1, Lib.frozen_of_heap h 2, Lib.frozen_of_heap h 3⟩
theorem BoxC.two (w : World) (t r : Int) (o : Bool) (d : Int) {w1 : World} (hb : Below ((w.alloc (.cells #[.int .i64 t, .int .i64 r, .bool o, .int .i64 d] 42)).alloc (.cells #[.int .i64 0, .int .i64 0, .bool false, .int .i64 0] 42)).heap.size ((w.alloc (.cells #[.int .i64 t, .int .i64 r, .bool o, .int .i64 d] 42)).alloc (.cells #[.int .i64 0, .int .i64 0, .bool false, .int .i64 0] 42)) w1) :
    BoxC w1 w.heap.size t r o d ∧ BoxC w1 (w.heap.size + 1) 0 0 false 0 ∧ Below w.heap.size w w1 := by
  have h1 := (BoxC.made w t r o d).later ((Below.refl _ _).alloc (Nat.le_refl _) (.cells #[.int .i64 0, .int .i64 0, .bool false, .int .i64 0] 42))
  have h2 := BoxC.made (w.alloc (.cells #[.int .i64 t, .int .i64 r, .bool o, .int .i64 d] 42)) 0 0 false 0
  rw [World.size_alloc] at h2
  exact ⟨h1.later hb, h2.later hb, fbelow_a _ (fbelow_a _ hb)⟩

set_option maxHeartbeats 4000000 in
theorem cfdo_v {t r d what back : Int} {o : Bool} (hb1 : -9223372036854775808 ≤ back) (hb2 : back ≤ 9223372036854775807) (w : World) :
    Calls Tryd.prog 44 #[.agg #[.int .i64 t, .int .i64 r, .bool o, .int .i64 d], .int .i64 what, .int .i64 back] w fun e w' => e = .returned (cfV (Cf.do_ ⟨t, r, o, d⟩ what back)) ∧ Below w.heap.size w w' := by
  obtain ⟨x, hx⟩ : ∃ x, Cf.do_ ⟨t, r, o, d⟩ what back = x := ⟨_, rfl⟩
  have HX := Lib.hid hx
  rw [hx]
  obtain ⟨q, hq⟩ : ∃ q, Cf.ok ⟨t, r, o, d⟩ = q := ⟨_, rfl⟩
  have HQ := Lib.hid hq
  clear hx
  cases q
  · clear hq
    go_enter Tryd.func44, Tryd.ntmps44
    go_wp2_with fail
    refine (cfright_v HQ.out _).mono ?_
    rintro e w1 ⟨rfl, hb⟩
    have HB := Lib.hid (BoxC.two w t r o d hb)
    clear hb
    obtain ⟨a0, a1, a2, a3⟩ := HB.out.1.cells
    obtain ⟨r0, r1, r2, r3⟩ := HB.out.2.1.cells
    obtain ⟨f0, f1, f2, f3⟩ := HB.out.1.live
    obtain ⟨g0, g1, g2, g3⟩ := HB.out.2.1.live
    have hz : w.heap.size < w1.heap.size := HB.out.1.lt
    have hy : w.heap.size + 1 < w1.heap.size := HB.out.2.1.lt
    go_wp2
    refine bodyPost_ret (v := _) (by simp [results, Tryd.results44, go_sem, r0, r1, r2, r3]; exact ⟨rfl, rfl, rfl, rfl⟩) rfl ⟨cfV_eq ?_, ?_⟩
    · have hx := HX.out
      rw [← hx]
      unfold Cf.do_
      rw [if_pos HQ.out]
    · exact cf_done HB.out.2.2 _ _ _ _
  have hbd : 0 ≤ t ∧ t ≤ 263 ∧ 0 ≤ r ∧ r ≤ 135 ∧ 0 ≤ d := by
    unfold Cf.ok at hq
    simp only [Bool.and_eq_true, decide_eq_true_eq] at hq
    omega
  obtain ⟨t0, t1, q0, q1, d0⟩ := hbd
  cases o
  · by_cases h0 : what = 0
    · subst h0
      go_enter Tryd.func44, Tryd.ntmps44
      go_wp2_with fail
      refine (cfright_v HQ.out _).mono ?_
      rintro e w1 ⟨rfl, hb⟩
      have HB := Lib.hid (BoxC.two w t r false d hb)
      clear hb
      obtain ⟨a0, a1, a2, a3⟩ := HB.out.1.cells
      obtain ⟨r0, r1, r2, r3⟩ := HB.out.2.1.cells
      obtain ⟨f0, f1, f2, f3⟩ := HB.out.1.live
      obtain ⟨g0, g1, g2, g3⟩ := HB.out.2.1.live
      have hz : w.heap.size < w1.heap.size := HB.out.1.lt
      have hy : w.heap.size + 1 < w1.heap.size := HB.out.2.1.lt
      go_wp2
      all_goals (
        refine bodyPost_ret (v := _) (by simp [results, Tryd.results44, go_sem, r0, r1, r2, r3]; exact ⟨rfl, rfl, rfl, rfl⟩) rfl ⟨cfV_eq ?_, ?_⟩
        · have hx := HX.out
          rw [← hx]
          unfold Cf.do_
          rw [if_neg (by rw [HQ.out]; decide)]
          simp [Cf.sent]
          try first
          | omega
          | (intros; omega)
          | (split <;> simp <;> omega)
          | (split <;> omega)
          | (refine ⟨?_, ?_⟩ <;> intros <;> omega)
        · exact cf_done (by first | exact HB.out.2.2 | exact HB.out.2.2.setCell (p := ⟨w.heap.size, _, none⟩) (Nat.le_refl _) _ | exact (HB.out.2.2.setCell (p := ⟨w.heap.size, _, none⟩) (Nat.le_refl _) _).setCell (p := ⟨w.heap.size, _, none⟩) (Nat.le_refl _) _) _ _ _ _)
    by_cases h1 : what = 1
    · subst h1
      go_enter Tryd.func44, Tryd.ntmps44
      go_wp2_with fail
      refine (cfright_v HQ.out _).mono ?_
      rintro e w1 ⟨rfl, hb⟩
      have HB := Lib.hid (BoxC.two w t r false d hb)
      clear hb
      obtain ⟨a0, a1, a2, a3⟩ := HB.out.1.cells
      obtain ⟨r0, r1, r2, r3⟩ := HB.out.2.1.cells
      obtain ⟨f0, f1, f2, f3⟩ := HB.out.1.live
      obtain ⟨g0, g1, g2, g3⟩ := HB.out.2.1.live
      have hz : w.heap.size < w1.heap.size := HB.out.1.lt
      have hy : w.heap.size + 1 < w1.heap.size := HB.out.2.1.lt
      go_wp2
      all_goals (
        refine bodyPost_ret (v := _) (by simp [results, Tryd.results44, go_sem, r0, r1, r2, r3]; exact ⟨rfl, rfl, rfl, rfl⟩) rfl ⟨cfV_eq ?_, ?_⟩
        · have hx := HX.out
          rw [← hx]
          unfold Cf.do_
          rw [if_neg (by rw [HQ.out]; decide)]
          simp [Cf.heard]
          try first
          | omega
          | (intros; omega)
          | (split <;> simp <;> omega)
          | (split <;> omega)
          | (refine ⟨?_, ?_⟩ <;> intros <;> omega)
        · exact cf_done (by first | exact HB.out.2.2 | exact HB.out.2.2.setCell (p := ⟨w.heap.size, _, none⟩) (Nat.le_refl _) _ | exact (HB.out.2.2.setCell (p := ⟨w.heap.size, _, none⟩) (Nat.le_refl _) _).setCell (p := ⟨w.heap.size, _, none⟩) (Nat.le_refl _) _) _ _ _ _)
    by_cases h2 : what = 2
    · subst h2
      go_enter Tryd.func44, Tryd.ntmps44
      go_wp2_with fail
      refine (cfright_v HQ.out _).mono ?_
      rintro e w1 ⟨rfl, hb⟩
      have HB := Lib.hid (BoxC.two w t r false d hb)
      clear hb
      obtain ⟨a0, a1, a2, a3⟩ := HB.out.1.cells
      obtain ⟨r0, r1, r2, r3⟩ := HB.out.2.1.cells
      obtain ⟨f0, f1, f2, f3⟩ := HB.out.1.live
      obtain ⟨g0, g1, g2, g3⟩ := HB.out.2.1.live
      have hz : w.heap.size < w1.heap.size := HB.out.1.lt
      have hy : w.heap.size + 1 < w1.heap.size := HB.out.2.1.lt
      go_wp2
      all_goals (
        refine bodyPost_ret (v := _) (by simp [results, Tryd.results44, go_sem, r0, r1, r2, r3]; exact ⟨rfl, rfl, rfl, rfl⟩) rfl ⟨cfV_eq ?_, ?_⟩
        · have hx := HX.out
          rw [← hx]
          unfold Cf.do_
          rw [if_neg (by rw [HQ.out]; decide)]
          simp [Cf.failed]
          try first
          | omega
          | (intros; omega)
          | (split <;> simp <;> omega)
          | (split <;> omega)
          | (refine ⟨?_, ?_⟩ <;> intros <;> omega)
        · exact cf_done (by first | exact HB.out.2.2 | exact HB.out.2.2.setCell (p := ⟨w.heap.size, _, none⟩) (Nat.le_refl _) _ | exact (HB.out.2.2.setCell (p := ⟨w.heap.size, _, none⟩) (Nat.le_refl _) _).setCell (p := ⟨w.heap.size, _, none⟩) (Nat.le_refl _) _) _ _ _ _)
    by_cases h3 : what = 3
    · subst h3
      obtain ⟨v, hv⟩ : ∃ v, Cf.state ⟨t, r, false, d⟩ = v := ⟨_, rfl⟩
      have HV := Lib.hid hv
      clear hv
      go_enter Tryd.func44, Tryd.ntmps44
      go_wp2_with fail
      refine (cfright_v HQ.out _).mono ?_
      rintro e w1 ⟨rfl, hb⟩
      have HB := Lib.hid (BoxC.two w t r false d hb)
      clear hb
      obtain ⟨a0, a1, a2, a3⟩ := HB.out.1.cells
      obtain ⟨r0, r1, r2, r3⟩ := HB.out.2.1.cells
      obtain ⟨f0, f1, f2, f3⟩ := HB.out.1.live
      obtain ⟨g0, g1, g2, g3⟩ := HB.out.2.1.live
      have hz : w.heap.size < w1.heap.size := HB.out.1.lt
      have hy : w.heap.size + 1 < w1.heap.size := HB.out.2.1.lt
      go_wp2_with fail
      refine (cfstate_v HV.out _).mono ?_
      rintro e w2 ⟨rfl, hb⟩
      have HB2 : Hid (BoxC w2 w.heap.size t r false d ∧ BoxC w2 (w.heap.size + 1) 0 0 false 0 ∧ Below w.heap.size w w2) := Lib.hid ⟨HB.out.1.later hb, HB.out.2.1.later hb, fbelow_t HB.out.2.2 hb⟩
      clear hb a0 a1 a2 a3 r0 r1 r2 r3 f0 f1 f2 f3 g0 g1 g2 g3 hz hy
      obtain ⟨a0, a1, a2, a3⟩ := HB2.out.1.cells
      obtain ⟨r0, r1, r2, r3⟩ := HB2.out.2.1.cells
      obtain ⟨f0, f1, f2, f3⟩ := HB2.out.1.live
      obtain ⟨g0, g1, g2, g3⟩ := HB2.out.2.1.live
      have hz : w.heap.size < w2.heap.size := HB2.out.1.lt
      have hy : w.heap.size + 1 < w2.heap.size := HB2.out.2.1.lt
      by_cases hv2 : v = 2
      · subst hv2
        go_wp2
        all_goals (
          refine bodyPost_ret (v := _) (by simp [results, Tryd.results44, go_sem, r0, r1, r2, r3]; exact ⟨rfl, rfl, rfl, rfl⟩) rfl ⟨cfV_eq ?_, ?_⟩
          · have hx := HX.out
            rw [← hx]
            unfold Cf.do_
            rw [if_neg (by rw [HQ.out]; decide)]
            simp [HV.out, Cf.missed]
            try first
            | omega
            | (intros; omega)
            | (split <;> simp <;> omega)
            | (split <;> omega)
            | (refine ⟨?_, ?_⟩ <;> intros <;> omega)
          · exact cf_done (by first | exact HB2.out.2.2 | exact HB2.out.2.2.setCell (p := ⟨w.heap.size, _, none⟩) (Nat.le_refl _) _ | exact (HB2.out.2.2.setCell (p := ⟨w.heap.size, _, none⟩) (Nat.le_refl _) _).setCell (p := ⟨w.heap.size, _, none⟩) (Nat.le_refl _) _) _ _ _ _)
      · go_wp2
        all_goals (
          refine bodyPost_ret (v := _) (by simp [results, Tryd.results44, go_sem, r0, r1, r2, r3]; exact ⟨rfl, rfl, rfl, rfl⟩) rfl ⟨cfV_eq ?_, ?_⟩
          · have hx := HX.out
            rw [← hx]
            unfold Cf.do_
            rw [if_neg (by rw [HQ.out]; decide)]
            simp [HV.out, hv2, Cf.missed]
            try first
            | omega
            | (intros; omega)
            | (split <;> simp <;> omega)
            | (split <;> omega)
            | (refine ⟨?_, ?_⟩ <;> intros <;> omega)
          · exact cf_done (by first | exact HB2.out.2.2 | exact HB2.out.2.2.setCell (p := ⟨w.heap.size, _, none⟩) (Nat.le_refl _) _ | exact (HB2.out.2.2.setCell (p := ⟨w.heap.size, _, none⟩) (Nat.le_refl _) _).setCell (p := ⟨w.heap.size, _, none⟩) (Nat.le_refl _) _) _ _ _ _)
    go_enter Tryd.func44, Tryd.ntmps44
    go_wp2_with fail
    refine (cfright_v HQ.out _).mono ?_
    rintro e w1 ⟨rfl, hb⟩
    have HB := Lib.hid (BoxC.two w t r false d hb)
    clear hb
    obtain ⟨a0, a1, a2, a3⟩ := HB.out.1.cells
    obtain ⟨r0, r1, r2, r3⟩ := HB.out.2.1.cells
    obtain ⟨f0, f1, f2, f3⟩ := HB.out.1.live
    obtain ⟨g0, g1, g2, g3⟩ := HB.out.2.1.live
    have hz : w.heap.size < w1.heap.size := HB.out.1.lt
    have hy : w.heap.size + 1 < w1.heap.size := HB.out.2.1.lt
    go_wp2
    all_goals (
      refine bodyPost_ret (v := _) (by simp [results, Tryd.results44, go_sem, r0, r1, r2, r3]; exact ⟨rfl, rfl, rfl, rfl⟩) rfl ⟨cfV_eq ?_, ?_⟩
      · have hx := HX.out
        rw [← hx]
        unfold Cf.do_
        rw [if_neg (by rw [HQ.out]; decide)]
        simp [h0, h1, h2, h3]
        try first
        | omega
        | (intros; omega)
        | (split <;> simp <;> omega)
        | (split <;> omega)
        | (refine ⟨?_, ?_⟩ <;> intros <;> omega)
      · exact cf_done (by first | exact HB.out.2.2 | exact HB.out.2.2.setCell (p := ⟨w.heap.size, _, none⟩) (Nat.le_refl _) _ | exact (HB.out.2.2.setCell (p := ⟨w.heap.size, _, none⟩) (Nat.le_refl _) _).setCell (p := ⟨w.heap.size, _, none⟩) (Nat.le_refl _) _) _ _ _ _)
  · by_cases h4 : what = 4
    · subst h4
      go_enter Tryd.func44, Tryd.ntmps44
      go_wp2_with fail
      refine (cfright_v HQ.out _).mono ?_
      rintro e w1 ⟨rfl, hb⟩
      have HB := Lib.hid (BoxC.two w t r true d hb)
      clear hb
      obtain ⟨a0, a1, a2, a3⟩ := HB.out.1.cells
      obtain ⟨r0, r1, r2, r3⟩ := HB.out.2.1.cells
      obtain ⟨f0, f1, f2, f3⟩ := HB.out.1.live
      obtain ⟨g0, g1, g2, g3⟩ := HB.out.2.1.live
      have hz : w.heap.size < w1.heap.size := HB.out.1.lt
      have hy : w.heap.size + 1 < w1.heap.size := HB.out.2.1.lt
      go_wp2
      all_goals (
        refine bodyPost_ret (v := _) (by simp [results, Tryd.results44, go_sem, r0, r1, r2, r3]; exact ⟨rfl, rfl, rfl, rfl⟩) rfl ⟨cfV_eq ?_, ?_⟩
        · have hx := HX.out
          rw [← hx]
          unfold Cf.do_
          rw [if_neg (by rw [HQ.out]; decide)]
          simp [Cf.idle]
          try first
          | omega
          | (intros; omega)
          | (split <;> simp <;> omega)
          | (split <;> omega)
          | (refine ⟨?_, ?_⟩ <;> intros <;> omega)
        · exact cf_done (by first | exact HB.out.2.2 | exact HB.out.2.2.setCell (p := ⟨w.heap.size, _, none⟩) (Nat.le_refl _) _ | exact (HB.out.2.2.setCell (p := ⟨w.heap.size, _, none⟩) (Nat.le_refl _) _).setCell (p := ⟨w.heap.size, _, none⟩) (Nat.le_refl _) _) _ _ _ _)
    go_enter Tryd.func44, Tryd.ntmps44
    go_wp2_with fail
    refine (cfright_v HQ.out _).mono ?_
    rintro e w1 ⟨rfl, hb⟩
    have HB := Lib.hid (BoxC.two w t r true d hb)
    clear hb
    obtain ⟨a0, a1, a2, a3⟩ := HB.out.1.cells
    obtain ⟨r0, r1, r2, r3⟩ := HB.out.2.1.cells
    obtain ⟨f0, f1, f2, f3⟩ := HB.out.1.live
    obtain ⟨g0, g1, g2, g3⟩ := HB.out.2.1.live
    have hz : w.heap.size < w1.heap.size := HB.out.1.lt
    have hy : w.heap.size + 1 < w1.heap.size := HB.out.2.1.lt
    go_wp2
    all_goals (
      refine bodyPost_ret (v := _) (by simp [results, Tryd.results44, go_sem, r0, r1, r2, r3]; exact ⟨rfl, rfl, rfl, rfl⟩) rfl ⟨cfV_eq ?_, ?_⟩
      · have hx := HX.out
        rw [← hx]
        unfold Cf.do_
        rw [if_neg (by rw [HQ.out]; decide)]
        simp [h4]
        try first
        | omega
        | (intros; omega)
        | (split <;> simp <;> omega)
        | (split <;> omega)
        | (refine ⟨?_, ?_⟩ <;> intros <;> omega)
      · exact cf_done (by first | exact HB.out.2.2 | exact HB.out.2.2.setCell (p := ⟨w.heap.size, _, none⟩) (Nat.le_refl _) _ | exact (HB.out.2.2.setCell (p := ⟨w.heap.size, _, none⟩) (Nat.le_refl _) _).setCell (p := ⟨w.heap.size, _, none⟩) (Nat.le_refl _) _) _ _ _ _)
end Go.Proofs.YtpgfifacfkllfaaDoor
