/- Frame: the contracts of the document's KeyBits of narrow frames, Key. Frame: the contract of the document's Key; the walk of FrameKeys. Of no program: a row of bytes that the call gathers by append; a slice of bytes that it reads; '[]byte(s)'. Stuff: the plain lists of bits: what is put in, taken out, the longest run, turned bits. No program is meant here. Stuff: slices of bytes; contracts of the document's Right, other, tail. Stuff: contracts of the document's Turn, Stuff, Run, Unstuff. Stuff: contracts of the document's Stuff, Run. Stuff: the contract of the document's Unstuff. The shelf's contracts of strings.Builder's WriteRune and String, laid by hand with marks (any seat that has both). -/
import Derived.Test.YtlfhomahbacmpaaDoorZaf
import Derived.Test.YtlfhomahbacmpaaDoorZad
import Derived.Test.YtlfhomahbacmpaaDoorZac
import Derived.Test.YtlfhomahbacmpaaDoorZaa
import Derived.Lib.ConvBytes
import Derived.Test.YtlfhomahbacmpaaDoorRows
import Derived.WalkKit
import Derived.Shelf.Lays
import Derived.Shelf.Strings.Builder1
import Derived.Shelf.Strings.BuilderF
import Derived.Shelf.Strings.BuilderK
import Derived.Shelf.Strings.BuilderRune
namespace Go.Proofs.YtlfhomahbacmpaaDoor
open Go.RowKit
set_option linter.unusedVariables false

theorem narrowL_len (i : Int) (r dd : Bool) (k : Nat) : (narrowL i r dd k).length = 13 + k := by simp [narrowL, bitsL_len]; omega
theorem narrowL_succ (i : Int) (r dd : Bool) (k : Nat) : narrowL i r dd (k + 1) = narrowL i r dd k ++ [false] := by
  unfold narrowL; rw [List.replicate_succ']; simp
def narRel (W : World) (i : Int) (r dd : Bool) (v j : Value) (wr : World) : Prop := ∃ k : Nat, k ≤ 19 ∧ j = .int .i64 k ∧ gath W.heap.size W v (narrowL i r dd k) wr

set_option maxHeartbeats 4000000 in
theorem kb_narrow {i n l : Int} {d : ByteArray} {r dd : Bool} (i0 : 0 ≤ i) (i1 : i ≤ 536870911) (n0 : 0 ≤ n) (n1 : n ≤ 63) (he : fE n = false) (hr : fR n = r) (hd : fD n = dd) (w : World) :
    Calls Tryd.prog 33 #[.agg #[.int .i64 i, .int .i64 n, .int .i64 l, .string d]] w (KbPost (narrowL i r dd 19 ++ [dd]) w) := by
  have He := Lib.hid he
  have Hr := Lib.hid hr
  have Hd := Lib.hid hd
  clear he hr hd
  have G0 := Lib.hid (gath.nil (B := (w.alloc (.cells #[.int .i64 i, .int .i64 n, .int .i64 l, .string d] 33)).heap.size) (w := w.alloc (.cells #[.int .i64 i, .int .i64 n, .int .i64 l, .string d] 33)) (wr := w.alloc (.cells #[.int .i64 i, .int .i64 n, .int .i64 l, .string d] 33)) (Below.refl _ _) (Nat.le_refl _))
  go_enter Tryd.func33, Tryd.ntmps33
  go_wp2_with fail
  refine (has1 He.out n0 n1 _ _ _ _).mono ?_
  rintro e w1 ⟨rfl, hb1⟩
  have G1 := Lib.hid (G0.out.below hb1)
  obtain ⟨hc1, hf1⟩ := fbcell G1.out.2.1
  go_wp2_with fail
  refine (rbits11 _ _ i0 i1).mono ?_
  rintro e w2 ⟨v2, rfl, hg2⟩
  obtain ⟨g2, cap2, rfl, hr2⟩ := hg2.row (by rw [bitsL_len]; decide)
  have R2 := Lib.hid hr2
  have G2 := Lib.hid (G1.out.below hg2.2.1)
  obtain ⟨hc2, hf2⟩ := fbcell G2.out.2.1
  clear hr2 hg2
  have L3 : Hid ((bitsL i 11 11).length = 11) := Lib.hid (by rw [bitsL_len])
  have M3 : Hid ((([] : List Bool)).length + 11 ≤ 1000) := Lib.hid (by simp [bitsL_len])
  go_wp2_with (at_builtin; refine wpList_gath rfl _ _ rfl rfl (G2.out) g2 11 _ (bitsL i 11 11) rfl L3.out R2.out M3.out ?_)
  intro v3 w3 hg3
  have G3 := Lib.hid (gath.fix hg3)
  clear hg3
  obtain ⟨hc3, hf3⟩ := fbcell G3.out.2.1
  go_wp2_with fail
  refine (has2 Hr.out n0 n1 _ _ _ _).mono ?_
  rintro e w4 ⟨rfl, hb4⟩
  have G4 := Lib.hid (G3.out.below hb4)
  obtain ⟨hc4, hf4⟩ := fbcell G4.out.2.1
  have L5 : Hid (([r, false]).length = 2) := Lib.hid (by rfl)
  have M5 : Hid (([] ++ bitsL i 11 11).length + 2 ≤ 1000) := Lib.hid (by simp [bitsL_len])
  go_wp2_with (at_builtin; refine wpList_gath rfl _ _ rfl rfl (G4.out.alloc _) w4.heap.size 2 _ ([r, false]) rfl L5.out (row_two _ _ _ _) M5.out ?_)
  intro v5 w5 hg5
  have G5 := Lib.hid (gath.fix hg5)
  clear hg5
  obtain ⟨hc5, hf5⟩ := fbcell G5.out.2.1
  have G6 : Hid (gath (w.alloc (.cells #[.int .i64 i, .int .i64 n, .int .i64 l, .string d] 33)).heap.size (w.alloc (.cells #[.int .i64 i, .int .i64 n, .int .i64 l, .string d] 33)) v5 (narrowL i r dd 0) w5) := Lib.hid (by unfold narrowL; simpa using G5.out)
  clear hc1 hf1 hc2 hf2 hc3 hf3 hc4 hf4
  go_wp2_with fail
  go_loopw [3, 4] (fun v j wr => narRel (w.alloc (.cells #[.int .i64 i, .int .i64 n, .int .i64 l, .string d] 33)) i r dd v j wr) (fun _ j _ => 19 - (intOf j).toNat)
  case atStart => exact ⟨0, by omega, rfl, G6.out⟩
  case round =>
    obtain ⟨k, hk, rfl, hgk⟩ := hrel
    have GK := Lib.hid hgk
    have LK := Lib.hid (narrowL_len i r dd k)
    obtain ⟨hck, hfk⟩ := fbcell hgk.2.1
    clear hgk
    by_cases hp : k < 19
    · have M : Hid ((narrowL i r dd k).length + 1 ≤ 1000) := Lib.hid (by rw [LK.out]; omega)
      go_wp2_with (at_builtin; refine wpList_gath rfl _ _ rfl rfl (GK.out.alloc _) wr.heap.size 1 _ [false] rfl rfl (row_one _ _ _) M.out ?_)
      intro v' w' hg'
      have G' := Lib.hid (gath.fix hg')
      clear hg'
      go_wp2
      go_roundw
      case rel => exact ⟨k + 1, by omega, by go_num, by rw [narrowL_succ]; exact G'.out⟩
      case measure => simp [intOf]; omega
    · obtain rfl : k = 19 := by omega
      go_wp2_with fail
      refine (has8 Hd.out n0 n1 _ _ _ _).mono ?_
      rintro e w7 ⟨rfl, hb7⟩
      have G7 := Lib.hid (GK.out.below hb7)
      have M : Hid ((narrowL i r dd 19).length + 1 ≤ 1000) := Lib.hid (by rw [LK.out]; omega)
      go_wp2_with (at_builtin; refine wpList_gath rfl _ _ rfl rfl (G7.out.alloc _) w7.heap.size 1 _ [dd] rfl rfl (row_one _ _ _) M.out ?_)
      intro v' w' hg'
      have G' := Lib.hid (gath.fix hg')
      clear hg'
      go_wp2
      go_ret
      exact ⟨_, rfl, G'.out.base⟩

/-! ### the number of bits -/
def valL (l : List Bool) : Int := l.foldl (fun a b => 2 * a + b01 b) 0
theorem valL_snoc (l : List Bool) (b : Bool) : valL (l ++ [b]) = 2 * valL l + b01 b := by unfold valL; rw [List.foldl_append]; rfl
theorem snoc_ind {P : List Bool → Prop} (h0 : P []) (h1 : ∀ l b, P l → P (l ++ [b])) (l : List Bool) : P l := by
  rw [← List.reverse_reverse l]
  induction l.reverse with
  | nil => exact h0
  | cons a t ih => rw [List.reverse_cons]; exact h1 _ _ ih
theorem valL_bd (l : List Bool) : 0 ≤ valL l ∧ valL l < 2 ^ l.length := by
  refine snoc_ind (P := fun l => 0 ≤ valL l ∧ valL l < 2 ^ l.length) (by simp [valL]) (fun l b ih => ?_) l
  · show 0 ≤ valL (l ++ [b]) ∧ valL (l ++ [b]) < 2 ^ (l ++ [b]).length
    rw [valL_snoc, List.length_append]
    have := b01_bd b
    have e : (2 : Int) ^ (l.length + [b].length) = 2 * 2 ^ l.length := by rw [List.length_singleton, Int.pow_succ]; omega
    omega
theorem valL_app (a b : List Bool) : valL (a ++ b) = valL a * 2 ^ b.length + valL b := by
  refine snoc_ind (P := fun b => valL (a ++ b) = valL a * 2 ^ b.length + valL b) (by simp [valL]) (fun l x ih => ?_) b
  · show valL (a ++ (l ++ [x])) = valL a * 2 ^ (l ++ [x]).length + valL (l ++ [x])
    rw [← List.append_assoc, valL_snoc, valL_snoc, ih, List.length_append]
    have e : (2 : Int) ^ (l.length + [x].length) = 2 * 2 ^ l.length := by rw [List.length_singleton, Int.pow_succ]; omega
    rw [e, Int.mul_add]
    have e2 : 2 * (valL a * 2 ^ l.length) = valL a * (2 * 2 ^ l.length) := by rw [← Int.mul_assoc, ← Int.mul_assoc, Int.mul_comm 2 (valL a)]
    omega
theorem valL_bits (n : Int) (h0 : 0 ≤ n) (m : Nat) : ∀ k, k ≤ m → valL (bitsL n m k) = hv n (m - k) % 2 ^ k
  | 0, _ => by simp [bitsL, valL]
  | k + 1, hk => by
    have ih := valL_bits n h0 m k (by omega)
    rw [bitsL_succ, valL_snoc, ih]
    have e1 : m - k = (m - (k + 1)) + 1 := by omega
    rw [e1, hv_succ]
    unfold fbitB
    rw [show m - 1 - k = m - (k + 1) by omega]
    generalize hv n (m - (k + 1)) = x
    have e : (2 : Int) ^ (k + 1) = 2 ^ k * 2 := Int.pow_succ _ _
    have hp : (0 : Int) < 2 ^ k := Int.pow_pos (by decide)
    rw [e]
    have hx : x % 2 = 0 ∨ x % 2 = 1 := by omega
    have hdm : x = 2 * (x / 2) + x % 2 := by omega
    have h3 : x % (2 ^ k * 2) = 2 * (x / 2 % 2 ^ k) + x % 2 := by
      have hq := Int.mul_ediv_add_emod (x / 2) (2 ^ k)
      have hr0 := Int.emod_nonneg (x / 2) (Int.ne_of_gt hp)
      have hr1 := Int.emod_lt_of_pos (x / 2) hp
      have h4 : x = (2 * (x / 2 % 2 ^ k) + x % 2) + (2 ^ k * 2) * (x / 2 / 2 ^ k) := by
        have h5 : (2 ^ k * 2) * (x / 2 / 2 ^ k) = 2 * (2 ^ k * (x / 2 / 2 ^ k)) := by rw [Int.mul_comm (2 ^ k) 2, Int.mul_assoc]
        omega
      have h6 : x % (2 ^ k * 2) = ((2 * (x / 2 % 2 ^ k) + x % 2) + (2 ^ k * 2) * (x / 2 / 2 ^ k)) % (2 ^ k * 2) := congrArg (· % (2 ^ k * 2)) h4
      rw [h6, Int.add_mul_emod_self_left]
      exact Int.emod_eq_of_lt (by omega) (by omega)
    rw [h3]
    rcases hx with h | h <;> simp [h, b01]

end Go.Proofs.YtlfhomahbacmpaaDoor

namespace Go.Proofs.YtlfhomahbacmpaaDoor
open Go.RowKit
set_option linter.unusedVariables false

theorem valL_whole {n : Int} (h0 : 0 ≤ n) (m : Nat) (h1 : n < 2 ^ m) : valL (bitsL n m m) = n := by
  rw [valL_bits n h0 m m (Nat.le_refl _), Nat.sub_self, hv_zero]
  exact Int.emod_eq_of_lt h0 h1
theorem valL_two (a b : Bool) : valL [a, b] = 2 * b01 a + b01 b := by cases a <;> cases b <;> decide
theorem valL_one (a : Bool) : valL [a] = b01 a := by cases a <;> decide
theorem valL_zeros : ∀ k : Nat, valL (List.replicate k false) = 0
  | 0 => rfl
  | k + 1 => by rw [List.replicate_succ', valL_snoc, valL_zeros k]; rfl
theorem valL_wide {i : Int} (i0 : 0 ≤ i) (i1 : i ≤ 536870911) (r dd : Bool) : valL (wideL i r dd) = i / 262144 * 4194304 + 3145728 + i % 262144 * 4 + b01 r * 2 + b01 dd := by
  unfold wideL
  rw [valL_app, valL_app, valL_app, valL_app, valL_app, valL_whole (by omega) 11 (by omega), valL_whole (by omega) 18 (by omega), valL_two, valL_one, valL_one]
  simp [valL, b01, bitsL_len]
  omega
theorem valL_narrow {i : Int} (i0 : 0 ≤ i) (i1 : i ≤ 2047) (r dd : Bool) : valL (narrowL i r dd 19 ++ [dd]) = i * 4194304 + b01 r * 2097152 + b01 dd := by
  unfold narrowL
  rw [valL_app, valL_app, valL_app, valL_app, valL_zeros, valL_whole i0 11 (by omega), valL_two, valL_one, List.length_replicate]
  simp [valL, b01]
  omega
theorem wideL_len (i : Int) (r dd : Bool) : (wideL i r dd).length = 33 := by simp [wideL, bitsL_len]
theorem narrowL_len2 (i : Int) (r dd : Bool) : (narrowL i r dd 19 ++ [dd]).length = 33 := by simp [narrowL_len]

theorem rowAt.cell {w : World} {g : Nat} {l : List Bool} (h : rowAt w g l) (k : Nat) (hk : k < l.length) : w.cell? ⟨g, k, none⟩ = some (.bool l[k]) := by
  have := h k (.bool l[k]) (by simp [boolRow, hk])
  have e : (⟨g, 0, none⟩ : Addr).add k = ⟨g, k, none⟩ := by unfold Addr.add; split <;> simp_all
  rwa [e] at this
theorem valL_take {l : List Bool} {k : Nat} (hk : k < l.length) : valL (l.take (k + 1)) = 2 * valL (l.take k) + b01 l[k] := by
  rw [List.take_succ_eq_append_getElem hk, valL_snoc]
theorem valL_take_bd {l : List Bool} {k : Nat} (h33 : l.length = 33) : 0 ≤ valL (l.take k) ∧ valL (l.take k) ≤ 8589934592 := by
  have h := valL_bd (l.take k)
  have h2 : (2 : Int) ^ (l.take k).length ≤ 2 ^ 33 := by
    have h3 : 2 ^ (l.take k).length ≤ 2 ^ 33 := Nat.pow_le_pow_right (by decide) (by rw [List.length_take]; omega)
    exact_mod_cast h3
  omega

def keyRel (L : List Bool) (a i : Value) : Prop := ∃ k : Nat, k ≤ 33 ∧ i = .int .i64 k ∧ a = .int .i64 (valL (L.take k))

set_option maxHeartbeats 4000000 in
theorem rkey_no {i n l : Int} {d : ByteArray} (h : (okF i n l d.size && !fX n) = false) (w : World) :
    Calls Tryd.prog 19 #[.agg #[.int .i64 i, .int .i64 n, .int .i64 l, .string d]] w fun e w' => e = .returned (.int .i64 (-1)) ∧ Below w.heap.size w w' := by
  cases ho : okF i n l d.size
  · have H := Lib.hid ho
    clear h ho
    go_enter Tryd.func19, Tryd.ntmps19
    go_wp2_with fail
    refine (rright_v H.out _).mono ?_
    rintro e w1 ⟨rfl, hb⟩
    go_wp2
    go_ret
    exact ⟨rfl, fbelow_a _ hb⟩
  · have H := Lib.hid ho
    have g := good ho
    have n0 := g.n0
    have n1 := g.n1
    have hx : fX n = true := by rw [ho] at h; simpa using h
    have HX := Lib.hid hx
    clear h ho hx g
    go_enter Tryd.func19, Tryd.ntmps19
    go_wp2_with fail
    refine (rright_v H.out _).mono ?_
    rintro e w1 ⟨rfl, hb⟩
    obtain ⟨hc, hf⟩ := fbcell hb
    go_wp2_with fail
    refine (has4 HX.out n0 n1 _ _ _ _).mono ?_
    rintro e w2 ⟨rfl, hb2⟩
    go_wp2
    go_ret
    exact ⟨rfl, fbelow_t (fbelow_a _ hb) hb2⟩

set_option maxHeartbeats 4000000 in
theorem rkey_yes {i n l : Int} {d : ByteArray} {L : List Bool} (h : okF i n l d.size = true) (hx : fX n = false) (hL : L.length = 33)
    (hkb : ∀ w, Calls Tryd.prog 33 #[.agg #[.int .i64 i, .int .i64 n, .int .i64 l, .string d]] w (KbPost L w)) (w : World) :
    Calls Tryd.prog 19 #[.agg #[.int .i64 i, .int .i64 n, .int .i64 l, .string d]] w fun e w' => e = .returned (.int .i64 (valL L)) ∧ Below w.heap.size w w' := by
  have H := Lib.hid h
  have g := good h
  have n0 := g.n0
  have n1 := g.n1
  have HX := Lib.hid hx
  have HK := Lib.hid hkb
  have HL := Lib.hid hL
  clear h hx g hkb hL
  go_enter Tryd.func19, Tryd.ntmps19
  go_wp2_with fail
  refine (rright_v H.out _).mono ?_
  rintro e w1 ⟨rfl, hb1⟩
  obtain ⟨hc1, hf1⟩ := fbcell hb1
  have hz1 : w.heap.size < w1.heap.size := by have := hb1.size; simp only [World.size_alloc] at this; omega
  go_wp2_with fail
  refine (has4 HX.out n0 n1 _ _ _ _).mono ?_
  rintro e w2 ⟨rfl, hb2⟩
  obtain ⟨hc2, hf2⟩ := fbcell hb2
  go_wp2_with fail
  refine (HK.out _).mono ?_
  rintro e w3 ⟨v3, rfl, hg3⟩
  obtain ⟨g3, cap3, rfl, hr3⟩ := hg3.row (by rw [HL.out]; decide)
  rw [HL.out]
  have HR := Lib.hid hr3
  have hbb := fbelow_t (fbelow_t (fbelow_a _ hb1) hb2) hg3.2.1
  clear hr3 hg3 hc1 hf1 hc2 hf2
  go_wp2_with fail
  go_loop [3, 5] (fun a i => keyRel L a i) (fun _ i => 33 - (intOf i).toNat)
  case atStart => exact ⟨0, by omega, rfl, rfl⟩
  case round =>
    obtain ⟨k, hk, rfl, rfl⟩ := hrel
    by_cases hp : k < 33
    · have hpl : k < L.length := by rw [HL.out]; exact hp
      obtain ⟨q, hq⟩ : ∃ q, L[k]'hpl = q := ⟨_, rfl⟩
      have hcell := HR.out.cell k hpl
      obtain ⟨h0, h1⟩ := valL_take_bd (k := k) HL.out
      have hS := valL_take hpl
      rw [hq] at hcell hS
      have HS := Lib.hid hS
      clear hpl hS hq
      cases q
      · go_wp2
        go_round
        case rel => exact ⟨k + 1, by omega, by go_num, by rw [HS.out]; simp [b01]⟩
        case measure => simp [intOf]; omega
      · go_wp2
        go_round
        case rel => exact ⟨k + 1, by omega, by go_num, by rw [HS.out]; simp [b01]⟩
        case measure => simp [intOf]; omega
    · obtain rfl : k = 33 := by omega
      go_wp2
      go_ret
      exact ⟨fret_int (by rw [List.take_of_length_le (by rw [HL.out]; decide)]), hbb⟩

theorem rkey_any {i n l : Int} {d : ByteArray} (w : World) :
    Calls Tryd.prog 19 #[.agg #[.int .i64 i, .int .i64 n, .int .i64 l, .string d]] w fun e w' => e = .returned (.int .i64 (keyV i n l d.size)) ∧ Below w.heap.size w w' := by
  unfold keyV
  cases h : (okF i n l d.size && !fX n)
  · exact rkey_no h w
  · simp only [Bool.and_eq_true, Bool.not_eq_true'] at h
    have g := good h.1
    unfold keyN
    cases he : fE n
    · have i1 : i ≤ 2047 := by have := g.i1; rw [topN_v he h.2] at this; simpa using this
      refine (rkey_yes h.1 h.2 (narrowL_len2 i (fR n) (fD n)) (fun w => kb_narrow g.i0 g.top g.n0 g.n1 he rfl rfl w) w).mono fun e w' ⟨h1, h2⟩ => ⟨?_, h2⟩
      rw [h1, valL_narrow g.i0 i1]
      rfl
    · refine (rkey_yes h.1 h.2 (wideL_len i (fR n) (fD n)) (fun w => kb_wide g.i0 g.top g.n0 g.n1 he rfl rfl w) w).mono fun e w' ⟨h1, h2⟩ => ⟨?_, h2⟩
      rw [h1, valL_wide g.i0 g.top]
      rfl
theorem rkey_v {i n l v : Int} {d : ByteArray} (h : keyV i n l d.size = v) (w : World) :
    Calls Tryd.prog 19 #[.agg #[.int .i64 i, .int .i64 n, .int .i64 l, .string d]] w fun e w' => e = .returned (.int .i64 v) ∧ Below w.heap.size w w' := by
  rw [← h]; exact rkey_any w

end Go.Proofs.YtlfhomahbacmpaaDoor

namespace Go.Proofs.YtlfhomahbacmpaaDoor
open Go.RowKit
set_option linter.unusedVariables false

theorem drewN_two (w : World) (a b : Nat) : (w.drewN a).drewN b = w.drewN (a + b) := by
  unfold World.drewN
  simp [Nat.add_assoc]
theorem info_u8 : (Tryd.prog.info? 5).map (fun i => (i.zero, i.size, i.bytes)) = some (some (.int .u8 0), 1, 1) := by kernel_rfl
theorem news_byte (w : World) (v : Value) (t : TypeId) : ∀ j u, [v][j]? = some u → (w.alloc (.cells #[v] t)).cell? ((⟨w.heap.size, 0, none⟩ : Addr).add j) = some u := by
  intro j u hj
  rcases Nat.lt_or_ge j 1 with h | h
  · obtain rfl : j = 0 := by omega
    simp at hj
    subst hj
    simp [Addr.add, World.cell?_alloc_at _ _ _ _ rfl]
  · rw [List.getElem?_eq_none (by simpa using h)] at hj; cases hj

/-- a slice of bytes that can be read -/
def SlB (w : World) (v : Value) (L : List Int) : Prop :=
  L.length ≤ 140737488355328 ∧ ((L = [] ∧ ∃ A cap, v = .slice A 0 cap) ∨ ∃ g cap, v = .slice (some ⟨g, 0, none⟩) L.length cap ∧ ∀ k, k < L.length → w.cell? ⟨g, k, none⟩ = some (.int .u8 (L.getD k 0)))

def byteRow (L : List Int) : List Value := L.map (Value.int .u8)
theorem byteRow_app (a b : List Int) : byteRow (a ++ b) = byteRow a ++ byteRow b := by simp [byteRow]
/-- what a loop that gathers bytes knows -/
def gathB (B : Nat) (w : World) (v : Value) (L : List Int) (wr : World) : Prop :=
  wr.ownsRow B 5 1 v L.length (byteRow L) ∧ Below B w wr ∧ B ≤ wr.heap.size
theorem gathB.start (w : World) : gathB w.heap.size w (.slice none 0 0) [] w := ⟨World.ownsRow_nil _ _ _ _, Below.refl _ _, Nat.le_refl _⟩
theorem gathB.startB {B : Nat} {w wr : World} (h : Below B w wr) (hB : B ≤ wr.heap.size) : gathB B w (.slice none 0 0) [] wr := ⟨World.ownsRow_nil _ _ _ _, h, hB⟩
theorem gathB.later {B : Nat} {w wr w1 : World} {v : Value} {L : List Int} (h : gathB B w v L wr) (hb : Below wr.heap.size wr w1) : gathB B w v L w1 := by
  obtain ⟨h1, h2, h3⟩ := h
  refine ⟨?_, h2.trans (hb.mono h3), Nat.le_trans h3 hb.size⟩
  refine ⟨h1.1, ?_⟩
  rcases h1.2 with hn | ⟨g, cap, cur, rfl, hbg, hg, rest⟩
  · exact .inl hn
  · exact .inr ⟨g, cap, cur, rfl, hbg, (hb.block g (Array.getElem?_eq_some_iff.1 hg).1).trans hg, rest⟩
theorem gathB.drewN {B : Nat} {w wr : World} {v : Value} {L : List Int} (h : gathB B w v L wr) (n : Nat) : gathB B w v L (wr.drewN n) :=
  h.later ⟨rfl, rfl, rfl, Nat.le_refl _, fun _ _ => rfl⟩
theorem gathB.step {B : Nat} {w wr w1 : World} {v v' : Value} {L : List Int} {b : Int} {T : TypeId} (h : gathB B w v L wr)
    (hown : w1.ownsRow B 5 1 v' (L.length + 1) (byteRow L ++ [.int .u8 b])) (hgr : (wr.alloc (.cells #[.int .u8 b] T)).grownBy w1 v.ownBlock) : gathB B w v' (L ++ [b]) w1 := by
  obtain ⟨h1, h2, h3⟩ := h
  refine ⟨by rw [List.length_append, byteRow_app]; exact hown, (h2.alloc h3 _).grown hgr (by simp; omega) ?_, ?_⟩
  · intro k hk
    rcases h1.2 with ⟨rfl, _⟩ | ⟨g, cap, cur, rfl, hg, _⟩
    · cases hk
    · cases hk; exact hg
  · have := hgr.size; simp at this; omega
theorem gathB.slice {B : Nat} {w wr : World} {v : Value} {L : List Int} (h : gathB B w v L wr) (hm : L.length ≤ 140737488355328) : SlB wr v L := by
  obtain ⟨h1, _, _⟩ := h
  refine ⟨hm, ?_⟩
  rcases h1.2 with ⟨rfl, hn⟩ | ⟨g, cap, cur, rfl, hbg, hg, rest⟩
  · have : L = [] := by
      cases L with
      | nil => rfl
      | cons a L => simp at hn
    subst this
    exact .inl ⟨rfl, none, 0, rfl⟩
  · refine .inr ⟨g, cap, rfl, fun k hk => ?_⟩
    rw [h1.cellAt k (by simpa [byteRow] using hk)]
    unfold byteRow
    rw [List.getElem?_map, List.getElem?_eq_getElem hk]
    simp [List.getD, List.getElem?_eq_getElem hk]
/-- '[]byte(s)': the bytes of s in a block of their own -/
theorem bytesWorld_below (w : World) (e : TypeId) (s : ByteArray) : Below w.heap.size w (Lib.bytesWorld w e s) := by
  refine ⟨rfl, rfl, rfl, by rw [Lib.bytesWorld_size]; omega, fun k hk => Lib.bytesWorld_at_old w e s k hk⟩
theorem bytesWorld_slice (w : World) (e : TypeId) (s : ByteArray) (cap : Nat) (hs : s.size ≤ 140737488355328) : SlB (Lib.bytesWorld w e s) (.slice (some ⟨w.heap.size, 0, none⟩) s.size cap) (byL s) := by
  refine ⟨by rw [byL_len]; exact hs, .inr ⟨w.heap.size, cap, by rw [byL_len], fun k hk => ?_⟩⟩
  rw [byL_len] at hk
  rw [Lib.bytesWorld_cell w e s k hk, byL_getD]
  unfold bt
  simp [List.getD_eq_getElem?_getD]
theorem conv_bytes (s : ByteArray) (w : World) : (convert 9 44 (.string s)).run Tryd.prog w = .ok (.slice (some ⟨w.heap.size, 0, none⟩) s.size (grownCap w s.size 0 5)) (Lib.bytesWorld w 5 s) :=
  Lib.run_convert_string_bytes w _ _ _ s Tryd.underlying9 Tryd.underlying44 Tryd.underlying5
/-- a cut ahead -/
theorem cut_ahead {s : ByteArray} {k : Nat} (h : k ≤ s.size) (w : World) : (Instr.sliceAt 9 (.string s) none (some (.int .i64 (k : Int))) none).run Tryd.prog w = .ok (.string (s.extract 0 k)) w := by
  have e2 : (k : Int) ≤ (s.size : Int) := by omega
  have e3 : ¬ ((s.size : Int) < (k : Int)) := by omega
  simp [go_sem, e2]

end Go.Proofs.YtlfhomahbacmpaaDoor

namespace Go.Proofs.YtlfhomahbacmpaaDoor
open Go.RowKit
set_option linter.unusedVariables false

def isBit (c : Int) : Bool := c == 48 || c == 49
def oth (c : Int) : Int := 97 - c
theorem isBit_iff (c : Int) : isBit c = true ↔ c = 48 ∨ c = 49 := by unfold isBit; simp
theorem oth_bit {c : Int} (h : isBit c = true) : isBit (oth c) = true := by
  rw [isBit_iff] at h ⊢; unfold oth; omega
theorem oth_ne {c : Int} (h : isBit c = true) : oth c ≠ c := by
  rw [isBit_iff] at h; unfold oth; omega
theorem oth_oth (c : Int) : oth (oth c) = c := by unfold oth; omega
theorem oth_inj {a b : Int} : oth a = oth b ↔ a = b := by unfold oth; omega
def bitsB (L : List Int) : Bool := L.all isBit
theorem bitsB_cons (x : Int) (L : List Int) : bitsB (x :: L) = (isBit x && bitsB L) := rfl
theorem bitsB_app (a b : List Int) : bitsB (a ++ b) = (bitsB a && bitsB b) := by unfold bitsB; rw [List.all_append]

/-- the run at the end: the last one, and how many of it; one more is told -/
def nxt (p : Int × Nat) (x : Int) : Int × Nat := (x, if x = p.1 then p.2 + 1 else 1)
theorem nxt_1 (p : Int × Nat) (x : Int) : (nxt p x).1 = x := rfl
theorem nxt_le (p : Int × Nat) (x : Int) : (nxt p x).2 ≤ p.2 + 1 := by unfold nxt; dsimp only; split <;> omega
theorem nxt_pos (p : Int × Nat) (x : Int) : 1 ≤ (nxt p x).2 := by unfold nxt; dsimp only; split <;> omega
theorem nxt_oth {x : Int} (n : Nat) (h : isBit x = true) : nxt (x, n) (oth x) = (oth x, 1) := by
  unfold nxt; rw [if_neg (oth_ne h)]
/-- the run at the end of a text -/
def tl (L : List Int) : Int × Nat := L.foldl nxt (0, 0)
theorem tl_snoc (L : List Int) (x : Int) : tl (L ++ [x]) = nxt (tl L) x := by unfold tl; rw [List.foldl_append]; rfl

/-- what is stuffed behind a run -/
def stG : Int × Nat → List Int → List Int
  | _, [] => []
  | p, x :: L => if (nxt p x).2 = 5 then x :: oth x :: stG (oth x, 1) L else x :: stG (nxt p x) L
/-- the run behind it -/
def stS : Int × Nat → List Int → Int × Nat
  | p, [] => p
  | p, x :: L => if (nxt p x).2 = 5 then stS (oth x, 1) L else stS (nxt p x) L
theorem stG_app : ∀ (L M : List Int) (p : Int × Nat), stG p (L ++ M) = stG p L ++ stG (stS p L) M
  | [], M, p => rfl
  | x :: L, M, p => by
    simp only [List.cons_append, stG, stS]
    split
    · rw [stG_app L M]; rfl
    · rw [stG_app L M]; rfl
theorem stS_app : ∀ (L M : List Int) (p : Int × Nat), stS p (L ++ M) = stS (stS p L) M
  | [], M, p => rfl
  | x :: L, M, p => by
    simp only [List.cons_append, stS]
    split
    · rw [stS_app L M]
    · rw [stS_app L M]
def stuffL (L : List Int) : List Int := stG (0, 0) L
theorem stuffL_snoc (L : List Int) (x : Int) : stuffL (L ++ [x]) = stuffL L ++ (if (nxt (stS (0, 0) L) x).2 = 5 then [x, oth x] else [x]) := by
  unfold stuffL
  rw [stG_app]
  rfl
theorem stS_tl : ∀ (L : List Int) (p : Int × Nat) (A : List Int), bitsB L = true → tl A = p → tl (A ++ stG p L) = stS p L
  | [], p, A, _, h => by simpa [stG, stS] using h
  | x :: L, p, A, hb, h => by
    rw [bitsB_cons, Bool.and_eq_true] at hb
    simp only [stG, stS]
    split
    · rw [show A ++ x :: oth x :: stG (oth x, 1) L = ((A ++ [x]) ++ [oth x]) ++ stG (oth x, 1) L by simp]
      refine stS_tl L _ _ hb.2 ?_
      rw [tl_snoc, tl_snoc, h]
      exact nxt_oth _ hb.1
    · rw [show A ++ x :: stG (nxt p x) L = (A ++ [x]) ++ stG (nxt p x) L by simp]
      exact stS_tl L _ _ hb.2 (by rw [tl_snoc, h])
theorem tl_stuff {L : List Int} (h : bitsB L = true) : tl (stuffL L) = stS (0, 0) L := by
  have := stS_tl L (0, 0) [] h rfl
  unfold stuffL
  simpa using this
theorem stS_le : ∀ (L : List Int) (p : Int × Nat), p.2 ≤ 4 → (stS p L).2 ≤ 4
  | [], p, h => h
  | x :: L, p, h => by
    simp only [stS]
    split
    · exact stS_le L _ (by show 1 ≤ 4; omega)
    · exact stS_le L _ (by have := nxt_le p x; omega)
theorem stG_bits : ∀ (L : List Int) (p : Int × Nat), bitsB L = true → bitsB (stG p L) = true
  | [], _, _ => rfl
  | x :: L, p, h => by
    rw [bitsB_cons, Bool.and_eq_true] at h
    simp only [stG]
    split
    · rw [bitsB_cons, bitsB_cons, h.1, oth_bit h.1, stG_bits L _ h.2]; rfl
    · rw [bitsB_cons, h.1, stG_bits L _ h.2]; rfl
theorem stuffL_bits {L : List Int} (h : bitsB L = true) : bitsB (stuffL L) = true := stG_bits L _ h

/-- what is taken out, behind what was taken out so far: the bits and -1, or none and the place -/
def unA : List Int → Int × Nat → Nat → List Int → List Int × Int
  | out, p, i, [] => if p.2 = 5 then ([], i) else (out, -1)
  | out, p, i, x :: L => if isBit x = false then ([], i) else if p.2 = 5 then (if x = p.1 then ([], i) else unA out (x, 1) (i + 1) L) else unA (out ++ [x]) (nxt p x) (i + 1) L
def unL (L : List Int) : List Int × Int := unA [] (0, 0) 0 L
theorem unA_stG : ∀ (L out : List Int) (p : Int × Nat) (i : Nat), p.2 ≤ 4 → bitsB L = true → unA out p i (stG p L) = (out ++ L, -1)
  | [], out, p, i, h, _ => by
    simp only [stG, unA]
    rw [if_neg (by omega)]; simp
  | x :: L, out, p, i, h, hb => by
    rw [bitsB_cons, Bool.and_eq_true] at hb
    have hn := nxt_le p x
    simp only [stG]
    split
    · rename_i h5
      simp only [unA]
      rw [if_neg (by rw [hb.1]; decide), if_neg (by omega), if_neg (by rw [oth_bit hb.1]; decide), if_pos h5, if_neg (by rw [nxt_1]; exact oth_ne hb.1), unA_stG L _ _ _ (by show 1 ≤ 4; omega) hb.2]
      simp
    · simp only [unA]
      rw [if_neg (by rw [hb.1]; decide), if_neg (by omega), unA_stG L _ _ _ (by omega) hb.2]
      simp
theorem un_stuff {L : List Int} (h : bitsB L = true) : unL (stuffL L) = (L, -1) := unA_stG L [] (0, 0) 0 (by decide) h
theorem unA_back : ∀ (T out : List Int) (p : Int × Nat) (i : Nat) (M : List Int), p.2 ≤ 5 → (p.2 = 5 → isBit p.1 = true) → unA out p i T = (M, -1) →
    ∃ L, M = out ++ L ∧ bitsB L = true ∧ (p.2 = 5 → T = oth p.1 :: stG (oth p.1, 1) L) ∧ (p.2 ≠ 5 → stG p L = T)
  | [], out, p, i, M, h5, hb, h => by
    simp only [unA] at h
    split at h
    · injection h with _ h; omega
    · rename_i hn
      injection h with h
      exact ⟨[], by simp [h], rfl, fun e => absurd e hn, fun _ => rfl⟩
  | x :: T, out, p, i, M, h5, hb, h => by
    simp only [unA] at h
    split at h
    · injection h with _ h; omega
    · rename_i hx
      have hx : isBit x = true := by simpa using hx
      split at h
      · rename_i hp
        split at h
        · injection h with _ h; omega
        · rename_i hne
          obtain ⟨L, hM, hL, _, h2⟩ := unA_back T out (x, 1) (i + 1) M (by show 1 ≤ 5; omega) (fun e => by cases e) h
          have hxo : x = oth p.1 := by
            have h1 := hb hp
            rw [isBit_iff] at h1 hx
            unfold oth
            omega
          refine ⟨L, hM, hL, fun _ => ?_, fun e => absurd hp e⟩
          rw [← hxo, h2 (by show 1 ≠ 5; omega)]
      · rename_i hp
        have hn := nxt_le p x
        obtain ⟨L, hM, hL, h1, h2⟩ := unA_back T (out ++ [x]) (nxt p x) (i + 1) M (by omega) (fun _ => hx) h
        refine ⟨x :: L, by rw [hM]; simp, by rw [bitsB_cons, hx, hL]; rfl, fun e => absurd e hp, fun _ => ?_⟩
        simp only [stG]
        split
        · rename_i h55
          rw [h1 h55]; rfl
        · rename_i h55
          rw [h2 h55]
theorem un_back {T M : List Int} (h : unL T = (M, -1)) : bitsB M = true ∧ stuffL M = T := by
  obtain ⟨L, hM, hL, _, h2⟩ := unA_back T [] (0, 0) 0 M (by decide) (fun e => by cases e) h
  have : M = L := by simpa using hM
  subst this
  exact ⟨hL, h2 (by decide)⟩

/-- the longest run, beside those that were seen -/
def runA : Nat → Int × Nat → List Int → Nat
  | m, _, [] => m
  | m, p, x :: L => runA (max m (nxt p x).2) (nxt p x) L
def runL (L : List Int) : Nat := runA 0 (0, 0) L
theorem runA_app : ∀ (L : List Int) (m : Nat) (p : Int × Nat) (x : Int), runA m p (L ++ [x]) = max (runA m p L) (nxt (L.foldl nxt p) x).2
  | [], m, p, x => rfl
  | y :: L, m, p, x => by simp only [List.cons_append, runA, List.foldl_cons]; exact runA_app L _ _ x
theorem runL_snoc (L : List Int) (x : Int) : runL (L ++ [x]) = max (runL L) (tl (L ++ [x])).2 := by
  unfold runL; rw [runA_app, tl_snoc]; rfl
theorem runA_stG : ∀ (L : List Int) (m : Nat) (p : Int × Nat), m ≤ 5 → p.2 ≤ 4 → bitsB L = true → runA m p (stG p L) ≤ 5
  | [], m, p, hm, hp, _ => by simpa [stG, runA] using hm
  | x :: L, m, p, hm, hp, hb => by
    rw [bitsB_cons, Bool.and_eq_true] at hb
    have hn := nxt_le p x
    simp only [stG]
    split
    · rename_i h5
      simp only [runA]
      have e : nxt (nxt p x) (oth x) = (oth x, 1) := nxt_oth _ hb.1
      rw [e]
      exact runA_stG L _ _ (by dsimp only; omega) (by show 1 ≤ 4; omega) hb.2
    · simp only [runA]
      exact runA_stG L _ _ (by omega) (by omega) hb.2
theorem run_stuff {L : List Int} (h : bitsB L = true) : runL (stuffL L) ≤ 5 := runA_stG L 0 (0, 0) (by decide) (by decide) h
theorem runA_le : ∀ (L : List Int) (m : Nat) (p : Int × Nat), m ≤ p.2 + L.length ∨ m ≤ runA m p L
  | [], m, p => .inr (Nat.le_refl _)
  | x :: L, m, p => by
    right
    have key : ∀ (L : List Int) (m : Nat) (p : Int × Nat), m ≤ runA m p L := by
      intro L
      induction L with
      | nil => intro m p; exact Nat.le_refl _
      | cons x L ih => intro m p; exact Nat.le_trans (Nat.le_max_left _ _) (ih _ _)
    exact key _ _ _
theorem runA_bd : ∀ (L : List Int) (m : Nat) (p : Int × Nat), runA m p L ≤ max m (p.2 + L.length)
  | [], m, p => Nat.le_max_left _ _
  | x :: L, m, p => by
    have h1 := runA_bd L (max m (nxt p x).2) (nxt p x)
    have h2 := nxt_le p x
    simp only [runA, List.length_cons]
    omega
theorem run_le (L : List Int) : runL L ≤ L.length := by
  have := runA_bd L 0 (0, 0)
  unfold runL
  simp at this
  omega

theorem stG_len : ∀ (L : List Int) (p : Int × Nat), p.2 ≤ 4 → 4 * (stG p L).length ≤ 5 * L.length + p.2 ∧ L.length ≤ (stG p L).length
  | [], p, _ => by simp [stG]
  | x :: L, p, hp => by
    have hn := nxt_le p x
    simp only [stG]
    split
    · have h1 := stG_len L (oth x, 1) (by show 1 ≤ 4; omega)
      simp only [List.length_cons] at h1 ⊢
      omega
    · have h1 := stG_len L (nxt p x) (by omega)
      simp only [List.length_cons] at h1 ⊢
      omega
theorem stuff_len (L : List Int) : 4 * (stuffL L).length ≤ 5 * L.length ∧ L.length ≤ (stuffL L).length := stG_len L (0, 0) (by decide)

/-! turned -/
def turnP (p : Int × Nat) : Int × Nat := (oth p.1, p.2)
theorem nxt_turn (p : Int × Nat) (x : Int) : nxt (turnP p) (oth x) = turnP (nxt p x) := by
  unfold nxt turnP
  dsimp only
  by_cases h : x = p.1
  · rw [if_pos h, if_pos (oth_inj.2 h)]
  · rw [if_neg h, if_neg (fun e => h (oth_inj.1 e))]
theorem stG_turn : ∀ (L : List Int) (p : Int × Nat), stG (turnP p) (L.map oth) = (stG p L).map oth
  | [], p => rfl
  | x :: L, p => by
    simp only [List.map_cons, stG, nxt_turn]
    have e : (turnP (nxt p x)).2 = (nxt p x).2 := rfl
    rw [e]
    split
    · rw [List.map_cons, List.map_cons, ← stG_turn L]
      rfl
    · rw [List.map_cons, ← stG_turn L]
theorem stG_none : ∀ (L : List Int) (c c' : Int), stG (c, 0) L = stG (c', 0) L
  | [], c, c' => rfl
  | x :: L, c, c' => by
    have e : ∀ d : Int, nxt (d, 0) x = (x, 1) := fun d => by unfold nxt; dsimp only; split <;> rfl
    simp only [stG, e]
theorem stuff_turn (L : List Int) : stuffL (L.map oth) = (stuffL L).map oth := by
  unfold stuffL
  rw [← stG_turn L, stG_none _ 0 97]
  rfl
theorem turn_turn (L : List Int) : (L.map oth).map oth = L := by
  rw [List.map_map]
  conv => rhs; rw [← List.map_id L]
  exact List.map_congr_left fun x _ => oth_oth x
theorem turn_bits {L : List Int} (h : bitsB L = true) : bitsB (L.map oth) = true := by
  unfold bitsB at h ⊢
  rw [List.all_eq_true] at h ⊢
  intro x hx
  obtain ⟨y, hy, rfl⟩ := List.mem_map.1 hx
  exact oth_bit (h y hy)
theorem runA_turn : ∀ (L : List Int) (m : Nat) (p : Int × Nat), runA m (turnP p) (L.map oth) = runA m p L
  | [], m, p => rfl
  | x :: L, m, p => by
    simp only [List.map_cons, runA, nxt_turn]
    rw [runA_turn L]
    rfl
theorem run_turn (L : List Int) : runL (L.map oth) = runL L := by
  unfold runL
  rw [← runA_turn L 0 (0, 0)]
  cases L with
  | nil => rfl
  | cons x L =>
    have e : ∀ d : Int, nxt (d, 0) (oth x) = (oth x, 1) := fun d => by unfold nxt; dsimp only; split <;> rfl
    simp only [List.map_cons, runA]
    rw [e, show nxt (turnP (0, 0)) (oth x) = (oth x, 1) from e _]
/-- what is stuffed of more begins with what is stuffed of those ahead -/
theorem stuff_ahead (L M : List Int) : ∃ R, stuffL (L ++ M) = stuffL L ++ R ∧ M.length ≤ R.length := by
  unfold stuffL
  rw [stG_app]
  exact ⟨_, rfl, (stG_len M _ (stS_le L (0, 0) (by decide))).2⟩

end Go.Proofs.YtlfhomahbacmpaaDoor

namespace Go.Proofs.YtlfhomahbacmpaaDoor
open Go.RowKit
set_option linter.unusedVariables false

/-! ### the run at the end, counted from behind -/
theorem tl_rep : ∀ (j : Nat) (p : Int × Nat) (c : Int), p.1 = c → (List.replicate j c).foldl nxt p = (c, p.2 + j)
  | 0, p, c, h => by rw [← h]; rfl
  | j + 1, p, c, h => by
    rw [List.replicate_succ, List.foldl_cons]
    have e : nxt p c = (c, p.2 + 1) := by unfold nxt; rw [if_pos h.symm]
    rw [e, tl_rep j _ c rfl]
    simp; omega
theorem tl_last {A : List Int} {x : Int} : (tl (A ++ [x])).1 = x := by rw [tl_snoc]; rfl
/-- so many at the end are the same, and the one ahead of them is another one, or there is none -/
theorem tl_count {L : List Int} {m j : Nat} {c : Int} (hl : L.length = m + j) (hj : 1 ≤ j) (hs : ∀ x, m ≤ x → x < m + j → L.getD x 0 = c) (hm : m = 0 ∨ L.getD (m - 1) 0 ≠ c) : (tl L).2 = j := by
  have hL : L = L.take m ++ List.replicate j c := by
    apply List.ext_getElem?
    intro x
    by_cases hx : x < m
    · rw [List.getElem?_append_left (by rw [List.length_take]; omega), List.getElem?_take_of_lt hx]
    · rw [List.getElem?_append_right (by rw [List.length_take]; omega), List.length_take, Nat.min_eq_left (by omega)]
      by_cases hx2 : x < m + j
      · have := hs x (by omega) hx2
        rw [List.getD_eq_getElem?_getD, List.getElem?_eq_getElem (by omega)] at this
        rw [List.getElem?_eq_getElem (by omega), List.getElem?_replicate, if_pos (by omega), ← this]; rfl
      · rw [List.getElem?_eq_none (by omega), List.getElem?_eq_none (by simp; omega)]
  obtain ⟨j', rfl⟩ : ∃ j', j = j' + 1 := ⟨j - 1, by omega⟩
  have h1 : (nxt (tl (L.take m)) c) = (c, 1) := by
    rcases hm with h0 | hne
    · subst h0
      simp only [List.take_zero]
      show nxt (0, 0) c = _
      unfold nxt
      dsimp only
      split <;> rfl
    · by_cases h0 : m = 0
      · subst h0
        simp only [List.take_zero]
        show nxt (0, 0) c = _
        unfold nxt
        dsimp only
        split <;> rfl
      · obtain ⟨m', rfl⟩ : ∃ m', m = m' + 1 := ⟨m - 1, by omega⟩
        have hlt : m' < L.length := by omega
        rw [List.take_succ_eq_append_getElem hlt]
        have hx : L[m'] ≠ c := by
          rw [List.getD_eq_getElem?_getD, Nat.add_sub_cancel, List.getElem?_eq_getElem hlt] at hne
          exact hne
        unfold nxt
        rw [tl_last, if_neg (fun e => hx e.symm)]
  rw [hL, List.replicate_succ]
  show ((L.take m ++ c :: List.replicate j' c).foldl nxt (0, 0)).2 = j' + 1
  rw [List.foldl_append, List.foldl_cons]
  have e : nxt ((L.take m).foldl nxt (0, 0)) c = (c, 1) := h1
  rw [e, tl_rep j' _ c rfl]
  simp; omega

end Go.Proofs.YtlfhomahbacmpaaDoor

namespace Go.Proofs.YtlfhomahbacmpaaDoor
open Go.RowKit
set_option linter.unusedVariables false

theorem isBy_bits {L : List Int} (h : bitsB L = true) : isBy L := fun x hx => by
  have := (isBit_iff x).1 ((List.all_eq_true.1 h) x hx)
  omega
theorem fret_str {a b : ByteArray} (h : a = b) : Ending.returned (.string a) = .returned (.string b) := by rw [h]

end Go.Proofs.YtlfhomahbacmpaaDoor

namespace Go.Proofs.YtlfhomahbacmpaaDoor
open Go.RowKit
set_option linter.unusedVariables false

def stuffS (L : List Int) : ByteArray := if bitsB L then strOfNums (stuffL L) else ByteArray.mk #[]
theorem stuff_round {L : List Int} {x : Int} (h : bitsB L = true) : stuffL (L ++ [x]) = (if (tl (stuffL L ++ [x])).2 = 5 then (stuffL L ++ [x]) ++ [oth x] else stuffL L ++ [x]) := by
  rw [stuffL_snoc, tl_snoc, tl_stuff h]
  split <;> simp
theorem bits_take {L : List Int} (h : bitsB L = true) (k : Nat) : bitsB (L.take k) = true := by
  rw [← List.take_append_drop k L, bitsB_app, Bool.and_eq_true] at h
  exact h.1

end Go.Proofs.YtlfhomahbacmpaaDoor

namespace Go.Proofs.YtlfhomahbacmpaaDoor
open Go.RowKit
set_option linter.unusedVariables false

theorem tl_le_len : ∀ (L : List Int) (p : Int × Nat), (L.foldl nxt p).2 ≤ p.2 + L.length
  | [], p => Nat.le_refl _
  | x :: L, p => by
    have h1 := tl_le_len L (nxt p x)
    have h2 := nxt_le p x
    simp only [List.foldl_cons, List.length_cons]
    omega
theorem nxt_new {p : Int × Nat} {x : Int} (h : x ≠ p.1) : nxt p x = (x, 1) := by unfold nxt; rw [if_neg h]
/-- the last one of some -/
theorem tl_take_last {s : ByteArray} {k : Nat} (h : k < s.size) : (tl ((byL s).take (k + 1))).1 = bt s k := by rw [byL_take h, tl_snoc]; rfl
/-- what is taken out so far is no longer than what was read -/
theorem unA_len : ∀ (T out : List Int) (p : Int × Nat) (i : Nat), (unA out p i T).1.length ≤ out.length + T.length
  | [], out, p, i => by simp only [unA]; split <;> simp
  | x :: T, out, p, i => by
    simp only [unA]
    split
    · simp
    · split
      · split
        · simp
        · have := unA_len T out (x, 1) (i + 1); simp only [List.length_cons]; omega
      · have := unA_len T (out ++ [x]) (nxt p x) (i + 1); simp only [List.length_append, List.length_cons, List.length_nil] at this ⊢; omega

def unstRel (s : ByteArray) (w : World) (R : List Int × Int) (v i : Value) (wr : World) : Prop :=
  ∃ (k : Nat) (O : List Int), k ≤ s.size ∧ i = .int .i64 k ∧ Hid (gathB w.heap.size w v O wr ∧ O.length ≤ k ∧ (tl ((byL s).take k)).2 ≤ 5 ∧ unA O (tl ((byL s).take k)) k ((byL s).drop k) = R)

end Go.Proofs.YtlfhomahbacmpaaDoor

namespace Go.Proofs.YtlfhomahbacmpaaDoor
open Go.RowKit Go.Shelf
set_option linter.unusedVariables false

def dren169 : Go.Shelf.Ren := ⟨fun | 169 => 41 | n => n, fun | 70 => 59 | 9 => 9 | 0 => 0 | 72 => 61 | 37 => 44 | 127 => 82 | 3 => 3 | 5 => 5 | n => n, fun | n => n⟩
theorem dlays169 : Go.Proofs.Lays.n169 Tryd.prog dren169 := {
  mixed := by kernel_rfl
  f169 := Tryd.func41.trans (congrArg some (by kernel_rfl))
  t0 := Tryd.underlying0
  a0 := Tryd.isAgg0
  z0 := Tryd.sizeOf0
  v0 := Tryd.zeroValue0
  t3 := Tryd.underlying3
  a3 := Tryd.isAgg3
  z3 := Tryd.sizeOf3
  v3 := Tryd.zeroValue3
  t9 := Tryd.underlying9
  a9 := Tryd.isAgg9
  z9 := Tryd.sizeOf9
  v9 := Tryd.zeroValue9
  t37 := Tryd.underlying44
  a37 := Tryd.isAgg44
  z37 := Tryd.sizeOf44
  v37 := Tryd.zeroValue44
  t70 := Tryd.underlying59
  a70 := Tryd.isAgg59
  z70 := Tryd.sizeOf59
  v70 := Tryd.zeroValue59
  t72 := Tryd.underlying61
  a72 := Tryd.isAgg61
  z72 := Tryd.sizeOf61
  v72 := Tryd.zeroValue61
  t127 := Tryd.underlying82
  a127 := Tryd.isAgg82
  z127 := Tryd.sizeOf82
  v127 := Tryd.zeroValue82 }
theorem dextra169 : Go.Proofs.Builder.Extra Tryd.prog dren169 := {
  sizeBuilder := by kernel_rfl
  liesBuilder := by kernel_rfl
  t5 := Tryd.underlying5
  a5 := Tryd.isAgg5
  z5 := Tryd.sizeOf5
  v5 := Tryd.zeroValue5
  infoByte := by kernel_rfl
  cellsByte := by kernel_rfl
  sizeByte := by kernel_rfl
  neB5 := by decide }
theorem dstring_k (B b : Nat) (l : List UInt8) (w : World) (h : Lib.IsBuilderF 61 5 B b (Lib.byteCells l) w) (hBw : B ≤ w.heap.size) :
    Calls Tryd.prog 41 #[.pointer (some ⟨b, 0, none⟩)] w fun e w' => e = .returned (.string ⟨l.toArray⟩) ∧ (Lib.IsBuilderF 61 5 B b (Lib.byteCells l) w' ∧ Below B w w' ∧ Lib.OthersKept 5 (some b) w w') := Go.Proofs.Any.Builder_String_any_k dlays169 dextra169 B b l w h hBw
end Go.Proofs.YtlfhomahbacmpaaDoor
