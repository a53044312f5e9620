/- Crc: the long division, row by row; the contract of the document's Sum. The shelf's contract of strings.Builder's WriteByte, laid by hand with marks (any seat that has it). Crc, the code: contract of each over whatever function value; what Sum and Number hand to it. Crc, the code: what Sum hands to each. -/
import Derived.Test.YtfooigckcjbegaaDoorZah
import Derived.Test.YtfooigckcjbegaaDoorRows
import Derived.Shelf.Lays
import Derived.Shelf.Strings.Builder1
import Derived.Shelf.Strings.BuilderF
import Derived.Shelf.Strings.BuilderK
import Derived.Test.YtfooigckcjbegaaDoorZag
import Derived.BigRegion
namespace Go.Proofs.YtfooigckcjbegaaDoor
open Go.RowKit
set_option linter.unusedVariables false

/-! ### the division -/
def sBit (L : List Bool) (x : Nat) : Bool := L.getD x false
def stC (w p : Nat) (L : List Bool) (i : Nat) : Nat := feedC w p 0 (L.take i)
def rowF (w p : Nat) (L : List Bool) (i x : Nat) : Bool := decide (i ≤ x) && (sBit L x ^^ (decide (x < i + w) && (stC w p L i).testBit (w - 1 - (x - i))))
/-- the bits that it is divided by -/
def byB (w p k : Nat) : Bool := k == 0 || p.testBit (w - k)
theorem stC_succ (w p : Nat) (L : List Bool) (i : Nat) (h : i < L.length) : stC w p L (i + 1) = stepC w p (stC w p L i) (sBit L i) := by
  unfold stC sBit
  rw [List.take_succ_eq_append_getElem h, feedC_app, List.getD_eq_getElem?_getD, List.getElem?_eq_getElem h]
  rfl
theorem rowF_0 (w p : Nat) (L : List Bool) (x : Nat) : rowF w p L 0 x = sBit L x := by
  unfold rowF stC
  simp [feedC]
theorem rowF_top {w : Nat} (hw : 1 ≤ w) (p : Nat) (L : List Bool) (i : Nat) : rowF w p L i i = (sBit L i ^^ (stC w p L i).testBit (w - 1)) := by
  unfold rowF
  rw [Nat.sub_self, Nat.sub_zero, decide_eq_true (Nat.le_refl i), decide_eq_true (show i < i + w by omega)]
  simp
theorem rowF_step {w : Nat} (hw : 1 ≤ w) (p : Nat) (L : List Bool) (i x : Nat) (h : i < L.length) :
    rowF w p L (i + 1) x = (rowF w p L i x ^^ (rowF w p L i i && (decide (i ≤ x) && (decide (x < i + (w + 1)) && byB w p (x - i))))) := by
  rw [rowF_top hw]
  rcases Nat.lt_trichotomy x i with hx | hx | hx
  · have e1 : decide (i + 1 ≤ x) = false := by simp; omega
    have e2 : decide (i ≤ x) = false := by simp; omega
    unfold rowF
    rw [e1, e2]
    simp
  · subst hx
    have e1 : decide (x + 1 ≤ x) = false := by simp
    rw [rowF_top hw, Nat.sub_self]
    unfold rowF byB
    rw [e1]
    have e2 : decide (x < x + (w + 1)) = true := by simp
    rw [e2]
    cases sBit L x <;> cases (stC w p L x).testBit (w - 1) <;> simp
  · obtain ⟨k, rfl⟩ : ∃ k, x = i + (k + 1) := ⟨x - i - 1, by omega⟩
    have e1 : decide (i + 1 ≤ i + (k + 1)) = true := by simp
    have e2 : decide (i ≤ i + (k + 1)) = true := by simp
    unfold rowF byB
    rw [e1, e2, stC_succ w p L i h, step_bit, show i + (k + 1) - (i + 1) = k by omega, show i + (k + 1) - i = k + 1 by omega]
    by_cases hk : k + 1 ≤ w
    · have e3 : decide (i + (k + 1) < i + 1 + w) = true := by simp; omega
      have e4 : decide (i + (k + 1) < i + (w + 1)) = true := by simp; omega
      have e5 : decide (w - 1 - k < w) = true := by simp; omega
      have e6 : decide (i + (k + 1) < i + w) = decide (1 ≤ w - 1 - k) := by
        rw [Bool.eq_iff_iff]; simp; omega
      have e7 : (k + 1 == 0) = false := by simp
      rw [e3, e4, e5, e6, e7, show w - 1 - k - 1 = w - 1 - (k + 1) by omega, show w - (k + 1) = w - 1 - k by omega]
      cases sBit L (i + (k + 1)) <;> cases decide (1 ≤ w - 1 - k) <;> cases (stC w p L i).testBit (w - 1 - (k + 1)) <;> cases (stC w p L i).testBit (w - 1) <;> cases sBit L i <;> cases p.testBit (w - 1 - k) <;> rfl
    · have e3 : decide (i + (k + 1) < i + 1 + w) = false := by simp; omega
      have e4 : decide (i + (k + 1) < i + (w + 1)) = false := by simp; omega
      have e6 : decide (i + (k + 1) < i + w) = false := by simp; omega
      rw [e3, e4, e6]
      simp
theorem rowF_end {w : Nat} (p : Nat) (L : List Bool) (j : Nat) (hj : j < w) : rowF w p L L.length (L.length + j) = (feedC w p 0 L).testBit (w - 1 - j) := by
  unfold rowF stC sBit
  rw [List.take_length, show L.length + j - L.length = j by omega, List.getD_eq_getElem?_getD, List.getElem?_eq_none (by omega)]
  have e1 : decide (L.length ≤ L.length + j) = true := by simp
  have e2 : decide (L.length + j < L.length + w) = true := by simp; omega
  rw [e1, e2]
  simp

/-! ### rows in memory -/
def RowM (g n : Nat) (f : Nat → Bool) (w : World) : Prop := ∀ x, x < n → w.cell? ⟨g, x, none⟩ = some (.int .u8 (bitC (f x))) ∧ w.frozen? ⟨g, x, none⟩ = false
theorem RowM.set {g n x : Nat} {f : Nat → Bool} {w : World} {b : Bool} (h : RowM g n f w) (hx : x < n) : RowM g n (fun y => if y = x then b else f y) (w.setCell ⟨g, x, none⟩ (.int .u8 (bitC b))) := by
  intro y hy
  rw [World.frozen?_setCell]
  refine ⟨?_, (h y hy).2⟩
  dsimp only
  by_cases hyx : y = x
  · subst hyx
    rw [if_pos rfl, World.cell?_setCell_same' _ _ _ (by rw [(h y hy).1]; rfl)]
  · rw [if_neg hyx, World.cell?_setCell_other _ _ _ _ (by intro e; injection e; omega)]
    exact (h y hy).1
theorem RowM.congr {g n : Nat} {f f' : Nat → Bool} {w : World} (h : RowM g n f w) (he : ∀ x, x < n → f x = f' x) : RowM g n f' w := fun x hx => by
  rw [← he x hx]; exact h x hx
theorem RowM.below {g n : Nat} {f : Nat → Bool} {w w1 : World} (h : RowM g n f w) (hg : g < w.heap.size) (hb : Below w.heap.size w w1) : RowM g n f w1 := fun x hx =>
  ⟨(hb.cell (p := ⟨g, x, none⟩) hg).trans (h x hx).1, (hb.frozen (p := ⟨g, x, none⟩) hg).trans (h x hx).2⟩

set_option maxHeartbeats 1000000 in
theorem csum_f {s : ByteArray} {w p : Int} (h : (bitsB (byL s) && rightC w p) = false) (hs : s.size ≤ maxLen) (W : World) :
    Calls Tryd.prog 28 #[.string s, .int .i64 w, .int .i64 p] W fun e w' => e = .returned (.tuple #[.int .i64 0, .bool false]) ∧ W = w' := by
  cases hb : bitsB (byL s)
  · have HB := Lib.hid hb
    clear hb h
    go_enter Tryd.func28, Tryd.ntmps28
    go_wp2_with fail
    refine (sright_v HB.out hs _).mono ?_
    rintro e w1 ⟨rfl, rfl⟩
    go_wp2
    go_ret2
    exact ⟨rfl, rfl⟩
  · have HB := Lib.hid hb
    have HR : Hid (rightC w p = false) := Lib.hid (by rw [hb] at h; simpa using h)
    clear hb h
    go_enter Tryd.func28, Tryd.ntmps28
    go_wp2_with fail
    refine (sright_v HB.out hs _).mono ?_
    rintro e w1 ⟨rfl, rfl⟩
    go_wp2_with fail
    refine (wright_v HR.out _).mono ?_
    rintro e w1 ⟨rfl, rfl⟩
    go_wp2
    go_ret2
    exact ⟨rfl, rfl⟩

def zerosL (s : ByteArray) (k : Nat) : List Int := byL s ++ List.replicate k 48
theorem zerosL_succ (s : ByteArray) (k : Nat) : zerosL s (k + 1) = zerosL s k ++ [48] := by unfold zerosL; rw [List.replicate_succ', List.append_assoc]
theorem zerosL_len (s : ByteArray) (k : Nat) : (zerosL s k).length = s.size + k := by unfold zerosL; rw [List.length_append, byL_len, List.length_replicate]

theorem zeros_bit {s : ByteArray} (hb : bitsB (byL s) = true) (w x : Nat) (hx : x < s.size + w) : (zerosL s w).getD x 0 = bitC (sBit (toB (byL s)) x) := by
  unfold zerosL sBit
  by_cases h : x < s.size
  · rw [getD_app_left (by rw [byL_len]; exact h)]
    conv => lhs; rw [← C_toB hb]
    rw [List.getD_eq_getElem?_getD, List.getD_eq_getElem?_getD, List.getElem?_map, List.getElem?_eq_getElem (by rw [toB_len, byL_len]; exact h)]
    rfl
  · rw [List.getD_eq_getElem?_getD, List.getElem?_append_right (by rw [byL_len]; omega), byL_len, List.getElem?_replicate, if_pos (by omega), List.getD_eq_getElem?_getD, List.getElem?_eq_none (by rw [toB_len, byL_len]; omega)]
    rfl
/-- the bits that it is divided by, as a text -/
theorem by_text (w p : Nat) : (ByteArray.mk #[49] ++ strOfNums (bitsI p w)).size = w + 1 ∧ ∀ k, k ≤ w → bt (ByteArray.mk #[49] ++ strOfNums (bitsI p w)) k = bitC (byB w p k) := by
  have hz : (ByteArray.mk #[49]).size = 1 := rfl
  refine ⟨by rw [ByteArray.size_append, strOfNums_size, bitsI_len, hz]; omega, fun k hk => ?_⟩
  rw [bt_app, hz]
  by_cases h : k < 1
  · obtain rfl : k = 0 := by omega
    rw [if_pos (by decide)]
    rfl
  · rw [if_neg h, bt_nums _ (isBy_bits (bitsI_bits p w))]
    have key : ∀ r j, j < r → (bitsT p r).getD j false = p.testBit (r - 1 - j) := by
      intro r
      induction r with
      | zero => intro j hj; omega
      | succ r ih =>
        intro j hj
        cases j with
        | zero => rfl
        | succ j => rw [bitsT, List.getD_cons_succ, ih j (by omega)]; congr 1; omega
    unfold bitsI
    have hl : k - 1 < (bitsT p w).length := by rw [bitsT_len]; omega
    have := key w (k - 1) (by omega)
    rw [List.getD_eq_getElem?_getD, List.getElem?_eq_getElem hl] at this
    rw [List.getD_eq_getElem?_getD, List.getElem?_map, List.getElem?_eq_getElem hl]
    simp only [Option.map_some, Option.getD_some] at this ⊢
    rw [this]
    unfold byB
    have e : (k == 0) = false := by simp; omega
    rw [e, Bool.false_or, show w - 1 - (k - 1) = w - k by omega]

set_option maxRecDepth 100000 in
set_option maxHeartbeats 4000000 in
theorem csum_t {s : ByteArray} {w p n : Nat} (hn : feedC w p 0 (toB (byL s)) = n) (hb : bitsB (byL s) = true) (hw : 1 ≤ w) (hw2 : w ≤ 30) (hp : p < 2 ^ w) (hs : s.size ≤ 100000) (W : World) :
    Calls Tryd.prog 28 #[.string s, .int .i64 w, .int .i64 p] W fun e w' => e = .returned (.tuple #[.int .i64 n, .bool true]) ∧ Below W.heap.size W w' := by
  obtain ⟨i0, hi, hz0, hz1, hz2⟩ := info_parts info_u8
  have hp30 : p < 1073741824 := by
    have : 2 ^ w ≤ 2 ^ 30 := Nat.pow_le_pow_right (by decide) hw2
    omega
  have HB := Lib.hid hb
  have HN := Lib.hid hn
  have HP := Lib.hid hp
  have HW := Lib.hid hw
  have HR : Hid (rightC w p = true) := Lib.hid (by
    unfold rightC
    rw [Int.toNat_natCast, decide_eq_true (show 1 ≤ (w : Int) by omega), decide_eq_true (show (w : Int) ≤ 30 by omega), decide_eq_true (show 0 ≤ (p : Int) by omega), decide_eq_true (Int.ofNat_lt.2 hp)]; rfl)
  have hcb := conv_bytes s W
  have HG0 : Hid (GathR W.heap.size W (.slice (some ⟨W.heap.size, 0, none⟩) s.size (grownCap W s.size 0 5)) (zerosL s 0) (Lib.bytesWorld W 5 s)) := Lib.hid ⟨by
    have := free_bytes W 5 s (by unfold maxLen; omega)
    unfold zerosL
    rw [List.replicate_zero, List.append_nil]
    exact this, bytesWorld_below W _ s, (bytesWorld_below W _ s).size⟩
  have C2 : Hid (∀ u ∈ [Value.int .u8 48], u.oneCell' = true) := Lib.hid (fun u hu => by simp at hu; subst hu; rfl)
  clear hb hn hp
  go_enter Tryd.func28, Tryd.ntmps28
  go_wp2_with fail
  refine (sright_v HB.out (by unfold maxLen; omega) _).mono ?_
  rintro e w1 ⟨rfl, rfl⟩
  go_wp2_with fail
  refine (wright_v HR.out _).mono ?_
  rintro e w1 ⟨rfl, rfl⟩
  go_wp2_with fail
  go_loopw [8, 9] (fun v i wr => ∃ k : Nat, k ≤ w ∧ i = .int .i64 k ∧ Hid (GathR W.heap.size W v (zerosL s k) wr)) (fun _ i _ => w - (intOf i).toNat)
  case atStart => exact ⟨0, Nat.zero_le _, rfl, HG0⟩
  case round =>
    obtain ⟨k, hk, rfl, HG⟩ := hrel
    by_cases hlt : k < w
    · obtain ⟨wo, rfl⟩ : ∃ wo : World, wo = wr := ⟨_, rfl⟩
      have HG1 : Hid (GathR W.heap.size W u8 (zerosL s k) (wo.alloc (.cells #[.int .u8 48] 5))) := Lib.hid (HG.out.later ((Below.refl _ _).alloc (Nat.le_refl _) _))
      have C3 : Hid ((zerosL s k).length + 1 ≤ 1000000) := Lib.hid (by rw [zerosL_len]; omega)
      have HS : Hid (Src Tryd.prog 1 49 (.slice (some ⟨wo.heap.size, 0, none⟩) 1 1) 1 [.int .u8 48] (wo.alloc (.cells #[.int .u8 48] 5))) := Lib.hid (Src.ofSlice _ Tryd.underlying49 ⟨wo.heap.size, 0, none⟩ 1 1 _ rfl (news_byte _ _ _) C2.out)
      have hshape : ∃ A c, u8 = .slice A (zerosL s k).length c := by
        obtain ⟨g, c, hv, _⟩ := HG.out.1
        exact ⟨_, _, hv⟩
      go_wp2_with (at_builtin; refine wpList_append_free (P := Tryd.prog) rfl _ _ 49 49 rfl 5 i0 Tryd.underlying49 hi hz0 hz1 hz2 rfl HG1.out (.slice (some ⟨wo.heap.size, 0, none⟩) 1 1) 48 rfl HS.out C3.out ?_)
      intro v' w1 hst
      have HST := Lib.hid hst
      clear hst
      go_wp2
      go_roundw
      case rel => exact ⟨k + 1, by omega, by go_num, by rw [zerosL_succ]; exact HST⟩
      case measure => simp [intOf]; omega
    · obtain rfl : k = w := by omega
      obtain ⟨g, c, hv, hBg, hgs, hl, hm, h1, h2⟩ := HG.out.1
      rw [zerosL_len] at hv hl h1
      subst hv
      have HBW := Lib.hid HG.out.2.1
      have HGS := Lib.hid hgs
      have HROW : Hid (RowM g (s.size + k) (rowF k p (toB (byL s)) 0) wr) := Lib.hid (fun x hx => ⟨by rw [rowF_0, ← zeros_bit HB.out k x hx]; exact h1 x hx, (h2 x (by omega)).2⟩)
      have HY := by_text k p
      have z1 : (ByteArray.mk #[49]).size = 1 := rfl
      have z2 : (strOfNums (bitsI p k)).size = k := by rw [strOfNums_size, bitsI_len]
      have hlc : s.size + k ≤ c := hl
      have HBG := Lib.hid hBg
      clear h1 h2 hl HG HG0 hcb hgs hBg
      go_wp2_with fail
      refine (cbits_t rfl (by omega) (by omega) _).mono ?_
      rintro e w1 ⟨rfl, hb1⟩
      have HBW1 := Lib.hid (fbelow_t HBW.out hb1)
      have HROW1 := Lib.hid (HROW.out.below HGS.out hb1)
      have HGS1 : Hid (g < w1.heap.size) := Lib.hid (Nat.lt_of_lt_of_le HGS.out hb1.size)
      clear hb1 HBW HROW HGS
      generalize strOfNums (bitsI p k) = t at z2 HY ⊢
      obtain ⟨Y, hY⟩ : ∃ Y, ByteArray.mk #[49] ++ t = Y := ⟨_, rfl⟩
      rw [hY] at HY
      obtain ⟨hYs, hYb⟩ := HY
      have HYb := Lib.hid hYb
      clear hYb
      go_wp2_with fail
      go_loopw [11] (fun i wr => ∃ x : Nat, x ≤ s.size ∧ i = .int .i64 x ∧ Hid (RowM g (s.size + k) (rowF k p (toB (byL s)) x) wr ∧ Below W.heap.size W wr ∧ g < wr.heap.size)) (fun i _ => s.size - (intOf i).toNat)
      case atStart => exact ⟨0, Nat.zero_le _, rfl, Lib.hid ⟨HROW1.out, HBW1.out, HGS1.out⟩⟩
      case round =>
        obtain ⟨i, hi2, rfl, HI⟩ := hrel
        by_cases hlt2 : i < s.size
        · have a0 : wr.cell? ⟨g, i, none⟩ = some (.int .u8 (bitC (rowF k p (toB (byL s)) i i))) := (HI.out.1 i (by omega)).1
          have HST : Hid (∀ x, rowF k p (toB (byL s)) (i + 1) x = (rowF k p (toB (byL s)) i x ^^ (rowF k p (toB (byL s)) i i && (decide (i ≤ x) && (decide (x < i + (k + 1)) && byB k p (x - i)))))) := Lib.hid (fun x => rowF_step HW.out p _ i x (by rw [toB_len, byL_len]; exact hlt2))
          have hi3 : (i : Int) < ((s.size + k : Nat) : Int) := by omega
          have hi0 : (0 : Int) ≤ (i : Int) := by omega
          generalize rowF k p (toB (byL s)) i i = top at a0 HST
          cases top
          · go_wp2_with fail
            go_roundw
            case rel => exact ⟨i + 1, by omega, by go_num, Lib.hid ⟨HI.out.1.congr (fun x _ => by rw [HST.out x]; simp), HI.out.2⟩⟩
            case measure => simp [intOf]; omega
          · go_wp2_with fail
            go_loopw [12] (fun j wr => ∃ y : Nat, y ≤ k + 1 ∧ j = .int .i64 y ∧ Hid (RowM g (s.size + k) (fun x => rowF k p (toB (byL s)) i x ^^ (decide (i ≤ x) && (decide (x < i + y) && byB k p (x - i)))) wr ∧ Below W.heap.size W wr ∧ g < wr.heap.size)) (fun j _ => k + 1 - (intOf j).toNat)
            case atStart => exact ⟨0, Nat.zero_le _, rfl, Lib.hid ⟨HI.out.1.congr (fun x _ => by
              have : (decide (i ≤ x) && (decide (x < i + 0) && byB k p (x - i))) = false := by
                by_cases h : i ≤ x
                · rw [decide_eq_false (show ¬ x < i + 0 by omega)]; simp
                · rw [decide_eq_false h]; rfl
              rw [this, Bool.xor_false]), HI.out.2⟩⟩
            case round =>
              obtain ⟨y, hy, rfl, HJ⟩ := hrel
              by_cases hyk : y ≤ k
              · have hix : ∀ w, (Instr.index 9 (.string Y) (.int .i64 y)).run Tryd.prog w = .ok (.int .u8 (bitC (byB k p y))) w := fun w => by rw [← HYb.out y hyk]; exact index_bt Tryd.underlying9 (by omega) w
                have hd1 : decide ((y : Int) ≤ (k : Int)) = true := by simp; omega
                have HCUR : Hid (wr.cell? ⟨g, i + y, none⟩ = some (.int .u8 (bitC (rowF k p (toB (byL s)) i (i + y)))) ∧ wr.frozen? ⟨g, i + y, none⟩ = false) := Lib.hid (by
                  have := HJ.out.1 (i + y) (by omega)
                  dsimp only at this
                  rw [decide_eq_false (show ¬ i + y < i + y by omega)] at this
                  simpa using this)
                have HNX : ∀ b : Bool, byB k p y = b → ∀ x, (rowF k p (toB (byL s)) i x ^^ (decide (i ≤ x) && (decide (x < i + (y + 1)) && byB k p (x - i)))) = (if x = i + y then (rowF k p (toB (byL s)) i (i + y) ^^ b) else (rowF k p (toB (byL s)) i x ^^ (decide (i ≤ x) && (decide (x < i + y) && byB k p (x - i))))) := fun b hb x => by
                  by_cases hx : x = i + y
                  · subst hx
                    rw [if_pos rfl, decide_eq_true (show i ≤ i + y by omega), decide_eq_true (show i + y < i + (y + 1) by omega), show i + y - i = y by omega, hb]; rfl
                  · rw [if_neg hx]
                    congr 3
                    rw [Bool.eq_iff_iff]; simp; omega
                cases hb : byB k p y
                · rw [hb] at hix
                  have HN2 := Lib.hid (HNX false hb)
                  clear HNX hb
                  go_wp2_with fail
                  go_roundw
                  case rel => exact ⟨y + 1, by omega, by go_num, Lib.hid ⟨HJ.out.1.congr (fun x hx => by
                    rw [HN2.out x]
                    by_cases e : x = i + y
                    · subst e
                      rw [if_pos rfl, decide_eq_false (show ¬ i + y < i + y by omega)]; simp
                    · rw [if_neg e]), HJ.out.2⟩⟩
                  case measure => simp [intOf]; omega
                · rw [hb] at hix
                  have HN2 := Lib.hid (HNX true hb)
                  clear HNX hb
                  have hiy1 : (i : Int) + (y : Int) ≤ 9223372036854775807 := by omega
                  have hiy2 : i + y < s.size + k := by omega
                  obtain ⟨a0, f0⟩ := HCUR.out
                  generalize hcur : rowF k p (toB (byL s)) i (i + y) = cur at a0 HN2
                  clear hcur HCUR
                  have hgt : ∀ u, g < (wr.setCell ⟨g, i + y, none⟩ u).heap.size := fun u => by simp [World.setCell]; exact HJ.out.2.2
                  have HGT := Lib.hid hgt
                  clear hgt
                  cases cur
                  · go_wp2_with fail
                    go_roundw
                    case rel => exact ⟨y + 1, by omega, by go_num, Lib.hid ⟨(HJ.out.1.set (b := true) hiy2).congr (fun x _ => by rw [HN2.out x]; rfl), HJ.out.2.1.setCell (p := ⟨g, i + y, none⟩) HBG.out _, HGT.out _⟩⟩
                    case measure => simp [intOf]; omega
                  · go_wp2_with fail
                    go_roundw
                    case rel => exact ⟨y + 1, by omega, by go_num, Lib.hid ⟨(HJ.out.1.set (b := false) hiy2).congr (fun x _ => by rw [HN2.out x]; rfl), HJ.out.2.1.setCell (p := ⟨g, i + y, none⟩) HBG.out _, HGT.out _⟩⟩
                    case measure => simp [intOf]; omega
              · obtain rfl : y = k + 1 := by omega
                have hd1 : decide (((k + 1 : Nat) : Int) ≤ (k : Int)) = false := by simp; omega
                go_wp2_with fail
                go_roundw
                case rel => exact ⟨i + 1, by omega, by go_num, Lib.hid ⟨HJ.out.1.congr (fun x _ => by rw [HST.out x]; simp), HJ.out.2⟩⟩
                case measure => simp [intOf]; omega
        · obtain rfl : i = s.size := by omega
          have hlL : (toB (byL s)).length = s.size := by rw [toB_len, byL_len]
          have hcv : ∀ c', (convert 49 9 (.slice (some ⟨g, s.size, none⟩) k c')).run Tryd.prog wr = .ok (.string (strOfNums (bitsI n k))) wr := fun c' => by
            refine run_convert_bytes_arg wr 49 5 Tryd.underlying49 Tryd.underlying5 g s.size k c' (bitsI n k) (bitsI_len n k) (fun j hj => ?_) 9 Tryd.underlying9
            rw [(HI.out.1 (s.size + j) (by omega)).1, ← hlL, rowF_end p _ j hj, HN.out]
            have key : ∀ r j, j < r → (bitsI n r).getD j 0 = bitC (n.testBit (r - 1 - j)) := by
              intro r
              induction r with
              | zero => intro j hj; omega
              | succ r ih =>
                intro j hj
                cases j with
                | zero => rfl
                | succ j => rw [bitsI_succ, List.getD_cons_succ, ih j (by omega)]; congr 2; omega
            rw [key k j hj]
          have HNL : Hid (n < 2 ^ k) := Lib.hid (by rw [← HN.out]; exact feed_lt HP.out _ 0 (Nat.two_pow_pos k))
          have HBY : Hid (byL (strOfNums (bitsI n k)) = bitsI n k) := Lib.hid (byL_nums (isBy_bits (bitsI_bits n k)))
          have HNU : Hid (numA 0 (toB (byL (strOfNums (bitsI n k)))) = n) := Lib.hid (by rw [HBY.out]; unfold bitsI; rw [toB_C]; exact num_bits HNL.out)
          have HOK : Hid (numOk (byL (strOfNums (bitsI n k))) = true) := Lib.hid (by rw [HBY.out]; unfold numOk; rw [bitsI_bits, bitsI_len, decide_eq_true (show k ≤ 60 by omega)]; rfl)
          generalize strOfNums (bitsI n k) = q at hcv HNU HOK
          clear HBY
          go_wp2_with fail
          refine (cnum_t HNU.out HOK.out _).mono ?_
          rintro e w2 ⟨rfl, rfl⟩
          go_wp2
          go_ret2
          exact ⟨rfl, HI.out.2.1⟩

end Go.Proofs.YtfooigckcjbegaaDoor

namespace Go.Proofs.YtfooigckcjbegaaDoor
open Go.RowKit Go.Shelf
set_option linter.unusedVariables false

def dren167 : Go.Shelf.Ren := ⟨fun | 167 => 54 | 240 => 53 | 276 => 66 | n => n, fun | 0 => 0 | 3 => 3 | 4 => 4 | 5 => 5 | 9 => 9 | 20 => 20 | 37 => 49 | 70 => 54 | 72 => 56 | 75 => 58 | 164 => 83 | 80 => 62 | n => n, fun | n => n⟩
theorem dlays167 : Go.Proofs.Lays.n167 Tryd.prog dren167 := {
  mixed := by kernel_rfl
  f167 := Tryd.func54.trans (congrArg some (by kernel_rfl))
  f240 := Tryd.func53.trans (congrArg some (by kernel_rfl))
  f276 := Tryd.func66.trans (congrArg some (by kernel_rfl))
  t0 := Tryd.underlying0
  a0 := Tryd.isAgg0
  z0 := Tryd.sizeOf0
  v0 := Tryd.zeroValue0
  t4 := Tryd.underlying4
  a4 := Tryd.isAgg4
  z4 := Tryd.sizeOf4
  v4 := Tryd.zeroValue4
  t5 := Tryd.underlying5
  a5 := Tryd.isAgg5
  z5 := Tryd.sizeOf5
  v5 := Tryd.zeroValue5
  t9 := Tryd.underlying9
  a9 := Tryd.isAgg9
  z9 := Tryd.sizeOf9
  v9 := Tryd.zeroValue9
  t20 := Tryd.underlying20
  a20 := Tryd.isAgg20
  z20 := Tryd.sizeOf20
  v20 := Tryd.zeroValue20
  t37 := Tryd.underlying49
  a37 := Tryd.isAgg49
  z37 := Tryd.sizeOf49
  v37 := Tryd.zeroValue49
  t70 := Tryd.underlying54
  a70 := Tryd.isAgg54
  z70 := Tryd.sizeOf54
  v70 := Tryd.zeroValue54
  t72 := Tryd.underlying56
  a72 := Tryd.isAgg56
  z72 := Tryd.sizeOf56
  v72 := Tryd.zeroValue56
  t75 := Tryd.underlying58
  a75 := Tryd.isAgg58
  z75 := Tryd.sizeOf58
  v75 := Tryd.zeroValue58
  t164 := Tryd.underlying83
  a164 := Tryd.isAgg83
  z164 := Tryd.sizeOf83
  v164 := Tryd.zeroValue83 }
theorem dextra167 : Go.Proofs.Builder.Extra Tryd.prog dren167 := {
  sizeBuilder := by kernel_rfl
  liesBuilder := by kernel_rfl
  t5 := Tryd.underlying5
  a5 := Tryd.isAgg5
  z5 := Tryd.sizeOf5
  v5 := Tryd.zeroValue5
  infoByte := by kernel_rfl
  cellsByte := by kernel_rfl
  sizeByte := by kernel_rfl
  neB5 := by decide }

theorem dwbyte_k (B b : Nat) (bs : List Value) (c : Int) (w : World) (h : Lib.IsBuilderF 56 5 B b bs w) (hlen : bs.length + 1 ≤ 140737488355328) (hBw : B ≤ w.heap.size) :
    Calls Tryd.prog 54 #[.pointer (some ⟨b, 0, none⟩), .int .u8 c] w fun e w' => e = .returned .nilIface ∧ (Lib.BuilderAtF 56 5 B b (.pointer (some ⟨b, 0, none⟩)) (bs ++ [.int .u8 c]) w' ∧ Below B w w' ∧ Lib.OthersKept 5 (some b) w w') :=
  Go.Proofs.Any.Builder_WriteByte_k dlays167 dextra167 B b bs c w h hlen hBw
end Go.Proofs.YtfooigckcjbegaaDoor

namespace Go.Proofs.YtfooigckcjbegaaDoor
open Go.RowKit
set_option linter.unusedVariables false

def bitN : Bool → Int
  | true => 1
  | false => 0
theorem bt_bit {s : ByteArray} (hb : bitsB (byL s) = true) {k : Nat} (hk : k < s.size) : ∃ b : Bool, bt s k = bitC b ∧ toB ((byL s).take (k + 1)) = toB ((byL s).take k) ++ [b] := by
  have h1 := bits_take hb (k + 1)
  rw [byL_take hk, bitsB_app] at h1
  simp only [bitsB, List.all_cons, List.all_nil, Bool.and_true, Bool.and_eq_true] at h1
  have h2 := (isBit_iff _).1 h1.2
  rw [byL_take hk, toB_app]
  rcases h2 with h2 | h2
  · exact ⟨false, h2, by rw [h2]; rfl⟩
  · exact ⟨true, h2, by rw [h2]; rfl⟩
theorem bt_isBit {s : ByteArray} {k : Nat} {b : Bool} (h : bt s k = bitC b) : isBit (bt s k) = true := by rw [h]; exact bitC_bit b

/-! ### each -/
def EachStep (k : Nat) (w1 : World) (Yes : World → Prop) (e : Ending) (w2 : World) : Prop := e = .returned (.tuple #[]) ∧ KeepsI k w1 w2 ∧ Yes w2
set_option maxHeartbeats 2000000 in
theorem each_f (f : Value) {s : ByteArray} (hb : bitsB (byL s) = false) (w : World) :
    Calls Tryd.prog 67 #[.string s, f] w fun e w' => e = .returned (.bool false) ∧ Below w.heap.size w w' := by
  have HB := Lib.hid hb
  clear hb
  go_enter Tryd.func67, Tryd.ntmps67
  go_wp2_with fail
  refine (cright_v HB.out _).mono ?_
  rintro e w1 ⟨rfl, hb1⟩
  go_wp2
  go_ret
  exact ⟨rfl, hb1⟩
set_option maxHeartbeats 2000000 in
theorem each_t (g : Nat) (lb : Array Value) (eg : ∀ args w, (callFunc g args).run Tryd.prog w = .ok (.enter g args) w) {s : ByteArray} (hb : bitsB (byL s) = true) (Inv : Nat → World → Prop) (w : World)
    (h0 : ∀ w1, Below w.heap.size w w1 → Inv 0 (w1.iter s 0)) (hit : ∀ k pos q w1, w.heap.size ≤ k → Inv pos w1 → w1.heap[k]? = some (.stringIter s pos) → Inv pos (w1.iterAt k s q))
    (hdo : ∀ k pos w1 (b : Bool), w.heap.size ≤ k → pos < s.size → bt s pos = bitC b → Inv pos w1 → Calls Tryd.prog g (#[.int .i64 (bitN b)] ++ lb) w1 (EachStep k w1 (Inv (pos + 1)))) :
    Calls Tryd.prog 67 #[.string s, .func (.func g) #[] lb] w fun e w' => e = .returned (.bool true) ∧ Inv s.size w' := by
  have HB := Lib.hid hb
  have H0 := Lib.hid h0
  have HIT := Lib.hid hit
  have HDO := Lib.hid hdo
  clear hb h0 hit hdo
  go_enter Tryd.func67, Tryd.ntmps67
  go_wp2_with fail
  refine (cright_v HB.out _).mono ?_
  rintro e w0 ⟨rfl, hb0⟩
  have HI0 := Lib.hid (H0.out w0 hb0)
  have HLE : Hid (w.heap.size ≤ w0.heap.size) := Lib.hid hb0.size
  clear hb0 H0
  go_wp2
  go_loopg [] s.size (fun gf wx => ∃ pos : Nat, wx.heap[w0.heap.size]? = some (.stringIter s pos) ∧ Hid (Inv pos wx) ∧ pos ≤ s.size ∧ s.size ≤ pos + gf)
  case atStart => exact ⟨0, World.iter_heap w0 s 0, HI0, Nat.zero_le _, by omega⟩
  case round =>
    obtain ⟨pos, hit, HI, hle, hfu⟩ := hrel
    by_cases hps : pos < s.size
    · obtain ⟨g', rfl⟩ : ∃ g', gk = g' + 1 := ⟨gk - 1, by omega⟩
      obtain ⟨b, hbt, -⟩ := bt_bit HB.out hps
      obtain ⟨e1, e2⟩ := rune_bit hps (bt_isBit hbt)
      have hnx : ∀ ty, (Instr.next (.pointer (some ⟨w0.heap.size, 0, none⟩)) true ty).run Tryd.prog wr = _ := fun ty => Lib.run_next_any_at wr w0.heap.size s pos ty hit hps
      have cS := HDO.out w0.heap.size pos _ b HLE.out hps hbt (HIT.out _ pos (pos + 1) _ HLE.out HI.out hit)
      have hit2 := Lib.iterAt_heap wr w0.heap.size s pos (pos + 1) hit
      simp only [e1, e2, hbt] at hnx
      clear e1 e2 hbt
      generalize wr.iterAt w0.heap.size s (pos + 1) = W at hnx hit2 cS
      cases b
      · simp only [show bitC false = 48 from rfl] at hnx
        simp only [show bitN false = 0 from rfl] at cS
        have CS := Lib.hid cS
        clear cS
        go_wp2_with (go_at_fn g; refine CS.out.mono ?_; rintro e W' ⟨rfl, hkeep, hI⟩)
        go_roundg g'
        case measure => omega
        case rel => exact ⟨pos + 1, hkeep _ _ hit2, Lib.hid hI, by omega, by omega⟩
      · simp only [show bitC true = 49 from rfl] at hnx
        simp only [show bitN true = 1 from rfl] at cS
        have CS := Lib.hid cS
        clear cS
        go_wp2_with (go_at_fn g; refine CS.out.mono ?_; rintro e W' ⟨rfl, hkeep, hI⟩)
        go_roundg g'
        case measure => omega
        case rel => exact ⟨pos + 1, hkeep _ _ hit2, Lib.hid hI, by omega, by omega⟩
    · obtain rfl : pos = s.size := by omega
      have hnx : ∀ ty, (Instr.next (.pointer (some ⟨w0.heap.size, 0, none⟩)) true ty).run Tryd.prog wr = _ := fun ty => Lib.run_next_end_at wr w0.heap.size s s.size ty hit hps
      go_wp2
      go_ret
      exact ⟨rfl, HI.out⟩

end Go.Proofs.YtfooigckcjbegaaDoor

namespace Go.Proofs.YtfooigckcjbegaaDoor
open Go.RowKit
set_option linter.unusedVariables false

structure SumSt (B c l n w p a : Nat) (w0 wr : World) : Prop where
  below : Below B w0 wr
  check : Box wr c (.int .i64 n) 3
  width : Box wr B (.int .i64 w) 3
  all : Box wr l (.int .i64 a) 3
  poly : Box wr (B + 1) (.int .i64 p) 3
  le : B ≤ w0.heap.size
  hc : B + 1 < c
  ne : c ≠ l
theorem SumSt.alloc {B c l n w p a : Nat} {w0 wr : World} (h : SumSt B c l n w p a w0 wr) (o : Obj) : SumSt B c l n w p a w0 (wr.alloc o) :=
  ⟨h.below.alloc (Nat.le_trans h.le h.below.size) _, h.check.alloc o, h.width.alloc o, h.all.alloc o, h.poly.alloc o, h.le, h.hc, h.ne⟩
theorem SumSt.later {B c l n w p a : Nat} {w0 wr w' : World} (h : SumSt B c l n w p a w0 wr) (hb : Below wr.heap.size wr w') : SumSt B c l n w p a w0 w' :=
  ⟨h.below.trans (hb.mono (Nat.le_trans h.le h.below.size)), h.check.below hb h.check.lt, h.width.below hb h.width.lt, h.all.below hb h.all.lt, h.poly.below hb h.poly.lt, h.le, h.hc, h.ne⟩
theorem SumSt.iterAt {B c l n w p a i q r : Nat} {w0 wr : World} {s : ByteArray} (h : SumSt B c l n w p a w0 wr) (hi : wr.heap[i]? = some (.stringIter s q)) (hB : B ≤ i) : SumSt B c l n w p a w0 (wr.iterAt i s r) :=
  ⟨Lib.below_iterAt h.below hB s r, h.check.iterAt hi, h.width.iterAt hi, h.all.iterAt hi, h.poly.iterAt hi, h.le, h.hc, h.ne⟩
theorem SumSt.stored {B c l n w p a m : Nat} {w0 wr : World} (h : SumSt B c l n w p a w0 wr) : SumSt B c l m w p a w0 (wr.setCell ⟨c, 0, none⟩ (.int .i64 m)) :=
  have hc := h.hc
  ⟨(Upd.setL c c wr _).below h.below (by omega) (by omega), h.check.set _, h.width.other (by omega) _, h.all.other (fun e => h.ne e.symm) _, h.poly.other (by omega) _, h.le, h.hc, h.ne⟩
theorem sum_keepsI {B c l n w p a : Nat} {w0 wr : World} (h : SumSt B c l n w p a w0 wr) (k : Nat) (u : Value) : KeepsI k wr (wr.setCell ⟨c, 0, none⟩ u) := (Upd.setL c c wr u).keepsI h.check h.check k
/-! ### bits of whole numbers -/
theorem i64_nat (a : Nat) (ha : a < 9223372036854775808) : (BitVec.ofInt 64 (a : Int)).toNat = a := by rw [BitVec.ofInt_natCast, BitVec.toNat_ofNat]; exact Nat.mod_eq_of_lt (by omega)
theorem wrap_small (a : Nat) (ha : a < 9223372036854775808) : IntKind.i64.wrap (a : Int) = (a : Int) := by
  rw [IntKind.wrap_i64]; omega
theorem i64_xor (a b : Nat) (ha : a < 9223372036854775808) (hb : b < 9223372036854775808) : bits .xor .i64 (a : Int) (b : Int) = ((a ^^^ b : Nat) : Int) := by
  show IntKind.i64.wrap (((BitVec.ofInt 64 (a : Int)) ^^^ (BitVec.ofInt 64 (b : Int))).toNat : Int) = _
  have := Nat.xor_lt_two_pow (n := 63) ha hb
  rw [BitVec.toNat_xor, i64_nat a ha, i64_nat b hb, wrap_small _ this]
theorem i64_and (a b : Nat) (ha : a < 9223372036854775808) (hb : b < 9223372036854775808) : bits .and .i64 (a : Int) (b : Int) = ((a &&& b : Nat) : Int) := by
  show IntKind.i64.wrap (((BitVec.ofInt 64 (a : Int)) &&& (BitVec.ofInt 64 (b : Int))).toNat : Int) = _
  have := Nat.and_lt_two_pow (n := 63) a hb
  rw [BitVec.toNat_and, i64_nat a ha, i64_nat b hb, wrap_small _ this]
theorem i64_or (a b : Nat) (ha : a < 9223372036854775808) (hb : b < 9223372036854775808) : bits .or .i64 (a : Int) (b : Int) = ((a ||| b : Nat) : Int) := by
  show IntKind.i64.wrap (((BitVec.ofInt 64 (a : Int)) ||| (BitVec.ofInt 64 (b : Int))).toNat : Int) = _
  have := Nat.or_lt_two_pow (n := 63) ha hb
  rw [BitVec.toNat_or, i64_nat a ha, i64_nat b hb, wrap_small _ this]
theorem pow30 {w : Nat} (hw : w ≤ 30) : 2 ^ w ≤ 1073741824 := Nat.pow_le_pow_right (by decide) hw
/-- the highest bit -/
theorem top_bit {w n : Nat} (hw : 1 ≤ w) (hn : n < 2 ^ w) : ((n : Int) / 2 ^ (w - 1) != 0) = n.testBit (w - 1) ∧ ((n : Int) / 2 ^ (w - 1) != 1) = !n.testBit (w - 1) := by
  have e : (n : Int) / 2 ^ (w - 1) = ((n / 2 ^ (w - 1) : Nat) : Int) := by simp
  have h2 : 2 ^ w = 2 * 2 ^ (w - 1) := by
    have e : w = (w - 1) + 1 := by omega
    conv => lhs; rw [e]
    rw [Nat.pow_succ, Nat.mul_comm]
  have hlt : n / 2 ^ (w - 1) < 2 := (Nat.div_lt_iff_lt_mul (Nat.two_pow_pos _)).2 (by omega)
  rw [e, Nat.testBit_eq_decide_div_mod_eq]
  generalize n / 2 ^ (w - 1) = x at hlt
  have : x = 0 ∨ x = 1 := by omega
  rcases this with rfl | rfl <;> exact ⟨by decide, by decide⟩
theorem step_val {w p n m : Nat} {b : Bool} (hm : stepC w p n b = m) (hw2 : w ≤ 30) (hn : n < 2 ^ w) (hp : p < 2 ^ w) :
    bits .and .i64 ((n : Int) * 2) ((2 ^ w - 1 : Nat) : Int) = ((2 * n % 2 ^ w : Nat) : Int) ∧ ((n.testBit (w - 1) != b) = false → 2 * n % 2 ^ w = m) ∧ ((n.testBit (w - 1) != b) = true → bits .xor .i64 ((2 * n % 2 ^ w : Nat) : Int) (p : Int) = (m : Int)) := by
  have h30 := pow30 hw2
  have hlt := Nat.mod_lt (2 * n) (Nat.two_pow_pos w)
  unfold stepC at hm
  refine ⟨?_, fun h => ?_, fun h => ?_⟩
  · have e : (n : Int) * 2 = ((2 * n : Nat) : Int) := by omega
    rw [e, i64_and _ _ (by omega) (by omega), Nat.and_two_pow_sub_one_eq_mod]
  · rw [← hm, h]; simp
  · rw [i64_xor _ _ (by omega) (by omega), ← hm, h]; simp

set_option maxHeartbeats 2000000 in
theorem sumC_v {B c l n w p a m k : Nat} {b : Bool} {w0 wr : World} (ha : 2 ^ w - 1 = a) (hm : stepC w p n b = m) (hn : n < 2 ^ w) (hw : 1 ≤ w) (hw2 : w ≤ 30) (hp : p < 2 ^ w) (h : SumSt B c l n w p a w0 wr) :
    Calls Tryd.prog 68 #[.int .i64 (bitN b), .pointer (some ⟨c, 0, none⟩), .pointer (some ⟨B, 0, none⟩), .pointer (some ⟨l, 0, none⟩), .pointer (some ⟨B + 1, 0, none⟩)] wr (EachStep k wr (SumSt B c l m w p a w0)) := by
  have H := Lib.hid h
  have c1 := h.check.cell
  have c2 := h.width.cell
  have c3 := h.all.cell
  have c4 := h.poly.cell
  have f1 := h.check.live
  have h30 := pow30 hw2
  obtain ⟨v1, v2, v3⟩ := step_val hm hw2 hn hp
  rw [ha] at v1
  have hz : 2 * n % 2 ^ w < 1073741824 := Nat.lt_of_lt_of_le (Nat.mod_lt _ (Nat.two_pow_pos w)) h30
  obtain ⟨t0, t1⟩ := top_bit hw hn
  have hn2 : n < 1073741824 := by omega
  generalize 2 * n % 2 ^ w = z at v1 v2 v3 hz
  generalize n.testBit (w - 1) = top at v2 v3 t0 t1
  have hB2 := (H.out.stored (m := z)).check
  have c5 := hB2.cell
  have f5 := hB2.live
  have c6 := (H.out.stored (m := z)).poly.cell
  clear hB2 hm ha hn hp h h30
  cases b
  · cases top
    · have HM := Lib.hid (v2 rfl)
      clear v2 v3 t1
      simp only [show bitN false = 0 from rfl]
      go_enter Tryd.func68, Tryd.ntmps68
      go_wp2
      go_end0
      exact ⟨rfl, sum_keepsI H.out k _, HM.out ▸ H.out.stored⟩
    · have HM := Lib.hid (v3 rfl)
      clear v2 v3 t1
      simp only [show bitN false = 0 from rfl]
      go_enter Tryd.func68, Tryd.ntmps68
      go_wp2
      go_end0
      rw [HM.out]
      exact ⟨rfl, (sum_keepsI H.out k _).trans (sum_keepsI H.out.stored k _), H.out.stored.stored⟩
  · cases top
    · have HM := Lib.hid (v3 rfl)
      clear v2 v3 t0
      simp only [show bitN true = 1 from rfl]
      go_enter Tryd.func68, Tryd.ntmps68
      go_wp2
      go_end0
      rw [HM.out]
      exact ⟨rfl, (sum_keepsI H.out k _).trans (sum_keepsI H.out.stored k _), H.out.stored.stored⟩
    · have HM := Lib.hid (v2 rfl)
      clear v2 v3 t0
      simp only [show bitN true = 1 from rfl]
      go_enter Tryd.func68, Tryd.ntmps68
      go_wp2
      go_end0
      exact ⟨rfl, sum_keepsI H.out k _, HM.out ▸ H.out.stored⟩
theorem sum_each {B c l w p a n : Nat} {s : ByteArray} {w0 wr : World} (hn : feedC w p 0 (toB (byL s)) = n) (hb : bitsB (byL s) = true) (ha : 2 ^ w - 1 = a) (hw : 1 ≤ w) (hw2 : w ≤ 30) (hp : p < 2 ^ w) (h : SumSt B c l 0 w p a w0 wr) :
    Calls Tryd.prog 67 #[.string s, .func (.func 68) #[] #[.pointer (some ⟨c, 0, none⟩), .pointer (some ⟨B, 0, none⟩), .pointer (some ⟨l, 0, none⟩), .pointer (some ⟨B + 1, 0, none⟩)]] wr
      fun e w' => e = .returned (.bool true) ∧ SumSt B c l n w p a w0 w' := by
  have hle : B ≤ wr.heap.size := Nat.le_trans h.le h.below.size
  refine (each_t 68 _ (enters_of Tryd.func68 (by kernel_rfl) rfl) hb (fun pos wx => SumSt B c l (feedC w p 0 (toB ((byL s).take pos))) w p a w0 wx) wr
    (fun w1 hb1 => (h.later hb1).alloc _) (fun k pos q w1 hk h1 hi => h1.iterAt hi (Nat.le_trans hle hk)) ?_).mono ?_
  · intro k pos w1 b hk hps hbt h1
    obtain ⟨b', hb', ht⟩ := bt_bit hb hps
    obtain rfl : b = b' := bitC_inj.1 (hbt.symm.trans hb')
    refine sumC_v ha ?_ (feed_lt hp _ 0 (Nat.two_pow_pos w)) hw hw2 hp h1
    rw [ht, feedC_app]
    rfl
  · rintro e w' ⟨rfl, h1⟩
    rw [List.take_of_length_le (by rw [byL_len]; omega), hn] at h1
    exact ⟨rfl, h1⟩
theorem Box.drewN {w : World} {k : Nat} {v : Value} {t : TypeId} (h : Box w k v t) (n : Nat) : Box (w.drewN n) k v t := h
theorem two_boxes (W : World) (w p k : Nat) {W1 : World} (h : W1 = ((W.alloc (Obj.cells #[Value.int IntKind.i64 ↑w] 3)).alloc (Obj.cells #[Value.int IntKind.i64 ↑p] 3)).drewN k) :
    Box W1 W.heap.size (.int .i64 w) 3 ∧ Box W1 (W.heap.size + 1) (.int .i64 p) 3 ∧ Below W.heap.size W W1 ∧ W1.heap.size = W.heap.size + 1 + 1 := by
  subst h
  have h1 := (Box.made W (.int .i64 w) 3 rfl).alloc (Obj.cells #[Value.int IntKind.i64 ↑p] 3)
  have h2 : Box ((W.alloc (Obj.cells #[Value.int IntKind.i64 ↑w] 3)).alloc (Obj.cells #[Value.int IntKind.i64 ↑p] 3)) (W.heap.size + 1) (.int .i64 p) 3 := Box.made _ _ _ (by simp)
  exact ⟨h1.drewN k, h2.drewN k, below_drewN (((Below.refl _ W).alloc (Nat.le_refl _) _).alloc (by simp) _) k, by show ((W.alloc _).alloc _).heap.size = _; simp⟩
theorem sum_made1 (W : World) (w p a k : Nat) : SumSt W.heap.size (W.heap.size + 1 + 1) (W.heap.size + 1 + 1 + 1) 0 w p a W (((((W.alloc (Obj.cells #[Value.int IntKind.i64 ↑w] 3)).alloc (Obj.cells #[Value.int IntKind.i64 ↑p] 3)).drewN k).alloc (Obj.cells #[Value.int IntKind.i64 0] 3)).alloc (Obj.cells #[Value.int IntKind.i64 ↑a] 3)) := by
  obtain ⟨h1, h2, h3, h4⟩ := two_boxes W w p k rfl
  have h5 := (Box.made _ (.int .i64 0) 3 h4).alloc (Obj.cells #[Value.int IntKind.i64 ↑a] 3)
  exact ⟨(h3.alloc (by omega) _).alloc (by simp; omega) _, h5, (h1.alloc _).alloc _, Box.made _ _ _ (by simp []), (h2.alloc _).alloc _, Nat.le_refl _, by omega, by omega⟩
theorem sum_made2 (W : World) (w p a k : Nat) : SumSt W.heap.size (W.heap.size + 1 + 1 + 1) (W.heap.size + 1 + 1) 0 w p a W (((((W.alloc (Obj.cells #[Value.int IntKind.i64 ↑w] 3)).alloc (Obj.cells #[Value.int IntKind.i64 ↑p] 3)).drewN k).alloc (Obj.cells #[Value.int IntKind.i64 ↑a] 3)).alloc (Obj.cells #[Value.int IntKind.i64 0] 3)) := by
  obtain ⟨h1, h2, h3, h4⟩ := two_boxes W w p k rfl
  have h5 := (Box.made _ (.int .i64 a) 3 h4).alloc (Obj.cells #[Value.int IntKind.i64 0] 3)
  exact ⟨(h3.alloc (by omega) _).alloc (by simp; omega) _, Box.made _ _ _ (by simp []), (h1.alloc _).alloc _, h5, (h2.alloc _).alloc _, Nat.le_refl _, by omega, by omega⟩

set_option maxHeartbeats 4000000 in
theorem ksum_t {s : ByteArray} {w p n : Nat} (hn : feedC w p 0 (toB (byL s)) = n) (hb : bitsB (byL s) = true) (hw : 1 ≤ w) (hw2 : w ≤ 30) (hp : p < 2 ^ w) (W : World) :
    Calls Tryd.prog 55 #[.string s, .int .i64 w, .int .i64 p] W fun e w' => e = .returned (.tuple #[.int .i64 n, .bool true]) ∧ Below W.heap.size W w' := by
  have HN := Lib.hid hn
  have HB := Lib.hid hb
  have HP := Lib.hid hp
  have h30 := pow30 hw2
  have hmf : ∀ (fn : Fn) (first cap : Array Value) (w : World), (Instr.makeFunc fn first cap).run Tryd.prog w = .ok (.func fn first cap) w := fun _ _ _ _ => rfl
  have d1 : decide ((w : Int) < 1) = false := by simp; omega
  have d2 : decide (30 < (w : Int)) = false := by simp; omega
  have d3 : decide ((p : Int) < 0) = false := by simp
  obtain ⟨q, hq⟩ : ∃ q, 2 ^ w = q := ⟨_, rfl⟩
  obtain ⟨a, ha⟩ : ∃ a, q - 1 = a := ⟨_, rfl⟩
  have HQ := Lib.hid hq
  have HA : Hid (2 ^ w - 1 = a) := Lib.hid (by rw [hq, ha])
  rw [hq] at hp h30
  have hwr : wrap64 ((2 : Int) ^ w) = (q : Int) := by
    have e : ((2 : Int) ^ w) = ((2 ^ w : Nat) : Int) := by simp
    rw [e, hq]; unfold wrap64; omega
  have d4 : decide ((q : Int) ≤ (p : Int)) = false := by simp; omega
  have hq1 : (q : Int) - 1 = (a : Int) := by have := Nat.two_pow_pos w; omega
  clear hn hb hq ha
  go_enter Tryd.func55, Tryd.ntmps55
  go_wp2_with fail
  go_quiet (fail)

  go_wp2_with fail
  go_region
  · have HS := Lib.hid (sum_made1 W w p a (nq + 1))
    go_wp2_with fail
    refine (sum_each HN.out HB.out HA.out hw hw2 HP.out HS.out).mono ?_
    rintro e w1 ⟨rfl, h1⟩
    have c1 := h1.check.cell
    have HB1 := Lib.hid h1.below
    clear h1
    go_wp2
    go_ret2
    exact ⟨rfl, HB1.out⟩
  · have HS := Lib.hid (sum_made2 W w p a (nq + 1))
    go_wp2_with fail
    refine (sum_each HN.out HB.out HA.out hw hw2 HP.out HS.out).mono ?_
    rintro e w1 ⟨rfl, h1⟩
    have c1 := h1.check.cell
    have HB1 := Lib.hid h1.below
    clear h1
    go_wp2
    go_ret2
    exact ⟨rfl, HB1.out⟩
end Go.Proofs.YtfooigckcjbegaaDoor
