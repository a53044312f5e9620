/- Crc: the long division, row by row; the contract of the document's Sum. -/
import Derived.Test.YtfjebggekghgkaaCrcA
import Derived.Test.YtfjebggekghgkaaFreeR
namespace Go.Proofs.Ytfjebggekghgkaa
open Go.RowKit
set_option linter.unusedVariables false

/-! ### the division -/
def sBit (L : List Bool) (x : Nat) : Bool := L.getD x false
def stC (w p : Nat) (L : List Bool) (i : Nat) : Nat := feedC w p 0 (L.take i)
def rowF (w p : Nat) (L : List Bool) (i x : Nat) : Bool := decide (i ≤ x) && (sBit L x ^^ (decide (x < i + w) && (stC w p L i).testBit (w - 1 - (x - i))))
/-- the bits that it is divided by -/
def byB (w p k : Nat) : Bool := k == 0 || p.testBit (w - k)
theorem stC_succ (w p : Nat) (L : List Bool) (i : Nat) (h : i < L.length) : stC w p L (i + 1) = stepC w p (stC w p L i) (sBit L i) := by
  unfold stC sBit
  rw [List.take_succ_eq_append_getElem h, feedC_app, List.getD_eq_getElem?_getD, List.getElem?_eq_getElem h]
  rfl
theorem rowF_0 (w p : Nat) (L : List Bool) (x : Nat) : rowF w p L 0 x = sBit L x := by
  unfold rowF stC
  simp [feedC]
theorem rowF_top {w : Nat} (hw : 1 ≤ w) (p : Nat) (L : List Bool) (i : Nat) : rowF w p L i i = (sBit L i ^^ (stC w p L i).testBit (w - 1)) := by
  unfold rowF
  rw [Nat.sub_self, Nat.sub_zero, decide_eq_true (Nat.le_refl i), decide_eq_true (show i < i + w by omega)]
  simp
theorem rowF_step {w : Nat} (hw : 1 ≤ w) (p : Nat) (L : List Bool) (i x : Nat) (h : i < L.length) :
    rowF w p L (i + 1) x = (rowF w p L i x ^^ (rowF w p L i i && (decide (i ≤ x) && (decide (x < i + (w + 1)) && byB w p (x - i))))) := by
  rw [rowF_top hw]
  rcases Nat.lt_trichotomy x i with hx | hx | hx
  · have e1 : decide (i + 1 ≤ x) = false := by simp; omega
    have e2 : decide (i ≤ x) = false := by simp; omega
    unfold rowF
    rw [e1, e2]
    simp
  · subst hx
    have e1 : decide (x + 1 ≤ x) = false := by simp
    rw [rowF_top hw, Nat.sub_self]
    unfold rowF byB
    rw [e1]
    have e2 : decide (x < x + (w + 1)) = true := by simp
    rw [e2]
    cases sBit L x <;> cases (stC w p L x).testBit (w - 1) <;> simp
  · obtain ⟨k, rfl⟩ : ∃ k, x = i + (k + 1) := ⟨x - i - 1, by omega⟩
    have e1 : decide (i + 1 ≤ i + (k + 1)) = true := by simp
    have e2 : decide (i ≤ i + (k + 1)) = true := by simp
    unfold rowF byB
    rw [e1, e2, stC_succ w p L i h, step_bit, show i + (k + 1) - (i + 1) = k by omega, show i + (k + 1) - i = k + 1 by omega]
    by_cases hk : k + 1 ≤ w
    · have e3 : decide (i + (k + 1) < i + 1 + w) = true := by simp; omega
      have e4 : decide (i + (k + 1) < i + (w + 1)) = true := by simp; omega
      have e5 : decide (w - 1 - k < w) = true := by simp; omega
      have e6 : decide (i + (k + 1) < i + w) = decide (1 ≤ w - 1 - k) := by
        rw [Bool.eq_iff_iff]; simp; omega
      have e7 : (k + 1 == 0) = false := by simp
      rw [e3, e4, e5, e6, e7, show w - 1 - k - 1 = w - 1 - (k + 1) by omega, show w - (k + 1) = w - 1 - k by omega]
      cases sBit L (i + (k + 1)) <;> cases decide (1 ≤ w - 1 - k) <;> cases (stC w p L i).testBit (w - 1 - (k + 1)) <;> cases (stC w p L i).testBit (w - 1) <;> cases sBit L i <;> cases p.testBit (w - 1 - k) <;> rfl
    · have e3 : decide (i + (k + 1) < i + 1 + w) = false := by simp; omega
      have e4 : decide (i + (k + 1) < i + (w + 1)) = false := by simp; omega
      have e6 : decide (i + (k + 1) < i + w) = false := by simp; omega
      rw [e3, e4, e6]
      simp
theorem rowF_end {w : Nat} (p : Nat) (L : List Bool) (j : Nat) (hj : j < w) : rowF w p L L.length (L.length + j) = (feedC w p 0 L).testBit (w - 1 - j) := by
  unfold rowF stC sBit
  rw [List.take_length, show L.length + j - L.length = j by omega, List.getD_eq_getElem?_getD, List.getElem?_eq_none (by omega)]
  have e1 : decide (L.length ≤ L.length + j) = true := by simp
  have e2 : decide (L.length + j < L.length + w) = true := by simp; omega
  rw [e1, e2]
  simp

/-! ### rows in memory -/
def RowM (g n : Nat) (f : Nat → Bool) (w : World) : Prop := ∀ x, x < n → w.cell? ⟨g, x, none⟩ = some (.int .u8 (bitC (f x))) ∧ w.frozen? ⟨g, x, none⟩ = false
theorem RowM.set {g n x : Nat} {f : Nat → Bool} {w : World} {b : Bool} (h : RowM g n f w) (hx : x < n) : RowM g n (fun y => if y = x then b else f y) (w.setCell ⟨g, x, none⟩ (.int .u8 (bitC b))) := by
  intro y hy
  rw [World.frozen?_setCell]
  refine ⟨?_, (h y hy).2⟩
  dsimp only
  by_cases hyx : y = x
  · subst hyx
    rw [if_pos rfl, World.cell?_setCell_same' _ _ _ (by rw [(h y hy).1]; rfl)]
  · rw [if_neg hyx, World.cell?_setCell_other _ _ _ _ (by intro e; injection e; omega)]
    exact (h y hy).1
theorem RowM.congr {g n : Nat} {f f' : Nat → Bool} {w : World} (h : RowM g n f w) (he : ∀ x, x < n → f x = f' x) : RowM g n f' w := fun x hx => by
  rw [← he x hx]; exact h x hx
theorem RowM.below {g n : Nat} {f : Nat → Bool} {w w1 : World} (h : RowM g n f w) (hg : g < w.heap.size) (hb : Below w.heap.size w w1) : RowM g n f w1 := fun x hx =>
  ⟨(hb.cell (p := ⟨g, x, none⟩) hg).trans (h x hx).1, (hb.frozen (p := ⟨g, x, none⟩) hg).trans (h x hx).2⟩

set_option maxHeartbeats 1000000 in
theorem csum_f {s : ByteArray} {w p : Int} (h : (bitsB (byL s) && rightC w p) = false) (hs : s.size ≤ maxLen) (W : World) :
    Calls Try.prog 10 #[.string s, .int .i64 w, .int .i64 p] W fun e w' => e = .returned (.tuple #[.int .i64 0, .bool false]) ∧ W = w' := by
  cases hb : bitsB (byL s)
  · have HB := Lib.hid hb
    clear hb h
    go_enter Try.func10, Try.ntmps10
    go_wp2_with fail
    refine (sright_v HB.out hs _).mono ?_
    rintro e w1 ⟨rfl, rfl⟩
    go_wp2
    go_ret2
    exact ⟨rfl, rfl⟩
  · have HB := Lib.hid hb
    have HR : Hid (rightC w p = false) := Lib.hid (by rw [hb] at h; simpa using h)
    clear hb h
    go_enter Try.func10, Try.ntmps10
    go_wp2_with fail
    refine (sright_v HB.out hs _).mono ?_
    rintro e w1 ⟨rfl, rfl⟩
    go_wp2_with fail
    refine (wright_v HR.out _).mono ?_
    rintro e w1 ⟨rfl, rfl⟩
    go_wp2
    go_ret2
    exact ⟨rfl, rfl⟩

def zerosL (s : ByteArray) (k : Nat) : List Int := byL s ++ List.replicate k 48
theorem zerosL_succ (s : ByteArray) (k : Nat) : zerosL s (k + 1) = zerosL s k ++ [48] := by unfold zerosL; rw [List.replicate_succ', List.append_assoc]
theorem zerosL_len (s : ByteArray) (k : Nat) : (zerosL s k).length = s.size + k := by unfold zerosL; rw [List.length_append, byL_len, List.length_replicate]

theorem zeros_bit {s : ByteArray} (hb : bitsB (byL s) = true) (w x : Nat) (hx : x < s.size + w) : (zerosL s w).getD x 0 = bitC (sBit (toB (byL s)) x) := by
  unfold zerosL sBit
  by_cases h : x < s.size
  · rw [getD_app_left (by rw [byL_len]; exact h)]
    conv => lhs; rw [← C_toB hb]
    rw [List.getD_eq_getElem?_getD, List.getD_eq_getElem?_getD, List.getElem?_map, List.getElem?_eq_getElem (by rw [toB_len, byL_len]; exact h)]
    rfl
  · rw [List.getD_eq_getElem?_getD, List.getElem?_append_right (by rw [byL_len]; omega), byL_len, List.getElem?_replicate, if_pos (by omega), List.getD_eq_getElem?_getD, List.getElem?_eq_none (by rw [toB_len, byL_len]; omega)]
    rfl
/-- the bits that it is divided by, as a text -/
theorem by_text (w p : Nat) : (ByteArray.mk #[49] ++ strOfNums (bitsI p w)).size = w + 1 ∧ ∀ k, k ≤ w → bt (ByteArray.mk #[49] ++ strOfNums (bitsI p w)) k = bitC (byB w p k) := by
  have hz : (ByteArray.mk #[49]).size = 1 := rfl
  refine ⟨by rw [ByteArray.size_append, strOfNums_size, bitsI_len, hz]; omega, fun k hk => ?_⟩
  rw [bt_app, hz]
  by_cases h : k < 1
  · obtain rfl : k = 0 := by omega
    rw [if_pos (by decide)]
    rfl
  · rw [if_neg h, bt_nums _ (isBy_bits (bitsI_bits p w))]
    have key : ∀ r j, j < r → (bitsT p r).getD j false = p.testBit (r - 1 - j) := by
      intro r
      induction r with
      | zero => intro j hj; omega
      | succ r ih =>
        intro j hj
        cases j with
        | zero => rfl
        | succ j => rw [bitsT, List.getD_cons_succ, ih j (by omega)]; congr 1; omega
    unfold bitsI
    have hl : k - 1 < (bitsT p w).length := by rw [bitsT_len]; omega
    have := key w (k - 1) (by omega)
    rw [List.getD_eq_getElem?_getD, List.getElem?_eq_getElem hl] at this
    rw [List.getD_eq_getElem?_getD, List.getElem?_map, List.getElem?_eq_getElem hl]
    simp only [Option.map_some, Option.getD_some] at this ⊢
    rw [this]
    unfold byB
    have e : (k == 0) = false := by simp; omega
    rw [e, Bool.false_or, show w - 1 - (k - 1) = w - k by omega]

set_option maxRecDepth 100000 in
set_option maxHeartbeats 4000000 in
theorem csum_t {s : ByteArray} {w p n : Nat} (hn : feedC w p 0 (toB (byL s)) = n) (hb : bitsB (byL s) = true) (hw : 1 ≤ w) (hw2 : w ≤ 30) (hp : p < 2 ^ w) (hs : s.size ≤ 100000) (W : World) :
    Calls Try.prog 10 #[.string s, .int .i64 w, .int .i64 p] W fun e w' => e = .returned (.tuple #[.int .i64 n, .bool true]) ∧ Below W.heap.size W w' := by
  obtain ⟨i0, hi, hz0, hz1, hz2⟩ := info_parts info_u8
  have hp30 : p < 1073741824 := by
    have : 2 ^ w ≤ 2 ^ 30 := Nat.pow_le_pow_right (by decide) hw2
    omega
  have HB := Lib.hid hb
  have HN := Lib.hid hn
  have HP := Lib.hid hp
  have HW := Lib.hid hw
  have HR : Hid (rightC w p = true) := Lib.hid (by
    unfold rightC
    rw [Int.toNat_natCast, decide_eq_true (show 1 ≤ (w : Int) by omega), decide_eq_true (show (w : Int) ≤ 30 by omega), decide_eq_true (show 0 ≤ (p : Int) by omega), decide_eq_true (Int.ofNat_lt.2 hp)]; rfl)
  have hcb := conv_bytes s W
  have HG0 : Hid (GathR W.heap.size W (.slice (some ⟨W.heap.size, 0, none⟩) s.size (grownCap W s.size 0 5)) (zerosL s 0) (Lib.bytesWorld W 5 s)) := Lib.hid ⟨by
    have := free_bytes W 5 s (by unfold maxLen; omega)
    unfold zerosL
    rw [List.replicate_zero, List.append_nil]
    exact this, bytesWorld_below W _ s, (bytesWorld_below W _ s).size⟩
  have C2 : Hid (∀ u ∈ [Value.int .u8 48], u.oneCell' = true) := Lib.hid (fun u hu => by simp at hu; subst hu; rfl)
  clear hb hn hp
  go_enter Try.func10, Try.ntmps10
  go_wp2_with fail
  refine (sright_v HB.out (by unfold maxLen; omega) _).mono ?_
  rintro e w1 ⟨rfl, rfl⟩
  go_wp2_with fail
  refine (wright_v HR.out _).mono ?_
  rintro e w1 ⟨rfl, rfl⟩
  go_wp2_with fail
  go_loopw [8, 9] (fun v i wr => ∃ k : Nat, k ≤ w ∧ i = .int .i64 k ∧ Hid (GathR W.heap.size W v (zerosL s k) wr)) (fun _ i _ => w - (intOf i).toNat)
  case atStart => exact ⟨0, Nat.zero_le _, rfl, HG0⟩
  case round =>
    obtain ⟨k, hk, rfl, HG⟩ := hrel
    by_cases hlt : k < w
    · obtain ⟨wo, rfl⟩ : ∃ wo : World, wo = wr := ⟨_, rfl⟩
      have HG1 : Hid (GathR W.heap.size W u8 (zerosL s k) (wo.alloc (.cells #[.int .u8 48] 5))) := Lib.hid (HG.out.later ((Below.refl _ _).alloc (Nat.le_refl _) _))
      have C3 : Hid ((zerosL s k).length + 1 ≤ 1000000) := Lib.hid (by rw [zerosL_len]; omega)
      have HS : Hid (Src Try.prog 1 39 (.slice (some ⟨wo.heap.size, 0, none⟩) 1 1) 1 [.int .u8 48] (wo.alloc (.cells #[.int .u8 48] 5))) := Lib.hid (Src.ofSlice _ Try.underlying39 ⟨wo.heap.size, 0, none⟩ 1 1 _ rfl (news_byte _ _ _) C2.out)
      have hshape : ∃ A c, u8 = .slice A (zerosL s k).length c := by
        obtain ⟨g, c, hv, _⟩ := HG.out.1
        exact ⟨_, _, hv⟩
      go_wp2_with (at_builtin; refine wpList_append_free (P := Try.prog) rfl _ _ 39 39 rfl 5 i0 Try.underlying39 hi hz0 hz1 hz2 rfl HG1.out (.slice (some ⟨wo.heap.size, 0, none⟩) 1 1) 48 rfl HS.out C3.out ?_)
      intro v' w1 hst
      have HST := Lib.hid hst
      clear hst
      go_wp2
      go_roundw
      case rel => exact ⟨k + 1, by omega, by go_num, by rw [zerosL_succ]; exact HST⟩
      case measure => simp [intOf]; omega
    · obtain rfl : k = w := by omega
      obtain ⟨g, c, hv, hBg, hgs, hl, hm, h1, h2⟩ := HG.out.1
      rw [zerosL_len] at hv hl h1
      subst hv
      have HBW := Lib.hid HG.out.2.1
      have HGS := Lib.hid hgs
      have HROW : Hid (RowM g (s.size + k) (rowF k p (toB (byL s)) 0) wr) := Lib.hid (fun x hx => ⟨by rw [rowF_0, ← zeros_bit HB.out k x hx]; exact h1 x hx, (h2 x (by omega)).2⟩)
      have HY := by_text k p
      have z1 : (ByteArray.mk #[49]).size = 1 := rfl
      have z2 : (strOfNums (bitsI p k)).size = k := by rw [strOfNums_size, bitsI_len]
      have hlc : s.size + k ≤ c := hl
      have HBG := Lib.hid hBg
      clear h1 h2 hl HG HG0 hcb hgs hBg
      go_wp2_with fail
      refine (cbits_t rfl (by omega) (by omega) _).mono ?_
      rintro e w1 ⟨rfl, hb1⟩
      have HBW1 := Lib.hid (fbelow_t HBW.out hb1)
      have HROW1 := Lib.hid (HROW.out.below HGS.out hb1)
      have HGS1 : Hid (g < w1.heap.size) := Lib.hid (Nat.lt_of_lt_of_le HGS.out hb1.size)
      clear hb1 HBW HROW HGS
      generalize strOfNums (bitsI p k) = t at z2 HY ⊢
      obtain ⟨Y, hY⟩ : ∃ Y, ByteArray.mk #[49] ++ t = Y := ⟨_, rfl⟩
      rw [hY] at HY
      obtain ⟨hYs, hYb⟩ := HY
      have HYb := Lib.hid hYb
      clear hYb
      go_wp2_with fail
      go_loopw [11] (fun i wr => ∃ x : Nat, x ≤ s.size ∧ i = .int .i64 x ∧ Hid (RowM g (s.size + k) (rowF k p (toB (byL s)) x) wr ∧ Below W.heap.size W wr ∧ g < wr.heap.size)) (fun i _ => s.size - (intOf i).toNat)
      case atStart => exact ⟨0, Nat.zero_le _, rfl, Lib.hid ⟨HROW1.out, HBW1.out, HGS1.out⟩⟩
      case round =>
        obtain ⟨i, hi2, rfl, HI⟩ := hrel
        by_cases hlt2 : i < s.size
        · have a0 : wr.cell? ⟨g, i, none⟩ = some (.int .u8 (bitC (rowF k p (toB (byL s)) i i))) := (HI.out.1 i (by omega)).1
          have HST : Hid (∀ x, rowF k p (toB (byL s)) (i + 1) x = (rowF k p (toB (byL s)) i x ^^ (rowF k p (toB (byL s)) i i && (decide (i ≤ x) && (decide (x < i + (k + 1)) && byB k p (x - i)))))) := Lib.hid (fun x => rowF_step HW.out p _ i x (by rw [toB_len, byL_len]; exact hlt2))
          have hi3 : (i : Int) < ((s.size + k : Nat) : Int) := by omega
          have hi0 : (0 : Int) ≤ (i : Int) := by omega
          generalize rowF k p (toB (byL s)) i i = top at a0 HST
          cases top
          · go_wp2_with fail
            go_roundw
            case rel => exact ⟨i + 1, by omega, by go_num, Lib.hid ⟨HI.out.1.congr (fun x _ => by rw [HST.out x]; simp), HI.out.2⟩⟩
            case measure => simp [intOf]; omega
          · go_wp2_with fail
            go_loopw [12] (fun j wr => ∃ y : Nat, y ≤ k + 1 ∧ j = .int .i64 y ∧ Hid (RowM g (s.size + k) (fun x => rowF k p (toB (byL s)) i x ^^ (decide (i ≤ x) && (decide (x < i + y) && byB k p (x - i)))) wr ∧ Below W.heap.size W wr ∧ g < wr.heap.size)) (fun j _ => k + 1 - (intOf j).toNat)
            case atStart => exact ⟨0, Nat.zero_le _, rfl, Lib.hid ⟨HI.out.1.congr (fun x _ => by
              have : (decide (i ≤ x) && (decide (x < i + 0) && byB k p (x - i))) = false := by
                by_cases h : i ≤ x
                · rw [decide_eq_false (show ¬ x < i + 0 by omega)]; simp
                · rw [decide_eq_false h]; rfl
              rw [this, Bool.xor_false]), HI.out.2⟩⟩
            case round =>
              obtain ⟨y, hy, rfl, HJ⟩ := hrel
              by_cases hyk : y ≤ k
              · have hix : ∀ w, (Instr.index 9 (.string Y) (.int .i64 y)).run Try.prog w = .ok (.int .u8 (bitC (byB k p y))) w := fun w => by rw [← HYb.out y hyk]; exact index_bt Try.underlying9 (by omega) w
                have hd1 : decide ((y : Int) ≤ (k : Int)) = true := by simp; omega
                have HCUR : Hid (wr.cell? ⟨g, i + y, none⟩ = some (.int .u8 (bitC (rowF k p (toB (byL s)) i (i + y)))) ∧ wr.frozen? ⟨g, i + y, none⟩ = false) := Lib.hid (by
                  have := HJ.out.1 (i + y) (by omega)
                  dsimp only at this
                  rw [decide_eq_false (show ¬ i + y < i + y by omega)] at this
                  simpa using this)
                have HNX : ∀ b : Bool, byB k p y = b → ∀ x, (rowF k p (toB (byL s)) i x ^^ (decide (i ≤ x) && (decide (x < i + (y + 1)) && byB k p (x - i)))) = (if x = i + y then (rowF k p (toB (byL s)) i (i + y) ^^ b) else (rowF k p (toB (byL s)) i x ^^ (decide (i ≤ x) && (decide (x < i + y) && byB k p (x - i))))) := fun b hb x => by
                  by_cases hx : x = i + y
                  · subst hx
                    rw [if_pos rfl, decide_eq_true (show i ≤ i + y by omega), decide_eq_true (show i + y < i + (y + 1) by omega), show i + y - i = y by omega, hb]; rfl
                  · rw [if_neg hx]
                    congr 3
                    rw [Bool.eq_iff_iff]; simp; omega
                cases hb : byB k p y
                · rw [hb] at hix
                  have HN2 := Lib.hid (HNX false hb)
                  clear HNX hb
                  go_wp2_with fail
                  go_roundw
                  case rel => exact ⟨y + 1, by omega, by go_num, Lib.hid ⟨HJ.out.1.congr (fun x hx => by
                    rw [HN2.out x]
                    by_cases e : x = i + y
                    · subst e
                      rw [if_pos rfl, decide_eq_false (show ¬ i + y < i + y by omega)]; simp
                    · rw [if_neg e]), HJ.out.2⟩⟩
                  case measure => simp [intOf]; omega
                · rw [hb] at hix
                  have HN2 := Lib.hid (HNX true hb)
                  clear HNX hb
                  have hiy1 : (i : Int) + (y : Int) ≤ 9223372036854775807 := by omega
                  have hiy2 : i + y < s.size + k := by omega
                  obtain ⟨a0, f0⟩ := HCUR.out
                  generalize hcur : rowF k p (toB (byL s)) i (i + y) = cur at a0 HN2
                  clear hcur HCUR
                  have hgt : ∀ u, g < (wr.setCell ⟨g, i + y, none⟩ u).heap.size := fun u => by simp [World.setCell]; exact HJ.out.2.2
                  have HGT := Lib.hid hgt
                  clear hgt
                  cases cur
                  · go_wp2_with fail
                    go_roundw
                    case rel => exact ⟨y + 1, by omega, by go_num, Lib.hid ⟨(HJ.out.1.set (b := true) hiy2).congr (fun x _ => by rw [HN2.out x]; rfl), HJ.out.2.1.setCell (p := ⟨g, i + y, none⟩) HBG.out _, HGT.out _⟩⟩
                    case measure => simp [intOf]; omega
                  · go_wp2_with fail
                    go_roundw
                    case rel => exact ⟨y + 1, by omega, by go_num, Lib.hid ⟨(HJ.out.1.set (b := false) hiy2).congr (fun x _ => by rw [HN2.out x]; rfl), HJ.out.2.1.setCell (p := ⟨g, i + y, none⟩) HBG.out _, HGT.out _⟩⟩
                    case measure => simp [intOf]; omega
              · obtain rfl : y = k + 1 := by omega
                have hd1 : decide (((k + 1 : Nat) : Int) ≤ (k : Int)) = false := by simp; omega
                go_wp2_with fail
                go_roundw
                case rel => exact ⟨i + 1, by omega, by go_num, Lib.hid ⟨HJ.out.1.congr (fun x _ => by rw [HST.out x]; simp), HJ.out.2⟩⟩
                case measure => simp [intOf]; omega
        · obtain rfl : i = s.size := by omega
          have hlL : (toB (byL s)).length = s.size := by rw [toB_len, byL_len]
          have hcv : ∀ c', (convert 39 9 (.slice (some ⟨g, s.size, none⟩) k c')).run Try.prog wr = .ok (.string (strOfNums (bitsI n k))) wr := fun c' => by
            refine run_convert_bytes_arg wr 39 5 Try.underlying39 Try.underlying5 g s.size k c' (bitsI n k) (bitsI_len n k) (fun j hj => ?_) 9 Try.underlying9
            rw [(HI.out.1 (s.size + j) (by omega)).1, ← hlL, rowF_end p _ j hj, HN.out]
            have key : ∀ r j, j < r → (bitsI n r).getD j 0 = bitC (n.testBit (r - 1 - j)) := by
              intro r
              induction r with
              | zero => intro j hj; omega
              | succ r ih =>
                intro j hj
                cases j with
                | zero => rfl
                | succ j => rw [bitsI_succ, List.getD_cons_succ, ih j (by omega)]; congr 2; omega
            rw [key k j hj]
          have HNL : Hid (n < 2 ^ k) := Lib.hid (by rw [← HN.out]; exact feed_lt HP.out _ 0 (Nat.two_pow_pos k))
          have HBY : Hid (byL (strOfNums (bitsI n k)) = bitsI n k) := Lib.hid (byL_nums (isBy_bits (bitsI_bits n k)))
          have HNU : Hid (numA 0 (toB (byL (strOfNums (bitsI n k)))) = n) := Lib.hid (by rw [HBY.out]; unfold bitsI; rw [toB_C]; exact num_bits HNL.out)
          have HOK : Hid (numOk (byL (strOfNums (bitsI n k))) = true) := Lib.hid (by rw [HBY.out]; unfold numOk; rw [bitsI_bits, bitsI_len, decide_eq_true (show k ≤ 60 by omega)]; rfl)
          generalize strOfNums (bitsI n k) = q at hcv HNU HOK
          clear HBY
          go_wp2_with fail
          refine (cnum_t HNU.out HOK.out _).mono ?_
          rintro e w2 ⟨rfl, rfl⟩
          go_wp2
          go_ret2
          exact ⟨rfl, HI.out.2.1⟩

end Go.Proofs.Ytfjebggekghgkaa
