/- Dump: contracts of marksOf, flagsOf, identifier. -/
import Derived.Test.YtpjlomgiljpadaaDoorDmpN
import Derived.Test.YtpjlomgiljpadaaDoorFrmJ
import Derived.Test.YtpjlomgiljpadaaDoorSecB
namespace Go.Proofs.YtpjlomgiljpadaaDoor
open Go.RowKit
set_option linter.unusedVariables false

theorem and16 (n : Int) : bits .and .i64 n 16 = if fB n then 16 else 0 := by
  have := and_p n 4 (by decide); unfold fB; simp at this; rw [this]; by_cases h : n / 16 % 2 = 1 <;> simp [h] <;> omega
theorem and32 (n : Int) : bits .and .i64 n 32 = if fS n then 32 else 0 := by
  have := and_p n 5 (by decide); unfold fS; simp at this; rw [this]; by_cases h : n / 32 % 2 = 1 <;> simp [h] <;> omega

set_option maxHeartbeats 1000000 in
theorem dmarks_v {n v : Int} (hv : mrkN n = v) (w : World) :
    Calls Tryd.prog 47 #[.int .i64 n] w fun e w' => e = .returned (.int .i64 v) ∧ w = w' := by
  subst hv
  have h16 := and16 n
  have h32 := and32 n
  unfold mrkN
  cases hb : fB n <;> cases hs : fS n
  all_goals
    rw [hb] at h16
    rw [hs] at h32
    simp only [if_true, Bool.false_eq_true, if_false] at h16 h32
    clear hb hs
    go_enter Tryd.func47, Tryd.ntmps47
    go_wp2
    go_ret
    exact ⟨fret_int (by decide), rfl⟩

theorem dfl_all : ∀ m : Fin 4, bits .and .i64 ((m.val : Nat) : Int) 1 = ((m.val % 2 : Nat) : Int) ∧ bits .and .i64 ((m.val : Nat) : Int) 2 = ((m.val / 2 * 2 : Nat) : Int) := by decide +kernel
set_option maxHeartbeats 1000000 in
theorem dflags_any (m : Int) (h0 : 0 ≤ m) (h1 : m < 4) (w : World) :
    Calls Tryd.prog 62 #[.int .i64 m] w fun e w' => e = .returned (.int .i64 (8 + 16 * m)) ∧ w = w' := by
  have o1 : bits .or .i64 8 16 = 24 := by decide +kernel
  have o2 : bits .or .i64 8 32 = 40 := by decide +kernel
  have o3 : bits .or .i64 24 32 = 56 := by decide +kernel
  have a0 := dfl_all 0
  have a1 := dfl_all 1
  have a2 := dfl_all 2
  have a3 := dfl_all 3
  simp at a0 a1 a2 a3
  have : m = 0 ∨ m = 1 ∨ m = 2 ∨ m = 3 := by omega
  rcases this with rfl | rfl | rfl | rfl
  · obtain ⟨b1, b2⟩ := a0
    clear a1 a2 a3
    go_enter Tryd.func62, Tryd.ntmps62
    go_wp2
    go_ret
    exact ⟨fret_int (by decide), rfl⟩
  · obtain ⟨b1, b2⟩ := a1
    clear a0 a2 a3
    go_enter Tryd.func62, Tryd.ntmps62
    go_wp2
    go_ret
    exact ⟨fret_int (by decide), rfl⟩
  · obtain ⟨b1, b2⟩ := a2
    clear a0 a1 a3
    go_enter Tryd.func62, Tryd.ntmps62
    go_wp2
    go_ret
    exact ⟨fret_int (by decide), rfl⟩
  · obtain ⟨b1, b2⟩ := a3
    clear a0 a1 a2
    go_enter Tryd.func62, Tryd.ntmps62
    go_wp2
    go_ret
    exact ⟨fret_int (by decide), rfl⟩

/-! ### identifier -/
theorem not30 (W : Int) (h0 : 0 ≤ W) (h1 : W < 4294967296) : bits .andNot .u32 W 3221225472 = W % 1073741824 := by
  obtain ⟨k, rfl⟩ := Int.eq_ofNat_of_zero_le h0
  have e1 : (BitVec.ofInt 32 (k : Int)).toNat = k := by rw [BitVec.ofInt_natCast, BitVec.toNat_ofNat]; exact Nat.mod_eq_of_lt (by omega)
  have e2 : ~~~ (BitVec.ofInt 32 3221225472) = BitVec.ofNat 32 (2 ^ 30 - 1) := by decide +kernel
  have e3 : (BitVec.ofNat 32 (2 ^ 30 - 1)).toNat = 2 ^ 30 - 1 := by decide +kernel
  show IntKind.u32.wrap (((BitVec.ofInt 32 (k : Int)) &&& ~~~ (BitVec.ofInt 32 3221225472)).toNat : Int) = _
  rw [e2, BitVec.toNat_and, e1, e3, Nat.and_two_pow_sub_one_eq_mod, IntKind.wrap_u32]
  omega
def idV (i n : Int) : Int := i + 536870912 * b01 (fX n)
theorem word_low {f : Fr} (h : f.ok = true) : 0 ≤ wordN f.i f.n ∧ wordN f.i f.n < 4294967296 ∧ wordN f.i f.n % 1073741824 = idV f.i f.n ∧ 0 ≤ idV f.i f.n ∧ idV f.i f.n < 1073741824 := by
  have g := good h
  have h0 := g.i0
  have h1 := g.top
  unfold wordN idV
  have := b01_in (fE f.n); have := b01_in (fR f.n); have := b01_in (fX f.n)
  omega
theorem hexN_two (k : Nat) (n : Int) : hexN (k + 2) n = hexN k (n / 256) ++ [hx (n % 256 / 16), hx (n % 256 % 16)] := by
  rw [hexN, hexN, show n / 16 / 16 = n / 256 by omega, show n / 16 % 16 = n % 256 / 16 by omega, show n % 16 = n % 256 % 16 by omega]
  simp
/-- the four bytes of a number below 2^32, the greatest first -/
theorem hexl_four (V : Int) (h0 : 0 ≤ V) (h1 : V < 4294967296) : strOfNums (hexl (strOfNums [V / 16777216, V / 65536 % 256, V / 256 % 256, V % 256]) (strOfNums [V / 16777216, V / 65536 % 256, V / 256 % 256, V % 256]).size) = strOfNums (hexN 8 V) := by
  have hb : isBy [V / 16777216, V / 65536 % 256, V / 256 % 256, V % 256] := by
    intro x hx
    simp only [List.mem_cons, List.not_mem_nil, or_false] at hx
    rcases hx with rfl | rfl | rfl | rfl <;> omega
  rw [hexl_F, byL_nums hb, hexN_two, hexN_two, hexN_two, hexN_two, show V / 256 / 256 = V / 65536 by omega, show V / 65536 / 256 = V / 16777216 by omega, show V / 16777216 % 256 = V / 16777216 by omega]
  rfl
theorem hexN_drop5 (V : Int) : (hexN 8 V).drop 5 = hexN 3 V := rfl
theorem extract_nums (L : List Int) (a : Nat) : (strOfNums L).extract a (strOfNums L).size = strOfNums (L.drop a) := by
  apply ByteArray.ext
  apply Array.toList_inj.1
  rw [ByteArray.data_extract, Array.toList_extract, strOfNums_data, strOfNums_data, strOfNums_size, List.extract_eq_take_drop, ← List.map_drop]
  rw [List.take_of_length_le (by simp)]
theorem and5_v {n : Int} (h : (fE n || fX n) = true) : (bits .and .i64 n 5 == 0) = false ∧ (bits .and .i64 n 5 != 0) = true := by
  have := (and5 n).2 h
  exact ⟨by simpa using this, by simpa using this⟩
theorem and5_n {n : Int} (h : (fE n || fX n) = false) : bits .and .i64 n 5 = 0 := by
  apply Classical.byContradiction
  intro hc
  have := (and5 n).1 hc
  rw [h] at this; cases this

set_option maxHeartbeats 2000000 in
theorem identifier_any {f : Fr} (h : f.ok = true) (w : World) (hT : Tabs w) :
    Calls Tryd.prog 23 #[.agg #[.int .i64 f.i, .int .i64 f.n, .int .i64 f.l, .string f.d]] w fun e w' => e = .returned (.string (strOfNums (idL f))) ∧ Below w.heap.size w w' := by
  obtain ⟨w0, w1', hV, hV0, hV1⟩ := word_low h
  have hn30 := not30 _ w0 w1'
  rw [hV] at hn30
  have HW : Hid (idL f = if (fE f.n || fX f.n) then hexN 8 (idV f.i f.n) else hexN 3 (idV f.i f.n)) := Lib.hid (by
    unfold idL idV
    cases hx : fX f.n
    · cases he : fE f.n <;> simp [b01]
    · simp [b01])
  have HT := Lib.hid hT
  have H := Lib.hid h
  clear hT h hV
  obtain ⟨i, n, l, d⟩ := f
  simp only at *
  have HF := Lib.hid (hexl_four (idV i n) hV0 (by omega))
  obtain ⟨V, hVe⟩ : ∃ V, idV i n = V := ⟨_, rfl⟩
  rw [hVe] at hn30 hV0 hV1 HW HF
  clear w0 w1' hVe
  have hcv := conv4
  cases h5 : (fE n || fX n)
  · have h5' := and5_n h5
    rw [h5] at HW
    simp only [Bool.false_eq_true, if_false] at HW
    have hx := extract_nums (hexN 8 V) 5
    rw [strOfNums_size, hexN_len, hexN_drop5] at hx
    clear h5
    go_enter Tryd.func23, Tryd.ntmps23
    go_wp2_with fail
    refine (word_t H.out _ (HT.out.alloc _)).mono ?_
    rintro e w1 ⟨rfl, hb⟩
    obtain ⟨hc, hf⟩ := fbcell hb
    have hz : w.heap.size < w1.heap.size := by have := hb.size; simp only [World.size_alloc] at this; omega
    have HB := Lib.hid hb
    clear hb
    go_wp2_with fail
    refine (hex_any _ _ (by rw [strOfNums_size]; simp)).mono ?_
    rintro e w2 ⟨rfl, hb2⟩
    rw [HF.out]
    have h8 : (strOfNums (hexN 8 V)).size = 8 := by rw [strOfNums_size, hexN_len]
    obtain ⟨hc2, hf2⟩ := fbcell hb2
    have hz2 : w.heap.size < w2.heap.size := by have := hb2.size; simp only [World.size_alloc] at this; omega
    have HB2 := Lib.hid (fbelow_a _ (fbelow_t (Below.allocL HB.out _) hb2))
    clear hb2
    go_wp2
    go_ret
    exact ⟨by rw [HW.out]; rfl, HB2.out⟩
  · obtain ⟨h5', h5''⟩ := and5_v h5
    rw [h5] at HW
    simp only [if_true] at HW
    clear h5
    go_enter Tryd.func23, Tryd.ntmps23
    go_wp2_with fail
    refine (word_t H.out _ (HT.out.alloc _)).mono ?_
    rintro e w1 ⟨rfl, hb⟩
    obtain ⟨hc, hf⟩ := fbcell hb
    have hz : w.heap.size < w1.heap.size := by have := hb.size; simp only [World.size_alloc] at this; omega
    have HB := Lib.hid hb
    clear hb
    go_wp2_with fail
    refine (hex_any _ _ (by rw [strOfNums_size]; simp)).mono ?_
    rintro e w2 ⟨rfl, hb2⟩
    rw [HF.out]
    have h8 : (strOfNums (hexN 8 V)).size = 8 := by rw [strOfNums_size, hexN_len]
    obtain ⟨hc2, hf2⟩ := fbcell hb2
    have hz2 : w.heap.size < w2.heap.size := by have := hb2.size; simp only [World.size_alloc] at this; omega
    have HB2 := Lib.hid (fbelow_a _ (fbelow_t (Below.allocL HB.out _) hb2))
    clear hb2
    go_wp2
    go_ret
    exact ⟨by rw [HW.out]; rfl, HB2.out⟩

end Go.Proofs.YtpjlomgiljpadaaDoor
