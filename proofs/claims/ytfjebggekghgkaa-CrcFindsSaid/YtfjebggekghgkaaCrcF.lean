/- Crc, the code: Bits, both, Add. -/
import Derived.Test.YtfjebggekghgkaaCrcE
import Derived.Test.YtfjebggekghgkaaSecB
namespace Go.Proofs.Ytfjebggekghgkaa
open Go.RowKit
set_option linter.unusedVariables false

theorem kbits_no {n w : Int} (h : n < 0 ∨ w < 0 ∨ 60 < w) (W : World) :
    Calls Try.prog 12 #[.int .i64 n, .int .i64 w] W fun e w' => e = .returned (.string (ByteArray.mk #[])) ∧ W = w' := by
  by_cases h0 : n < 0
  · go_enter Try.func12, Try.ntmps12
    go_wp2
    go_ret
    exact ⟨rfl, rfl⟩
  · by_cases h1 : w < 0
    · go_enter Try.func12, Try.ntmps12
      go_wp2
      go_ret
      exact ⟨rfl, rfl⟩
    · have h2 : 60 < w := by omega
      go_enter Try.func12, Try.ntmps12
      go_wp2
      go_ret
      exact ⟨rfl, rfl⟩

theorem bitsT_take (n : Nat) : ∀ (m k : Nat), k < m → (bitsT n m).take (k + 1) = (bitsT n m).take k ++ [n.testBit (m - 1 - k)]
  | 0, k, h => by omega
  | m + 1, 0, _ => by simp [bitsT]
  | m + 1, k + 1, h => by
    simp only [bitsT, List.take_succ_cons, List.cons_append]
    rw [bitsT_take n m k (by omega), show m + 1 - 1 - (k + 1) = m - 1 - k by omega]
theorem bitsI_take (n : Nat) {m k : Nat} (h : k < m) : (bitsI n m).take (k + 1) = (bitsI n m).take k ++ [bitC (n.testBit (m - 1 - k))] := by
  unfold bitsI
  rw [← List.map_take, bitsT_take n m k h, List.map_append, List.map_take]
  rfl
theorem low_bit (n j : Nat) (hn : n < 9223372036854775808) : bits .and .i64 ((n : Int) / 2 ^ j) 1 = bitN (n.testBit j) := by
  have e : (n : Int) / 2 ^ j = ((n / 2 ^ j : Nat) : Int) := by simp
  have h1 := i64_and (n / 2 ^ j) 1 (Nat.lt_of_le_of_lt (Nat.div_le_self _ _) hn) (by decide)
  rw [Nat.and_one_is_mod] at h1
  rw [e, show (1 : Int) = ((1 : Nat) : Int) from rfl, h1, Nat.testBit_eq_decide_div_mod_eq]
  rcases Nat.mod_two_eq_zero_or_one (n / 2 ^ j) with h | h <;> rw [h] <;> rfl
theorem OutSt.wrote {B b : Nat} {O O' : List Int} {w0 w w' : World} (h : OutSt B b O w0 w) (hI : Lib.BuilderAtF 42 5 B b (.pointer (some ⟨b, 0, none⟩)) (O'.map (Value.int .u8)) w') (hb : Below B w w') : OutSt B b O' w0 w' :=
  ⟨h.below.trans hb, .inr hI, h.le⟩
theorem bldF_below {T e : TypeId} {B b : Nat} {bs : List Value} {w w' : World} (h : Lib.IsBuilderF T e B b bs w) (hb : Below w.heap.size w w') : Lib.IsBuilderF T e B b bs w' := by
  have key : ∀ {k : Nat} {c : Array Value} {ty : TypeId} {fz : Nat × Nat}, w.heap[k]? = some (.cells c ty fz) → w'.heap[k]? = some (.cells c ty fz) := fun {k c ty fz} hk => (hb.block k (Array.getElem?_eq_some_iff.1 hk).1).trans hk
  have one : ∀ p, Lib.BuilderAtF T e B b p bs w → Lib.BuilderAtF T e B b p bs w' := by
    rintro p ⟨hB, v, h2, hown, hne⟩
    refine ⟨hB, v, key h2, ⟨hown.1, ?_⟩, hne⟩
    rcases hown.2 with hn | ⟨g, cap, cur, fz, hv, hbg, hg, rest⟩
    · exact .inl hn
    · exact .inr ⟨g, cap, cur, fz, hv, hbg, key hg, rest⟩
  exact h.elim (fun x => .inl (one _ x)) (fun x => .inr (one _ x))
theorem OutSt.later {B b : Nat} {O : List Int} {w0 w w' : World} (h : OutSt B b O w0 w) (hb : Below w.heap.size w w') : OutSt B b O w0 w' :=
  ⟨h.below.trans (hb.mono h.hB), bldF_below h.bld hb, h.le⟩
theorem out_made (W : World) : OutSt W.heap.size W.heap.size [] W (W.alloc (.cells #[.pointer none, .slice none 0 0] 42)) := ⟨(Below.refl _ W).alloc (Nat.le_refl _) _, .of (Lib.fresh_isBuilder _ _ W), Nat.le_refl _⟩

set_option maxHeartbeats 2000000 in
theorem kbits_t {n m : Nat} {t : ByteArray} (h : strOfNums (bitsI n m) = t) (hn : n < 9223372036854775808) (hm : m ≤ 60) (W : World) :
    Calls Try.prog 12 #[.int .i64 n, .int .i64 m] W fun e w' => e = .returned (.string t) ∧ Below W.heap.size W w' := by
  have H := Lib.hid h
  have HO := Lib.hid (out_made W)
  clear h
  go_enter Try.func12, Try.ntmps12
  go_wp2
  go_loopw [19] (fun i wr => ∃ k : Nat, k ≤ m ∧ i = .int .i64 k ∧ Hid (OutSt W.heap.size W.heap.size ((bitsI n m).take k) W wr)) (fun i _ => m - (intOf i).toNat)
  case atStart => exact ⟨0, Nat.zero_le _, rfl, HO⟩
  case round =>
    obtain ⟨k, hk, rfl, HI⟩ := hrel
    by_cases hlt : k < m
    · have hv := low_bit n (m - 1 - k) hn
      have HT := Lib.hid (bitsI_take n hlt)
      have hlen : ((bitsI n m).take k).length ≤ 60 := by rw [List.length_take, bitsI_len]; omega
      generalize (bitsI n m).take k = L at HI HT hlen
      have HLN : Hid ((L.map (Value.int .u8)).length + 1 ≤ 140737488355328) := Lib.hid (by rw [List.length_map]; omega)
      generalize n.testBit (m - 1 - k) = b at hv HT
      cases b
      · simp only [show bitN false = 0 from rfl] at hv
        go_wp2_with fail
        refine (dwbyte_k W.heap.size W.heap.size _ 48 _ HI.out.bld HLN.out HI.out.hB).mono ?_
        rintro e w1 ⟨rfl, hI, hb, _⟩
        have HO2 : Hid (OutSt W.heap.size W.heap.size (L ++ [48]) W w1) := Lib.hid (HI.out.wrote (by rw [List.map_append]; exact hI) hb)
        clear hI hb
        go_wp2
        go_roundw
        case rel => exact ⟨k + 1, by omega, by go_num, by rw [HT.out]; exact HO2⟩
        case measure => simp [intOf]; omega
      · simp only [show bitN true = 1 from rfl] at hv
        go_wp2_with fail
        refine (dwbyte_k W.heap.size W.heap.size _ 49 _ HI.out.bld HLN.out HI.out.hB).mono ?_
        rintro e w1 ⟨rfl, hI, hb, _⟩
        have HO2 : Hid (OutSt W.heap.size W.heap.size (L ++ [49]) W w1) := Lib.hid (HI.out.wrote (by rw [List.map_append]; exact hI) hb)
        clear hI hb
        go_wp2
        go_roundw
        case rel => exact ⟨k + 1, by omega, by go_num, by rw [HT.out]; exact HO2⟩
        case measure => simp [intOf]; omega
    · obtain rfl : k = m := by omega
      have HL : Hid (Lib.IsBuilderF 42 5 W.heap.size W.heap.size (Lib.byteCells t.data.toList) wr) := Lib.hid (by
        have h1 := HI.out.bld
        rw [List.take_of_length_le (by rw [bitsI_len]; omega), bcells (isBy_bits (bitsI_bits n k)), H.out] at h1
        exact h1)
      go_wp2_with fail
      refine (dstring_k _ _ _ _ HL.out HI.out.hB).mono ?_
      rintro e w2 ⟨rfl, _, hb, _⟩
      rw [str_list]
      go_wp2
      go_ret
      exact ⟨rfl, HI.out.below.trans hb⟩

/-! ### Add -/
theorem addI_by : ∀ A B : List Int, isBy (addI A B)
  | [], _ => fun x hx => by simp [addI] at hx
  | _ :: _, [] => fun x hx => by simp [addI] at hx
  | a :: A, b :: B => fun x hx => by
    unfold addI at hx
    rw [List.zipWith_cons_cons] at hx
    rcases List.mem_cons.1 hx with rfl | hx
    · split <;> decide
    · exact addI_by A B x hx
theorem addC_v {x y : Int} (hx : isBit x = true) (hy : isBit y = true) (w : World) :
    Calls Try.prog 26 #[.int .u8 x, .int .u8 y] w fun e w' => e = .returned (.int .u8 (if x = y then 48 else 49)) ∧ w = w' := by
  have h1 : bits .xor .u8 48 48 = 0 := by decide +kernel
  have h2 : bits .xor .u8 48 49 = 1 := by decide +kernel
  have h3 : bits .xor .u8 49 48 = 1 := by decide +kernel
  have h4 : bits .xor .u8 49 49 = 0 := by decide +kernel
  rcases (isBit_iff x).1 hx with rfl | rfl <;> rcases (isBit_iff y).1 hy with rfl | rfl
  all_goals (
    go_enter Try.func26, Try.ntmps26
    go_wp2
    go_ret
    exact ⟨rfl, rfl⟩)

set_option maxHeartbeats 4000000 in
theorem kboth_v {a b t : ByteArray} (h : (if addOk (byL a) (byL b) then strOfNums (addI (byL a) (byL b)) else ByteArray.mk #[]) = t) (ha : a.size ≤ 100000) (hb : b.size ≤ 100000) (W : World) :
    Calls Try.prog 25 #[.string a, .string b, .func (.func 26) #[] #[]] W fun e w' => e = .returned (.string t) ∧ Below W.heap.size W w' := by
  have H := Lib.hid h
  clear h
  by_cases h3 : a.size = b.size
  · have hne : ((a.size : Int) != (b.size : Int)) = false := by simp; omega
    cases h1 : bitsB (byL a)
    · have H1 := Lib.hid h1
      have HQ : Hid (ByteArray.mk #[] = t) := Lib.hid (by rw [← H.out]; unfold addOk; rw [h1]; rfl)
      clear h1 H
      go_enter Try.func25, Try.ntmps25
      go_wp2_with fail
      refine (cright_v H1.out _).mono ?_
      rintro e w1 ⟨rfl, hb1⟩
      go_wp2
      go_ret
      exact ⟨fret_str HQ.out, hb1⟩
    have H1 := Lib.hid h1
    cases h2 : bitsB (byL b)
    · have H2 := Lib.hid h2
      have HQ : Hid (ByteArray.mk #[] = t) := Lib.hid (by rw [← H.out]; unfold addOk; rw [h1, h2]; rfl)
      clear h1 h2 H
      go_enter Try.func25, Try.ntmps25
      go_wp2_with fail
      refine (cright_v H1.out _).mono ?_
      rintro e w1 ⟨rfl, hb1⟩
      have HB1 := Lib.hid hb1
      clear hb1
      go_wp2_with fail
      refine (cright_v H2.out _).mono ?_
      rintro e w2 ⟨rfl, hb2⟩
      go_wp2
      go_ret
      exact ⟨fret_str HQ.out, fbelow_t HB1.out hb2⟩
    have H2 := Lib.hid h2
    have HQ : Hid (strOfNums (addI (byL a) (byL b)) = t) := Lib.hid (by rw [← H.out]; unfold addOk; rw [h1, h2, byL_len, byL_len, decide_eq_true h3]; rfl)
    clear h1 h2 H
    go_enter Try.func25, Try.ntmps25
    go_wp2_with fail
    refine (cright_v H1.out _).mono ?_
    rintro e w1 ⟨rfl, hb1⟩
    have HB1 := Lib.hid hb1
    clear hb1
    go_wp2_with fail
    refine (cright_v H2.out _).mono ?_
    rintro e w2 ⟨rfl, hb2⟩
    have HB2 : Hid (Below W.heap.size W w2) := Lib.hid (fbelow_t HB1.out hb2)
    have HO := Lib.hid (out_made w2)
    clear hb2
    go_wp2_with fail
    go_loopw [26] (fun i wr => ∃ k : Nat, k ≤ a.size ∧ i = .int .i64 k ∧ Hid (OutSt w2.heap.size w2.heap.size (addI ((byL a).take k) ((byL b).take k)) w2 wr)) (fun i _ => a.size - (intOf i).toNat)
    case atStart => exact ⟨0, Nat.zero_le _, rfl, HO⟩
    case round =>
      obtain ⟨k, hk, rfl, HI⟩ := hrel
      by_cases hlt : k < a.size
      · have hlt2 : k < b.size := by omega
        have hix : ∀ w, (Instr.index 9 (.string a) (.int .i64 k)).run Try.prog w = .ok (.int .u8 (bt a k)) w := fun w => index_bt Try.underlying9 hlt w
        have hiy : ∀ w, (Instr.index 9 (.string b) (.int .i64 k)).run Try.prog w = .ok (.int .u8 (bt b k)) w := fun w => index_bt Try.underlying9 hlt2 w
        obtain ⟨x', hx', -⟩ := bt_bit H1.out hlt
        obtain ⟨y', hy', -⟩ := bt_bit H2.out hlt2
        have HX := Lib.hid (bt_isBit hx')
        have HY := Lib.hid (bt_isBit hy')
        clear hx' hy'
        have HT := Lib.hid (addI_take hlt hlt2)
        have hlen : (addI ((byL a).take k) ((byL b).take k)).length ≤ 100000 := by unfold addI; rw [List.length_zipWith, List.length_take, byL_len]; omega
        generalize addI ((byL a).take k) ((byL b).take k) = L at HI HT hlen
        have HLN : Hid ((L.map (Value.int .u8)).length + 1 ≤ 140737488355328) := Lib.hid (by rw [List.length_map]; omega)
        generalize bt a k = x at hix HX HT
        generalize bt b k = y at hiy HY HT
        go_wp2_with fail
        refine wp_region_sec 8 [] (fun _ _ _ => True) (fun _ _ _ _ _ _ => True.intro) (by kernel_rfl) (by kernel_rfl) (by kernel_rfl) (by kernel_rfl) (by kernel_rfl) ?_
        simp only [List.take_succ_cons, List.take_zero, List.drop_succ_cons, List.drop_zero]
        refine sec_plain (by rfl) (by rfl) (by rfl) (by rfl) ?_
        intro K hK
        go_big_quiet_op
        go_big_quiet_on
        refine sec_plain (by rfl) (by rfl) (by rfl) (by rfl) ?_
        intro K hK
        go_big_quiet_op
        go_big_quiet_on
        refine sec_plain (by rfl) (by rfl) (by rfl) (by rfl) ?_
        intro K hK
        go_big_quiet_op
        go_big_quiet_on
        refine sec_plain (by rfl) (by rfl) (by rfl) (by rfl) ?_
        intro K hK
        go_big_quiet_op
        go_big_quiet_on
        refine sec_plain (by rfl) (by rfl) (by rfl) (by rfl) ?_
        intro K hK
        go_big_quiet_op
        go_big_quiet_on
        refine sec_plain (by rfl) (by rfl) (by rfl) (by rfl) ?_
        intro K hK
        go_big_quiet_op
        go_big_quiet_on
        refine sec_plain (by rfl) (by rfl) (by rfl) (by rfl) ?_
        intro K hK
        go_big_quiet_op
        go_big_quiet_on
        refine sec_call (v := .int .u8 (if x = y then 48 else 49)) (by rfl) (by rfl) (by rfl) (by rfl) (by rfl) ?_ ?_
        · intro m K hK
          go_big_quiet_op
          exact ⟨_, fun q => Later.same (addC_v HX.out HY.out _), hK⟩
        simp only [Act.put, List.setIfInBounds_toArray, List.set_cons_succ, List.set_cons_zero]
        intro xs m hF
        simp only [secFill]
        clear hF xs
        generalize (if x = y then (48 : Int) else 49) = c at HT ⊢
        have HI2 := Lib.hid (HI.out.later m.h)
        generalize m.w = w3 at HI2 ⊢
        clear m
        go_wp2_with fail
        refine (dwbyte_k w2.heap.size w2.heap.size _ c _ HI2.out.bld HLN.out HI2.out.hB).mono ?_
        rintro e w4 ⟨rfl, hI, hb, _⟩
        have HO2 : Hid (OutSt w2.heap.size w2.heap.size (L ++ [c]) w2 w4) := Lib.hid (HI2.out.wrote (by rw [List.map_append]; exact hI) hb)
        clear hI hb
        go_wp2
        go_roundw
        case rel => exact ⟨k + 1, by omega, by go_num, by rw [HT.out]; exact HO2⟩
        case measure => simp [intOf]; omega
      · obtain rfl : k = a.size := by omega
        have HL : Hid (Lib.IsBuilderF 42 5 w2.heap.size w2.heap.size (Lib.byteCells t.data.toList) wr) := Lib.hid (by
          have h1 := HI.out.bld
          rw [List.take_of_length_le (by rw [byL_len]; omega), List.take_of_length_le (by rw [byL_len]; omega), bcells (addI_by _ _), HQ.out] at h1
          exact h1)
        go_wp2_with fail
        refine (dstring_k _ _ _ _ HL.out HI.out.hB).mono ?_
        rintro e w5 ⟨rfl, _, hb, _⟩
        rw [str_list]
        go_wp2
        go_ret
        exact ⟨rfl, fbelow_t HB2.out (HI.out.below.trans hb)⟩
  · have hne : ((a.size : Int) != (b.size : Int)) = true := by simp; omega
    have HQ : Hid (ByteArray.mk #[] = t) := Lib.hid (by rw [← H.out]; unfold addOk; rw [byL_len, byL_len, decide_eq_false h3]; simp)
    clear H h3
    go_enter Try.func25, Try.ntmps25
    go_wp2
    go_ret
    exact ⟨fret_str HQ.out, Below.refl _ _⟩

theorem kadd_v {a b t : ByteArray} (h : (if addOk (byL a) (byL b) then strOfNums (addI (byL a) (byL b)) else ByteArray.mk #[]) = t) (ha : a.size ≤ 100000) (hb : b.size ≤ 100000) (W : World) :
    Calls Try.prog 16 #[.string a, .string b] W fun e w' => e = .returned (.string t) ∧ Below W.heap.size W w' := by
  have H := Lib.hid h
  have HA := Lib.hid ha
  have HB := Lib.hid hb
  clear h ha hb
  go_enter Try.func16, Try.ntmps16
  go_wp2_with fail
  refine (kboth_v H.out HA.out HB.out _).mono ?_
  rintro e w1 ⟨rfl, hb1⟩
  go_wp2
  go_ret
  exact ⟨rfl, hb1⟩

end Go.Proofs.Ytfjebggekghgkaa
