/- Dump: contracts of readBody, readIdentifier. -/
import Derived.Test.YtpjlomgiljpadaaDoorDmpAb
namespace Go.Proofs.YtpjlomgiljpadaaDoor
open Go.RowKit
set_option linter.unusedVariables false

theorem prefix_eq (s : ByteArray) (c : UInt8) : Lib.hasPrefix s.data.toList [c] = (decide (0 < s.size) && decide (bt s 0 = (c.toNat : Int))) := by
  unfold Lib.hasPrefix bt
  have hl : s.data.toList.length = s.size := by simp
  cases h : s.data.toList with
  | nil =>
    rw [h] at hl
    rw [decide_eq_false (by simp at hl; omega)]
    rfl
  | cons x t =>
    rw [h] at hl
    rw [decide_eq_true (by simp at hl; omega)]
    simp only [List.isPrefixOf, Bool.and_true, Bool.true_and, List.getElem?_cons_zero, Option.getD_some]
    rw [Bool.eq_iff_iff]
    simp only [beq_iff_eq, decide_eq_true_eq]
    constructor
    · rintro rfl; rfl
    · intro h; apply UInt8.toNat_inj.1; omega
theorem prefix_v {s : ByteArray} {c : UInt8} {q : Bool} (h : (decide (0 < s.size) && decide (bt s 0 = (c.toNat : Int))) = q) (w : World) :
    Calls Tryd.prog 51 #[.string s, .string (ByteArray.mk #[c])] w fun e w' => e = .returned (.bool q) ∧ w = w' := by
  refine (dprefix s (ByteArray.mk #[c]) w).mono ?_
  rintro e w' ⟨he, hw⟩
  refine ⟨?_, hw.symm⟩
  rw [he, ← h, ← prefix_eq]

set_option maxHeartbeats 2000000 in
theorem readBody_any {s : ByteArray} (hs : s.size ≤ 1000000) (w : World) :
    Calls Tryd.prog 29 #[.string s] w (BodyPost (bodyO (byL s)) w) := by
  by_cases h35 : 0 < s.size ∧ bt s 0 = 35
  · obtain ⟨hp, h35⟩ := h35
    have HQ : Hid ((decide (0 < s.size) && decide (bt s 0 = ((35 : UInt8).toNat : Int))) = true) := Lib.hid (by rw [decide_eq_true hp, h35]; rfl)
    obtain ⟨U, hU⟩ : ∃ U, s.extract 1 s.size = U := ⟨_, rfl⟩
    have HUs : Hid (U.size ≤ 1000000) := Lib.hid (by rw [← hU, sub_size _ _ _ (Nat.le_refl _)]; omega)
    have HO : Hid (bodyO (byL s) = fdO (byL U)) := Lib.hid (by rw [byL_one hp, h35, bodyO_fd, hU])
    clear h35
    go_enter Tryd.func29, Tryd.ntmps29
    go_wp2_with fail
    refine (prefix_v HQ.out _).mono ?_
    rintro e w1 ⟨rfl, rfl⟩
    go_wp2_with fail
    refine (readFd_any HUs.out _).mono ?_
    rintro e w2 ⟨i, n, l, d, b, rfl, hb, ho⟩
    have HR := Lib.hid (R1.later R1.start hb)
    rw [← HO.out] at ho
    have HOO := Lib.hid ho
    clear hb ho
    obtain ⟨⟨c0, c1, c2, c3, v0, v1, v2, v3⟩, hz⟩ := HR.out.facts
    go_wp2_with fail
    refine bodyPost_ret (v := .tuple #[.agg #[.int .i64 i, .int .i64 n, .int .i64 l, .string d], .bool b]) (by simp [results, Tryd.results29, go_sem, c0, c1, c2, c3]) rfl ⟨i, n, l, d, b, rfl, ?_, HOO.out⟩
    exact HR.out.done _ _ _ _
  have HQ : Hid ((decide (0 < s.size) && decide (bt s 0 = ((35 : UInt8).toNat : Int))) = false) := Lib.hid (by
    rw [Bool.and_eq_false_iff, decide_eq_false_iff_not, decide_eq_false_iff_not]
    by_cases h : 0 < s.size
    · exact .inr (fun hc => h35 ⟨h, hc⟩)
    · exact .inl h)
  by_cases hR : 0 < s.size ∧ (bt s 0 = 82 ∨ bt s 0 = 114)
  · obtain ⟨hp, hR⟩ := hR
    obtain ⟨U, hU⟩ : ∃ U, s.extract 1 s.size = U := ⟨_, rfl⟩
    have HUs : Hid (U.size ≤ 1000000) := Lib.hid (by rw [← hU, sub_size _ _ _ (Nat.le_refl _)]; omega)
    have HO : Hid (bodyO (byL s) = askO (byL U)) := Lib.hid (by rw [byL_one hp, bodyO_ask hR, hU])
    rcases hR with hR | hR
    · have HQ2 : Hid ((decide (0 < s.size) && decide (bt s 0 = ((82 : UInt8).toNat : Int))) = true) := Lib.hid (by rw [decide_eq_true hp, hR]; rfl)
      clear h35 hR
      go_enter Tryd.func29, Tryd.ntmps29
      go_wp2_with fail
      refine (prefix_v HQ.out _).mono ?_
      rintro e w1 ⟨rfl, rfl⟩
      go_wp2_with fail
      refine (prefix_v HQ2.out _).mono ?_
      rintro e w1 ⟨rfl, rfl⟩
      go_wp2_with fail
      refine (readAsking_any HUs.out _).mono ?_
      rintro e w2 ⟨i, n, l, d, b, rfl, hb, ho⟩
      have HR := Lib.hid (R1.later R1.start hb)
      rw [← HO.out] at ho
      have HOO := Lib.hid ho
      clear hb ho
      obtain ⟨⟨c0, c1, c2, c3, v0, v1, v2, v3⟩, hz⟩ := HR.out.facts
      go_wp2_with fail
      refine bodyPost_ret (v := .tuple #[.agg #[.int .i64 i, .int .i64 n, .int .i64 l, .string d], .bool b]) (by simp [results, Tryd.results29, go_sem, c0, c1, c2, c3]) rfl ⟨i, n, l, d, b, rfl, ?_, HOO.out⟩
      exact HR.out.done _ _ _ _
    · have HQ2 : Hid ((decide (0 < s.size) && decide (bt s 0 = ((82 : UInt8).toNat : Int))) = false) := Lib.hid (by rw [decide_eq_true hp, hR]; rfl)
      have HQ3 : Hid ((decide (0 < s.size) && decide (bt s 0 = ((114 : UInt8).toNat : Int))) = true) := Lib.hid (by rw [decide_eq_true hp, hR]; rfl)
      clear h35 hR
      go_enter Tryd.func29, Tryd.ntmps29
      go_wp2_with fail
      refine (prefix_v HQ.out _).mono ?_
      rintro e w1 ⟨rfl, rfl⟩
      go_wp2_with fail
      refine (prefix_v HQ2.out _).mono ?_
      rintro e w1 ⟨rfl, rfl⟩
      go_wp2_with fail
      refine (prefix_v HQ3.out _).mono ?_
      rintro e w1 ⟨rfl, rfl⟩
      go_wp2_with fail
      refine (readAsking_any HUs.out _).mono ?_
      rintro e w2 ⟨i, n, l, d, b, rfl, hb, ho⟩
      have HR := Lib.hid (R1.later R1.start hb)
      rw [← HO.out] at ho
      have HOO := Lib.hid ho
      clear hb ho
      obtain ⟨⟨c0, c1, c2, c3, v0, v1, v2, v3⟩, hz⟩ := HR.out.facts
      go_wp2_with fail
      refine bodyPost_ret (v := .tuple #[.agg #[.int .i64 i, .int .i64 n, .int .i64 l, .string d], .bool b]) (by simp [results, Tryd.results29, go_sem, c0, c1, c2, c3]) rfl ⟨i, n, l, d, b, rfl, ?_, HOO.out⟩
      exact HR.out.done _ _ _ _
  · have no : ∀ c : UInt8, (0 < s.size → bt s 0 ≠ (c.toNat : Int)) → (decide (0 < s.size) && decide (bt s 0 = (c.toNat : Int))) = false := by
      intro c h
      rw [Bool.and_eq_false_iff, decide_eq_false_iff_not, decide_eq_false_iff_not]
      by_cases hp : 0 < s.size
      · exact .inr (h hp)
      · exact .inl hp
    have HQ2 := Lib.hid (no 82 (fun hp hc => hR ⟨hp, .inl hc⟩))
    have HQ3 := Lib.hid (no 114 (fun hp hc => hR ⟨hp, .inr hc⟩))
    have HO : Hid (bodyO (byL s) = rawO (byL s)) := Lib.hid (bodyO_raw (by
      by_cases hp : 0 < s.size
      · exact .inr ⟨fun hc => h35 ⟨hp, hc⟩, fun hc => hR ⟨hp, .inl hc⟩, fun hc => hR ⟨hp, .inr hc⟩⟩
      · exact .inl (by omega)))
    clear h35 hR no
    have HS := Lib.hid hs
    cases hdat : datL (byL s)
    · have HD := Lib.hid hdat
      have HN : Hid (bodyO (byL s) = none) := Lib.hid (HO.out.trans (rawO_none hdat))
      clear hdat
      go_enter Tryd.func29, Tryd.ntmps29
      go_wp2_with fail
      refine (prefix_v HQ.out _).mono ?_
      rintro e w1 ⟨rfl, rfl⟩
      go_wp2_with fail
      refine (prefix_v HQ2.out _).mono ?_
      rintro e w1 ⟨rfl, rfl⟩
      go_wp2_with fail
      refine (prefix_v HQ3.out _).mono ?_
      rintro e w1 ⟨rfl, rfl⟩
      go_wp2_with fail
      refine (readData_n HD.out HS.out _).mono ?_
      rintro e w2 ⟨rfl, hb⟩
      have HR := Lib.hid (R1.later R1.start hb)
      clear hb
      obtain ⟨⟨c0, c1, c2, c3, v0, v1, v2, v3⟩, hz⟩ := HR.out.facts
      go_wp2_with fail
      refine bodyPost_ret (v := .tuple #[.agg #[.int .i64 0, .int .i64 0, .int .i64 0, .string (ByteArray.mk #[])], .bool false]) (by simp [results, Tryd.results29, go_sem, c0, c1, c2, c3]) rfl (bodyPost_n HN.out ?_)
      exact HR.out.done _ _ _ _
    · rename_i d
      have HD := Lib.hid hdat
      obtain ⟨X, hX⟩ : ∃ X, strOfNums d = X := ⟨_, rfl⟩
      have HX := Lib.hid hX
      have HY : Hid (bodyO (byL s) = some ⟨0, 0, X.size, X⟩) := Lib.hid (by rw [HO.out, rawO_some hdat, hX])
      have hXm : X.size ≤ 1000000 := by have := (datL_plain hdat).2.2; rw [byL_len] at this; rw [← hX, strOfNums_size]; omega
      clear hdat hX
      go_enter Tryd.func29, Tryd.ntmps29
      go_wp2_with fail
      refine (prefix_v HQ.out _).mono ?_
      rintro e w1 ⟨rfl, rfl⟩
      go_wp2_with fail
      refine (prefix_v HQ2.out _).mono ?_
      rintro e w1 ⟨rfl, rfl⟩
      go_wp2_with fail
      refine (prefix_v HQ3.out _).mono ?_
      rintro e w1 ⟨rfl, rfl⟩
      go_wp2_with fail
      refine (readData_y HD.out HX.out HS.out _).mono ?_
      rintro e w2 ⟨rfl, hb⟩
      have HR := Lib.hid (R1.later R1.start hb)
      clear hb
      obtain ⟨⟨c0, c1, c2, c3, v0, v1, v2, v3⟩, hz⟩ := HR.out.facts
      go_wp2_with fail
      refine bodyPost_ret (v := .tuple #[.agg #[.int .i64 0, .int .i64 0, .int .i64 X.size, .string X], .bool true]) (by simp [results, Tryd.results29, go_sem, c0, c1, c2, c3]) rfl (bodyPost_y HY.out ?_)
      exact HR.out.done _ _ _ _

/-! ### readIdentifier -/
theorem or_dig16 (a b : Int) (ha : 0 ≤ a) (ha2 : a < 1099511627776) (hb : 0 ≤ b ∧ b < 16) : bits BinOp.or IntKind.i64 (a * 16) b = 16 * a + b := by
  rw [bits_join .i64 63 (by decide) wraps_i64p 4 (a * 16) b (by omega) (by omega) (by omega) (by omega) (by omega) (by omega)]; omega
theorem and29 (n : Int) (h0 : 0 ≤ n) (h1 : n < 4294967296) : bits .and .i64 n 536870912 = if n / 536870912 % 2 = 1 then 536870912 else 0 := by
  have := and_p n 29 (by decide); simp at this; rw [this]; split <;> omega
theorem not29 (n : Int) (h0 : 0 ≤ n) (h1 : n < 4294967296) (hb : n / 536870912 % 2 = 1) : bits .andNot .i64 n 536870912 = n - 536870912 := by
  obtain ⟨k, rfl⟩ := Int.eq_ofNat_of_zero_le h0
  have e1 : (BitVec.ofInt 64 (k : Int)).toNat = k := by rw [BitVec.ofInt_natCast, BitVec.toNat_ofNat]; exact Nat.mod_eq_of_lt (by omega)
  have e2 : (BitVec.ofInt 64 536870912).toNat = 2 ^ 29 := by decide +kernel
  have hd : (BitVec.ofInt 64 (k : Int) &&& ~~~ BitVec.ofInt 64 536870912) &&& (BitVec.ofInt 64 (k : Int) &&& BitVec.ofInt 64 536870912) = 0#64 := by
    apply BitVec.eq_of_getLsbD_eq
    intro i hi
    simp only [BitVec.getLsbD_and, BitVec.getLsbD_not, BitVec.getLsbD_zero]
    cases (BitVec.ofInt 64 536870912).getLsbD i <;> simp
  have ho : (BitVec.ofInt 64 (k : Int) &&& ~~~ BitVec.ofInt 64 536870912) ||| (BitVec.ofInt 64 (k : Int) &&& BitVec.ofInt 64 536870912) = BitVec.ofInt 64 (k : Int) := by
    apply BitVec.eq_of_getLsbD_eq
    intro i hi
    simp only [BitVec.getLsbD_or, BitVec.getLsbD_and, BitVec.getLsbD_not]
    cases (BitVec.ofInt 64 536870912).getLsbD i <;> simp [hi]
  have hs := BitVec.add_eq_or_of_and_eq_zero _ _ hd
  rw [ho] at hs
  have h2 := congrArg BitVec.toNat hs
  rw [BitVec.toNat_add, e1] at h2
  have h3 : (BitVec.ofInt 64 (k : Int) &&& BitVec.ofInt 64 536870912).toNat = 536870912 := by
    rw [BitVec.toNat_and, e1, e2, nat_and_pow]
    have : k / 2 ^ 29 % 2 = 1 := by have : k / 536870912 % 2 = 1 := by omega
                                    exact this
    rw [this]
  have h4 := (BitVec.ofInt 64 (k : Int) &&& ~~~ BitVec.ofInt 64 536870912).isLt
  have h5 : (BitVec.ofInt 64 (k : Int) &&& ~~~ BitVec.ofInt 64 536870912).toNat ≤ k := by rw [BitVec.toNat_and, e1]; exact Nat.and_le_left
  show IntKind.i64.wrap (((BitVec.ofInt 64 (k : Int)) &&& ~~~ (BitVec.ofInt 64 536870912)).toNat : Int) = _
  rw [h3] at h2
  rw [IntKind.wrap_i64]
  omega

def identRel (s : ByteArray) (w : World) (a : Int) (wr : World) : Prop :=
  ∃ pos : Nat, pos ≤ s.size ∧ wr.heap[w.heap.size + 1]? = some (.stringIter s pos) ∧ R1 w wr ∧ digs ((byL s).take pos) = true ∧ numL ((byL s).take pos) = a
theorem R1.iterAt {w wv : World} (h : R1 w wv) {k : Nat} (hk : w.heap.size < k) (s : ByteArray) (pos : Nat) : R1 w (wv.iterAt k s pos) :=
  ⟨Lib.below_iterAt h.below (by omega) _ _, by rw [Lib.iterAt_other _ _ _ _ _ (by omega)]; exact h.r⟩
set_option maxHeartbeats 4000000 in
theorem readIdent_3 {s : ByteArray} (hs : s.size = 3) (w : World) :
    Calls Tryd.prog 28 #[.string s] w (BodyPost ((headO (byL s)).map fun p => ⟨p.1, p.2, 0, ByteArray.mk #[]⟩) w) := by
  have e1 : ((s.size : Int) != 3) = false := by rw [hs]; rfl
  have e2 : ((s.size : Int) == 3) = true := by rw [hs]; rfl
  have HS := Lib.hid hs
  have hsz8 : s.size ≤ 8 := by omega
  have hb8 : (s.size : Int) ≤ 8 := by omega
  clear hs
  go_enter Tryd.func28, Tryd.ntmps28
  go_wp2_with fail
  go_loopw [4] (fun u wr => ∃ a : Int, u = .int .i64 a ∧ 0 ≤ a ∧ a < 4294967296 ∧ Hid (identRel s w a wr)) (fun _ wr => s.size - wr.iterPos (w.heap.size + 1))
  case atStart =>
    refine ⟨0, rfl, by omega, by omega, Lib.hid ⟨0, Nat.zero_le _, ?_, R1.start.alloc _, rfl, rfl⟩⟩
    have := World.iter_heap (w.alloc (.cells #[.int .i64 0, .int .i64 0, .int .i64 0, .string (ByteArray.mk #[])] 23)) s 0
    simpa using this
  case round =>
    obtain ⟨a, rfl, a0, a1, HR⟩ := hrel
    obtain ⟨pos, hpos, hit, hr1, hdg, hnm⟩ := HR.out
    have hsz := iter_lt hit
    have Hit := Lib.hid hit
    have HR1 := Lib.hid hr1
    have hsl : w.heap.size < wr.heap.size := by omega
    by_cases hp : pos < s.size
    · obtain ⟨r, d, d1, d2, hr, hnx⟩ := next_any s pos (w.heap.size + 1) wr hp hit
      have Hit2 := Lib.hid (Lib.iterAt_heap wr (w.heap.size + 1) s pos (pos + d) hit)
      have HRI := Lib.hid (hr1.iterAt (k := w.heap.size + 1) (by omega) s (pos + d))
      obtain ⟨⟨c0, c1, c2, c3, v0, v1, v2, v3⟩, hz⟩ := HRI.out.facts
      have hr0 : -2147483648 ≤ r ∧ r ≤ 2147483647 := by have := bt_lt s pos; omega
      by_cases h16 : dig r < 16
      · have hrr : r = bt s pos ∧ d = 1 := by
          rcases hr with ⟨e, e2, _⟩ | ⟨e, _, _⟩
          · exact ⟨e, e2⟩
          · rw [dig_no (by omega)] at h16; omega
        obtain ⟨hre, rfl⟩ := hrr
        have HN : Hid (digN r = dig r) := Lib.hid (by unfold digN; rw [if_pos h16])
        have HBB : Hid (digB r = true) := Lib.hid (by unfold digB; exact decide_eq_true h16)
        have hg0 := dig_nn r
        have hnext : digs ((byL s).take (pos + 1)) = true ∧ numL ((byL s).take (pos + 1)) = 16 * a + dig r := by
          rw [byL_take hp, digs_snoc, numL_snoc, hdg, hnm, ← hre, decide_eq_true h16]; exact ⟨rfl, rfl⟩
        have hbd : 16 * a + dig r < 4294967296 := by
          have := numL_bd _ hnext.1
          rw [hnext.2] at this
          have hl : ((byL s).take (pos + 1)).length ≤ 8 := by rw [List.length_take, byL_len]; omega
          have hpw : (16 : Nat) ^ ((byL s).take (pos + 1)).length ≤ 16 ^ 8 := Nat.pow_le_pow_right (by decide) hl
          have e16 : (16 : Nat) ^ 8 = 4294967296 := by decide
          omega
        have HNX := Lib.hid hnext
        obtain ⟨g, hg⟩ : ∃ g, dig r = g := ⟨_, rfl⟩
        rw [hg] at HN hg0 hbd h16 HNX
        have hor := or_dig16 a g a0 (by omega) ⟨hg0, h16⟩
        have HREL : Hid (identRel s w (16 * a + g) (wr.iterAt (w.heap.size + 1) s (pos + 1))) := Lib.hid ⟨pos + 1, d2, Hit2.out, HRI.out, HNX.out.1, HNX.out.2⟩
        clear hit hr1 hdg hnm hr hre hnext hg c0 c1 c2 c3 v0 v1 v2 v3 hz
        go_wp2_with fail
        refine (digit_v HN.out HBB.out _).mono ?_
        rintro e w1 ⟨rfl, rfl⟩
        go_wp2_with fail
        go_roundw
        case rel => exact ⟨16 * a + g, rfl, by omega, hbd, HREL⟩
        case measure => rw [iterPos_at _ _ _ _ Hit2.out, iterPos_at _ _ _ _ Hit.out]; omega
      · have HN : Hid (digN r = 0) := Lib.hid (by unfold digN; rw [if_neg h16])
        have HBB : Hid (digB r = false) := Lib.hid (by unfold digB; exact decide_eq_false h16)
        have HO : Hid ((headO (byL s)).map (fun p => (⟨p.1, p.2, 0, ByteArray.mk #[]⟩ : Fr)) = none) := Lib.hid (by
          rw [headO_bad]; rfl
          cases hdd : digs (byL s)
          · rfl
          · exfalso
            have hm : bt s pos ∈ byL s := by rw [← byL_get hp]; exact List.getElem_mem _
            have := digs_iff.1 hdd _ hm
            rcases hr with ⟨e, _, _⟩ | ⟨_, _, e⟩
            · rw [e] at h16; exact h16 this
            · have := e pos (Nat.le_refl _) (by omega)
              rw [dig_no (by omega)] at *
              omega)
        clear hit hr1 hdg hnm hr h16
        go_wp2_with fail
        refine (digit_v HN.out HBB.out _).mono ?_
        rintro e w1 ⟨rfl, rfl⟩
        go_wp2_with fail
        refine bodyPost_ret (v := .tuple #[.agg #[.int .i64 0, .int .i64 0, .int .i64 0, .string (ByteArray.mk #[])], .bool false]) (by simp [results, Tryd.results28, go_sem, c0, c1, c2, c3]) rfl (bodyPost_n HO.out ?_)
        exact HRI.out.done _ _ _ _
    · have hnx : ∀ ty, (Instr.next (.pointer (some ⟨w.heap.size + 1, 0, none⟩)) true ty).run Tryd.prog wr = _ := fun ty => Lib.run_next_end_at wr (w.heap.size + 1) s pos ty hit hp
      rw [List.take_of_length_le (by rw [byL_len]; omega)] at hdg hnm
      obtain ⟨⟨c0, c1, c2, c3, v0, v1, v2, v3⟩, hz⟩ := HR1.out.facts
      have HDG := Lib.hid hdg
      have HNM := Lib.hid hnm
      clear hit hr1 hdg hnm ‹¬ pos < s.size›
      have HO := Lib.hid (headO_3 (by rw [byL_len]; exact HS.out) HDG.out)
      rw [HNM.out] at HO
      have HO2 : Hid ((headO (byL s)).map (fun p => (⟨p.1, p.2, 0, ByteArray.mk #[]⟩ : Fr)) = some ⟨a, 0, 0, ByteArray.mk #[]⟩) := Lib.hid (by rw [HO.out]; rfl)
      go_wp2_with fail
      refine bodyPost_ret (v := .tuple #[.agg #[.int .i64 a, .int .i64 0, .int .i64 0, .string (ByteArray.mk #[])], .bool true]) (by simp [results, Tryd.results28, go_sem, c0, c1, c2, c3]) rfl (bodyPost_y HO2.out ?_)
      exact HR1.out.done _ _ _ _

set_option maxHeartbeats 4000000 in
theorem readIdent_8 {s : ByteArray} (hs : s.size = 8) (w : World) :
    Calls Tryd.prog 28 #[.string s] w (BodyPost ((headO (byL s)).map fun p => ⟨p.1, p.2, 0, ByteArray.mk #[]⟩) w) := by
  have e1 : ((s.size : Int) != 3) = true := by rw [hs]; rfl
  have e2 : ((s.size : Int) == 3) = false := by rw [hs]; rfl
  have e3 : ((s.size : Int) != 8) = false := by rw [hs]; rfl
  have HS := Lib.hid hs
  have hsz8 : s.size ≤ 8 := by omega
  have hb8 : (s.size : Int) ≤ 8 := by omega
  clear hs
  go_enter Tryd.func28, Tryd.ntmps28
  go_wp2_with fail
  go_loopw [4] (fun u wr => ∃ a : Int, u = .int .i64 a ∧ 0 ≤ a ∧ a < 4294967296 ∧ Hid (identRel s w a wr)) (fun _ wr => s.size - wr.iterPos (w.heap.size + 1))
  case atStart =>
    refine ⟨0, rfl, by omega, by omega, Lib.hid ⟨0, Nat.zero_le _, ?_, R1.start.alloc _, rfl, rfl⟩⟩
    have := World.iter_heap (w.alloc (.cells #[.int .i64 0, .int .i64 0, .int .i64 0, .string (ByteArray.mk #[])] 23)) s 0
    simpa using this
  case round =>
    obtain ⟨a, rfl, a0, a1, HR⟩ := hrel
    obtain ⟨pos, hpos, hit, hr1, hdg, hnm⟩ := HR.out
    have hsz := iter_lt hit
    have Hit := Lib.hid hit
    have HR1 := Lib.hid hr1
    have hsl : w.heap.size < wr.heap.size := by omega
    by_cases hp : pos < s.size
    · obtain ⟨r, d, d1, d2, hr, hnx⟩ := next_any s pos (w.heap.size + 1) wr hp hit
      have Hit2 := Lib.hid (Lib.iterAt_heap wr (w.heap.size + 1) s pos (pos + d) hit)
      have HRI := Lib.hid (hr1.iterAt (k := w.heap.size + 1) (by omega) s (pos + d))
      obtain ⟨⟨c0, c1, c2, c3, v0, v1, v2, v3⟩, hz⟩ := HRI.out.facts
      have hr0 : -2147483648 ≤ r ∧ r ≤ 2147483647 := by have := bt_lt s pos; omega
      by_cases h16 : dig r < 16
      · have hrr : r = bt s pos ∧ d = 1 := by
          rcases hr with ⟨e, e2, _⟩ | ⟨e, _, _⟩
          · exact ⟨e, e2⟩
          · rw [dig_no (by omega)] at h16; omega
        obtain ⟨hre, rfl⟩ := hrr
        have HN : Hid (digN r = dig r) := Lib.hid (by unfold digN; rw [if_pos h16])
        have HBB : Hid (digB r = true) := Lib.hid (by unfold digB; exact decide_eq_true h16)
        have hg0 := dig_nn r
        have hnext : digs ((byL s).take (pos + 1)) = true ∧ numL ((byL s).take (pos + 1)) = 16 * a + dig r := by
          rw [byL_take hp, digs_snoc, numL_snoc, hdg, hnm, ← hre, decide_eq_true h16]; exact ⟨rfl, rfl⟩
        have hbd : 16 * a + dig r < 4294967296 := by
          have := numL_bd _ hnext.1
          rw [hnext.2] at this
          have hl : ((byL s).take (pos + 1)).length ≤ 8 := by rw [List.length_take, byL_len]; omega
          have hpw : (16 : Nat) ^ ((byL s).take (pos + 1)).length ≤ 16 ^ 8 := Nat.pow_le_pow_right (by decide) hl
          have e16 : (16 : Nat) ^ 8 = 4294967296 := by decide
          omega
        have HNX := Lib.hid hnext
        obtain ⟨g, hg⟩ : ∃ g, dig r = g := ⟨_, rfl⟩
        rw [hg] at HN hg0 hbd h16 HNX
        have hor := or_dig16 a g a0 (by omega) ⟨hg0, h16⟩
        have HREL : Hid (identRel s w (16 * a + g) (wr.iterAt (w.heap.size + 1) s (pos + 1))) := Lib.hid ⟨pos + 1, d2, Hit2.out, HRI.out, HNX.out.1, HNX.out.2⟩
        clear hit hr1 hdg hnm hr hre hnext hg c0 c1 c2 c3 v0 v1 v2 v3 hz
        go_wp2_with fail
        refine (digit_v HN.out HBB.out _).mono ?_
        rintro e w1 ⟨rfl, rfl⟩
        go_wp2_with fail
        go_roundw
        case rel => exact ⟨16 * a + g, rfl, by omega, hbd, HREL⟩
        case measure => rw [iterPos_at _ _ _ _ Hit2.out, iterPos_at _ _ _ _ Hit.out]; omega
      · have HN : Hid (digN r = 0) := Lib.hid (by unfold digN; rw [if_neg h16])
        have HBB : Hid (digB r = false) := Lib.hid (by unfold digB; exact decide_eq_false h16)
        have HO : Hid ((headO (byL s)).map (fun p => (⟨p.1, p.2, 0, ByteArray.mk #[]⟩ : Fr)) = none) := Lib.hid (by
          rw [headO_bad]; rfl
          cases hdd : digs (byL s)
          · rfl
          · exfalso
            have hm : bt s pos ∈ byL s := by rw [← byL_get hp]; exact List.getElem_mem _
            have := digs_iff.1 hdd _ hm
            rcases hr with ⟨e, _, _⟩ | ⟨_, _, e⟩
            · rw [e] at h16; exact h16 this
            · have := e pos (Nat.le_refl _) (by omega)
              rw [dig_no (by omega)] at *
              omega)
        clear hit hr1 hdg hnm hr h16
        go_wp2_with fail
        refine (digit_v HN.out HBB.out _).mono ?_
        rintro e w1 ⟨rfl, rfl⟩
        go_wp2_with fail
        refine bodyPost_ret (v := .tuple #[.agg #[.int .i64 0, .int .i64 0, .int .i64 0, .string (ByteArray.mk #[])], .bool false]) (by simp [results, Tryd.results28, go_sem, c0, c1, c2, c3]) rfl (bodyPost_n HO.out ?_)
        exact HRI.out.done _ _ _ _
    · have hnx : ∀ ty, (Instr.next (.pointer (some ⟨w.heap.size + 1, 0, none⟩)) true ty).run Tryd.prog wr = _ := fun ty => Lib.run_next_end_at wr (w.heap.size + 1) s pos ty hit hp
      rw [List.take_of_length_le (by rw [byL_len]; omega)] at hdg hnm
      obtain ⟨⟨c0, c1, c2, c3, v0, v1, v2, v3⟩, hz⟩ := HR1.out.facts
      have HDG := Lib.hid hdg
      have HNM := Lib.hid hnm
      clear hit hr1 hdg hnm ‹¬ pos < s.size›
      have HO := Lib.hid (headO_8 (by rw [byL_len]; exact HS.out) HDG.out)
      rw [HNM.out] at HO
      have ha29 := and29 a a0 a1
      by_cases hx : a / 536870912 % 2 = 1
      · rw [if_pos hx] at ha29
        have hn29 := not29 a a0 a1 hx
        have HO2 : Hid ((headO (byL s)).map (fun p => (⟨p.1, p.2, 0, ByteArray.mk #[]⟩ : Fr)) = some ⟨a - 536870912, 4, 0, ByteArray.mk #[]⟩) := Lib.hid (by rw [HO.out, if_pos hx]; rfl)
        clear hx
        go_wp2_with fail
        refine bodyPost_ret (v := .tuple #[.agg #[.int .i64 (a - 536870912), .int .i64 4, .int .i64 0, .string (ByteArray.mk #[])], .bool true]) (by simp [results, Tryd.results28, go_sem, c0, c1, c2, c3]) rfl (bodyPost_y HO2.out ?_)
        exact HR1.out.done _ _ _ _
      · rw [if_neg hx] at ha29
        have HO2 : Hid ((headO (byL s)).map (fun p => (⟨p.1, p.2, 0, ByteArray.mk #[]⟩ : Fr)) = some ⟨a, 1, 0, ByteArray.mk #[]⟩) := Lib.hid (by rw [HO.out, if_neg hx]; rfl)
        clear hx
        go_wp2_with fail
        refine bodyPost_ret (v := .tuple #[.agg #[.int .i64 a, .int .i64 1, .int .i64 0, .string (ByteArray.mk #[])], .bool true]) (by simp [results, Tryd.results28, go_sem, c0, c1, c2, c3]) rfl (bodyPost_y HO2.out ?_)
        exact HR1.out.done _ _ _ _

set_option maxHeartbeats 4000000 in
theorem readIdent_any {s : ByteArray} (w : World) :
    Calls Tryd.prog 28 #[.string s] w (BodyPost ((headO (byL s)).map fun p => ⟨p.1, p.2, 0, ByteArray.mk #[]⟩) w) := by
  by_cases hlen : s.size ≠ 3 ∧ s.size ≠ 8
  · have e3 : ((s.size : Int) != 3) = true := by simp; omega
    have e8 : ((s.size : Int) != 8) = true := by simp; omega
    have HO : Hid ((headO (byL s)).map (fun p => (⟨p.1, p.2, 0, ByteArray.mk #[]⟩ : Fr)) = none) := Lib.hid (by rw [headO_len (by rw [byL_len]; exact hlen.1) (by rw [byL_len]; exact hlen.2)]; rfl)
    clear hlen
    go_enter Tryd.func28, Tryd.ntmps28
    go_wp2_with fail
    refine bodyPost_ret (v := .tuple #[.agg #[.int .i64 0, .int .i64 0, .int .i64 0, .string (ByteArray.mk #[])], .bool false]) (by simp [results, Tryd.results28, go_sem]) rfl (bodyPost_n HO.out ?_)
    exact (Below.refl _ _).alloc (Nat.le_refl _) _
  by_cases h : s.size = 3
  · exact readIdent_3 h w
  · exact readIdent_8 (by omega) w

end Go.Proofs.YtpjlomgiljpadaaDoor
