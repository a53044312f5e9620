/- Dump: contracts of readData. -/
import Derived.Test.YtpjlomgiljpadaaDoorDmpS
import Derived.Test.YtpjlomgiljpadaaDoorDmpX
import Derived.Test.YtpjlomgiljpadaaDoorDmpY
import Derived.Test.YtpjlomgiljpadaaDoorDmpSh
import Derived.Test.YtpjlomgiljpadaaDoorDmpSg
namespace Go.Proofs.YtpjlomgiljpadaaDoor
open Go.RowKit
set_option linter.unusedVariables false

abbrev IsB (B : Nat) (acc : List UInt8) (w : World) : Prop := Lib.IsBuilderF 62 5 B B (Lib.byteCells acc) w
def cleanRel (s : ByteArray) (w : World) (n : Nat) (dotted : Bool) (wr : World) : Prop :=
  ∃ (pos : Nat) (acc : List UInt8), pos ≤ s.size ∧ IsB w.heap.size acc wr ∧ wr.heap[w.heap.size + 1]? = some (.stringIter s pos) ∧ Below w.heap.size w wr ∧
    mach ((byL s).drop pos) dotted n = mach (byL s) true 0 ∧ acL acc = nod ((byL s).take pos) ∧ acc.length = n ∧ n ≤ pos
theorem clean_dot {s : ByteArray} {w wr : World} {n pos : Nat} {dotted : Bool} {acc : List UInt8} (hp : pos < s.size) (h46 : bt s pos = 46) (hI : IsB w.heap.size acc wr) (hit : wr.heap[w.heap.size + 1]? = some (.stringIter s pos)) (hB : Below w.heap.size w wr)
    (hm : mach ((byL s).drop pos) dotted n = mach (byL s) true 0) (ha : acL acc = nod ((byL s).take pos)) (hn : acc.length = n) (hnp : n ≤ pos) :
    (¬ (dotted = true ∨ n % 2 ≠ 0) → cleanRel s w n true (wr.iterAt (w.heap.size + 1) s (pos + 1))) ∧ ((dotted = true ∨ n % 2 ≠ 0) → mach (byL s) true 0 = false) := by
  rw [byL_drop hp, h46] at hm
  simp only [mach] at hm
  rw [if_pos (by trivial)] at hm
  refine ⟨fun hd => ⟨pos + 1, acc, by omega, hI.iterAt hit _, Lib.iterAt_heap _ _ _ _ _ hit, Lib.below_iterAt hB (by omega) _ _, ?_, ?_, hn, by omega⟩, fun hd => ?_⟩
  · rw [if_neg hd] at hm; exact hm
  · rw [byL_take hp, nod_app, h46, ha]; simp [nod]
  · rw [if_pos hd] at hm; exact hm.symm

theorem clean_put {s : ByteArray} {w wr W1 : World} {n pos : Nat} {dotted : Bool} {acc : List UInt8} (hp : pos < s.size) (h46 : bt s pos ≠ 46) (ha0 : bt s pos < 128) (hit : wr.heap[w.heap.size + 1]? = some (.stringIter s pos)) (hB : Below w.heap.size w wr)
    (hm : mach ((byL s).drop pos) dotted n = mach (byL s) true 0) (ha : acL acc = nod ((byL s).take pos)) (hn : acc.length = n) (hnp : n ≤ pos)
    (h1 : Lib.BuilderAtF 62 5 w.heap.size w.heap.size (.pointer (some ⟨w.heap.size, 0, none⟩)) (Lib.byteCells acc ++ Lib.runeCells (bt s pos)) W1)
    (b1 : Below w.heap.size (wr.iterAt (w.heap.size + 1) s (pos + 1)) W1) (k1 : Lib.OthersKept 5 (some w.heap.size) (wr.iterAt (w.heap.size + 1) s (pos + 1)) W1) :
    cleanRel s w (n + 1) false W1 ∧ W1.heap[w.heap.size + 1]? = some (.stringIter s (pos + 1)) := by
  have hb := bt_lt s pos
  have hit2 := Lib.iterAt_heap wr (w.heap.size + 1) s pos (pos + 1) hit
  have hit3 := k1.iter hit2 (by simp)
  have hr := acL_rune hb.1 ha0
  refine ⟨⟨pos + 1, acc ++ Lib.encodeRune (bt s pos), by omega, ?_, hit3, (Lib.below_iterAt hB (by omega) _ _).trans b1, ?_, ?_, ?_, by omega⟩, hit3⟩
  · unfold IsB
    rw [Lib.byteCells_append, Lib.byteCells_encodeRune]; exact Or.inr h1
  · rw [byL_drop hp] at hm
    simp only [mach] at hm
    rw [if_neg h46] at hm
    exact hm
  · rw [acL_app, hr, ha, byL_take hp, nod_app]
    simp [nod, h46]
  · rw [List.length_append, hn]
    have := congrArg List.length hr
    unfold acL at this
    rw [List.length_map] at this
    rw [this]; rfl
theorem unl_by {A : ByteArray} (h : unOk A) : isBy (unl A (A.size / 2)) := by
  intro x hx
  unfold unl at hx
  obtain ⟨i, hi, rfl⟩ := List.mem_map.1 hx
  have hi' := List.mem_range.1 hi
  have a := h.1 (2 * i) (by omega)
  have b := h.1 (2 * i + 1) (by omega)
  have a0 := (dg_bd A (2 * i)).1
  have b0 := (dg_bd A (2 * i + 1)).1
  unfold unb
  omega
theorem clean_lt {c : Int} (h : clean c) : c < 128 := by
  rcases h with h | rfl
  · have := fun h => dig_no (r := c) h
    omega
  · omega
theorem even_i {k : Nat} : ((k : Int) % 2 == 0) = decide (k % 2 = 0) ∧ ((k : Int) % 2 != 0) = decide (k % 2 ≠ 0) := by
  constructor
  · rw [Bool.eq_iff_iff]; simp; omega
  · rw [Bool.eq_iff_iff]; simp; omega
theorem no_mach {s : ByteArray} (h0 : 0 < s.size) (hc : ∀ c ∈ byL s, clean c) (h : mach (byL s) true 0 = false) : datL (byL s) = none := by
  rw [datL_mach (fun e => by have := byL_len s; rw [e] at this; simp at this; omega) hc, if_neg (by rw [h]; simp)]

set_option maxHeartbeats 4000000 in
theorem readData_clean {s : ByteArray} (h0 : 0 < s.size) (hs : s.size ≤ 1000000) (hc : ∀ c ∈ byL s, clean c) (w : World) :
    Calls Tryd.prog 54 #[.string s] w (rdPost s w) := by
  have HC := Lib.hid hc
  have HNE : Hid (byL s ≠ []) := Lib.hid (fun e => by have := byL_len s; rw [e] at this; simp at this; omega)
  obtain ⟨x1, x2, x3⟩ := empty_f h0
  have HNM := Lib.hid (no_mach h0 hc)
  clear hc
  go_enter Tryd.func54, Tryd.ntmps54
  go_wp2_with fail
  go_loopw [5, 6] (fun n dt wr => ∃ (k : Nat) (b : Bool), n = .int .i64 k ∧ dt = .bool b ∧ Hid (cleanRel s w k b wr)) (fun _ _ wr => s.size - wr.iterPos (w.heap.size + 1))
  case atStart =>
    refine ⟨0, true, rfl, rfl, Lib.hid ⟨0, [], Nat.zero_le _, (Lib.IsBuilderF.of (Lib.fresh_isBuilder 62 5 w)).alloc _, ?_, ((Below.refl _ w).alloc (Nat.le_refl _) _).alloc (by simp) _, rfl, rfl, rfl, Nat.le_refl _⟩⟩
    have := World.iter_heap (w.alloc (.cells #[.pointer none, .slice none 0 0] 62)) s 0
    simpa using this
  case round =>
    obtain ⟨k, b, rfl, rfl, HR⟩ := hrel
    obtain ⟨pos, acc, hpos, hI, hit, hbw, hm, ha, hn, hnp⟩ := HR.out
    have hsz := iter_lt hit
    have Hit := Lib.hid hit
    have HBW := Lib.hid hbw
    have hk1 : (k : Int) ≤ 1000000 := by omega
    by_cases hp : pos < s.size
    · have hcl := HC.out (bt s pos) (by rw [← byL_get hp]; exact List.getElem_mem _)
      have hlt := clean_lt hcl
      have hb := bt_lt s pos
      have hnx : ∀ ty, (Instr.next (.pointer (some ⟨w.heap.size + 1, 0, none⟩)) true ty).run Tryd.prog wr = .ok (.tuple #[.bool true, .int .i64 pos, .int .i32 (bt s pos)]) (wr.iterAt (w.heap.size + 1) s (pos + 1)) := fun ty => by
        rw [Lib.run_next_ascii_at wr (w.heap.size + 1) s pos ty hit hp (by have := bt_eq s pos hp; omega), bt_eq s pos hp]
      have Hit2 := Lib.hid (Lib.iterAt_heap wr (w.heap.size + 1) s pos (pos + 1) hit)
      by_cases h46 : bt s pos = 46
      · have HD := Lib.hid (clean_dot hp h46 hI hit hbw hm ha hn hnp)
        rw [h46] at hnx
        have HB2 := Lib.hid (Lib.below_iterAt hbw (k := w.heap.size + 1) (by omega) s (pos + 1))
        clear h46 hI hit hbw hm ha hn hnp hcl hlt hb
        cases b
        · obtain ⟨ev1, ev2⟩ := even_i (k := k)
          by_cases hk2 : k % 2 = 0
          · rw [decide_eq_true hk2] at ev1
            rw [decide_eq_false (by omega)] at ev2
            have HD2 := Lib.hid (HD.out.1 (by simp; omega))
            clear hk2
            go_wp2_with fail
            go_roundw
            case rel => exact ⟨k, true, rfl, rfl, HD2⟩
            case measure => rw [iterPos_at _ _ _ _ Hit2.out, iterPos_at _ _ _ _ Hit.out]; omega
          · rw [decide_eq_false hk2] at ev1
            rw [decide_eq_true hk2] at ev2
            have HN := Lib.hid (HNM.out (HD.out.2 (.inr hk2)))
            clear hk2
            go_wp2_with fail
            go_ret2
            exact rdPost_no HN.out HB2.out
        · have HN := Lib.hid (HNM.out (HD.out.2 (.inl rfl)))
          go_wp2_with fail
          go_ret2
          exact rdPost_no HN.out HB2.out
      · have c1 : (bt s pos == 46) = false := by simpa using h46
        have c2 : (bt s pos != 46) = true := by simpa using h46
        have HP := Lib.hid (fun W1 => clean_put (W1 := W1) hp h46 hlt hit hbw hm ha hn hnp)
        have HI2 := Lib.hid (hI.iterAt hit (pos + 1))
        have HL : Hid ((Lib.byteCells acc).length + 4 ≤ 140737488355328) := Lib.hid (by rw [Lib.byteCells_length]; omega)
        have HS2 : Hid (w.heap.size ≤ (wr.iterAt (w.heap.size + 1) s (pos + 1)).heap.size) := Lib.hid (by rw [Lib.iterAt_size]; omega)
        have hr0 : -2147483648 ≤ bt s pos ∧ bt s pos ≤ 2147483647 := by omega
        clear h46 hI hit hbw hm ha hn hnp hcl
        go_wp2_with fail
        refine (dwrune_k w.heap.size w.heap.size _ (bt s pos) hr0.1 hr0.2 _ HI2.out HL.out HS2.out).mono ?_
        rintro e W1 ⟨rfl, h1, b1, k1⟩
        obtain ⟨hrel1, hit3⟩ := HP.out W1 h1 b1 k1
        have HR1 := Lib.hid hrel1
        have Hit3 := Lib.hid hit3
        clear hrel1 hit3 h1 b1 k1
        go_wp2_with fail
        go_roundw
        case rel => exact ⟨k + 1, false, by go_num, rfl, HR1⟩
        case measure => rw [iterPos_at _ _ _ _ Hit3.out, iterPos_at _ _ _ _ Hit.out]; omega
    · have hnx : ∀ ty, (Instr.next (.pointer (some ⟨w.heap.size + 1, 0, none⟩)) true ty).run Tryd.prog wr = _ := fun ty => Lib.run_next_end_at wr (w.heap.size + 1) s pos ty hit hp
      rw [List.drop_eq_nil_of_le (by rw [byL_len]; omega)] at hm
      rw [List.take_of_length_le (by rw [byL_len]; omega)] at ha
      cases b
      · have hmt : mach (byL s) true 0 = true := hm.symm
        have HI := Lib.hid hI
        have hAs : (ByteArray.mk acc.toArray).size = k := by show acc.toArray.size = k; simp [hn]
        have HDT := Lib.hid (datL_mach HNE.out HC.out)
        have hAd : ∀ c ∈ byL (ByteArray.mk acc.toArray), dig c < 16 := by rw [acL_byL, ha]; exact nod_digs HC.out
        have hAn : byL (ByteArray.mk acc.toArray) = nod (byL s) := by rw [acL_byL, ha]
        have hln : (nod (byL s)).length = k := by rw [← hAn, byL_len, hAs]
        obtain ⟨A, hA⟩ : ∃ A, ByteArray.mk acc.toArray = A := ⟨_, rfl⟩
        have HST : Hid (∀ w0, Lib.IsBuilderF 62 5 w.heap.size w.heap.size (Lib.byteCells acc) w0 → w.heap.size ≤ w0.heap.size → Calls Tryd.prog 39 #[.pointer (some ⟨w.heap.size, 0, none⟩)] w0 fun e w' => e = .returned (.string A) ∧ Below w.heap.size w0 w') := Lib.hid (fun w0 h1 h2 => by
          rw [← hA]
          exact (Tryd.Builder_String_any_k w.heap.size w.heap.size acc w0 h1 h2).mono fun e w' ⟨a1, _, a2, _⟩ => ⟨a1, a2⟩)
        rw [hA] at hAs hAd hAn
        have HAS : Hid (A.size ≤ 100000000) := Lib.hid (by omega)
        by_cases hk2 : k % 2 = 0
        · have HOK : Hid (unOk A) := Lib.hid ⟨isdig_of hAd, by omega⟩
          have HY : Hid (datL (byL s) = some (unl A (A.size / 2))) := Lib.hid (by
            rw [HDT.out, if_pos ⟨hmt, by omega⟩, unl_all (by omega), hAn])
          clear hm ha hI hit hbw hn hnp hmt hAs hAd hAn hln hA hk2 ‹¬ pos < s.size›
          go_wp2_with fail
          refine (HST.out _ HI.out HBW.out.size).mono ?_
          rintro e W1 ⟨rfl, b1⟩
          have HB1 := Lib.hid (HBW.out.trans b1)
          clear b1
          go_wp2_with fail
          refine (unhex_yes A _ HAS.out HOK.out).mono ?_
          rintro e W2 ⟨rfl, b2⟩
          have HB2 := Lib.hid (HB1.out.trans (b2.mono HB1.out.size))
          clear b2
          go_wp2_with fail
          go_ret2
          refine rdPost_yes (X := strOfNums (unl A (A.size / 2))) ?_ HB2.out
          rw [HY.out, byL_nums (unl_by HOK.out)]
        · have HNO : Hid (¬ unOk A) := Lib.hid (fun h => by have := h.2; omega)
          have HN : Hid (datL (byL s) = none) := Lib.hid (by rw [HDT.out, if_neg (by omega)])
          clear hm ha hI hit hbw hn hnp hmt hAs hAd hAn hln hA hk2 ‹¬ pos < s.size›
          go_wp2_with fail
          refine (HST.out _ HI.out HBW.out.size).mono ?_
          rintro e W1 ⟨rfl, b1⟩
          have HB1 := Lib.hid (HBW.out.trans b1)
          clear b1
          go_wp2_with fail
          refine (unhex_no A _ HAS.out HNO.out).mono ?_
          rintro e W2 ⟨rfl, b2⟩
          have HB2 := Lib.hid (HB1.out.trans (b2.mono HB1.out.size))
          clear b2
          go_wp2_with fail
          go_ret2
          exact rdPost_no HN.out HB2.out
      · have HN := Lib.hid (HNM.out hm.symm)
        clear hm ha hI hit hbw hn hnp ‹¬ pos < s.size›
        go_wp2_with fail
        go_ret2
        exact rdPost_no HN.out HBW.out

end Go.Proofs.YtpjlomgiljpadaaDoor
