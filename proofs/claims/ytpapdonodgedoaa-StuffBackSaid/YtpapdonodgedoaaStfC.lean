/- Stuff: contracts of the document's Stuff, Run. -/
import Derived.Test.YtpapdonodgedoaaStfB
namespace Go.Proofs.Ytpapdonodgedoaa
open Go.RowKit
set_option linter.unusedVariables false

def stuffS (L : List Int) : ByteArray := if bitsB L then strOfNums (stuffL L) else ByteArray.mk #[]
theorem stuff_round {L : List Int} {x : Int} (h : bitsB L = true) : stuffL (L ++ [x]) = (if (tl (stuffL L ++ [x])).2 = 5 then (stuffL L ++ [x]) ++ [oth x] else stuffL L ++ [x]) := by
  rw [stuffL_snoc, tl_snoc, tl_stuff h]
  split <;> simp
theorem bits_take {L : List Int} (h : bitsB L = true) (k : Nat) : bitsB (L.take k) = true := by
  rw [← List.take_append_drop k L, bitsB_app, Bool.and_eq_true] at h
  exact h.1

set_option maxHeartbeats 2000000 in
theorem sstuff_v {s t : ByteArray} (h : stuffS (byL s) = t) (hs : s.size ≤ 100000) (w : World) :
    Calls Try.prog 12 #[.string s] w fun e w' => e = .returned (.string t) ∧ Below w.heap.size w w' := by
  obtain ⟨i0, hi, hz0, hz1, hz2⟩ := info_parts info_u8
  have H := Lib.hid h
  clear h
  cases hb : bitsB (byL s)
  · have HB := Lib.hid hb
    have HQ : Hid (ByteArray.mk #[] = t) := Lib.hid (by rw [← H.out]; unfold stuffS; rw [hb]; rfl)
    clear hb
    go_enter Try.func12, Try.ntmps12
    go_wp2_with fail
    refine (sright_v HB.out (by unfold maxLen; omega) _).mono ?_
    rintro e w1 ⟨rfl, rfl⟩
    go_wp2
    go_ret
    exact ⟨fret_str HQ.out, Below.refl _ _⟩
  · have HB := Lib.hid hb
    have HQ : Hid (strOfNums (stuffL (byL s)) = t) := Lib.hid (by rw [← H.out]; unfold stuffS; rw [hb]; rfl)
    clear hb H
    go_enter Try.func12, Try.ntmps12
    go_wp2_with fail
    refine (sright_v HB.out (by unfold maxLen; omega) _).mono ?_
    rintro e w1 ⟨rfl, rfl⟩
    go_wp2_with fail
    go_loopw [3, 4] (fun v i wr => ∃ k : Nat, k ≤ s.size ∧ i = .int .i64 k ∧ Hid (gathB w.heap.size w v (stuffL ((byL s).take k)) wr)) (fun _ i _ => s.size - (intOf i).toNat)
    case atStart => exact ⟨0, Nat.zero_le _, rfl, Lib.hid (gathB.start w)⟩
    case round =>
      obtain ⟨k, hk, rfl, HG⟩ := hrel
      by_cases hlt : k < s.size
      · have hix : ∀ w, (Instr.index 9 (.string s) (.int .i64 k)).run Try.prog w = .ok (.int .u8 (bt s k)) w := fun w => index_bt Try.underlying9 hlt w
        have HBK : Hid (isBit (bt s k) = true) := Lib.hid (by
          have := List.all_eq_true.1 HB.out (bt s k) (by rw [← byL_get hlt]; exact List.getElem_mem _)
          exact this)
        have HN : Hid (stuffL ((byL s).take (k + 1)) = (if (tl (stuffL ((byL s).take k) ++ [bt s k])).2 = 5 then (stuffL ((byL s).take k) ++ [bt s k]) ++ [oth (bt s k)] else stuffL ((byL s).take k) ++ [bt s k])) := Lib.hid (by rw [byL_take hlt, stuff_round (bits_take HB.out k)])
        have HL : Hid ((stuffL ((byL s).take k)).length ≤ 125000) := Lib.hid (by have := (stuff_len ((byL s).take k)).1; rw [List.length_take, byL_len] at this; omega)
        generalize stuffL ((byL s).take k) = L at HG HN HL
        generalize bt s k = x at hix HBK HN
        have C2 : Hid (∀ u ∈ [Value.int .u8 x], u.oneCell' = true) := Lib.hid (fun u hu => by simp at hu; subst hu; rfl)
        have C3 : Hid (L.length + 1 ≤ maxLen) := Lib.hid (by have := HL.out; unfold maxLen; omega)
        have C4 : Hid ((L.length + 1) * 1 ≤ 140737488355328) := Lib.hid (by have := HL.out; omega)
        obtain ⟨wo, rfl⟩ : ∃ wo : World, wo = wr := ⟨_, rfl⟩
        have C5 : Hid (w.heap.size ≤ (wo.alloc (.cells #[.int .u8 x] 5)).heap.size) := Lib.hid (by have := HG.out.2.2; simp; omega)
        go_wp2_with (at_builtin; refine wpList_append_own _ rfl _ _ 34 rfl w.heap.size 5 i0 (.int .u8 0) 1 1 Try.underlying34 hi hz0 hz1 hz2 rfl (by decide) _ L.length (byteRow L) rfl (HG.out.1.alloc _) ⟨wo.heap.size, 0, none⟩ 1 1 [.int .u8 x] rfl rfl (news_byte _ _ _) C2.out C3.out C4.out C5.out ?_)
        intro v' w1 hown hgr _
        have hst := Lib.hid (HG.out.step hown hgr)
        have HSL := Lib.hid (hst.out.slice (by have := HL.out; simp; omega))
        clear hown hgr HG C2 C3 C4 C5
        generalize ht : (tl (L ++ [x])).2 = n at HN
        have HT := Lib.hid ht
        clear ht
        go_wp2_with fail
        refine (stail_v HT.out _ HSL.out).mono ?_
        rintro e w2 ⟨rfl, m, rfl⟩
        have hs2 := Lib.hid (hst.out.drewN m)
        clear hst HSL
        by_cases h5 : n = 5
        · subst h5
          have HN2 : Hid (stuffL ((byL s).take (k + 1)) = (L ++ [x]) ++ [oth x]) := Lib.hid HN.out
          clear HN HT
          have HL2 : Hid ((L ++ [x]).length ≤ 125001) := Lib.hid (by have := HL.out; simp; omega)
          generalize L ++ [x] = M at hs2 HN2 HL2
          go_wp2_with fail
          refine (sother_v HBK.out _).mono ?_
          rintro e w3 ⟨rfl, rfl⟩
          generalize oth x = y at HN2
          have C2 : Hid (∀ u ∈ [Value.int .u8 y], u.oneCell' = true) := Lib.hid (fun u hu => by simp at hu; subst hu; rfl)
          have C3 : Hid (M.length + 1 ≤ maxLen) := Lib.hid (by have := HL2.out; unfold maxLen; omega)
          have C4 : Hid ((M.length + 1) * 1 ≤ 140737488355328) := Lib.hid (by have := HL2.out; omega)
          obtain ⟨wp, hwp⟩ : ∃ wp : World, wp = w1.drewN m := ⟨_, rfl⟩
          rw [← hwp] at hs2 ⊢
          clear hwp
          have C5 : Hid (w.heap.size ≤ (wp.alloc (.cells #[.int .u8 y] 5)).heap.size) := Lib.hid (by have := hs2.out.2.2; simp; omega)
          go_wp2_with (at_builtin; refine wpList_append_own _ rfl _ _ 34 rfl w.heap.size 5 i0 (.int .u8 0) 1 1 Try.underlying34 hi hz0 hz1 hz2 rfl (by decide) _ M.length (byteRow M) rfl (hs2.out.1.alloc _) ⟨wp.heap.size, 0, none⟩ 1 1 [.int .u8 y] rfl rfl (news_byte _ _ _) C2.out C3.out C4.out C5.out ?_)
          intro v2 w4 hown hgr _
          have hs4 := Lib.hid (hs2.out.step hown hgr)
          clear hown hgr
          go_wp2
          go_roundw
          case rel => exact ⟨k + 1, by omega, by go_num, by rw [HN2.out]; exact hs4⟩
          case measure => simp [intOf]; omega
        · have HN2 : Hid (stuffL ((byL s).take (k + 1)) = L ++ [x]) := Lib.hid (by rw [HN.out, if_neg h5])
          have hne : ((n : Int) == 5) = false := by simp; omega
          go_wp2
          go_roundw
          case rel => exact ⟨k + 1, by omega, by go_num, by rw [HN2.out]; exact hs2⟩
          case measure => simp [intOf]; omega
      · obtain rfl : k = s.size := by omega
        have HG2 : Hid (gathB w.heap.size w u3 (stuffL (byL s)) wr) := Lib.hid (by have := HG.out; rwa [← byL_len s, List.take_length] at this)
        have hcv := conv_own (P := Try.prog) wr 34 9 5 Try.underlying34 Try.underlying5 Try.underlying9 HG2.out.1
        rw [HQ.out] at hcv
        go_wp2
        go_ret
        exact ⟨rfl, HG2.out.2.1⟩

set_option maxHeartbeats 2000000 in
theorem srun_v {s : ByteArray} {n : Nat} (h : runL (byL s) = n) (hs : s.size ≤ 200000) (w : World) :
    Calls Try.prog 16 #[.string s] w fun e w' => e = .returned (.int .i64 n) ∧ Below w.heap.size w w' := by
  have H := Lib.hid h
  clear h
  go_enter Try.func16, Try.ntmps16
  go_wp2
  go_loopw [3, 4] (fun v i wr => ∃ k : Nat, k ≤ s.size ∧ i = .int .i64 ((k : Int) + 1) ∧ v = .int .i64 (runL ((byL s).take k)) ∧ Hid (Below w.heap.size w wr)) (fun _ i _ => s.size + 1 - (intOf i).toNat)
  case atStart => exact ⟨0, Nat.zero_le _, rfl, rfl, Lib.hid (Below.refl _ _)⟩
  case round =>
    obtain ⟨k, hk, rfl, rfl, HB⟩ := hrel
    have hrl : runL ((byL s).take k) ≤ 200000 := by have := run_le ((byL s).take k); rw [List.length_take, byL_len] at this; omega
    by_cases hlt : k < s.size
    · have hcut : ∀ w, (Instr.sliceAt 9 (.string s) none (some (.int .i64 ((k : Int) + 1))) none).run Try.prog w = .ok (.string (s.extract 0 (k + 1))) w := fun w => cut_ahead (k := k + 1) (by omega) w
      have hcb := conv_bytes (s.extract 0 (k + 1)) wr
      have hsz : (s.extract 0 (k + 1)).size = k + 1 := by rw [sub_size _ _ _ (by omega)]; omega
      have hby : byL (s.extract 0 (k + 1)) = (byL s).take (k + 1) := by rw [byL_extract, List.drop_zero]
      have HSL := Lib.hid (bytesWorld_slice wr 5 (s.extract 0 (k + 1)) (grownCap wr (s.extract 0 (k + 1)).size 0 5) (by omega))
      have HBW := Lib.hid (bytesWorld_below wr 5 (s.extract 0 (k + 1)))
      rw [hby] at HSL
      have HN : Hid (runL ((byL s).take (k + 1)) = max (runL ((byL s).take k)) (tl ((byL s).take (k + 1))).2) := Lib.hid (by rw [byL_take hlt, runL_snoc])
      generalize ht : (tl ((byL s).take (k + 1))).2 = n at HN
      have HT := Lib.hid ht
      have hn : n ≤ 200001 := by
        have := run_le ((byL s).take (k + 1))
        rw [HN.out, List.length_take, byL_len] at this
        omega
      generalize runL ((byL s).take k) = r at hrl HN
      generalize s.extract 0 (k + 1) = p at hcut hcb HSL HBW
      clear ht hsz hby
      go_wp2_with fail
      refine (stail_v HT.out _ HSL.out).mono ?_
      rintro e w2 ⟨rfl, m, rfl⟩
      have HB2 := Lib.hid (fbelow_t HB.out (HBW.out.trans (show Below wr.heap.size (Lib.bytesWorld wr 5 p) ((Lib.bytesWorld wr 5 p).drewN m) from ⟨rfl, rfl, rfl, Nat.le_refl _, fun _ _ => rfl⟩)))
      go_wp2
      go_roundw
      case rel => exact ⟨k + 1, by omega, by go_num, by rw [HN.out]; congr 1; split <;> omega, HB2⟩
      case measure => simp [intOf]; omega
    · obtain rfl : k = s.size := by omega
      have HQ : Hid (runL ((byL s).take s.size) = n) := Lib.hid (by rw [← H.out, ← byL_len s, List.take_length])
      go_wp2
      go_ret
      exact ⟨fret_int (by rw [HQ.out]), HB.out⟩

end Go.Proofs.Ytpapdonodgedoaa
