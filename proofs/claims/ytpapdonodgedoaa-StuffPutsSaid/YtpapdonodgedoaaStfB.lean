/- Stuff: contracts of the document's Turn, Stuff, Run, Unstuff. -/
import Derived.Test.YtpapdonodgedoaaStfA
namespace Go.Proofs.Ytpapdonodgedoaa
open Go.RowKit
set_option linter.unusedVariables false

theorem isBy_bits {L : List Int} (h : bitsB L = true) : isBy L := fun x hx => by
  have := (isBit_iff x).1 ((List.all_eq_true.1 h) x hx)
  omega
theorem fret_str {a b : ByteArray} (h : a = b) : Ending.returned (.string a) = .returned (.string b) := by rw [h]

set_option maxHeartbeats 2000000 in
theorem sturn_v {s t : ByteArray} (h : (if bitsB (byL s) then strOfNums ((byL s).map oth) else ByteArray.mk #[]) = t) (hs : s.size ≤ 100000) (w : World) :
    Calls Try.prog 14 #[.string s] w fun e w' => e = .returned (.string t) ∧ Below w.heap.size w w' := by
  obtain ⟨i0, hi, hz0, hz1, hz2⟩ := info_parts info_u8
  have H := Lib.hid h
  clear h
  cases hb : bitsB (byL s)
  · have HB := Lib.hid hb
    have HQ : Hid (ByteArray.mk #[] = t) := Lib.hid (by rw [← H.out, hb]; rfl)
    clear hb
    go_enter Try.func14, Try.ntmps14
    go_wp2_with fail
    refine (sright_v HB.out (by unfold maxLen; omega) _).mono ?_
    rintro e w1 ⟨rfl, rfl⟩
    go_wp2
    go_ret
    exact ⟨fret_str HQ.out, Below.refl _ _⟩
  · have HB := Lib.hid hb
    have HQ : Hid (strOfNums ((byL s).map oth) = t) := Lib.hid (by rw [← H.out, hb]; rfl)
    clear hb H
    go_enter Try.func14, Try.ntmps14
    go_wp2_with fail
    refine (sright_v HB.out (by unfold maxLen; omega) _).mono ?_
    rintro e w1 ⟨rfl, rfl⟩
    go_wp2_with fail
    go_loopw [3, 4] (fun v i wr => ∃ k : Nat, k ≤ s.size ∧ i = .int .i64 k ∧ Hid (gathB w.heap.size w v (((byL s).take k).map oth) wr)) (fun _ i _ => s.size - (intOf i).toNat)
    case atStart => exact ⟨0, Nat.zero_le _, rfl, Lib.hid (gathB.start w)⟩
    case round =>
      obtain ⟨k, hk, rfl, HG⟩ := hrel
      by_cases hlt : k < s.size
      · have hix : ∀ w, (Instr.index 9 (.string s) (.int .i64 k)).run Try.prog w = .ok (.int .u8 (bt s k)) w := fun w => index_bt Try.underlying9 hlt w
        have HBK : Hid (isBit (bt s k) = true) := Lib.hid (by
          have := List.all_eq_true.1 HB.out (bt s k) (by rw [← byL_get hlt]; exact List.getElem_mem _)
          exact this)
        have HN : Hid (((byL s).take (k + 1)).map oth = ((byL s).take k).map oth ++ [oth (bt s k)]) := Lib.hid (by rw [byL_take hlt, List.map_append]; rfl)
        have HL : Hid ((((byL s).take k).map oth).length ≤ 100000) := Lib.hid (by rw [List.length_map, List.length_take, byL_len]; omega)
        generalize ((byL s).take k).map oth = L at HG HN HL
        generalize bt s k = x at hix HBK HN
        go_wp2_with fail
        refine (sother_v HBK.out _).mono ?_
        rintro e w1 ⟨rfl, rfl⟩
        generalize oth x = y at HN
        have C2 : Hid (∀ u ∈ [Value.int .u8 y], u.oneCell' = true) := Lib.hid (fun u hu => by simp at hu; subst hu; rfl)
        have C3 : Hid (L.length + 1 ≤ maxLen) := Lib.hid (by have := HL.out; unfold maxLen; omega)
        have C4 : Hid ((L.length + 1) * 1 ≤ 140737488355328) := Lib.hid (by have := HL.out; omega)
        obtain ⟨wo, rfl⟩ : ∃ wo : World, wo = wr := ⟨_, rfl⟩
        have C5 : Hid (w.heap.size ≤ (wo.alloc (.cells #[.int .u8 y] 5)).heap.size) := Lib.hid (by have := HG.out.2.2; simp; omega)
        go_wp2_with (at_builtin; refine wpList_append_own _ rfl _ _ 34 rfl w.heap.size 5 i0 (.int .u8 0) 1 1 Try.underlying34 hi hz0 hz1 hz2 rfl (by decide) _ L.length (byteRow L) rfl (HG.out.1.alloc _) ⟨wo.heap.size, 0, none⟩ 1 1 [.int .u8 y] rfl rfl (news_byte _ _ _) C2.out C3.out C4.out C5.out ?_)
        intro v' w1 hown hgr _
        have hst := Lib.hid (HG.out.step hown hgr)
        clear hown hgr
        go_wp2
        go_roundw
        case rel => exact ⟨k + 1, by omega, by go_num, by rw [HN.out]; exact hst⟩
        case measure => simp [intOf]; omega
      · obtain rfl : k = s.size := by omega
        have HG2 : Hid (gathB w.heap.size w u3 ((byL s).map oth) wr) := Lib.hid (by have := HG.out; rwa [← byL_len s, List.take_length] at this)
        have hcv := conv_own (P := Try.prog) wr 34 9 5 Try.underlying34 Try.underlying5 Try.underlying9 HG2.out.1
        rw [HQ.out] at hcv
        go_wp2
        go_ret
        exact ⟨rfl, HG2.out.2.1⟩

end Go.Proofs.Ytpapdonodgedoaa
