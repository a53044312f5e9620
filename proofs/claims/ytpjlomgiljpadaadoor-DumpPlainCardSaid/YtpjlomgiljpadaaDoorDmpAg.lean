/- Dump: the statement's own 'plain'; the walk of DumpPlain. -/
import Derived.Test.YtpjlomgiljpadaaDoorDmpAf
namespace Go.Proofs.YtpjlomgiljpadaaDoor
open Go.RowKit
set_option linter.unusedVariables false

def plainS (s : ByteArray) : ByteArray := strOfNums (plainL (byL s))
theorem plainL_snoc (L : List Int) (c : Int) : plainL (L ++ [c]) = plainL L ++ (if up c = 46 then [] else [up c]) := by
  rw [plainL_app]
  congr 1
  unfold plainL
  simp only [List.map_cons, List.map_nil]
  split
  · rename_i h; rw [h]; rfl
  · rename_i h; simp [h]
theorem plainL_len (L : List Int) : (plainL L).length ≤ L.length := by
  unfold plainL
  have := List.length_filter_le (fun c => decide (c ≠ 46)) (L.map up)
  rw [List.length_map] at this
  exact this
def plRel (B : Nat) (s : ByteArray) (w : World) (v i : Value) (wr : World) : Prop :=
  ∃ k : Nat, k ≤ s.size ∧ i = .int .i64 k ∧ Below B w wr ∧ B ≤ wr.heap.size ∧ wr.ownsRow B 5 1 v (plainL ((byL s).take k)).length ((plainL ((byL s).take k)).map (Value.int .u8))
theorem pl_skip {B : Nat} {s : ByteArray} {w wr : World} {k : Nat} {v : Value} (hk : k < s.size) (h46 : bt s k = 46) (hB : Below B w wr) (hsz : B ≤ wr.heap.size) (hown : wr.ownsRow B 5 1 v (plainL ((byL s).take k)).length ((plainL ((byL s).take k)).map (Value.int .u8))) :
    plRel B s w v (.int .i64 ((k : Int) + 1)) wr := by
  refine ⟨k + 1, by omega, by simp, hB, hsz, ?_⟩
  rw [byL_take hk, plainL_snoc, h46, if_pos (by decide), List.append_nil]
  exact hown
theorem pl_step {B : Nat} {s : ByteArray} {w wr w1 : World} {k : Nat} {u v : Value} {o : Obj} {c : Int} (hk : k < s.size) (hc : up (bt s k) = c) (h46 : c ≠ 46) (hB : Below B w wr) (hsz : B ≤ wr.heap.size)
    (hown : wr.ownsRow B 5 1 u (plainL ((byL s).take k)).length ((plainL ((byL s).take k)).map (Value.int .u8)))
    (hown1 : w1.ownsRow B 5 1 v ((plainL ((byL s).take k)).length + 1) ((plainL ((byL s).take k)).map (Value.int .u8) ++ [.int .u8 c]))
    (hgrow : (wr.alloc o).grownBy w1 u.ownBlock) : plRel B s w v (.int .i64 ((k : Int) + 1)) w1 := by
  have hsz1 : wr.heap.size + 1 ≤ w1.heap.size := by have := hgrow.size; simpa using this
  refine ⟨k + 1, by omega, by simp, (hB.alloc hsz o).grown hgrow (by simp; omega) (fun j hj => (hown.lt j hj).1), by omega, ?_⟩
  rw [byL_take hk, plainL_snoc, hc, if_neg h46, List.length_append, List.map_append]
  exact hown1

set_option maxHeartbeats 4000000 in
theorem plain_v {s X : ByteArray} (hX : plainS s = X) (hs : s.size ≤ 1000000) (w : World) :
    Calls Tryd.prog 14 #[.string s] w fun e w' => e = .returned (.string X) ∧ Below w.heap.size w w' := by
  have HX := Lib.hid hX
  obtain ⟨i0, hi, hz0, hz1, hz2⟩ := info_parts info8
  clear hX
  go_enter Tryd.func14, Tryd.ntmps14
  go_wp2_with fail
  go_loopw [3, 8] (fun v i wr => plRel w.heap.size s w v i wr) (fun _ i _ => s.size - (intOf i).toNat)
  case atStart => exact ⟨0, Nat.zero_le _, rfl, Below.refl _ _, Nat.le_refl _, World.ownsRow_nil _ _ _ _⟩
  case round =>
    obtain ⟨k, hk, rfl, hbw, hsz, hown⟩ := hrel
    by_cases hp : k < s.size
    · have hidx : ∀ w, (Instr.index 9 (.string s) (.int .i64 k)).run Tryd.prog w = .ok (.int .u8 (bt s k)) w := index_bt Tryd.underlying9 hp
      have hb := bt_lt s k
      have hb0 := hb.1
      have hb1 := hb.2
      have hpl : (plainL ((byL s).take k)).length ≤ 1000000 := by
        have := plainL_len ((byL s).take k)
        rw [List.length_take, byL_len] at this; omega
      have HPL := Lib.hid hpl
      have HM : Hid (s.size - (intOf (.int .i64 ((k : Int) + 1))).toNat < s.size - (intOf (.int .i64 (k : Int))).toNat) := Lib.hid (by simp [intOf]; omega)
      clear hb hpl
      by_cases h46 : bt s k = 46
      · have HR := Lib.hid (pl_skip hp h46 hbw hsz hown)
        rw [h46] at hidx
        clear h46 hown hbw hb0 hb1
        go_wp2_with fail
        go_roundw
        case rel => exact HR.out
        case measure => exact HM.out
      · by_cases hlow : 97 ≤ bt s k ∧ bt s k ≤ 122
        · have hup : up (bt s k) = bt s k - 32 := by unfold up; rw [if_pos hlow]
          have HR := Lib.hid (fun v w1 o => pl_step (v := v) (w1 := w1) (o := o) hp hup (by omega) hbw hsz hown)
          have HO := Lib.hid hown
          have d1 : decide (97 ≤ bt s k) = true := decide_eq_true hlow.1
          have d2 : decide (bt s k ≤ 122) = true := decide_eq_true hlow.2
          have e1 : (bt s k - 32 == 46) = false := by simp; omega
          have e2 : (bt s k - 32 != 46) = true := by simp; omega
          have l1 := hlow.1
          have l2 := hlow.2
          clear h46 hown hup hlow
          go_wp2_with (at_builtin; refine wpList_append_own _ rfl _ _ 56 rfl w.heap.size 5 i0 (.int .u8 0) 1 1 Tryd.underlying56 hi hz0 hz1 hz2 rfl (by decide) _ (plainL ((byL s).take k)).length _ rfl (HO.out.alloc _) ⟨wr.heap.size, 0, none⟩ 1 1 [.int .u8 (bt s k - 32)] rfl rfl ?c1 ?c2 ?c3 ?c4 ?c5 ?_)
          case c1 => exact news_one _ _ _
          case c2 => intro u hu; simp at hu; subst hu; rfl
          case c3 => have := HPL.out; unfold maxLen; omega
          case c4 => have := HPL.out; omega
          case c5 => simp only [World.size_alloc]; omega
          intro v' w1 hown1 hgrow _
          have hr := Lib.hid (HR.out v' w1 _ hown1 hgrow)
          clear hown1 hgrow
          go_wp2_with fail
          go_roundw
          case rel => exact hr.out
          case measure => exact HM.out
        · have hup : up (bt s k) = bt s k := by unfold up; rw [if_neg hlow]
          have HR := Lib.hid (fun v w1 o => pl_step (v := v) (w1 := w1) (o := o) hp hup h46 hbw hsz hown)
          have HO := Lib.hid hown
          have e1 : (bt s k == 46) = false := by simpa using h46
          have e2 : (bt s k != 46) = true := by simpa using h46
          by_cases h97 : 97 ≤ bt s k
          · have d1 : decide (97 ≤ bt s k) = true := decide_eq_true h97
            have d2 : decide (bt s k ≤ 122) = false := decide_eq_false (fun h => hlow ⟨h97, h⟩)
            clear h46 hown hup hlow h97
            go_wp2_with (at_builtin; refine wpList_append_own _ rfl _ _ 56 rfl w.heap.size 5 i0 (.int .u8 0) 1 1 Tryd.underlying56 hi hz0 hz1 hz2 rfl (by decide) _ (plainL ((byL s).take k)).length _ rfl (HO.out.alloc _) ⟨wr.heap.size, 0, none⟩ 1 1 [.int .u8 (bt s k)] rfl rfl ?c1 ?c2 ?c3 ?c4 ?c5 ?_)
            case c1 => exact news_one _ _ _
            case c2 => intro u hu; simp at hu; subst hu; rfl
            case c3 => have := HPL.out; unfold maxLen; omega
            case c4 => have := HPL.out; omega
            case c5 => simp only [World.size_alloc]; omega
            intro v' w1 hown1 hgrow _
            have hr := Lib.hid (HR.out v' w1 _ hown1 hgrow)
            clear hown1 hgrow
            go_wp2_with fail
            go_roundw
            case rel => exact hr.out
            case measure => exact HM.out
          · have d1 : decide (97 ≤ bt s k) = false := decide_eq_false h97
            clear h46 hown hup hlow h97
            go_wp2_with (at_builtin; refine wpList_append_own _ rfl _ _ 56 rfl w.heap.size 5 i0 (.int .u8 0) 1 1 Tryd.underlying56 hi hz0 hz1 hz2 rfl (by decide) _ (plainL ((byL s).take k)).length _ rfl (HO.out.alloc _) ⟨wr.heap.size, 0, none⟩ 1 1 [.int .u8 (bt s k)] rfl rfl ?c1 ?c2 ?c3 ?c4 ?c5 ?_)
            case c1 => exact news_one _ _ _
            case c2 => intro u hu; simp at hu; subst hu; rfl
            case c3 => have := HPL.out; unfold maxLen; omega
            case c4 => have := HPL.out; omega
            case c5 => simp only [World.size_alloc]; omega
            intro v' w1 hown1 hgrow _
            have hr := Lib.hid (HR.out v' w1 _ hown1 hgrow)
            clear hown1 hgrow
            go_wp2_with fail
            go_roundw
            case rel => exact hr.out
            case measure => exact HM.out
    · obtain rfl : k = s.size := by omega
      have hcv := conv_own (P := Tryd.prog) wr 56 9 5 Tryd.underlying56 Tryd.underlying5 Tryd.underlying9 hown
      rw [List.take_of_length_le (by rw [byL_len]; exact Nat.le_refl _)] at hcv
      have hXX : strOfNums (plainL (byL s)) = X := HX.out
      rw [hXX] at hcv
      clear hown hXX
      go_wp2_with fail
      go_ret
      exact ⟨rfl, hbw⟩

set_option maxHeartbeats 4000000 in
theorem dumpPlain_walk (s : ByteArray) (ws : s.size ≤ maxLen) (w : World) (hT1 : Tabs w) (hT2 : Tab10 w) :
    Calls Tryd.prog 5 #[.string s] w fun e w' => e = .returned (.bool true) ∧ Below w.heap.size w w' := by
  have HT : Hid (TabD w) := Lib.hid ⟨hT1, hT2⟩
  clear hT1 hT2
  by_cases hl : (300 : Int) < s.size
  · go_enter Tryd.func5, Tryd.ntmps5
    go_wp2_with fail
    refine (dalive_any _ HT.out).mono ?_
    rintro e w1 ⟨rfl, hb1⟩
    go_wp2
    go_ret
    exact ⟨rfl, hb1⟩
  have HS : Hid (s.size ≤ 1000000) := Lib.hid (by omega)
  have hl2 : (s.size : Int) ≤ 300 := by omega
  clear hl ws
  cases hr : readO (byL s)
  · have HR := Lib.hid hr
    clear hr
    go_enter Tryd.func5, Tryd.ntmps5
    go_wp2_with fail
    refine (dread_f HS.out HR.out _ HT.out.1).mono ?_
    rintro e w1 ⟨rfl, hb1⟩
    have HB1 := Lib.hid hb1
    have T1 := Lib.hid (HT.out.below hb1)
    clear hb1
    go_wp2_with fail
    refine (dalive_any _ (T1.out.alloc _)).mono ?_
    rintro e w4 ⟨rfl, hb4⟩
    go_wp2
    go_ret
    exact ⟨rfl, fbelow_t (Below.allocL HB1.out _) hb4⟩
  · rename_i f
    have HR := Lib.hid hr
    have HK := Lib.hid (readO_ok hr)
    obtain ⟨X, hX⟩ : ∃ X, tellS f = X := ⟨_, rfl⟩
    have HX := Lib.hid hX
    have HP : Hid (plainS s = X) := Lib.hid (by unfold plainS; rw [← read_tell hr, ← hX]; rfl)
    have es := seq_self X
    clear hr hX
    go_enter Tryd.func5, Tryd.ntmps5
    go_wp2_with fail
    refine (dread_t HS.out HR.out _ HT.out.1).mono ?_
    rintro e w1 ⟨rfl, hb1⟩
    have HB1 := Lib.hid hb1
    have T1 := Lib.hid (HT.out.below hb1)
    clear hb1
    go_wp2_with fail
    refine (dtell_sv HK.out HX.out _ (T1.out.alloc _).1).mono ?_
    rintro e w2 ⟨rfl, hb2⟩
    have HB2 := Lib.hid (fbelow_t (Below.allocL HB1.out _) hb2)
    have T2 := Lib.hid ((T1.out.alloc _).below hb2)
    clear hb2
    go_wp2_with fail
    refine (plain_v HP.out HS.out _).mono ?_
    rintro e w3 ⟨rfl, hb3⟩
    have HB3 := Lib.hid (fbelow_t HB2.out hb3)
    have T3 := Lib.hid (T2.out.below hb3)
    clear hb3
    go_wp2_with fail
    refine (dalive_any _ T3.out).mono ?_
    rintro e w4 ⟨rfl, hb4⟩
    go_wp2
    go_ret
    exact ⟨rfl, fbelow_t HB3.out hb4⟩

end Go.Proofs.YtpjlomgiljpadaaDoor
