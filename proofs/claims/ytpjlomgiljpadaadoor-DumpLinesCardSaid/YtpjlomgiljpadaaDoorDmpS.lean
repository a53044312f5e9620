/- Dump: contracts of the document's data. -/
import Derived.Test.YtpjlomgiljpadaaDoorDmpT
namespace Go.Proofs.YtpjlomgiljpadaaDoor
open Go.RowKit
set_option linter.unusedVariables false

/-- an empty text and one that is none, as the walk asks for it -/
theorem empty_f {X : ByteArray} (h : 0 < X.size) : X.toList ≠ [] ∧ X.toList.isEmpty = false ∧ (X.toList == []) = false := by
  have e : X.toList ≠ [] := by
    intro hc
    rw [ByteArray.toList_eq] at hc
    have : X.data.toList.length = X.size := by simp
    rw [hc] at this; simp at this; omega
  exact ⟨e, by simpa using e, by simpa using e⟩

/-- what is left to be read at a place: behind no byte, or behind some -/
def datW (o L : List Int) : Option (List Int) := if o = [] then datL L else datC L
theorem datL_cons (c : Int) (t : List Int) : datL (c :: t) = dat1 (c :: t) := by unfold datL; rw [if_neg (by simp)]
def rdRel (s : ByteArray) (k r : Nat) (X : ByteArray) : Prop :=
  ∃ o : List Int, strOfNums o = X ∧ isBy o ∧ o.length = r ∧ 2 * r ≤ k ∧ k ≤ s.size ∧ (o = [] → k = 0) ∧ (datW o ((byL s).drop k)).map (o ++ ·) = datL (byL s)
theorem rdRel_start (s : ByteArray) : rdRel s 0 0 (ByteArray.mk #[]) := ⟨[], rfl, isBy_nil, rfl, by omega, by omega, fun _ => rfl, by simp [datW]⟩
theorem rdRel_end {s X : ByteArray} {k r : Nat} (h : rdRel s k r X) (hk : ¬ k < s.size) : datL (byL s) = some (byL X) := by
  obtain ⟨o, rfl, hb, hr, h2, hks, hn, he⟩ := h
  rw [List.drop_eq_nil_of_le (by rw [byL_len]; omega)] at he
  rw [← he, byL_nums hb]
  unfold datW
  split
  · rename_i e; subst e; rfl
  · simp [datC]
theorem rdRel_size {s X : ByteArray} {k r : Nat} (h : rdRel s k r X) : X.size = r ∧ 2 * r ≤ k ∧ k ≤ s.size := by
  obtain ⟨o, rfl, _, hr, h2, hks, _⟩ := h
  exact ⟨by rw [strOfNums_size, hr], h2, hks⟩
theorem zero_size {X : ByteArray} (h : X.size = 0) : X = ByteArray.mk #[] := empty_of h
/-- behind a dot, or without one: the next two -/
theorem rdRel_dat1 {s X : ByteArray} {k r : Nat} (h : rdRel s k r X) (hk : k < s.size) :
    ∃ o, strOfNums o = X ∧ isBy o ∧ o.length = r ∧ 2 * r ≤ k ∧ (dat1 ((byL s).drop (if 0 < r ∧ bt s k = 46 then k + 1 else k))).map (o ++ ·) = datL (byL s) := by
  obtain ⟨o, rfl, hb, hr, h2, hks, hn, he⟩ := h
  refine ⟨o, rfl, hb, hr, h2, ?_⟩
  rw [← he]
  unfold datW
  by_cases ho : o = []
  · have : r = 0 := by rw [← hr, ho]; rfl
    rw [if_neg (by omega), if_pos ho, byL_drop hk, datL_cons]
  · have hr0 : 0 < r := by rw [← hr]; exact List.length_pos_iff.2 ho
    rw [if_neg ho, byL_drop hk]
    by_cases h46 : bt s k = 46
    · rw [if_pos ⟨hr0, h46⟩]; simp only [datC]; rw [if_pos h46]
    · rw [if_neg (by omega), byL_drop hk]; simp only [datC]; rw [if_neg h46]
theorem rdRel_short {s : ByteArray} {o : List Int} {j : Nat} (he : (dat1 ((byL s).drop j)).map (o ++ ·) = datL (byL s)) (h : ¬ j + 1 < s.size) : datL (byL s) = none := by
  rw [← he, dat1_no (by rw [List.length_drop, byL_len]; omega)]; rfl
theorem rdRel_two {s : ByteArray} {o : List Int} {j : Nat} (he : (dat1 ((byL s).drop j)).map (o ++ ·) = datL (byL s)) (h : j + 1 < s.size) :
    (if dig (bt s j) < 16 ∧ dig (bt s (j + 1)) < 16 then (datC ((byL s).drop (j + 2))).map (fun l => (16 * dig (bt s j) + dig (bt s (j + 1))) :: l) else none).map (o ++ ·) = datL (byL s) := by
  rw [← he, byL_drop (show j < s.size by omega), byL_drop h, dat1_two]
theorem rdRel_bad {s : ByteArray} {o : List Int} {j : Nat} (he : (dat1 ((byL s).drop j)).map (o ++ ·) = datL (byL s)) (h : j + 1 < s.size) (hb : ¬ (dig (bt s j) < 16 ∧ dig (bt s (j + 1)) < 16)) : datL (byL s) = none := by
  rw [← rdRel_two he h, if_neg hb]; rfl
theorem rdRel_next {s X : ByteArray} {o : List Int} {j r : Nat} (he : (dat1 ((byL s).drop j)).map (o ++ ·) = datL (byL s)) (h : j + 1 < s.size) (h1 : dig (bt s j) < 16) (h2 : dig (bt s (j + 1)) < 16)
    (hX : strOfNums o = X) (hb : isBy o) (hr : o.length = r) (hrj : 2 * r ≤ j) : rdRel s (j + 2) (r + 1) (X ++ strOfNums [16 * dig (bt s j) + dig (bt s (j + 1))]) := by
  have d1 := dig_nn (bt s j)
  have d2 := dig_nn (bt s (j + 1))
  refine ⟨o ++ [16 * dig (bt s j) + dig (bt s (j + 1))], by rw [nums_app, hX], isBy_app hb (isBy_cons (by omega) isBy_nil), by simp [hr], by omega, by omega, fun hc => by simp at hc, ?_⟩
  rw [← rdRel_two he h, if_pos ⟨h1, h2⟩]
  unfold datW
  rw [if_neg (by simp), Option.map_map]
  congr 1
  funext l
  simp

def rdPost (s : ByteArray) (w : World) (e : Ending) (w' : World) : Prop :=
  (match datL (byL s) with | some d => e = .returned (.tuple #[.string (strOfNums d), .bool true]) | none => e = .returned (.tuple #[.string (ByteArray.mk #[]), .bool false])) ∧ Below w.heap.size w w'
theorem rdPost_no {s : ByteArray} {w w' : World} (h : datL (byL s) = none) (hb : Below w.heap.size w w') : rdPost s w (.returned (.tuple #[.string (ByteArray.mk #[]), .bool false])) w' := by
  unfold rdPost; rw [h]; exact ⟨rfl, hb⟩
theorem rdPost_yes {s X : ByteArray} {w w' : World} (h : datL (byL s) = some (byL X)) (hb : Below w.heap.size w w') : rdPost s w (.returned (.tuple #[.string X, .bool true])) w' := by
  unfold rdPost; rw [h]; exact ⟨by simp only [nums_byL], hb⟩
theorem rdigit_v {c d : Int} (h : dig c = d) (h0 : 0 ≤ c) (h1 : c < 256) (w : World) :
    Calls Tryd.prog 33 #[.int .u8 c] w fun e w' => e = .returned (.int .i64 d) ∧ w = w' := by rw [← h]; exact rdigit_any c w h0 (by omega)

set_option maxHeartbeats 4000000 in
set_option maxRecDepth 100000 in
theorem rdata_any (s : ByteArray) (hs : s.size ≤ 100000000) (w : World) :
    Calls Tryd.prog 34 #[.string s] w (rdPost s w) := by
  go_enter Tryd.func34, Tryd.ntmps34
  go_wp2_with fail
  go_loopw [4, 5, 6] (fun out i rd wr => ∃ (k r : Nat) (X : ByteArray), out = .string X ∧ i = .int .i64 k ∧ rd = .int .i64 r ∧ Hid (rdRel s k r X) ∧ Below w.heap.size w wr) (fun _ i _ _ => s.size - (intOf i).toNat)
  case atStart => exact ⟨0, 0, _, rfl, rfl, rfl, Lib.hid (rdRel_start s), Below.refl _ _⟩
  case round =>
    obtain ⟨k, r, X, rfl, rfl, rfl, HR, hbw⟩ := hrel
    have HBW := Lib.hid hbw
    clear hbw
    obtain ⟨hXs, hrk, hks⟩ := rdRel_size HR.out
    have hrs : (r : Int) ≤ (s.size : Int) := by omega
    by_cases hlt : k < s.size
    · have hlt' : (k : Int) < (s.size : Int) := by omega
      obtain ⟨o, hoX, hob, hor, hork, hod⟩ := rdRel_dat1 HR.out hlt
      have HXs := Lib.hid hXs
      have HXs := Lib.hid hXs
      have HXs := Lib.hid hXs
      have HXs := Lib.hid hXs
      have HXs := Lib.hid hXs
      by_cases hr0 : r = 0
      · subst hr0
        have hXe := zero_size hXs
        subst hXe
        rw [if_neg (by omega)] at hod
        have HOD := Lib.hid hod
        have HX := Lib.hid hoX
        have HOR := Lib.hid hor
        have HRK := Lib.hid hork
        have hb1 := bt_lt s (k)
        have hb2 := bt_lt s (k + 1)
        clear hod hoX hor hXs hork
        by_cases hj : k + 1 < s.size
        · have hi1 : ∀ w, (Instr.index 9 (.string s) (.int .i64 ((k : Int)))).run Tryd.prog w = .ok (.int .u8 (bt s (k))) w := index_bt (k := k) Tryd.underlying9 (by omega)
          have hi2 : ∀ w, (Instr.index 9 (.string s) (.int .i64 ((k : Int) + 1))).run Tryd.prog w = .ok (.int .u8 (bt s (k + 1))) w := index_bt (k := k + 1) Tryd.underlying9 hj
          have hj' : ¬ (s.size : Int) - 2 < (k : Int) := by omega
          have hj2 : decide ((s.size : Int) - 2 < (k : Int)) = false := decide_eq_false hj'
          obtain ⟨d1, hd1⟩ : ∃ d, dig (bt s (k)) = d := ⟨_, rfl⟩
          obtain ⟨d2, hd2⟩ : ∃ d, dig (bt s (k + 1)) = d := ⟨_, rfl⟩
          have hd1b := dig_bd (bt s (k))
          have hd2b := dig_bd (bt s (k + 1))
          rw [hd1] at hd1b
          rw [hd2] at hd2b
          have HD1 := Lib.hid hd1
          have HD2 := Lib.hid hd2
          clear hd1 hd2
          by_cases h1 : 15 < d1
          · have HN : Hid (datL (byL s) = none) := Lib.hid (rdRel_bad HOD.out hj (by rw [HD1.out]; omega))
            have h1' : decide (15 < d1) = true := decide_eq_true h1
            clear h1 hj'
            go_wp2_with fail
            refine (rdigit_v HD1.out hb1.1 hb1.2 _).mono ?_
            rintro e w1 ⟨rfl, rfl⟩
            go_wp2_with fail
            go_ret2
            exact rdPost_no HN.out HBW.out
          · have h1' : decide (15 < d1) = false := decide_eq_false h1
            by_cases h2 : 15 < d2
            · have HN : Hid (datL (byL s) = none) := Lib.hid (rdRel_bad HOD.out hj (by rw [HD2.out]; omega))
              have h2' : decide (15 < d2) = true := decide_eq_true h2
              clear h1 h2 hj'
              go_wp2_with fail
              refine (rdigit_v HD1.out hb1.1 hb1.2 _).mono ?_
              rintro e w1 ⟨rfl, rfl⟩
              go_wp2_with fail
              refine (rdigit_v HD2.out hb2.1 hb2.2 _).mono ?_
              rintro e w1 ⟨rfl, rfl⟩
              go_wp2_with fail
              go_ret2
              exact rdPost_no HN.out HBW.out
            · have h2' : decide (15 < d2) = false := decide_eq_false h2
              have HNX := Lib.hid (rdRel_next HOD.out hj (by rw [HD1.out]; omega) (by rw [HD2.out]; omega) HX.out hob HOR.out (by have := HRK.out; omega))
              rw [HD1.out, HD2.out] at HNX
              have k1 : IntKind.i64.wrap (16 * d1) = 16 * d1 := IntWalk.i64_in _ (by omega)
              have k2 : IntKind.i64.wrap (16 * d1 + d2) = 16 * d1 + d2 := IntWalk.i64_in _ (by omega)
              have k3 : IntKind.i64.wrap ((k : Int) + 1) = (k : Int) + 1 := by rw [IntWalk.i64_in _ (by omega)]; try omega
              have k4 : IntKind.u8.wrap (16 * d1 + d2) = 16 * d1 + d2 := by rw [IntKind.wrap_u8]; omega
              have q1 : ¬ 9223372036854775807 < (ByteArray.mk #[]).size + (strOfNums [16 * d1 + d2]).size := by rw [strOfNums_size, HXs.out]; show ¬ _ < _ + 1; omega
              have hm : s.size - (intOf (.int .i64 ((k : Int) + 2))).toNat < s.size - (intOf (.int .i64 (k : Int))).toNat := by simp [intOf]; omega
              have HM := Lib.hid hm
              clear hm h1 h2 hj'
              go_wp2_with fail
              refine (rdigit_v HD1.out hb1.1 hb1.2 _).mono ?_
              rintro e w1 ⟨rfl, rfl⟩
              go_wp2_with fail
              refine (rdigit_v HD2.out hb2.1 hb2.2 _).mono ?_
              rintro e w1 ⟨rfl, rfl⟩
              go_wp2_with fail
              refine wp_region_sec 16 [62] (fun _ v w' => isBytes 5 [16 * d1 + d2] v w') (fun _ _ _ _ h hb => isBytes_later h hb) (by kernel_rfl) (by kernel_rfl) (by kernel_rfl) (by kernel_rfl) (by kernel_rfl) ?_
              simp only [List.take_succ_cons, List.take_zero, List.drop_succ_cons, List.drop_zero]
              refine sec_plain (by rfl) (by rfl) (by rfl) (by rfl) ?_
              intro K hK
              go_big_quiet_op
              go_big_quiet_on
              refine sec_plain (by rfl) (by rfl) (by rfl) (by rfl) ?_
              intro K hK
              go_big_quiet_op
              go_big_quiet_on
              refine sec_plain (by rfl) (by rfl) (by rfl) (by rfl) ?_
              intro K hK
              go_big_quiet_op
              go_big_quiet_on
              refine sec_plain (by rfl) (by rfl) (by rfl) (by rfl) ?_
              intro K hK
              go_big_quiet_op
              go_big_quiet_on
              refine sec_call (v := .int .i64 d1) (by rfl) (by rfl) (by rfl) (by rfl) (by rfl) ?_ ?_
              · intro m K hK
                go_big_quiet_op
                exact ⟨_, fun q => Later.same (rdigit_v HD1.out hb1.1 hb1.2 _), hK⟩
              simp only [Act.put, List.setIfInBounds_toArray, List.set_cons_succ, List.set_cons_zero]
              refine sec_plain (by rfl) (by rfl) (by rfl) (by rfl) ?_
              intro K hK
              go_big_quiet_op
              go_big_quiet_on
              refine sec_plain (by rfl) (by rfl) (by rfl) (by rfl) ?_
              intro K hK
              go_big_quiet_op
              go_big_quiet_on
              refine sec_plain (by rfl) (by rfl) (by rfl) (by rfl) ?_
              intro K hK
              go_big_quiet_op
              go_big_quiet_on
              refine sec_plain (by rfl) (by rfl) (by rfl) (by rfl) ?_
              intro K hK
              go_big_quiet_op
              go_big_quiet_on
              refine sec_plain (by rfl) (by rfl) (by rfl) (by rfl) ?_
              intro K hK
              go_big_quiet_op
              go_big_quiet_on
              refine sec_call (v := .int .i64 d2) (by rfl) (by rfl) (by rfl) (by rfl) (by rfl) ?_ ?_
              · intro m K hK
                go_big_quiet_op
                exact ⟨_, fun q => Later.same (rdigit_v HD2.out hb2.1 hb2.2 _), hK⟩
              simp only [Act.put, List.setIfInBounds_toArray, List.set_cons_succ, List.set_cons_zero]
              refine sec_plain (by rfl) (by rfl) (by rfl) (by rfl) ?_
              intro K hK
              go_big_quiet_op
              go_big_quiet_on
              refine sec_plain (by rfl) (by rfl) (by rfl) (by rfl) ?_
              intro K hK
              go_big_quiet_op
              go_big_quiet_on
              refine sec_new (s := 62) (mk := fun w => .slice (some ⟨w.heap.size, 0, none⟩) 1 1) (ob := fun w => .cells #[.int .u8 (16 * d1 + d2)] 5) (by rfl) (by rfl) (by rfl) (by rfl) (by rfl) (fun _ => by kernel_rfl) (fun w => isBytes_new w 5 [16 * d1 + d2]) ?_
              simp only [Act.put, List.setIfInBounds_toArray, List.set_cons_succ, List.set_cons_zero]
              refine sec_read (v := .string (strOfNums [16 * d1 + d2])) (by rfl) (by rfl) (fun a w hb hl => ?_) ?_
              · have h18 := hl 62 (by decide)
                rw [if_pos (by decide)] at h18
                have := isBytes_string (P := Tryd.prog) Tryd.underlying56 Tryd.underlying5 Tryd.underlying9 h18
                show (do pure (.value (← convert 56 9 (a.tmps.getD 62 undef))) : Sem Next).run Tryd.prog w = _
                rw [Sem.run_bind, this]
                rfl
              simp only [Act.put, List.setIfInBounds_toArray, List.set_cons_succ, List.set_cons_zero]
              refine sec_plain (by rfl) (by rfl) (by rfl) (by rfl) ?_
              intro K hK
              go_big_quiet_op
              go_big_quiet_on
              intro xs m hF
              simp only [secFill, Act.put, List.setIfInBounds_toArray, List.set_cons_succ, List.set_cons_zero]
              generalize xs 62 = v62
              clear hF xs
              have HB2 := Lib.hid (fbelow_t HBW.out m.h)
              clear k1 k2 k3 k4
              go_wp2
              go_roundw
              case rel => exact ⟨k + 2, 0 + 1, _, rfl, by go_num, by go_num, HNX, HB2.out⟩
              case measure => exact HM.out
        · have HN := Lib.hid (rdRel_short HOD.out hj)
          have hj' : (s.size : Int) - 2 < (k : Int) := by omega
          have hj2 : decide ((s.size : Int) - 2 < (k : Int)) = true := decide_eq_true hj'
          clear hj'
          go_wp2_with fail
          go_ret2
          exact rdPost_no HN.out HBW.out
      · obtain ⟨x1, x2, x3⟩ := empty_f (X := X) (by omega)
        have hb0 := bt_lt s k
        have hi0 : ∀ w, (Instr.index 9 (.string s) (.int .i64 k)).run Tryd.prog w = .ok (.int .u8 (bt s k)) w := index_bt Tryd.underlying9 hlt
        by_cases h46 : bt s k = 46
        · rw [if_pos ⟨by omega, h46⟩] at hod
          have h46' : (bt s k == 46) = true := by simpa using h46
          clear h46 hb0
          have HOD := Lib.hid hod
          have HX := Lib.hid hoX
          have HOR := Lib.hid hor
          have HRK := Lib.hid hork
          have hb1 := bt_lt s (k + 1)
          have hb2 := bt_lt s (k + 1 + 1)
          clear hod hoX hor hXs hork
          by_cases hj : k + 1 + 1 < s.size
          · have hi1 : ∀ w, (Instr.index 9 (.string s) (.int .i64 ((k : Int) + 1))).run Tryd.prog w = .ok (.int .u8 (bt s (k + 1))) w := index_bt (k := k + 1) Tryd.underlying9 (by omega)
            have hi2 : ∀ w, (Instr.index 9 (.string s) (.int .i64 ((k : Int) + 1 + 1))).run Tryd.prog w = .ok (.int .u8 (bt s (k + 1 + 1))) w := index_bt (k := k + 1 + 1) Tryd.underlying9 hj
            have hj' : ¬ (s.size : Int) - 2 < (k : Int) + 1 := by omega
            have hj2 : decide ((s.size : Int) - 2 < (k : Int) + 1) = false := decide_eq_false hj'
            obtain ⟨d1, hd1⟩ : ∃ d, dig (bt s (k + 1)) = d := ⟨_, rfl⟩
            obtain ⟨d2, hd2⟩ : ∃ d, dig (bt s (k + 1 + 1)) = d := ⟨_, rfl⟩
            have hd1b := dig_bd (bt s (k + 1))
            have hd2b := dig_bd (bt s (k + 1 + 1))
            rw [hd1] at hd1b
            rw [hd2] at hd2b
            have HD1 := Lib.hid hd1
            have HD2 := Lib.hid hd2
            clear hd1 hd2
            by_cases h1 : 15 < d1
            · have HN : Hid (datL (byL s) = none) := Lib.hid (rdRel_bad HOD.out hj (by rw [HD1.out]; omega))
              have h1' : decide (15 < d1) = true := decide_eq_true h1
              clear h1 hj'
              go_wp2_with fail
              refine (rdigit_v HD1.out hb1.1 hb1.2 _).mono ?_
              rintro e w1 ⟨rfl, rfl⟩
              go_wp2_with fail
              go_ret2
              exact rdPost_no HN.out HBW.out
            · have h1' : decide (15 < d1) = false := decide_eq_false h1
              by_cases h2 : 15 < d2
              · have HN : Hid (datL (byL s) = none) := Lib.hid (rdRel_bad HOD.out hj (by rw [HD2.out]; omega))
                have h2' : decide (15 < d2) = true := decide_eq_true h2
                clear h1 h2 hj'
                go_wp2_with fail
                refine (rdigit_v HD1.out hb1.1 hb1.2 _).mono ?_
                rintro e w1 ⟨rfl, rfl⟩
                go_wp2_with fail
                refine (rdigit_v HD2.out hb2.1 hb2.2 _).mono ?_
                rintro e w1 ⟨rfl, rfl⟩
                go_wp2_with fail
                go_ret2
                exact rdPost_no HN.out HBW.out
              · have h2' : decide (15 < d2) = false := decide_eq_false h2
                have HNX := Lib.hid (rdRel_next HOD.out hj (by rw [HD1.out]; omega) (by rw [HD2.out]; omega) HX.out hob HOR.out (by have := HRK.out; omega))
                rw [HD1.out, HD2.out] at HNX
                have k1 : IntKind.i64.wrap (16 * d1) = 16 * d1 := IntWalk.i64_in _ (by omega)
                have k2 : IntKind.i64.wrap (16 * d1 + d2) = 16 * d1 + d2 := IntWalk.i64_in _ (by omega)
                have k3 : IntKind.i64.wrap ((k : Int) + 1 + 1) = (k : Int) + 1 + 1 := by rw [IntWalk.i64_in _ (by omega)]; try omega
                have k4 : IntKind.u8.wrap (16 * d1 + d2) = 16 * d1 + d2 := by rw [IntKind.wrap_u8]; omega
                have q1 : ¬ 9223372036854775807 < (X).size + (strOfNums [16 * d1 + d2]).size := by rw [strOfNums_size, HXs.out]; show ¬ _ < _ + 1; omega
                have hm : s.size - (intOf (.int .i64 ((k : Int) + 1 + 2))).toNat < s.size - (intOf (.int .i64 (k : Int))).toNat := by simp [intOf]; omega
                have HM := Lib.hid hm
                clear hm h1 h2 hj'
                go_wp2_with fail
                refine (rdigit_v HD1.out hb1.1 hb1.2 _).mono ?_
                rintro e w1 ⟨rfl, rfl⟩
                go_wp2_with fail
                refine (rdigit_v HD2.out hb2.1 hb2.2 _).mono ?_
                rintro e w1 ⟨rfl, rfl⟩
                go_wp2_with fail
                refine wp_region_sec 16 [62] (fun _ v w' => isBytes 5 [16 * d1 + d2] v w') (fun _ _ _ _ h hb => isBytes_later h hb) (by kernel_rfl) (by kernel_rfl) (by kernel_rfl) (by kernel_rfl) (by kernel_rfl) ?_
                simp only [List.take_succ_cons, List.take_zero, List.drop_succ_cons, List.drop_zero]
                refine sec_plain (by rfl) (by rfl) (by rfl) (by rfl) ?_
                intro K hK
                go_big_quiet_op
                go_big_quiet_on
                refine sec_plain (by rfl) (by rfl) (by rfl) (by rfl) ?_
                intro K hK
                go_big_quiet_op
                go_big_quiet_on
                refine sec_plain (by rfl) (by rfl) (by rfl) (by rfl) ?_
                intro K hK
                go_big_quiet_op
                go_big_quiet_on
                refine sec_plain (by rfl) (by rfl) (by rfl) (by rfl) ?_
                intro K hK
                go_big_quiet_op
                go_big_quiet_on
                refine sec_call (v := .int .i64 d1) (by rfl) (by rfl) (by rfl) (by rfl) (by rfl) ?_ ?_
                · intro m K hK
                  go_big_quiet_op
                  exact ⟨_, fun q => Later.same (rdigit_v HD1.out hb1.1 hb1.2 _), hK⟩
                simp only [Act.put, List.setIfInBounds_toArray, List.set_cons_succ, List.set_cons_zero]
                refine sec_plain (by rfl) (by rfl) (by rfl) (by rfl) ?_
                intro K hK
                go_big_quiet_op
                go_big_quiet_on
                refine sec_plain (by rfl) (by rfl) (by rfl) (by rfl) ?_
                intro K hK
                go_big_quiet_op
                go_big_quiet_on
                refine sec_plain (by rfl) (by rfl) (by rfl) (by rfl) ?_
                intro K hK
                go_big_quiet_op
                go_big_quiet_on
                refine sec_plain (by rfl) (by rfl) (by rfl) (by rfl) ?_
                intro K hK
                go_big_quiet_op
                go_big_quiet_on
                refine sec_plain (by rfl) (by rfl) (by rfl) (by rfl) ?_
                intro K hK
                go_big_quiet_op
                go_big_quiet_on
                refine sec_call (v := .int .i64 d2) (by rfl) (by rfl) (by rfl) (by rfl) (by rfl) ?_ ?_
                · intro m K hK
                  go_big_quiet_op
                  exact ⟨_, fun q => Later.same (rdigit_v HD2.out hb2.1 hb2.2 _), hK⟩
                simp only [Act.put, List.setIfInBounds_toArray, List.set_cons_succ, List.set_cons_zero]
                refine sec_plain (by rfl) (by rfl) (by rfl) (by rfl) ?_
                intro K hK
                go_big_quiet_op
                go_big_quiet_on
                refine sec_plain (by rfl) (by rfl) (by rfl) (by rfl) ?_
                intro K hK
                go_big_quiet_op
                go_big_quiet_on
                refine sec_new (s := 62) (mk := fun w => .slice (some ⟨w.heap.size, 0, none⟩) 1 1) (ob := fun w => .cells #[.int .u8 (16 * d1 + d2)] 5) (by rfl) (by rfl) (by rfl) (by rfl) (by rfl) (fun _ => by kernel_rfl) (fun w => isBytes_new w 5 [16 * d1 + d2]) ?_
                simp only [Act.put, List.setIfInBounds_toArray, List.set_cons_succ, List.set_cons_zero]
                refine sec_read (v := .string (strOfNums [16 * d1 + d2])) (by rfl) (by rfl) (fun a w hb hl => ?_) ?_
                · have h18 := hl 62 (by decide)
                  rw [if_pos (by decide)] at h18
                  have := isBytes_string (P := Tryd.prog) Tryd.underlying56 Tryd.underlying5 Tryd.underlying9 h18
                  show (do pure (.value (← convert 56 9 (a.tmps.getD 62 undef))) : Sem Next).run Tryd.prog w = _
                  rw [Sem.run_bind, this]
                  rfl
                simp only [Act.put, List.setIfInBounds_toArray, List.set_cons_succ, List.set_cons_zero]
                refine sec_plain (by rfl) (by rfl) (by rfl) (by rfl) ?_
                intro K hK
                go_big_quiet_op
                go_big_quiet_on
                intro xs m hF
                simp only [secFill, Act.put, List.setIfInBounds_toArray, List.set_cons_succ, List.set_cons_zero]
                generalize xs 62 = v62
                clear hF xs
                have HB2 := Lib.hid (fbelow_t HBW.out m.h)
                clear k1 k2 k3 k4
                go_wp2
                go_roundw
                case rel => exact ⟨k + 1 + 2, r + 1, _, rfl, by go_num, by go_num, HNX, HB2.out⟩
                case measure => exact HM.out
          · have HN := Lib.hid (rdRel_short HOD.out hj)
            have hj' : (s.size : Int) - 2 < (k : Int) + 1 := by omega
            have hj2 : decide ((s.size : Int) - 2 < (k : Int) + 1) = true := decide_eq_true hj'
            clear hj'
            go_wp2_with fail
            go_ret2
            exact rdPost_no HN.out HBW.out
        · rw [if_neg (by omega)] at hod
          have h46' : (bt s k == 46) = false := by simpa using h46
          clear h46 hb0
          have HOD := Lib.hid hod
          have HX := Lib.hid hoX
          have HOR := Lib.hid hor
          have HRK := Lib.hid hork
          have hb1 := bt_lt s (k)
          have hb2 := bt_lt s (k + 1)
          clear hod hoX hor hXs hork
          by_cases hj : k + 1 < s.size
          · have hi1 : ∀ w, (Instr.index 9 (.string s) (.int .i64 ((k : Int)))).run Tryd.prog w = .ok (.int .u8 (bt s (k))) w := index_bt (k := k) Tryd.underlying9 (by omega)
            have hi2 : ∀ w, (Instr.index 9 (.string s) (.int .i64 ((k : Int) + 1))).run Tryd.prog w = .ok (.int .u8 (bt s (k + 1))) w := index_bt (k := k + 1) Tryd.underlying9 hj
            have hj' : ¬ (s.size : Int) - 2 < (k : Int) := by omega
            have hj2 : decide ((s.size : Int) - 2 < (k : Int)) = false := decide_eq_false hj'
            obtain ⟨d1, hd1⟩ : ∃ d, dig (bt s (k)) = d := ⟨_, rfl⟩
            obtain ⟨d2, hd2⟩ : ∃ d, dig (bt s (k + 1)) = d := ⟨_, rfl⟩
            have hd1b := dig_bd (bt s (k))
            have hd2b := dig_bd (bt s (k + 1))
            rw [hd1] at hd1b
            rw [hd2] at hd2b
            have HD1 := Lib.hid hd1
            have HD2 := Lib.hid hd2
            clear hd1 hd2
            by_cases h1 : 15 < d1
            · have HN : Hid (datL (byL s) = none) := Lib.hid (rdRel_bad HOD.out hj (by rw [HD1.out]; omega))
              have h1' : decide (15 < d1) = true := decide_eq_true h1
              clear h1 hj'
              go_wp2_with fail
              refine (rdigit_v HD1.out hb1.1 hb1.2 _).mono ?_
              rintro e w1 ⟨rfl, rfl⟩
              go_wp2_with fail
              go_ret2
              exact rdPost_no HN.out HBW.out
            · have h1' : decide (15 < d1) = false := decide_eq_false h1
              by_cases h2 : 15 < d2
              · have HN : Hid (datL (byL s) = none) := Lib.hid (rdRel_bad HOD.out hj (by rw [HD2.out]; omega))
                have h2' : decide (15 < d2) = true := decide_eq_true h2
                clear h1 h2 hj'
                go_wp2_with fail
                refine (rdigit_v HD1.out hb1.1 hb1.2 _).mono ?_
                rintro e w1 ⟨rfl, rfl⟩
                go_wp2_with fail
                refine (rdigit_v HD2.out hb2.1 hb2.2 _).mono ?_
                rintro e w1 ⟨rfl, rfl⟩
                go_wp2_with fail
                go_ret2
                exact rdPost_no HN.out HBW.out
              · have h2' : decide (15 < d2) = false := decide_eq_false h2
                have HNX := Lib.hid (rdRel_next HOD.out hj (by rw [HD1.out]; omega) (by rw [HD2.out]; omega) HX.out hob HOR.out (by have := HRK.out; omega))
                rw [HD1.out, HD2.out] at HNX
                have k1 : IntKind.i64.wrap (16 * d1) = 16 * d1 := IntWalk.i64_in _ (by omega)
                have k2 : IntKind.i64.wrap (16 * d1 + d2) = 16 * d1 + d2 := IntWalk.i64_in _ (by omega)
                have k3 : IntKind.i64.wrap ((k : Int) + 1) = (k : Int) + 1 := by rw [IntWalk.i64_in _ (by omega)]; try omega
                have k4 : IntKind.u8.wrap (16 * d1 + d2) = 16 * d1 + d2 := by rw [IntKind.wrap_u8]; omega
                have q1 : ¬ 9223372036854775807 < (X).size + (strOfNums [16 * d1 + d2]).size := by rw [strOfNums_size, HXs.out]; show ¬ _ < _ + 1; omega
                have hm : s.size - (intOf (.int .i64 ((k : Int) + 2))).toNat < s.size - (intOf (.int .i64 (k : Int))).toNat := by simp [intOf]; omega
                have HM := Lib.hid hm
                clear hm h1 h2 hj'
                go_wp2_with fail
                refine (rdigit_v HD1.out hb1.1 hb1.2 _).mono ?_
                rintro e w1 ⟨rfl, rfl⟩
                go_wp2_with fail
                refine (rdigit_v HD2.out hb2.1 hb2.2 _).mono ?_
                rintro e w1 ⟨rfl, rfl⟩
                go_wp2_with fail
                refine wp_region_sec 16 [62] (fun _ v w' => isBytes 5 [16 * d1 + d2] v w') (fun _ _ _ _ h hb => isBytes_later h hb) (by kernel_rfl) (by kernel_rfl) (by kernel_rfl) (by kernel_rfl) (by kernel_rfl) ?_
                simp only [List.take_succ_cons, List.take_zero, List.drop_succ_cons, List.drop_zero]
                refine sec_plain (by rfl) (by rfl) (by rfl) (by rfl) ?_
                intro K hK
                go_big_quiet_op
                go_big_quiet_on
                refine sec_plain (by rfl) (by rfl) (by rfl) (by rfl) ?_
                intro K hK
                go_big_quiet_op
                go_big_quiet_on
                refine sec_plain (by rfl) (by rfl) (by rfl) (by rfl) ?_
                intro K hK
                go_big_quiet_op
                go_big_quiet_on
                refine sec_plain (by rfl) (by rfl) (by rfl) (by rfl) ?_
                intro K hK
                go_big_quiet_op
                go_big_quiet_on
                refine sec_call (v := .int .i64 d1) (by rfl) (by rfl) (by rfl) (by rfl) (by rfl) ?_ ?_
                · intro m K hK
                  go_big_quiet_op
                  exact ⟨_, fun q => Later.same (rdigit_v HD1.out hb1.1 hb1.2 _), hK⟩
                simp only [Act.put, List.setIfInBounds_toArray, List.set_cons_succ, List.set_cons_zero]
                refine sec_plain (by rfl) (by rfl) (by rfl) (by rfl) ?_
                intro K hK
                go_big_quiet_op
                go_big_quiet_on
                refine sec_plain (by rfl) (by rfl) (by rfl) (by rfl) ?_
                intro K hK
                go_big_quiet_op
                go_big_quiet_on
                refine sec_plain (by rfl) (by rfl) (by rfl) (by rfl) ?_
                intro K hK
                go_big_quiet_op
                go_big_quiet_on
                refine sec_plain (by rfl) (by rfl) (by rfl) (by rfl) ?_
                intro K hK
                go_big_quiet_op
                go_big_quiet_on
                refine sec_plain (by rfl) (by rfl) (by rfl) (by rfl) ?_
                intro K hK
                go_big_quiet_op
                go_big_quiet_on
                refine sec_call (v := .int .i64 d2) (by rfl) (by rfl) (by rfl) (by rfl) (by rfl) ?_ ?_
                · intro m K hK
                  go_big_quiet_op
                  exact ⟨_, fun q => Later.same (rdigit_v HD2.out hb2.1 hb2.2 _), hK⟩
                simp only [Act.put, List.setIfInBounds_toArray, List.set_cons_succ, List.set_cons_zero]
                refine sec_plain (by rfl) (by rfl) (by rfl) (by rfl) ?_
                intro K hK
                go_big_quiet_op
                go_big_quiet_on
                refine sec_plain (by rfl) (by rfl) (by rfl) (by rfl) ?_
                intro K hK
                go_big_quiet_op
                go_big_quiet_on
                refine sec_new (s := 62) (mk := fun w => .slice (some ⟨w.heap.size, 0, none⟩) 1 1) (ob := fun w => .cells #[.int .u8 (16 * d1 + d2)] 5) (by rfl) (by rfl) (by rfl) (by rfl) (by rfl) (fun _ => by kernel_rfl) (fun w => isBytes_new w 5 [16 * d1 + d2]) ?_
                simp only [Act.put, List.setIfInBounds_toArray, List.set_cons_succ, List.set_cons_zero]
                refine sec_read (v := .string (strOfNums [16 * d1 + d2])) (by rfl) (by rfl) (fun a w hb hl => ?_) ?_
                · have h18 := hl 62 (by decide)
                  rw [if_pos (by decide)] at h18
                  have := isBytes_string (P := Tryd.prog) Tryd.underlying56 Tryd.underlying5 Tryd.underlying9 h18
                  show (do pure (.value (← convert 56 9 (a.tmps.getD 62 undef))) : Sem Next).run Tryd.prog w = _
                  rw [Sem.run_bind, this]
                  rfl
                simp only [Act.put, List.setIfInBounds_toArray, List.set_cons_succ, List.set_cons_zero]
                refine sec_plain (by rfl) (by rfl) (by rfl) (by rfl) ?_
                intro K hK
                go_big_quiet_op
                go_big_quiet_on
                intro xs m hF
                simp only [secFill, Act.put, List.setIfInBounds_toArray, List.set_cons_succ, List.set_cons_zero]
                generalize xs 62 = v62
                clear hF xs
                have HB2 := Lib.hid (fbelow_t HBW.out m.h)
                clear k1 k2 k3 k4
                go_wp2
                go_roundw
                case rel => exact ⟨k + 2, r + 1, _, rfl, by go_num, by go_num, HNX, HB2.out⟩
                case measure => exact HM.out
          · have HN := Lib.hid (rdRel_short HOD.out hj)
            have hj' : (s.size : Int) - 2 < (k : Int) := by omega
            have hj2 : decide ((s.size : Int) - 2 < (k : Int)) = true := decide_eq_true hj'
            clear hj'
            go_wp2_with fail
            go_ret2
            exact rdPost_no HN.out HBW.out
    · have HE := Lib.hid (rdRel_end HR.out hlt)
      have hge : ¬ (k : Int) < (s.size : Int) := by omega
      clear hXs hrk hks hlt
      go_wp2
      go_ret2
      exact rdPost_yes HE.out HBW.out

end Go.Proofs.YtpjlomgiljpadaaDoor
