/- Frame: contracts of lenFits, Right; of the document's Has, Right. -/
import Derived.Test.YtohoedhaomkafaaDoorFrmC
namespace Go.Proofs.YtohoedhaomkafaaDoor
open Go.RowKit
set_option linter.unusedVariables false

theorem fquiet_add {P : Program} {f : FuncId} {args : Array Value} {w : World} {a n : Nat} {v : Value}
    (h : Calls P f args (w.drewN (a + n)) fun e w' => e = .returned v ∧ w.drewN (a + n) = w') :
    Calls P f args (w.drewN (a + n)) fun e w'' => e = .returned v ∧ ∃ m, w'' = w.drewN (a + m) :=
  h.mono fun _ _ ⟨he, hm⟩ => ⟨he, n, hm.symm⟩
theorem fquiet {P : Program} {f : FuncId} {args : Array Value} {w : World} {n : Nat} {v : Value}
    (h : Calls P f args (w.drewN n) fun e w' => e = .returned v ∧ w.drewN n = w') : Calls P f args (w.drewN n) fun e w'' => e = .returned v ∧ ∃ m, w'' = w.drewN m :=
  h.mono fun _ _ ⟨he, hm⟩ => ⟨he, n, hm.symm⟩
theorem fbcell {W w1 : World} (hb : Below W.heap.size W w1) : (∀ b o, b < W.heap.size → w1.cell? ⟨b, o, none⟩ = W.cell? ⟨b, o, none⟩) ∧ (∀ b o, b < W.heap.size → w1.frozen? ⟨b, o, none⟩ = W.frozen? ⟨b, o, none⟩) :=
  ⟨fun b o h => hb.cell (p := ⟨b, o, none⟩) h, fun b o h => hb.frozen (p := ⟨b, o, none⟩) h⟩

set_option maxHeartbeats 1000000 in
theorem lenFits_any (n l : Int) (w : World) (hT : Tabs w) :
    Calls Tryd.prog 31 #[.int .i64 n, .int .i64 l] w fun e w' => e = .returned (.bool (lenOk n l)) ∧ Below w.heap.size w w' := by
  have HT := Lib.hid hT
  clear hT
  unfold lenOk
  cases hX : fX n
  · have h4 := and4_f hX
    clear hX
    cases hD : fD n
    · have h8 := and8_f hD
      clear hD
      simp only [Bool.false_eq_true, if_false]
      by_cases h0 : l < 0
      · have h1 : decide (0 ≤ l) = false := by simp; omega
        go_enter Tryd.func31, Tryd.ntmps31
        go_wp2
        go_ret
        exact ⟨fret_bool (by simp; omega), Below.refl _ _⟩
      · have h1 : 0 ≤ l := by omega
        clear h0
        go_enter Tryd.func31, Tryd.ntmps31
        go_wp2
        go_ret
        exact ⟨fret_bool (by simp; omega), Below.refl _ _⟩
    · have h8 := and8_t hD
      clear hD
      simp only [Bool.false_eq_true, if_false, if_true]
      cases hL : isLen l
      · have HL := Lib.hid hL
        clear hL
        go_enter Tryd.func31, Tryd.ntmps31
        go_wp2_with fail
        refine (code_f l _ HT.out HL.out).mono ?_
        rintro e w1 ⟨rfl, hb⟩
        go_wp2
        go_ret
        exact ⟨rfl, hb⟩
      · have HL := Lib.hid hL
        clear hL
        go_enter Tryd.func31, Tryd.ntmps31
        go_wp2_with fail
        refine (code_t l _ HT.out HL.out).mono ?_
        rintro e w1 ⟨rfl, hb⟩
        go_wp2
        go_ret
        exact ⟨rfl, hb⟩
  · have h4 := and4_t hX
    clear hX
    simp only [if_true]
    go_enter Tryd.func31, Tryd.ntmps31
    go_wp2
    go_ret
    exact ⟨fret_bool (by rw [Bool.eq_iff_iff]; simp), Below.refl _ _⟩

def rightE (b : Bool) : Int := if b then 0 else 4

theorem lenFits_v {n l : Int} {q : Bool} (h : lenOk n l = q) (w : World) (hT : Tabs w) :
    Calls Tryd.prog 31 #[.int .i64 n, .int .i64 l] w fun e w' => e = .returned (.bool q) ∧ Below w.heap.size w w' := by rw [← h]; exact lenFits_any n l w hT
theorem dataFit_v {n l : Int} {d : ByteArray} {q : Bool} (h : datOk n l d.size = q) (i : Int) (w : World) :
    Calls Tryd.prog 32 #[.agg #[.int .i64 i, .int .i64 n, .int .i64 l, .string d]] w fun e w' => e = .returned (.bool q) ∧ Below w.heap.size w w' := by rw [← h]; exact dataFit_any i n l d w

set_option maxHeartbeats 2000000 in
theorem right_any (i n l : Int) (d : ByteArray) (w : World) (hT : Tabs w) (hn1 : -9223372036854775808 ≤ n) (hn2 : n ≤ 9223372036854775807) :
    Calls Tryd.prog 25 #[.agg #[.int .i64 i, .int .i64 n, .int .i64 l, .string d]] w fun e w' => e = .returned (.int .i64 (rightE (okF i n l d.size))) ∧ Below w.heap.size w w' := by
  have HT := Lib.hid hT
  have HO := Lib.hid (bar_ok n hn1 hn2)
  clear hT hn1 hn2
  unfold okF
  cases h1 : okFl n
  · have hbar : (bits .and .i64 n (barN n) != 0) = true := by rw [bne_iff_ne]; intro h; rw [HO.out.1 h] at h1; cases h1
    clear h1 HO
    go_enter Tryd.func25, Tryd.ntmps25
    go_wp2_with fail
    go_quiet ((go_at_call 29; exact Calls.quiet_of_same ((barred_any _ _).mono fun _ _ ⟨h1, h2⟩ => ⟨h1, h2.symm⟩)))
    go_wp2
    go_ret
    exact ⟨rfl, below_drewN ((Below.refl _ _).alloc (Nat.le_refl _) _) _⟩
  · have hbar : bits .and .i64 n (barN n) = 0 := HO.out.2 h1
    clear h1 HO
    by_cases hi0 : i < 0
    · have hid0 : idOk i n = false := by unfold idOk; rw [decide_eq_false (by omega)]; rfl
      rw [hid0]
      clear hid0
      go_enter Tryd.func25, Tryd.ntmps25
      go_wp2_with fail
      go_quiet ((go_at_call 29; exact Calls.quiet_of_same ((barred_any _ _).mono fun _ _ ⟨h1, h2⟩ => ⟨h1, h2.symm⟩)))
      go_wp2_with fail
      go_quiet (fail)
      go_wp2
      go_ret
      exact ⟨rfl, below_drewN (below_drewN ((Below.refl _ _).alloc (Nat.le_refl _) _) _) _⟩
    · have hi1 : decide (i < 0) = false := by simp; omega
      by_cases ht : topN n < i
      · have hid0 : idOk i n = false := by unfold idOk; rw [decide_eq_false (show ¬ i ≤ topN n by omega)]; simp
        rw [hid0]
        clear hid0 hi0
        go_enter Tryd.func25, Tryd.ntmps25
        go_wp2_with fail
        go_quiet ((go_at_call 29; exact Calls.quiet_of_same ((barred_any _ _).mono fun _ _ ⟨h1, h2⟩ => ⟨h1, h2.symm⟩)))
        go_wp2_with fail
        go_quiet ((go_at_call 30; exact fquiet_add (top_any _ _)))
        go_wp2
        go_ret
        exact ⟨rfl, below_drewN (below_drewN ((Below.refl _ _).alloc (Nat.le_refl _) _) _) _⟩
      · have hid0 : idOk i n = true := by unfold idOk; rw [decide_eq_true (show i ≤ topN n by omega), decide_eq_true (show 0 ≤ i by omega)]; rfl
        have ht' : i ≤ topN n := by omega
        rw [hid0]
        clear hid0 hi0 ht
        cases hL : lenOk n l
        · have HL := Lib.hid hL
          clear hL
          go_enter Tryd.func25, Tryd.ntmps25
          go_wp2_with fail
          go_quiet ((go_at_call 29; exact Calls.quiet_of_same ((barred_any _ _).mono fun _ _ ⟨h1, h2⟩ => ⟨h1, h2.symm⟩)))
          go_wp2_with fail
          go_quiet ((go_at_call 30; exact fquiet_add (top_any _ _)))
          go_wp2_with fail
          refine (lenFits_v HL.out _ ((HT.out.alloc _).drewN _)).mono ?_
          rintro e w1 ⟨rfl, hb⟩
          go_wp2
          go_ret
          exact ⟨rfl, (below_drewN ((Below.refl _ _).alloc (Nat.le_refl _) _) _).trans (hb.mono (by simp))⟩
        · have HL := Lib.hid hL
          clear hL
          cases hd : datOk n l d.size
          all_goals
            have HD := Lib.hid hd
            clear hd
            go_enter Tryd.func25, Tryd.ntmps25
            go_wp2_with fail
            go_quiet ((go_at_call 29; exact Calls.quiet_of_same ((barred_any _ _).mono fun _ _ ⟨h1, h2⟩ => ⟨h1, h2.symm⟩)))
            go_wp2_with fail
            go_quiet ((go_at_call 30; exact fquiet_add (top_any _ _)))
            go_wp2_with fail
            refine (lenFits_v HL.out _ ((HT.out.alloc _).drewN _)).mono ?_
            rintro e w1 ⟨rfl, hb⟩
            obtain ⟨hc, hf⟩ := fbcell hb
            go_wp2_with fail
            refine (dataFit_v HD.out _ _).mono ?_
            rintro e w2 ⟨rfl, hb2⟩
            go_wp2
            go_ret
            exact ⟨rfl, fbelow_t ((below_drewN ((Below.refl _ _).alloc (Nat.le_refl _) _) _).trans (hb.mono (by simp))) hb2⟩

end Go.Proofs.YtohoedhaomkafaaDoor
