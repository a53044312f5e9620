/- Frame: contracts of lenFits, Right; of the document's Has, Right. Frame: contracts of the document's Has, Right. Frame: the contract of the document's Right, .. -/
import Derived.Test.YtimdkcchjanpaaaGreatDoorZaa
set_option maxHeartbeats 4000000
namespace Go.Proofs.YtimdkcchjanpaaaGreatDoor
open Go.RowKit
set_option linter.unusedVariables false
theorem fquiet_add {P:Program} {f:FuncId} {args:Array Value} {w:World} {a n:Nat} {v:Value}
    (h:Calls P f args (w.drewN (a + n)) fun e w' => e = .returned v ∧ w.drewN (a + n) = w') :
    Calls P f args (w.drewN (a + n)) fun e w'' => e = .returned v ∧ ∃ m,w'' = w.drewN (a + m) :=
  h.mono fun _ _ ⟨he,hm⟩ => ⟨he,n,hm.symm⟩
theorem fbcell {W w1:World} (hb:Below W.heap.size W w1):(∀ b o,b < W.heap.size → w1.cell? ⟨b,o,none⟩ = W.cell? ⟨b,o,none⟩) ∧ (∀ b o,b < W.heap.size → w1.frozen? ⟨b,o,none⟩ = W.frozen? ⟨b,o,none⟩) :=
  ⟨fun b o h => hb.cell (p:=⟨b,o,none⟩) h,fun b o h => hb.frozen (p:=⟨b,o,none⟩) h⟩
theorem lenFits_any (n l:Int) (w:World) (hT:Tabs w) :
    Calls Tryz.prog 113 #[.int .i64 n, .int .i64 l] w fun e w' => e = .returned (.bool (lenOk n l)) ∧ Below w.heap.size w w':=by
  have HT:=Lib.hid hT
  clear hT
  unfold lenOk
  cases hX:fX n
  · have h4:=and4_f hX
    clear hX
    cases hD:fD n
    · have h8:=and8_f hD
      clear hD
      simp only [Bool.false_eq_true,if_false]
      by_cases h0:l < 0
      · have h1:decide (0 ≤ l) = false:=by simp; omega
        go_enter Tryz.func113,Tryz.ntmps113
        go_wp2
        go_ret
        exact ⟨fret_bool (by simp; omega),Below.refl _ _⟩
      · have h1:0 ≤ l:=by omega
        clear h0
        go_enter Tryz.func113,Tryz.ntmps113
        go_wp2
        go_ret
        exact ⟨fret_bool (by simp; omega),Below.refl _ _⟩
    · have h8:=and8_t hD
      clear hD
      simp only [Bool.false_eq_true,if_false,if_true]
      cases hL:isLen l
      · have HL:=Lib.hid hL
        clear hL
        go_enter Tryz.func113,Tryz.ntmps113
        go_wp2_with fail
        refine (code_f l _ HT.out HL.out).mono ?_
        rintro e w1 ⟨rfl,hb⟩
        go_wp2
        go_ret
        exact ⟨rfl,hb⟩
      · have HL:=Lib.hid hL
        clear hL
        go_enter Tryz.func113,Tryz.ntmps113
        go_wp2_with fail
        refine (code_t l _ HT.out HL.out).mono ?_
        rintro e w1 ⟨rfl,hb⟩
        go_wp2
        go_ret
        exact ⟨rfl,hb⟩
  · have h4:=and4_t hX
    clear hX
    simp only [if_true]
    go_enter Tryz.func113,Tryz.ntmps113
    go_wp2
    go_ret
    exact ⟨fret_bool (by rw [Bool.eq_iff_iff]; simp),Below.refl _ _⟩
def rightE (b:Bool):Int:=if b then 0 else 4
theorem lenFits_v {n l:Int} {q:Bool} (h:lenOk n l = q) (w:World) (hT:Tabs w) :
    Calls Tryz.prog 113 #[.int .i64 n, .int .i64 l] w fun e w' => e = .returned (.bool q) ∧ Below w.heap.size w w':=by rw [← h]; exact lenFits_any n l w hT
theorem dataFit_v {n l:Int} {d:ByteArray} {q:Bool} (h:datOk n l d.size = q) (i:Int) (w:World) :
    Calls Tryz.prog 114 #[.agg #[.int .i64 i, .int .i64 n, .int .i64 l, .string d]] w fun e w' => e = .returned (.bool q) ∧ Below w.heap.size w w':=by rw [← h]; exact dataFit_any i n l d w
theorem right_any (i n l:Int) (d:ByteArray) (w:World) (hT:Tabs w) (hn1 : -9223372036854775808 ≤ n) (hn2:n ≤ 9223372036854775807) :
    Calls Tryz.prog 75 #[.agg #[.int .i64 i, .int .i64 n, .int .i64 l, .string d]] w fun e w' => e = .returned (.int .i64 (rightE (okF i n l d.size))) ∧ Below w.heap.size w w':=by
  have HT:=Lib.hid hT
  have HO:=Lib.hid (bar_ok n hn1 hn2)
  clear hT hn1 hn2
  unfold okF
  cases h1:okFl n
  · have hbar:(bits .and .i64 n (barN n) != 0) = true:=by rw [bne_iff_ne]; intro h; rw [HO.out.1 h] at h1; cases h1
    clear h1 HO
    go_enter Tryz.func75,Tryz.ntmps75
    go_wp2_with fail
    go_quiet ((go_at_call 111; exact Calls.quiet_of_same ((barred_any _ _).mono fun _ _ ⟨h1,h2⟩ => ⟨h1,h2.symm⟩)))
    go_wp2
    go_ret
    exact ⟨rfl,below_drewN ((Below.refl _ _).alloc (Nat.le_refl _) _) _⟩
  · have hbar:bits .and .i64 n (barN n) = 0:=HO.out.2 h1
    clear h1 HO
    by_cases hi0:i < 0
    · have hid0:idOk i n = false:=by unfold idOk; rw [decide_eq_false (by omega)]; rfl
      rw [hid0]
      clear hid0
      go_enter Tryz.func75,Tryz.ntmps75
      go_wp2_with fail
      go_quiet ((go_at_call 111; exact Calls.quiet_of_same ((barred_any _ _).mono fun _ _ ⟨h1,h2⟩ => ⟨h1,h2.symm⟩)))
      go_wp2_with fail
      go_quiet (fail)
      go_wp2
      go_ret
      exact ⟨rfl,below_drewN (below_drewN ((Below.refl _ _).alloc (Nat.le_refl _) _) _) _⟩
    · have hi1:decide (i < 0) = false:=by simp; omega
      by_cases ht:topN n < i
      · have hid0:idOk i n = false:=by unfold idOk; rw [decide_eq_false (show ¬ i ≤ topN n by omega)]; simp
        rw [hid0]
        clear hid0 hi0
        go_enter Tryz.func75,Tryz.ntmps75
        go_wp2_with fail
        go_quiet ((go_at_call 111; exact Calls.quiet_of_same ((barred_any _ _).mono fun _ _ ⟨h1,h2⟩ => ⟨h1,h2.symm⟩)))
        go_wp2_with fail
        go_quiet ((go_at_call 112; exact fquiet_add (top_any _ _)))
        go_wp2
        go_ret
        exact ⟨rfl,below_drewN (below_drewN ((Below.refl _ _).alloc (Nat.le_refl _) _) _) _⟩
      · have hid0:idOk i n = true:=by unfold idOk; rw [decide_eq_true (show i ≤ topN n by omega),decide_eq_true (show 0 ≤ i by omega)]; rfl
        have ht':i ≤ topN n:=by omega
        rw [hid0]
        clear hid0 hi0 ht
        cases hL:lenOk n l
        · have HL:=Lib.hid hL
          clear hL
          go_enter Tryz.func75,Tryz.ntmps75
          go_wp2_with fail
          go_quiet ((go_at_call 111; exact Calls.quiet_of_same ((barred_any _ _).mono fun _ _ ⟨h1,h2⟩ => ⟨h1,h2.symm⟩)))
          go_wp2_with fail
          go_quiet ((go_at_call 112; exact fquiet_add (top_any _ _)))
          go_wp2_with fail
          refine (lenFits_v HL.out _ ((HT.out.alloc _).drewN _)).mono ?_
          rintro e w1 ⟨rfl,hb⟩
          go_wp2
          go_ret
          exact ⟨rfl,(below_drewN ((Below.refl _ _).alloc (Nat.le_refl _) _) _).trans (hb.mono (by simp))⟩
        · have HL:=Lib.hid hL
          clear hL
          cases hd:datOk n l d.size
          all_goals
            have HD:=Lib.hid hd
            clear hd
            go_enter Tryz.func75,Tryz.ntmps75
            go_wp2_with fail
            go_quiet ((go_at_call 111; exact Calls.quiet_of_same ((barred_any _ _).mono fun _ _ ⟨h1,h2⟩ => ⟨h1,h2.symm⟩)))
            go_wp2_with fail
            go_quiet ((go_at_call 112; exact fquiet_add (top_any _ _)))
            go_wp2_with fail
            refine (lenFits_v HL.out _ ((HT.out.alloc _).drewN _)).mono ?_
            rintro e w1 ⟨rfl,hb⟩
            obtain ⟨hc,hf⟩:=fbcell hb
            go_wp2_with fail
            refine (dataFit_v HD.out _ _).mono ?_
            rintro e w2 ⟨rfl,hb2⟩
            go_wp2
            go_ret
            exact ⟨rfl,fbelow_t ((below_drewN ((Below.refl _ _).alloc (Nat.le_refl _) _) _).trans (hb.mono (by simp))) hb2⟩
end Go.Proofs.YtimdkcchjanpaaaGreatDoor
namespace Go.Proofs.YtimdkcchjanpaaaGreatDoor
open Go.RowKit
set_option linter.unusedVariables false
theorem has_v {n k:Int} {q:Bool} (h:decide (n / k % 2 = 1) = q) (h0:0 ≤ n) (h1:n ≤ 63) (hk:1 ≤ k) (hk2:k ≤ 32) (i l:Int) (d:ByteArray) (w:World) :
    Calls Tryz.prog 126 #[.agg #[.int .i64 i, .int .i64 n, .int .i64 l, .string d], .int .i64 k] w fun e w' => e = .returned (.bool q) ∧ Below w.heap.size w w':=by
  have H:=Lib.hid h
  have hq0:0 ≤ n / k:=Int.ediv_nonneg h0 (by omega)
  have hq1:n / k ≤ 63:=Int.le_trans (Int.ediv_le_self _ h0) h1
  have hb:(k == 0) = false:=by simp; omega
  clear h
  go_enter Tryz.func126,Tryz.ntmps126
  go_wp2
  go_ret
  exact ⟨fret_bool (by rw [← H.out,Bool.eq_iff_iff]; simp),(Below.refl _ _).alloc (Nat.le_refl _) _⟩
theorem has1 {n:Int} {q:Bool} (h:fE n = q) (h0:0 ≤ n) (h1:n ≤ 63) (i l:Int) (d:ByteArray) (w:World) :
    Calls Tryz.prog 126 #[.agg #[.int .i64 i, .int .i64 n, .int .i64 l, .string d], .int .i64 1] w fun e w' => e = .returned (.bool q) ∧ Below w.heap.size w w' :=
  has_v (by rw [← h]; unfold fE; rw [Int.ediv_one]) h0 h1 (by decide) (by decide) i l d w
theorem has2 {n:Int} {q:Bool} (h:fR n = q) (h0:0 ≤ n) (h1:n ≤ 63) (i l:Int) (d:ByteArray) (w:World) :
    Calls Tryz.prog 126 #[.agg #[.int .i64 i, .int .i64 n, .int .i64 l, .string d], .int .i64 2] w fun e w' => e = .returned (.bool q) ∧ Below w.heap.size w w' :=
  has_v h h0 h1 (by decide) (by decide) i l d w
theorem has4 {n:Int} {q:Bool} (h:fX n = q) (h0:0 ≤ n) (h1:n ≤ 63) (i l:Int) (d:ByteArray) (w:World) :
    Calls Tryz.prog 126 #[.agg #[.int .i64 i, .int .i64 n, .int .i64 l, .string d], .int .i64 4] w fun e w' => e = .returned (.bool q) ∧ Below w.heap.size w w' :=
  has_v h h0 h1 (by decide) (by decide) i l d w
theorem has8 {n:Int} {q:Bool} (h:fD n = q) (h0:0 ≤ n) (h1:n ≤ 63) (i l:Int) (d:ByteArray) (w:World) :
    Calls Tryz.prog 126 #[.agg #[.int .i64 i, .int .i64 n, .int .i64 l, .string d], .int .i64 8] w fun e w' => e = .returned (.bool q) ∧ Below w.heap.size w w' :=
  has_v h h0 h1 (by decide) (by decide) i l d w
theorem has16 {n:Int} {q:Bool} (h:fB n = q) (h0:0 ≤ n) (h1:n ≤ 63) (i l:Int) (d:ByteArray) (w:World) :
    Calls Tryz.prog 126 #[.agg #[.int .i64 i, .int .i64 n, .int .i64 l, .string d], .int .i64 16] w fun e w' => e = .returned (.bool q) ∧ Below w.heap.size w w' :=
  has_v h h0 h1 (by decide) (by decide) i l d w
theorem has32 {n:Int} {q:Bool} (h:fS n = q) (h0:0 ≤ n) (h1:n ≤ 63) (i l:Int) (d:ByteArray) (w:World) :
    Calls Tryz.prog 126 #[.agg #[.int .i64 i, .int .i64 n, .int .i64 l, .string d], .int .i64 32] w fun e w' => e = .returned (.bool q) ∧ Below w.heap.size w w' :=
  has_v h h0 h1 (by decide) (by decide) i l d w
theorem rright_bad (i n l:Int) (d:ByteArray) (w:World) (h0:0 ≤ n) (h1:n ≤ 63) (h2:0 ≤ i) (h3:i ≤ 536870911) (e r x fd b s:Bool) (he:Hid (fE n = e)) (hr:Hid (fR n = r)) (hx:Hid (fX n = x)) (hd:Hid (fD n = fd))
    (hB:Hid (fB n = b)) (hS:Hid (fS n = s)) (hbad:Hid (((x && (e || r || fd)) || (fd && r) || ((b || s) && !fd)) = true)) :
    Calls Tryz.prog 125 #[.agg #[.int .i64 i, .int .i64 n, .int .i64 l, .string d]] w fun e w' => e = .returned (.bool false) ∧ Below w.heap.size w w':=by
  have hl:=later_cells
  have t1:decide (n < 0) = false:=by simp; omega
  have t2:decide (63 < n) = false:=by simp; omega
  have t3:decide (i < 0) = false:=by simp; omega
  have t4:decide (536870911 < i) = false:=by simp; omega
  go_enter Tryz.func125,Tryz.ntmps125
  go_wp2_with fail
  refine wp_region_later (by kernel_rfl) (by kernel_rfl) ?_
  repeat (go_big_quiet_step (fail))
  go_big_quiet_step (exact Later.call (has4 hx.out h0 h1 _ _ _ _))
  repeat (go_big_quiet_step (fail))
  go_big_quiet_step (exact Later.call (has8 hd.out h0 h1 _ _ _ _))
  repeat (go_big_quiet_step (fail))
  go_big_quiet_step (exact Later.call (has2 hr.out h0 h1 _ _ _ _))
  repeat (go_big_quiet_step (fail))
  go_big_quiet_step (exact Later.call (has1 he.out h0 h1 _ _ _ _))
  repeat (go_big_quiet_step (fail))
  refine wpQuiet_nil ?_
  rintro w1 ⟨m,rfl⟩
  have hz:w.heap.size < m.w.heap.size:=by have:=m.h.size; simp at this; omega
  have hbm:Below w.heap.size w m.w:=fbelow_a _ m.h
  cases x <;> cases fd <;> cases e <;> cases r
  all_goals first
    | (go_wp2_with fail; go_ret; exact ⟨rfl,hbm⟩)
    | (go_wp2_with fail
       refine (has16 hB.out h0 h1 _ _ _ _).mono ?_
       rintro e w2 ⟨rfl,hb2⟩
       obtain ⟨hc2,hf2⟩:=fbcell hb2
       cases b
       · go_wp2_with fail
         refine (has32 hS.out h0 h1 _ _ _ _).mono ?_
         rintro e w3 ⟨rfl,hb3⟩
         cases s
         · exact absurd hbad.out (by decide)
         · first
           | exact absurd hbad.out (by decide)
           | (go_wp2; done)
           | (go_wp2; go_ret; exact ⟨rfl,fbelow_t (fbelow_t hbm hb2) hb3⟩)
       · first
         | exact absurd hbad.out (by decide)
         | (go_wp2; done)
         | (go_wp2; go_ret; exact ⟨rfl,fbelow_t hbm hb2⟩))
end Go.Proofs.YtimdkcchjanpaaaGreatDoor
namespace Go.Proofs.YtimdkcchjanpaaaGreatDoor
open Go.RowKit
set_option linter.unusedVariables false
def resD (r:Bool) (l:Int) (sz:Nat):Bool:=if r then decide (sz = 0) else decide ((sz:Int) = l)
def resC (e r:Bool) (i l:Int) (sz:Nat):Bool:=(e || decide (i ≤ 2047)) && (decide (0 ≤ l) && decide (l ≤ 8)) && resD r l sz
theorem resD_t (l:Int) (d:ByteArray):d.toList.isEmpty = resD true l d.size:=nilB d
theorem resD_f (l:Int) (d:ByteArray):((d.size:Int) == l) = resD false l d.size:=by unfold resD; rw [Bool.eq_iff_iff]; simp
theorem rright_C (i n l:Int) (d:ByteArray) (w:World) (h0:0 ≤ n) (h1:n ≤ 63) (h2:0 ≤ i) (h3:i ≤ 536870911) (e r:Bool) (he:Hid (fE n = e)) (hr:Hid (fR n = r)) (hx:Hid (fX n = false)) (hd:Hid (fD n = false))
    (hB:Hid (fB n = false)) (hS:Hid (fS n = false)) :
    Calls Tryz.prog 125 #[.agg #[.int .i64 i, .int .i64 n, .int .i64 l, .string d]] w fun en w' => en = .returned (.bool (resC e r i l d.size)) ∧ Below w.heap.size w w':=by
  have hl:=later_cells
  have t1:decide (n < 0) = false:=by simp; omega
  have t2:decide (63 < n) = false:=by simp; omega
  have t3:decide (i < 0) = false:=by simp; omega
  have t4:decide (536870911 < i) = false:=by simp; omega
  go_enter Tryz.func125,Tryz.ntmps125
  go_wp2_with fail
  refine wp_region_later (by kernel_rfl) (by kernel_rfl) ?_
  repeat (go_big_quiet_step (fail))
  go_big_quiet_step (exact Later.call (has4 hx.out h0 h1 _ _ _ _))
  repeat (go_big_quiet_step (fail))
  go_big_quiet_step (exact Later.call (has8 hd.out h0 h1 _ _ _ _))
  repeat (go_big_quiet_step (fail))
  go_big_quiet_step (exact Later.call (has2 hr.out h0 h1 _ _ _ _))
  repeat (go_big_quiet_step (fail))
  go_big_quiet_step (exact Later.call (has1 he.out h0 h1 _ _ _ _))
  repeat (go_big_quiet_step (fail))
  refine wpQuiet_nil ?_
  rintro w1 ⟨m,rfl⟩
  have hz:w.heap.size < m.w.heap.size:=by have:=m.h.size; simp at this; omega
  have hbm:Below w.heap.size w m.w:=fbelow_a _ m.h
  go_wp2_with fail
  refine (has16 hB.out h0 h1 _ _ _ _).mono ?_
  rintro e2 w2 ⟨rfl,hb2⟩
  obtain ⟨hc2,hf2⟩:=fbcell hb2
  have hz2:w.heap.size < w2.heap.size:=Nat.lt_of_lt_of_le hz hb2.size
  go_wp2_with fail
  refine (has32 hS.out h0 h1 _ _ _ _).mono ?_
  rintro e3 w3 ⟨rfl,hb3⟩
  obtain ⟨hc3,hf3⟩:=fbcell hb3
  have hz3:w.heap.size < w3.heap.size:=Nat.lt_of_lt_of_le hz2 hb3.size
  have hbb:Below w.heap.size w w3:=fbelow_t (fbelow_t hbm hb2) hb3
  have hfin:∀ q:Bool,q = (e || decide (i ≤ 2047)) → ∀ p:Bool,p = (decide (0 ≤ l) && decide (l ≤ 8)) → resC e r i l d.size = (q && p && resD r l d.size):=fun q hq p hp => by rw [hq,hp]; rfl
  have Hfin:=Lib.hid hfin
  clear hfin
  cases e
  · by_cases hi:2047 < i
    · go_wp2
      go_ret
      exact ⟨fret_bool (by rw [Hfin.out false (by simp; omega) _ rfl]; rfl),hbb⟩
    · have t5:decide (2047 < i) = false:=by simp; omega
      by_cases l0:l < 0
      · go_wp2
        go_ret
        exact ⟨fret_bool (by rw [Hfin.out _ rfl false (by simp; omega)]; simp),hbb⟩
      have t6:decide (l < 0) = false:=by simp; omega
      by_cases l1:64 < l
      · go_wp2
        go_ret
        exact ⟨fret_bool (by rw [Hfin.out _ rfl false (by simp; omega)]; simp),hbb⟩
      have t7:decide (64 < l) = false:=by simp; omega
      by_cases l2:8 < l
      · go_wp2
        go_ret
        exact ⟨fret_bool (by rw [Hfin.out _ rfl false (by simp; omega)]; simp),hbb⟩
      have t8:decide (8 < l) = false:=by simp; omega
      cases r
      · go_wp2
        go_ret
        exact ⟨fret_bool (by rw [Hfin.out true (by simp; omega) true (by simp; omega)]; exact resD_f l d),hbb⟩
      · go_wp2
        go_ret
        exact ⟨fret_bool (by rw [Hfin.out true (by simp; omega) true (by simp; omega)]; exact resD_t l d),hbb⟩
  · by_cases hi:2047 < i
    all_goals
      have t5:decide (2047 < i) = decide (2047 < i):=rfl
      clear t5
      try (have t5:decide (2047 < i) = false:=by simp; omega)
      by_cases l0:l < 0
      · go_wp2
        go_ret
        exact ⟨fret_bool (by rw [Hfin.out _ rfl false (by simp; omega)]; simp),hbb⟩
      have t6:decide (l < 0) = false:=by simp; omega
      by_cases l1:64 < l
      · go_wp2
        go_ret
        exact ⟨fret_bool (by rw [Hfin.out _ rfl false (by simp; omega)]; simp),hbb⟩
      have t7:decide (64 < l) = false:=by simp; omega
      by_cases l2:8 < l
      · go_wp2
        go_ret
        exact ⟨fret_bool (by rw [Hfin.out _ rfl false (by simp; omega)]; simp),hbb⟩
      have t8:decide (8 < l) = false:=by simp; omega
      cases r
      · go_wp2
        go_ret
        exact ⟨fret_bool (by rw [Hfin.out true rfl true (by simp; omega)]; exact resD_f l d),hbb⟩
      · go_wp2
        go_ret
        exact ⟨fret_bool (by rw [Hfin.out true rfl true (by simp; omega)]; exact resD_t l d),hbb⟩
end Go.Proofs.YtimdkcchjanpaaaGreatDoor
namespace Go.Proofs.YtimdkcchjanpaaaGreatDoor
open Go.RowKit
set_option linter.unusedVariables false
def resA (l:Int) (sz:Nat):Bool:=decide (l = 8) && resD false l sz
def resB (e:Bool) (i l:Int) (sz:Nat):Bool:=(e || decide (i ≤ 2047)) && isLen l && resD false l sz
theorem rright_A (i n l:Int) (d:ByteArray) (w:World) (h0:0 ≤ n) (h1:n ≤ 63) (h2:0 ≤ i) (h3:i ≤ 536870911) (he:Hid (fE n = false)) (hr:Hid (fR n = false)) (hx:Hid (fX n = true)) (hd:Hid (fD n = false))
    (hB:Hid (fB n = false)) (hS:Hid (fS n = false)) :
    Calls Tryz.prog 125 #[.agg #[.int .i64 i, .int .i64 n, .int .i64 l, .string d]] w fun en w' => en = .returned (.bool (resA l d.size)) ∧ Below w.heap.size w w':=by
  have hl:=later_cells
  have t1:decide (n < 0) = false:=by simp; omega
  have t2:decide (63 < n) = false:=by simp; omega
  have t3:decide (i < 0) = false:=by simp; omega
  have t4:decide (536870911 < i) = false:=by simp; omega
  go_enter Tryz.func125,Tryz.ntmps125
  go_wp2_with fail
  refine wp_region_later (by kernel_rfl) (by kernel_rfl) ?_
  repeat (go_big_quiet_step (fail))
  go_big_quiet_step (exact Later.call (has4 hx.out h0 h1 _ _ _ _))
  repeat (go_big_quiet_step (fail))
  go_big_quiet_step (exact Later.call (has8 hd.out h0 h1 _ _ _ _))
  repeat (go_big_quiet_step (fail))
  go_big_quiet_step (exact Later.call (has2 hr.out h0 h1 _ _ _ _))
  repeat (go_big_quiet_step (fail))
  go_big_quiet_step (exact Later.call (has1 he.out h0 h1 _ _ _ _))
  repeat (go_big_quiet_step (fail))
  refine wpQuiet_nil ?_
  rintro w1 ⟨m,rfl⟩
  have hz:w.heap.size < m.w.heap.size:=by have:=m.h.size; simp at this; omega
  have hbm:Below w.heap.size w m.w:=fbelow_a _ m.h
  go_wp2_with fail
  refine (has16 hB.out h0 h1 _ _ _ _).mono ?_
  rintro e2 w2 ⟨rfl,hb2⟩
  obtain ⟨hc2,hf2⟩:=fbcell hb2
  have hz2:w.heap.size < w2.heap.size:=Nat.lt_of_lt_of_le hz hb2.size
  go_wp2_with fail
  refine (has32 hS.out h0 h1 _ _ _ _).mono ?_
  rintro e3 w3 ⟨rfl,hb3⟩
  obtain ⟨hc3,hf3⟩:=fbcell hb3
  have hz3:w.heap.size < w3.heap.size:=Nat.lt_of_lt_of_le hz2 hb3.size
  have hbb:Below w.heap.size w w3:=fbelow_t (fbelow_t hbm hb2) hb3
  have hfin:∀ q:Bool,q = decide (l = 8) → resA l d.size = (q && resD false l d.size):=fun q hq => by rw [hq]; rfl
  have Hfin:=Lib.hid hfin
  clear hfin
  by_cases hi:2047 < i
  all_goals
    try (have t5:decide (2047 < i) = false:=by simp; omega)
    by_cases l0:l < 0
    · go_wp2
      go_ret
      exact ⟨fret_bool (by rw [Hfin.out false (by simp; omega)]; rfl),hbb⟩
    have t6:decide (l < 0) = false:=by simp; omega
    by_cases l1:64 < l
    · go_wp2
      go_ret
      exact ⟨fret_bool (by rw [Hfin.out false (by simp; omega)]; rfl),hbb⟩
    have t7:decide (64 < l) = false:=by simp; omega
    by_cases l2:8 < l
    · go_wp2
      go_ret
      exact ⟨fret_bool (by rw [Hfin.out false (by simp; omega)]; rfl),hbb⟩
    have t8:decide (8 < l) = false:=by simp; omega
    by_cases l3:l = 8
    · have t9:(l != 8) = false:=by simpa using l3
      have L3:=Lib.hid l3
      clear l3
      go_wp2
      go_ret
      exact ⟨fret_bool (by rw [Hfin.out true (by simpa using L3.out)]; exact resD_f l d),hbb⟩
    · have t9:(l != 8) = true:=by simpa using l3
      go_wp2
      go_ret
      exact ⟨fret_bool (by rw [Hfin.out false (by simpa using l3)]; rfl),hbb⟩
theorem isLen_lo {l:Int} (h:l < 0):isLen l = false:=by
  unfold isLen codeN; simp; repeat (rw [if_neg (by omega)])
  decide
theorem isLen_hi {l:Int} (h:64 < l):isLen l = false:=by
  unfold isLen codeN; simp; repeat (rw [if_neg (by omega)])
  decide
theorem rright_Bt (i n l:Int) (d:ByteArray) (w:World) (h0:0 ≤ n) (h1:n ≤ 63) (h2:0 ≤ i) (h3:i ≤ 536870911) (e s:Bool) (he:Hid (fE n = e)) (hr:Hid (fR n = false)) (hx:Hid (fX n = false)) (hd:Hid (fD n = true))
    (hB:Hid (fB n = true)) (hS:Hid (fS n = s)) :
    Calls Tryz.prog 125 #[.agg #[.int .i64 i, .int .i64 n, .int .i64 l, .string d]] w fun en w' => en = .returned (.bool (resB e i l d.size)) ∧ Below w.heap.size w w':=by
  have hl:=later_cells
  have t1:decide (n < 0) = false:=by simp; omega
  have t2:decide (63 < n) = false:=by simp; omega
  have t3:decide (i < 0) = false:=by simp; omega
  have t4:decide (536870911 < i) = false:=by simp; omega
  go_enter Tryz.func125,Tryz.ntmps125
  go_wp2_with fail
  refine wp_region_later (by kernel_rfl) (by kernel_rfl) ?_
  repeat (go_big_quiet_step (fail))
  go_big_quiet_step (exact Later.call (has4 hx.out h0 h1 _ _ _ _))
  repeat (go_big_quiet_step (fail))
  go_big_quiet_step (exact Later.call (has8 hd.out h0 h1 _ _ _ _))
  repeat (go_big_quiet_step (fail))
  go_big_quiet_step (exact Later.call (has2 hr.out h0 h1 _ _ _ _))
  repeat (go_big_quiet_step (fail))
  go_big_quiet_step (exact Later.call (has1 he.out h0 h1 _ _ _ _))
  repeat (go_big_quiet_step (fail))
  refine wpQuiet_nil ?_
  rintro w1 ⟨m,rfl⟩
  have hz:w.heap.size < m.w.heap.size:=by have:=m.h.size; simp at this; omega
  have hbm:Below w.heap.size w m.w:=fbelow_a _ m.h
  go_wp2_with fail
  refine (has16 hB.out h0 h1 _ _ _ _).mono ?_
  rintro e2 w2 ⟨rfl,hb2⟩
  obtain ⟨hc2,hf2⟩:=fbcell hb2
  have hz2:w.heap.size < w2.heap.size:=Nat.lt_of_lt_of_le hz hb2.size
  have hz3:=hz2
  have hbb:Below w.heap.size w w2:=fbelow_t hbm hb2
  have hfin:∀ q:Bool,q = (e || decide (i ≤ 2047)) → ∀ p:Bool,p = isLen l → resB e i l d.size = (q && p && resD false l d.size):=fun q hq p hp => by rw [hq,hp]; rfl
  have Hfin:=Lib.hid hfin
  clear hfin
  cases e
  · by_cases hi:2047 < i
    · go_wp2
      go_ret
      exact ⟨fret_bool (by rw [Hfin.out false (by simp; omega) _ rfl]; rfl),hbb⟩
    · have t5:decide (2047 < i) = false:=by simp; omega
      have hq:true = (false || decide (i ≤ 2047)):=by simp; omega
      have HQ:=Lib.hid hq
      clear hq
      by_cases l0:l < 0
      · go_wp2
        go_ret
        exact ⟨fret_bool (by rw [Hfin.out _ rfl false (isLen_lo l0).symm]; simp),hbb⟩
      have t6:decide (l < 0) = false:=by simp; omega
      by_cases l1:64 < l
      · go_wp2
        go_ret
        exact ⟨fret_bool (by rw [Hfin.out _ rfl false (isLen_hi l1).symm]; simp),hbb⟩
      have t7:decide (64 < l) = false:=by simp; omega
      cases hL:isLen l
      · have HL:=Lib.hid hL
        have t9:decide (codeN l < 0) = true:=by unfold isLen at hL; simp at hL; simp; omega
        have t9':codeN l < 0:=by simpa using t9
        clear hL
        go_wp2_with fail
        refine (rcode_any l _).mono ?_
        rintro e4 w4 ⟨rfl,hb4⟩
        obtain ⟨hc4,hf4⟩:=fbcell hb4
        go_wp2
        go_ret
        exact ⟨fret_bool (by rw [Hfin.out _ rfl false HL.out.symm]; simp),fbelow_t hbb hb4⟩
      · have HL:=Lib.hid hL
        have t9:decide (codeN l < 0) = false:=by unfold isLen at hL; simp at hL; simp; omega
        have t9':¬ codeN l < 0:=by simpa using t9
        clear hL
        go_wp2_with fail
        refine (rcode_any l _).mono ?_
        rintro e4 w4 ⟨rfl,hb4⟩
        obtain ⟨hc4,hf4⟩:=fbcell hb4
        go_wp2
        go_ret
        exact ⟨fret_bool (by rw [Hfin.out true HQ.out true HL.out.symm]; exact resD_f l d),fbelow_t hbb hb4⟩
  · have hq:true = (true || decide (i ≤ 2047)):=rfl
    by_cases hi:2047 < i
    all_goals
      try (have t5:decide (2047 < i) = false:=by simp; omega)
      have HQ:=Lib.hid hq
      clear hq
      by_cases l0:l < 0
      · go_wp2
        go_ret
        exact ⟨fret_bool (by rw [Hfin.out _ rfl false (isLen_lo l0).symm]; simp),hbb⟩
      have t6:decide (l < 0) = false:=by simp; omega
      by_cases l1:64 < l
      · go_wp2
        go_ret
        exact ⟨fret_bool (by rw [Hfin.out _ rfl false (isLen_hi l1).symm]; simp),hbb⟩
      have t7:decide (64 < l) = false:=by simp; omega
      cases hL:isLen l
      · have HL:=Lib.hid hL
        have t9:decide (codeN l < 0) = true:=by unfold isLen at hL; simp at hL; simp; omega
        have t9':codeN l < 0:=by simpa using t9
        clear hL
        go_wp2_with fail
        refine (rcode_any l _).mono ?_
        rintro e4 w4 ⟨rfl,hb4⟩
        obtain ⟨hc4,hf4⟩:=fbcell hb4
        go_wp2
        go_ret
        exact ⟨fret_bool (by rw [Hfin.out _ rfl false HL.out.symm]; simp),fbelow_t hbb hb4⟩
      · have HL:=Lib.hid hL
        have t9:decide (codeN l < 0) = false:=by unfold isLen at hL; simp at hL; simp; omega
        have t9':¬ codeN l < 0:=by simpa using t9
        clear hL
        go_wp2_with fail
        refine (rcode_any l _).mono ?_
        rintro e4 w4 ⟨rfl,hb4⟩
        obtain ⟨hc4,hf4⟩:=fbcell hb4
        go_wp2
        go_ret
        exact ⟨fret_bool (by rw [Hfin.out true HQ.out true HL.out.symm]; exact resD_f l d),fbelow_t hbb hb4⟩
theorem rright_Bft (i n l:Int) (d:ByteArray) (w:World) (h0:0 ≤ n) (h1:n ≤ 63) (h2:0 ≤ i) (h3:i ≤ 536870911) (e:Bool) (he:Hid (fE n = e)) (hr:Hid (fR n = false)) (hx:Hid (fX n = false)) (hd:Hid (fD n = true))
    (hB:Hid (fB n = false)) (hS:Hid (fS n = true)) :
    Calls Tryz.prog 125 #[.agg #[.int .i64 i, .int .i64 n, .int .i64 l, .string d]] w fun en w' => en = .returned (.bool (resB e i l d.size)) ∧ Below w.heap.size w w':=by
  have hl:=later_cells
  have t1:decide (n < 0) = false:=by simp; omega
  have t2:decide (63 < n) = false:=by simp; omega
  have t3:decide (i < 0) = false:=by simp; omega
  have t4:decide (536870911 < i) = false:=by simp; omega
  go_enter Tryz.func125,Tryz.ntmps125
  go_wp2_with fail
  refine wp_region_later (by kernel_rfl) (by kernel_rfl) ?_
  repeat (go_big_quiet_step (fail))
  go_big_quiet_step (exact Later.call (has4 hx.out h0 h1 _ _ _ _))
  repeat (go_big_quiet_step (fail))
  go_big_quiet_step (exact Later.call (has8 hd.out h0 h1 _ _ _ _))
  repeat (go_big_quiet_step (fail))
  go_big_quiet_step (exact Later.call (has2 hr.out h0 h1 _ _ _ _))
  repeat (go_big_quiet_step (fail))
  go_big_quiet_step (exact Later.call (has1 he.out h0 h1 _ _ _ _))
  repeat (go_big_quiet_step (fail))
  refine wpQuiet_nil ?_
  rintro w1 ⟨m,rfl⟩
  have hz:w.heap.size < m.w.heap.size:=by have:=m.h.size; simp at this; omega
  have hbm:Below w.heap.size w m.w:=fbelow_a _ m.h
  go_wp2_with fail
  refine (has16 hB.out h0 h1 _ _ _ _).mono ?_
  rintro e2 w2 ⟨rfl,hb2⟩
  obtain ⟨hc2,hf2⟩:=fbcell hb2
  have hz2:w.heap.size < w2.heap.size:=Nat.lt_of_lt_of_le hz hb2.size
  go_wp2_with fail
  refine (has32 hS.out h0 h1 _ _ _ _).mono ?_
  rintro e3 w3 ⟨rfl,hb3⟩
  obtain ⟨hc3,hf3⟩:=fbcell hb3
  have hz3:w.heap.size < w3.heap.size:=Nat.lt_of_lt_of_le hz2 hb3.size
  have hbb:Below w.heap.size w w3:=fbelow_t (fbelow_t hbm hb2) hb3
  have hfin:∀ q:Bool,q = (e || decide (i ≤ 2047)) → ∀ p:Bool,p = isLen l → resB e i l d.size = (q && p && resD false l d.size):=fun q hq p hp => by rw [hq,hp]; rfl
  have Hfin:=Lib.hid hfin
  clear hfin
  cases e
  · by_cases hi:2047 < i
    · go_wp2
      go_ret
      exact ⟨fret_bool (by rw [Hfin.out false (by simp; omega) _ rfl]; rfl),hbb⟩
    · have t5:decide (2047 < i) = false:=by simp; omega
      have hq:true = (false || decide (i ≤ 2047)):=by simp; omega
      have HQ:=Lib.hid hq
      clear hq
      by_cases l0:l < 0
      · go_wp2
        go_ret
        exact ⟨fret_bool (by rw [Hfin.out _ rfl false (isLen_lo l0).symm]; simp),hbb⟩
      have t6:decide (l < 0) = false:=by simp; omega
      by_cases l1:64 < l
      · go_wp2
        go_ret
        exact ⟨fret_bool (by rw [Hfin.out _ rfl false (isLen_hi l1).symm]; simp),hbb⟩
      have t7:decide (64 < l) = false:=by simp; omega
      cases hL:isLen l
      · have HL:=Lib.hid hL
        have t9:decide (codeN l < 0) = true:=by unfold isLen at hL; simp at hL; simp; omega
        have t9':codeN l < 0:=by simpa using t9
        clear hL
        go_wp2_with fail
        refine (rcode_any l _).mono ?_
        rintro e4 w4 ⟨rfl,hb4⟩
        obtain ⟨hc4,hf4⟩:=fbcell hb4
        go_wp2
        go_ret
        exact ⟨fret_bool (by rw [Hfin.out _ rfl false HL.out.symm]; simp),fbelow_t hbb hb4⟩
      · have HL:=Lib.hid hL
        have t9:decide (codeN l < 0) = false:=by unfold isLen at hL; simp at hL; simp; omega
        have t9':¬ codeN l < 0:=by simpa using t9
        clear hL
        go_wp2_with fail
        refine (rcode_any l _).mono ?_
        rintro e4 w4 ⟨rfl,hb4⟩
        obtain ⟨hc4,hf4⟩:=fbcell hb4
        go_wp2
        go_ret
        exact ⟨fret_bool (by rw [Hfin.out true HQ.out true HL.out.symm]; exact resD_f l d),fbelow_t hbb hb4⟩
  · have hq:true = (true || decide (i ≤ 2047)):=rfl
    by_cases hi:2047 < i
    all_goals
      try (have t5:decide (2047 < i) = false:=by simp; omega)
      have HQ:=Lib.hid hq
      clear hq
      by_cases l0:l < 0
      · go_wp2
        go_ret
        exact ⟨fret_bool (by rw [Hfin.out _ rfl false (isLen_lo l0).symm]; simp),hbb⟩
      have t6:decide (l < 0) = false:=by simp; omega
      by_cases l1:64 < l
      · go_wp2
        go_ret
        exact ⟨fret_bool (by rw [Hfin.out _ rfl false (isLen_hi l1).symm]; simp),hbb⟩
      have t7:decide (64 < l) = false:=by simp; omega
      cases hL:isLen l
      · have HL:=Lib.hid hL
        have t9:decide (codeN l < 0) = true:=by unfold isLen at hL; simp at hL; simp; omega
        have t9':codeN l < 0:=by simpa using t9
        clear hL
        go_wp2_with fail
        refine (rcode_any l _).mono ?_
        rintro e4 w4 ⟨rfl,hb4⟩
        obtain ⟨hc4,hf4⟩:=fbcell hb4
        go_wp2
        go_ret
        exact ⟨fret_bool (by rw [Hfin.out _ rfl false HL.out.symm]; simp),fbelow_t hbb hb4⟩
      · have HL:=Lib.hid hL
        have t9:decide (codeN l < 0) = false:=by unfold isLen at hL; simp at hL; simp; omega
        have t9':¬ codeN l < 0:=by simpa using t9
        clear hL
        go_wp2_with fail
        refine (rcode_any l _).mono ?_
        rintro e4 w4 ⟨rfl,hb4⟩
        obtain ⟨hc4,hf4⟩:=fbcell hb4
        go_wp2
        go_ret
        exact ⟨fret_bool (by rw [Hfin.out true HQ.out true HL.out.symm]; exact resD_f l d),fbelow_t hbb hb4⟩
theorem rright_Bff (i n l:Int) (d:ByteArray) (w:World) (h0:0 ≤ n) (h1:n ≤ 63) (h2:0 ≤ i) (h3:i ≤ 536870911) (e:Bool) (he:Hid (fE n = e)) (hr:Hid (fR n = false)) (hx:Hid (fX n = false)) (hd:Hid (fD n = true))
    (hB:Hid (fB n = false)) (hS:Hid (fS n = false)) :
    Calls Tryz.prog 125 #[.agg #[.int .i64 i, .int .i64 n, .int .i64 l, .string d]] w fun en w' => en = .returned (.bool (resB e i l d.size)) ∧ Below w.heap.size w w':=by
  have hl:=later_cells
  have t1:decide (n < 0) = false:=by simp; omega
  have t2:decide (63 < n) = false:=by simp; omega
  have t3:decide (i < 0) = false:=by simp; omega
  have t4:decide (536870911 < i) = false:=by simp; omega
  go_enter Tryz.func125,Tryz.ntmps125
  go_wp2_with fail
  refine wp_region_later (by kernel_rfl) (by kernel_rfl) ?_
  repeat (go_big_quiet_step (fail))
  go_big_quiet_step (exact Later.call (has4 hx.out h0 h1 _ _ _ _))
  repeat (go_big_quiet_step (fail))
  go_big_quiet_step (exact Later.call (has8 hd.out h0 h1 _ _ _ _))
  repeat (go_big_quiet_step (fail))
  go_big_quiet_step (exact Later.call (has2 hr.out h0 h1 _ _ _ _))
  repeat (go_big_quiet_step (fail))
  go_big_quiet_step (exact Later.call (has1 he.out h0 h1 _ _ _ _))
  repeat (go_big_quiet_step (fail))
  refine wpQuiet_nil ?_
  rintro w1 ⟨m,rfl⟩
  have hz:w.heap.size < m.w.heap.size:=by have:=m.h.size; simp at this; omega
  have hbm:Below w.heap.size w m.w:=fbelow_a _ m.h
  go_wp2_with fail
  refine (has16 hB.out h0 h1 _ _ _ _).mono ?_
  rintro e2 w2 ⟨rfl,hb2⟩
  obtain ⟨hc2,hf2⟩:=fbcell hb2
  have hz2:w.heap.size < w2.heap.size:=Nat.lt_of_lt_of_le hz hb2.size
  go_wp2_with fail
  refine (has32 hS.out h0 h1 _ _ _ _).mono ?_
  rintro e3 w3 ⟨rfl,hb3⟩
  obtain ⟨hc3,hf3⟩:=fbcell hb3
  have hz3:w.heap.size < w3.heap.size:=Nat.lt_of_lt_of_le hz2 hb3.size
  have hbb:Below w.heap.size w w3:=fbelow_t (fbelow_t hbm hb2) hb3
  have hfin:∀ q:Bool,q = (e || decide (i ≤ 2047)) → ∀ p:Bool,p = isLen l → resB e i l d.size = (q && p && resD false l d.size):=fun q hq p hp => by rw [hq,hp]; rfl
  have Hfin:=Lib.hid hfin
  clear hfin
  cases e
  · by_cases hi:2047 < i
    · go_wp2
      go_ret
      exact ⟨fret_bool (by rw [Hfin.out false (by simp; omega) _ rfl]; rfl),hbb⟩
    · have t5:decide (2047 < i) = false:=by simp; omega
      have hq:true = (false || decide (i ≤ 2047)):=by simp; omega
      have HQ:=Lib.hid hq
      clear hq
      by_cases l0:l < 0
      · go_wp2
        go_ret
        exact ⟨fret_bool (by rw [Hfin.out _ rfl false (isLen_lo l0).symm]; simp),hbb⟩
      have t6:decide (l < 0) = false:=by simp; omega
      by_cases l1:64 < l
      · go_wp2
        go_ret
        exact ⟨fret_bool (by rw [Hfin.out _ rfl false (isLen_hi l1).symm]; simp),hbb⟩
      have t7:decide (64 < l) = false:=by simp; omega
      cases hL:isLen l
      · have HL:=Lib.hid hL
        have t9:decide (codeN l < 0) = true:=by unfold isLen at hL; simp at hL; simp; omega
        have t9':codeN l < 0:=by simpa using t9
        clear hL
        go_wp2_with fail
        refine (rcode_any l _).mono ?_
        rintro e4 w4 ⟨rfl,hb4⟩
        obtain ⟨hc4,hf4⟩:=fbcell hb4
        go_wp2
        go_ret
        exact ⟨fret_bool (by rw [Hfin.out _ rfl false HL.out.symm]; simp),fbelow_t hbb hb4⟩
      · have HL:=Lib.hid hL
        have t9:decide (codeN l < 0) = false:=by unfold isLen at hL; simp at hL; simp; omega
        have t9':¬ codeN l < 0:=by simpa using t9
        clear hL
        go_wp2_with fail
        refine (rcode_any l _).mono ?_
        rintro e4 w4 ⟨rfl,hb4⟩
        obtain ⟨hc4,hf4⟩:=fbcell hb4
        go_wp2
        go_ret
        exact ⟨fret_bool (by rw [Hfin.out true HQ.out true HL.out.symm]; exact resD_f l d),fbelow_t hbb hb4⟩
  · have hq:true = (true || decide (i ≤ 2047)):=rfl
    by_cases hi:2047 < i
    all_goals
      try (have t5:decide (2047 < i) = false:=by simp; omega)
      have HQ:=Lib.hid hq
      clear hq
      by_cases l0:l < 0
      · go_wp2
        go_ret
        exact ⟨fret_bool (by rw [Hfin.out _ rfl false (isLen_lo l0).symm]; simp),hbb⟩
      have t6:decide (l < 0) = false:=by simp; omega
      by_cases l1:64 < l
      · go_wp2
        go_ret
        exact ⟨fret_bool (by rw [Hfin.out _ rfl false (isLen_hi l1).symm]; simp),hbb⟩
      have t7:decide (64 < l) = false:=by simp; omega
      cases hL:isLen l
      · have HL:=Lib.hid hL
        have t9:decide (codeN l < 0) = true:=by unfold isLen at hL; simp at hL; simp; omega
        have t9':codeN l < 0:=by simpa using t9
        clear hL
        go_wp2_with fail
        refine (rcode_any l _).mono ?_
        rintro e4 w4 ⟨rfl,hb4⟩
        obtain ⟨hc4,hf4⟩:=fbcell hb4
        go_wp2
        go_ret
        exact ⟨fret_bool (by rw [Hfin.out _ rfl false HL.out.symm]; simp),fbelow_t hbb hb4⟩
      · have HL:=Lib.hid hL
        have t9:decide (codeN l < 0) = false:=by unfold isLen at hL; simp at hL; simp; omega
        have t9':¬ codeN l < 0:=by simpa using t9
        clear hL
        go_wp2_with fail
        refine (rcode_any l _).mono ?_
        rintro e4 w4 ⟨rfl,hb4⟩
        obtain ⟨hc4,hf4⟩:=fbcell hb4
        go_wp2
        go_ret
        exact ⟨fret_bool (by rw [Hfin.out true HQ.out true HL.out.symm]; exact resD_f l d),fbelow_t hbb hb4⟩
end Go.Proofs.YtimdkcchjanpaaaGreatDoor
namespace Go.Proofs.YtimdkcchjanpaaaGreatDoor
open Go.RowKit
set_option linter.unusedVariables false
theorem or_u32 (a b:Nat) (ha:a < 4294967296) (hb:b < 4294967296) (hab:a + b < 4294967296) (h:a &&& b = 0):bits .or .u32 (a:Int) (b:Int) = (a:Int) + b:=by
  have e1:(BitVec.ofInt 32 (a:Int)).toNat = a:=by rw [BitVec.ofInt_natCast,BitVec.toNat_ofNat]; exact Nat.mod_eq_of_lt (by omega)
  have e2:(BitVec.ofInt 32 (b:Int)).toNat = b:=by rw [BitVec.ofInt_natCast,BitVec.toNat_ofNat]; exact Nat.mod_eq_of_lt (by omega)
  have hz:BitVec.ofInt 32 (a:Int) &&& BitVec.ofInt 32 (b:Int) = 0#32:=by
    apply BitVec.eq_of_toNat_eq
    rw [BitVec.toNat_and,e1,e2,h]; rfl
  show IntKind.u32.wrap (((BitVec.ofInt 32 (a:Int)) ||| (BitVec.ofInt 32 (b:Int))).toNat:Int) = _
  rw [← BitVec.add_eq_or_of_and_eq_zero _ _ hz,BitVec.toNat_add,e1,e2,IntKind.wrap_u32]
  omega
theorem or_pow (a i:Nat) (hi:i < 32) (ha:a + 2 ^ i < 4294967296) (h:a / 2 ^ i % 2 = 0):bits .or .u32 (a:Int) ((2 ^ i:Nat):Int) = (a:Int) + ((2 ^ i:Nat):Int) :=
  or_u32 a (2 ^ i) (Nat.lt_of_le_of_lt (Nat.le_add_right _ _) ha) (Nat.lt_of_le_of_lt (Nat.le_add_left _ _) ha) ha (by rw [nat_and_pow,h,Nat.zero_mul])
theorem or31 (a:Int) (h0:0 ≤ a) (h1:a < 2147483648):bits .or .u32 a 2147483648 = a + 2147483648:=by
  obtain ⟨k,rfl⟩:=Int.eq_ofNat_of_zero_le h0
  exact or_pow k 31 (by decide) (by omega) (by omega)
theorem or30 (a:Int) (h0:0 ≤ a) (h1:a < 3221225472) (h:a / 1073741824 % 2 = 0):bits .or .u32 a 1073741824 = a + 1073741824:=by
  obtain ⟨k,rfl⟩:=Int.eq_ofNat_of_zero_le h0
  exact or_pow k 30 (by decide) (by omega) (by omega)
theorem or29 (a:Int) (h0:0 ≤ a) (h1:a < 536870912):bits .or .u32 a 536870912 = a + 536870912:=by
  obtain ⟨k,rfl⟩:=Int.eq_ofNat_of_zero_le h0
  exact or_pow k 29 (by decide) (by omega) (by omega)
theorem okFl_parts {n:Int} (h0:0 ≤ n) (h1:n ≤ 63):okFl n = (!(fX n && (fE n || fR n || fD n)) && !(fD n && fR n) && !((fB n || fS n) && !fD n)):=by
  unfold okFl
  rw [decide_eq_true h0,decide_eq_true h1]
  simp
theorem okF_out {i n l:Int} {sz:Nat} (h:n < 0 ∨ 63 < n ∨ i < 0 ∨ 536870911 < i):okF i n l sz = false:=by
  unfold okF okFl idOk
  rcases h with h | h | h | h
  · rw [decide_eq_false (show ¬ 0 ≤ n by omega)]; simp
  · rw [decide_eq_false (show ¬ n ≤ 63 by omega)]; simp
  · rw [decide_eq_false (show ¬ 0 ≤ i by omega)]; simp
  · have ht:topN n ≤ 536870911:=by unfold topN; split <;> omega
    rw [decide_eq_false (show ¬ i ≤ topN n by omega)]; simp
theorem rright_out (i n l:Int) (d:ByteArray) (w:World) (h:n < 0 ∨ 63 < n ∨ i < 0 ∨ 536870911 < i) :
    Calls Tryz.prog 125 #[.agg #[.int .i64 i, .int .i64 n, .int .i64 l, .string d]] w fun e w' => e = .returned (.bool false) ∧ Below w.heap.size w w':=by
  by_cases a:n < 0
  · have t1:decide (n < 0) = true:=by simp; omega
    clear h
    go_enter Tryz.func125,Tryz.ntmps125
    go_wp2
    go_ret
    exact ⟨rfl,(Below.refl _ _).alloc (Nat.le_refl _) _⟩
  have t1:decide (n < 0) = false:=by simp; omega
  by_cases b:63 < n
  · have t2:decide (63 < n) = true:=by simp; omega
    clear h
    go_enter Tryz.func125,Tryz.ntmps125
    go_wp2
    go_ret
    exact ⟨rfl,(Below.refl _ _).alloc (Nat.le_refl _) _⟩
  have t2:decide (63 < n) = false:=by simp; omega
  by_cases c:i < 0
  · have t3:decide (i < 0) = true:=by simp; omega
    clear h
    go_enter Tryz.func125,Tryz.ntmps125
    go_wp2
    go_ret
    exact ⟨rfl,(Below.refl _ _).alloc (Nat.le_refl _) _⟩
  have t3:decide (i < 0) = false:=by simp; omega
  have t4:decide (536870911 < i) = true:=by simp; omega
  have c4:536870911 < i:=by omega
  clear h
  go_enter Tryz.func125,Tryz.ntmps125
  go_wp2
  go_ret
  exact ⟨rfl,(Below.refl _ _).alloc (Nat.le_refl _) _⟩
theorem topN_v {n:Int} {e x:Bool} (he:fE n = e) (hx:fX n = x):topN n = if e || x then 536870911 else 2047:=by unfold topN; rw [he,hx]
theorem rright_any (i n l:Int) (d:ByteArray) (w:World) :
    Calls Tryz.prog 125 #[.agg #[.int .i64 i, .int .i64 n, .int .i64 l, .string d]] w fun e w' => e = .returned (.bool (okF i n l d.size)) ∧ Below w.heap.size w w':=by
  by_cases h:n < 0 ∨ 63 < n ∨ i < 0 ∨ 536870911 < i
  · rw [okF_out h]
    exact rright_out i n l d w h
  have h0:0 ≤ n:=by omega
  have h1:n ≤ 63:=by omega
  have h2:0 ≤ i:=by omega
  have h3:i ≤ 536870911:=by omega
  have hp:=okFl_parts h0 h1
  cases ho:okFl n
  · have:okF i n l d.size = false:=by unfold okF; rw [ho]; rfl
    rw [this]
    refine rright_bad i n l d w h0 h1 h2 h3 _ _ _ _ _ _ (Lib.hid rfl) (Lib.hid rfl) (Lib.hid rfl) (Lib.hid rfl) (Lib.hid rfl) (Lib.hid rfl) (Lib.hid ?_)
    rw [hp] at ho
    revert ho
    cases fX n <;> cases fE n <;> cases fR n <;> cases fD n <;> cases fB n <;> cases fS n <;> decide
  · rw [hp] at ho
    have hok:okF i n l d.size = (idOk i n && lenOk n l && datOk n l d.size):=by unfold okF; rw [hp,ho]; rfl
    rw [hok]
    cases hX:fX n
    · cases hD:fD n
      · have hB:fB n = false:=by revert ho; rw [hX,hD]; cases fE n <;> cases fR n <;> cases fB n <;> cases fS n <;> decide
        have hS:fS n = false:=by revert ho; rw [hX,hD]; cases fE n <;> cases fR n <;> cases fB n <;> cases fS n <;> decide
        have e:(idOk i n && lenOk n l && datOk n l d.size) = resC (fE n) (fR n) i l d.size:=by
          unfold idOk lenOk datOk resC resD
          rw [topN_v rfl hX,hX,hD,decide_eq_true h2]
          cases fE n
          · simp
          · simp [h3]
        rw [e]
        exact rright_C i n l d w h0 h1 h2 h3 _ _ (Lib.hid rfl) (Lib.hid rfl) (Lib.hid hX) (Lib.hid hD) (Lib.hid hB) (Lib.hid hS)
      · have hR:fR n = false:=by revert ho; rw [hX,hD]; cases fE n <;> cases fR n <;> cases fB n <;> cases fS n <;> decide
        have e:(idOk i n && lenOk n l && datOk n l d.size) = resB (fE n) i l d.size:=by
          unfold idOk lenOk datOk resB resD
          rw [topN_v rfl hX,hX,hD,hR,decide_eq_true h2]
          cases fE n
          · simp
          · simp [h3]
        rw [e]
        cases hB:fB n
        · cases hS:fS n
          · exact rright_Bff i n l d w h0 h1 h2 h3 _ (Lib.hid rfl) (Lib.hid hR) (Lib.hid hX) (Lib.hid hD) (Lib.hid hB) (Lib.hid hS)
          · exact rright_Bft i n l d w h0 h1 h2 h3 _ (Lib.hid rfl) (Lib.hid hR) (Lib.hid hX) (Lib.hid hD) (Lib.hid hB) (Lib.hid hS)
        · exact rright_Bt i n l d w h0 h1 h2 h3 _ _ (Lib.hid rfl) (Lib.hid hR) (Lib.hid hX) (Lib.hid hD) (Lib.hid hB) (Lib.hid rfl)
    · have hE:fE n = false:=by revert ho; rw [hX]; cases fE n <;> cases fR n <;> cases fD n <;> cases fB n <;> cases fS n <;> decide
      have hR:fR n = false:=by revert ho; rw [hX]; cases fE n <;> cases fR n <;> cases fD n <;> cases fB n <;> cases fS n <;> decide
      have hD:fD n = false:=by revert ho; rw [hX]; cases fE n <;> cases fR n <;> cases fD n <;> cases fB n <;> cases fS n <;> decide
      have hB:fB n = false:=by revert ho; rw [hX,hD]; cases fE n <;> cases fR n <;> cases fB n <;> cases fS n <;> decide
      have hS:fS n = false:=by revert ho; rw [hX,hD]; cases fE n <;> cases fR n <;> cases fB n <;> cases fS n <;> decide
      have e:(idOk i n && lenOk n l && datOk n l d.size) = resA l d.size:=by
        unfold idOk lenOk datOk resA resD
        rw [topN_v hE hX,hX,hR,decide_eq_true h2]
        simp [h3]
      rw [e]
      exact rright_A i n l d w h0 h1 h2 h3 (Lib.hid hE) (Lib.hid hR) (Lib.hid hX) (Lib.hid hD) (Lib.hid hB) (Lib.hid hS)
theorem rright_v {i n l:Int} {d:ByteArray} {q:Bool} (h:okF i n l d.size = q) (w:World) :
    Calls Tryz.prog 125 #[.agg #[.int .i64 i, .int .i64 n, .int .i64 l, .string d]] w fun e w' => e = .returned (.bool q) ∧ Below w.heap.size w w':=by rw [← h]; exact rright_any i n l d w
theorem right_t {i n l:Int} {d:ByteArray} (h:okF i n l d.size = true) (w:World) (hT:Tabs w) :
    Calls Tryz.prog 75 #[.agg #[.int .i64 i, .int .i64 n, .int .i64 l, .string d]] w fun e w' => e = .returned (.int .i64 0) ∧ Below w.heap.size w w':=by
  have hn:0 ≤ n ∧ n ≤ 63:=by
    apply Classical.byContradiction
    intro hc
    rw [okF_out (by omega)] at h
    cases h
  have:=right_any i n l d w hT (by omega) (by omega)
  rw [h] at this
  exact this
theorem right_f {i n l:Int} {d:ByteArray} (h:okF i n l d.size = false) (w:World) (hT:Tabs w) (hn1 : -9223372036854775808 ≤ n) (hn2:n ≤ 9223372036854775807) :
    Calls Tryz.prog 75 #[.agg #[.int .i64 i, .int .i64 n, .int .i64 l, .string d]] w fun e w' => e = .returned (.int .i64 4) ∧ Below w.heap.size w w':=by
  have:=right_any i n l d w hT hn1 hn2
  rw [h] at this
  exact this
structure Good (i n l:Int) (sz:Nat):Prop where
  n0:0 ≤ n
  n1:n ≤ 63
  i0:0 ≤ i
  i1:i ≤ topN n
  fl:okFl n = true
  ln:lenOk n l = true
  dt:datOk n l sz = true
theorem good {i n l:Int} {sz:Nat} (h:okF i n l sz = true):Good i n l sz:=by
  have h':=h
  unfold okF idOk at h'
  simp only [Bool.and_eq_true,decide_eq_true_eq] at h'
  have hn:0 ≤ n ∧ n ≤ 63:=by
    apply Classical.byContradiction
    intro hc
    rw [okF_out (by omega)] at h
    cases h
  exact ⟨hn.1,hn.2,h'.1.1.2.1,h'.1.1.2.2,h'.1.1.1,h'.1.2,h'.2⟩
theorem Good.top {i n l:Int} {sz:Nat} (h:Good i n l sz):i ≤ 536870911:=by
  have:=h.i1; unfold topN at this; split at this <;> omega
theorem Good.noXE {i n l:Int} {sz:Nat} (h:Good i n l sz) (hx:fX n = true):fE n = false ∧ fR n = false ∧ fD n = false:=by
  have h1:=h.fl
  rw [okFl_parts h.n0 h.n1,hx] at h1
  revert h1
  cases fE n <;> cases fR n <;> cases fD n <;> cases fB n <;> cases fS n <;> decide
end Go.Proofs.YtimdkcchjanpaaaGreatDoor
