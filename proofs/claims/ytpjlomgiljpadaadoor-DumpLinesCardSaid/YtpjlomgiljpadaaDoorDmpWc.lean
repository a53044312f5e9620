/- Dump: the document's Read: eight digits, without Err (printed by gen_read.py). -/
import Derived.Test.YtpjlomgiljpadaaDoorDmpV
namespace Go.Proofs.YtpjlomgiljpadaaDoor
open Go.RowKit
set_option linter.unusedVariables false


set_option maxHeartbeats 4000000 in
set_option maxRecDepth 100000 in
theorem rread_c {s : ByteArray} {a b : List Int} (hs : s.size ≤ 1000000) (hc : cutL 35 (byL s) = some (a, b)) (hl : a.length = 8) (hd : digs a = true) (hx : numL a < 536870912) (w : World) :
    Calls Tryd.prog 13 #[.string s] w (rrPost s w) := by
  obtain ⟨p1, p2, p3, p4, p5, p6⟩ := cut_parts hc
  have hnb := numL_bd a hd
  rw [hl] at p1 p2 p3 p4 p5 p6 hnb
  have e16 : ((16 ^ 8 : Nat) : Int) = 4294967296 := rfl
  rw [e16] at hnb
  have HNE := Lib.hid p3
  have H35 := Lib.hid p2
  have HSZ := Lib.hid p1
  have es : ((8 : Int) == (s.size : Int)) = false := by simp; omega
  have hvs : (s.extract 0 8).size ≤ 12 := by rw [sub_size _ _ _ (by omega)]; omega
  obtain ⟨v, hve⟩ : ∃ v, numL a = v := ⟨_, rfl⟩
  have HV : Hid (numV (s.extract 0 8) = v) := Lib.hid (by rw [numV_of p4, hd, if_pos rfl, hve])
  rw [hve] at hnb
  rw [hve] at hx
  have HH : Hid (headO a = some (v, 1)) := Lib.hid (by rw [headO_8 hl hd, hve, if_neg (by omega)])
  have HC := Lib.hid hc
  obtain ⟨T, hT⟩ : ∃ T, s.extract 9 s.size = T := ⟨_, rfl⟩
  have HTb : Hid (byL T = b) := Lib.hid (by rw [← hT]; exact p5)
  have hTs : T.size ≤ 1000000 := by rw [← hT, sub_size _ _ _ (Nat.le_refl _)]; omega
  have v0 : 0 ≤ v := hnb.1
  have v1 : v < 1073741824 := by omega
  have d1 : decide (v < 0) = false := decide_eq_false (by omega)
  have d2 : decide (1073741824 ≤ v) = false := decide_eq_false (by omega)
  have d3 : decide (536870912 ≤ v) = false := decide_eq_false (by omega)
  have HVB := Lib.hid hnb
  clear p1 p2 p3 p4 p5 p6 hl hd hc hve hnb e16 hx
  go_enter Tryd.func13, Tryd.ntmps13
  go_wp2_with fail
  go_loop [5] (fun i => ∃ j : Nat, j ≤ 8 ∧ i = .int .i64 j) (fun i => 8 - (intOf i).toNat)
  case atStart => exact ⟨0, Nat.zero_le _, rfl⟩
  case round =>
    obtain ⟨j, hj, rfl⟩ := hrel
    have hjs : j < s.size := by have := HSZ.out; omega
    have hi0 : ∀ w, (Instr.index 9 (.string s) (.int .i64 j)).run Tryd.prog w = .ok (.int .u8 (bt s j)) w := index_bt Tryd.underlying9 hjs
    by_cases hlt : j < 8
    · have c1 : (bt s j == 35) = false := by simpa using HNE.out j hlt
      have c2 : (bt s j != 35) = true := by simpa using HNE.out j hlt
      go_wp2_with fail
      go_round
      case rel => exact ⟨j + 1, by omega, by go_num⟩
      case measure => simp [intOf]; omega
    obtain rfl : j = 8 := by omega
    have c1 : (bt s 8 == 35) = true := by have := H35.out; simpa using this
    have c2 : (bt s 8 != 35) = false := by have := H35.out; simpa using this
    clear hlt hj
    have hiK : ∀ w, (Instr.index 9 (.string s) (.int .i64 8)).run Tryd.prog w = .ok (.int .u8 (bt s 8)) w := hi0
    clear hi0
    go_wp2_with fail
    refine (number_v HV.out hvs _).mono ?_
    rintro e w1 ⟨rfl, rfl⟩
    clear c1 c2 hiK hvs es
    by_cases hT0 : T.size = 0
    · have hTe := empty_of hT0
      subst hTe
      have HOf : Hid ((datL (byL (ByteArray.mk #[])) = none → readO (byL s) = none) ∧ ∀ d, datL (byL (ByteArray.mk #[])) = some d → readO (byL s) = if okF v 1 (strOfNums d).size (strOfNums d).size then some ⟨v, 1, (strOfNums d).size, strOfNums d⟩ else none) := Lib.hid ⟨(fun h => by cases h), fun d h => readO_of HC.out HH.out (by rw [← HTb.out, bodyO_raw (.inl rfl)]; exact rawO_some h) (by rfl)⟩
      go_wp2_with fail
      cases hdat : datL (byL (ByteArray.mk #[]))
      · have HDAT := Lib.hid hdat
        have HRR := Lib.hid (HOf.out.1 hdat)
        clear hdat
        refine (rdata_n HDAT.out (by omega) _).mono ?_
        rintro e w2 ⟨rfl, hb2⟩
        have HRB2 := Lib.hid (RB.later RB.start hb2)
        clear hb2
        obtain ⟨⟨a0, a1, a2, a3, b0, b1, b2, b3⟩, ⟨z0, z1, z2, z3, y0, y1, y2, y3⟩, ⟨f0, f1, f2, f3, g0, g1, g2, g3⟩, hzz⟩ := HRB2.out.facts
        go_wp2_with fail
        refine bodyPost_ret (v := .tuple #[.agg #[.int .i64 0, .int .i64 0, .int .i64 0, .string (ByteArray.mk #[])], .bool false]) (by simp [results, Tryd.results13, go_sem, a0, a1, a2, a3]) rfl (rrPost_no HRR.out ?_)
        exact HRB2.out.done _ _ _ _
      · rename_i dd
        obtain ⟨X, hX⟩ : ∃ X, strOfNums dd = X := ⟨_, rfl⟩
        have HX := Lib.hid hX
        have HDAT := Lib.hid hdat
        have HO := Lib.hid (HOf.out.2 dd hdat)
        rw [hX] at HO
        have hXm : X.size ≤ 1000000 := by have := (datL_plain hdat).2.2; rw [byL_len] at this; rw [← hX, strOfNums_size]; omega
        clear hdat hX
        refine (rdata_v HDAT.out HX.out (by omega) _).mono ?_
        rintro e w2 ⟨rfl, hb2⟩
        have HRB2 := Lib.hid (RB.later RB.start hb2)
        clear hb2
        obtain ⟨⟨a0, a1, a2, a3, b0, b1, b2, b3⟩, ⟨z0, z1, z2, z3, y0, y1, y2, y3⟩, ⟨f0, f1, f2, f3, g0, g1, g2, g3⟩, hzz⟩ := HRB2.out.facts
        go_wp2_with fail
        cases hq : okF v 1 X.size (X).size
        · have HQ := Lib.hid hq
          have HRR := Lib.hid (HO.out.trans (by rw [hq]; done))
          clear hq
          refine (rright_v HQ.out _).mono ?_
          rintro e w3 ⟨rfl, hb3⟩
          have HRB3 := Lib.hid (RB.later (RB.set (RB.set HRB2.out 3 (.string X) rfl) 2 (.int .i64 X.size) rfl) hb3)
          clear hb3 a0 a1 a2 a3 b0 b1 b2 b3 z0 z1 z2 z3 y0 y1 y2 y3 f0 f1 f2 f3 g0 g1 g2 g3 hzz
          obtain ⟨⟨a0, a1, a2, a3, b0, b1, b2, b3⟩, ⟨z0, z1, z2, z3, y0, y1, y2, y3⟩, ⟨f0, f1, f2, f3, g0, g1, g2, g3⟩, hzz⟩ := HRB3.out.facts
          go_wp2_with fail
          refine bodyPost_ret (v := .tuple #[.agg #[.int .i64 0, .int .i64 0, .int .i64 0, .string (ByteArray.mk #[])], .bool false]) (by simp [results, Tryd.results13, go_sem, a0, a1, a2, a3]) rfl (rrPost_no HRR.out ?_)
          exact HRB3.out.done _ _ _ _
        · have HQ := Lib.hid hq
          have HRR := Lib.hid (HO.out.trans (by rw [hq]; done))
          clear hq
          refine (rright_v HQ.out _).mono ?_
          rintro e w3 ⟨rfl, hb3⟩
          have HRB3 := Lib.hid (RB.later (RB.set (RB.set HRB2.out 3 (.string X) rfl) 2 (.int .i64 X.size) rfl) hb3)
          clear hb3 a0 a1 a2 a3 b0 b1 b2 b3 z0 z1 z2 z3 y0 y1 y2 y3 f0 f1 f2 f3 g0 g1 g2 g3 hzz
          obtain ⟨⟨a0, a1, a2, a3, b0, b1, b2, b3⟩, ⟨z0, z1, z2, z3, y0, y1, y2, y3⟩, ⟨f0, f1, f2, f3, g0, g1, g2, g3⟩, hzz⟩ := HRB3.out.facts
          go_wp2_with fail
          refine bodyPost_ret (v := .tuple #[.agg #[.int .i64 v, .int .i64 1, .int .i64 X.size, .string (X)], .bool true]) (by simp [results, Tryd.results13, go_sem, a0, a1, a2, a3]) rfl (rrPost_yes HRR.out ?_)
          exact HRB3.out.done _ _ _ _

    have hT1 : 0 < T.size := by omega
    obtain ⟨x1, x2, x3⟩ := empty_f hT1
    have hi0 : ∀ w, (Instr.index 9 (.string T) (.int .i64 0)).run Tryd.prog w = .ok (.int .u8 (bt T 0)) w := index_bt (k := 0) Tryd.underlying9 hT1
    have hb0 := bt_lt T 0
    by_cases hR : bt T 0 = 82 ∨ bt T 0 = 114
    · have HR0 := Lib.hid hR
      by_cases hl3 : 2 < T.size
      · have HRR : Hid (readO (byL s) = none) := Lib.hid (readO_no HC.out (.inr (by rw [← HTb.out]; exact bodyO_ask3 hl3 hR)))
        have dl : decide ((2 : Int) < (T.size : Int)) = true := decide_eq_true (by omega)
        rcases hR with hR | hR
        all_goals
          rw [hR] at hi0
          clear hR hb0
          go_wp2_with fail

          refine bodyPost_ret (v := .tuple #[.agg #[.int .i64 0, .int .i64 0, .int .i64 0, .string (ByteArray.mk #[])], .bool false]) (by simp [results, Tryd.results13, go_sem]) rfl (rrPost_no HRR.out ?_)
          exact (((Below.refl _ _).alloc (Nat.le_refl _) _).alloc (by simp) _).alloc (by simp; omega) _

      have dl : decide ((2 : Int) < (T.size : Int)) = false := decide_eq_false (by omega)
      by_cases hl2 : T.size = 2
      · have e2 : ((T.size : Int) == 2) = true := by simp; omega
        obtain ⟨q, hq2⟩ : ∃ q, numV (T.extract 1 T.size) = q := ⟨_, rfl⟩
        have HQ2 := Lib.hid hq2
        have hz1 : (T.extract 1 T.size).size = 1 := by rw [sub_size _ _ _ (Nat.le_refl _)]; omega
        have HB := bodyO_ask2 hl2 hR hq2
        have hqb := numV_bd (T.extract 1 T.size) (by omega)
        rw [hq2] at hqb
        have HBH : Hid (bodyO b = if 1 ≤ q then some ⟨0, 2, q, ByteArray.mk #[]⟩ else none) := Lib.hid (by rw [← HTb.out]; exact HB)
        have HZ1 : Hid ((T.extract 1 T.size).size ≤ 12) := Lib.hid (by omega)
        clear HB hq2 hz1 hl2
        by_cases hq1 : q < 1
        · have HRR : Hid (readO (byL s) = none) := Lib.hid (readO_no HC.out (.inr (by rw [HBH.out, if_neg (by omega)])))
          have dq : decide (q < 1) = true := decide_eq_true hq1
          clear hl3 hT0
          rcases hR with hR | hR
          all_goals
            rw [hR] at hi0
            clear hR hb0
            go_wp2_with fail
            refine (number_v HQ2.out HZ1.out _).mono ?_
            rintro e w1 ⟨rfl, rfl⟩
            go_wp2_with fail
            refine bodyPost_ret (v := .tuple #[.agg #[.int .i64 0, .int .i64 0, .int .i64 0, .string (ByteArray.mk #[])], .bool false]) (by simp [results, Tryd.results13, go_sem]) rfl (rrPost_no HRR.out ?_)
            exact (((Below.refl _ _).alloc (Nat.le_refl _) _).alloc (by simp) _).alloc (by simp; omega) _
        · have HO : Hid (readO (byL s) = if okF v 3 q (ByteArray.mk #[]).size then some ⟨v, 3, q, ByteArray.mk #[]⟩ else none) := Lib.hid (readO_of HC.out HH.out (by rw [HBH.out, if_pos (by omega)]) (by rfl))
          have dq : decide (q < 1) = false := decide_eq_false hq1
          clear hl3 hT0 hq1
          rcases hR with hR | hR
          all_goals
            rw [hR] at hi0
            clear hR hb0
            go_wp2_with fail
            refine (number_v HQ2.out HZ1.out _).mono ?_
            rintro e w1 ⟨rfl, rfl⟩
            go_wp2_with fail
            cases hq : okF v 3 q ((ByteArray.mk #[])).size
            · have HQ := Lib.hid hq
              have HRR := Lib.hid (HO.out.trans (by rw [hq]; done))
              clear hq
              refine (rright_v HQ.out _).mono ?_
              rintro e w3 ⟨rfl, hb3⟩
              have HRB3 := Lib.hid (RB.later RB.start hb3)
              clear hb3
              obtain ⟨⟨a0, a1, a2, a3, b0, b1, b2, b3⟩, ⟨z0, z1, z2, z3, y0, y1, y2, y3⟩, ⟨f0, f1, f2, f3, g0, g1, g2, g3⟩, hzz⟩ := HRB3.out.facts
              go_wp2_with fail
              refine bodyPost_ret (v := .tuple #[.agg #[.int .i64 0, .int .i64 0, .int .i64 0, .string (ByteArray.mk #[])], .bool false]) (by simp [results, Tryd.results13, go_sem, a0, a1, a2, a3]) rfl (rrPost_no HRR.out ?_)
              exact HRB3.out.done _ _ _ _
            · have HQ := Lib.hid hq
              have HRR := Lib.hid (HO.out.trans (by rw [hq]; done))
              clear hq
              refine (rright_v HQ.out _).mono ?_
              rintro e w3 ⟨rfl, hb3⟩
              have HRB3 := Lib.hid (RB.later RB.start hb3)
              clear hb3
              obtain ⟨⟨a0, a1, a2, a3, b0, b1, b2, b3⟩, ⟨z0, z1, z2, z3, y0, y1, y2, y3⟩, ⟨f0, f1, f2, f3, g0, g1, g2, g3⟩, hzz⟩ := HRB3.out.facts
              go_wp2_with fail
              refine bodyPost_ret (v := .tuple #[.agg #[.int .i64 v, .int .i64 3, .int .i64 q, .string ((ByteArray.mk #[]))], .bool true]) (by simp [results, Tryd.results13, go_sem, a0, a1, a2, a3]) rfl (rrPost_yes HRR.out ?_)
              exact HRB3.out.done _ _ _ _
      · have e2 : ((T.size : Int) == 2) = false := by simp; omega
        have HO : Hid (readO (byL s) = if okF v 3 0 (ByteArray.mk #[]).size then some ⟨v, 3, 0, ByteArray.mk #[]⟩ else none) := Lib.hid (readO_of HC.out HH.out (by rw [← HTb.out]; exact bodyO_ask1 (by omega) hR) (by rfl))
        clear hl3 hT0 hl2
        rcases hR with hR | hR
        all_goals
          rw [hR] at hi0
          clear hR hb0
          go_wp2_with fail
          cases hq : okF v 3 0 ((ByteArray.mk #[])).size
          · have HQ := Lib.hid hq
            have HRR := Lib.hid (HO.out.trans (by rw [hq]; done))
            clear hq
            refine (rright_v HQ.out _).mono ?_
            rintro e w3 ⟨rfl, hb3⟩
            have HRB3 := Lib.hid (RB.later RB.start hb3)
            clear hb3
            obtain ⟨⟨a0, a1, a2, a3, b0, b1, b2, b3⟩, ⟨z0, z1, z2, z3, y0, y1, y2, y3⟩, ⟨f0, f1, f2, f3, g0, g1, g2, g3⟩, hzz⟩ := HRB3.out.facts
            go_wp2_with fail
            refine bodyPost_ret (v := .tuple #[.agg #[.int .i64 0, .int .i64 0, .int .i64 0, .string (ByteArray.mk #[])], .bool false]) (by simp [results, Tryd.results13, go_sem, a0, a1, a2, a3]) rfl (rrPost_no HRR.out ?_)
            exact HRB3.out.done _ _ _ _
          · have HQ := Lib.hid hq
            have HRR := Lib.hid (HO.out.trans (by rw [hq]; done))
            clear hq
            refine (rright_v HQ.out _).mono ?_
            rintro e w3 ⟨rfl, hb3⟩
            have HRB3 := Lib.hid (RB.later RB.start hb3)
            clear hb3
            obtain ⟨⟨a0, a1, a2, a3, b0, b1, b2, b3⟩, ⟨z0, z1, z2, z3, y0, y1, y2, y3⟩, ⟨f0, f1, f2, f3, g0, g1, g2, g3⟩, hzz⟩ := HRB3.out.facts
            go_wp2_with fail
            refine bodyPost_ret (v := .tuple #[.agg #[.int .i64 v, .int .i64 3, .int .i64 0, .string ((ByteArray.mk #[]))], .bool true]) (by simp [results, Tryd.results13, go_sem, a0, a1, a2, a3]) rfl (rrPost_yes HRR.out ?_)
            exact HRB3.out.done _ _ _ _

    have r1 : (bt T 0 == 82) = false := by simp; omega
    have r2 : (bt T 0 == 114) = false := by simp; omega
    by_cases hF : bt T 0 = 35
    · have r3 : (bt T 0 == 35) = true := by simpa using hF
      by_cases hl2 : T.size < 2
      · have HRR : Hid (readO (byL s) = none) := Lib.hid (readO_no HC.out (.inr (by rw [← HTb.out]; exact bodyO_fd1 (by omega) hF)))
        have dl : decide ((T.size : Int) < 2) = true := decide_eq_true (by omega)
        clear hF hR hl2 hT0
        go_wp2_with fail
        refine bodyPost_ret (v := .tuple #[.agg #[.int .i64 0, .int .i64 0, .int .i64 0, .string (ByteArray.mk #[])], .bool false]) (by simp [results, Tryd.results13, go_sem]) rfl (rrPost_no HRR.out ?_)
        exact (((Below.refl _ _).alloc (Nat.le_refl _) _).alloc (by simp) _).alloc (by simp; omega) _
      have dl : decide ((T.size : Int) < 2) = false := decide_eq_false (by omega)
      have hi1 : ∀ w, (Instr.index 9 (.string T) (.int .i64 1)).run Tryd.prog w = .ok (.int .u8 (bt T 1)) w := index_bt (k := 1) Tryd.underlying9 (by omega)
      have hb1 := bt_lt T 1
      have hF2 := bodyO_fd2 (by omega) hF
      obtain ⟨m, hm⟩ : ∃ m, dig (bt T 1) = m := ⟨_, rfl⟩
      have hmb := dig_bd (bt T 1)
      rw [hm] at hF2 hmb
      rw [HTb.out] at hF2
      have HM := Lib.hid hm
      have HF2 := Lib.hid hF2
      have hTz : 1 < T.size := by omega
      clear hm hF2 hF hR hT0 hl2
      by_cases h3 : 3 < m
      · have HRR : Hid (readO (byL s) = none) := Lib.hid (readO_no HC.out (.inr (by rw [HF2.out, if_neg (by omega)])))
        have dm : decide (3 < m) = true := decide_eq_true h3
        clear h3
        go_wp2_with fail
        refine (rdigit_v HM.out hb1.1 hb1.2 _).mono ?_
        rintro e w1 ⟨rfl, rfl⟩
        go_wp2_with fail
        refine bodyPost_ret (v := .tuple #[.agg #[.int .i64 0, .int .i64 0, .int .i64 0, .string (ByteArray.mk #[])], .bool false]) (by simp [results, Tryd.results13, go_sem]) rfl (rrPost_no HRR.out ?_)
        exact (((Below.refl _ _).alloc (Nat.le_refl _) _).alloc (by simp) _).alloc (by simp; omega) _
      have dm : decide (3 < m) = false := decide_eq_false h3
      obtain ⟨U, hU⟩ : ∃ U, T.extract 2 T.size = U := ⟨_, rfl⟩
      have hUs : U.size ≤ 1000000 := by rw [← hU, sub_size _ _ _ (Nat.le_refl _)]; omega
      have HF3 := Lib.hid (HF2.out.trans (if_pos (by omega)))
      rw [hU] at HF3
      have HOf : Hid ((datL (byL U) = none → readO (byL s) = none) ∧ ∀ d, datL (byL U) = some d → readO (byL s) = if okF v (9 + m * 16) (strOfNums d).size (strOfNums d).size then some ⟨v, 9 + m * 16, (strOfNums d).size, strOfNums d⟩ else none) := Lib.hid
        ⟨fun h => readO_no HC.out (.inr (by rw [HF3.out, h]; rfl)), fun d h => readO_of (g := ⟨0, 8 + 16 * m, (strOfNums d).size, strOfNums d⟩) HC.out HH.out (by rw [HF3.out, h]; simp only [Option.map_some, strOfNums_size]) (by show 8 + 16 * m + 1 = _; omega)⟩
      have m4 : m ≤ 3 := by omega
      clear h3
      go_wp2_with fail
      refine (rdigit_v HM.out hb1.1 hb1.2 _).mono ?_
      rintro e w1 ⟨rfl, rfl⟩
      have k1 : IntKind.i64.wrap (m * 16) = m * 16 := IntWalk.i64_in _ (by omega)
      have k2 : IntKind.i64.wrap (9 + m * 16) = 9 + m * 16 := IntWalk.i64_in _ (by omega)
      go_wp2_with fail
      have hlc := later_cells (((w.alloc (.cells #[.int .i64 0, .int .i64 0, .int .i64 0, .string (ByteArray.mk #[])] 23)).alloc (.cells #[.int .i64 0, .int .i64 0, .int .i64 0, .string (ByteArray.mk #[])] 23)).alloc (.cells #[.int .i64 v, .int .i64 1, .int .i64 0, .string (ByteArray.mk #[])] 23))
      refine wp_region_sec 9 [] (fun _ _ _ => True) (fun _ _ _ _ _ _ => trivial) (by kernel_rfl) (by kernel_rfl) (by kernel_rfl) (by kernel_rfl) (by kernel_rfl) ?_
      simp only [List.take_succ_cons, List.take_zero, List.drop_succ_cons, List.drop_zero]
      refine sec_plain (by rfl) (by rfl) (by rfl) (by rfl) ?_
      intro K hK
      go_big_quiet_op
      go_big_quiet_on
      refine sec_plain (by rfl) (by rfl) (by rfl) (by rfl) ?_
      intro K hK
      go_big_quiet_op
      go_big_quiet_on
      refine sec_plain (by rfl) (by rfl) (by rfl) (by rfl) ?_
      intro K hK
      go_big_quiet_op
      go_big_quiet_on
      refine sec_plain (by rfl) (by rfl) (by rfl) (by rfl) ?_
      intro K hK
      go_big_quiet_op
      go_big_quiet_on
      refine sec_plain (by rfl) (by rfl) (by rfl) (by rfl) ?_
      intro K hK
      go_big_quiet_op
      go_big_quiet_on
      refine sec_call (v := .int .i64 m) (by rfl) (by rfl) (by rfl) (by rfl) (by rfl) ?_ ?_
      · intro q K hK
        go_big_quiet_op
        exact ⟨_, fun q => Later.same (rdigit_v HM.out hb1.1 hb1.2 _), hK⟩
      simp only [Act.put, List.setIfInBounds_toArray, List.set_cons_succ, List.set_cons_zero]
      refine sec_plain (by rfl) (by rfl) (by rfl) (by rfl) ?_
      intro K hK
      go_big_quiet_op
      go_big_quiet_on
      refine sec_plain (by rfl) (by rfl) (by rfl) (by rfl) ?_
      intro K hK
      go_big_quiet_op
      go_big_quiet_on
      refine sec_plain (by rfl) (by rfl) (by rfl) (by rfl) ?_
      intro K hK
      go_big_quiet_op
      go_big_quiet_on
      intro xs q hF
      simp only [secFill]
      clear xs hF hlc k1 k2
      have HRBm := Lib.hid (RB.later RB.start q.h)
      generalize q.w = qw at HRBm ⊢
      clear q
      obtain ⟨⟨a0, a1, a2, a3, b0, b1, b2, b3⟩, ⟨z0, z1, z2, z3, y0, y1, y2, y3⟩, ⟨f0, f1, f2, f3, g0, g1, g2, g3⟩, hzz⟩ := HRBm.out.facts
      go_wp2_with fail
      cases hdat : datL (byL U)
      · have HDAT := Lib.hid hdat
        have HRR := Lib.hid (HOf.out.1 hdat)
        clear hdat
        refine (rdata_n HDAT.out (by omega) _).mono ?_
        rintro e w2 ⟨rfl, hb2⟩
        have HRB2 := Lib.hid (RB.later (RB.set HRBm.out 1 (.int .i64 (9 + m * 16)) rfl) hb2)
        clear hb2
        obtain ⟨⟨a0, a1, a2, a3, b0, b1, b2, b3⟩, ⟨z0, z1, z2, z3, y0, y1, y2, y3⟩, ⟨f0, f1, f2, f3, g0, g1, g2, g3⟩, hzz⟩ := HRB2.out.facts
        go_wp2_with fail
        refine bodyPost_ret (v := .tuple #[.agg #[.int .i64 0, .int .i64 0, .int .i64 0, .string (ByteArray.mk #[])], .bool false]) (by simp [results, Tryd.results13, go_sem, a0, a1, a2, a3]) rfl (rrPost_no HRR.out ?_)
        exact HRB2.out.done _ _ _ _
      · rename_i dd
        obtain ⟨X, hX⟩ : ∃ X, strOfNums dd = X := ⟨_, rfl⟩
        have HX := Lib.hid hX
        have HDAT := Lib.hid hdat
        have HO := Lib.hid (HOf.out.2 dd hdat)
        rw [hX] at HO
        have hXm : X.size ≤ 1000000 := by have := (datL_plain hdat).2.2; rw [byL_len] at this; rw [← hX, strOfNums_size]; omega
        clear hdat hX
        refine (rdata_v HDAT.out HX.out (by omega) _).mono ?_
        rintro e w2 ⟨rfl, hb2⟩
        have HRB2 := Lib.hid (RB.later (RB.set HRBm.out 1 (.int .i64 (9 + m * 16)) rfl) hb2)
        clear hb2
        obtain ⟨⟨a0, a1, a2, a3, b0, b1, b2, b3⟩, ⟨z0, z1, z2, z3, y0, y1, y2, y3⟩, ⟨f0, f1, f2, f3, g0, g1, g2, g3⟩, hzz⟩ := HRB2.out.facts
        go_wp2_with fail
        cases hq : okF v (9 + m * 16) X.size (X).size
        · have HQ := Lib.hid hq
          have HRR := Lib.hid (HO.out.trans (by rw [hq]; done))
          clear hq
          refine (rright_v HQ.out _).mono ?_
          rintro e w3 ⟨rfl, hb3⟩
          have HRB3 := Lib.hid (RB.later (RB.set (RB.set HRB2.out 3 (.string X) rfl) 2 (.int .i64 X.size) rfl) hb3)
          clear hb3 a0 a1 a2 a3 b0 b1 b2 b3 z0 z1 z2 z3 y0 y1 y2 y3 f0 f1 f2 f3 g0 g1 g2 g3 hzz
          obtain ⟨⟨a0, a1, a2, a3, b0, b1, b2, b3⟩, ⟨z0, z1, z2, z3, y0, y1, y2, y3⟩, ⟨f0, f1, f2, f3, g0, g1, g2, g3⟩, hzz⟩ := HRB3.out.facts
          go_wp2_with fail
          refine bodyPost_ret (v := .tuple #[.agg #[.int .i64 0, .int .i64 0, .int .i64 0, .string (ByteArray.mk #[])], .bool false]) (by simp [results, Tryd.results13, go_sem, a0, a1, a2, a3]) rfl (rrPost_no HRR.out ?_)
          exact HRB3.out.done _ _ _ _
        · have HQ := Lib.hid hq
          have HRR := Lib.hid (HO.out.trans (by rw [hq]; done))
          clear hq
          refine (rright_v HQ.out _).mono ?_
          rintro e w3 ⟨rfl, hb3⟩
          have HRB3 := Lib.hid (RB.later (RB.set (RB.set HRB2.out 3 (.string X) rfl) 2 (.int .i64 X.size) rfl) hb3)
          clear hb3 a0 a1 a2 a3 b0 b1 b2 b3 z0 z1 z2 z3 y0 y1 y2 y3 f0 f1 f2 f3 g0 g1 g2 g3 hzz
          obtain ⟨⟨a0, a1, a2, a3, b0, b1, b2, b3⟩, ⟨z0, z1, z2, z3, y0, y1, y2, y3⟩, ⟨f0, f1, f2, f3, g0, g1, g2, g3⟩, hzz⟩ := HRB3.out.facts
          go_wp2_with fail
          refine bodyPost_ret (v := .tuple #[.agg #[.int .i64 v, .int .i64 (9 + m * 16), .int .i64 X.size, .string (X)], .bool true]) (by simp [results, Tryd.results13, go_sem, a0, a1, a2, a3]) rfl (rrPost_yes HRR.out ?_)
          exact HRB3.out.done _ _ _ _
    · have r3 : (bt T 0 == 35) = false := by simpa using hF
      have HRW : Hid (bodyO b = rawO (byL T)) := Lib.hid (by rw [← HTb.out]; exact bodyO_raw (.inr ⟨hF, by omega, by omega⟩))
      have HOf : Hid ((datL (byL T) = none → readO (byL s) = none) ∧ ∀ d, datL (byL T) = some d → readO (byL s) = if okF v 1 (strOfNums d).size (strOfNums d).size then some ⟨v, 1, (strOfNums d).size, strOfNums d⟩ else none) := Lib.hid ⟨fun h => readO_no HC.out (.inr (by rw [HRW.out]; exact rawO_none h)), fun d h => readO_of HC.out HH.out (by rw [HRW.out]; exact rawO_some h) (by rfl)⟩
      clear hF hR hT0
      go_wp2_with fail
      cases hdat : datL (byL T)
      · have HDAT := Lib.hid hdat
        have HRR := Lib.hid (HOf.out.1 hdat)
        clear hdat
        refine (rdata_n HDAT.out (by omega) _).mono ?_
        rintro e w2 ⟨rfl, hb2⟩
        have HRB2 := Lib.hid (RB.later RB.start hb2)
        clear hb2
        obtain ⟨⟨a0, a1, a2, a3, b0, b1, b2, b3⟩, ⟨z0, z1, z2, z3, y0, y1, y2, y3⟩, ⟨f0, f1, f2, f3, g0, g1, g2, g3⟩, hzz⟩ := HRB2.out.facts
        go_wp2_with fail
        refine bodyPost_ret (v := .tuple #[.agg #[.int .i64 0, .int .i64 0, .int .i64 0, .string (ByteArray.mk #[])], .bool false]) (by simp [results, Tryd.results13, go_sem, a0, a1, a2, a3]) rfl (rrPost_no HRR.out ?_)
        exact HRB2.out.done _ _ _ _
      · rename_i dd
        obtain ⟨X, hX⟩ : ∃ X, strOfNums dd = X := ⟨_, rfl⟩
        have HX := Lib.hid hX
        have HDAT := Lib.hid hdat
        have HO := Lib.hid (HOf.out.2 dd hdat)
        rw [hX] at HO
        have hXm : X.size ≤ 1000000 := by have := (datL_plain hdat).2.2; rw [byL_len] at this; rw [← hX, strOfNums_size]; omega
        clear hdat hX
        refine (rdata_v HDAT.out HX.out (by omega) _).mono ?_
        rintro e w2 ⟨rfl, hb2⟩
        have HRB2 := Lib.hid (RB.later RB.start hb2)
        clear hb2
        obtain ⟨⟨a0, a1, a2, a3, b0, b1, b2, b3⟩, ⟨z0, z1, z2, z3, y0, y1, y2, y3⟩, ⟨f0, f1, f2, f3, g0, g1, g2, g3⟩, hzz⟩ := HRB2.out.facts
        go_wp2_with fail
        cases hq : okF v 1 X.size (X).size
        · have HQ := Lib.hid hq
          have HRR := Lib.hid (HO.out.trans (by rw [hq]; done))
          clear hq
          refine (rright_v HQ.out _).mono ?_
          rintro e w3 ⟨rfl, hb3⟩
          have HRB3 := Lib.hid (RB.later (RB.set (RB.set HRB2.out 3 (.string X) rfl) 2 (.int .i64 X.size) rfl) hb3)
          clear hb3 a0 a1 a2 a3 b0 b1 b2 b3 z0 z1 z2 z3 y0 y1 y2 y3 f0 f1 f2 f3 g0 g1 g2 g3 hzz
          obtain ⟨⟨a0, a1, a2, a3, b0, b1, b2, b3⟩, ⟨z0, z1, z2, z3, y0, y1, y2, y3⟩, ⟨f0, f1, f2, f3, g0, g1, g2, g3⟩, hzz⟩ := HRB3.out.facts
          go_wp2_with fail
          refine bodyPost_ret (v := .tuple #[.agg #[.int .i64 0, .int .i64 0, .int .i64 0, .string (ByteArray.mk #[])], .bool false]) (by simp [results, Tryd.results13, go_sem, a0, a1, a2, a3]) rfl (rrPost_no HRR.out ?_)
          exact HRB3.out.done _ _ _ _
        · have HQ := Lib.hid hq
          have HRR := Lib.hid (HO.out.trans (by rw [hq]; done))
          clear hq
          refine (rright_v HQ.out _).mono ?_
          rintro e w3 ⟨rfl, hb3⟩
          have HRB3 := Lib.hid (RB.later (RB.set (RB.set HRB2.out 3 (.string X) rfl) 2 (.int .i64 X.size) rfl) hb3)
          clear hb3 a0 a1 a2 a3 b0 b1 b2 b3 z0 z1 z2 z3 y0 y1 y2 y3 f0 f1 f2 f3 g0 g1 g2 g3 hzz
          obtain ⟨⟨a0, a1, a2, a3, b0, b1, b2, b3⟩, ⟨z0, z1, z2, z3, y0, y1, y2, y3⟩, ⟨f0, f1, f2, f3, g0, g1, g2, g3⟩, hzz⟩ := HRB3.out.facts
          go_wp2_with fail
          refine bodyPost_ret (v := .tuple #[.agg #[.int .i64 v, .int .i64 1, .int .i64 X.size, .string (X)], .bool true]) (by simp [results, Tryd.results13, go_sem, a0, a1, a2, a3]) rfl (rrPost_yes HRR.out ?_)
          exact HRB3.out.done _ _ _ _

end Go.Proofs.YtpjlomgiljpadaaDoor
