/- Wire: contract of the document's Unpack. -/
import Derived.Test.YtimlaopmhcipmaaDoorWirAa
namespace Go.Proofs.YtimlaopmhcipmaaDoor
open Go.RowKit
set_option linter.unusedVariables false

theorem piece_at {s : ByteArray} {p n : Nat} (h : p + n ≤ s.size) : s.extract p (p + n) = (leftS s p).extract 0 n := by
  have hl := left_size s p
  have h1 : (s.extract p (p + n)).size = n := by rw [sub_size _ _ _ h]; omega
  have h2 : ((leftS s p).extract 0 n).size = n := by rw [sub_size _ _ _ (by omega)]; omega
  refine bt_ext (by rw [h1, h2]) fun k hk => ?_
  rw [h1] at hk
  rw [bt_sub _ _ _ _ (by omega) h, bt_sub _ _ _ _ (by omega) (by omega)]
  unfold leftS
  rw [bt_sub _ _ _ _ (by omega) (Nat.le_refl _), Nat.zero_add]
theorem piece_run {s : ByteArray} {p n : Nat} (h : p + n ≤ s.size) (w : World) : (Instr.sliceAt 9 (.string s) (some (.int .i64 p)) (some (.int .i64 ((p : Int) + (n : Int)))) none).run Tryd.prog w = .ok (.string ((leftS s p).extract 0 n)) w := by
  rw [← piece_at h]
  exact sub_run (by omega) (by omega) h w

set_option maxHeartbeats 2000000 in
theorem runp_any {s : ByteArray} (hs : s.size ≤ 3000) (w : World) :
    Calls Tryd.prog 20 #[.string s] w (UnpPost (unpR s) (.bool true) (.bool false) w) := by
  have HS := Lib.hid hs
  have hs9 : (s.size : Int) ≤ 3000 := by omega
  go_enter Tryd.func20, Tryd.ntmps20
  go_wp2_with fail
  go_loopw [5, 6, 7] (fun v i j wr => ∃ (p k : Nat) (L : List Fr), UnpAt s (unpR s) p L ∧ k ≤ p ∧ i = .int .i64 p ∧ j = .int .i64 k ∧ GathF w.heap.size w v L wr) (fun _ i _ _ => s.size - (intOf i).toNat)
  case atStart => exact ⟨0, 0, [], UnpAt.start s, Nat.le_refl _, rfl, rfl, GathG.start _ _ _ _⟩
  case round =>
    obtain ⟨p, k, L, hU, hkp, rfl, rfl, hG⟩ := hrel
    have HU := Lib.hid hU
    have HG := Lib.hid hG
    have hle : p ≤ s.size := hU.le
    have HL : Hid (L.length ≤ 3000) := Lib.hid (by have := hU.len; omega)
    have hp1 : (p : Int) ≤ 3000 := by omega
    have hk1 : (k : Int) ≤ (s.size : Int) := by omega
    have HST := Lib.hid (step_le s p hle)
    have HSZ := Lib.hid (left_size s p)
    have HPS := Lib.hid (piece_size s p)
    have HBW : Hid (Below w.heap.size w wr) := Lib.hid hG.2.1
    have hleft := fun w => left_run (s := s) (p := p) hle w
    obtain ⟨vl, hvl⟩ : ∃ vl, longN (leftS s p) = vl := ⟨_, rfl⟩
    have HV := Lib.hid hvl
    have hmin := min_step s p
    rw [hvl] at hmin
    have HMin := Lib.hid hmin
    have hvn : 0 ≤ vl := by rw [← hvl]; exact longN_nn _
    have hvt : vl ≤ 72 := by rcases longN_cases (leftS s p) with h | h | h <;> omega
    have HTS : Hid ((leftS s p).size ≤ maxLen) := Lib.hid (by rw [left_size]; unfold maxLen; omega)
    clear hU hG hvl hmin
    by_cases he : p = s.size
    · have hdone := Lib.hid (HU.out.done he)
      have e1 : ¬ (p : Int) < (s.size : Int) := by omega
      clear he hleft
      go_wp2
      go_ret3
      refine ⟨HBW.out, .inl ⟨by rw [hdone.out], u5, rfl, ?_⟩⟩
      rw [hdone.out]
      exact HG.out.slice frC_len (by decide) (show L.length ≤ maxLen by have := HL.out; unfold maxLen; omega)
    · have hne := Lib.hid he
      have e1 : (p : Int) < (s.size : Int) := by omega
      clear he
      by_cases hv0 : vl = 0
      · subst hv0
        have hd : decOk (pieceS s p) = false := by
          cases hd : decOk (pieceS s p)
          · rfl
          · have := piece_ok hd; have := HV.out; omega
        have HD := Lib.hid (HU.out.bad hne.out hd)
        clear hd
        generalize leftS s p = T at hleft HV HTS HSZ HMin
        go_wp2_with fail
        refine (rlong_v HV.out HTS.out _).mono ?_
        rintro e w1 ⟨rfl, rfl⟩
        go_wp2
        go_ret3
        exact ⟨HBW.out, .inr ⟨by rw [HD.out], by rw [HD.out]; rfl⟩⟩
      · have e2 : (vl == 0) = false := by simpa using hv0
        by_cases hv1 : (s.size : Int) - p < vl
        · have hd : decOk (pieceS s p) = false := by
            cases hd : decOk (pieceS s p)
            · rfl
            · have h1 := piece_ok hd; have h2 := HV.out; have h3 := HST.out; omega
          have HD := Lib.hid (HU.out.bad hne.out hd)
          clear hd
          generalize leftS s p = T at hleft HV HTS HSZ HMin
          go_wp2_with fail
          refine (rlong_v HV.out HTS.out _).mono ?_
          rintro e w1 ⟨rfl, rfl⟩
          go_wp2
          go_ret3
          exact ⟨HBW.out, .inr ⟨by rw [HD.out], by rw [HD.out]; rfl⟩⟩
        · have hvs : vl = (stepN s p : Int) := by have := HMin.out; have := HSZ.out; omega
          have hstp : (p : Int) + vl ≤ 3000 := by omega
          have hpr := fun w => piece_run (s := s) (p := p) (n := stepN s p) HST.out w
          rw [← hvs] at hpr
          have hpc : (leftS s p).extract 0 (stepN s p) = pieceS s p := rfl
          rw [hpc] at hpr
          have HVS := Lib.hid hvs
          have e4 : decide ((s.size : Int) - p < vl) = false := by simp; omega
          have HZ : Hid ((pieceS s p).size ≤ maxLen) := Lib.hid (by rw [HPS.out]; have := HST.out; have := HS.out; unfold maxLen; omega)
          clear hpc hvs hv0 hv1
          generalize leftS s p = T at hleft HV HTS HSZ HMin
          cases hd : decOk (pieceS s p)
          · have HD := Lib.hid (HU.out.bad hne.out hd)
            go_wp2_with fail
            refine (rlong_v HV.out HTS.out _).mono ?_
            rintro e w1 ⟨rfl, rfl⟩
            go_wp2_with fail
            refine (rdec_f HZ.out hd _).mono ?_
            rintro e w2 ⟨rfl, hb2⟩
            have HB2 := Lib.hid (fbelow_t HBW.out hb2)
            clear hb2
            go_wp2
            go_ret3
            exact ⟨Below.allocL HB2.out _, .inr ⟨by rw [HD.out], by rw [HD.out]; rfl⟩⟩
          · have HN := Lib.hid (HU.out.next hne.out hd)
            have H1 := Lib.hid (piece_ok hd)
            go_wp2_with fail
            refine (rlong_v HV.out HTS.out _).mono ?_
            rintro e w1 ⟨rfl, rfl⟩
            go_wp2_with fail
            refine (rdec_t HZ.out hd _).mono ?_
            rintro e w2 ⟨rfl, hb2⟩
            have HB2 := Lib.hid (fbelow_t HBW.out hb2)
            have G2 := Lib.hid (HG.out.later hb2)
            clear hb2
            generalize decF (pieceS s p) = f at HN
            have hn := frame_new (w2.alloc (.cells #[.int .i64 f.i, .int .i64 f.n, .int .i64 f.l, .string f.d] 23)) f 23
            rw [World.size_alloc] at hn
            have HNW := Lib.hid hn
            clear hn
            go_wp2_with (at_builtin; refine wpList_gathF rfl _ _ rfl rfl ((G2.out.alloc _).alloc _) (w2.heap.size + 1) _ f rfl HNW.out (by have := HL.out; omega) ?_)
            intro v3 w3 hg3
            have G3 := Lib.hid hg3
            clear hg3
            go_wp2
            go_roundw
            case rel => exact ⟨p + stepN s p, k + 1, L ++ [f], HN.out, by have := H1.out.1; omega, by rw [HVS.out]; go_num, by go_num, G3.out⟩
            case measure => have := H1.out.1; have := HST.out; have := HVS.out; simp [intOf]; omega

end Go.Proofs.YtimlaopmhcipmaaDoor
