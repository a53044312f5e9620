/- Stuff: the contract of the document's Unstuff. -/
import Derived.Test.YtpapdonodgedoaaStfC
namespace Go.Proofs.Ytpapdonodgedoaa
open Go.RowKit
set_option linter.unusedVariables false

theorem tl_le_len : ∀ (L : List Int) (p : Int × Nat), (L.foldl nxt p).2 ≤ p.2 + L.length
  | [], p => Nat.le_refl _
  | x :: L, p => by
    have h1 := tl_le_len L (nxt p x)
    have h2 := nxt_le p x
    simp only [List.foldl_cons, List.length_cons]
    omega
theorem nxt_new {p : Int × Nat} {x : Int} (h : x ≠ p.1) : nxt p x = (x, 1) := by unfold nxt; rw [if_neg h]
/-- the last one of some -/
theorem tl_take_last {s : ByteArray} {k : Nat} (h : k < s.size) : (tl ((byL s).take (k + 1))).1 = bt s k := by rw [byL_take h, tl_snoc]; rfl
/-- what is taken out so far is no longer than what was read -/
theorem unA_len : ∀ (T out : List Int) (p : Int × Nat) (i : Nat), (unA out p i T).1.length ≤ out.length + T.length
  | [], out, p, i => by simp only [unA]; split <;> simp
  | x :: T, out, p, i => by
    simp only [unA]
    split
    · simp
    · split
      · split
        · simp
        · have := unA_len T out (x, 1) (i + 1); simp only [List.length_cons]; omega
      · have := unA_len T (out ++ [x]) (nxt p x) (i + 1); simp only [List.length_append, List.length_cons, List.length_nil] at this ⊢; omega

def unstRel (s : ByteArray) (w : World) (R : List Int × Int) (v i : Value) (wr : World) : Prop :=
  ∃ (k : Nat) (O : List Int), k ≤ s.size ∧ i = .int .i64 k ∧ Hid (gathB w.heap.size w v O wr ∧ O.length ≤ k ∧ (tl ((byL s).take k)).2 ≤ 5 ∧ unA O (tl ((byL s).take k)) k ((byL s).drop k) = R)

set_option maxRecDepth 100000 in
set_option maxHeartbeats 4000000 in
theorem sunstuff_v {s : ByteArray} {R : List Int × Int} (h : unL (byL s) = R) (hs : s.size ≤ 200000) (w : World) :
    Calls Try.prog 18 #[.string s] w fun e w' => e = .returned (.tuple #[.string (strOfNums R.1), .int .i64 R.2]) ∧ Below w.heap.size w w' := by
  obtain ⟨i0, hi, hz0, hz1, hz2⟩ := info_parts info_u8
  have H0 : Hid (unstRel s w R (.slice none 0 0) (.int .i64 0) w) := Lib.hid ⟨0, [], Nat.zero_le _, rfl, Lib.hid ⟨gathB.start w, Nat.le_refl _, by show 0 ≤ 5; omega, h⟩⟩
  clear h
  go_enter Try.func18, Try.ntmps18
  go_wp2
  go_loopw [4, 5] (fun v i wr => unstRel s w R v i wr) (fun _ i _ => s.size - (intOf i).toNat)
  case atStart => exact H0.out
  case round =>
    obtain ⟨k, O, hk, rfl, HR⟩ := hrel
    by_cases hlt : k < s.size
    · have hix : ∀ w, (Instr.index 9 (.string s) (.int .i64 k)).run Try.prog w = .ok (.int .u8 (bt s k)) w := fun w => index_bt Try.underlying9 hlt w
      have HE := HR.out.2.2.2
      rw [byL_drop hlt] at HE
      simp only [unA] at HE
      by_cases hb : isBit (bt s k) = true
      · rw [if_neg (by rw [hb]; decide)] at HE
        have hcut : ∀ w, (Instr.sliceAt 9 (.string s) none (some (.int .i64 (k : Int))) none).run Try.prog w = .ok (.string (s.extract 0 k)) w := fun w => cut_ahead (k := k) (by omega) w
        have hcb := conv_bytes (s.extract 0 k) wr
        have hsz : (s.extract 0 k).size = k := by rw [sub_size _ _ _ (by omega)]; omega
        have hby : byL (s.extract 0 k) = (byL s).take k := by rw [byL_extract, List.drop_zero]
        have HSL := Lib.hid (bytesWorld_slice wr 5 (s.extract 0 k) (grownCap wr (s.extract 0 k).size 0 5) (by omega))
        have HBW := Lib.hid (bytesWorld_below wr 5 (s.extract 0 k))
        rw [hby] at HSL
        have HG1 : Hid (gathB w.heap.size w u4 O (Lib.bytesWorld wr 5 (s.extract 0 k))) := Lib.hid (HR.out.1.later HBW.out)
        have HT5 := HR.out.2.2.1
        have HOl := HR.out.2.1
        have htl := tl_le_len ((byL s).take k) (0, 0)
        have HNX : Hid (tl ((byL s).take (k + 1)) = nxt (tl ((byL s).take k)) (bt s k)) := Lib.hid (by rw [byL_take hlt, tl_snoc])
        generalize ht : tl ((byL s).take k) = p at HT5 HE HNX
        obtain ⟨c, n⟩ := p
        simp only at HT5 HE
        have HT : Hid ((tl ((byL s).take k)).2 = n) := Lib.hid (by rw [ht])
        have hbit : bt s k = 48 ∨ bt s k = 49 := (isBit_iff _).1 hb
        clear hsz hby htl HR HBW
        generalize s.extract 0 k = pp at hcut hcb HSL HG1
        by_cases h5 : n = 5
        · subst h5
          have hk1 : 1 ≤ k := by
            rcases Nat.eq_zero_or_pos k with h0 | h0
            · subst h0; simp [tl] at ht
            · exact h0
          have hkk : ((k : Int) - 1) = ((k - 1 : Nat) : Int) := by omega
          have hix2 : ∀ w, (Instr.index 9 (.string s) (.int .i64 ((k : Int) - 1))).run Try.prog w = .ok (.int .u8 (bt s (k - 1))) w := fun w => by rw [hkk]; exact index_bt Try.underlying9 (by omega) w
          have hc : bt s (k - 1) = c := by rw [← tl_take_last (s := s) (k := k - 1) (by omega), show k - 1 + 1 = k by omega, ht]
          rw [hc] at hix2
          rw [if_pos rfl] at HE
          have HE2 := Lib.hid HE
          have HO := Lib.hid HOl
          clear HE ht hc hb HOl HT5 hkk
          generalize hx : bt s k = x at hix hbit HE2 HNX
          clear hx
          by_cases hxc : x = c
          · have HQ : Hid (([], (k : Int)) = R) := Lib.hid (by have := HE2.out; rwa [if_pos hxc] at this)
            subst hxc
            rcases hbit with rfl | rfl <;>
            · go_wp2_with fail
              refine (stail_v HT.out _ HSL.out).mono ?_
              rintro e w2 ⟨rfl, m, rfl⟩
              have HG2 := Lib.hid (HG1.out.drewN m)
              go_wp2_with fail
              go_quiet (fail)
              go_wp2
              go_ret2
              refine ⟨?_, (HG2.out.drewN _).2.1⟩
              rw [← HQ.out]
              rfl
          · have HQ : Hid (unA O (x, 1) (k + 1) ((byL s).drop (k + 1)) = R) := Lib.hid (by have := HE2.out; rwa [if_neg hxc] at this)
            have HP : Hid (tl ((byL s).take (k + 1)) = (x, 1)) := Lib.hid (by rw [HNX.out]; exact nxt_new hxc)
            have hne : (x == c) = false := by simp [hxc]
            clear hxc
            rcases hbit with rfl | rfl <;>
            · go_wp2_with fail
              refine (stail_v HT.out _ HSL.out).mono ?_
              rintro e w2 ⟨rfl, m, rfl⟩
              have HG2 := Lib.hid (HG1.out.drewN m)
              go_wp2_with fail
              go_quiet (fail)
              go_wp2
              go_roundw
              case rel => exact ⟨k + 1, O, by omega, by go_num, Lib.hid ⟨HG1.out.drewN _, by have := HO.out; omega, by rw [HP.out]; show 1 ≤ 5; omega, by rw [HP.out]; exact HQ.out⟩⟩
              case measure => simp [intOf]; omega
        · rw [if_neg h5] at HE
          have HE2 := Lib.hid HE
          have HO := Lib.hid HOl
          have hne : ((n : Int) == 5) = false := by simp; omega
          have hne2 : ((n : Int) != 5) = true := by simp; omega
          have HP5 : Hid ((nxt (c, n) (bt s k)).2 ≤ 5) := Lib.hid (by have := nxt_le (c, n) (bt s k); simp only at this; omega)
          clear HE ht hb HOl HT5 h5
          generalize hx : bt s k = x at hix hbit HE2 HNX HP5
          clear hx
          have C3 : Hid (O.length + 1 ≤ maxLen) := Lib.hid (by have := HO.out; unfold maxLen; omega)
          have C4 : Hid ((O.length + 1) * 1 ≤ 140737488355328) := Lib.hid (by have := HO.out; omega)
          have HOK : Hid ((O ++ [x]).length ≤ k + 1) := Lib.hid (by have := HO.out; simp; omega)
          rcases hbit with rfl | rfl
          · go_wp2_with fail
            refine (stail_v HT.out _ HSL.out).mono ?_
            rintro e w2 ⟨rfl, m, rfl⟩
            go_wp2_with fail
            go_quiet (fail)
            obtain ⟨wo, hwo⟩ : ∃ wo : World, wo = ((Lib.bytesWorld wr 5 pp).drewN m).drewN nq := ⟨_, rfl⟩
            have HG2 : Hid (gathB w.heap.size w u4 O wo) := Lib.hid (by rw [hwo]; exact (HG1.out.drewN m).drewN nq)
            rw [← hwo]
            clear hwo HG1
            have C2 : Hid (∀ u ∈ [Value.int .u8 48], u.oneCell' = true) := Lib.hid (fun u hu => by simp at hu; subst hu; rfl)
            have C5 : Hid (w.heap.size ≤ (wo.alloc (.cells #[.int .u8 48] 5)).heap.size) := Lib.hid (by have := HG2.out.2.2; simp; omega)
            go_wp2_with (at_builtin; refine wpList_append_own _ rfl _ _ 34 rfl w.heap.size 5 i0 (.int .u8 0) 1 1 Try.underlying34 hi hz0 hz1 hz2 rfl (by decide) _ O.length (byteRow O) rfl (HG2.out.1.alloc _) ⟨wo.heap.size, 0, none⟩ 1 1 [.int .u8 48] rfl rfl (news_byte _ _ _) C2.out C3.out C4.out C5.out ?_)
            intro v' w1 hown hgr _
            have hst := Lib.hid (HG2.out.step hown hgr)
            clear hown hgr
            go_wp2
            go_roundw
            case rel => exact ⟨k + 1, _, by omega, by go_num, Lib.hid ⟨hst.out, HOK.out, by rw [HNX.out]; exact HP5.out, by rw [HNX.out]; exact HE2.out⟩⟩
            case measure => simp [intOf]; omega
          · go_wp2_with fail
            refine (stail_v HT.out _ HSL.out).mono ?_
            rintro e w2 ⟨rfl, m, rfl⟩
            go_wp2_with fail
            go_quiet (fail)
            obtain ⟨wo, hwo⟩ : ∃ wo : World, wo = ((Lib.bytesWorld wr 5 pp).drewN m).drewN nq := ⟨_, rfl⟩
            have HG2 : Hid (gathB w.heap.size w u4 O wo) := Lib.hid (by rw [hwo]; exact (HG1.out.drewN m).drewN nq)
            rw [← hwo]
            clear hwo HG1
            have C2 : Hid (∀ u ∈ [Value.int .u8 49], u.oneCell' = true) := Lib.hid (fun u hu => by simp at hu; subst hu; rfl)
            have C5 : Hid (w.heap.size ≤ (wo.alloc (.cells #[.int .u8 49] 5)).heap.size) := Lib.hid (by have := HG2.out.2.2; simp; omega)
            go_wp2_with (at_builtin; refine wpList_append_own _ rfl _ _ 34 rfl w.heap.size 5 i0 (.int .u8 0) 1 1 Try.underlying34 hi hz0 hz1 hz2 rfl (by decide) _ O.length (byteRow O) rfl (HG2.out.1.alloc _) ⟨wo.heap.size, 0, none⟩ 1 1 [.int .u8 49] rfl rfl (news_byte _ _ _) C2.out C3.out C4.out C5.out ?_)
            intro v' w1 hown hgr _
            have hst := Lib.hid (HG2.out.step hown hgr)
            clear hown hgr
            go_wp2
            go_roundw
            case rel => exact ⟨k + 1, _, by omega, by go_num, Lib.hid ⟨hst.out, HOK.out, by rw [HNX.out]; exact HP5.out, by rw [HNX.out]; exact HE2.out⟩⟩
            case measure => simp [intOf]; omega
      · have hb' : isBit (bt s k) = false := by simpa using hb
        have HQ : Hid (([], (k : Int)) = R) := Lib.hid (by have := HE; rwa [if_pos hb'] at this)
        have HB := HR.out.1
        have HBe := Lib.hid HB.2.1
        have h48 : (bt s k != 48) = true := by
          rw [bne_iff_ne]; intro e; exact hb ((isBit_iff _).2 (.inl e))
        have h49 : (bt s k != 49) = true := by
          rw [bne_iff_ne]; intro e; exact hb ((isBit_iff _).2 (.inr e))
        clear HE hb hb' HB HR
        generalize bt s k = x at hix h48 h49
        go_wp2
        go_ret2
        refine ⟨?_, HBe.out⟩
        rw [← HQ.out]
        rfl
    · obtain rfl : k = s.size := by omega
      have HE := HR.out.2.2.2
      rw [List.drop_eq_nil_of_le (by rw [byL_len]; omega), ← byL_len s, List.take_length, byL_len] at HE
      simp only [unA] at HE
      have hcb := conv_bytes s wr
      have HSL := Lib.hid (bytesWorld_slice wr 5 s (grownCap wr s.size 0 5) (by omega))
      have HG1 : Hid (gathB w.heap.size w u4 O (Lib.bytesWorld wr 5 s)) := Lib.hid (HR.out.1.later (bytesWorld_below wr 5 s))
      generalize ht : (tl (byL s)).2 = n at HE
      have HT := Lib.hid ht
      clear ht
      by_cases h5 : n = 5
      · subst h5
        rw [if_pos rfl] at HE
        have HQ := Lib.hid HE
        clear HE
        go_wp2_with fail
        refine (stail_v HT.out _ HSL.out).mono ?_
        rintro e w2 ⟨rfl, m, rfl⟩
        have HG2 := Lib.hid (HG1.out.drewN m)
        go_wp2
        go_ret2
        refine ⟨?_, HG2.out.2.1⟩
        rw [← HQ.out]
        rfl
      · rw [if_neg h5] at HE
        have HQ := Lib.hid HE
        have hne : ((n : Int) == 5) = false := by simp; omega
        clear HE
        go_wp2_with fail
        refine (stail_v HT.out _ HSL.out).mono ?_
        rintro e w2 ⟨rfl, m, rfl⟩
        have HG2 := Lib.hid (HG1.out.drewN m)
        have hcv := conv_own (P := Try.prog) ((Lib.bytesWorld wr 5 s).drewN m) 34 9 5 Try.underlying34 Try.underlying5 Try.underlying9 HG2.out.1
        go_wp2
        go_ret2
        refine ⟨?_, HG2.out.2.1⟩
        rw [← HQ.out]
        rfl

end Go.Proofs.Ytpapdonodgedoaa
