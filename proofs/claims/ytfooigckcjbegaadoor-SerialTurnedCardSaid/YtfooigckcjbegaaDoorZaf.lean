/- Stuff: contracts of the document's Stuff, Run. Stuff: the contract of the document's Unstuff. The shelf's contracts of strings.Builder's WriteRune and String, laid by hand with marks (any seat that has both). Stuff: boxes that closures write; contracts of other, runs and what it makes, and of walk, over whatever function value. -/
import Derived.Test.YtfooigckcjbegaaDoorZae
import Derived.Test.YtfooigckcjbegaaDoorRows
import Derived.Shelf.Lays
import Derived.Shelf.Strings.Builder1
import Derived.Shelf.Strings.BuilderF
import Derived.Shelf.Strings.BuilderK
import Derived.Shelf.Strings.BuilderRune
import Derived.Lib.OthersKept
import Derived.Lib.Walk
import Derived.Lib.TrimU
import Derived.Deep.LoopGhost
import Derived.BigCall
import Derived.Laws.EntriesVeiled
namespace Go.Proofs.YtfooigckcjbegaaDoor
open Go.RowKit
set_option linter.unusedVariables false

def stuffS (L : List Int) : ByteArray := if bitsB L then strOfNums (stuffL L) else ByteArray.mk #[]
theorem stuff_round {L : List Int} {x : Int} (h : bitsB L = true) : stuffL (L ++ [x]) = (if (tl (stuffL L ++ [x])).2 = 5 then (stuffL L ++ [x]) ++ [oth x] else stuffL L ++ [x]) := by
  rw [stuffL_snoc, tl_snoc, tl_stuff h]
  split <;> simp
theorem bits_take {L : List Int} (h : bitsB L = true) (k : Nat) : bitsB (L.take k) = true := by
  rw [← List.take_append_drop k L, bitsB_app, Bool.and_eq_true] at h
  exact h.1

set_option maxHeartbeats 2000000 in
theorem sstuff_v {s t : ByteArray} (h : stuffS (byL s) = t) (hs : s.size ≤ 100000) (w : World) :
    Calls Tryd.prog 29 #[.string s] w fun e w' => e = .returned (.string t) ∧ Below w.heap.size w w' := by
  obtain ⟨i0, hi, hz0, hz1, hz2⟩ := info_parts info_u8
  have H := Lib.hid h
  clear h
  cases hb : bitsB (byL s)
  · have HB := Lib.hid hb
    have HQ : Hid (ByteArray.mk #[] = t) := Lib.hid (by rw [← H.out]; unfold stuffS; rw [hb]; rfl)
    clear hb
    go_enter Tryd.func29, Tryd.ntmps29
    go_wp2_with fail
    refine (sright_v HB.out (by unfold maxLen; omega) _).mono ?_
    rintro e w1 ⟨rfl, rfl⟩
    go_wp2
    go_ret
    exact ⟨fret_str HQ.out, Below.refl _ _⟩
  · have HB := Lib.hid hb
    have HQ : Hid (strOfNums (stuffL (byL s)) = t) := Lib.hid (by rw [← H.out]; unfold stuffS; rw [hb]; rfl)
    clear hb H
    go_enter Tryd.func29, Tryd.ntmps29
    go_wp2_with fail
    refine (sright_v HB.out (by unfold maxLen; omega) _).mono ?_
    rintro e w1 ⟨rfl, rfl⟩
    go_wp2_with fail
    go_loopw [3, 4] (fun v i wr => ∃ k : Nat, k ≤ s.size ∧ i = .int .i64 k ∧ Hid (gathB w.heap.size w v (stuffL ((byL s).take k)) wr)) (fun _ i _ => s.size - (intOf i).toNat)
    case atStart => exact ⟨0, Nat.zero_le _, rfl, Lib.hid (gathB.start w)⟩
    case round =>
      obtain ⟨k, hk, rfl, HG⟩ := hrel
      by_cases hlt : k < s.size
      · have hix : ∀ w, (Instr.index 9 (.string s) (.int .i64 k)).run Tryd.prog w = .ok (.int .u8 (bt s k)) w := fun w => index_bt Tryd.underlying9 hlt w
        have HBK : Hid (isBit (bt s k) = true) := Lib.hid (by
          have := List.all_eq_true.1 HB.out (bt s k) (by rw [← byL_get hlt]; exact List.getElem_mem _)
          exact this)
        have HN : Hid (stuffL ((byL s).take (k + 1)) = (if (tl (stuffL ((byL s).take k) ++ [bt s k])).2 = 5 then (stuffL ((byL s).take k) ++ [bt s k]) ++ [oth (bt s k)] else stuffL ((byL s).take k) ++ [bt s k])) := Lib.hid (by rw [byL_take hlt, stuff_round (bits_take HB.out k)])
        have HL : Hid ((stuffL ((byL s).take k)).length ≤ 125000) := Lib.hid (by have := (stuff_len ((byL s).take k)).1; rw [List.length_take, byL_len] at this; omega)
        generalize stuffL ((byL s).take k) = L at HG HN HL
        generalize bt s k = x at hix HBK HN
        have C2 : Hid (∀ u ∈ [Value.int .u8 x], u.oneCell' = true) := Lib.hid (fun u hu => by simp at hu; subst hu; rfl)
        have C3 : Hid (L.length + 1 ≤ maxLen) := Lib.hid (by have := HL.out; unfold maxLen; omega)
        have C4 : Hid ((L.length + 1) * 1 ≤ 140737488355328) := Lib.hid (by have := HL.out; omega)
        obtain ⟨wo, rfl⟩ : ∃ wo : World, wo = wr := ⟨_, rfl⟩
        have C5 : Hid (w.heap.size ≤ (wo.alloc (.cells #[.int .u8 x] 5)).heap.size) := Lib.hid (by have := HG.out.2.2; simp; omega)
        go_wp2_with (at_builtin; refine wpList_append_own _ rfl _ _ 49 rfl w.heap.size 5 i0 (.int .u8 0) 1 1 Tryd.underlying49 hi hz0 hz1 hz2 rfl (by decide) _ L.length (byteRow L) rfl (HG.out.1.alloc _) ⟨wo.heap.size, 0, none⟩ 1 1 [.int .u8 x] rfl rfl (news_byte _ _ _) C2.out C3.out C4.out C5.out ?_)
        intro v' w1 hown hgr _
        have hst := Lib.hid (HG.out.step hown hgr)
        have HSL := Lib.hid (hst.out.slice (by have := HL.out; simp; omega))
        clear hown hgr HG C2 C3 C4 C5
        generalize ht : (tl (L ++ [x])).2 = n at HN
        have HT := Lib.hid ht
        clear ht
        go_wp2_with fail
        refine (stail_v HT.out _ HSL.out).mono ?_
        rintro e w2 ⟨rfl, m, rfl⟩
        have hs2 := Lib.hid (hst.out.drewN m)
        clear hst HSL
        by_cases h5 : n = 5
        · subst h5
          have HN2 : Hid (stuffL ((byL s).take (k + 1)) = (L ++ [x]) ++ [oth x]) := Lib.hid HN.out
          clear HN HT
          have HL2 : Hid ((L ++ [x]).length ≤ 125001) := Lib.hid (by have := HL.out; simp; omega)
          generalize L ++ [x] = M at hs2 HN2 HL2
          go_wp2_with fail
          refine (sother_v HBK.out _).mono ?_
          rintro e w3 ⟨rfl, rfl⟩
          generalize oth x = y at HN2
          have C2 : Hid (∀ u ∈ [Value.int .u8 y], u.oneCell' = true) := Lib.hid (fun u hu => by simp at hu; subst hu; rfl)
          have C3 : Hid (M.length + 1 ≤ maxLen) := Lib.hid (by have := HL2.out; unfold maxLen; omega)
          have C4 : Hid ((M.length + 1) * 1 ≤ 140737488355328) := Lib.hid (by have := HL2.out; omega)
          obtain ⟨wp, hwp⟩ : ∃ wp : World, wp = w1.drewN m := ⟨_, rfl⟩
          rw [← hwp] at hs2 ⊢
          clear hwp
          have C5 : Hid (w.heap.size ≤ (wp.alloc (.cells #[.int .u8 y] 5)).heap.size) := Lib.hid (by have := hs2.out.2.2; simp; omega)
          go_wp2_with (at_builtin; refine wpList_append_own _ rfl _ _ 49 rfl w.heap.size 5 i0 (.int .u8 0) 1 1 Tryd.underlying49 hi hz0 hz1 hz2 rfl (by decide) _ M.length (byteRow M) rfl (hs2.out.1.alloc _) ⟨wp.heap.size, 0, none⟩ 1 1 [.int .u8 y] rfl rfl (news_byte _ _ _) C2.out C3.out C4.out C5.out ?_)
          intro v2 w4 hown hgr _
          have hs4 := Lib.hid (hs2.out.step hown hgr)
          clear hown hgr
          go_wp2
          go_roundw
          case rel => exact ⟨k + 1, by omega, by go_num, by rw [HN2.out]; exact hs4⟩
          case measure => simp [intOf]; omega
        · have HN2 : Hid (stuffL ((byL s).take (k + 1)) = L ++ [x]) := Lib.hid (by rw [HN.out, if_neg h5])
          have hne : ((n : Int) == 5) = false := by simp; omega
          go_wp2
          go_roundw
          case rel => exact ⟨k + 1, by omega, by go_num, by rw [HN2.out]; exact hs2⟩
          case measure => simp [intOf]; omega
      · obtain rfl : k = s.size := by omega
        have HG2 : Hid (gathB w.heap.size w u3 (stuffL (byL s)) wr) := Lib.hid (by have := HG.out; rwa [← byL_len s, List.take_length] at this)
        have hcv := conv_own (P := Tryd.prog) wr 49 9 5 Tryd.underlying49 Tryd.underlying5 Tryd.underlying9 HG2.out.1
        rw [HQ.out] at hcv
        go_wp2
        go_ret
        exact ⟨rfl, HG2.out.2.1⟩

end Go.Proofs.YtfooigckcjbegaaDoor

namespace Go.Proofs.YtfooigckcjbegaaDoor
open Go.RowKit
set_option linter.unusedVariables false

theorem tl_le_len : ∀ (L : List Int) (p : Int × Nat), (L.foldl nxt p).2 ≤ p.2 + L.length
  | [], p => Nat.le_refl _
  | x :: L, p => by
    have h1 := tl_le_len L (nxt p x)
    have h2 := nxt_le p x
    simp only [List.foldl_cons, List.length_cons]
    omega
theorem nxt_new {p : Int × Nat} {x : Int} (h : x ≠ p.1) : nxt p x = (x, 1) := by unfold nxt; rw [if_neg h]
/-- the last one of some -/
theorem tl_take_last {s : ByteArray} {k : Nat} (h : k < s.size) : (tl ((byL s).take (k + 1))).1 = bt s k := by rw [byL_take h, tl_snoc]; rfl
/-- what is taken out so far is no longer than what was read -/
theorem unA_len : ∀ (T out : List Int) (p : Int × Nat) (i : Nat), (unA out p i T).1.length ≤ out.length + T.length
  | [], out, p, i => by simp only [unA]; split <;> simp
  | x :: T, out, p, i => by
    simp only [unA]
    split
    · simp
    · split
      · split
        · simp
        · have := unA_len T out (x, 1) (i + 1); simp only [List.length_cons]; omega
      · have := unA_len T (out ++ [x]) (nxt p x) (i + 1); simp only [List.length_append, List.length_cons, List.length_nil] at this ⊢; omega

def unstRel (s : ByteArray) (w : World) (R : List Int × Int) (v i : Value) (wr : World) : Prop :=
  ∃ (k : Nat) (O : List Int), k ≤ s.size ∧ i = .int .i64 k ∧ Hid (gathB w.heap.size w v O wr ∧ O.length ≤ k ∧ (tl ((byL s).take k)).2 ≤ 5 ∧ unA O (tl ((byL s).take k)) k ((byL s).drop k) = R)

set_option maxRecDepth 100000 in
set_option maxHeartbeats 4000000 in
theorem sunstuff_v {s : ByteArray} {R : List Int × Int} (h : unL (byL s) = R) (hs : s.size ≤ 200000) (w : World) :
    Calls Tryd.prog 30 #[.string s] w fun e w' => e = .returned (.tuple #[.string (strOfNums R.1), .int .i64 R.2]) ∧ Below w.heap.size w w' := by
  obtain ⟨i0, hi, hz0, hz1, hz2⟩ := info_parts info_u8
  have H0 : Hid (unstRel s w R (.slice none 0 0) (.int .i64 0) w) := Lib.hid ⟨0, [], Nat.zero_le _, rfl, Lib.hid ⟨gathB.start w, Nat.le_refl _, by show 0 ≤ 5; omega, h⟩⟩
  clear h
  go_enter Tryd.func30, Tryd.ntmps30
  go_wp2
  go_loopw [4, 5] (fun v i wr => unstRel s w R v i wr) (fun _ i _ => s.size - (intOf i).toNat)
  case atStart => exact H0.out
  case round =>
    obtain ⟨k, O, hk, rfl, HR⟩ := hrel
    by_cases hlt : k < s.size
    · have hix : ∀ w, (Instr.index 9 (.string s) (.int .i64 k)).run Tryd.prog w = .ok (.int .u8 (bt s k)) w := fun w => index_bt Tryd.underlying9 hlt w
      have HE := HR.out.2.2.2
      rw [byL_drop hlt] at HE
      simp only [unA] at HE
      by_cases hb : isBit (bt s k) = true
      · rw [if_neg (by rw [hb]; decide)] at HE
        have hcut : ∀ w, (Instr.sliceAt 9 (.string s) none (some (.int .i64 (k : Int))) none).run Tryd.prog w = .ok (.string (s.extract 0 k)) w := fun w => cut_ahead (k := k) (by omega) w
        have hcb := conv_bytes (s.extract 0 k) wr
        have hsz : (s.extract 0 k).size = k := by rw [sub_size _ _ _ (by omega)]; omega
        have hby : byL (s.extract 0 k) = (byL s).take k := by rw [byL_extract, List.drop_zero]
        have HSL := Lib.hid (bytesWorld_slice wr 5 (s.extract 0 k) (grownCap wr (s.extract 0 k).size 0 5) (by omega))
        have HBW := Lib.hid (bytesWorld_below wr 5 (s.extract 0 k))
        rw [hby] at HSL
        have HG1 : Hid (gathB w.heap.size w u4 O (Lib.bytesWorld wr 5 (s.extract 0 k))) := Lib.hid (HR.out.1.later HBW.out)
        have HT5 := HR.out.2.2.1
        have HOl := HR.out.2.1
        have htl := tl_le_len ((byL s).take k) (0, 0)
        have HNX : Hid (tl ((byL s).take (k + 1)) = nxt (tl ((byL s).take k)) (bt s k)) := Lib.hid (by rw [byL_take hlt, tl_snoc])
        generalize ht : tl ((byL s).take k) = p at HT5 HE HNX
        obtain ⟨c, n⟩ := p
        simp only at HT5 HE
        have HT : Hid ((tl ((byL s).take k)).2 = n) := Lib.hid (by rw [ht])
        have hbit : bt s k = 48 ∨ bt s k = 49 := (isBit_iff _).1 hb
        clear hsz hby htl HR HBW
        generalize s.extract 0 k = pp at hcut hcb HSL HG1
        by_cases h5 : n = 5
        · subst h5
          have hk1 : 1 ≤ k := by
            rcases Nat.eq_zero_or_pos k with h0 | h0
            · subst h0; simp [tl] at ht
            · exact h0
          have hkk : ((k : Int) - 1) = ((k - 1 : Nat) : Int) := by omega
          have hix2 : ∀ w, (Instr.index 9 (.string s) (.int .i64 ((k : Int) - 1))).run Tryd.prog w = .ok (.int .u8 (bt s (k - 1))) w := fun w => by rw [hkk]; exact index_bt Tryd.underlying9 (by omega) w
          have hc : bt s (k - 1) = c := by rw [← tl_take_last (s := s) (k := k - 1) (by omega), show k - 1 + 1 = k by omega, ht]
          rw [hc] at hix2
          rw [if_pos rfl] at HE
          have HE2 := Lib.hid HE
          have HO := Lib.hid HOl
          clear HE ht hc hb HOl HT5 hkk
          generalize hx : bt s k = x at hix hbit HE2 HNX
          clear hx
          by_cases hxc : x = c
          · have HQ : Hid (([], (k : Int)) = R) := Lib.hid (by have := HE2.out; rwa [if_pos hxc] at this)
            subst hxc
            rcases hbit with rfl | rfl <;>
            · go_wp2_with fail
              refine (stail_v HT.out _ HSL.out).mono ?_
              rintro e w2 ⟨rfl, m, rfl⟩
              have HG2 := Lib.hid (HG1.out.drewN m)
              go_wp2_with fail
              go_quiet (fail)
              go_wp2
              go_ret2
              refine ⟨?_, (HG2.out.drewN _).2.1⟩
              rw [← HQ.out]
              rfl
          · have HQ : Hid (unA O (x, 1) (k + 1) ((byL s).drop (k + 1)) = R) := Lib.hid (by have := HE2.out; rwa [if_neg hxc] at this)
            have HP : Hid (tl ((byL s).take (k + 1)) = (x, 1)) := Lib.hid (by rw [HNX.out]; exact nxt_new hxc)
            have hne : (x == c) = false := by simp [hxc]
            clear hxc
            rcases hbit with rfl | rfl <;>
            · go_wp2_with fail
              refine (stail_v HT.out _ HSL.out).mono ?_
              rintro e w2 ⟨rfl, m, rfl⟩
              have HG2 := Lib.hid (HG1.out.drewN m)
              go_wp2_with fail
              go_quiet (fail)
              go_wp2
              go_roundw
              case rel => exact ⟨k + 1, O, by omega, by go_num, Lib.hid ⟨HG1.out.drewN _, by have := HO.out; omega, by rw [HP.out]; show 1 ≤ 5; omega, by rw [HP.out]; exact HQ.out⟩⟩
              case measure => simp [intOf]; omega
        · rw [if_neg h5] at HE
          have HE2 := Lib.hid HE
          have HO := Lib.hid HOl
          have hne : ((n : Int) == 5) = false := by simp; omega
          have hne2 : ((n : Int) != 5) = true := by simp; omega
          have HP5 : Hid ((nxt (c, n) (bt s k)).2 ≤ 5) := Lib.hid (by have := nxt_le (c, n) (bt s k); simp only at this; omega)
          clear HE ht hb HOl HT5 h5
          generalize hx : bt s k = x at hix hbit HE2 HNX HP5
          clear hx
          have C3 : Hid (O.length + 1 ≤ maxLen) := Lib.hid (by have := HO.out; unfold maxLen; omega)
          have C4 : Hid ((O.length + 1) * 1 ≤ 140737488355328) := Lib.hid (by have := HO.out; omega)
          have HOK : Hid ((O ++ [x]).length ≤ k + 1) := Lib.hid (by have := HO.out; simp; omega)
          rcases hbit with rfl | rfl
          · go_wp2_with fail
            refine (stail_v HT.out _ HSL.out).mono ?_
            rintro e w2 ⟨rfl, m, rfl⟩
            go_wp2_with fail
            go_quiet (fail)
            obtain ⟨wo, hwo⟩ : ∃ wo : World, wo = ((Lib.bytesWorld wr 5 pp).drewN m).drewN nq := ⟨_, rfl⟩
            have HG2 : Hid (gathB w.heap.size w u4 O wo) := Lib.hid (by rw [hwo]; exact (HG1.out.drewN m).drewN nq)
            rw [← hwo]
            clear hwo HG1
            have C2 : Hid (∀ u ∈ [Value.int .u8 48], u.oneCell' = true) := Lib.hid (fun u hu => by simp at hu; subst hu; rfl)
            have C5 : Hid (w.heap.size ≤ (wo.alloc (.cells #[.int .u8 48] 5)).heap.size) := Lib.hid (by have := HG2.out.2.2; simp; omega)
            go_wp2_with (at_builtin; refine wpList_append_own _ rfl _ _ 49 rfl w.heap.size 5 i0 (.int .u8 0) 1 1 Tryd.underlying49 hi hz0 hz1 hz2 rfl (by decide) _ O.length (byteRow O) rfl (HG2.out.1.alloc _) ⟨wo.heap.size, 0, none⟩ 1 1 [.int .u8 48] rfl rfl (news_byte _ _ _) C2.out C3.out C4.out C5.out ?_)
            intro v' w1 hown hgr _
            have hst := Lib.hid (HG2.out.step hown hgr)
            clear hown hgr
            go_wp2
            go_roundw
            case rel => exact ⟨k + 1, _, by omega, by go_num, Lib.hid ⟨hst.out, HOK.out, by rw [HNX.out]; exact HP5.out, by rw [HNX.out]; exact HE2.out⟩⟩
            case measure => simp [intOf]; omega
          · go_wp2_with fail
            refine (stail_v HT.out _ HSL.out).mono ?_
            rintro e w2 ⟨rfl, m, rfl⟩
            go_wp2_with fail
            go_quiet (fail)
            obtain ⟨wo, hwo⟩ : ∃ wo : World, wo = ((Lib.bytesWorld wr 5 pp).drewN m).drewN nq := ⟨_, rfl⟩
            have HG2 : Hid (gathB w.heap.size w u4 O wo) := Lib.hid (by rw [hwo]; exact (HG1.out.drewN m).drewN nq)
            rw [← hwo]
            clear hwo HG1
            have C2 : Hid (∀ u ∈ [Value.int .u8 49], u.oneCell' = true) := Lib.hid (fun u hu => by simp at hu; subst hu; rfl)
            have C5 : Hid (w.heap.size ≤ (wo.alloc (.cells #[.int .u8 49] 5)).heap.size) := Lib.hid (by have := HG2.out.2.2; simp; omega)
            go_wp2_with (at_builtin; refine wpList_append_own _ rfl _ _ 49 rfl w.heap.size 5 i0 (.int .u8 0) 1 1 Tryd.underlying49 hi hz0 hz1 hz2 rfl (by decide) _ O.length (byteRow O) rfl (HG2.out.1.alloc _) ⟨wo.heap.size, 0, none⟩ 1 1 [.int .u8 49] rfl rfl (news_byte _ _ _) C2.out C3.out C4.out C5.out ?_)
            intro v' w1 hown hgr _
            have hst := Lib.hid (HG2.out.step hown hgr)
            clear hown hgr
            go_wp2
            go_roundw
            case rel => exact ⟨k + 1, _, by omega, by go_num, Lib.hid ⟨hst.out, HOK.out, by rw [HNX.out]; exact HP5.out, by rw [HNX.out]; exact HE2.out⟩⟩
            case measure => simp [intOf]; omega
      · have hb' : isBit (bt s k) = false := by simpa using hb
        have HQ : Hid (([], (k : Int)) = R) := Lib.hid (by have := HE; rwa [if_pos hb'] at this)
        have HB := HR.out.1
        have HBe := Lib.hid HB.2.1
        have h48 : (bt s k != 48) = true := by
          rw [bne_iff_ne]; intro e; exact hb ((isBit_iff _).2 (.inl e))
        have h49 : (bt s k != 49) = true := by
          rw [bne_iff_ne]; intro e; exact hb ((isBit_iff _).2 (.inr e))
        clear HE hb hb' HB HR
        generalize bt s k = x at hix h48 h49
        go_wp2
        go_ret2
        refine ⟨?_, HBe.out⟩
        rw [← HQ.out]
        rfl
    · obtain rfl : k = s.size := by omega
      have HE := HR.out.2.2.2
      rw [List.drop_eq_nil_of_le (by rw [byL_len]; omega), ← byL_len s, List.take_length, byL_len] at HE
      simp only [unA] at HE
      have hcb := conv_bytes s wr
      have HSL := Lib.hid (bytesWorld_slice wr 5 s (grownCap wr s.size 0 5) (by omega))
      have HG1 : Hid (gathB w.heap.size w u4 O (Lib.bytesWorld wr 5 s)) := Lib.hid (HR.out.1.later (bytesWorld_below wr 5 s))
      generalize ht : (tl (byL s)).2 = n at HE
      have HT := Lib.hid ht
      clear ht
      by_cases h5 : n = 5
      · subst h5
        rw [if_pos rfl] at HE
        have HQ := Lib.hid HE
        clear HE
        go_wp2_with fail
        refine (stail_v HT.out _ HSL.out).mono ?_
        rintro e w2 ⟨rfl, m, rfl⟩
        have HG2 := Lib.hid (HG1.out.drewN m)
        go_wp2
        go_ret2
        refine ⟨?_, HG2.out.2.1⟩
        rw [← HQ.out]
        rfl
      · rw [if_neg h5] at HE
        have HQ := Lib.hid HE
        have hne : ((n : Int) == 5) = false := by simp; omega
        clear HE
        go_wp2_with fail
        refine (stail_v HT.out _ HSL.out).mono ?_
        rintro e w2 ⟨rfl, m, rfl⟩
        have HG2 := Lib.hid (HG1.out.drewN m)
        have hcv := conv_own (P := Tryd.prog) ((Lib.bytesWorld wr 5 s).drewN m) 49 9 5 Tryd.underlying49 Tryd.underlying5 Tryd.underlying9 HG2.out.1
        go_wp2
        go_ret2
        refine ⟨?_, HG2.out.2.1⟩
        rw [← HQ.out]
        rfl

end Go.Proofs.YtfooigckcjbegaaDoor

namespace Go.Proofs.YtfooigckcjbegaaDoor
open Go.RowKit Go.Shelf
set_option linter.unusedVariables false

def dren168 : Go.Shelf.Ren := ⟨fun | 168 => 60 | 240 => 53 | 242 => 70 | 276 => 66 | 278 => 77 | n => n, fun | 0 => 0 | 3 => 3 | 4 => 4 | 5 => 5 | 9 => 9 | 20 => 20 | 21 => 21 | 37 => 49 | 46 => 61 | 51 => 91 | 70 => 54 | 72 => 56 | 75 => 58 | 164 => 83 | 80 => 62 | n => n, fun | n => n⟩
theorem dlays168 : Go.Proofs.Lays.n168 Tryd.prog dren168 := {
  mixed := by kernel_rfl
  f168 := Tryd.func60.trans (congrArg some (by kernel_rfl))
  f240 := Tryd.func53.trans (congrArg some (by kernel_rfl))
  f242 := Tryd.func70.trans (congrArg some (by kernel_rfl))
  f276 := Tryd.func66.trans (congrArg some (by kernel_rfl))
  f278 := Tryd.func77.trans (congrArg some (by kernel_rfl))
  t0 := Tryd.underlying0
  a0 := Tryd.isAgg0
  z0 := Tryd.sizeOf0
  v0 := Tryd.zeroValue0
  t3 := Tryd.underlying3
  a3 := Tryd.isAgg3
  z3 := Tryd.sizeOf3
  v3 := Tryd.zeroValue3
  t4 := Tryd.underlying4
  a4 := Tryd.isAgg4
  z4 := Tryd.sizeOf4
  v4 := Tryd.zeroValue4
  t5 := Tryd.underlying5
  a5 := Tryd.isAgg5
  z5 := Tryd.sizeOf5
  v5 := Tryd.zeroValue5
  t9 := Tryd.underlying9
  a9 := Tryd.isAgg9
  z9 := Tryd.sizeOf9
  v9 := Tryd.zeroValue9
  t20 := Tryd.underlying20
  a20 := Tryd.isAgg20
  z20 := Tryd.sizeOf20
  v20 := Tryd.zeroValue20
  t21 := Tryd.underlying21
  a21 := Tryd.isAgg21
  z21 := Tryd.sizeOf21
  v21 := Tryd.zeroValue21
  t37 := Tryd.underlying49
  a37 := Tryd.isAgg49
  z37 := Tryd.sizeOf49
  v37 := Tryd.zeroValue49
  t46 := Tryd.underlying61
  a46 := Tryd.isAgg61
  z46 := Tryd.sizeOf61
  v46 := Tryd.zeroValue61
  t51 := Tryd.underlying91
  a51 := Tryd.isAgg91
  z51 := Tryd.sizeOf91
  v51 := Tryd.zeroValue91
  t70 := Tryd.underlying54
  a70 := Tryd.isAgg54
  z70 := Tryd.sizeOf54
  v70 := Tryd.zeroValue54
  t72 := Tryd.underlying56
  a72 := Tryd.isAgg56
  z72 := Tryd.sizeOf56
  v72 := Tryd.zeroValue56
  t75 := Tryd.underlying58
  a75 := Tryd.isAgg58
  z75 := Tryd.sizeOf58
  v75 := Tryd.zeroValue58
  t164 := Tryd.underlying83
  a164 := Tryd.isAgg83
  z164 := Tryd.sizeOf83
  v164 := Tryd.zeroValue83 }
theorem dextra168 : Go.Proofs.Builder.Extra Tryd.prog dren168 := {
  sizeBuilder := by kernel_rfl
  liesBuilder := by kernel_rfl
  t5 := Tryd.underlying5
  a5 := Tryd.isAgg5
  z5 := Tryd.sizeOf5
  v5 := Tryd.zeroValue5
  infoByte := by kernel_rfl
  cellsByte := by kernel_rfl
  sizeByte := by kernel_rfl
  neB5 := by decide }

theorem dwrune_k (B b : Nat) (bs : List Value) (r : Int) (hr0 : -2147483648 ≤ r) (hr1 : r ≤ 2147483647) (w : World) (h : Lib.IsBuilderF 56 5 B b bs w) (hlen : bs.length + 4 ≤ 140737488355328) (hBw : B ≤ w.heap.size) :
    Calls Tryd.prog 60 #[.pointer (some ⟨b, 0, none⟩), .int .i32 r] w fun e w' => e = .returned (.tuple #[.int .i64 (Lib.runeCells r).length, .nilIface]) ∧ (Lib.BuilderAtF 56 5 B b (.pointer (some ⟨b, 0, none⟩)) (bs ++ Lib.runeCells r) w' ∧ Below B w w' ∧ Lib.OthersKept 5 (some b) w w') :=
  Go.Proofs.Any.Builder_WriteRune_k dlays168 dextra168 B b bs r hr0 hr1 w h hlen hBw

def dren169 : Go.Shelf.Ren := ⟨fun | 169 => 37 | n => n, fun | 70 => 54 | 9 => 9 | 0 => 0 | 72 => 56 | 37 => 49 | 127 => 71 | 3 => 3 | 5 => 5 | n => n, fun | n => n⟩
theorem dlays169 : Go.Proofs.Lays.n169 Tryd.prog dren169 := {
  mixed := by kernel_rfl
  f169 := Tryd.func37.trans (congrArg some (by kernel_rfl))
  t0 := Tryd.underlying0
  a0 := Tryd.isAgg0
  z0 := Tryd.sizeOf0
  v0 := Tryd.zeroValue0
  t3 := Tryd.underlying3
  a3 := Tryd.isAgg3
  z3 := Tryd.sizeOf3
  v3 := Tryd.zeroValue3
  t9 := Tryd.underlying9
  a9 := Tryd.isAgg9
  z9 := Tryd.sizeOf9
  v9 := Tryd.zeroValue9
  t37 := Tryd.underlying49
  a37 := Tryd.isAgg49
  z37 := Tryd.sizeOf49
  v37 := Tryd.zeroValue49
  t70 := Tryd.underlying54
  a70 := Tryd.isAgg54
  z70 := Tryd.sizeOf54
  v70 := Tryd.zeroValue54
  t72 := Tryd.underlying56
  a72 := Tryd.isAgg56
  z72 := Tryd.sizeOf56
  v72 := Tryd.zeroValue56
  t127 := Tryd.underlying71
  a127 := Tryd.isAgg71
  z127 := Tryd.sizeOf71
  v127 := Tryd.zeroValue71 }
theorem dextra169 : Go.Proofs.Builder.Extra Tryd.prog dren169 := {
  sizeBuilder := by kernel_rfl
  liesBuilder := by kernel_rfl
  t5 := Tryd.underlying5
  a5 := Tryd.isAgg5
  z5 := Tryd.sizeOf5
  v5 := Tryd.zeroValue5
  infoByte := by kernel_rfl
  cellsByte := by kernel_rfl
  sizeByte := by kernel_rfl
  neB5 := by decide }
theorem dstring_k (B b : Nat) (l : List UInt8) (w : World) (h : Lib.IsBuilderF 56 5 B b (Lib.byteCells l) w) (hBw : B ≤ w.heap.size) :
    Calls Tryd.prog 37 #[.pointer (some ⟨b, 0, none⟩)] w fun e w' => e = .returned (.string ⟨l.toArray⟩) ∧ (Lib.IsBuilderF 56 5 B b (Lib.byteCells l) w' ∧ Below B w w' ∧ Lib.OthersKept 5 (some b) w w') := Go.Proofs.Any.Builder_String_any_k dlays169 dextra169 B b l w h hBw
end Go.Proofs.YtfooigckcjbegaaDoor

namespace Go.Proofs.YtfooigckcjbegaaDoor
open Go.RowKit
set_option linter.unusedVariables false

/-! ### boxes -/
def Box (w : World) (k : Nat) (v : Value) (t : TypeId) : Prop := w.heap[k]? = some (.cells #[v] t (0, 0))
theorem Box.cell {w : World} {k : Nat} {v : Value} {t : TypeId} (h : Box w k v t) : w.cell? ⟨k, 0, none⟩ = some v := by rw [Lib.cell_of_heap h]; rfl
theorem Box.live {w : World} {k : Nat} {v : Value} {t : TypeId} (h : Box w k v t) : w.frozen? ⟨k, 0, none⟩ = false := Lib.frozen_of_heap h 0
theorem Box.lt {w : World} {k : Nat} {v : Value} {t : TypeId} (h : Box w k v t) : k < w.heap.size := (Array.getElem?_eq_some_iff.1 h).1
theorem Box.ne {w : World} {k l : Nat} {v u : Value} {t r : TypeId} (h : Box w k v t) (h' : Box w l u r) (ht : t ≠ r) : k ≠ l := by
  intro e
  subst e
  unfold Box at h h'
  rw [h] at h'
  cases h'
  exact ht rfl
theorem Box.set {w : World} {k : Nat} {v : Value} {t : TypeId} (h : Box w k v t) (u : Value) : Box (w.setCell ⟨k, 0, none⟩ u) k u t := by
  unfold Box
  rw [heap_setCell_same w k 0 #[v] t u h]
  rfl
theorem Box.other {w : World} {k : Nat} {v : Value} {t : TypeId} (h : Box w k v t) {l : Nat} (hl : k ≠ l) (u : Value) : Box (w.setCell ⟨l, 0, none⟩ u) k v t := by
  unfold Box
  rw [Below.heap_setCell _ _ _ _ hl]
  exact h
theorem Box.below {w w' : World} {k B : Nat} {v : Value} {t : TypeId} (h : Box w k v t) (hb : Below B w w') (hk : k < B) : Box w' k v t := (hb.block k hk).trans h
theorem Box.made (w : World) (v : Value) (t : TypeId) {k : Nat} (hk : w.heap.size = k) : Box (w.alloc (.cells #[v] t)) k v t := by
  subst hk
  unfold Box World.alloc
  simp
theorem Box.iterAt {w : World} {k i p q : Nat} {s : ByteArray} {v : Value} {t : TypeId} (h : Box w k v t) (hi : w.heap[i]? = some (.stringIter s p)) : Box (w.iterAt i s q) k v t := by
  refine (Lib.iterAt_other w i k s q ?_).trans h
  intro e
  subst e
  unfold Box at h
  rw [h] at hi
  cases hi
theorem Box.kept {w w' : World} {k b : Nat} {v : Value} {t e : TypeId} (h : Box w k v t) (hk : Lib.OthersKept e (some b) w w') (hb : k ≠ b) (ht : t ≠ e) : Box w' k v t :=
  hk k _ h (fun e1 => hb (Option.some.inj e1)) (fun c fz e1 => by cases e1; exact ht rfl)

/-- a string's iterator in block k stays as it is -/
def KeepsI (k : Nat) (w w' : World) : Prop := ∀ s p, w.heap[k]? = some (.stringIter s p) → w'.heap[k]? = some (.stringIter s p)
theorem KeepsI.refl (k : Nat) (w : World) : KeepsI k w w := fun _ _ h => h
theorem KeepsI.trans {k : Nat} {a b c : World} (h : KeepsI k a b) (h' : KeepsI k b c) : KeepsI k a c := fun s p hp => h' s p (h s p hp)
theorem KeepsI.kept {k b : Nat} {e : TypeId} {w w' : World} {o : Obj} (h : Lib.OthersKept e (some b) w w') (hb : w.heap[b]? = some o) (ho : ∀ s p, o ≠ .stringIter s p) : KeepsI k w w' := fun s p hp =>
  h.iter hp (by rintro rfl; rw [hb] at hp; exact ho s p (Option.some.inj hp))

/-- of two boxes and of nothing else the world may have turned -/
structure Upd (l m : Nat) (w w' : World) : Prop where
  os : w'.os = w.os
  tape : w'.tape = w.tape
  output : w'.output = w.output
  size : w'.heap.size = w.heap.size
  block : ∀ k, k ≠ l → k ≠ m → w'.heap[k]? = w.heap[k]?
theorem Upd.refl (l m : Nat) (w : World) : Upd l m w w := ⟨rfl, rfl, rfl, rfl, fun _ _ _ => rfl⟩
theorem Upd.trans {l m : Nat} {a b c : World} (h : Upd l m a b) (k : Upd l m b c) : Upd l m a c :=
  ⟨k.os.trans h.os, k.tape.trans h.tape, k.output.trans h.output, k.size.trans h.size, fun i hi hj => (k.block i hi hj).trans (h.block i hi hj)⟩
theorem Upd.setL (l m : Nat) (w : World) (u : Value) : Upd l m w (w.setCell ⟨l, 0, none⟩ u) :=
  ⟨rfl, rfl, rfl, by simp [World.setCell], fun k hk _ => Below.heap_setCell _ _ _ _ hk⟩
theorem Upd.setM (l m : Nat) (w : World) (u : Value) : Upd l m w (w.setCell ⟨m, 0, none⟩ u) :=
  ⟨rfl, rfl, rfl, by simp [World.setCell], fun k _ hk => Below.heap_setCell _ _ _ _ hk⟩
theorem Upd.below {l m B : Nat} {a w w' : World} (h : Below B a w) (u : Upd l m w w') (hl : B ≤ l) (hm : B ≤ m) : Below B a w' :=
  h.trans ⟨u.os, u.tape, u.output, by rw [u.size]; exact Nat.le_refl _, fun k hk => u.block k (by omega) (by omega)⟩
theorem Upd.box {l m k : Nat} {w w' : World} {v : Value} {t : TypeId} (u : Upd l m w w') (h : Box w k v t) (hl : k ≠ l) (hm : k ≠ m) : Box w' k v t := (u.block k hl hm).trans h
theorem Upd.keepsI {l m : Nat} {w w' : World} {v v' : Value} {t t' : TypeId} (u : Upd l m w w') (hl : Box w l v t) (hm : Box w m v' t') (k : Nat) : KeepsI k w w' := by
  intro s p hp
  rw [u.block k (by rintro rfl; unfold Box at hl; rw [hl] at hp; cases hp) (by rintro rfl; unfold Box at hm; rw [hm] at hp; cases hp)]
  exact hp
/-- a builder stays one while boxes of other types are written -/
theorem Upd.builder {T e t t' : TypeId} {B b l m : Nat} {bs : List Value} {w w' : World} {v v' : Value} (u : Upd l m w w') (h : Lib.IsBuilderF T e B b bs w) (hl : Box w l v t) (hm : Box w m v' t')
    (h1 : t ≠ T) (h2 : t ≠ e) (h3 : t' ≠ T) (h4 : t' ≠ e) : Lib.IsBuilderF T e B b bs w' := by
  have key : ∀ {k : Nat} {c : Array Value} {ty : TypeId} {fz : Nat × Nat}, w.heap[k]? = some (.cells c ty fz) → t ≠ ty → t' ≠ ty → w'.heap[k]? = some (.cells c ty fz) := by
    intro k c ty fz hk ht ht'
    rw [u.block k (by rintro rfl; unfold Box at hl; rw [hl] at hk; cases hk; exact ht rfl) (by rintro rfl; unfold Box at hm; rw [hm] at hk; cases hk; exact ht' rfl)]
    exact hk
  have one : ∀ p, Lib.BuilderAtF T e B b p bs w → Lib.BuilderAtF T e B b p bs w' := by
    rintro p ⟨hB, v, hb, hown, hne⟩
    refine ⟨hB, v, key hb h1 h3, ⟨hown.1, ?_⟩, hne⟩
    rcases hown.2 with hn | ⟨g, cap, cur, fz, hv, hbg, hg, rest⟩
    · exact .inl hn
    · exact .inr ⟨g, cap, cur, fz, hv, hbg, key hg h2 h4, rest⟩
  exact h.elim (fun x => .inl (one _ x)) (fun x => .inr (one _ x))
theorem bld_heap {T e : TypeId} {B b : Nat} {bs : List Value} {w : World} (h : Lib.IsBuilderF T e B b bs w) : B ≤ b ∧ ∃ p v, w.heap[b]? = some (.cells #[p, v] T (0, 0)) := by
  rcases h with ⟨h1, v, h2, _⟩ | ⟨h1, v, h2, _⟩
  · exact ⟨h1, _, _, h2⟩
  · exact ⟨h1, _, _, h2⟩
theorem Box.ne_bld {T e t : TypeId} {B b k : Nat} {bs : List Value} {w : World} {v : Value} (h : Box w k v t) (hb : Lib.IsBuilderF T e B b bs w) : k ≠ b := by
  obtain ⟨_, p, u, h2⟩ := bld_heap hb
  rintro rfl
  unfold Box at h
  rw [h] at h2
  cases h2
theorem bld_keepsI {T e : TypeId} {B b : Nat} {bs : List Value} {w w' : World} (hb : Lib.IsBuilderF T e B b bs w) (h : Lib.OthersKept e (some b) w w') (k : Nat) : KeepsI k w w' := by
  obtain ⟨_, p, u, h2⟩ := bld_heap hb
  exact KeepsI.kept h h2 (fun _ _ e => by cases e)

/-! ### other -/
theorem cother_t {x y : Int} (hy : oth x = y) (hx : isBit x = true) (w : World) :
    Calls Tryd.prog 59 #[.int .i32 x] w fun e w' => e = .returned (.tuple #[.int .i32 y, .bool true]) ∧ w = w' := by
  subst hy
  rw [isBit_iff] at hx
  rcases hx with rfl | rfl
  · go_enter Tryd.func59, Tryd.ntmps59
    go_wp2
    go_ret2
    exact ⟨rfl, rfl⟩
  · go_enter Tryd.func59, Tryd.ntmps59
    go_wp2
    go_ret2
    exact ⟨rfl, rfl⟩
theorem cother_f {x : Int} (hx : isBit x = false) (w : World) :
    Calls Tryd.prog 59 #[.int .i32 x] w fun e w' => e = .returned (.tuple #[.int .i32 0, .bool false]) ∧ w = w' := by
  have h0 : (x == 48) = false := by unfold isBit at hx; simp at hx; simp [hx]
  have h1 : (x == 49) = false := by unfold isBit at hx; simp at hx; simp [hx]
  clear hx
  go_enter Tryd.func59, Tryd.ntmps59
  go_wp2
  go_ret2
  exact ⟨rfl, rfl⟩

/-! ### runs -/
def cntV (l m : Nat) : Value := .func (.func 69) #[] #[.pointer (some ⟨l, 0, none⟩), .pointer (some ⟨m, 0, none⟩)]
theorem runs_any (w : World) :
    Calls Tryd.prog 56 #[] w fun e w' => e = .returned (cntV w.heap.size (w.heap.size + 1)) ∧ Box w' w.heap.size (.int .i32 0) 21 ∧ Box w' (w.heap.size + 1) (.int .i64 0) 3 ∧ Below w.heap.size w w' ∧ w'.heap.size = w.heap.size + 2 := by
  have hmf : ∀ (fn : Fn) (first cap : Array Value) (w : World), (Instr.makeFunc fn first cap).run Tryd.prog w = .ok (.func fn first cap) w := fun _ _ _ _ => rfl
  go_enter Tryd.func56, Tryd.ntmps56
  go_wp2
  go_ret
  refine ⟨rfl, ?_, Box.made _ _ _ (by simp), ((Below.refl _ w).alloc (Nat.le_refl _) _).alloc (by simp) _, by simp⟩
  exact (Box.made w (.int .i32 0) 21 rfl).below (((Below.refl (w.heap.size + 1) _)).alloc (by simp) _) (by omega)

set_option maxHeartbeats 1000000 in
theorem count_v {l m : Nat} {c x : Int} {n : Nat} {p : Int × Nat} (h : nxt (c, n) x = p) (hn : n ≤ 1000000) (w : World) (hl : Box w l (.int .i32 c) 21) (hm : Box w m (.int .i64 n) 3) :
    Calls Tryd.prog 69 #[.int .i32 x, .pointer (some ⟨l, 0, none⟩), .pointer (some ⟨m, 0, none⟩)] w fun e w' => e = .returned (.int .i64 p.2) ∧ Box w' l (.int .i32 p.1) 21 ∧ Box w' m (.int .i64 p.2) 3 ∧ Upd l m w w' := by
  have cl := hl.cell
  have cm := hm.cell
  have fl := hl.live
  have fm := hm.live
  have HLM := Lib.hid (hl.ne hm (by decide))
  have HL := Lib.hid hl
  have HM := Lib.hid hm
  clear hl hm
  have hne : l ≠ m := HLM.out
  have hne' : m ≠ l := fun e => hne e.symm
  subst h
  by_cases hx : x = c
  · subst hx
    go_enter Tryd.func69, Tryd.ntmps69
    go_wp2
    go_ret
    have e : nxt (x, n) x = (x, n + 1) := by unfold nxt; rw [if_pos rfl]
    rw [e]
    exact ⟨rfl, HL.out.other hne _, HM.out.set _, Upd.setM l m w _⟩
  · have h1 : (x != c) = true := by simp [hx]
    have HX := Lib.hid hx
    clear hx
    have hB := (((HM.out.other hne' (.int .i32 x)).set (.int .i64 0)).set (.int .i64 1))
    have cB := hB.cell
    have HB := Lib.hid hB
    clear hB
    go_enter Tryd.func69, Tryd.ntmps69
    go_wp2
    go_ret
    have e : nxt (c, n) x = (x, 1) := by unfold nxt; rw [if_neg HX.out]
    rw [e]
    exact ⟨rfl, ((HL.out.set _).other hne _).other hne _, HB.out, ((Upd.setL l m w _).trans (Upd.setM l m _ _)).trans (Upd.setM l m _ _)⟩

/-! ### walk -/
def WalkPost (s : ByteArray) (Inv Fin : Nat → World → Prop) (e : Ending) (w : World) : Prop :=
  (e = .returned (.int .i64 (-1)) ∧ ∃ pos, ¬ pos < s.size ∧ Inv pos w) ∨ ∃ pos : Nat, pos < s.size ∧ e = .returned (.int .i64 pos) ∧ Fin pos w
def StepPost (k : Nat) (w1 : World) (Yes No : World → Prop) (e : Ending) (w2 : World) : Prop :=
  KeepsI k w1 w2 ∧ ((e = .returned (.bool true) ∧ Yes w2) ∨ (e = .returned (.bool false) ∧ No w2))

set_option maxHeartbeats 2000000 in
theorem walk_v (g : Nat) (lb : Array Value) (eg : ∀ args w, (callFunc g args).run Tryd.prog w = .ok (.enter g args) w) {s : ByteArray} (Inv Fin : Nat → World → Prop) (w : World)
    (h0 : Inv 0 (w.iter s 0)) (hit : ∀ pos q w1, Inv pos w1 → w1.heap[w.heap.size]? = some (.stringIter s pos) → Inv pos (w1.iterAt w.heap.size s q))
    (hdo : ∀ pos w1, pos < s.size → Inv pos w1 → Calls Tryd.prog g (#[.int .i32 ((Utf8.decode s pos).1 : Int)] ++ lb) w1 (StepPost w.heap.size w1 (Inv (pos + (Utf8.decode s pos).2)) (Fin pos))) :
    Calls Tryd.prog 57 #[.string s, .func (.func g) #[] lb] w (WalkPost s Inv Fin) := by
  have H0 := Lib.hid h0
  have HIT := Lib.hid hit
  have HDO := Lib.hid hdo
  clear h0 hit hdo
  go_enter Tryd.func57, Tryd.ntmps57
  go_wp2
  go_loopg [] s.size (fun gf wx => ∃ pos : Nat, wx.heap[w.heap.size]? = some (.stringIter s pos) ∧ Hid (Inv pos wx) ∧ s.size ≤ pos + gf)
  case atStart => exact ⟨0, World.iter_heap w s 0, H0, by omega⟩
  case round =>
    obtain ⟨pos, hit, HI, hfu⟩ := hrel
    by_cases hps : pos < s.size
    · obtain ⟨g', rfl⟩ : ∃ g', gk = g' + 1 := ⟨gk - 1, by omega⟩
      have hnx : ∀ ty, (Instr.next (.pointer (some ⟨w.heap.size, 0, none⟩)) true ty).run Tryd.prog wr = _ := fun ty => Lib.run_next_any_at wr w.heap.size s pos ty hit hps
      have hwd := Lib.width_pos s pos
      have cS := HDO.out pos _ hps (HIT.out pos (pos + (Utf8.decode s pos).2) _ HI.out hit)
      have hit2 := Lib.iterAt_heap wr w.heap.size s pos (pos + (Utf8.decode s pos).2) hit
      generalize (Utf8.decode s pos).1 = R at hnx cS
      generalize (Utf8.decode s pos).2 = K at hnx hwd cS hit2
      generalize wr.iterAt w.heap.size s (pos + K) = W at hnx hit2 cS
      have CS := Lib.hid cS
      clear cS
      go_wp2_with (go_at_fn g; refine CS.out.mono ?_; rintro e W' ⟨hkeep, (⟨rfl, hI⟩ | ⟨rfl, hF⟩)⟩)
      · go_roundg g'
        case measure => omega
        case rel => exact ⟨pos + K, hkeep _ _ hit2, Lib.hid hI, by omega⟩
      · go_ret
        exact .inr ⟨pos, hps, rfl, hF⟩
    · have hnx : ∀ ty, (Instr.next (.pointer (some ⟨w.heap.size, 0, none⟩)) true ty).run Tryd.prog wr = _ := fun ty => Lib.run_next_end_at wr w.heap.size s pos ty hit hps
      go_wp2
      go_ret
      exact .inl ⟨rfl, pos, hps, HI.out⟩

end Go.Proofs.YtfooigckcjbegaaDoor
