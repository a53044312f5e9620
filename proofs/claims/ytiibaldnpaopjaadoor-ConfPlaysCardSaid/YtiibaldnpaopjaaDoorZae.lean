/- Conf: walk of ConfPlays. -/
import Derived.Test.YtiibaldnpaopjaaDoorZad
import Derived.Test.YtiibaldnpaopjaaDoorZab
import Derived.Test.YtiibaldnpaopjaaDoorZaa
import Derived.Deep.RegionWith
namespace Go.Proofs.YtiibaldnpaopjaaDoor
open Go.RowKit
set_option linter.unusedVariables false

def intOfL : List Value → Int
  | [.int .i64 n] => n
  | _ => 0
theorem intOf_c (l : List Value) (h : FitsAll [.int .i64] l) : intC (intOfL l) = l := by
  obtain ⟨v0, l0, rfl, ⟨a0, rfl, _⟩, h0⟩ := FitsAll.cons h
  obtain rfl := FitsAll.nil h0
  rfl
theorem wf_int {n : Int} (h : (Lit.int .i64 n).wf = true) : -9223372036854775808 ≤ n ∧ n ≤ 9223372036854775807 := by
  simpa [Lit.wf, show IntKind.i64.min = -9223372036854775808 from rfl] using h
theorem int_fits {n : Int} (h : FitsAll [.int .i64] (intC n)) : -9223372036854775808 ≤ n ∧ n ≤ 9223372036854775807 := by
  obtain ⟨⟨a0, e0, h0⟩, _⟩ := h
  injection e0 with _ e0
  rw [e0]; exact wf_int h0
/-- both boxes hold what is known, and it may be -/
def PlaySt (w wr : World) (k : Nat) (c : Cf) : Prop := c.ok = true ∧ c.d ≤ k ∧ BoxCf wr w.heap.size c ∧ BoxCf wr (w.heap.size + 1) c ∧ Below w.heap.size w wr
theorem PlaySt.start (w : World) : PlaySt w ((w.alloc (.cells #[.int .i64 0, .int .i64 0, .bool false, .int .i64 0] 23)).alloc (.cells #[.int .i64 0, .int .i64 0, .bool false, .int .i64 0] 23)) 0 cf0 := by
  have h1 := BoxCf.made w cf0
  have h2 := (Below.refl (w.alloc (.cells #[.int .i64 0, .int .i64 0, .bool false, .int .i64 0] 23)).heap.size (w.alloc (.cells #[.int .i64 0, .int .i64 0, .bool false, .int .i64 0] 23))).alloc (Nat.le_refl _) (.cells #[.int .i64 0, .int .i64 0, .bool false, .int .i64 0] 23)
  have h3 := BoxCf.made (w.alloc (.cells #[.int .i64 0, .int .i64 0, .bool false, .int .i64 0] 23)) cf0
  refine ⟨rfl, by decide, h1.later h2, ?_, fbelow_t ((Below.refl _ _).alloc (Nat.le_refl _) _) h2⟩
  rw [show (w.alloc (.cells #[.int .i64 0, .int .i64 0, .bool false, .int .i64 0] 23)).heap.size = w.heap.size + 1 from by simp only [World.alloc, Array.size_push]] at h3
  exact h3
theorem PlaySt.later {w wr w' : World} {k : Nat} {c : Cf} (h : PlaySt w wr k c) (hb : Below wr.heap.size wr w') : PlaySt w w' k c := ⟨h.1, h.2.1, h.2.2.1.later hb, h.2.2.2.1.later hb, fbelow_t h.2.2.2.2 hb⟩
theorem cfdo_e {c e : Cf} {what back : Int} (h : c.do_ what back = e) (hb1 : -9223372036854775808 ≤ back) (hb2 : back ≤ 9223372036854775807) (w : World) :
    Calls Tryd.prog 14 #[cfV c, .int .i64 what, .int .i64 back] w fun x w' => x = .returned (cfV e) ∧ Below w.heap.size w w' := by
  rw [← h]; exact cfdo_v hb1 hb2 w
/-- both boxes stored into -/
theorem PlaySt.put {w wr : World} {k : Nat} {c e : Cf} (h : PlaySt w wr k c) (he : e.ok = true) (hd : e.d ≤ (k + 1 : Nat)) : PlaySt w (putC (putC wr w.heap.size e) (w.heap.size + 1) e) (k + 1) e := by
  have h1 := h.2.2.1.put e
  have h2 := h.2.2.2.1.other (b := w.heap.size) e (by omega)
  exact ⟨he, hd, h1.other e (by omega), h2.put e, putC_below (putC_below h.2.2.2.2 (Nat.le_refl _) e) (by omega) e⟩
/-- one thing that happens -/
theorem play_step {c e : Cf} {what back : Int} (h : c.ok = true) (he : c.do_ what back = e) : e.ok = true ∧ (∀ k : Nat, c.d ≤ k → e.d ≤ (k + 1 : Nat)) ∧
    ((c.o = false ∧ e.o = false ∧ e.d = 0) ∨ (c.o = false ∧ e.o = true ∧ what = 2 ∧ e.d = c.d) ∨ (c.o = true ∧ e.o = true ∧ what ≠ 4 ∧ e.d = c.d) ∨ (c.o = true ∧ e.o = true ∧ what = 4 ∧ e.d = c.d + 1) ∨
      (c.o = true ∧ e.o = false ∧ e.t = 0 ∧ e.r = 0 ∧ e.d = 0 ∧ what = 4 ∧ (if back < 1 then 1 else back) - 1 ≤ c.d)) := by
  have hok : e.ok = true := by rw [← he]; exact Cf.do_ok h what back
  obtain ⟨_, _, _, _, cd0, _, cf⟩ := c.ok_iff.1 h
  obtain ⟨_, _, _, _, ed0, _, ef⟩ := e.ok_iff.1 hok
  cases hc : c.o
  · have c0 := (cf hc).2
    cases ho : e.o
    · have e0 := (ef ho).2
      exact ⟨hok, fun k _ => by omega, .inl ⟨rfl, rfl, e0⟩⟩
    · have hw : what = 2 := Cf.gets_off (back := back) h hc (by rw [he]; exact ho)
      have hd : e.d = c.d := by
        subst hw
        rw [← he, Cf.do_on h hc, if_neg (by decide), if_neg (by decide), if_pos rfl]; rfl
      exact ⟨hok, fun k _ => by omega, .inr (.inl ⟨rfl, rfl, hw, hd⟩)⟩
  · rcases Cf.was_off what back h hc with ⟨h1, h2⟩ | ⟨h1, h2, h3⟩ | ⟨h1, h2, h3⟩
    · rw [he] at h2
      subst h2
      exact ⟨hok, fun k _ => by omega, .inr (.inr (.inl ⟨rfl, hc, h1, rfl⟩))⟩
    · rw [he] at h3
      exact ⟨hok, fun k _ => by rw [h3]; show (0 : Int) ≤ _; omega, .inr (.inr (.inr (.inr ⟨rfl, by rw [h3]; rfl, by rw [h3]; rfl, by rw [h3]; rfl, by rw [h3]; rfl, h1, h2⟩)))⟩
    · rw [he] at h3
      exact ⟨hok, fun k _ => by rw [h3]; show c.d + 1 ≤ _; omega, .inr (.inr (.inr (.inl ⟨rfl, by rw [h3], h1, by rw [h3]⟩)))⟩
theorem what_of (x : Int) : 0 ≤ (wrap64 (x.tmod 5 + 5)).tmod 5 ∧ (wrap64 (x.tmod 5 + 5)).tmod 5 ≤ 4 := by
  have h1 : x.tmod 5 < 5 := Int.tmod_lt_of_pos x (by decide)
  have h2 : -5 < x.tmod 5 := Int.lt_tmod_of_pos x (by decide)
  have h3 : wrap64 (x.tmod 5 + 5) = x.tmod 5 + 5 := by unfold wrap64; omega
  rw [h3]
  have h4 : (x.tmod 5 + 5).tmod 5 < 5 := Int.tmod_lt_of_pos _ (by decide)
  have h5 : 0 ≤ (x.tmod 5 + 5).tmod 5 := Int.tmod_nonneg _ (by omega)
  omega
set_option maxHeartbeats 4000000 in
set_option maxRecDepth 4000 in
theorem confPlays_walk (a : Option Addr) (len cap : Nat) (F : Nat → List Value) (back : Int) (w : World) (hr : IsRowOf w [.int .i64] a len cap F) (wb : (Lit.int .i64 back).wf = true) (hT : TabC w) :
    Calls Tryd.prog 4 #[.slice a len cap, .int .i64 back] w fun e w' => e = .returned (.bool true) ∧ Below w.heap.size w w' := by
  have HT := Lib.hid hT
  clear hT
  obtain ⟨L, hL, hlen, hf⟩ := slice_of_row hr intOfL intOf_c rfl (by decide)
  have HV : Hid (SlI w (.slice a len cap) L) := Lib.hid hL
  have HX : Hid (∀ n ∈ L, -9223372036854775808 ≤ n ∧ n ≤ 9223372036854775807) := Lib.hid (fun s hs => int_fits (hf s hs))
  have hbk : -9223372036854775808 ≤ back ∧ back ≤ 9223372036854775807 := wf_int wb
  have HK := Lib.hid hbk
  clear hr hf hL wb hbk
  subst hlen
  by_cases h20 : (400 : Int) < (L.length : Int)
  · go_enter Tryd.func4, Tryd.ntmps4
    go_wp2_with fail
    refine (confalive_any _ HT.out).mono ?_
    rintro e w1 ⟨rfl, hb1⟩
    go_wp2
    go_ret
    exact ⟨rfl, hb1⟩
  have hl2 : L.length ≤ 400 := by omega
  clear h20
  have hl3 : ¬ (400 : Int) < (L.length : Int) := by omega
  have HS := Lib.hid (PlaySt.start w)
  go_enter Tryd.func4, Tryd.ntmps4
  go_wp2_with fail
  go_loopw [7, 18] (fun u i wr => ∃ k : Nat, k ≤ L.length ∧ i = .int .i64 k ∧ ∃ c : Cf, u = .int .i64 c.d ∧ Hid (PlaySt w wr k c)) (fun _ i _ => L.length - (intOf i).toNat)
  case atStart => exact ⟨0, Nat.zero_le _, rfl, cf0, rfl, HS⟩
  case round =>
    obtain ⟨k, hk, rfl, c, rfl, HI⟩ := hrel
    by_cases hlt : k < L.length
    · obtain ⟨y, c', hv', hyb, x0⟩ := (HV.out.later HI.out.2.2.2.2).at1 hlt rfl
      injection hv' with hA _ hcap
      subst hA
      subst hcap
      have HXK := Lib.hid (HX.out L[k] (List.getElem_mem hlt))
      generalize L[k] = x at x0 HXK
      obtain ⟨a0, a1, a2, a3⟩ := HI.out.2.2.1.cells
      obtain ⟨b0, b1, b2, b3⟩ := HI.out.2.2.2.1.cells
      obtain ⟨what, hwh⟩ : ∃ what, (wrap64 (x.tmod 5 + 5)).tmod 5 = what := ⟨_, rfl⟩
      have hwi := what_of x
      rw [hwh] at hwi
      have HW := Lib.hid hwi
      obtain ⟨e, he⟩ : ∃ e, c.do_ what back = e := ⟨_, rfl⟩
      have HE := Lib.hid he
      have HT := Lib.hid (play_step HI.out.1 he)
      clear hwi he
      go_wp2_with fail
      clear hwh x0 HXK
      have HD : Hid (PlaySt w wr.drew k c) := Lib.hid (HI.out.later (Below.refl _ _).drew)
      go_region_with (first | (go_at_call 13; refine (cdo_v HE.out HI.out.1 HW.out HK.out.1 HK.out.2 _).mono ?_; rintro x1 w1 ⟨rfl, hb1⟩; have HU := Lib.hid (HD.out.later hb1); clear hb1; obtain ⟨p0, p1, p2, p3⟩ := HU.out.2.2.1.cells; obtain ⟨q0, q1, q2, q3⟩ := HU.out.2.2.2.1.cells) | (go_at_call 14; refine (cfdo_e HE.out HK.out.1 HK.out.2 _).mono ?_; rintro x2 w2 ⟨rfl, hb2⟩; have HU2 := Lib.hid (HU.out.later hb2); clear hb2; obtain ⟨r0, r1, r2, r3⟩ := HU2.out.2.2.1.cells; obtain ⟨s0, s1, s2, s3⟩ := HU2.out.2.2.2.1.cells; obtain ⟨f0, f1, f2, f3⟩ := HU2.out.2.2.1.live; obtain ⟨g0, g1, g2, g3⟩ := HU2.out.2.2.2.1.live))
      all_goals (
        clear a0 a1 a2 a3 b0 b1 b2 b3 p0 p1 p2 p3 q0 q1 q2 q3 r0 r1 r2 r3 s0 s1 s2 s3 f0 f1 f2 f3 g0 g1 g2 g3
        have HP := Lib.hid (HU2.out.put HT.out.1 (HT.out.2.1 k HI.out.2.1))
        obtain ⟨w3, hw3⟩ : ∃ w3, putC (putC w2 w.heap.size e) (w.heap.size + 1) e = w3 := ⟨_, rfl⟩
        rw [hw3] at HP
        unfold putC at hw3
        rw [hw3]
        have ht := HT.out.2.2
        clear hw3 HU HU2 HT HE HD HI
        obtain ⟨ct, cr, co, cd⟩ := c
        obtain ⟨et, er, eo, ed⟩ := e
        simp only at ht
        rcases ht with ⟨rfl, rfl, rfl⟩ | ⟨rfl, rfl, rfl, rfl⟩ | ⟨rfl, rfl, hw4, rfl⟩ | ⟨rfl, rfl, rfl, rfl⟩ | ⟨rfl, rfl, rfl, rfl, rfl, rfl, hb⟩
        · obtain ⟨a0, a1, a2, a3⟩ := HP.out.2.2.1.cells
          obtain ⟨b0, b1, b2, b3⟩ := HP.out.2.2.2.1.cells
          go_wp2_with fail
          refine (kcright_v HP.out.1 _).mono ?_
          rintro x3 w4 ⟨rfl, hb4⟩
          have HP4 := Lib.hid (HP.out.later hb4)
          clear hb4 a0 a1 a2 a3 b0 b1 b2 b3
          obtain ⟨a0, a1, a2, a3⟩ := HP4.out.2.2.1.cells
          obtain ⟨b0, b1, b2, b3⟩ := HP4.out.2.2.2.1.cells
          go_wp2
          go_roundw
          case rel => exact ⟨k + 1, by omega, by go_num, ⟨et, er, false, 0⟩, rfl, HP4⟩
          case measure => simp [intOf]; omega
        · obtain ⟨a0, a1, a2, a3⟩ := HP.out.2.2.1.cells
          obtain ⟨b0, b1, b2, b3⟩ := HP.out.2.2.2.1.cells
          go_wp2_with fail
          refine (kcright_v HP.out.1 _).mono ?_
          rintro x3 w4 ⟨rfl, hb4⟩
          have HP4 := Lib.hid (HP.out.later hb4)
          clear hb4 a0 a1 a2 a3 b0 b1 b2 b3
          obtain ⟨a0, a1, a2, a3⟩ := HP4.out.2.2.1.cells
          obtain ⟨b0, b1, b2, b3⟩ := HP4.out.2.2.2.1.cells
          go_wp2
          go_roundw
          case rel => exact ⟨k + 1, by omega, by go_num, ⟨et, er, true, ed⟩, rfl, HP4⟩
          case measure => simp [intOf]; omega
        · obtain ⟨a0, a1, a2, a3⟩ := HP.out.2.2.1.cells
          obtain ⟨b0, b1, b2, b3⟩ := HP.out.2.2.2.1.cells
          go_wp2_with fail
          refine (kcright_v HP.out.1 _).mono ?_
          rintro x3 w4 ⟨rfl, hb4⟩
          have HP4 := Lib.hid (HP.out.later hb4)
          clear hb4 a0 a1 a2 a3 b0 b1 b2 b3
          obtain ⟨a0, a1, a2, a3⟩ := HP4.out.2.2.1.cells
          obtain ⟨b0, b1, b2, b3⟩ := HP4.out.2.2.2.1.cells
          go_wp2
          go_roundw
          case rel => exact ⟨k + 1, by omega, by go_num, ⟨et, er, true, ed⟩, rfl, HP4⟩
          case measure => simp [intOf]; omega
        · obtain ⟨a0, a1, a2, a3⟩ := HP.out.2.2.1.cells
          obtain ⟨b0, b1, b2, b3⟩ := HP.out.2.2.2.1.cells
          have hcd : cd + 1 ≤ 401 := by have := HP.out.2.1; simp only at this; omega
          have hc0 : 0 ≤ cd + 1 := (Cf.ok_iff _).1 HP.out.1 |>.2.2.2.2.1
          go_wp2_with fail
          refine (kcright_v HP.out.1 _).mono ?_
          rintro x3 w4 ⟨rfl, hb4⟩
          have HP4 := Lib.hid (HP.out.later hb4)
          clear hb4 a0 a1 a2 a3 b0 b1 b2 b3
          obtain ⟨a0, a1, a2, a3⟩ := HP4.out.2.2.1.cells
          obtain ⟨b0, b1, b2, b3⟩ := HP4.out.2.2.2.1.cells
          go_wp2
          go_roundw
          case rel => exact ⟨k + 1, by omega, by go_num, ⟨et, er, true, cd + 1⟩, rfl, HP4⟩
          case measure => simp [intOf]; omega
        · by_cases hbk : back < 1
          · rw [if_pos hbk] at hb
            have e1 : decide (cd < 0) = false := by rw [decide_eq_false_iff_not]; omega
            clear hb
            obtain ⟨a0, a1, a2, a3⟩ := HP.out.2.2.1.cells
            obtain ⟨b0, b1, b2, b3⟩ := HP.out.2.2.2.1.cells
            go_wp2_with fail
            refine (kcright_v HP.out.1 _).mono ?_
            rintro x3 w4 ⟨rfl, hb4⟩
            have HP4 := Lib.hid (HP.out.later hb4)
            clear hb4 a0 a1 a2 a3 b0 b1 b2 b3
            obtain ⟨a0, a1, a2, a3⟩ := HP4.out.2.2.1.cells
            obtain ⟨b0, b1, b2, b3⟩ := HP4.out.2.2.2.1.cells
            go_wp2
            go_roundw
            case rel => exact ⟨k + 1, by omega, by go_num, ⟨0, 0, false, 0⟩, rfl, HP4⟩
            case measure => simp [intOf]; omega
          · rw [if_neg hbk] at hb
            have e1 : decide (cd < wrap64 (back - 1)) = false := by have := HK.out; rw [decide_eq_false_iff_not]; unfold wrap64; omega
            clear hb
            obtain ⟨a0, a1, a2, a3⟩ := HP.out.2.2.1.cells
            obtain ⟨b0, b1, b2, b3⟩ := HP.out.2.2.2.1.cells
            go_wp2_with fail
            refine (kcright_v HP.out.1 _).mono ?_
            rintro x3 w4 ⟨rfl, hb4⟩
            have HP4 := Lib.hid (HP.out.later hb4)
            clear hb4 a0 a1 a2 a3 b0 b1 b2 b3
            obtain ⟨a0, a1, a2, a3⟩ := HP4.out.2.2.1.cells
            obtain ⟨b0, b1, b2, b3⟩ := HP4.out.2.2.2.1.cells
            go_wp2
            go_roundw
            case rel => exact ⟨k + 1, by omega, by go_num, ⟨0, 0, false, 0⟩, rfl, HP4⟩
            case measure => simp [intOf]; omega)
    · obtain rfl : k = L.length := by omega
      go_wp2_with fail
      refine (confalive_any _ (HT.out.below HI.out.2.2.2.2)).mono ?_
      rintro e w6 ⟨rfl, hb6⟩
      go_wp2
      go_ret
      exact ⟨rfl, fbelow_t HI.out.2.2.2.2 hb6⟩
end Go.Proofs.YtiibaldnpaopjaaDoor
