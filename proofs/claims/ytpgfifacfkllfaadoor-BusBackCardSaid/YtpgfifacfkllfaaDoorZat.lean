/- Bus: walk of BusBack. -/
import Derived.Test.YtpgfifacfkllfaaDoorZan
import Derived.Test.YtpgfifacfkllfaaDoorZas
import Derived.Test.YtpgfifacfkllfaaDoorZaq
import Derived.Deep.Cut
namespace Go.Proofs.YtpgfifacfkllfaaDoor
open Go.RowKit
set_option linter.unusedVariables false

theorem ev_kind (k n i m l : Int) (d : ByteArray) (w : World) : (Instr.field 46 (.agg #[.int .i64 k, .int .i64 n, .int .i64 i, .int .i64 m, .int .i64 l, .string d]) 0).run Tryd.prog w = .ok (.int .i64 k) w := by
  first
  | kernel_rfl
  | (simp [Instr.field, go_sem]; done)
/-- both buses of the law -/
def Both (I : World → Value → Bs → (Nat → Prop) → Prop) (w : World) (v v' : Value) (s t : Bs) (wr : World) : Prop := ∃ O O', Pair I I w v v' s t O O' wr
theorem Both.stepA {I : World → Value → Bs → (Nat → Prop) → Prop} (hI : IsObj I) {w w1 w2 : World} {v v' : Value} {s t s' : Bs} {O O' : Nat → Prop} (h : Pair I I w v v' s t O O' w1) (hs : Stp I v O w1 s' w2) : Both I w v v' s' t w2 := by
  obtain ⟨O1, hi, hk, hg⟩ := hs
  exact ⟨O1, O', h.stepA hI hI hi hk hg⟩
theorem Both.stepB {I : World → Value → Bs → (Nat → Prop) → Prop} (hI : IsObj I) {w w1 w2 : World} {v v' : Value} {s t t' : Bs} {O O' : Nat → Prop} (h : Pair I I w v v' s t O O' w1) (hs : Stp I v' O' w1 t' w2) : Both I w v v' s t' w2 := by
  obtain ⟨O1, hi, hk, hg⟩ := hs
  exact ⟨O, O1, h.stepB hI hI hi hk hg⟩
set_option maxRecDepth 4000 in
set_option maxHeartbeats 8000000 in
theorem busBack_walk {T : World → Prop} {I : World → Value → Bs → (Nat → Prop) → Prop} (A : BusI T I) (back late : Int) (wn : (Lit.int .i64 back).wf = true) (wl : (Lit.int .i64 late).wf = true) (w : World) (hT : T w) :
    Calls Tryd.prog 6 #[.int .i64 back, .int .i64 late] w fun e w' => e = .returned (.bool true) ∧ Below w.heap.size w w' := by
  have HA := Lib.hid A
  have HT := Lib.hid hT
  clear hT A wn wl
  by_cases h1 : back < 1
  · go_enter Tryd.func6, Tryd.ntmps6
    go_wp2_with fail
    refine (busalive HA.out _ HT.out).mono ?_
    rintro e w1 ⟨rfl, hb⟩
    go_wp2
    go_ret
    exact ⟨rfl, hb⟩
  by_cases h2 : 40 < back
  · go_enter Tryd.func6, Tryd.ntmps6
    go_wp2_with fail
    refine (busalive HA.out _ HT.out).mono ?_
    rintro e w1 ⟨rfl, hb⟩
    go_wp2
    go_ret
    exact ⟨rfl, hb⟩
  by_cases h3 : late < 0
  · go_enter Tryd.func6, Tryd.ntmps6
    go_wp2_with fail
    refine (busalive HA.out _ HT.out).mono ?_
    rintro e w1 ⟨rfl, hb⟩
    go_wp2
    go_ret
    exact ⟨rfl, hb⟩
  by_cases h4 : 40 < late
  · go_enter Tryd.func6, Tryd.ntmps6
    go_wp2_with fail
    refine (busalive HA.out _ HT.out).mono ?_
    rintro e w1 ⟨rfl, hb⟩
    go_wp2
    go_ret
    exact ⟨rfl, hb⟩
  have b1 : 1 ≤ back := by omega
  have b2 : back ≤ 40 := by omega
  have l1 : 0 ≤ late := by omega
  have l2 : late ≤ 40 := by omega
  have HB1 := Lib.hid b1
  have HB2 := Lib.hid b2
  have hfe := ev_kind
  clear h1 h2 h3 h4
  go_enter Tryd.func6, Tryd.ntmps6
  go_wp2_with fail
  refine (HA.out.new 2 back _ (by omega) HT.out).mono ?_
  rintro e w1 ⟨v, O, rfl, hi, hb, hn⟩
  obtain ⟨a, rfl⟩ := HA.out.ptr hi
  rw [ownF_zero] at hi
  have H0 : Hid (Has I w (.pointer (some a)) (ownF back 0) O w1) := Lib.hid ⟨hi, hb, hn⟩
  clear hi hb hn
  go_wp2_with fail
  refine (HA.out.new 2 back _ (by omega) (HA.out.tab HT.out H0.out.below)).mono ?_
  rintro e w2 ⟨v', O', rfl, hi, hb, hn⟩
  obtain ⟨a', rfl⟩ := HA.out.ptr hi
  have HP : Hid (Pair I I w (.pointer (some a)) (.pointer (some a')) (ownF back 0) (bsNew (nodesN 2) back) O O' w2) :=
    Lib.hid ⟨H0.out.later HA.out.obj hb, ⟨hi, fbelow_t H0.out.below hb, fun k hk => Nat.le_trans H0.out.below.size (hn k hk)⟩, fun k h1 h2 => by have := HA.out.obj.lt H0.out.inv k h1; have := hn k h2; omega⟩
  clear hi hb hn
  go_wp2_with fail
  refine (HA.out.offer 1 fB1 HP.out.b.inv (Bs.Ok.new 2 back (by omega)) (HA.out.tab HT.out HP.out.b.below) (by decide)).mono ?_
  rintro e w3 ⟨he, hs⟩
  rw [(othF_zero back).2] at he
  rw [(othF_zero back).1] at hs
  subst he
  have HQ : Hid (Both I w (.pointer (some a)) (.pointer (some a')) (ownF back 0) (othF back 0) w3) := Lib.hid (Both.stepB HA.out.obj HP.out hs)
  clear hs
  go_wp2_with fail
  go_loopw [32] (fun i wr => ∃ k : Nat, k ≤ 32 ∧ i = .int .i64 k ∧ Hid (Both I w (.pointer (some a)) (.pointer (some a')) (ownF back k) (othF back k) wr)) (fun i _ => 32 - (intOf i).toNat)
  case atStart => exact ⟨0, by omega, rfl, HQ⟩
  case round =>
    obtain ⟨k, hk, rfl, HK⟩ := hrel
    by_cases hlt : k < 32
    · have hkl : (k : Int) < 32 := by omega
      go_wp2_with fail
      obtain ⟨O1, O2, hp⟩ := HK.out
      refine (HA.out.slot fB1 true true hp.a.inv (ownF_ok HB1.out HB2.out k (by omega)) (by simp only [ownF]; omega) (HA.out.tab HT.out hp.a.below) (by decide)).mono ?_
      rintro e w5 ⟨he, hs⟩
      rw [ownF_slot back hlt] at hs
      have HK2 := Lib.hid (Both.stepA HA.out.obj hp hs)
      clear hs hp
      subst he
      go_wp2_with fail
      obtain ⟨O3, O4, hp⟩ := HK2.out
      refine (HA.out.slot frz false true hp.b.inv (othF_ok HB1.out HB2.out k (by omega)) (by simp only [othF]; omega) (HA.out.tab HT.out hp.a.below) (by decide)).mono ?_
      rintro e w6 ⟨he, hs⟩
      rw [othF_slot back hlt] at hs
      have HK3 := Lib.hid (Both.stepB HA.out.obj hp hs)
      clear hs hp
      subst he
      go_wp2
      exact ⟨⟨k + 1, by omega, by go_num, HK3⟩, by simp [intOf]; omega⟩
    · have hk32 : k = 32 := by omega
      rw [hk32, ownF_32, othF_32 HB1.out] at HK
      clear hk32
      have hge : ¬ (k : Int) < 32 := by omega
      obtain ⟨n, rfl⟩ : ∃ n : Nat, late = n := ⟨late.toNat, by omega⟩
      go_wp2_with fail
      go_loopw [42] (fun i wr => ∃ k : Nat, k ≤ n ∧ i = .int .i64 k ∧ Hid (Both I w (.pointer (some a)) (.pointer (some a')) (ownL back k) (othB back 0) wr)) (fun i _ => n - (intOf i).toNat)
      case atStart => exact ⟨0, by omega, rfl, HK⟩
      case round =>
        obtain ⟨k, hk, rfl, HK⟩ := hrel
        by_cases hlt : k < n
        · have hkl : (k : Int) < n := by omega
          have hkn : (k : Int) ≤ 40 := by omega
          go_wp2_with fail
          obtain ⟨O1, O2, hp⟩ := HK.out
          refine (HA.out.slot fB1 true false hp.a.inv (ownL_ok HB1.out HB2.out k) (by simp only [ownL]; omega) (HA.out.tab HT.out hp.a.below) (by decide)).mono ?_
          rintro e w5 ⟨he, hs⟩
          obtain ⟨q1, q2⟩ := ownL_slot back k
          rw [q1] at hs
          rw [q2] at he
          have HK2 := Lib.hid (Both.stepA HA.out.obj hp hs)
          clear hs hp q1 q2
          obtain ⟨en, hen⟩ : ∃ n, ((ownL back k).slot fB1 true false).2.2.1 = n := ⟨_, rfl⟩
          obtain ⟨⟨ei, ek, el, ed⟩, hef⟩ : ∃ f, ((ownL back k).slot fB1 true false).2.2.2 = f := ⟨_, rfl⟩
          rw [hen, hef] at he
          clear hen hef
          simp only [evV] at he
          subst he
          go_wp2
          go_roundw
          case rel => exact ⟨k + 1, by omega, by go_num, HK2⟩
          case measure => simp [intOf]; omega
        · obtain rfl : k = n := by omega
          go_wp2_with fail
          obtain ⟨O1, O2, hp⟩ := HK.out
          refine (HA.out.fix hp.a.inv (ownL_ok HB1.out HB2.out k) (HA.out.tab HT.out hp.a.below)).mono ?_
          rintro e w5 ⟨rfl, hs⟩
          rw [ownL_fix HB1.out] at hs
          have HK2 := Lib.hid (Both.stepA HA.out.obj hp hs)
          clear hs hp
          obtain ⟨n, rfl⟩ : ∃ n : Nat, back = n := ⟨back.toNat, by have := HB1.out; omega⟩
          go_wp2_with fail
          go_loopw [53] (fun i wr => ∃ d : Nat, d ≤ n ∧ i = .int .i64 d ∧ Hid (Both I w (.pointer (some a)) (.pointer (some a')) (ownB n k d) (othB n d) wr)) (fun i _ => n - (intOf i).toNat)
          case atStart => exact ⟨0, by omega, rfl, HK2⟩
          case round =>
            obtain ⟨d, hd, rfl, HK⟩ := hrel
            by_cases hlt : d < n
            · have hkl : (d : Int) < n := by omega
              go_wp2_with fail
              obtain ⟨O1, O2, hp⟩ := HK.out
              refine (HA.out.slot fB1 true false hp.a.inv (ownB_ok HB1.out HB2.out k d (by omega)) (by simp only [ownB]; omega) (HA.out.tab HT.out hp.a.below) (by decide)).mono ?_
              rintro e w5 ⟨he, hs⟩
              obtain ⟨q1, q2⟩ := ownB_slot HB1.out HB2.out k hkl
              rw [q1] at hs
              rw [q2] at he
              have HK2 := Lib.hid (Both.stepA HA.out.obj hp hs)
              clear hs hp q1 q2
              obtain ⟨en, hen⟩ : ∃ z, ((ownB n k d).slot fB1 true false).2.2.1 = z := ⟨_, rfl⟩
              obtain ⟨⟨ei, ek, el, ed⟩, hef⟩ : ∃ z, ((ownB n k d).slot fB1 true false).2.2.2 = z := ⟨_, rfl⟩
              rw [hen, hef] at he
              clear hen hef
              simp only [evV] at he
              subst he
              go_wp2_with fail
              obtain ⟨O3, O4, hp⟩ := HK2.out
              refine (HA.out.slot frz false false hp.b.inv (othB_ok HB1.out HB2.out d (by omega)) (by simp only [othB]; omega) (HA.out.tab HT.out hp.a.below) (by decide)).mono ?_
              rintro e w6 ⟨he, hs⟩
              obtain ⟨q1, q2⟩ := othB_slot HB1.out HB2.out hkl
              rw [q1] at hs
              rw [q2] at he
              have HK3 := Lib.hid (Both.stepB HA.out.obj hp hs)
              clear hs hp q1 q2
              obtain ⟨en, hen⟩ : ∃ z, ((othB n d).slot frz false false).2.2.1 = z := ⟨_, rfl⟩
              obtain ⟨⟨ei, ek, el, ed⟩, hef⟩ : ∃ z, ((othB n d).slot frz false false).2.2.2 = z := ⟨_, rfl⟩
              rw [hen, hef] at he
              clear hen hef
              simp only [evV] at he
              subst he
              go_wp2
              go_roundw
              case rel => exact ⟨d + 1, by omega, by go_num, HK3⟩
              case measure => simp [intOf]; omega
            · obtain rfl : d = n := by omega
              have hnd : ¬ (d : Int) < (d : Int) := by omega
              go_wp2_with fail
              obtain ⟨O1, O2, hp⟩ := HK.out
              refine (HA.out.slot fB1 true false hp.a.inv (ownB_ok HB1.out HB2.out k d (by omega)) (by simp only [ownB]; omega) (HA.out.tab HT.out hp.a.below) (by decide)).mono ?_
              rintro e w5 ⟨he, hs⟩
              obtain ⟨q1, q2⟩ := ownB_last (back := d) k (Int.lt_irrefl _)
              rw [q1, q2] at he
              have HK2 := Lib.hid (Both.stepA HA.out.obj hp hs)
              clear hs hp q1 q2
              obtain ⟨⟨ei, ek, el, ed⟩, hef⟩ : ∃ z, ((ownB d k d).slot fB1 true false).2.2.2 = z := ⟨_, rfl⟩
              rw [hef] at he
              clear hef
              simp only [evV] at he
              subst he
              go_wp2_with fail
              obtain ⟨O3, O4, hp⟩ := HK2.out
              refine (HA.out.slot frz false false hp.b.inv (othB_ok HB1.out HB2.out d (by omega)) (by simp only [othB]; omega) (HA.out.tab HT.out hp.a.below) (by decide)).mono ?_
              rintro e w6 ⟨he, hs⟩
              obtain ⟨q1, q2⟩ := othB_last (back := d) (Int.lt_irrefl _)
              rw [q1, q2] at he
              have HB3 := Lib.hid (let ⟨_, _, hq⟩ := Both.stepB HA.out.obj hp hs; hq.a.below)
              clear hs hp q1 q2
              obtain ⟨⟨fi, fk, fl, fd⟩, hef⟩ : ∃ z, ((othB d d).slot frz false false).2.2.2 = z := ⟨_, rfl⟩
              rw [hef] at he
              clear hef
              simp only [evV] at he
              subst he
              have hb6 : Below w.heap.size w w6 := HB3.out
              have hw6 : w.heap.size ≤ w6.heap.size := HB3.out.size
              go_wp2_with fail
              have HB7 := Lib.hid ((hb6.alloc hw6 (.cells #[.int .i64 1, .int .i64 0, .int .i64 ei, .int .i64 ek, .int .i64 el, .string ed] 46)).alloc (by rw [World.size_alloc]; omega) (.cells #[.int .i64 1, .int .i64 1, .int .i64 fi, .int .i64 fk, .int .i64 fl, .string fd] 46))
              generalize World.alloc _ _ = w7 at HB7 ⊢
              clear hb6 hw6
              refine (busalive HA.out _ (HA.out.tab HT.out HB7.out)).mono ?_
              rintro e w8 ⟨rfl, hb8⟩
              go_wp2
              go_ret
              exact ⟨rfl, fbelow_t HB7.out hb8⟩
end Go.Proofs.YtpgfifacfkllfaaDoor
