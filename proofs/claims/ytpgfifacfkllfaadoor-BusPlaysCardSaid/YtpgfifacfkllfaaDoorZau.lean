/- Bus: the law's same. -/
import Derived.Test.YtpgfifacfkllfaaDoorZas
import Derived.Test.YtpgfifacfkllfaaDoorZao
namespace Go.Proofs.YtpgfifacfkllfaaDoor
open Go.RowKit
set_option linter.unusedVariables false

set_option maxHeartbeats 8000000 in
theorem bsame_v {T : World → Prop} {I : World → Value → Bs → (Nat → Prop) → Prop} (A : BusI T I) {w0 w : World} {v v' : Value} {s : Bs} {O O' : Nat → Prop} (h : Pair I BusD w0 v v' s s O O' w) (hs : s.Ok) :
    Calls Tryd.prog 13 #[v, v'] w fun e w' => e = .returned (.bool true) ∧ Below w.heap.size w w' := by
  have HA := Lib.hid A
  have HS := Lib.hid hs
  obtain ⟨b, gn, gw, ws, vl, rfl, rfl, hm⟩ := h.b.inv
  have HP := Lib.hid h
  have HM := Lib.hid hm
  obtain ⟨AL, cl, hvl⟩ := hm.log.shape
  subst hvl
  have HPd := Lib.hid (h.later A.obj isObj_bus (Below.refl w.heap.size w).drew)
  have HMd := Lib.hid (hm.later (Below.refl w.heap.size w).drew)
  clear A hs h hm
  go_enter Tryd.func13, Tryd.ntmps13
  obtain ⟨c0, c1, c2, c3, c4, c5⟩ := HM.out.cells
  have hb := heap_some_lt HM.out.box
  go_upto_region 1 with fail
  have hcl : ∀ (n : Later w) (b o : Nat), b < w.heap.size → n.w.cell? ⟨b, o, none⟩ = w.cell? ⟨b, o, none⟩ := later_cells w
  refine wp_region_sec 26 [28] (fun _ u w' => SlA lgC 6 w' O u s.log) (fun _ _ _ _ h hb => h.later hb) (by kernel_rfl) (by kernel_rfl) (by kernel_rfl) (by kernel_rfl) (by kernel_rfl) ?_
  simp only [List.take_succ_cons, List.take_zero, List.drop_succ_cons, List.drop_zero]
  repeat ((first | refine sec_plain (by rfl) (by rfl) (by rfl) (by rfl) ?_ | refine sec_nil (by rfl) (by rfl) (by rfl) (by rfl) (by rfl) ?_); intro K hK; go_big_quiet_op; go_big_quiet_on)
  refine sec_call (v := .int .i64 (s.N.length : Int)) (by rfl) (by rfl) (by rfl) (by rfl) (by rfl) ?_ ?_
  · intro q K hK
    go_big_quiet_op
    exact ⟨_, fun q2 => Later.call (HA.out.nodes (HA.out.obj.stay HP.out.a.inv (fun k hk => (fbelow_t q.h q2.h).block k (HA.out.obj.lt HP.out.a.inv k hk)))), hK⟩
  simp only [Act.put, List.setIfInBounds_toArray, List.set_cons_succ, List.set_cons_zero]
  repeat ((first | refine sec_plain (by rfl) (by rfl) (by rfl) (by rfl) ?_ | refine sec_nil (by rfl) (by rfl) (by rfl) (by rfl) (by rfl) ?_); intro K hK; go_big_quiet_op; go_big_quiet_on)
  refine sec_call (v := .int .i64 s.sl) (by rfl) (by rfl) (by rfl) (by rfl) (by rfl) ?_ ?_
  · intro q K hK
    go_big_quiet_op
    exact ⟨_, fun q2 => Later.call (HA.out.slots (HA.out.obj.stay HP.out.a.inv (fun k hk => (fbelow_t q.h q2.h).block k (HA.out.obj.lt HP.out.a.inv k hk)))), hK⟩
  simp only [Act.put, List.setIfInBounds_toArray, List.set_cons_succ, List.set_cons_zero]
  repeat ((first | refine sec_plain (by rfl) (by rfl) (by rfl) (by rfl) ?_ | refine sec_nil (by rfl) (by rfl) (by rfl) (by rfl) (by rfl) ?_); intro K hK; go_big_quiet_op; go_big_quiet_on)
  refine sec_callF (f := 20) (args := #[v]) (by rfl) (by rfl) (by rfl) (by rfl) (by rfl) (fun w => by simp [go_sem]) ?_ ?_
  · intro q
    have hin := HA.out.obj.stay HP.out.a.inv (fun k hk => q.h.block k (HA.out.obj.lt HP.out.a.inv k hk))
    refine (HA.out.log hin).mono ?_
    rintro e w' ⟨u, he, hu, hb'⟩
    exact ⟨u, he, hb', hu.1.narrow (HA.out.obj.lt hin)⟩
  simp only [Act.put, List.setIfInBounds_toArray, List.set_cons_succ, List.set_cons_zero]
  repeat ((first | refine sec_plain (by rfl) (by rfl) (by rfl) (by rfl) ?_ | refine sec_nil (by rfl) (by rfl) (by rfl) (by rfl) (by rfl) ?_); intro K hK; go_big_quiet_op; go_big_quiet_on)
  refine sec_callR (v := .bool true) (by rfl) (by rfl) (fun a w' hb' hl => ?_) ?_
  · have h28 := hl 28 (by decide)
    have h32 := hl 32 (by decide)
    rw [if_pos (by decide)] at h28
    rw [if_neg (by decide)] at h32
    refine ⟨21, #[a.tmps.getD 28 undef, a.tmps.getD 32 undef], by simp [go_sem], ?_⟩
    rw [h32]
    refine (lsame_t w' h28.sl ((HM.out.later hb').log.sl lgC_len (let ⟨_, _, _, hm, _⟩ := h28; hm))).mono ?_
    rintro e w'' ⟨rfl, n, rfl⟩
    exact ⟨rfl, below_drewN (Below.refl _ _) n⟩
  simp only [Act.put, List.setIfInBounds_toArray, List.set_cons_succ, List.set_cons_zero]
  refine sec_plain (by rfl) (by rfl) (by rfl) (by rfl) ?_
  intro K hK
  go_big_quiet_op
  go_big_quiet_on
  intro xs m9 hF
  simp only [secFill, Act.put, List.setIfInBounds_toArray, List.set_cons_succ, List.set_cons_zero]
  generalize xs 28 = v28
  clear hF xs hcl c0 c1 c2 c3 c4 c5 hb
  have HB9 := Lib.hid m9.h
  generalize m9.w = w9 at HB9 ⊢
  have HM9 := Lib.hid (HM.out.later HB9.out)
  obtain ⟨c0, c1, c2, c3, c4, c5⟩ := HM9.out.cells
  have hb := heap_some_lt HM9.out.box
  go_wp2_with fail
  have hN2 : (s.N.length : Int) ≤ 32 := by have := HS.out.n2; omega
  go_loopw [41] (fun i wr => ∃ k : Nat, k ≤ s.N.length ∧ i = .int .i64 k ∧ Hid (Below w.heap.size w wr)) (fun i _ => s.N.length - (intOf i).toNat)
  case atStart => exact ⟨0, by omega, rfl, HB9⟩
  case round =>
    obtain ⟨k, hk, rfl, HK⟩ := hrel
    by_cases hlt : k < s.N.length
    · have hkl : (k : Int) < (s.N.length : Int) := by omega
      have HMk := Lib.hid (HM.out.later HK.out)
      clear c0 c1 c2 c3 c4 c5 hb
      obtain ⟨c0, c1, c2, c3, c4, c5⟩ := HMk.out.cells
      have hb := heap_some_lt HMk.out.box
      have hgn := heap_some_lt HMk.out.nodes
      have hgw := heap_some_lt HMk.out.waits
      obtain ⟨n0, n1, n2, n3⟩ := HMk.out.node hlt
      obtain ⟨c, hc⟩ : ∃ c, s.N[k]? = some c := ⟨_, List.getElem?_eq_getElem hlt⟩
      have HC := Lib.hid hc
      have hce : s.N[k] = c := by rw [List.getElem?_eq_getElem hlt] at hc; exact Option.some.inj hc
      obtain ⟨u, hu⟩ : ∃ u, ws[k]? = some u := ⟨_, List.getElem?_eq_getElem (by rw [HM.out.len]; exact hlt)⟩
      have HU := Lib.hid hu
      obtain ⟨L, hL⟩ : ∃ L, s.W[k]? = some L := ⟨_, List.getElem?_eq_getElem (by rw [HM.out.lenW]; exact hlt)⟩
      have HLL := Lib.hid hL
      have x0 := (HMk.out.wait hu).1
      rw [hce] at n0 n1 n2 n3
      obtain ⟨ct, cr, co, cd⟩ := c
      simp only at n0 n1 n2 n3
      clear hc hce hu hL
      go_wp2_with fail
      have hal := (Below.refl wr.heap.size wr).alloc (Nat.le_refl _) (.cells #[.int .i64 ct, .int .i64 cr, .bool co, .int .i64 cd] 42)
      have HKa := Lib.hid (fbelow_t HK.out hal)
      clear hal
      have H6 := Lib.hid (BoxC.made wr ct cr co cd)
      refine (HA.out.conf k ⟨ct, cr, co, cd⟩ (HA.out.obj.stay HP.out.a.inv (fun j hj => HKa.out.block j (HA.out.obj.lt HP.out.a.inv j hj))) HC.out).mono ?_
      clear c0 c1 c2 c3 c4 c5 hb hgn hgw n0 n1 n2 n3 x0
      rintro e w10 ⟨rfl, hb10⟩
      have H6b := Lib.hid (H6.out.later hb10)
      have HK10 := Lib.hid (fbelow_t HKa.out hb10)
      clear hb10
      go_upto_region 7 with fail
      have H7 := Lib.hid (BoxC.made w10 ct cr co cd)
      have hal := (Below.refl w10.heap.size w10).alloc (Nat.le_refl _) (.cells #[.int .i64 ct, .int .i64 cr, .bool co, .int .i64 cd] 42)
      have H6c := Lib.hid (H6b.out.later hal)
      have HK11 := Lib.hid (fbelow_t HK10.out hal)
      clear hal
      generalize w10.alloc (.cells #[.int .i64 ct, .int .i64 cr, .bool co, .int .i64 cd] 42) = w11 at H7 H6c HK11 ⊢
      generalize w10.heap.size = g7 at H7 ⊢
      generalize wr.heap.size = g6 at H6c ⊢
      have HM11 := Lib.hid (HM.out.later HK11.out)
      obtain ⟨c0, c1, c2, c3, c4, c5⟩ := HM11.out.cells
      have hb := heap_some_lt HM11.out.box
      have hgw := heap_some_lt HM11.out.waits
      have x0 := (HM11.out.wait HU.out).1
      obtain ⟨p0, p1, p2, p3⟩ := H6c.out.cells
      obtain ⟨q0, q1, q2, q3⟩ := H7.out.cells
      have hg6 := H6c.out.lt
      have hg7 := H7.out.lt
      obtain ⟨AU, cu, hus⟩ := (HM11.out.row k u L HU.out HLL.out).shape
      subst hus
      have hcl : ∀ (n : Later w11) (b o : Nat), b < w11.heap.size → n.w.cell? ⟨b, o, none⟩ = w11.cell? ⟨b, o, none⟩ := later_cells w11
      refine wp_region_sec 20 [62] (fun _ u w' => SlA frC 4 w' O u L) (fun _ _ _ _ h hb => h.later hb) (by kernel_rfl) (by kernel_rfl) (by kernel_rfl) (by kernel_rfl) (by kernel_rfl) ?_
      simp only [List.take_succ_cons, List.take_zero, List.drop_succ_cons, List.drop_zero]
      repeat ((first | refine sec_plain (by rfl) (by rfl) (by rfl) (by rfl) ?_ | refine sec_nil (by rfl) (by rfl) (by rfl) (by rfl) (by rfl) ?_); intro K hK; go_big_quiet_op; go_big_quiet_on)
      refine sec_callF (f := 16) (args := #[v, .int .i64 (k : Int)]) (by rfl) (by rfl) (by rfl) (by rfl) (by rfl) (fun w => by simp [go_sem]) ?_ ?_
      · intro q
        have hin := HA.out.obj.stay HP.out.a.inv (fun j hj => (fbelow_t HK11.out q.h).block j (HA.out.obj.lt HP.out.a.inv j hj))
        refine (HA.out.waits k L hin HLL.out).mono ?_
        rintro e w' ⟨u, he, hu, hb'⟩
        exact ⟨u, he, hb', hu.1.narrow (HA.out.obj.lt hin)⟩
      simp only [Act.put, List.setIfInBounds_toArray, List.set_cons_succ, List.set_cons_zero]
      repeat ((first | refine sec_plain (by rfl) (by rfl) (by rfl) (by rfl) ?_ | refine sec_nil (by rfl) (by rfl) (by rfl) (by rfl) (by rfl) ?_); intro K hK; go_big_quiet_op; go_big_quiet_on)
      refine sec_callR (v := .bool true) (by rfl) (by rfl) (fun a w' hb' hl => ?_) ?_
      · have h62 := hl 62 (by decide)
        have h69 := hl 69 (by decide)
        rw [if_pos (by decide)] at h62
        rw [if_neg (by decide)] at h69
        refine ⟨22, #[a.tmps.getD 62 undef, a.tmps.getD 69 undef], by simp [go_sem], ?_⟩
        rw [h69]
        refine (fsame_t w' h62.sl (((HM11.out.later hb').row k _ L HU.out HLL.out).sl frC_len (let ⟨_, _, _, hm, _⟩ := h62; hm))).mono ?_
        rintro e w'' ⟨rfl, n, rfl⟩
        exact ⟨rfl, below_drewN (Below.refl _ _) n⟩
      simp only [Act.put, List.setIfInBounds_toArray, List.set_cons_succ, List.set_cons_zero]
      refine sec_plain (by rfl) (by rfl) (by rfl) (by rfl) ?_
      intro K hK
      go_big_quiet_op
      go_big_quiet_on
      intro xs m9 hF
      simp only [secFill, Act.put, List.setIfInBounds_toArray, List.set_cons_succ, List.set_cons_zero]
      generalize xs 62 = v62
      clear hF xs hcl c0 c1 c2 c3 c4 c5 hb
      have HK12 := Lib.hid (fbelow_t HK11.out m9.h)
      generalize m9.w = w12 at HK12 ⊢
      clear p0 p1 p2 p3 q0 q1 q2 q3 x0 hg6 hg7
      go_wp2
      go_roundw
      case rel => exact ⟨k + 1, by omega, by go_num, HK12⟩
      case measure => simp [intOf]; omega
    · obtain rfl : k = s.N.length := by omega
      go_wp2
      go_ret
      exact ⟨rfl, HK.out⟩
end Go.Proofs.YtpgfifacfkllfaaDoor
