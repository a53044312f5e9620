/- Bus, the document's side: Slot from the count of slots on. Bus, the document's side: Slot, who is off. -/
import Derived.Test.YtpgfifacfkllfaaDoorZal
namespace Go.Proofs.YtpgfifacfkllfaaDoor
open Go.RowKit
set_option linter.unusedVariables false

set_option maxRecDepth 20000 in
set_option maxHeartbeats 8000000 in
theorem bslot_three {w wc : World} {b gn gw : Nat} {ws : List Value} {vl : Value} {s s' : Bs} {own f' : Fr} {has bad : Bool} {k' n' : Int} {p : Int × Fr} {bo br gl bf : Nat} {z4 z6 z7 z12 z13 z14 z15 z16 z17 z18 z19 z20 z21 z22 z23 z24 z25 z26 z27 z28 z29 z30 z31 z32 z33 z34 z35 z36 z37 z38 z39 z40 z41 z42 z43 z44 z45 z46 z47 z48 z49 z50 z51 z52 z53 z54 z55 z56 z57 z58 z59 z60 z61 z62 z63 z64 z65 z66 z67 z68 z69 z70 z71 z72 z73 z74 z75 z76 z77 z78 z79 z80 z81 z82 z83 z84 z85 z86 z87 z88 z89 z90 z91 z92 z93 z94 z95 z96 z97 z98 z99 z100 z101 z102 z103 z104 z105 z106 z107 z108 z109 z110 z111 z112 z113 z114 z115 z116 z117 z118 z119 z120 z121 z122 z123 z124 z125 z126 z127 z128 z129 z130 z131 z132 z133 z134 z135 z136 z137 z138 z139 z140 z141 z142 z143 z144 z145 z146 z147 z148 z149 z150 z151 z152 z153 z154 z155 z156 z157 z158 z159 z160 z161 z162 z163 z164 z165 z166 z167 z168 z169 z170 z171 z172 z173 z174 z175 z176 z177 z178 z179 z180 z181 z182 z183 z184 z185 z186 z187 z188 z189 z190 z191 z192 z193 z194 z195 z196 z197 z198 z199 z200 z201 z202 z203 z204 z205 z206 z207 z208 z209 z210 z211 z212 z213 z214 z215 z216 z217 z218 z219 z220 z221 z222 z223 z224 z225 z226 z227 z228 z229 z230 z231 z232 z233 z234 z235 z236 z237 z238 z239 z240 z241 z242 z243 : Value}
    (hN0 : 0 < s.N.length) (hN : s.N.length ≤ 32) (HBK : Hid (-9223372036854775808 ≤ s.back ∧ s.back ≤ 9223372036854775807)) (HSL : Hid (0 ≤ s.sl ∧ s.sl ≤ 1000000)) (HLG : Hid (s.log.length ≤ 100000)) (HP : Hid (s.best own has s.N.length = p)) (hbr : -1 ≤ p.1 ∧ p.1 < s.N.length) (HRR : Hid (s.slot own has bad = (s', k', n', f')))
    (HS4 : Hid (Sl2 w b gn gw ws vl s { s with N := s.N1, fx := s.fx1 } p.2 br gl bf wc)) :
    Code.wp Tryd.prog (Code.tl (Code.tl (Code.tl (Code.tl (Code.tl (Code.tl (Code.tl (bodyOf Tryd.f26)))))))) (bodyPost Tryd.prog Tryd.f26 fun e w' => e = .returned (evC k' n' f') ∧ Stp BusD (.pointer (some ⟨b, 0, none⟩)) (busO b gn gw ws vl) w s' w')
      { tmps := #[.pointer (some ⟨b, 0, none⟩), .agg #[.int .i64 own.i, .int .i64 own.n, .int .i64 own.l, .string own.d], .bool has, .bool bad, z4, .pointer (some ⟨bo, 0, none⟩), z6, z7, .pointer (some ⟨br, 0, none⟩), .slice (some ⟨gl, 0, none⟩) s.N.length s.N.length, .int .i64 p.1, .pointer (some ⟨bf, 0, none⟩), z12, z13, z14, z15, z16, z17, z18, z19, z20, z21, z22, z23, z24, z25, z26, z27, z28, z29, z30, z31, z32, z33, z34, z35, z36, z37, z38, z39, z40, z41, z42, z43, z44, z45, z46, z47, z48, z49, z50, z51, z52, z53, z54, z55, z56, z57, z58, z59, z60, z61, z62, z63, z64, z65, z66, z67, z68, z69, z70, z71, z72, z73, z74, z75, z76, z77, z78, z79, z80, z81, z82, z83, z84, z85, z86, z87, z88, z89, z90, z91, z92, z93, z94, z95, z96, z97, z98, z99, z100, z101, z102, z103, z104, z105, z106, z107, z108, z109, z110, z111, z112, z113, z114, z115, z116, z117, z118, z119, z120, z121, z122, z123, z124, z125, z126, z127, z128, z129, z130, z131, z132, z133, z134, z135, z136, z137, z138, z139, z140, z141, z142, z143, z144, z145, z146, z147, z148, z149, z150, z151, z152, z153, z154, z155, z156, z157, z158, z159, z160, z161, z162, z163, z164, z165, z166, z167, z168, z169, z170, z171, z172, z173, z174, z175, z176, z177, z178, z179, z180, z181, z182, z183, z184, z185, z186, z187, z188, z189, z190, z191, z192, z193, z194, z195, z196, z197, z198, z199, z200, z201, z202, z203, z204, z205, z206, z207, z208, z209, z210, z211, z212, z213, z214, z215, z216, z217, z218, z219, z220, z221, z222, z223, z224, z225, z226, z227, z228, z229, z230, z231, z232, z233, z234, z235, z236, z237, z238, z239, z240, z241, z242, z243], defers := [] } wc := by
  conv => arg 2; dsimp only [bodyOf, Code.tl, Tryd.f26]
  obtain ⟨c0, c1, c2, c3, c4, c5⟩ := HS4.out.bus.cells
  simp only at c0 c1 c2 c3 c4
  have l4 := HS4.out.bus.live 4
  have hsl1 := HSL.out
  have hsw : wrap64 (s.sl + 1) = s.sl + 1 := by unfold wrap64; omega
  by_cases hp : p.1 < 0
  · have HS5 := Lib.hid (HS4.out.slot (s.sl + 1))
    obtain ⟨e0, e1, e2, e3, e4, e5⟩ := HS4.out.box_e.cells
    obtain ⟨f0, f1, f2, f3, f4, f5⟩ := HS4.out.box_e.live
    have hbb : br ≠ b := fun e => by have h1 := HS4.out.own b (.inl rfl); have h2 := HS4.out.br0; omega
    have hres := HRR.out
    unfold Bs.slot at hres
    rw [HP.out, if_pos hp] at hres
    simp only [Prod.mk.injEq] at hres
    obtain ⟨rfl, rfl, rfl, rfl⟩ := hres
    have hq := (HS5.out.box_e.put 0 0 frz).cells
    have HR := Lib.hid (HS5.out.ret 0 0 frz)
    obtain ⟨w9, hw9⟩ : ∃ w9, putEv (wc.setCell ⟨b, 4, none⟩ (.int .i64 (s.sl + 1))) br 0 0 frz = w9 := ⟨_, rfl⟩
    rw [hw9] at hq HR
    unfold putEv at hw9
    simp only [frz] at hw9
    have HQ9 := Lib.hid hq
    have HW9 := Lib.hid hw9
    clear hq hw9
    go_wp2
    rw [HW9.out]
    obtain ⟨r0, r1, r2, r3, r4, r5⟩ := HQ9.out
    refine bodyPost_ret (v := _) (by simp [results, Tryd.results26, go_sem, r0, r1, r2, r3, r4, r5]; rfl) rfl ⟨rfl, HR.out⟩
  · have HS5 := Lib.hid (HS4.out.slot (s.sl + 1))
    have HPN : Hid (0 ≤ p.1) := Lib.hid (Int.not_lt.1 hp)
    have hpd : decide (p.1 < 0) = false := decide_eq_false hp
    clear hp
    go_wp2_with fail
    generalize wc.setCell ⟨b, 4, none⟩ (.int .i64 (s.sl + 1)) = w6 at HS5 ⊢
    clear c0 c1 c2 c3 c4 c5 l4 hsl1 hsw HS4
    have hl1 : s.N1.length = s.N.length := turnN_len _ _ _
    go_loopw [16] (fun i wr => ∃ j : Nat, j ≤ s.N.length ∧ i = .int .i64 j ∧ Hid (Sl2 w b gn gw ws vl s { s with N := turnN (s.gSent bad p.1) s.N1 j, fx := s.fx1, sl := s.sl + 1 } p.2 br gl bf wr)) (fun i _ => s.N.length - (intOf i).toNat)
    case atStart => exact ⟨0, Nat.zero_le _, rfl, Lib.hid (by rw [turnN_zero]; exact HS5.out)⟩
    case round =>
      obtain ⟨wo, rfl⟩ : ∃ wo : World, wo = wr := ⟨_, rfl⟩
      obtain ⟨j, hj, rfl, HJ⟩ := hrel
      have hln : (turnN (s.gSent bad p.1) s.N1 j).length = s.N.length := (turnN_len _ _ _).trans hl1
      obtain ⟨c0, c1, c2, c3, c4, c5⟩ := HJ.out.cellsAt hln
      simp only at c2 c3 c4
      by_cases hjt : j < s.N.length
      · obtain ⟨c, hc⟩ : ∃ c, s.N1[j]? = some c := ⟨_, List.getElem?_eq_getElem (by omega)⟩
        obtain ⟨hc1, hc2⟩ := turnN_next (g := s.gSent bad p.1) hc
        obtain ⟨n0, n1, n2, n3, m0, m1, m2, m3⟩ := HJ.out.nodeAt hc1
        have a0 := (HJ.out.fb j hjt).1
        have HSK := Lib.hid (turnN_skip (g := s.gSent bad p.1) hc)
        have HST := Lib.hid hc2
        have hg : s.gSent bad p.1 j c = if s.off j then c else c.do_ (if (j : Int) = p.1 then (if bad then 2 else 0) else if bad then 3 else 1) s.back := rfl
        have HC1 := Lib.hid hc1
        have HLN := Lib.hid hln
        obtain ⟨ok, hok⟩ : ∃ ok, s.off j = ok := ⟨_, rfl⟩
        rw [hok] at a0 hg
        have hjt2 : (j : Int) < (s.N.length : Int) := by omega
        have hcl : ∀ (n : Later wo) (b o : Nat), b < wo.heap.size → n.w.cell? ⟨b, o, none⟩ = wo.cell? ⟨b, o, none⟩ := later_cells wo
        have hzb : b < wo.heap.size := HJ.out.bus.lt b (.inl rfl)
        have hzn : gn < wo.heap.size := HJ.out.bus.lt gn (.inr (.inl rfl))
        have HG := Lib.hid hg
        clear hc hc1 hc2 hg hok hln
        cases ok
        · obtain ⟨wt, hwt⟩ : ∃ x : Int, (if (j : Int) = p.1 then (if bad then 2 else 0) else if bad then 3 else 1) = x := ⟨_, rfl⟩
          have HW := Lib.hid hwt
          obtain ⟨e, he⟩ : ∃ e, c.do_ wt s.back = e := ⟨_, rfl⟩
          have HE : Hid (turnN (s.gSent bad p.1) s.N1 (j + 1) = (turnN (s.gSent bad p.1) s.N1 j).set j e) := Lib.hid (by rw [HST.out, HG.out, if_neg (by decide), hwt, he])
          have HDO := Lib.hid he
          clear he hwt HSK HST HG
          by_cases hb : (j : Int) = p.1
          all_goals cases bad
          · obtain rfl : wt = 0 := by rw [← HW.out, if_pos hb]; rfl
            have hbe : ((j : Int) == p.1) = true := by simp [hb]
            clear hb HW
            go_wp2_with fail
            refine wp_region_sec 19 [] (fun _ _ _ => True) (fun _ _ _ _ _ _ => True.intro) (by kernel_rfl) (by kernel_rfl) (by kernel_rfl) (by kernel_rfl) (by kernel_rfl) ?_
            simp only [List.take_succ_cons, List.take_zero, List.drop_succ_cons, List.drop_zero]
            repeat ((first | refine sec_plain (by rfl) (by rfl) (by rfl) (by rfl) ?_ | refine sec_nil (by rfl) (by rfl) (by rfl) (by rfl) (by rfl) ?_); intro K hK; go_big_quiet_op; go_big_quiet_on)
            refine sec_call (v := cfV e) (by rfl) (by rfl) (by rfl) (by rfl) (by rfl) ?_ ?_
            · intro m K hK
              go_big_quiet_op
              exact ⟨_, fun q => Later.call (cfdo_b HDO.out HBK.out _), hK⟩
            simp only [Act.put, List.setIfInBounds_toArray, List.set_cons_succ, List.set_cons_zero]
            refine sec_plain (by rfl) (by rfl) (by rfl) (by rfl) ?_
            intro K hK
            go_big_quiet_op
            go_big_quiet_on
            intro xs m hF
            simp only [secFill]
            clear hF xs hcl hzb hzn n0 n1 n2 n3 m0 m1 m2 m3 a0 c0 c1 c2 c3 c4 c5
            have HJ2 := Lib.hid (HJ.out.later m.h)
            obtain ⟨n0, n1, n2, n3, m0, m1, m2, m3⟩ := HJ2.out.nodeAt HC1.out
            generalize m.w = w5 at HJ2 n0 n1 n2 n3 m0 m1 m2 m3 ⊢
            clear HJ
            go_wp2
            go_roundw
            case rel => exact ⟨j + 1, by omega, by go_num, by rw [HE.out]; exact Lib.hid (HJ2.out.node (by rw [HLN.out]; exact hjt) e)⟩
            case measure => simp [intOf]; omega
          · obtain rfl : wt = 2 := by rw [← HW.out, if_pos hb]; rfl
            have hbe : ((j : Int) == p.1) = true := by simp [hb]
            clear hb HW
            go_wp2_with fail
            refine wp_region_sec 19 [] (fun _ _ _ => True) (fun _ _ _ _ _ _ => True.intro) (by kernel_rfl) (by kernel_rfl) (by kernel_rfl) (by kernel_rfl) (by kernel_rfl) ?_
            simp only [List.take_succ_cons, List.take_zero, List.drop_succ_cons, List.drop_zero]
            repeat ((first | refine sec_plain (by rfl) (by rfl) (by rfl) (by rfl) ?_ | refine sec_nil (by rfl) (by rfl) (by rfl) (by rfl) (by rfl) ?_); intro K hK; go_big_quiet_op; go_big_quiet_on)
            refine sec_call (v := cfV e) (by rfl) (by rfl) (by rfl) (by rfl) (by rfl) ?_ ?_
            · intro m K hK
              go_big_quiet_op
              exact ⟨_, fun q => Later.call (cfdo_b HDO.out HBK.out _), hK⟩
            simp only [Act.put, List.setIfInBounds_toArray, List.set_cons_succ, List.set_cons_zero]
            refine sec_plain (by rfl) (by rfl) (by rfl) (by rfl) ?_
            intro K hK
            go_big_quiet_op
            go_big_quiet_on
            intro xs m hF
            simp only [secFill]
            clear hF xs hcl hzb hzn n0 n1 n2 n3 m0 m1 m2 m3 a0 c0 c1 c2 c3 c4 c5
            have HJ2 := Lib.hid (HJ.out.later m.h)
            obtain ⟨n0, n1, n2, n3, m0, m1, m2, m3⟩ := HJ2.out.nodeAt HC1.out
            generalize m.w = w5 at HJ2 n0 n1 n2 n3 m0 m1 m2 m3 ⊢
            clear HJ
            go_wp2
            go_roundw
            case rel => exact ⟨j + 1, by omega, by go_num, by rw [HE.out]; exact Lib.hid (HJ2.out.node (by rw [HLN.out]; exact hjt) e)⟩
            case measure => simp [intOf]; omega
          · obtain rfl : wt = 1 := by rw [← HW.out, if_neg hb]; rfl
            have hbe : ((j : Int) == p.1) = false := by simp [hb]
            clear hb HW
            go_wp2_with fail
            refine wp_region_sec 19 [] (fun _ _ _ => True) (fun _ _ _ _ _ _ => True.intro) (by kernel_rfl) (by kernel_rfl) (by kernel_rfl) (by kernel_rfl) (by kernel_rfl) ?_
            simp only [List.take_succ_cons, List.take_zero, List.drop_succ_cons, List.drop_zero]
            repeat ((first | refine sec_plain (by rfl) (by rfl) (by rfl) (by rfl) ?_ | refine sec_nil (by rfl) (by rfl) (by rfl) (by rfl) (by rfl) ?_); intro K hK; go_big_quiet_op; go_big_quiet_on)
            refine sec_call (v := cfV e) (by rfl) (by rfl) (by rfl) (by rfl) (by rfl) ?_ ?_
            · intro m K hK
              go_big_quiet_op
              exact ⟨_, fun q => Later.call (cfdo_b HDO.out HBK.out _), hK⟩
            simp only [Act.put, List.setIfInBounds_toArray, List.set_cons_succ, List.set_cons_zero]
            refine sec_plain (by rfl) (by rfl) (by rfl) (by rfl) ?_
            intro K hK
            go_big_quiet_op
            go_big_quiet_on
            intro xs m hF
            simp only [secFill]
            clear hF xs hcl hzb hzn n0 n1 n2 n3 m0 m1 m2 m3 a0 c0 c1 c2 c3 c4 c5
            have HJ2 := Lib.hid (HJ.out.later m.h)
            obtain ⟨n0, n1, n2, n3, m0, m1, m2, m3⟩ := HJ2.out.nodeAt HC1.out
            generalize m.w = w5 at HJ2 n0 n1 n2 n3 m0 m1 m2 m3 ⊢
            clear HJ
            go_wp2
            go_roundw
            case rel => exact ⟨j + 1, by omega, by go_num, by rw [HE.out]; exact Lib.hid (HJ2.out.node (by rw [HLN.out]; exact hjt) e)⟩
            case measure => simp [intOf]; omega
          · obtain rfl : wt = 3 := by rw [← HW.out, if_neg hb]; rfl
            have hbe : ((j : Int) == p.1) = false := by simp [hb]
            clear hb HW
            go_wp2_with fail
            refine wp_region_sec 19 [] (fun _ _ _ => True) (fun _ _ _ _ _ _ => True.intro) (by kernel_rfl) (by kernel_rfl) (by kernel_rfl) (by kernel_rfl) (by kernel_rfl) ?_
            simp only [List.take_succ_cons, List.take_zero, List.drop_succ_cons, List.drop_zero]
            repeat ((first | refine sec_plain (by rfl) (by rfl) (by rfl) (by rfl) ?_ | refine sec_nil (by rfl) (by rfl) (by rfl) (by rfl) (by rfl) ?_); intro K hK; go_big_quiet_op; go_big_quiet_on)
            refine sec_call (v := cfV e) (by rfl) (by rfl) (by rfl) (by rfl) (by rfl) ?_ ?_
            · intro m K hK
              go_big_quiet_op
              exact ⟨_, fun q => Later.call (cfdo_b HDO.out HBK.out _), hK⟩
            simp only [Act.put, List.setIfInBounds_toArray, List.set_cons_succ, List.set_cons_zero]
            refine sec_plain (by rfl) (by rfl) (by rfl) (by rfl) ?_
            intro K hK
            go_big_quiet_op
            go_big_quiet_on
            intro xs m hF
            simp only [secFill]
            clear hF xs hcl hzb hzn n0 n1 n2 n3 m0 m1 m2 m3 a0 c0 c1 c2 c3 c4 c5
            have HJ2 := Lib.hid (HJ.out.later m.h)
            obtain ⟨n0, n1, n2, n3, m0, m1, m2, m3⟩ := HJ2.out.nodeAt HC1.out
            generalize m.w = w5 at HJ2 n0 n1 n2 n3 m0 m1 m2 m3 ⊢
            clear HJ
            go_wp2
            go_roundw
            case rel => exact ⟨j + 1, by omega, by go_num, by rw [HE.out]; exact Lib.hid (HJ2.out.node (by rw [HLN.out]; exact hjt) e)⟩
            case measure => simp [intOf]; omega
        · have HE : Hid (turnN (s.gSent bad p.1) s.N1 (j + 1) = turnN (s.gSent bad p.1) s.N1 j) := Lib.hid (HSK.out (by rw [HG.out]; rfl))
          clear n0 n1 n2 n3 m0 m1 m2 m3 hcl
          go_wp2
          go_roundw
          case rel => exact ⟨j + 1, by omega, by go_num, by rw [HE.out]; exact HJ⟩
          case measure => simp [intOf]; omega
      · obtain rfl : j = s.N.length := by omega
        have HS6 : Hid (Sl2 w b gn gw ws vl s { s with N := s.N2 bad p.1, fx := s.fx1, sl := s.sl + 1 } p.2 br gl bf wo) := HJ
        clear HJ HS5
        obtain ⟨d0, d1, d2, d3⟩ := HS6.out.ff.cells
        obtain ⟨e0, e1, e2, e3, e4, e5⟩ := HS6.out.box_e.cells
        obtain ⟨f0, f1, f2, f3, f4, f5⟩ := HS6.out.box_e.live
        have hres := HRR.out
        unfold Bs.slot at hres
        rw [HP.out, if_neg (Int.not_lt.2 HPN.out)] at hres
        go_upto_if 204 with fail
        go_cut [] (fun wx => wx = wo ∧ bad = false)
        case first =>
          cases bad
          · clear d0 d1 d2 d3 e0 e1 e2 e3 e4 e5 f0 f1 f2 f3 f4 f5
            go_wp2
            go_meet
            exact ⟨rfl, rfl⟩
          · rw [if_pos rfl] at hres
            simp only [Prod.mk.injEq] at hres
            obtain ⟨rfl, rfl, rfl, rfl⟩ := hres
            have hq := (HS6.out.box_e.put 2 p.1 p.2).cells
            have HR := Lib.hid (HS6.out.ret 2 p.1 p.2)
            obtain ⟨w9, hw9⟩ : ∃ w9, putEv wo br 2 p.1 p.2 = w9 := ⟨_, rfl⟩
            rw [hw9] at hq HR
            unfold putEv at hw9
            have HQ9 := Lib.hid hq
            have HW9 := Lib.hid hw9
            clear hq hw9
            go_wp2
            rw [HW9.out]
            obtain ⟨r0, r1, r2, r3, r4, r5⟩ := HQ9.out
            refine bodyPost_ret (v := _) (by simp [results, Tryd.results26, go_sem, r0, r1, r2, r3, r4, r5]; rfl) rfl ⟨rfl, HR.out⟩
        case rest =>
          obtain ⟨rfl, rfl⟩ := hcut
          rw [if_neg (by decide)] at hres
          simp only [Prod.mk.injEq] at hres
          obtain ⟨hs', rfl, rfl, rfl⟩ := hres
          rename_i K2 hK2 K1 hK1 K0 hK0
          first | refine hK0 _ _ ?_ | refine hK1 _ _ ?_ | refine hK2 _ _ ?_
          exact bslot_four hN0 hN HSL HLG HP hbr HPN hpd hl1 (Lib.hid hs') HS6
end Go.Proofs.YtpgfifacfkllfaaDoor

namespace Go.Proofs.YtpgfifacfkllfaaDoor
open Go.RowKit
set_option linter.unusedVariables false

set_option maxRecDepth 20000 in
set_option maxHeartbeats 8000000 in
theorem bslot_two {w wo : World} {b gn gw : Nat} {ws : List Value} {vl : Value} {s s' : Bs} {own f' : Fr} {has bad : Bool} {k' n' : Int} {p : Int × Fr} {bo br gl bf : Nat} {z4 z6 z7 z12 z13 z14 z15 z16 z17 z18 z19 z20 z21 z22 z23 z24 z25 z26 z27 z28 z29 z30 z31 z32 z33 z34 z35 z36 z37 z38 z39 z40 z41 z42 z43 z44 z45 z46 z47 z48 z49 z50 z51 z52 z53 z54 z55 z56 z57 z58 z59 z60 z61 z62 z63 z64 z65 z66 z67 z68 z69 z70 z71 z72 z73 z74 z75 z76 z77 z78 z79 z80 z81 z82 z83 z84 z85 z86 z87 z88 z89 z90 z91 z92 z93 z94 z95 z96 z97 z98 z99 z100 z101 z102 z103 z104 z105 z106 z107 z108 z109 z110 z111 z112 z113 z114 z115 z116 z117 z118 z119 z120 z121 z122 z123 z124 z125 z126 z127 z128 z129 z130 z131 z132 z133 z134 z135 z136 z137 z138 z139 z140 z141 z142 z143 z144 z145 z146 z147 z148 z149 z150 z151 z152 z153 z154 z155 z156 z157 z158 z159 z160 z161 z162 z163 z164 z165 z166 z167 z168 z169 z170 z171 z172 z173 z174 z175 z176 z177 z178 z179 z180 z181 z182 z183 z184 z185 z186 z187 z188 z189 z190 z191 z192 z193 z194 z195 z196 z197 z198 z199 z200 z201 z202 z203 z204 z205 z206 z207 z208 z209 z210 z211 z212 z213 z214 z215 z216 z217 z218 z219 z220 z221 z222 z223 z224 z225 z226 z227 z228 z229 z230 z231 z232 z233 z234 z235 z236 z237 z238 z239 z240 z241 z242 z243 : Value}
    (hN0 : 0 < s.N.length) (hN : s.N.length ≤ 32) (HBK : Hid (-9223372036854775808 ≤ s.back ∧ s.back ≤ 9223372036854775807)) (HSL : Hid (0 ≤ s.sl ∧ s.sl ≤ 1000000)) (HLG : Hid (s.log.length ≤ 100000)) (HP : Hid (s.best own has s.N.length = p)) (hbr : -1 ≤ p.1 ∧ p.1 < s.N.length) (HRR : Hid (s.slot own has bad = (s', k', n', f')))
    (HS2 : Hid (Sl2 w b gn gw ws vl s s p.2 br gl bf wo)) :
    Code.wp Tryd.prog (Code.tl (Code.tl (Code.tl (Code.tl (Code.tl (bodyOf Tryd.f26)))))) (bodyPost Tryd.prog Tryd.f26 fun e w' => e = .returned (evC k' n' f') ∧ Stp BusD (.pointer (some ⟨b, 0, none⟩)) (busO b gn gw ws vl) w s' w')
      { tmps := #[.pointer (some ⟨b, 0, none⟩), .agg #[.int .i64 own.i, .int .i64 own.n, .int .i64 own.l, .string own.d], .bool has, .bool bad, z4, .pointer (some ⟨bo, 0, none⟩), z6, z7, .pointer (some ⟨br, 0, none⟩), .slice (some ⟨gl, 0, none⟩) s.N.length s.N.length, .int .i64 p.1, .pointer (some ⟨bf, 0, none⟩), z12, z13, z14, z15, z16, z17, z18, z19, z20, z21, z22, z23, z24, z25, z26, z27, z28, z29, z30, z31, z32, z33, z34, z35, z36, z37, z38, z39, z40, z41, z42, z43, z44, z45, z46, z47, z48, z49, z50, z51, z52, z53, z54, z55, z56, z57, z58, z59, z60, z61, z62, z63, z64, z65, z66, z67, z68, z69, z70, z71, z72, z73, z74, z75, z76, z77, z78, z79, z80, z81, z82, z83, z84, z85, z86, z87, z88, z89, z90, z91, z92, z93, z94, z95, z96, z97, z98, z99, z100, z101, z102, z103, z104, z105, z106, z107, z108, z109, z110, z111, z112, z113, z114, z115, z116, z117, z118, z119, z120, z121, z122, z123, z124, z125, z126, z127, z128, z129, z130, z131, z132, z133, z134, z135, z136, z137, z138, z139, z140, z141, z142, z143, z144, z145, z146, z147, z148, z149, z150, z151, z152, z153, z154, z155, z156, z157, z158, z159, z160, z161, z162, z163, z164, z165, z166, z167, z168, z169, z170, z171, z172, z173, z174, z175, z176, z177, z178, z179, z180, z181, z182, z183, z184, z185, z186, z187, z188, z189, z190, z191, z192, z193, z194, z195, z196, z197, z198, z199, z200, z201, z202, z203, z204, z205, z206, z207, z208, z209, z210, z211, z212, z213, z214, z215, z216, z217, z218, z219, z220, z221, z222, z223, z224, z225, z226, z227, z228, z229, z230, z231, z232, z233, z234, z235, z236, z237, z238, z239, z240, z241, z242, z243], defers := [] } wo := by
  conv => arg 2; dsimp only [bodyOf, Code.tl, Tryd.f26]
  go_wp2_with fail
  go_loopw [15] (fun i wr => ∃ j : Nat, j ≤ s.N.length ∧ i = .int .i64 j ∧ Hid (Sl2 w b gn gw ws vl s { s with N := turnN s.gIdle s.N j } p.2 br gl bf wr)) (fun i _ => s.N.length - (intOf i).toNat)
  case atStart => exact ⟨0, Nat.zero_le _, rfl, Lib.hid (by rw [turnN_zero]; exact HS2.out)⟩
  case round =>
    obtain ⟨j, hj, rfl, HJ⟩ := hrel
    obtain ⟨c0, c1, c2, c3, c4, c5⟩ := HJ.out.cellsAt (turnN_len s.N s.gIdle j)
    simp only at c2 c3 c4
    by_cases hjt : j < s.N.length
    · obtain ⟨c, hc⟩ : ∃ c, s.N[j]? = some c := ⟨_, List.getElem?_eq_getElem hjt⟩
      obtain ⟨hc1, hc2⟩ := turnN_next (g := s.gIdle) hc
      obtain ⟨n0, n1, n2, n3, m0, m1, m2, m3⟩ := HJ.out.nodeAt hc1
      have a0 := (HJ.out.fb j hjt).1
      have HSK := Lib.hid (turnN_skip (g := s.gIdle) hc)
      have HST := Lib.hid hc2
      have hg : s.gIdle j c = if s.off j && (decide (0 < j) || s.fx) then c.do_ 4 s.back else c := rfl
      have HC1 := Lib.hid hc1
      obtain ⟨ok, hok⟩ : ∃ ok, s.off j = ok := ⟨_, rfl⟩
      rw [hok] at a0 hg
      obtain ⟨fx, hfx⟩ : ∃ fx, s.fx = fx := ⟨_, rfl⟩
      rw [hfx] at c3 hg
      have HG := Lib.hid hg
      clear hc hc1 hc2 hg hok hfx
      go_upto_region 19 with fail
      go_cut [115] (fun v wx => v = .bool (ok && (decide (0 < j) || fx)) ∧ wx = wr)
      case first =>
        cases ok
        · go_wp2
          go_meet
          exact ⟨rfl, rfl⟩
        · by_cases h0 : 0 < j
          · have h0' : (0 : Int) < (j : Int) := by omega
            have H0 : Hid (decide (0 < j) = true) := Lib.hid (decide_eq_true h0)
            clear h0
            go_wp2
            go_meet
            exact ⟨by rw [H0.out]; rfl, rfl⟩
          · obtain rfl : j = 0 := by omega
            have H0 : Hid (decide (0 < 0) = false) := Lib.hid rfl
            clear h0
            cases fx
            all_goals (
              go_wp2
              go_meet
              exact ⟨by rw [H0.out]; rfl, rfl⟩)
      case rest =>
        obtain ⟨rfl, rfl⟩ := hcut
        generalize (ok && (decide (0 < j) || fx)) = t at HG ⊢
        cases t
        · have HE : Hid (turnN s.gIdle s.N (j + 1) = turnN s.gIdle s.N j) := Lib.hid (HSK.out (by rw [HG.out]; rfl))
          clear n0 n1 n2 n3 m0 m1 m2 m3 a0
          go_wp2
          go_roundw
          case rel => exact ⟨j + 1, by omega, by go_num, by rw [HE.out]; exact HJ⟩
          case measure => simp [intOf]; omega
        · obtain ⟨e, he⟩ : ∃ e, c.do_ 4 s.back = e := ⟨_, rfl⟩
          have HE : Hid (turnN s.gIdle s.N (j + 1) = (turnN s.gIdle s.N j).set j e) := Lib.hid (by rw [HST.out, HG.out, if_pos rfl, he])
          have HDO := Lib.hid he
          clear he
          have hcl : ∀ (n : Later wc) (b o : Nat), b < wc.heap.size → n.w.cell? ⟨b, o, none⟩ = wc.cell? ⟨b, o, none⟩ := later_cells wc
          have hzb : b < wc.heap.size := HJ.out.bus.lt b (.inl rfl)
          have hzn : gn < wc.heap.size := HJ.out.bus.lt gn (.inr (.inl rfl))
          have hjt2 : (j : Int) < (s.N.length : Int) := by omega
          go_wp2_with fail
          refine wp_region_sec 18 [] (fun _ _ _ => True) (fun _ _ _ _ _ _ => True.intro) (by kernel_rfl) (by kernel_rfl) (by kernel_rfl) (by kernel_rfl) (by kernel_rfl) ?_
          simp only [List.take_succ_cons, List.take_zero, List.drop_succ_cons, List.drop_zero]
          repeat ((first | refine sec_plain (by rfl) (by rfl) (by rfl) (by rfl) ?_ | refine sec_nil (by rfl) (by rfl) (by rfl) (by rfl) (by rfl) ?_); intro K hK; go_big_quiet_op; go_big_quiet_on)
          refine sec_call (v := cfV e) (by rfl) (by rfl) (by rfl) (by rfl) (by rfl) ?_ ?_
          · intro m K hK
            go_big_quiet_op
            exact ⟨_, fun q => Later.call (cfdo_b HDO.out HBK.out _), hK⟩
          simp only [Act.put, List.setIfInBounds_toArray, List.set_cons_succ, List.set_cons_zero]
          refine sec_plain (by rfl) (by rfl) (by rfl) (by rfl) ?_
          intro K hK
          go_big_quiet_op
          go_big_quiet_on
          intro xs m hF
          simp only [secFill]
          clear hF xs hcl hzb hzn n0 n1 n2 n3 m0 m1 m2 m3 a0 c0 c1 c2 c3 c4 c5
          have HJ2 := Lib.hid (HJ.out.later m.h)
          obtain ⟨n0, n1, n2, n3, m0, m1, m2, m3⟩ := HJ2.out.nodeAt HC1.out
          generalize m.w = w5 at HJ2 n0 n1 n2 n3 m0 m1 m2 m3 ⊢
          clear HJ
          go_wp2
          go_roundw
          case rel => exact ⟨j + 1, by omega, by go_num, by rw [HE.out]; exact Lib.hid (HJ2.out.node (by rw [turnN_len]; exact hjt) e)⟩
          case measure => simp [intOf]; omega
    · obtain rfl : j = s.N.length := by omega
      have HS3 : Hid (Sl2 w b gn gw ws vl s { s with N := s.N1 } p.2 br gl bf wr) := HJ
      clear HJ hj hjt HS2
      have hl1 : s.N1.length = s.N.length := turnN_len _ _ _
      obtain ⟨cz, hz⟩ : ∃ c, s.N1[0]? = some c := ⟨_, List.getElem?_eq_getElem (by rw [hl1]; exact hN0)⟩
      obtain ⟨n0, n1, n2, n3, m0, m1, m2, m3⟩ := HS3.out.nodeAt hz
      simp only [Nat.zero_mul, Nat.zero_add] at n0 n1 n2 n3 m0 m1 m2 m3
      have hfx1 : s.fx1 = (s.fx && cz.o) := by unfold Bs.fx1; rw [List.getD_eq_getElem?_getD, hz]; rfl
      obtain ⟨fx, hfx⟩ : ∃ fx, s.fx = fx := ⟨_, rfl⟩
      rw [hfx] at c3 hfx1
      have HF1 := Lib.hid hfx1
      have HFX := Lib.hid hfx
      clear hfx hfx1 hz hl1
      generalize cz.o = oz at n2 HF1
      have hlz : (0 : Int) < (s.N.length : Int) := by omega
      go_upto_region 21 with fail
      go_cut [147] (fun v wx => v = .bool (fx && !oz) ∧ wx = wr)
      case first =>
        cases fx
        · go_wp2
          go_meet
          exact ⟨rfl, rfl⟩
        · go_wp2
          go_meet
          exact ⟨rfl, rfl⟩
      case rest =>
        obtain ⟨rfl, rfl⟩ := hcut
        have l3 := HS3.out.bus.live 3
        obtain ⟨t, ht⟩ : ∃ t, (fx && !oz) = t := ⟨_, rfl⟩
        have HX1 : Hid (t = false → s.fx1 = s.fx) := Lib.hid (fun h => by rw [HF1.out, HFX.out]; subst h; cases fx <;> cases oz <;> simp_all)
        have HX2 : Hid (t = true → s.fx1 = false) := Lib.hid (fun h => by rw [HF1.out]; subst h; cases fx <;> cases oz <;> simp_all)
        rw [ht]
        clear ht
        go_upto_if 147 with fail
        go_cut [] (fun wx => Hid (Sl2 w b gn gw ws vl s { s with N := s.N1, fx := s.fx1 } p.2 br gl bf wx))
        case first =>
          cases t
          · have HE : Hid (Sl2 w b gn gw ws vl s { s with N := s.N1, fx := s.fx1 } p.2 br gl bf wc) := Lib.hid (by rw [HX1.out rfl]; exact HS3.out)
            go_wp2
            go_meet
            exact HE
          · have HE : Hid (Sl2 w b gn gw ws vl s { s with N := s.N1, fx := s.fx1 } p.2 br gl bf (wc.setCell ⟨b, 3, none⟩ (.bool false))) := Lib.hid (by rw [HX2.out rfl]; exact HS3.out.fix false)
            go_wp2
            go_meet
            exact HE
        case rest =>
          have HS4 := hcut
          refine (show ∀ (a : Act) (w : World), Code.wp Tryd.prog _ _ a w → _ from by assumption) _ _ ?_
          exact bslot_three hN0 hN HBK HSL HLG HP hbr HRR HS4
end Go.Proofs.YtpgfifacfkllfaaDoor
