/- Bus, the document's side: Slot. Bus, plain: what may be of a bus may be behind each call; who has the least key; no program is meant. Of no program: what a callee hands out: new memory alone; a slice's shape. Bus: what the walks ask of the code. No program is meant but by its functions' numbers. Bus: the chapter's example; walk of BusNil. -/
import Derived.Test.YtpgfifacfkllfaaDoorZam
import Derived.Deep.CutBlock
import Derived.Deep.RegionLaw
import Derived.Test.YtpgfifacfkllfaaDoorZak
import Derived.Test.YtpgfifacfkllfaaDoorZag
namespace Go.Proofs.YtpgfifacfkllfaaDoor
open Go.RowKit
set_option linter.unusedVariables false

theorem slm_start {w : World} {b gn gw : Nat} {ws : List Value} {vl : Value} {s : Bs} {own : Fr} (h : BusM w b gn gw ws vl s) {w0 : World}
    (h0 : w0 = (((w.alloc (.cells #[.int .i64 own.i, .int .i64 own.n, .int .i64 own.l, .string own.d] 30)).alloc (.cells #[.int .i64 0, .int .i64 0, .int .i64 0, .int .i64 0, .int .i64 0, .string (ByteArray.mk #[])] 64)).alloc (.cells (madeCells #[.bool false] s.N.length) 4)).alloc (.cells #[.int .i64 0, .int .i64 0, .int .i64 0, .string (ByteArray.mk #[])] 30)) :
    SlM w b gn gw ws vl s own frz w.heap.size (w.heap.size + 1) (w.heap.size + 1 + 1) (w.heap.size + 1 + 1 + 1) 0 w0 := by
  subst h0
  obtain ⟨w1, hw1⟩ : ∃ w1, w.alloc (.cells #[.int .i64 own.i, .int .i64 own.n, .int .i64 own.l, .string own.d] 30) = w1 := ⟨_, rfl⟩
  obtain ⟨w2, hw2⟩ : ∃ w2, w1.alloc (.cells #[.int .i64 0, .int .i64 0, .int .i64 0, .int .i64 0, .int .i64 0, .string (ByteArray.mk #[])] 64) = w2 := ⟨_, rfl⟩
  obtain ⟨w3, hw3⟩ : ∃ w3, w2.alloc (.cells (madeCells #[.bool false] s.N.length) 4) = w3 := ⟨_, rfl⟩
  rw [hw1, hw2, hw3]
  have b1 : Below w.heap.size w w1 := by rw [← hw1]; exact (Below.refl _ _).alloc (Nat.le_refl _) _
  have b2 : Below w1.heap.size w1 w2 := by rw [← hw2]; exact (Below.refl _ _).alloc (Nat.le_refl _) _
  have b3 : Below w2.heap.size w2 w3 := by rw [← hw3]; exact (Below.refl _ _).alloc (Nat.le_refl _) _
  have b4 := (Below.refl w3.heap.size w3).alloc (Nat.le_refl _) (.cells #[.int .i64 0, .int .i64 0, .int .i64 0, .string (ByteArray.mk #[])] 30)
  have s1 : w1.heap.size = w.heap.size + 1 := by rw [← hw1]; simp
  have s2 : w2.heap.size = w.heap.size + 1 + 1 := by rw [← hw2]; simp; exact s1
  have s3 : w3.heap.size = w.heap.size + 1 + 1 + 1 := by rw [← hw3]; simp; exact s2
  have hF := (BoxF.made w3 0 0 0 (ByteArray.mk #[]))
  have hO : BoxF w1 w.heap.size own.i own.n own.l own.d := by rw [← hw1]; exact BoxF.made w _ _ _ _
  have hB : BoolR w2.heap.size s.N.length (fun _ => false) w3 := by rw [← hw3]; exact BoolR.made w2 _
  rw [s3] at hF
  rw [s2] at hB
  have b24 : Below w1.heap.size w1 (w3.alloc (.cells #[.int .i64 0, .int .i64 0, .int .i64 0, .string (ByteArray.mk #[])] 30)) := (b2.trans (b3.mono b2.size)).trans (b4.mono (by omega))
  have b14 := b1.trans (b24.mono b1.size)
  refine ⟨h.later b14, b14, hO.later b24, hF, (hB.later (by omega) b4).congr (fun x _ => by simp), by simp; omega, Nat.le_refl _, by omega, by omega, by omega, by omega, by omega, ?_, by omega, by omega, by omega⟩
  have hE := heap_alloc_new w1 (.cells #[.int .i64 0, .int .i64 0, .int .i64 0, .int .i64 0, .int .i64 0, .string (ByteArray.mk #[])] 64)
  rw [hw2, s1] at hE
  exact (b4.block _ (by omega)).trans ((b3.block _ (by omega)).trans hE)
set_option maxRecDepth 20000 in
set_option maxHeartbeats 8000000 in
theorem bslot_v {v : Value} {s : Bs} {O : Nat → Prop} {own : Fr} {has bad : Bool} (w : World) (h : BusD w v s O) (hN0 : 0 < s.N.length) (hN : s.N.length ≤ 32) (hbk : -9223372036854775808 ≤ s.back ∧ s.back ≤ 9223372036854775807) (hsl : 0 ≤ s.sl ∧ s.sl ≤ 1000000) (hlg : s.log.length ≤ 100000) :
    Calls Tryd.prog 26 #[v, .agg #[.int .i64 own.i, .int .i64 own.n, .int .i64 own.l, .string own.d], .bool has, .bool bad] w fun e w' => e = .returned (evC (s.slot own has bad).2.1 (s.slot own has bad).2.2.1 (s.slot own has bad).2.2.2) ∧ Stp BusD v O w (s.slot own has bad).1 w' := by
  obtain ⟨⟨s', k', n', f'⟩, hr⟩ : ∃ r, s.slot own has bad = r := ⟨_, rfl⟩
  rw [hr]
  have HRR := Lib.hid hr
  clear hr
  obtain ⟨b, gn, gw, ws, vl, rfl, rfl, hm⟩ := h
  have HM := Lib.hid hm
  have HBK := Lib.hid hbk
  have HSL := Lib.hid hsl
  have HLG := Lib.hid hlg
  clear hbk hsl hlg
  have mk := run_mkB s.N.length (by omega)
  obtain ⟨c0, c1, c2, c3, c4, c5⟩ := hm.cells
  have hzb : b < w.heap.size := hm.lt b (.inl rfl)
  have hn32 : (s.N.length : Int) ≤ 32 := by omega
  clear hm
  go_enter Tryd.func26, Tryd.ntmps26
  go_upto_block 0 with fail
  obtain ⟨w0, hw0⟩ : ∃ w0, (((w.alloc (.cells #[.int .i64 own.i, .int .i64 own.n, .int .i64 own.l, .string own.d] 30)).alloc (.cells #[.int .i64 0, .int .i64 0, .int .i64 0, .int .i64 0, .int .i64 0, .string (ByteArray.mk #[])] 64)).alloc (.cells (madeCells #[.bool false] s.N.length) 4)).alloc (.cells #[.int .i64 0, .int .i64 0, .int .i64 0, .string (ByteArray.mk #[])] 30) = w0 := ⟨_, rfl⟩
  have HS := Lib.hid (slm_start (own := own) HM.out hw0.symm)
  rw [hw0]
  have HBL : Hid (∀ k, busO b gn gw ws vl k → k < w.heap.size) := Lib.hid HM.out.lt
  clear hw0 mk c0 c1 c2 c3 c4 c5 hzb
  generalize w.heap.size + 1 + 1 + 1 = bf at HS ⊢
  generalize w.heap.size + 1 + 1 = gl at HS ⊢
  generalize w.heap.size + 1 = br at HS ⊢
  obtain ⟨bo, hbo⟩ : ∃ bo, w.heap.size = bo := ⟨_, rfl⟩
  rw [hbo] at HS
  rw [hbo]
  clear hbo
  go_cut [10, 12] (fun v10 v12 wx => v10 = .int .i64 (s.best own has s.N.length).1 ∧ v12 = .int .i64 s.N.length ∧ Hid (Sl2 w b gn gw ws vl s s (s.best own has s.N.length).2 br gl bf wx))
  case first =>
    go_wp2_with fail
    go_loopw [10, 12] (fun p i wr => ∃ k : Nat, k ≤ s.N.length ∧ i = .int .i64 k ∧ p = .int .i64 (s.best own has k).1 ∧ Hid (SlM w b gn gw ws vl s own (s.best own has k).2 bo br gl bf k wr)) (fun _ i _ => s.N.length - (intOf i).toNat)
    case atStart => exact ⟨0, Nat.zero_le _, rfl, rfl, HS⟩
    case round =>
      obtain ⟨wo, rfl⟩ : ∃ wo : World, wo = wr := ⟨_, rfl⟩
      obtain ⟨k, hk, rfl, rfl, HI⟩ := hrel
      obtain ⟨c0, c1, c2, c3, c4, c5⟩ := HI.out.bus.cells
      have hbr := best_rng s own has k
      obtain ⟨p, hp⟩ : ∃ p, s.best own has k = p := ⟨_, rfl⟩
      have HP := Lib.hid hp
      rw [hp] at HI hbr
      rw [hp]
      clear hp
      by_cases hlt : k < s.N.length
      · obtain ⟨n0, n1, n2, n3⟩ := HI.out.bus.node hlt
        obtain ⟨a0, f0⟩ := HI.out.fb k hlt
        have HOF : Hid (s.off k = (s.N[k]).o) := Lib.hid (by unfold Bs.off; rw [List.getD_eq_getElem?_getD, List.getElem?_eq_getElem hlt]; rfl)
        have HM1 := Lib.hid (HI.out.mark HBL.out hlt)
        rw [HOF.out] at HM1
        generalize (s.N[k]).o = ok at n2 HOF HM1
        clear n0 n1 n3
        go_upto_region 8 with fail
        generalize wo.setCell ⟨gl, k, none⟩ (.bool ok) = w1 at HM1 ⊢
        clear a0 f0 n2 c0 c1 c2 c3 c4 c5
        obtain ⟨d0, d1, d2, d3⟩ := HM1.out.fo.cells
        have hzo : bo < w1.heap.size := HM1.out.fo.lt
        obtain ⟨q, hq⟩ : ∃ q, keyG own = q := ⟨_, rfl⟩
        have HQ : Hid (keyV own.i own.n own.l own.d.size = q) := Lib.hid hq
        have HQG := Lib.hid hq
        clear hq
        go_cut [13, 14] (fun s13 s14 wx => ∃ bx : Nat, s13 = .pointer (some ⟨bx, 0, none⟩) ∧ s14 = .bool (has && decide (0 ≤ q)) ∧ Hid (OwnF w1 bx own wx))
        case first =>
          cases has
          · go_region
            all_goals (
              go_wp2
              go_meet
              exact ⟨_, rfl, rfl, Lib.hid ⟨BoxF.made w1 _ _ _ _, ((Below.refl _ w1).alloc (Nat.le_refl _) _).drew, Nat.le_refl _⟩⟩)
          · go_region_law (go_simp; go_at_call 18; refine (rkey_v HQ.out _).mono ?_; rintro e w2 ⟨rfl, hb2⟩; have HB2 := Lib.hid hb2; obtain ⟨hc2, hf2⟩ := fbcell hb2; have hz2 := hb2.size; simp only [World.size_alloc, World.size_drew] at hz2; (first | have hF := BoxF.later (w := w1.drew) HM1.out.fo hb2 | have hF := BoxF.later (HM1.out.fo.later ((Below.refl _ w1).alloc (Nat.le_refl _) _).drew) hb2); obtain ⟨e0, e1, e2, e3⟩ := hF.cells; have hz3 := hF.lt; clear hb2 hF)
            all_goals (
              go_wp2
              go_meet
              first
              | exact ⟨_, rfl, rfl, Lib.hid (key8_a HB2.out)⟩
              | exact ⟨_, rfl, rfl, Lib.hid (key8_b HB2.out)⟩
              | exact ⟨_, rfl, rfl, Lib.hid (key8_c HB2.out)⟩)
        case rest =>
          obtain ⟨bx, rfl, rfl, HX⟩ := hcut
          clear d0 d1 d2 d3 hzo
          have HM2 := Lib.hid (HM1.out.later HX.out.below)
          go_upto_if 52 with fail
          go_cut [14] (fun s14 wx => s14 = .bool (s.has own has k) ∧ Hid (OwnF w1 bx (s.x own k) wx))
          case first =>
            by_cases hk0 : k = 0
            · subst hk0
              go_wp2
              go_meet
              exact ⟨by unfold Bs.has; rw [if_pos rfl, HQG.out], HX⟩
            · have hk1 : (0 : Int) < (k : Int) := by omega
              have HK0 := Lib.hid hk0
              clear hk0
              obtain ⟨c0, c1, c2, c3, c4, c5⟩ := HM2.out.bus.cells
              have hlw : k < ws.length := by rw [HM2.out.bus.len]; exact hlt
              have hlW : k < s.W.length := by rw [HM2.out.bus.lenW]; exact hlt
              obtain ⟨v1, hv1⟩ : ∃ u, ws[k]? = some u := ⟨_, List.getElem?_eq_getElem hlw⟩
              obtain ⟨n0, n1⟩ := HM2.out.bus.wait hv1
              have hr := HM2.out.bus.row k v1 _ hv1 (List.getElem?_eq_getElem hlW)
              have HW : Hid (s.W.getD k [] = s.W[k]) := Lib.hid (by rw [List.getD_eq_getElem?_getD, List.getElem?_eq_getElem hlW]; rfl)
              obtain ⟨A, cap, rfl⟩ := hr.shape
              have hZ : Hid (BusM wc b gn gw ws vl s) := Lib.hid HM2.out.bus
              clear hv1 hlw
              generalize s.W[k] = L at hr HW n0
              clear hlW
              cases L with
              | nil =>
                have hcc := Bs.at_nil own has HK0.out HW.out
                have HH : Hid (s.has own has k = false ∧ OwnF w1 bx (s.x own k) wc) := Lib.hid ⟨hcc.1, by rw [hcc.2]; exact HX.out⟩
                clear hcc
                clear hr
                go_wp2
                go_meet
                exact ⟨by rw [HH.out.1], Lib.hid HH.out.2⟩
              | cons f M =>
                obtain ⟨g, o, rfl, hn, hg, r0, r1, r2, r3⟩ := hr.hd
                obtain ⟨b0, b1, b2, b3⟩ := HX.out.box.cells
                obtain ⟨l0, l1, l2, l3⟩ := box_live HX.out.box
                have hcc := Bs.at_cons own has HK0.out HW.out
                have HH : Hid (s.has own has k = true ∧ OwnF w1 bx (s.x own k) (putFr wc bx f)) := Lib.hid ⟨hcc.1, by rw [hcc.2]; exact HX.out.put f⟩
                clear hcc
                have hzb : bx < wc.heap.size := HX.out.box.lt
                clear hr hn
                go_wp2
                go_meet
                exact ⟨by rw [HH.out.1], Lib.hid HH.out.2⟩
          case rest =>
            obtain ⟨rfl, HX2⟩ := hcut
            have HM3 := Lib.hid (HM1.out.later HX2.out.below)
            clear HX HM2
            go_upto_region 13 with fail
            obtain ⟨c, hc⟩ : ∃ c, (s.has own has k && (!s.off k && (decide (p.1 < 0) || decide (keyG (s.x own k) < keyG p.2)))) = c := ⟨_, rfl⟩
            have HC := Lib.hid hc
            clear hc
            rw [HOF.out] at HC
            obtain ⟨x, hx⟩ : ∃ x, s.x own k = x := ⟨_, rfl⟩
            have HXX := Lib.hid hx
            rw [hx] at HX2 HC
            clear hx
            obtain ⟨hh, hhe⟩ : ∃ h, s.has own has k = h := ⟨_, rfl⟩
            have HHE := Lib.hid hhe
            rw [hhe] at HC ⊢
            clear hhe
            go_cut [90] (fun s90 wx => s90 = .bool c ∧ Hid (Below wc.heap.size wc wx))
            case first =>
              obtain ⟨b0, b1, b2, b3⟩ := HX2.out.box.cells
              obtain ⟨d0, d1, d2, d3⟩ := HM3.out.ff.cells
              have a0 : wc.cell? ⟨gl, k, none⟩ = some (.bool ok) := by
                have h := (HM3.out.fb k hlt).1
                simp only [HOF.out, Nat.lt_succ_self, decide_true, Bool.true_and] at h
                exact h
              have hzb : bx < wc.heap.size := HX2.out.box.lt
              have hzf : bf < wc.heap.size := HM3.out.ff.lt
              have hzl : gl < wc.heap.size := HM3.out.gl
              have hcl : ∀ (n : Later wc) (b o : Nat), b < wc.heap.size → n.w.cell? ⟨b, o, none⟩ = wc.cell? ⟨b, o, none⟩ := later_cells wc
              obtain ⟨q1, hq1⟩ : ∃ q, keyG x = q := ⟨_, rfl⟩
              obtain ⟨q2, hq2⟩ : ∃ q, keyG p.2 = q := ⟨_, rfl⟩
              have HQ1 : Hid (keyV x.i x.n x.l x.d.size = q1) := Lib.hid hq1
              have HQ2 : Hid (keyV p.2.i p.2.n p.2.l p.2.d.size = q2) := Lib.hid hq2
              rw [hq1, hq2] at HC
              clear hq1 hq2
              have hk2 : (k : Int) < (s.N.length : Int) := by omega
              cases hh
              · refine wp_region_later (by kernel_rfl) (by kernel_rfl) ?_
                repeat (go_big_quiet_step (fail))
                refine wpQuiet_nil ?_
                rintro w3 ⟨m, rfl⟩
                go_wp2
                go_meet
                exact ⟨congrArg Value.bool HC.out, Lib.hid m.h⟩
              · cases ok
                · by_cases hp : p.1 < 0
                  · refine wp_region_later (by kernel_rfl) (by kernel_rfl) ?_
                    repeat (go_big_quiet_step (fail))
                    refine wpQuiet_nil ?_
                    rintro w3 ⟨m, rfl⟩
                    rw [decide_eq_true hp] at HC
                    go_wp2
                    go_meet
                    exact ⟨congrArg Value.bool HC.out, Lib.hid m.h⟩
                  · refine wp_region_later (by kernel_rfl) (by kernel_rfl) ?_
                    repeat (go_big_quiet_step (fail))
                    go_big_quiet_step (exact Later.call (rkey_v HQ1.out _))
                    repeat (go_big_quiet_step (fail))
                    go_big_quiet_step (exact Later.call (rkey_v HQ2.out _))
                    repeat (go_big_quiet_step (fail))
                    refine wpQuiet_nil ?_
                    rintro w3 ⟨m, rfl⟩
                    rw [decide_eq_false hp] at HC
                    go_wp2
                    go_meet
                    exact ⟨congrArg Value.bool HC.out, Lib.hid m.h⟩
                · refine wp_region_later (by kernel_rfl) (by kernel_rfl) ?_
                  repeat (go_big_quiet_step (fail))
                  refine wpQuiet_nil ?_
                  rintro w3 ⟨m, rfl⟩
                  go_wp2
                  go_meet
                  exact ⟨congrArg Value.bool HC.out, Lib.hid m.h⟩
            case rest =>
              obtain ⟨rfl, HBc⟩ := hcut
              have HM4 := Lib.hid (HM3.out.later HBc.out)
              have HX4 := Lib.hid (HX2.out.later HBc.out)
              have HBB : Hid (s.best own has (k + 1) = if c then ((k : Int), x) else p) := Lib.hid (by
                show (if s.has own has k && (!s.off k && (decide ((s.best own has k).1 < 0) || decide (keyG (s.x own k) < keyG (s.best own has k).2))) then ((k : Int), s.x own k) else s.best own has k) = _
                rw [HHE.out, HXX.out, HOF.out, HP.out, HC.out])
              clear HX2 HM3 HBc
              cases c
              · go_wp2
                go_roundw
                case rel => exact ⟨k + 1, by omega, by go_num, by rw [HBB.out]; rfl, Lib.hid (by rw [HBB.out]; exact HM4.out)⟩
                case measure => simp [intOf]; omega
              · obtain ⟨b0, b1, b2, b3⟩ := HX4.out.box.cells
                obtain ⟨d0, d1, d2, d3⟩ := HM4.out.ff.cells
                obtain ⟨l0, l1, l2, l3⟩ := box_live HM4.out.ff
                go_wp2
                go_roundw
                case rel => exact ⟨k + 1, by omega, by go_num, by rw [HBB.out]; rfl, Lib.hid (by rw [HBB.out]; exact HM4.out.turn HBL.out (g := x) rfl)⟩
                case measure => simp [intOf]; omega
      · obtain rfl : k = s.N.length := by omega
        have HS2 := Lib.hid (HI.out.two HBL.out)
        rw [← HP.out] at HS2 ⊢
        clear HI HS
        go_wp2
        go_meet
        exact ⟨rfl, rfl, HS2⟩
  case rest =>
    obtain ⟨rfl, rfl, HS2⟩ := hcut
    refine (show ∀ (a : Act) (w : World), Code.wp Tryd.prog _ _ a w → _ from by assumption) _ _ ?_
    exact bslot_two hN0 hN HBK HSL HLG (Lib.hid rfl) (best_rng s own has s.N.length) HRR HS2
end Go.Proofs.YtpgfifacfkllfaaDoor

namespace Go.Proofs.YtpgfifacfkllfaaDoor
open Go.RowKit
set_option linter.unusedVariables false

/-- what may be of a bus -/
structure Bs.Ok (s : Bs) : Prop where
  n1 : 1 ≤ s.N.length
  n2 : s.N.length ≤ 32
  lw : s.W.length = s.N.length
  okN : ∀ c ∈ s.N, c.ok = true
  lenW : ∀ L ∈ s.W, L.length ≤ 1000
  keyW : ∀ L ∈ s.W, ∀ f ∈ L, 0 ≤ keyG f
  back : -9223372036854775808 ≤ s.back ∧ s.back ≤ 9223372036854775807
  w0 : s.W.getD 0 [] = []
  sl0 : 0 ≤ s.sl
  lg : (s.log.length : Int) ≤ s.sl
theorem nodesN_rng (n : Int) : 1 ≤ nodesN n ∧ nodesN n ≤ 32 := by unfold nodesN; split <;> (try split) <;> omega
theorem Bs.Ok.new (n back : Int) (hb : -9223372036854775808 ≤ back ∧ back ≤ 9223372036854775807) : (bsNew (nodesN n) back).Ok := by
  have := nodesN_rng n
  refine ⟨by simp [bsNew]; omega, by simp [bsNew]; omega, by simp [bsNew], fun c hc => ?_, fun L hL => ?_, fun L hL => ?_, hb, ?_, Int.le_refl _, Int.le_refl _⟩
  · simp only [bsNew] at hc; rw [(List.mem_replicate.1 hc).2]; rfl
  · simp only [bsNew] at hL; rw [(List.mem_replicate.1 hL).2]; exact Nat.zero_le _
  · simp only [bsNew] at hL; rw [(List.mem_replicate.1 hL).2]; intro f hf; cases hf
  · simp only [bsNew, List.getD_eq_getElem?_getD, List.getElem?_replicate]
    split <;> rfl
theorem Bs.Ok.fix {s : Bs} (h : s.Ok) : s.fix.Ok := ⟨h.n1, h.n2, h.lw, h.okN, h.lenW, h.keyW, h.back, h.w0, h.sl0, h.lg⟩
theorem mem_set_or {α : Type} {l : List α} {i : Nat} {a x : α} (h : x ∈ l.set i a) : x ∈ l ∨ x = a := by
  obtain ⟨j, hj, rfl⟩ := List.getElem_of_mem h
  rw [List.getElem_set]
  split
  · exact .inr rfl
  · exact .inl (List.getElem_mem _)
theorem getD_mem {α : Type} {l : List (List α)} {i : Nat} {f : α} (h : f ∈ l.getD i []) : l.getD i [] ∈ l := by
  rw [List.getD_eq_getElem?_getD] at *
  cases hl : l[i]? with
  | none => rw [hl] at h; cases h
  | some L => exact List.mem_of_getElem? hl
theorem Bs.Ok.offer {s : Bs} (h : s.Ok) (i : Int) (f : Fr) : (s.offer i f).1.Ok := by
  unfold Bs.offer
  split
  · exact h
  · rename_i hi
    split
    · exact h
    · rename_i hk
      split
      · exact h
      · rename_i hl
        refine ⟨h.n1, h.n2, by simp; exact h.lw, h.okN, fun L hL => ?_, fun L hL g hg => ?_, h.back, ?_, h.sl0, h.lg⟩
        · rcases mem_set_or hL with h1 | rfl
          · exact h.lenW L h1
          · rw [List.length_append, List.length_singleton]; omega
        · rcases mem_set_or hL with h1 | rfl
          · exact h.keyW L h1 g hg
          · rcases List.mem_append.1 hg with h1 | h1
            · exact h.keyW _ (getD_mem h1) g h1
            · rw [List.mem_singleton.1 h1]; omega
        · have := h.w0
          rw [List.getD_eq_getElem?_getD] at this ⊢
          rw [List.getElem?_set_ne (by omega)]
          exact this
theorem turnN_mem {α : Type} {N : List α} {g : Nat → α → α} {k : Nat} {p : α → Prop} (h : ∀ c ∈ N, p c) (hg : ∀ i c, p c → p (g i c)) : ∀ c ∈ turnN g N k, p c := by
  intro c hc
  obtain ⟨i, hi⟩ := List.getElem?_of_mem hc
  rw [turnN_get] at hi
  split at hi
  · cases hn : N[i]? with
    | none => rw [hn] at hi; cases hi
    | some d =>
      rw [hn] at hi
      injection hi with hi
      subst hi
      exact hg i d (h d (List.mem_of_getElem? hn))
  · exact h c (List.mem_of_getElem? hi)
theorem Bs.N1_len (s : Bs) : s.N1.length = s.N.length := turnN_len _ _ _
theorem Bs.N2_len (s : Bs) (bad : Bool) (b : Int) : (s.N2 bad b).length = s.N.length := (turnN_len _ _ _).trans s.N1_len
theorem Bs.N1_ok {s : Bs} (h : ∀ c ∈ s.N, c.ok = true) : ∀ c ∈ s.N1, c.ok = true :=
  turnN_mem h fun i c hc => by
    unfold Bs.gIdle
    split
    · exact Cf.do_ok hc _ _
    · exact hc
theorem Bs.N2_ok {s : Bs} (h : ∀ c ∈ s.N, c.ok = true) (bad : Bool) (b : Int) : ∀ c ∈ s.N2 bad b, c.ok = true :=
  turnN_mem (Bs.N1_ok h) fun i c hc => by
    unfold Bs.gSent
    split
    · exact hc
    · exact Cf.do_ok hc _ _
theorem tail_mem {α : Type} {l : List α} {x : α} (h : x ∈ l.tail) : x ∈ l := List.mem_of_mem_tail h
theorem Bs.Ok.slot {s : Bs} (h : s.Ok) (own : Fr) (has bad : Bool) : (s.slot own has bad).1.Ok := by
  have hsl := h.sl0
  have hlg := h.lg
  unfold Bs.slot
  split
  · exact ⟨by rw [s.N1_len]; exact h.n1, by rw [s.N1_len]; exact h.n2, by rw [s.N1_len]; exact h.lw, Bs.N1_ok h.okN, h.lenW, h.keyW, h.back, h.w0, by simp only; omega, by simp only; omega⟩
  · split
    · exact ⟨by rw [s.N2_len]; exact h.n1, by rw [s.N2_len]; exact h.n2, by rw [s.N2_len]; exact h.lw, Bs.N2_ok h.okN _ _, h.lenW, h.keyW, h.back, h.w0, by simp only; omega, by simp only; omega⟩
    · refine ⟨by rw [s.N2_len]; exact h.n1, by rw [s.N2_len]; exact h.n2, ?_, Bs.N2_ok h.okN _ _, fun L hL => ?_, fun L hL g hg => ?_, h.back, ?_, by simp only; omega, by simp; omega⟩
      · rw [s.N2_len]; simp only; split
        · simp; exact h.lw
        · exact h.lw
      · simp only at hL
        split at hL
        · rcases mem_set_or hL with h1 | rfl
          · exact h.lenW L h1
          · have h2 : (s.W.getD (s.best own has s.N.length).1.toNat []).length ≤ 1000 := by
              rw [List.getD_eq_getElem?_getD]
              cases hl : s.W[(s.best own has s.N.length).1.toNat]? with
              | none => exact Nat.zero_le _
              | some L => exact h.lenW L (List.mem_of_getElem? hl)
            rw [List.length_tail]; omega
        · exact h.lenW L hL
      · simp only at hL
        split at hL
        · rcases mem_set_or hL with h1 | rfl
          · exact h.keyW L h1 g hg
          · have h2 := tail_mem hg
            exact h.keyW _ (getD_mem h2) g h2
        · exact h.keyW L hL g hg
      · simp only
        split
        · have := h.w0
          rw [List.getD_eq_getElem?_getD] at this ⊢
          rw [List.getElem?_set_ne (by omega)]
          exact this
        · exact h.w0
theorem Bs.sl_slot (s : Bs) (own : Fr) (has bad : Bool) : (s.slot own has bad).1.sl = s.sl + 1 := by unfold Bs.slot; split <;> (try split) <;> rfl
theorem Bs.sl_offer (s : Bs) (i : Int) (f : Fr) : (s.offer i f).1.sl = s.sl := by unfold Bs.offer; split <;> (try split) <;> (try split) <;> rfl
theorem Bs.len_slot (s : Bs) (own : Fr) (has bad : Bool) : (s.slot own has bad).1.N.length = s.N.length := by unfold Bs.slot; split <;> (try split) <;> simp only [s.N1_len, s.N2_len]
theorem Bs.len_offer (s : Bs) (i : Int) (f : Fr) : (s.offer i f).1.N.length = s.N.length := by unfold Bs.offer; split <;> (try split) <;> (try split) <;> rfl

/-! ### the least key -/
/-- of those that may send: is there one yet, and its key -/
def Bs.least (s : Bs) (own : Fr) (has : Bool) (i : Nat) : Bool × Int := (decide (0 ≤ (s.best own has i).1), if 0 ≤ (s.best own has i).1 then keyG (s.best own has i).2 else 0)
theorem Bs.least_zero (s : Bs) (own : Fr) (has : Bool) : s.least own has 0 = (false, 0) := by unfold Bs.least Bs.best; simp
/-- what waits has a key -/
theorem Bs.Ok.key {s : Bs} (h : s.Ok) {own : Fr} {has : Bool} {i : Nat} (hh : s.has own has i = true) : 0 ≤ keyG (s.x own i) := by
  unfold Bs.has at hh
  unfold Bs.x
  by_cases h0 : i = 0
  · rw [if_pos h0] at hh ⊢
    simp only [Bool.and_eq_true, decide_eq_true_eq] at hh
    exact hh.2
  · rw [if_neg h0] at hh ⊢
    cases hl : s.W.getD i [] with
    | nil => rw [hl] at hh; simp at hh
    | cons f M =>
      have : f ∈ s.W.getD i [] := by rw [hl]; exact List.mem_cons_self
      exact h.keyW _ (getD_mem this) f this
/-- one node more -/
theorem Bs.least_succ (s : Bs) (own : Fr) (has : Bool) (i : Nat) :
    s.least own has (i + 1) = if s.has own has i && (!s.off i && (!(s.least own has i).1 || decide (keyG (s.x own i) < (s.least own has i).2))) then (true, keyG (s.x own i)) else s.least own has i := by
  have hr := best_rng s own has i
  unfold Bs.least
  by_cases hb : 0 ≤ (s.best own has i).1
  · have e1 : decide (0 ≤ (s.best own has i).1) = true := decide_eq_true hb
    have e2 : decide ((s.best own has i).1 < 0) = false := decide_eq_false (by omega)
    simp only [e1, if_pos hb, Bool.not_true, Bool.false_or]
    show _ = _
    conv => lhs; unfold Bs.best
    simp only [e2, Bool.false_or]
    split
    · simp
    · simp [hb]
  · have e1 : decide (0 ≤ (s.best own has i).1) = false := decide_eq_false hb
    have e2 : decide ((s.best own has i).1 < 0) = true := decide_eq_true (by omega)
    simp only [e1, if_neg hb, Bool.not_false, Bool.true_or, Bool.and_true]
    conv => lhs; unfold Bs.best
    simp only [e2, Bool.true_or, Bool.and_true]
    split
    · simp
    · simp [hb]
end Go.Proofs.YtpgfifacfkllfaaDoor

namespace Go.Proofs.YtpgfifacfkllfaaDoor
open Go.RowKit
set_option linter.unusedVariables false

/-- a callee that makes new memory alone, with what it returns behind a fact -/
def Gives (w : World) (p : World → Value → Prop) (e : Ending) (w' : World) : Prop := ∃ u, e = .returned u ∧ p w' u ∧ Below w.heap.size w w'
/-- a slice's length is not above its room -/
def CapOk (u : Value) : Prop := ∀ A n c, u = .slice A n c → n ≤ c
/-- nil, or with room for what it holds -/
def ShapeOk (u : Value) : Prop := u = .slice none 0 0 ∨ ∃ x n c, u = .slice (some x) n c ∧ n ≤ c
end Go.Proofs.YtpgfifacfkllfaaDoor

namespace Go.Proofs.YtpgfifacfkllfaaDoor
open Go.RowKit
set_option linter.unusedVariables false

abbrev evV (k n : Int) (f : Fr) : Value := .agg #[.int .i64 k, .int .i64 n, .int .i64 f.i, .int .i64 f.n, .int .i64 f.l, .string f.d]
abbrev frV (f : Fr) : Value := .agg #[.int .i64 f.i, .int .i64 f.n, .int .i64 f.l, .string f.d]
/-- T: what the calls ask of the tables; it goes on in every world in which the blocks of W0 stay -/
structure BusApi (P : Program) (fN fO fS fF fC fW fL fT fM : Nat) (T : World → Prop) (I : World → Value → Bs → (Nat → Prop) → Prop) : Prop where
  tab : ∀ {w w'}, T w → Below w.heap.size w w' → T w'
  obj : IsObj I
  ptr : ∀ {w v s O}, I w v s O → ∃ a, v = .pointer (some a)
  new : ∀ (n back : Int) (w : World), (-9223372036854775808 ≤ back ∧ back ≤ 9223372036854775807) → T w → Calls P fN #[.int .i64 n, .int .i64 back] w fun e w' => ∃ v O, e = .returned v ∧ I w' v (bsNew (nodesN n) back) O ∧ Below w.heap.size w w' ∧ ∀ k, O k → w.heap.size ≤ k
  offer : ∀ {w v s O} (i : Int) (f : Fr), I w v s O → s.Ok → T w → (-9223372036854775808 ≤ f.n ∧ f.n ≤ 9223372036854775807) → Calls P fO #[v, .int .i64 i, frV f] w fun e w' => e = .returned (.int .i64 (s.offer i f).2) ∧ Stp I v O w (s.offer i f).1 w'
  slot : ∀ {w v s O} (own : Fr) (has bad : Bool), I w v s O → s.Ok → s.sl ≤ 100000 → T w → (-9223372036854775808 ≤ own.n ∧ own.n ≤ 9223372036854775807) → Calls P fS #[v, frV own, .bool has, .bool bad] w fun e w' => e = .returned (evV (s.slot own has bad).2.1 (s.slot own has bad).2.2.1 (s.slot own has bad).2.2.2) ∧ Stp I v O w (s.slot own has bad).1 w'
  fix : ∀ {w v s O}, I w v s O → s.Ok → T w → Calls P fF #[v] w fun e w' => e = .returned (.tuple #[]) ∧ Stp I v O w s.fix w'
  conf : ∀ {w v s O} (i : Nat) (c : Cf), I w v s O → s.N[i]? = some c → Calls P fC #[v, .int .i64 i] w fun e w' => e = .returned (.tuple #[cfV c, .bool true]) ∧ Below w.heap.size w w'
  waits : ∀ {w v s O} (i : Nat) (L : List Fr), I w v s O → s.W[i]? = some L → Calls P fW #[v, .int .i64 i] w (Gives w fun w' u => SlA frC 4 w' (fun k => k < w.heap.size) u L ∧ ShapeOk u)
  log : ∀ {w v s O}, I w v s O → Calls P fL #[v] w (Gives w fun w' u => SlA lgC 6 w' (fun k => k < w.heap.size) u s.log ∧ CapOk u)
  slots : ∀ {w v s O}, I w v s O → Calls P fT #[v] w fun e w' => e = .returned (.int .i64 s.sl) ∧ Below w.heap.size w w'
  nodes : ∀ {w v s O}, I w v s O → Calls P fM #[v] w fun e w' => e = .returned (.int .i64 s.N.length) ∧ Below w.heap.size w w'
/-- of nil -/
structure BusNone (P : Program) (fO fS fF fC fW fL fT fM : Nat) : Prop where
  offer : ∀ (i : Int) (f : Fr) w, Calls P fO #[.pointer none, .int .i64 i, frV f] w fun e w' => e = .returned (.int .i64 1) ∧ Below w.heap.size w w'
  slot : ∀ (f : Fr) (has bad : Bool) w, Calls P fS #[.pointer none, frV f, .bool has, .bool bad] w fun e w' => e = .returned (.agg #[.int .i64 0, .int .i64 0, .int .i64 0, .int .i64 0, .int .i64 0, .string (ByteArray.mk #[])]) ∧ Below w.heap.size w w'
  fix : ∀ w, Calls P fF #[.pointer none] w fun e w' => e = .returned (.tuple #[]) ∧ Below w.heap.size w w'
  conf : ∀ (i : Int) w, Calls P fC #[.pointer none, .int .i64 i] w fun e w' => e = .returned (.tuple #[.agg #[.int .i64 0, .int .i64 0, .bool false, .int .i64 0], .bool false]) ∧ Below w.heap.size w w'
  waits : ∀ (i : Int) w, Calls P fW #[.pointer none, .int .i64 i] w fun e w' => (∃ A c, e = .returned (.slice A 0 c)) ∧ Below w.heap.size w w'
  log : ∀ w, Calls P fL #[.pointer none] w fun e w' => (∃ A c, e = .returned (.slice A 0 c)) ∧ Below w.heap.size w w'
  slots : ∀ w, Calls P fT #[.pointer none] w fun e w' => e = .returned (.int .i64 0) ∧ Below w.heap.size w w'
  nodes : ∀ w, Calls P fM #[.pointer none] w fun e w' => e = .returned (.int .i64 0) ∧ Below w.heap.size w w'
abbrev BusI (T : World → Prop) (I : World → Value → Bs → (Nat → Prop) → Prop) : Prop := BusApi Tryd.prog 10 14 19 24 17 16 20 23 15 T I
abbrev BusNo : Prop := BusNone Tryd.prog 14 19 24 17 16 20 23 15
end Go.Proofs.YtpgfifacfkllfaaDoor

namespace Go.Proofs.YtpgfifacfkllfaaDoor
open Go.RowKit
set_option linter.unusedVariables false

def fA5 : Fr := ⟨5, 0, 0, ByteArray.mk #[]⟩
def fA4 : Fr := ⟨4, 0, 0, ByteArray.mk #[]⟩
def bA0 : Bs := bsNew (nodesN 3) 1
def bA1 : Bs := (bA0.offer 1 fA5).1
def bA2 : Bs := (bA1.offer 2 fA4).1
def bA3 : Bs := (bA2.slot frz false false).1
def bA4 : Bs := (bA3.slot frz false false).1
theorem bA0_ok : bA0.Ok := Bs.Ok.new 3 1 (by decide)
theorem bA2_ok : bA2.Ok := (bA0_ok.offer 1 fA5).offer 2 fA4
theorem bA3_ok : bA3.Ok := bA2_ok.slot frz false false
theorem bA_e1 : (bA0.offer 1 fA5).2 = 0 := by decide +kernel
theorem bA_e2 : (bA1.offer 2 fA4).2 = 0 := by decide +kernel
theorem bA_e3 : (bA2.slot frz false false).2.1 = 1 ∧ (bA2.slot frz false false).2.2.1 = 2 ∧ (bA2.slot frz false false).2.2.2.i = 4 := by decide +kernel
theorem bA_e4 : (bA3.slot frz false false).2.2.1 = 1 := by decide +kernel
theorem bA_e5 : bA4.log.length = 2 ∧ bA4.sl = 2 ∧ bA2.sl = 0 ∧ bA3.sl = 1 := by decide +kernel
set_option maxHeartbeats 2000000 in
theorem busalive {T : World → Prop} {I : World → Value → Bs → (Nat → Prop) → Prop} (A : BusI T I) (w : World) (hT : T w) :
    Calls Tryd.prog 9 #[] w fun e w' => e = .returned (.bool true) ∧ Below w.heap.size w w' := by
  have HA := Lib.hid A
  have HT := Lib.hid hT
  clear hT A
  go_enter Tryd.func9, Tryd.ntmps9
  go_wp2_with fail
  refine (HA.out.new 3 1 _ (by decide) HT.out).mono ?_
  rintro e w1 ⟨v, O, rfl, hi, hb, hn⟩
  obtain ⟨a, rfl⟩ := HA.out.ptr hi
  have H0 : Hid (Has I w (.pointer (some a)) bA0 O w1) := Lib.hid ⟨hi, hb, hn⟩
  clear hi hb hn
  go_wp2_with fail
  refine (HA.out.offer 1 fA5 H0.out.inv bA0_ok (HA.out.tab HT.out H0.out.below) (by decide)).mono ?_
  rintro e w2 ⟨he, O1, hi, hk, hg⟩
  rw [bA_e1] at he
  subst he
  have H1 : Hid (Has I w (.pointer (some a)) bA1 O1 w2) := Lib.hid (H0.out.step HA.out.obj hi hk hg)
  clear hi hk hg
  go_wp2_with fail
  refine (HA.out.offer 2 fA4 H1.out.inv (bA0_ok.offer 1 fA5) (HA.out.tab HT.out H1.out.below) (by decide)).mono ?_
  rintro e w3 ⟨he, O2, hi, hk, hg⟩
  rw [bA_e2] at he
  subst he
  have H2 : Hid (Has I w (.pointer (some a)) bA2 O2 w3) := Lib.hid (H1.out.step HA.out.obj hi hk hg)
  clear hi hk hg
  go_wp2_with fail
  refine (HA.out.slot frz false false H2.out.inv bA2_ok (by rw [bA_e5.2.2.1]; decide) (HA.out.tab HT.out H2.out.below) (by decide)).mono ?_
  rintro e w4 ⟨he, O3, hi, hk, hg⟩
  obtain ⟨⟨xi, xn, xl, xd⟩, hfx⟩ : ∃ f, (bA2.slot frz false false).2.2.2 = f := ⟨_, rfl⟩
  have hxi : xi = 4 := by have := bA_e3.2.2; rw [hfx] at this; exact this
  subst hxi
  rw [bA_e3.1, bA_e3.2.1, hfx] at he
  clear hfx
  subst he
  have H3 : Hid (Has I w (.pointer (some a)) bA3 O3 w4) := Lib.hid (H2.out.step HA.out.obj hi hk hg)
  have hno : ¬ O3 w4.heap.size := fun h => by have := HA.out.obj.lt hi _ h; omega
  have HNO := Lib.hid hno
  clear hi hk hg hno
  go_wp2_with fail
  have H3' := Lib.hid (H3.out.later HA.out.obj ((Below.refl w4.heap.size w4).alloc (Nat.le_refl _) (.cells #[.int .i64 1, .int .i64 2, .int .i64 4, .int .i64 xn, .int .i64 xl, .string xd] 46)))
  refine (HA.out.slot frz false false H3'.out.inv bA3_ok (by rw [bA_e5.2.2.2]; decide) (HA.out.tab HT.out H3'.out.below) (by decide)).mono ?_
  rintro e w5 ⟨he, O4, hi, hk, hg⟩
  obtain ⟨k5, hk5⟩ : ∃ k, (bA3.slot frz false false).2.1 = k := ⟨_, rfl⟩
  obtain ⟨⟨yi, yn, yl, yd⟩, hfy⟩ : ∃ f, (bA3.slot frz false false).2.2.2 = f := ⟨_, rfl⟩
  rw [bA_e4, hk5, hfy] at he
  clear hk5 hfy
  subst he
  have H4 : Hid (Has I w (.pointer (some a)) bA4 O4 w5) := Lib.hid (H3'.out.step HA.out.obj hi hk hg)
  have x0 : w5.cell? ⟨w4.heap.size, 0, none⟩ = some (.int .i64 1) := (hk.cell (p := ⟨w4.heap.size, 0, none⟩) (by simp) HNO.out).trans (by simp)
  have x1 : w5.cell? ⟨w4.heap.size, 1, none⟩ = some (.int .i64 2) := (hk.cell (p := ⟨w4.heap.size, 1, none⟩) (by simp) HNO.out).trans (by simp)
  have x2 : w5.cell? ⟨w4.heap.size, 2, none⟩ = some (.int .i64 4) := (hk.cell (p := ⟨w4.heap.size, 2, none⟩) (by simp) HNO.out).trans (by simp)
  have hz5 : w4.heap.size < w5.heap.size := by have := hk.size; simp at this; omega
  clear hi hk hg
  go_wp2_with fail
  have H5 := Lib.hid (H4.out.later HA.out.obj ((Below.refl w5.heap.size w5).alloc (Nat.le_refl _) (.cells #[.int .i64 k5, .int .i64 1, .int .i64 yi, .int .i64 yn, .int .i64 yl, .string yd] 46)))
  generalize w5.alloc (.cells #[.int .i64 k5, .int .i64 1, .int .i64 yi, .int .i64 yn, .int .i64 yl, .string yd] 46) = w5' at H5 ⊢
  clear x0 x1 x2 hz5
  refine (HA.out.log H5.out.inv).mono ?_
  rintro e w6 ⟨u, rfl, ⟨⟨A, cap, rfl, _, _⟩, _⟩, hb6⟩
  have H6 := Lib.hid (H5.out.later HA.out.obj hb6)
  rw [bA_e5.1]
  clear hb6
  go_wp2_with fail
  refine (HA.out.slots H6.out.inv).mono ?_
  rintro e w7 ⟨he, hb7⟩
  rw [bA_e5.2.1] at he
  subst he
  have H7 := Lib.hid (H6.out.later HA.out.obj hb7)
  clear hb7
  go_wp2
  go_ret
  exact ⟨rfl, H7.out.below⟩

/-! ### BusNil -/
set_option maxHeartbeats 2000000 in
theorem busNil_walk {T : World → Prop} {I : World → Value → Bs → (Nat → Prop) → Prop} (A : BusI T I) (N : BusNo) (node : Int) (i n l : Int) (d : ByteArray) (wn : (Lit.int .i64 node).wf = true) (wi : (Lit.int .i64 i).wf = true) (wk : (Lit.int .i64 n).wf = true) (wl : (Lit.int .i64 l).wf = true) (w : World) (hT : T w) :
    Calls Tryd.prog 7 #[.int .i64 node, .agg #[.int .i64 i, .int .i64 n, .int .i64 l, .string d]] w fun e w' => e = .returned (.bool true) ∧ Below w.heap.size w w' := by
  have HA := Lib.hid A
  have HN := Lib.hid N
  have HT := Lib.hid hT
  clear hT A N wn wi wk wl
  have HF0 := Lib.hid (BoxF.made w i n l d)
  have HB0 := Lib.hid ((Below.refl w.heap.size w).alloc (Nat.le_refl _) (.cells #[.int .i64 i, .int .i64 n, .int .i64 l, .string d] 30))
  go_enter Tryd.func7, Tryd.ntmps7
  go_wp2_with fail
  refine (HN.out.fix _).mono ?_
  rintro e w1 ⟨rfl, hb⟩
  have HF1 := Lib.hid (HF0.out.later hb)
  have HB1 := Lib.hid (fbelow_t HB0.out hb)
  clear hb
  go_wp2_with fail
  refine (HN.out.conf node _).mono ?_
  rintro e w2 ⟨rfl, hb⟩
  have HF2 := Lib.hid (HF1.out.later hb)
  have HB2 := Lib.hid (fbelow_t HB1.out hb)
  clear hb
  have hal := (Below.refl w2.heap.size w2).alloc (Nat.le_refl _) (.cells #[.int .i64 0, .int .i64 0, .bool false, .int .i64 0] 42)
  have HF3 := Lib.hid (HF2.out.later hal)
  have HB3 := Lib.hid (fbelow_t HB2.out hal)
  have HC3 := Lib.hid (BoxC.made w2 0 0 false 0)
  clear hal
  obtain ⟨d0, d1, d2, d3⟩ := HF2.out.cells
  have hz2 : w.heap.size < w2.heap.size := HF2.out.lt
  go_wp2_with fail
  generalize w2.alloc (.cells #[.int .i64 0, .int .i64 0, .bool false, .int .i64 0] 42) = w3 at HF3 HB3 HC3 ⊢
  clear d0 d1 d2 d3
  refine (HN.out.offer node ⟨i, n, l, d⟩ _).mono ?_
  rintro e w4 ⟨rfl, hb⟩
  have HF4 := Lib.hid (HF3.out.later hb)
  have HB4 := Lib.hid (fbelow_t HB3.out hb)
  have HC4 := Lib.hid (HC3.out.later hb)
  clear hb
  obtain ⟨d0, d1, d2, d3⟩ := HF4.out.cells
  go_wp2_with fail
  clear d0 d1 d2 d3
  refine (HN.out.slot ⟨i, n, l, d⟩ true false _).mono ?_
  rintro e w5 ⟨rfl, hb⟩
  have HB5 := Lib.hid (fbelow_t HB4.out hb)
  have HC5 := Lib.hid (HC4.out.later hb)
  clear hb
  obtain ⟨c0, c1, c2, c3⟩ := HC5.out.cells
  go_wp2_with fail
  clear c0 c1 c2 c3
  refine (HN.out.waits node _).mono ?_
  rintro e w6 ⟨⟨A6, k6, rfl⟩, hb⟩
  have HB6 := Lib.hid (fbelow_t HB5.out hb)
  clear hb
  go_wp2_with fail
  refine (HN.out.log _).mono ?_
  rintro e w7 ⟨⟨A7, k7, rfl⟩, hb⟩
  have HB7 := Lib.hid (fbelow_t HB6.out hb)
  clear hb
  go_wp2_with fail
  refine (HN.out.slots _).mono ?_
  rintro e w8 ⟨rfl, hb⟩
  have HB8 := Lib.hid (fbelow_t HB7.out hb)
  clear hb
  go_wp2_with fail
  refine (HN.out.nodes _).mono ?_
  rintro e w9 ⟨rfl, hb⟩
  have HB9 := Lib.hid (fbelow_t HB8.out hb)
  clear hb
  go_wp2_with fail
  refine (busalive HA.out _ (HA.out.tab HT.out HB9.out)).mono ?_
  rintro e w10 ⟨rfl, hb⟩
  have HB10 := Lib.hid (fbelow_t HB9.out hb)
  clear hb
  go_wp2
  go_ret
  exact ⟨rfl, HB10.out⟩
end Go.Proofs.YtpgfifacfkllfaaDoor
