/- Band: walk of BandPlays. Printed by gen_v.py. -/
import Derived.Test.YtpljlpfoalcfmaaZao
namespace Go.Proofs.Ytpljlpfoalcfmaa
open Go.RowKit
set_option linter.unusedVariables false

/-- in the midst of the region that flushes -/
def FlG (I : World → Value → Bq → (Nat → Prop) → Prop) (W : World) (v : Value) (s : Bq) (O1 : Nat → Prop) : Nat → (Tmp → Option Value) → World → Prop
  | 0, _, w => Below W.heap.size W w
  | _ + 1, _, w => ∃ O3, I w v { s with L := [] } O3 ∧ Kept O1 W w ∧ Grows O1 W O3
theorem FlG.kept {I : World → Value → Bq → (Nat → Prop) → Prop} {W w : World} {v : Value} {s : Bq} {O1 : Nat → Prop} : ∀ {j xs}, FlG I W v s O1 j xs w → Kept O1 W w
  | 0, _, h => .of_below h
  | _ + 1, _, ⟨_, _, h, _⟩ => h
set_option maxRecDepth 4000 in
set_option maxHeartbeats 16000000 in
theorem bandPlays_walk {I : World → Value → Bq → (Nat → Prop) → Prop} (A : BandI I) (bands room : Int) (a : Option Addr) (len cap : Nat) (F : Nat → List Value) (w : World) (wb : (Lit.int .i64 bands).wf = true) (wr : (Lit.int .i64 room).wf = true) (hr : IsRowOf w opShB a len cap F) :
    Calls Try.prog 3 #[.int .i64 bands, .int .i64 room, .slice a len cap] w fun e w' => e = .returned (.bool true) ∧ Below w.heap.size w w' := by
  obtain ⟨L, hL, hlen, hf⟩ := slice_of_row hr opOfB opOfB_c rfl (by decide)
  have HA := Lib.hid A
  have HV := Lib.hid hL
  subst hlen
  clear A hL hr hf wb wr
  obtain ⟨q, hq⟩ : ∃ q, fbB L = q := ⟨_, rfl⟩
  have HQ := Lib.hid hq
  clear hq
  go_enter Try.func3, Try.ntmps3
  go_wp2_with fail
  refine (fb_any w HV.out).mono ?_
  rintro e w' ⟨he, rfl⟩
  rw [HQ.out] at he
  subst he
  cases q
  · go_wp2_with fail
    refine (bandalive HA.out _).mono ?_
    rintro e w1 ⟨rfl, hb⟩
    go_wp2
    go_ret
    exact ⟨rfl, hb⟩
  have hl4 := fbB_len HQ.out
  go_wp2_with fail
  refine (HA.out.new bands room _).mono ?_
  rintro e w1 ⟨v, O, rfl, hi, hb, hn⟩
  obtain ⟨p, rfl⟩ := HA.out.ptr hi
  have H0 : Hid (Has I w (.pointer (some p)) (bqNew bands room) O w1) := Lib.hid ⟨hi, hb, hn⟩
  clear hi hb hn
  go_wp2_with fail
  refine (xbnew_v bands room _).mono ?_
  rintro e w2 ⟨v', O', rfl, hi, hb, hn⟩
  have HP : Hid (Pair I BqD w (.pointer (some p)) v' (bqNew bands room) (bqNew bands room) O O' w2) :=
    Lib.hid ⟨H0.out.later HA.out.obj hb, ⟨hi, fbelow_t H0.out.below hb, fun k hk => Nat.le_trans H0.out.below.size (hn k hk)⟩, fun k h1 h2 => by have := HA.out.obj.lt H0.out.inv k h1; have := hn k h2; omega⟩
  have HOK := Lib.hid (Bq.Ok.new bands room)
  clear hi hb hn
  go_wp2_with fail
  go_loopw [27] (fun i wr => ∃ (k : Nat) (s : Bq) (O O' : Nat → Prop), k ≤ L.length ∧ i = .int .i64 k ∧ Hid s.Ok ∧ Hid (Pair I BqD w (.pointer (some p)) v' s s O O' wr)) (fun i _ => L.length - (intOf i).toNat)
  case atStart => exact ⟨0, _, O, O', by omega, rfl, HOK, HP⟩
  case round =>
    obtain ⟨k, s, O1, O2, hk, rfl, HS, HP⟩ := hrel
    by_cases hlt : k < L.length
    · have hkl : (k : Int) < (L.length : Int) := by omega
      obtain ⟨x, c1, hv1, hxb, hcell⟩ := SlG.at_ (HV.out.later HP.out.a.below) hlt
      injection hv1 with hAA _ hcap
      subst hAA hcap
      have a0 : wr.cell? (x.add (k * 9)) = some (.int .i64 (L[k]'hlt).k) := hcell 0 _ rfl
      have a1 : wr.cell? ⟨(x.add (k * 9)).block, (x.add (k * 9)).off + 1, none⟩ = some (.int .i64 (L[k]'hlt).b) := hcell 1 _ rfl
      have a2 : wr.cell? ⟨(x.add (k * 9)).block, (x.add (k * 9)).off + 2, none⟩ = some (.int .i64 (L[k]'hlt).p.f.i) := hcell 2 _ rfl
      have a3 : wr.cell? ⟨(x.add (k * 9)).block, (x.add (k * 9)).off + 3, none⟩ = some (.int .i64 (L[k]'hlt).p.f.n) := hcell 3 _ rfl
      have a4 : wr.cell? ⟨(x.add (k * 9)).block, (x.add (k * 9)).off + 4, none⟩ = some (.int .i64 (L[k]'hlt).p.f.l) := hcell 4 _ rfl
      have a5 : wr.cell? ⟨(x.add (k * 9)).block, (x.add (k * 9)).off + 5, none⟩ = some (.string (L[k]'hlt).p.f.d) := hcell 5 _ rfl
      have a6 : wr.cell? ⟨(x.add (k * 9)).block, (x.add (k * 9)).off + 6, none⟩ = some (.int .i64 (L[k]'hlt).p.fr) := hcell 6 _ rfl
      have a7 : wr.cell? ⟨(x.add (k * 9)).block, (x.add (k * 9)).off + 7, none⟩ = some (.int .i64 (L[k]'hlt).p.tag) := hcell 7 _ rfl
      have a8 : wr.cell? ⟨(x.add (k * 9)).block, (x.add (k * 9)).off + 8, none⟩ = some (.bool (L[k]'hlt).p.lp) := hcell 8 _ rfl
      generalize L[k]'hlt = o at a0 a1 a2 a3 a4 a5 a6 a7 a8
      clear hcell hxb
      go_upto_region 7 with fail
      have HPa := Lib.hid (HP.out.later HA.out.obj isObj_bq ((Below.refl wr.heap.size wr).alloc (Nat.le_refl _) (.cells #[.int .i64 o.k, .int .i64 o.b, .int .i64 o.p.f.i, .int .i64 o.p.f.n, .int .i64 o.p.f.l, .string o.p.f.d, .int .i64 o.p.fr, .int .i64 o.p.tag, .bool o.p.lp] 34)))
      have HBa := Lib.hid (BoxOB.made wr o)
      generalize wr.alloc _ = wa at HPa HBa ⊢
      have HNO : Hid (¬ (O1 wr.heap.size ∨ O2 wr.heap.size)) := Lib.hid (fun hh => by
        rcases hh with hh | hh
        · have := HA.out.obj.lt HP.out.a.inv _ hh; omega
        · have := isObj_bq.lt HP.out.b.inv _ hh; omega)
      have HZ : Hid (wr.heap.size < wa.heap.size) := Lib.hid HBa.out.lt
      generalize wr.heap.size = g at HBa HNO HZ ⊢
      clear a0 a1 a2 a3 a4 a5 a6 a7 a8
      obtain ⟨a0, a1, a2, a3, a4, a5, a6, a7, a8⟩ := HBa.out.cells
      obtain ⟨ok, ob, op⟩ := o
      simp only at a0 a1 a2 a3 a4 a5 a6 a7 a8
      by_cases hk0 : ok = 0
      · subst hk0
        obtain ⟨X, hX⟩ : ∃ X, s.put ob op = X := ⟨_, rfl⟩
        have HX := Lib.hid hX
        have HSX := Lib.hid (HS.out.put ob op)
        rw [hX] at HSX
        obtain ⟨sX, eX⟩ := X
        simp only at HSX
        clear hX
        have hne : (eX != eX) = false := by simp
        go_upto_region 9 with fail
        have hcl : ∀ (n : KLater (fun k => O1 k ∨ O2 k) wa) (o : Nat), n.w.cell? ⟨g, o, none⟩ = wa.cell? ⟨g, o, none⟩ := fun n o => n.cell g o HZ.out HNO.out
        refine wp_region_st 12 [5, 11] (PairS I BqD w wa (fun k => O1 k ∨ O2 k) (.pointer (some p)) v' (fun _ => none) s sX s sX) [] (PairC.mk HA.out.obj isObj_bq HPa.out) (by kernel_rfl) (by kernel_rfl) (by kernel_rfl) (by kernel_rfl) (by kernel_rfl) (by kernel_rfl) (by kernel_rfl) ?_
        simp only [List.take_succ_cons, List.take_zero, List.drop_succ_cons, List.drop_zero]
        repeat ((first | refine st_plain (O := (fun k => O1 k ∨ O2 k)) (fun h => PairS.kept h) (by rfl) (by rfl) (by rfl) (by rfl) (by rfl) ?_ | refine st_nil (O := (fun k => O1 k ∨ O2 k)) (fun h => PairS.kept h) (by rfl) (by rfl) (by rfl) (by rfl) (by rfl) (by rfl) ?_); intro K hK; go_big_quiet_op; go_big_quiet_on)
        refine st_step (f := 11) (args := #[.pointer (some p), .int .i64 ob, pkV op]) (v := .int .i64 eX) 0 (by rfl) (by rfl) (by rfl) (by rfl) (by rfl) (fun w => by simp [go_sem]) (fun xs9 w9 h9 => ?_) ?_
        · obtain ⟨O3, O4, hp, hk, hg1, hg2, hh⟩ := h9
          refine (HA.out.put ob op hp.a.inv HS.out).mono ?_
          rintro e w' ⟨he, hs⟩
          rw [HX.out] at he hs
          exact ⟨he, PairC.stepA HA.out.obj isObj_bq hp hk hg1 hg2 hh hs⟩
        simp only [Act.put, List.setIfInBounds_toArray, List.set_cons_succ, List.set_cons_zero]
        repeat ((first | refine st_plain (O := (fun k => O1 k ∨ O2 k)) (fun h => PairS.kept h) (by rfl) (by rfl) (by rfl) (by rfl) (by rfl) ?_ | refine st_nil (O := (fun k => O1 k ∨ O2 k)) (fun h => PairS.kept h) (by rfl) (by rfl) (by rfl) (by rfl) (by rfl) (by rfl) ?_); intro K hK; go_big_quiet_op; go_big_quiet_on)
        refine st_step (f := 12) (args := #[v', .int .i64 ob, pkV op]) (v := .int .i64 eX) 1 (by rfl) (by rfl) (by rfl) (by rfl) (by rfl) (fun w => by simp [go_sem]) (fun xs9 w9 h9 => ?_) ?_
        · obtain ⟨O3, O4, hp, hk, hg1, hg2, hh⟩ := h9
          refine (xqput_v _ hp.b.inv (congrArg Prod.snd HX.out) HS.out).mono ?_
          rintro e w' ⟨he, hs⟩
          rw [HX.out] at hs
          exact ⟨he, PairC.stepB HA.out.obj isObj_bq hp hk hg1 hg2 hh hs⟩
        simp only [Act.put, List.setIfInBounds_toArray, List.set_cons_succ, List.set_cons_zero]
        repeat ((first | refine st_plain (O := (fun k => O1 k ∨ O2 k)) (fun h => PairS.kept h) (by rfl) (by rfl) (by rfl) (by rfl) (by rfl) ?_ | refine st_nil (O := (fun k => O1 k ∨ O2 k)) (fun h => PairS.kept h) (by rfl) (by rfl) (by rfl) (by rfl) (by rfl) (by rfl) ?_); intro K hK; go_big_quiet_op; go_big_quiet_on)
        intro ys xs wt hF h9
        simp only [secFill]
        clear hF hcl a0 a1 a2 a3 a4 a5 a6 a7 a8
        have H9 := Lib.hid h9
        clear h9
        obtain ⟨O3, O4, hp9, _⟩ := H9.out
        have HPN := Lib.hid hp9
        clear hp9 H9
        have HPT := HPN
        have HST := HSX
        obtain ⟨bq, vq, hv', hOq, hmq⟩ := HPT.out.b.inv
        have HBD := Lib.hid HPT.out.b.inv
        first | subst hv' | (injection hv' with hv'; injection hv' with hv'; injection hv' with hv'; have hv' := hv'.symm; subst hv')
        obtain ⟨Aq, cq, hvq⟩ := hmq.row.shape
        subst hvq
        obtain ⟨c0, c1, c2, c3⟩ := hmq.cells
        have hbz := heap_some_lt hmq.box
        clear hmq
        obtain ⟨nl, hnl⟩ : ∃ n, (sX).L.length = n := ⟨_, rfl⟩
        have HNL := Lib.hid hnl
        obtain ⟨sq, hsq⟩ : ∃ q, (sX).st = q := ⟨_, rfl⟩
        have HSQ := Lib.hid hsq
        rw [hnl] at c0
        rw [hsq] at c3
        clear hnl hsq
        have hn1 : ((nl : Int) != (nl : Int)) = false := by simp
        have hn2 : (sq != sq) = false := by simp
        go_upto_region 26 with fail
        have hcl : ∀ (n : KLater (fun _ => False) wt) (o : Nat), n.w.cell? ⟨bq, o, none⟩ = wt.cell? ⟨bq, o, none⟩ := fun n o => n.cell bq o hbz (fun h => h)
        refine wp_region_st 16 [] (fun _ _ w' => Below wt.heap.size wt w') [] (Below.refl _ _).drew (by kernel_rfl) (by kernel_rfl) (by kernel_rfl) (by kernel_rfl) (by kernel_rfl) (by kernel_rfl) (by kernel_rfl) ?_
        simp only [List.take_succ_cons, List.take_zero, List.drop_succ_cons, List.drop_zero]
        repeat ((first | refine st_plain (O := (fun _ => False)) (fun h => .of_below h) (by rfl) (by rfl) (by rfl) (by rfl) (by rfl) ?_ | refine st_nil (O := (fun _ => False)) (fun h => .of_below h) (by rfl) (by rfl) (by rfl) (by rfl) (by rfl) (by rfl) ?_); intro K hK; go_big_quiet_op; go_big_quiet_on)
        refine st_call (f := 18) (args := #[.pointer (some p)]) (v := .int .i64 nl) (by rfl) (by rfl) (by rfl) (by rfl) (by rfl) (fun w => by simp [go_sem]) (fun j xs w' hG => ?_) ?_
        · refine (HA.out.len (HPT.out.a.later HA.out.obj hG).inv HST.out).mono ?_
          rintro e w'' ⟨he, hb⟩
          exact ⟨by rw [he, HNL.out], fbelow_t hG hb⟩
        simp only [Act.put, List.setIfInBounds_toArray, List.set_cons_succ, List.set_cons_zero]
        repeat ((first | refine st_plain (O := (fun _ => False)) (fun h => .of_below h) (by rfl) (by rfl) (by rfl) (by rfl) (by rfl) ?_ | refine st_nil (O := (fun _ => False)) (fun h => .of_below h) (by rfl) (by rfl) (by rfl) (by rfl) (by rfl) (by rfl) ?_); intro K hK; go_big_quiet_op; go_big_quiet_on)
        refine st_call (f := 19) (args := #[.pointer (some p)]) (v := .bool sq) (by rfl) (by rfl) (by rfl) (by rfl) (by rfl) (fun w => by simp [go_sem]) (fun j xs w' hG => ?_) ?_
        · refine (HA.out.stopped (HPT.out.a.later HA.out.obj hG).inv HST.out).mono ?_
          rintro e w'' ⟨he, hb⟩
          exact ⟨by rw [he, HSQ.out], fbelow_t hG hb⟩
        simp only [Act.put, List.setIfInBounds_toArray, List.set_cons_succ, List.set_cons_zero]
        repeat ((first | refine st_plain (O := (fun _ => False)) (fun h => .of_below h) (by rfl) (by rfl) (by rfl) (by rfl) (by rfl) ?_ | refine st_nil (O := (fun _ => False)) (fun h => .of_below h) (by rfl) (by rfl) (by rfl) (by rfl) (by rfl) (by rfl) ?_); intro K hK; go_big_quiet_op; go_big_quiet_on)
        intro ys xs w9 hF h9
        simp only [secFill]
        have HP9 := Lib.hid (HPT.out.later HA.out.obj isObj_bq h9)
        clear hF h9 hcl c0 c1 c2 c3
        go_wp2
        go_roundw
        case rel => exact ⟨k + 1, sX, _, _, by omega, by go_num, HST, HP9⟩
        case measure => simp [intOf]; omega
      by_cases hk1 : ok = 1
      · subst hk1
        obtain ⟨X, hX⟩ : ∃ X, s.take = X := ⟨_, rfl⟩
        have HX := Lib.hid hX
        have HSX := Lib.hid HS.out.take
        rw [hX] at HSX
        obtain ⟨sX, pX, iX⟩ := X
        simp only at HSX
        clear hX hk0
        cases iX
        · skip
          have HTK : Hid (s.tk = (pX, 6)) := Lib.hid (by unfold Bq.tk; rw [HX.out]; rfl)
          go_wp2_with fail
          refine (HA.out.take HPa.out.a.inv HS.out).mono ?_
          rintro e w2 ⟨he, O3, hi, hk9, hg⟩
          rw [HTK.out] at he
          rw [HX.out] at hi
          simp only at he hi
          subst he
          have HP2 := Lib.hid (HPa.out.stepA HA.out.obj isObj_bq hi hk9 hg)
          have HP2a := Lib.hid (HP2.out.later HA.out.obj isObj_bq ((Below.refl w2.heap.size w2).alloc (Nat.le_refl _) (.cells #[.int .i64 pX.f.i, .int .i64 pX.f.n, .int .i64 pX.f.l, .string pX.f.d, .int .i64 pX.fr, .int .i64 pX.tag, .bool pX.lp] 32)))
          have HB2 := Lib.hid (BoxP.made w2 pX)
          have HN2 : Hid (¬ O2 w2.heap.size) := Lib.hid (fun hh => by have := isObj_bq.lt HP2.out.b.inv _ hh; omega)
          clear hi hk9 hg a0 a1 a2 a3 a4 a5 a6 a7 a8
          go_wp2_with fail
          refine (xqtake_v _ HP2a.out.b.inv (congrArg Prod.snd HX.out) HS.out).mono ?_
          rintro e w3 ⟨rfl, O4, hi, hk9, hg⟩
          rw [HX.out] at hi
          simp only at hi
          have HP3 := Lib.hid (HP2a.out.stepB HA.out.obj isObj_bq hi hk9 hg)
          have HB3 := Lib.hid (HB2.out.kept hk9 HN2.out)
          have hbl := (Below.refl w3.heap.size w3).alloc (Nat.le_refl _) (.cells #[.int .i64 pX.f.i, .int .i64 pX.f.n, .int .i64 pX.f.l, .string pX.f.d, .int .i64 pX.fr, .int .i64 pX.tag, .bool pX.lp] 32)
          have HPN := Lib.hid (HP3.out.later HA.out.obj isObj_bq hbl)
          have HX1 := Lib.hid (HB3.out.later hbl)
          have HX2 := Lib.hid (BoxP.made w3 pX)
          clear hi hk9 hg hbl
          go_upto_region 14 with fail
          generalize w3.alloc _ = wt at HPN HX1 HX2 ⊢
          obtain ⟨d0, d1, d2, d3, d4, d5, d6⟩ := HX1.out.cells
          obtain ⟨e0, e1, e2, e3, e4, e5, e6⟩ := HX2.out.cells
          have ed := seq_self pX.f.d
          have HPT := HPN
          have HST := HSX
          obtain ⟨bq, vq, hv', hOq, hmq⟩ := HPT.out.b.inv
          have HBD := Lib.hid HPT.out.b.inv
          first | subst hv' | (injection hv' with hv'; injection hv' with hv'; injection hv' with hv'; have hv' := hv'.symm; subst hv')
          obtain ⟨Aq, cq, hvq⟩ := hmq.row.shape
          subst hvq
          obtain ⟨c0, c1, c2, c3⟩ := hmq.cells
          have hbz := heap_some_lt hmq.box
          clear hmq
          obtain ⟨nl, hnl⟩ : ∃ n, (sX).L.length = n := ⟨_, rfl⟩
          have HNL := Lib.hid hnl
          obtain ⟨sq, hsq⟩ : ∃ q, (sX).st = q := ⟨_, rfl⟩
          have HSQ := Lib.hid hsq
          rw [hnl] at c0
          rw [hsq] at c3
          clear hnl hsq
          have hn1 : ((nl : Int) != (nl : Int)) = false := by simp
          have hn2 : (sq != sq) = false := by simp
          go_upto_region 26 with fail
          have hcl : ∀ (n : KLater (fun _ => False) wt) (o : Nat), n.w.cell? ⟨bq, o, none⟩ = wt.cell? ⟨bq, o, none⟩ := fun n o => n.cell bq o hbz (fun h => h)
          refine wp_region_st 16 [] (fun _ _ w' => Below wt.heap.size wt w') [] (Below.refl _ _).drew (by kernel_rfl) (by kernel_rfl) (by kernel_rfl) (by kernel_rfl) (by kernel_rfl) (by kernel_rfl) (by kernel_rfl) ?_
          simp only [List.take_succ_cons, List.take_zero, List.drop_succ_cons, List.drop_zero]
          repeat ((first | refine st_plain (O := (fun _ => False)) (fun h => .of_below h) (by rfl) (by rfl) (by rfl) (by rfl) (by rfl) ?_ | refine st_nil (O := (fun _ => False)) (fun h => .of_below h) (by rfl) (by rfl) (by rfl) (by rfl) (by rfl) (by rfl) ?_); intro K hK; go_big_quiet_op; go_big_quiet_on)
          refine st_call (f := 18) (args := #[.pointer (some p)]) (v := .int .i64 nl) (by rfl) (by rfl) (by rfl) (by rfl) (by rfl) (fun w => by simp [go_sem]) (fun j xs w' hG => ?_) ?_
          · refine (HA.out.len (HPT.out.a.later HA.out.obj hG).inv HST.out).mono ?_
            rintro e w'' ⟨he, hb⟩
            exact ⟨by rw [he, HNL.out], fbelow_t hG hb⟩
          simp only [Act.put, List.setIfInBounds_toArray, List.set_cons_succ, List.set_cons_zero]
          repeat ((first | refine st_plain (O := (fun _ => False)) (fun h => .of_below h) (by rfl) (by rfl) (by rfl) (by rfl) (by rfl) ?_ | refine st_nil (O := (fun _ => False)) (fun h => .of_below h) (by rfl) (by rfl) (by rfl) (by rfl) (by rfl) (by rfl) ?_); intro K hK; go_big_quiet_op; go_big_quiet_on)
          refine st_call (f := 19) (args := #[.pointer (some p)]) (v := .bool sq) (by rfl) (by rfl) (by rfl) (by rfl) (by rfl) (fun w => by simp [go_sem]) (fun j xs w' hG => ?_) ?_
          · refine (HA.out.stopped (HPT.out.a.later HA.out.obj hG).inv HST.out).mono ?_
            rintro e w'' ⟨he, hb⟩
            exact ⟨by rw [he, HSQ.out], fbelow_t hG hb⟩
          simp only [Act.put, List.setIfInBounds_toArray, List.set_cons_succ, List.set_cons_zero]
          repeat ((first | refine st_plain (O := (fun _ => False)) (fun h => .of_below h) (by rfl) (by rfl) (by rfl) (by rfl) (by rfl) ?_ | refine st_nil (O := (fun _ => False)) (fun h => .of_below h) (by rfl) (by rfl) (by rfl) (by rfl) (by rfl) (by rfl) ?_); intro K hK; go_big_quiet_op; go_big_quiet_on)
          intro ys xs w9 hF h9
          simp only [secFill]
          have HP9 := Lib.hid (HPT.out.later HA.out.obj isObj_bq h9)
          clear hF h9 hcl c0 c1 c2 c3
          go_wp2
          go_roundw
          case rel => exact ⟨k + 1, sX, _, _, by omega, by go_num, HST, HP9⟩
          case measure => simp [intOf]; omega
        · skip
          have HTK : Hid (s.tk = (pX, 0)) := Lib.hid (by unfold Bq.tk; rw [HX.out]; rfl)
          go_wp2_with fail
          refine (HA.out.take HPa.out.a.inv HS.out).mono ?_
          rintro e w2 ⟨he, O3, hi, hk9, hg⟩
          rw [HTK.out] at he
          rw [HX.out] at hi
          simp only at he hi
          subst he
          have HP2 := Lib.hid (HPa.out.stepA HA.out.obj isObj_bq hi hk9 hg)
          have HP2a := Lib.hid (HP2.out.later HA.out.obj isObj_bq ((Below.refl w2.heap.size w2).alloc (Nat.le_refl _) (.cells #[.int .i64 pX.f.i, .int .i64 pX.f.n, .int .i64 pX.f.l, .string pX.f.d, .int .i64 pX.fr, .int .i64 pX.tag, .bool pX.lp] 32)))
          have HB2 := Lib.hid (BoxP.made w2 pX)
          have HN2 : Hid (¬ O2 w2.heap.size) := Lib.hid (fun hh => by have := isObj_bq.lt HP2.out.b.inv _ hh; omega)
          clear hi hk9 hg a0 a1 a2 a3 a4 a5 a6 a7 a8
          go_wp2_with fail
          refine (xqtake_v _ HP2a.out.b.inv (congrArg Prod.snd HX.out) HS.out).mono ?_
          rintro e w3 ⟨rfl, O4, hi, hk9, hg⟩
          rw [HX.out] at hi
          simp only at hi
          have HP3 := Lib.hid (HP2a.out.stepB HA.out.obj isObj_bq hi hk9 hg)
          have HB3 := Lib.hid (HB2.out.kept hk9 HN2.out)
          have hbl := (Below.refl w3.heap.size w3).alloc (Nat.le_refl _) (.cells #[.int .i64 pX.f.i, .int .i64 pX.f.n, .int .i64 pX.f.l, .string pX.f.d, .int .i64 pX.fr, .int .i64 pX.tag, .bool pX.lp] 32)
          have HPN := Lib.hid (HP3.out.later HA.out.obj isObj_bq hbl)
          have HX1 := Lib.hid (HB3.out.later hbl)
          have HX2 := Lib.hid (BoxP.made w3 pX)
          clear hi hk9 hg hbl
          go_upto_region 14 with fail
          generalize w3.alloc _ = wt at HPN HX1 HX2 ⊢
          obtain ⟨d0, d1, d2, d3, d4, d5, d6⟩ := HX1.out.cells
          obtain ⟨e0, e1, e2, e3, e4, e5, e6⟩ := HX2.out.cells
          have ed := seq_self pX.f.d
          have HPT := HPN
          have HST := HSX
          obtain ⟨bq, vq, hv', hOq, hmq⟩ := HPT.out.b.inv
          have HBD := Lib.hid HPT.out.b.inv
          first | subst hv' | (injection hv' with hv'; injection hv' with hv'; injection hv' with hv'; have hv' := hv'.symm; subst hv')
          obtain ⟨Aq, cq, hvq⟩ := hmq.row.shape
          subst hvq
          obtain ⟨c0, c1, c2, c3⟩ := hmq.cells
          have hbz := heap_some_lt hmq.box
          clear hmq
          obtain ⟨nl, hnl⟩ : ∃ n, (sX).L.length = n := ⟨_, rfl⟩
          have HNL := Lib.hid hnl
          obtain ⟨sq, hsq⟩ : ∃ q, (sX).st = q := ⟨_, rfl⟩
          have HSQ := Lib.hid hsq
          rw [hnl] at c0
          rw [hsq] at c3
          clear hnl hsq
          have hn1 : ((nl : Int) != (nl : Int)) = false := by simp
          have hn2 : (sq != sq) = false := by simp
          go_upto_region 26 with fail
          have hcl : ∀ (n : KLater (fun _ => False) wt) (o : Nat), n.w.cell? ⟨bq, o, none⟩ = wt.cell? ⟨bq, o, none⟩ := fun n o => n.cell bq o hbz (fun h => h)
          refine wp_region_st 16 [] (fun _ _ w' => Below wt.heap.size wt w') [] (Below.refl _ _).drew (by kernel_rfl) (by kernel_rfl) (by kernel_rfl) (by kernel_rfl) (by kernel_rfl) (by kernel_rfl) (by kernel_rfl) ?_
          simp only [List.take_succ_cons, List.take_zero, List.drop_succ_cons, List.drop_zero]
          repeat ((first | refine st_plain (O := (fun _ => False)) (fun h => .of_below h) (by rfl) (by rfl) (by rfl) (by rfl) (by rfl) ?_ | refine st_nil (O := (fun _ => False)) (fun h => .of_below h) (by rfl) (by rfl) (by rfl) (by rfl) (by rfl) (by rfl) ?_); intro K hK; go_big_quiet_op; go_big_quiet_on)
          refine st_call (f := 18) (args := #[.pointer (some p)]) (v := .int .i64 nl) (by rfl) (by rfl) (by rfl) (by rfl) (by rfl) (fun w => by simp [go_sem]) (fun j xs w' hG => ?_) ?_
          · refine (HA.out.len (HPT.out.a.later HA.out.obj hG).inv HST.out).mono ?_
            rintro e w'' ⟨he, hb⟩
            exact ⟨by rw [he, HNL.out], fbelow_t hG hb⟩
          simp only [Act.put, List.setIfInBounds_toArray, List.set_cons_succ, List.set_cons_zero]
          repeat ((first | refine st_plain (O := (fun _ => False)) (fun h => .of_below h) (by rfl) (by rfl) (by rfl) (by rfl) (by rfl) ?_ | refine st_nil (O := (fun _ => False)) (fun h => .of_below h) (by rfl) (by rfl) (by rfl) (by rfl) (by rfl) (by rfl) ?_); intro K hK; go_big_quiet_op; go_big_quiet_on)
          refine st_call (f := 19) (args := #[.pointer (some p)]) (v := .bool sq) (by rfl) (by rfl) (by rfl) (by rfl) (by rfl) (fun w => by simp [go_sem]) (fun j xs w' hG => ?_) ?_
          · refine (HA.out.stopped (HPT.out.a.later HA.out.obj hG).inv HST.out).mono ?_
            rintro e w'' ⟨he, hb⟩
            exact ⟨by rw [he, HSQ.out], fbelow_t hG hb⟩
          simp only [Act.put, List.setIfInBounds_toArray, List.set_cons_succ, List.set_cons_zero]
          repeat ((first | refine st_plain (O := (fun _ => False)) (fun h => .of_below h) (by rfl) (by rfl) (by rfl) (by rfl) (by rfl) ?_ | refine st_nil (O := (fun _ => False)) (fun h => .of_below h) (by rfl) (by rfl) (by rfl) (by rfl) (by rfl) (by rfl) ?_); intro K hK; go_big_quiet_op; go_big_quiet_on)
          intro ys xs w9 hF h9
          simp only [secFill]
          have HP9 := Lib.hid (HPT.out.later HA.out.obj isObj_bq h9)
          clear hF h9 hcl c0 c1 c2 c3
          go_wp2
          go_roundw
          case rel => exact ⟨k + 1, sX, _, _, by omega, by go_num, HST, HP9⟩
          case measure => simp [intOf]; omega
      by_cases hk2 : ok = 2
      · subst hk2
        clear hk0 hk1
        have HSX := Lib.hid (HS.out.stop true)
        go_wp2_with fail
        refine (HA.out.stop HPa.out.a.inv HS.out).mono ?_
        rintro e w2 ⟨rfl, O3, hi, hk9, hg⟩
        have HP2 := Lib.hid (HPa.out.stepA HA.out.obj isObj_bq hi hk9 hg)
        obtain ⟨bo, vo, hvo, hOo, hmo⟩ := HP2.out.b.inv
        subst hvo hOo
        obtain ⟨Ao, co, hvw⟩ := hmo.row.shape
        subst hvw
        obtain ⟨c0, c1, c2, c3⟩ := hmo.cells
        have hbz := heap_some_lt hmo.box
        have f3 := hmo.live 3
        have h1 := hmo.setStop true
        have HPN := Lib.hid (HP2.out.stepB HA.out.obj isObj_bq ⟨_, _, rfl, rfl, h1.1⟩ h1.2 (Grows.refl _ _))
        clear hi hk9 hg a0 a1 a2 a3 a4 a5 a6 a7 a8 hmo h1
        go_upto_region 26 with fail
        generalize w2.setCell _ _ = wt at HPN ⊢
        clear c0 c1 c2 c3 f3 hbz
        have HPT := HPN
        have HST := HSX
        obtain ⟨bq, vq, hv', hOq, hmq⟩ := HPT.out.b.inv
        have HBD := Lib.hid HPT.out.b.inv
        first | subst hv' | (injection hv' with hv'; injection hv' with hv'; injection hv' with hv'; have hv' := hv'.symm; subst hv')
        obtain ⟨Aq, cq, hvq⟩ := hmq.row.shape
        subst hvq
        obtain ⟨c0, c1, c2, c3⟩ := hmq.cells
        have hbz := heap_some_lt hmq.box
        clear hmq
        obtain ⟨nl, hnl⟩ : ∃ n, ({ s with st := true }).L.length = n := ⟨_, rfl⟩
        have HNL := Lib.hid hnl
        obtain ⟨sq, hsq⟩ : ∃ q, ({ s with st := true }).st = q := ⟨_, rfl⟩
        have HSQ := Lib.hid hsq
        rw [hnl] at c0
        rw [hsq] at c3
        clear hnl hsq
        have hn1 : ((nl : Int) != (nl : Int)) = false := by simp
        have hn2 : (sq != sq) = false := by simp
        go_upto_region 26 with fail
        have hcl : ∀ (n : KLater (fun _ => False) wt) (o : Nat), n.w.cell? ⟨bq, o, none⟩ = wt.cell? ⟨bq, o, none⟩ := fun n o => n.cell bq o hbz (fun h => h)
        refine wp_region_st 16 [] (fun _ _ w' => Below wt.heap.size wt w') [] (Below.refl _ _).drew (by kernel_rfl) (by kernel_rfl) (by kernel_rfl) (by kernel_rfl) (by kernel_rfl) (by kernel_rfl) (by kernel_rfl) ?_
        simp only [List.take_succ_cons, List.take_zero, List.drop_succ_cons, List.drop_zero]
        repeat ((first | refine st_plain (O := (fun _ => False)) (fun h => .of_below h) (by rfl) (by rfl) (by rfl) (by rfl) (by rfl) ?_ | refine st_nil (O := (fun _ => False)) (fun h => .of_below h) (by rfl) (by rfl) (by rfl) (by rfl) (by rfl) (by rfl) ?_); intro K hK; go_big_quiet_op; go_big_quiet_on)
        refine st_call (f := 18) (args := #[.pointer (some p)]) (v := .int .i64 nl) (by rfl) (by rfl) (by rfl) (by rfl) (by rfl) (fun w => by simp [go_sem]) (fun j xs w' hG => ?_) ?_
        · refine (HA.out.len (HPT.out.a.later HA.out.obj hG).inv HST.out).mono ?_
          rintro e w'' ⟨he, hb⟩
          exact ⟨by rw [he, HNL.out], fbelow_t hG hb⟩
        simp only [Act.put, List.setIfInBounds_toArray, List.set_cons_succ, List.set_cons_zero]
        repeat ((first | refine st_plain (O := (fun _ => False)) (fun h => .of_below h) (by rfl) (by rfl) (by rfl) (by rfl) (by rfl) ?_ | refine st_nil (O := (fun _ => False)) (fun h => .of_below h) (by rfl) (by rfl) (by rfl) (by rfl) (by rfl) (by rfl) ?_); intro K hK; go_big_quiet_op; go_big_quiet_on)
        refine st_call (f := 19) (args := #[.pointer (some p)]) (v := .bool sq) (by rfl) (by rfl) (by rfl) (by rfl) (by rfl) (fun w => by simp [go_sem]) (fun j xs w' hG => ?_) ?_
        · refine (HA.out.stopped (HPT.out.a.later HA.out.obj hG).inv HST.out).mono ?_
          rintro e w'' ⟨he, hb⟩
          exact ⟨by rw [he, HSQ.out], fbelow_t hG hb⟩
        simp only [Act.put, List.setIfInBounds_toArray, List.set_cons_succ, List.set_cons_zero]
        repeat ((first | refine st_plain (O := (fun _ => False)) (fun h => .of_below h) (by rfl) (by rfl) (by rfl) (by rfl) (by rfl) ?_ | refine st_nil (O := (fun _ => False)) (fun h => .of_below h) (by rfl) (by rfl) (by rfl) (by rfl) (by rfl) (by rfl) ?_); intro K hK; go_big_quiet_op; go_big_quiet_on)
        intro ys xs w9 hF h9
        simp only [secFill]
        have HP9 := Lib.hid (HPT.out.later HA.out.obj isObj_bq h9)
        clear hF h9 hcl c0 c1 c2 c3
        go_wp2
        go_roundw
        case rel => exact ⟨k + 1, { s with st := true }, _, _, by omega, by go_num, HST, HP9⟩
        case measure => simp [intOf]; omega
      by_cases hk3 : ok = 3
      · subst hk3
        clear hk0 hk1 hk2
        have HSX := Lib.hid (HS.out.stop false)
        go_wp2_with fail
        refine (HA.out.wake HPa.out.a.inv HS.out).mono ?_
        rintro e w2 ⟨rfl, O3, hi, hk9, hg⟩
        have HP2 := Lib.hid (HPa.out.stepA HA.out.obj isObj_bq hi hk9 hg)
        obtain ⟨bo, vo, hvo, hOo, hmo⟩ := HP2.out.b.inv
        subst hvo hOo
        obtain ⟨Ao, co, hvw⟩ := hmo.row.shape
        subst hvw
        obtain ⟨c0, c1, c2, c3⟩ := hmo.cells
        have hbz := heap_some_lt hmo.box
        have f3 := hmo.live 3
        have h1 := hmo.setStop false
        have HPN := Lib.hid (HP2.out.stepB HA.out.obj isObj_bq ⟨_, _, rfl, rfl, h1.1⟩ h1.2 (Grows.refl _ _))
        clear hi hk9 hg a0 a1 a2 a3 a4 a5 a6 a7 a8 hmo h1
        go_upto_region 26 with fail
        generalize w2.setCell _ _ = wt at HPN ⊢
        clear c0 c1 c2 c3 f3 hbz
        have HPT := HPN
        have HST := HSX
        obtain ⟨bq, vq, hv', hOq, hmq⟩ := HPT.out.b.inv
        have HBD := Lib.hid HPT.out.b.inv
        first | subst hv' | (injection hv' with hv'; injection hv' with hv'; injection hv' with hv'; have hv' := hv'.symm; subst hv')
        obtain ⟨Aq, cq, hvq⟩ := hmq.row.shape
        subst hvq
        obtain ⟨c0, c1, c2, c3⟩ := hmq.cells
        have hbz := heap_some_lt hmq.box
        clear hmq
        obtain ⟨nl, hnl⟩ : ∃ n, ({ s with st := false }).L.length = n := ⟨_, rfl⟩
        have HNL := Lib.hid hnl
        obtain ⟨sq, hsq⟩ : ∃ q, ({ s with st := false }).st = q := ⟨_, rfl⟩
        have HSQ := Lib.hid hsq
        rw [hnl] at c0
        rw [hsq] at c3
        clear hnl hsq
        have hn1 : ((nl : Int) != (nl : Int)) = false := by simp
        have hn2 : (sq != sq) = false := by simp
        go_upto_region 26 with fail
        have hcl : ∀ (n : KLater (fun _ => False) wt) (o : Nat), n.w.cell? ⟨bq, o, none⟩ = wt.cell? ⟨bq, o, none⟩ := fun n o => n.cell bq o hbz (fun h => h)
        refine wp_region_st 16 [] (fun _ _ w' => Below wt.heap.size wt w') [] (Below.refl _ _).drew (by kernel_rfl) (by kernel_rfl) (by kernel_rfl) (by kernel_rfl) (by kernel_rfl) (by kernel_rfl) (by kernel_rfl) ?_
        simp only [List.take_succ_cons, List.take_zero, List.drop_succ_cons, List.drop_zero]
        repeat ((first | refine st_plain (O := (fun _ => False)) (fun h => .of_below h) (by rfl) (by rfl) (by rfl) (by rfl) (by rfl) ?_ | refine st_nil (O := (fun _ => False)) (fun h => .of_below h) (by rfl) (by rfl) (by rfl) (by rfl) (by rfl) (by rfl) ?_); intro K hK; go_big_quiet_op; go_big_quiet_on)
        refine st_call (f := 18) (args := #[.pointer (some p)]) (v := .int .i64 nl) (by rfl) (by rfl) (by rfl) (by rfl) (by rfl) (fun w => by simp [go_sem]) (fun j xs w' hG => ?_) ?_
        · refine (HA.out.len (HPT.out.a.later HA.out.obj hG).inv HST.out).mono ?_
          rintro e w'' ⟨he, hb⟩
          exact ⟨by rw [he, HNL.out], fbelow_t hG hb⟩
        simp only [Act.put, List.setIfInBounds_toArray, List.set_cons_succ, List.set_cons_zero]
        repeat ((first | refine st_plain (O := (fun _ => False)) (fun h => .of_below h) (by rfl) (by rfl) (by rfl) (by rfl) (by rfl) ?_ | refine st_nil (O := (fun _ => False)) (fun h => .of_below h) (by rfl) (by rfl) (by rfl) (by rfl) (by rfl) (by rfl) ?_); intro K hK; go_big_quiet_op; go_big_quiet_on)
        refine st_call (f := 19) (args := #[.pointer (some p)]) (v := .bool sq) (by rfl) (by rfl) (by rfl) (by rfl) (by rfl) (fun w => by simp [go_sem]) (fun j xs w' hG => ?_) ?_
        · refine (HA.out.stopped (HPT.out.a.later HA.out.obj hG).inv HST.out).mono ?_
          rintro e w'' ⟨he, hb⟩
          exact ⟨by rw [he, HSQ.out], fbelow_t hG hb⟩
        simp only [Act.put, List.setIfInBounds_toArray, List.set_cons_succ, List.set_cons_zero]
        repeat ((first | refine st_plain (O := (fun _ => False)) (fun h => .of_below h) (by rfl) (by rfl) (by rfl) (by rfl) (by rfl) ?_ | refine st_nil (O := (fun _ => False)) (fun h => .of_below h) (by rfl) (by rfl) (by rfl) (by rfl) (by rfl) (by rfl) ?_); intro K hK; go_big_quiet_op; go_big_quiet_on)
        intro ys xs w9 hF h9
        simp only [secFill]
        have HP9 := Lib.hid (HPT.out.later HA.out.obj isObj_bq h9)
        clear hF h9 hcl c0 c1 c2 c3
        go_wp2
        go_roundw
        case rel => exact ⟨k + 1, { s with st := false }, _, _, by omega, by go_num, HST, HP9⟩
        case measure => simp [intOf]; omega
      by_cases hk4 : ok = 4
      · subst hk4
        clear hk0 hk1 hk2 hk3
        have HSX := Lib.hid HS.out.flush
        obtain ⟨bo, vo, hvo, hOo, hmo⟩ := HPa.out.b.inv
        subst hvo hOo
        obtain ⟨Ao, co, hvw⟩ := hmo.row.shape
        subst hvw
        obtain ⟨c0, c1, c2, c3⟩ := hmo.cells
        have hbz := heap_some_lt hmo.box
        have HNB : Hid (¬ O1 bo) := Lib.hid (fun hh => HPa.out.ap bo hh (.inl rfl))
        obtain ⟨nl, hnl⟩ : ∃ n, s.L.length = n := ⟨_, rfl⟩
        have HNL := Lib.hid hnl
        rw [hnl] at c0
        clear hmo
        have hn1 : ((nl : Int) != (nl : Int)) = false := by simp
        go_upto_region 23 with fail
        have hcl : ∀ (n : KLater O1 wa) (o : Nat), n.w.cell? ⟨bo, o, none⟩ = wa.cell? ⟨bo, o, none⟩ := fun n o => n.cell bo o hbz HNB.out
        refine wp_region_st 7 [1] (FlG I wa (.pointer (some p)) s O1) [] (Below.refl _ _).drew (by kernel_rfl) (by kernel_rfl) (by kernel_rfl) (by kernel_rfl) (by kernel_rfl) (by kernel_rfl) (by kernel_rfl) ?_
        simp only [List.take_succ_cons, List.take_zero, List.drop_succ_cons, List.drop_zero]
        repeat ((first | refine st_plain (O := O1) (fun h => FlG.kept h) (by rfl) (by rfl) (by rfl) (by rfl) (by rfl) ?_ | refine st_nil (O := O1) (fun h => FlG.kept h) (by rfl) (by rfl) (by rfl) (by rfl) (by rfl) (by rfl) ?_); intro K hK; go_big_quiet_op; go_big_quiet_on)
        refine st_step (f := 17) (args := #[.pointer (some p)]) (v := .int .i64 nl) 0 (by rfl) (by rfl) (by rfl) (by rfl) (by rfl) (fun w => by simp [go_sem]) (fun xs9 w9 h9 => ?_) ?_
        · have h9 : Below wa.heap.size wa w9 := h9
          refine (HA.out.flush (HPa.out.a.later HA.out.obj h9).inv HS.out).mono ?_
          rintro e w' ⟨he, O3, hi, hk9, hg⟩
          refine ⟨by rw [he, HNL.out], O3, hi, (Kept.of_below (O := O1) h9).trans hk9 (Grows.refl _ _), fun x hx => (hg x hx).imp_right (Nat.le_trans h9.size)⟩
        simp only [Act.put, List.setIfInBounds_toArray, List.set_cons_succ, List.set_cons_zero]
        repeat ((first | refine st_plain (O := O1) (fun h => FlG.kept h) (by rfl) (by rfl) (by rfl) (by rfl) (by rfl) ?_ | refine st_nil (O := O1) (fun h => FlG.kept h) (by rfl) (by rfl) (by rfl) (by rfl) (by rfl) (by rfl) ?_); intro K hK; go_big_quiet_op; go_big_quiet_on)
        intro ys xs w2 hF h9
        simp only [secFill]
        clear hF hcl c0 c1 c2 c3 hbz hnl
        obtain ⟨O3, hi, hk9, hg⟩ : ∃ O3, I w2 (.pointer (some p)) { s with L := [] } O3 ∧ Kept O1 wa w2 ∧ Grows O1 wa O3 := h9
        have HP2 := Lib.hid (HPa.out.stepA HA.out.obj isObj_bq hi hk9 hg)
        have hmp : BqD w2 (.pointer (some ⟨bo, 0, none⟩)) s (bqO bo (.slice Ao s.L.length co)) := HP2.out.b.inv
        obtain ⟨b2, v2, e2, e3, hm2⟩ := hmp
        injection e2 with e2; injection e2 with e2; injection e2 with e2
        subst e2
        obtain ⟨A2, co2, hvw⟩ := hm2.row.shape
        subst hvw
        obtain ⟨c0, c1, c2, c3⟩ := hm2.cells
        have f0 := hm2.live 0
        have hbz := heap_some_lt hm2.box
        have h1 := hm2.setRow (Below.refl _ w2) (RowQ.nil (c := onC) (k := 8) w2) (fun x hx => by cases hx)
        have HPN := Lib.hid (HP2.out.stepB HA.out.obj isObj_bq ⟨_, _, rfl, rfl, h1.1⟩ (by rw [e3]; exact h1.2.1) (by rw [e3]; exact h1.2.2))
        clear hi hk9 hg a0 a1 a2 a3 a4 a5 a6 a7 a8 hm2 h1
        go_upto_region 26 with fail
        generalize w2.setCell _ _ = wt at HPN ⊢
        clear c0 c1 c2 c3 f0 hbz
        have HPT := HPN
        have HST := HSX
        obtain ⟨bq, vq, hv', hOq, hmq⟩ := HPT.out.b.inv
        have HBD := Lib.hid HPT.out.b.inv
        first | subst hv' | (injection hv' with hv'; injection hv' with hv'; injection hv' with hv'; have hv' := hv'.symm; subst hv')
        obtain ⟨Aq, cq, hvq⟩ := hmq.row.shape
        subst hvq
        obtain ⟨c0, c1, c2, c3⟩ := hmq.cells
        have hbz := heap_some_lt hmq.box
        clear hmq
        obtain ⟨nl, hnl⟩ : ∃ n, ({ s with L := [] }).L.length = n := ⟨_, rfl⟩
        have HNL := Lib.hid hnl
        obtain ⟨sq, hsq⟩ : ∃ q, ({ s with L := [] }).st = q := ⟨_, rfl⟩
        have HSQ := Lib.hid hsq
        rw [hnl] at c0
        rw [hsq] at c3
        clear hnl hsq
        have hn1 : ((nl : Int) != (nl : Int)) = false := by simp
        have hn2 : (sq != sq) = false := by simp
        go_upto_region 26 with fail
        have hcl : ∀ (n : KLater (fun _ => False) wt) (o : Nat), n.w.cell? ⟨bq, o, none⟩ = wt.cell? ⟨bq, o, none⟩ := fun n o => n.cell bq o hbz (fun h => h)
        refine wp_region_st 16 [] (fun _ _ w' => Below wt.heap.size wt w') [] (Below.refl _ _).drew (by kernel_rfl) (by kernel_rfl) (by kernel_rfl) (by kernel_rfl) (by kernel_rfl) (by kernel_rfl) (by kernel_rfl) ?_
        simp only [List.take_succ_cons, List.take_zero, List.drop_succ_cons, List.drop_zero]
        repeat ((first | refine st_plain (O := (fun _ => False)) (fun h => .of_below h) (by rfl) (by rfl) (by rfl) (by rfl) (by rfl) ?_ | refine st_nil (O := (fun _ => False)) (fun h => .of_below h) (by rfl) (by rfl) (by rfl) (by rfl) (by rfl) (by rfl) ?_); intro K hK; go_big_quiet_op; go_big_quiet_on)
        refine st_call (f := 18) (args := #[.pointer (some p)]) (v := .int .i64 nl) (by rfl) (by rfl) (by rfl) (by rfl) (by rfl) (fun w => by simp [go_sem]) (fun j xs w' hG => ?_) ?_
        · refine (HA.out.len (HPT.out.a.later HA.out.obj hG).inv HST.out).mono ?_
          rintro e w'' ⟨he, hb⟩
          exact ⟨by rw [he, HNL.out], fbelow_t hG hb⟩
        simp only [Act.put, List.setIfInBounds_toArray, List.set_cons_succ, List.set_cons_zero]
        repeat ((first | refine st_plain (O := (fun _ => False)) (fun h => .of_below h) (by rfl) (by rfl) (by rfl) (by rfl) (by rfl) ?_ | refine st_nil (O := (fun _ => False)) (fun h => .of_below h) (by rfl) (by rfl) (by rfl) (by rfl) (by rfl) (by rfl) ?_); intro K hK; go_big_quiet_op; go_big_quiet_on)
        refine st_call (f := 19) (args := #[.pointer (some p)]) (v := .bool sq) (by rfl) (by rfl) (by rfl) (by rfl) (by rfl) (fun w => by simp [go_sem]) (fun j xs w' hG => ?_) ?_
        · refine (HA.out.stopped (HPT.out.a.later HA.out.obj hG).inv HST.out).mono ?_
          rintro e w'' ⟨he, hb⟩
          exact ⟨by rw [he, HSQ.out], fbelow_t hG hb⟩
        simp only [Act.put, List.setIfInBounds_toArray, List.set_cons_succ, List.set_cons_zero]
        repeat ((first | refine st_plain (O := (fun _ => False)) (fun h => .of_below h) (by rfl) (by rfl) (by rfl) (by rfl) (by rfl) ?_ | refine st_nil (O := (fun _ => False)) (fun h => .of_below h) (by rfl) (by rfl) (by rfl) (by rfl) (by rfl) (by rfl) ?_); intro K hK; go_big_quiet_op; go_big_quiet_on)
        intro ys xs w9 hF h9
        simp only [secFill]
        have HP9 := Lib.hid (HPT.out.later HA.out.obj isObj_bq h9)
        clear hF h9 hcl c0 c1 c2 c3
        go_wp2
        go_roundw
        case rel => exact ⟨k + 1, { s with L := [] }, _, _, by omega, by go_num, HST, HP9⟩
        case measure => simp [intOf]; omega
      have k0 : (ok == 0) = false := by simp [hk0]
      have k1 : (ok == 1) = false := by simp [hk1]
      have k2 : (ok == 2) = false := by simp [hk2]
      have k3 : (ok == 3) = false := by simp [hk3]
      have k4 : (ok == 4) = false := by simp [hk4]
      clear hk0 hk1 hk2 hk3 hk4
      generalize wa = wt at HPa a0 ⊢
      have HPT := HPa
      have HST := HS
      obtain ⟨bq, vq, hv', hOq, hmq⟩ := HPT.out.b.inv
      have HBD := Lib.hid HPT.out.b.inv
      first | subst hv' | (injection hv' with hv'; injection hv' with hv'; injection hv' with hv'; have hv' := hv'.symm; subst hv')
      obtain ⟨Aq, cq, hvq⟩ := hmq.row.shape
      subst hvq
      obtain ⟨c0, c1, c2, c3⟩ := hmq.cells
      have hbz := heap_some_lt hmq.box
      clear hmq
      obtain ⟨nl, hnl⟩ : ∃ n, (s).L.length = n := ⟨_, rfl⟩
      have HNL := Lib.hid hnl
      obtain ⟨sq, hsq⟩ : ∃ q, (s).st = q := ⟨_, rfl⟩
      have HSQ := Lib.hid hsq
      rw [hnl] at c0
      rw [hsq] at c3
      clear hnl hsq
      have hn1 : ((nl : Int) != (nl : Int)) = false := by simp
      have hn2 : (sq != sq) = false := by simp
      go_upto_region 26 with fail
      have hcl : ∀ (n : KLater (fun _ => False) wt) (o : Nat), n.w.cell? ⟨bq, o, none⟩ = wt.cell? ⟨bq, o, none⟩ := fun n o => n.cell bq o hbz (fun h => h)
      refine wp_region_st 16 [] (fun _ _ w' => Below wt.heap.size wt w') [] (Below.refl _ _).drew (by kernel_rfl) (by kernel_rfl) (by kernel_rfl) (by kernel_rfl) (by kernel_rfl) (by kernel_rfl) (by kernel_rfl) ?_
      simp only [List.take_succ_cons, List.take_zero, List.drop_succ_cons, List.drop_zero]
      repeat ((first | refine st_plain (O := (fun _ => False)) (fun h => .of_below h) (by rfl) (by rfl) (by rfl) (by rfl) (by rfl) ?_ | refine st_nil (O := (fun _ => False)) (fun h => .of_below h) (by rfl) (by rfl) (by rfl) (by rfl) (by rfl) (by rfl) ?_); intro K hK; go_big_quiet_op; go_big_quiet_on)
      refine st_call (f := 18) (args := #[.pointer (some p)]) (v := .int .i64 nl) (by rfl) (by rfl) (by rfl) (by rfl) (by rfl) (fun w => by simp [go_sem]) (fun j xs w' hG => ?_) ?_
      · refine (HA.out.len (HPT.out.a.later HA.out.obj hG).inv HST.out).mono ?_
        rintro e w'' ⟨he, hb⟩
        exact ⟨by rw [he, HNL.out], fbelow_t hG hb⟩
      simp only [Act.put, List.setIfInBounds_toArray, List.set_cons_succ, List.set_cons_zero]
      repeat ((first | refine st_plain (O := (fun _ => False)) (fun h => .of_below h) (by rfl) (by rfl) (by rfl) (by rfl) (by rfl) ?_ | refine st_nil (O := (fun _ => False)) (fun h => .of_below h) (by rfl) (by rfl) (by rfl) (by rfl) (by rfl) (by rfl) ?_); intro K hK; go_big_quiet_op; go_big_quiet_on)
      refine st_call (f := 19) (args := #[.pointer (some p)]) (v := .bool sq) (by rfl) (by rfl) (by rfl) (by rfl) (by rfl) (fun w => by simp [go_sem]) (fun j xs w' hG => ?_) ?_
      · refine (HA.out.stopped (HPT.out.a.later HA.out.obj hG).inv HST.out).mono ?_
        rintro e w'' ⟨he, hb⟩
        exact ⟨by rw [he, HSQ.out], fbelow_t hG hb⟩
      simp only [Act.put, List.setIfInBounds_toArray, List.set_cons_succ, List.set_cons_zero]
      repeat ((first | refine st_plain (O := (fun _ => False)) (fun h => .of_below h) (by rfl) (by rfl) (by rfl) (by rfl) (by rfl) ?_ | refine st_nil (O := (fun _ => False)) (fun h => .of_below h) (by rfl) (by rfl) (by rfl) (by rfl) (by rfl) (by rfl) ?_); intro K hK; go_big_quiet_op; go_big_quiet_on)
      intro ys xs w9 hF h9
      simp only [secFill]
      have HP9 := Lib.hid (HPT.out.later HA.out.obj isObj_bq h9)
      clear hF h9 hcl c0 c1 c2 c3
      go_wp2
      go_roundw
      case rel => exact ⟨k + 1, s, _, _, by omega, by go_num, HST, HP9⟩
      case measure => simp [intOf]; omega
    · obtain rfl : k = L.length := by omega
      have HML : Hid (s.all.length ≤ maxLen) := Lib.hid (by
        unfold Bq.all maxLen
        have h1 := s.allTo_len s.bands.toNat
        have h2 := HS.out.bands
        have h3 := HS.out.room
        have h4 := HS.out.len
        have h5 : s.bands.toNat * s.L.length ≤ 1000 * 1000 := Nat.mul_le_mul (by omega) (by omega)
        omega)
      go_wp2_with fail
      refine (HA.out.all HP.out.a.inv HS.out).mono ?_
      rintro e w3 ⟨u, rfl, ⟨hu, _⟩, hb⟩
      have HU := Lib.hid hu.sl
      have HP3 := Lib.hid (HP.out.later HA.out.obj isObj_bq hb)
      clear hu hb
      go_wp2_with fail
      refine (xqall_v _ HP3.out.b.inv HS.out).mono ?_
      rintro e w4 ⟨u', rfl, hq, hb, _⟩
      have HU4 := Lib.hid (HU.out.later hb)
      have HQ4 := Lib.hid (hq.sl pkC_len HML.out)
      have HB4 := Lib.hid (fbelow_t HP3.out.a.below hb)
      clear hq hb
      go_wp2_with fail
      refine (pksame_t _ HU4.out HQ4.out).mono ?_
      rintro e w5 ⟨rfl, n5, rfl⟩
      have HB5 := Lib.hid (below_drewN HB4.out n5)
      go_wp2_with fail
      refine (bandalive HA.out _).mono ?_
      rintro e w6 ⟨rfl, hb⟩
      have HB6 := Lib.hid (fbelow_t HB5.out hb)
      clear hb
      go_wp2
      go_ret
      exact ⟨rfl, HB6.out⟩
end Go.Proofs.Ytpljlpfoalcfmaa
