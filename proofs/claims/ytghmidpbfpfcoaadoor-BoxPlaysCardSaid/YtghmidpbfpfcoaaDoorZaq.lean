/- Box: walk of BoxPlays. -/
import Derived.Test.YtghmidpbfpfcoaaDoorZap
import Derived.Test.YtghmidpbfpfcoaaDoorZag
namespace Go.Proofs.YtghmidpbfpfcoaaDoor
open Go.RowKit
set_option linter.unusedVariables false

theorem wf_i64x {n : Int} (h : (Lit.int .i64 n).wf = true) : -9223372036854775808 ≤ n ∧ n ≤ 9223372036854775807 := by
  simpa [Lit.wf, show IntKind.i64.min = -9223372036854775808 from rfl] using h
def op9Of : List Value → Op9
  | [.int _ k, .int _ m, .int _ i, .int _ n, .int _ l, .string d, .int _ fr, .int _ t, .bool lp] => ⟨k, m, ⟨⟨i, n, l, d⟩, fr, t, lp⟩⟩
  | _ => ⟨0, 0, pk0⟩
abbrev op9Sh : List Sh := [.int .i64, .int .i64, .int .i64, .int .i64, .int .i64, .str, .int .i64, .int .i64, .bool]
theorem op9Of_c (l : List Value) (h : FitsAll op9Sh l) : opC9 (op9Of l) = l := by
  obtain ⟨v0, l0, rfl, ⟨a0, rfl, _⟩, h0⟩ := FitsAll.cons h
  obtain ⟨v1, l1, rfl, ⟨a1, rfl, _⟩, h1⟩ := FitsAll.cons h0
  obtain ⟨v2, l2, rfl, ⟨a2, rfl, _⟩, h2⟩ := FitsAll.cons h1
  obtain ⟨v3, l3, rfl, ⟨a3, rfl, _⟩, h3⟩ := FitsAll.cons h2
  obtain ⟨v4, l4, rfl, ⟨a4, rfl, _⟩, h4⟩ := FitsAll.cons h3
  obtain ⟨v5, l5, rfl, ⟨a5, rfl, _⟩, h5⟩ := FitsAll.cons h4
  obtain ⟨v6, l6, rfl, ⟨a6, rfl, _⟩, h6⟩ := FitsAll.cons h5
  obtain ⟨v7, l7, rfl, ⟨a7, rfl, _⟩, h7⟩ := FitsAll.cons h6
  obtain ⟨v8, l8, rfl, ⟨a8, rfl⟩, h8⟩ := FitsAll.cons h7
  obtain rfl := FitsAll.nil h8
  rfl
theorem op9_fits {o : Op9} (h : FitsAll op9Sh (opC9 o)) : o.p.ok := by
  obtain ⟨⟨a0, e0, h0⟩, ⟨a1, e1, h1⟩, ⟨a2, e2, h2⟩, ⟨a3, e3, h3⟩, _⟩ := h
  injection e3 with _ e3
  have h4 := wf_i64x h3
  unfold Pk.ok
  omega
theorem fxB_len {L : List Op9} (h : fxB L = true) : L.length ≤ 400 := by
  unfold fxB at h
  simp only [Bool.and_eq_true, decide_eq_true_eq] at h
  exact h.1
theorem BxM.slS {w : World} {b gs gp : Nat} {vo ve : Value} {s : Bx} (h : BxM w b gs gp vo ve s) (hl : s.S.length ≤ 1000) : SlG inC 1 w w.heap.size (.slice (some ⟨gs, 0, none⟩) s.S.length s.S.length) s.S := by
  refine ⟨_, _, rfl, by unfold maxLen; omega, fun i a ha => ⟨_, rfl, heap_some_lt h.st, fun j u hu => ?_⟩⟩
  rw [qaddr]
  match j, hu with
  | 0, hu =>
    simp [inC] at hu
    subst hu
    simpa using (h.state ha).1
/-- in the midst of the last region -/
def StG (W : World) (S : List Int) (j : Nat) (xs : Tmp → Option Value) (w : World) : Prop := Below W.heap.size W w ∧ ∀ u, xs 30 = some u → SlG inC 1 w w.heap.size u S
theorem StG.later {W w w' : World} {S : List Int} {j : Nat} {xs : Tmp → Option Value} (h : StG W S j xs w) (hb : Below w.heap.size w w') : StG W S j xs w' := ⟨fbelow_t h.1 hb, fun u hu => (h.2 u hu).later hb⟩
set_option maxHeartbeats 8000000 in
theorem boxPlays_walk {T : World → Prop} {I : World → Value → Bx → (Nat → Prop) → Prop} (A : BoxI T I) (many : Int) (a : Option Addr) (len cap : Nat) (F : Nat → List Value) (w : World) (wn : (Lit.int .i64 many).wf = true) (hr : IsRowOf w op9Sh a len cap F) (hT : T w) :
    Calls Tryd.prog 3 #[.int .i64 many, .slice a len cap] w fun e w' => e = .returned (.bool true) ∧ Below w.heap.size w w' := by
  obtain ⟨L, hL, hlen, hf⟩ := slice_of_row hr op9Of op9Of_c rfl (by decide)
  have HA := Lib.hid A
  have HT := Lib.hid hT
  have HV := Lib.hid hL
  have HX : Hid (∀ o ∈ L, o.p.ok) := Lib.hid (fun o h => op9_fits (hf o h))
  subst hlen
  clear A hT hL hr hf wn
  obtain ⟨q, hq⟩ : ∃ q, fxB L = q := ⟨_, rfl⟩
  have HQ := Lib.hid hq
  clear hq
  go_enter Tryd.func3, Tryd.ntmps3
  go_wp2_with fail
  refine (fx_any w HV.out).mono ?_
  rintro e w' ⟨he, rfl⟩
  rw [HQ.out] at he
  subst he
  cases q
  · go_wp2_with fail
    refine (boxalive HA.out _ HT.out).mono ?_
    rintro e w1 ⟨rfl, hb⟩
    go_wp2
    go_ret
    exact ⟨rfl, hb⟩
  have hl4 := fxB_len HQ.out
  go_wp2_with fail
  refine (HA.out.new many _).mono ?_
  rintro e w1 ⟨v, O, rfl, hi, hb, hn⟩
  obtain ⟨p, rfl⟩ := HA.out.ptr hi
  have H0 : Hid (Has I w (.pointer (some p)) (bxNew (boxesN many)) O w1) := Lib.hid ⟨hi, hb, hn⟩
  clear hi hb hn
  go_wp2_with fail
  refine (xnew_v _).mono ?_
  rintro e w2 ⟨v', O', rfl, hi, hb, hn⟩
  have HP : Hid (Pair I BxD w (.pointer (some p)) v' (bxNew (boxesN many)) (bxNew (boxesN many)) O O' w2) :=
    Lib.hid ⟨H0.out.later HA.out.obj hb, ⟨hi, fbelow_t H0.out.below hb, fun k hk => Nat.le_trans H0.out.below.size (hn k hk)⟩, fun k h1 h2 => by have := HA.out.obj.lt H0.out.inv k h1; have := hn k h2; omega⟩
  have HOK := Lib.hid (Bx.Ok.new many)
  clear hi hb hn
  go_wp2_with fail
  go_loopw [19] (fun i wr => ∃ (k : Nat) (s : Bx) (O O' : Nat → Prop), k ≤ L.length ∧ i = .int .i64 k ∧ Hid s.Ok ∧ Hid (Pair I BxD w (.pointer (some p)) v' s s O O' wr)) (fun i _ => L.length - (intOf i).toNat)
  case atStart => exact ⟨0, _, O, O', by omega, rfl, HOK, HP⟩
  case round =>
    obtain ⟨k, s, O1, O2, hk, rfl, HS, HP⟩ := hrel
    by_cases hlt : k < L.length
    · have hkl : (k : Int) < (L.length : Int) := by omega
      obtain ⟨x, c1, hv1, hxb, hcell⟩ := SlG.at_ (HV.out.later HP.out.a.below) hlt
      injection hv1 with hAA _ hcap
      subst hAA hcap
      have a0 : wr.cell? (x.add (k * 9)) = some (.int .i64 (L[k]'hlt).k) := hcell 0 _ rfl
      have a1 : wr.cell? ⟨(x.add (k * 9)).block, (x.add (k * 9)).off + 1, none⟩ = some (.int .i64 (L[k]'hlt).b) := hcell 1 _ rfl
      have a2 : wr.cell? ⟨(x.add (k * 9)).block, (x.add (k * 9)).off + 2, none⟩ = some (.int .i64 (L[k]'hlt).p.f.i) := hcell 2 _ rfl
      have a3 : wr.cell? ⟨(x.add (k * 9)).block, (x.add (k * 9)).off + 3, none⟩ = some (.int .i64 (L[k]'hlt).p.f.n) := hcell 3 _ rfl
      have a4 : wr.cell? ⟨(x.add (k * 9)).block, (x.add (k * 9)).off + 4, none⟩ = some (.int .i64 (L[k]'hlt).p.f.l) := hcell 4 _ rfl
      have a5 : wr.cell? ⟨(x.add (k * 9)).block, (x.add (k * 9)).off + 5, none⟩ = some (.string (L[k]'hlt).p.f.d) := hcell 5 _ rfl
      have a6 : wr.cell? ⟨(x.add (k * 9)).block, (x.add (k * 9)).off + 6, none⟩ = some (.int .i64 (L[k]'hlt).p.fr) := hcell 6 _ rfl
      have a7 : wr.cell? ⟨(x.add (k * 9)).block, (x.add (k * 9)).off + 7, none⟩ = some (.int .i64 (L[k]'hlt).p.tag) := hcell 7 _ rfl
      have a8 : wr.cell? ⟨(x.add (k * 9)).block, (x.add (k * 9)).off + 8, none⟩ = some (.bool (L[k]'hlt).p.lp) := hcell 8 _ rfl
      have HFX := Lib.hid (HX.out _ (List.getElem_mem hlt))
      generalize L[k]'hlt = o at a0 a1 a2 a3 a4 a5 a6 a7 a8 HFX
      clear hcell hxb
      go_wp2_with fail
      have HPa := Lib.hid (HP.out.later HA.out.obj isObj_box ((Below.refl wr.heap.size wr).alloc (Nat.le_refl _) (.cells #[.int .i64 o.k, .int .i64 o.b, .int .i64 o.p.f.i, .int .i64 o.p.f.n, .int .i64 o.p.f.l, .string o.p.f.d, .int .i64 o.p.fr, .int .i64 o.p.tag, .bool o.p.lp] 34)))
      refine (do_any9 (o := o) HA.out HPa.out HS.out HT.out HFX.out).mono ?_
      rintro e w5 ⟨O3, O4, rfl, hp, _⟩
      have HP5 := Lib.hid hp
      have HS5 := Lib.hid (HS.out.doOp o)
      clear hp a0 a1 a2 a3 a4 a5 a6 a7 a8
      go_wp2
      go_roundw
      case rel => exact ⟨k + 1, s.doOp o, O3, O4, by omega, by go_num, HS5, HP5⟩
      case measure => simp [intOf]; omega
    · obtain rfl : k = L.length := by omega
      obtain ⟨b, gs, gp, vo, ve, hv', hO2, hm⟩ := HP.out.b.inv
      have HM := Lib.hid hm
      obtain ⟨c0, c1, c2, c3⟩ := hm.cells
      have hbz := heap_some_lt hm.box
      have HVB := Lib.hid hv'
      have HBD := Lib.hid HP.out.b.inv
      subst hv'
      clear hm
      go_upto_region 10 with fail
      have hcl : ∀ (n : KLater (fun _ => False) wr) (o : Nat), n.w.cell? ⟨b, o, none⟩ = wr.cell? ⟨b, o, none⟩ := fun n o => n.cell b o hbz (fun h => h)
      refine wp_region_st 16 [] (StG wr s.S) [30] ⟨(Below.refl _ _).drew, fun u h => by cases h⟩ (by kernel_rfl) (by kernel_rfl) (by kernel_rfl) (by kernel_rfl) (by kernel_rfl) (by kernel_rfl) (by kernel_rfl) ?_
      simp only [List.take_succ_cons, List.take_zero, List.drop_succ_cons, List.drop_zero]
      repeat (refine st_plain (O := fun _ => False) (fun h => .of_below h.1) (by rfl) (by rfl) (by rfl) (by rfl) (by rfl) ?_; intro K hK; go_big_quiet_op; go_big_quiet_on)
      refine st_callF (f := 12) (args := #[.pointer (some p)]) (by rfl) (by rfl) (by rfl) (by rfl) (by rfl) (by rfl) (fun w => by simp [go_sem]) (fun j xs w' hG => ?_) ?_
      · refine (HA.out.states (HP.out.a.later HA.out.obj hG.1).inv HS.out).mono ?_
        rintro e w'' ⟨u, he, ⟨hu, _⟩, hb⟩
        refine ⟨u, he, fbelow_t hG.1 hb, fun y hy => ?_⟩
        simp at hy
        subst hy
        exact hu.sl
      simp only [Act.put, List.setIfInBounds_toArray, List.set_cons_succ, List.set_cons_zero]
      repeat (refine st_plain (O := fun _ => False) (fun h => .of_below h.1) (by rfl) (by rfl) (by rfl) (by rfl) (by rfl) ?_; intro K hK; go_big_quiet_op; go_big_quiet_on)
      refine st_nil (O := fun _ => False) (fun h => .of_below h.1) (by rfl) (by rfl) (by rfl) (by rfl) (by rfl) (by rfl) ?_; intro K hK; go_big_quiet_op; go_big_quiet_on
      repeat (refine st_plain (O := fun _ => False) (fun h => .of_below h.1) (by rfl) (by rfl) (by rfl) (by rfl) (by rfl) ?_; intro K hK; go_big_quiet_op; go_big_quiet_on)
      refine st_callR (v := .bool true) (by rfl) (by rfl) (by rfl) (fun j xs a w' hG hlk => ?_) ?_
      · have h30 := hlk 30 (by decide)
        have h34 := hlk 34 (by decide)
        rw [if_pos (by decide)] at h30
        rw [if_neg (by decide)] at h34
        refine ⟨11, #[a.tmps.getD 30 undef, a.tmps.getD 34 undef], by simp [go_sem], ?_⟩
        rw [h34]
        refine (sints_v (L := s.S) (L' := s.S) (q := true) (decide_eq_true rfl) w' (hG.2 _ h30) ((HM.out.later hG.1).slS HS.out.n2)).mono ?_
        rintro e w'' ⟨rfl, n, rfl⟩
        exact ⟨rfl, hG.later (below_drewN (Below.refl _ _) _)⟩
      simp only [Act.put, List.setIfInBounds_toArray, List.set_cons_succ, List.set_cons_zero]
      repeat (refine st_plain (O := fun _ => False) (fun h => .of_below h.1) (by rfl) (by rfl) (by rfl) (by rfl) (by rfl) ?_; intro K hK; go_big_quiet_op; go_big_quiet_on)
      refine st_call (f := 13) (args := #[.pointer (some p)]) (v := .int .i64 (s.free s.S.length : Nat)) (by rfl) (by rfl) (by rfl) (by rfl) (by rfl) (fun w => by simp [go_sem]) (fun j xs w' hG => ?_) ?_
      · refine (HA.out.free (HP.out.a.later HA.out.obj hG.1).inv HS.out).mono ?_
        rintro e w'' ⟨he, hb⟩
        exact ⟨he, hG.later hb⟩
      simp only [Act.put, List.setIfInBounds_toArray, List.set_cons_succ, List.set_cons_zero]
      repeat (refine st_plain (O := fun _ => False) (fun h => .of_below h.1) (by rfl) (by rfl) (by rfl) (by rfl) (by rfl) ?_; intro K hK; go_big_quiet_op; go_big_quiet_on)
      refine st_call (f := 14) (args := #[.pointer (some ⟨b, 0, none⟩)]) (v := .int .i64 (s.free s.S.length : Nat)) (by rfl) (by rfl) (by rfl) (by rfl) (by rfl) (fun w => by simp [go_sem]) (fun j xs w' hG => ?_) ?_
      · refine (xfree_v w' ⟨b, gs, gp, vo, ve, rfl, rfl, HM.out.later hG.1⟩ HS.out.n2).mono ?_
        rintro e w'' ⟨he, rfl⟩
        exact ⟨he, hG⟩
      simp only [Act.put, List.setIfInBounds_toArray, List.set_cons_succ, List.set_cons_zero]
      repeat (refine st_plain (O := fun _ => False) (fun h => .of_below h.1) (by rfl) (by rfl) (by rfl) (by rfl) (by rfl) ?_; intro K hK; go_big_quiet_op; go_big_quiet_on)
      refine st_call (f := 7) (args := #[]) (v := .bool true) (by rfl) (by rfl) (by rfl) (by rfl) (by rfl) (fun w => by simp [go_sem]) (fun j xs w' hG => ?_) ?_
      · refine (boxalive HA.out w' (HA.out.tab HT.out (fbelow_t HP.out.a.below hG.1))).mono ?_
        rintro e w'' ⟨he, hb⟩
        exact ⟨he, hG.later hb⟩
      simp only [Act.put, List.setIfInBounds_toArray, List.set_cons_succ, List.set_cons_zero]
      intro ys xs w9 hF h9
      simp only [secFill]
      have H9 := Lib.hid (fbelow_t HP.out.a.below h9.1)
      clear hF h9 hcl
      go_wp2
      go_ret
      exact ⟨rfl, H9.out⟩
end Go.Proofs.YtghmidpbfpfcoaaDoor
