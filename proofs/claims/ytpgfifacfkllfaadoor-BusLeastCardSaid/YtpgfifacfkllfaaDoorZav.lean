/- Bus: walk of BusPlays. -/
import Derived.Test.YtpgfifacfkllfaaDoorZau
namespace Go.Proofs.YtpgfifacfkllfaaDoor
open Go.RowKit
set_option linter.unusedVariables false

theorem wf_i64 {n : Int} (h : (Lit.int .i64 n).wf = true) : -9223372036854775808 ≤ n ∧ n ≤ 9223372036854775807 := by
  simpa [Lit.wf, show IntKind.i64.min = -9223372036854775808 from rfl] using h
def op6Of : List Value → Op6
  | [.int _ k, .int _ m, .int _ i, .int _ n, .int _ l, .string d] => ⟨k, m, ⟨i, n, l, d⟩⟩
  | _ => ⟨0, 0, frz⟩
abbrev op6Sh : List Sh := [.int .i64, .int .i64, .int .i64, .int .i64, .int .i64, .str]
theorem op6Of_c (l : List Value) (h : FitsAll op6Sh l) : opC (op6Of l) = l := by
  obtain ⟨v0, l0, rfl, ⟨a0, rfl, _⟩, h0⟩ := FitsAll.cons h
  obtain ⟨v1, l1, rfl, ⟨a1, rfl, _⟩, h1⟩ := FitsAll.cons h0
  obtain ⟨v2, l2, rfl, ⟨a2, rfl, _⟩, h2⟩ := FitsAll.cons h1
  obtain ⟨v3, l3, rfl, ⟨a3, rfl, _⟩, h3⟩ := FitsAll.cons h2
  obtain ⟨v4, l4, rfl, ⟨a4, rfl, _⟩, h4⟩ := FitsAll.cons h3
  obtain ⟨v5, l5, rfl, ⟨a5, rfl, _⟩, h5⟩ := FitsAll.cons h4
  obtain rfl := FitsAll.nil h5
  rfl
def Op6.fits (o : Op6) : Prop := -9223372036854775808 ≤ o.f.n ∧ o.f.n ≤ 9223372036854775807
theorem op6_fits {o : Op6} (h : FitsAll op6Sh (opC o)) : o.fits := by
  obtain ⟨⟨a0, e0, h0⟩, ⟨a1, e1, h1⟩, ⟨a2, e2, h2⟩, ⟨a3, e3, h3⟩, _⟩ := h
  injection e3 with _ e3
  have h4 := wf_i64 h3
  unfold Op6.fits
  omega
theorem foB_len {L : List Op6} (h : foB L = true) : L.length ≤ 400 := by
  unfold foB at h
  simp only [Bool.and_eq_true, decide_eq_true_eq] at h
  exact h.1
set_option maxHeartbeats 8000000 in
theorem busPlays_walk {T : World → Prop} {I : World → Value → Bs → (Nat → Prop) → Prop} (A : BusI T I) (nodes back : Int) (a : Option Addr) (len cap : Nat) (F : Nat → List Value) (w : World) (wn : (Lit.int .i64 nodes).wf = true) (wb : (Lit.int .i64 back).wf = true) (hr : IsRowOf w op6Sh a len cap F) (hT : T w) :
    Calls Tryd.prog 3 #[.int .i64 nodes, .int .i64 back, .slice a len cap] w fun e w' => e = .returned (.bool true) ∧ Below w.heap.size w w' := by
  obtain ⟨L, hL, hlen, hf⟩ := slice_of_row hr op6Of op6Of_c rfl (by decide)
  have HA := Lib.hid A
  have HT := Lib.hid hT
  have HV := Lib.hid hL
  have HX : Hid (∀ o ∈ L, o.fits) := Lib.hid (fun o h => op6_fits (hf o h))
  have HBK : Hid (-9223372036854775808 ≤ back ∧ back ≤ 9223372036854775807) := Lib.hid (wf_i64 wb)
  subst hlen
  clear A hT hL hr hf wn wb
  obtain ⟨q, hq⟩ : ∃ q, foB L = q := ⟨_, rfl⟩
  have HQ := Lib.hid hq
  clear hq
  go_enter Tryd.func3, Tryd.ntmps3
  go_wp2_with fail
  refine (fo_any w HV.out).mono ?_
  rintro e w' ⟨he, rfl⟩
  rw [HQ.out] at he
  subst he
  cases q
  · go_wp2_with fail
    refine (busalive HA.out _ HT.out).mono ?_
    rintro e w1 ⟨rfl, hb⟩
    go_wp2
    go_ret
    exact ⟨rfl, hb⟩
  have hl4 := foB_len HQ.out
  go_wp2_with fail
  refine (HA.out.new nodes back _ HBK.out HT.out).mono ?_
  rintro e w1 ⟨v, O, rfl, hi, hb, hn⟩
  obtain ⟨p, rfl⟩ := HA.out.ptr hi
  have H0 : Hid (Has I w (.pointer (some p)) (bsNew (nodesN nodes) back) O w1) := Lib.hid ⟨hi, hb, hn⟩
  clear hi hb hn
  go_wp2_with fail
  refine (bnew_v _).mono ?_
  rintro e w2 ⟨v', O', rfl, hi, hb, hn⟩
  have HP : Hid (Pair I BusD w (.pointer (some p)) v' (bsNew (nodesN nodes) back) (bsNew (nodesN nodes) back) O O' w2) :=
    Lib.hid ⟨H0.out.later HA.out.obj hb, ⟨hi, fbelow_t H0.out.below hb, fun k hk => Nat.le_trans H0.out.below.size (hn k hk)⟩, fun k h1 h2 => by have := HA.out.obj.lt H0.out.inv k h1; have := hn k h2; omega⟩
  have HOK := Lib.hid (Bs.Ok.new nodes back HBK.out)
  clear hi hb hn
  go_wp2_with fail
  go_loopw [25] (fun i wr => ∃ (k : Nat) (s : Bs) (O O' : Nat → Prop), k ≤ L.length ∧ i = .int .i64 k ∧ s.sl ≤ k ∧ Hid s.Ok ∧ Hid (Pair I BusD w (.pointer (some p)) v' s s O O' wr)) (fun i _ => L.length - (intOf i).toNat)
  case atStart => exact ⟨0, _, O, O', by omega, rfl, Int.le_refl _, HOK, HP⟩
  case round =>
    obtain ⟨k, s, O1, O2, hk, rfl, hsl, HS, HP⟩ := hrel
    by_cases hlt : k < L.length
    · have hkl : (k : Int) < (L.length : Int) := by omega
      obtain ⟨x, c1, hv1, hxb, hcell⟩ := SlG.at_ (HV.out.later HP.out.a.below) hlt
      injection hv1 with hAA _ hcap
      subst hAA hcap
      have a0 : wr.cell? (x.add (k * 6)) = some (.int .i64 (L[k]'hlt).k) := hcell 0 _ rfl
      have a1 : wr.cell? ⟨(x.add (k * 6)).block, (x.add (k * 6)).off + 1, none⟩ = some (.int .i64 (L[k]'hlt).m) := hcell 1 _ rfl
      have a2 : wr.cell? ⟨(x.add (k * 6)).block, (x.add (k * 6)).off + 2, none⟩ = some (.int .i64 (L[k]'hlt).f.i) := hcell 2 _ rfl
      have a3 : wr.cell? ⟨(x.add (k * 6)).block, (x.add (k * 6)).off + 3, none⟩ = some (.int .i64 (L[k]'hlt).f.n) := hcell 3 _ rfl
      have a4 : wr.cell? ⟨(x.add (k * 6)).block, (x.add (k * 6)).off + 4, none⟩ = some (.int .i64 (L[k]'hlt).f.l) := hcell 4 _ rfl
      have a5 : wr.cell? ⟨(x.add (k * 6)).block, (x.add (k * 6)).off + 5, none⟩ = some (.string (L[k]'hlt).f.d) := hcell 5 _ rfl
      have HFX := Lib.hid (HX.out _ (List.getElem_mem hlt))
      generalize L[k]'hlt = o at a0 a1 a2 a3 a4 a5 HFX
      clear hcell hxb
      go_wp2_with fail
      have HPa := Lib.hid (HP.out.later HA.out.obj isObj_bus ((Below.refl wr.heap.size wr).alloc (Nat.le_refl _) (.cells #[.int .i64 o.k, .int .i64 o.m, .int .i64 o.f.i, .int .i64 o.f.n, .int .i64 o.f.l, .string o.f.d] 32)))
      refine (do_any (o := o) HA.out HPa.out HS.out HS.out (by omega) (by omega) HT.out HFX.out).mono ?_
      rintro e w5 ⟨q, O3, O4, rfl, hq, hp, _⟩
      obtain rfl := hq rfl
      have HP5 := Lib.hid hp
      have hsl2 := (s.sl_doOp o).1
      have HS5 := Lib.hid (HS.out.doOp o)
      clear hp hq a0 a1 a2 a3 a4 a5
      go_wp2
      go_roundw
      case rel => exact ⟨k + 1, s.doOp o, O3, O4, by omega, by go_num, by omega, HS5, HP5⟩
      case measure => simp [intOf]; omega
    · obtain rfl : k = L.length := by omega
      go_wp2_with fail
      refine (bsame_v HA.out HP.out HS.out).mono ?_
      rintro e w5 ⟨rfl, hb5⟩
      have HB5 := Lib.hid (fbelow_t HP.out.a.below hb5)
      clear hb5
      go_wp2_with fail
      refine (busalive HA.out _ (HA.out.tab HT.out HB5.out)).mono ?_
      rintro e w6 ⟨rfl, hb6⟩
      go_wp2
      go_ret
      exact ⟨rfl, fbelow_t HB5.out hb6⟩
end Go.Proofs.YtpgfifacfkllfaaDoor
