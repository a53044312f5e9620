/- Ctrl: walk of CtrlHears. Printed by gen_hears.py. -/
import Derived.Test.YtmmcjmejcngajaaDoorZaz
namespace Go.Proofs.YtmmcjmejcngajaaDoor
open Go.RowKit
set_option linter.unusedVariables false

def frOc : List Value → Fr
  | [.int _ i, .int _ n, .int _ l, .string d] => ⟨i, n, l, d⟩
  | _ => frz
abbrev frSc : List Sh := [.int .i64, .int .i64, .int .i64, .str]
theorem frOc_c (l : List Value) (h : FitsAll frSc l) : frC (frOc l) = l := by
  obtain ⟨v0, l0, rfl, ⟨a0, rfl, _⟩, h0⟩ := FitsAll.cons h
  obtain ⟨v1, l1, rfl, ⟨a1, rfl, _⟩, h1⟩ := FitsAll.cons h0
  obtain ⟨v2, l2, rfl, ⟨a2, rfl, _⟩, h2⟩ := FitsAll.cons h1
  obtain ⟨v3, l3, rfl, ⟨a3, rfl, _⟩, h3⟩ := FitsAll.cons h2
  obtain rfl := FitsAll.nil h3
  rfl
theorem frc_fits {f : Fr} (h : FitsAll frSc (frC f)) : f.n64 := by
  obtain ⟨⟨a0, e0, h0⟩, ⟨a1, e1, h1⟩, _⟩ := h
  injection e1 with _ e1
  have h4 := wf_i64c h1
  unfold Fr.n64
  omega
set_option maxRecDepth 8000 in
set_option maxHeartbeats 32000000 in
theorem ctrlHears_walk {T : World → Prop} {I : World → Value → Ct → (Nat → Prop) → Prop} (A : CtrlI T I) (c : Cg) (F0 : Nat → List Value) (a : Option Addr) (len cap : Nat) (F : Nat → List Value) (fetch : Int) (w : World) (hr0 : IsRowOf w cfSh c.A c.n c.cp F0) (hr : IsRowOf w frSc a len cap F) (wf : (Lit.int .i64 fetch).wf = true) (hT : T w) :
    Calls Tryd.prog 3 #[cgV c, .slice a len cap, .int .i64 fetch] w fun e w' => e = .returned (.bool true) ∧ Below w.heap.size w w' := by
  obtain ⟨LA, hLA, hlenA, hfA⟩ := slice_of_row hr0 cfOf cfOf_c rfl (by decide)
  obtain ⟨L, hL, hlen, hf⟩ := slice_of_row hr frOc frOc_c rfl (by decide)
  have HA := Lib.hid A
  have HT := Lib.hid hT
  subst hlen
  obtain ⟨w1, e1⟩ : ∃ w1, w.alloc (cgO c) = w1 := ⟨_, rfl⟩
  have hb1 : Below w.heap.size w w1 := by rw [← e1]; exact (Below.refl _ _).alloc (Nat.le_refl _) _
  have HB1 := Lib.hid hb1
  have hx1 : w1.heap[w.heap.size]? = some (.cells #[.int .i64 c.bo, .int .i64 c.fi, .int .i64 c.ba, .int .i64 c.de, .int .i64 c.qu, .int .i64 c.no, .int .i64 c.re, .slice c.A c.n c.cp] 24 (0, 0)) := by rw [← e1]; unfold World.alloc; simp
  have HXC := Lib.hid hx1
  have HVA : Hid (SlG flC 3 w1 w1.heap.size c.va LA) := Lib.hid (hLA.later hb1)
  have HV : Hid (SlG frC 4 w1 w1.heap.size (.slice a L.length cap) L) := Lib.hid (hL.later hb1)
  have HFA : Hid (∀ x ∈ LA, x.fits) := Lib.hid (fun x h => cf_fits (hfA x h))
  have HX : Hid (∀ o ∈ L, o.n64) := Lib.hid (fun o h => frc_fits (hf o h))
  have HCL : Hid (c.n = LA.length) := Lib.hid hlenA.symm
  have hcm : (c.n : Int) ≤ 9223372036854775807 := by obtain ⟨A1, c1, hv, hm, _⟩ := hLA; injection hv with _ h2 _; unfold maxLen at hm; omega
  have hm : (L.length : Int) ≤ 9223372036854775807 := by obtain ⟨A1, c1, hv, hm, _⟩ := hL; unfold maxLen at hm; omega
  clear A hT hL hr hf hLA hr0 hfA hb1 hx1 hlenA wf
  go_enter Tryd.func3, Tryd.ntmps3
  go_wp2_with fail
  go_loop [7, 8] (fun n i => ∃ k : Nat, k ≤ L.length ∧ k ≤ 201 ∧ i = .int .i64 k ∧ n = .int .i64 (fhN L k)) (fun _ i => L.length - (intOf i).toNat)
  case atStart => exact ⟨0, by omega, by omega, rfl, rfl⟩
  case round =>
    obtain ⟨k, hk, hk41, rfl, rfl⟩ := hrel
    have hN := fhN_le L k
    have HN : (fhN L k : Int) ≤ 1005000 := by omega
    clear hN
    by_cases hlt : k < L.length ∧ k ≤ 200
    · obtain ⟨h1, h2⟩ := hlt
      obtain ⟨x, cap', hv, hxb, hcell⟩ := HV.out.at_ h1
      injection hv with hA hn hc
      subst hA hc
      have hc3 : w1.cell? ⟨(x.add (k * 4)).block, (x.add (k * 4)).off + 3, none⟩ = some (.string (L[k]'h1).d) := hcell 3 _ rfl
      have hk1 : (k : Int) < (L.length : Int) := by omega
      have hk2 : (k : Int) ≤ 200 := by omega
      have hsucc := Lib.hid (fhN_succ L k h1)
      have hmin := fh_min (L[k]'h1).d.size
      have h5 := fh5_le (L[k]'h1)
      have h6 : ((fh5 (L[k]'h1) : Nat) : Int) ≤ 5000 := by omega
      have hmn : min ((L[k]'h1).d.size : Int) 5000 = ((fh5 (L[k]'h1) : Nat) : Int) := hmin
      clear hcell hmin h5 hxb
      generalize fh5 (L[k]'h1) = m at hsucc h6 hmn
      generalize (L[k]'h1).d = d at hc3 hmn
      go_wp2
      exact ⟨⟨k + 1, by omega, by omega, by go_num, by rw [hsucc.out]; go_num⟩, by simp [intOf]; omega⟩
    · generalize fhN L k = n at HN
      have hex : ¬ ((k : Int) < (L.length : Int) ∧ (k : Int) ≤ 200) := by omega
      have d7 : w1.cell? ⟨w.heap.size, 7, none⟩ = some (.slice c.A c.n c.cp) := by rw [Lib.cell_of_heap HXC.out]; rfl
      have HOUT : Hid (∀ w', Below w1.heap.size w1 w' → Below w.heap.size w w') := Lib.hid (fun w' h => fbelow_t HB1.out h)
      clear hex
      by_cases hb1 : 200 < L.length
      · obtain rfl : k = 201 := by omega
        have hb2 : ¬ (201 : Int) ≤ 200 := by omega
        have hb3 : (200 : Int) < (L.length : Int) := by omega
        have ha2 : (201 : Int) < (L.length : Int) ∨ ¬ (201 : Int) < (L.length : Int) := by omega
        clear hlt hk hk41 hb1 HN
        rcases ha2 with ha2 | ha2
        · go_wp2_with fail
          refine (ctrlalive HA.out _ (HA.out.tab HT.out HB1.out)).mono ?_
          rintro e w3 ⟨rfl, hb⟩
          have HBo := Lib.hid (HOUT.out _ hb)
          clear hb
          go_wp2
          go_ret
          exact ⟨rfl, HBo.out⟩
        · go_wp2_with fail
          refine (ctrlalive HA.out _ (HA.out.tab HT.out HB1.out)).mono ?_
          rintro e w3 ⟨rfl, hb⟩
          have HBo := Lib.hid (HOUT.out _ hb)
          clear hb
          go_wp2
          go_ret
          exact ⟨rfl, HBo.out⟩
      · obtain rfl : k = L.length := by omega
        have hb2 : ¬ (200 : Int) < (L.length : Int) := by omega
        have hll : (L.length : Int) ≤ 200 := by omega
        clear hlt hk41 hk
        by_cases hn5 : 5000 < n
        · have hn6 : (5000 : Int) < (n : Int) := by omega
          clear hb1
          go_wp2_with fail
          refine (ctrlalive HA.out _ (HA.out.tab HT.out HB1.out)).mono ?_
          rintro e w3 ⟨rfl, hb⟩
          have HBo := Lib.hid (HOUT.out _ hb)
          clear hb
          go_wp2
          go_ret
          exact ⟨rfl, HBo.out⟩
        have hn6 : ¬ (5000 : Int) < (n : Int) := by omega
        by_cases hc5 : 50 < c.n
        · have hc6 : (50 : Int) < (c.n : Int) := by omega
          clear hb1 hn5
          go_wp2_with fail
          refine (ctrlalive HA.out _ (HA.out.tab HT.out HB1.out)).mono ?_
          rintro e w3 ⟨rfl, hb⟩
          have HBo := Lib.hid (HOUT.out _ hb)
          clear hb
          go_wp2
          go_ret
          exact ⟨rfl, HBo.out⟩
        have hc6 : ¬ (50 : Int) < (c.n : Int) := by omega
        by_cases hf0 : fetch < 0
        · have hf1 : decide (fetch < 0) = true := decide_eq_true hf0
          clear hb1 hn5 hc5
          go_wp2_with fail
          refine (ctrlalive HA.out _ (HA.out.tab HT.out HB1.out)).mono ?_
          rintro e w3 ⟨rfl, hb⟩
          have HBo := Lib.hid (HOUT.out _ hb)
          clear hb
          go_wp2
          go_ret
          exact ⟨rfl, HBo.out⟩
        by_cases hf3 : 3 < fetch
        · have hf1 : decide (fetch < 0) = false := decide_eq_false hf0
          have hf4 : decide (3 < fetch) = true := decide_eq_true hf3
          clear hb1 hn5 hc5 hf0
          go_wp2_with fail
          refine (ctrlalive HA.out _ (HA.out.tab HT.out HB1.out)).mono ?_
          rintro e w3 ⟨rfl, hb⟩
          have HBo := Lib.hid (HOUT.out _ hb)
          clear hb
          go_wp2
          go_ret
          exact ⟨rfl, HBo.out⟩
        obtain ⟨fe, rfl⟩ := Int.eq_ofNat_of_zero_le (Int.not_lt.1 hf0)
        have hfe : fe ≤ 3 := by omega
        have hf1 : decide ((fe : Int) < 0) = false := decide_eq_false hf0
        have hf4 : decide (3 < (fe : Int)) = false := decide_eq_false hf3
        clear hb1 hn5 hc5 hf0 hf3
        have d := fun j => Lib.cell_of_heap HXC.out j
        have d0 := d 0
        have d1 := d 1
        have d2 := d 2
        have d3 := d 3
        have d4 := d 4
        have d5 := d 5
        have d6 := d 6
        simp at d0 d1 d2 d3 d4 d5 d6
        go_wp2_with fail
        refine (HA.out.new c LA _ (HA.out.tab HT.out HB1.out) HVA.out HFA.out (by omega)).mono ?_
        rintro e w2 ⟨v, O, rfl, hi, hb, hn⟩
        obtain ⟨pv, rfl⟩ := HA.out.ptr hi
        have HS2 : Hid (HrS I w1 (.pointer (some pv)) (ctNew c LA) O (.slice none 0 0) (.slice none 0 0) [] [] w2) := Lib.hid ⟨⟨hi, hb, hn⟩, RowQ.nil _, RowQ.nil _, nofun, nofun, nofun, nofun, nofun⟩
        have HP2 : Hid (HrP (ctNew c LA) [] [] 0 0 ∧ (ctNew c LA).va = c.va ∧ (ctNew c LA).acc = LA) := Lib.hid ⟨⟨Ct.Ok.new c LA, rfl, rfl, by show (0 : Nat) ≤ 0 ∧ (0 : Int) ≤ 0; omega⟩, rfl, rfl⟩
        clear hi hb hn d d0 d1 d2 d3 d4 d5 d6 d7 hn6 hc6
        go_wp2_with fail
        go_loopw [10, 11, 12, 65] (fun vi vo t i wr => ∃ (k : Nat) (s : Ct) (O : Nat → Prop) (A1 B1 : List Fr) (tt : Int), k ≤ L.length ∧ i = .int .i64 k ∧ t = .int .i64 tt ∧ Hid (HrP s A1 B1 tt k ∧ s.va = c.va ∧ s.acc = LA) ∧ Hid (HrS I w1 (.pointer (some pv)) s O vi vo A1 B1 wr)) (fun _ _ _ i _ => L.length - (intOf i).toNat)
        case atStart => exact ⟨0, _, O, [], [], 0, by omega, rfl, rfl, HP2, HS2⟩
        case round =>
          obtain ⟨k, s, O1, A1, B1, tt, hk, rfl, rfl, HP, HS⟩ := hrel
          clear HS2 HP2
          by_cases hlt : k < L.length
          · have hkl : (k : Int) < (L.length : Int) := by omega
            obtain ⟨x, c1, hv1, hxb, hcell⟩ := SlG.at_ (HV.out.later HS.out.has.below) hlt
            injection hv1 with hAA _ hcap
            subst hAA hcap
            have a0 : wr.cell? (x.add (k * 4)) = some (.int .i64 (L[k]'hlt).i) := hcell 0 _ rfl
            have a1 : wr.cell? ⟨(x.add (k * 4)).block, (x.add (k * 4)).off + 1, none⟩ = some (.int .i64 (L[k]'hlt).n) := hcell 1 _ rfl
            have a2 : wr.cell? ⟨(x.add (k * 4)).block, (x.add (k * 4)).off + 2, none⟩ = some (.int .i64 (L[k]'hlt).l) := hcell 2 _ rfl
            have a3 : wr.cell? ⟨(x.add (k * 4)).block, (x.add (k * 4)).off + 3, none⟩ = some (.string (L[k]'hlt).d) := hcell 3 _ rfl
            have HFX := Lib.hid (HX.out _ (List.getElem_mem hlt))
            generalize L[k]'hlt = f at a0 a1 a2 a3 HFX
            have HZ0 := Lib.hid (HrZ.made HA.out.obj HS.out f)
            have htr : tt ≤ 400 ∧ 0 ≤ tt := by have h1 := HP.out.1.t; have h2 := HP.out.1.l; have h3 := HP.out.1.ok.ls; omega
            obtain ⟨htr, htr0⟩ := htr
            clear hcell hxb
            go_wp2_with fail
            obtain ⟨wo, hwo⟩ : ∃ wo, wr.alloc (.cells #[.int .i64 f.i, .int .i64 f.n, .int .i64 f.l, .string f.d] 27) = wo := ⟨_, rfl⟩
            rw [hwo] at HZ0 ⊢
            clear hwo a0 a1 a2 a3
            generalize wr.heap.size = z at HZ0 ⊢
            clear HS
            go_loopw [11, 70] (fun vo' j wi => ∃ (m : Nat) (s2 : Ct) (O2 : Nat → Prop) (B2 : List Fr), m ≤ fe ∧ j = .int .i64 m ∧ Hid (HrP s2 A1 B2 tt k ∧ s2.va = c.va ∧ s2.acc = LA) ∧ Hid (HrZ I w1 (.pointer (some pv)) s2 O2 u10 vo' A1 B2 z f wi)) (fun _ j _ => fe - (intOf j).toNat)
            case atStart => exact ⟨0, s, O1, B1, Nat.zero_le _, rfl, HP, HZ0⟩
            case round =>
              obtain ⟨m, s2, O2, B2, hm2, rfl, HPm, HZm⟩ := hrel
              clear HZ0 HP
              by_cases hmf : m < fe
              · have hmi : (m : Int) < (fe : Int) := by omega
                cases hf : s2.fifo with
                | nil =>
                  have HF := Lib.hid (HPm.out.1.fetch0 hf)
                  clear hf
                  go_wp2_with fail
                  refine (HA.out.fetch HZm.out.h.has.inv HPm.out.1.ok).mono ?_
                  rintro e w5 ⟨he, O5, hi5, hk5, hg5⟩
                  rw [HF.out] at he hi5
                  replace he : e = .returned (.tuple #[.agg #[.int .i64 0, .int .i64 0, .int .i64 0, .string (ByteArray.mk #[])], .int .i64 6]) := he
                  replace hi5 : I w5 (.pointer (some pv)) s2 O5 := hi5
                  subst he
                  have HZ5 := Lib.hid ((HZm.out.call HA.out.obj hi5 hk5 hg5).later HA.out.obj ((Below.refl w5.heap.size w5).alloc (Nat.le_refl _) (.cells #[.int .i64 0, .int .i64 0, .int .i64 0, .string (ByteArray.mk #[])] 27)))
                  clear hi5 hk5 hg5
                  go_wp2_with fail
                  go_roundw
                  case rel => exact ⟨m + 1, s2, O5, B2, by omega, by go_num, HPm, HZ5⟩
                  case measure => simp [intOf]; omega
                | cons h r =>
                  have hF1 := HPm.out.1.fetch1 hf
                  have HF := Lib.hid hF1.1
                  have HP5 : Hid (HrP { s2 with fifo := r } A1 (B2 ++ [h]) tt k ∧ s2.va = c.va ∧ s2.acc = LA) := Lib.hid ⟨hF1.2, HPm.out.2⟩
                  have HLB : Hid (B2.length ≤ 1000) := Lib.hid (by have h1 := HPm.out.1.q; have h2 := HPm.out.1.l; have h3 := congrArg List.length h1; simp at h3; omega)
                  clear hf hF1
                  go_wp2_with fail
                  refine (HA.out.fetch HZm.out.h.has.inv HPm.out.1.ok).mono ?_
                  rintro e w5 ⟨he, O5, hi5, hk5, hg5⟩
                  rw [HF.out] at he hi5
                  replace he : e = .returned (.tuple #[.agg #[.int .i64 h.i, .int .i64 h.n, .int .i64 h.l, .string h.d], .int .i64 0]) := he
                  replace hi5 : I w5 (.pointer (some pv)) { s2 with fifo := r } O5 := hi5
                  subst he
                  have HZ5 := Lib.hid (((HZm.out.call HA.out.obj hi5 hk5 hg5).later HA.out.obj ((Below.refl w5.heap.size w5).alloc (Nat.le_refl _) (.cells #[.int .i64 h.i, .int .i64 h.n, .int .i64 h.l, .string h.d] 27))).later HA.out.obj ((Below.refl _ (w5.alloc (.cells #[.int .i64 h.i, .int .i64 h.n, .int .i64 h.l, .string h.d] 27))).alloc (Nat.le_refl _) (.cells #[.int .i64 h.i, .int .i64 h.n, .int .i64 h.l, .string h.d] 27)))
                  have hz5 : (w5.alloc (.cells #[.int .i64 h.i, .int .i64 h.n, .int .i64 h.l, .string h.d] 27)).heap.size = w5.heap.size + 1 := by simp
                  have HRD : Hid (RdA frC 4 ((w5.alloc (.cells #[.int .i64 h.i, .int .i64 h.n, .int .i64 h.l, .string h.d] 27)).alloc (.cells #[.int .i64 h.i, .int .i64 h.n, .int .i64 h.l, .string h.d] 27)) (.slice (some ⟨w5.heap.size + 1, 0, none⟩) 1 1) [h]) := Lib.hid (RdA.one frC_len _ _ _ hz5 rfl)
                  clear hi5 hk5 hg5 hz5
                  go_wp2_with (at_builtin; refine wpList_qO (c := frC) (L := B2) (M := [h]) flat_fr frC_len frC_one rfl (.tmp 79) (.tmp 81) rfl (by rfl) HZ5.out.h.ro (by rfl) HRD.out (by have := HLB.out; simp; omega) ?_; rintro v6 w6 hq6 hk6 hg6; have HZ6 := Lib.hid (HZ5.out.pushO HA.out.obj hq6 hk6 hg6); clear hq6 hk6 hg6)
                  go_roundw
                  case rel => exact ⟨m + 1, _, O5, B2 ++ [h], by omega, by go_num, HP5, HZ6⟩
                  case measure => simp [intOf]; omega
              · obtain rfl : m = fe := by omega
                obtain ⟨wi, rfl⟩ : ∃ wi : World, wi = wr := ⟨_, rfl⟩
                obtain ⟨vn, hvn, hvl⟩ := word_nat f.i f.n f.l f.d.size
                have HVN := Lib.hid hvn
                have HVL := Lib.hid hvl
                obtain ⟨q, hq⟩ : ∃ q, keyG f = q := ⟨_, rfl⟩
                have HQ : Hid (keyV f.i f.n f.l f.d.size = q) := Lib.hid hq
                obtain ⟨d0, d1, d2, d3⟩ := HZm.out.bz.cells
                clear hmf hm2 hvn hvl
                go_wp2_with fail
                refine (rkey_v HQ.out _).mono ?_
                rintro e w6 ⟨rfl, hb⟩
                have HZ6 := Lib.hid (HZm.out.later HA.out.obj hb)
                clear hb d0 d1 d2 d3
                by_cases h1 : q < 0
                · have hd : decide (0 ≤ q) = false := decide_eq_false (by omega)
                  have HLT : Hid (letF LA f = false) := Lib.hid (by unfold letF; rw [hq, decide_eq_true h1]; rfl)
                  clear h1 hq
                  obtain ⟨d0, d1, d2, d3⟩ := HZ6.out.bz.cells
                  have hno := HPm.out.1.no (f := f) (by rw [HPm.out.2.2]; exact HLT.out)
                  have HRS := Lib.hid hno.1
                  have HP8 := Lib.hid (And.intro hno.2 HPm.out.2)
                  clear hno
                  go_wp2_with fail
                  refine (HA.out.hear f HZ6.out.h.has.inv HPm.out.1.ok (by have := HPm.out.1.l; omega) (HA.out.tab HT.out (HOUT.out _ HZ6.out.h.has.below)) HFX.out ⟨by rw [HPm.out.2.1, HPm.out.2.2]; exact slA_old HVA.out HZ6.out.h.has.below HZ6.out.h.has.new, by rw [HPm.out.2.2]; exact HFA.out⟩).mono ?_
                  rintro e w8 ⟨he, O8, hi8, hk8, hg8⟩
                  rw [HRS.out] at he hi8
                  replace he : e = .returned (.bool false) := he
                  replace hi8 : I w8 (.pointer (some pv)) s2 O8 := hi8
                  subst he
                  have HZ8 := Lib.hid (HZ6.out.call HA.out.obj hi8 hk8 hg8)
                  clear hi8 hk8 hg8 d0 d1 d2 d3
                  have HR8 := Lib.hid HZ8.out.h
                  go_wp2_with fail
                  go_roundw
                  case rel => exact ⟨k + 1, _, O8, A1, _, _, by omega, by go_num, rfl, HP8, HR8⟩
                  case measure => simp [intOf]; omega

                have hd : decide (0 ≤ q) = true := decide_eq_true (by omega)
                have d7 : w6.cell? ⟨w.heap.size, 7, none⟩ = some (.slice c.A c.n c.cp) := by rw [Lib.cell_of_heap ((HZ6.out.h.has.below.block w.heap.size (heap_some_lt HXC.out)).trans HXC.out)]; rfl
                by_cases h2 : LA.length = 0
                · have HLT : Hid (letF LA f = true) := Lib.hid (by unfold letF; rw [hq, decide_eq_false h1, decide_eq_true h2]; rfl)
                  rw [HCL.out, h2] at d7
                  clear h1 hq h2
                  obtain ⟨d0, d1, d2, d3⟩ := HZ6.out.bz.cells
                  by_cases hfu : (s2.fifo.length : Int) = s2.room
                  · obtain ⟨s8, hrs, hva8, hac8, hp8⟩ := HPm.out.1.full (f := f) (by rw [HPm.out.2.2]; exact HLT.out) hfu
                    have HRS := Lib.hid hrs
                    have HP8 : Hid (HrP s8 A1 B2 (tt + 1) (k + 1) ∧ s8.va = c.va ∧ s8.acc = LA) := Lib.hid ⟨hp8, hva8.trans HPm.out.2.1, hac8.trans HPm.out.2.2⟩
                    clear hrs hva8 hac8 hp8 hfu
                    go_wp2_with fail
                    refine (HA.out.hear f HZ6.out.h.has.inv HPm.out.1.ok (by have := HPm.out.1.l; omega) (HA.out.tab HT.out (HOUT.out _ HZ6.out.h.has.below)) HFX.out ⟨by rw [HPm.out.2.1, HPm.out.2.2]; exact slA_old HVA.out HZ6.out.h.has.below HZ6.out.h.has.new, by rw [HPm.out.2.2]; exact HFA.out⟩).mono ?_
                    rintro e w8 ⟨he, O8, hi8, hk8, hg8⟩
                    rw [HRS.out] at he hi8
                    replace he : e = .returned (.bool false) := he
                    replace hi8 : I w8 (.pointer (some pv)) s8 O8 := hi8
                    subst he
                    have HZ8 := Lib.hid (HZ6.out.call HA.out.obj hi8 hk8 hg8)
                    clear hi8 hk8 hg8 d0 d1 d2 d3

                    have HR8 := Lib.hid HZ8.out.h
                    go_wp2_with fail
                    go_roundw
                    case rel => exact ⟨k + 1, _, O8, A1, _, _, by omega, by go_num, rfl, HP8, HR8⟩
                    case measure => simp [intOf]; omega

                  · obtain ⟨s8, hrs, hva8, hac8, hp8⟩ := HPm.out.1.into (f := f) (by rw [HPm.out.2.2]; exact HLT.out) hfu
                    have HRS := Lib.hid hrs
                    have HP8 : Hid (HrP s8 (A1 ++ [f]) B2 (tt + 1) (k + 1) ∧ s8.va = c.va ∧ s8.acc = LA) := Lib.hid ⟨hp8, hva8.trans HPm.out.2.1, hac8.trans HPm.out.2.2⟩
                    clear hrs hva8 hac8 hp8 hfu
                    go_wp2_with fail
                    refine (HA.out.hear f HZ6.out.h.has.inv HPm.out.1.ok (by have := HPm.out.1.l; omega) (HA.out.tab HT.out (HOUT.out _ HZ6.out.h.has.below)) HFX.out ⟨by rw [HPm.out.2.1, HPm.out.2.2]; exact slA_old HVA.out HZ6.out.h.has.below HZ6.out.h.has.new, by rw [HPm.out.2.2]; exact HFA.out⟩).mono ?_
                    rintro e w8 ⟨he, O8, hi8, hk8, hg8⟩
                    rw [HRS.out] at he hi8
                    replace he : e = .returned (.bool true) := he
                    replace hi8 : I w8 (.pointer (some pv)) s8 O8 := hi8
                    subst he
                    have HZ8 := Lib.hid (HZ6.out.call HA.out.obj hi8 hk8 hg8)
                    clear hi8 hk8 hg8 d0 d1 d2 d3

                    obtain ⟨d0, d1, d2, d3⟩ := HZ8.out.bz.cells
                    have HR9 := Lib.hid (HZ8.out.h.later HA.out.obj ((Below.refl w8.heap.size w8).alloc (Nat.le_refl _) (.cells #[.int .i64 f.i, .int .i64 f.n, .int .i64 f.l, .string f.d] 27)))
                    have HRD : Hid (RdA frC 4 (w8.alloc (.cells #[.int .i64 f.i, .int .i64 f.n, .int .i64 f.l, .string f.d] 27)) (.slice (some ⟨w8.heap.size, 0, none⟩) 1 1) [f]) := Lib.hid (RdA.one frC_len _ _ _ rfl rfl)
                    have HLN : Hid (A1.length ≤ 1000) := Lib.hid (by have := HPm.out.1.l; omega)
                    go_wp2_with (at_builtin; refine wpList_qO (c := frC) (L := A1) (M := [f]) flat_fr frC_len frC_one rfl (.tmp 104) (.tmp 106) rfl (by rfl) HR9.out.ri (by rfl) HRD.out (by have := HLN.out; simp; omega) ?_; rintro v9 w9 hq9 hk9 hg9; have HR10 := Lib.hid (HR9.out.pushI HA.out.obj hq9 hk9 hg9); clear hq9 hk9 hg9)
                    go_roundw
                    case rel => exact ⟨k + 1, _, O8, (A1 ++ [f]), _, _, by omega, by go_num, rfl, HP8, HR10⟩
                    case measure => simp [intOf]; omega

                · obtain ⟨cc, hc⟩ : ∃ cc, carB f.i f.n f.l f.d.size = cc := ⟨_, rfl⟩
                  obtain ⟨r, hr⟩ : ∃ r, anyB cc LA false vn = r := ⟨_, rfl⟩
                  have HLT : Hid (letF LA f = r) := Lib.hid (by unfold letF; rw [hq, decide_eq_false h1, decide_eq_false h2, HVN.out, Int.toNat_natCast, hc, hr]; rfl)
                  have HC := Lib.hid hc
                  have HR := Lib.hid hr
                  have hcz : ((c.n : Int) == 0) = false := by rw [HCL.out]; simp only [beq_eq_false_iff_ne]; omega
                  obtain ⟨d0, d1, d2, d3⟩ := HZ6.out.bz.cells
                  clear h1 hq h2 hc hr
                  go_wp2_with fail
                  refine (rany_v cc HC.out HVN.out HVL.out HR.out HFA.out _ (HVA.out.later HZ6.out.h.has.below)).mono ?_
                  rintro e w7 ⟨rfl, hb⟩
                  have HZ7 := Lib.hid (HZ6.out.later HA.out.obj hb)
                  clear hb d0 d1 d2 d3 d7
                  cases r
                  · obtain ⟨d0, d1, d2, d3⟩ := HZ7.out.bz.cells
                    have hno := HPm.out.1.no (f := f) (by rw [HPm.out.2.2]; exact HLT.out)
                    have HRS := Lib.hid hno.1
                    have HP8 := Lib.hid (And.intro hno.2 HPm.out.2)
                    clear hno
                    go_wp2_with fail
                    refine (HA.out.hear f HZ7.out.h.has.inv HPm.out.1.ok (by have := HPm.out.1.l; omega) (HA.out.tab HT.out (HOUT.out _ HZ7.out.h.has.below)) HFX.out ⟨by rw [HPm.out.2.1, HPm.out.2.2]; exact slA_old HVA.out HZ7.out.h.has.below HZ7.out.h.has.new, by rw [HPm.out.2.2]; exact HFA.out⟩).mono ?_
                    rintro e w8 ⟨he, O8, hi8, hk8, hg8⟩
                    rw [HRS.out] at he hi8
                    replace he : e = .returned (.bool false) := he
                    replace hi8 : I w8 (.pointer (some pv)) s2 O8 := hi8
                    subst he
                    have HZ8 := Lib.hid (HZ7.out.call HA.out.obj hi8 hk8 hg8)
                    clear hi8 hk8 hg8 d0 d1 d2 d3
                    have HR8 := Lib.hid HZ8.out.h
                    go_wp2_with fail
                    go_roundw
                    case rel => exact ⟨k + 1, _, O8, A1, _, _, by omega, by go_num, rfl, HP8, HR8⟩
                    case measure => simp [intOf]; omega

                  · obtain ⟨d0, d1, d2, d3⟩ := HZ7.out.bz.cells
                    by_cases hfu : (s2.fifo.length : Int) = s2.room
                    · obtain ⟨s8, hrs, hva8, hac8, hp8⟩ := HPm.out.1.full (f := f) (by rw [HPm.out.2.2]; exact HLT.out) hfu
                      have HRS := Lib.hid hrs
                      have HP8 : Hid (HrP s8 A1 B2 (tt + 1) (k + 1) ∧ s8.va = c.va ∧ s8.acc = LA) := Lib.hid ⟨hp8, hva8.trans HPm.out.2.1, hac8.trans HPm.out.2.2⟩
                      clear hrs hva8 hac8 hp8 hfu
                      go_wp2_with fail
                      refine (HA.out.hear f HZ7.out.h.has.inv HPm.out.1.ok (by have := HPm.out.1.l; omega) (HA.out.tab HT.out (HOUT.out _ HZ7.out.h.has.below)) HFX.out ⟨by rw [HPm.out.2.1, HPm.out.2.2]; exact slA_old HVA.out HZ7.out.h.has.below HZ7.out.h.has.new, by rw [HPm.out.2.2]; exact HFA.out⟩).mono ?_
                      rintro e w8 ⟨he, O8, hi8, hk8, hg8⟩
                      rw [HRS.out] at he hi8
                      replace he : e = .returned (.bool false) := he
                      replace hi8 : I w8 (.pointer (some pv)) s8 O8 := hi8
                      subst he
                      have HZ8 := Lib.hid (HZ7.out.call HA.out.obj hi8 hk8 hg8)
                      clear hi8 hk8 hg8 d0 d1 d2 d3

                      have HR8 := Lib.hid HZ8.out.h
                      go_wp2_with fail
                      go_roundw
                      case rel => exact ⟨k + 1, _, O8, A1, _, _, by omega, by go_num, rfl, HP8, HR8⟩
                      case measure => simp [intOf]; omega

                    · obtain ⟨s8, hrs, hva8, hac8, hp8⟩ := HPm.out.1.into (f := f) (by rw [HPm.out.2.2]; exact HLT.out) hfu
                      have HRS := Lib.hid hrs
                      have HP8 : Hid (HrP s8 (A1 ++ [f]) B2 (tt + 1) (k + 1) ∧ s8.va = c.va ∧ s8.acc = LA) := Lib.hid ⟨hp8, hva8.trans HPm.out.2.1, hac8.trans HPm.out.2.2⟩
                      clear hrs hva8 hac8 hp8 hfu
                      go_wp2_with fail
                      refine (HA.out.hear f HZ7.out.h.has.inv HPm.out.1.ok (by have := HPm.out.1.l; omega) (HA.out.tab HT.out (HOUT.out _ HZ7.out.h.has.below)) HFX.out ⟨by rw [HPm.out.2.1, HPm.out.2.2]; exact slA_old HVA.out HZ7.out.h.has.below HZ7.out.h.has.new, by rw [HPm.out.2.2]; exact HFA.out⟩).mono ?_
                      rintro e w8 ⟨he, O8, hi8, hk8, hg8⟩
                      rw [HRS.out] at he hi8
                      replace he : e = .returned (.bool true) := he
                      replace hi8 : I w8 (.pointer (some pv)) s8 O8 := hi8
                      subst he
                      have HZ8 := Lib.hid (HZ7.out.call HA.out.obj hi8 hk8 hg8)
                      clear hi8 hk8 hg8 d0 d1 d2 d3

                      obtain ⟨d0, d1, d2, d3⟩ := HZ8.out.bz.cells
                      have HR9 := Lib.hid (HZ8.out.h.later HA.out.obj ((Below.refl w8.heap.size w8).alloc (Nat.le_refl _) (.cells #[.int .i64 f.i, .int .i64 f.n, .int .i64 f.l, .string f.d] 27)))
                      have HRD : Hid (RdA frC 4 (w8.alloc (.cells #[.int .i64 f.i, .int .i64 f.n, .int .i64 f.l, .string f.d] 27)) (.slice (some ⟨w8.heap.size, 0, none⟩) 1 1) [f]) := Lib.hid (RdA.one frC_len _ _ _ rfl rfl)
                      have HLN : Hid (A1.length ≤ 1000) := Lib.hid (by have := HPm.out.1.l; omega)
                      go_wp2_with (at_builtin; refine wpList_qO (c := frC) (L := A1) (M := [f]) flat_fr frC_len frC_one rfl (.tmp 104) (.tmp 106) rfl (by rfl) HR9.out.ri (by rfl) HRD.out (by have := HLN.out; simp; omega) ?_; rintro v9 w9 hq9 hk9 hg9; have HR10 := Lib.hid (HR9.out.pushI HA.out.obj hq9 hk9 hg9); clear hq9 hk9 hg9)
                      go_roundw
                      case rel => exact ⟨k + 1, _, O8, (A1 ++ [f]), _, _, by omega, by go_num, rfl, HP8, HR10⟩
                      case measure => simp [intOf]; omega

          · obtain rfl : k = L.length := by omega
            obtain ⟨A5, c5, hsh⟩ := HS.out.ri.shape
            obtain ⟨A6, c6, hsh2⟩ := HS.out.ro.shape
            subst hsh
            subst hsh2
            have htr : tt ≤ 400 ∧ 0 ≤ tt ∧ (A1.length : Int) ≤ 200 ∧ s.lost ≤ 200 ∧ 0 ≤ s.lost ∧ (A1.length : Int) - (B1.length : Int) = (s.fifo.length : Int) := by
              have h1 := HP.out.1.t; have h2 := HP.out.1.l; have h3 := HP.out.1.ok.ls; have h4 := congrArg List.length HP.out.1.q; rw [List.length_append] at h4; omega
            obtain ⟨htr, htr0, htr1, htr2, htr3, e2⟩ := htr
            have e1 : (A1.length : Int) + s.lost = tt := HP.out.1.t.symm
            have hkf : (s.fifo.length : Int) ≤ 1000 := by omega
            go_wp2_with fail
            refine (HA.out.kept HS.out.has.inv HP.out.1.ok).mono ?_
            rintro e w3 ⟨rfl, hb⟩
            have HS3 := Lib.hid (HS.out.later HA.out.obj hb)
            clear hb
            go_wp2_with fail
            refine (HA.out.lost HS3.out.has.inv HP.out.1.ok).mono ?_
            rintro e w4 ⟨rfl, hb⟩
            have HS4 := Lib.hid (HS3.out.later HA.out.obj hb)
            obtain ⟨K, hK⟩ : ∃ K, s.fifo.length = K := ⟨_, rfl⟩
            have HPK : Hid (HrP s A1 B1 tt L.length ∧ s.fifo.length + 0 = K) := Lib.hid ⟨HP.out.1, hK⟩
            clear hb HS HS3 HP
            rw [hK] at e2 hkf ⊢
            clear hK
            go_wp2_with fail
            clear e1 e2
            go_loopw [11, 128] (fun vo j wi => ∃ (m : Nat) (s2 : Ct) (O2 : Nat → Prop) (B2 : List Fr), m ≤ K ∧ j = .int .i64 m ∧ Hid (HrP s2 A1 B2 tt L.length ∧ s2.fifo.length + m = K) ∧ Hid (HrS I w1 (.pointer (some pv)) s2 O2 (.slice A5 A1.length c5) vo A1 B2 wi)) (fun _ j _ => K - (intOf j).toNat)
            case atStart => exact ⟨0, s, O1, B1, Nat.zero_le _, rfl, HPK, HS4⟩
            case round =>
              obtain ⟨m, s2, O2, B2, hm2, rfl, HPm, HSm⟩ := hrel
              clear HPK HS4
              by_cases hmf : m < K
              · have hmi : (m : Int) < (K : Int) := by omega
                cases hf : s2.fifo with
                | nil => have := HPm.out.2; rw [hf] at this; simp at this; omega
                | cons h r =>
                  have hF1 := HPm.out.1.fetch1 hf
                  have HF := Lib.hid hF1.1
                  have HP5 : Hid (HrP { s2 with fifo := r } A1 (B2 ++ [h]) tt L.length ∧ r.length + (m + 1) = K) := Lib.hid ⟨hF1.2, by have := HPm.out.2; rw [hf] at this; simp at this; omega⟩
                  have HLB : Hid (B2.length ≤ 1000) := Lib.hid (by have h1 := HPm.out.1.q; have h2 := HPm.out.1.l; have h3 := congrArg List.length h1; simp at h3; omega)
                  clear hf hF1
                  go_wp2_with fail
                  refine (HA.out.fetch HSm.out.has.inv HPm.out.1.ok).mono ?_
                  rintro e w5 ⟨he, O5, hi5, hk5, hg5⟩
                  rw [HF.out] at he hi5
                  replace he : e = .returned (.tuple #[.agg #[.int .i64 h.i, .int .i64 h.n, .int .i64 h.l, .string h.d], .int .i64 0]) := he
                  replace hi5 : I w5 (.pointer (some pv)) { s2 with fifo := r } O5 := hi5
                  subst he
                  have HS5 := Lib.hid (((HSm.out.call HA.out.obj hi5 hk5 hg5).later HA.out.obj ((Below.refl w5.heap.size w5).alloc (Nat.le_refl _) (.cells #[.int .i64 h.i, .int .i64 h.n, .int .i64 h.l, .string h.d] 27))).later HA.out.obj ((Below.refl _ (w5.alloc (.cells #[.int .i64 h.i, .int .i64 h.n, .int .i64 h.l, .string h.d] 27))).alloc (Nat.le_refl _) (.cells #[.int .i64 h.i, .int .i64 h.n, .int .i64 h.l, .string h.d] 27)))
                  have hz5 : (w5.alloc (.cells #[.int .i64 h.i, .int .i64 h.n, .int .i64 h.l, .string h.d] 27)).heap.size = w5.heap.size + 1 := by simp
                  have HRD : Hid (RdA frC 4 ((w5.alloc (.cells #[.int .i64 h.i, .int .i64 h.n, .int .i64 h.l, .string h.d] 27)).alloc (.cells #[.int .i64 h.i, .int .i64 h.n, .int .i64 h.l, .string h.d] 27)) (.slice (some ⟨w5.heap.size + 1, 0, none⟩) 1 1) [h]) := Lib.hid (RdA.one frC_len _ _ _ hz5 rfl)
                  clear hi5 hk5 hg5 hz5
                  go_wp2_with (at_builtin; refine wpList_qO (c := frC) (L := B2) (M := [h]) flat_fr frC_len frC_one rfl (.tmp 135) (.tmp 137) rfl (by rfl) HS5.out.ro (by rfl) HRD.out (by have := HLB.out; simp; omega) ?_; rintro v6 w6 hq6 hk6 hg6; have HS6 := Lib.hid (HS5.out.pushO HA.out.obj hq6 hk6 hg6); clear hq6 hk6 hg6)
                  go_roundw
                  case rel => exact ⟨m + 1, _, O5, B2 ++ [h], by omega, by go_num, HP5, HS6⟩
                  case measure => simp [intOf]; omega
              · obtain rfl : m = K := by omega
                have hn0 : s2.fifo = [] := List.eq_nil_of_length_eq_zero (by have := HPm.out.2; omega)
                have hBA : A1 = B2 := by have := HPm.out.1.q; rw [hn0] at this; simpa using this
                subst hBA
                have HN0 : Hid (s2.fifo.length = 0) := Lib.hid (by rw [hn0]; rfl)
                obtain ⟨wi, rfl⟩ : ∃ wi : World, wi = wr := ⟨_, rfl⟩
                have hsl1 := HSm.out.ri.sl frC_len (by unfold maxLen; omega)
                have hsl2 := HSm.out.ro.sl frC_len (by unfold maxLen; omega)
                have HL1 := Lib.hid hsl1
                have HL2 := Lib.hid hsl2
                clear hmf hm2 hn0 hsl1 hsl2
                go_wp2_with fail
                refine (fsame_t wi HL1.out HL2.out).mono ?_
                rintro e w6 ⟨rfl, nd, rfl⟩
                have HS6 := Lib.hid (HSm.out.later HA.out.obj (below_drewN (Below.refl _ wi) nd))
                generalize wi.drewN nd = w6 at HS6 ⊢
                go_wp2_with fail
                refine (HA.out.kept HS6.out.has.inv HPm.out.1.ok).mono ?_
                rintro e w7 ⟨rfl, hb⟩
                rw [HN0.out]
                have HS7 := Lib.hid (HS6.out.later HA.out.obj hb)
                clear hb
                go_wp2_with fail
                refine (ctrlalive HA.out _ (HA.out.tab HT.out (HOUT.out _ HS7.out.has.below))).mono ?_
                rintro e w8 ⟨rfl, hb⟩
                have HB8 := Lib.hid (HOUT.out _ (HS7.out.later HA.out.obj hb).has.below)
                clear hb
                go_wp2
                go_ret
                exact ⟨rfl, HB8.out⟩
end Go.Proofs.YtmmcjmejcngajaaDoor
