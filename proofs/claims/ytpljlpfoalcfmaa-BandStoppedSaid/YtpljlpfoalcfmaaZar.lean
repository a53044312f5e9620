/- Band: walk of BandStopped. Printed by gen_w.py. -/
import Derived.Test.YtpljlpfoalcfmaaZao
import Derived.Test.YtpljlpfoalcfmaaZai
namespace Go.Proofs.Ytpljlpfoalcfmaa
open Go.RowKit
set_option linter.unusedVariables false

/-- the object; what was told of it; a row of the call's own -/
structure StP (I : World → Value → Bq → (Nat → Prop) → Prop) (w0 : World) (v : Value) (s : Bq) (O : Nat → Prop) (M : List Pk) (u : Value) (P : List Pk) (out : Value) (w : World) : Prop where
  has : Has I w0 v s O w
  sl : SlA pkC 7 w (fun k => O k ∨ OwnO out k) u M
  row : RowQ pkC 7 w out P
  ap : ∀ k, OwnO out k → ¬ O k
  new : ∀ k, OwnO out k → w0.heap.size ≤ k
section
variable {I : World → Value → Bq → (Nat → Prop) → Prop} {w0 w w' : World} {v u out out' : Value} {s s' : Bq} {O : Nat → Prop} {M P P' : List Pk}
theorem StP.later (hI : IsObj I) (h : StP I w0 v s O M u P out w) (hb : Below w.heap.size w w') : StP I w0 v s O M u P out w' := ⟨h.has.later hI hb, h.sl.later hb, h.row.later hb, h.ap, h.new⟩
theorem StP.step (hI : IsObj I) (h : StP I w0 v s O M u P out w) (hs : Stp I v O w s' w') : ∃ O', StP I w0 v s' O' M u P out w' := by
  obtain ⟨O1, hi, hk, hg⟩ := hs
  have hr : ∀ k, OwnO out k → w'.heap[k]? = w.heap[k]? := fun k ho => hk.block k (h.row.lt k ho) (h.ap k ho)
  refine ⟨O1, h.has.step hI hi hk hg, h.sl.step ⟨hk.os, hk.tape, hk.output, hk.size, fun k h1 h2 => hk.block k h1 (fun h3 => h2 (.inl h3))⟩ ?_, h.row.stay hr hk.size, fun k ho h1 => ?_, h.new⟩
  · rintro k (h1 | h1)
    · exact (hg k h1).imp_left .inl
    · exact .inl (.inr h1)
  · rcases hg k h1 with h2 | h2
    · exact h.ap k ho h2
    · have := h.row.lt k ho; omega
theorem StP.app (hI : IsObj I) (h : StP I w0 v s O M u P out w) (hq : RowQ pkC 7 w' out' P') (hk : Kept (OwnO out) w w') (hg : Grows (OwnO out) w (OwnO out')) : StP I w0 v s O M u P' out' w' := by
  refine ⟨⟨hI.stay h.has.inv (fun k ho => hk.block k (hI.lt h.has.inv k ho) (fun h1 => h.ap k h1 ho)), hk.below h.has.below h.has.below.size h.new, h.has.new⟩, h.sl.step ⟨hk.os, hk.tape, hk.output, hk.size, fun k h1 h2 => hk.block k h1 (fun h3 => h2 (.inr h3))⟩ ?_, hq, fun k ho h1 => ?_, fun k ho => ?_⟩
  · rintro k (h1 | h1)
    · exact .inl (.inl h1)
    · exact (hg k h1).imp_left .inr
  · rcases hg k ho with h2 | h2
    · exact h.ap k h2 h1
    · have := hI.lt h.has.inv k h1; omega
  · rcases hg k ho with h2 | h2
    · exact h.new k h2
    · exact Nat.le_trans h.has.below.size h2
end
theorem Bq.put_st (s : Bq) (b : Int) (p : Pk) : (s.put b p).1.st = s.st := by unfold Bq.put; split <;> rfl
theorem Bq.wake_stop {s : Bq} (h : s.st = false) : ({ ({ s with st := true } : Bq) with st := false } : Bq) = s := by cases s; simp at h; subst h; rfl
theorem Bq.all_small {s : Bq} (h : s.Ok) : s.all.length ≤ 1000 * 1000 := by
  unfold Bq.all
  have h1 := s.allTo_len s.bands.toNat
  have h2 := h.bands
  have h3 := h.room
  have h4 := h.len
  have h5 : s.bands.toNat * s.L.length ≤ 1000 * 1000 := Nat.mul_le_mul (by omega) (by omega)
  omega
set_option maxRecDepth 4000 in
set_option maxHeartbeats 16000000 in
theorem bandStopped_walk {I : World → Value → Bq → (Nat → Prop) → Prop} (A : BandI I) (bands room : Int) (a : Option Addr) (len cap : Nat) (F : Nat → List Value) (ask : Int) (w : World) (wb : (Lit.int .i64 bands).wf = true) (wr : (Lit.int .i64 room).wf = true) (hr : IsRowOf w opShB a len cap F) (wa : (Lit.int .i64 ask).wf = true) :
    Calls Try.prog 5 #[.int .i64 bands, .int .i64 room, .slice a len cap, .int .i64 ask] w fun e w' => e = .returned (.bool true) ∧ Below w.heap.size w w' := by
  obtain ⟨L, hL, hlen, hf⟩ := slice_of_row hr opOfB opOfB_c rfl (by decide)
  have HA := Lib.hid A
  have HV := Lib.hid hL
  subst hlen
  clear A hL hr hf wb wr wa
  obtain ⟨q, hq⟩ : ∃ q, fbB L = q := ⟨_, rfl⟩
  have HQ := Lib.hid hq
  clear hq
  obtain ⟨qa, hqa⟩ : ∃ q, decide (ask < 0) = q := ⟨_, rfl⟩
  obtain ⟨qc, hqc⟩ : ∃ q, decide (20 < ask) = q := ⟨_, rfl⟩
  go_enter Try.func5, Try.ntmps5
  go_wp2_with fail
  refine (fb_any w HV.out).mono ?_
  rintro e w' ⟨he, rfl⟩
  rw [HQ.out] at he
  subst he
  by_cases hall : q = true ∧ qa = false ∧ qc = false
  · obtain ⟨rfl, rfl, rfl⟩ := hall
    have hl4 := fbB_len HQ.out
    obtain ⟨n, rfl⟩ := Int.eq_ofNat_of_zero_le (show 0 ≤ ask by have := of_decide_eq_false hqa; omega)
    go_wp2_with fail
    refine (HA.out.new bands room _).mono ?_
    rintro e w1 ⟨v, O, rfl, hi, hb, hn⟩
    obtain ⟨p, rfl⟩ := HA.out.ptr hi
    have H0 : Hid (Has I w (.pointer (some p)) (bqNew bands room) O w1) := Lib.hid ⟨hi, hb, hn⟩
    have HOK := Lib.hid (Bq.Ok.new bands room)
    have HS0 : Hid ((bqNew bands room).st = false) := Lib.hid rfl
    clear hi hb hn
    go_wp2_with fail
    go_loopw [35] (fun i wr => ∃ (k : Nat) (s : Bq) (O : Nat → Prop), k ≤ L.length ∧ i = .int .i64 k ∧ Hid s.Ok ∧ Hid (s.st = false) ∧ Hid (Has I w (.pointer (some p)) s O wr)) (fun i _ => L.length - (intOf i).toNat)
    case atStart => exact ⟨0, _, O, by omega, rfl, HOK, HS0, H0⟩
    case round =>
      obtain ⟨k, s, O1, hk, rfl, HS, HF, HP⟩ := hrel
      by_cases hlt : k < L.length
      · have hkl : (k : Int) < (L.length : Int) := by omega
        obtain ⟨x, c1, hv1, hxb, hcell⟩ := SlG.at_ (HV.out.later HP.out.below) hlt
        injection hv1 with hAA _ hcap
        subst hAA hcap
        have a0 : wr.cell? (x.add (k * 9)) = some (.int .i64 (L[k]'hlt).k) := hcell 0 _ rfl
        have a1 : wr.cell? ⟨(x.add (k * 9)).block, (x.add (k * 9)).off + 1, none⟩ = some (.int .i64 (L[k]'hlt).b) := hcell 1 _ rfl
        have a2 : wr.cell? ⟨(x.add (k * 9)).block, (x.add (k * 9)).off + 2, none⟩ = some (.int .i64 (L[k]'hlt).p.f.i) := hcell 2 _ rfl
        have a3 : wr.cell? ⟨(x.add (k * 9)).block, (x.add (k * 9)).off + 3, none⟩ = some (.int .i64 (L[k]'hlt).p.f.n) := hcell 3 _ rfl
        have a4 : wr.cell? ⟨(x.add (k * 9)).block, (x.add (k * 9)).off + 4, none⟩ = some (.int .i64 (L[k]'hlt).p.f.l) := hcell 4 _ rfl
        have a5 : wr.cell? ⟨(x.add (k * 9)).block, (x.add (k * 9)).off + 5, none⟩ = some (.string (L[k]'hlt).p.f.d) := hcell 5 _ rfl
        have a6 : wr.cell? ⟨(x.add (k * 9)).block, (x.add (k * 9)).off + 6, none⟩ = some (.int .i64 (L[k]'hlt).p.fr) := hcell 6 _ rfl
        have a7 : wr.cell? ⟨(x.add (k * 9)).block, (x.add (k * 9)).off + 7, none⟩ = some (.int .i64 (L[k]'hlt).p.tag) := hcell 7 _ rfl
        have a8 : wr.cell? ⟨(x.add (k * 9)).block, (x.add (k * 9)).off + 8, none⟩ = some (.bool (L[k]'hlt).p.lp) := hcell 8 _ rfl
        generalize L[k]'hlt = o at a0 a1 a2 a3 a4 a5 a6 a7 a8
        clear hcell hxb
        go_upto_region 7 with fail
        have HPa := Lib.hid (HP.out.later HA.out.obj ((Below.refl wr.heap.size wr).alloc (Nat.le_refl _) (.cells #[.int .i64 o.k, .int .i64 o.b, .int .i64 o.p.f.i, .int .i64 o.p.f.n, .int .i64 o.p.f.l, .string o.p.f.d, .int .i64 o.p.fr, .int .i64 o.p.tag, .bool o.p.lp] 34)))
        have HBa := Lib.hid (BoxOB.made wr o)
        generalize wr.alloc _ = wa at HPa HBa ⊢
        generalize wr.heap.size = g at HBa ⊢
        clear a0 a1 a2 a3 a4 a5 a6 a7 a8
        obtain ⟨a0, a1, a2, a3, a4, a5, a6, a7, a8⟩ := HBa.out.cells
        obtain ⟨ok, ob, op⟩ := o
        simp only at a0 a1 a2 a3 a4 a5 a6 a7 a8
        by_cases hk0 : ok = 0
        · subst hk0
          have HSX := Lib.hid (HS.out.put ob op)
          have HFX : Hid ((s.put ob op).1.st = false) := Lib.hid (by rw [Bq.put_st]; exact HF.out)
          go_wp2_with fail
          refine (HA.out.put ob op HPa.out.inv HS.out).mono ?_
          rintro e w2 ⟨rfl, O3, hi, hk9, hg⟩
          have HP2 := Lib.hid (HPa.out.step HA.out.obj hi hk9 hg)
          clear hi hk9 hg a0 a1 a2 a3 a4 a5 a6 a7 a8
          go_wp2
          go_roundw
          case rel => exact ⟨k + 1, _, O3, by omega, by go_num, HSX, HFX, HP2⟩
          case measure => simp [intOf]; omega
        · have k0 : (ok == 0) = false := by simp [hk0]
          clear hk0
          go_wp2
          go_roundw
          case rel => exact ⟨k + 1, s, O1, by omega, by go_num, HS, HF, HPa⟩
          case measure => simp [intOf]; omega
      · obtain rfl : k = L.length := by omega
        have HML : Hid (s.all.length ≤ 1000 * 1000) := Lib.hid (Bq.all_small HS.out)
        go_wp2_with fail
        refine (HA.out.all HP.out.inv HS.out).mono ?_
        rintro e w3 ⟨u, rfl, ⟨hu, _⟩, hb⟩
        have HT3 : Hid (StP I w (.pointer (some p)) s O1 s.all u [] (.slice none 0 0) w3) := Lib.hid ⟨HP.out.later HA.out.obj hb, hu.narrow (fun k hk => by
          rcases hk with hk | hk
          · exact HA.out.obj.lt HP.out.inv k hk
          · cases hk), RowQ.nil _, (fun k hk => nomatch hk), (fun k hk => nomatch hk)⟩
        obtain ⟨Au, cu, hvu, _⟩ := hu
        subst hvu
        clear hb
        go_wp2_with fail
        refine (HA.out.stop HT3.out.has.inv HS.out).mono ?_
        rintro e w4 ⟨rfl, hs⟩
        obtain ⟨O4, h4⟩ := HT3.out.step HA.out.obj hs
        have HT4 := Lib.hid h4
        have HS1 := Lib.hid (HS.out.stop true)
        have HTK : Hid (Bq.tk { s with st := true } = (pk0, 6)) := Lib.hid (by unfold Bq.tk; rw [Bq.take_stop rfl]; rfl)
        have HTA : Hid (Bq.take { s with st := true } = ({ s with st := true }, pk0, false)) := Lib.hid (Bq.take_stop rfl)
        clear hs h4
        go_wp2_with fail
        go_loopw [54] (fun i wr => ∃ (j : Nat) (O : Nat → Prop), j ≤ n ∧ i = .int .i64 j ∧ Hid (StP I w (.pointer (some p)) { s with st := true } O s.all (.slice Au s.all.length cu) [] (.slice none 0 0) wr)) (fun i _ => n - (intOf i).toNat)
        case atStart => exact ⟨0, O4, by omega, rfl, HT4⟩
        case round =>
          obtain ⟨j, O5, hj, rfl, HT⟩ := hrel
          by_cases hjn : j < n
          · have hd : decide ((j : Int) < (n : Int)) = true := decide_eq_true (by omega)
            have hn20 : (n : Int) ≤ 20 := by have := of_decide_eq_false hqc; omega
            go_wp2_with fail
            refine (HA.out.take HT.out.has.inv HS1.out).mono ?_
            rintro e w5 ⟨he, hs⟩
            rw [HTK.out] at he
            simp only at he
            subst he
            obtain ⟨O6, h6⟩ := HT.out.step HA.out.obj hs
            rw [HTA.out] at h6
            have hbl := (Below.refl w5.heap.size w5).alloc (Nat.le_refl _) (.cells #[.int .i64 0, .int .i64 0, .int .i64 0, .string (ByteArray.mk #[]), .int .i64 0, .int .i64 0, .bool false] 32)
            have HT6 := Lib.hid (h6.later HA.out.obj hbl)
            have HZ := Lib.hid (BoxP.made w5 pk0)
            clear hs h6 hbl
            have k0 : pk0.f.i = 0 := rfl
            have k1 : pk0.f.n = 0 := rfl
            have k2 : pk0.f.l = 0 := rfl
            have k3 : pk0.f.d = ByteArray.mk #[] := rfl
            have k4 : pk0.fr = 0 := rfl
            have k5 : pk0.tag = 0 := rfl
            have k6 : pk0.lp = false := rfl
            go_wp2
            go_roundw
            case rel => exact ⟨j + 1, O6, by omega, by go_num, HT6⟩
            case measure => simp [intOf]; omega
          · obtain rfl : j = n := by omega
            have hd : decide ((j : Int) < (j : Int)) = false := by simp
            go_wp2_with fail
            refine (HA.out.all HT.out.has.inv HS1.out).mono ?_
            rintro e w6 ⟨u2, rfl, ⟨hu2, _⟩, hb⟩
            have HT6 := Lib.hid (HT.out.later HA.out.obj hb)
            have HU2 : Hid (SlG pkC 7 w6 w6.heap.size u2 s.all) := Lib.hid hu2.sl
            clear hu2 hb
            go_wp2_with fail
            refine (pksame_t _ HU2.out HT6.out.sl.sl).mono ?_
            rintro e w7 ⟨rfl, n7, rfl⟩
            have HT7 := Lib.hid (HT6.out.later HA.out.obj (below_drewN (Below.refl _ w6) n7))
            go_wp2_with fail
            refine (HA.out.stopped HT7.out.has.inv HS1.out).mono ?_
            rintro e w8 ⟨rfl, hb⟩
            have HT8 := Lib.hid (HT7.out.later HA.out.obj hb)
            clear hb
            go_wp2_with fail
            refine (HA.out.wake HT8.out.has.inv HS1.out).mono ?_
            rintro e w9 ⟨rfl, hs⟩
            obtain ⟨O9, h9⟩ := HT8.out.step HA.out.obj hs
            rw [Bq.wake_stop HF.out] at h9
            have HT9 := Lib.hid h9
            have HAL : Hid (s.all = [] ++ s.all) := Lib.hid rfl
            clear hs h9
            go_wp2_with fail
            go_loopw [83, 15] (fun i out wr => ∃ (m : Nat) (t : Bq) (O : Nat → Prop) (P : List Pk), m ≤ s.all.length ∧ i = .int .i64 m ∧ Hid (P.length = m ∧ s.all = P ++ t.all) ∧ Hid t.Ok ∧ Hid (t.st = false) ∧ Hid (StP I w (.pointer (some p)) t O s.all (.slice Au s.all.length cu) P out wr)) (fun i _ _ => s.all.length - (intOf i).toNat)
            case atStart => exact ⟨0, s, O9, [], Nat.zero_le _, rfl, Lib.hid ⟨rfl, rfl⟩, HS, HF, HT9⟩
            case round =>
              obtain ⟨m, t, O7, P, hm, rfl, HPM, HSt, HFt, HT⟩ := hrel
              have hml := HML.out
              by_cases hmn : m < s.all.length
              · have hd2 : decide ((m : Int) < (s.all.length : Int)) = true := decide_eq_true (by omega)
                have hne : t.L ≠ [] := fun e => by
                  have h1 := HPM.out.2
                  have h2 := Bq.all_len (s := t) (n := 0) (by rw [e]; rfl) HSt.out HFt.out
                  have h3 := congrArg List.length h1
                  rw [List.length_append, h2, HPM.out.1] at h3
                  omega
                obtain ⟨g1, g2, g3, g4, g5⟩ := Bq.take_all HSt.out HFt.out hne
                have HSn := Lib.hid HSt.out.take
                have HFn := Lib.hid g3
                obtain ⟨X, hX⟩ : ∃ X, t.take = X := ⟨_, rfl⟩
                have HTK : Hid (t.tk = (t.take.2.1, 0)) := Lib.hid (by unfold Bq.tk; rw [if_pos g1])
                have HG2 := Lib.hid g2
                rw [hX] at HTK HG2 HSn HFn
                have HX := Lib.hid hX
                obtain ⟨tX, pX, iX⟩ := X
                simp only at HTK HG2 HSn HFn
                have HPN : Hid ((P ++ [pX]).length = m + 1 ∧ s.all = (P ++ [pX]) ++ tX.all) := Lib.hid ⟨by rw [List.length_append, HPM.out.1]; rfl, by rw [List.append_assoc]; show s.all = P ++ (pX :: tX.all); rw [← HG2.out]; exact HPM.out.2⟩
                clear g1 g2 g3 g4 g5 hX hne
                go_wp2_with fail
                refine (HA.out.take HT.out.has.inv HSt.out).mono ?_
                rintro e w10 ⟨he, hs⟩
                rw [HTK.out] at he
                simp only at he
                subst he
                rw [HX.out] at hs
                obtain ⟨O8, h8⟩ := HT.out.step HA.out.obj hs
                have HT10 := Lib.hid (StP.later HA.out.obj h8 ((Below.refl w10.heap.size w10).alloc (Nat.le_refl _) (.cells #[.int .i64 pX.f.i, .int .i64 pX.f.n, .int .i64 pX.f.l, .string pX.f.d, .int .i64 pX.fr, .int .i64 pX.tag, .bool pX.lp] 32)))
                have HB10 := Lib.hid (BoxP.made w10 pX)
                clear hs h8
                go_upto_region 25 with fail
                generalize w10.alloc _ = wy at HT10 HB10 ⊢
                obtain ⟨d0, d1, d2, d3, d4, d5, d6⟩ := HB10.out.cells
                have hzy := HB10.out.lt
                have HBL : Hid (Below wy.heap.size wy (wy.alloc (.cells #[.int .i64 pX.f.i, .int .i64 pX.f.n, .int .i64 pX.f.l, .string pX.f.d, .int .i64 pX.fr, .int .i64 pX.tag, .bool pX.lp] 32))) := Lib.hid ((Below.refl _ _).alloc (Nat.le_refl _) _)
                have HT11 := Lib.hid (HT10.out.later HA.out.obj HBL.out)
                have HR1 : Hid (RdA pkC 7 (wy.alloc (.cells #[.int .i64 pX.f.i, .int .i64 pX.f.n, .int .i64 pX.f.l, .string pX.f.d, .int .i64 pX.fr, .int .i64 pX.tag, .bool pX.lp] 32)) (.slice (some ⟨wy.heap.size, 0, none⟩) 1 1) [pX]) := Lib.hid (RdA.one pkC_len _ _ _ rfl rfl)
                have HSZ : Hid (P.length + 1 ≤ 1000000) := Lib.hid (by have := HPM.out.1; omega)
                go_wp2_with (at_builtin; refine wpList_qO (c := pkC) (M := [pX]) flat_pk pkC_len pkC_one rfl (.tmp 92) (.tmp 94) rfl (by rfl) HT11.out.row (by rfl) HR1.out (by have := HSZ.out; simp only [List.length_singleton]; omega) ?_; rintro v4 w11 hq4 hk4 hg4; have HT12 := Lib.hid (HT11.out.app HA.out.obj hq4 hk4 hg4); clear hq4 hk4 hg4)
                go_roundw
                case rel => exact ⟨m + 1, tX, O8, P ++ [pX], by omega, by go_num, HPN, HSn, HFn, HT12⟩
                case measure => simp [intOf]; omega
              · obtain rfl : m = s.all.length := by omega
                have hd2 : decide ((s.all.length : Int) < (s.all.length : Int)) = false := by simp
                have HTL : Hid (t.all.length = 0) := Lib.hid (by
                  have h3 := congrArg List.length HPM.out.2
                  rw [List.length_append, HPM.out.1] at h3
                  omega)
                have HPE : Hid (P = s.all) := Lib.hid (by rw [HPM.out.2, List.eq_nil_of_length_eq_zero HTL.out, List.append_nil])
                have HLZ : Hid (t.L.length = 0) := Lib.hid (by rw [← Bq.all_len rfl HSt.out HFt.out]; exact HTL.out)
                have HRS : Hid (SlG pkC 7 wr wr.heap.size u15 s.all) := Lib.hid (by rw [← HPE.out]; exact HT.out.row.sl pkC_len (by rw [HPE.out]; unfold maxLen; omega))
                go_wp2_with fail
                refine (pksame_t _ HRS.out HT.out.sl.sl).mono ?_
                rintro e w12 ⟨rfl, n12, rfl⟩
                have HT12 := Lib.hid (HT.out.later HA.out.obj (below_drewN (Below.refl _ wr) n12))
                go_wp2_with fail
                refine (HA.out.len HT12.out.has.inv HSt.out).mono ?_
                rintro e w13 ⟨he, hb⟩
                rw [HLZ.out] at he
                subst he
                have HT13 := Lib.hid (HT12.out.later HA.out.obj hb)
                clear hb
                go_wp2_with fail
                refine (bandalive HA.out _).mono ?_
                rintro e w14 ⟨rfl, hb⟩
                have HB14 := Lib.hid (fbelow_t HT13.out.has.below hb)
                clear hb
                go_wp2
                go_ret
                exact ⟨rfl, HB14.out⟩
  · have HD : ∀ w1 : World, Calls Try.prog 8 #[] w1 fun e w' => e = .returned (.bool true) ∧ Below w1.heap.size w1 w' := fun w1 => bandalive HA.out w1
    cases q <;> cases qa <;> cases qc
    all_goals first
      | exact absurd ⟨rfl, rfl, rfl⟩ hall
      | (go_wp2_with fail
         refine (bandalive HA.out _).mono ?_
         rintro e w1 ⟨rfl, hb⟩
         go_wp2
         go_ret
         exact ⟨rfl, hb⟩)
end Go.Proofs.Ytpljlpfoalcfmaa
