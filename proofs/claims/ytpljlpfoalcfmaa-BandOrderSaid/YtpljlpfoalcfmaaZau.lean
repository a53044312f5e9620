/- Band: walk of BandOrder. Printed by gen_z.py. -/
import Derived.Test.YtpljlpfoalcfmaaZat
import Derived.Test.YtpljlpfoalcfmaaZao
import Derived.Test.YtpljlpfoalcfmaaZah
import Derived.BigQuiet
import Derived.Deep.Cut
namespace Go.Proofs.Ytpljlpfoalcfmaa
open Go.RowKit
set_option linter.unusedVariables false

theorem info_iB : (Try.prog.info? 3).map (fun i => (i.zero, i.size, i.bytes)) = some (some (.int .i64 0), 1, 8) := by kernel_rfl
theorem flat_iB : FlatE Try.prog 52 3 1 8 := by
  obtain ⟨i0, hi, hz0, hz1, hz2⟩ := info_parts info_iB
  exact ⟨Try.underlying52, i0, _, hi, hz0, hz1, hz2, rfl, by decide, by decide⟩
theorem inC_oneB : ∀ n : Int, ∀ u ∈ inC n, u.oneCell' = true := fun n u hu => by
  simp only [inC, List.mem_cons, List.not_mem_nil, or_false] at hu
  subst hu; rfl
theorem info_isB : (Try.prog.info? 52).map (fun i => (i.zero, i.size, i.bytes)) = some (some (.slice none 0 0), 1, 24) := by kernel_rfl
theorem run_mkB (n : Nat) (hn : n ≤ 1000) (w : World) :
    (Instr.makeSlice 50 (.int .i64 n) (.int .i64 n)).run Try.prog w = .ok (.slice (some ⟨w.heap.size, 0, none⟩) n n) (w.alloc (.cells (List.replicate n (Value.slice none 0 0)).toArray 52)) := by
  obtain ⟨i0, hi, hz0, hz1, hz2⟩ := info_parts info_isB
  have := run_make (P := Try.prog) w 50 52 i0 _ Try.underlying50 hi hz0 .i64 .i64 (n : Int) (n : Int) (by omega) (Int.le_refl _) (by rw [hz2]; omega) (by omega)
  rw [hz1, Int.toNat_natCast, rep_fs] at this
  exact this
theorem RowzI.out {n g : Nat} {w : World} {W : List (List Int)} {O : Nat → Prop} (h : RowzI n w (.slice (some ⟨g, 0, none⟩) n n) W O) : ∃ ws, O = rzO g ws ∧ W.length = n ∧ RowzM w g ws W := by
  obtain ⟨g', ws, e, h1, h2, h3⟩ := h
  injection e with e
  injection e with e
  injection e with e
  subst e
  exact ⟨ws, h1, h2, h3⟩
theorem RowzI.made {n : Nat} (w : World) : RowzI n (w.alloc (.cells (List.replicate n (Value.slice none 0 0)).toArray 52)) (.slice (some ⟨w.heap.size, 0, none⟩) n n) (tagsW [] n) (fun k => k = w.heap.size) := by
  refine ⟨w.heap.size, List.replicate n (Value.slice none 0 0), rfl, ?_, by rw [tagsW_len], by rw [tagsW_nil]; exact RowzM.made (heap_alloc_new w _)⟩
  funext k
  refine propext ⟨.inl, ?_⟩
  rintro (h | ⟨i, u, hu, hk⟩)
  · exact h
  · rw [List.getElem?_replicate] at hu
    split at hu
    · rw [← Option.some.inj hu] at hk; cases hk
    · cases hu
set_option maxRecDepth 4000 in
set_option maxHeartbeats 16000000 in
theorem bandOrder_walk {I : World → Value → Bq → (Nat → Prop) → Prop} (A : BandI I) (bands room : Int) (a : Option Addr) (len cap : Nat) (F : Nat → List Value) (w : World) (wb : (Lit.int .i64 bands).wf = true) (wr : (Lit.int .i64 room).wf = true) (hr : IsRowOf w opShB a len cap F) :
    Calls Try.prog 4 #[.int .i64 bands, .int .i64 room, .slice a len cap] w fun e w' => e = .returned (.bool true) ∧ Below w.heap.size w w' := by
  obtain ⟨L, hL, hlen, hf⟩ := slice_of_row hr opOfB opOfB_c rfl (by decide)
  have HA := Lib.hid A
  have HV := Lib.hid hL
  subst hlen
  clear A hL hr hf wb wr
  obtain ⟨q, hq⟩ : ∃ q, fbB L = q := ⟨_, rfl⟩
  have HQ := Lib.hid hq
  clear hq
  obtain ⟨qa, hqa⟩ : ∃ q, decide (bands < 1) = q := ⟨_, rfl⟩
  obtain ⟨qc, hqc⟩ : ∃ q, decide (1000 < bands) = q := ⟨_, rfl⟩
  go_enter Try.func4, Try.ntmps4
  go_wp2_with fail
  refine (fb_any w HV.out).mono ?_
  rintro e w' ⟨he, rfl⟩
  rw [HQ.out] at he
  subst he
  by_cases hall : q = true ∧ qa = false ∧ qc = false
  · obtain ⟨rfl, rfl, rfl⟩ := hall
    have hl4 := fbB_len HQ.out
    obtain ⟨n, rfl⟩ := Int.eq_ofNat_of_zero_le (show 0 ≤ bands by have := of_decide_eq_false hqa; omega)
    have hn0 : 1 ≤ n := by have := of_decide_eq_false hqa; omega
    have hn1 : n ≤ 1000 := by have := of_decide_eq_false hqc; omega
    have hbn : (bqNew (n : Int) room).bands = (n : Int) := by show roomN (n : Int) = _; unfold roomN; (repeat split) <;> omega
    have HBN := Lib.hid hbn
    obtain ⟨Z, hZ⟩ : ∃ Z, List.replicate n (Value.slice none 0 0) = Z := ⟨_, rfl⟩
    have hmk : ∀ w, (Instr.makeSlice 50 (.int .i64 n) (.int .i64 n)).run Try.prog w = .ok (.slice (some ⟨w.heap.size, 0, none⟩) n n) (w.alloc (.cells Z.toArray 52)) := fun w => by have := run_mkB n hn1 w; rw [hZ] at this; exact this
    have HZ := Lib.hid hZ
    clear hZ hbn
    go_wp2_with fail
    refine (HA.out.new (n : Int) room _).mono ?_
    rintro e w1 ⟨v, O, rfl, hi, hb, hn⟩
    obtain ⟨p, rfl⟩ := HA.out.ptr hi
    have H0 : Hid (Has I w (.pointer (some p)) (bqNew n room) O w1) := Lib.hid ⟨hi, hb, hn⟩
    have HOK := Lib.hid (Bq.Ok.new (n : Int) room)
    clear hi hb hn
    go_upto_region 5 with fail
    have HP0 : Hid (Pair I (RowzI n) w (.pointer (some p)) (.slice (some ⟨w1.heap.size, 0, none⟩) n n) (bqNew n room) (tagsW (bqNew n room).L n) O (fun k => k = w1.heap.size) (w1.alloc (.cells Z.toArray 52))) := Lib.hid (by
      have hb : Below w1.heap.size w1 (w1.alloc (.cells Z.toArray 52)) := (Below.refl _ _).alloc (Nat.le_refl _) _
      have hm : RowzI n (w1.alloc (.cells Z.toArray 52)) (.slice (some ⟨w1.heap.size, 0, none⟩) n n) (tagsW (bqNew n room).L n) (fun k => k = w1.heap.size) := by rw [← HZ.out]; exact RowzI.made w1
      exact ⟨H0.out.later HA.out.obj hb, ⟨hm, fbelow_t H0.out.below hb, fun k hk => by rw [hk]; exact H0.out.below.size⟩, fun k h1 h2 => by have := HA.out.obj.lt H0.out.inv k h1; omega⟩)
    generalize w1.alloc _ = w2 at HP0 ⊢
    generalize w1.heap.size = gr at HP0 ⊢
    clear hmk
    go_wp2
    go_loopw [36, 9] (fun i nn wr => ∃ (k : Nat) (s : Bq) (O O' : Nat → Prop), k ≤ L.length ∧ i = .int .i64 k ∧ nn = .int .i64 (s.L.length : Nat) ∧ Hid s.Ok ∧ Hid (s.bands = (n : Int)) ∧ Hid (Pair I (RowzI n) w (.pointer (some p)) (.slice (some ⟨gr, 0, none⟩) n n) s (tagsW s.L n) O O' wr)) (fun i _ _ => L.length - (intOf i).toNat)
    case atStart => exact ⟨0, _, O, _, by omega, rfl, rfl, HOK, HBN, HP0⟩
    case round =>
      obtain ⟨k, s, O1, O2, hk, rfl, rfl, HS, HSB, HP⟩ := hrel
      by_cases hlt : k < L.length
      · have hkl : (k : Int) < (L.length : Int) := by omega
        obtain ⟨x, c1, hv1, hxb, hcell⟩ := SlG.at_ (HV.out.later HP.out.a.below) hlt
        injection hv1 with hAA _ hcap
        subst hAA hcap
        have a0 : wr.cell? (x.add (k * 9)) = some (.int .i64 (L[k]'hlt).k) := hcell 0 _ rfl
        have a1 : wr.cell? ⟨(x.add (k * 9)).block, (x.add (k * 9)).off + 1, none⟩ = some (.int .i64 (L[k]'hlt).b) := hcell 1 _ rfl
        have a2 : wr.cell? ⟨(x.add (k * 9)).block, (x.add (k * 9)).off + 2, none⟩ = some (.int .i64 (L[k]'hlt).p.f.i) := hcell 2 _ rfl
        have a3 : wr.cell? ⟨(x.add (k * 9)).block, (x.add (k * 9)).off + 3, none⟩ = some (.int .i64 (L[k]'hlt).p.f.n) := hcell 3 _ rfl
        have a4 : wr.cell? ⟨(x.add (k * 9)).block, (x.add (k * 9)).off + 4, none⟩ = some (.int .i64 (L[k]'hlt).p.f.l) := hcell 4 _ rfl
        have a5 : wr.cell? ⟨(x.add (k * 9)).block, (x.add (k * 9)).off + 5, none⟩ = some (.string (L[k]'hlt).p.f.d) := hcell 5 _ rfl
        have a6 : wr.cell? ⟨(x.add (k * 9)).block, (x.add (k * 9)).off + 6, none⟩ = some (.int .i64 (L[k]'hlt).p.fr) := hcell 6 _ rfl
        have a7 : wr.cell? ⟨(x.add (k * 9)).block, (x.add (k * 9)).off + 7, none⟩ = some (.int .i64 (L[k]'hlt).p.tag) := hcell 7 _ rfl
        have a8 : wr.cell? ⟨(x.add (k * 9)).block, (x.add (k * 9)).off + 8, none⟩ = some (.bool (L[k]'hlt).p.lp) := hcell 8 _ rfl
        generalize L[k]'hlt = o at a0 a1 a2 a3 a4 a5 a6 a7 a8
        clear hcell hxb
        go_upto_region 9 with fail
        have HPa := Lib.hid (HP.out.later HA.out.obj (rowzI_obj n) ((Below.refl wr.heap.size wr).alloc (Nat.le_refl _) (.cells #[.int .i64 o.k, .int .i64 o.b, .int .i64 o.p.f.i, .int .i64 o.p.f.n, .int .i64 o.p.f.l, .string o.p.f.d, .int .i64 o.p.fr, .int .i64 o.p.tag, .bool o.p.lp] 34)))
        have HBa := Lib.hid (BoxOB.made wr o)
        generalize wr.alloc _ = wa at HPa HBa ⊢
        generalize wr.heap.size = g at HBa ⊢
        clear a0 a1 a2 a3 a4 a5 a6 a7 a8
        obtain ⟨a0, a1, a2, a3, a4, a5, a6, a7, a8⟩ := HBa.out.cells
        obtain ⟨ok, ob, op⟩ := o
        simp only at a0 a1 a2 a3 a4 a5 a6 a7 a8
        have hsl : s.L.length ≤ 1000 := by have := HS.out.room; have := HS.out.len; omega
        by_cases hk0 : ok = 0
        · subst hk0
          have hX : 0 ≤ (if (n : Int) - 1 < if ob < 0 then 0 else ob then (n : Int) - 1 else if ob < 0 then 0 else ob) ∧ (if (n : Int) - 1 < if ob < 0 then 0 else ob then (n : Int) - 1 else if ob < 0 then 0 else ob) < (n : Int) := by constructor <;> (repeat' split) <;> omega
          obtain ⟨c, hc⟩ := Int.eq_ofNat_of_zero_le hX.1
          have hcn : c < n := by have h := hX.2; rw [hc] at h; omega
          clear hX
          have HAT : Hid (s.at_ (c : Int) = (c : Int)) := Lib.hid (by unfold Bq.at_; rw [if_neg (by omega), HSB.out, if_neg (by omega)])
          go_upto_region 12 with fail
          generalize hE : Value.int IntKind.i64 (ite ((n : Int) - 1 < _) _ _) = vv
          have hv2 : vv = .int .i64 (c : Int) := by rw [← hE, ← hc]; try congr
          clear hE
          subst hv2
          generalize Value.int IntKind.i64 (ite (ob < 0) _ _) = v47
          go_wp2_with fail
          refine (packet15_v (k : Int) _).mono ?_
          rintro e w2 ⟨rfl, hb⟩
          have HP2 := Lib.hid (HPa.out.later HA.out.obj (rowzI_obj n) hb)
          clear hb hc a0 a1 a2 a3 a4 a5 a6 a7 a8
          go_wp2_with fail
          refine (HA.out.put (c : Int) (pkT (k : Int)) HP2.out.a.inv HS.out).mono ?_
          rintro e w3 ⟨he, O3, hi, hk9, hg⟩
          by_cases hfu : (s.L.length : Int) = s.room
          · have HE : Hid (s.put (c : Int) (pkT (k : Int)) = (s, 5)) := Lib.hid (by unfold Bq.put; rw [if_pos hfu])
            rw [HE.out] at he hi
            simp only at he hi
            subst he
            have HP3 := Lib.hid (HP2.out.stepA HA.out.obj (rowzI_obj n) hi hk9 hg)
            have hnz : ((s.L.length : Int) == 0) = false := beq_eq_false_iff_ne.2 (by have := HS.out.room; omega)
            clear hi hk9 hg hfu
            go_wp2_with fail
            refine (HA.out.len HP3.out.a.inv HS.out).mono ?_
            rintro e wz ⟨he, hb⟩
            have he : e = .returned (.int .i64 (s.L.length : Nat)) := he
            subst he
            have HPZ := Lib.hid (HP3.out.later HA.out.obj (rowzI_obj n) hb)
            clear hb
            have hlne : (((s.L.length : Nat) : Int) != (s.L.length : Nat)) = false := by simp
            go_wp2
            go_roundw
            case rel => exact ⟨k + 1, s, _, _, by omega, by go_num, rfl, HS, HSB, HPZ⟩
            case measure => simp [intOf]; omega
          · have HE : Hid (s.put (c : Int) (pkT (k : Int)) = ({ s with L := s.L ++ [⟨(c : Int), pkT (k : Int)⟩] }, 0)) := Lib.hid (by unfold Bq.put; rw [if_neg hfu, HAT.out])
            have hok := HS.out.put (c : Int) (pkT (k : Int))
            rw [HE.out] at he hi hok
            simp only at he hi hok
            subst he
            have HSX := Lib.hid hok
            have HP3 := Lib.hid (HP2.out.stepA HA.out.obj (rowzI_obj n) hi hk9 hg)
            have HLN : Hid (((({ s with L := s.L ++ [⟨(c : Int), pkT (k : Int)⟩] } : Bq).L.length : Nat) : Int) = (s.L.length : Int) + 1) := Lib.hid (by show (((s.L ++ [_]).length : Nat) : Int) = _; simp)
            have HTG : Hid (tagsW ({ s with L := s.L ++ [⟨(c : Int), pkT (k : Int)⟩] } : Bq).L n = (tagsW s.L n).set c (((bandF s.L c).map fun p => p.tag) ++ [(k : Int)])) := Lib.hid (tagsW_put s.L n rfl)
            clear hi hk9 hg hfu hok
            obtain ⟨ws, hO2, hWl, hm⟩ := RowzI.out HP3.out.b.inv
            obtain ⟨u, hu⟩ : ∃ u, ws[c]? = some u := ⟨_, List.getElem?_eq_getElem (by rw [hm.len, hWl]; exact hcn)⟩
            have HQ3 := Lib.hid (hm.row c u _ hu (tagsW_get s.L hcn))
            have HM := Lib.hid hm
            have HU := Lib.hid hu
            have HO2 := Lib.hid hO2
            obtain ⟨z0, z1⟩ := hm.wait hu
            obtain ⟨Au, cu, hsh⟩ := HQ3.out.shape
            generalize hT : ((bandF s.L c).map fun p => p.tag) = T at HTG HQ3 hsh
            have HT : Hid (T.length ≤ 100000) := Lib.hid (by
              rw [← hT, List.length_map]
              unfold bandF
              rw [List.length_map]
              exact Nat.le_trans (List.length_filter_le _ _) (by omega))
            subst hsh
            have hgz : gr < w3.heap.size := heap_some_lt hm.box
            have HNU : Hid (¬ OwnO (.slice Au T.length cu) gr) := Lib.hid (hm.f1 c _ hu)
            have HBL : Hid (Below w3.heap.size w3 (w3.alloc (.cells #[.int .i64 (k : Int)] 3))) := Lib.hid ((Below.refl _ _).alloc (Nat.le_refl _) _)
            have HR1 : Hid (RdA inC 1 (w3.alloc (.cells #[.int .i64 (k : Int)] 3)) (.slice (some ⟨w3.heap.size, 0, none⟩) 1 1) [(k : Int)]) := Lib.hid (RdA.one inC_len _ _ _ rfl rfl)
            have HQ3a := Lib.hid (HQ3.out.later HBL.out)
            have hcn2 : (c : Int) < (n : Int) := by omega
            clear hO2 hWl hm hu hT
            go_wp2_with (at_builtin; refine wpList_qO (c := inC) (L := T) (M := [(k : Int)]) flat_iB inC_len inC_oneB rfl (.tmp 63) (.tmp 65) rfl (by rfl) HQ3a.out (by rfl) HR1.out (by have := HT.out; simp; omega) ?_; rintro v4 w4 hq4 hk4 hg4; obtain ⟨g4, o4, cap4, rfl⟩ := hq4.form; have HQ4 := Lib.hid hq4; have HK4 := Lib.hid hk4; have HG4 := Lib.hid hg4; have y0 := (hk4.cell (p := ⟨gr, c, none⟩) (Nat.lt_of_lt_of_le hgz HBL.out.size) HNU.out).trans ((HBL.out.cell (p := ⟨gr, c, none⟩) hgz).trans z0); have y1 := (hk4.frozen (p := ⟨gr, c, none⟩) (Nat.lt_of_lt_of_le hgz HBL.out.size) HNU.out).trans ((HBL.out.frozen (p := ⟨gr, c, none⟩) hgz).trans z1); clear hq4 hk4 hg4)
            have hset := (HM.out.stay (w' := w3.alloc (.cells #[.int .i64 (k : Int)] 3)) (fun x hx => HBL.out.block x (HM.out.lt x hx))).set HU.out HQ4.out HK4.out HG4.out
            have HP4 := Lib.hid ((HP3.out.later HA.out.obj (rowzI_obj n) HBL.out).stepB HA.out.obj (rowzI_obj n) (t' := tagsW ({ s with L := s.L ++ [⟨(c : Int), pkT (k : Int)⟩] } : Bq).L n) (by rw [HTG.out]; exact ⟨gr, _, rfl, rfl, by rw [List.length_set, tagsW_len], hset.1⟩) (by rw [HO2.out]; exact hset.2.1) (by rw [HO2.out]; exact hset.2.2))
            generalize w4.setCell _ _ = w5 at HP4 ⊢
            clear hset y0 y1 z0 z1
            refine (HA.out.len HP4.out.a.inv HSX.out).mono ?_
            rintro e wz ⟨he, hb⟩
            rw [HLN.out] at he
            subst he
            have HPZ := Lib.hid (HP4.out.later HA.out.obj (rowzI_obj n) hb)
            clear hb
            have hlne : ((((s.L.length : Int) + 1) : Int) != ((s.L.length : Int) + 1)) = false := by simp
            go_wp2
            go_roundw
            case rel => exact ⟨k + 1, { s with L := s.L ++ [⟨(c : Int), pkT (k : Int)⟩] }, _, _, by omega, by go_num, by rw [HLN.out], HSX, HSB, HPZ⟩
            case measure => simp [intOf]; omega
        by_cases hk1 : ok = 1
        · subst hk1
          clear hk0
          by_cases hL : s.L = []
          · have HTA : Hid (s.take = (s, pk0, false)) := Lib.hid (Bq.take_nil hL)
            have HL0 : Hid (s.L.length = 0) := Lib.hid (by rw [hL]; rfl)
            rw [HL0.out]
            clear hL
            have HTK : Hid (s.tk = (pk0, 6)) := Lib.hid (by unfold Bq.tk; rw [HTA.out]; rfl)
            go_wp2_with fail
            refine (HA.out.take HPa.out.a.inv HS.out).mono ?_
            rintro e w2 ⟨he, O3, hi, hk9, hg⟩
            rw [HTK.out] at he
            rw [HTA.out] at hi
            simp only at he hi
            subst he
            have HP2 := Lib.hid ((HPa.out.stepA HA.out.obj (rowzI_obj n) hi hk9 hg).later HA.out.obj (rowzI_obj n) ((Below.refl w2.heap.size w2).alloc (Nat.le_refl _) (.cells #[.int .i64 0, .int .i64 0, .int .i64 0, .string (ByteArray.mk #[]), .int .i64 0, .int .i64 0, .bool false] 32)))
            clear hi hk9 hg a0 a1 a2 a3 a4 a5 a6 a7 a8
            go_wp2
            go_roundw
            case rel => exact ⟨k + 1, s, _, _, by omega, by go_num, by rw [HL0.out]; first | done | rfl, HS, HSB, HP2⟩
            case measure => simp [intOf]; omega
          · have hlp : 0 < s.L.length := List.length_pos_iff.2 hL
            by_cases hst : s.st = true
            · have HTA : Hid (s.take = (s, pk0, false)) := Lib.hid (Bq.take_stop hst)
              have HST := Lib.hid hst
              obtain ⟨nl, hnl⟩ : ∃ nl, s.L.length = nl := ⟨_, rfl⟩
              have HL0 := Lib.hid hnl
              rw [hnl] at hlp hsl ⊢
              have hz0 : decide (0 < (nl : Int)) = true := decide_eq_true (by omega)
              have hz1 : decide (0 < nl) = true := decide_eq_true hlp
              clear hL hst hnl
              have HTK : Hid (s.tk = (pk0, 6)) := Lib.hid (by unfold Bq.tk; rw [HTA.out]; rfl)
              go_wp2_with fail
              refine (HA.out.take HPa.out.a.inv HS.out).mono ?_
              rintro e w2 ⟨he, O3, hi, hk9, hg⟩
              rw [HTK.out] at he
              rw [HTA.out] at hi
              simp only at he hi
              subst he
              have HP2 := Lib.hid ((HPa.out.stepA HA.out.obj (rowzI_obj n) hi hk9 hg).later HA.out.obj (rowzI_obj n) ((Below.refl w2.heap.size w2).alloc (Nat.le_refl _) (.cells #[.int .i64 0, .int .i64 0, .int .i64 0, .string (ByteArray.mk #[]), .int .i64 0, .int .i64 0, .bool false] 32)))
              clear hi hk9 hg a0 a1 a2 a3 a4 a5 a6 a7 a8
              go_wp2_with fail
              refine (HA.out.stopped HP2.out.a.inv HS.out).mono ?_
              rintro e w3 ⟨he, hb⟩
              rw [HST.out] at he
              subst he
              have HP3 := Lib.hid (HP2.out.later HA.out.obj (rowzI_obj n) hb)
              clear hb
              go_wp2
              go_roundw
              case rel => exact ⟨k + 1, s, _, _, by omega, by go_num, by rw [HL0.out]; first | done | rfl, HS, HSB, HP3⟩
              case measure => simp [intOf]; omega
            · obtain ⟨c, q1, q2, q3, q4, q5⟩ := Bq.take_rows HS.out (by simpa using hst) hL
              obtain ⟨g1, g2, g3, g4, g5⟩ := Bq.take_all HS.out (by simpa using hst) hL
              obtain ⟨X, hX⟩ : ∃ X, s.take = X := ⟨_, rfl⟩
              have hcn : c < n := by have := HSB.out; omega
              have HSX := Lib.hid HS.out.take
              have HTK : Hid (s.tk = (s.take.2.1, 0)) := Lib.hid (by unfold Bq.tk; rw [if_pos g1])
              have HSBX : Hid (s.take.1.bands = (n : Int)) := Lib.hid (by rw [g4]; exact HSB.out)
              have HLN : Hid ((s.take.1.L.length : Int) = (s.L.length : Int) - 1) := Lib.hid (by omega)
              have HTG : Hid (tagsW s.take.1.L n = (tagsW s.L n).set c ((bandF s.take.1.L c).map fun p => p.tag)) := Lib.hid (tagsW_set rfl q4)
              have HQ2 := Lib.hid q2
              have HQ3 := Lib.hid q3
              rw [hX] at HSX HTK HSBX HLN HTG HQ3
              have HX := Lib.hid hX
              obtain ⟨sX, pX, iX⟩ := X
              simp only at HSX HTK HSBX HLN HTG HQ3
              generalize hTe : ((bandF sX.L c).map fun p => p.tag) = T' at HTG
              have HTE := Lib.hid hTe
              have HTC : Hid (((bandF s.L c).map fun p => p.tag) = pX.tag :: T') := Lib.hid (by rw [HQ3.out, List.map_cons, hTe])
              clear hX hL hst q1 q2 q3 q4 q5 g1 g2 g3 g4 g5 hTe
              go_wp2_with fail
              refine (HA.out.take HPa.out.a.inv HS.out).mono ?_
              rintro e w2 ⟨he, O3, hi, hk9, hg⟩
              rw [HTK.out] at he
              rw [HX.out] at hi
              simp only at he hi
              subst he
              have HP3 := Lib.hid ((HPa.out.stepA HA.out.obj (rowzI_obj n) hi hk9 hg).later HA.out.obj (rowzI_obj n) ((Below.refl w2.heap.size w2).alloc (Nat.le_refl _) (.cells #[.int .i64 pX.f.i, .int .i64 pX.f.n, .int .i64 pX.f.l, .string pX.f.d, .int .i64 pX.fr, .int .i64 pX.tag, .bool pX.lp] 32)))
              have HB3 := Lib.hid (BoxP.made w2 pX)
              clear hi hk9 hg a0 a1 a2 a3 a4 a5 a6 a7 a8
              go_upto_region 20 with fail
              generalize w2.alloc _ = wt at HP3 HB3 ⊢
              generalize w2.heap.size = zb at HB3 ⊢
              obtain ⟨ws, hO2, hWl, hm⟩ := RowzI.out HP3.out.b.inv
              have HM := Lib.hid hm
              have HO2 := Lib.hid hO2
              have HWL : Hid (ws.length = n) := Lib.hid (by rw [hm.len, hWl])
              clear hO2 hWl hm
              have hcn2 : (c : Int) < (n : Int) := by omega
              go_wp2
              go_loop [16] (fun i => ∃ b : Nat, b ≤ c ∧ i = .int .i64 b) (fun i => c - (intOf i).toNat)
              case atStart => exact ⟨0, Nat.zero_le _, rfl⟩
              case round =>
                obtain ⟨b, hb, rfl⟩ := hrel
                have hbn : (b : Int) < (n : Int) := by omega
                obtain ⟨u, hu⟩ : ∃ u, ws[b]? = some u := ⟨_, List.getElem?_eq_getElem (by rw [HWL.out]; omega)⟩
                have HRW := HM.out.row b u _ hu (tagsW_get s.L (by omega))
                obtain ⟨z0, z1⟩ := HM.out.wait hu
                by_cases hbc : b < c
                · obtain ⟨Ab, cb, hsh⟩ := HRW.shape
                  rw [HQ2.out b hbc, List.map_nil, List.length_nil] at hsh
                  subst hsh
                  clear HRW hu
                  go_wp2
                  exact ⟨⟨b + 1, by omega, by go_num⟩, by simp [intOf]; omega⟩
                · obtain rfl : b = c := by omega
                  rw [HTC.out] at HRW
                  obtain ⟨gq, oq, cq, hsh⟩ := HRW.formN (by simp)
                  rw [List.length_cons] at hsh
                  subst hsh
                  have HU := Lib.hid hu
                  have m0 := (SlG.at_ (HRW.sl inC_len (by
                    rw [← HTC.out, List.length_map]; unfold bandF; rw [List.length_map]
                    have h9 := List.length_filter_le (fun o : On => o.b == (b : Int)) s.L
                    unfold maxLen; omega)) (i := 0) (by simp))
                  obtain ⟨x0, c0, e0, _, m1⟩ := m0
                  injection e0 with e0 e1 e2
                  injection e0 with e0
                  subst e0
                  clear e1 e2
                  have m2 := m1 0 _ rfl
                  simp only [Nat.zero_mul, qaddr, Nat.add_zero, List.getElem_cons_zero] at m2
                  obtain ⟨d0, d1, d2, d3, d4, d5, d6⟩ := HB3.out.cells
                  have HRWh := Lib.hid HRW
                  have hbe : ((b : Int) == (n : Int)) = false := beq_eq_false_iff_ne.2 (by omega)
                  have hbe2 : (pX.tag != pX.tag) = false := by simp
                  clear HRW hu m1 hb hbc hlp hcn2
                  go_upto_region 26 with fail
                  go_quiet (fail)
                  generalize hwu : wt.drewN _ = wu
                  have HBU : Hid (Below wt.heap.size wt wu) := Lib.hid (by rw [← hwu]; exact below_drewN (Below.refl _ _) _)
                  clear hwu d0 d1 d2 d3 d4 d5 d6 m2 z0 z1
                  have HP4 := Lib.hid (HP3.out.later HA.out.obj (rowzI_obj n) HBU.out)
                  have HMU := Lib.hid (HM.out.stay (w' := wu) (fun x hx => HBU.out.block x (HM.out.lt x hx)))
                  obtain ⟨z0, z1⟩ := HMU.out.wait HU.out
                  have y0 := z0
                  have y1 := z1
                  obtain ⟨xq, hxq, _, hcq, HRT⟩ := (HRWh.out.later HBU.out).tail inC_len
                  injection hxq with hxq
                  subst hxq
                  by_cases hq1 : cq = 1
                  · skip
                    clear hcq; subst hq1; rw [if_pos rfl] at HRT
                    have HRT2 : Hid (RowQ inC 1 wu (.slice (some ⟨gq, oq, none⟩) T'.length 0) T') := Lib.hid HRT
                    have hset := HMU.out.set HU.out HRT2.out (Kept.refl _ _) (fun x hx => .inl hx)
                    have HP5 := Lib.hid (HP4.out.stepB HA.out.obj (rowzI_obj n) (t' := tagsW sX.L n) (by rw [HTG.out]; exact ⟨gr, _, rfl, rfl, by rw [List.length_set, tagsW_len], hset.1⟩) (by rw [HO2.out]; exact hset.2.1) (by rw [HO2.out]; exact hset.2.2))
                    go_upto_region 29 with fail
                    generalize wu.setCell _ _ = wv at HP5 ⊢
                    clear hset y0 y1 z0 z1
                    go_wp2_with fail
                    refine (HA.out.len HP5.out.a.inv HSX.out).mono ?_
                    rintro e wz ⟨he, hb⟩
                    rw [HLN.out] at he
                    subst he
                    have HPZ := Lib.hid (HP5.out.later HA.out.obj (rowzI_obj n) hb)
                    clear hb
                    have hlne : ((((s.L.length : Int) - 1) : Int) != ((s.L.length : Int) - 1)) = false := by simp
                    go_wp2
                    go_roundw
                    case rel => exact ⟨k + 1, sX, _, _, by omega, by go_num, by rw [HLN.out], HSX, HSBX, HPZ⟩
                    case measure => simp [intOf]; omega
                  · skip
                    rw [if_neg hq1, qaddr] at HRT
                    have HRT2 : Hid (RowQ inC 1 wu (.slice (some ⟨gq, oq + 1, none⟩) T'.length (cq - 1)) T') := Lib.hid HRT
                    have hset := HMU.out.set HU.out HRT2.out (Kept.refl _ _) (fun x hx => .inl hx)
                    have HP5 := Lib.hid (HP4.out.stepB HA.out.obj (rowzI_obj n) (t' := tagsW sX.L n) (by rw [HTG.out]; exact ⟨gr, _, rfl, rfl, by rw [List.length_set, tagsW_len], hset.1⟩) (by rw [HO2.out]; exact hset.2.1) (by rw [HO2.out]; exact hset.2.2))
                    go_upto_region 29 with fail
                    generalize wu.setCell _ _ = wv at HP5 ⊢
                    clear hset y0 y1 z0 z1
                    go_wp2_with fail
                    refine (HA.out.len HP5.out.a.inv HSX.out).mono ?_
                    rintro e wz ⟨he, hb⟩
                    rw [HLN.out] at he
                    subst he
                    have HPZ := Lib.hid (HP5.out.later HA.out.obj (rowzI_obj n) hb)
                    clear hb
                    have hlne : ((((s.L.length : Int) - 1) : Int) != ((s.L.length : Int) - 1)) = false := by simp
                    go_wp2
                    go_roundw
                    case rel => exact ⟨k + 1, sX, _, _, by omega, by go_num, by rw [HLN.out], HSX, HSBX, HPZ⟩
                    case measure => simp [intOf]; omega
        by_cases hk2 : ok = 2
        · subst hk2
          clear hk0 hk1
          have HSX := Lib.hid (HS.out.stop true)
          go_wp2_with fail
          refine (HA.out.stop HPa.out.a.inv HS.out).mono ?_
          rintro e w2 ⟨rfl, O3, hi, hk9, hg⟩
          have HP2 := Lib.hid (HPa.out.stepA HA.out.obj (rowzI_obj n) hi hk9 hg)
          clear hi hk9 hg a0 a1 a2 a3 a4 a5 a6 a7 a8
          go_wp2_with fail
          refine (HA.out.len HP2.out.a.inv HSX.out).mono ?_
          rintro e wz ⟨he, hb⟩
          have he : e = .returned (.int .i64 (s.L.length : Nat)) := he
          subst he
          have HPZ := Lib.hid (HP2.out.later HA.out.obj (rowzI_obj n) hb)
          clear hb
          have hlne : (((s.L.length : Nat) : Int) != (s.L.length : Nat)) = false := by simp
          go_wp2
          go_roundw
          case rel => exact ⟨k + 1, { s with st := true }, _, _, by omega, by go_num, rfl, HSX, HSB, HPZ⟩
          case measure => simp [intOf]; omega
        by_cases hk3 : ok = 3
        · subst hk3
          clear hk0 hk1 hk2
          have HSX := Lib.hid (HS.out.stop false)
          go_wp2_with fail
          refine (HA.out.wake HPa.out.a.inv HS.out).mono ?_
          rintro e w2 ⟨rfl, O3, hi, hk9, hg⟩
          have HP2 := Lib.hid (HPa.out.stepA HA.out.obj (rowzI_obj n) hi hk9 hg)
          clear hi hk9 hg a0 a1 a2 a3 a4 a5 a6 a7 a8
          go_wp2_with fail
          refine (HA.out.len HP2.out.a.inv HSX.out).mono ?_
          rintro e wz ⟨he, hb⟩
          have he : e = .returned (.int .i64 (s.L.length : Nat)) := he
          subst he
          have HPZ := Lib.hid (HP2.out.later HA.out.obj (rowzI_obj n) hb)
          clear hb
          have hlne : (((s.L.length : Nat) : Int) != (s.L.length : Nat)) = false := by simp
          go_wp2
          go_roundw
          case rel => exact ⟨k + 1, { s with st := false }, _, _, by omega, by go_num, rfl, HSX, HSB, HPZ⟩
          case measure => simp [intOf]; omega
        have k0 : (ok == 0) = false := by simp [hk0]
        have k1 : (ok == 1) = false := by simp [hk1]
        have k2 : (ok == 2) = false := by simp [hk2]
        have k3 : (ok == 3) = false := by simp [hk3]
        clear hk0 hk1 hk2 hk3
        go_wp2_with fail
        refine (HA.out.len HPa.out.a.inv HS.out).mono ?_
        rintro e wz ⟨he, hb⟩
        have he : e = .returned (.int .i64 (s.L.length : Nat)) := he
        subst he
        have HPZ := Lib.hid (HPa.out.later HA.out.obj (rowzI_obj n) hb)
        clear hb
        have hlne : (((s.L.length : Nat) : Int) != (s.L.length : Nat)) = false := by simp
        go_wp2
        go_roundw
        case rel => exact ⟨k + 1, s, _, _, by omega, by go_num, rfl, HS, HSB, HPZ⟩
        case measure => simp [intOf]; omega
      · obtain rfl : k = L.length := by omega
        go_wp2_with fail
        refine (bandalive HA.out _).mono ?_
        rintro e w14 ⟨rfl, hb⟩
        have HB14 := Lib.hid (fbelow_t HP.out.a.below hb)
        clear hb
        go_wp2
        go_ret
        exact ⟨rfl, HB14.out⟩
  · cases q <;> cases qa <;> cases qc
    all_goals first
      | exact absurd ⟨rfl, rfl, rfl⟩ hall
      | (go_wp2_with fail
         refine (bandalive HA.out _).mono ?_
         rintro e w1 ⟨rfl, hb⟩
         go_wp2
         go_ret
         exact ⟨rfl, hb⟩)
end Go.Proofs.Ytpljlpfoalcfmaa
