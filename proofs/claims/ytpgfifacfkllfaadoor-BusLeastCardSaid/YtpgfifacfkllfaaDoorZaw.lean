/- Bus: walk of BusLeast. Printed by gen_least.py. -/
import Derived.Test.YtpgfifacfkllfaaDoorZav
import Derived.Test.YtpgfifacfkllfaaDoorZao
import Derived.Deep.RegionWith
namespace Go.Proofs.YtpgfifacfkllfaaDoor
open Go.RowKit
set_option linter.unusedVariables false

theorem BoxF.lay {w : World} {b : Nat} {i n l i' n' l' : Int} {d d' : ByteArray} (h : BoxF w b i n l d) : BoxF ((((w.setCell ⟨b, 0, none⟩ (.int .i64 i')).setCell ⟨b, 1, none⟩ (.int .i64 n')).setCell ⟨b, 2, none⟩ (.int .i64 l')).setCell ⟨b, 3, none⟩ (.string d')) b i' n' l' d' := by
  have h1 := heap_setCell_same w b 0 _ _ (.int .i64 i') h
  have h2 := heap_setCell_same _ b 1 _ _ (.int .i64 n') h1
  have h3 := heap_setCell_same _ b 2 _ _ (.int .i64 l') h2
  have h4 := heap_setCell_same _ b 3 _ _ (.string d') h3
  exact h4
theorem below_set4 {w0 w : World} (h : Below w0.heap.size w0 w) {b : Nat} (hb : w0.heap.size ≤ b) (x0 x1 x2 x3 : Value) : Below w0.heap.size w0 ((((w.setCell ⟨b, 0, none⟩ x0).setCell ⟨b, 1, none⟩ x1).setCell ⟨b, 2, none⟩ x2).setCell ⟨b, 3, none⟩ x3) :=
  (((h.setCell (p := ⟨b, 0, none⟩) hb _).setCell (p := ⟨b, 1, none⟩) hb _).setCell (p := ⟨b, 2, none⟩) hb _).setCell (p := ⟨b, 3, none⟩) hb _
theorem BoxF.liveF {w : World} {b : Nat} {i n l : Int} {d : ByteArray} (h : BoxF w b i n l d) (o : Nat) : w.frozen? ⟨b, o, none⟩ = false := Lib.frozen_of_heap h o
theorem Bs.least_slot {s : Bs} {f : Fr} {hs an : Bool} {ls : Int} (h : s.least f hs s.N.length = (an, ls)) : (an = false ∧ (s.slot f hs false).2 = (0, 0, frz)) ∨ (an = true ∧ (s.slot f hs false).2.1 = 1 ∧ keyG (s.slot f hs false).2.2.2 = ls) := by
  unfold Bs.least at h
  injection h with h1 h2
  by_cases hb : 0 ≤ (s.best f hs s.N.length).1
  · rw [if_pos hb] at h2
    rw [decide_eq_true hb] at h1
    refine .inr ⟨h1.symm, ?_⟩
    unfold Bs.slot
    rw [if_neg (by omega), if_neg (by decide)]
    exact ⟨rfl, h2⟩
  · rw [decide_eq_false hb] at h1
    refine .inl ⟨h1.symm, ?_⟩
    unfold Bs.slot
    rw [if_pos (by omega)]
theorem Has.add {σ : Type} {I : World → Value → σ → (Nat → Prop) → Prop} (hI : IsObj I) {w0 w : World} {v : Value} {s : σ} {O : Nat → Prop} (h : Has I w0 v s O w) (b : Obj) : Has I w0 v s O (w.alloc b) := h.later hI ((Below.refl _ _).alloc (Nat.le_refl _) b)
theorem Has.stp {σ : Type} {I : World → Value → σ → (Nat → Prop) → Prop} (hI : IsObj I) {w0 w w' : World} {v : Value} {s s' : σ} {O : Nat → Prop} (h : Has I w0 v s O w) (hs : Stp I v O w s' w') : ∃ O', Has I w0 v s' O' w' := by
  obtain ⟨O', hi, hk, hg⟩ := hs
  exact ⟨O', h.step hI hi hk hg⟩
set_option maxRecDepth 4000 in
set_option maxHeartbeats 16000000 in
theorem busLeast_walk {T : World → Prop} {I : World → Value → Bs → (Nat → Prop) → Prop} (A : BusI T I) (nodes back : Int) (a : Option Addr) (len cap : Nat) (F : Nat → List Value) (w : World) (wn : (Lit.int .i64 nodes).wf = true) (wb : (Lit.int .i64 back).wf = true) (hr : IsRowOf w op6Sh a len cap F) (hT : T w) :
    Calls Tryd.prog 4 #[.int .i64 nodes, .int .i64 back, .slice a len cap] w fun e w' => e = .returned (.bool true) ∧ Below w.heap.size w w' := by
  obtain ⟨L, hL, hlen, hf⟩ := slice_of_row hr op6Of op6Of_c rfl (by decide)
  have HA := Lib.hid A
  have HT := Lib.hid hT
  have HV := Lib.hid hL
  have HX : Hid (∀ o ∈ L, o.fits) := Lib.hid (fun o h => op6_fits (hf o h))
  have HBK : Hid (-9223372036854775808 ≤ back ∧ back ≤ 9223372036854775807) := Lib.hid (wf_i64 wb)
  subst hlen
  clear A hT hL hr hf wn wb
  obtain ⟨q, hq⟩ : ∃ q, foB L = q := ⟨_, rfl⟩
  have HQ := Lib.hid hq
  clear hq
  go_enter Tryd.func4, Tryd.ntmps4
  go_wp2_with fail
  refine (fo_any w HV.out).mono ?_
  rintro e w' ⟨he, rfl⟩
  rw [HQ.out] at he
  subst he
  cases q
  · go_wp2_with fail
    refine (busalive HA.out _ HT.out).mono ?_
    rintro e w1 ⟨rfl, hb⟩
    go_wp2
    go_ret
    exact ⟨rfl, hb⟩
  have hl4 := foB_len HQ.out
  go_wp2_with fail
  refine (HA.out.new nodes back _ HBK.out HT.out).mono ?_
  rintro e w1 ⟨v, O, rfl, hi, hb, hn⟩
  have H0 : Hid (Has I w v (bsNew (nodesN nodes) back) O w1) := Lib.hid ⟨hi, hb, hn⟩
  have HOK := Lib.hid (Bs.Ok.new nodes back HBK.out)
  clear hi hb hn
  go_wp2_with fail
  go_loopw [29] (fun i wr => ∃ (k : Nat) (s : Bs) (O : Nat → Prop), k ≤ L.length ∧ i = .int .i64 k ∧ s.sl ≤ k ∧ Hid s.Ok ∧ Hid (Has I w v s O wr)) (fun i _ => L.length - (intOf i).toNat)
  case atStart => exact ⟨0, _, O, by omega, rfl, Int.le_refl _, HOK, H0⟩
  case round =>
    obtain ⟨wo, rfl⟩ : ∃ wo : World, wo = wr := ⟨_, rfl⟩
    obtain ⟨k, s, O1, hk, rfl, hsl, HS, HP⟩ := hrel
    by_cases hlt : k < L.length
    · have hkl : (k : Int) < (L.length : Int) := by omega
      obtain ⟨x, c1, hv1, hxb, hcell⟩ := SlG.at_ (HV.out.later HP.out.below) hlt
      injection hv1 with hAA _ hcap
      subst hAA hcap
      have a0 : wo.cell? (x.add (k * 6)) = some (.int .i64 (L[k]'hlt).k) := hcell 0 _ rfl
      have a1 : wo.cell? ⟨(x.add (k * 6)).block, (x.add (k * 6)).off + 1, none⟩ = some (.int .i64 (L[k]'hlt).m) := hcell 1 _ rfl
      have a2 : wo.cell? ⟨(x.add (k * 6)).block, (x.add (k * 6)).off + 2, none⟩ = some (.int .i64 (L[k]'hlt).f.i) := hcell 2 _ rfl
      have a3 : wo.cell? ⟨(x.add (k * 6)).block, (x.add (k * 6)).off + 3, none⟩ = some (.int .i64 (L[k]'hlt).f.n) := hcell 3 _ rfl
      have a4 : wo.cell? ⟨(x.add (k * 6)).block, (x.add (k * 6)).off + 4, none⟩ = some (.int .i64 (L[k]'hlt).f.l) := hcell 4 _ rfl
      have a5 : wo.cell? ⟨(x.add (k * 6)).block, (x.add (k * 6)).off + 5, none⟩ = some (.string (L[k]'hlt).f.d) := hcell 5 _ rfl
      have HFX := Lib.hid (HX.out _ (List.getElem_mem hlt))
      generalize L[k]'hlt = o at a0 a1 a2 a3 a4 a5 HFX
      obtain ⟨ok, om, f⟩ := o
      simp only at a0 a1 a2 a3 a4 a5
      clear hcell hxb
      go_upto_region 7 with fail
      have HB9 := Lib.hid (BoxO.made wo ⟨ok, om, f⟩)
      have HP9 := Lib.hid (HP.out.add HA.out.obj (.cells #[.int .i64 ok, .int .i64 om, .int .i64 f.i, .int .i64 f.n, .int .i64 f.l, .string f.d] 32))
      generalize wo.alloc (.cells #[.int .i64 ok, .int .i64 om, .int .i64 f.i, .int .i64 f.n, .int .i64 f.l, .string f.d] 32) = w9 at HB9 HP9 ⊢
      generalize wo.heap.size = b9 at HB9 ⊢
      clear a0 a1 a2 a3 a4 a5
      obtain ⟨a0, a1, a2, a3, a4, a5⟩ := HB9.out.cells
      simp only at a0 a1 a2 a3 a4 a5
      have hb9 := HB9.out.lt
      by_cases hk0 : ok = 0
      · subst hk0
        go_wp2_with fail
        refine (HA.out.offer om f HP9.out.inv HS.out (HA.out.tab HT.out HP9.out.below) HFX.out).mono ?_
        rintro e w10 ⟨rfl, hs⟩
        obtain ⟨O2, hp⟩ := HP9.out.stp HA.out.obj hs
        have HP10 := Lib.hid hp
        have HS10 := Lib.hid (HS.out.offer om f)
        have hsl2 : (s.offer om f).1.sl ≤ ((k + 1 : Nat) : Int) := by rw [Bs.sl_offer]; omega
        clear hs hp a0 a1 a2 a3 a4 a5 hb9
        go_wp2
        go_roundw
        case rel => exact ⟨k + 1, _, O2, by omega, by go_num, hsl2, HS10, HP10⟩
        case measure => simp [intOf]; omega
      by_cases hk1 : ok = 1
      · subst hk1
        go_wp2_with fail
        refine (HA.out.nodes HP9.out.inv).mono ?_
        rintro e w10 ⟨rfl, hb⟩
        have HP10 := Lib.hid (HP9.out.later HA.out.obj hb)
        have HB10 := Lib.hid (HB9.out.later hb)
        clear hb a0 a1 a2 a3 a4 a5 hb9
        have hN2 : (s.N.length : Int) ≤ 32 := by have := HS.out.n2; omega
        have HL0 := Lib.hid (Bs.least_zero s f true)
        go_wp2_with fail
        go_loopw [10, 11, 56] (fun ls an i wr => ∃ (j : Nat) (b : Bool) (z : Int), j ≤ s.N.length ∧ i = .int .i64 j ∧ ls = .int .i64 z ∧ an = .bool b ∧ Hid (s.least f true j = (b, z)) ∧ Hid (Below w10.heap.size w10 wr)) (fun _ _ i _ => s.N.length - (intOf i).toNat)
        case atStart => exact ⟨0, false, 0, by omega, rfl, rfl, rfl, HL0, Lib.hid (Below.refl _ _)⟩
        case round =>
          obtain ⟨j, an, ls, hj, rfl, rfl, rfl, HLS, HBJ⟩ := hrel
          by_cases hjt : j < s.N.length
          · have hjl : (j : Int) < (s.N.length : Int) := by omega
            have HPj := Lib.hid (HP10.out.later HA.out.obj HBJ.out)
            have HBj := Lib.hid (HB10.out.later HBJ.out)
            obtain ⟨a0, a1, a2, a3, a4, a5⟩ := HBj.out.cells
            simp only at a0 a1 a2 a3 a4 a5
            have hb9 := HBj.out.lt
            go_upto_region 15 with fail
            go_region
            have HB12 := Lib.hid (((Below.refl wr.heap.size wr).alloc (Nat.le_refl _) (.cells #[.int .i64 f.i, .int .i64 f.n, .int .i64 f.l, .string f.d] 30)).drew)
            have HG12 : Hid (BoxF (wr.alloc (.cells #[.int .i64 f.i, .int .i64 f.n, .int .i64 f.l, .string f.d] 30)).drew wr.heap.size f.i f.n f.l f.d) := Lib.hid (BoxF.made wr f.i f.n f.l f.d)
            generalize (wr.alloc (.cells #[.int .i64 f.i, .int .i64 f.n, .int .i64 f.l, .string f.d] 30)).drew = w12 at HB12 HG12 ⊢
            generalize hgg : wr.heap.size = g at HG12 ⊢
            have hgw : wr.heap.size ≤ g := Nat.le_of_eq hgg
            clear hgg
            clear a0 a1 a2 a3 a4 a5 hb9
            have HP12 := Lib.hid (HPj.out.later HA.out.obj HB12.out)
            obtain ⟨LW, hLW⟩ : ∃ LW, s.W[j]? = some LW := ⟨_, List.getElem?_eq_getElem (by rw [HS.out.lw]; exact hjt)⟩
            have HLW := Lib.hid hLW
            obtain ⟨c, hc⟩ : ∃ c, s.N[j]? = some c := ⟨_, List.getElem?_eq_getElem hjt⟩
            have HC := Lib.hid hc
            clear hc hLW
            go_wp2_with fail
            refine (HA.out.waits j LW HP12.out.inv HLW.out).mono ?_
            rintro e w13 ⟨u, rfl, hu, hb13⟩
            have HP13 := Lib.hid (HP12.out.later HA.out.obj hb13)
            have HG13 := Lib.hid (HG12.out.later hb13)
            have HB13 := Lib.hid (fbelow_t HB12.out hb13)
            have HU := Lib.hid hu.1.sl
            clear hu hb13
            obtain ⟨AU, cu, hus, hmu, _⟩ := HU.out
            subst hus
            by_cases hj0 : j = 0
            · have hjp : ¬ (0 : Int) < (j : Int) := by omega
              have HH : Hid (s.has f true j = (true && decide (0 ≤ keyG f)) ∧ s.x f j = f) := Lib.hid (by rw [hj0]; exact ⟨rfl, rfl⟩)
              clear hj0 hmu HLW HU
              go_wp2_with fail
              have HPx := Lib.hid (HPj.out.later HA.out.obj HB13.out)
              obtain ⟨ct, cr, co, cd⟩ := c
              refine (HA.out.conf j ⟨ct, cr, co, cd⟩ HPx.out.inv HC.out).mono ?_
              rintro e w14 ⟨rfl, hb14⟩
              have HG14 := Lib.hid (HG13.out.later hb14)
              have HB14 := Lib.hid (fbelow_t HB13.out hb14)
              clear hb14 HPx
              obtain ⟨x0, x1, x2, x3⟩ := HG14.out.cells
              have hgl := HG14.out.lt
              obtain ⟨kx, hkx⟩ : ∃ z, keyG f = z := ⟨_, rfl⟩
              have HKX := Lib.hid hkx
              clear hkx
              have HOF : Hid (s.off j = co) := Lib.hid (by unfold Bs.off; rw [List.getD_eq_getElem?_getD, HC.out]; rfl)
              have HSUC : Hid (s.least f true (j + 1) = if ((true && decide (0 ≤ kx)) && (!co && (!an || decide (kx < ls)))) then (true, kx) else (an, ls)) := Lib.hid (by rw [Bs.least_succ, HH.out.1, HH.out.2, HLS.out, HOF.out, HKX.out])
              go_wp2_with fail
              have hal := (Below.refl w14.heap.size w14).alloc (Nat.le_refl _) (.cells #[.int .i64 ct, .int .i64 cr, .bool co, .int .i64 cd] 42)
              have HB15 := Lib.hid (fbelow_t HB14.out hal)
              have HCB := Lib.hid (BoxC.made w14 ct cr co cd)
              clear hal x0 x1 x2 x3 hgl
              generalize w14.alloc (.cells #[.int .i64 ct, .int .i64 cr, .bool co, .int .i64 cd] 42) = w15 at HB15 HCB ⊢
              generalize w14.heap.size = gc at HCB ⊢
              refine (rkey_v HKX.out _).mono ?_
              rintro e w16 ⟨rfl, hb16⟩
              have HB16 := Lib.hid (fbelow_t HB15.out hb16)
              obtain ⟨q0, q1, q2, q3⟩ := (HCB.out.later hb16).cells
              have hgc := (HCB.out.later hb16).lt
              clear hb16
              by_cases hk0 : 0 ≤ kx
              all_goals (
                cases co
                all_goals (
                  cases an
                  all_goals (
                    by_cases hkz : kx < ls
                    all_goals (
                      go_wp2
                      go_roundw
                      case rel => exact ⟨j + 1, _, _, by omega, by go_num, rfl, rfl, Lib.hid (by rw [HSUC.out] <;> (try simp [hk0, hkz]) <;> (try (intros; omega))), Lib.hid (fbelow_t HBJ.out HB16.out)⟩
                      case measure => simp [intOf]; omega))))
            · have hjp : (0 : Int) < (j : Int) := by omega
              cases LW with
              | nil =>
                have HH : Hid (s.has f true j = false) := Lib.hid (by unfold Bs.has; rw [if_neg hj0, List.getD_eq_getElem?_getD, HLW.out]; rfl)
                clear hj0 hmu HLW HU
                go_wp2_with fail
                have HPx := Lib.hid (HPj.out.later HA.out.obj HB13.out)
                obtain ⟨ct, cr, co, cd⟩ := c
                refine (HA.out.conf j ⟨ct, cr, co, cd⟩ HPx.out.inv HC.out).mono ?_
                rintro e w14 ⟨rfl, hb14⟩
                have HG14 := Lib.hid (HG13.out.later hb14)
                have HB14 := Lib.hid (fbelow_t HB13.out hb14)
                clear hb14 HPx
                obtain ⟨x0, x1, x2, x3⟩ := HG14.out.cells
                have hgl := HG14.out.lt
                obtain ⟨kx, hkx⟩ : ∃ z, keyG f = z := ⟨_, rfl⟩
                have HKX := Lib.hid hkx
                clear hkx
                have HOF : Hid (s.off j = co) := Lib.hid (by unfold Bs.off; rw [List.getD_eq_getElem?_getD, HC.out]; rfl)
                have HSUC : Hid (s.least f true (j + 1) = (an, ls)) := Lib.hid (by rw [Bs.least_succ, HH.out, HLS.out]; rfl)
                go_wp2_with fail
                have hal := (Below.refl w14.heap.size w14).alloc (Nat.le_refl _) (.cells #[.int .i64 ct, .int .i64 cr, .bool co, .int .i64 cd] 42)
                have HB15 := Lib.hid (fbelow_t HB14.out hal)
                have HCB := Lib.hid (BoxC.made w14 ct cr co cd)
                clear hal x0 x1 x2 x3 hgl
                generalize w14.alloc (.cells #[.int .i64 ct, .int .i64 cr, .bool co, .int .i64 cd] 42) = w15 at HB15 HCB ⊢
                generalize w14.heap.size = gc at HCB ⊢
                refine (rkey_v HKX.out _).mono ?_
                rintro e w16 ⟨rfl, hb16⟩
                have HB16 := Lib.hid (fbelow_t HB15.out hb16)
                obtain ⟨q0, q1, q2, q3⟩ := (HCB.out.later hb16).cells
                have hgc := (HCB.out.later hb16).lt
                clear hb16
                go_wp2
                go_roundw
                case rel => exact ⟨j + 1, _, _, by omega, by go_num, rfl, rfl, Lib.hid (by rw [HSUC.out]), Lib.hid (fbelow_t HBJ.out HB16.out)⟩
                case measure => simp [intOf]; omega
              | cons f0 M =>
                obtain ⟨y, cu', hv', hyb, hcell⟩ := SlG.at_ HU.out (show 0 < (f0 :: M).length by simp)
                injection hv' with hAA _ hcap
                subst hAA hcap
                have y0 : w13.cell? y = some (.int .i64 f0.i) := by simpa [Addr.add] using hcell 0 _ rfl
                have y1 : w13.cell? ⟨y.block, y.off + 1, none⟩ = some (.int .i64 f0.n) := by simpa [Addr.add] using hcell 1 _ rfl
                have y2 : w13.cell? ⟨y.block, y.off + 2, none⟩ = some (.int .i64 f0.l) := by simpa [Addr.add] using hcell 2 _ rfl
                have y3 : w13.cell? ⟨y.block, y.off + 3, none⟩ = some (.string f0.d) := by simpa [Addr.add] using hcell 3 _ rfl
                obtain ⟨x0, x1, x2, x3⟩ := HG13.out.cells
                have z0 := HG13.out.liveF 0
                have z1 := HG13.out.liveF 1
                have z2 := HG13.out.liveF 2
                have z3 := HG13.out.liveF 3
                have hgl := HG13.out.lt
                clear hcell
                have HH : Hid (s.has f true j = true ∧ s.x f j = f0) := Lib.hid (by
                  unfold Bs.has Bs.x
                  rw [if_neg hj0, if_neg hj0, List.getD_eq_getElem?_getD, HLW.out]
                  exact ⟨rfl, rfl⟩)
                have HK0 : Hid (0 ≤ keyG f0) := Lib.hid (by have := HS.out.key HH.out.1; rw [HH.out.2] at this; exact this)
                obtain ⟨ln, hln⟩ : ∃ n, (f0 :: M).length = n := ⟨_, rfl⟩
                have hlp : (0 : Int) < (ln : Int) := by rw [← hln]; simp
                have hlm : (ln : Int) ≤ 9223372036854775807 := by rw [hln] at hmu; unfold maxLen at hmu; omega
                rw [hln]
                clear hln hmu HLW HU hj0
                go_wp2_with fail
                have HG13b := Lib.hid (HG13.out.lay (i' := f0.i) (n' := f0.n) (l' := f0.l) (d' := f0.d))
                have HB13b := Lib.hid (below_set4 HB13.out hgw (.int .i64 f0.i) (.int .i64 f0.n) (.int .i64 f0.l) (.string f0.d))
                clear x0 x1 x2 x3 y0 y1 y2 y3 z0 z1 z2 z3 hgl hyb HG13 HP13
                generalize World.setCell _ _ _ = w13b at HG13b HB13b ⊢
                have HPx := Lib.hid (HPj.out.later HA.out.obj HB13b.out)
                obtain ⟨ct, cr, co, cd⟩ := c
                refine (HA.out.conf j ⟨ct, cr, co, cd⟩ HPx.out.inv HC.out).mono ?_
                rintro e w14 ⟨rfl, hb14⟩
                have HG14 := Lib.hid (HG13b.out.later hb14)
                have HB14 := Lib.hid (fbelow_t HB13b.out hb14)
                clear hb14 HPx
                obtain ⟨x0, x1, x2, x3⟩ := HG14.out.cells
                have hgl := HG14.out.lt
                obtain ⟨kx, hkx⟩ : ∃ z, keyG f0 = z := ⟨_, rfl⟩
                have HKX := Lib.hid hkx
                clear hkx
                have HOF : Hid (s.off j = co) := Lib.hid (by unfold Bs.off; rw [List.getD_eq_getElem?_getD, HC.out]; rfl)
                have HSUC : Hid (s.least f true (j + 1) = if (!co && (!an || decide (kx < ls))) then (true, kx) else (an, ls)) := Lib.hid (by rw [Bs.least_succ, HH.out.1, HH.out.2, HLS.out, HOF.out, HKX.out]; rfl)
                have hk0 : 0 ≤ kx := by rw [← HKX.out]; exact HK0.out
                go_wp2_with fail
                have hal := (Below.refl w14.heap.size w14).alloc (Nat.le_refl _) (.cells #[.int .i64 ct, .int .i64 cr, .bool co, .int .i64 cd] 42)
                have HB15 := Lib.hid (fbelow_t HB14.out hal)
                have HCB := Lib.hid (BoxC.made w14 ct cr co cd)
                clear hal x0 x1 x2 x3 hgl
                generalize w14.alloc (.cells #[.int .i64 ct, .int .i64 cr, .bool co, .int .i64 cd] 42) = w15 at HB15 HCB ⊢
                generalize w14.heap.size = gc at HCB ⊢
                refine (rkey_v HKX.out _).mono ?_
                rintro e w16 ⟨rfl, hb16⟩
                have HB16 := Lib.hid (fbelow_t HB15.out hb16)
                obtain ⟨q0, q1, q2, q3⟩ := (HCB.out.later hb16).cells
                have hgc := (HCB.out.later hb16).lt
                clear hb16
                cases co
                all_goals (
                  cases an
                  all_goals (
                    by_cases hkz : kx < ls
                    all_goals (
                      go_wp2
                      go_roundw
                      case rel => exact ⟨j + 1, _, _, by omega, by go_num, rfl, rfl, Lib.hid (by rw [HSUC.out] <;> (try simp [hkz]) <;> (try (intros; omega))), Lib.hid (fbelow_t HBJ.out HB16.out)⟩
                      case measure => simp [intOf]; omega)))
          · have hje : j = s.N.length := by omega
            rw [hje] at HLS
            have hjn : ¬ (j : Int) < (s.N.length : Int) := by omega
            have HPj := Lib.hid (HP10.out.later HA.out.obj HBJ.out)
            have HBj := Lib.hid (HB10.out.later HBJ.out)
            obtain ⟨a0, a1, a2, a3, a4, a5⟩ := HBj.out.cells
            simp only at a0 a1 a2 a3 a4 a5
            have hb9 := HBj.out.lt
            clear hje
            go_wp2_with fail
            refine (HA.out.slot f true false HPj.out.inv HS.out (by omega) (HA.out.tab HT.out HPj.out.below) HFX.out).mono ?_
            rintro e w11 ⟨he, hs⟩
            obtain ⟨O2, hp⟩ := HPj.out.stp HA.out.obj hs
            have HP11 := Lib.hid hp
            have HS11 := Lib.hid (HS.out.slot f true false)
            have hsl2 : (s.slot f true false).1.sl ≤ ((k + 1 : Nat) : Int) := by rw [Bs.sl_slot]; omega
            have HEV := Lib.hid (Bs.least_slot HLS.out)
            obtain ⟨⟨sX, kX, nX, ⟨iX, mX, lX, dX⟩⟩, hX⟩ : ∃ X, s.slot f true false = X := ⟨_, rfl⟩
            rw [hX] at he HP11 HS11 hsl2 HEV
            simp only [evV] at he HP11 HS11 hsl2 HEV
            clear hX hs hp a0 a1 a2 a3 a4 a5 hb9
            subst he
            rcases HEV.out with ⟨h1, h2⟩ | ⟨h1, h2, h3⟩
            · injection h2 with h2 h4
              injection h4 with h4 h5
              injection h5 with h5 h6 h7 h8
              subst h1 h2 h4 h5 h6 h7 h8
              have HP12 := Lib.hid (HP11.out.add HA.out.obj (.cells #[.int .i64 0, .int .i64 0, .int .i64 0, .int .i64 0, .int .i64 0, .string (ByteArray.mk #[])] 46))
              go_wp2
              go_roundw
              case rel => exact ⟨k + 1, sX, O2, by omega, by go_num, hsl2, HS11, HP12⟩
              case measure => simp [intOf]; omega
            · subst h1 h2
              have HKL := Lib.hid h3
              clear h3
              have HP12 := Lib.hid (HP11.out.add HA.out.obj (.cells #[.int .i64 1, .int .i64 nX, .int .i64 iX, .int .i64 mX, .int .i64 lX, .string dX] 46))
              go_wp2_with fail
              refine (rkey_v HKL.out _).mono ?_
              rintro e w13 ⟨rfl, hb13⟩
              have HP13 := Lib.hid (HP12.out.later HA.out.obj hb13)
              clear hb13
              go_wp2
              go_roundw
              case rel => exact ⟨k + 1, sX, O2, by omega, by go_num, hsl2, HS11, HP13⟩
              case measure => simp [intOf]; omega
      by_cases hk2 : ok = 2
      · subst hk2
        go_wp2_with fail
        refine (HA.out.nodes HP9.out.inv).mono ?_
        rintro e w10 ⟨rfl, hb⟩
        have HP10 := Lib.hid (HP9.out.later HA.out.obj hb)
        have HB10 := Lib.hid (HB9.out.later hb)
        clear hb a0 a1 a2 a3 a4 a5 hb9
        have hN2 : (s.N.length : Int) ≤ 32 := by have := HS.out.n2; omega
        have HL0 := Lib.hid (Bs.least_zero s f false)
        go_wp2_with fail
        go_loopw [10, 11, 56] (fun ls an i wr => ∃ (j : Nat) (b : Bool) (z : Int), j ≤ s.N.length ∧ i = .int .i64 j ∧ ls = .int .i64 z ∧ an = .bool b ∧ Hid (s.least f false j = (b, z)) ∧ Hid (Below w10.heap.size w10 wr)) (fun _ _ i _ => s.N.length - (intOf i).toNat)
        case atStart => exact ⟨0, false, 0, by omega, rfl, rfl, rfl, HL0, Lib.hid (Below.refl _ _)⟩
        case round =>
          obtain ⟨j, an, ls, hj, rfl, rfl, rfl, HLS, HBJ⟩ := hrel
          by_cases hjt : j < s.N.length
          · have hjl : (j : Int) < (s.N.length : Int) := by omega
            have HPj := Lib.hid (HP10.out.later HA.out.obj HBJ.out)
            have HBj := Lib.hid (HB10.out.later HBJ.out)
            obtain ⟨a0, a1, a2, a3, a4, a5⟩ := HBj.out.cells
            simp only at a0 a1 a2 a3 a4 a5
            have hb9 := HBj.out.lt
            go_upto_region 15 with fail
            go_region
            have HB12 := Lib.hid (((Below.refl wr.heap.size wr).alloc (Nat.le_refl _) (.cells #[.int .i64 f.i, .int .i64 f.n, .int .i64 f.l, .string f.d] 30)).drew)
            have HG12 : Hid (BoxF (wr.alloc (.cells #[.int .i64 f.i, .int .i64 f.n, .int .i64 f.l, .string f.d] 30)).drew wr.heap.size f.i f.n f.l f.d) := Lib.hid (BoxF.made wr f.i f.n f.l f.d)
            generalize (wr.alloc (.cells #[.int .i64 f.i, .int .i64 f.n, .int .i64 f.l, .string f.d] 30)).drew = w12 at HB12 HG12 ⊢
            generalize hgg : wr.heap.size = g at HG12 ⊢
            have hgw : wr.heap.size ≤ g := Nat.le_of_eq hgg
            clear hgg
            clear a0 a1 a2 a3 a4 a5 hb9
            have HP12 := Lib.hid (HPj.out.later HA.out.obj HB12.out)
            obtain ⟨LW, hLW⟩ : ∃ LW, s.W[j]? = some LW := ⟨_, List.getElem?_eq_getElem (by rw [HS.out.lw]; exact hjt)⟩
            have HLW := Lib.hid hLW
            obtain ⟨c, hc⟩ : ∃ c, s.N[j]? = some c := ⟨_, List.getElem?_eq_getElem hjt⟩
            have HC := Lib.hid hc
            clear hc hLW
            go_wp2_with fail
            refine (HA.out.waits j LW HP12.out.inv HLW.out).mono ?_
            rintro e w13 ⟨u, rfl, hu, hb13⟩
            have HP13 := Lib.hid (HP12.out.later HA.out.obj hb13)
            have HG13 := Lib.hid (HG12.out.later hb13)
            have HB13 := Lib.hid (fbelow_t HB12.out hb13)
            have HU := Lib.hid hu.1.sl
            clear hu hb13
            obtain ⟨AU, cu, hus, hmu, _⟩ := HU.out
            subst hus
            by_cases hj0 : j = 0
            · have hjp : ¬ (0 : Int) < (j : Int) := by omega
              have HH : Hid (s.has f false j = (false && decide (0 ≤ keyG f)) ∧ s.x f j = f) := Lib.hid (by rw [hj0]; exact ⟨rfl, rfl⟩)
              clear hj0 hmu HLW HU
              go_wp2_with fail
              have HPx := Lib.hid (HPj.out.later HA.out.obj HB13.out)
              obtain ⟨ct, cr, co, cd⟩ := c
              refine (HA.out.conf j ⟨ct, cr, co, cd⟩ HPx.out.inv HC.out).mono ?_
              rintro e w14 ⟨rfl, hb14⟩
              have HG14 := Lib.hid (HG13.out.later hb14)
              have HB14 := Lib.hid (fbelow_t HB13.out hb14)
              clear hb14 HPx
              obtain ⟨x0, x1, x2, x3⟩ := HG14.out.cells
              have hgl := HG14.out.lt
              obtain ⟨kx, hkx⟩ : ∃ z, keyG f = z := ⟨_, rfl⟩
              have HKX := Lib.hid hkx
              clear hkx
              have HOF : Hid (s.off j = co) := Lib.hid (by unfold Bs.off; rw [List.getD_eq_getElem?_getD, HC.out]; rfl)
              have HSUC : Hid (s.least f false (j + 1) = (an, ls)) := Lib.hid (by rw [Bs.least_succ, HH.out.1, HLS.out]; rfl)
              go_wp2_with fail
              have hal := (Below.refl w14.heap.size w14).alloc (Nat.le_refl _) (.cells #[.int .i64 ct, .int .i64 cr, .bool co, .int .i64 cd] 42)
              have HB15 := Lib.hid (fbelow_t HB14.out hal)
              have HCB := Lib.hid (BoxC.made w14 ct cr co cd)
              clear hal x0 x1 x2 x3 hgl
              generalize w14.alloc (.cells #[.int .i64 ct, .int .i64 cr, .bool co, .int .i64 cd] 42) = w15 at HB15 HCB ⊢
              generalize w14.heap.size = gc at HCB ⊢
              refine (rkey_v HKX.out _).mono ?_
              rintro e w16 ⟨rfl, hb16⟩
              have HB16 := Lib.hid (fbelow_t HB15.out hb16)
              obtain ⟨q0, q1, q2, q3⟩ := (HCB.out.later hb16).cells
              have hgc := (HCB.out.later hb16).lt
              clear hb16
              go_wp2
              go_roundw
              case rel => exact ⟨j + 1, _, _, by omega, by go_num, rfl, rfl, Lib.hid (by rw [HSUC.out]), Lib.hid (fbelow_t HBJ.out HB16.out)⟩
              case measure => simp [intOf]; omega
            · have hjp : (0 : Int) < (j : Int) := by omega
              cases LW with
              | nil =>
                have HH : Hid (s.has f false j = false) := Lib.hid (by unfold Bs.has; rw [if_neg hj0, List.getD_eq_getElem?_getD, HLW.out]; rfl)
                clear hj0 hmu HLW HU
                go_wp2_with fail
                have HPx := Lib.hid (HPj.out.later HA.out.obj HB13.out)
                obtain ⟨ct, cr, co, cd⟩ := c
                refine (HA.out.conf j ⟨ct, cr, co, cd⟩ HPx.out.inv HC.out).mono ?_
                rintro e w14 ⟨rfl, hb14⟩
                have HG14 := Lib.hid (HG13.out.later hb14)
                have HB14 := Lib.hid (fbelow_t HB13.out hb14)
                clear hb14 HPx
                obtain ⟨x0, x1, x2, x3⟩ := HG14.out.cells
                have hgl := HG14.out.lt
                obtain ⟨kx, hkx⟩ : ∃ z, keyG f = z := ⟨_, rfl⟩
                have HKX := Lib.hid hkx
                clear hkx
                have HOF : Hid (s.off j = co) := Lib.hid (by unfold Bs.off; rw [List.getD_eq_getElem?_getD, HC.out]; rfl)
                have HSUC : Hid (s.least f false (j + 1) = (an, ls)) := Lib.hid (by rw [Bs.least_succ, HH.out, HLS.out]; rfl)
                go_wp2_with fail
                have hal := (Below.refl w14.heap.size w14).alloc (Nat.le_refl _) (.cells #[.int .i64 ct, .int .i64 cr, .bool co, .int .i64 cd] 42)
                have HB15 := Lib.hid (fbelow_t HB14.out hal)
                have HCB := Lib.hid (BoxC.made w14 ct cr co cd)
                clear hal x0 x1 x2 x3 hgl
                generalize w14.alloc (.cells #[.int .i64 ct, .int .i64 cr, .bool co, .int .i64 cd] 42) = w15 at HB15 HCB ⊢
                generalize w14.heap.size = gc at HCB ⊢
                refine (rkey_v HKX.out _).mono ?_
                rintro e w16 ⟨rfl, hb16⟩
                have HB16 := Lib.hid (fbelow_t HB15.out hb16)
                obtain ⟨q0, q1, q2, q3⟩ := (HCB.out.later hb16).cells
                have hgc := (HCB.out.later hb16).lt
                clear hb16
                go_wp2
                go_roundw
                case rel => exact ⟨j + 1, _, _, by omega, by go_num, rfl, rfl, Lib.hid (by rw [HSUC.out]), Lib.hid (fbelow_t HBJ.out HB16.out)⟩
                case measure => simp [intOf]; omega
              | cons f0 M =>
                obtain ⟨y, cu', hv', hyb, hcell⟩ := SlG.at_ HU.out (show 0 < (f0 :: M).length by simp)
                injection hv' with hAA _ hcap
                subst hAA hcap
                have y0 : w13.cell? y = some (.int .i64 f0.i) := by simpa [Addr.add] using hcell 0 _ rfl
                have y1 : w13.cell? ⟨y.block, y.off + 1, none⟩ = some (.int .i64 f0.n) := by simpa [Addr.add] using hcell 1 _ rfl
                have y2 : w13.cell? ⟨y.block, y.off + 2, none⟩ = some (.int .i64 f0.l) := by simpa [Addr.add] using hcell 2 _ rfl
                have y3 : w13.cell? ⟨y.block, y.off + 3, none⟩ = some (.string f0.d) := by simpa [Addr.add] using hcell 3 _ rfl
                obtain ⟨x0, x1, x2, x3⟩ := HG13.out.cells
                have z0 := HG13.out.liveF 0
                have z1 := HG13.out.liveF 1
                have z2 := HG13.out.liveF 2
                have z3 := HG13.out.liveF 3
                have hgl := HG13.out.lt
                clear hcell
                have HH : Hid (s.has f false j = true ∧ s.x f j = f0) := Lib.hid (by
                  unfold Bs.has Bs.x
                  rw [if_neg hj0, if_neg hj0, List.getD_eq_getElem?_getD, HLW.out]
                  exact ⟨rfl, rfl⟩)
                have HK0 : Hid (0 ≤ keyG f0) := Lib.hid (by have := HS.out.key HH.out.1; rw [HH.out.2] at this; exact this)
                obtain ⟨ln, hln⟩ : ∃ n, (f0 :: M).length = n := ⟨_, rfl⟩
                have hlp : (0 : Int) < (ln : Int) := by rw [← hln]; simp
                have hlm : (ln : Int) ≤ 9223372036854775807 := by rw [hln] at hmu; unfold maxLen at hmu; omega
                rw [hln]
                clear hln hmu HLW HU hj0
                go_wp2_with fail
                have HG13b := Lib.hid (HG13.out.lay (i' := f0.i) (n' := f0.n) (l' := f0.l) (d' := f0.d))
                have HB13b := Lib.hid (below_set4 HB13.out hgw (.int .i64 f0.i) (.int .i64 f0.n) (.int .i64 f0.l) (.string f0.d))
                clear x0 x1 x2 x3 y0 y1 y2 y3 z0 z1 z2 z3 hgl hyb HG13 HP13
                generalize World.setCell _ _ _ = w13b at HG13b HB13b ⊢
                have HPx := Lib.hid (HPj.out.later HA.out.obj HB13b.out)
                obtain ⟨ct, cr, co, cd⟩ := c
                refine (HA.out.conf j ⟨ct, cr, co, cd⟩ HPx.out.inv HC.out).mono ?_
                rintro e w14 ⟨rfl, hb14⟩
                have HG14 := Lib.hid (HG13b.out.later hb14)
                have HB14 := Lib.hid (fbelow_t HB13b.out hb14)
                clear hb14 HPx
                obtain ⟨x0, x1, x2, x3⟩ := HG14.out.cells
                have hgl := HG14.out.lt
                obtain ⟨kx, hkx⟩ : ∃ z, keyG f0 = z := ⟨_, rfl⟩
                have HKX := Lib.hid hkx
                clear hkx
                have HOF : Hid (s.off j = co) := Lib.hid (by unfold Bs.off; rw [List.getD_eq_getElem?_getD, HC.out]; rfl)
                have HSUC : Hid (s.least f false (j + 1) = if (!co && (!an || decide (kx < ls))) then (true, kx) else (an, ls)) := Lib.hid (by rw [Bs.least_succ, HH.out.1, HH.out.2, HLS.out, HOF.out, HKX.out]; rfl)
                have hk0 : 0 ≤ kx := by rw [← HKX.out]; exact HK0.out
                go_wp2_with fail
                have hal := (Below.refl w14.heap.size w14).alloc (Nat.le_refl _) (.cells #[.int .i64 ct, .int .i64 cr, .bool co, .int .i64 cd] 42)
                have HB15 := Lib.hid (fbelow_t HB14.out hal)
                have HCB := Lib.hid (BoxC.made w14 ct cr co cd)
                clear hal x0 x1 x2 x3 hgl
                generalize w14.alloc (.cells #[.int .i64 ct, .int .i64 cr, .bool co, .int .i64 cd] 42) = w15 at HB15 HCB ⊢
                generalize w14.heap.size = gc at HCB ⊢
                refine (rkey_v HKX.out _).mono ?_
                rintro e w16 ⟨rfl, hb16⟩
                have HB16 := Lib.hid (fbelow_t HB15.out hb16)
                obtain ⟨q0, q1, q2, q3⟩ := (HCB.out.later hb16).cells
                have hgc := (HCB.out.later hb16).lt
                clear hb16
                cases co
                all_goals (
                  cases an
                  all_goals (
                    by_cases hkz : kx < ls
                    all_goals (
                      go_wp2
                      go_roundw
                      case rel => exact ⟨j + 1, _, _, by omega, by go_num, rfl, rfl, Lib.hid (by rw [HSUC.out] <;> (try simp [hkz]) <;> (try (intros; omega))), Lib.hid (fbelow_t HBJ.out HB16.out)⟩
                      case measure => simp [intOf]; omega)))
          · have hje : j = s.N.length := by omega
            rw [hje] at HLS
            have hjn : ¬ (j : Int) < (s.N.length : Int) := by omega
            have HPj := Lib.hid (HP10.out.later HA.out.obj HBJ.out)
            have HBj := Lib.hid (HB10.out.later HBJ.out)
            obtain ⟨a0, a1, a2, a3, a4, a5⟩ := HBj.out.cells
            simp only at a0 a1 a2 a3 a4 a5
            have hb9 := HBj.out.lt
            clear hje
            go_wp2_with fail
            refine (HA.out.slot f false false HPj.out.inv HS.out (by omega) (HA.out.tab HT.out HPj.out.below) HFX.out).mono ?_
            rintro e w11 ⟨he, hs⟩
            obtain ⟨O2, hp⟩ := HPj.out.stp HA.out.obj hs
            have HP11 := Lib.hid hp
            have HS11 := Lib.hid (HS.out.slot f false false)
            have hsl2 : (s.slot f false false).1.sl ≤ ((k + 1 : Nat) : Int) := by rw [Bs.sl_slot]; omega
            have HEV := Lib.hid (Bs.least_slot HLS.out)
            obtain ⟨⟨sX, kX, nX, ⟨iX, mX, lX, dX⟩⟩, hX⟩ : ∃ X, s.slot f false false = X := ⟨_, rfl⟩
            rw [hX] at he HP11 HS11 hsl2 HEV
            simp only [evV] at he HP11 HS11 hsl2 HEV
            clear hX hs hp a0 a1 a2 a3 a4 a5 hb9
            subst he
            rcases HEV.out with ⟨h1, h2⟩ | ⟨h1, h2, h3⟩
            · injection h2 with h2 h4
              injection h4 with h4 h5
              injection h5 with h5 h6 h7 h8
              subst h1 h2 h4 h5 h6 h7 h8
              have HP12 := Lib.hid (HP11.out.add HA.out.obj (.cells #[.int .i64 0, .int .i64 0, .int .i64 0, .int .i64 0, .int .i64 0, .string (ByteArray.mk #[])] 46))
              go_wp2
              go_roundw
              case rel => exact ⟨k + 1, sX, O2, by omega, by go_num, hsl2, HS11, HP12⟩
              case measure => simp [intOf]; omega
            · subst h1 h2
              have HKL := Lib.hid h3
              clear h3
              have HP12 := Lib.hid (HP11.out.add HA.out.obj (.cells #[.int .i64 1, .int .i64 nX, .int .i64 iX, .int .i64 mX, .int .i64 lX, .string dX] 46))
              go_wp2_with fail
              refine (rkey_v HKL.out _).mono ?_
              rintro e w13 ⟨rfl, hb13⟩
              have HP13 := Lib.hid (HP12.out.later HA.out.obj hb13)
              clear hb13
              go_wp2
              go_roundw
              case rel => exact ⟨k + 1, sX, O2, by omega, by go_num, hsl2, HS11, HP13⟩
              case measure => simp [intOf]; omega
      have e0 : (ok == 0) = false := by simp [hk0]
      have e1 : (ok != 1) = true := by simp [hk1]
      have e2 : (ok != 2) = true := by simp [hk2]
      go_upto_region 10 with fail
      have hcl : ∀ (n : Later w9) (b o : Nat), b < w9.heap.size → n.w.cell? ⟨b, o, none⟩ = w9.cell? ⟨b, o, none⟩ := later_cells w9
      refine wp_region_sec 3 [51] (fun _ u w' => ∃ O', BusD w' u (bsNew (nodesN 1) 1) O' ∧ ∀ k, O' k → w9.heap.size ≤ k) (fun _ _ _ _ h hb => by obtain ⟨O', h1, h2⟩ := h; exact ⟨O', isObj_bus.stay h1 (fun k hk => hb.block k (isObj_bus.lt h1 k hk)), h2⟩) (by kernel_rfl) (by kernel_rfl) (by kernel_rfl) (by kernel_rfl) (by kernel_rfl) ?_
      simp only [List.take_succ_cons, List.take_zero, List.drop_succ_cons, List.drop_zero]
      refine sec_plain (by rfl) (by rfl) (by rfl) (by rfl) ?_
      intro K hK
      go_big_quiet_op
      go_big_quiet_on
      refine sec_callF (f := 11) (args := #[.int .i64 1, .int .i64 1]) (by rfl) (by rfl) (by rfl) (by rfl) (by rfl) (fun w => by simp [go_sem]) ?_ ?_
      · intro q
        refine (bnew_v _).mono ?_
        rintro e w' ⟨u, O', he, hi, hb', hn⟩
        exact ⟨u, he, hb', O', hi, fun k hk => Nat.le_trans q.h.size (hn k hk)⟩
      simp only [Act.put, List.setIfInBounds_toArray, List.set_cons_succ, List.set_cons_zero]
      refine sec_plain (by rfl) (by rfl) (by rfl) (by rfl) ?_
      intro K hK
      go_big_quiet_op
      go_big_quiet_on
      intro xs m9 hF
      obtain ⟨O', hi, hn⟩ := hF 51 (by simp)
      simp only [secFill, Act.put, List.setIfInBounds_toArray, List.set_cons_succ, List.set_cons_zero]
      generalize xs 51 = v' at hi ⊢
      clear hF xs hcl a0 a1 a2 a3 a4 a5
      have HPP : Hid (Pair I BusD w v v' s (bsNew (nodesN 1) 1) O1 O' m9.w) :=
        Lib.hid ⟨HP9.out.later HA.out.obj m9.h, ⟨hi, fbelow_t HP9.out.below m9.h, fun k hk => Nat.le_trans HP9.out.below.size (hn k hk)⟩, fun k h1 h2 => by have := HA.out.obj.lt HP9.out.inv k h1; have := hn k h2; omega⟩
      clear hi hn
      generalize m9.w = w10 at HPP ⊢
      go_wp2_with fail
      refine (do_any (o := ⟨ok, om, f⟩) HA.out HPP.out HS.out (Bs.Ok.new 1 1 (by decide)) (by omega) (by decide) HT.out HFX.out).mono ?_
      rintro e w11 ⟨q, O3, O4, rfl, _, hp, _⟩
      have HP11 := Lib.hid hp.a
      have hsl2 := (s.sl_doOp ⟨ok, om, f⟩).1
      have HS11 := Lib.hid (HS.out.doOp ⟨ok, om, f⟩)
      clear hp hb9
      go_wp2
      go_roundw
      case rel => exact ⟨k + 1, s.doOp ⟨ok, om, f⟩, O3, by omega, by go_num, by omega, HS11, HP11⟩
      case measure => simp [intOf]; omega
    · obtain rfl : k = L.length := by omega
      go_wp2_with fail
      refine (busalive HA.out _ (HA.out.tab HT.out HP.out.below)).mono ?_
      rintro e w6 ⟨rfl, hb6⟩
      go_wp2
      go_ret
      exact ⟨rfl, fbelow_t HP.out.below hb6⟩
end Go.Proofs.YtpgfifacfkllfaaDoor
