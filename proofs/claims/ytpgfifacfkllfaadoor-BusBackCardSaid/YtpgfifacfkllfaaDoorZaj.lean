/- Bus, the document's side: Offer. -/
import Derived.Test.YtpgfifacfkllfaaDoorZai
import Derived.Test.YtpgfifacfkllfaaDoorZaf
import Derived.Test.YtpgfifacfkllfaaDoorZag
namespace Go.Proofs.YtpgfifacfkllfaaDoor
open Go.RowKit
set_option linter.unusedVariables false

/-- (behind a name: the walk would take it apart) -/
def NthV (ws : List Value) (j : Nat) (u : Value) : Prop := ws[j]? = some u
def keyG (f : Fr) : Int := keyV f.i f.n f.l f.d.size
theorem info_fr2 : (Tryd.prog.info? 30).map (fun i => (i.zero, i.size, i.bytes)) = some (some (.agg #[.int .i64 0, .int .i64 0, .int .i64 0, .string (ByteArray.mk #[])]), 4, 40) := by kernel_rfl
theorem flat_fr : FlatE Tryd.prog 39 30 4 40 := by
  obtain ⟨i0, hi, hz0, hz1, hz2⟩ := info_parts info_fr2
  exact ⟨Tryd.underlying39, i0, _, hi, hz0, hz1, hz2, rfl, by decide, by decide⟩
theorem frC_one : ∀ f : Fr, ∀ u ∈ frC f, u.oneCell' = true := fun f u hu => by
  simp only [frC, List.mem_cons, List.not_mem_nil, or_false] at hu
  rcases hu with rfl | rfl | rfl | rfl <;> rfl
theorem RowQ.form {α : Type} {c : α → List Value} {k : Nat} {w : World} {v : Value} {L : List α} {a : α} (h : RowQ c k w v (L ++ [a])) : ∃ g o cap, v = .slice (some ⟨g, o, none⟩) (L.length + 1) cap := by
  rcases h with ⟨_, h⟩ | ⟨g, o, cap, hv, _⟩
  · simp at h
  · exact ⟨g, o, cap, by rw [hv]; simp⟩
theorem RowQ.shape {α : Type} {c : α → List Value} {k : Nat} {w : World} {v : Value} {L : List α} (h : RowQ c k w v L) : ∃ A cap, v = .slice A L.length cap := by
  rcases h with ⟨rfl, rfl⟩ | ⟨g, o, cap, hv, _⟩
  · exact ⟨none, 0, rfl⟩
  · exact ⟨_, cap, hv⟩
def Bs.offer (s : Bs) (i : Int) (f : Fr) : Bs × Int :=
  if i < 1 ∨ (s.N.length : Int) ≤ i then (s, 2) else if keyG f < 0 then (s, 4) else if 1000 ≤ (s.W.getD i.toNat []).length then (s, 9)
  else ({ s with W := s.W.set i.toNat (s.W.getD i.toNat [] ++ [f]) }, 0)
theorem offer_done {w w1 w3 : World} {b gn gw j : Nat} {ws : List Value} {vl u v' : Value} {s : Bs} {L' : List Fr} {o : Obj} (h : BusM w1 b gn gw ws vl s) (hb : Below w.heap.size w w1) (hu : NthV ws j u) (hq : RowQ frC 4 w3 v' L') (hk : Kept (OwnO u) (w1.alloc o).drew w3) (hg : Grows (OwnO u) (w1.alloc o).drew (OwnO v')) :
    Stp BusD (.pointer (some ⟨b, 0, none⟩)) (busO b gn gw ws vl) w { s with W := s.W.set j L' } (w3.setCell ⟨gw, j, none⟩ v') := by
  have hbb := ((Below.refl w1.heap.size w1).alloc (Nat.le_refl _) o).drew
  have hb2 : Below w.heap.size w (w1.alloc o).drew := hb.trans (hbb.mono hb.size)
  obtain ⟨h1, h2⟩ := (h.later hbb).setWait hu hq hk hg
  have hgr : Grows (busO b gn gw ws vl) w (busO b gn gw (ws.set j v') vl) := fun k hk' => by
    rcases busO_set (b := b) (gn := gn) (gw := gw) (vl := vl) hu hg k hk' with h3 | h3
    · exact .inl h3
    · exact .inr (Nat.le_trans hb2.size h3)
  exact ⟨_, ⟨b, gn, gw, _, vl, rfl, rfl, h1⟩, (Kept.of_below (O := busO b gn gw ws vl) hb2).trans h2 (Grows.refl _ _), hgr⟩
set_option maxHeartbeats 16000000 in
theorem boffer_v {v : Value} {s : Bs} {O : Nat → Prop} {i : Int} {f : Fr} {k : Int} (w : World) (h : BusD w v s O) (hk : (s.offer i f).2 = k) (hN : s.N.length ≤ 32) :
    Calls Tryd.prog 25 #[v, .int .i64 i, .agg #[.int .i64 f.i, .int .i64 f.n, .int .i64 f.l, .string f.d]] w fun e w' => e = .returned (.int .i64 k) ∧ Stp BusD v O w (s.offer i f).1 w' := by
  obtain ⟨b, gn, gw, ws, vl, rfl, rfl, hm⟩ := h
  have HM := Lib.hid hm
  have HK := Lib.hid hk
  have hb0 := (Below.refl w.heap.size w).alloc (Nat.le_refl _) (.cells #[.int .i64 f.i, .int .i64 f.n, .int .i64 f.l, .string f.d] 30)
  have HB0 := Lib.hid hb0
  have HM0 := Lib.hid (hm.later hb0)
  have HF0 := Lib.hid (BoxF.made w f.i f.n f.l f.d)
  have same : ∀ w' : World, Below w.heap.size w w' → Stp BusD (.pointer (some ⟨b, 0, none⟩)) (busO b gn gw ws vl) w s w' := fun w' hb => ⟨_, ⟨b, gn, gw, ws, vl, rfl, rfl, HM.out.later hb⟩, .of_below hb, Grows.refl _ _⟩
  have HS := Lib.hid same
  clear hb0 same hk
  by_cases h1 : i < 1
  · have HE : Hid (s.offer i f = (s, 2)) := Lib.hid (by unfold Bs.offer; rw [if_pos (.inl h1)])
    have hd : decide (i < 1) = true := decide_eq_true h1
    rw [HE.out] at HK ⊢
    clear hm
    go_enter Tryd.func25, Tryd.ntmps25
    go_wp2
    go_ret
    exact ⟨fret_int HK.out, HS.out _ HB0.out⟩
  by_cases h2 : (s.N.length : Int) ≤ i
  · have HE : Hid (s.offer i f = (s, 2)) := Lib.hid (by unfold Bs.offer; rw [if_pos (.inr h2)])
    have hd : decide (i < 1) = false := decide_eq_false h1
    rw [HE.out] at HK ⊢
    obtain ⟨c0, c1, c2, c3, c4, c5⟩ := HM0.out.cells
    clear hm
    go_enter Tryd.func25, Tryd.ntmps25
    go_wp2
    go_ret
    exact ⟨fret_int HK.out, HS.out _ HB0.out⟩
  obtain ⟨j, rfl⟩ := Int.eq_ofNat_of_zero_le (show 0 ≤ i by omega)
  have hj1 : 1 ≤ j := by omega
  have hj2 : j < s.N.length := by omega
  have hd : decide ((j : Int) < 1) = false := decide_eq_false h1
  obtain ⟨q, hq⟩ : ∃ q, keyG f = q := ⟨_, rfl⟩
  have HQ : Hid (keyV f.i f.n f.l f.d.size = q) := Lib.hid hq
  by_cases h3 : q < 0
  · have HE : Hid (s.offer j f = (s, 4)) := Lib.hid (by unfold Bs.offer; rw [if_neg (by omega), if_pos (by rw [hq]; exact h3)])
    rw [HE.out] at HK ⊢
    obtain ⟨c0, c1, c2, c3, c4, c5⟩ := HM0.out.cells
    obtain ⟨d0, d1, d2, d3⟩ := HF0.out.cells
    clear hm h1 h2
    go_enter Tryd.func25, Tryd.ntmps25
    go_wp2_with fail
    refine (rkey_v HQ.out _).mono ?_
    rintro e w1 ⟨rfl, hb⟩
    go_wp2
    go_ret
    exact ⟨fret_int HK.out, HS.out _ (HB0.out.trans (hb.mono HB0.out.size))⟩
  have hjw : j < ws.length := by rw [hm.len]; exact hj2
  obtain ⟨u, hu⟩ : ∃ u, ws[j]? = some u := ⟨_, List.getElem?_eq_getElem hjw⟩
  have hjW : j < s.W.length := by rw [hm.lenW]; exact hj2
  obtain ⟨R, hR⟩ : ∃ R, s.W[j]? = some R := ⟨_, List.getElem?_eq_getElem hjW⟩
  have HU : Hid (NthV ws j u) := Lib.hid hu
  have HRR := Lib.hid hR
  have HG : Hid (s.W.getD j [] = R) := Lib.hid (by rw [List.getD_eq_getElem?_getD, hR]; rfl)
  have hrow := hm.row j u R hu hR
  obtain ⟨A5, c5', rfl⟩ := hrow.shape
  by_cases h4 : 1000 ≤ R.length
  · have HE : Hid (s.offer j f = (s, 9)) := Lib.hid (by unfold Bs.offer; rw [if_neg (by omega), if_neg (by rw [hq]; exact h3), Int.toNat_natCast, HG.out, if_pos h4])
    rw [HE.out] at HK ⊢
    obtain ⟨c0, c1, c2, c3, c4, c5⟩ := HM0.out.cells
    obtain ⟨d0, d1, d2, d3⟩ := HF0.out.cells
    have HRL : Hid (R.length ≤ maxLen) := Lib.hid (by
      rcases hrow with ⟨_, rfl⟩ | ⟨g, o, cap, hv, h5, h6, _⟩
      · exact Nat.zero_le _
      · omega)
    have hrl := HRL.out
    unfold maxLen at hrl
    have hd4 : decide ((1000 : Int) ≤ (R.length : Int)) = true := decide_eq_true (by omega)
    have hd3 : decide (q < 0) = false := decide_eq_false h3
    clear hm h1 h2 h3 h4 hrow hu hR hjw hjW hq
    go_enter Tryd.func25, Tryd.ntmps25
    go_wp2_with fail
    refine (rkey_v HQ.out _).mono ?_
    rintro e w1 ⟨rfl, hb⟩
    have HB1 := Lib.hid (HB0.out.trans (hb.mono HB0.out.size))
    have HM1 := Lib.hid (HM0.out.later hb)
    clear c0 c1 c2 c3 c4 c5 d0 d1 d2 d3 hb
    obtain ⟨c0, c1, c2, c3, c4, c5⟩ := HM1.out.cells
    obtain ⟨x0, y0⟩ := HM1.out.wait HU.out
    go_wp2
    go_ret
    exact ⟨fret_int HK.out, HS.out _ HB1.out⟩
  · have HE : Hid (s.offer j f = ({ s with W := s.W.set j (R ++ [f]) }, 0)) := Lib.hid (by unfold Bs.offer; rw [if_neg (by omega), if_neg (by rw [hq]; exact h3), Int.toNat_natCast, HG.out, if_neg h4])
    rw [HE.out] at HK ⊢
    obtain ⟨c0, c1, c2, c3, c4, c5⟩ := HM0.out.cells
    obtain ⟨d0, d1, d2, d3⟩ := HF0.out.cells
    have hd4 : decide ((1000 : Int) ≤ (R.length : Int)) = false := decide_eq_false (by omega)
    have HRL : Hid (R.length < 1000) := Lib.hid (by omega)
    have hd3 : decide (q < 0) = false := decide_eq_false h3
    clear hm h1 h2 h3 h4 hrow hu hR hjw hjW hq
    go_enter Tryd.func25, Tryd.ntmps25
    go_wp2_with fail
    refine (rkey_v HQ.out _).mono ?_
    rintro e w1 ⟨rfl, hb⟩
    have HB1 := Lib.hid (HB0.out.trans (hb.mono HB0.out.size))
    have HM1 := Lib.hid (HM0.out.later hb)
    have HF1 := Lib.hid (HF0.out.later hb)
    clear c0 c1 c2 c3 c4 c5 d0 d1 d2 d3 hb
    obtain ⟨c0, c1, c2, c3, c4, c5⟩ := HM1.out.cells
    obtain ⟨d0, d1, d2, d3⟩ := HF1.out.cells
    obtain ⟨x0, y0⟩ := HM1.out.wait HU.out
    have hz1 : w.heap.size < w1.heap.size := HF1.out.lt
    have HRQ : Hid (RowQ frC 4 w1 (.slice A5 R.length c5') R) := Lib.hid (HM1.out.row j _ R HU.out HRR.out)
    have HQ2 : Hid (RowQ frC 4 (w1.alloc (.cells #[.int .i64 f.i, .int .i64 f.n, .int .i64 f.l, .string f.d] 30)).drew (.slice A5 R.length c5') R) := Lib.hid (HRQ.out.later ((Below.refl _ w1).alloc (Nat.le_refl _) _).drew)
    have HRD : Hid (RdA frC 4 (w1.alloc (.cells #[.int .i64 f.i, .int .i64 f.n, .int .i64 f.l, .string f.d] 30)).drew (.slice (some ⟨w1.heap.size, 0, none⟩) 1 1) [f]) := Lib.hid (by
      have h := RdA.one (w' := w1.alloc (.cells #[.int .i64 f.i, .int .i64 f.n, .int .i64 f.l, .string f.d] 30)) frC_len w1 f 30 rfl rfl
      exact h)
    have HF1w : Hid (∀ w3, Kept (OwnO (.slice A5 R.length c5')) (w1.alloc (.cells #[.int .i64 f.i, .int .i64 f.n, .int .i64 f.l, .string f.d] 30)).drew w3 → w3.cell? ⟨gw, j, none⟩ = some (.slice A5 R.length c5') ∧ w3.frozen? ⟨gw, j, none⟩ = false ∧ w3.cell? ⟨b, 1, none⟩ = some (.slice (some ⟨gw, 0, none⟩) s.N.length s.N.length)) := Lib.hid (fun w3 hk3 => by
      have hlt := HM1.out.lt gw (.inr (.inr (.inl rfl)))
      have hbb := ((Below.refl w1.heap.size w1).alloc (Nat.le_refl _) (.cells #[.int .i64 f.i, .int .i64 f.n, .int .i64 f.l, .string f.d] 30)).drew
      have hn := (HM1.out.f1 j _ HU.out).2.2.1
      have hl2 := Nat.lt_of_lt_of_le hlt hbb.size
      exact ⟨(hk3.cell (p := ⟨gw, j, none⟩) hl2 hn).trans ((hbb.cell (p := ⟨gw, j, none⟩) hlt).trans (HM1.out.wait HU.out).1), (hk3.frozen (p := ⟨gw, j, none⟩) hl2 hn).trans ((hbb.frozen (p := ⟨gw, j, none⟩) hlt).trans (HM1.out.wait HU.out).2), (hk3.cell (p := ⟨b, 1, none⟩) (Nat.lt_of_lt_of_le (HM1.out.lt b (.inl rfl)) hbb.size) (HM1.out.f1 j _ HU.out).1).trans ((hbb.cell (p := ⟨b, 1, none⟩) (HM1.out.lt b (.inl rfl))).trans HM1.out.cells.2.1)⟩)
    have hzb : b < w1.heap.size := HM1.out.lt b (.inl rfl)
    have hzw : gw < w1.heap.size := HM1.out.lt gw (.inr (.inr (.inl rfl)))
    go_wp2_with fail
    go_region_law ((refine step_qO (c := frC) flat_fr frC_len frC_one rfl (.tmp 41) (.tmp 43) rfl (by simp [Act.eval]) HQ2.out (by simp [Act.eval]) HRD.out (by have := HRL.out; simp; omega) ?_; rintro v3 w3 hq3 hk3 hg3; obtain ⟨g3, o3, cap3, rfl⟩ := hq3.form; have HQ3 := Lib.hid hq3; have HK3 := Lib.hid hk3; have HG3 := Lib.hid hg3; obtain ⟨y1, y2, y3⟩ := HF1w.out w3 hk3; clear hq3 hk3 hg3))
    all_goals (
      clear x0 y0 y1 y2 y3 c0 c1 c2 c3 c4 c5 d0 d1 d2 d3
      have HD := Lib.hid (offer_done HM1.out HB1.out HU.out HQ3.out HK3.out HG3.out)
      go_wp2
      go_ret
      exact ⟨fret_int HK.out, HD.out⟩)
end Go.Proofs.YtpgfifacfkllfaaDoor
