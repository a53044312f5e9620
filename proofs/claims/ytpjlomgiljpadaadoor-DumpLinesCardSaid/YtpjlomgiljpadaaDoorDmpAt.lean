/- Dump: the walk of DumpLines. -/
import Derived.Test.YtpjlomgiljpadaaDoorDmpBb
import Derived.Test.YtpjlomgiljpadaaDoorGenS
namespace Go.Proofs.YtpjlomgiljpadaaDoor
open Go.RowKit
set_option linter.unusedVariables false

theorem line_empty {e : En} (h : e.ok = true) (hf : e.fits) : lineB e ≠ ByteArray.mk #[] := by
  unfold lineB
  rw [if_pos h]
  intro he
  have := (lineS_size h hf).2
  rw [he] at this
  exact absurd this (by decide)
def okL (L : List En) : List En := L.filter fun e => e.ok
theorem okL_snoc_t {L : List En} {e : En} (h : e.ok = true) : okL (L ++ [e]) = okL L ++ [e] := by simp [okL, h]
theorem okL_snoc_f {L : List En} {e : En} (h : e.ok = false) : okL (L ++ [e]) = okL L := by simp [okL, h]
theorem linesB_snoc (L : List En) (e : En) : linesB (L ++ [e]) = linesB L ++ lineB e := by
  apply ByteArray.ext
  apply Array.toList_inj.1
  simp [linesB, linesU, ByteArray.data_append]
theorem linesB_okL (L : List En) : linesB L = linesB (okL L) := by
  unfold linesB
  congr 2
  induction L with
  | nil => rfl
  | cons e L ih =>
    cases h : e.ok
    · have : (lineB e).data.toList = [] := by unfold lineB; rw [h]; rfl
      simp only [linesU, okL, List.flatMap_cons, this, List.nil_append, List.filter_cons, h] at ih ⊢
      exact ih
    · simp only [linesU, okL, List.flatMap_cons, List.filter_cons, h, if_true] at ih ⊢
      rw [ih]
theorem linesB_size {L : List En} (h : ∀ e ∈ L, e.rd) : (linesB L).size ≤ 200 * L.length := by
  have := linesU_le L h
  have e : (linesB L).size = (linesU L).length := by unfold linesB; simp [ByteArray.size]
  omega
theorem okL_good {L : List En} (h : ∀ e ∈ L, e.rd) : ∀ e ∈ okL L, e.good := by
  intro e he
  obtain ⟨h1, h2⟩ := List.mem_filter.1 he
  exact ⟨h2, (h e h1).1⟩
theorem okL_len (L : List En) : (okL L).length ≤ L.length := List.length_filter_le _ _
theorem fewE_len {L : List En} (h : fewE L = true) : L.length ≤ 30 := by
  unfold fewE at h
  simp only [Bool.and_eq_true, decide_eq_true_eq] at h
  exact h.1
theorem par_of {L : List En} {S : ByteArray} (h : ∀ e ∈ L, e.rd) (hS : linesB L = S) : Par (byL S) [] (okL L, -1) := by
  have := par_lines (okL L) [] (okL_good h)
  rw [List.nil_append] at this
  rw [← hS, linesB_okL, byL_linesB (okL_good h)]
  exact this

set_option maxHeartbeats 4000000 in
set_option maxRecDepth 100000 in
theorem dumpLines_body {L : List En} {v : Value} (w : World) (h : SlE w w.heap.size v L) (hr : ∀ e ∈ L, e.rd) (hT : TabD w) (hV : TabV w) :
    Calls Tryd.prog 6 #[v] w fun e w' => e = .returned (.bool true) ∧ Below w.heap.size w w' := by
  have H := Lib.hid h
  have HT := Lib.hid hT
  have HV := Lib.hid hV
  have HR := Lib.hid hr
  obtain ⟨A, cap, rfl, hm, _⟩ := h
  unfold maxLen at hm
  clear hT hV hr
  cases hf : fewE L
  · have HF := Lib.hid hf
    clear hf
    go_enter Tryd.func6, Tryd.ntmps6
    go_wp2_with fail
    refine (efew_any _ H.out).mono ?_
    rintro e w1 ⟨rfl, rfl⟩
    rw [HF.out]
    go_wp2_with fail
    refine (dalive_any _ HT.out).mono ?_
    rintro e w1 ⟨rfl, hb1⟩
    go_wp2
    go_ret
    exact ⟨rfl, hb1⟩
  have HF := Lib.hid hf
  have hl30 := fewE_len hf
  have hl9 : (L.length : Int) ≤ 30 := by omega
  clear hf
  go_enter Tryd.func6, Tryd.ntmps6
  go_wp2_with fail
  refine (efew_any _ H.out).mono ?_
  rintro e w1 ⟨rfl, rfl⟩
  rw [HF.out]
  go_wp2_with fail
  go_loopw [3, 4, 17] (fun s r i wr => ∃ k : Nat, k ≤ L.length ∧ i = .int .i64 k ∧ s = .string (linesB (L.take k)) ∧ GathE w.heap.size w r (okL (L.take k)) wr) (fun _ _ i _ => L.length - (intOf i).toNat)
  case atStart => exact ⟨0, Nat.zero_le _, rfl, rfl, GathG.start _ _ _ _⟩
  case round =>
    obtain ⟨k, hk, rfl, rfl, hG⟩ := hrel
    have HG := Lib.hid hG
    have HBW : Hid (Below w.heap.size w wr) := Lib.hid hG.2.1
    clear hG
    by_cases hlt : k < L.length
    · obtain ⟨x, cap1, hv, hxb, hcell⟩ := (H.out.later HBW.out).at_ hlt
      injection hv with hA hn hc
      subst hA hc
      have a0 : wr.cell? (x.add (k * 6)) = some (.int .i64 (L[k]'hlt).f.i) := hcell 0 _ rfl
      have a1 : wr.cell? ⟨(x.add (k * 6)).block, (x.add (k * 6)).off + 1, none⟩ = some (.int .i64 (L[k]'hlt).f.n) := hcell 1 _ rfl
      have a2 : wr.cell? ⟨(x.add (k * 6)).block, (x.add (k * 6)).off + 2, none⟩ = some (.int .i64 (L[k]'hlt).f.l) := hcell 2 _ rfl
      have a3 : wr.cell? ⟨(x.add (k * 6)).block, (x.add (k * 6)).off + 3, none⟩ = some (.string (L[k]'hlt).f.d) := hcell 3 _ rfl
      have a4 : wr.cell? ⟨(x.add (k * 6)).block, (x.add (k * 6)).off + 4, none⟩ = some (.int .i64 (L[k]'hlt).node) := hcell 4 _ rfl
      have a5 : wr.cell? ⟨(x.add (k * 6)).block, (x.add (k * 6)).off + 5, none⟩ = some (.int .i64 (L[k]'hlt).slot) := hcell 5 _ rfl
      have hk1 : (k : Int) < (L.length : Int) := by omega
      have hk0 : (0 : Int) ≤ (k : Int) := by omega
      have HE := Lib.hid (HR.out _ (List.getElem_mem hlt))
      have HTK : Hid (L.take (k + 1) = L.take k ++ [L[k]'hlt]) := Lib.hid (List.take_succ_eq_append_getElem hlt)
      have HSz : Hid ((linesB (L.take k)).size ≤ 6000) := Lib.hid (by have := linesB_size (L := L.take k) (fun e he => HR.out e (List.mem_of_mem_take he)); have := List.length_take_le k L; omega)
      have HOL : Hid ((okL (L.take k)).length ≤ 100000) := Lib.hid (by have := okL_len (L.take k); have := List.length_take_le k L; omega)
      clear hcell hxb
      generalize L[k]'hlt = e at a0 a1 a2 a3 a4 a5 HE HTK
      obtain ⟨B, hB⟩ : ∃ B, lineB e = B := ⟨_, rfl⟩
      have HB := Lib.hid hB
      have HBs : Hid (B.size ≤ 200) := Lib.hid (by rw [← hB]; exact lineB_size HE.out)
      have esB := seq_self B
      have enB : (B.toList != B.toList) = false := by unfold bne; rw [esB]; rfl
      obtain ⟨S, hS⟩ : ∃ S, linesB (L.take k) = S := ⟨_, rfl⟩
      have HS : Hid (linesB (L.take (k + 1)) = S ++ B) := Lib.hid (by rw [HTK.out, linesB_snoc, hS, hB])
      have HSS := HSz.out
      have HBB := HBs.out
      rw [hS] at HSS ⊢
      have q1 : ¬ 9223372036854775807 < S.size + B.size := by omega
      have hal := heap_alloc_new wr (enCs e.f.i e.f.n e.f.l e.f.d e.node e.slot)
      have HAL := Lib.hid hal
      clear hal
      cases hok : e.ok
      · obtain rfl : B = ByteArray.mk #[] := by rw [← hB]; unfold lineB; rw [hok]; rfl
        have HOK : Hid (okL (L.take (k + 1)) = okL (L.take k)) := Lib.hid (by rw [HTK.out, okL_snoc_f hok])
        have HSE : Hid (linesB (L.take (k + 1)) = S) := Lib.hid (by rw [HS.out]; exact ByteArray.append_empty)
        cases hfk : e.f.ok
        · have hq : okF e.f.i e.f.n e.f.l e.f.d.size = false := hfk
          have HQ := Lib.hid hq
          have HC : Hid (errB e = 4) := Lib.hid (by unfold errB; rw [hfk]; rfl)
          clear hok hfk hq hB
          go_wp2_with fail
          refine (dline_all HB.out HC.out HE.out _ ((HT.out.below HBW.out).alloc _)).mono ?_
          rintro r w2 ⟨rfl, hb2⟩
          have HA2 : Hid (w2.heap[wr.heap.size]? = some (enCs e.f.i e.f.n e.f.l e.f.d e.node e.slot)) := Lib.hid (by rw [hb2.block _ (by simp)]; exact HAL.out)
          have G2 := Lib.hid ((HG.out.alloc _).later hb2)
          clear hb2
          obtain ⟨⟨g0, g1, g2, g3, g4, g5⟩, _⟩ := cells6 HA2.out
          go_wp2_with fail
          refine (rline_all HB.out HE.out _).mono ?_
          rintro r w3 ⟨rfl, hb3⟩
          have HA3 : Hid (w3.heap[wr.heap.size]? = some (enCs e.f.i e.f.n e.f.l e.f.d e.node e.slot)) := Lib.hid (by rw [hb3.block _ (lt_of_heap HA2.out)]; exact HA2.out)
          have G3 := Lib.hid (G2.out.later hb3)
          clear hb3 g0 g1 g2 g3 g4 g5
          obtain ⟨⟨g0, g1, g2, g3, g4, g5⟩, _⟩ := cells6 HA3.out
          go_wp2_with fail
          refine (rright_v HQ.out _).mono ?_
          rintro r w4 ⟨rfl, hb4⟩
          have G4 := Lib.hid (G3.out.later hb4)
          clear hb4
          go_wp2
          go_roundw
          case rel => exact ⟨k + 1, by omega, by go_num, by rw [HSE.out], by rw [HOK.out]; exact G4.out⟩
          case measure => simp [intOf]; omega
        · have hq : okF e.f.i e.f.n e.f.l e.f.d.size = true := hfk
          have HQ := Lib.hid hq
          have HC : Hid (errB e = 2) := Lib.hid (by unfold errB; rw [hfk, hok]; rfl)
          clear hok hfk hq hB
          go_wp2_with fail
          refine (dline_all HB.out HC.out HE.out _ ((HT.out.below HBW.out).alloc _)).mono ?_
          rintro r w2 ⟨rfl, hb2⟩
          have HA2 : Hid (w2.heap[wr.heap.size]? = some (enCs e.f.i e.f.n e.f.l e.f.d e.node e.slot)) := Lib.hid (by rw [hb2.block _ (by simp)]; exact HAL.out)
          have G2 := Lib.hid ((HG.out.alloc _).later hb2)
          clear hb2
          obtain ⟨⟨g0, g1, g2, g3, g4, g5⟩, _⟩ := cells6 HA2.out
          go_wp2_with fail
          refine (rline_all HB.out HE.out _).mono ?_
          rintro r w3 ⟨rfl, hb3⟩
          have HA3 : Hid (w3.heap[wr.heap.size]? = some (enCs e.f.i e.f.n e.f.l e.f.d e.node e.slot)) := Lib.hid (by rw [hb3.block _ (lt_of_heap HA2.out)]; exact HA2.out)
          have G3 := Lib.hid (G2.out.later hb3)
          clear hb3 g0 g1 g2 g3 g4 g5
          obtain ⟨⟨g0, g1, g2, g3, g4, g5⟩, _⟩ := cells6 HA3.out
          go_wp2_with fail
          refine (rright_v HQ.out _).mono ?_
          rintro r w4 ⟨rfl, hb4⟩
          have G4 := Lib.hid (G3.out.later hb4)
          clear hb4
          go_wp2
          go_roundw
          case rel => exact ⟨k + 1, by omega, by go_num, by rw [HSE.out], by rw [HOK.out]; exact G4.out⟩
          case measure => simp [intOf]; omega
      · have hBn : B ≠ ByteArray.mk #[] := by rw [← hB]; exact line_empty hok HE.out.1
        have eE0 : (B.toList == (ByteArray.mk #[]).toList) = false := by rw [seq_beq]; exact decide_eq_false hBn
        have eE : (B.toList == []) = false := by rw [show ([] : List UInt8) = (ByteArray.mk #[]).toList by rw [ByteArray.toList_eq]]; exact eE0
        have HOK : Hid (okL (L.take (k + 1)) = okL (L.take k) ++ [e]) := Lib.hid (by rw [HTK.out, okL_snoc_t hok])
        have HC : Hid (errB e = 0) := Lib.hid (by unfold errB; rw [(En.parts hok).1, hok]; rfl)
        clear hok hB hBn
        go_wp2_with fail
        refine (dline_all HB.out HC.out HE.out _ ((HT.out.below HBW.out).alloc _)).mono ?_
        rintro r w2 ⟨rfl, hb2⟩
        have HA2 : Hid (w2.heap[wr.heap.size]? = some (enCs e.f.i e.f.n e.f.l e.f.d e.node e.slot)) := Lib.hid (by rw [hb2.block _ (by simp)]; exact HAL.out)
        have G2 := Lib.hid ((HG.out.alloc _).later hb2)
        clear hb2
        obtain ⟨⟨g0, g1, g2, g3, g4, g5⟩, _⟩ := cells6 HA2.out
        go_wp2_with fail
        refine (rline_all HB.out HE.out _).mono ?_
        rintro r w3 ⟨rfl, hb3⟩
        have HA3 : Hid (w3.heap[wr.heap.size]? = some (enCs e.f.i e.f.n e.f.l e.f.d e.node e.slot)) := Lib.hid (by rw [hb3.block _ (lt_of_heap HA2.out)]; exact HA2.out)
        have G3 := Lib.hid (G2.out.later hb3)
        clear hb3 g0 g1 g2 g3 g4 g5
        obtain ⟨⟨g0, g1, g2, g3, g4, g5⟩, _⟩ := cells6 HA3.out
        have HNW := Lib.hid (entry_new w3 e 39)
        have G4 := Lib.hid (G3.out.alloc (.cells #[.int .i64 e.f.i, .int .i64 e.f.n, .int .i64 e.f.l, .string e.f.d, .int .i64 e.node, .int .i64 e.slot] 39))
        go_wp2_with (at_builtin; refine wpList_rowE rfl _ _ rfl rfl G4.out.1 G4.out.2.2 w3.heap.size _ e rfl HNW.out HOL.out ?_)
        intro v5 w5 ho5 hb5
        have G5 : Hid (GathE w.heap.size w v5 (okL (L.take k) ++ [e]) w5) := Lib.hid ⟨by rw [List.length_append]; exact ho5, G4.out.2.1.trans hb5, Nat.le_trans G4.out.2.2 hb5.size⟩
        clear ho5 hb5
        go_wp2
        go_roundw
        case rel => exact ⟨k + 1, by omega, by go_num, by rw [HS.out], by rw [HOK.out]; exact G5.out⟩
        case measure => simp [intOf]; omega
    · obtain rfl : k = L.length := by omega
      rw [List.take_length] at HG ⊢
      obtain ⟨S, hS⟩ : ∃ S, linesB L = S := ⟨_, rfl⟩
      rw [hS]
      have HPA := Lib.hid (par_of HR.out hS)
      have HSs : Hid (S.size ≤ 100000) := Lib.hid (by have := linesB_size HR.out; rw [hS] at this; omega)
      have HSB := Lib.hid hS
      have es := seq_self S
      have HOL : Hid ((okL L).length ≤ maxLen) := Lib.hid (by have := okL_len L; unfold maxLen; omega)
      have V0 := Lib.hid (HG.out.slice enC_len (by decide) HOL.out)
      clear hS
      go_wp2_with fail
      refine (dparse_any HPA.out HSs.out _ (HT.out.below HBW.out) (HV.out.below HBW.out)).mono ?_
      rintro r w2 ⟨hb2, v2, rfl, hv2⟩
      have HB2 := Lib.hid (fbelow_t HBW.out hb2)
      have V2 := Lib.hid hv2
      have U2 := Lib.hid (V0.out.later hb2)
      clear hb2 hv2
      go_wp2_with fail
      refine (dlines_any HSB.out _ (HT.out.below HB2.out) (H.out.later HB2.out) HR.out (by omega)).mono ?_
      rintro r w3 ⟨rfl, hb3⟩
      have HB3 := Lib.hid (fbelow_t HB2.out hb3)
      have V3 := Lib.hid (V2.out.later hb3)
      have U3 := Lib.hid (U2.out.later hb3)
      clear hb3
      go_wp2_with fail
      refine (esame_t _ V3.out U3.out).mono ?_
      rintro r w4 ⟨rfl, m, rfl⟩
      go_wp2_with fail
      refine (dalive_any _ ((HT.out.below HB3.out).drewN _)).mono ?_
      rintro r w5 ⟨rfl, hb5⟩
      have HB5 := Lib.hid (fbelow_t (ebelow_drewN HB3.out m) hb5)
      clear hb5
      go_wp2
      go_ret
      exact ⟨rfl, HB5.out⟩

theorem dumpLines_walk (a : Option Addr) (n c : Nat) (F : Nat → List Value) (w : World) (hrow : IsRowOf w [.int .i64, .int .i64, .int .i64, .str, .int .i64, .int .i64] a n c F) (hT1 : Tabs w) (hT2 : Tab10 w) (hV : TabV w) :
    Calls Tryd.prog 6 #[.slice a n c] w fun e w' => e = .returned (.bool true) ∧ Below w.heap.size w w' := by
  obtain ⟨L, hL, _, hfit⟩ := slice_of_row (c := enC) (k := 6) hrow enOf enOf_c rfl (by omega)
  exact dumpLines_body w hL (fun e he => (en_fits (hfit e he)).rd) ⟨hT1, hT2⟩ hV

end Go.Proofs.YtpjlomgiljpadaaDoor
