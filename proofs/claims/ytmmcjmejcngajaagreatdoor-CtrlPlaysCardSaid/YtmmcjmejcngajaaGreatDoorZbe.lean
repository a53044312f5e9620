/- Ctrl, the code: Hear. Printed by gen_ck.py. Ctrl, the code: New. Printed by gen_ck.py. Ctrl, the code: what the walks ask of it. -/
import Derived.Test.YtmmcjmejcngajaaGreatDoorZbd
import Derived.Test.YtmmcjmejcngajaaGreatDoorZaq
import Derived.Test.YtmmcjmejcngajaaGreatDoorZaf
import Derived.Test.YtmmcjmejcngajaaGreatDoorZbc
import Derived.Test.YtmmcjmejcngajaaGreatDoorZai
namespace Go.Proofs.YtmmcjmejcngajaaGreatDoor
open Go.RowKit
set_option linter.unusedVariables false


set_option maxHeartbeats 4000000 in
theorem kkaccept_v {w : World} {kb : Nat} {u : Value} {L : List Flt} {f : Fr} (h1 : Bx1 w kb u 22) (h2 : RowQ flC 3 w u L) (hfit : ∀ x ∈ L, x.fits) (hlen : L.length ≤ 50) (hT : Tabs w) (hn : f.n64) {q : Bool} (hq : anyB (carB f.i f.n f.l f.d.size) L false (wordV f.i f.n f.l f.d.size).toNat = q) :
    Calls Tryz.prog 47 #[frV f, .pointer (some ⟨kb, 0, none⟩)] w fun e w' => e = .returned (.bool q) ∧ Below w.heap.size w w' := by
  obtain ⟨vn, hv, hvl⟩ := word_nat f.i f.n f.l f.d.size
  rw [hv, Int.toNat_natCast] at hq
  have hb0 := (Below.refl w.heap.size w).alloc (Nat.le_refl _) (.cells #[.int .i64 f.i, .int .i64 f.n, .int .i64 f.l, .string f.d] 33)
  have HB0 := Lib.hid hb0
  have HC := Lib.hid (any_v _ rfl hv hvl hq hfit _ ((h2.later hb0).sl flC_len (by unfold maxLen; omega)) (hT.below hb0) hn.1 hn.2)
  have c0 := h1.cell
  have z0 := h1.lt
  clear h1 h2 hfit hlen hT hn hq hv hvl hb0
  go_enter Tryz.func47, Tryz.ntmps47
  go_wp2_with fail
  refine HC.out.mono ?_
  rintro e w1 ⟨rfl, hb⟩
  go_wp2
  go_ret
  exact ⟨rfl, fbelow_t HB0.out hb⟩
theorem func_nil (k : FuncId) (c : Array Value) (w : World) : (binOp .eql 50 (.func (.func k) #[] c) .nilFunc).run Tryz.prog w = .ok (.bool false) w := by kernel_rfl
theorem nil_nil (w : World) : (binOp .eql 50 .nilFunc .nilFunc).run Tryz.prog w = .ok (.bool true) w := by kernel_rfl
set_option maxHeartbeats 4000000 in
theorem kklets_v {w : World} {b g : Nat} {vt ve fa : Value} {M : List (Int × Pk)} {Of : Nat → Prop} {p : Option Addr} {S : List Fr} {fs m n : Nat} {s : Ct} {f : Fr} {r : Bool} (h : CkM w b g vt ve fa M Of p S fs m n s) (hT : Tabs w) (hn : f.n64) (hr : letF s.acc f = r) :
    Calls Tryz.prog 43 #[.pointer (some ⟨b, 3, none⟩), frV f] w fun e w' => e = .returned (.bool r) ∧ Below w.heap.size w w' := by
  have hb0 := (Below.refl w.heap.size w).alloc (Nat.le_refl _) (.cells #[.int .i64 f.i, .int .i64 f.n, .int .i64 f.l, .string f.d] 33)
  have hf0 := BoxF.made w f.i f.n f.l f.d
  obtain ⟨w0, e0⟩ : ∃ w0, w.alloc (.cells #[.int .i64 f.i, .int .i64 f.n, .int .i64 f.l, .string f.d] 33) = w0 := ⟨_, rfl⟩
  rw [e0] at hb0 hf0
  have HB0 := Lib.hid hb0
  have hm0 := h.later hb0
  have c3 : w0.cell? ⟨b, 3, none⟩ = some fa := by rw [Lib.cell_of_heap hm0.rf.box]; rfl
  have hbz := hm0.rf.blt
  have HA := Lib.hid hm0.ac
  obtain ⟨d0, d1, d2, d3⟩ := hf0.cells
  have hz0 := hf0.lt
  have HT := Lib.hid (hT.below hb0)
  have HN := Lib.hid hn
  obtain ⟨q, hq⟩ : ∃ q, keyG f = q := ⟨_, rfl⟩
  have HQ : Hid (keyV f.i f.n f.l f.d.size = q) := Lib.hid hq
  have HR := Lib.hid hr
  unfold letF at HR
  rw [hq] at HR
  have hl := later_cells
  clear h hb0 hf0 hm0 hT hn hq hr
  by_cases h2 : q < 0
  · have hk : decide (0 ≤ q) = false := decide_eq_false (by omega)
    rw [decide_eq_true h2] at HR
    obtain rfl : r = false := HR.out.symm
    clear h2
    go_enter Tryz.func43, Tryz.ntmps43
    go_wp2_with fail
    refine wp_region_later (by kernel_rfl) (by kernel_rfl) ?_
    repeat (go_big_quiet_step (fail))
    go_big_quiet_step (exact Later.call (key_v HQ.out _ (Later.tabs _ HT.out) HN.out.1 HN.out.2))
    repeat (go_big_quiet_step (fail))
    refine wpQuiet_nil ?_
    rintro w1 ⟨mm, rfl⟩
    go_wp2
    go_ret
    exact ⟨rfl, fbelow_t HB0.out mm.h⟩
  · have hk : decide (0 ≤ q) = true := decide_eq_true (by omega)
    rw [decide_eq_false h2] at HR
    clear h2
    rcases HA.out with ⟨rfl, hL, _⟩ | ⟨kb, u, hL, rfl, h1, h3, h4, h5, _⟩
    · obtain rfl : r = true := by have := HR.out; rw [hL] at this; simpa using this.symm
      have hnn := nil_nil
      clear hL
      go_enter Tryz.func43, Tryz.ntmps43
      go_wp2_with fail
      refine wp_region_later (by kernel_rfl) (by kernel_rfl) ?_
      repeat (go_big_quiet_step (fail))
      go_big_quiet_step (exact Later.call (key_v HQ.out _ (Later.tabs _ HT.out) HN.out.1 HN.out.2))
      repeat (go_big_quiet_step (fail))
      refine wpQuiet_nil ?_
      rintro w1 ⟨mm, rfl⟩
      go_wp2
      go_ret
      exact ⟨rfl, fbelow_t HB0.out mm.h⟩
    · have HAN : Hid (anyB (carB f.i f.n f.l f.d.size) s.acc false (wordV f.i f.n f.l f.d.size).toNat = r) := Lib.hid (by
        have h6 := HR.out
        rw [decide_eq_false (fun h => hL (List.eq_nil_of_length_eq_zero h))] at h6
        simpa using h6)
      have HCC : Hid (∀ n : Later w0, Calls Tryz.prog 47 #[frV f, .pointer (some ⟨kb, 0, none⟩)] n.w fun e w' => e = .returned (.bool r) ∧ Below n.w.heap.size n.w w') := Lib.hid (fun n => kkaccept_v (h1.later n.h) (h3.later n.h) h4 h5 (Later.tabs n HT.out) HN.out HAN.out)
      have hfn := func_nil
      clear hL h1 h3 h4 h5
      go_enter Tryz.func43, Tryz.ntmps43
      go_wp2_with fail
      refine wp_region_later (by kernel_rfl) (by kernel_rfl) ?_
      repeat (go_big_quiet_step (fail))
      go_big_quiet_step (exact Later.call (key_v HQ.out _ (Later.tabs _ HT.out) HN.out.1 HN.out.2))
      repeat (go_big_quiet_step (fail))
      go_big_quiet_step (exact Later.call (HCC.out _))
      repeat (go_big_quiet_step (fail))
      refine wpQuiet_nil ?_
      rintro w1 ⟨mm, rfl⟩
      go_wp2
      go_ret
      exact ⟨rfl, fbelow_t HB0.out mm.h⟩
set_option maxHeartbeats 8000000 in
theorem kkhear_v {w : World} {v : Value} {s : Ct} {O : Nat → Prop} (f : Fr) (h : CkD w v s O) (ok : s.Ok) (hl1 : s.lost ≤ 1000000) (hT : Tabs w) (hn : f.n64) : Calls Tryz.prog 16 #[v, fmV f] w fun e w' => e = .returned (.bool (s.hear f).2) ∧ Stp CkD v O w (s.hear f).1 w' := by
  obtain ⟨b, g, vt, ve, fa, M, Of, p, S, fs, m, n, rfl, rfl, h⟩ := h
  have H := Lib.hid h
  have hb0 := (Below.refl w.heap.size w).alloc (Nat.le_refl _) (.cells #[.int .i64 f.i, .int .i64 f.n, .int .i64 f.l, .string f.d] 33)
  have hf0 := BoxF.made w f.i f.n f.l f.d
  obtain ⟨w0, e0⟩ : ∃ w0, w.alloc (.cells #[.int .i64 f.i, .int .i64 f.n, .int .i64 f.l, .string f.d] 33) = w0 := ⟨_, rfl⟩
  rw [e0] at hb0 hf0
  have HB0 := Lib.hid hb0
  have HF0 := Lib.hid hf0
  have HM0 := Lib.hid (h.later hb0)
  obtain ⟨d0, d1, d2, d3⟩ := hf0.cells
  have hz0 := hf0.lt
  have hbz := HM0.out.rf.blt
  have HT := Lib.hid (hT.below hb0)
  have HN := Lib.hid hn
  have HOK := Lib.hid ok
  have HL1 := Lib.hid hl1
  obtain ⟨q, hq⟩ : ∃ q, letF s.acc f = q := ⟨_, rfl⟩
  have HLE : Hid (∀ n' : Later w0, Calls Tryz.prog 43 #[.pointer (some ⟨b, 3, none⟩), frV f] n'.w fun e w' => e = .returned (.bool q) ∧ Below n'.w.heap.size n'.w w') := Lib.hid (fun n' => kklets_v (HM0.out.later n'.h) (Later.tabs n' HT.out) hn hq)
  have HX : Hid (s.hear f = if q = false then (s, false) else if (s.fifo.length : Int) = s.room then ({ s with lost := s.lost + 1, asks := setB s.asks 4 }, false) else ({ s with fifo := s.fifo ++ [f], asks := setB s.asks 2 }, true)) := Lib.hid (by unfold Ct.hear; rw [hq])
  obtain ⟨sx, hsx⟩ : ∃ x, s.hear f = x := ⟨_, rfl⟩
  rw [hsx] at HX ⊢
  have hl := later_cells
  clear h hb0 hf0 hT hn hq hsx ok hl1
  go_enter Tryz.func16, Tryz.ntmps16
  go_wp2_with fail
  refine wp_region_later (by kernel_rfl) (by kernel_rfl) ?_
  repeat (go_big_quiet_step (fail))
  go_big_quiet_step (exact Later.call (HLE.out _))
  repeat (go_big_quiet_step (fail))
  refine wpQuiet_nil ?_
  rintro w1 ⟨mm, rfl⟩
  have HB1 := Lib.hid (fbelow_t HB0.out mm.h)
  have HF1 := Lib.hid (HF0.out.later mm.h)
  clear d0 d1 d2 d3 hz0 hbz hl e0
  generalize mm.w = w1 at HB1 HF1 ⊢
  cases q
  · obtain rfl : (s, false) = sx := by rw [HX.out]; rfl
    go_wp2
    go_ret
    exact ⟨rfl, H.out.stp HB1.out⟩
  · have HX2 : Hid (sx = if (s.fifo.length : Int) = s.room then ({ s with lost := s.lost + 1, asks := setB s.asks 4 }, false) else ({ s with fifo := s.fifo ++ [f], asks := setB s.asks 2 }, true)) := Lib.hid (by rw [HX.out]; rfl)
    have hlt := (H.out.later HB1.out).rf.blt
    obtain ⟨d0, d1, d2, d3⟩ := HF1.out.cells
    have hz1 := HF1.out.lt
    clear HX
    go_upto_region 3 with fail
    have hcl : ∀ (n : Later w1) (b o : Nat), b < w1.heap.size → n.w.cell? ⟨b, o, none⟩ = w1.cell? ⟨b, o, none⟩ := later_cells w1
    refine wp_region_sec 5 [] (fun _ _ _ => True) (fun _ _ _ _ _ _ => True.intro) (by kernel_rfl) (by kernel_rfl) (by kernel_rfl) (by kernel_rfl) (by kernel_rfl) ?_
    simp only [List.take_succ_cons, List.take_zero, List.drop_succ_cons, List.drop_zero]
    repeat ((first | refine sec_plain (by rfl) (by rfl) (by rfl) (by rfl) ?_ | refine sec_nil (by rfl) (by rfl) (by rfl) (by rfl) (by rfl) ?_); intro K hK; go_big_quiet_op; go_big_quiet_on)
    intro xs m9 hF
    simp only [secFill]
    have HB2 := Lib.hid (fbelow_t HB1.out m9.h)
    clear hF xs hcl d0 d1 d2 d3 hz1 hlt
    generalize m9.w = w2 at HB2 ⊢
    have HM2 := Lib.hid (H.out.later HB2.out)
    by_cases h3 : (s.fifo.length : Int) = s.room
    · obtain rfl : ({ s with lost := s.lost + 1, asks := setB s.asks 4 }, false) = sx := by rw [HX2.out, if_pos h3]
      have HFL : Hid (s.fifo.length = m) := Lib.hid (by have := H.out.hm; omega)
      have HNL : Hid (n ≤ 1000000) := Lib.hid (by have := H.out.hn; have := HL1.out; omega)
      clear h3
      go_wp2_with fail
      refine (rfput_f f HM2.out.rd HFL.out HNL.out).mono ?_
      rintro e w3 ⟨rfl, hs⟩
      obtain ⟨p', S', f', hm, hk, hg⟩ := H.out.behindF HB2.out hs
      have HM := Lib.hid hm
      have HK := Lib.hid hk
      have HG := Lib.hid hg
      clear hs hm hk hg
      obtain ⟨c9, f9⟩ := HM.out.reg
      simp only at c9
      go_wp2_with fail
      refine (kkask_v c9 f9 HOK.out.ak (by simp)).mono ?_
      rintro e w4 ⟨rfl, rfl⟩
      go_wp2
      go_ret
      obtain ⟨h1, h2⟩ := HM.out.setReg (setB s.asks 4)
      have hln : s.lost + 1 = ((n + 1 : Nat) : Int) := by have := H.out.hn; omega
      rw [← hln] at h1
      exact ⟨rfl, _, ⟨b, g, vt, ve, fa, M, Of, p', S', f', m, n + 1, rfl, rfl, h1⟩, HK.out.trans h2 HG.out, HG.out⟩
    · obtain rfl : ({ s with fifo := s.fifo ++ [f], asks := setB s.asks 2 }, true) = sx := by rw [HX2.out, if_neg h3]
      have HFL : Hid (s.fifo.length < m) := Lib.hid (by have := H.out.hm; have := HOK.out.fifo; omega)
      have HLN : Hid (s.lost = n) := Lib.hid H.out.hn
      clear h3
      go_wp2_with fail
      refine (rfput_t f HM2.out.rd HFL.out).mono ?_
      rintro e w3 ⟨rfl, hs⟩
      obtain ⟨p', S', f', hm, hk, hg⟩ := H.out.behindF HB2.out hs
      rw [← HLN.out] at hm
      have HM := Lib.hid hm
      have HK := Lib.hid hk
      have HG := Lib.hid hg
      clear hs hm hk hg
      obtain ⟨c9, f9⟩ := HM.out.reg
      simp only at c9
      go_wp2_with fail
      refine (kkask_v c9 f9 HOK.out.ak (by simp)).mono ?_
      rintro e w4 ⟨rfl, rfl⟩
      go_wp2
      go_ret
      obtain ⟨h1, h2⟩ := HM.out.setReg (setB s.asks 2)
      exact ⟨rfl, _, ⟨b, g, vt, ve, fa, M, Of, p', S', f', m, n, rfl, rfl, h1⟩, HK.out.trans h2 HG.out, HG.out⟩
end Go.Proofs.YtmmcjmejcngajaaGreatDoor

namespace Go.Proofs.YtmmcjmejcngajaaGreatDoor
open Go.RowKit
set_option linter.unusedVariables false


section
variable {P : Program} {ops : Array Oper} {W : World} {sec : List Tmp} {F : Tmp → Value → World → Prop} {o : Oper} {h : Act} {rest : List Oper} {Q : Act → Prop} {s : Tmp}
/-- an operation that reads hidden slots, by their facts, and whose answer is hidden -/
theorem sec_readF (hw : Region.wanted o (yielded ops h.tmps) = true) (hd : o.dst = some s) (hs : sec.contains s = true)
    (hrun : ∀ (a : Act) (w : World), Below W.heap.size W w → secLooks ops sec F o h a w → ∃ u, (execOp a.eval o).run P w = .ok (.value u) w ∧ F s u w) (hk : wpSec P ops W sec F Q rest (h.put o.dst undef)) : wpSec P ops W sec F Q (o :: rest) h := by
  unfold wpSec
  rw [if_pos hw]
  refine ⟨undef, fun a w hb hlk => ?_, hk⟩
  obtain ⟨u, h1, h2⟩ := hrun a w hb hlk
  rw [h1]
  refine ⟨Below.refl _ _, ?_⟩
  unfold secGood
  rw [hd]
  simp only
  rw [if_pos (by simpa using hs)]
  exact h2
theorem slg_src {α : Type} {c : α → List Value} {k : Nat} {w : World} {T E : TypeId} {M : List α} {p : Addr} {n cp : Nat} (hsl : SlG c k w w.heap.size (.slice (some p) n cp) M) (hk : ∀ a, (c a).length = k) (hone : ∀ a, ∀ u ∈ c a, u.oneCell' = true) (ht : P.underlying T = some (.slice E)) : n = M.length ∧ Src P k T (.slice (some p) n cp) M.length (rowG c M) w := by
  obtain ⟨A, cap, hv, _, hc⟩ := hsl
  injection hv with hA hn hcap
  subst hA hn hcap
  refine ⟨rfl, Src.ofSlice w ht p M.length cp (rowG c M) (rowG_length hk M) (fun j u hu => ?_) (fun u hu => ?_)⟩
  · obtain ⟨i, r, b, h1, h2, rfl⟩ := rowG_cells' hk hu
    obtain ⟨x', hx', _, hcell⟩ := hc i b h1
    injection hx' with hx'
    subst hx'
    exact hcell r u h2
  · obtain ⟨j, hj, rfl⟩ := List.getElem_of_mem hu
    obtain ⟨i, r, b, h1, h2, _⟩ := rowG_cells' hk (List.getElem?_eq_getElem hj)
    exact hone b _ (List.mem_of_getElem? h2)
theorem wpList_qS {α : Type} {c : α → List Value} {k bytes : Nat} {T E : TypeId} {rest : List Oper} {a : Act} {Q : Exit → Act → World → Prop} {L M : List α} (hT : FlatE P T E k bytes) (hk : ∀ a, (c a).length = k) (hgd : o.guard = none) (s x : Operand)
    (ho : o.op = .call { callee := .builtin .append, args := #[s, x], argTypes := #[T, T] }) {v u : Value} (hs : a.eval s = v) (hg : RowQ c k W v L)
    (hx : a.eval x = u) (hr : Src P k T u M.length (rowG c M) W) (hsz : L.length + M.length ≤ 1000000)
    (h : ∀ v' w', RowQ c k w' v' (L ++ M) → Kept (OwnO v) W w' → Grows (OwnO v) W (OwnO v') → wpList P ops Q rest (a.put o.dst v') w') : wpList P ops Q (o :: rest) a W := by
  refine wpList_plain hgd fun K hK' => ?_
  obtain ⟨v', w', hrun, r1, r2, r3⟩ := hg.run hT hk hr hsz o.type
  unfold Oper.wp
  simp [execOp, ho, resolve, invoke, builtin, hs, hx, hrun, Result.andThen]
  exact hK' _ _ (h v' w' r1 r2 r3)
end
theorem info_fl : (Tryz.prog.info? 90).map (fun i => (i.zero, i.size, i.bytes)) = some (some (.agg #[.int .u32 0, .int .u32 0, .bool false]), 3, 12) := by kernel_rfl
theorem flat_fl : FlatE Tryz.prog 22 90 3 12 := by
  obtain ⟨i0, hi, hz0, hz1, hz2⟩ := info_parts info_fl
  exact ⟨Tryz.underlying22, i0, _, hi, hz0, hz1, hz2, rfl, by decide, by decide⟩
theorem flC_one : ∀ f : Flt, ∀ u ∈ flC f, u.oneCell' = true := fun f u hu => by
  simp [flC] at hu
  rcases hu with rfl | rfl | rfl <;> rfl
theorem some_eqFl (a : Addr) (n c : Nat) (w : World) : (binOp .eql 22 (.slice (some a) n c) (.slice none 0 0)).run Tryz.prog w = .ok (.bool false) w := by kernel_rfl
set_option maxHeartbeats 2000000 in
theorem clonefl_v {w : World} {x : Addr} {n cp : Nat} {L : List Flt} (h : SlG flC 3 w w.heap.size (.slice (some x) n cp) L) (hm : n ≤ 50) :
    Calls Tryz.prog 46 #[.slice (some x) n cp] w fun e w' => ∃ u, e = .returned u ∧ RowQ flC 3 w' u L ∧ (∀ k, OwnO u k → w.heap.size ≤ k) ∧ Below w.heap.size w w' := by
  have hb0 := (Below.refl w.heap.size w).alloc (Nat.le_refl _) (.cells (#[] : Array Value) 90)
  have hs : n = L.length ∧ Src Tryz.prog 3 22 (.slice (some x) n cp) L.length (rowG flC L) (w.alloc (.cells (#[] : Array Value) 90)) := slg_src (h.later hb0) flC_len flC_one Tryz.underlying22
  obtain ⟨hn, hs⟩ := hs
  have HS := Lib.hid hs
  have HL : Hid (L.length ≤ 50) := Lib.hid (by omega)
  have hq := some_eqFl
  clear h hs hm hn hb0
  go_enter Tryz.func46, Tryz.ntmps46
  go_wp2_with (at_builtin; refine wpList_qS (c := flC) (L := []) (M := L) flat_fl flC_len rfl (.tmp 5) (.tmp 6) rfl (by simp [Act.eval]) (RowQ.empty w _) (by simp [Act.eval]) HS.out (by have := HL.out; simp; omega) ?_; rintro v3 w3 hq3 hk3 hg3; have HQ3 := Lib.hid hq3; have HK3 := Lib.hid hk3; have HG3 := Lib.hid hg3; clear hq3 hk3 hg3)
  go_wp2
  go_ret
  have hb0 := (Below.refl w.heap.size w).alloc (Nat.le_refl _) (.cells (#[] : Array Value) 90)
  have own : ∀ k, OwnO (.slice (some ⟨w.heap.size, 0, none⟩) 0 0) k → k = w.heap.size := fun k h => by
    injection h with h
    exact h.symm
  refine ⟨_, rfl, by simpa using HQ3.out, fun k hk => ?_, HK3.out.below hb0 (by have := hb0.size; omega) (fun k h => Nat.le_of_eq (own k h).symm)⟩
  rcases HG3.out k hk with h3 | h3
  · exact Nat.le_of_eq (own k h3).symm
  · have := hb0.size; omega
set_option maxHeartbeats 2000000 in
theorem kkany_v {w : World} {A : Option Addr} {n cp : Nat} {L : List Flt} (h : SlG flC 3 w w.heap.size (.slice A n cp) L) (hfit : ∀ x ∈ L, x.fits) (hm : n ≤ 50) :
    Calls Tryz.prog 18 #[.slice A n cp] w fun e w' => ∃ u, e = .returned u ∧ (∃ Of, AccK w' u L Of ∧ ∀ k, Of k → w.heap.size ≤ k) ∧ Below w.heap.size w w' := by
  obtain ⟨A1, c1, hv, hm2, hc⟩ := id h
  injection hv with hA hn hcap
  subst hA hn hcap
  cases L with
  | nil =>
    clear h hfit hc
    simp only [List.length_nil]
    go_enter Tryz.func18, Tryz.ntmps18
    go_wp2
    refine bodyPost_ret (v := .nilFunc) ?_ rfl ⟨_, rfl, ⟨_, .inl ⟨rfl, rfl, rfl⟩, fun k hk => hk.elim⟩, Below.refl _ _⟩
    simp [results, Tryz.results18, go_sem]
  | cons x L =>
    obtain ⟨a, ha, _⟩ := hc 0 x rfl
    subst ha
    have HC := Lib.hid (clonefl_v h hm)
    have HF := Lib.hid hfit
    have HM := Lib.hid hm
    obtain ⟨k, hk⟩ : ∃ k, (x :: L).length = k := ⟨_, rfl⟩
    have hk1 : ((k : Int) == 0) = false := by rw [← hk]; simp; omega
    have hk2 : (k == 0) = false := by rw [← hk]; simp
    have HK := Lib.hid hk
    rw [hk] at HC HM ⊢
    clear h hfit hc hm hm2 hk
    go_enter Tryz.func18, Tryz.ntmps18
    go_wp2_with fail
    refine HC.out.mono ?_
    rintro e w1 ⟨u, rfl, hq, ho, hb⟩
    obtain ⟨A9, c9, hsh⟩ := hq.shape
    subst hsh
    obtain ⟨k9, hk9⟩ : ∃ k, (x :: L).length = k := ⟨_, rfl⟩
    rw [hk9] at hq ho ⊢
    have HQ := Lib.hid hq
    have HO := Lib.hid ho
    have HB := Lib.hid hb
    clear hq ho hb HC hk9
    go_wp2
    have hb2 := (Below.refl w1.heap.size w1).alloc (Nat.le_refl _) (.cells #[.slice A9 k9 c9] 22)
    refine bodyPost_ret (v := .func (.func 47) #[] #[.pointer (some ⟨w1.heap.size, 0, none⟩)]) (by simp [results, Tryz.results18, go_sem]) rfl ?_
    refine ⟨_, rfl, ⟨_,   .inr ⟨w1.heap.size, .slice A9 k9 c9, by simp, rfl, Bx1.made _ _ _ rfl, HQ.out.later hb2, HF.out, by have := HM.out; have := HK.out; omega, rfl⟩, ?_⟩, fbelow_t HB.out hb2⟩
    rintro k (rfl | hk)
    · exact HB.out.size
    · exact HO.out k hk
/-! ### New -/
abbrev nlV : Value := .slice none 0 0
def NwP (W : World) (mb : Nat) (v : Value) (w : World) : Prop := ∃ b g M, v = .pointer (some ⟨b, 0, none⟩) ∧ BmM 53 [] w b g nlV nlV M [] [] ∧ BmS M (bxNew mb) ∧ W.heap.size ≤ g
def NwB (W : World) (mb : Nat) (v : Value) (w : World) : Prop := ∃ b g M, v = .agg #[ckS g M, nlV, nlV] ∧ BmM 53 [] w b g nlV nlV M [] [] ∧ BmS M (bxNew mb) ∧ W.heap.size ≤ g
def NwA (W : World) (L : List Flt) (v : Value) (w : World) : Prop := ∃ Of, AccK w v L Of ∧ ∀ k, Of k → W.heap.size ≤ k
def NwR (mr : Nat) (v : Value) (w : World) : Prop := ∃ b, v = .pointer (some ⟨b, 0, none⟩) ∧ RfM 60 0 [] [] w b none [] 0 ⟨[], mr, 0⟩
def NwI (W : World) (mr : Nat) (L : List Flt) (v : Value) (w : World) : Prop := ∃ fa, v = .agg #[fa, .slice none 0 0, .int .i64 0, .int .i64 0, .int .i64 mr, .int .i64 0] ∧ NwA W L fa w
def NwF (W : World) (mb mr : Nat) (L : List Flt) (t : Tmp) (v : Value) (w : World) : Prop :=
  if t = 5 ∨ t = 6 then NwP W mb v w else if t = 7 ∨ t = 8 then NwB W mb v w else if t = 11 then NwA W L v w else if t = 14 ∨ t = 15 then NwR mr v w else if t = 16 then v = .agg #[.slice none 0 0, .int .i64 0, .int .i64 0, .int .i64 mr, .int .i64 0] else if t = 17 then NwI W mr L v w else True
theorem NwA.later {W w w' : World} {L : List Flt} {v : Value} (h : NwA W L v w) (hb : Below w.heap.size w w') : NwA W L v w' := by
  obtain ⟨Of, h1, h2⟩ := h
  exact ⟨Of, h1.stay (fun k hk => hb.block k (h1.lt k hk)), h2⟩
theorem NwF.later {W w w' : World} {mb mr : Nat} {L : List Flt} {t : Tmp} {v : Value} (h : NwF W mb mr L t v w) (hb : Below w.heap.size w w') : NwF W mb mr L t v w' := by
  unfold NwF at h ⊢
  split
  · rename_i e; rw [if_pos e] at h
    obtain ⟨b, g, M, h1, h2, h3, h4⟩ := h
    exact ⟨b, g, M, h1, h2.later hb, h3, h4⟩
  · rename_i e; rw [if_neg e] at h
    split
    · rename_i e; rw [if_pos e] at h
      obtain ⟨b, g, M, h1, h2, h3, h4⟩ := h
      exact ⟨b, g, M, h1, h2.later hb, h3, h4⟩
    · rename_i e; rw [if_neg e] at h
      split
      · rename_i e; rw [if_pos e] at h
        exact NwA.later h hb
      · rename_i e; rw [if_neg e] at h
        split
        · rename_i e; rw [if_pos e] at h
          obtain ⟨b, h1, h2⟩ := h
          exact ⟨b, h1, h2.later hb⟩
        · rename_i e; rw [if_neg e] at h
          split
          · rename_i e; rw [if_pos e] at h
            exact h
          · rename_i e; rw [if_neg e] at h
            split
            · rename_i e; rw [if_pos e] at h
              obtain ⟨fa, h1, h2⟩ := h
              exact ⟨fa, h1, h2.later hb⟩
            · trivial
theorem bm_cells3 {TB : TypeId} {w : World} {b g : Nat} {vt ve : Value} {M : List (Int × Pk)} {T E : List Int} (h : BmM TB [] w b g vt ve M T E) : ∀ j u, [ckS g M, vt, ve][j]? = some u → w.cell? ⟨b, 0 + j, none⟩ = some u := fun j u hu => by
  rw [Lib.cell_of_heap h.box]
  simpa using hu
theorem mb_no32 (N : List (Int × Pk)) : ∀ v ∈ rowG mbC N, ∀ x, v ≠ .int .u32 x := by
  intro v hv x
  unfold rowG at hv
  obtain ⟨a, _, ha⟩ := List.mem_flatMap.1 hv
  simp [mbC, pkC] at ha
  rcases ha with rfl | rfl | rfl | rfl | rfl | rfl | rfl | rfl <;> (intro h; cases h)
theorem acc_apart {w : World} {fa : Value} {L : List Flt} {Of : Nat → Prop} {g : Nat} {N : List (Int × Pk)} (h : AccK w fa L Of) (hg : w.heap[g]? = some (.cells (rowG mbC N).toArray 95 (0, 0))) : ¬ Of g := by
  rcases h with ⟨_, _, rfl⟩ | ⟨kb, u, h0, _, h1, h2, _, _, rfl⟩
  · exact fun h => h
  · rintro (rfl | hk)
    · unfold Bx1 at h1
      rw [hg] at h1
      injection h1 with h1
      injection h1 with _ h3 _
      revert h3
      decide
    · rcases h2 with ⟨rfl, h3⟩ | ⟨g', o', cap, rfl, h3, h4, h5, h6, h7⟩
      · exact h0 h3
      · injection hk with e
        have e : g' = g := e
        subst e
        cases L with
        | nil => exact h0 rfl
        | cons x L =>
          have h8 := h6 0 (.int .u32 x.i) (by simp [rowG, flC])
          rw [Lib.cell_of_heap hg] at h8
          exact mb_no32 N _ (by simpa using Array.mem_of_getElem? h8) _ rfl
theorem acc_kinds {W w : World} {L : List Flt} {x : Value} (h : NwA W L x w) : x = .nilFunc ∨ ∃ k c, x = .func (.func k) #[] c := by
  obtain ⟨Of, h1, _⟩ := h
  rcases h1 with ⟨rfl, _⟩ | ⟨kb, u, _, rfl, _⟩
  · exact .inl rfl
  · exact .inr ⟨_, _, rfl⟩
theorem ckD_new {W w : World} {mb mr : Nat} {c : Cg} {L : List Flt} {fa : Value} {b g : Nat} {M : List (Int × Pk)} (hmb : boxesN c.bo = mb) (hmr : roomN c.fi = (mr : Int)) (h1 : 1 ≤ mr) (h2 : mr ≤ 1000) (hW : W.heap.size ≤ w.heap.size)
    (hm : BmM 53 [] w b g nlV nlV M [] []) (hs : BmS M (bxNew mb)) (ho : W.heap.size ≤ g) (ha : NwA W L fa w) :
    ∃ O, CkD (w.alloc (.cells #[ckS g M, nlV, nlV, fa, nlV, .int .i64 0, .int .i64 0, .int .i64 mr, .int .i64 0, .int .i64 0] 68)) (.pointer (some ⟨w.heap.size, 0, none⟩)) (ctNew c L) O ∧ ∀ k, O k → W.heap.size ≤ k := by
  have hb := (Below.refl w.heap.size w).alloc (Nat.le_refl _) (.cells #[ckS g M, nlV, nlV, fa, nlV, .int .i64 0, .int .i64 0, .int .i64 mr, .int .i64 0, .int .i64 0] 68)
  have hn := heap_alloc_new w (.cells #[ckS g M, nlV, nlV, fa, nlV, .int .i64 0, .int .i64 0, .int .i64 mr, .int .i64 0, .int .i64 0] 68)
  generalize w.alloc (.cells #[ckS g M, nlV, nlV, fa, nlV, .int .i64 0, .int .i64 0, .int .i64 mr, .int .i64 0, .int .i64 0] 68) = w' at hb hn ⊢
  obtain ⟨Of, ha1, ha2⟩ := ha
  have hal := ha1.lt
  have hml := hm.lt
  have hap1 := acc_apart ha1 hm.row
  have hmm : BmM 68 (ckY fa none 0 0 0 (mr : Int) 0 0) w' w.heap.size g nlV nlV M [] [] := hm.move hn (fun k hk => hb.block k (hml k (.inr hk))) hb.size (.inr (Nat.le_refl _))
  have out : ∀ k, bmO w.heap.size g nlV nlV k → k = w.heap.size ∨ k = g := fun k hk => by
    rcases hk with h | h | h | h
    · exact .inl h
    · exact .inr h
    · cases h
    · cases h
  have e : (ctNew c L).bx = bxNew mb := by unfold ctNew; rw [hmb]
  refine ⟨_, ⟨w.heap.size, g, nlV, nlV, fa, M, Of, none, [], 0, mr, 0, rfl, rfl, ⟨?_, ?_, ⟨?_, rfl, .inl ⟨rfl, rfl, rfl⟩, Nat.le_refl _, Nat.zero_le _, h1, h2, fun i hi => ?_⟩, ha1.stay (fun k hk => hb.block k (hal k hk)), hmr, rfl, ?_, ?_, ?_⟩⟩, ?_⟩
  · rw [e]; exact hmm
  · rw [e]; exact hs
  · exact hmm.box
  · cases hi
  · rintro k _ ⟨a, h, _⟩; cases h
  · intro k hk h3
    rcases out k hk with rfl | rfl
    · have := hal _ h3; omega
    · exact hap1 h3
  · rintro k ⟨a, h, _⟩ _; cases h
  · rintro k (hk | ⟨a, h, _⟩ | hk)
    · rcases out k hk with rfl | rfl
      · exact hW
      · exact ho
    · cases h
    · exact ha2 k hk
/-- the mailboxes that New makes -/
theorem kknewbox_v {n : Int} {mb : Nat} (hmb : boxesN n = mb) (w : World) : Calls Tryz.prog 17 #[.int .i64 n] w fun e w' => ∃ u, e = .returned u ∧ NwP w mb u w' ∧ Below w.heap.size w w' := by
  have hm2 : mb ≤ 1000 := by rw [← hmb]; unfold boxesN; split <;> (try split) <;> omega
  have mk1 := run_mkM mb hm2
  obtain ⟨ZM, hM⟩ : ∃ Z, rowG mbC (List.replicate mb (0, pk0)) = Z := ⟨_, rfl⟩
  rw [hM] at mk1
  have HZ := Lib.hid hM
  have hmin : min (max n 1) 1000 = (mb : Int) := by
    rw [← hmb]
    unfold boxesN
    split
    · omega
    · split <;> omega
  clear hM hmb
  go_enter Tryz.func17, Tryz.ntmps17
  go_wp2
  go_ret
  obtain ⟨w1, e1⟩ : ∃ w1, w.alloc (.cells ZM.toArray 95) = w1 := ⟨_, rfl⟩
  have s1 : w1.heap.size = w.heap.size + 1 := by rw [← e1]; simp
  have n1 := heap_alloc_new w (.cells ZM.toArray 95)
  have hb1 : Below w.heap.size w w1 := by rw [← e1]; exact (Below.refl _ w).alloc (Nat.le_refl _) _
  rw [e1] at n1 ⊢
  rw [← HZ.out] at n1
  have n2 := heap_alloc_new w1 (.cells #[.slice (some ⟨w.heap.size, 0, none⟩) mb mb, .slice none 0 0, .slice none 0 0] 53)
  have hb2 := (Below.refl _ w1).alloc (Nat.le_refl _) (.cells #[.slice (some ⟨w.heap.size, 0, none⟩) mb mb, .slice none 0 0, .slice none 0 0] 53)
  rw [s1] at n2
  have nn : ∀ k, ¬ OwnO (.slice none 0 0) k := fun k h => by cases h
  have hl : (List.replicate mb ((0 : Int), pk0)).length = mb := by simp
  refine ⟨_, rfl, ⟨w.heap.size + 1, w.heap.size, List.replicate mb (0, pk0), rfl, ⟨by rw [hl]; exact n2, (hb2.block _ (by omega)).trans n1, RowQ.nil _, RowQ.nil _, by omega, ⟨nn _, nn _⟩, ⟨nn _, nn _⟩, fun k h => (nn k h).elim⟩, ⟨by simp [bxNew], by simp [bxNew], Bx.Full.new mb⟩, Nat.le_refl _⟩, fbelow_t hb1 hb2⟩
set_option maxHeartbeats 8000000 in
theorem kknew_v (c : Cg) (L : List Flt) (w : World) (h : SlG flC 3 w w.heap.size c.va L) (hfit : ∀ x ∈ L, x.fits) (hm : c.n ≤ 50) : Calls Tryz.prog 6 #[cgV c] w fun e w' => ∃ v O, e = .returned v ∧ CkD w' v (ctNew c L) O ∧ Below w.heap.size w w' ∧ ∀ k, O k → w.heap.size ≤ k := by
  obtain ⟨w0, e0⟩ : ∃ w0, w.alloc (cgO c) = w0 := ⟨_, rfl⟩
  have hb0 : Below w.heap.size w w0 := by rw [← e0]; exact (Below.refl _ _).alloc (Nat.le_refl _) _
  have HB0 := Lib.hid hb0
  have hz0 : w.heap.size < w0.heap.size := by rw [← e0]; simp
  obtain ⟨d0, d1, d7⟩ := cg_cells w c
  rw [e0] at d0 d1 d7
  have HS := Lib.hid (h.later hb0)
  have HF := Lib.hid hfit
  have HM := Lib.hid hm
  obtain ⟨mb, hmb⟩ : ∃ m, boxesN c.bo = m := ⟨_, rfl⟩
  obtain ⟨mr, hmr⟩ : ∃ m : Nat, roomN c.fi = (m : Int) := ⟨(roomN c.fi).toNat, by have := roomN_rng c.fi; omega⟩
  have HMB := Lib.hid hmb
  have HMR := Lib.hid hmr
  have HRG : Hid (1 ≤ mr ∧ mr ≤ 1000) := Lib.hid (by have := roomN_rng c.fi; omega)
  clear hb0 h hfit hm hmb hmr
  go_enter Tryz.func6, Tryz.ntmps6
  go_upto_region 1 with fail
  have hcl : ∀ (n : Later w0) (b o : Nat), b < w0.heap.size → n.w.cell? ⟨b, o, none⟩ = w0.cell? ⟨b, o, none⟩ := later_cells w0
  refine wp_region_sec 15 [5, 6, 7, 8, 11, 14, 15, 16, 17] (NwF w mb mr L) (fun _ _ _ _ h hb => h.later hb) (by kernel_rfl) (by kernel_rfl) (by kernel_rfl) (by kernel_rfl) (by kernel_rfl) ?_
  simp only [List.take_succ_cons, List.take_zero, List.drop_succ_cons, List.drop_zero]
  repeat (refine sec_plain (by rfl) (by rfl) (by rfl) (by rfl) ?_; intro K hK; go_big_quiet_op; go_big_quiet_on)
  refine sec_callF (s := 5) (f := 17) (args := #[.int .i64 c.bo]) (by rfl) (by rfl) (by rfl) (by rfl) (by rfl) (fun w => by simp [go_sem]) ?_ ?_
  · intro q
    refine (kknewbox_v HMB.out q.w).mono ?_
    rintro e w' ⟨v, he, ⟨b, g, M, h1, h2, h3, h4⟩, h5⟩
    exact ⟨v, he, h5, b, g, M, h1, h2, h3, Nat.le_trans HB0.out.size (Nat.le_trans q.h.size h4)⟩
  simp only [Act.put, List.setIfInBounds_toArray, List.set_cons_succ, List.set_cons_zero]
  refine sec_readF (s := 6) (by rfl) (by rfl) (by rfl) (fun a w hb hl => ?_) ?_
  · have h5 := hl 5 (by decide)
    rw [if_pos (by decide)] at h5
    have h5' : NwP _ mb _ w := h5
    obtain ⟨b, g, M, h1, h2⟩ := id h5'
    exact ⟨_, by simp [execOp, go_sem, Act.eval, h1], h5'⟩
  simp only [Act.put, List.setIfInBounds_toArray, List.set_cons_succ, List.set_cons_zero]
  refine sec_readF (s := 7) (by rfl) (by rfl) (by rfl) (fun a w hb hl => ?_) ?_
  · have h6 := hl 6 (by decide)
    rw [if_pos (by decide)] at h6
    have h6' : NwP _ mb _ w := h6
    obtain ⟨b, g, M, h1, h2, h3, h4⟩ := h6'
    obtain ⟨q0, q1, q2⟩ := h2.cells
    exact ⟨.agg #[ckS g M, nlV, nlV], by simp [execOp, go_sem, Act.eval, h1, q0, q1, q2], b, g, M, rfl, h2, h3, h4⟩
  simp only [Act.put, List.setIfInBounds_toArray, List.set_cons_succ, List.set_cons_zero]
  refine sec_readF (s := 8) (by rfl) (by rfl) (by rfl) (fun a w hb hl => ?_) ?_
  · have h7 := hl 7 (by decide)
    rw [if_pos (by decide)] at h7
    have h7' : NwB _ mb _ w := h7
    obtain ⟨b, g, M, h1, h2⟩ := id h7'
    have h1b := h1
    rw [Array.getD_eq_getD_getElem?] at h1b
    exact ⟨.agg #[ckS g M, nlV, nlV], by simp [execOp, go_sem, Act.eval, h1b], b, g, M, rfl, h2⟩
  simp only [Act.put, List.setIfInBounds_toArray, List.set_cons_succ, List.set_cons_zero]
  repeat (refine sec_plain (by rfl) (by rfl) (by rfl) (by rfl) ?_; intro K hK; go_big_quiet_op; go_big_quiet_on)
  refine sec_callF (s := 11) (f := 18) (args := #[.slice c.A c.n c.cp]) (by rfl) (by rfl) (by rfl) (by rfl) (by rfl) (fun w => by simp [go_sem]) ?_ ?_
  · intro q
    refine (kkany_v (HS.out.later q.h) HF.out HM.out).mono ?_
    rintro e w' ⟨v, he, ⟨Of, h1, h2⟩, h3⟩
    exact ⟨v, he, h3, Of, h1, fun k hk => Nat.le_trans HB0.out.size (Nat.le_trans q.h.size (h2 k hk))⟩
  simp only [Act.put, List.setIfInBounds_toArray, List.set_cons_succ, List.set_cons_zero]
  repeat (refine sec_plain (by rfl) (by rfl) (by rfl) (by rfl) ?_; intro K hK; go_big_quiet_op; go_big_quiet_on)
  refine sec_callF (s := 14) (f := 19) (args := #[.int .i64 c.fi]) (by rfl) (by rfl) (by rfl) (by rfl) (by rfl) (fun w => by simp [go_sem]) ?_ ?_
  · intro q
    refine (rfnew_v c.fi q.w).mono ?_
    rintro e w' ⟨b, he, _, h2, h3⟩
    have e1 : (roomN c.fi).toNat = mr := by rw [HMR.out]; simp
    rw [e1] at h2
    exact ⟨_, he, h3, b, rfl, h2⟩
  simp only [Act.put, List.setIfInBounds_toArray, List.set_cons_succ, List.set_cons_zero]
  refine sec_readF (s := 15) (by rfl) (by rfl) (by rfl) (fun a w hb hl => ?_) ?_
  · have h5 := hl 14 (by decide)
    rw [if_pos (by decide)] at h5
    have h5' : NwR mr _ w := h5
    obtain ⟨b, h1, h2⟩ := id h5'
    exact ⟨_, by simp [execOp, go_sem, Act.eval, h1], h5'⟩
  simp only [Act.put, List.setIfInBounds_toArray, List.set_cons_succ, List.set_cons_zero]
  refine sec_readF (s := 16) (by rfl) (by rfl) (by rfl) (fun a w hb hl => ?_) ?_
  · have h5 := hl 15 (by decide)
    rw [if_pos (by decide)] at h5
    have h5' : NwR mr _ w := h5
    obtain ⟨b, h1, h2⟩ := id h5'
    obtain ⟨q0, q1, q2, q3, q4⟩ := h2.cells
    simp only [Nat.zero_add] at q1 q2 q3 q4
    exact ⟨.agg #[.slice none 0 0, .int .i64 0, .int .i64 0, .int .i64 mr, .int .i64 0], by simp [execOp, go_sem, Act.eval, h1, q0, q1, q2, q3, q4], rfl⟩
  simp only [Act.put, List.setIfInBounds_toArray, List.set_cons_succ, List.set_cons_zero]
  refine sec_readF (s := 17) (by rfl) (by rfl) (by rfl) (fun a w hb hl => ?_) ?_
  · have h5 := hl 11 (by decide)
    rw [if_pos (by decide)] at h5
    have h5' : NwA _ L _ w := h5
    have h6 := hl 16 (by decide)
    rw [if_pos (by decide)] at h6
    have h6' : _ = Value.agg #[.slice none 0 0, .int .i64 0, .int .i64 0, .int .i64 mr, .int .i64 0] := h6
    obtain ⟨x, hx⟩ : ∃ x, a.tmps.getD 11 undef = x := ⟨_, rfl⟩
    rw [hx] at h5'
    rw [Array.getD_eq_getD_getElem?] at hx h6'
    refine ⟨.agg #[x, .slice none 0 0, .int .i64 0, .int .i64 0, .int .i64 mr, .int .i64 0], ?_, x, rfl, h5'⟩
    rcases acc_kinds h5' with rfl | ⟨k1, c1, rfl⟩ <;> simp [execOp, go_sem, Act.eval, hx, h6']
  simp only [Act.put, List.setIfInBounds_toArray, List.set_cons_succ, List.set_cons_zero]
  intro xs m9 hF
  have h8 := hF 8 (by simp)
  have h17 := hF 17 (by simp)
  have h8' : NwB w mb (xs 8) m9.w := h8
  have h17' : NwI w mr L (xs 17) m9.w := h17
  obtain ⟨b, g, M, hx8, hm8, hs8, ho8⟩ := h8'
  obtain ⟨fa, hx17, ha17⟩ := h17'
  have hk := acc_kinds ha17
  have hbd := fbelow_t HB0.out m9.h
  obtain ⟨O, hck, hco⟩ := ckD_new (W := w) (c := c) HMB.out HMR.out HRG.out.1 HRG.out.2 hbd.size hm8 hs8 ho8 ha17
  have HCK := Lib.hid hck
  have HCO := Lib.hid hco
  have HBD := Lib.hid (fbelow_t hbd ((Below.refl m9.w.heap.size m9.w).alloc (Nat.le_refl _) (.cells #[ckS g M, nlV, nlV, fa, nlV, .int .i64 0, .int .i64 0, .int .i64 mr, .int .i64 0, .int .i64 0] 68)))
  simp only [secFill, Act.put, List.setIfInBounds_toArray, List.set_cons_succ, List.set_cons_zero, hx8, hx17]
  generalize xs 5 = v5
  generalize xs 6 = v6
  generalize xs 7 = v7
  generalize xs 11 = v11
  generalize xs 14 = v14
  generalize xs 15 = v15
  generalize xs 16 = v16
  clear hF xs hcl d0 d1 d7 h8 h17 hx8 hx17 hm8 hs8 ho8 ha17 hbd hck hco
  generalize m9.w = w9 at HCK HBD ⊢
  rcases hk with rfl | ⟨k1, c1, rfl⟩
  · go_wp2
    go_ret
    exact ⟨_, O, rfl, HCK.out, HBD.out, HCO.out⟩
  · go_wp2
    go_ret
    exact ⟨_, O, rfl, HCK.out, HBD.out, HCO.out⟩
end Go.Proofs.YtmmcjmejcngajaaGreatDoor

namespace Go.Proofs.YtmmcjmejcngajaaGreatDoor
open Go.RowKit
set_option linter.unusedVariables false

theorem ctrlReal : CtrlI Tabs CkD where
  tab := fun h hb => h.below hb
  obj := isObj_ck
  ptr := by
    rintro w v s O ⟨b, g, vt, ve, fa, M, Of, p, S, f, m, n, rfl, _⟩
    exact ⟨_, rfl⟩
  new := fun c L w _ h hf hn => kknew_v c L w h hf hn
  load := fun p h ok hT hp => kkload_v p h ok hT hp
  offer := fun h ok _ => kkoffer_v h ok
  won := fun h ok _ => kkwon_v h ok
  hear := fun f h ok hl hT hn _ => kkhear_v f h ok hl hT hn
  off := fun h ok => kkoff_v h ok
  asks := fun h _ => kkasks_v h
  clear := fun n h ok _ => kkclear_v n h ok
  ended := fun h ok => kkended_v h ok
  fetch := fun h ok => kkfetch_v h ok
  abort := fun h ok => kkabort_v h ok
  free := fun h ok => kkfree_v h ok
  states := fun h ok => kkstates_v h ok
  lost := fun h _ => kklost_v h
  kept := fun h _ => kkkept_v h
end Go.Proofs.YtmmcjmejcngajaaGreatDoor
