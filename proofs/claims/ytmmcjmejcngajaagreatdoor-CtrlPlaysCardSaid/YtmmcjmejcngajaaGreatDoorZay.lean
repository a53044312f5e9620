/- Ring, the code, rows of frames within a greater block: pieces, copied. Ring, the code, rows of frames within a greater block: Take. Ring, the code, rows of frames within a greater block: Put. Of no program: a row in a block of its own as what another reads; an empty one. -/
import Derived.Test.YtmmcjmejcngajaaGreatDoorZax
import Derived.Test.YtmmcjmejcngajaaGreatDoorZai
import Derived.Test.YtmmcjmejcngajaaGreatDoorZam
import Derived.Test.YtmmcjmejcngajaaGreatDoorZaq
import Derived.Lib.SliceRun
import Derived.Deep.RegionWith
import Derived.Test.YtmmcjmejcngajaaGreatDoorZae
import Derived.Deep.Cut
namespace Go.Proofs.YtmmcjmejcngajaaGreatDoor
open Go.RowKit
set_option linter.unusedVariables false
variable {TB : TypeId} {o : Nat} {X Y : List Value}

theorem h0row {w : World} {S : List Fr} {g n : Nat} (hg : w.heap[g]? = some (.cells (rowG frC S).toArray 33 (0, 0))) : SfP w (some ⟨g, 0, none⟩) (S.take n) := by
  have := SfP.row (i := 0) (n := n) hg
  simpa using this
set_option maxHeartbeats 4000000 in
theorem rfpieces_x1 {w : World} {b g k f l : Nat} (hf : f < k) (hz : k ≤ 1000) (hl : l ≤ k) (hb : b < w.heap.size) (hgl : g < w.heap.size)
   (a0 : w.cell? ⟨b, o, none⟩ = some (.slice (some ⟨g, 0, none⟩) k k)) (a1 : w.cell? ⟨b, o + 1, none⟩ = some (.int .i64 (f : Int))) (a2 : w.cell? ⟨b, o + 2, none⟩ = some (.int .i64 (l : Int))) (h : f + l ≤ k) (h0 : 0 < l) : Calls Tryz.prog 79 #[.pointer (some ⟨b, o, none⟩)] w (Reads w (.tuple #[.slice (some ⟨g, f * 4, none⟩) l l, .slice (some ⟨g, 0, none⟩) 0 0])) := by
  unfold Reads
  go_enter Tryz.func79, Tryz.ntmps79
  go_wp2
  go_quiet (fail)
  have hr : ¬ (0 < (f : Int) + (l : Int) - (k : Int)) := by omega
  go_wp2
  all_goals (
    go_quiet (fail)
    go_wp2
    go_ret2
    refine ⟨?_, _, World.drewN_drewN _ _ _⟩
    first | rfl | (try simp); try omega)
set_option maxHeartbeats 4000000 in
theorem rfpieces_x2 {w : World} {b g k f l : Nat} (hf : f < k) (hz : k ≤ 1000) (hl : l ≤ k) (hb : b < w.heap.size) (hgl : g < w.heap.size)
   (a0 : w.cell? ⟨b, o, none⟩ = some (.slice (some ⟨g, 0, none⟩) k k)) (a1 : w.cell? ⟨b, o + 1, none⟩ = some (.int .i64 (f : Int))) (a2 : w.cell? ⟨b, o + 2, none⟩ = some (.int .i64 (l : Int))) (h : k < f + l) : Calls Tryz.prog 79 #[.pointer (some ⟨b, o, none⟩)] w (Reads w (.tuple #[.slice (some ⟨g, f * 4, none⟩) (k - f) (k - f), .slice (some ⟨g, 0, none⟩) (f + l - k) (f + l - k)])) := by
  unfold Reads
  go_enter Tryz.func79, Tryz.ntmps79
  go_wp2
  go_quiet (fail)
  have hr : 0 < (f : Int) + (l : Int) - (k : Int) := by omega
  go_wp2
  all_goals (
    go_quiet (fail)
    go_wp2
    go_ret2
    refine ⟨?_, _, World.drewN_drewN _ _ _⟩
    first | rfl | (try simp); try omega)
set_option maxHeartbeats 4000000 in
theorem rfpieces_x3 {w : World} {b g k f l : Nat} (hf : f < k) (hz : k ≤ 1000) (hl : l ≤ k) (hb : b < w.heap.size) (hgl : g < w.heap.size)
   (a0 : w.cell? ⟨b, o, none⟩ = some (.slice (some ⟨g, 0, none⟩) k k)) (a1 : w.cell? ⟨b, o + 1, none⟩ = some (.int .i64 (f : Int))) (a2 : w.cell? ⟨b, o + 2, none⟩ = some (.int .i64 (l : Int))) (h0 : l = 0) : Calls Tryz.prog 79 #[.pointer (some ⟨b, o, none⟩)] w (Reads w (.tuple #[.slice (some ⟨g, 0, none⟩) 0 0, .slice (some ⟨g, 0, none⟩) 0 0])) := by
  subst h0
  simp only [Int.natCast_zero] at a2
  unfold Reads
  go_enter Tryz.func79, Tryz.ntmps79
  go_wp2
  go_quiet (fail)
  have hr : ¬ (0 < (f : Int) - (k : Int)) := by omega
  go_wp2
  all_goals (
    go_quiet (fail)
    go_wp2
    go_ret2
    refine ⟨?_, _, World.drewN_drewN _ _ _⟩
    first | rfl | (try simp); try omega)
set_option maxHeartbeats 4000000 in
theorem rfpieces_x0 {w : World} {b : Nat} (hb : b < w.heap.size)
   (a0 : w.cell? ⟨b, o, none⟩ = some (.slice none 0 0)) (a1 : w.cell? ⟨b, o + 1, none⟩ = some (.int .i64 0)) (a2 : w.cell? ⟨b, o + 2, none⟩ = some (.int .i64 0)) : Calls Tryz.prog 79 #[.pointer (some ⟨b, o, none⟩)] w (Reads w (.tuple #[.slice none 0 0, .slice none 0 0])) := by
  unfold Reads
  go_enter Tryz.func79, Tryz.ntmps79
  go_wp2
  go_quiet (fail)
  go_wp2
  all_goals (
    go_quiet (fail)
    go_wp2
    go_ret2
    exact ⟨rfl, _, World.drewN_drewN _ _ _⟩)
theorem rfpieces_v {w : World} {b : Nat} {p : Option Addr} {S : List Fr} {f : Nat} {s : Rg Fr} (h : RfM TB o X Y w b p S f s) : ∃ v, PcF w v s.L ∧ ∀ w', Below w.heap.size w w' → Calls Tryz.prog 79 #[.pointer (some ⟨b, o, none⟩)] w' (Reads w' v) := by
  have hl := h.len
  have hz : S.length ≤ 1000 := Nat.le_trans h.fit h.hi
  rcases h.row with ⟨rfl, rfl, rfl⟩ | ⟨g, rfl, hg, hgb, hf⟩
  · have h0 : s.L = [] := List.eq_nil_of_length_eq_zero (by simpa using hl)
    refine ⟨.tuple #[.slice none 0 0, .slice none 0 0], ?_, fun w' hb => ?_⟩
    · rw [h0]; exact ⟨[], [], none, none, rfl, rfl, SfP.none_ _ _, SfP.none_ _ _⟩
    · obtain ⟨a0, a1, a2, a3, a4⟩ := (h.later hb).cells
      rw [h0] at a2
      exact rfpieces_x0 (h.later hb).blt a0 a1 a2
  · have hgl := rheap_lt hg
    have hp := round_pieces hf hl h.mem
    by_cases h0 : s.L.length = 0
    · have h0' : s.L = [] := List.eq_nil_of_length_eq_zero h0
      refine ⟨_, ?_, fun w' hb => by obtain ⟨a0, a1, a2, _, _⟩ := (h.later hb).cells; exact rfpieces_x3 hf hz hl (h.later hb).blt (Nat.lt_of_lt_of_le (rheap_lt hg) hb.size) a0 a1 a2 h0⟩
      rw [h0']
      exact ⟨[], [], _, _, rfl, rfl, SfP.none_ _ _, SfP.none_ _ _⟩
    · by_cases h1 : f + s.L.length ≤ S.length
      · refine ⟨_, ?_, fun w' hb => by obtain ⟨a0, a1, a2, _, _⟩ := (h.later hb).cells; exact rfpieces_x1 hf hz hl (h.later hb).blt (Nat.lt_of_lt_of_le (rheap_lt hg) hb.size) a0 a1 a2 h1 (by omega)⟩
        have e : f + s.L.length - S.length = 0 := by omega
        refine ⟨_, _, some ⟨g, f * 4, none⟩, some ⟨g, 0, none⟩, ?_, hp, SfP.row hg, h0row hg⟩
        rw [e]
        simp
        omega
      · refine ⟨_, ?_, fun w' hb => by obtain ⟨a0, a1, a2, _, _⟩ := (h.later hb).cells; exact rfpieces_x2 hf hz hl (h.later hb).blt (Nat.lt_of_lt_of_le (rheap_lt hg) hb.size) a0 a1 a2 (by omega)⟩
        refine ⟨_, _, some ⟨g, f * 4, none⟩, some ⟨g, 0, none⟩, ?_, hp, SfP.row hg, h0row hg⟩
        simp
        omega
theorem info_rf : (Tryz.prog.info? 33).map (fun i => (i.zero, i.size, i.bytes)) = some (some (.agg (frC fr0).toArray), 4, 40) := by kernel_rfl
theorem info_rf4 : (Tryz.prog.info? 33).map (·.size) = some 4 := by kernel_rfl
theorem rep_rf (n : Nat) : madeCells (Value.agg (frC fr0).toArray).cells (n * 4) = (rowG frC (List.replicate n fr0)).toArray := by
  have h := made_rep (frC fr0).toArray n (by decide)
  have e : (Value.agg (frC fr0).toArray).cells = (frC fr0).toArray := by kernel_rfl
  rw [e]
  refine Eq.trans h ?_
  congr 1
  unfold rowG
  rw [List.flatMap_def, List.map_replicate]
theorem run_mkrf (n : Nat) (hn : n ≤ 1000) (w : World) :
    (Instr.makeSlice 41 (.int .i64 n) (.int .i64 n)).run Tryz.prog w = .ok (.slice (some ⟨w.heap.size, 0, none⟩) n n) (w.alloc (.cells (rowG frC (List.replicate n fr0)).toArray 33)) := by
  obtain ⟨i0, hi, hz0, hz1, hz2⟩ := info_parts info_rf
  have := run_make (P := Tryz.prog) w 41 33 i0 _ Tryz.underlying41 hi hz0 .i64 .i64 (n : Int) (n : Int) (by omega) (Int.le_refl _) (by rw [hz2]; omega) (by omega)
  rw [hz1, Int.toNat_natCast, rep_rf] at this
  exact this
theorem zero_rf : ∀ w, (zeroValue 33).run Tryz.prog w = .ok (.agg (frC fr0).toArray) w := fun w => by kernel_rfl
theorem zero_rfC : (Builtin.zeroCells (Value.agg (frC fr0).toArray).cells 1).toList = frC fr0 := by kernel_rfl
theorem frC_oneC : ∀ f : Fr, ∀ u ∈ frC f, u.oneCell' = true := fun f u hu => by
  simp [frC] at hu
  rcases hu with rfl | rfl | rfl | rfl <;> rfl
theorem rowF_one (L : List Fr) : ∀ v ∈ rowG frC L, v.oneCell' = true := by
  intro v hv
  unfold rowG at hv
  obtain ⟨a, _, ha⟩ := List.mem_flatMap.1 hv
  exact frC_oneC a v ha
set_option maxHeartbeats 8000000 in
theorem rfcopied_v {w : World} {b : Nat} {p : Option Addr} {S : List Fr} {f k : Nat} {s : Rg Fr} (h : RfM TB o X Y w b p S f s) (hk : s.L.length ≤ k) (hk2 : k ≤ 1000) :
    Calls Tryz.prog 60 #[.pointer (some ⟨b, o, none⟩), .int .i64 (k : Int)] w fun e w' => ∃ g, e = .returned (.slice (some ⟨g, 0, none⟩) k k) ∧ w.heap.size ≤ g ∧ w'.heap[g]? = some (.cells (rowG frC (s.L ++ List.replicate (k - s.L.length) fr0)).toArray 33 (0, 0)) ∧ Below w.heap.size w w' := by
  have H := Lib.hid h
  have hmk := run_mkrf k hk2
  obtain ⟨Z, hZ⟩ : ∃ Z, rowG frC (List.replicate k fr0) = Z := ⟨_, rfl⟩
  have hZl : Z.length = k * 4 := by rw [← hZ, rowG_length frC_len]; simp
  have HZ := Lib.hid hZ
  have HZl := Lib.hid hZl
  rw [hZ] at hmk
  obtain ⟨L, hL⟩ : ∃ L, s.L = L := ⟨_, rfl⟩
  have HL := Lib.hid hL
  rw [hL] at hk ⊢
  have HK := Lib.hid hk
  clear h hZ hZl hL hk
  go_enter Tryz.func60, Tryz.ntmps60
  go_wp2_with fail
  obtain ⟨v, hv, hc⟩ := rfpieces_v H.out
  refine (hc _ ((Below.refl _ _).alloc (Nat.le_refl _) (.cells Z.toArray 33))).mono ?_
  rw [HL.out] at hv
  obtain ⟨A, B, p1, p2, rfl, hAB, hA, hB⟩ := hv
  rintro e w1 ⟨rfl, n, hw⟩
  have HG : Hid (w1.heap[w.heap.size]? = some (.cells Z.toArray 33 (0, 0))) := Lib.hid (by rw [hw]; exact heap_alloc_new w _)
  have HB : Hid (Below w.heap.size w w1) := Lib.hid (by rw [hw]; exact below_drewN ((Below.refl _ _).alloc (Nat.le_refl _) _) n)
  have HA := Lib.hid hA
  have HS := Lib.hid hB
  have HAB := Lib.hid hAB
  obtain ⟨na, hna⟩ : ∃ n, A.length = n := ⟨_, rfl⟩
  obtain ⟨nb, hnb⟩ : ∃ n, B.length = n := ⟨_, rfl⟩
  have hab : na + nb ≤ k := by have := HK.out; rw [hAB, List.length_append] at this; omega
  have HNA := Lib.hid hna
  have HNB := Lib.hid hnb
  obtain ⟨XA, hX⟩ : ∃ X, rowG frC A = X := ⟨_, rfl⟩
  obtain ⟨XB, hY⟩ : ∃ Y, rowG frC B = Y := ⟨_, rfl⟩
  have HX := Lib.hid hX
  have HY := Lib.hid hY
  have hXl : XA.length = na * 4 := by rw [← hX, rowG_length frC_len, hna]
  have hYl : XB.length = nb * 4 := by rw [← hY, rowG_length frC_len, hnb]
  have hXo : ∀ v ∈ XA, v.oneCell' = true := by rw [← hX]; exact rowF_one A
  have hYo : ∀ v ∈ XB, v.oneCell' = true := by rw [← hY]; exact rowF_one B
  have HXl := Lib.hid hXl
  have HYl := Lib.hid hYl
  have HXo := Lib.hid hXo
  have HYo := Lib.hid hYo
  rw [hna, hnb]
  have hg1 : w.heap.size < w1.heap.size := rheap_lt HG.out
  have hfin : splice (splice Z 0 XA) (na * 4) XB = rowG frC (L ++ List.replicate (k - L.length) fr0) := by
    have h1 := splice_repF fr0 k A B (by omega)
    rw [hna, hX, hY, HZ.out] at h1
    rw [h1, HAB.out]
  have HF := Lib.hid hfin
  clear hA hB hw hAB hna hnb hX hY hXo hYo hYl hc hmk hfin
  by_cases hkn : k = na
  · subst hkn
    go_wp2_with (first | (refine wpList_copy_spliceK rfl (.tmp 16) (.tmp 17) 41 41 rfl 33 4 k Tryz.underlying41 info_rf4 (by decide) (some ⟨w.heap.size, 0, none⟩) p1 k k k k rfl rfl w.heap.size 0 Z 33 HG.out XA (by exact (Nat.min_eq_left (by omega)).symm) HXl.out (fun h0 => ⟨rfl, HA.out.src HB.out HX.out HNA.out h0⟩) (by rw [HXl.out, HZl.out]; omega) HXo.out w.heap.size w HB.out (Nat.le_refl _) ?_; intro w2 hg2 hb2) | (refine wpList_copy_spliceK rfl (.tmp 19) (.tmp 20) 41 41 rfl 33 4 0 Tryz.underlying41 info_rf4 (by decide) (some ⟨w.heap.size, 0, none⟩) p2 0 0 nb nb rfl rfl w.heap.size (k * 4) (splice Z 0 XA) 33 hg2.out XB (by simp) (by rw [HYl.out]; omega) (fun h0 => by omega) (by rw [length_splice Z 0 XA (by rw [HXl.out, HZl.out]; omega), HYl.out, HZl.out]; omega) HYo.out w.heap.size w hb2 (Nat.le_refl _) ?_; intro w3 hg3 hb3))
    go_ret
    exact ⟨w.heap.size, rfl, Nat.le_refl _, by rw [← HF.out]; exact hg3.out, hb3⟩
  · go_wp2_with (first | (refine wpList_copy_spliceK rfl (.tmp 16) (.tmp 17) 41 41 rfl 33 4 na Tryz.underlying41 info_rf4 (by decide) (some ⟨w.heap.size, 0, none⟩) p1 k k na na rfl rfl w.heap.size 0 Z 33 HG.out XA (by exact (Nat.min_eq_left (by omega)).symm) HXl.out (fun h0 => ⟨rfl, HA.out.src HB.out HX.out HNA.out h0⟩) (by rw [HXl.out, HZl.out]; omega) HXo.out w.heap.size w HB.out (Nat.le_refl _) ?_; intro w2 hg2 hb2) | (refine wpList_copy_spliceK rfl (.tmp 19) (.tmp 20) 41 41 rfl 33 4 nb Tryz.underlying41 info_rf4 (by decide) (some ⟨w.heap.size, na * 4, none⟩) p2 (k - na) (k - na) nb nb rfl rfl w.heap.size (na * 4) (splice Z 0 XA) 33 hg2.out XB (by exact (Nat.min_eq_left (by omega)).symm) HYl.out (fun h0 => ⟨rfl, HS.out.src hb2 HY.out HNB.out h0⟩) (by rw [length_splice Z 0 XA (by rw [HXl.out, HZl.out]; omega), HYl.out, HZl.out]; omega) HYo.out w.heap.size w hb2 (Nat.le_refl _) ?_; intro w3 hg3 hb3))
    go_ret
    exact ⟨w.heap.size, rfl, Nat.le_refl _, by rw [← HF.out]; exact hg3.out, hb3⟩
end Go.Proofs.YtmmcjmejcngajaaGreatDoor

namespace Go.Proofs.YtmmcjmejcngajaaGreatDoor
open Go.RowKit
set_option linter.unusedVariables false
variable {TB : TypeId} {o : Nat} {X Y : List Value}


theorem RfW.setNew {O : Nat → Prop} {w0 w : World} {b g : Nat} {S : List Fr} {f l m n : Int} (h : RfW TB o X Y O w0 w b g S f l m n) {k : Nat} (hk : w0.heap.size ≤ k) (hb : k ≠ b) (hg : k ≠ g) (j : Nat) (u : Value) : RfW TB o X Y O w0 (w.setCell ⟨k, j, none⟩ u) b g S f l m n :=
  ⟨(Below.heap_setCell w ⟨k, j, none⟩ u b (fun e => hb e.symm)).trans h.box, h.off, (Below.heap_setCell w ⟨k, j, none⟩ u g (fun e => hg e.symm)).trans h.row, h.gb, h.kept.setNew (p := ⟨k, j, none⟩) hk u, h.ob, h.og⟩
set_option maxHeartbeats 4000000 in
theorem rftake_f {w : World} {v : Value} {m n : Nat} {O : Nat → Prop} (h : RfI TB o X Y w v ⟨[], m, n⟩ O) : Calls Tryz.prog 57 #[v] w fun e w' => e = .returned (.tuple #[frV fr0, .int .i64 6]) ∧ Stp (RfI TB o X Y) v O w ⟨[], m, n⟩ w' := by
  have H := Lib.hid h
  clear h
  go_enter Tryz.func57, Tryz.ntmps57
  go_wp2_with fail
  have hb0 := (Below.refl w.heap.size w).alloc (Nat.le_refl _) zfO
  refine (rfpeek_f ((rfI_obj TB o X Y).stay H.out (fun k hk => hb0.block k ((rfI_obj TB o X Y).lt H.out k hk)))).mono ?_
  rintro e w1 ⟨rfl, hb1⟩
  have HB1 := Lib.hid (fbelow_t hb0 hb1)
  have HF1 := Lib.hid ((BoxF.made w 0 0 0 (ByteArray.mk #[])).later hb1)
  have z1 : w.heap.size < w1.heap.size := HF1.out.lt
  obtain ⟨d0, d1, d2, d3⟩ := HF1.out.cells
  have ff : ∀ j, w1.frozen? ⟨w.heap.size, j, none⟩ = false := fun j => Lib.frozen_of_heap HF1.out j
  clear hb0 hb1
  have HP : Hid (BoxF (((((w1.setCell ⟨w.heap.size, 0, none⟩ (.int .i64 0)).setCell ⟨w.heap.size, 1, none⟩ (.int .i64 0)).setCell ⟨w.heap.size, 2, none⟩ (.int .i64 0)).setCell ⟨w.heap.size, 3, none⟩ (.string (ByteArray.mk #[]))).alloc zfO) w.heap.size 0 0 0 (ByteArray.mk #[])) := Lib.hid (BoxF.later (boxF_set HF1.out) ((Below.refl _ _).alloc (Nat.le_refl _) _))
  have HPB : Hid (Below w.heap.size w (((((w1.setCell ⟨w.heap.size, 0, none⟩ (.int .i64 0)).setCell ⟨w.heap.size, 1, none⟩ (.int .i64 0)).setCell ⟨w.heap.size, 2, none⟩ (.int .i64 0)).setCell ⟨w.heap.size, 3, none⟩ (.string (ByteArray.mk #[]))).alloc zfO)) := Lib.hid (fbelow_t (boxF_below HB1.out (Nat.le_refl _)) ((Below.refl _ _).alloc (Nat.le_refl _) _))
  go_wp2
  obtain ⟨g0, g1, g2, g3⟩ := HP.out.cells
  refine bodyPost_ret (v := .tuple #[frV fr0, .int .i64 6]) ?_ rfl ⟨rfl, O, (rfI_obj TB o X Y).stay H.out (fun k hk => HPB.out.block k ((rfI_obj TB o X Y).lt H.out k hk)), Kept.of_below HPB.out, Grows.refl _ _⟩
  simp [results, Tryz.results57, go_sem, g0, g1, g2, g3]
set_option maxHeartbeats 4000000 in
theorem rftake_t {w : World} {v : Value} {x : Fr} {L : List Fr} {m n : Nat} {O : Nat → Prop} (h : RfI TB o X Y w v ⟨x :: L, m, n⟩ O) : Calls Tryz.prog 57 #[v] w fun e w' => e = .returned (.tuple #[frV x, .int .i64 0]) ∧ Stp (RfI TB o X Y) v O w ⟨L, m, n⟩ w' := by
  have HI := Lib.hid h
  obtain ⟨b, p, S, f, rfl, rfl, h⟩ := h
  rcases h.row with ⟨rfl, rfl, rfl⟩ | ⟨g, rfl, _, _, hf⟩
  · have := h.len; simp at this
  have H := Lib.hid h
  have hz : S.length ≤ 1000 := Nat.le_trans h.fit h.hi
  obtain ⟨k, hk⟩ : ∃ k, S.length = k := ⟨_, rfl⟩
  have HK := Lib.hid hk
  rw [hk] at hf hz
  clear h hk
  go_enter Tryz.func57, Tryz.ntmps57
  go_wp2_with fail
  have hb0 := (Below.refl w.heap.size w).alloc (Nat.le_refl _) zfO
  refine (rfpeek_t ((rfI_obj TB o X Y).stay HI.out (fun k hk => hb0.block k ((rfI_obj TB o X Y).lt HI.out k hk)))).mono ?_
  rintro e w1 ⟨rfl, hb1⟩
  have HB1 := Lib.hid (fbelow_t hb0 hb1)
  have hbx := (Below.refl w1.heap.size w1).alloc (Nat.le_refl _) (.cells #[.int .i64 x.i, .int .i64 x.n, .int .i64 x.l, .string x.d] 33)
  have HF1 := Lib.hid (((BoxF.made w 0 0 0 (ByteArray.mk #[])).later hb1).later hbx)
  have HX1 := Lib.hid (BoxF.made w1 x.i x.n x.l x.d)
  have HB2 := Lib.hid (fbelow_t HB1.out hbx)
  have z1 : w.heap.size < w1.heap.size := ((BoxF.made w 0 0 0 (ByteArray.mk #[])).later hb1).lt
  obtain ⟨l, hl⟩ : ∃ l, (x :: L).length = l := ⟨_, rfl⟩
  have HL := Lib.hid hl
  have HW : Hid (RfW TB o X Y (rgO b (some ⟨g, 0, none⟩)) w (w1.alloc (.cells #[.int .i64 x.i, .int .i64 x.n, .int .i64 x.l, .string x.d] 33)) b g S (f : Int) (l : Int) m n) := Lib.hid (by rw [← hl]; exact H.out.mid.1.later HB2.out)
  clear hl hb0 hb1 hbx
  obtain ⟨a0, a1, a2, a3, a4⟩ := HW.out.cells
  rw [HK.out] at a0
  have zb : b < w.heap.size := H.out.blt
  have zg : g < w.heap.size := H.out.lt g (.inr ⟨_, rfl, rfl⟩)
  generalize hw2 : w1.alloc (.cells #[.int .i64 x.i, .int .i64 x.n, .int .i64 x.l, .string x.d] 33) = w2 at HW HF1 HX1 HB2 a0 a1 a2 a3 a4
  have hb := HW.out.blt
  have hg := HW.out.glt
  go_upto_region 4 with fail
  clear hw2
  have hcl : ∀ (n : Later w2) (b o : Nat), b < w2.heap.size → n.w.cell? ⟨b, o, none⟩ = w2.cell? ⟨b, o, none⟩ := later_cells w2
  refine wp_region_sec 14 [] (fun _ _ _ => True) (fun _ _ _ _ _ _ => True.intro) (by kernel_rfl) (by kernel_rfl) (by kernel_rfl) (by kernel_rfl) (by kernel_rfl) ?_
  simp only [List.take_succ_cons, List.take_zero, List.drop_succ_cons, List.drop_zero]
  repeat ((first | refine sec_plain (by rfl) (by rfl) (by rfl) (by rfl) ?_ | refine sec_nil (by rfl) (by rfl) (by rfl) (by rfl) (by rfl) ?_); intro K hK; go_big_quiet_op; go_big_quiet_on)
  intro xs m9 hF
  simp only [secFill]
  clear hF xs hcl
  have HW2 := Lib.hid (HW.out.later m9.h)
  have HF2 := Lib.hid (HF1.out.later m9.h)
  have HX2 := Lib.hid (HX1.out.later m9.h)
  have HB3 := Lib.hid (fbelow_t HB2.out m9.h)
  generalize m9.w = w3 at HW2 HF2 HX2 HB3 ⊢
  clear a0 a1 a2 a3 a4 hb hg
  have hx2 : S[f]? = some x := round_first (by rw [HK.out]; exact hf) H.out.mem
  obtain ⟨y0, y1, y2, y3⟩ := HW2.out.slot hx2
  have yl := HW2.out.liveG
  refine wpList_clearK rfl (.tmp 28) 41 33 rfl Tryz.underlying41 _ zero_rf _ zero_rfC (frC_oneC fr0) g (f * 4) (k - f) rfl (fun j hj => ?_) (fun j _ => yl _) ?_
  · have hj4 : j < 4 := hj
    rcases (by omega : j = 0 ∨ j = 1 ∨ j = 2 ∨ j = 3) with rfl | rfl | rfl | rfl
    · rw [Nat.add_zero, y0]; rfl
    · rw [y1]; rfl
    · rw [y2]; rfl
    · rw [y3]; rfl
  have hset : w3.setCells g (f * 4) (frC fr0) = putS w3 g f fr0 := rfl
  rw [hset]
  have zx : w.heap.size ≠ w1.heap.size := by omega
  have HW3 := Lib.hid (HW2.out.setSlot (i := f) (by rw [HK.out]; exact hf) fr0)
  have HF3 : Hid (BoxF (putS w3 g f fr0) w.heap.size 0 0 0 (ByteArray.mk #[])) := Lib.hid ((putS_other (by omega)).trans HF2.out)
  have HX3 : Hid (BoxF (putS w3 g f fr0) w1.heap.size x.i x.n x.l x.d) := Lib.hid ((putS_other (by omega)).trans HX2.out)
  clear y0 y1 y2 y3 yl hset
  generalize putS w3 g f fr0 = w4 at HW3 HF3 HX3 ⊢
  obtain ⟨a0, a1, a2, a3, a4⟩ := HW3.out.cells
  rw [List.length_set, HK.out] at a0
  have f1 := HW3.out.live (o + 1)
  have f2 := HW3.out.live (o + 2)
  have hb := HW3.out.blt
  have hzr : (f + 1) % k < k := Nat.mod_lt _ (by omega)
  obtain ⟨r, hr⟩ : ∃ r, (f + 1) % k = r := ⟨_, rfl⟩
  rw [hr] at hzr
  have HR := Lib.hid (And.intro hr hzr)
  have hl1 : 1 ≤ l := by have := HL.out; simp at this; omega
  have hl2 : l ≤ 1000 := by have := H.out.len; have e := HL.out; have e2 := HK.out; simp only at this; omega
  go_wp2_with fail
  refine (rfslot_v (i := 1) hf hz (by omega) hb a0 a1 hr).mono ?_
  clear hr hzr hx2
  rintro e w5 ⟨rfl, k2, rfl⟩
  have HW4 := Lib.hid (HW3.out.drewN k2)
  have HF4 : Hid (BoxF (w4.drewN k2) w.heap.size 0 0 0 (ByteArray.mk #[])) := Lib.hid HF3.out
  have HX4 : Hid (BoxF (w4.drewN k2) w1.heap.size x.i x.n x.l x.d) := Lib.hid HX3.out
  generalize w4.drewN k2 = w6 at HW4 HF4 HX4 ⊢
  clear a0 a1 a2 a3 a4 f1 f2 hb
  obtain ⟨a0, a1, a2, a3, a4⟩ := HW4.out.cells
  have f1 := HW4.out.live (o + 1)
  have f2 := HW4.out.live (o + 2)
  go_upto_region 7 with fail
  have HW7 := Lib.hid ((HW4.out.setF (r : Int)).setL ((l : Int) - 1))
  have HF7 : Hid (BoxF ((w6.setCell ⟨b, o + 1, none⟩ (.int .i64 (r : Int))).setCell ⟨b, o + 2, none⟩ (.int .i64 ((l : Int) - 1))) w.heap.size 0 0 0 (ByteArray.mk #[])) := Lib.hid (((Below.heap_setCell _ _ _ _ (by simp only; omega)).trans (Below.heap_setCell _ _ _ _ (by simp only; omega))).trans HF4.out)
  have HX7 : Hid (BoxF ((w6.setCell ⟨b, o + 1, none⟩ (.int .i64 (r : Int))).setCell ⟨b, o + 2, none⟩ (.int .i64 ((l : Int) - 1))) w1.heap.size x.i x.n x.l x.d) := Lib.hid (((Below.heap_setCell _ _ _ _ (by simp only; omega)).trans (Below.heap_setCell _ _ _ _ (by simp only; omega))).trans HX4.out)
  clear a0 a1 a2 a3 a4 f1 f2
  generalize ((w6.setCell ⟨b, o + 1, none⟩ (.int .i64 (r : Int))).setCell ⟨b, o + 2, none⟩ (.int .i64 ((l : Int) - 1))) = w7 at HW7 HF7 HX7 ⊢
  obtain ⟨d0, d1, d2, d3⟩ := HF7.out.cells
  obtain ⟨x0, x1, x2, x3⟩ := HX7.out.cells
  have ff : ∀ j, w7.frozen? ⟨w.heap.size, j, none⟩ = false := fun j => Lib.frozen_of_heap HF7.out j
  have HP : Hid (BoxF ((((w7.setCell ⟨w.heap.size, 0, none⟩ (.int .i64 x.i)).setCell ⟨w.heap.size, 1, none⟩ (.int .i64 x.n)).setCell ⟨w.heap.size, 2, none⟩ (.int .i64 x.l)).setCell ⟨w.heap.size, 3, none⟩ (.string x.d)) w.heap.size x.i x.n x.l x.d) := Lib.hid (boxF_set HF7.out)
  have HWP := Lib.hid ((((HW7.out.setNew (k := w.heap.size) (Nat.le_refl _) (by omega) (by omega) 0 (.int .i64 x.i)).setNew (k := w.heap.size) (Nat.le_refl _) (by omega) (by omega) 1 (.int .i64 x.n)).setNew (k := w.heap.size) (Nat.le_refl _) (by omega) (by omega) 2 (.int .i64 x.l)).setNew (k := w.heap.size) (Nat.le_refl _) (by omega) (by omega) 3 (.string x.d))
  go_wp2
  obtain ⟨g0, g1, g2, g3⟩ := HP.out.cells
  refine bodyPost_ret (v := .tuple #[frV x, .int .i64 0]) ?_ rfl ⟨rfl, HWP.out.stp rfl ?_ rfl rfl ?_ ?_ ?_ H.out.lo H.out.hi ?_⟩
  · simp [results, Tryz.results57, go_sem, g0, g1, g2, g3]
  · have := HL.out; simp at this; omega
  · rw [List.length_set, HK.out]; exact HR.out.2
  · have := H.out.len; rw [List.length_set]; simp at this; omega
  · rw [List.length_set]; exact H.out.fit
  · rw [← HR.out.1, ← HK.out]
    exact round_take (by rw [HK.out]; exact hf) H.out.len H.out.mem fr0
end Go.Proofs.YtmmcjmejcngajaaGreatDoor

namespace Go.Proofs.YtmmcjmejcngajaaGreatDoor
open Go.RowKit
set_option linter.unusedVariables false
variable {TB : TypeId} {o : Nat} {X Y : List Value}

set_option maxHeartbeats 4000000 in
theorem rfput_f {w : World} {v : Value} {s : Rg Fr} {O : Nat → Prop} (x : Fr) (h : RfI TB o X Y w v s O) (hm : s.L.length = s.m) (hn : s.n ≤ 1000000) : Calls Tryz.prog 44 #[v, frV x] w fun e w' => e = .returned (.bool false) ∧ Stp (RfI TB o X Y) v O w ⟨s.L, s.m, s.n + 1⟩ w' := by
  obtain ⟨b, p, S, f, rfl, rfl, h⟩ := h
  obtain ⟨L, m, n⟩ := s
  simp only at hm hn ⊢
  rcases h.row with ⟨rfl, rfl, rfl⟩ | ⟨g, rfl, _, _, hf⟩
  · have h1 := h.len; have h2 := h.lo; simp at h1 h2; rw [h1] at hm; simp at hm; omega
  have H := Lib.hid h
  have hb0 := (Below.refl w.heap.size w).alloc (Nat.le_refl _) (.cells #[.int .i64 x.i, .int .i64 x.n, .int .i64 x.l, .string x.d] 33)
  have hx0 := BoxF.made w x.i x.n x.l x.d
  obtain ⟨w0, e0⟩ : ∃ w0, w.alloc (.cells #[.int .i64 x.i, .int .i64 x.n, .int .i64 x.l, .string x.d] 33) = w0 := ⟨_, rfl⟩
  rw [e0] at hb0 hx0
  have HX0 := Lib.hid hx0
  have HB0 := Lib.hid hb0
  have HW := Lib.hid (h.mid.1.later hb0)
  obtain ⟨a0, a1, a2, a3, a4⟩ := HW.out.cells
  have f4 := HW.out.live (o + 4)
  have hb := HW.out.blt
  have hz : m ≤ 1000 := h.hi
  simp only [hm] at a2 a3 a4
  have HM := Lib.hid hm
  clear h hm hb0 hx0
  go_enter Tryz.func44, Tryz.ntmps44
  go_wp2
  go_quiet (fail)
  go_wp2
  go_ret
  exact ⟨rfl, ((HW.out.drewN nq).setN ((n : Int) + 1)).stp rfl rfl rfl (by simp) hf H.out.len H.out.fit H.out.lo H.out.hi H.out.mem⟩
set_option maxHeartbeats 8000000 in
theorem rfput_x {w : World} {b g f m n : Nat} {S L : List Fr} (x : Fr) (h : RfM TB o X Y w b (some ⟨g, 0, none⟩) S f ⟨L, m, n⟩) (hl : L.length < S.length) : Calls Tryz.prog 44 #[.pointer (some ⟨b, o, none⟩), frV x] w fun e w' => e = .returned (.bool true) ∧ Stp (RfI TB o X Y) (.pointer (some ⟨b, o, none⟩)) (rgO b (some ⟨g, 0, none⟩)) w ⟨L ++ [x], m, n⟩ w' := by
  have H := Lib.hid h
  obtain ⟨h1, hf⟩ := h.mid
  have hb0 := (Below.refl w.heap.size w).alloc (Nat.le_refl _) (.cells #[.int .i64 x.i, .int .i64 x.n, .int .i64 x.l, .string x.d] 33)
  have hx0 := BoxF.made w x.i x.n x.l x.d
  obtain ⟨w0, e0⟩ : ∃ w0, w.alloc (.cells #[.int .i64 x.i, .int .i64 x.n, .int .i64 x.l, .string x.d] 33) = w0 := ⟨_, rfl⟩
  rw [e0] at hb0 hx0
  have HX0 := Lib.hid hx0
  have HB0 := Lib.hid hb0
  have HW := Lib.hid (h1.later hb0)
  simp only at HW
  obtain ⟨l, hll⟩ : ∃ l, L.length = l := ⟨_, rfl⟩
  obtain ⟨k, hk⟩ : ∃ k, S.length = k := ⟨_, rfl⟩
  have HL := Lib.hid hll
  have HK := Lib.hid hk
  obtain ⟨a0, a1, a2, a3, a4⟩ := HW.out.cells
  have hb := HW.out.blt
  have hkm : k ≤ m := by rw [← hk]; exact h.fit
  have hz : m ≤ 1000 := h.hi
  rw [hk] at a0 hl hf
  rw [hll] at a2 hl
  rw [hll] at HW
  clear h h1 hk hll hb0 hx0
  go_enter Tryz.func44, Tryz.ntmps44
  have hlm : ¬ (m : Int) ≤ (l : Int) := by omega
  have hlk : ((l : Int) == (k : Int)) = false := by simp; omega
  go_wp2
  go_quiet (fail)
  go_wp2
  go_quiet (fail)
  go_upto_region 9 with fail
  have hzr : (f + l) % k < k := Nat.mod_lt _ (by omega)
  obtain ⟨r, hr⟩ : ∃ r, (f + l) % k = r := ⟨_, rfl⟩
  rw [hr] at hzr
  have HR := Lib.hid hr
  clear hlk
  generalize hwd : (w0.drewN _).drewN _ = wd
  have HWD := Lib.hid (hwd ▸ (HW.out.drewN _).drewN _)
  have HXD : Hid (BoxF wd w.heap.size x.i x.n x.l x.d) := Lib.hid (by rw [← hwd]; exact HX0.out)
  clear hwd a0 a1 a2 a3 a4 e0
  clear hb
  obtain ⟨a0, a1, a2, a3, a4⟩ := HWD.out.cells
  obtain ⟨d0, d1, d2, d3⟩ := HXD.out.cells
  have hb := HWD.out.blt
  have hxb := HXD.out.lt
  rw [HK.out] at a0
  have hcl : ∀ (n : Later wd) (b o : Nat), b < wd.heap.size → n.w.cell? ⟨b, o, none⟩ = wd.cell? ⟨b, o, none⟩ := later_cells wd
  have HCS : Hid (∀ (q : Later wd), Calls Tryz.prog 61 #[.pointer (some ⟨b, o, none⟩), .int .i64 (l : Int)] q.w (Reads q.w (.int .i64 (r : Int)))) :=
    Lib.hid (fun q => rfslot_v (i := l) hf (by omega) (by omega) (Nat.lt_of_lt_of_le hb q.h.size) ((hcl q b o hb).trans a0) ((hcl q b (o + 1) hb).trans a1) hr)
  clear hr
  refine wp_region_sec 12 [] (fun _ _ _ => True) (fun _ _ _ _ _ _ => True.intro) (by kernel_rfl) (by kernel_rfl) (by kernel_rfl) (by kernel_rfl) (by kernel_rfl) ?_
  simp only [List.take_succ_cons, List.take_zero, List.drop_succ_cons, List.drop_zero]
  repeat ((first | refine sec_plain (by rfl) (by rfl) (by rfl) (by rfl) ?_ | refine sec_nil (by rfl) (by rfl) (by rfl) (by rfl) (by rfl) ?_); intro K hK; go_big_quiet_op; go_big_quiet_on)
  refine sec_call (v := .int .i64 (r : Int)) (by rfl) (by rfl) (by rfl) (by rfl) (by rfl) ?_ ?_
  · intro q K hK
    go_big_quiet_op
    exact ⟨_, fun q2 => Later.drew (HCS.out ⟨q2.w, fbelow_t q.h q2.h⟩), hK⟩
  simp only [Act.put, List.setIfInBounds_toArray, List.set_cons_succ, List.set_cons_zero]
  repeat (refine sec_plain (by rfl) (by rfl) (by rfl) (by rfl) ?_; intro K hK; go_big_quiet_op; go_big_quiet_on)
  intro xs m9 hF
  simp only [secFill]
  clear hF xs hcl a0 a1 a2 a3 a4 hb d0 d1 d2 d3 hxb
  have HW2 := Lib.hid (HWD.out.later m9.h)
  generalize m9.w = w2 at HW2 ⊢
  obtain ⟨y, hy⟩ : ∃ y, S[r]? = some y := ⟨_, List.getElem?_eq_getElem (by rw [HK.out]; exact hzr)⟩
  obtain ⟨y0, y1, y2, y3⟩ := HW2.out.slot hy
  have yl := HW2.out.liveG
  have HS2 := Lib.hid (HW2.out.setSlot (i := r) (by rw [HK.out]; exact hzr) x)
  obtain ⟨wp, ep⟩ : ∃ wp, putS w2 g r x = wp := ⟨_, rfl⟩
  rw [ep] at HS2
  have hfold : (((w2.setCell ⟨g, r * 4, none⟩ (.int .i64 x.i)).setCell ⟨g, r * 4 + 1, none⟩ (.int .i64 x.n)).setCell ⟨g, r * 4 + 2, none⟩ (.int .i64 x.l)).setCell ⟨g, r * 4 + 3, none⟩ (.string x.d) = wp := ep
  obtain ⟨a0, a1, a2, a3, a4⟩ := HS2.out.cells
  have f2 := HS2.out.live (o + 2)
  have hgb := HW2.out.gb
  have hb := HS2.out.blt
  have hg := HW2.out.glt
  clear hy ep
  go_wp2
  go_ret
  refine ⟨rfl, (HS2.out.setL ((l : Int) + 1)).stp rfl ?_ rfl rfl ?_ ?_ ?_ H.out.lo H.out.hi ?_⟩
  · rw [List.length_append]; simp [HL.out]
  · rw [List.length_set, HK.out]; exact hf
  · rw [List.length_append, List.length_set, HL.out, HK.out]; exact hl
  · rw [List.length_set]; exact H.out.fit
  · rw [← HR.out, ← HK.out, ← HL.out]
    exact round_put (by rw [HK.out]; exact hf) (by rw [HK.out, HL.out]; exact hl) H.out.mem x
theorem rfgrown {w w' : World} {b g k : Nat} {p : Option Addr} {S Z : List Fr} {f l m n : Nat} {L : List Fr} (h : RfM TB o X Y w b p S f ⟨L, m, n⟩) (hl : L.length = l) (hb : Below w.heap.size w w') (hg : w.heap.size ≤ g) (hX : Z.length = k) (hx : w'.heap[g]? = some (.cells (rowG frC Z).toArray 33 (0, 0))) :
    RfW TB o X Y (rgO b p) w ((w'.setCell ⟨b, o, none⟩ (.slice (some ⟨g, 0, none⟩) k k)).setCell ⟨b, o + 1, none⟩ (.int .i64 0)) b g Z 0 (l : Int) (m : Int) (n : Int) := by
  subst hX hl
  have h0 := (hb.block b h.blt).trans h.box
  have hgb : g ≠ b := by have := h.blt; omega
  have h1 := heap_setCell_same w' b (o + 0) _ _ (.slice (some ⟨g, 0, none⟩) Z.length Z.length) h0
  have h2 := heap_setCell_same _ b (o + 1) _ _ (.int .i64 0) h1
  rw [setX h.off, setX h.off] at h2
  refine ⟨h2, h.off, ?_, hgb, ?_, .inl rfl, .inr hg⟩
  · exact (Below.heap_setCell _ ⟨b, o + 1, none⟩ _ g hgb).trans ((Below.heap_setCell w' ⟨b, o, none⟩ _ g hgb).trans hx)
  · exact ((Kept.of_below hb).setCell (p := ⟨b, o, none⟩) (.inl rfl) _).setCell (p := ⟨b, o + 1, none⟩) (.inl rfl) _
def NewF (W : World) (k : Nat) (Z : List Fr) (v : Value) (w : World) : Prop := ∃ g, v = .slice (some ⟨g, 0, none⟩) k k ∧ W.heap.size ≤ g ∧ w.heap[g]? = some (.cells (rowG frC Z).toArray 33 (0, 0))
theorem NewF.later {W w w' : World} {k : Nat} {Z : List Fr} {v : Value} (h : NewF W k Z v w) (hb : Below w.heap.size w w') : NewF W k Z v w' := by
  obtain ⟨g, h1, h2, h3⟩ := h
  exact ⟨g, h1, h2, (hb.block g (rheap_lt h3)).trans h3⟩
set_option maxHeartbeats 8000000 in
theorem rfput_g {w : World} {b f m n k : Nat} {p : Option Addr} {S L : List Fr} (x : Fr) (h : RfM TB o X Y w b p S f ⟨L, m, n⟩) (hl : L.length = S.length) (hm : L.length < m) (hk : k = min (2 * L.length + 1) m) : Calls Tryz.prog 44 #[.pointer (some ⟨b, o, none⟩), frV x] w fun e w' => e = .returned (.bool true) ∧ Stp (RfI TB o X Y) (.pointer (some ⟨b, o, none⟩)) (rgO b p) w ⟨L ++ [x], m, n⟩ w' := by
  have H := Lib.hid h
  obtain ⟨Z, hX⟩ : ∃ Z, L ++ List.replicate (k - L.length) fr0 = Z := ⟨_, rfl⟩
  have HXX := Lib.hid hX
  obtain ⟨l, hll⟩ : ∃ l, L.length = l := ⟨_, rfl⟩
  have hz : m ≤ 1000 := h.hi
  have HK : Hid (Z.length = k) := Lib.hid (by rw [← hX, List.length_append, List.length_replicate]; omega)
  have HMEM : Hid (∀ i, i < L.length → Z[(0 + i) % Z.length]? = L[i]?) := Lib.hid (by rw [← hX]; exact round_new fr0 (by omega))
  have HFIT : Hid (Z.length ≤ m) := Lib.hid (by rw [HK.out]; omega)
  rw [hll] at hk hm
  have hlk : l < k := by omega
  have hkm : k ≤ m := by omega
  have HL := Lib.hid hll
  have hb0 := (Below.refl w.heap.size w).alloc (Nat.le_refl _) (.cells #[.int .i64 x.i, .int .i64 x.n, .int .i64 x.l, .string x.d] 33)
  have hx0 := BoxF.made w x.i x.n x.l x.d
  obtain ⟨w0, e0⟩ : ∃ w0, w.alloc (.cells #[.int .i64 x.i, .int .i64 x.n, .int .i64 x.l, .string x.d] 33) = w0 := ⟨_, rfl⟩
  rw [e0] at hb0 hx0
  have HX0 := Lib.hid hx0
  have HB0 := Lib.hid hb0
  have h0 := h.later hb0
  have hb := h0.blt
  obtain ⟨a0, a1, a2, a3, a4⟩ := h0.cells
  rw [← hl, hll] at a0
  simp only [hll] at a2 a3
  clear h h0 hX hl hll hb0 hx0
  have HKK := Lib.hid hk
  clear hk
  go_enter Tryz.func44, Tryz.ntmps44
  have hlm : ¬ (m : Int) ≤ (l : Int) := by omega
  go_wp2
  go_quiet (fail)
  go_wp2
  go_quiet (fail)
  go_upto_region 7 with fail
  generalize hwd : (w0.drewN _).drewN _ = wd
  have HB : Hid (Below w.heap.size w wd) := Lib.hid (by rw [← hwd]; exact below_drewN (below_drewN HB0.out _) _)
  have HXD : Hid (BoxF wd w.heap.size x.i x.n x.l x.d) := Lib.hid (by rw [← hwd]; exact HX0.out)
  have HD := Lib.hid (H.out.later HB.out)
  clear hwd a0 a1 a2 a3 a4 hb e0
  obtain ⟨a0, a1, a2, a3, a4⟩ := HD.out.cells
  have hb := HD.out.blt
  simp only [HL.out] at a2 a3
  have hcl : ∀ (n : Later wd) (b o : Nat), b < wd.heap.size → n.w.cell? ⟨b, o, none⟩ = wd.cell? ⟨b, o, none⟩ := later_cells wd
  refine wp_region_sec 14 [46] (fun _ v w' => NewF w k Z v w') (fun _ _ _ _ h hb => h.later hb) (by kernel_rfl) (by kernel_rfl) (by kernel_rfl) (by kernel_rfl) (by kernel_rfl) ?_
  simp only [List.take_succ_cons, List.take_zero, List.drop_succ_cons, List.drop_zero]
  repeat ((first | refine sec_plain (by rfl) (by rfl) (by rfl) (by rfl) ?_ | refine sec_nil (by rfl) (by rfl) (by rfl) (by rfl) (by rfl) ?_); intro K hK; go_big_quiet_op; go_big_quiet_on)
  have hkm2 : (if (m : Int) < 2 * (l : Int) + 1 then (m : Int) else 2 * (l : Int) + 1) = (k : Int) := by
    rw [HKK.out]
    by_cases h : (m : Int) < 2 * (l : Int) + 1
    · rw [if_pos h, Nat.min_eq_right (by omega)]
    · rw [if_neg h, Nat.min_eq_left (by omega)]; omega
  refine sec_callF (f := 60) (args := #[.pointer (some ⟨b, o, none⟩), .int .i64 (k : Int)]) (by rfl) (by rfl) (by rfl) (by rfl) (by rfl) (fun w => by rw [← hkm2]; simp [go_sem]) ?_ ?_
  · intro q
    refine (rfcopied_v (HD.out.later q.h) (by rw [HL.out]; omega) (by omega)).mono ?_
    rintro e w4 ⟨g, rfl, hg1, hg2, hb2⟩
    refine ⟨_, rfl, hb2, g, rfl, Nat.le_trans HB.out.size (Nat.le_trans q.h.size hg1), ?_⟩
    rw [← HXX.out]; exact hg2
  clear hkm2
  simp only [Act.put, List.setIfInBounds_toArray, List.set_cons_succ, List.set_cons_zero]
  intro xs m9 hF
  obtain ⟨g, hxs, hg1, hg2⟩ := hF 46 (by simp)
  simp only [secFill, hxs]
  simp only [Act.put, List.setIfInBounds_toArray, List.set_cons_succ, List.set_cons_zero]
  clear hF hxs xs hcl a0 a1 a2 a3 a4 hb
  have HB2 := Lib.hid (fbelow_t HB.out m9.h)
  have HXE := Lib.hid (HXD.out.later m9.h)
  generalize m9.w = w1 at HB2 HXE hg2 ⊢
  obtain ⟨a0, a1, a2, a3, a4⟩ := (H.out.later HB2.out).cells
  have f0 := (H.out.later HB2.out).live o
  have f1 := (H.out.later HB2.out).live (o + 1)
  have hb := (H.out.later HB2.out).blt
  have hbw := H.out.blt
  have HWD := Lib.hid (rfgrown H.out HL.out HB2.out hg1 HK.out hg2)
  have HXD : Hid (BoxF ((w1.setCell ⟨b, o, none⟩ (.slice (some ⟨g, 0, none⟩) k k)).setCell ⟨b, o + 1, none⟩ (.int .i64 0)) w.heap.size x.i x.n x.l x.d) := Lib.hid (((Below.heap_setCell _ _ _ _ (by simp only; omega)).trans (Below.heap_setCell _ _ _ _ (by simp only; omega))).trans HXE.out)
  clear hg2
  go_upto_region 9 with fail
  have hzr : (0 + l) % k < k := Nat.mod_lt _ (by omega)
  obtain ⟨r, hr⟩ : ∃ r, (0 + l) % k = r := ⟨_, rfl⟩
  rw [hr] at hzr
  have HR := Lib.hid hr
  clear a0 a1 a2 a3 a4 hb f0 f1
  generalize ((w1.setCell _ _).setCell _ _) = wd at HWD HXD ⊢
  obtain ⟨a0, a1, a2, a3, a4⟩ := HWD.out.cells
  obtain ⟨d0, d1, d2, d3⟩ := HXD.out.cells
  have hb := HWD.out.blt
  have hxb := HXD.out.lt
  rw [HK.out] at a0
  have hcl : ∀ (n : Later wd) (b o : Nat), b < wd.heap.size → n.w.cell? ⟨b, o, none⟩ = wd.cell? ⟨b, o, none⟩ := later_cells wd
  have HCS : Hid (∀ (q : Later wd), Calls Tryz.prog 61 #[.pointer (some ⟨b, o, none⟩), .int .i64 (l : Int)] q.w (Reads q.w (.int .i64 (r : Int)))) :=
    Lib.hid (fun q => rfslot_v (f := 0) (i := l) (by omega) (by omega) (by omega) (Nat.lt_of_lt_of_le hb q.h.size) ((hcl q b o hb).trans a0) ((hcl q b (o + 1) hb).trans a1) hr)
  clear hr
  refine wp_region_sec 12 [] (fun _ _ _ => True) (fun _ _ _ _ _ _ => True.intro) (by kernel_rfl) (by kernel_rfl) (by kernel_rfl) (by kernel_rfl) (by kernel_rfl) ?_
  simp only [List.take_succ_cons, List.take_zero, List.drop_succ_cons, List.drop_zero]
  repeat ((first | refine sec_plain (by rfl) (by rfl) (by rfl) (by rfl) ?_ | refine sec_nil (by rfl) (by rfl) (by rfl) (by rfl) (by rfl) ?_); intro K hK; go_big_quiet_op; go_big_quiet_on)
  refine sec_call (v := .int .i64 (r : Int)) (by rfl) (by rfl) (by rfl) (by rfl) (by rfl) ?_ ?_
  · intro q K hK
    go_big_quiet_op
    exact ⟨_, fun q2 => Later.drew (HCS.out ⟨q2.w, fbelow_t q.h q2.h⟩), hK⟩
  simp only [Act.put, List.setIfInBounds_toArray, List.set_cons_succ, List.set_cons_zero]
  repeat (refine sec_plain (by rfl) (by rfl) (by rfl) (by rfl) ?_; intro K hK; go_big_quiet_op; go_big_quiet_on)
  intro xs m9 hF
  simp only [secFill]
  clear hF xs hcl a0 a1 a2 a3 a4 hb d0 d1 d2 d3 hxb
  have HW2 := Lib.hid (HWD.out.later m9.h)
  generalize m9.w = w2 at HW2 ⊢
  obtain ⟨y, hy⟩ : ∃ y, Z[r]? = some y := ⟨_, List.getElem?_eq_getElem (by rw [HK.out]; exact hzr)⟩
  obtain ⟨y0, y1, y2, y3⟩ := HW2.out.slot hy
  have yl := HW2.out.liveG
  have HS2 := Lib.hid (HW2.out.setSlot (i := r) (by rw [HK.out]; exact hzr) x)
  obtain ⟨wp, ep⟩ : ∃ wp, putS w2 g r x = wp := ⟨_, rfl⟩
  rw [ep] at HS2
  have hfold : (((w2.setCell ⟨g, r * 4, none⟩ (.int .i64 x.i)).setCell ⟨g, r * 4 + 1, none⟩ (.int .i64 x.n)).setCell ⟨g, r * 4 + 2, none⟩ (.int .i64 x.l)).setCell ⟨g, r * 4 + 3, none⟩ (.string x.d) = wp := ep
  obtain ⟨a0, a1, a2, a3, a4⟩ := HS2.out.cells
  have f2 := HS2.out.live (o + 2)
  have hgb := HW2.out.gb
  have hb := HS2.out.blt
  have hg := HW2.out.glt
  clear hy ep
  go_wp2
  all_goals (
    go_ret
    refine ⟨rfl, (HS2.out.setL ((l : Int) + 1)).stp (f' := 0) (m' := m) (n' := n) rfl ?_ rfl rfl ?_ ?_ ?_ H.out.lo H.out.hi ?_⟩
    · rw [List.length_append]; simp [HL.out]
    · rw [List.length_set, HK.out]; omega
    · rw [List.length_append, List.length_set, HL.out, HK.out]; exact hlk
    · rw [List.length_set]; exact HFIT.out
    · rw [← HR.out, ← HK.out, ← HL.out]
      exact round_put (by rw [HK.out]; omega) (by rw [HK.out, HL.out]; omega) HMEM.out x)
theorem rfput_t {w : World} {v : Value} {s : Rg Fr} {O : Nat → Prop} (x : Fr) (h : RfI TB o X Y w v s O) (hm : s.L.length < s.m) : Calls Tryz.prog 44 #[v, frV x] w fun e w' => e = .returned (.bool true) ∧ Stp (RfI TB o X Y) v O w ⟨s.L ++ [x], s.m, s.n⟩ w' := by
  obtain ⟨b, p, S, f, rfl, rfl, h⟩ := h
  obtain ⟨L, m, n⟩ := s
  simp only at hm ⊢
  by_cases hl : L.length = S.length
  · exact rfput_g x h hl hm rfl
  · have h1 : L.length < S.length := by have := h.len; simp only at this; omega
    rcases h.row with ⟨rfl, rfl, rfl⟩ | ⟨g, rfl, _, _, hf⟩
    · simp at h1
    · exact rfput_x x h h1
end Go.Proofs.YtmmcjmejcngajaaGreatDoor

namespace Go.Proofs.YtmmcjmejcngajaaGreatDoor
open Go.RowKit
set_option linter.unusedVariables false

theorem RowQ.rda {α : Type} {c : α → List Value} {k : Nat} {w : World} {v : Value} {L : List α} (h : RowQ c k w v L) (hk : ∀ a, (c a).length = k) (hm : L.length ≤ maxLen) : RdA c k w v L := by
  refine ⟨h.sl hk hm, ?_⟩
  rcases h with ⟨h, _⟩ | ⟨g, o, cap, hv, h1, _⟩
  · exact .inl h
  · exact .inr ⟨_, cap, hv, h1⟩
/-- an empty row in a block of its own -/
theorem RowQ.empty {α : Type} {c : α → List Value} {k : Nat} (w : World) (o : Obj) : RowQ c k (w.alloc o) (.slice (some ⟨w.heap.size, 0, none⟩) 0 0) ([] : List α) :=
  .inr ⟨_, 0, 0, rfl, Nat.le_refl _, Nat.zero_le _, by simp, fun j u h => by simp [rowG] at h, fun j hj => by omega⟩
end Go.Proofs.YtmmcjmejcngajaaGreatDoor
