/- Match: contracts of Any, and of the document's Any. -/
import Derived.Test.YtohoedhaomkafaaDoorMatF
namespace Go.Proofs.YtohoedhaomkafaaDoor
open Go.RowKit
set_option linter.unusedVariables false

/-- does one let it through; with join, does each? -/
def anyB (c : Bool) (L : List Flt) (join : Bool) (v : Nat) : Bool := c && decide (0 < cntN L v) && (decide (cntN L v = L.length) || !join)

set_option maxHeartbeats 1000000 in
theorem any_v {L : List Flt} {s : Value} {join : Bool} {i n l : Int} {d : ByteArray} {v : Nat} {q : Bool} (c : Bool) (hc : carB i n l d.size = c) (hv : wordV i n l d.size = (v : Int)) (hvl : v < 4294967296) (h : anyB c L join v = q) (hfit : ∀ f ∈ L, f.fits)
    (w : World) (hs : SlL w w.heap.size s L) (hT : Tabs w) (hn1 : -9223372036854775808 ≤ n) (hn2 : n ≤ 9223372036854775807) :
    Calls Tryd.prog 11 #[s, .bool join, .agg #[.int .i64 i, .int .i64 n, .int .i64 l, .string d]] w fun e w' => e = .returned (.bool q) ∧ Below w.heap.size w w' := by
  have HT := Lib.hid hT
  have HC := Lib.hid hc
  have HV := Lib.hid hv
  have HVL := Lib.hid hvl
  have HF := Lib.hid hfit
  have HS := Lib.hid hs
  have HN := Lib.hid (And.intro hn1 hn2)
  have H := Lib.hid h
  obtain ⟨A, cap, rfl, hm, _⟩ := hs
  unfold maxLen at hm
  clear hT hc hv hvl hfit hn1 hn2 h
  cases c
  · go_enter Tryd.func11, Tryd.ntmps11
    go_wp2_with fail
    refine (carries_v HC.out _ (HT.out.alloc _) HN.out.1 HN.out.2).mono ?_
    rintro e w1 ⟨rfl, hb⟩
    go_wp2
    go_ret
    exact ⟨fret_bool H.out, fbelow_a _ hb⟩
  · have hle := cntN_le L v
    have HQ : Hid ((decide (0 < cntN L v) && (decide (cntN L v = L.length) || !join)) = q) := Lib.hid (by rw [← H.out]; simp [anyB])
    clear H
    generalize hcn : cntN L v = x at hle HQ
    have HX := Lib.hid hcn
    clear hcn
    go_enter Tryd.func11, Tryd.ntmps11
    go_wp2_with fail
    refine (carries_v HC.out _ (HT.out.alloc _) HN.out.1 HN.out.2).mono ?_
    rintro e w1 ⟨rfl, hb1⟩
    obtain ⟨hc1, hf1⟩ := fbcell hb1
    have z1 : w.heap.size < w1.heap.size := by have := hb1.size; simp only [World.size_alloc] at this; omega
    have HT1 := Lib.hid ((HT.out.alloc _).below hb1)
    have HB1 := Lib.hid (fbelow_a _ hb1)
    go_wp2_with fail
    refine (word_v HV.out _ HT1.out HN.out.1 HN.out.2).mono ?_
    rintro e w2 ⟨rfl, hb2⟩
    have HB2 := Lib.hid (fbelow_t HB1.out hb2)
    go_wp2_with fail
    refine (hits_any _ (HS.out.later HB2.out) HF.out HVL.out).mono ?_
    rintro e w3 ⟨rfl, hb3⟩
    have HB3 := Lib.hid (fbelow_t HB2.out hb3)
    clear hb1 hb2 hb3 hc1 hf1 z1
    rw [HX.out]
    by_cases h0 : 0 < x
    · by_cases h1 : x = L.length
      · subst h1
        go_wp2
        go_ret
        exact ⟨fret_bool (by rw [← HQ.out]; simp [h0]), HB3.out⟩
      · cases join <;>
        · go_wp2
          go_ret
          exact ⟨fret_bool (by rw [← HQ.out]; simp [h0, h1] <;> omega), HB3.out⟩
    · obtain rfl : x = 0 := by omega
      go_wp2
      go_ret
      exact ⟨fret_bool (by rw [← HQ.out]; simp), HB3.out⟩

/-- how many the document counts -/
def cntC (c : Bool) (L : List Flt) (v : Nat) : Nat := if c then cntN L v else 0
theorem cntC_snoc (c : Bool) (L : List Flt) (f : Flt) (v : Nat) : cntC c (L ++ [f]) v = cntC c L v + (if (c && hitN f v) = true then 1 else 0) := by
  unfold cntC
  cases c
  · simp
  · simp [cntN_snoc]
theorem cntC_le (c : Bool) (L : List Flt) (v : Nat) : cntC c L v ≤ L.length := by
  unfold cntC
  split
  · exact cntN_le L v
  · omega
theorem anyB_cnt (c : Bool) (L : List Flt) (v : Nat) : anyB c L true v = (decide (0 < cntC c L v) && decide (cntC c L v = L.length)) ∧ anyB c L false v = decide (0 < cntC c L v) := by
  unfold anyB cntC
  cases c <;> simp

set_option maxHeartbeats 1000000 in
theorem rany_v {L : List Flt} {s : Value} {join : Bool} {i n l : Int} {d : ByteArray} {v : Nat} {q : Bool} (c : Bool) (hc : carB i n l d.size = c) (hv : wordV i n l d.size = (v : Int)) (hvl : v < 4294967296) (h : anyB c L join v = q) (hfit : ∀ f ∈ L, f.fits)
    (w : World) (hs : SlL w w.heap.size s L) :
    Calls Tryd.prog 12 #[s, .bool join, .agg #[.int .i64 i, .int .i64 n, .int .i64 l, .string d]] w fun e w' => e = .returned (.bool q) ∧ Below w.heap.size w w' := by
  have HC := Lib.hid hc
  have HV := Lib.hid hv
  have HVL := Lib.hid hvl
  have HF := Lib.hid hfit
  have HS := Lib.hid hs
  have H := Lib.hid h
  have hl := later_cells
  obtain ⟨A, cap, rfl, hm, _⟩ := hs
  unfold maxLen at hm
  clear hc hv hvl hfit h
  go_enter Tryd.func12, Tryd.ntmps12
  go_wp2
  go_loopw [7, 8] (fun m k wr => ∃ j : Nat, j ≤ L.length ∧ k = .int .i64 j ∧ m = .int .i64 (cntC c (L.take j) v) ∧ Hid (Below w.heap.size w wr ∧ w.heap.size < wr.heap.size ∧ ∀ o u, (w.alloc (.cells #[.int .i64 i, .int .i64 n, .int .i64 l, .string d] 26)).cell? ⟨w.heap.size, o, none⟩ = some u → wr.cell? ⟨w.heap.size, o, none⟩ = some u)) (fun _ k _ => L.length - (intOf k).toNat)
  case atStart => exact ⟨0, by omega, rfl, by unfold cntC cntN; simp, Lib.hid ⟨fbelow_a _ (Below.refl _ _), by simp, fun _ _ h => h⟩⟩
  case round =>
    obtain ⟨k, hk, rfl, rfl, HW⟩ := hrel
    have hcl := cntC_le c (L.take k) v
    by_cases hlt : k < L.length
    · obtain ⟨x, cap1, hv, hxb, hcell⟩ := (HS.out.later HW.out.1).at_ hlt
      injection hv with hA hn hc
      subst hA hc
      have a0 : ∀ m : Later wr, m.w.cell? (x.add (k * 3)) = some (.int .u32 (L[k]'hlt).i) := fun m => (m.h.cell (by rw [addr_block]; exact hxb)).trans (hcell 0 _ rfl)
      have a1 : ∀ m : Later wr, m.w.cell? ⟨(x.add (k * 3)).block, (x.add (k * 3)).off + 1, none⟩ = some (.int .u32 (L[k]'hlt).m) := fun m => (m.h.cell (p := ⟨(x.add (k * 3)).block, (x.add (k * 3)).off + 1, none⟩) (by rw [addr_block]; exact hxb)).trans (hcell 1 _ rfl)
      have a2 : ∀ m : Later wr, m.w.cell? ⟨(x.add (k * 3)).block, (x.add (k * 3)).off + 2, none⟩ = some (.bool (L[k]'hlt).v) := fun m => (m.h.cell (p := ⟨(x.add (k * 3)).block, (x.add (k * 3)).off + 2, none⟩) (by rw [addr_block]; exact hxb)).trans (hcell 2 _ rfl)
      have z0 := HW.out.2.1
      have x0 : wr.cell? ⟨w.heap.size, 0, none⟩ = some (.int .i64 i) := HW.out.2.2 0 _ (by simp [go_sem])
      have x1 : wr.cell? ⟨w.heap.size, 1, none⟩ = some (.int .i64 n) := HW.out.2.2 1 _ (by simp [go_sem])
      have x2 : wr.cell? ⟨w.heap.size, 2, none⟩ = some (.int .i64 l) := HW.out.2.2 2 _ (by simp [go_sem])
      have x3 : wr.cell? ⟨w.heap.size, 3, none⟩ = some (.string d) := HW.out.2.2 3 _ (by simp [go_sem])
      have hk1 : (k : Int) < (L.length : Int) := by omega
      have hk0 : (0 : Int) ≤ (k : Int) := by omega
      have HFi : Hid ((L[k]'hlt).fits) := Lib.hid (HF.out _ (List.getElem_mem hlt))
      have HSn : Hid (cntC c (L.take (k + 1)) v = cntC c (L.take k) v + (if (c && hitN (L[k]'hlt) v) = true then 1 else 0)) := Lib.hid (by rw [List.take_succ_eq_append_getElem hlt, cntC_snoc])
      have HCL : cntC c (L.take k) v < 9223372036854775807 := by have := List.length_take_le k L; omega
      clear hcell hxb hcl
      generalize L[k]'hlt = f at a0 a1 a2 HFi HSn
      generalize hq : (c && hitN f v) = q1 at HSn
      have HQ := Lib.hid hq
      clear hq
      go_wp2_with fail
      refine wp_region_later (by kernel_rfl) (by kernel_rfl) ?_
      repeat (go_big_quiet_step (fail))
      go_big_quiet_step (exact Later.call (rmatch_v c HC.out HV.out HVL.out HQ.out HFi.out _))
      repeat (go_big_quiet_step (fail))
      refine wpQuiet_nil ?_
      rintro w1 ⟨m, rfl⟩
      have HW1 : Hid (Below w.heap.size w m.w ∧ w.heap.size < m.w.heap.size ∧ ∀ o u, (w.alloc (.cells #[.int .i64 i, .int .i64 n, .int .i64 l, .string d] 26)).cell? ⟨w.heap.size, o, none⟩ = some u → m.w.cell? ⟨w.heap.size, o, none⟩ = some u) :=
        Lib.hid ⟨fbelow_t HW.out.1 m.h, Nat.lt_of_lt_of_le HW.out.2.1 m.h.size, fun o u hu => (m.cell _ _ HW.out.2.1).trans (HW.out.2.2 o u hu)⟩
      cases q1
      · go_wp2
        go_roundw
        case rel => exact ⟨k + 1, by omega, by go_num, by rw [HSn.out]; go_num, HW1⟩
        case measure => simp [intOf]; omega
      · go_wp2
        go_roundw
        case rel => exact ⟨k + 1, by omega, by go_num, by rw [HSn.out]; go_num, HW1⟩
        case measure => simp [intOf]; omega
    · obtain rfl : k = L.length := by omega
      rw [List.take_length] at hcl ⊢
      have HA := Lib.hid (anyB_cnt c L v)
      generalize cntC c L v = y at HA hcl
      by_cases h0 : 0 < y
      · by_cases h1 : y = L.length
        · subst h1
          cases join
          · go_wp2
            go_ret
            exact ⟨fret_bool (by rw [← H.out, HA.out.2]; simp [h0]), HW.out.1⟩
          · go_wp2
            go_ret
            exact ⟨fret_bool (by rw [← H.out, HA.out.1]; simp [h0]), HW.out.1⟩
        · cases join
          · go_wp2
            go_ret
            exact ⟨fret_bool (by rw [← H.out, HA.out.2]; simp [h0]), HW.out.1⟩
          · go_wp2
            go_ret
            exact ⟨fret_bool (by rw [← H.out, HA.out.1]; simp [h0, h1] <;> omega), HW.out.1⟩
      · obtain rfl : y = 0 := by omega
        cases join
        · go_wp2
          go_ret
          exact ⟨fret_bool (by rw [← H.out, HA.out.2]; simp), HW.out.1⟩
        · go_wp2
          go_ret
          exact ⟨fret_bool (by rw [← H.out, HA.out.1]; simp), HW.out.1⟩

end Go.Proofs.YtohoedhaomkafaaDoor
