/- Wire: walks of WireEncodes, WireApart, WireDecodes. -/
import Derived.Test.YtimlaopmhcipmaaDoorWirV
namespace Go.Proofs.YtimlaopmhcipmaaDoor
open Go.RowKit
set_option linter.unusedVariables false

set_option maxHeartbeats 2000000 in
theorem wireEncodes_walk (i n l : Int) (d : ByteArray) (_wi : (Lit.int .i64 i).wf = true) (wn : (Lit.int .i64 n).wf = true) (_wl : (Lit.int .i64 l).wf = true) (_wd : d.size ≤ maxLen) (w : World) (hT1 : Tabs w) (hT2 : TabW w) :
    Calls Tryd.prog 3 #[.agg #[.int .i64 i, .int .i64 n, .int .i64 l, .string d]] w fun e w' => e = .returned (.bool true) ∧ Below w.heap.size w w' := by
  obtain ⟨hn1, hn2⟩ := Go.bounds_i64 wn
  have HN := Lib.hid (And.intro hn1 hn2)
  have HT : Hid (TabA w) := Lib.hid ⟨hT1, hT2⟩
  clear hT1 hT2 wn _wi _wl _wd hn1 hn2
  cases ho : okF i n l d.size
  · have HO := Lib.hid ho
    clear ho
    go_enter Tryd.func3, Tryd.ntmps3
    go_wp2_with fail
    refine (encode_f HO.out _ (HT.out.alloc _) HN.out.1 HN.out.2).mono ?_
    rintro e w1 ⟨rfl, hb1⟩
    obtain ⟨hc1, hf1⟩ := fbcell hb1
    have hz1 : w.heap.size < w1.heap.size := by have := hb1.size; simp only [World.size_alloc] at this; omega
    have HB1 := Lib.hid (fbelow_a _ hb1)
    have T1 : Hid (TabA w1) := Lib.hid ((HT.out.alloc _).below hb1)
    go_wp2_with fail
    refine (rright_v HO.out _).mono ?_
    rintro e w2 ⟨rfl, hb2⟩
    have HB2 := Lib.hid (fbelow_t HB1.out hb2)
    have T2 : Hid (TabA w2) := Lib.hid (T1.out.below hb2)
    go_wp2_with fail
    refine (walive_any _ T2.out).mono ?_
    rintro e w3 ⟨rfl, hb3⟩
    go_wp2
    go_ret
    exact ⟨rfl, fbelow_t HB2.out hb3⟩
  · have HO := Lib.hid ho
    have HF : Hid ((⟨i, n, l, d⟩ : Fr).ok = true) := Lib.hid ho
    obtain ⟨S, hS⟩ : ∃ S, encS ⟨i, n, l, d⟩ = S := ⟨_, rfl⟩
    have HS := Lib.hid hS
    have hr := renc_t (f := ⟨i, n, l, d⟩) ho
    rw [hS] at hr
    have HR := Lib.hid hr
    have es : (S.toList == S.toList) = true := by simp
    have ed : (d.toList == d.toList) = true := by simp
    clear ho hS hr
    go_enter Tryd.func3, Tryd.ntmps3
    go_wp2_with fail
    refine (encode_v (f := ⟨i, n, l, d⟩) HF.out HS.out _ (HT.out.alloc _)).mono ?_
    rintro e w1 ⟨rfl, hb1⟩
    obtain ⟨hc1, hf1⟩ := fbcell hb1
    have hz1 : w.heap.size < w1.heap.size := by have := hb1.size; simp only [World.size_alloc] at this; omega
    have HB1 := Lib.hid (fbelow_a _ hb1)
    have T1 : Hid (TabA w1) := Lib.hid ((HT.out.alloc _).below hb1)
    go_wp2_with fail
    refine (rright_v HO.out _).mono ?_
    rintro e w2 ⟨rfl, hb2⟩
    obtain ⟨hc2, hf2⟩ := fbcell hb2
    have hz2 : w.heap.size < w2.heap.size := Nat.lt_of_lt_of_le hz1 hb2.size
    have HB2 := Lib.hid (fbelow_t HB1.out hb2)
    have T2 : Hid (TabA w2) := Lib.hid (T1.out.below hb2)
    go_wp2_with fail
    refine (decode_v (f := ⟨i, n, l, d⟩) HF.out HS.out _ T2.out).mono ?_
    rintro e w3 ⟨rfl, hb3⟩
    obtain ⟨hc3, hf3⟩ := fbcell hb3
    have hz3 : w.heap.size < w3.heap.size := Nat.lt_of_lt_of_le hz2 hb3.size
    have HB3 := Lib.hid (fbelow_t HB2.out hb3)
    have T3 : Hid (TabA w3) := Lib.hid (T2.out.below hb3)
    go_wp2_with fail
    refine (HR.out _).mono ?_
    rintro e w4 ⟨rfl, hb4⟩
    obtain ⟨hc4, hf4⟩ := fbcell hb4
    have hz4 : w3.heap.size < w4.heap.size := by have := hb4.size; simp only [World.size_alloc] at this; omega
    have HB4 := Lib.hid (fbelow_t (Below.allocL HB3.out _) hb4)
    have T4 : Hid (TabA w4) := Lib.hid ((T3.out.alloc _).below hb4)
    go_wp2_with fail
    refine (walive_any _ T4.out).mono ?_
    rintro e w5 ⟨rfl, hb5⟩
    go_wp2
    go_ret
    exact ⟨rfl, fbelow_t HB4.out hb5⟩

theorem seq_self (a : ByteArray) : (a.toList == a.toList) = true := by simp
theorem sizeS_cases {f : Fr} {S : ByteArray} (h : encS f = S) : S.size = 16 ∨ S.size = 72 := by
  rw [← h, encS_size]
  rcases totN_cases f.n with ⟨_, e⟩ | ⟨_, e⟩ <;> omega

set_option maxHeartbeats 2000000 in
theorem apart_no1 {i n l i' n' l' : Int} {d d' : ByteArray} (hN : -9223372036854775808 ≤ n ∧ n ≤ 9223372036854775807) (hN' : -9223372036854775808 ≤ n' ∧ n' ≤ 9223372036854775807) (h : okF i n l d.size = false) (h' : okF i' n' l' d'.size = false) (w : World) (hT : TabA w) :
    Calls Tryd.prog 5 #[.agg #[.int .i64 i, .int .i64 n, .int .i64 l, .string d], .agg #[.int .i64 i', .int .i64 n', .int .i64 l', .string d']] w fun e w' => e = .returned (.bool true) ∧ Below w.heap.size w w' := by
  have HN := Lib.hid hN
  have HN' := Lib.hid hN'
  have H := Lib.hid h
  have H' := Lib.hid h'
  have HT := Lib.hid hT
  clear hN hN' h h' hT
  go_enter Tryd.func5, Tryd.ntmps5
  go_wp2_with fail
  refine (encode_f H.out _ ((HT.out.alloc _).alloc _) HN.out.1 HN.out.2).mono ?_
  rintro e w1 ⟨rfl, hb1⟩
  obtain ⟨hc1, hf1⟩ := fbcell hb1
  have hz1 : w.heap.size + 1 < w1.heap.size := by have := hb1.size; simp only [World.size_alloc] at this; omega
  have hz0 : w.heap.size < w1.heap.size := by omega
  have HB1 := Lib.hid (fbelow_a _ (fbelow_a _ hb1))
  have T1 : Hid (TabA w1) := Lib.hid (((HT.out.alloc _).alloc _).below hb1)
  go_wp2_with fail
  refine (encode_f H'.out _ T1.out HN'.out.1 HN'.out.2).mono ?_
  rintro e w2 ⟨rfl, hb2⟩
  obtain ⟨hc2, hf2⟩ := fbcell hb2
  have hz2 : w.heap.size + 1 < w2.heap.size := Nat.lt_of_lt_of_le hz1 hb2.size
  have hz3 : w.heap.size < w2.heap.size := by omega
  have HB2 := Lib.hid (fbelow_t HB1.out hb2)
  have T2 : Hid (TabA w2) := Lib.hid (T1.out.below hb2)
  go_wp2_with fail
  refine (walive_any _ T2.out).mono ?_
  rintro e w3 ⟨rfl, hb3⟩
  go_wp2
  go_ret
  exact ⟨rfl, fbelow_t HB2.out hb3⟩

set_option maxHeartbeats 2000000 in
theorem apart_no2 {i n l i' n' l' : Int} {d d' S : ByteArray} (hN : -9223372036854775808 ≤ n ∧ n ≤ 9223372036854775807) (h : okF i n l d.size = false) (h' : (⟨i', n', l', d'⟩ : Fr).ok = true) (hS : encS ⟨i', n', l', d'⟩ = S) (w : World) (hT : TabA w) :
    Calls Tryd.prog 5 #[.agg #[.int .i64 i, .int .i64 n, .int .i64 l, .string d], .agg #[.int .i64 i', .int .i64 n', .int .i64 l', .string d']] w fun e w' => e = .returned (.bool true) ∧ Below w.heap.size w w' := by
  have HN := Lib.hid hN
  have H := Lib.hid h
  have H' := Lib.hid h'
  have HS := Lib.hid hS
  have HT := Lib.hid hT
  clear hN h h' hS hT
  go_enter Tryd.func5, Tryd.ntmps5
  go_wp2_with fail
  refine (encode_f H.out _ ((HT.out.alloc _).alloc _) HN.out.1 HN.out.2).mono ?_
  rintro e w1 ⟨rfl, hb1⟩
  obtain ⟨hc1, hf1⟩ := fbcell hb1
  have hz1 : w.heap.size + 1 < w1.heap.size := by have := hb1.size; simp only [World.size_alloc] at this; omega
  have hz0 : w.heap.size < w1.heap.size := by omega
  have HB1 := Lib.hid (fbelow_a _ (fbelow_a _ hb1))
  have T1 : Hid (TabA w1) := Lib.hid (((HT.out.alloc _).alloc _).below hb1)
  go_wp2_with fail
  refine (encode_v (f := ⟨i', n', l', d'⟩) H'.out HS.out _ T1.out).mono ?_
  rintro e w2 ⟨rfl, hb2⟩
  obtain ⟨hc2, hf2⟩ := fbcell hb2
  have hz2 : w.heap.size + 1 < w2.heap.size := Nat.lt_of_lt_of_le hz1 hb2.size
  have hz3 : w.heap.size < w2.heap.size := by omega
  have HB2 := Lib.hid (fbelow_t HB1.out hb2)
  have T2 : Hid (TabA w2) := Lib.hid (T1.out.below hb2)
  go_wp2_with fail
  refine (walive_any _ T2.out).mono ?_
  rintro e w3 ⟨rfl, hb3⟩
  go_wp2
  go_ret
  exact ⟨rfl, fbelow_t HB2.out hb3⟩

set_option maxHeartbeats 2000000 in
theorem apart_no3 {i n l i' n' l' : Int} {d d' S : ByteArray} (hN' : -9223372036854775808 ≤ n' ∧ n' ≤ 9223372036854775807) (h' : okF i' n' l' d'.size = false) (h : (⟨i, n, l, d⟩ : Fr).ok = true) (hS : encS ⟨i, n, l, d⟩ = S) (w : World) (hT : TabA w) :
    Calls Tryd.prog 5 #[.agg #[.int .i64 i, .int .i64 n, .int .i64 l, .string d], .agg #[.int .i64 i', .int .i64 n', .int .i64 l', .string d']] w fun e w' => e = .returned (.bool true) ∧ Below w.heap.size w w' := by
  have HN' := Lib.hid hN'
  have H := Lib.hid h
  have H' := Lib.hid h'
  have HS := Lib.hid hS
  have HT := Lib.hid hT
  clear hN' h h' hS hT
  go_enter Tryd.func5, Tryd.ntmps5
  go_wp2_with fail
  refine (encode_v (f := ⟨i, n, l, d⟩) H.out HS.out _ ((HT.out.alloc _).alloc _)).mono ?_
  rintro e w1 ⟨rfl, hb1⟩
  obtain ⟨hc1, hf1⟩ := fbcell hb1
  have hz1 : w.heap.size + 1 < w1.heap.size := by have := hb1.size; simp only [World.size_alloc] at this; omega
  have hz0 : w.heap.size < w1.heap.size := by omega
  have HB1 := Lib.hid (fbelow_a _ (fbelow_a _ hb1))
  have T1 : Hid (TabA w1) := Lib.hid (((HT.out.alloc _).alloc _).below hb1)
  go_wp2_with fail
  refine (encode_f H'.out _ T1.out HN'.out.1 HN'.out.2).mono ?_
  rintro e w2 ⟨rfl, hb2⟩
  obtain ⟨hc2, hf2⟩ := fbcell hb2
  have hz2 : w.heap.size + 1 < w2.heap.size := Nat.lt_of_lt_of_le hz1 hb2.size
  have hz3 : w.heap.size < w2.heap.size := by omega
  have HB2 := Lib.hid (fbelow_t HB1.out hb2)
  have T2 : Hid (TabA w2) := Lib.hid (T1.out.below hb2)
  go_wp2_with fail
  refine (walive_any _ T2.out).mono ?_
  rintro e w3 ⟨rfl, hb3⟩
  go_wp2
  go_ret
  exact ⟨rfl, fbelow_t HB2.out hb3⟩

set_option maxHeartbeats 2000000 in
theorem apart_same_16 {i n l i' n' l' : Int} {d d' S S' : ByteArray} (h : (⟨i, n, l, d⟩ : Fr).ok = true) (h' : (⟨i', n', l', d'⟩ : Fr).ok = true) (hS : encS ⟨i, n, l, d⟩ = S) (hS' : encS ⟨i', n', l', d'⟩ = S') (hz : S.size = 16) (he : i = i' ∧ n = n' ∧ l = l' ∧ d = d') (w : World) (hT : TabA w) :
    Calls Tryd.prog 5 #[.agg #[.int .i64 i, .int .i64 n, .int .i64 l, .string d], .agg #[.int .i64 i', .int .i64 n', .int .i64 l', .string d']] w fun e w' => e = .returned (.bool true) ∧ Below w.heap.size w w' := by
  have x0 : S = S' := by rw [← hS, ← hS', he.1, he.2.1, he.2.2.1, he.2.2.2]
  obtain ⟨rfl, rfl, rfl, rfl⟩ := he
  have ed := seq_self d
  subst x0
  have es := seq_self S
  have z1 : ((S.size : Int) == 16) = true := by rw [hz]; rfl
  have z2 : ((S.size : Int) == 72) = false := by rw [hz]; rfl
  have H := Lib.hid h
  have H' := Lib.hid h'
  have HS := Lib.hid hS
  have HS' := Lib.hid hS'
  have HT := Lib.hid hT
  clear h h' hS hS' hT hz
  go_enter Tryd.func5, Tryd.ntmps5
  go_wp2_with fail
  refine (encode_v (f := ⟨i, n, l, d⟩) H.out HS.out _ ((HT.out.alloc _).alloc _)).mono ?_
  rintro e w1 ⟨rfl, hb1⟩
  obtain ⟨hc1, hf1⟩ := fbcell hb1
  have hz1 : w.heap.size + 1 < w1.heap.size := by have := hb1.size; simp only [World.size_alloc] at this; omega
  have hz0 : w.heap.size < w1.heap.size := by omega
  have HB1 := Lib.hid (fbelow_a _ (fbelow_a _ hb1))
  have T1 : Hid (TabA w1) := Lib.hid (((HT.out.alloc _).alloc _).below hb1)
  go_wp2_with fail
  refine (encode_v (f := ⟨i, n, l, d⟩) H'.out HS'.out _ T1.out).mono ?_
  rintro e w2 ⟨rfl, hb2⟩
  obtain ⟨hc2, hf2⟩ := fbcell hb2
  have hz2 : w.heap.size + 1 < w2.heap.size := Nat.lt_of_lt_of_le hz1 hb2.size
  have hz3 : w.heap.size < w2.heap.size := by omega
  have HB2 := Lib.hid (fbelow_t HB1.out hb2)
  have T2 : Hid (TabA w2) := Lib.hid (T1.out.below hb2)
  go_wp2_with fail
  refine (walive_any _ T2.out).mono ?_
  rintro e w3 ⟨rfl, hb3⟩
  go_wp2
  go_ret
  exact ⟨rfl, fbelow_t HB2.out hb3⟩

set_option maxHeartbeats 2000000 in
theorem apart_same_72 {i n l i' n' l' : Int} {d d' S S' : ByteArray} (h : (⟨i, n, l, d⟩ : Fr).ok = true) (h' : (⟨i', n', l', d'⟩ : Fr).ok = true) (hS : encS ⟨i, n, l, d⟩ = S) (hS' : encS ⟨i', n', l', d'⟩ = S') (hz : S.size = 72) (he : i = i' ∧ n = n' ∧ l = l' ∧ d = d') (w : World) (hT : TabA w) :
    Calls Tryd.prog 5 #[.agg #[.int .i64 i, .int .i64 n, .int .i64 l, .string d], .agg #[.int .i64 i', .int .i64 n', .int .i64 l', .string d']] w fun e w' => e = .returned (.bool true) ∧ Below w.heap.size w w' := by
  have x0 : S = S' := by rw [← hS, ← hS', he.1, he.2.1, he.2.2.1, he.2.2.2]
  obtain ⟨rfl, rfl, rfl, rfl⟩ := he
  have ed := seq_self d
  subst x0
  have es := seq_self S
  have z1 : ((S.size : Int) == 16) = false := by rw [hz]; rfl
  have z2 : ((S.size : Int) == 72) = true := by rw [hz]; rfl
  have H := Lib.hid h
  have H' := Lib.hid h'
  have HS := Lib.hid hS
  have HS' := Lib.hid hS'
  have HT := Lib.hid hT
  clear h h' hS hS' hT hz
  go_enter Tryd.func5, Tryd.ntmps5
  go_wp2_with fail
  refine (encode_v (f := ⟨i, n, l, d⟩) H.out HS.out _ ((HT.out.alloc _).alloc _)).mono ?_
  rintro e w1 ⟨rfl, hb1⟩
  obtain ⟨hc1, hf1⟩ := fbcell hb1
  have hz1 : w.heap.size + 1 < w1.heap.size := by have := hb1.size; simp only [World.size_alloc] at this; omega
  have hz0 : w.heap.size < w1.heap.size := by omega
  have HB1 := Lib.hid (fbelow_a _ (fbelow_a _ hb1))
  have T1 : Hid (TabA w1) := Lib.hid (((HT.out.alloc _).alloc _).below hb1)
  go_wp2_with fail
  refine (encode_v (f := ⟨i, n, l, d⟩) H'.out HS'.out _ T1.out).mono ?_
  rintro e w2 ⟨rfl, hb2⟩
  obtain ⟨hc2, hf2⟩ := fbcell hb2
  have hz2 : w.heap.size + 1 < w2.heap.size := Nat.lt_of_lt_of_le hz1 hb2.size
  have hz3 : w.heap.size < w2.heap.size := by omega
  have HB2 := Lib.hid (fbelow_t HB1.out hb2)
  have T2 : Hid (TabA w2) := Lib.hid (T1.out.below hb2)
  go_wp2_with fail
  refine (walive_any _ T2.out).mono ?_
  rintro e w3 ⟨rfl, hb3⟩
  go_wp2
  go_ret
  exact ⟨rfl, fbelow_t HB2.out hb3⟩

set_option maxHeartbeats 2000000 in
theorem apart_pi_16 {i n l i' n' l' : Int} {d d' S S' : ByteArray} (h : (⟨i, n, l, d⟩ : Fr).ok = true) (h' : (⟨i', n', l', d'⟩ : Fr).ok = true) (hS : encS ⟨i, n, l, d⟩ = S) (hS' : encS ⟨i', n', l', d'⟩ = S') (hz : S.size = 16) (he : i ≠ i') (w : World) (hT : TabA w) :
    Calls Tryd.prog 5 #[.agg #[.int .i64 i, .int .i64 n, .int .i64 l, .string d], .agg #[.int .i64 i', .int .i64 n', .int .i64 l', .string d']] w fun e w' => e = .returned (.bool true) ∧ Below w.heap.size w w' := by
  have x0 : S ≠ S' := fun e => by
    have e2 := (enc_inj h h').1 (by rw [hS, hS', e])
    injection e2 with a b c d
    first | exact he a | exact he.2 b | exact he.2.2 c | exact he.2.2.2 d
  have x1 : (i == i') = false := by simpa using he
  clear he
  have es : (S.toList == S'.toList) = false := by rw [seq_beq]; simpa using x0
  clear x0
  have z1 : ((S.size : Int) == 16) = true := by rw [hz]; rfl
  have z2 : ((S.size : Int) == 72) = false := by rw [hz]; rfl
  have H := Lib.hid h
  have H' := Lib.hid h'
  have HS := Lib.hid hS
  have HS' := Lib.hid hS'
  have HT := Lib.hid hT
  clear h h' hS hS' hT hz
  go_enter Tryd.func5, Tryd.ntmps5
  go_wp2_with fail
  refine (encode_v (f := ⟨i, n, l, d⟩) H.out HS.out _ ((HT.out.alloc _).alloc _)).mono ?_
  rintro e w1 ⟨rfl, hb1⟩
  obtain ⟨hc1, hf1⟩ := fbcell hb1
  have hz1 : w.heap.size + 1 < w1.heap.size := by have := hb1.size; simp only [World.size_alloc] at this; omega
  have hz0 : w.heap.size < w1.heap.size := by omega
  have HB1 := Lib.hid (fbelow_a _ (fbelow_a _ hb1))
  have T1 : Hid (TabA w1) := Lib.hid (((HT.out.alloc _).alloc _).below hb1)
  go_wp2_with fail
  refine (encode_v (f := ⟨i', n', l', d'⟩) H'.out HS'.out _ T1.out).mono ?_
  rintro e w2 ⟨rfl, hb2⟩
  obtain ⟨hc2, hf2⟩ := fbcell hb2
  have hz2 : w.heap.size + 1 < w2.heap.size := Nat.lt_of_lt_of_le hz1 hb2.size
  have hz3 : w.heap.size < w2.heap.size := by omega
  have HB2 := Lib.hid (fbelow_t HB1.out hb2)
  have T2 : Hid (TabA w2) := Lib.hid (T1.out.below hb2)
  go_wp2_with fail
  refine (walive_any _ T2.out).mono ?_
  rintro e w3 ⟨rfl, hb3⟩
  go_wp2
  go_ret
  exact ⟨rfl, fbelow_t HB2.out hb3⟩

set_option maxHeartbeats 2000000 in
theorem apart_pi_72 {i n l i' n' l' : Int} {d d' S S' : ByteArray} (h : (⟨i, n, l, d⟩ : Fr).ok = true) (h' : (⟨i', n', l', d'⟩ : Fr).ok = true) (hS : encS ⟨i, n, l, d⟩ = S) (hS' : encS ⟨i', n', l', d'⟩ = S') (hz : S.size = 72) (he : i ≠ i') (w : World) (hT : TabA w) :
    Calls Tryd.prog 5 #[.agg #[.int .i64 i, .int .i64 n, .int .i64 l, .string d], .agg #[.int .i64 i', .int .i64 n', .int .i64 l', .string d']] w fun e w' => e = .returned (.bool true) ∧ Below w.heap.size w w' := by
  have x0 : S ≠ S' := fun e => by
    have e2 := (enc_inj h h').1 (by rw [hS, hS', e])
    injection e2 with a b c d
    first | exact he a | exact he.2 b | exact he.2.2 c | exact he.2.2.2 d
  have x1 : (i == i') = false := by simpa using he
  clear he
  have es : (S.toList == S'.toList) = false := by rw [seq_beq]; simpa using x0
  clear x0
  have z1 : ((S.size : Int) == 16) = false := by rw [hz]; rfl
  have z2 : ((S.size : Int) == 72) = true := by rw [hz]; rfl
  have H := Lib.hid h
  have H' := Lib.hid h'
  have HS := Lib.hid hS
  have HS' := Lib.hid hS'
  have HT := Lib.hid hT
  clear h h' hS hS' hT hz
  go_enter Tryd.func5, Tryd.ntmps5
  go_wp2_with fail
  refine (encode_v (f := ⟨i, n, l, d⟩) H.out HS.out _ ((HT.out.alloc _).alloc _)).mono ?_
  rintro e w1 ⟨rfl, hb1⟩
  obtain ⟨hc1, hf1⟩ := fbcell hb1
  have hz1 : w.heap.size + 1 < w1.heap.size := by have := hb1.size; simp only [World.size_alloc] at this; omega
  have hz0 : w.heap.size < w1.heap.size := by omega
  have HB1 := Lib.hid (fbelow_a _ (fbelow_a _ hb1))
  have T1 : Hid (TabA w1) := Lib.hid (((HT.out.alloc _).alloc _).below hb1)
  go_wp2_with fail
  refine (encode_v (f := ⟨i', n', l', d'⟩) H'.out HS'.out _ T1.out).mono ?_
  rintro e w2 ⟨rfl, hb2⟩
  obtain ⟨hc2, hf2⟩ := fbcell hb2
  have hz2 : w.heap.size + 1 < w2.heap.size := Nat.lt_of_lt_of_le hz1 hb2.size
  have hz3 : w.heap.size < w2.heap.size := by omega
  have HB2 := Lib.hid (fbelow_t HB1.out hb2)
  have T2 : Hid (TabA w2) := Lib.hid (T1.out.below hb2)
  go_wp2_with fail
  refine (walive_any _ T2.out).mono ?_
  rintro e w3 ⟨rfl, hb3⟩
  go_wp2
  go_ret
  exact ⟨rfl, fbelow_t HB2.out hb3⟩

set_option maxHeartbeats 2000000 in
theorem apart_pn_16 {i n l i' n' l' : Int} {d d' S S' : ByteArray} (h : (⟨i, n, l, d⟩ : Fr).ok = true) (h' : (⟨i', n', l', d'⟩ : Fr).ok = true) (hS : encS ⟨i, n, l, d⟩ = S) (hS' : encS ⟨i', n', l', d'⟩ = S') (hz : S.size = 16) (he : i = i' ∧ n ≠ n') (w : World) (hT : TabA w) :
    Calls Tryd.prog 5 #[.agg #[.int .i64 i, .int .i64 n, .int .i64 l, .string d], .agg #[.int .i64 i', .int .i64 n', .int .i64 l', .string d']] w fun e w' => e = .returned (.bool true) ∧ Below w.heap.size w w' := by
  have x0 : S ≠ S' := fun e => by
    have e2 := (enc_inj h h').1 (by rw [hS, hS', e])
    injection e2 with a b c d
    first | exact he a | exact he.2 b | exact he.2.2 c | exact he.2.2.2 d
  obtain ⟨rfl, he⟩ := he
  have x1 : (n == n') = false := by simpa using he
  clear he
  have es : (S.toList == S'.toList) = false := by rw [seq_beq]; simpa using x0
  clear x0
  have z1 : ((S.size : Int) == 16) = true := by rw [hz]; rfl
  have z2 : ((S.size : Int) == 72) = false := by rw [hz]; rfl
  have H := Lib.hid h
  have H' := Lib.hid h'
  have HS := Lib.hid hS
  have HS' := Lib.hid hS'
  have HT := Lib.hid hT
  clear h h' hS hS' hT hz
  go_enter Tryd.func5, Tryd.ntmps5
  go_wp2_with fail
  refine (encode_v (f := ⟨i, n, l, d⟩) H.out HS.out _ ((HT.out.alloc _).alloc _)).mono ?_
  rintro e w1 ⟨rfl, hb1⟩
  obtain ⟨hc1, hf1⟩ := fbcell hb1
  have hz1 : w.heap.size + 1 < w1.heap.size := by have := hb1.size; simp only [World.size_alloc] at this; omega
  have hz0 : w.heap.size < w1.heap.size := by omega
  have HB1 := Lib.hid (fbelow_a _ (fbelow_a _ hb1))
  have T1 : Hid (TabA w1) := Lib.hid (((HT.out.alloc _).alloc _).below hb1)
  go_wp2_with fail
  refine (encode_v (f := ⟨i, n', l', d'⟩) H'.out HS'.out _ T1.out).mono ?_
  rintro e w2 ⟨rfl, hb2⟩
  obtain ⟨hc2, hf2⟩ := fbcell hb2
  have hz2 : w.heap.size + 1 < w2.heap.size := Nat.lt_of_lt_of_le hz1 hb2.size
  have hz3 : w.heap.size < w2.heap.size := by omega
  have HB2 := Lib.hid (fbelow_t HB1.out hb2)
  have T2 : Hid (TabA w2) := Lib.hid (T1.out.below hb2)
  go_wp2_with fail
  refine (walive_any _ T2.out).mono ?_
  rintro e w3 ⟨rfl, hb3⟩
  go_wp2
  go_ret
  exact ⟨rfl, fbelow_t HB2.out hb3⟩

set_option maxHeartbeats 2000000 in
theorem apart_pn_72 {i n l i' n' l' : Int} {d d' S S' : ByteArray} (h : (⟨i, n, l, d⟩ : Fr).ok = true) (h' : (⟨i', n', l', d'⟩ : Fr).ok = true) (hS : encS ⟨i, n, l, d⟩ = S) (hS' : encS ⟨i', n', l', d'⟩ = S') (hz : S.size = 72) (he : i = i' ∧ n ≠ n') (w : World) (hT : TabA w) :
    Calls Tryd.prog 5 #[.agg #[.int .i64 i, .int .i64 n, .int .i64 l, .string d], .agg #[.int .i64 i', .int .i64 n', .int .i64 l', .string d']] w fun e w' => e = .returned (.bool true) ∧ Below w.heap.size w w' := by
  have x0 : S ≠ S' := fun e => by
    have e2 := (enc_inj h h').1 (by rw [hS, hS', e])
    injection e2 with a b c d
    first | exact he a | exact he.2 b | exact he.2.2 c | exact he.2.2.2 d
  obtain ⟨rfl, he⟩ := he
  have x1 : (n == n') = false := by simpa using he
  clear he
  have es : (S.toList == S'.toList) = false := by rw [seq_beq]; simpa using x0
  clear x0
  have z1 : ((S.size : Int) == 16) = false := by rw [hz]; rfl
  have z2 : ((S.size : Int) == 72) = true := by rw [hz]; rfl
  have H := Lib.hid h
  have H' := Lib.hid h'
  have HS := Lib.hid hS
  have HS' := Lib.hid hS'
  have HT := Lib.hid hT
  clear h h' hS hS' hT hz
  go_enter Tryd.func5, Tryd.ntmps5
  go_wp2_with fail
  refine (encode_v (f := ⟨i, n, l, d⟩) H.out HS.out _ ((HT.out.alloc _).alloc _)).mono ?_
  rintro e w1 ⟨rfl, hb1⟩
  obtain ⟨hc1, hf1⟩ := fbcell hb1
  have hz1 : w.heap.size + 1 < w1.heap.size := by have := hb1.size; simp only [World.size_alloc] at this; omega
  have hz0 : w.heap.size < w1.heap.size := by omega
  have HB1 := Lib.hid (fbelow_a _ (fbelow_a _ hb1))
  have T1 : Hid (TabA w1) := Lib.hid (((HT.out.alloc _).alloc _).below hb1)
  go_wp2_with fail
  refine (encode_v (f := ⟨i, n', l', d'⟩) H'.out HS'.out _ T1.out).mono ?_
  rintro e w2 ⟨rfl, hb2⟩
  obtain ⟨hc2, hf2⟩ := fbcell hb2
  have hz2 : w.heap.size + 1 < w2.heap.size := Nat.lt_of_lt_of_le hz1 hb2.size
  have hz3 : w.heap.size < w2.heap.size := by omega
  have HB2 := Lib.hid (fbelow_t HB1.out hb2)
  have T2 : Hid (TabA w2) := Lib.hid (T1.out.below hb2)
  go_wp2_with fail
  refine (walive_any _ T2.out).mono ?_
  rintro e w3 ⟨rfl, hb3⟩
  go_wp2
  go_ret
  exact ⟨rfl, fbelow_t HB2.out hb3⟩

set_option maxHeartbeats 2000000 in
theorem apart_pl_16 {i n l i' n' l' : Int} {d d' S S' : ByteArray} (h : (⟨i, n, l, d⟩ : Fr).ok = true) (h' : (⟨i', n', l', d'⟩ : Fr).ok = true) (hS : encS ⟨i, n, l, d⟩ = S) (hS' : encS ⟨i', n', l', d'⟩ = S') (hz : S.size = 16) (he : i = i' ∧ n = n' ∧ l ≠ l') (w : World) (hT : TabA w) :
    Calls Tryd.prog 5 #[.agg #[.int .i64 i, .int .i64 n, .int .i64 l, .string d], .agg #[.int .i64 i', .int .i64 n', .int .i64 l', .string d']] w fun e w' => e = .returned (.bool true) ∧ Below w.heap.size w w' := by
  have x0 : S ≠ S' := fun e => by
    have e2 := (enc_inj h h').1 (by rw [hS, hS', e])
    injection e2 with a b c d
    first | exact he a | exact he.2 b | exact he.2.2 c | exact he.2.2.2 d
  obtain ⟨rfl, rfl, he⟩ := he
  have x1 : (l == l') = false := by simpa using he
  clear he
  have es : (S.toList == S'.toList) = false := by rw [seq_beq]; simpa using x0
  clear x0
  have z1 : ((S.size : Int) == 16) = true := by rw [hz]; rfl
  have z2 : ((S.size : Int) == 72) = false := by rw [hz]; rfl
  have H := Lib.hid h
  have H' := Lib.hid h'
  have HS := Lib.hid hS
  have HS' := Lib.hid hS'
  have HT := Lib.hid hT
  clear h h' hS hS' hT hz
  go_enter Tryd.func5, Tryd.ntmps5
  go_wp2_with fail
  refine (encode_v (f := ⟨i, n, l, d⟩) H.out HS.out _ ((HT.out.alloc _).alloc _)).mono ?_
  rintro e w1 ⟨rfl, hb1⟩
  obtain ⟨hc1, hf1⟩ := fbcell hb1
  have hz1 : w.heap.size + 1 < w1.heap.size := by have := hb1.size; simp only [World.size_alloc] at this; omega
  have hz0 : w.heap.size < w1.heap.size := by omega
  have HB1 := Lib.hid (fbelow_a _ (fbelow_a _ hb1))
  have T1 : Hid (TabA w1) := Lib.hid (((HT.out.alloc _).alloc _).below hb1)
  go_wp2_with fail
  refine (encode_v (f := ⟨i, n, l', d'⟩) H'.out HS'.out _ T1.out).mono ?_
  rintro e w2 ⟨rfl, hb2⟩
  obtain ⟨hc2, hf2⟩ := fbcell hb2
  have hz2 : w.heap.size + 1 < w2.heap.size := Nat.lt_of_lt_of_le hz1 hb2.size
  have hz3 : w.heap.size < w2.heap.size := by omega
  have HB2 := Lib.hid (fbelow_t HB1.out hb2)
  have T2 : Hid (TabA w2) := Lib.hid (T1.out.below hb2)
  go_wp2_with fail
  refine (walive_any _ T2.out).mono ?_
  rintro e w3 ⟨rfl, hb3⟩
  go_wp2
  go_ret
  exact ⟨rfl, fbelow_t HB2.out hb3⟩

set_option maxHeartbeats 2000000 in
theorem apart_pl_72 {i n l i' n' l' : Int} {d d' S S' : ByteArray} (h : (⟨i, n, l, d⟩ : Fr).ok = true) (h' : (⟨i', n', l', d'⟩ : Fr).ok = true) (hS : encS ⟨i, n, l, d⟩ = S) (hS' : encS ⟨i', n', l', d'⟩ = S') (hz : S.size = 72) (he : i = i' ∧ n = n' ∧ l ≠ l') (w : World) (hT : TabA w) :
    Calls Tryd.prog 5 #[.agg #[.int .i64 i, .int .i64 n, .int .i64 l, .string d], .agg #[.int .i64 i', .int .i64 n', .int .i64 l', .string d']] w fun e w' => e = .returned (.bool true) ∧ Below w.heap.size w w' := by
  have x0 : S ≠ S' := fun e => by
    have e2 := (enc_inj h h').1 (by rw [hS, hS', e])
    injection e2 with a b c d
    first | exact he a | exact he.2 b | exact he.2.2 c | exact he.2.2.2 d
  obtain ⟨rfl, rfl, he⟩ := he
  have x1 : (l == l') = false := by simpa using he
  clear he
  have es : (S.toList == S'.toList) = false := by rw [seq_beq]; simpa using x0
  clear x0
  have z1 : ((S.size : Int) == 16) = false := by rw [hz]; rfl
  have z2 : ((S.size : Int) == 72) = true := by rw [hz]; rfl
  have H := Lib.hid h
  have H' := Lib.hid h'
  have HS := Lib.hid hS
  have HS' := Lib.hid hS'
  have HT := Lib.hid hT
  clear h h' hS hS' hT hz
  go_enter Tryd.func5, Tryd.ntmps5
  go_wp2_with fail
  refine (encode_v (f := ⟨i, n, l, d⟩) H.out HS.out _ ((HT.out.alloc _).alloc _)).mono ?_
  rintro e w1 ⟨rfl, hb1⟩
  obtain ⟨hc1, hf1⟩ := fbcell hb1
  have hz1 : w.heap.size + 1 < w1.heap.size := by have := hb1.size; simp only [World.size_alloc] at this; omega
  have hz0 : w.heap.size < w1.heap.size := by omega
  have HB1 := Lib.hid (fbelow_a _ (fbelow_a _ hb1))
  have T1 : Hid (TabA w1) := Lib.hid (((HT.out.alloc _).alloc _).below hb1)
  go_wp2_with fail
  refine (encode_v (f := ⟨i, n, l', d'⟩) H'.out HS'.out _ T1.out).mono ?_
  rintro e w2 ⟨rfl, hb2⟩
  obtain ⟨hc2, hf2⟩ := fbcell hb2
  have hz2 : w.heap.size + 1 < w2.heap.size := Nat.lt_of_lt_of_le hz1 hb2.size
  have hz3 : w.heap.size < w2.heap.size := by omega
  have HB2 := Lib.hid (fbelow_t HB1.out hb2)
  have T2 : Hid (TabA w2) := Lib.hid (T1.out.below hb2)
  go_wp2_with fail
  refine (walive_any _ T2.out).mono ?_
  rintro e w3 ⟨rfl, hb3⟩
  go_wp2
  go_ret
  exact ⟨rfl, fbelow_t HB2.out hb3⟩

set_option maxHeartbeats 2000000 in
theorem apart_pd_16 {i n l i' n' l' : Int} {d d' S S' : ByteArray} (h : (⟨i, n, l, d⟩ : Fr).ok = true) (h' : (⟨i', n', l', d'⟩ : Fr).ok = true) (hS : encS ⟨i, n, l, d⟩ = S) (hS' : encS ⟨i', n', l', d'⟩ = S') (hz : S.size = 16) (he : i = i' ∧ n = n' ∧ l = l' ∧ d ≠ d') (w : World) (hT : TabA w) :
    Calls Tryd.prog 5 #[.agg #[.int .i64 i, .int .i64 n, .int .i64 l, .string d], .agg #[.int .i64 i', .int .i64 n', .int .i64 l', .string d']] w fun e w' => e = .returned (.bool true) ∧ Below w.heap.size w w' := by
  have x0 : S ≠ S' := fun e => by
    have e2 := (enc_inj h h').1 (by rw [hS, hS', e])
    injection e2 with a b c d
    first | exact he a | exact he.2 b | exact he.2.2 c | exact he.2.2.2 d
  obtain ⟨rfl, rfl, rfl, he⟩ := he
  have x1 : (d.toList == d'.toList) = false := by rw [seq_beq]; simpa using he
  clear he
  have es : (S.toList == S'.toList) = false := by rw [seq_beq]; simpa using x0
  clear x0
  have z1 : ((S.size : Int) == 16) = true := by rw [hz]; rfl
  have z2 : ((S.size : Int) == 72) = false := by rw [hz]; rfl
  have H := Lib.hid h
  have H' := Lib.hid h'
  have HS := Lib.hid hS
  have HS' := Lib.hid hS'
  have HT := Lib.hid hT
  clear h h' hS hS' hT hz
  go_enter Tryd.func5, Tryd.ntmps5
  go_wp2_with fail
  refine (encode_v (f := ⟨i, n, l, d⟩) H.out HS.out _ ((HT.out.alloc _).alloc _)).mono ?_
  rintro e w1 ⟨rfl, hb1⟩
  obtain ⟨hc1, hf1⟩ := fbcell hb1
  have hz1 : w.heap.size + 1 < w1.heap.size := by have := hb1.size; simp only [World.size_alloc] at this; omega
  have hz0 : w.heap.size < w1.heap.size := by omega
  have HB1 := Lib.hid (fbelow_a _ (fbelow_a _ hb1))
  have T1 : Hid (TabA w1) := Lib.hid (((HT.out.alloc _).alloc _).below hb1)
  go_wp2_with fail
  refine (encode_v (f := ⟨i, n, l, d'⟩) H'.out HS'.out _ T1.out).mono ?_
  rintro e w2 ⟨rfl, hb2⟩
  obtain ⟨hc2, hf2⟩ := fbcell hb2
  have hz2 : w.heap.size + 1 < w2.heap.size := Nat.lt_of_lt_of_le hz1 hb2.size
  have hz3 : w.heap.size < w2.heap.size := by omega
  have HB2 := Lib.hid (fbelow_t HB1.out hb2)
  have T2 : Hid (TabA w2) := Lib.hid (T1.out.below hb2)
  go_wp2_with fail
  refine (walive_any _ T2.out).mono ?_
  rintro e w3 ⟨rfl, hb3⟩
  go_wp2
  go_ret
  exact ⟨rfl, fbelow_t HB2.out hb3⟩

set_option maxHeartbeats 2000000 in
theorem apart_pd_72 {i n l i' n' l' : Int} {d d' S S' : ByteArray} (h : (⟨i, n, l, d⟩ : Fr).ok = true) (h' : (⟨i', n', l', d'⟩ : Fr).ok = true) (hS : encS ⟨i, n, l, d⟩ = S) (hS' : encS ⟨i', n', l', d'⟩ = S') (hz : S.size = 72) (he : i = i' ∧ n = n' ∧ l = l' ∧ d ≠ d') (w : World) (hT : TabA w) :
    Calls Tryd.prog 5 #[.agg #[.int .i64 i, .int .i64 n, .int .i64 l, .string d], .agg #[.int .i64 i', .int .i64 n', .int .i64 l', .string d']] w fun e w' => e = .returned (.bool true) ∧ Below w.heap.size w w' := by
  have x0 : S ≠ S' := fun e => by
    have e2 := (enc_inj h h').1 (by rw [hS, hS', e])
    injection e2 with a b c d
    first | exact he a | exact he.2 b | exact he.2.2 c | exact he.2.2.2 d
  obtain ⟨rfl, rfl, rfl, he⟩ := he
  have x1 : (d.toList == d'.toList) = false := by rw [seq_beq]; simpa using he
  clear he
  have es : (S.toList == S'.toList) = false := by rw [seq_beq]; simpa using x0
  clear x0
  have z1 : ((S.size : Int) == 16) = false := by rw [hz]; rfl
  have z2 : ((S.size : Int) == 72) = true := by rw [hz]; rfl
  have H := Lib.hid h
  have H' := Lib.hid h'
  have HS := Lib.hid hS
  have HS' := Lib.hid hS'
  have HT := Lib.hid hT
  clear h h' hS hS' hT hz
  go_enter Tryd.func5, Tryd.ntmps5
  go_wp2_with fail
  refine (encode_v (f := ⟨i, n, l, d⟩) H.out HS.out _ ((HT.out.alloc _).alloc _)).mono ?_
  rintro e w1 ⟨rfl, hb1⟩
  obtain ⟨hc1, hf1⟩ := fbcell hb1
  have hz1 : w.heap.size + 1 < w1.heap.size := by have := hb1.size; simp only [World.size_alloc] at this; omega
  have hz0 : w.heap.size < w1.heap.size := by omega
  have HB1 := Lib.hid (fbelow_a _ (fbelow_a _ hb1))
  have T1 : Hid (TabA w1) := Lib.hid (((HT.out.alloc _).alloc _).below hb1)
  go_wp2_with fail
  refine (encode_v (f := ⟨i, n, l, d'⟩) H'.out HS'.out _ T1.out).mono ?_
  rintro e w2 ⟨rfl, hb2⟩
  obtain ⟨hc2, hf2⟩ := fbcell hb2
  have hz2 : w.heap.size + 1 < w2.heap.size := Nat.lt_of_lt_of_le hz1 hb2.size
  have hz3 : w.heap.size < w2.heap.size := by omega
  have HB2 := Lib.hid (fbelow_t HB1.out hb2)
  have T2 : Hid (TabA w2) := Lib.hid (T1.out.below hb2)
  go_wp2_with fail
  refine (walive_any _ T2.out).mono ?_
  rintro e w3 ⟨rfl, hb3⟩
  go_wp2
  go_ret
  exact ⟨rfl, fbelow_t HB2.out hb3⟩

theorem wireApart_walk (i n l : Int) (d : ByteArray) (i' n' l' : Int) (d' : ByteArray) (_wi : (Lit.int .i64 i).wf = true) (wn : (Lit.int .i64 n).wf = true) (_wl : (Lit.int .i64 l).wf = true) (_wd : d.size ≤ maxLen) (_wi' : (Lit.int .i64 i').wf = true) (wn' : (Lit.int .i64 n').wf = true) (_wl' : (Lit.int .i64 l').wf = true) (_wd' : d'.size ≤ maxLen) (w : World) (hT1 : Tabs w) (hT2 : TabW w) :
    Calls Tryd.prog 5 #[.agg #[.int .i64 i, .int .i64 n, .int .i64 l, .string d], .agg #[.int .i64 i', .int .i64 n', .int .i64 l', .string d']] w fun e w' => e = .returned (.bool true) ∧ Below w.heap.size w w' := by
  have hN := Go.bounds_i64 wn
  have hN' := Go.bounds_i64 wn'
  have hT : TabA w := ⟨hT1, hT2⟩
  cases h : okF i n l d.size <;> cases h' : okF i' n' l' d'.size
  · exact apart_no1 hN hN' h h' w hT
  · exact apart_no2 hN h h' rfl w hT
  · exact apart_no3 hN' h' h rfl w hT
  · rcases sizeS_cases (f := ⟨i, n, l, d⟩) rfl with hz | hz
    · by_cases a : i = i'
      · by_cases b : n = n'
        · by_cases c : l = l'
          · by_cases e : d = d'
            · exact apart_same_16 h h' rfl rfl hz ⟨a, b, c, e⟩ w hT
            · exact apart_pd_16 h h' rfl rfl hz ⟨a, b, c, e⟩ w hT
          · exact apart_pl_16 h h' rfl rfl hz ⟨a, b, c⟩ w hT
        · exact apart_pn_16 h h' rfl rfl hz ⟨a, b⟩ w hT
      · exact apart_pi_16 h h' rfl rfl hz a w hT
    · by_cases a : i = i'
      · by_cases b : n = n'
        · by_cases c : l = l'
          · by_cases e : d = d'
            · exact apart_same_72 h h' rfl rfl hz ⟨a, b, c, e⟩ w hT
            · exact apart_pd_72 h h' rfl rfl hz ⟨a, b, c, e⟩ w hT
          · exact apart_pl_72 h h' rfl rfl hz ⟨a, b, c⟩ w hT
        · exact apart_pn_72 h h' rfl rfl hz ⟨a, b⟩ w hT
      · exact apart_pi_72 h h' rfl rfl hz a w hT

end Go.Proofs.YtimlaopmhcipmaaDoor
