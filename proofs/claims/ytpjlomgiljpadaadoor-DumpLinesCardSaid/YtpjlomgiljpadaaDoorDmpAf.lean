/- Dump: the chapter's examples; walks of DumpTells, DumpReads, DumpPlain. -/
import Derived.Test.YtpjlomgiljpadaaDoorDmpAd
import Derived.Test.YtpjlomgiljpadaaDoorDmpAe
import Derived.Test.YtpjlomgiljpadaaDoorDmpW
namespace Go.Proofs.YtpjlomgiljpadaaDoor
open Go.RowKit
set_option linter.unusedVariables false

theorem dread_v {s : ByteArray} {f : Fr} (h : f.ok = true) (hs : tellS f = s) (w : World) (hT : Tabs w) :
    Calls Tryd.prog 11 #[.string s] w fun e w' => e = .returned (.tuple #[.agg #[.int .i64 f.i, .int .i64 f.n, .int .i64 f.l, .string f.d], .int .i64 0]) ∧ Below w.heap.size w w' := by
  subst hs
  exact dread_t (by rw [tellS_size]; have := tellL_len h; omega) (by rw [byL_tell h]; exact tell_read h) w hT
theorem dline_v {e : En} {s : ByteArray} (h : e.ok = true) (hfit : e.fits) (hs : lineS e = s) (w : World) (hT : TabD w) :
    Calls Tryd.prog 16 #[enV e.f.i e.f.n e.f.l e.f.d e.node e.slot] w fun r w' => r = .returned (.tuple #[.string s, .int .i64 0]) ∧ Below w.heap.size w w' := by rw [← hs]; exact dline_t h hfit w hT

def frX : Fr := ⟨291, 0, 4, ⟨#[222, 173, 190, 239]⟩⟩
def frY : Fr := ⟨291, 3, 8, ⟨#[]⟩⟩
def enX : En := ⟨⟨291, 0, 0, ⟨#[]⟩⟩, 2, 7⟩
def txX : ByteArray := ⟨#[49, 50, 51, 35, 100, 101, 46, 65, 68, 46, 98, 101, 46, 69, 70]⟩
def toX : ByteArray := ⟨#[49, 50, 51, 35, 68, 69, 65, 68, 66, 69, 69, 70]⟩
def txY : ByteArray := ⟨#[48, 48, 48, 48, 48, 49, 50, 51, 35, 114, 56]⟩
def txE : ByteArray := ⟨#[40, 55, 41, 32, 110, 50, 32, 49, 50, 51, 35, 10]⟩
theorem frX_ok : frX.ok = true := by decide +kernel
theorem enX_ok : enX.ok = true := by decide +kernel
theorem rdX : readO (byL txX) = some frX := by kernel_rfl
theorem rdY : readO (byL txY) = some frY := by kernel_rfl
theorem tlX : tellS frX = toX := by
  apply ByteArray.ext; apply Array.toList_inj.1; decide +kernel
theorem lnX : lineS enX = txE := by
  apply byL_inj
  rw [byL_line enX_ok]
  have h7 : decL 7 = [55] := by unfold decL; rw [show (7 : Int) = ((7 : Nat) : Int) from rfl, Lib.itoa_nonneg, Lib.decDigits_one (by omega)]; rfl
  have h2 : decL 2 = [50] := by unfold decL; rw [show (2 : Int) = ((2 : Nat) : Int) from rfl, Lib.itoa_nonneg, Lib.decDigits_one (by omega)]; rfl
  unfold lineL enX
  simp only
  rw [h7, h2]
  decide +kernel

set_option maxHeartbeats 2000000 in
theorem dalive_any (w : World) (hT : TabD w) :
    Calls Tryd.prog 10 #[] w fun e w' => e = .returned (.bool true) ∧ Below w.heap.size w w' := by
  have HT := Lib.hid hT
  clear hT
  go_enter Tryd.func10, Tryd.ntmps10
  go_wp2_with fail
  refine (dread_t (s := txX) (f := frX) (by decide) rdX _ HT.out.1).mono ?_
  rintro e w1 ⟨rfl, hb1⟩
  have HB1 := Lib.hid hb1
  have T1 := Lib.hid (HT.out.below hb1)
  clear hb1
  go_wp2_with fail
  refine (dtell_sv (f := frX) frX_ok tlX _ (T1.out.alloc _).1).mono ?_
  rintro e w2 ⟨rfl, hb2⟩
  have HB2 := Lib.hid (fbelow_t (Below.allocL HB1.out _) hb2)
  have T2 := Lib.hid ((T1.out.alloc _).below hb2)
  clear hb2
  go_wp2_with fail
  refine (dread_t (s := txY) (f := frY) (by decide) rdY _ T2.out.1).mono ?_
  rintro e w3 ⟨rfl, hb3⟩
  have HB3 := Lib.hid (fbelow_t HB2.out hb3)
  have T3 := Lib.hid (T2.out.below hb3)
  clear hb3
  go_wp2_with fail
  refine (dline_v (e := enX) enX_ok ⟨by decide, by decide⟩ lnX _ (T3.out.alloc _)).mono ?_
  rintro e w4 ⟨rfl, hb4⟩
  obtain ⟨hc4, hf4⟩ := fbcell hb4
  have hz4 : w3.heap.size < w4.heap.size := by have := hb4.size; simp only [World.size_alloc] at this; omega
  have HB4 := Lib.hid (fbelow_t (Below.allocL HB3.out _) hb4)
  clear hb4
  have s1 : (toX.toList == (ByteArray.mk #[49, 50, 51, 35, 68, 69, 65, 68, 66, 69, 69, 70]).toList) = true := by rw [seq_beq]; decide +kernel
  have s2 : (txE.toList == (ByteArray.mk #[40, 55, 41, 32, 110, 50, 32, 49, 50, 51, 35, 10]).toList) = true := by rw [seq_beq]; decide +kernel
  unfold toX txE frY at *
  go_wp2_with fail
  go_ret
  exact ⟨rfl, HB4.out⟩

set_option maxHeartbeats 4000000 in
theorem dumpTells_walk (i n l : Int) (d : ByteArray) (_wi : (Lit.int .i64 i).wf = true) (wn : (Lit.int .i64 n).wf = true) (_wl : (Lit.int .i64 l).wf = true) (_wd : d.size ≤ maxLen) (w : World) (hT1 : Tabs w) (hT2 : Tab10 w) :
    Calls Tryd.prog 3 #[.agg #[.int .i64 i, .int .i64 n, .int .i64 l, .string d]] w fun e w' => e = .returned (.bool true) ∧ Below w.heap.size w w' := by
  have HT : Hid (TabD w) := Lib.hid ⟨hT1, hT2⟩
  have hn := Go.bounds_i64 wn
  have HN := Lib.hid hn
  clear hn hT1 hT2 _wi wn _wl _wd
  cases hq : okF i n l d.size
  · have HQ := Lib.hid hq
    clear hq
    go_enter Tryd.func3, Tryd.ntmps3
    go_wp2_with fail
    refine (dtell_f HQ.out _ (HT.out.alloc _).1 HN.out.1 HN.out.2).mono ?_
    rintro e w1 ⟨rfl, hb1⟩
    obtain ⟨hc1, hf1⟩ := fbcell hb1
    have HB1 := Lib.hid hb1
    have T1 := Lib.hid ((HT.out.alloc _).below hb1)
    clear hb1
    go_wp2_with fail
    refine (rright_v HQ.out _).mono ?_
    rintro e w2 ⟨rfl, hb2⟩
    have HB2 := Lib.hid (fbelow_t HB1.out hb2)
    have T2 := Lib.hid (T1.out.below hb2)
    clear hb2
    go_wp2_with fail
    refine (dalive_any _ T2.out).mono ?_
    rintro e w3 ⟨rfl, hb3⟩
    have HB3 := Lib.hid (fbelow_t HB2.out hb3)
    clear hb3
    go_wp2_with fail
    go_ret
    exact ⟨rfl, fbelow_a _ HB3.out⟩
  · have HQ := Lib.hid hq
    have H : Hid (Fr.ok ⟨i, n, l, d⟩ = true) := Lib.hid hq
    obtain ⟨X, hX⟩ : ∃ X, tellS ⟨i, n, l, d⟩ = X := ⟨_, rfl⟩
    have HX := Lib.hid hX
    have es := seq_self X
    have ed := seq_self d
    clear hq hX
    go_enter Tryd.func3, Tryd.ntmps3
    go_wp2_with fail
    refine (dtell_sv (f := ⟨i, n, l, d⟩) H.out HX.out _ (HT.out.alloc _).1).mono ?_
    rintro e w1 ⟨rfl, hb1⟩
    obtain ⟨hc1, hf1⟩ := fbcell hb1
    have HB1 := Lib.hid hb1
    have T1 := Lib.hid ((HT.out.alloc _).below hb1)
    clear hb1
    go_wp2_with fail
    refine (rright_v HQ.out _).mono ?_
    rintro e w2 ⟨rfl, hb2⟩
    have HB2 := Lib.hid (fbelow_t HB1.out hb2)
    have T2 := Lib.hid (T1.out.below hb2)
    clear hb2 hc1 hf1
    obtain ⟨hc2, hf2⟩ := fbcell HB2.out
    have hz2 : w.heap.size < w2.heap.size := by have := HB2.out.size; simp only [World.size_alloc] at this; omega
    go_wp2_with fail
    refine (dread_v (f := ⟨i, n, l, d⟩) H.out HX.out _ T2.out.1).mono ?_
    rintro e w3 ⟨rfl, hb3⟩
    have HB3 := Lib.hid (fbelow_t HB2.out hb3)
    have T3 := Lib.hid (T2.out.below hb3)
    clear hb3 hc2 hf2
    obtain ⟨hc3, hf3⟩ := fbcell HB3.out
    have hz3 : w.heap.size < w3.heap.size := by have := HB3.out.size; simp only [World.size_alloc] at this; omega
    go_wp2_with fail
    refine (rtell_v (f := ⟨i, n, l, d⟩) H.out HX.out _).mono ?_
    rintro e w4 ⟨rfl, hb4⟩
    have HB4 := Lib.hid (fbelow_t (Below.allocL HB3.out _) hb4)
    have T4 := Lib.hid ((T3.out.alloc _).below hb4)
    obtain ⟨hc4, hf4⟩ := fbcell hb4
    have hz4 : w3.heap.size < w4.heap.size := by have := hb4.size; simp only [World.size_alloc] at this; omega
    clear hb4
    go_wp2_with fail
    refine (dalive_any _ T4.out).mono ?_
    rintro e w5 ⟨rfl, hb5⟩
    have HB5 := Lib.hid (fbelow_t HB4.out hb5)
    clear hb5
    go_wp2_with fail
    go_ret
    exact ⟨rfl, fbelow_a _ HB5.out⟩

set_option maxHeartbeats 4000000 in
theorem dumpReads_walk (s : ByteArray) (ws : s.size ≤ maxLen) (w : World) (hT1 : Tabs w) (hT2 : Tab10 w) :
    Calls Tryd.prog 4 #[.string s] w fun e w' => e = .returned (.bool true) ∧ Below w.heap.size w w' := by
  have HT : Hid (TabD w) := Lib.hid ⟨hT1, hT2⟩
  clear hT1 hT2
  by_cases hl : (300 : Int) < s.size
  · go_enter Tryd.func4, Tryd.ntmps4
    go_wp2_with fail
    refine (dalive_any _ HT.out).mono ?_
    rintro e w1 ⟨rfl, hb1⟩
    go_wp2
    go_ret
    exact ⟨rfl, hb1⟩
  have HS : Hid (s.size ≤ 1000000) := Lib.hid (by omega)
  have hl2 : (s.size : Int) ≤ 300 := by omega
  clear hl ws
  cases hr : readO (byL s)
  · have HR := Lib.hid hr
    clear hr
    go_enter Tryd.func4, Tryd.ntmps4
    go_wp2_with fail
    refine (dread_f HS.out HR.out _ HT.out.1).mono ?_
    rintro e w1 ⟨rfl, hb1⟩
    have HB1 := Lib.hid hb1
    have T1 := Lib.hid (HT.out.below hb1)
    clear hb1
    go_wp2_with fail
    refine (rread_f HS.out HR.out _).mono ?_
    rintro e w2 ⟨rfl, hb2⟩
    obtain ⟨hc2, hf2⟩ := fbcell hb2
    have hz2 : w1.heap.size < w2.heap.size := by have := hb2.size; simp only [World.size_alloc] at this; omega
    have HB2 := Lib.hid (fbelow_t (Below.allocL HB1.out _) hb2)
    have T2 := Lib.hid ((T1.out.alloc _).below hb2)
    clear hb2
    go_wp2_with fail
    refine (dalive_any _ (T2.out.alloc _)).mono ?_
    rintro e w4 ⟨rfl, hb4⟩
    go_wp2
    go_ret
    exact ⟨rfl, fbelow_t (Below.allocL HB2.out _) hb4⟩
  · rename_i f
    have HR := Lib.hid hr
    have ed := seq_self f.d
    clear hr
    go_enter Tryd.func4, Tryd.ntmps4
    go_wp2_with fail
    refine (dread_t HS.out HR.out _ HT.out.1).mono ?_
    rintro e w1 ⟨rfl, hb1⟩
    have HB1 := Lib.hid hb1
    have T1 := Lib.hid (HT.out.below hb1)
    clear hb1
    go_wp2_with fail
    refine (rread_t HS.out HR.out _).mono ?_
    rintro e w2 ⟨rfl, hb2⟩
    obtain ⟨hc2, hf2⟩ := fbcell hb2
    have hz2 : w1.heap.size < w2.heap.size := by have := hb2.size; simp only [World.size_alloc] at this; omega
    have HB2 := Lib.hid (fbelow_t (Below.allocL HB1.out _) hb2)
    have T2 := Lib.hid ((T1.out.alloc _).below hb2)
    clear hb2
    go_wp2_with fail
    refine (dalive_any _ (T2.out.alloc _)).mono ?_
    rintro e w4 ⟨rfl, hb4⟩
    go_wp2
    go_ret
    exact ⟨rfl, fbelow_t (Below.allocL HB2.out _) hb4⟩

end Go.Proofs.YtpjlomgiljpadaaDoor
