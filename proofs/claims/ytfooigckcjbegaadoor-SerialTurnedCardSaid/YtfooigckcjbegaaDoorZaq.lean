/- Serial, the code: hear, Hear. Serial: the chapter's example; walks of SerialSends and SerialHears. Serial: walk of SerialHears. Serial: walk of SerialApart. -/
import Derived.Test.YtfooigckcjbegaaDoorZap
import Derived.Test.YtfooigckcjbegaaDoorZam
namespace Go.Proofs.YtfooigckcjbegaaDoor
open Go.RowKit
set_option linter.unusedVariables false

theorem but_set (l o : Nat) (w : World) (u : Value) : But l w (w.setCell ⟨l, o, none⟩ u) := ⟨rfl, rfl, rfl, by simp [World.setCell], fun k _ hk => Below.heap_setCell _ _ _ _ hk⟩
/-- a text that is nobody's -/
def NoSend (s : ByteArray) : Prop := ∀ (i n l : Int) (d : ByteArray), plainF i n l d.size = true → byL s ≠ sendL i n l (byL d)

def zF : Obj := .cells #[.int .i64 0, .int .i64 0, .int .i64 0, .string (ByteArray.mk #[])] 23

set_option maxHeartbeats 4000000 in
theorem khear_t {s d : ByteArray} {i n l : Int} (hp : plainF i n l d.size = true) (hs : byL s = sendL i n l (byL d)) (w : World) (hT : Tabs w) :
    Calls Tryd.prog 25 #[.string s] w fun e w' => e = .returned (.agg #[.int .i64 i, .int .i64 n, .int .i64 l, .string d]) ∧ Below w.heap.size w w' := by
  have HT := Lib.hid hT
  have HP := Lib.hid hp
  have hpp := plain_parts hp
  have HPP := Lib.hid hpp
  have hd8 := hpp.d8
  have hfl : (frameL i n l (byL d)).length ≤ 118 := frame_small (by rw [byL_len]; exact hd8)
  have hsl : s.size ≤ 200 := by
    have := (stuff_len (frameL i n l (byL d))).1
    rw [← byL_len, hs]
    unfold sendL
    rw [List.length_append, show tailL.length = 10 from rfl]
    omega
  have HSZ : Hid (s.size ≤ 1000000) := Lib.hid (by omega)
  obtain ⟨x, hx⟩ : ∃ x, trimS s tailS = x := ⟨_, rfl⟩
  have hxb : byL x = stuffL (frameL i n l (byL d)) := by rw [← hx]; exact trim_tail hs
  have HX : Hid (trimS s (ByteArray.mk #[49, 48, 49, 49, 49, 49, 49, 49, 49, 49]) = x) := Lib.hid hx
  have HXZ : Hid (x.size ≤ 1000000) := Lib.hid (by have := trim_size s tailS; rw [hx] at this; omega)
  have HU : Hid (unL (byL x) = (frameL i n l (byL d), -1)) := Lib.hid (by rw [hxb, un_stuff (frameL_bits ..)])
  obtain ⟨b, hb⟩ : ∃ b, strOfNums (frameL i n l (byL d)) = b := ⟨_, rfl⟩
  have hbb : byL b = frameL i n l (byL d) := by rw [← hb, byL_nums (isBy_bits (frameL_bits ..))]
  have HB : Hid (strOfNums (frameL i n l (byL d), (-1 : Int)).1 = b) := Lib.hid hb
  have HBB : Hid (byL b = headL i n l (byL d) ++ bitsI (checkL (headL i n l (byL d))) 15) := Lib.hid hbb
  have HBQ : Hid (bitsB (byL b) = true) := Lib.hid (by rw [hbb]; exact frameL_bits ..)
  have HS : Hid (strOfNums (sendL i n l (byL d)) = s) := Lib.hid (by rw [← hs, nums_byL])
  have hne : (s.toList != s.toList) = false := by simp
  clear hT hp hs hpp hd8 hfl hsl hx hxb hb hbb
  go_enter Tryd.func25, Tryd.ntmps25
  go_wp2_with fail
  refine (trim_v HX.out HSZ.out _).mono ?_
  rintro e w1 ⟨rfl, rfl⟩
  go_wp2_with fail
  refine (cunstuff_v HU.out HXZ.out _).mono ?_
  rintro e w2 ⟨rfl, hb2⟩
  have HR2 := Lib.hid ((BoxF.made w 0 0 0 (ByteArray.mk #[])).later hb2)
  have HB2 := Lib.hid (fbelow_a _ hb2)
  have HT2 := Lib.hid (HT.out.below HB2.out)
  clear hb2 HT
  unfold unE
  rw [HB.out]
  go_wp2_with fail
  refine (read_is HPP.out HBB.out HBQ.out _).mono ?_
  rintro e w3 ⟨rfl, hb3⟩
  have HR3 := Lib.hid (HR2.out.later hb3)
  have HB3 := Lib.hid (fbelow_t HB2.out hb3)
  have HT3 := Lib.hid (HT2.out.below hb3)
  clear hb3 HT2 HB2 HR2
  have HM := Lib.hid (BoxF.made w3 i n l d)
  have HR4 := Lib.hid (HR3.out.later ((Below.refl _ _).alloc (Nat.le_refl _) (.cells #[.int .i64 i, .int .i64 n, .int .i64 l, .string d] 23)))
  have HB4 := Lib.hid (fbelow_t HB3.out ((Below.refl _ _).alloc (Nat.le_refl _) (.cells #[.int .i64 i, .int .i64 n, .int .i64 l, .string d] 23)))
  have HT4 := Lib.hid (HT3.out.alloc (.cells #[.int .i64 i, .int .i64 n, .int .i64 l, .string d] 23))
  have hlt := HR3.out.lt
  go_wp2_with fail
  refine (ksend_v HP.out HS.out _ HT4.out).mono ?_
  rintro e w5 ⟨rfl, hb5⟩
  have HR5 := Lib.hid (HR4.out.later hb5)
  have HM5 := Lib.hid (HM.out.later hb5)
  have HB5 := Lib.hid (fbelow_t HB4.out hb5)
  clear hb5 HT3 HT4 HB3 HB4 HR3 HR4 HM
  obtain ⟨c0, c1, c2, c3⟩ := HM5.out.cells
  obtain ⟨q0, q1, q2, q3⟩ := HR5.out.cells
  have e0 := HR5.out.liveO 0
  have e1 := HR5.out.liveO 1
  have e2 := HR5.out.liveO 2
  have e3 := HR5.out.liveO 3
  have hne1 : w.heap.size ≠ w3.heap.size := by omega
  have hne2 := hne1.symm
  go_wp2
  obtain ⟨r0, r1, r2, r3⟩ := (HR5.out.put (i' := i) (n' := n) (l' := l) (d' := d)).cells
  exact bodyPost_ret (v := .agg #[.int .i64 i, .int .i64 n, .int .i64 l, .string d]) (by simp [results, Tryd.results25, go_sem, r0, r1, r2, r3]) rfl ⟨rfl, below_set (below_set (below_set (below_set HB5.out (Nat.le_refl _) _) (Nat.le_refl _) _) (Nat.le_refl _) _) (Nat.le_refl _) _⟩

set_option maxHeartbeats 4000000 in
theorem khear_f {s : ByteArray} (h : NoSend s) (hs : s.size ≤ 1000000) (w : World) (hT : Tabs w) :
    Calls Tryd.prog 25 #[.string s] w fun e w' => e = .panicked [wrongE] ∧ Below w.heap.size w w' := by
  have HT := Lib.hid hT
  have H := Lib.hid h
  have HSZ := Lib.hid hs
  obtain ⟨x, hx⟩ : ∃ x, trimS s tailS = x := ⟨_, rfl⟩
  have HX : Hid (trimS s (ByteArray.mk #[49, 48, 49, 49, 49, 49, 49, 49, 49, 49]) = x) := Lib.hid hx
  have HXZ : Hid (x.size ≤ 1000000) := Lib.hid (by have := trim_size s tailS; rw [hx] at this; omega)
  obtain ⟨R, hR⟩ : ∃ R, unL (byL x) = R := ⟨_, rfl⟩
  have HU := Lib.hid hR
  obtain ⟨b, hb⟩ : ∃ b, strOfNums R.1 = b := ⟨_, rfl⟩
  have hbr : bitsB R.1 = true := by rw [← hR]; exact unA_bits _ _ _ _ rfl
  have HB := Lib.hid hb
  have HBQ : Hid (bitsB (byL b) = true) := Lib.hid (by rw [← hb, byL_nums (isBy_bits hbr)]; exact hbr)
  clear hT h hs hx hR hb hbr
  go_enter Tryd.func25, Tryd.ntmps25
  go_wp2_with fail
  refine (trim_v HX.out HSZ.out _).mono ?_
  rintro e w1 ⟨rfl, rfl⟩
  go_wp2_with fail
  refine (cunstuff_v HU.out HXZ.out _).mono ?_
  rintro e w2 ⟨rfl, hb2⟩
  have HB2 := Lib.hid (fbelow_a _ hb2)
  have HT2 := Lib.hid (HT.out.below HB2.out)
  clear hb2 HT
  unfold unE
  rw [HB.out]
  go_wp2_with fail
  refine (read_any HBQ.out _).mono ?_
  rintro e w3 (⟨rfl, hb3⟩ | ⟨i, n, l, d, rfl, hn0, hn3, hb3⟩)
  · have HB3 := Lib.hid (fbelow_t HB2.out hb3)
    clear hb3
    go_wp2
    exact ⟨rfl, rfl, HB3.out⟩
  have HB3 := Lib.hid (fbelow_t HB2.out hb3)
  have HT3 := Lib.hid (HT2.out.below hb3)
  clear hb3 HT2 HB2
  have HM := Lib.hid (BoxF.made w3 i n l d)
  have HB4 := Lib.hid (fbelow_t HB3.out ((Below.refl _ _).alloc (Nat.le_refl _) (.cells #[.int .i64 i, .int .i64 n, .int .i64 l, .string d] 23)))
  have HT4 := Lib.hid (HT3.out.alloc (.cells #[.int .i64 i, .int .i64 n, .int .i64 l, .string d] 23))
  have HN := Lib.hid (And.intro hn0 hn3)
  clear hn0 hn3
  cases hp : plainF i n l d.size
  · have HP := Lib.hid hp
    clear hp
    go_wp2_with fail
    refine (ksend_f HP.out (by have := HN.out.1; omega) (by have := HN.out.2; omega) _ HT4.out).mono ?_
    rintro e w5 ⟨rfl, hb5⟩
    have HB5 := Lib.hid (fbelow_t HB4.out hb5)
    clear hb5
    go_wp2
    exact ⟨rfl, rfl, HB5.out⟩
  · have HP := Lib.hid hp
    obtain ⟨t, ht⟩ : ∃ t, strOfNums (sendL i n l (byL d)) = t := ⟨_, rfl⟩
    have HS := Lib.hid ht
    have hts : t ≠ s := by
      rintro rfl
      exact H.out i n l d hp (by rw [← ht, byL_nums (isBy_bits (sendL_bits ..))])
    have hne : (t.toList == s.toList) = false := by rw [seq_beq, decide_eq_false hts]
    clear hp ht hts
    go_wp2_with fail
    refine (ksend_v HP.out HS.out _ HT4.out).mono ?_
    rintro e w5 ⟨rfl, hb5⟩
    have HB5 := Lib.hid (fbelow_t HB4.out hb5)
    clear hb5
    go_wp2
    exact ⟨rfl, rfl, HB5.out⟩

/-! ### Hear -/
set_option maxHeartbeats 1000000 in
theorem kHear1_t {s d : ByteArray} {i n l : Int} {p r : Nat} (hp : plainF i n l d.size = true) (hs : byL s = sendL i n l (byL d)) (w : World) (hT : Tabs w) (hf : Box w p (.string s) 9) (hr : BoxF w r 0 0 0 (ByteArray.mk #[])) :
    Calls Tryd.prog 24 #[.pointer (some ⟨p, 0, none⟩), .pointer (some ⟨r, 0, none⟩)] w fun e w' => e = .returned (.tuple #[]) ∧ But r w w' ∧ w'.heap[r]? = some (.cells #[.int .i64 i, .int .i64 n, .int .i64 l, .string d] 23 (0, 0)) := by
  have HP := Lib.hid hp
  have HS := Lib.hid hs
  have HT := Lib.hid hT
  have HR := Lib.hid hr
  have c0 := hf.cell
  clear hp hs hT hf hr
  go_enter Tryd.func24, Tryd.ntmps24
  go_wp2_with fail
  refine (khear_t HP.out HS.out _ HT.out).mono ?_
  rintro e w1 ⟨rfl, hb⟩
  have hr1 := HR.out.later hb
  obtain ⟨q0, q1, q2, q3⟩ := hr1.cells
  have e0 := hr1.liveO 0
  have e1 := hr1.liveO 1
  have e2 := hr1.liveO 2
  have e3 := hr1.liveO 3
  have HR1 := Lib.hid hr1
  have HB := Lib.hid (But.of_below (l := r) hb)
  clear hr1 hb
  go_wp2
  go_end0
  exact ⟨rfl, HB.out.trans ((((But.refl r w1).trans (but_set r 0 _ _)).trans (but_set r 1 _ _)).trans ((but_set r 2 _ _).trans (but_set r 3 _ _))), HR1.out.put⟩
theorem kHear1_f {s : ByteArray} {p r : Nat} (h : NoSend s) (hs : s.size ≤ 1000000) (w : World) (hT : Tabs w) (hf : Box w p (.string s) 9) (hr : BoxF w r 0 0 0 (ByteArray.mk #[])) :
    Calls Tryd.prog 24 #[.pointer (some ⟨p, 0, none⟩), .pointer (some ⟨r, 0, none⟩)] w fun e w' => e = .panicked [wrongE] ∧ But r w w' ∧ w'.heap[r]? = some (.cells #[.int .i64 0, .int .i64 0, .int .i64 0, .string (ByteArray.mk #[])] 23 (0, 0)) := by
  have H := Lib.hid h
  have HS := Lib.hid hs
  have HT := Lib.hid hT
  have HR := Lib.hid hr
  have c0 := hf.cell
  clear h hs hT hf hr
  go_enter Tryd.func24, Tryd.ntmps24
  go_wp2_with fail
  refine (khear_f H.out HS.out _ HT.out).mono ?_
  rintro e w1 ⟨rfl, hb⟩
  have HR1 := Lib.hid (HR.out.later hb)
  have HB := Lib.hid (But.of_below (l := r) hb)
  clear hb
  go_wp2
  exact ⟨rfl, rfl, HB.out, HR1.out⟩
theorem made3 (w : World) (s : ByteArray) : Box ((w.alloc (.cells #[.string s] 9)).alloc (.cells #[.int .i64 0, .int .i64 0, .int .i64 0, .string (ByteArray.mk #[])] 23)) w.heap.size (.string s) 9 ∧ BoxF ((w.alloc (.cells #[.string s] 9)).alloc (.cells #[.int .i64 0, .int .i64 0, .int .i64 0, .string (ByteArray.mk #[])] 23)) (w.heap.size + 1) 0 0 0 (ByteArray.mk #[]) ∧ Below w.heap.size w ((w.alloc (.cells #[.string s] 9)).alloc (.cells #[.int .i64 0, .int .i64 0, .int .i64 0, .string (ByteArray.mk #[])] 23)) := by
  refine ⟨(Box.made w (.string s) 9 rfl).alloc _, ?_, ((Below.refl _ w).alloc (Nat.le_refl _) _).alloc (by simp) _⟩
  have := BoxF.made (w.alloc (.cells #[.string s] 9)) 0 0 0 (ByteArray.mk #[])
  simpa using this
set_option maxHeartbeats 2000000 in
theorem kHear_t {s d : ByteArray} {i n l : Int} (hp : plainF i n l d.size = true) (hs : byL s = sendL i n l (byL d)) (w : World) (hT : Tabs w) :
    Calls Tryd.prog 12 #[.string s] w fun e w' => e = .returned (.tuple #[.agg #[.int .i64 i, .int .i64 n, .int .i64 l, .string d], .int .i64 0]) ∧ Below w.heap.size w w' := by
  have hmf : ∀ (fn : Fn) (first cap : Array Value) (w : World), (Instr.makeFunc fn first cap).run Tryd.prog w = .ok (.func fn first cap) w := fun _ _ _ _ => rfl
  have HP := Lib.hid hp
  have HS := Lib.hid hs
  have HM := Lib.hid (made3 w s)
  have HT := Lib.hid (hT.below HM.out.2.2)
  clear hp hs hT
  go_enter Tryd.func12, Tryd.ntmps12
  go_wp2_with fail
  refine (caught_t 24 #[.pointer (some ⟨w.heap.size, 0, none⟩), .pointer (some ⟨w.heap.size + 1, 0, none⟩)] (enters_of Tryd.func24 (by kernel_rfl) rfl) (l := w.heap.size + 1) _ HM.out.2.1.lt (fun w1 hb => kHear1_t HP.out HS.out w1 (HT.out.below hb) (HM.out.1.below hb HM.out.1.lt) (HM.out.2.1.later hb))).mono ?_
  rintro e w1 ⟨rfl, hu, hx⟩
  have hb : BoxF w1 (w.heap.size + 1) i n l d := hx
  obtain ⟨q0, q1, q2, q3⟩ := hb.cells
  have e0 := hb.liveO 0
  have e1 := hb.liveO 1
  have e2 := hb.liveO 2
  have e3 := hb.liveO 3
  have HB := Lib.hid (HM.out.2.2.trans (hu.below (B := w.heap.size) (by omega) HM.out.2.2.size))
  have HX := Lib.hid hb
  clear hu hx hb
  go_wp2
  obtain ⟨r0, r1, r2, r3⟩ := (HX.out.put (i' := i) (n' := n) (l' := l) (d' := d)).cells
  refine bodyPost_ret (v := .tuple #[.agg #[.int .i64 i, .int .i64 n, .int .i64 l, .string d], .int .i64 0]) (by simp [results, Tryd.results12, go_sem, r0, r1, r2, r3]) rfl ⟨rfl, below_set (below_set (below_set (below_set HB.out (Nat.le_succ _) _) (Nat.le_succ _) _) (Nat.le_succ _) _) (Nat.le_succ _) _⟩
set_option maxHeartbeats 2000000 in
theorem kHear_f {s : ByteArray} (h : NoSend s) (hs : s.size ≤ 1000000) (w : World) (hT : Tabs w) :
    Calls Tryd.prog 12 #[.string s] w fun e w' => e = .returned (.tuple #[.agg #[.int .i64 0, .int .i64 0, .int .i64 0, .string (ByteArray.mk #[])], .int .i64 3]) ∧ Below w.heap.size w w' := by
  have hmf : ∀ (fn : Fn) (first cap : Array Value) (w : World), (Instr.makeFunc fn first cap).run Tryd.prog w = .ok (.func fn first cap) w := fun _ _ _ _ => rfl
  have H := Lib.hid h
  have HS := Lib.hid hs
  have HM := Lib.hid (made3 w s)
  have HT := Lib.hid (hT.below HM.out.2.2)
  clear h hs hT
  go_enter Tryd.func12, Tryd.ntmps12
  go_wp2_with fail
  refine (caught_f 24 #[.pointer (some ⟨w.heap.size, 0, none⟩), .pointer (some ⟨w.heap.size + 1, 0, none⟩)] (enters_of Tryd.func24 (by kernel_rfl) rfl) (l := w.heap.size + 1) _ HM.out.2.1.lt (fun w1 hb => kHear1_f H.out HS.out w1 (HT.out.below hb) (HM.out.1.below hb HM.out.1.lt) (HM.out.2.1.later hb))).mono ?_
  rintro e w1 ⟨rfl, hu, hx⟩
  have hb : BoxF w1 (w.heap.size + 1) 0 0 0 (ByteArray.mk #[]) := hx
  obtain ⟨q0, q1, q2, q3⟩ := hb.cells
  have e0 := hb.liveO 0
  have e1 := hb.liveO 1
  have e2 := hb.liveO 2
  have e3 := hb.liveO 3
  have HB := Lib.hid (HM.out.2.2.trans (hu.below (B := w.heap.size) (by omega) HM.out.2.2.size))
  have HX := Lib.hid hb
  clear hu hx hb
  go_wp2
  obtain ⟨r0, r1, r2, r3⟩ := (HX.out.put (i' := 0) (n' := 0) (l' := 0) (d' := ByteArray.mk #[])).cells
  refine bodyPost_ret (v := .tuple #[.agg #[.int .i64 0, .int .i64 0, .int .i64 0, .string (ByteArray.mk #[])], .int .i64 3]) (by simp [results, Tryd.results12, go_sem, r0, r1, r2, r3]) rfl ⟨rfl, below_set (below_set (below_set (below_set HB.out (Nat.le_succ _) _) (Nat.le_succ _) _) (Nat.le_succ _) _) (Nat.le_succ _) _⟩
end Go.Proofs.YtfooigckcjbegaaDoor

namespace Go.Proofs.YtfooigckcjbegaaDoor
open Go.RowKit
set_option linter.unusedVariables false

set_option maxRecDepth 100000 in
theorem ex_head : strOfNums (headL 0 0 0 (byL (ByteArray.mk #[]))) = ByteArray.mk #[48, 48, 48, 48, 48, 48, 48, 48, 48, 48, 48, 48, 48, 48, 48, 48, 48, 48, 48] := by decide +kernel
theorem ex_p0 : plainF 0 0 0 (ByteArray.mk #[]).size = true := by decide +kernel
theorem ex_p1 : plainF 291 0 1 (ByteArray.mk #[65]).size = true := by decide +kernel
theorem sent_by {i n l : Int} {d s : ByteArray} (h : strOfNums (sendL i n l (byL d)) = s) : byL s = sendL i n l (byL d) := by rw [← h, byL_nums (isBy_bits (sendL_bits ..))]

set_option maxHeartbeats 2000000 in
theorem seralive_any (w : World) (hT : Tabs w) : Calls Tryd.prog 11 #[] w fun e w' => e = .returned (.bool true) ∧ Below w.heap.size w w' := by
  have HT := Lib.hid hT
  obtain ⟨s, hs⟩ : ∃ s, strOfNums (sendL 291 0 1 (byL (ByteArray.mk #[65]))) = s := ⟨_, rfl⟩
  have HS := Lib.hid hs
  clear hT hs
  have e1 := seq_self (ByteArray.mk #[48, 48, 48, 48, 48, 48, 48, 48, 48, 48, 48, 48, 48, 48, 48, 48, 48, 48, 48])
  go_enter Tryd.func11, Tryd.ntmps11
  go_wp2_with fail
  refine (kHead_t (i := 0) (n := 0) (l := 0) (d := ByteArray.mk #[]) ex_p0 ex_head _ HT.out).mono ?_
  rintro e w1 ⟨rfl, hb1⟩
  have HB1 := Lib.hid hb1
  clear hb1
  go_wp2_with fail
  refine (kSend_t (i := 291) (n := 0) (l := 1) (d := ByteArray.mk #[65]) ex_p1 HS.out _ (HT.out.below HB1.out)).mono ?_
  rintro e w2 ⟨rfl, hb2⟩
  have HB2 := Lib.hid (fbelow_t HB1.out hb2)
  clear hb2
  go_wp2_with fail
  refine (kHear_t (i := 291) (n := 0) (l := 1) (d := ByteArray.mk #[65]) ex_p1 (sent_by HS.out) _ (HT.out.below HB2.out)).mono ?_
  rintro e w3 ⟨rfl, hb3⟩
  have HB3 := Lib.hid (fbelow_t HB2.out hb3)
  clear hb3
  go_wp2
  go_ret
  exact ⟨rfl, fbelow_t HB3.out ((Below.refl _ _).alloc (Nat.le_refl _) _)⟩

set_option maxHeartbeats 4000000 in
theorem serialSends_walk (i n l : Int) (d : ByteArray) (wi : (Lit.int .i64 i).wf = true) (wn : (Lit.int .i64 n).wf = true) (wl : (Lit.int .i64 l).wf = true) (wd : d.size ≤ maxLen) (w : World) (hT : Tabs w) :
    Calls Tryd.prog 3 #[.agg #[.int .i64 i, .int .i64 n, .int .i64 l, .string d]] w fun e w' => e = .returned (.bool true) ∧ Below w.heap.size w w' := by
  obtain ⟨n0, n1⟩ := Go.bounds_i64 wn
  have HN : Hid (-9223372036854775808 ≤ n ∧ n ≤ 9223372036854775807) := Lib.hid (by omega)
  have HF := Lib.hid (BoxF.made w i n l d)
  have HB0 : Hid (Below w.heap.size w (w.alloc (.cells #[.int .i64 i, .int .i64 n, .int .i64 l, .string d] 23))) := Lib.hid ((Below.refl _ _).alloc (Nat.le_refl _) _)
  have HT := Lib.hid hT
  clear wi wn wl wd n0 n1 hT
  cases hp : plainF i n l d.size
  · have HP := Lib.hid hp
    clear hp
    go_enter Tryd.func3, Tryd.ntmps3
    go_wp2_with fail
    refine (kHead_f HP.out HN.out.1 HN.out.2 _ (HT.out.below HB0.out)).mono ?_
    rintro e w1 ⟨rfl, hb1⟩
    have HF1 := Lib.hid (HF.out.later hb1)
    have HB1 := Lib.hid (fbelow_t HB0.out hb1)
    clear hb1 HF
    obtain ⟨c0, c1, c2, c3⟩ := HF1.out.cells
    go_wp2_with fail
    refine (kSend_f HP.out HN.out.1 HN.out.2 _ (HT.out.below HB1.out)).mono ?_
    rintro e w2 ⟨rfl, hb2⟩
    have HF2 := Lib.hid (HF1.out.later hb2)
    have HB2 := Lib.hid (fbelow_t HB1.out hb2)
    clear hb2 HF1 c0 c1 c2 c3 HB1
    obtain ⟨c0, c1, c2, c3⟩ := HF2.out.cells
    go_wp2_with fail
    refine (kLong_f HP.out HN.out.1 HN.out.2 _ (HT.out.below HB2.out)).mono ?_
    rintro e w3 ⟨rfl, hb3⟩
    have HF3 := Lib.hid (HF2.out.later hb3)
    have HB3 := Lib.hid (fbelow_t HB2.out hb3)
    clear hb3 HF2 c0 c1 c2 c3 HB2
    obtain ⟨c0, c1, c2, c3⟩ := HF3.out.cells
    go_wp2_with fail
    refine (splain_v HP.out _).mono ?_
    rintro e w4 ⟨rfl, hb4⟩
    have HB4 := Lib.hid (fbelow_t HB3.out hb4)
    clear hb4
    go_wp2_with fail
    refine (seralive_any _ (HT.out.below HB4.out)).mono ?_
    rintro e w5 ⟨rfl, hb5⟩
    go_wp2
    go_ret
    exact ⟨rfl, fbelow_t HB4.out hb5⟩
  · have HP := Lib.hid hp
    have HPP := Lib.hid (plain_parts hp)
    obtain ⟨h, hh⟩ : ∃ h, strOfNums (headL i n l (byL d)) = h := ⟨_, rfl⟩
    have HH := Lib.hid hh
    obtain ⟨s, hs⟩ : ∃ s, strOfNums (sendL i n l (byL d)) = s := ⟨_, rfl⟩
    have HS := Lib.hid hs
    have eh := seq_self h
    have es := seq_self s
    have ed := seq_self d
    clear hp hh hs
    go_enter Tryd.func3, Tryd.ntmps3
    go_wp2_with fail
    refine (kHead_t HP.out HH.out _ (HT.out.below HB0.out)).mono ?_
    rintro e w1 ⟨rfl, hb1⟩
    have HF1 := Lib.hid (HF.out.later hb1)
    have HB1 := Lib.hid (fbelow_t HB0.out hb1)
    clear hb1 HF
    obtain ⟨c0, c1, c2, c3⟩ := HF1.out.cells
    go_wp2_with fail
    refine (kSend_t HP.out HS.out _ (HT.out.below HB1.out)).mono ?_
    rintro e w2 ⟨rfl, hb2⟩
    have HF2 := Lib.hid (HF1.out.later hb2)
    have HB2 := Lib.hid (fbelow_t HB1.out hb2)
    clear hb2 HF1 c0 c1 c2 c3 HB1
    obtain ⟨c0, c1, c2, c3⟩ := HF2.out.cells
    go_wp2_with fail
    refine (kLong_t HP.out HS.out _ (HT.out.below HB2.out)).mono ?_
    rintro e w3 ⟨rfl, hb3⟩
    have HF3 := Lib.hid (HF2.out.later hb3)
    have HB3 := Lib.hid (fbelow_t HB2.out hb3)
    clear hb3 HF2 c0 c1 c2 c3 HB2
    obtain ⟨c0, c1, c2, c3⟩ := HF3.out.cells
    go_wp2_with fail
    refine (splain_v HP.out _).mono ?_
    rintro e w4 ⟨rfl, hb4⟩
    have HF4 := Lib.hid (HF3.out.later hb4)
    have HB4 := Lib.hid (fbelow_t HB3.out hb4)
    clear hb4 HF3 c0 c1 c2 c3 HB3
    go_wp2_with fail
    refine (kHear_t HP.out (sent_by HS.out) _ (HT.out.below HB4.out)).mono ?_
    rintro e w5 ⟨rfl, hb5⟩
    have HG := Lib.hid (BoxF.made w5 i n l d)
    have HF5 := Lib.hid ((HF4.out.later hb5).later ((Below.refl _ _).alloc (Nat.le_refl _) (.cells #[.int .i64 i, .int .i64 n, .int .i64 l, .string d] 23)))
    have HB5 := Lib.hid (fbelow_t (fbelow_t HB4.out hb5) ((Below.refl _ _).alloc (Nat.le_refl _) (.cells #[.int .i64 i, .int .i64 n, .int .i64 l, .string d] 23)))
    clear hb5 HF4 HB4
    obtain ⟨c0, c1, c2, c3⟩ := HF5.out.cells
    go_wp2_with fail
    refine (shead_v HPP.out HH.out _).mono ?_
    rintro e w6 ⟨rfl, hb6⟩
    have HG6 := Lib.hid (HG.out.later hb6)
    have HF6 := Lib.hid (HF5.out.later hb6)
    have HB6 := Lib.hid (fbelow_t HB5.out hb6)
    clear hb6 HF5 HG HB5 c0 c1 c2 c3
    obtain ⟨c0, c1, c2, c3⟩ := HF6.out.cells
    go_wp2_with fail
    refine (ssend_v HPP.out HS.out _).mono ?_
    rintro e w7 ⟨rfl, hb7⟩
    have HG7 := Lib.hid (HG6.out.later hb7)
    have HF7 := Lib.hid (HF6.out.later hb7)
    have HB7 := Lib.hid (fbelow_t HB6.out hb7)
    clear hb7 HF6 HG6 HB6 c0 c1 c2 c3
    obtain ⟨c0, c1, c2, c3⟩ := HF7.out.cells
    obtain ⟨g0, g1, g2, g3⟩ := HG7.out.cells
    go_wp2_with fail
    refine (seralive_any _ (HT.out.below HB7.out)).mono ?_
    rintro e w8 ⟨rfl, hb8⟩
    go_wp2
    go_ret
    exact ⟨rfl, fbelow_t HB7.out hb8⟩
end Go.Proofs.YtfooigckcjbegaaDoor

namespace Go.Proofs.YtfooigckcjbegaaDoor
open Go.RowKit
set_option linter.unusedVariables false

set_option maxHeartbeats 4000000 in
theorem serialHears_walk (s : ByteArray) (ws : s.size ≤ maxLen) (w : World) (hT : Tabs w) :
    Calls Tryd.prog 4 #[.string s] w fun e w' => e = .returned (.bool true) ∧ Below w.heap.size w w' := by
  have HT := Lib.hid hT
  clear hT ws
  by_cases hl : (300 : Int) < s.size
  · go_enter Tryd.func4, Tryd.ntmps4
    go_wp2_with fail
    refine (seralive_any _ HT.out).mono ?_
    rintro e w1 ⟨rfl, hb1⟩
    go_wp2
    go_ret
    exact ⟨rfl, hb1⟩
  have HZ : Hid (s.size ≤ 100000) := Lib.hid (by omega)
  by_cases hx : NoSend s
  · have H := Lib.hid hx
    have H2 : Hid (∀ (i n l : Int) (d : ByteArray), plainF i n l d.size = true → sendL i n l (byL d) ≠ byL s) := Lib.hid (fun i n l d h e => hx i n l d h e.symm)
    clear hx
    go_enter Tryd.func4, Tryd.ntmps4
    go_wp2_with fail
    refine (kHear_f H.out (by have := HZ.out; omega) _ HT.out).mono ?_
    rintro e w1 ⟨rfl, hb1⟩
    have HF1 := Lib.hid (BoxF.made w1 0 0 0 (ByteArray.mk #[]))
    have HB1 := Lib.hid (fbelow_t hb1 ((Below.refl _ _).alloc (Nat.le_refl _) (.cells #[.int .i64 0, .int .i64 0, .int .i64 0, .string (ByteArray.mk #[])] 23)))
    clear hb1
    go_wp2_with fail
    refine (shear_f H2.out HZ.out _).mono ?_
    rintro e w2 ⟨rfl, hb2⟩
    have HF2 := Lib.hid ((HF1.out.later hb2).later ((Below.refl _ _).alloc (Nat.le_refl _) (.cells #[.int .i64 0, .int .i64 0, .int .i64 0, .string (ByteArray.mk #[])] 23)))
    have HB2 := Lib.hid (fbelow_t (fbelow_t HB1.out hb2) ((Below.refl _ _).alloc (Nat.le_refl _) (.cells #[.int .i64 0, .int .i64 0, .int .i64 0, .string (ByteArray.mk #[])] 23)))
    clear hb2 HF1 HB1
    obtain ⟨c0, c1, c2, c3⟩ := HF2.out.cells
    go_wp2_with fail
    refine (seralive_any _ (HT.out.below HB2.out)).mono ?_
    rintro e w5 ⟨rfl, hb5⟩
    go_wp2
    go_ret
    exact ⟨rfl, fbelow_t HB2.out hb5⟩
  · have hx2 : ∃ (i n l : Int) (d : ByteArray), plainF i n l d.size = true ∧ byL s = sendL i n l (byL d) := by
      apply Classical.byContradiction
      intro hc
      exact hx fun i n l d h e => hc ⟨i, n, l, d, h, e⟩
    obtain ⟨i, n, l, d, hp, hs⟩ := hx2
    have HP := Lib.hid hp
    have HS := Lib.hid hs
    have HS2 : Hid (strOfNums (sendL i n l (byL d)) = s) := Lib.hid (by rw [← hs, nums_byL])
    have es := seq_self s
    have ed := seq_self d
    clear hx hp hs
    go_enter Tryd.func4, Tryd.ntmps4
    go_wp2_with fail
    refine (kHear_t HP.out HS.out _ HT.out).mono ?_
    rintro e w1 ⟨rfl, hb1⟩
    have HF1 := Lib.hid (BoxF.made w1 i n l d)
    have HB1 := Lib.hid (fbelow_t hb1 ((Below.refl _ _).alloc (Nat.le_refl _) (.cells #[.int .i64 i, .int .i64 n, .int .i64 l, .string d] 23)))
    clear hb1
    go_wp2_with fail
    refine (shear_t HP.out HS2.out _).mono ?_
    rintro e w2 ⟨rfl, hb2⟩
    have HF2 := Lib.hid ((HF1.out.later hb2).later ((Below.refl _ _).alloc (Nat.le_refl _) (.cells #[.int .i64 i, .int .i64 n, .int .i64 l, .string d] 23)))
    have HB2 := Lib.hid (fbelow_t (fbelow_t HB1.out hb2) ((Below.refl _ _).alloc (Nat.le_refl _) (.cells #[.int .i64 i, .int .i64 n, .int .i64 l, .string d] 23)))
    clear hb2 HF1 HB1
    obtain ⟨c0, c1, c2, c3⟩ := HF2.out.cells
    go_wp2_with fail
    refine (kSend_t HP.out HS2.out _ (HT.out.below HB2.out)).mono ?_
    rintro e w3 ⟨rfl, hb3⟩
    have HB3 := Lib.hid (fbelow_t HB2.out hb3)
    clear hb3
    go_wp2_with fail
    refine (seralive_any _ (HT.out.below HB3.out)).mono ?_
    rintro e w5 ⟨rfl, hb5⟩
    go_wp2
    go_ret
    exact ⟨rfl, fbelow_t HB3.out hb5⟩
end Go.Proofs.YtfooigckcjbegaaDoor

namespace Go.Proofs.YtfooigckcjbegaaDoor
open Go.RowKit
set_option linter.unusedVariables false

theorem plain_d8 {i n l : Int} {d : ByteArray} (h : plainF i n l d.size = true) : (d.size : Int) ≤ 8 := by
  have := (plain_parts h).d8
  omega
theorem sent_size {i n l : Int} {d s : ByteArray} (h : strOfNums (sendL i n l (byL d)) = s) : (s.size : Int) = (sendL i n l (byL d)).length := by rw [← byL_len s, sent_by h]
set_option maxHeartbeats 4000000 in
theorem serialApart_walk (i n l : Int) (d : ByteArray) (i' n' l' : Int) (d' : ByteArray) (wi : (Lit.int .i64 i).wf = true) (wn : (Lit.int .i64 n).wf = true) (wl : (Lit.int .i64 l).wf = true) (wd : d.size ≤ maxLen)
    (wi' : (Lit.int .i64 i').wf = true) (wn' : (Lit.int .i64 n').wf = true) (wl' : (Lit.int .i64 l').wf = true) (wd' : d'.size ≤ maxLen) (w : World) (hT : Tabs w) :
    Calls Tryd.prog 5 #[.agg #[.int .i64 i, .int .i64 n, .int .i64 l, .string d], .agg #[.int .i64 i', .int .i64 n', .int .i64 l', .string d']] w fun e w' => e = .returned (.bool true) ∧ Below w.heap.size w w' := by
  obtain ⟨n0, n1⟩ := Go.bounds_i64 wn
  obtain ⟨m0, m1⟩ := Go.bounds_i64 wn'
  have HN : Hid (-9223372036854775808 ≤ n ∧ n ≤ 9223372036854775807) := Lib.hid (by omega)
  have HN' : Hid (-9223372036854775808 ≤ n' ∧ n' ≤ 9223372036854775807) := Lib.hid (by omega)
  have HF := Lib.hid ((BoxF.made w i n l d).later ((Below.refl _ _).alloc (Nat.le_refl _) (.cells #[.int .i64 i', .int .i64 n', .int .i64 l', .string d'] 23)))
  have HG : Hid (BoxF ((w.alloc (.cells #[.int .i64 i, .int .i64 n, .int .i64 l, .string d] 23)).alloc (.cells #[.int .i64 i', .int .i64 n', .int .i64 l', .string d'] 23)) (w.heap.size + 1) i' n' l' d') := Lib.hid (by
    have := BoxF.made (w.alloc (.cells #[.int .i64 i, .int .i64 n, .int .i64 l, .string d] 23)) i' n' l' d'
    simpa using this)
  have HB0 := Lib.hid (((Below.refl w.heap.size w).alloc (Nat.le_refl _) (.cells #[.int .i64 i, .int .i64 n, .int .i64 l, .string d] 23)).alloc (by simp) (.cells #[.int .i64 i', .int .i64 n', .int .i64 l', .string d'] 23))
  have HT := Lib.hid hT
  clear wi wn wl wd n0 n1 hT wi' wn' wl' wd' m0 m1
  have first : ∀ {P : Ending → World → Prop} {s : ByteArray} {x : Int}, True := fun {_} {_} {_} => trivial
  clear first
  cases hp : plainF i n l d.size
  · have HP := Lib.hid hp
    clear hp
    obtain ⟨t, y, HP'⟩ : ∃ (t : ByteArray) (y : Int), Hid (∀ w, Tabs w → Calls Tryd.prog 8 #[.agg #[.int .i64 i', .int .i64 n', .int .i64 l', .string d']] w fun e w' => e = .returned (.tuple #[.string t, .int .i64 y]) ∧ Below w.heap.size w w') ∧ ((y == 0) = true ∨ ((y == 0) = false ∧ t = ByteArray.mk #[])) := by
      cases hq : plainF i' n' l' d'.size
      · exact ⟨_, _, Lib.hid (fun w hT => kSend_f hq HN'.out.1 HN'.out.2 w hT), .inr ⟨rfl, rfl⟩⟩
      · exact ⟨_, _, Lib.hid (fun w hT => kSend_t hq rfl w hT), .inl rfl⟩
    obtain ⟨HQ, hy⟩ := HP'
    go_enter Tryd.func5, Tryd.ntmps5
    go_wp2_with fail
    refine (kSend_f HP.out HN.out.1 HN.out.2 _ (HT.out.below HB0.out)).mono ?_
    rintro e w1 ⟨rfl, hb1⟩
    have HG1 := Lib.hid (HG.out.later hb1)
    have HB1 := Lib.hid (HB0.out.trans (hb1.mono HB0.out.size))
    clear hb1 HG HF
    obtain ⟨c0, c1, c2, c3⟩ := HG1.out.cells
    go_wp2_with fail
    refine (HQ.out _ (HT.out.below HB1.out)).mono ?_
    rintro e w2 ⟨rfl, hb2⟩
    have HB2 := Lib.hid (fbelow_t HB1.out hb2)
    clear hb2 HG1 c0 c1 c2 c3
    rcases hy with hy | ⟨hy, rfl⟩
    · go_wp2_with fail
      refine (seralive_any _ (HT.out.below HB2.out)).mono ?_
      rintro e w5 ⟨rfl, hb5⟩
      go_wp2
      go_ret
      exact ⟨rfl, fbelow_t HB2.out hb5⟩
    · go_wp2_with fail
      refine (seralive_any _ (HT.out.below HB2.out)).mono ?_
      rintro e w5 ⟨rfl, hb5⟩
      go_wp2
      go_ret
      exact ⟨rfl, fbelow_t HB2.out hb5⟩
  · have HP := Lib.hid hp
    obtain ⟨s, hs⟩ : ∃ s, strOfNums (sendL i n l (byL d)) = s := ⟨_, rfl⟩
    have HS := Lib.hid hs
    cases hq : plainF i' n' l' d'.size
    · have HQ := Lib.hid hq
      clear hp hq hs
      go_enter Tryd.func5, Tryd.ntmps5
      go_wp2_with fail
      refine (kSend_t HP.out HS.out _ (HT.out.below HB0.out)).mono ?_
      rintro e w1 ⟨rfl, hb1⟩
      have HG1 := Lib.hid (HG.out.later hb1)
      have HB1 := Lib.hid (HB0.out.trans (hb1.mono HB0.out.size))
      clear hb1 HG HF
      obtain ⟨c0, c1, c2, c3⟩ := HG1.out.cells
      go_wp2_with fail
      refine (kSend_f HQ.out HN'.out.1 HN'.out.2 _ (HT.out.below HB1.out)).mono ?_
      rintro e w2 ⟨rfl, hb2⟩
      have HB2 := Lib.hid (fbelow_t HB1.out hb2)
      clear hb2 HG1 c0 c1 c2 c3
      go_wp2_with fail
      refine (seralive_any _ (HT.out.below HB2.out)).mono ?_
      rintro e w5 ⟨rfl, hb5⟩
      go_wp2
      go_ret
      exact ⟨rfl, fbelow_t HB2.out hb5⟩
    · have HQ := Lib.hid hq
      obtain ⟨t, ht⟩ : ∃ t, strOfNums (sendL i' n' l' (byL d')) = t := ⟨_, rfl⟩
      have HS' := Lib.hid ht
      have hd8 := plain_d8 hp
      have hpp := plain_parts hp
      have hlen := sendL_len i n l (byL d)
      have hsz := sent_size hs
      rw [byL_len] at hlen
      have HE : Hid ((i = i' ∧ n = n' ∧ l = l' ∧ d = d') ∨ ((s.toList == t.toList) = false ∧ ¬ (i = i' ∧ n = n' ∧ l = l' ∧ d = d'))) := Lib.hid (by
        by_cases he : i = i' ∧ n = n' ∧ l = l' ∧ d = d'
        · exact .inl he
        · refine .inr ⟨?_, he⟩
          rw [seq_beq, decide_eq_false]
          rintro rfl
          have h1 := (sent_by hs).symm.trans (sent_by ht)
          obtain ⟨e1, e2, e3, e4⟩ := sendL_inj (by rw [byL_len]; exact plain_parts hp) (by rw [byL_len]; exact plain_parts hq) (byL_by d) (byL_by d') h1
          exact he ⟨e1, e2, e3, byL_inj e4⟩)
      obtain ⟨E, hE⟩ : ∃ E, fE n = E := ⟨_, rfl⟩
      have HEE := Lib.hid hE
      have hn0 := hpp.n0
      have hn63 : n ≤ 63 := by have := hpp.n4; omega
      rw [hE] at hlen
      have HL : Hid ((if E = true then 64 else 44) + 8 * (d.size : Int) ≤ s.size ∧ 4 * ((s.size : Int) - ((if E = true then 64 else 44) + 8 * (d.size : Int))) ≤ (if E = true then 54 else 34) + 8 * (d.size : Int)) := Lib.hid (by
        rw [hsz]
        cases E <;> simp at hlen ⊢ <;> omega)
      clear hp hq hs ht hpp hlen hsz hE
      go_enter Tryd.func5, Tryd.ntmps5
      go_wp2_with fail
      refine (kSend_t HP.out HS.out _ (HT.out.below HB0.out)).mono ?_
      rintro e w1 ⟨rfl, hb1⟩
      have HF1 := Lib.hid (HF.out.later hb1)
      have HG1 := Lib.hid (HG.out.later hb1)
      have HB1 := Lib.hid (HB0.out.trans (hb1.mono HB0.out.size))
      clear hb1 HG HF
      obtain ⟨c0, c1, c2, c3⟩ := HG1.out.cells
      go_wp2_with fail
      refine (kSend_t HQ.out HS'.out _ (HT.out.below HB1.out)).mono ?_
      rintro e w2 ⟨rfl, hb2⟩
      have HF2 := Lib.hid (HF1.out.later hb2)
      have HG2 := Lib.hid (HG1.out.later hb2)
      have HB2 := Lib.hid (fbelow_t HB1.out hb2)
      clear hb2 HG1 HF1 c0 c1 c2 c3
      obtain ⟨c0, c1, c2, c3⟩ := HF2.out.cells
      go_wp2_with fail
      refine (has1 HEE.out hn0 hn63 _ _ _ _).mono ?_
      rintro e w3 ⟨rfl, hb3⟩
      have HF3 := Lib.hid (HF2.out.later hb3)
      have HG3 := Lib.hid (HG2.out.later hb3)
      have HB3 := Lib.hid (fbelow_t HB2.out hb3)
      clear hb3 HG2 HF2 c0 c1 c2 c3
      obtain ⟨c0, c1, c2, c3⟩ := HF3.out.cells
      obtain ⟨g0, g1, g2, g3⟩ := HG3.out.cells
      rcases HE.out with ⟨rfl, rfl, rfl, rfl⟩ | ⟨hst, hne⟩
      · have hst : t = s := by rw [← HS.out, ← HS'.out]
        subst hst
        have es := seq_self t
        have ed := seq_self d
        cases E
        · obtain ⟨l1, l2⟩ := HL.out
          simp only [Bool.false_eq_true, if_false] at l1 l2
          go_wp2_with fail
          refine (seralive_any _ (HT.out.below HB3.out)).mono ?_
          rintro e w5 ⟨rfl, hb5⟩
          go_wp2
          go_ret
          exact ⟨rfl, fbelow_t HB3.out hb5⟩
        · obtain ⟨l1, l2⟩ := HL.out
          simp only [if_true] at l1 l2
          go_wp2_with fail
          refine (seralive_any _ (HT.out.below HB3.out)).mono ?_
          rintro e w5 ⟨rfl, hb5⟩
          go_wp2
          go_ret
          exact ⟨rfl, fbelow_t HB3.out hb5⟩
      · have hp4 : (¬ i = i') ∨ (i = i' ∧ ¬ n = n') ∨ (i = i' ∧ n = n' ∧ ¬ l = l') ∨ (i = i' ∧ n = n' ∧ l = l' ∧ ¬ d.toList = d'.toList) := by
          by_cases e1 : i = i'
          · by_cases e2 : n = n'
            · by_cases e3 : l = l'
              · refine .inr (.inr (.inr ⟨e1, e2, e3, fun e => hne ⟨e1, e2, e3, ?_⟩⟩))
                have := seq_beq d d'
                rw [e] at this
                simpa using this.symm
              · exact .inr (.inr (.inl ⟨e1, e2, e3⟩))
            · exact .inr (.inl ⟨e1, e2⟩)
          · exact .inl e1
        clear hne HE
        cases E
        · obtain ⟨l1, l2⟩ := HL.out
          simp only [Bool.false_eq_true, if_false] at l1 l2
          rcases hp4 with hi | ⟨rfl, hi⟩ | ⟨rfl, rfl, hi⟩ | ⟨rfl, rfl, rfl, hi⟩
          · go_wp2_with fail
            refine (seralive_any _ (HT.out.below HB3.out)).mono ?_
            rintro e w5 ⟨rfl, hb5⟩
            go_wp2
            go_ret
            exact ⟨rfl, fbelow_t HB3.out hb5⟩
          · go_wp2_with fail
            refine (seralive_any _ (HT.out.below HB3.out)).mono ?_
            rintro e w5 ⟨rfl, hb5⟩
            go_wp2
            go_ret
            exact ⟨rfl, fbelow_t HB3.out hb5⟩
          · go_wp2_with fail
            refine (seralive_any _ (HT.out.below HB3.out)).mono ?_
            rintro e w5 ⟨rfl, hb5⟩
            go_wp2
            go_ret
            exact ⟨rfl, fbelow_t HB3.out hb5⟩
          · go_wp2_with fail
            refine (seralive_any _ (HT.out.below HB3.out)).mono ?_
            rintro e w5 ⟨rfl, hb5⟩
            go_wp2
            go_ret
            exact ⟨rfl, fbelow_t HB3.out hb5⟩
        · obtain ⟨l1, l2⟩ := HL.out
          simp only [if_true] at l1 l2
          rcases hp4 with hi | ⟨rfl, hi⟩ | ⟨rfl, rfl, hi⟩ | ⟨rfl, rfl, rfl, hi⟩
          · go_wp2_with fail
            refine (seralive_any _ (HT.out.below HB3.out)).mono ?_
            rintro e w5 ⟨rfl, hb5⟩
            go_wp2
            go_ret
            exact ⟨rfl, fbelow_t HB3.out hb5⟩
          · go_wp2_with fail
            refine (seralive_any _ (HT.out.below HB3.out)).mono ?_
            rintro e w5 ⟨rfl, hb5⟩
            go_wp2
            go_ret
            exact ⟨rfl, fbelow_t HB3.out hb5⟩
          · go_wp2_with fail
            refine (seralive_any _ (HT.out.below HB3.out)).mono ?_
            rintro e w5 ⟨rfl, hb5⟩
            go_wp2
            go_ret
            exact ⟨rfl, fbelow_t HB3.out hb5⟩
          · go_wp2_with fail
            refine (seralive_any _ (HT.out.below HB3.out)).mono ?_
            rintro e w5 ⟨rfl, hb5⟩
            go_wp2
            go_ret
            exact ⟨rfl, fbelow_t HB3.out hb5⟩
end Go.Proofs.YtfooigckcjbegaaDoor
