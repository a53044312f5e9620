/- Serial, the code: Head, Send, Long. Serial, the code: a reader of bits. Serial, the code: what read holds while it reads. Serial, the code: read. -/
import Derived.Test.YtfooigckcjbegaaDoorZan
import Derived.Test.YtfooigckcjbegaaDoorZaj
import Derived.Test.YtfooigckcjbegaaDoorZai
import Derived.RegionDies
namespace Go.Proofs.YtfooigckcjbegaaDoor
open Go.RowKit
set_option linter.unusedVariables false

theorem made2 (w : World) (i n l : Int) (d : ByteArray) (v : Value) (t : TypeId) : BoxF ((w.alloc (.cells #[.int .i64 i, .int .i64 n, .int .i64 l, .string d] 23)).alloc (.cells #[v] t)) w.heap.size i n l d ∧ Box ((w.alloc (.cells #[.int .i64 i, .int .i64 n, .int .i64 l, .string d] 23)).alloc (.cells #[v] t)) (w.heap.size + 1) v t ∧ Below w.heap.size w ((w.alloc (.cells #[.int .i64 i, .int .i64 n, .int .i64 l, .string d] 23)).alloc (.cells #[v] t)) :=
  ⟨(BoxF.made w i n l d).later ((Below.refl _ _).alloc (Nat.le_refl _) _), Box.made _ _ _ (by simp), ((Below.refl _ w).alloc (Nat.le_refl _) _).alloc (by simp) _⟩
set_option maxHeartbeats 1000000 in
theorem kHead1_t {i n l : Int} {d t : ByteArray} {b s : Nat} {u : Value} (hp : plainF i n l d.size = true) (h : strOfNums (headL i n l (byL d)) = t) (w : World) (hT : Tabs w) (hf : BoxF w b i n l d) (hs : Box w s u 9) :
    Calls Tryd.prog 18 #[.pointer (some ⟨b, 0, none⟩), .pointer (some ⟨s, 0, none⟩)] w fun e w' => e = .returned (.tuple #[]) ∧ But s w w' ∧ w'.heap[s]? = some (.cells #[.string t] 9 (0, 0)) := by
  have HP := Lib.hid hp
  have H := Lib.hid h
  have HT := Lib.hid hT
  have HS := Lib.hid hs
  obtain ⟨c0, c1, c2, c3⟩ := hf.cells
  clear hp h hT hs hf
  go_enter Tryd.func18, Tryd.ntmps18
  go_wp2_with fail
  refine (khead_v HP.out H.out _ HT.out).mono ?_
  rintro e w1 ⟨rfl, hb⟩
  have hs1 := HS.out.below hb HS.out.lt
  have k1 := hs1.cell
  have k2 := hs1.live
  have HS1 := Lib.hid hs1
  have HB := Lib.hid hb
  clear hs1 hb
  go_wp2
  go_end0
  exact ⟨rfl, (But.of_below HB.out).trans (But.set s _ _), HS1.out.set _⟩
theorem kHead1_f {i n l : Int} {d : ByteArray} {b s : Nat} {u : Value} (h : plainF i n l d.size = false) (hn1 : -9223372036854775808 ≤ n) (hn2 : n ≤ 9223372036854775807) (w : World) (hT : Tabs w) (hf : BoxF w b i n l d) (hs : Box w s u 9) :
    Calls Tryd.prog 18 #[.pointer (some ⟨b, 0, none⟩), .pointer (some ⟨s, 0, none⟩)] w fun e w' => e = .panicked [wrongE] ∧ But s w w' ∧ w'.heap[s]? = some (.cells #[u] 9 (0, 0)) := by
  have H := Lib.hid h
  have HN := Lib.hid (And.intro hn1 hn2)
  have HT := Lib.hid hT
  have HS := Lib.hid hs
  obtain ⟨c0, c1, c2, c3⟩ := hf.cells
  clear h hT hs hf hn1 hn2
  unfold wrongE
  go_enter Tryd.func18, Tryd.ntmps18
  go_wp2_with fail
  refine (khead_f H.out HN.out.1 HN.out.2 _ HT.out).mono ?_
  unfold wrongE
  rintro e w1 ⟨rfl, hb⟩
  have HS1 := Lib.hid (HS.out.below hb HS.out.lt)
  have HB := Lib.hid (But.of_below (l := s) hb)
  clear hb
  go_wp2
  exact ⟨rfl, rfl, HB.out, HS1.out⟩
set_option maxHeartbeats 2000000 in
theorem kHead_t {i n l : Int} {d t : ByteArray} (hp : plainF i n l d.size = true) (h : strOfNums (headL i n l (byL d)) = t) (w : World) (hT : Tabs w) :
    Calls Tryd.prog 7 #[.agg #[.int .i64 i, .int .i64 n, .int .i64 l, .string d]] w fun e w' => e = .returned (.tuple #[.string t, .int .i64 0]) ∧ Below w.heap.size w w' := by
  have hmf : ∀ (fn : Fn) (first cap : Array Value) (w : World), (Instr.makeFunc fn first cap).run Tryd.prog w = .ok (.func fn first cap) w := fun _ _ _ _ => rfl
  have HP := Lib.hid hp
  have H := Lib.hid h
  have HM := Lib.hid (made2 w i n l d (.string (ByteArray.mk #[])) 9)
  have HT := Lib.hid (hT.below HM.out.2.2)
  clear hp h hT
  go_enter Tryd.func7, Tryd.ntmps7
  go_wp2_with fail
  refine (caught_t 18 #[.pointer (some ⟨w.heap.size, 0, none⟩), .pointer (some ⟨w.heap.size + 1, 0, none⟩)] (enters_of Tryd.func18 (by kernel_rfl) rfl) (l := w.heap.size + 1) _ HM.out.2.1.lt (fun w1 hb => kHead1_t HP.out H.out w1 (HT.out.below hb) (HM.out.1.later hb) (HM.out.2.1.below hb HM.out.2.1.lt))).mono ?_
  rintro e w1 ⟨rfl, hu, hx⟩
  have hb : Box w1 (w.heap.size + 1) (.string t) 9 := hx
  have k1 := hb.cell
  have k2 := hb.live
  have HB := Lib.hid (HM.out.2.2.trans (hu.below (B := w.heap.size) (by omega) HM.out.2.2.size))
  have HX := Lib.hid hb
  clear hu hx hb
  go_wp2
  have k3 := (HX.out.set (.string t)).cell
  refine bodyPost_ret (v := _) (by simp [results, Tryd.results7, go_sem, k3]) rfl ⟨rfl, (Upd.setL _ _ _ _).below HB.out (Nat.le_succ _) (Nat.le_succ _)⟩
set_option maxHeartbeats 2000000 in
theorem kHead_f {i n l : Int} {d : ByteArray} (h : plainF i n l d.size = false) (hn1 : -9223372036854775808 ≤ n) (hn2 : n ≤ 9223372036854775807) (w : World) (hT : Tabs w) :
    Calls Tryd.prog 7 #[.agg #[.int .i64 i, .int .i64 n, .int .i64 l, .string d]] w fun e w' => e = .returned (.tuple #[.string (ByteArray.mk #[]), .int .i64 4]) ∧ Below w.heap.size w w' := by
  have hmf : ∀ (fn : Fn) (first cap : Array Value) (w : World), (Instr.makeFunc fn first cap).run Tryd.prog w = .ok (.func fn first cap) w := fun _ _ _ _ => rfl
  have H := Lib.hid h
  have HN := Lib.hid (And.intro hn1 hn2)
  have HM := Lib.hid (made2 w i n l d (.string (ByteArray.mk #[])) 9)
  have HT := Lib.hid (hT.below HM.out.2.2)
  clear h hT hn1 hn2
  go_enter Tryd.func7, Tryd.ntmps7
  go_wp2_with fail
  refine (caught_f 18 #[.pointer (some ⟨w.heap.size, 0, none⟩), .pointer (some ⟨w.heap.size + 1, 0, none⟩)] (enters_of Tryd.func18 (by kernel_rfl) rfl) (l := w.heap.size + 1) _ HM.out.2.1.lt (fun w1 hb => kHead1_f H.out HN.out.1 HN.out.2 w1 (HT.out.below hb) (HM.out.1.later hb) (HM.out.2.1.below hb HM.out.2.1.lt))).mono ?_
  rintro e w1 ⟨rfl, hu, hx⟩
  have hb : Box w1 (w.heap.size + 1) (.string (ByteArray.mk #[])) 9 := hx
  have k1 := hb.cell
  have k2 := hb.live
  have HB := Lib.hid (HM.out.2.2.trans (hu.below (B := w.heap.size) (by omega) HM.out.2.2.size))
  have HX := Lib.hid hb
  clear hu hx hb
  go_wp2
  have k3 := (HX.out.set (.string (ByteArray.mk #[]))).cell
  refine bodyPost_ret (v := _) (by simp [results, Tryd.results7, go_sem, k3]) rfl ⟨rfl, (Upd.setL _ _ _ _).below HB.out (Nat.le_succ _) (Nat.le_succ _)⟩

set_option maxHeartbeats 1000000 in
theorem kSend1_t {i n l : Int} {d t : ByteArray} {b s : Nat} {u : Value} (hp : plainF i n l d.size = true) (h : strOfNums (sendL i n l (byL d)) = t) (w : World) (hT : Tabs w) (hf : BoxF w b i n l d) (hs : Box w s u 9) :
    Calls Tryd.prog 20 #[.pointer (some ⟨b, 0, none⟩), .pointer (some ⟨s, 0, none⟩)] w fun e w' => e = .returned (.tuple #[]) ∧ But s w w' ∧ w'.heap[s]? = some (.cells #[.string t] 9 (0, 0)) := by
  have HP := Lib.hid hp
  have H := Lib.hid h
  have HT := Lib.hid hT
  have HS := Lib.hid hs
  obtain ⟨c0, c1, c2, c3⟩ := hf.cells
  clear hp h hT hs hf
  go_enter Tryd.func20, Tryd.ntmps20
  go_wp2_with fail
  refine (ksend_v HP.out H.out _ HT.out).mono ?_
  rintro e w1 ⟨rfl, hb⟩
  have hs1 := HS.out.below hb HS.out.lt
  have k1 := hs1.cell
  have k2 := hs1.live
  have HS1 := Lib.hid hs1
  have HB := Lib.hid hb
  clear hs1 hb
  go_wp2
  go_end0
  exact ⟨rfl, (But.of_below HB.out).trans (But.set s _ _), HS1.out.set _⟩
theorem kSend1_f {i n l : Int} {d : ByteArray} {b s : Nat} {u : Value} (h : plainF i n l d.size = false) (hn1 : -9223372036854775808 ≤ n) (hn2 : n ≤ 9223372036854775807) (w : World) (hT : Tabs w) (hf : BoxF w b i n l d) (hs : Box w s u 9) :
    Calls Tryd.prog 20 #[.pointer (some ⟨b, 0, none⟩), .pointer (some ⟨s, 0, none⟩)] w fun e w' => e = .panicked [wrongE] ∧ But s w w' ∧ w'.heap[s]? = some (.cells #[u] 9 (0, 0)) := by
  have H := Lib.hid h
  have HN := Lib.hid (And.intro hn1 hn2)
  have HT := Lib.hid hT
  have HS := Lib.hid hs
  obtain ⟨c0, c1, c2, c3⟩ := hf.cells
  clear h hT hs hf hn1 hn2
  unfold wrongE
  go_enter Tryd.func20, Tryd.ntmps20
  go_wp2_with fail
  refine (ksend_f H.out HN.out.1 HN.out.2 _ HT.out).mono ?_
  unfold wrongE
  rintro e w1 ⟨rfl, hb⟩
  have HS1 := Lib.hid (HS.out.below hb HS.out.lt)
  have HB := Lib.hid (But.of_below (l := s) hb)
  clear hb
  go_wp2
  exact ⟨rfl, rfl, HB.out, HS1.out⟩
set_option maxHeartbeats 2000000 in
theorem kSend_t {i n l : Int} {d t : ByteArray} (hp : plainF i n l d.size = true) (h : strOfNums (sendL i n l (byL d)) = t) (w : World) (hT : Tabs w) :
    Calls Tryd.prog 8 #[.agg #[.int .i64 i, .int .i64 n, .int .i64 l, .string d]] w fun e w' => e = .returned (.tuple #[.string t, .int .i64 0]) ∧ Below w.heap.size w w' := by
  have hmf : ∀ (fn : Fn) (first cap : Array Value) (w : World), (Instr.makeFunc fn first cap).run Tryd.prog w = .ok (.func fn first cap) w := fun _ _ _ _ => rfl
  have HP := Lib.hid hp
  have H := Lib.hid h
  have HM := Lib.hid (made2 w i n l d (.string (ByteArray.mk #[])) 9)
  have HT := Lib.hid (hT.below HM.out.2.2)
  clear hp h hT
  go_enter Tryd.func8, Tryd.ntmps8
  go_wp2_with fail
  refine (caught_t 20 #[.pointer (some ⟨w.heap.size, 0, none⟩), .pointer (some ⟨w.heap.size + 1, 0, none⟩)] (enters_of Tryd.func20 (by kernel_rfl) rfl) (l := w.heap.size + 1) _ HM.out.2.1.lt (fun w1 hb => kSend1_t HP.out H.out w1 (HT.out.below hb) (HM.out.1.later hb) (HM.out.2.1.below hb HM.out.2.1.lt))).mono ?_
  rintro e w1 ⟨rfl, hu, hx⟩
  have hb : Box w1 (w.heap.size + 1) (.string t) 9 := hx
  have k1 := hb.cell
  have k2 := hb.live
  have HB := Lib.hid (HM.out.2.2.trans (hu.below (B := w.heap.size) (by omega) HM.out.2.2.size))
  have HX := Lib.hid hb
  clear hu hx hb
  go_wp2
  have k3 := (HX.out.set (.string t)).cell
  refine bodyPost_ret (v := _) (by simp [results, Tryd.results8, go_sem, k3]) rfl ⟨rfl, (Upd.setL _ _ _ _).below HB.out (Nat.le_succ _) (Nat.le_succ _)⟩
set_option maxHeartbeats 2000000 in
theorem kSend_f {i n l : Int} {d : ByteArray} (h : plainF i n l d.size = false) (hn1 : -9223372036854775808 ≤ n) (hn2 : n ≤ 9223372036854775807) (w : World) (hT : Tabs w) :
    Calls Tryd.prog 8 #[.agg #[.int .i64 i, .int .i64 n, .int .i64 l, .string d]] w fun e w' => e = .returned (.tuple #[.string (ByteArray.mk #[]), .int .i64 4]) ∧ Below w.heap.size w w' := by
  have hmf : ∀ (fn : Fn) (first cap : Array Value) (w : World), (Instr.makeFunc fn first cap).run Tryd.prog w = .ok (.func fn first cap) w := fun _ _ _ _ => rfl
  have H := Lib.hid h
  have HN := Lib.hid (And.intro hn1 hn2)
  have HM := Lib.hid (made2 w i n l d (.string (ByteArray.mk #[])) 9)
  have HT := Lib.hid (hT.below HM.out.2.2)
  clear h hT hn1 hn2
  go_enter Tryd.func8, Tryd.ntmps8
  go_wp2_with fail
  refine (caught_f 20 #[.pointer (some ⟨w.heap.size, 0, none⟩), .pointer (some ⟨w.heap.size + 1, 0, none⟩)] (enters_of Tryd.func20 (by kernel_rfl) rfl) (l := w.heap.size + 1) _ HM.out.2.1.lt (fun w1 hb => kSend1_f H.out HN.out.1 HN.out.2 w1 (HT.out.below hb) (HM.out.1.later hb) (HM.out.2.1.below hb HM.out.2.1.lt))).mono ?_
  rintro e w1 ⟨rfl, hu, hx⟩
  have hb : Box w1 (w.heap.size + 1) (.string (ByteArray.mk #[])) 9 := hx
  have k1 := hb.cell
  have k2 := hb.live
  have HB := Lib.hid (HM.out.2.2.trans (hu.below (B := w.heap.size) (by omega) HM.out.2.2.size))
  have HX := Lib.hid hb
  clear hu hx hb
  go_wp2
  have k3 := (HX.out.set (.string (ByteArray.mk #[]))).cell
  refine bodyPost_ret (v := _) (by simp [results, Tryd.results8, go_sem, k3]) rfl ⟨rfl, (Upd.setL _ _ _ _).below HB.out (Nat.le_succ _) (Nat.le_succ _)⟩

set_option maxHeartbeats 1000000 in
theorem kLong1_t {i n l : Int} {d t : ByteArray} {b s : Nat} {u : Value} (hp : plainF i n l d.size = true) (h : strOfNums (sendL i n l (byL d)) = t) (w : World) (hT : Tabs w) (hf : BoxF w b i n l d) (hs : Box w s u 3) :
    Calls Tryd.prog 22 #[.pointer (some ⟨b, 0, none⟩), .pointer (some ⟨s, 0, none⟩)] w fun e w' => e = .returned (.tuple #[]) ∧ But s w w' ∧ w'.heap[s]? = some (.cells #[.int .i64 (t.size : Int)] 3 (0, 0)) := by
  have HP := Lib.hid hp
  have H := Lib.hid h
  have HT := Lib.hid hT
  have HS := Lib.hid hs
  obtain ⟨c0, c1, c2, c3⟩ := hf.cells
  clear hp h hT hs hf
  go_enter Tryd.func22, Tryd.ntmps22
  go_wp2_with fail
  refine (ksend_v HP.out H.out _ HT.out).mono ?_
  rintro e w1 ⟨rfl, hb⟩
  have hs1 := HS.out.below hb HS.out.lt
  have k1 := hs1.cell
  have k2 := hs1.live
  have HS1 := Lib.hid hs1
  have HB := Lib.hid hb
  clear hs1 hb
  go_wp2
  go_end0
  exact ⟨rfl, (But.of_below HB.out).trans (But.set s _ _), HS1.out.set _⟩
theorem kLong1_f {i n l : Int} {d : ByteArray} {b s : Nat} {u : Value} (h : plainF i n l d.size = false) (hn1 : -9223372036854775808 ≤ n) (hn2 : n ≤ 9223372036854775807) (w : World) (hT : Tabs w) (hf : BoxF w b i n l d) (hs : Box w s u 3) :
    Calls Tryd.prog 22 #[.pointer (some ⟨b, 0, none⟩), .pointer (some ⟨s, 0, none⟩)] w fun e w' => e = .panicked [wrongE] ∧ But s w w' ∧ w'.heap[s]? = some (.cells #[u] 3 (0, 0)) := by
  have H := Lib.hid h
  have HN := Lib.hid (And.intro hn1 hn2)
  have HT := Lib.hid hT
  have HS := Lib.hid hs
  obtain ⟨c0, c1, c2, c3⟩ := hf.cells
  clear h hT hs hf hn1 hn2
  unfold wrongE
  go_enter Tryd.func22, Tryd.ntmps22
  go_wp2_with fail
  refine (ksend_f H.out HN.out.1 HN.out.2 _ HT.out).mono ?_
  unfold wrongE
  rintro e w1 ⟨rfl, hb⟩
  have HS1 := Lib.hid (HS.out.below hb HS.out.lt)
  have HB := Lib.hid (But.of_below (l := s) hb)
  clear hb
  go_wp2
  exact ⟨rfl, rfl, HB.out, HS1.out⟩
set_option maxHeartbeats 2000000 in
theorem kLong_t {i n l : Int} {d t : ByteArray} (hp : plainF i n l d.size = true) (h : strOfNums (sendL i n l (byL d)) = t) (w : World) (hT : Tabs w) :
    Calls Tryd.prog 9 #[.agg #[.int .i64 i, .int .i64 n, .int .i64 l, .string d]] w fun e w' => e = .returned (.tuple #[.int .i64 t.size, .int .i64 0]) ∧ Below w.heap.size w w' := by
  have hmf : ∀ (fn : Fn) (first cap : Array Value) (w : World), (Instr.makeFunc fn first cap).run Tryd.prog w = .ok (.func fn first cap) w := fun _ _ _ _ => rfl
  have HP := Lib.hid hp
  have H := Lib.hid h
  have HM := Lib.hid (made2 w i n l d (.int .i64 0) 3)
  have HT := Lib.hid (hT.below HM.out.2.2)
  clear hp h hT
  go_enter Tryd.func9, Tryd.ntmps9
  go_wp2_with fail
  refine (caught_t 22 #[.pointer (some ⟨w.heap.size, 0, none⟩), .pointer (some ⟨w.heap.size + 1, 0, none⟩)] (enters_of Tryd.func22 (by kernel_rfl) rfl) (l := w.heap.size + 1) _ HM.out.2.1.lt (fun w1 hb => kLong1_t HP.out H.out w1 (HT.out.below hb) (HM.out.1.later hb) (HM.out.2.1.below hb HM.out.2.1.lt))).mono ?_
  rintro e w1 ⟨rfl, hu, hx⟩
  have hb : Box w1 (w.heap.size + 1) (.int .i64 t.size) 3 := hx
  have k1 := hb.cell
  have k2 := hb.live
  have HB := Lib.hid (HM.out.2.2.trans (hu.below (B := w.heap.size) (by omega) HM.out.2.2.size))
  have HX := Lib.hid hb
  clear hu hx hb
  go_wp2
  have k3 := (HX.out.set (.int .i64 t.size)).cell
  refine bodyPost_ret (v := _) (by simp [results, Tryd.results9, go_sem, k3]) rfl ⟨rfl, (Upd.setL _ _ _ _).below HB.out (Nat.le_succ _) (Nat.le_succ _)⟩
set_option maxHeartbeats 2000000 in
theorem kLong_f {i n l : Int} {d : ByteArray} (h : plainF i n l d.size = false) (hn1 : -9223372036854775808 ≤ n) (hn2 : n ≤ 9223372036854775807) (w : World) (hT : Tabs w) :
    Calls Tryd.prog 9 #[.agg #[.int .i64 i, .int .i64 n, .int .i64 l, .string d]] w fun e w' => e = .returned (.tuple #[.int .i64 0, .int .i64 4]) ∧ Below w.heap.size w w' := by
  have hmf : ∀ (fn : Fn) (first cap : Array Value) (w : World), (Instr.makeFunc fn first cap).run Tryd.prog w = .ok (.func fn first cap) w := fun _ _ _ _ => rfl
  have H := Lib.hid h
  have HN := Lib.hid (And.intro hn1 hn2)
  have HM := Lib.hid (made2 w i n l d (.int .i64 0) 3)
  have HT := Lib.hid (hT.below HM.out.2.2)
  clear h hT hn1 hn2
  go_enter Tryd.func9, Tryd.ntmps9
  go_wp2_with fail
  refine (caught_f 22 #[.pointer (some ⟨w.heap.size, 0, none⟩), .pointer (some ⟨w.heap.size + 1, 0, none⟩)] (enters_of Tryd.func22 (by kernel_rfl) rfl) (l := w.heap.size + 1) _ HM.out.2.1.lt (fun w1 hb => kLong1_f H.out HN.out.1 HN.out.2 w1 (HT.out.below hb) (HM.out.1.later hb) (HM.out.2.1.below hb HM.out.2.1.lt))).mono ?_
  rintro e w1 ⟨rfl, hu, hx⟩
  have hb : Box w1 (w.heap.size + 1) (.int .i64 0) 3 := hx
  have k1 := hb.cell
  have k2 := hb.live
  have HB := Lib.hid (HM.out.2.2.trans (hu.below (B := w.heap.size) (by omega) HM.out.2.2.size))
  have HX := Lib.hid hb
  clear hu hx hb
  go_wp2
  have k3 := (HX.out.set (.int .i64 0)).cell
  refine bodyPost_ret (v := _) (by simp [results, Tryd.results9, go_sem, k3]) rfl ⟨rfl, (Upd.setL _ _ _ _).below HB.out (Nat.le_succ _) (Nat.le_succ _)⟩

end Go.Proofs.YtfooigckcjbegaaDoor

namespace Go.Proofs.YtfooigckcjbegaaDoor
open Go.RowKit
set_option linter.unusedVariables false

/-- what a reader has left -/
def RdSt (b : ByteArray) (k p : Nat) (w : World) : Prop := p ≤ b.size ∧ Box w k (.string (strOfNums ((byL b).drop p))) 9
theorem rest_by (b : ByteArray) (p : Nat) : byL (strOfNums ((byL b).drop p)) = (byL b).drop p := byL_nums (fun x hx => byL_by b x (List.mem_of_mem_drop hx))
theorem rest_size (b : ByteArray) (p : Nat) : (strOfNums ((byL b).drop p)).size = b.size - p := by rw [numsz, List.length_drop, byL_len]
theorem cut_head {s : ByteArray} {k : Nat} (h : k ≤ s.size) (w : World) : (Instr.sliceAt 9 (.string s) none (some (.int .i64 (k : Int))) none).run Tryd.prog w = .ok (.string (s.extract 0 k)) w := by
  have e2 : (k : Int) ≤ (s.size : Int) := by omega
  simp [go_sem, e2]
theorem cut_tail {s : ByteArray} {k : Nat} (h : k ≤ s.size) (w : World) : (Instr.sliceAt 9 (.string s) (some (.int .i64 (k : Int))) none none).run Tryd.prog w = .ok (.string (s.extract k s.size)) w := by
  have e2 : (k : Int) ≤ (s.size : Int) := by omega
  simp [go_sem, e2]
def readV (k : Nat) : Value := .func (.func 72) #[] #[.pointer (some ⟨k, 0, none⟩)]
theorem reader_v (b : ByteArray) (w : World) : Calls Tryd.prog 64 #[.string b] w fun e w' => e = .returned (readV w.heap.size) ∧ Below w.heap.size w w' ∧ RdSt b w.heap.size 0 w' ∧ w.heap.size < w'.heap.size := by
  have hmf : ∀ (fn : Fn) (first cap : Array Value) (w : World), (Instr.makeFunc fn first cap).run Tryd.prog w = .ok (.func fn first cap) w := fun _ _ _ _ => rfl
  go_enter Tryd.func64, Tryd.ntmps64
  go_wp2
  go_ret
  refine ⟨rfl, (Below.refl _ _).alloc (Nat.le_refl _) _, ⟨Nat.zero_le _, ?_⟩, by simp⟩
  rw [List.drop_zero, nums_byL]
  exact Box.made _ _ _ rfl

set_option maxHeartbeats 2000000 in
theorem take_f {b : ByteArray} {k p : Nat} {m : Int} (hm : (b.size : Int) < p + m) (w : World) (h : RdSt b k p w) :
    Calls Tryd.prog 72 #[.int .i64 m, .pointer (some ⟨k, 0, none⟩)] w fun e w' => e = .panicked [wrongE] ∧ w = w' := by
  obtain ⟨h1, h2⟩ := h
  have hz := rest_size b p
  generalize strOfNums ((byL b).drop p) = x at h2 hz
  have c1 := h2.cell
  have hl : (x.size : Int) < m := by omega
  clear h1 h2 hz hm
  unfold wrongE
  go_enter Tryd.func72, Tryd.ntmps72
  go_wp2
  exact ⟨rfl, rfl, rfl⟩

set_option maxHeartbeats 2000000 in
theorem take_t {b : ByteArray} {k p m : Nat} {v : Int} (hv : numAt (byL b) p m = v) (hb : bitsB (byL b) = true) (hm60 : m ≤ 60) (hm : p + m ≤ b.size) (w : World) (h : RdSt b k p w) :
    Calls Tryd.prog 72 #[.int .i64 (m : Int), .pointer (some ⟨k, 0, none⟩)] w fun e w' => e = .returned (.int .i64 v) ∧ But k w w' ∧ RdSt b k (p + m) w' := by
  obtain ⟨h1, h2⟩ := h
  have hz := rest_size b p
  have hx := rest_by b p
  generalize strOfNums ((byL b).drop p) = x at h2 hz hx
  have c1 := h2.cell
  have hl : ¬ (x.size : Int) < m := by omega
  have hmx : m ≤ x.size := by omega
  have k1 := fun w => cut_head hmx w
  have k2 := fun w => cut_tail hmx w
  have e1 : byL (x.extract 0 m) = ((byL b).drop p).take m := by rw [byL_extract, List.drop_zero, hx]
  have e2 : x.extract m x.size = strOfNums ((byL b).drop (p + m)) := by
    rw [← nums_byL (x.extract m x.size), byL_extract, List.take_of_length_le (by rw [byL_len]; omega), hx, List.drop_drop]
  obtain ⟨n, hn⟩ : ∃ n, numA 0 (toB (byL (x.extract 0 m))) = n := ⟨_, rfl⟩
  have HN : Hid (numR (byL (x.extract 0 m)) = (n, true)) := Lib.hid (by
    unfold numR
    rw [if_pos, hn]
    unfold numOk
    rw [e1, Bool.and_eq_true]
    refine ⟨?_, by rw [List.length_take]; simp; omega⟩
    unfold bitsB at hb ⊢
    rw [List.all_eq_true] at hb ⊢
    exact fun y hy => hb y (List.mem_of_mem_drop (List.mem_of_mem_take hy)))
  have HV : Hid ((n : Int) = v) := Lib.hid (by
    rw [← hv]
    unfold numAt
    rw [if_neg (by rw [byL_len]; omega), ← e1, hn])
  have HX := Lib.hid h2
  have HE : Hid (x.extract m x.size = strOfNums ((byL b).drop (p + m))) := Lib.hid e2
  generalize x.extract 0 m = y at k1 HN
  generalize x.extract m x.size = z at k2 HE
  clear hv hb h2 hx e1 e2 hn hz
  go_enter Tryd.func72, Tryd.ntmps72
  go_wp2_with fail
  refine (knum_v HN.out _).mono ?_
  rintro e w1 ⟨rfl, hb1⟩
  have hx1 := HX.out.below hb1 HX.out.lt
  have g1 := hx1.cell
  have g2 := hx1.live
  have HX1 := Lib.hid hx1
  have HB := Lib.hid hb1
  clear c1 hx1 hb1
  go_wp2
  go_ret
  refine ⟨fret_int HV.out, (But.of_below HB.out).trans (But.set k _ _), hm, ?_⟩
  rw [← HE.out]
  exact HX1.out.set _

def TakePost (b : ByteArray) (k p m : Nat) (v : Int) (w : World) (e : Ending) (w' : World) : Prop :=
  (e = .panicked [wrongE] ∧ b.size < p + m ∧ w = w') ∨ (e = .returned (.int .i64 v) ∧ p + m ≤ b.size ∧ But k w w' ∧ RdSt b k (p + m) w')
theorem take_v {b : ByteArray} {k p m : Nat} {v M : Int} (hM : (m : Int) = M) (hv : numAt (byL b) p m = v) (hb : bitsB (byL b) = true) (hm60 : m ≤ 60) (w : World) (h : RdSt b k p w) :
    Calls Tryd.prog 72 #[.int .i64 M, .pointer (some ⟨k, 0, none⟩)] w (TakePost b k p m v w) := by
  subst hM
  by_cases hl : b.size < p + m
  · refine (take_f (by omega) w h).mono ?_
    rintro e w' ⟨rfl, rfl⟩
    exact .inl ⟨rfl, hl, rfl⟩
  · refine (take_t hv hb hm60 (by omega) w h).mono ?_
    rintro e w' ⟨rfl, h1, h2⟩
    exact .inr ⟨rfl, by omega, h1, h2⟩
end Go.Proofs.YtfooigckcjbegaaDoor

namespace Go.Proofs.YtfooigckcjbegaaDoor
open Go.RowKit
set_option linter.unusedVariables false

theorem Box.neF {w : World} {k g : Nat} {v : Value} {t : TypeId} {i n l : Int} {d : ByteArray} (h : Box w k v t) (hf : BoxF w g i n l d) (ht : t ≠ 23) : k ≠ g := by
  rintro rfl
  unfold Box at h
  unfold BoxF at hf
  rw [h] at hf
  cases hf
theorem BoxF.but {w w' : World} {b k : Nat} {i n l : Int} {d : ByteArray} (h : BoxF w b i n l d) (hu : But k w w') (hk : b ≠ k) : BoxF w' b i n l d := (hu.block b h.lt hk).trans h
theorem BoxF.otherO {w : World} {b k : Nat} {i n l : Int} {d : ByteArray} (h : BoxF w b i n l d) (o : Nat) (hk : b ≠ k) (u : Value) : BoxF (w.setCell ⟨k, o, none⟩ u) b i n l d := (Below.heap_setCell _ _ _ _ hk).trans h
theorem BoxF.liveO {w : World} {b : Nat} {i n l : Int} {d : ByteArray} (h : BoxF w b i n l d) (o : Nat) : w.frozen? ⟨b, o, none⟩ = false := Lib.frozen_of_heap h o
theorem BoxF.set0 {w : World} {b : Nat} {i n l : Int} {d : ByteArray} (h : BoxF w b i n l d) (i' : Int) : BoxF (w.setCell ⟨b, 0, none⟩ (.int .i64 i')) b i' n l d := by
  unfold BoxF; rw [heap_setCell_same w b 0 _ _ _ h]; rfl
theorem BoxF.set1 {w : World} {b : Nat} {i n l : Int} {d : ByteArray} (h : BoxF w b i n l d) (n' : Int) : BoxF (w.setCell ⟨b, 1, none⟩ (.int .i64 n')) b i n' l d := by
  unfold BoxF; rw [heap_setCell_same w b 1 _ _ _ h]; rfl
theorem BoxF.set2 {w : World} {b : Nat} {i n l : Int} {d : ByteArray} (h : BoxF w b i n l d) (l' : Int) : BoxF (w.setCell ⟨b, 2, none⟩ (.int .i64 l')) b i n l' d := by
  unfold BoxF; rw [heap_setCell_same w b 2 _ _ _ h]; rfl
theorem BoxF.set3O {w : World} {b : Nat} {i n l : Int} {d : ByteArray} (h : BoxF w b i n l d) (d' : ByteArray) : BoxF (w.setCell ⟨b, 3, none⟩ (.string d')) b i n l d' := by
  unfold BoxF; rw [heap_setCell_same w b 3 _ _ _ h]; rfl
theorem BoxF.put {w : World} {b : Nat} {i n l i' n' l' : Int} {d d' : ByteArray} (h : BoxF w b i n l d) : BoxF ((((w.setCell ⟨b, 0, none⟩ (.int .i64 i')).setCell ⟨b, 1, none⟩ (.int .i64 n')).setCell ⟨b, 2, none⟩ (.int .i64 l')).setCell ⟨b, 3, none⟩ (.string d')) b i' n' l' d' := (((h.set0 i').set1 n').set2 l').set3O d'
theorem below_set {B k o : Nat} {w0 w : World} (h : Below B w0 w) (hk : B ≤ k) (u : Value) : Below B w0 (w.setCell ⟨k, o, none⟩ u) :=
  h.trans ⟨rfl, rfl, rfl, by simp [World.setCell], fun i hi => Below.heap_setCell _ _ _ _ (show i ≠ k by omega)⟩
theorem RdSt.set {b : ByteArray} {k p g : Nat} {w : World} (h : RdSt b k p w) (o : Nat) (hk : k ≠ g) (u : Value) : RdSt b k p (w.setCell ⟨g, o, none⟩ u) := ⟨h.1, (Below.heap_setCell _ _ _ _ hk).trans h.2⟩

/-- ahead of the frame -/
structure R0 (b : ByteArray) (k p r : Nat) (w0 w : World) : Prop where
  below : Below w0.heap.size w0 w
  rd : RdSt b k p w
  res : BoxF w r 0 0 0 (ByteArray.mk #[])
  hk : w0.heap.size ≤ k
  hr : w0.heap.size ≤ r
theorem R0.took {b : ByteArray} {k p q r : Nat} {w0 w w' : World} (h : R0 b k p r w0 w) (hu : But k w w') (hr : RdSt b k q w') : R0 b k q r w0 w' :=
  ⟨h.below.trans (hu.below h.hk h.below.size), hr, h.res.but hu (h.rd.2.neF h.res (by decide)).symm, h.hk, h.hr⟩
structure RS (b : ByteArray) (k p r g : Nat) (i n l : Int) (d : ByteArray) (w0 w : World) : Prop where
  below : Below w0.heap.size w0 w
  rd : RdSt b k p w
  res : BoxF w r 0 0 0 (ByteArray.mk #[])
  box : BoxF w g i n l d
  hk : w0.heap.size ≤ k
  hr : w0.heap.size ≤ r
  hg : w0.heap.size ≤ g
  ne : r ≠ g
theorem RS.kg {b : ByteArray} {k p r g : Nat} {i n l : Int} {d : ByteArray} {w0 w : World} (h : RS b k p r g i n l d w0 w) : k ≠ g := h.rd.2.neF h.box (by decide)
theorem RS.kr {b : ByteArray} {k p r g : Nat} {i n l : Int} {d : ByteArray} {w0 w : World} (h : RS b k p r g i n l d w0 w) : k ≠ r := h.rd.2.neF h.res (by decide)
theorem RS.took {b : ByteArray} {k p q r g : Nat} {i n l : Int} {d : ByteArray} {w0 w w' : World} (h : RS b k p r g i n l d w0 w) (hu : But k w w') (hr : RdSt b k q w') : RS b k q r g i n l d w0 w' :=
  ⟨h.below.trans (hu.below h.hk h.below.size), hr, h.res.but hu h.kr.symm, h.box.but hu h.kg.symm, h.hk, h.hr, h.hg, h.ne⟩
theorem RS.made {b : ByteArray} {k p r : Nat} {w0 w : World} (h : R0 b k p r w0 w) (i n l : Int) (d : ByteArray) : RS b k p r w.heap.size i n l d w0 (w.alloc (.cells #[.int .i64 i, .int .i64 n, .int .i64 l, .string d] 23)) :=
  have hb : Below w.heap.size w (w.alloc (.cells #[.int .i64 i, .int .i64 n, .int .i64 l, .string d] 23)) := (Below.refl _ _).alloc (Nat.le_refl _) _
  ⟨h.below.trans (hb.mono h.below.size), ⟨h.rd.1, h.rd.2.alloc _⟩, h.res.later hb, BoxF.made w i n l d, h.hk, h.hr, h.below.size, Nat.ne_of_lt h.res.lt⟩
theorem RS.later {b : ByteArray} {k p r g : Nat} {i n l : Int} {d : ByteArray} {w0 w w' : World} (h : RS b k p r g i n l d w0 w) (hb : Below w.heap.size w w') : RS b k p r g i n l d w0 w' :=
  ⟨h.below.trans (hb.mono h.below.size), ⟨h.rd.1, h.rd.2.below hb h.rd.2.lt⟩, h.res.later hb, h.box.later hb, h.hk, h.hr, h.hg, h.ne⟩
theorem RS.drew {b : ByteArray} {k p r g : Nat} {i n l : Int} {d : ByteArray} {w0 w : World} (h : RS b k p r g i n l d w0 w) : RS b k p r g i n l d w0 w.drew :=
  ⟨⟨h.below.os, h.below.tape, h.below.output, h.below.size, h.below.block⟩, h.rd, h.res, h.box, h.hk, h.hr, h.hg, h.ne⟩
theorem RS.set0 {b : ByteArray} {k p r g : Nat} {i n l : Int} {d : ByteArray} {w0 w : World} (h : RS b k p r g i n l d w0 w) (i' : Int) : RS b k p r g i' n l d w0 (w.setCell ⟨g, 0, none⟩ (.int .i64 i')) :=
  ⟨below_set h.below h.hg _, h.rd.set 0 h.kg _, h.res.otherO 0 h.ne _, h.box.set0 i', h.hk, h.hr, h.hg, h.ne⟩
theorem RS.set1 {b : ByteArray} {k p r g : Nat} {i n l : Int} {d : ByteArray} {w0 w : World} (h : RS b k p r g i n l d w0 w) (n' : Int) : RS b k p r g i n' l d w0 (w.setCell ⟨g, 1, none⟩ (.int .i64 n')) :=
  ⟨below_set h.below h.hg _, h.rd.set 1 h.kg _, h.res.otherO 1 h.ne _, h.box.set1 n', h.hk, h.hr, h.hg, h.ne⟩
theorem RS.set2 {b : ByteArray} {k p r g : Nat} {i n l : Int} {d : ByteArray} {w0 w : World} (h : RS b k p r g i n l d w0 w) (l' : Int) : RS b k p r g i n l' d w0 (w.setCell ⟨g, 2, none⟩ (.int .i64 l')) :=
  ⟨below_set h.below h.hg _, h.rd.set 2 h.kg _, h.res.otherO 2 h.ne _, h.box.set2 l', h.hk, h.hr, h.hg, h.ne⟩
theorem RS.set3 {b : ByteArray} {k p r g : Nat} {i n l : Int} {d : ByteArray} {w0 w : World} (h : RS b k p r g i n l d w0 w) (d' : ByteArray) : RS b k p r g i n l d' w0 (w.setCell ⟨g, 3, none⟩ (.string d')) :=
  ⟨below_set h.below h.hg _, h.rd.set 3 h.kg _, h.res.otherO 3 h.ne _, h.box.set3O d', h.hk, h.hr, h.hg, h.ne⟩
theorem RS.put {b : ByteArray} {k p r g : Nat} {i n l i' n' l' : Int} {d d' : ByteArray} {w0 w : World} (h : RS b k p r g i n l d w0 w) :
    Below w0.heap.size w0 ((((w.setCell ⟨r, 0, none⟩ (.int .i64 i')).setCell ⟨r, 1, none⟩ (.int .i64 n')).setCell ⟨r, 2, none⟩ (.int .i64 l')).setCell ⟨r, 3, none⟩ (.string d')) :=
  below_set (below_set (below_set (below_set h.below h.hr _) h.hr _) h.hr _) h.hr _

/-- the bytes at a place -/
def datR (B : List Int) (base : Nat) : Nat → List Int
  | 0 => []
  | x + 1 => datR B base x ++ [numAt B (base + 8 * x) 8]
theorem datR_len (B : List Int) (base : Nat) : ∀ x, (datR B base x).length = x
  | 0 => rfl
  | x + 1 => by rw [datR, List.length_append, datR_len B base x]; rfl
theorem datR_by {B : List Int} {base : Nat} : ∀ {x : Nat}, base + 8 * x ≤ B.length → isBy (datR B base x)
  | 0, _ => isBy_nil
  | x + 1, h => by
    refine isBy_app (datR_by (by omega)) (isBy_cons ?_ isBy_nil)
    have h1 := numAt_bd (b := B) (k := base + 8 * x) (m := 8) (by decide)
    refine ⟨?_, by have := h1.2; simpa using this⟩
    unfold numAt
    rw [if_neg (by omega)]
    exact Int.natCast_nonneg _
theorem datR_of {i n l : Int} {D C : List Int} (hD : isBy D) : ∀ {x : Nat}, x ≤ D.length → datR (headL i n l D ++ C) (if fE n then 39 else 19) x = D.take x
  | 0, _ => by simp [datR]
  | x + 1, h => by
    rw [datR, datR_of hD (by omega), places_d hD x (by omega), List.getD_eq_getElem?_getD, List.getElem?_eq_getElem (by omega), List.take_add_one, List.getElem?_eq_getElem (by omega)]
    rfl
theorem numAt_nn {B : List Int} {k m : Nat} (h : k + m ≤ B.length) : 0 ≤ numAt B k m := by
  unfold numAt
  rw [if_neg (by omega)]
  exact Int.natCast_nonneg _
theorem or_18 {x y : Int} (h0 : 0 ≤ x) (h1 : x < 2048) (g0 : 0 ≤ y) (g1 : y < 2 ^ 18) : bits .or .i64 (x * 262144) y = x * 262144 + y := by
  obtain ⟨a, rfl⟩ := Int.eq_ofNat_of_zero_le h0
  obtain ⟨c, rfl⟩ := Int.eq_ofNat_of_zero_le g0
  have hc : c < 2 ^ 18 := by omega
  have e : (a : Int) * 262144 = ((262144 * a : Nat) : Int) := by omega
  have e2 : 262144 * a + c = 262144 * a ||| c := Nat.two_pow_add_eq_or_of_lt (i := 18) hc a
  rw [e, i64_or _ _ (by omega) (by omega), ← e2]
  omega
/-- while the data are read -/
structure DS (b : ByteArray) (k p r g q : Nat) (i n l : Int) (O : List Int) (w0 w : World) : Prop where
  rs : RS b k p r g i n l (ByteArray.mk #[]) w0 w
  bld : Lib.IsBuilderF 56 5 q q (O.map (Value.int .u8)) w
  le : q ≤ w.heap.size
  hk : k < q
  hr : r < q
  hg : g < q
theorem But.builder {T e t : TypeId} {B b k : Nat} {bs : List Value} {w w' : World} {v : Value} (u : But k w w') (h : Lib.IsBuilderF T e B b bs w) (hk : Box w k v t) (h1 : t ≠ T) (h2 : t ≠ e) : Lib.IsBuilderF T e B b bs w' := by
  have key : ∀ {j : Nat} {c : Array Value} {ty : TypeId} {fz : Nat × Nat}, w.heap[j]? = some (.cells c ty fz) → t ≠ ty → w'.heap[j]? = some (.cells c ty fz) := by
    intro j c ty fz hj ht
    rw [u.block j (lt_of_heap hj) (by rintro rfl; unfold Box at hk; rw [hk] at hj; cases hj; exact ht rfl)]
    exact hj
  have one : ∀ p, Lib.BuilderAtF T e B b p bs w → Lib.BuilderAtF T e B b p bs w' := by
    rintro p ⟨hB, v, hb, hown, hne⟩
    refine ⟨hB, v, key hb h1, ⟨hown.1, ?_⟩, hne⟩
    rcases hown.2 with hn | ⟨g, cap, cur, fz, hv, hbg, hg, rest⟩
    · exact .inl hn
    · exact .inr ⟨g, cap, cur, fz, hv, hbg, key hg h2, rest⟩
  exact h.elim (fun x => .inl (one _ x)) (fun x => .inr (one _ x))
theorem DS.took {b : ByteArray} {k p p' r g q : Nat} {i n l : Int} {O : List Int} {w0 w w' : World} (h : DS b k p r g q i n l O w0 w) (hu : But k w w') (hr : RdSt b k p' w') : DS b k p' r g q i n l O w0 w' :=
  ⟨h.rs.took hu hr, hu.builder h.bld h.rs.rd.2 (by decide) (by decide), Nat.le_trans h.le hu.size, h.hk, h.hr, h.hg⟩
theorem DS.wrote {b : ByteArray} {k p r g q : Nat} {i n l : Int} {O O' : List Int} {w0 w w' : World} (h : DS b k p r g q i n l O w0 w) (hI : Lib.BuilderAtF 56 5 q q (.pointer (some ⟨q, 0, none⟩)) (O'.map (Value.int .u8)) w') (hb : Below q w w') : DS b k p r g q i n l O' w0 w' :=
  have hq : w0.heap.size ≤ q := Nat.le_trans h.rs.hk (Nat.le_of_lt h.hk)
  ⟨⟨h.rs.below.trans (hb.mono hq), ⟨h.rs.rd.1, h.rs.rd.2.below hb h.hk⟩, h.rs.res.below hb h.hr, h.rs.box.below hb h.hg, h.rs.hk, h.rs.hr, h.rs.hg, h.rs.ne⟩, .inr hI, Nat.le_trans h.le hb.size, h.hk, h.hr, h.hg⟩
theorem DS.told {b : ByteArray} {k p r g q : Nat} {i n l : Int} {O : List Int} {w0 w w' : World} (h : DS b k p r g q i n l O w0 w) (hb : Below q w w') : RS b k p r g i n l (ByteArray.mk #[]) w0 w' :=
  have hq : w0.heap.size ≤ q := Nat.le_trans h.rs.hk (Nat.le_of_lt h.hk)
  ⟨h.rs.below.trans (hb.mono hq), ⟨h.rs.rd.1, h.rs.rd.2.below hb h.hk⟩, h.rs.res.below hb h.hr, h.rs.box.below hb h.hg, h.rs.hk, h.rs.hr, h.rs.hg, h.rs.ne⟩
theorem DS.made {b : ByteArray} {k p r g q : Nat} {i n l : Int} {w0 w : World} (h : RS b k p r g i n l (ByteArray.mk #[]) w0 w) (hq : w.heap.size = q) : DS b k p r g q i n l [] w0 (w.alloc (.cells #[.pointer none, .slice none 0 0] 56)) := by
  subst hq
  exact ⟨h.later ((Below.refl _ _).alloc (Nat.le_refl _) _), .of (Lib.fresh_isBuilder _ _ w), by simp, h.rd.2.lt, h.res.lt, h.box.lt⟩
end Go.Proofs.YtfooigckcjbegaaDoor

namespace Go.Proofs.YtfooigckcjbegaaDoor
open Go.RowKit
set_option linter.unusedVariables false

def ReadPost (b : ByteArray) (i n l : Int) (d : ByteArray) (need : Nat) (w : World) (e : Ending) (w' : World) : Prop :=
  (e = .panicked [wrongE] ∧ b.size < need ∧ Below w.heap.size w w') ∨ (e = .returned (.agg #[.int .i64 i, .int .i64 n, .int .i64 l, .string d]) ∧ need ≤ b.size ∧ Below w.heap.size w w')

set_option maxHeartbeats 4000000 in
theorem kread_nr {b : ByteArray} {I A1 W L : Int} (hb : bitsB (byL b) = true) (hI : numAt (byL b) 1 11 = I) (hA1 : numAt (byL b) 12 1 = A1) (hW : numAt (byL b) 13 1 = W) (hL : numAt (byL b) 15 4 = L) (hw : (W == 1) = false) (ha : (A1 == 1) = true) (w : World) :
    Calls Tryd.prog 43 #[.string b] w (ReadPost b I 2 L (ByteArray.mk #[]) (19) w) := by
  have HBB := Lib.hid hb
  have HI := Lib.hid hI
  have HA1 := Lib.hid hA1
  have HW := Lib.hid hW
  have HL := Lib.hid hL
  have BI := Lib.hid (numAt_bd (b := byL b) (k := 1) (m := 11) (by decide))
  rw [hI] at BI
  have BA1 := Lib.hid (numAt_bd (b := byL b) (k := 12) (m := 1) (by decide))
  rw [hA1] at BA1
  have BW := Lib.hid (numAt_bd (b := byL b) (k := 13) (m := 1) (by decide))
  rw [hW] at BW
  have BL := Lib.hid (numAt_bd (b := byL b) (k := 15) (m := 4) (by decide))
  rw [hL] at BL
  clear hb hI hA1 hW hL
  go_enter Tryd.func43, Tryd.ntmps43
  go_wp2_with fail
  refine (reader_v b _).mono ?_
  rintro e w1 ⟨rfl, hb1, hr1, hz1⟩
  have hq := BoxF.made w 0 0 0 (ByteArray.mk #[])
  have HR := Lib.hid (R0.mk (w0 := w) (fbelow_a _ hb1) hr1 (hq.later hb1) (by simp) (Nat.le_refl _))
  clear hb1 hr1 hz1 hq
  unfold readV
  generalize hk : (w.alloc (Obj.cells #[Value.int IntKind.i64 0, Value.int IntKind.i64 0, Value.int IntKind.i64 0, Value.string (ByteArray.mk #[])] 23)).heap.size = k at HR ⊢
  have hk2 := Lib.hid hk
  clear hk
  go_wp2_with fail
  refine (take_v (b := b) (k := k) (p := 0) (m := 1) rfl rfl HBB.out (by decide) _ HR.out.rd).mono ?_
  rintro e v1 (⟨rfl, hsh, rfl⟩ | ⟨rfl, hlen, hu, hr⟩)
  · go_wp2
    exact ⟨rfl, .inl ⟨rfl, by omega, HR.out.below⟩⟩
  have HR1 := Lib.hid (HR.out.took hu hr)
  clear hu hr HR
  clear hlen
  go_wp2_with fail
  refine (take_v (b := b) (k := k) (p := 1) (m := 11) rfl HI.out HBB.out (by decide) _ HR1.out.rd).mono ?_
  rintro e v2 (⟨rfl, hsh, rfl⟩ | ⟨rfl, hlen, hu, hr⟩)
  · go_wp2
    exact ⟨rfl, .inl ⟨rfl, by omega, HR1.out.below⟩⟩
  have HR2 := Lib.hid (HR1.out.took hu hr)
  clear hu hr HR1
  have HS := Lib.hid (RS.made HR2.out I 0 0 (ByteArray.mk #[]))
  clear HR2 hlen
  have or1 : bits .or .i64 0 1 = 1 := by decide +kernel
  have or2 : bits .or .i64 0 2 = 2 := by decide +kernel
  have or3 : bits .or .i64 1 2 = 3 := by decide +kernel
  go_wp2_with fail
  refine (take_v (b := b) (k := k) (p := 12) (m := 1) rfl HA1.out HBB.out (by decide) _ HS.out.rd).mono ?_
  rintro e v3 (⟨rfl, hsh, rfl⟩ | ⟨rfl, hlen, hu, hr⟩)
  · go_wp2
    exact ⟨rfl, .inl ⟨rfl, by omega, HS.out.below⟩⟩
  have HR3 := Lib.hid (HS.out.took hu hr)
  clear hu hr HS
  clear hlen
  go_wp2_with fail
  refine (take_v (b := b) (k := k) (p := 13) (m := 1) rfl HW.out HBB.out (by decide) _ HR3.out.rd).mono ?_
  rintro e v4 (⟨rfl, hsh, rfl⟩ | ⟨rfl, hlen, hu, hr⟩)
  · go_wp2
    exact ⟨rfl, .inl ⟨rfl, by omega, HR3.out.below⟩⟩
  have HR4 := Lib.hid (HR3.out.took hu hr)
  clear hu hr HR3
  obtain ⟨c0, c1, c2, c3⟩ := HR4.out.box.cells
  have f0 := HR4.out.box.liveO 0
  have f1 := HR4.out.box.liveO 1
  have f2 := HR4.out.box.liveO 2
  have f3 := HR4.out.box.liveO 3
  clear hlen
  go_wp2_with fail
  refine (take_v (b := b) (k := k) (p := 14) (m := 1) rfl rfl HBB.out (by decide) _ HR4.out.rd).mono ?_
  rintro e v5 (⟨rfl, hsh, rfl⟩ | ⟨rfl, hlen, hu, hr⟩)
  · go_wp2
    exact ⟨rfl, .inl ⟨rfl, by omega, HR4.out.below⟩⟩
  have HR5 := Lib.hid (HR4.out.took hu hr)
  clear hu hr HR4 c0 c1 c2 c3 f0 f1 f2 f3
  clear hlen
  go_wp2_with fail
  refine (take_v (b := b) (k := k) (p := 15) (m := 4) rfl HL.out HBB.out (by decide) _ HR5.out.rd).mono ?_
  rintro e v6 (⟨rfl, hsh, rfl⟩ | ⟨rfl, hlen, hu, hr⟩)
  · go_wp2
    exact ⟨rfl, .inl ⟨rfl, by omega, HR5.out.below⟩⟩
  have HR6 := Lib.hid (HR5.out.took hu hr)
  clear hu hr HR5
  obtain ⟨c0, c1, c2, c3⟩ := HR6.out.box.cells
  have f0 := HR6.out.box.liveO 0
  have f1 := HR6.out.box.liveO 1
  have f2 := HR6.out.box.liveO 2
  have f3 := HR6.out.box.liveO 3
  obtain ⟨q0, q1, q2, q3⟩ := HR6.out.res.cells
  have e0 := HR6.out.res.liveO 0
  have e1 := HR6.out.res.liveO 1
  have e2 := HR6.out.res.liveO 2
  have e3 := HR6.out.res.liveO 3
  have hne := HR6.out.ne
  have hne2 := hne.symm
  go_wp2
  have HQ := Lib.hid ((HR6.out.set2 L).set1 2)
  obtain ⟨r0, r1, r2, r3⟩ := (HQ.out.res.put (i' := I) (n' := 2) (l' := L) (d' := ByteArray.mk #[])).cells
  exact bodyPost_ret (v := .agg #[.int .i64 I, .int .i64 2, .int .i64 L, .string (ByteArray.mk #[])]) (by simp [results, Tryd.results43, go_sem, r0, r1, r2, r3]) rfl (.inr ⟨rfl, hlen, HQ.out.put⟩)
end Go.Proofs.YtfooigckcjbegaaDoor
