/- Wire: contract of the document's Decode. -/
import Derived.Test.YtimlaopmhcipmaaDoorWirS
namespace Go.Proofs.YtimlaopmhcipmaaDoor
open Go.RowKit
set_option linter.unusedVariables false

theorem rzero_v {s : ByteArray} {a b : Nat} {A B : Int} {q : Bool} (hq : zeroB s a b = q) (hA : A = (a : Int)) (hB : B = (b : Int)) (hab : b ≤ s.size) (hs : s.size ≤ maxLen) (ha : a ≤ maxLen) (w : World) :
    Calls Tryd.prog 32 #[.string s, .int .i64 A, .int .i64 B] w fun e w' => e = .returned (.bool q) ∧ w = w' := by
  subst hA hB hq
  exact rzero_any s a b hab hs ha w
theorem sub_run {s : ByteArray} {a b : Nat} {B : Int} (hB : B = (b : Int)) (h1 : a ≤ b) (h2 : b ≤ s.size) (w : World) :
    (Instr.sliceAt 9 (.string s) (some (.int .i64 (a : Int))) (some (.int .i64 B)) none).run Tryd.prog w = .ok (.string (s.extract a b)) w := by
  subst hB
  simp [go_sem]
  simp [go_sem, h1, h2]

theorem rof_some {W : Int} {d : ByteArray} (h0 : 0 ≤ W) (h1 : W < 4294967296) (hd : d.size ≤ maxLen) (w : World) :
    Calls Tryd.prog 33 #[.int .u32 W, .string d] w fun e w' => ∃ (a b c : Int) (d' : ByteArray) (q : Bool), e = .returned (.tuple #[.agg #[.int .i64 a, .int .i64 b, .int .i64 c, .string d'], .bool q]) ∧ Below w.heap.size w w' := by
  cases h : okOf W d
  · exact (rof_f h0 h1 hd h w).mono fun e w' ⟨he, hb⟩ => ⟨_, _, _, _, _, he, hb⟩
  · exact (rof_t h0 h1 hd h w).mono fun e w' ⟨he, hb⟩ => ⟨_, _, _, _, _, he, hb⟩

set_option maxRecDepth 100000 in
set_option maxHeartbeats 1000000 in
theorem rdec_A {s : ByteArray} (hs : s.size ≤ maxLen) (h1 : s.size ≠ 16) (h2 : s.size ≠ 72) (w : World) :
    Calls Tryd.prog 13 #[.string s] w fun e w' => e = .returned (.tuple #[.agg #[.int .i64 0, .int .i64 0, .int .i64 0, .string (ByteArray.mk #[])], .bool false]) ∧ Below w.heap.size w w' := by
  have e1 : ((s.size : Int) == 16) = false := by simp; omega
  have e2 : ((s.size : Int) != 16) = true := by simp; omega
  have e3 : ((s.size : Int) == 72) = false := by simp; omega
  have e4 : ((s.size : Int) != 72) = true := by simp; omega
  clear h1 h2
  unfold maxLen at hs
  go_enter Tryd.func13, Tryd.ntmps13
  go_wp2
  refine bodyPost_ret (v := .tuple #[.agg #[.int .i64 0, .int .i64 0, .int .i64 0, .string (ByteArray.mk #[])], .bool false]) (by simp [results, Tryd.results13, go_sem]) rfl ⟨rfl, ?_⟩
  exact Below.allocL (Below.refl _ _) _

set_option maxRecDepth 100000 in
set_option maxHeartbeats 1000000 in
theorem rdec_B1_16 {s : ByteArray} (hs : s.size ≤ maxLen) (hsz : s.size = 16) (h6 : bt s 6 ≠ 0) (w : World) :
    Calls Tryd.prog 13 #[.string s] w fun e w' => e = .returned (.tuple #[.agg #[.int .i64 0, .int .i64 0, .int .i64 0, .string (ByteArray.mk #[])], .bool false]) ∧ Below w.heap.size w w' := by
  have HS := Lib.hid hs
  have e1 : ((s.size : Int) == 16) = true := by simp; omega
  have e2 : ((s.size : Int) != 16) = false := by simp; omega
  have e3 : ((s.size : Int) == 72) = false := by simp; omega
  have e4 : ((s.size : Int) != 72) = true := by simp; omega
  have s0 : s.size ≤ 72 := by omega
  have s1 : 16 ≤ s.size := by omega
  have HZ : Hid (s.size = 16) := Lib.hid hsz
  have i4 : ∀ w, (Instr.index 9 (.string s) (.int .i64 4)).run Tryd.prog w = .ok (.int .u8 (bt s 4)) w := index_bt (k := 4) Tryd.underlying9 (by omega)
  have i5 : ∀ w, (Instr.index 9 (.string s) (.int .i64 5)).run Tryd.prog w = .ok (.int .u8 (bt s 5)) w := index_bt (k := 5) Tryd.underlying9 (by omega)
  have i6 : ∀ w, (Instr.index 9 (.string s) (.int .i64 6)).run Tryd.prog w = .ok (.int .u8 (bt s 6)) w := index_bt (k := 6) Tryd.underlying9 (by omega)
  have i7 : ∀ w, (Instr.index 9 (.string s) (.int .i64 7)).run Tryd.prog w = .ok (.int .u8 (bt s 7)) w := index_bt (k := 7) Tryd.underlying9 (by omega)
  have p4 := (bt_lt s 4).1
  have r4 := (bt_lt s 4).2
  have p5 := (bt_lt s 5).1
  have r5 := (bt_lt s 5).2
  have f6 : (bt s 6 == 0) = false := by simpa using h6
  have g6 : (bt s 6 != 0) = true := by simpa using h6
  clear hsz hs h6
  generalize bt s 4 = x4 at *
  generalize bt s 5 = x5 at *
  generalize bt s 6 = x6 at *
  generalize bt s 7 = x7 at *
  go_enter Tryd.func13, Tryd.ntmps13
  go_wp2_with fail
  refine (rget_yes s 0 _ HS.out (by have := HZ.out; omega)).mono ?_
  rintro e w1 ⟨rfl, rfl⟩
  go_wp2_with fail
  go_quiet (fail)
  have c0 : ((w.alloc (.cells #[.int .i64 0, .int .i64 0, .int .i64 0, .string (ByteArray.mk #[])] 23)).drewN nq).cell? ⟨w.heap.size, 0, none⟩ = some (.int .i64 0) := by simp [go_sem]
  have c1 : ((w.alloc (.cells #[.int .i64 0, .int .i64 0, .int .i64 0, .string (ByteArray.mk #[])] 23)).drewN nq).cell? ⟨w.heap.size, 1, none⟩ = some (.int .i64 0) := by simp [go_sem]
  have c2 : ((w.alloc (.cells #[.int .i64 0, .int .i64 0, .int .i64 0, .string (ByteArray.mk #[])] 23)).drewN nq).cell? ⟨w.heap.size, 2, none⟩ = some (.int .i64 0) := by simp [go_sem]
  have c3 : ((w.alloc (.cells #[.int .i64 0, .int .i64 0, .int .i64 0, .string (ByteArray.mk #[])] 23)).drewN nq).cell? ⟨w.heap.size, 3, none⟩ = some (.string (ByteArray.mk #[])) := by simp [go_sem]
  have v0 : ((w.alloc (.cells #[.int .i64 0, .int .i64 0, .int .i64 0, .string (ByteArray.mk #[])] 23)).drewN nq).frozen? ⟨w.heap.size, 0, none⟩ = false := by simp [go_sem]
  have v1 : ((w.alloc (.cells #[.int .i64 0, .int .i64 0, .int .i64 0, .string (ByteArray.mk #[])] 23)).drewN nq).frozen? ⟨w.heap.size, 1, none⟩ = false := by simp [go_sem]
  have v2 : ((w.alloc (.cells #[.int .i64 0, .int .i64 0, .int .i64 0, .string (ByteArray.mk #[])] 23)).drewN nq).frozen? ⟨w.heap.size, 2, none⟩ = false := by simp [go_sem]
  have v3 : ((w.alloc (.cells #[.int .i64 0, .int .i64 0, .int .i64 0, .string (ByteArray.mk #[])] 23)).drewN nq).frozen? ⟨w.heap.size, 3, none⟩ = false := by simp [go_sem]
  have hzq : w.heap.size < ((w.alloc (.cells #[.int .i64 0, .int .i64 0, .int .i64 0, .string (ByteArray.mk #[])] 23)).drewN nq).heap.size := by simp
  have HW : Hid (Below w.heap.size w ((w.alloc (.cells #[.int .i64 0, .int .i64 0, .int .i64 0, .string (ByteArray.mk #[])] 23)).drewN nq)) := Lib.hid (below_drewN (Below.allocL (Below.refl _ _) _) _)
  generalize (w.alloc (.cells #[.int .i64 0, .int .i64 0, .int .i64 0, .string (ByteArray.mk #[])] 23)).drewN nq = wq at *
  go_wp2
  refine bodyPost_ret (v := .tuple #[.agg #[.int .i64 0, .int .i64 0, .int .i64 0, .string (ByteArray.mk #[])], .bool false]) (by simp [results, Tryd.results13, go_sem, c0, c1, c2, c3]) rfl ⟨rfl, ?_⟩
  exact ((((HW.out.setCell (p := ⟨w.heap.size, 0, none⟩) (Nat.le_refl _) _).setCell (p := ⟨w.heap.size, 1, none⟩) (Nat.le_refl _) _).setCell (p := ⟨w.heap.size, 2, none⟩) (Nat.le_refl _) _).setCell (p := ⟨w.heap.size, 3, none⟩) (Nat.le_refl _) _)

set_option maxRecDepth 100000 in
set_option maxHeartbeats 1000000 in
theorem rdec_B2_16 {s : ByteArray} (hs : s.size ≤ maxLen) (hsz : s.size = 16) (h6 : bt s 6 = 0) (h7 : bt s 7 ≠ 0) (w : World) :
    Calls Tryd.prog 13 #[.string s] w fun e w' => e = .returned (.tuple #[.agg #[.int .i64 0, .int .i64 0, .int .i64 0, .string (ByteArray.mk #[])], .bool false]) ∧ Below w.heap.size w w' := by
  have HS := Lib.hid hs
  have e1 : ((s.size : Int) == 16) = true := by simp; omega
  have e2 : ((s.size : Int) != 16) = false := by simp; omega
  have e3 : ((s.size : Int) == 72) = false := by simp; omega
  have e4 : ((s.size : Int) != 72) = true := by simp; omega
  have s0 : s.size ≤ 72 := by omega
  have s1 : 16 ≤ s.size := by omega
  have HZ : Hid (s.size = 16) := Lib.hid hsz
  have i4 : ∀ w, (Instr.index 9 (.string s) (.int .i64 4)).run Tryd.prog w = .ok (.int .u8 (bt s 4)) w := index_bt (k := 4) Tryd.underlying9 (by omega)
  have i5 : ∀ w, (Instr.index 9 (.string s) (.int .i64 5)).run Tryd.prog w = .ok (.int .u8 (bt s 5)) w := index_bt (k := 5) Tryd.underlying9 (by omega)
  have i6 : ∀ w, (Instr.index 9 (.string s) (.int .i64 6)).run Tryd.prog w = .ok (.int .u8 (bt s 6)) w := index_bt (k := 6) Tryd.underlying9 (by omega)
  have i7 : ∀ w, (Instr.index 9 (.string s) (.int .i64 7)).run Tryd.prog w = .ok (.int .u8 (bt s 7)) w := index_bt (k := 7) Tryd.underlying9 (by omega)
  have p4 := (bt_lt s 4).1
  have r4 := (bt_lt s 4).2
  have p5 := (bt_lt s 5).1
  have r5 := (bt_lt s 5).2
  have f6 : (bt s 6 == 0) = true := by simpa using h6
  have g6 : (bt s 6 != 0) = false := by simpa using h6
  have f7 : (bt s 7 == 0) = false := by simpa using h7
  have g7 : (bt s 7 != 0) = true := by simpa using h7
  clear hsz hs h6 h7
  generalize bt s 4 = x4 at *
  generalize bt s 5 = x5 at *
  generalize bt s 6 = x6 at *
  generalize bt s 7 = x7 at *
  go_enter Tryd.func13, Tryd.ntmps13
  go_wp2_with fail
  refine (rget_yes s 0 _ HS.out (by have := HZ.out; omega)).mono ?_
  rintro e w1 ⟨rfl, rfl⟩
  go_wp2_with fail
  go_quiet (fail)
  have c0 : ((w.alloc (.cells #[.int .i64 0, .int .i64 0, .int .i64 0, .string (ByteArray.mk #[])] 23)).drewN nq).cell? ⟨w.heap.size, 0, none⟩ = some (.int .i64 0) := by simp [go_sem]
  have c1 : ((w.alloc (.cells #[.int .i64 0, .int .i64 0, .int .i64 0, .string (ByteArray.mk #[])] 23)).drewN nq).cell? ⟨w.heap.size, 1, none⟩ = some (.int .i64 0) := by simp [go_sem]
  have c2 : ((w.alloc (.cells #[.int .i64 0, .int .i64 0, .int .i64 0, .string (ByteArray.mk #[])] 23)).drewN nq).cell? ⟨w.heap.size, 2, none⟩ = some (.int .i64 0) := by simp [go_sem]
  have c3 : ((w.alloc (.cells #[.int .i64 0, .int .i64 0, .int .i64 0, .string (ByteArray.mk #[])] 23)).drewN nq).cell? ⟨w.heap.size, 3, none⟩ = some (.string (ByteArray.mk #[])) := by simp [go_sem]
  have v0 : ((w.alloc (.cells #[.int .i64 0, .int .i64 0, .int .i64 0, .string (ByteArray.mk #[])] 23)).drewN nq).frozen? ⟨w.heap.size, 0, none⟩ = false := by simp [go_sem]
  have v1 : ((w.alloc (.cells #[.int .i64 0, .int .i64 0, .int .i64 0, .string (ByteArray.mk #[])] 23)).drewN nq).frozen? ⟨w.heap.size, 1, none⟩ = false := by simp [go_sem]
  have v2 : ((w.alloc (.cells #[.int .i64 0, .int .i64 0, .int .i64 0, .string (ByteArray.mk #[])] 23)).drewN nq).frozen? ⟨w.heap.size, 2, none⟩ = false := by simp [go_sem]
  have v3 : ((w.alloc (.cells #[.int .i64 0, .int .i64 0, .int .i64 0, .string (ByteArray.mk #[])] 23)).drewN nq).frozen? ⟨w.heap.size, 3, none⟩ = false := by simp [go_sem]
  have hzq : w.heap.size < ((w.alloc (.cells #[.int .i64 0, .int .i64 0, .int .i64 0, .string (ByteArray.mk #[])] 23)).drewN nq).heap.size := by simp
  have HW : Hid (Below w.heap.size w ((w.alloc (.cells #[.int .i64 0, .int .i64 0, .int .i64 0, .string (ByteArray.mk #[])] 23)).drewN nq)) := Lib.hid (below_drewN (Below.allocL (Below.refl _ _) _) _)
  generalize (w.alloc (.cells #[.int .i64 0, .int .i64 0, .int .i64 0, .string (ByteArray.mk #[])] 23)).drewN nq = wq at *
  go_wp2
  refine bodyPost_ret (v := .tuple #[.agg #[.int .i64 0, .int .i64 0, .int .i64 0, .string (ByteArray.mk #[])], .bool false]) (by simp [results, Tryd.results13, go_sem, c0, c1, c2, c3]) rfl ⟨rfl, ?_⟩
  exact ((((HW.out.setCell (p := ⟨w.heap.size, 0, none⟩) (Nat.le_refl _) _).setCell (p := ⟨w.heap.size, 1, none⟩) (Nat.le_refl _) _).setCell (p := ⟨w.heap.size, 2, none⟩) (Nat.le_refl _) _).setCell (p := ⟨w.heap.size, 3, none⟩) (Nat.le_refl _) _)

set_option maxRecDepth 100000 in
set_option maxHeartbeats 1000000 in
theorem rdec_B3_16 {s : ByteArray} (hs : s.size ≤ maxLen) (hsz : s.size = 16) (h6 : bt s 6 = 0) (h7 : bt s 7 = 0) (h5 : bt s 5 / 4 = 1) (w : World) :
    Calls Tryd.prog 13 #[.string s] w fun e w' => e = .returned (.tuple #[.agg #[.int .i64 0, .int .i64 0, .int .i64 0, .string (ByteArray.mk #[])], .bool false]) ∧ Below w.heap.size w w' := by
  have HS := Lib.hid hs
  have e1 : ((s.size : Int) == 16) = true := by simp; omega
  have e2 : ((s.size : Int) != 16) = false := by simp; omega
  have e3 : ((s.size : Int) == 72) = false := by simp; omega
  have e4 : ((s.size : Int) != 72) = true := by simp; omega
  have s0 : s.size ≤ 72 := by omega
  have s1 : 16 ≤ s.size := by omega
  have HZ : Hid (s.size = 16) := Lib.hid hsz
  have i4 : ∀ w, (Instr.index 9 (.string s) (.int .i64 4)).run Tryd.prog w = .ok (.int .u8 (bt s 4)) w := index_bt (k := 4) Tryd.underlying9 (by omega)
  have i5 : ∀ w, (Instr.index 9 (.string s) (.int .i64 5)).run Tryd.prog w = .ok (.int .u8 (bt s 5)) w := index_bt (k := 5) Tryd.underlying9 (by omega)
  have i6 : ∀ w, (Instr.index 9 (.string s) (.int .i64 6)).run Tryd.prog w = .ok (.int .u8 (bt s 6)) w := index_bt (k := 6) Tryd.underlying9 (by omega)
  have i7 : ∀ w, (Instr.index 9 (.string s) (.int .i64 7)).run Tryd.prog w = .ok (.int .u8 (bt s 7)) w := index_bt (k := 7) Tryd.underlying9 (by omega)
  have p4 := (bt_lt s 4).1
  have r4 := (bt_lt s 4).2
  have p5 := (bt_lt s 5).1
  have r5 := (bt_lt s 5).2
  have f6 : (bt s 6 == 0) = true := by simpa using h6
  have g6 : (bt s 6 != 0) = false := by simpa using h6
  have f7 : (bt s 7 == 0) = true := by simpa using h7
  have g7 : (bt s 7 != 0) = false := by simpa using h7
  have f5 : (bt s 5 / 4 == 1) = true := by simpa using h5
  clear hsz hs h6 h7 h5
  generalize bt s 4 = x4 at *
  generalize bt s 5 = x5 at *
  generalize bt s 6 = x6 at *
  generalize bt s 7 = x7 at *
  go_enter Tryd.func13, Tryd.ntmps13
  go_wp2_with fail
  refine (rget_yes s 0 _ HS.out (by have := HZ.out; omega)).mono ?_
  rintro e w1 ⟨rfl, rfl⟩
  go_wp2_with fail
  go_quiet (fail)
  have c0 : ((w.alloc (.cells #[.int .i64 0, .int .i64 0, .int .i64 0, .string (ByteArray.mk #[])] 23)).drewN nq).cell? ⟨w.heap.size, 0, none⟩ = some (.int .i64 0) := by simp [go_sem]
  have c1 : ((w.alloc (.cells #[.int .i64 0, .int .i64 0, .int .i64 0, .string (ByteArray.mk #[])] 23)).drewN nq).cell? ⟨w.heap.size, 1, none⟩ = some (.int .i64 0) := by simp [go_sem]
  have c2 : ((w.alloc (.cells #[.int .i64 0, .int .i64 0, .int .i64 0, .string (ByteArray.mk #[])] 23)).drewN nq).cell? ⟨w.heap.size, 2, none⟩ = some (.int .i64 0) := by simp [go_sem]
  have c3 : ((w.alloc (.cells #[.int .i64 0, .int .i64 0, .int .i64 0, .string (ByteArray.mk #[])] 23)).drewN nq).cell? ⟨w.heap.size, 3, none⟩ = some (.string (ByteArray.mk #[])) := by simp [go_sem]
  have v0 : ((w.alloc (.cells #[.int .i64 0, .int .i64 0, .int .i64 0, .string (ByteArray.mk #[])] 23)).drewN nq).frozen? ⟨w.heap.size, 0, none⟩ = false := by simp [go_sem]
  have v1 : ((w.alloc (.cells #[.int .i64 0, .int .i64 0, .int .i64 0, .string (ByteArray.mk #[])] 23)).drewN nq).frozen? ⟨w.heap.size, 1, none⟩ = false := by simp [go_sem]
  have v2 : ((w.alloc (.cells #[.int .i64 0, .int .i64 0, .int .i64 0, .string (ByteArray.mk #[])] 23)).drewN nq).frozen? ⟨w.heap.size, 2, none⟩ = false := by simp [go_sem]
  have v3 : ((w.alloc (.cells #[.int .i64 0, .int .i64 0, .int .i64 0, .string (ByteArray.mk #[])] 23)).drewN nq).frozen? ⟨w.heap.size, 3, none⟩ = false := by simp [go_sem]
  have hzq : w.heap.size < ((w.alloc (.cells #[.int .i64 0, .int .i64 0, .int .i64 0, .string (ByteArray.mk #[])] 23)).drewN nq).heap.size := by simp
  have HW : Hid (Below w.heap.size w ((w.alloc (.cells #[.int .i64 0, .int .i64 0, .int .i64 0, .string (ByteArray.mk #[])] 23)).drewN nq)) := Lib.hid (below_drewN (Below.allocL (Below.refl _ _) _) _)
  generalize (w.alloc (.cells #[.int .i64 0, .int .i64 0, .int .i64 0, .string (ByteArray.mk #[])] 23)).drewN nq = wq at *
  go_wp2
  refine bodyPost_ret (v := .tuple #[.agg #[.int .i64 0, .int .i64 0, .int .i64 0, .string (ByteArray.mk #[])], .bool false]) (by simp [results, Tryd.results13, go_sem, c0, c1, c2, c3]) rfl ⟨rfl, ?_⟩
  exact ((((HW.out.setCell (p := ⟨w.heap.size, 0, none⟩) (Nat.le_refl _) _).setCell (p := ⟨w.heap.size, 1, none⟩) (Nat.le_refl _) _).setCell (p := ⟨w.heap.size, 2, none⟩) (Nat.le_refl _) _).setCell (p := ⟨w.heap.size, 3, none⟩) (Nat.le_refl _) _)

set_option maxRecDepth 100000 in
set_option maxHeartbeats 1000000 in
theorem rdec_B4_16 {s : ByteArray} (hs : s.size ≤ maxLen) (hsz : s.size = 16) (h6 : bt s 6 = 0) (h7 : bt s 7 = 0) (h5 : bt s 5 / 4 ≠ 1) (h50 : bt s 5 ≠ 0) (w : World) :
    Calls Tryd.prog 13 #[.string s] w fun e w' => e = .returned (.tuple #[.agg #[.int .i64 0, .int .i64 0, .int .i64 0, .string (ByteArray.mk #[])], .bool false]) ∧ Below w.heap.size w w' := by
  have HS := Lib.hid hs
  have e1 : ((s.size : Int) == 16) = true := by simp; omega
  have e2 : ((s.size : Int) != 16) = false := by simp; omega
  have e3 : ((s.size : Int) == 72) = false := by simp; omega
  have e4 : ((s.size : Int) != 72) = true := by simp; omega
  have s0 : s.size ≤ 72 := by omega
  have s1 : 16 ≤ s.size := by omega
  have HZ : Hid (s.size = 16) := Lib.hid hsz
  have i4 : ∀ w, (Instr.index 9 (.string s) (.int .i64 4)).run Tryd.prog w = .ok (.int .u8 (bt s 4)) w := index_bt (k := 4) Tryd.underlying9 (by omega)
  have i5 : ∀ w, (Instr.index 9 (.string s) (.int .i64 5)).run Tryd.prog w = .ok (.int .u8 (bt s 5)) w := index_bt (k := 5) Tryd.underlying9 (by omega)
  have i6 : ∀ w, (Instr.index 9 (.string s) (.int .i64 6)).run Tryd.prog w = .ok (.int .u8 (bt s 6)) w := index_bt (k := 6) Tryd.underlying9 (by omega)
  have i7 : ∀ w, (Instr.index 9 (.string s) (.int .i64 7)).run Tryd.prog w = .ok (.int .u8 (bt s 7)) w := index_bt (k := 7) Tryd.underlying9 (by omega)
  have p4 := (bt_lt s 4).1
  have r4 := (bt_lt s 4).2
  have p5 := (bt_lt s 5).1
  have r5 := (bt_lt s 5).2
  have f6 : (bt s 6 == 0) = true := by simpa using h6
  have g6 : (bt s 6 != 0) = false := by simpa using h6
  have f7 : (bt s 7 == 0) = true := by simpa using h7
  have g7 : (bt s 7 != 0) = false := by simpa using h7
  have f5 : (bt s 5 / 4 == 1) = false := by simpa using h5
  have f50 : (bt s 5 == 0) = false := by simpa using h50
  have g50 : (bt s 5 != 0) = true := by simpa using h50
  clear hsz hs h6 h7 h5 h50
  generalize bt s 4 = x4 at *
  generalize bt s 5 = x5 at *
  generalize bt s 6 = x6 at *
  generalize bt s 7 = x7 at *
  go_enter Tryd.func13, Tryd.ntmps13
  go_wp2_with fail
  refine (rget_yes s 0 _ HS.out (by have := HZ.out; omega)).mono ?_
  rintro e w1 ⟨rfl, rfl⟩
  go_wp2_with fail
  go_quiet (fail)
  have c0 : ((w.alloc (.cells #[.int .i64 0, .int .i64 0, .int .i64 0, .string (ByteArray.mk #[])] 23)).drewN nq).cell? ⟨w.heap.size, 0, none⟩ = some (.int .i64 0) := by simp [go_sem]
  have c1 : ((w.alloc (.cells #[.int .i64 0, .int .i64 0, .int .i64 0, .string (ByteArray.mk #[])] 23)).drewN nq).cell? ⟨w.heap.size, 1, none⟩ = some (.int .i64 0) := by simp [go_sem]
  have c2 : ((w.alloc (.cells #[.int .i64 0, .int .i64 0, .int .i64 0, .string (ByteArray.mk #[])] 23)).drewN nq).cell? ⟨w.heap.size, 2, none⟩ = some (.int .i64 0) := by simp [go_sem]
  have c3 : ((w.alloc (.cells #[.int .i64 0, .int .i64 0, .int .i64 0, .string (ByteArray.mk #[])] 23)).drewN nq).cell? ⟨w.heap.size, 3, none⟩ = some (.string (ByteArray.mk #[])) := by simp [go_sem]
  have v0 : ((w.alloc (.cells #[.int .i64 0, .int .i64 0, .int .i64 0, .string (ByteArray.mk #[])] 23)).drewN nq).frozen? ⟨w.heap.size, 0, none⟩ = false := by simp [go_sem]
  have v1 : ((w.alloc (.cells #[.int .i64 0, .int .i64 0, .int .i64 0, .string (ByteArray.mk #[])] 23)).drewN nq).frozen? ⟨w.heap.size, 1, none⟩ = false := by simp [go_sem]
  have v2 : ((w.alloc (.cells #[.int .i64 0, .int .i64 0, .int .i64 0, .string (ByteArray.mk #[])] 23)).drewN nq).frozen? ⟨w.heap.size, 2, none⟩ = false := by simp [go_sem]
  have v3 : ((w.alloc (.cells #[.int .i64 0, .int .i64 0, .int .i64 0, .string (ByteArray.mk #[])] 23)).drewN nq).frozen? ⟨w.heap.size, 3, none⟩ = false := by simp [go_sem]
  have hzq : w.heap.size < ((w.alloc (.cells #[.int .i64 0, .int .i64 0, .int .i64 0, .string (ByteArray.mk #[])] 23)).drewN nq).heap.size := by simp
  have HW : Hid (Below w.heap.size w ((w.alloc (.cells #[.int .i64 0, .int .i64 0, .int .i64 0, .string (ByteArray.mk #[])] 23)).drewN nq)) := Lib.hid (below_drewN (Below.allocL (Below.refl _ _) _) _)
  generalize (w.alloc (.cells #[.int .i64 0, .int .i64 0, .int .i64 0, .string (ByteArray.mk #[])] 23)).drewN nq = wq at *
  go_wp2
  refine bodyPost_ret (v := .tuple #[.agg #[.int .i64 0, .int .i64 0, .int .i64 0, .string (ByteArray.mk #[])], .bool false]) (by simp [results, Tryd.results13, go_sem, c0, c1, c2, c3]) rfl ⟨rfl, ?_⟩
  exact ((((HW.out.setCell (p := ⟨w.heap.size, 0, none⟩) (Nat.le_refl _) _).setCell (p := ⟨w.heap.size, 1, none⟩) (Nat.le_refl _) _).setCell (p := ⟨w.heap.size, 2, none⟩) (Nat.le_refl _) _).setCell (p := ⟨w.heap.size, 3, none⟩) (Nat.le_refl _) _)

set_option maxRecDepth 100000 in
set_option maxHeartbeats 1000000 in
theorem rdec_C1_16 {s : ByteArray} (hs : s.size ≤ maxLen) (hsz : s.size = 16) (h6 : bt s 6 = 0) (h7 : bt s 7 = 0) (h50 : bt s 5 = 0) (h8 : ¬ decN s + 8 ≤ s.size) (w : World) :
    Calls Tryd.prog 13 #[.string s] w fun e w' => e = .returned (.tuple #[.agg #[.int .i64 0, .int .i64 0, .int .i64 0, .string (ByteArray.mk #[])], .bool false]) ∧ Below w.heap.size w w' := by
  have HS := Lib.hid hs
  have e1 : ((s.size : Int) == 16) = true := by simp; omega
  have e2 : ((s.size : Int) != 16) = false := by simp; omega
  have e3 : ((s.size : Int) == 72) = false := by simp; omega
  have e4 : ((s.size : Int) != 72) = true := by simp; omega
  have s0 : s.size ≤ 72 := by omega
  have s1 : 16 ≤ s.size := by omega
  have HZ : Hid (s.size = 16) := Lib.hid hsz
  have i4 : ∀ w, (Instr.index 9 (.string s) (.int .i64 4)).run Tryd.prog w = .ok (.int .u8 (bt s 4)) w := index_bt (k := 4) Tryd.underlying9 (by omega)
  have i5 : ∀ w, (Instr.index 9 (.string s) (.int .i64 5)).run Tryd.prog w = .ok (.int .u8 (bt s 5)) w := index_bt (k := 5) Tryd.underlying9 (by omega)
  have i6 : ∀ w, (Instr.index 9 (.string s) (.int .i64 6)).run Tryd.prog w = .ok (.int .u8 (bt s 6)) w := index_bt (k := 6) Tryd.underlying9 (by omega)
  have i7 : ∀ w, (Instr.index 9 (.string s) (.int .i64 7)).run Tryd.prog w = .ok (.int .u8 (bt s 7)) w := index_bt (k := 7) Tryd.underlying9 (by omega)
  have p4 := (bt_lt s 4).1
  have r4 := (bt_lt s 4).2
  have p5 := (bt_lt s 5).1
  have r5 := (bt_lt s 5).2
  have f6 : (bt s 6 == 0) = true := by simpa using h6
  have g6 : (bt s 6 != 0) = false := by simpa using h6
  have f7 : (bt s 7 == 0) = true := by simpa using h7
  have g7 : (bt s 7 != 0) = false := by simpa using h7
  rw [h50] at i5 p5 r5
  clear p5 r5
  have hN : bt s 4 = (decN s : Int) := by unfold decN; have := bt_lt s 4; omega
  have HNN := Lib.hid hN
  have HX : Hid (s.extract 8 (8 + bt s 4).toNat = decD s) := Lib.hid (by unfold decD; rw [hN]; rfl)
  have l8 : (s.size : Int) - 8 < bt s 4 := by omega
  have b8 : decide ((s.size : Int) - 8 < bt s 4) = true := by simp; omega
  clear hsz hs h6 h7 h50 h8 hN
  generalize bt s 4 = x4 at *
  generalize bt s 6 = x6 at *
  generalize bt s 7 = x7 at *
  go_enter Tryd.func13, Tryd.ntmps13
  go_wp2_with fail
  refine (rget_yes s 0 _ HS.out (by have := HZ.out; omega)).mono ?_
  rintro e w1 ⟨rfl, rfl⟩
  go_wp2_with fail
  go_quiet (fail)
  have c0 : ((w.alloc (.cells #[.int .i64 0, .int .i64 0, .int .i64 0, .string (ByteArray.mk #[])] 23)).drewN nq).cell? ⟨w.heap.size, 0, none⟩ = some (.int .i64 0) := by simp [go_sem]
  have c1 : ((w.alloc (.cells #[.int .i64 0, .int .i64 0, .int .i64 0, .string (ByteArray.mk #[])] 23)).drewN nq).cell? ⟨w.heap.size, 1, none⟩ = some (.int .i64 0) := by simp [go_sem]
  have c2 : ((w.alloc (.cells #[.int .i64 0, .int .i64 0, .int .i64 0, .string (ByteArray.mk #[])] 23)).drewN nq).cell? ⟨w.heap.size, 2, none⟩ = some (.int .i64 0) := by simp [go_sem]
  have c3 : ((w.alloc (.cells #[.int .i64 0, .int .i64 0, .int .i64 0, .string (ByteArray.mk #[])] 23)).drewN nq).cell? ⟨w.heap.size, 3, none⟩ = some (.string (ByteArray.mk #[])) := by simp [go_sem]
  have v0 : ((w.alloc (.cells #[.int .i64 0, .int .i64 0, .int .i64 0, .string (ByteArray.mk #[])] 23)).drewN nq).frozen? ⟨w.heap.size, 0, none⟩ = false := by simp [go_sem]
  have v1 : ((w.alloc (.cells #[.int .i64 0, .int .i64 0, .int .i64 0, .string (ByteArray.mk #[])] 23)).drewN nq).frozen? ⟨w.heap.size, 1, none⟩ = false := by simp [go_sem]
  have v2 : ((w.alloc (.cells #[.int .i64 0, .int .i64 0, .int .i64 0, .string (ByteArray.mk #[])] 23)).drewN nq).frozen? ⟨w.heap.size, 2, none⟩ = false := by simp [go_sem]
  have v3 : ((w.alloc (.cells #[.int .i64 0, .int .i64 0, .int .i64 0, .string (ByteArray.mk #[])] 23)).drewN nq).frozen? ⟨w.heap.size, 3, none⟩ = false := by simp [go_sem]
  have hzq : w.heap.size < ((w.alloc (.cells #[.int .i64 0, .int .i64 0, .int .i64 0, .string (ByteArray.mk #[])] 23)).drewN nq).heap.size := by simp
  have HW : Hid (Below w.heap.size w ((w.alloc (.cells #[.int .i64 0, .int .i64 0, .int .i64 0, .string (ByteArray.mk #[])] 23)).drewN nq)) := Lib.hid (below_drewN (Below.allocL (Below.refl _ _) _) _)
  generalize (w.alloc (.cells #[.int .i64 0, .int .i64 0, .int .i64 0, .string (ByteArray.mk #[])] 23)).drewN nq = wq at *
  go_wp2
  refine bodyPost_ret (v := .tuple #[.agg #[.int .i64 0, .int .i64 0, .int .i64 0, .string (ByteArray.mk #[])], .bool false]) (by simp [results, Tryd.results13, go_sem, c0, c1, c2, c3]) rfl ⟨rfl, ?_⟩
  exact ((((HW.out.setCell (p := ⟨w.heap.size, 0, none⟩) (Nat.le_refl _) _).setCell (p := ⟨w.heap.size, 1, none⟩) (Nat.le_refl _) _).setCell (p := ⟨w.heap.size, 2, none⟩) (Nat.le_refl _) _).setCell (p := ⟨w.heap.size, 3, none⟩) (Nat.le_refl _) _)

set_option maxRecDepth 100000 in
set_option maxHeartbeats 1000000 in
theorem rdec_C2_16 {s : ByteArray} (hs : s.size ≤ maxLen) (hsz : s.size = 16) (h6 : bt s 6 = 0) (h7 : bt s 7 = 0) (h50 : bt s 5 = 0) (h8 : decN s + 8 ≤ s.size) (h9 : zeroB s (8 + decN s) s.size = false) (w : World) :
    Calls Tryd.prog 13 #[.string s] w fun e w' => e = .returned (.tuple #[.agg #[.int .i64 0, .int .i64 0, .int .i64 0, .string (ByteArray.mk #[])], .bool false]) ∧ Below w.heap.size w w' := by
  have HS := Lib.hid hs
  have e1 : ((s.size : Int) == 16) = true := by simp; omega
  have e2 : ((s.size : Int) != 16) = false := by simp; omega
  have e3 : ((s.size : Int) == 72) = false := by simp; omega
  have e4 : ((s.size : Int) != 72) = true := by simp; omega
  have s0 : s.size ≤ 72 := by omega
  have s1 : 16 ≤ s.size := by omega
  have HZ : Hid (s.size = 16) := Lib.hid hsz
  have i4 : ∀ w, (Instr.index 9 (.string s) (.int .i64 4)).run Tryd.prog w = .ok (.int .u8 (bt s 4)) w := index_bt (k := 4) Tryd.underlying9 (by omega)
  have i5 : ∀ w, (Instr.index 9 (.string s) (.int .i64 5)).run Tryd.prog w = .ok (.int .u8 (bt s 5)) w := index_bt (k := 5) Tryd.underlying9 (by omega)
  have i6 : ∀ w, (Instr.index 9 (.string s) (.int .i64 6)).run Tryd.prog w = .ok (.int .u8 (bt s 6)) w := index_bt (k := 6) Tryd.underlying9 (by omega)
  have i7 : ∀ w, (Instr.index 9 (.string s) (.int .i64 7)).run Tryd.prog w = .ok (.int .u8 (bt s 7)) w := index_bt (k := 7) Tryd.underlying9 (by omega)
  have p4 := (bt_lt s 4).1
  have r4 := (bt_lt s 4).2
  have p5 := (bt_lt s 5).1
  have r5 := (bt_lt s 5).2
  have f6 : (bt s 6 == 0) = true := by simpa using h6
  have g6 : (bt s 6 != 0) = false := by simpa using h6
  have f7 : (bt s 7 == 0) = true := by simpa using h7
  have g7 : (bt s 7 != 0) = false := by simpa using h7
  rw [h50] at i5 p5 r5
  clear p5 r5
  have hN : bt s 4 = (decN s : Int) := by unfold decN; have := bt_lt s 4; omega
  have HNN := Lib.hid hN
  have HX : Hid (s.extract 8 (8 + bt s 4).toNat = decD s) := Lib.hid (by unfold decD; rw [hN]; rfl)
  have l8 : bt s 4 ≤ (s.size : Int) - 8 := by omega
  have b8 : decide ((s.size : Int) - 8 < bt s 4) = false := by simp; omega
  have HNB : Hid (decN s + 8 ≤ s.size) := Lib.hid h8
  have HQ := Lib.hid h9
  clear hsz hs h6 h7 h50 h8 h9 hN
  generalize bt s 4 = x4 at *
  generalize bt s 6 = x6 at *
  generalize bt s 7 = x7 at *
  go_enter Tryd.func13, Tryd.ntmps13
  go_wp2_with fail
  refine (rget_yes s 0 _ HS.out (by have := HZ.out; omega)).mono ?_
  rintro e w1 ⟨rfl, rfl⟩
  go_wp2_with fail
  go_quiet (fail)
  have c0 : ((w.alloc (.cells #[.int .i64 0, .int .i64 0, .int .i64 0, .string (ByteArray.mk #[])] 23)).drewN nq).cell? ⟨w.heap.size, 0, none⟩ = some (.int .i64 0) := by simp [go_sem]
  have c1 : ((w.alloc (.cells #[.int .i64 0, .int .i64 0, .int .i64 0, .string (ByteArray.mk #[])] 23)).drewN nq).cell? ⟨w.heap.size, 1, none⟩ = some (.int .i64 0) := by simp [go_sem]
  have c2 : ((w.alloc (.cells #[.int .i64 0, .int .i64 0, .int .i64 0, .string (ByteArray.mk #[])] 23)).drewN nq).cell? ⟨w.heap.size, 2, none⟩ = some (.int .i64 0) := by simp [go_sem]
  have c3 : ((w.alloc (.cells #[.int .i64 0, .int .i64 0, .int .i64 0, .string (ByteArray.mk #[])] 23)).drewN nq).cell? ⟨w.heap.size, 3, none⟩ = some (.string (ByteArray.mk #[])) := by simp [go_sem]
  have v0 : ((w.alloc (.cells #[.int .i64 0, .int .i64 0, .int .i64 0, .string (ByteArray.mk #[])] 23)).drewN nq).frozen? ⟨w.heap.size, 0, none⟩ = false := by simp [go_sem]
  have v1 : ((w.alloc (.cells #[.int .i64 0, .int .i64 0, .int .i64 0, .string (ByteArray.mk #[])] 23)).drewN nq).frozen? ⟨w.heap.size, 1, none⟩ = false := by simp [go_sem]
  have v2 : ((w.alloc (.cells #[.int .i64 0, .int .i64 0, .int .i64 0, .string (ByteArray.mk #[])] 23)).drewN nq).frozen? ⟨w.heap.size, 2, none⟩ = false := by simp [go_sem]
  have v3 : ((w.alloc (.cells #[.int .i64 0, .int .i64 0, .int .i64 0, .string (ByteArray.mk #[])] 23)).drewN nq).frozen? ⟨w.heap.size, 3, none⟩ = false := by simp [go_sem]
  have hzq : w.heap.size < ((w.alloc (.cells #[.int .i64 0, .int .i64 0, .int .i64 0, .string (ByteArray.mk #[])] 23)).drewN nq).heap.size := by simp
  have HW : Hid (Below w.heap.size w ((w.alloc (.cells #[.int .i64 0, .int .i64 0, .int .i64 0, .string (ByteArray.mk #[])] 23)).drewN nq)) := Lib.hid (below_drewN (Below.allocL (Below.refl _ _) _) _)
  generalize (w.alloc (.cells #[.int .i64 0, .int .i64 0, .int .i64 0, .string (ByteArray.mk #[])] 23)).drewN nq = wq at *
  go_wp2_with fail
  refine (rzero_v (a := 8 + decN s) (b := s.size) HQ.out (by rw [HNN.out]; simp) rfl (Nat.le_refl _) HS.out (by have := HZ.out; have := HNB.out; unfold maxLen; omega) _).mono ?_
  rintro e w1 ⟨rfl, rfl⟩
  clear e1 e2 e3 e4 i4 i5 i6 i7 f6 g6 f7 g7
  go_wp2
  refine bodyPost_ret (v := .tuple #[.agg #[.int .i64 0, .int .i64 0, .int .i64 0, .string (ByteArray.mk #[])], .bool false]) (by simp [results, Tryd.results13, go_sem, c0, c1, c2, c3]) rfl ⟨rfl, ?_⟩
  exact ((((HW.out.setCell (p := ⟨w.heap.size, 0, none⟩) (Nat.le_refl _) _).setCell (p := ⟨w.heap.size, 1, none⟩) (Nat.le_refl _) _).setCell (p := ⟨w.heap.size, 2, none⟩) (Nat.le_refl _) _).setCell (p := ⟨w.heap.size, 3, none⟩) (Nat.le_refl _) _)

set_option maxRecDepth 100000 in
set_option maxHeartbeats 1000000 in
theorem rdec_D1 {s : ByteArray} (hs : s.size ≤ maxLen) (hsz : s.size = 16) (h6 : bt s 6 = 0) (h7 : bt s 7 = 0) (h50 : bt s 5 = 0) (h8 : decN s + 8 ≤ s.size) (h9 : zeroB s (8 + decN s) s.size = true) (h10 : okOf (num4 s 0) (decD s) = false) (w : World) :
    Calls Tryd.prog 13 #[.string s] w fun e w' => e = .returned (.tuple #[.agg #[.int .i64 0, .int .i64 0, .int .i64 0, .string (ByteArray.mk #[])], .bool false]) ∧ Below w.heap.size w w' := by
  have HS := Lib.hid hs
  have e1 : ((s.size : Int) == 16) = true := by simp; omega
  have e2 : ((s.size : Int) != 16) = false := by simp; omega
  have e3 : ((s.size : Int) == 72) = false := by simp; omega
  have e4 : ((s.size : Int) != 72) = true := by simp; omega
  have s0 : s.size ≤ 72 := by omega
  have s1 : 16 ≤ s.size := by omega
  have HZ : Hid (s.size = 16) := Lib.hid hsz
  have i4 : ∀ w, (Instr.index 9 (.string s) (.int .i64 4)).run Tryd.prog w = .ok (.int .u8 (bt s 4)) w := index_bt (k := 4) Tryd.underlying9 (by omega)
  have i5 : ∀ w, (Instr.index 9 (.string s) (.int .i64 5)).run Tryd.prog w = .ok (.int .u8 (bt s 5)) w := index_bt (k := 5) Tryd.underlying9 (by omega)
  have i6 : ∀ w, (Instr.index 9 (.string s) (.int .i64 6)).run Tryd.prog w = .ok (.int .u8 (bt s 6)) w := index_bt (k := 6) Tryd.underlying9 (by omega)
  have i7 : ∀ w, (Instr.index 9 (.string s) (.int .i64 7)).run Tryd.prog w = .ok (.int .u8 (bt s 7)) w := index_bt (k := 7) Tryd.underlying9 (by omega)
  have p4 := (bt_lt s 4).1
  have r4 := (bt_lt s 4).2
  have p5 := (bt_lt s 5).1
  have r5 := (bt_lt s 5).2
  have f6 : (bt s 6 == 0) = true := by simpa using h6
  have g6 : (bt s 6 != 0) = false := by simpa using h6
  have f7 : (bt s 7 == 0) = true := by simpa using h7
  have g7 : (bt s 7 != 0) = false := by simpa using h7
  rw [h50] at i5 p5 r5
  clear p5 r5
  have hN : bt s 4 = (decN s : Int) := by unfold decN; have := bt_lt s 4; omega
  have HNN := Lib.hid hN
  have HX : Hid (s.extract 8 (8 + bt s 4).toNat = decD s) := Lib.hid (by unfold decD; rw [hN]; rfl)
  have l8 : bt s 4 ≤ (s.size : Int) - 8 := by omega
  have b8 : decide ((s.size : Int) - 8 < bt s 4) = false := by simp; omega
  have HNB : Hid (decN s + 8 ≤ s.size) := Lib.hid h8
  have HQ := Lib.hid h9
  have W0 := Lib.hid (num4_lt s 0).1
  have W1 : Hid (num4 s 0 < 4294967296) := Lib.hid (by have := (num4_lt s 0).2; omega)
  have HDS : Hid ((decD s).size ≤ maxLen) := Lib.hid (by unfold decD maxLen; rw [sub_size _ _ _ (by omega)]; omega)
  have HO := Lib.hid h10
  clear hsz hs h6 h7 h50 h8 h9 h10 hN
  generalize bt s 4 = x4 at *
  generalize bt s 6 = x6 at *
  generalize bt s 7 = x7 at *
  go_enter Tryd.func13, Tryd.ntmps13
  go_wp2_with fail
  refine (rget_yes s 0 _ HS.out (by have := HZ.out; omega)).mono ?_
  rintro e w1 ⟨rfl, rfl⟩
  go_wp2_with fail
  go_quiet (fail)
  have c0 : ((w.alloc (.cells #[.int .i64 0, .int .i64 0, .int .i64 0, .string (ByteArray.mk #[])] 23)).drewN nq).cell? ⟨w.heap.size, 0, none⟩ = some (.int .i64 0) := by simp [go_sem]
  have c1 : ((w.alloc (.cells #[.int .i64 0, .int .i64 0, .int .i64 0, .string (ByteArray.mk #[])] 23)).drewN nq).cell? ⟨w.heap.size, 1, none⟩ = some (.int .i64 0) := by simp [go_sem]
  have c2 : ((w.alloc (.cells #[.int .i64 0, .int .i64 0, .int .i64 0, .string (ByteArray.mk #[])] 23)).drewN nq).cell? ⟨w.heap.size, 2, none⟩ = some (.int .i64 0) := by simp [go_sem]
  have c3 : ((w.alloc (.cells #[.int .i64 0, .int .i64 0, .int .i64 0, .string (ByteArray.mk #[])] 23)).drewN nq).cell? ⟨w.heap.size, 3, none⟩ = some (.string (ByteArray.mk #[])) := by simp [go_sem]
  have v0 : ((w.alloc (.cells #[.int .i64 0, .int .i64 0, .int .i64 0, .string (ByteArray.mk #[])] 23)).drewN nq).frozen? ⟨w.heap.size, 0, none⟩ = false := by simp [go_sem]
  have v1 : ((w.alloc (.cells #[.int .i64 0, .int .i64 0, .int .i64 0, .string (ByteArray.mk #[])] 23)).drewN nq).frozen? ⟨w.heap.size, 1, none⟩ = false := by simp [go_sem]
  have v2 : ((w.alloc (.cells #[.int .i64 0, .int .i64 0, .int .i64 0, .string (ByteArray.mk #[])] 23)).drewN nq).frozen? ⟨w.heap.size, 2, none⟩ = false := by simp [go_sem]
  have v3 : ((w.alloc (.cells #[.int .i64 0, .int .i64 0, .int .i64 0, .string (ByteArray.mk #[])] 23)).drewN nq).frozen? ⟨w.heap.size, 3, none⟩ = false := by simp [go_sem]
  have hzq : w.heap.size < ((w.alloc (.cells #[.int .i64 0, .int .i64 0, .int .i64 0, .string (ByteArray.mk #[])] 23)).drewN nq).heap.size := by simp
  have HW : Hid (Below w.heap.size w ((w.alloc (.cells #[.int .i64 0, .int .i64 0, .int .i64 0, .string (ByteArray.mk #[])] 23)).drewN nq)) := Lib.hid (below_drewN (Below.allocL (Below.refl _ _) _) _)
  generalize (w.alloc (.cells #[.int .i64 0, .int .i64 0, .int .i64 0, .string (ByteArray.mk #[])] 23)).drewN nq = wq at *
  go_wp2_with fail
  refine (rzero_v (a := 8 + decN s) (b := s.size) HQ.out (by rw [HNN.out]; simp) rfl (Nat.le_refl _) HS.out (by have := HZ.out; have := HNB.out; unfold maxLen; omega) _).mono ?_
  rintro e w1 ⟨rfl, rfl⟩
  clear e1 e2 e3 e4 i4 i5 i6 i7 f6 g6 f7 g7
  go_wp2_with fail
  rw [HX.out]
  refine (rof_f W0.out W1.out HDS.out HO.out _).mono ?_
  rintro e w1 ⟨rfl, hb⟩
  obtain ⟨hc, hf⟩ := fbcell hb
  have hz1 : w.heap.size < w1.heap.size := Nat.lt_of_lt_of_le hzq hb.size
  have HB1 := Lib.hid (fbelow_t HW.out hb)
  have d0 : w1.cell? ⟨w.heap.size, 0, none⟩ = some (.int .i64 0) := by rw [hc _ _ hzq]; exact c0
  have d1 : w1.cell? ⟨w.heap.size, 1, none⟩ = some (.int .i64 0) := by rw [hc _ _ hzq]; exact c1
  have d2 : w1.cell? ⟨w.heap.size, 2, none⟩ = some (.int .i64 0) := by rw [hc _ _ hzq]; exact c2
  have d3 : w1.cell? ⟨w.heap.size, 3, none⟩ = some (.string (ByteArray.mk #[])) := by rw [hc _ _ hzq]; exact c3
  go_wp2
  refine bodyPost_ret (v := .tuple #[.agg #[.int .i64 0, .int .i64 0, .int .i64 0, .string (ByteArray.mk #[])], .bool false]) (by simp [results, Tryd.results13, go_sem, d0, d1, d2, d3, hz1]) rfl ⟨rfl, ?_⟩
  exact Below.allocL ((((HB1.out.setCell (p := ⟨w.heap.size, 0, none⟩) (Nat.le_refl _) _).setCell (p := ⟨w.heap.size, 1, none⟩) (Nat.le_refl _) _).setCell (p := ⟨w.heap.size, 2, none⟩) (Nat.le_refl _) _).setCell (p := ⟨w.heap.size, 3, none⟩) (Nat.le_refl _) _) _

set_option maxRecDepth 100000 in
set_option maxHeartbeats 1000000 in
theorem rdec_D2 {s : ByteArray} (hs : s.size ≤ maxLen) (hsz : s.size = 16) (h6 : bt s 6 = 0) (h7 : bt s 7 = 0) (h50 : bt s 5 = 0) (h8 : decN s + 8 ≤ s.size) (h9 : zeroB s (8 + decN s) s.size = true) (h10 : okOf (num4 s 0) (decD s) = true) (h11 : wR (num4 s 0) = true) (h12 : zeroB s 8 s.size = false) (w : World) :
    Calls Tryd.prog 13 #[.string s] w fun e w' => e = .returned (.tuple #[.agg #[.int .i64 0, .int .i64 0, .int .i64 0, .string (ByteArray.mk #[])], .bool false]) ∧ Below w.heap.size w w' := by
  have HS := Lib.hid hs
  have e1 : ((s.size : Int) == 16) = true := by simp; omega
  have e2 : ((s.size : Int) != 16) = false := by simp; omega
  have e3 : ((s.size : Int) == 72) = false := by simp; omega
  have e4 : ((s.size : Int) != 72) = true := by simp; omega
  have s0 : s.size ≤ 72 := by omega
  have s1 : 16 ≤ s.size := by omega
  have HZ : Hid (s.size = 16) := Lib.hid hsz
  have i4 : ∀ w, (Instr.index 9 (.string s) (.int .i64 4)).run Tryd.prog w = .ok (.int .u8 (bt s 4)) w := index_bt (k := 4) Tryd.underlying9 (by omega)
  have i5 : ∀ w, (Instr.index 9 (.string s) (.int .i64 5)).run Tryd.prog w = .ok (.int .u8 (bt s 5)) w := index_bt (k := 5) Tryd.underlying9 (by omega)
  have i6 : ∀ w, (Instr.index 9 (.string s) (.int .i64 6)).run Tryd.prog w = .ok (.int .u8 (bt s 6)) w := index_bt (k := 6) Tryd.underlying9 (by omega)
  have i7 : ∀ w, (Instr.index 9 (.string s) (.int .i64 7)).run Tryd.prog w = .ok (.int .u8 (bt s 7)) w := index_bt (k := 7) Tryd.underlying9 (by omega)
  have p4 := (bt_lt s 4).1
  have r4 := (bt_lt s 4).2
  have p5 := (bt_lt s 5).1
  have r5 := (bt_lt s 5).2
  have f6 : (bt s 6 == 0) = true := by simpa using h6
  have g6 : (bt s 6 != 0) = false := by simpa using h6
  have f7 : (bt s 7 == 0) = true := by simpa using h7
  have g7 : (bt s 7 != 0) = false := by simpa using h7
  rw [h50] at i5 p5 r5
  clear p5 r5
  have hN : bt s 4 = (decN s : Int) := by unfold decN; have := bt_lt s 4; omega
  have HNN := Lib.hid hN
  have HX : Hid (s.extract 8 (8 + bt s 4).toNat = decD s) := Lib.hid (by unfold decD; rw [hN]; rfl)
  have l8 : bt s 4 ≤ (s.size : Int) - 8 := by omega
  have b8 : decide ((s.size : Int) - 8 < bt s 4) = false := by simp; omega
  have HNB : Hid (decN s + 8 ≤ s.size) := Lib.hid h8
  have HQ := Lib.hid h9
  have W0 := Lib.hid (num4_lt s 0).1
  have W1 : Hid (num4 s 0 < 4294967296) := Lib.hid (by have := (num4_lt s 0).2; omega)
  have HDS : Hid ((decD s).size ≤ maxLen) := Lib.hid (by unfold decD maxLen; rw [sub_size _ _ _ (by omega)]; omega)
  have HO := Lib.hid h10
  have HR : Hid (fR (nOf (num4 s 0)) = true) := Lib.hid (by rw [fR_nOf]; exact h11)
  have HQ2 := Lib.hid h12
  clear hsz hs h6 h7 h50 h8 h9 h10 h11 h12 hN
  generalize bt s 4 = x4 at *
  generalize bt s 6 = x6 at *
  generalize bt s 7 = x7 at *
  go_enter Tryd.func13, Tryd.ntmps13
  go_wp2_with fail
  refine (rget_yes s 0 _ HS.out (by have := HZ.out; omega)).mono ?_
  rintro e w1 ⟨rfl, rfl⟩
  go_wp2_with fail
  go_quiet (fail)
  have c0 : ((w.alloc (.cells #[.int .i64 0, .int .i64 0, .int .i64 0, .string (ByteArray.mk #[])] 23)).drewN nq).cell? ⟨w.heap.size, 0, none⟩ = some (.int .i64 0) := by simp [go_sem]
  have c1 : ((w.alloc (.cells #[.int .i64 0, .int .i64 0, .int .i64 0, .string (ByteArray.mk #[])] 23)).drewN nq).cell? ⟨w.heap.size, 1, none⟩ = some (.int .i64 0) := by simp [go_sem]
  have c2 : ((w.alloc (.cells #[.int .i64 0, .int .i64 0, .int .i64 0, .string (ByteArray.mk #[])] 23)).drewN nq).cell? ⟨w.heap.size, 2, none⟩ = some (.int .i64 0) := by simp [go_sem]
  have c3 : ((w.alloc (.cells #[.int .i64 0, .int .i64 0, .int .i64 0, .string (ByteArray.mk #[])] 23)).drewN nq).cell? ⟨w.heap.size, 3, none⟩ = some (.string (ByteArray.mk #[])) := by simp [go_sem]
  have v0 : ((w.alloc (.cells #[.int .i64 0, .int .i64 0, .int .i64 0, .string (ByteArray.mk #[])] 23)).drewN nq).frozen? ⟨w.heap.size, 0, none⟩ = false := by simp [go_sem]
  have v1 : ((w.alloc (.cells #[.int .i64 0, .int .i64 0, .int .i64 0, .string (ByteArray.mk #[])] 23)).drewN nq).frozen? ⟨w.heap.size, 1, none⟩ = false := by simp [go_sem]
  have v2 : ((w.alloc (.cells #[.int .i64 0, .int .i64 0, .int .i64 0, .string (ByteArray.mk #[])] 23)).drewN nq).frozen? ⟨w.heap.size, 2, none⟩ = false := by simp [go_sem]
  have v3 : ((w.alloc (.cells #[.int .i64 0, .int .i64 0, .int .i64 0, .string (ByteArray.mk #[])] 23)).drewN nq).frozen? ⟨w.heap.size, 3, none⟩ = false := by simp [go_sem]
  have hzq : w.heap.size < ((w.alloc (.cells #[.int .i64 0, .int .i64 0, .int .i64 0, .string (ByteArray.mk #[])] 23)).drewN nq).heap.size := by simp
  have HW : Hid (Below w.heap.size w ((w.alloc (.cells #[.int .i64 0, .int .i64 0, .int .i64 0, .string (ByteArray.mk #[])] 23)).drewN nq)) := Lib.hid (below_drewN (Below.allocL (Below.refl _ _) _) _)
  generalize (w.alloc (.cells #[.int .i64 0, .int .i64 0, .int .i64 0, .string (ByteArray.mk #[])] 23)).drewN nq = wq at *
  go_wp2_with fail
  refine (rzero_v (a := 8 + decN s) (b := s.size) HQ.out (by rw [HNN.out]; simp) rfl (Nat.le_refl _) HS.out (by have := HZ.out; have := HNB.out; unfold maxLen; omega) _).mono ?_
  rintro e w1 ⟨rfl, rfl⟩
  clear e1 e2 e3 e4 i4 i5 i6 i7 f6 g6 f7 g7
  go_wp2_with fail
  rw [HX.out]
  refine (rof_t W0.out W1.out HDS.out HO.out _).mono ?_
  rintro e w1 ⟨rfl, hb⟩
  obtain ⟨hc, hf⟩ := fbcell hb
  have hz1 : w.heap.size < w1.heap.size := Nat.lt_of_lt_of_le hzq hb.size
  have HB1 := Lib.hid (fbelow_t HW.out hb)
  have d0 : w1.cell? ⟨w.heap.size, 0, none⟩ = some (.int .i64 0) := by rw [hc _ _ hzq]; exact c0
  have d1 : w1.cell? ⟨w.heap.size, 1, none⟩ = some (.int .i64 0) := by rw [hc _ _ hzq]; exact c1
  have d2 : w1.cell? ⟨w.heap.size, 2, none⟩ = some (.int .i64 0) := by rw [hc _ _ hzq]; exact c2
  have d3 : w1.cell? ⟨w.heap.size, 3, none⟩ = some (.string (ByteArray.mk #[])) := by rw [hc _ _ hzq]; exact c3
  go_wp2_with fail
  refine (has2 (n := nOf (num4 s 0)) HR.out (nOf_bd _).1 (by have := nOf_bd (num4 s 0); omega) _ _ _ _).mono ?_
  rintro e w2 ⟨rfl, hb2⟩
  obtain ⟨hc2, hf2⟩ := fbcell hb2
  have hz2 : w1.heap.size < w2.heap.size := by have := hb2.size; simp only [World.size_alloc] at this; omega
  have hz3 : w.heap.size < w2.heap.size := by omega
  have HB2 := Lib.hid (fbelow_t (Below.allocL HB1.out _) hb2)
  have k0 : w2.cell? ⟨w.heap.size, 0, none⟩ = some (.int .i64 0) := by rw [hc2 _ _ (by simp only [World.size_alloc]; omega), World.cell?_alloc_lt _ _ _ hz1]; exact d0
  have k1 : w2.cell? ⟨w.heap.size, 1, none⟩ = some (.int .i64 0) := by rw [hc2 _ _ (by simp only [World.size_alloc]; omega), World.cell?_alloc_lt _ _ _ hz1]; exact d1
  have k2 : w2.cell? ⟨w.heap.size, 2, none⟩ = some (.int .i64 0) := by rw [hc2 _ _ (by simp only [World.size_alloc]; omega), World.cell?_alloc_lt _ _ _ hz1]; exact d2
  have k3 : w2.cell? ⟨w.heap.size, 3, none⟩ = some (.string (ByteArray.mk #[])) := by rw [hc2 _ _ (by simp only [World.size_alloc]; omega), World.cell?_alloc_lt _ _ _ hz1]; exact d3
  go_wp2_with fail
  refine (rzero_v (a := 8) (b := s.size) HQ2.out rfl rfl (Nat.le_refl _) HS.out (by decide) _).mono ?_
  rintro e w3 ⟨rfl, rfl⟩
  go_wp2
  refine bodyPost_ret (v := .tuple #[.agg #[.int .i64 0, .int .i64 0, .int .i64 0, .string (ByteArray.mk #[])], .bool false]) (by simp [results, Tryd.results13, go_sem, k0, k1, k2, k3]) rfl ⟨rfl, ?_⟩
  exact ((((HB2.out.setCell (p := ⟨w.heap.size, 0, none⟩) (Nat.le_refl _) _).setCell (p := ⟨w.heap.size, 1, none⟩) (Nat.le_refl _) _).setCell (p := ⟨w.heap.size, 2, none⟩) (Nat.le_refl _) _).setCell (p := ⟨w.heap.size, 3, none⟩) (Nat.le_refl _) _)

set_option maxRecDepth 100000 in
set_option maxHeartbeats 1000000 in
theorem rdec_E1 {s : ByteArray} (hs : s.size ≤ maxLen) (hsz : s.size = 16) (h6 : bt s 6 = 0) (h7 : bt s 7 = 0) (h50 : bt s 5 = 0) (h8 : decN s + 8 ≤ s.size) (h9 : zeroB s (8 + decN s) s.size = true) (h10 : okOf (num4 s 0) (decD s) = true) (h11 : wR (num4 s 0) = true) (h12 : zeroB s 8 s.size = true) (w : World) :
    Calls Tryd.prog 13 #[.string s] w fun e w' => e = .returned (.tuple #[.agg #[.int .i64 (decF s).i, .int .i64 (decF s).n, .int .i64 (decF s).l, .string (decF s).d], .bool true]) ∧ Below w.heap.size w w' := by
  have HS := Lib.hid hs
  have e1 : ((s.size : Int) == 16) = true := by simp; omega
  have e2 : ((s.size : Int) != 16) = false := by simp; omega
  have e3 : ((s.size : Int) == 72) = false := by simp; omega
  have e4 : ((s.size : Int) != 72) = true := by simp; omega
  have s0 : s.size ≤ 72 := by omega
  have s1 : 16 ≤ s.size := by omega
  have HZ : Hid (s.size = 16) := Lib.hid hsz
  have i4 : ∀ w, (Instr.index 9 (.string s) (.int .i64 4)).run Tryd.prog w = .ok (.int .u8 (bt s 4)) w := index_bt (k := 4) Tryd.underlying9 (by omega)
  have i5 : ∀ w, (Instr.index 9 (.string s) (.int .i64 5)).run Tryd.prog w = .ok (.int .u8 (bt s 5)) w := index_bt (k := 5) Tryd.underlying9 (by omega)
  have i6 : ∀ w, (Instr.index 9 (.string s) (.int .i64 6)).run Tryd.prog w = .ok (.int .u8 (bt s 6)) w := index_bt (k := 6) Tryd.underlying9 (by omega)
  have i7 : ∀ w, (Instr.index 9 (.string s) (.int .i64 7)).run Tryd.prog w = .ok (.int .u8 (bt s 7)) w := index_bt (k := 7) Tryd.underlying9 (by omega)
  have p4 := (bt_lt s 4).1
  have r4 := (bt_lt s 4).2
  have p5 := (bt_lt s 5).1
  have r5 := (bt_lt s 5).2
  have f6 : (bt s 6 == 0) = true := by simpa using h6
  have g6 : (bt s 6 != 0) = false := by simpa using h6
  have f7 : (bt s 7 == 0) = true := by simpa using h7
  have g7 : (bt s 7 != 0) = false := by simpa using h7
  rw [h50] at i5 p5 r5
  clear p5 r5
  have hN : bt s 4 = (decN s : Int) := by unfold decN; have := bt_lt s 4; omega
  have HNN := Lib.hid hN
  have HX : Hid (s.extract 8 (8 + bt s 4).toNat = decD s) := Lib.hid (by unfold decD; rw [hN]; rfl)
  have l8 : bt s 4 ≤ (s.size : Int) - 8 := by omega
  have b8 : decide ((s.size : Int) - 8 < bt s 4) = false := by simp; omega
  have HNB : Hid (decN s + 8 ≤ s.size) := Lib.hid h8
  have HQ := Lib.hid h9
  have W0 := Lib.hid (num4_lt s 0).1
  have W1 : Hid (num4 s 0 < 4294967296) := Lib.hid (by have := (num4_lt s 0).2; omega)
  have HDS : Hid ((decD s).size ≤ maxLen) := Lib.hid (by unfold decD maxLen; rw [sub_size _ _ _ (by omega)]; omega)
  have HD : Hid (decF s = ⟨num4 s 0 % 536870912, nOf (num4 s 0), (decD s).size, dOf (num4 s 0) (decD s)⟩) := Lib.hid (by unfold decF isFd; rw [decide_eq_false (by omega)]; rfl)
  have HO := Lib.hid h10
  have HR : Hid (fR (nOf (num4 s 0)) = true) := Lib.hid (by rw [fR_nOf]; exact h11)
  have HQ2 := Lib.hid h12
  clear hsz hs h6 h7 h50 h8 h9 h10 h11 h12 hN
  generalize bt s 4 = x4 at *
  generalize bt s 6 = x6 at *
  generalize bt s 7 = x7 at *
  go_enter Tryd.func13, Tryd.ntmps13
  go_wp2_with fail
  refine (rget_yes s 0 _ HS.out (by have := HZ.out; omega)).mono ?_
  rintro e w1 ⟨rfl, rfl⟩
  go_wp2_with fail
  go_quiet (fail)
  have c0 : ((w.alloc (.cells #[.int .i64 0, .int .i64 0, .int .i64 0, .string (ByteArray.mk #[])] 23)).drewN nq).cell? ⟨w.heap.size, 0, none⟩ = some (.int .i64 0) := by simp [go_sem]
  have c1 : ((w.alloc (.cells #[.int .i64 0, .int .i64 0, .int .i64 0, .string (ByteArray.mk #[])] 23)).drewN nq).cell? ⟨w.heap.size, 1, none⟩ = some (.int .i64 0) := by simp [go_sem]
  have c2 : ((w.alloc (.cells #[.int .i64 0, .int .i64 0, .int .i64 0, .string (ByteArray.mk #[])] 23)).drewN nq).cell? ⟨w.heap.size, 2, none⟩ = some (.int .i64 0) := by simp [go_sem]
  have c3 : ((w.alloc (.cells #[.int .i64 0, .int .i64 0, .int .i64 0, .string (ByteArray.mk #[])] 23)).drewN nq).cell? ⟨w.heap.size, 3, none⟩ = some (.string (ByteArray.mk #[])) := by simp [go_sem]
  have v0 : ((w.alloc (.cells #[.int .i64 0, .int .i64 0, .int .i64 0, .string (ByteArray.mk #[])] 23)).drewN nq).frozen? ⟨w.heap.size, 0, none⟩ = false := by simp [go_sem]
  have v1 : ((w.alloc (.cells #[.int .i64 0, .int .i64 0, .int .i64 0, .string (ByteArray.mk #[])] 23)).drewN nq).frozen? ⟨w.heap.size, 1, none⟩ = false := by simp [go_sem]
  have v2 : ((w.alloc (.cells #[.int .i64 0, .int .i64 0, .int .i64 0, .string (ByteArray.mk #[])] 23)).drewN nq).frozen? ⟨w.heap.size, 2, none⟩ = false := by simp [go_sem]
  have v3 : ((w.alloc (.cells #[.int .i64 0, .int .i64 0, .int .i64 0, .string (ByteArray.mk #[])] 23)).drewN nq).frozen? ⟨w.heap.size, 3, none⟩ = false := by simp [go_sem]
  have hzq : w.heap.size < ((w.alloc (.cells #[.int .i64 0, .int .i64 0, .int .i64 0, .string (ByteArray.mk #[])] 23)).drewN nq).heap.size := by simp
  have HW : Hid (Below w.heap.size w ((w.alloc (.cells #[.int .i64 0, .int .i64 0, .int .i64 0, .string (ByteArray.mk #[])] 23)).drewN nq)) := Lib.hid (below_drewN (Below.allocL (Below.refl _ _) _) _)
  generalize (w.alloc (.cells #[.int .i64 0, .int .i64 0, .int .i64 0, .string (ByteArray.mk #[])] 23)).drewN nq = wq at *
  go_wp2_with fail
  refine (rzero_v (a := 8 + decN s) (b := s.size) HQ.out (by rw [HNN.out]; simp) rfl (Nat.le_refl _) HS.out (by have := HZ.out; have := HNB.out; unfold maxLen; omega) _).mono ?_
  rintro e w1 ⟨rfl, rfl⟩
  clear e1 e2 e3 e4 i4 i5 i6 i7 f6 g6 f7 g7
  go_wp2_with fail
  rw [HX.out]
  refine (rof_t W0.out W1.out HDS.out HO.out _).mono ?_
  rintro e w1 ⟨rfl, hb⟩
  obtain ⟨hc, hf⟩ := fbcell hb
  have hz1 : w.heap.size < w1.heap.size := Nat.lt_of_lt_of_le hzq hb.size
  have HB1 := Lib.hid (fbelow_t HW.out hb)
  have d0 : w1.cell? ⟨w.heap.size, 0, none⟩ = some (.int .i64 0) := by rw [hc _ _ hzq]; exact c0
  have d1 : w1.cell? ⟨w.heap.size, 1, none⟩ = some (.int .i64 0) := by rw [hc _ _ hzq]; exact c1
  have d2 : w1.cell? ⟨w.heap.size, 2, none⟩ = some (.int .i64 0) := by rw [hc _ _ hzq]; exact c2
  have d3 : w1.cell? ⟨w.heap.size, 3, none⟩ = some (.string (ByteArray.mk #[])) := by rw [hc _ _ hzq]; exact c3
  go_wp2_with fail
  refine (has2 (n := nOf (num4 s 0)) HR.out (nOf_bd _).1 (by have := nOf_bd (num4 s 0); omega) _ _ _ _).mono ?_
  rintro e w2 ⟨rfl, hb2⟩
  obtain ⟨hc2, hf2⟩ := fbcell hb2
  have hz2 : w1.heap.size < w2.heap.size := by have := hb2.size; simp only [World.size_alloc] at this; omega
  have hz3 : w.heap.size < w2.heap.size := by omega
  have HB2 := Lib.hid (fbelow_t (Below.allocL HB1.out _) hb2)
  have k0 : w2.cell? ⟨w.heap.size, 0, none⟩ = some (.int .i64 0) := by rw [hc2 _ _ (by simp only [World.size_alloc]; omega), World.cell?_alloc_lt _ _ _ hz1]; exact d0
  have k1 : w2.cell? ⟨w.heap.size, 1, none⟩ = some (.int .i64 0) := by rw [hc2 _ _ (by simp only [World.size_alloc]; omega), World.cell?_alloc_lt _ _ _ hz1]; exact d1
  have k2 : w2.cell? ⟨w.heap.size, 2, none⟩ = some (.int .i64 0) := by rw [hc2 _ _ (by simp only [World.size_alloc]; omega), World.cell?_alloc_lt _ _ _ hz1]; exact d2
  have k3 : w2.cell? ⟨w.heap.size, 3, none⟩ = some (.string (ByteArray.mk #[])) := by rw [hc2 _ _ (by simp only [World.size_alloc]; omega), World.cell?_alloc_lt _ _ _ hz1]; exact d3
  go_wp2_with fail
  refine (rzero_v (a := 8) (b := s.size) HQ2.out rfl rfl (Nat.le_refl _) HS.out (by decide) _).mono ?_
  rintro e w3 ⟨rfl, rfl⟩
  go_wp2
  refine bodyPost_ret (v := .tuple #[.agg #[.int .i64 (num4 s 0 % 536870912), .int .i64 (nOf (num4 s 0)), .int .i64 (decD s).size, .string (dOf (num4 s 0) (decD s))], .bool true]) (by simp [results, Tryd.results13, go_sem, k0, k1, k2, k3]) rfl ⟨by rw [HD.out], ?_⟩
  exact ((((HB2.out.setCell (p := ⟨w.heap.size, 0, none⟩) (Nat.le_refl _) _).setCell (p := ⟨w.heap.size, 1, none⟩) (Nat.le_refl _) _).setCell (p := ⟨w.heap.size, 2, none⟩) (Nat.le_refl _) _).setCell (p := ⟨w.heap.size, 3, none⟩) (Nat.le_refl _) _)

set_option maxRecDepth 100000 in
set_option maxHeartbeats 1000000 in
theorem rdec_E2 {s : ByteArray} (hs : s.size ≤ maxLen) (hsz : s.size = 16) (h6 : bt s 6 = 0) (h7 : bt s 7 = 0) (h50 : bt s 5 = 0) (h8 : decN s + 8 ≤ s.size) (h9 : zeroB s (8 + decN s) s.size = true) (h10 : okOf (num4 s 0) (decD s) = true) (h11 : wR (num4 s 0) = false) (w : World) :
    Calls Tryd.prog 13 #[.string s] w fun e w' => e = .returned (.tuple #[.agg #[.int .i64 (decF s).i, .int .i64 (decF s).n, .int .i64 (decF s).l, .string (decF s).d], .bool true]) ∧ Below w.heap.size w w' := by
  have HS := Lib.hid hs
  have e1 : ((s.size : Int) == 16) = true := by simp; omega
  have e2 : ((s.size : Int) != 16) = false := by simp; omega
  have e3 : ((s.size : Int) == 72) = false := by simp; omega
  have e4 : ((s.size : Int) != 72) = true := by simp; omega
  have s0 : s.size ≤ 72 := by omega
  have s1 : 16 ≤ s.size := by omega
  have HZ : Hid (s.size = 16) := Lib.hid hsz
  have i4 : ∀ w, (Instr.index 9 (.string s) (.int .i64 4)).run Tryd.prog w = .ok (.int .u8 (bt s 4)) w := index_bt (k := 4) Tryd.underlying9 (by omega)
  have i5 : ∀ w, (Instr.index 9 (.string s) (.int .i64 5)).run Tryd.prog w = .ok (.int .u8 (bt s 5)) w := index_bt (k := 5) Tryd.underlying9 (by omega)
  have i6 : ∀ w, (Instr.index 9 (.string s) (.int .i64 6)).run Tryd.prog w = .ok (.int .u8 (bt s 6)) w := index_bt (k := 6) Tryd.underlying9 (by omega)
  have i7 : ∀ w, (Instr.index 9 (.string s) (.int .i64 7)).run Tryd.prog w = .ok (.int .u8 (bt s 7)) w := index_bt (k := 7) Tryd.underlying9 (by omega)
  have p4 := (bt_lt s 4).1
  have r4 := (bt_lt s 4).2
  have p5 := (bt_lt s 5).1
  have r5 := (bt_lt s 5).2
  have f6 : (bt s 6 == 0) = true := by simpa using h6
  have g6 : (bt s 6 != 0) = false := by simpa using h6
  have f7 : (bt s 7 == 0) = true := by simpa using h7
  have g7 : (bt s 7 != 0) = false := by simpa using h7
  rw [h50] at i5 p5 r5
  clear p5 r5
  have hN : bt s 4 = (decN s : Int) := by unfold decN; have := bt_lt s 4; omega
  have HNN := Lib.hid hN
  have HX : Hid (s.extract 8 (8 + bt s 4).toNat = decD s) := Lib.hid (by unfold decD; rw [hN]; rfl)
  have l8 : bt s 4 ≤ (s.size : Int) - 8 := by omega
  have b8 : decide ((s.size : Int) - 8 < bt s 4) = false := by simp; omega
  have HNB : Hid (decN s + 8 ≤ s.size) := Lib.hid h8
  have HQ := Lib.hid h9
  have W0 := Lib.hid (num4_lt s 0).1
  have W1 : Hid (num4 s 0 < 4294967296) := Lib.hid (by have := (num4_lt s 0).2; omega)
  have HDS : Hid ((decD s).size ≤ maxLen) := Lib.hid (by unfold decD maxLen; rw [sub_size _ _ _ (by omega)]; omega)
  have HD : Hid (decF s = ⟨num4 s 0 % 536870912, nOf (num4 s 0), (decD s).size, dOf (num4 s 0) (decD s)⟩) := Lib.hid (by unfold decF isFd; rw [decide_eq_false (by omega)]; rfl)
  have HO := Lib.hid h10
  have HR : Hid (fR (nOf (num4 s 0)) = false) := Lib.hid (by rw [fR_nOf]; exact h11)
  clear hsz hs h6 h7 h50 h8 h9 h10 h11 hN
  generalize bt s 4 = x4 at *
  generalize bt s 6 = x6 at *
  generalize bt s 7 = x7 at *
  go_enter Tryd.func13, Tryd.ntmps13
  go_wp2_with fail
  refine (rget_yes s 0 _ HS.out (by have := HZ.out; omega)).mono ?_
  rintro e w1 ⟨rfl, rfl⟩
  go_wp2_with fail
  go_quiet (fail)
  have c0 : ((w.alloc (.cells #[.int .i64 0, .int .i64 0, .int .i64 0, .string (ByteArray.mk #[])] 23)).drewN nq).cell? ⟨w.heap.size, 0, none⟩ = some (.int .i64 0) := by simp [go_sem]
  have c1 : ((w.alloc (.cells #[.int .i64 0, .int .i64 0, .int .i64 0, .string (ByteArray.mk #[])] 23)).drewN nq).cell? ⟨w.heap.size, 1, none⟩ = some (.int .i64 0) := by simp [go_sem]
  have c2 : ((w.alloc (.cells #[.int .i64 0, .int .i64 0, .int .i64 0, .string (ByteArray.mk #[])] 23)).drewN nq).cell? ⟨w.heap.size, 2, none⟩ = some (.int .i64 0) := by simp [go_sem]
  have c3 : ((w.alloc (.cells #[.int .i64 0, .int .i64 0, .int .i64 0, .string (ByteArray.mk #[])] 23)).drewN nq).cell? ⟨w.heap.size, 3, none⟩ = some (.string (ByteArray.mk #[])) := by simp [go_sem]
  have v0 : ((w.alloc (.cells #[.int .i64 0, .int .i64 0, .int .i64 0, .string (ByteArray.mk #[])] 23)).drewN nq).frozen? ⟨w.heap.size, 0, none⟩ = false := by simp [go_sem]
  have v1 : ((w.alloc (.cells #[.int .i64 0, .int .i64 0, .int .i64 0, .string (ByteArray.mk #[])] 23)).drewN nq).frozen? ⟨w.heap.size, 1, none⟩ = false := by simp [go_sem]
  have v2 : ((w.alloc (.cells #[.int .i64 0, .int .i64 0, .int .i64 0, .string (ByteArray.mk #[])] 23)).drewN nq).frozen? ⟨w.heap.size, 2, none⟩ = false := by simp [go_sem]
  have v3 : ((w.alloc (.cells #[.int .i64 0, .int .i64 0, .int .i64 0, .string (ByteArray.mk #[])] 23)).drewN nq).frozen? ⟨w.heap.size, 3, none⟩ = false := by simp [go_sem]
  have hzq : w.heap.size < ((w.alloc (.cells #[.int .i64 0, .int .i64 0, .int .i64 0, .string (ByteArray.mk #[])] 23)).drewN nq).heap.size := by simp
  have HW : Hid (Below w.heap.size w ((w.alloc (.cells #[.int .i64 0, .int .i64 0, .int .i64 0, .string (ByteArray.mk #[])] 23)).drewN nq)) := Lib.hid (below_drewN (Below.allocL (Below.refl _ _) _) _)
  generalize (w.alloc (.cells #[.int .i64 0, .int .i64 0, .int .i64 0, .string (ByteArray.mk #[])] 23)).drewN nq = wq at *
  go_wp2_with fail
  refine (rzero_v (a := 8 + decN s) (b := s.size) HQ.out (by rw [HNN.out]; simp) rfl (Nat.le_refl _) HS.out (by have := HZ.out; have := HNB.out; unfold maxLen; omega) _).mono ?_
  rintro e w1 ⟨rfl, rfl⟩
  clear e1 e2 e3 e4 i4 i5 i6 i7 f6 g6 f7 g7
  go_wp2_with fail
  rw [HX.out]
  refine (rof_t W0.out W1.out HDS.out HO.out _).mono ?_
  rintro e w1 ⟨rfl, hb⟩
  obtain ⟨hc, hf⟩ := fbcell hb
  have hz1 : w.heap.size < w1.heap.size := Nat.lt_of_lt_of_le hzq hb.size
  have HB1 := Lib.hid (fbelow_t HW.out hb)
  have d0 : w1.cell? ⟨w.heap.size, 0, none⟩ = some (.int .i64 0) := by rw [hc _ _ hzq]; exact c0
  have d1 : w1.cell? ⟨w.heap.size, 1, none⟩ = some (.int .i64 0) := by rw [hc _ _ hzq]; exact c1
  have d2 : w1.cell? ⟨w.heap.size, 2, none⟩ = some (.int .i64 0) := by rw [hc _ _ hzq]; exact c2
  have d3 : w1.cell? ⟨w.heap.size, 3, none⟩ = some (.string (ByteArray.mk #[])) := by rw [hc _ _ hzq]; exact c3
  go_wp2_with fail
  refine (has2 (n := nOf (num4 s 0)) HR.out (nOf_bd _).1 (by have := nOf_bd (num4 s 0); omega) _ _ _ _).mono ?_
  rintro e w2 ⟨rfl, hb2⟩
  obtain ⟨hc2, hf2⟩ := fbcell hb2
  have hz2 : w1.heap.size < w2.heap.size := by have := hb2.size; simp only [World.size_alloc] at this; omega
  have hz3 : w.heap.size < w2.heap.size := by omega
  have HB2 := Lib.hid (fbelow_t (Below.allocL HB1.out _) hb2)
  have k0 : w2.cell? ⟨w.heap.size, 0, none⟩ = some (.int .i64 0) := by rw [hc2 _ _ (by simp only [World.size_alloc]; omega), World.cell?_alloc_lt _ _ _ hz1]; exact d0
  have k1 : w2.cell? ⟨w.heap.size, 1, none⟩ = some (.int .i64 0) := by rw [hc2 _ _ (by simp only [World.size_alloc]; omega), World.cell?_alloc_lt _ _ _ hz1]; exact d1
  have k2 : w2.cell? ⟨w.heap.size, 2, none⟩ = some (.int .i64 0) := by rw [hc2 _ _ (by simp only [World.size_alloc]; omega), World.cell?_alloc_lt _ _ _ hz1]; exact d2
  have k3 : w2.cell? ⟨w.heap.size, 3, none⟩ = some (.string (ByteArray.mk #[])) := by rw [hc2 _ _ (by simp only [World.size_alloc]; omega), World.cell?_alloc_lt _ _ _ hz1]; exact d3
  go_wp2
  refine bodyPost_ret (v := .tuple #[.agg #[.int .i64 (num4 s 0 % 536870912), .int .i64 (nOf (num4 s 0)), .int .i64 (decD s).size, .string (dOf (num4 s 0) (decD s))], .bool true]) (by simp [results, Tryd.results13, go_sem, k0, k1, k2, k3]) rfl ⟨by rw [HD.out], ?_⟩
  exact ((((HB2.out.setCell (p := ⟨w.heap.size, 0, none⟩) (Nat.le_refl _) _).setCell (p := ⟨w.heap.size, 1, none⟩) (Nat.le_refl _) _).setCell (p := ⟨w.heap.size, 2, none⟩) (Nat.le_refl _) _).setCell (p := ⟨w.heap.size, 3, none⟩) (Nat.le_refl _) _)

set_option maxRecDepth 100000 in
set_option maxHeartbeats 1000000 in
theorem rdec_B1_72 {s : ByteArray} (hs : s.size ≤ maxLen) (hsz : s.size = 72) (h6 : bt s 6 ≠ 0) (w : World) :
    Calls Tryd.prog 13 #[.string s] w fun e w' => e = .returned (.tuple #[.agg #[.int .i64 0, .int .i64 0, .int .i64 0, .string (ByteArray.mk #[])], .bool false]) ∧ Below w.heap.size w w' := by
  have HS := Lib.hid hs
  have e1 : ((s.size : Int) == 16) = false := by simp; omega
  have e2 : ((s.size : Int) != 16) = true := by simp; omega
  have e3 : ((s.size : Int) == 72) = true := by simp; omega
  have e4 : ((s.size : Int) != 72) = false := by simp; omega
  have s0 : s.size ≤ 72 := by omega
  have s1 : 16 ≤ s.size := by omega
  have HZ : Hid (s.size = 72) := Lib.hid hsz
  have i4 : ∀ w, (Instr.index 9 (.string s) (.int .i64 4)).run Tryd.prog w = .ok (.int .u8 (bt s 4)) w := index_bt (k := 4) Tryd.underlying9 (by omega)
  have i5 : ∀ w, (Instr.index 9 (.string s) (.int .i64 5)).run Tryd.prog w = .ok (.int .u8 (bt s 5)) w := index_bt (k := 5) Tryd.underlying9 (by omega)
  have i6 : ∀ w, (Instr.index 9 (.string s) (.int .i64 6)).run Tryd.prog w = .ok (.int .u8 (bt s 6)) w := index_bt (k := 6) Tryd.underlying9 (by omega)
  have i7 : ∀ w, (Instr.index 9 (.string s) (.int .i64 7)).run Tryd.prog w = .ok (.int .u8 (bt s 7)) w := index_bt (k := 7) Tryd.underlying9 (by omega)
  have p4 := (bt_lt s 4).1
  have r4 := (bt_lt s 4).2
  have p5 := (bt_lt s 5).1
  have r5 := (bt_lt s 5).2
  have f6 : (bt s 6 == 0) = false := by simpa using h6
  have g6 : (bt s 6 != 0) = true := by simpa using h6
  clear hsz hs h6
  generalize bt s 4 = x4 at *
  generalize bt s 5 = x5 at *
  generalize bt s 6 = x6 at *
  generalize bt s 7 = x7 at *
  go_enter Tryd.func13, Tryd.ntmps13
  go_wp2_with fail
  refine (rget_yes s 0 _ HS.out (by have := HZ.out; omega)).mono ?_
  rintro e w1 ⟨rfl, rfl⟩
  go_wp2_with fail
  go_quiet (fail)
  have c0 : ((w.alloc (.cells #[.int .i64 0, .int .i64 0, .int .i64 0, .string (ByteArray.mk #[])] 23)).drewN nq).cell? ⟨w.heap.size, 0, none⟩ = some (.int .i64 0) := by simp [go_sem]
  have c1 : ((w.alloc (.cells #[.int .i64 0, .int .i64 0, .int .i64 0, .string (ByteArray.mk #[])] 23)).drewN nq).cell? ⟨w.heap.size, 1, none⟩ = some (.int .i64 0) := by simp [go_sem]
  have c2 : ((w.alloc (.cells #[.int .i64 0, .int .i64 0, .int .i64 0, .string (ByteArray.mk #[])] 23)).drewN nq).cell? ⟨w.heap.size, 2, none⟩ = some (.int .i64 0) := by simp [go_sem]
  have c3 : ((w.alloc (.cells #[.int .i64 0, .int .i64 0, .int .i64 0, .string (ByteArray.mk #[])] 23)).drewN nq).cell? ⟨w.heap.size, 3, none⟩ = some (.string (ByteArray.mk #[])) := by simp [go_sem]
  have v0 : ((w.alloc (.cells #[.int .i64 0, .int .i64 0, .int .i64 0, .string (ByteArray.mk #[])] 23)).drewN nq).frozen? ⟨w.heap.size, 0, none⟩ = false := by simp [go_sem]
  have v1 : ((w.alloc (.cells #[.int .i64 0, .int .i64 0, .int .i64 0, .string (ByteArray.mk #[])] 23)).drewN nq).frozen? ⟨w.heap.size, 1, none⟩ = false := by simp [go_sem]
  have v2 : ((w.alloc (.cells #[.int .i64 0, .int .i64 0, .int .i64 0, .string (ByteArray.mk #[])] 23)).drewN nq).frozen? ⟨w.heap.size, 2, none⟩ = false := by simp [go_sem]
  have v3 : ((w.alloc (.cells #[.int .i64 0, .int .i64 0, .int .i64 0, .string (ByteArray.mk #[])] 23)).drewN nq).frozen? ⟨w.heap.size, 3, none⟩ = false := by simp [go_sem]
  have hzq : w.heap.size < ((w.alloc (.cells #[.int .i64 0, .int .i64 0, .int .i64 0, .string (ByteArray.mk #[])] 23)).drewN nq).heap.size := by simp
  have HW : Hid (Below w.heap.size w ((w.alloc (.cells #[.int .i64 0, .int .i64 0, .int .i64 0, .string (ByteArray.mk #[])] 23)).drewN nq)) := Lib.hid (below_drewN (Below.allocL (Below.refl _ _) _) _)
  generalize (w.alloc (.cells #[.int .i64 0, .int .i64 0, .int .i64 0, .string (ByteArray.mk #[])] 23)).drewN nq = wq at *
  go_wp2
  refine bodyPost_ret (v := .tuple #[.agg #[.int .i64 0, .int .i64 0, .int .i64 0, .string (ByteArray.mk #[])], .bool false]) (by simp [results, Tryd.results13, go_sem, c0, c1, c2, c3]) rfl ⟨rfl, ?_⟩
  exact ((((HW.out.setCell (p := ⟨w.heap.size, 0, none⟩) (Nat.le_refl _) _).setCell (p := ⟨w.heap.size, 1, none⟩) (Nat.le_refl _) _).setCell (p := ⟨w.heap.size, 2, none⟩) (Nat.le_refl _) _).setCell (p := ⟨w.heap.size, 3, none⟩) (Nat.le_refl _) _)

set_option maxRecDepth 100000 in
set_option maxHeartbeats 1000000 in
theorem rdec_B2_72 {s : ByteArray} (hs : s.size ≤ maxLen) (hsz : s.size = 72) (h6 : bt s 6 = 0) (h7 : bt s 7 ≠ 0) (w : World) :
    Calls Tryd.prog 13 #[.string s] w fun e w' => e = .returned (.tuple #[.agg #[.int .i64 0, .int .i64 0, .int .i64 0, .string (ByteArray.mk #[])], .bool false]) ∧ Below w.heap.size w w' := by
  have HS := Lib.hid hs
  have e1 : ((s.size : Int) == 16) = false := by simp; omega
  have e2 : ((s.size : Int) != 16) = true := by simp; omega
  have e3 : ((s.size : Int) == 72) = true := by simp; omega
  have e4 : ((s.size : Int) != 72) = false := by simp; omega
  have s0 : s.size ≤ 72 := by omega
  have s1 : 16 ≤ s.size := by omega
  have HZ : Hid (s.size = 72) := Lib.hid hsz
  have i4 : ∀ w, (Instr.index 9 (.string s) (.int .i64 4)).run Tryd.prog w = .ok (.int .u8 (bt s 4)) w := index_bt (k := 4) Tryd.underlying9 (by omega)
  have i5 : ∀ w, (Instr.index 9 (.string s) (.int .i64 5)).run Tryd.prog w = .ok (.int .u8 (bt s 5)) w := index_bt (k := 5) Tryd.underlying9 (by omega)
  have i6 : ∀ w, (Instr.index 9 (.string s) (.int .i64 6)).run Tryd.prog w = .ok (.int .u8 (bt s 6)) w := index_bt (k := 6) Tryd.underlying9 (by omega)
  have i7 : ∀ w, (Instr.index 9 (.string s) (.int .i64 7)).run Tryd.prog w = .ok (.int .u8 (bt s 7)) w := index_bt (k := 7) Tryd.underlying9 (by omega)
  have p4 := (bt_lt s 4).1
  have r4 := (bt_lt s 4).2
  have p5 := (bt_lt s 5).1
  have r5 := (bt_lt s 5).2
  have f6 : (bt s 6 == 0) = true := by simpa using h6
  have g6 : (bt s 6 != 0) = false := by simpa using h6
  have f7 : (bt s 7 == 0) = false := by simpa using h7
  have g7 : (bt s 7 != 0) = true := by simpa using h7
  clear hsz hs h6 h7
  generalize bt s 4 = x4 at *
  generalize bt s 5 = x5 at *
  generalize bt s 6 = x6 at *
  generalize bt s 7 = x7 at *
  go_enter Tryd.func13, Tryd.ntmps13
  go_wp2_with fail
  refine (rget_yes s 0 _ HS.out (by have := HZ.out; omega)).mono ?_
  rintro e w1 ⟨rfl, rfl⟩
  go_wp2_with fail
  go_quiet (fail)
  have c0 : ((w.alloc (.cells #[.int .i64 0, .int .i64 0, .int .i64 0, .string (ByteArray.mk #[])] 23)).drewN nq).cell? ⟨w.heap.size, 0, none⟩ = some (.int .i64 0) := by simp [go_sem]
  have c1 : ((w.alloc (.cells #[.int .i64 0, .int .i64 0, .int .i64 0, .string (ByteArray.mk #[])] 23)).drewN nq).cell? ⟨w.heap.size, 1, none⟩ = some (.int .i64 0) := by simp [go_sem]
  have c2 : ((w.alloc (.cells #[.int .i64 0, .int .i64 0, .int .i64 0, .string (ByteArray.mk #[])] 23)).drewN nq).cell? ⟨w.heap.size, 2, none⟩ = some (.int .i64 0) := by simp [go_sem]
  have c3 : ((w.alloc (.cells #[.int .i64 0, .int .i64 0, .int .i64 0, .string (ByteArray.mk #[])] 23)).drewN nq).cell? ⟨w.heap.size, 3, none⟩ = some (.string (ByteArray.mk #[])) := by simp [go_sem]
  have v0 : ((w.alloc (.cells #[.int .i64 0, .int .i64 0, .int .i64 0, .string (ByteArray.mk #[])] 23)).drewN nq).frozen? ⟨w.heap.size, 0, none⟩ = false := by simp [go_sem]
  have v1 : ((w.alloc (.cells #[.int .i64 0, .int .i64 0, .int .i64 0, .string (ByteArray.mk #[])] 23)).drewN nq).frozen? ⟨w.heap.size, 1, none⟩ = false := by simp [go_sem]
  have v2 : ((w.alloc (.cells #[.int .i64 0, .int .i64 0, .int .i64 0, .string (ByteArray.mk #[])] 23)).drewN nq).frozen? ⟨w.heap.size, 2, none⟩ = false := by simp [go_sem]
  have v3 : ((w.alloc (.cells #[.int .i64 0, .int .i64 0, .int .i64 0, .string (ByteArray.mk #[])] 23)).drewN nq).frozen? ⟨w.heap.size, 3, none⟩ = false := by simp [go_sem]
  have hzq : w.heap.size < ((w.alloc (.cells #[.int .i64 0, .int .i64 0, .int .i64 0, .string (ByteArray.mk #[])] 23)).drewN nq).heap.size := by simp
  have HW : Hid (Below w.heap.size w ((w.alloc (.cells #[.int .i64 0, .int .i64 0, .int .i64 0, .string (ByteArray.mk #[])] 23)).drewN nq)) := Lib.hid (below_drewN (Below.allocL (Below.refl _ _) _) _)
  generalize (w.alloc (.cells #[.int .i64 0, .int .i64 0, .int .i64 0, .string (ByteArray.mk #[])] 23)).drewN nq = wq at *
  go_wp2
  refine bodyPost_ret (v := .tuple #[.agg #[.int .i64 0, .int .i64 0, .int .i64 0, .string (ByteArray.mk #[])], .bool false]) (by simp [results, Tryd.results13, go_sem, c0, c1, c2, c3]) rfl ⟨rfl, ?_⟩
  exact ((((HW.out.setCell (p := ⟨w.heap.size, 0, none⟩) (Nat.le_refl _) _).setCell (p := ⟨w.heap.size, 1, none⟩) (Nat.le_refl _) _).setCell (p := ⟨w.heap.size, 2, none⟩) (Nat.le_refl _) _).setCell (p := ⟨w.heap.size, 3, none⟩) (Nat.le_refl _) _)

set_option maxRecDepth 100000 in
set_option maxHeartbeats 1000000 in
theorem rdec_B3_72 {s : ByteArray} (hs : s.size ≤ maxLen) (hsz : s.size = 72) (h6 : bt s 6 = 0) (h7 : bt s 7 = 0) (h5 : bt s 5 / 4 ≠ 1) (w : World) :
    Calls Tryd.prog 13 #[.string s] w fun e w' => e = .returned (.tuple #[.agg #[.int .i64 0, .int .i64 0, .int .i64 0, .string (ByteArray.mk #[])], .bool false]) ∧ Below w.heap.size w w' := by
  have HS := Lib.hid hs
  have e1 : ((s.size : Int) == 16) = false := by simp; omega
  have e2 : ((s.size : Int) != 16) = true := by simp; omega
  have e3 : ((s.size : Int) == 72) = true := by simp; omega
  have e4 : ((s.size : Int) != 72) = false := by simp; omega
  have s0 : s.size ≤ 72 := by omega
  have s1 : 16 ≤ s.size := by omega
  have HZ : Hid (s.size = 72) := Lib.hid hsz
  have i4 : ∀ w, (Instr.index 9 (.string s) (.int .i64 4)).run Tryd.prog w = .ok (.int .u8 (bt s 4)) w := index_bt (k := 4) Tryd.underlying9 (by omega)
  have i5 : ∀ w, (Instr.index 9 (.string s) (.int .i64 5)).run Tryd.prog w = .ok (.int .u8 (bt s 5)) w := index_bt (k := 5) Tryd.underlying9 (by omega)
  have i6 : ∀ w, (Instr.index 9 (.string s) (.int .i64 6)).run Tryd.prog w = .ok (.int .u8 (bt s 6)) w := index_bt (k := 6) Tryd.underlying9 (by omega)
  have i7 : ∀ w, (Instr.index 9 (.string s) (.int .i64 7)).run Tryd.prog w = .ok (.int .u8 (bt s 7)) w := index_bt (k := 7) Tryd.underlying9 (by omega)
  have p4 := (bt_lt s 4).1
  have r4 := (bt_lt s 4).2
  have p5 := (bt_lt s 5).1
  have r5 := (bt_lt s 5).2
  have f6 : (bt s 6 == 0) = true := by simpa using h6
  have g6 : (bt s 6 != 0) = false := by simpa using h6
  have f7 : (bt s 7 == 0) = true := by simpa using h7
  have g7 : (bt s 7 != 0) = false := by simpa using h7
  have f5 : (bt s 5 / 4 == 1) = false := by simpa using h5
  clear hsz hs h6 h7 h5
  generalize bt s 4 = x4 at *
  generalize bt s 5 = x5 at *
  generalize bt s 6 = x6 at *
  generalize bt s 7 = x7 at *
  go_enter Tryd.func13, Tryd.ntmps13
  go_wp2_with fail
  refine (rget_yes s 0 _ HS.out (by have := HZ.out; omega)).mono ?_
  rintro e w1 ⟨rfl, rfl⟩
  go_wp2_with fail
  go_quiet (fail)
  have c0 : ((w.alloc (.cells #[.int .i64 0, .int .i64 0, .int .i64 0, .string (ByteArray.mk #[])] 23)).drewN nq).cell? ⟨w.heap.size, 0, none⟩ = some (.int .i64 0) := by simp [go_sem]
  have c1 : ((w.alloc (.cells #[.int .i64 0, .int .i64 0, .int .i64 0, .string (ByteArray.mk #[])] 23)).drewN nq).cell? ⟨w.heap.size, 1, none⟩ = some (.int .i64 0) := by simp [go_sem]
  have c2 : ((w.alloc (.cells #[.int .i64 0, .int .i64 0, .int .i64 0, .string (ByteArray.mk #[])] 23)).drewN nq).cell? ⟨w.heap.size, 2, none⟩ = some (.int .i64 0) := by simp [go_sem]
  have c3 : ((w.alloc (.cells #[.int .i64 0, .int .i64 0, .int .i64 0, .string (ByteArray.mk #[])] 23)).drewN nq).cell? ⟨w.heap.size, 3, none⟩ = some (.string (ByteArray.mk #[])) := by simp [go_sem]
  have v0 : ((w.alloc (.cells #[.int .i64 0, .int .i64 0, .int .i64 0, .string (ByteArray.mk #[])] 23)).drewN nq).frozen? ⟨w.heap.size, 0, none⟩ = false := by simp [go_sem]
  have v1 : ((w.alloc (.cells #[.int .i64 0, .int .i64 0, .int .i64 0, .string (ByteArray.mk #[])] 23)).drewN nq).frozen? ⟨w.heap.size, 1, none⟩ = false := by simp [go_sem]
  have v2 : ((w.alloc (.cells #[.int .i64 0, .int .i64 0, .int .i64 0, .string (ByteArray.mk #[])] 23)).drewN nq).frozen? ⟨w.heap.size, 2, none⟩ = false := by simp [go_sem]
  have v3 : ((w.alloc (.cells #[.int .i64 0, .int .i64 0, .int .i64 0, .string (ByteArray.mk #[])] 23)).drewN nq).frozen? ⟨w.heap.size, 3, none⟩ = false := by simp [go_sem]
  have hzq : w.heap.size < ((w.alloc (.cells #[.int .i64 0, .int .i64 0, .int .i64 0, .string (ByteArray.mk #[])] 23)).drewN nq).heap.size := by simp
  have HW : Hid (Below w.heap.size w ((w.alloc (.cells #[.int .i64 0, .int .i64 0, .int .i64 0, .string (ByteArray.mk #[])] 23)).drewN nq)) := Lib.hid (below_drewN (Below.allocL (Below.refl _ _) _) _)
  generalize (w.alloc (.cells #[.int .i64 0, .int .i64 0, .int .i64 0, .string (ByteArray.mk #[])] 23)).drewN nq = wq at *
  go_wp2
  refine bodyPost_ret (v := .tuple #[.agg #[.int .i64 0, .int .i64 0, .int .i64 0, .string (ByteArray.mk #[])], .bool false]) (by simp [results, Tryd.results13, go_sem, c0, c1, c2, c3]) rfl ⟨rfl, ?_⟩
  exact ((((HW.out.setCell (p := ⟨w.heap.size, 0, none⟩) (Nat.le_refl _) _).setCell (p := ⟨w.heap.size, 1, none⟩) (Nat.le_refl _) _).setCell (p := ⟨w.heap.size, 2, none⟩) (Nat.le_refl _) _).setCell (p := ⟨w.heap.size, 3, none⟩) (Nat.le_refl _) _)

set_option maxRecDepth 100000 in
set_option maxHeartbeats 1000000 in
theorem rdec_C1_72 {s : ByteArray} (hs : s.size ≤ maxLen) (hsz : s.size = 72) (h6 : bt s 6 = 0) (h7 : bt s 7 = 0) (h5 : bt s 5 / 4 = 1) (h8 : ¬ decN s + 8 ≤ s.size) (w : World) :
    Calls Tryd.prog 13 #[.string s] w fun e w' => e = .returned (.tuple #[.agg #[.int .i64 0, .int .i64 0, .int .i64 0, .string (ByteArray.mk #[])], .bool false]) ∧ Below w.heap.size w w' := by
  have HS := Lib.hid hs
  have e1 : ((s.size : Int) == 16) = false := by simp; omega
  have e2 : ((s.size : Int) != 16) = true := by simp; omega
  have e3 : ((s.size : Int) == 72) = true := by simp; omega
  have e4 : ((s.size : Int) != 72) = false := by simp; omega
  have s0 : s.size ≤ 72 := by omega
  have s1 : 16 ≤ s.size := by omega
  have HZ : Hid (s.size = 72) := Lib.hid hsz
  have i4 : ∀ w, (Instr.index 9 (.string s) (.int .i64 4)).run Tryd.prog w = .ok (.int .u8 (bt s 4)) w := index_bt (k := 4) Tryd.underlying9 (by omega)
  have i5 : ∀ w, (Instr.index 9 (.string s) (.int .i64 5)).run Tryd.prog w = .ok (.int .u8 (bt s 5)) w := index_bt (k := 5) Tryd.underlying9 (by omega)
  have i6 : ∀ w, (Instr.index 9 (.string s) (.int .i64 6)).run Tryd.prog w = .ok (.int .u8 (bt s 6)) w := index_bt (k := 6) Tryd.underlying9 (by omega)
  have i7 : ∀ w, (Instr.index 9 (.string s) (.int .i64 7)).run Tryd.prog w = .ok (.int .u8 (bt s 7)) w := index_bt (k := 7) Tryd.underlying9 (by omega)
  have p4 := (bt_lt s 4).1
  have r4 := (bt_lt s 4).2
  have p5 := (bt_lt s 5).1
  have r5 := (bt_lt s 5).2
  have f6 : (bt s 6 == 0) = true := by simpa using h6
  have g6 : (bt s 6 != 0) = false := by simpa using h6
  have f7 : (bt s 7 == 0) = true := by simpa using h7
  have g7 : (bt s 7 != 0) = false := by simpa using h7
  have f5 : (bt s 5 / 4 == 1) = true := by simpa using h5
  have x7l : bt s 5 ≤ 7 := by omega
  have b7 : decide (7 < bt s 5) = false := by simp; omega
  have hN : bt s 4 = (decN s : Int) := by unfold decN; have := bt_lt s 4; omega
  have HNN := Lib.hid hN
  have HX : Hid (s.extract 8 (8 + bt s 4).toNat = decD s) := Lib.hid (by unfold decD; rw [hN]; rfl)
  have l8 : (s.size : Int) - 8 < bt s 4 := by omega
  have b8 : decide ((s.size : Int) - 8 < bt s 4) = true := by simp; omega
  clear hsz hs h6 h7 h5 h8 hN
  generalize bt s 4 = x4 at *
  generalize bt s 5 = x5 at *
  generalize bt s 6 = x6 at *
  generalize bt s 7 = x7 at *
  go_enter Tryd.func13, Tryd.ntmps13
  go_wp2_with fail
  refine (rget_yes s 0 _ HS.out (by have := HZ.out; omega)).mono ?_
  rintro e w1 ⟨rfl, rfl⟩
  go_wp2_with fail
  go_quiet (fail)
  have c0 : ((w.alloc (.cells #[.int .i64 0, .int .i64 0, .int .i64 0, .string (ByteArray.mk #[])] 23)).drewN nq).cell? ⟨w.heap.size, 0, none⟩ = some (.int .i64 0) := by simp [go_sem]
  have c1 : ((w.alloc (.cells #[.int .i64 0, .int .i64 0, .int .i64 0, .string (ByteArray.mk #[])] 23)).drewN nq).cell? ⟨w.heap.size, 1, none⟩ = some (.int .i64 0) := by simp [go_sem]
  have c2 : ((w.alloc (.cells #[.int .i64 0, .int .i64 0, .int .i64 0, .string (ByteArray.mk #[])] 23)).drewN nq).cell? ⟨w.heap.size, 2, none⟩ = some (.int .i64 0) := by simp [go_sem]
  have c3 : ((w.alloc (.cells #[.int .i64 0, .int .i64 0, .int .i64 0, .string (ByteArray.mk #[])] 23)).drewN nq).cell? ⟨w.heap.size, 3, none⟩ = some (.string (ByteArray.mk #[])) := by simp [go_sem]
  have v0 : ((w.alloc (.cells #[.int .i64 0, .int .i64 0, .int .i64 0, .string (ByteArray.mk #[])] 23)).drewN nq).frozen? ⟨w.heap.size, 0, none⟩ = false := by simp [go_sem]
  have v1 : ((w.alloc (.cells #[.int .i64 0, .int .i64 0, .int .i64 0, .string (ByteArray.mk #[])] 23)).drewN nq).frozen? ⟨w.heap.size, 1, none⟩ = false := by simp [go_sem]
  have v2 : ((w.alloc (.cells #[.int .i64 0, .int .i64 0, .int .i64 0, .string (ByteArray.mk #[])] 23)).drewN nq).frozen? ⟨w.heap.size, 2, none⟩ = false := by simp [go_sem]
  have v3 : ((w.alloc (.cells #[.int .i64 0, .int .i64 0, .int .i64 0, .string (ByteArray.mk #[])] 23)).drewN nq).frozen? ⟨w.heap.size, 3, none⟩ = false := by simp [go_sem]
  have hzq : w.heap.size < ((w.alloc (.cells #[.int .i64 0, .int .i64 0, .int .i64 0, .string (ByteArray.mk #[])] 23)).drewN nq).heap.size := by simp
  have HW : Hid (Below w.heap.size w ((w.alloc (.cells #[.int .i64 0, .int .i64 0, .int .i64 0, .string (ByteArray.mk #[])] 23)).drewN nq)) := Lib.hid (below_drewN (Below.allocL (Below.refl _ _) _) _)
  generalize (w.alloc (.cells #[.int .i64 0, .int .i64 0, .int .i64 0, .string (ByteArray.mk #[])] 23)).drewN nq = wq at *
  go_wp2
  refine bodyPost_ret (v := .tuple #[.agg #[.int .i64 0, .int .i64 0, .int .i64 0, .string (ByteArray.mk #[])], .bool false]) (by simp [results, Tryd.results13, go_sem, c0, c1, c2, c3]) rfl ⟨rfl, ?_⟩
  exact ((((HW.out.setCell (p := ⟨w.heap.size, 0, none⟩) (Nat.le_refl _) _).setCell (p := ⟨w.heap.size, 1, none⟩) (Nat.le_refl _) _).setCell (p := ⟨w.heap.size, 2, none⟩) (Nat.le_refl _) _).setCell (p := ⟨w.heap.size, 3, none⟩) (Nat.le_refl _) _)

set_option maxRecDepth 100000 in
set_option maxHeartbeats 1000000 in
theorem rdec_C2_72 {s : ByteArray} (hs : s.size ≤ maxLen) (hsz : s.size = 72) (h6 : bt s 6 = 0) (h7 : bt s 7 = 0) (h5 : bt s 5 / 4 = 1) (h8 : decN s + 8 ≤ s.size) (h9 : zeroB s (8 + decN s) s.size = false) (w : World) :
    Calls Tryd.prog 13 #[.string s] w fun e w' => e = .returned (.tuple #[.agg #[.int .i64 0, .int .i64 0, .int .i64 0, .string (ByteArray.mk #[])], .bool false]) ∧ Below w.heap.size w w' := by
  have HS := Lib.hid hs
  have e1 : ((s.size : Int) == 16) = false := by simp; omega
  have e2 : ((s.size : Int) != 16) = true := by simp; omega
  have e3 : ((s.size : Int) == 72) = true := by simp; omega
  have e4 : ((s.size : Int) != 72) = false := by simp; omega
  have s0 : s.size ≤ 72 := by omega
  have s1 : 16 ≤ s.size := by omega
  have HZ : Hid (s.size = 72) := Lib.hid hsz
  have i4 : ∀ w, (Instr.index 9 (.string s) (.int .i64 4)).run Tryd.prog w = .ok (.int .u8 (bt s 4)) w := index_bt (k := 4) Tryd.underlying9 (by omega)
  have i5 : ∀ w, (Instr.index 9 (.string s) (.int .i64 5)).run Tryd.prog w = .ok (.int .u8 (bt s 5)) w := index_bt (k := 5) Tryd.underlying9 (by omega)
  have i6 : ∀ w, (Instr.index 9 (.string s) (.int .i64 6)).run Tryd.prog w = .ok (.int .u8 (bt s 6)) w := index_bt (k := 6) Tryd.underlying9 (by omega)
  have i7 : ∀ w, (Instr.index 9 (.string s) (.int .i64 7)).run Tryd.prog w = .ok (.int .u8 (bt s 7)) w := index_bt (k := 7) Tryd.underlying9 (by omega)
  have p4 := (bt_lt s 4).1
  have r4 := (bt_lt s 4).2
  have p5 := (bt_lt s 5).1
  have r5 := (bt_lt s 5).2
  have f6 : (bt s 6 == 0) = true := by simpa using h6
  have g6 : (bt s 6 != 0) = false := by simpa using h6
  have f7 : (bt s 7 == 0) = true := by simpa using h7
  have g7 : (bt s 7 != 0) = false := by simpa using h7
  have f5 : (bt s 5 / 4 == 1) = true := by simpa using h5
  have x7l : bt s 5 ≤ 7 := by omega
  have b7 : decide (7 < bt s 5) = false := by simp; omega
  have hN : bt s 4 = (decN s : Int) := by unfold decN; have := bt_lt s 4; omega
  have HNN := Lib.hid hN
  have HX : Hid (s.extract 8 (8 + bt s 4).toNat = decD s) := Lib.hid (by unfold decD; rw [hN]; rfl)
  have l8 : bt s 4 ≤ (s.size : Int) - 8 := by omega
  have b8 : decide ((s.size : Int) - 8 < bt s 4) = false := by simp; omega
  have HNB : Hid (decN s + 8 ≤ s.size) := Lib.hid h8
  have HQ := Lib.hid h9
  clear hsz hs h6 h7 h5 h8 h9 hN
  generalize bt s 4 = x4 at *
  generalize bt s 5 = x5 at *
  generalize bt s 6 = x6 at *
  generalize bt s 7 = x7 at *
  go_enter Tryd.func13, Tryd.ntmps13
  go_wp2_with fail
  refine (rget_yes s 0 _ HS.out (by have := HZ.out; omega)).mono ?_
  rintro e w1 ⟨rfl, rfl⟩
  go_wp2_with fail
  go_quiet (fail)
  have c0 : ((w.alloc (.cells #[.int .i64 0, .int .i64 0, .int .i64 0, .string (ByteArray.mk #[])] 23)).drewN nq).cell? ⟨w.heap.size, 0, none⟩ = some (.int .i64 0) := by simp [go_sem]
  have c1 : ((w.alloc (.cells #[.int .i64 0, .int .i64 0, .int .i64 0, .string (ByteArray.mk #[])] 23)).drewN nq).cell? ⟨w.heap.size, 1, none⟩ = some (.int .i64 0) := by simp [go_sem]
  have c2 : ((w.alloc (.cells #[.int .i64 0, .int .i64 0, .int .i64 0, .string (ByteArray.mk #[])] 23)).drewN nq).cell? ⟨w.heap.size, 2, none⟩ = some (.int .i64 0) := by simp [go_sem]
  have c3 : ((w.alloc (.cells #[.int .i64 0, .int .i64 0, .int .i64 0, .string (ByteArray.mk #[])] 23)).drewN nq).cell? ⟨w.heap.size, 3, none⟩ = some (.string (ByteArray.mk #[])) := by simp [go_sem]
  have v0 : ((w.alloc (.cells #[.int .i64 0, .int .i64 0, .int .i64 0, .string (ByteArray.mk #[])] 23)).drewN nq).frozen? ⟨w.heap.size, 0, none⟩ = false := by simp [go_sem]
  have v1 : ((w.alloc (.cells #[.int .i64 0, .int .i64 0, .int .i64 0, .string (ByteArray.mk #[])] 23)).drewN nq).frozen? ⟨w.heap.size, 1, none⟩ = false := by simp [go_sem]
  have v2 : ((w.alloc (.cells #[.int .i64 0, .int .i64 0, .int .i64 0, .string (ByteArray.mk #[])] 23)).drewN nq).frozen? ⟨w.heap.size, 2, none⟩ = false := by simp [go_sem]
  have v3 : ((w.alloc (.cells #[.int .i64 0, .int .i64 0, .int .i64 0, .string (ByteArray.mk #[])] 23)).drewN nq).frozen? ⟨w.heap.size, 3, none⟩ = false := by simp [go_sem]
  have hzq : w.heap.size < ((w.alloc (.cells #[.int .i64 0, .int .i64 0, .int .i64 0, .string (ByteArray.mk #[])] 23)).drewN nq).heap.size := by simp
  have HW : Hid (Below w.heap.size w ((w.alloc (.cells #[.int .i64 0, .int .i64 0, .int .i64 0, .string (ByteArray.mk #[])] 23)).drewN nq)) := Lib.hid (below_drewN (Below.allocL (Below.refl _ _) _) _)
  generalize (w.alloc (.cells #[.int .i64 0, .int .i64 0, .int .i64 0, .string (ByteArray.mk #[])] 23)).drewN nq = wq at *
  go_wp2_with fail
  refine (rzero_v (a := 8 + decN s) (b := s.size) HQ.out (by rw [HNN.out]; simp) rfl (Nat.le_refl _) HS.out (by have := HZ.out; have := HNB.out; unfold maxLen; omega) _).mono ?_
  rintro e w1 ⟨rfl, rfl⟩
  clear e1 e2 e3 e4 i4 i5 i6 i7 f6 g6 f7 g7
  go_wp2
  refine bodyPost_ret (v := .tuple #[.agg #[.int .i64 0, .int .i64 0, .int .i64 0, .string (ByteArray.mk #[])], .bool false]) (by simp [results, Tryd.results13, go_sem, c0, c1, c2, c3]) rfl ⟨rfl, ?_⟩
  exact ((((HW.out.setCell (p := ⟨w.heap.size, 0, none⟩) (Nat.le_refl _) _).setCell (p := ⟨w.heap.size, 1, none⟩) (Nat.le_refl _) _).setCell (p := ⟨w.heap.size, 2, none⟩) (Nat.le_refl _) _).setCell (p := ⟨w.heap.size, 3, none⟩) (Nat.le_refl _) _)

set_option maxRecDepth 100000 in
set_option maxHeartbeats 2000000 in
theorem rdec_F_000 {s : ByteArray} (hs : s.size ≤ maxLen) (hsz : s.size = 72) (h6 : bt s 6 = 0) (h7 : bt s 7 = 0) (h5 : bt s 5 / 4 = 1) (h8 : decN s + 8 ≤ s.size) (h9 : zeroB s (8 + decN s) s.size = true) (he : wE (num4 s 0) = false) (hb : bt s 5 % 2 = 0) (ht : bt s 5 / 2 % 2 = 0) (okk : Bool) (hok : ((decF s).ok && decide (num4 s 0 / 536870912 % 4 = 0)) = okk) (V : Value) (hV : V = .tuple #[if okk then .agg #[.int .i64 (decF s).i, .int .i64 (decF s).n, .int .i64 (decF s).l, .string (decF s).d] else .agg #[.int .i64 0, .int .i64 0, .int .i64 0, .string (ByteArray.mk #[])], .bool okk]) (w : World) :
    Calls Tryd.prog 13 #[.string s] w fun e w' => e = .returned V ∧ Below w.heap.size w w' := by
  have HS := Lib.hid hs
  have e1 : ((s.size : Int) == 16) = false := by simp; omega
  have e2 : ((s.size : Int) != 16) = true := by simp; omega
  have e3 : ((s.size : Int) == 72) = true := by simp; omega
  have e4 : ((s.size : Int) != 72) = false := by simp; omega
  have s0 : s.size ≤ 72 := by omega
  have s1 : 16 ≤ s.size := by omega
  have HZ : Hid (s.size = 72) := Lib.hid hsz
  have i4 : ∀ w, (Instr.index 9 (.string s) (.int .i64 4)).run Tryd.prog w = .ok (.int .u8 (bt s 4)) w := index_bt (k := 4) Tryd.underlying9 (by omega)
  have i5 : ∀ w, (Instr.index 9 (.string s) (.int .i64 5)).run Tryd.prog w = .ok (.int .u8 (bt s 5)) w := index_bt (k := 5) Tryd.underlying9 (by omega)
  have i6 : ∀ w, (Instr.index 9 (.string s) (.int .i64 6)).run Tryd.prog w = .ok (.int .u8 (bt s 6)) w := index_bt (k := 6) Tryd.underlying9 (by omega)
  have i7 : ∀ w, (Instr.index 9 (.string s) (.int .i64 7)).run Tryd.prog w = .ok (.int .u8 (bt s 7)) w := index_bt (k := 7) Tryd.underlying9 (by omega)
  have p4 := (bt_lt s 4).1
  have r4 := (bt_lt s 4).2
  have p5 := (bt_lt s 5).1
  have r5 := (bt_lt s 5).2
  have f6 : (bt s 6 == 0) = true := by simpa using h6
  have g6 : (bt s 6 != 0) = false := by simpa using h6
  have f7 : (bt s 7 == 0) = true := by simpa using h7
  have g7 : (bt s 7 != 0) = false := by simpa using h7
  have f5 : (bt s 5 / 4 == 1) = true := by simpa using h5
  have x7l : bt s 5 ≤ 7 := by omega
  have b7 : decide (7 < bt s 5) = false := by simp; omega
  have hN : bt s 4 = (decN s : Int) := by unfold decN; have := bt_lt s 4; omega
  have HNN := Lib.hid hN
  have HX : Hid (s.extract 8 (8 + bt s 4).toNat = decD s) := Lib.hid (by unfold decD; rw [hN]; rfl)
  have l8 : bt s 4 ≤ (s.size : Int) - 8 := by omega
  have b8 : decide ((s.size : Int) - 8 < bt s 4) = false := by simp; omega
  have HNB : Hid (decN s + 8 ≤ s.size) := Lib.hid h8
  have HQ := Lib.hid h9
  have W0 := Lib.hid (num4_lt s 0).1
  have W1 : Hid (num4 s 0 < 4294967296) := Lib.hid (by have := (num4_lt s 0).2; omega)
  have HDS : Hid ((decD s).size ≤ maxLen) := Lib.hid (by unfold decD maxLen; rw [sub_size _ _ _ (by omega)]; omega)
  have HE : Hid (decF s = ⟨num4 s 0 % 536870912, 8, bt s 4, decD s⟩) := Lib.hid (by unfold decF isFd decFl; rw [decide_eq_true hsz, he, hb, ht]; rfl)
  have HV := Lib.hid hV
  have HK := Lib.hid hok
  have ge : decide (2147483648 ≤ num4 s 0) = false := by unfold wE at he; have := num4_lt s 0; simp at he ⊢; omega
  have fb : (bt s 5 % 2 == 1) = false := by rw [hb]; rfl
  have ft : (bt s 5 / 2 % 2 == 1) = false := by rw [ht]; rfl
  have FB := Lib.hid fb
  have FT := Lib.hid ft
  have GE := Lib.hid ge
  clear hsz hs h6 h7 h5 h8 h9 hN he hb ht hok hV fb ft ge
  generalize bt s 4 = x4 at *
  generalize bt s 5 = x5 at *
  generalize bt s 6 = x6 at *
  generalize bt s 7 = x7 at *
  go_enter Tryd.func13, Tryd.ntmps13
  go_wp2_with fail
  refine (rget_yes s 0 _ HS.out (by have := HZ.out; omega)).mono ?_
  rintro e w1 ⟨rfl, rfl⟩
  go_wp2_with fail
  go_quiet (fail)
  have c0 : ((w.alloc (.cells #[.int .i64 0, .int .i64 0, .int .i64 0, .string (ByteArray.mk #[])] 23)).drewN nq).cell? ⟨w.heap.size, 0, none⟩ = some (.int .i64 0) := by simp [go_sem]
  have c1 : ((w.alloc (.cells #[.int .i64 0, .int .i64 0, .int .i64 0, .string (ByteArray.mk #[])] 23)).drewN nq).cell? ⟨w.heap.size, 1, none⟩ = some (.int .i64 0) := by simp [go_sem]
  have c2 : ((w.alloc (.cells #[.int .i64 0, .int .i64 0, .int .i64 0, .string (ByteArray.mk #[])] 23)).drewN nq).cell? ⟨w.heap.size, 2, none⟩ = some (.int .i64 0) := by simp [go_sem]
  have c3 : ((w.alloc (.cells #[.int .i64 0, .int .i64 0, .int .i64 0, .string (ByteArray.mk #[])] 23)).drewN nq).cell? ⟨w.heap.size, 3, none⟩ = some (.string (ByteArray.mk #[])) := by simp [go_sem]
  have v0 : ((w.alloc (.cells #[.int .i64 0, .int .i64 0, .int .i64 0, .string (ByteArray.mk #[])] 23)).drewN nq).frozen? ⟨w.heap.size, 0, none⟩ = false := by simp [go_sem]
  have v1 : ((w.alloc (.cells #[.int .i64 0, .int .i64 0, .int .i64 0, .string (ByteArray.mk #[])] 23)).drewN nq).frozen? ⟨w.heap.size, 1, none⟩ = false := by simp [go_sem]
  have v2 : ((w.alloc (.cells #[.int .i64 0, .int .i64 0, .int .i64 0, .string (ByteArray.mk #[])] 23)).drewN nq).frozen? ⟨w.heap.size, 2, none⟩ = false := by simp [go_sem]
  have v3 : ((w.alloc (.cells #[.int .i64 0, .int .i64 0, .int .i64 0, .string (ByteArray.mk #[])] 23)).drewN nq).frozen? ⟨w.heap.size, 3, none⟩ = false := by simp [go_sem]
  have hzq : w.heap.size < ((w.alloc (.cells #[.int .i64 0, .int .i64 0, .int .i64 0, .string (ByteArray.mk #[])] 23)).drewN nq).heap.size := by simp
  have HW : Hid (Below w.heap.size w ((w.alloc (.cells #[.int .i64 0, .int .i64 0, .int .i64 0, .string (ByteArray.mk #[])] 23)).drewN nq)) := Lib.hid (below_drewN (Below.allocL (Below.refl _ _) _) _)
  generalize (w.alloc (.cells #[.int .i64 0, .int .i64 0, .int .i64 0, .string (ByteArray.mk #[])] 23)).drewN nq = wq at *
  go_wp2_with fail
  refine (rzero_v (a := 8 + decN s) (b := s.size) HQ.out (by rw [HNN.out]; simp) rfl (Nat.le_refl _) HS.out (by have := HZ.out; have := HNB.out; unfold maxLen; omega) _).mono ?_
  rintro e w1 ⟨rfl, rfl⟩
  clear e1 e2 e3 e4 i4 i5 i6 i7 f6 g6 f7 g7
  go_wp2_with fail
  rw [HX.out]
  refine (rof_some W0.out W1.out HDS.out _).mono ?_
  rintro e w1 ⟨a', b', c', d', q', rfl, hb⟩
  obtain ⟨hc, hf⟩ := fbcell hb
  have hz1 : w.heap.size < w1.heap.size := Nat.lt_of_lt_of_le hzq hb.size
  have HB1 := Lib.hid (fbelow_t HW.out hb)
  have d0 : w1.cell? ⟨w.heap.size, 0, none⟩ = some (.int .i64 0) := by rw [hc _ _ hzq]; exact c0
  have d1 : w1.cell? ⟨w.heap.size, 1, none⟩ = some (.int .i64 0) := by rw [hc _ _ hzq]; exact c1
  have d2 : w1.cell? ⟨w.heap.size, 2, none⟩ = some (.int .i64 0) := by rw [hc _ _ hzq]; exact c2
  have d3 : w1.cell? ⟨w.heap.size, 3, none⟩ = some (.string (ByteArray.mk #[])) := by rw [hc _ _ hzq]; exact c3
  have fb := FB.out
  have ft := FT.out
  have ge := GE.out
  have n0 := W0.out
  have n1 := W1.out
  go_wp2_with fail
  rw [HX.out]
  cases hq : okF (num4 s 0 % 536870912) 8 x4 (decD s).size
  · have HQ3 := Lib.hid hq
    clear hq
    refine (rright_v HQ3.out _).mono ?_
    rintro e w2 ⟨rfl, hb2⟩
    obtain ⟨hc2, hf2⟩ := fbcell hb2
    have hz2 : w1.heap.size < w2.heap.size := by have := hb2.size; simp only [World.size_alloc] at this; omega
    have hz3 : w.heap.size < w2.heap.size := by omega
    have HB2 := Lib.hid (fbelow_t (Below.allocL HB1.out _) hb2)
    have k0 : w2.cell? ⟨w.heap.size, 0, none⟩ = some (.int .i64 0) := by rw [hc2 _ _ (by simp only [World.size_alloc]; omega), World.cell?_alloc_lt _ _ _ hz1]; exact d0
    have k1 : w2.cell? ⟨w.heap.size, 1, none⟩ = some (.int .i64 0) := by rw [hc2 _ _ (by simp only [World.size_alloc]; omega), World.cell?_alloc_lt _ _ _ hz1]; exact d1
    have k2 : w2.cell? ⟨w.heap.size, 2, none⟩ = some (.int .i64 0) := by rw [hc2 _ _ (by simp only [World.size_alloc]; omega), World.cell?_alloc_lt _ _ _ hz1]; exact d2
    have k3 : w2.cell? ⟨w.heap.size, 3, none⟩ = some (.string (ByteArray.mk #[])) := by rw [hc2 _ _ (by simp only [World.size_alloc]; omega), World.cell?_alloc_lt _ _ _ hz1]; exact d3
    have hok2 : okk = false := by
      have := HK.out
      rw [HE.out] at this
      have h5 : (⟨num4 s 0 % 536870912, 8, x4, decD s⟩ : Fr).ok = false := HQ3.out
      rw [h5] at this
      exact this.symm
    subst hok2
    go_wp2
    refine bodyPost_ret (v := .tuple #[.agg #[.int .i64 0, .int .i64 0, .int .i64 0, .string (ByteArray.mk #[])], .bool false]) (by simp [results, Tryd.results13, go_sem, k0, k1, k2, k3]) rfl ⟨by rw [HV.out]; rfl, ?_⟩
    exact ((((HB2.out.setCell (p := ⟨w.heap.size, 0, none⟩) (Nat.le_refl _) _).setCell (p := ⟨w.heap.size, 1, none⟩) (Nat.le_refl _) _).setCell (p := ⟨w.heap.size, 2, none⟩) (Nat.le_refl _) _).setCell (p := ⟨w.heap.size, 3, none⟩) (Nat.le_refl _) _)
  · have HQ3 := Lib.hid hq
    clear hq
    refine (rright_v HQ3.out _).mono ?_
    rintro e w2 ⟨rfl, hb2⟩
    obtain ⟨hc2, hf2⟩ := fbcell hb2
    have hz2 : w1.heap.size < w2.heap.size := by have := hb2.size; simp only [World.size_alloc] at this; omega
    have hz3 : w.heap.size < w2.heap.size := by omega
    have HB2 := Lib.hid (fbelow_t (Below.allocL HB1.out _) hb2)
    have k0 : w2.cell? ⟨w.heap.size, 0, none⟩ = some (.int .i64 0) := by rw [hc2 _ _ (by simp only [World.size_alloc]; omega), World.cell?_alloc_lt _ _ _ hz1]; exact d0
    have k1 : w2.cell? ⟨w.heap.size, 1, none⟩ = some (.int .i64 0) := by rw [hc2 _ _ (by simp only [World.size_alloc]; omega), World.cell?_alloc_lt _ _ _ hz1]; exact d1
    have k2 : w2.cell? ⟨w.heap.size, 2, none⟩ = some (.int .i64 0) := by rw [hc2 _ _ (by simp only [World.size_alloc]; omega), World.cell?_alloc_lt _ _ _ hz1]; exact d2
    have k3 : w2.cell? ⟨w.heap.size, 3, none⟩ = some (.string (ByteArray.mk #[])) := by rw [hc2 _ _ (by simp only [World.size_alloc]; omega), World.cell?_alloc_lt _ _ _ hz1]; exact d3
    by_cases h4 : num4 s 0 / 536870912 % 4 = 0
    · have m4 : (num4 s 0 / 536870912 % 4 == 0) = true := by simpa using h4
      have hok2 : okk = true := by
        have := HK.out
        rw [HE.out, decide_eq_true h4] at this
        have h5 : (⟨num4 s 0 % 536870912, 8, x4, decD s⟩ : Fr).ok = true := HQ3.out
        rw [h5] at this
        exact this.symm
      subst hok2
      clear h4
      go_wp2_with fail
      refine (has2 (n := 8) (q := false) (by decide) (by decide) (by decide) _ _ _ _).mono ?_
      rintro e w3 ⟨rfl, hb3⟩
      obtain ⟨hc3, hf3⟩ := fbcell hb3
      have hz4 : w1.heap.size < w3.heap.size := Nat.lt_of_lt_of_le hz2 hb3.size
      have hz5 : w.heap.size < w3.heap.size := by omega
      have HB3 := Lib.hid (fbelow_t HB2.out hb3)
      have l0 : w3.cell? ⟨w.heap.size, 0, none⟩ = some (.int .i64 0) := by rw [hc3 _ _ hz3]; exact k0
      have l1 : w3.cell? ⟨w.heap.size, 1, none⟩ = some (.int .i64 0) := by rw [hc3 _ _ hz3]; exact k1
      have l2 : w3.cell? ⟨w.heap.size, 2, none⟩ = some (.int .i64 0) := by rw [hc3 _ _ hz3]; exact k2
      have l3 : w3.cell? ⟨w.heap.size, 3, none⟩ = some (.string (ByteArray.mk #[])) := by rw [hc3 _ _ hz3]; exact k3
      go_wp2
      refine bodyPost_ret (v := .tuple #[.agg #[.int .i64 (num4 s 0 % 536870912), .int .i64 8, .int .i64 x4, .string (decD s)], .bool true]) (by simp [results, Tryd.results13, go_sem, l0, l1, l2, l3]) rfl ⟨by rw [HV.out, HE.out]; rfl, ?_⟩
      exact ((((HB3.out.setCell (p := ⟨w.heap.size, 0, none⟩) (Nat.le_refl _) _).setCell (p := ⟨w.heap.size, 1, none⟩) (Nat.le_refl _) _).setCell (p := ⟨w.heap.size, 2, none⟩) (Nat.le_refl _) _).setCell (p := ⟨w.heap.size, 3, none⟩) (Nat.le_refl _) _)
    · have m4 : (num4 s 0 / 536870912 % 4 == 0) = false := by simpa using h4
      have hok2 : okk = false := by
        have := HK.out
        rw [decide_eq_false h4, Bool.and_false] at this
        exact this.symm
      subst hok2
      clear h4
      go_wp2
      refine bodyPost_ret (v := .tuple #[.agg #[.int .i64 0, .int .i64 0, .int .i64 0, .string (ByteArray.mk #[])], .bool false]) (by simp [results, Tryd.results13, go_sem, k0, k1, k2, k3]) rfl ⟨by rw [HV.out]; rfl, ?_⟩
      exact ((((HB2.out.setCell (p := ⟨w.heap.size, 0, none⟩) (Nat.le_refl _) _).setCell (p := ⟨w.heap.size, 1, none⟩) (Nat.le_refl _) _).setCell (p := ⟨w.heap.size, 2, none⟩) (Nat.le_refl _) _).setCell (p := ⟨w.heap.size, 3, none⟩) (Nat.le_refl _) _)

set_option maxRecDepth 100000 in
set_option maxHeartbeats 2000000 in
theorem rdec_F_001 {s : ByteArray} (hs : s.size ≤ maxLen) (hsz : s.size = 72) (h6 : bt s 6 = 0) (h7 : bt s 7 = 0) (h5 : bt s 5 / 4 = 1) (h8 : decN s + 8 ≤ s.size) (h9 : zeroB s (8 + decN s) s.size = true) (he : wE (num4 s 0) = false) (hb : bt s 5 % 2 = 0) (ht : bt s 5 / 2 % 2 = 1) (okk : Bool) (hok : ((decF s).ok && decide (num4 s 0 / 536870912 % 4 = 0)) = okk) (V : Value) (hV : V = .tuple #[if okk then .agg #[.int .i64 (decF s).i, .int .i64 (decF s).n, .int .i64 (decF s).l, .string (decF s).d] else .agg #[.int .i64 0, .int .i64 0, .int .i64 0, .string (ByteArray.mk #[])], .bool okk]) (w : World) :
    Calls Tryd.prog 13 #[.string s] w fun e w' => e = .returned V ∧ Below w.heap.size w w' := by
  have HS := Lib.hid hs
  have e1 : ((s.size : Int) == 16) = false := by simp; omega
  have e2 : ((s.size : Int) != 16) = true := by simp; omega
  have e3 : ((s.size : Int) == 72) = true := by simp; omega
  have e4 : ((s.size : Int) != 72) = false := by simp; omega
  have s0 : s.size ≤ 72 := by omega
  have s1 : 16 ≤ s.size := by omega
  have HZ : Hid (s.size = 72) := Lib.hid hsz
  have i4 : ∀ w, (Instr.index 9 (.string s) (.int .i64 4)).run Tryd.prog w = .ok (.int .u8 (bt s 4)) w := index_bt (k := 4) Tryd.underlying9 (by omega)
  have i5 : ∀ w, (Instr.index 9 (.string s) (.int .i64 5)).run Tryd.prog w = .ok (.int .u8 (bt s 5)) w := index_bt (k := 5) Tryd.underlying9 (by omega)
  have i6 : ∀ w, (Instr.index 9 (.string s) (.int .i64 6)).run Tryd.prog w = .ok (.int .u8 (bt s 6)) w := index_bt (k := 6) Tryd.underlying9 (by omega)
  have i7 : ∀ w, (Instr.index 9 (.string s) (.int .i64 7)).run Tryd.prog w = .ok (.int .u8 (bt s 7)) w := index_bt (k := 7) Tryd.underlying9 (by omega)
  have p4 := (bt_lt s 4).1
  have r4 := (bt_lt s 4).2
  have p5 := (bt_lt s 5).1
  have r5 := (bt_lt s 5).2
  have f6 : (bt s 6 == 0) = true := by simpa using h6
  have g6 : (bt s 6 != 0) = false := by simpa using h6
  have f7 : (bt s 7 == 0) = true := by simpa using h7
  have g7 : (bt s 7 != 0) = false := by simpa using h7
  have f5 : (bt s 5 / 4 == 1) = true := by simpa using h5
  have x7l : bt s 5 ≤ 7 := by omega
  have b7 : decide (7 < bt s 5) = false := by simp; omega
  have hN : bt s 4 = (decN s : Int) := by unfold decN; have := bt_lt s 4; omega
  have HNN := Lib.hid hN
  have HX : Hid (s.extract 8 (8 + bt s 4).toNat = decD s) := Lib.hid (by unfold decD; rw [hN]; rfl)
  have l8 : bt s 4 ≤ (s.size : Int) - 8 := by omega
  have b8 : decide ((s.size : Int) - 8 < bt s 4) = false := by simp; omega
  have HNB : Hid (decN s + 8 ≤ s.size) := Lib.hid h8
  have HQ := Lib.hid h9
  have W0 := Lib.hid (num4_lt s 0).1
  have W1 : Hid (num4 s 0 < 4294967296) := Lib.hid (by have := (num4_lt s 0).2; omega)
  have HDS : Hid ((decD s).size ≤ maxLen) := Lib.hid (by unfold decD maxLen; rw [sub_size _ _ _ (by omega)]; omega)
  have HE : Hid (decF s = ⟨num4 s 0 % 536870912, 40, bt s 4, decD s⟩) := Lib.hid (by unfold decF isFd decFl; rw [decide_eq_true hsz, he, hb, ht]; rfl)
  have HV := Lib.hid hV
  have HK := Lib.hid hok
  have ge : decide (2147483648 ≤ num4 s 0) = false := by unfold wE at he; have := num4_lt s 0; simp at he ⊢; omega
  have fb : (bt s 5 % 2 == 1) = false := by rw [hb]; rfl
  have ft : (bt s 5 / 2 % 2 == 1) = true := by rw [ht]; rfl
  have FB := Lib.hid fb
  have FT := Lib.hid ft
  have GE := Lib.hid ge
  clear hsz hs h6 h7 h5 h8 h9 hN he hb ht hok hV fb ft ge
  generalize bt s 4 = x4 at *
  generalize bt s 5 = x5 at *
  generalize bt s 6 = x6 at *
  generalize bt s 7 = x7 at *
  go_enter Tryd.func13, Tryd.ntmps13
  go_wp2_with fail
  refine (rget_yes s 0 _ HS.out (by have := HZ.out; omega)).mono ?_
  rintro e w1 ⟨rfl, rfl⟩
  go_wp2_with fail
  go_quiet (fail)
  have c0 : ((w.alloc (.cells #[.int .i64 0, .int .i64 0, .int .i64 0, .string (ByteArray.mk #[])] 23)).drewN nq).cell? ⟨w.heap.size, 0, none⟩ = some (.int .i64 0) := by simp [go_sem]
  have c1 : ((w.alloc (.cells #[.int .i64 0, .int .i64 0, .int .i64 0, .string (ByteArray.mk #[])] 23)).drewN nq).cell? ⟨w.heap.size, 1, none⟩ = some (.int .i64 0) := by simp [go_sem]
  have c2 : ((w.alloc (.cells #[.int .i64 0, .int .i64 0, .int .i64 0, .string (ByteArray.mk #[])] 23)).drewN nq).cell? ⟨w.heap.size, 2, none⟩ = some (.int .i64 0) := by simp [go_sem]
  have c3 : ((w.alloc (.cells #[.int .i64 0, .int .i64 0, .int .i64 0, .string (ByteArray.mk #[])] 23)).drewN nq).cell? ⟨w.heap.size, 3, none⟩ = some (.string (ByteArray.mk #[])) := by simp [go_sem]
  have v0 : ((w.alloc (.cells #[.int .i64 0, .int .i64 0, .int .i64 0, .string (ByteArray.mk #[])] 23)).drewN nq).frozen? ⟨w.heap.size, 0, none⟩ = false := by simp [go_sem]
  have v1 : ((w.alloc (.cells #[.int .i64 0, .int .i64 0, .int .i64 0, .string (ByteArray.mk #[])] 23)).drewN nq).frozen? ⟨w.heap.size, 1, none⟩ = false := by simp [go_sem]
  have v2 : ((w.alloc (.cells #[.int .i64 0, .int .i64 0, .int .i64 0, .string (ByteArray.mk #[])] 23)).drewN nq).frozen? ⟨w.heap.size, 2, none⟩ = false := by simp [go_sem]
  have v3 : ((w.alloc (.cells #[.int .i64 0, .int .i64 0, .int .i64 0, .string (ByteArray.mk #[])] 23)).drewN nq).frozen? ⟨w.heap.size, 3, none⟩ = false := by simp [go_sem]
  have hzq : w.heap.size < ((w.alloc (.cells #[.int .i64 0, .int .i64 0, .int .i64 0, .string (ByteArray.mk #[])] 23)).drewN nq).heap.size := by simp
  have HW : Hid (Below w.heap.size w ((w.alloc (.cells #[.int .i64 0, .int .i64 0, .int .i64 0, .string (ByteArray.mk #[])] 23)).drewN nq)) := Lib.hid (below_drewN (Below.allocL (Below.refl _ _) _) _)
  generalize (w.alloc (.cells #[.int .i64 0, .int .i64 0, .int .i64 0, .string (ByteArray.mk #[])] 23)).drewN nq = wq at *
  go_wp2_with fail
  refine (rzero_v (a := 8 + decN s) (b := s.size) HQ.out (by rw [HNN.out]; simp) rfl (Nat.le_refl _) HS.out (by have := HZ.out; have := HNB.out; unfold maxLen; omega) _).mono ?_
  rintro e w1 ⟨rfl, rfl⟩
  clear e1 e2 e3 e4 i4 i5 i6 i7 f6 g6 f7 g7
  go_wp2_with fail
  rw [HX.out]
  refine (rof_some W0.out W1.out HDS.out _).mono ?_
  rintro e w1 ⟨a', b', c', d', q', rfl, hb⟩
  obtain ⟨hc, hf⟩ := fbcell hb
  have hz1 : w.heap.size < w1.heap.size := Nat.lt_of_lt_of_le hzq hb.size
  have HB1 := Lib.hid (fbelow_t HW.out hb)
  have d0 : w1.cell? ⟨w.heap.size, 0, none⟩ = some (.int .i64 0) := by rw [hc _ _ hzq]; exact c0
  have d1 : w1.cell? ⟨w.heap.size, 1, none⟩ = some (.int .i64 0) := by rw [hc _ _ hzq]; exact c1
  have d2 : w1.cell? ⟨w.heap.size, 2, none⟩ = some (.int .i64 0) := by rw [hc _ _ hzq]; exact c2
  have d3 : w1.cell? ⟨w.heap.size, 3, none⟩ = some (.string (ByteArray.mk #[])) := by rw [hc _ _ hzq]; exact c3
  have fb := FB.out
  have ft := FT.out
  have ge := GE.out
  have n0 := W0.out
  have n1 := W1.out
  go_wp2_with fail
  rw [HX.out]
  cases hq : okF (num4 s 0 % 536870912) 40 x4 (decD s).size
  · have HQ3 := Lib.hid hq
    clear hq
    refine (rright_v HQ3.out _).mono ?_
    rintro e w2 ⟨rfl, hb2⟩
    obtain ⟨hc2, hf2⟩ := fbcell hb2
    have hz2 : w1.heap.size < w2.heap.size := by have := hb2.size; simp only [World.size_alloc] at this; omega
    have hz3 : w.heap.size < w2.heap.size := by omega
    have HB2 := Lib.hid (fbelow_t (Below.allocL HB1.out _) hb2)
    have k0 : w2.cell? ⟨w.heap.size, 0, none⟩ = some (.int .i64 0) := by rw [hc2 _ _ (by simp only [World.size_alloc]; omega), World.cell?_alloc_lt _ _ _ hz1]; exact d0
    have k1 : w2.cell? ⟨w.heap.size, 1, none⟩ = some (.int .i64 0) := by rw [hc2 _ _ (by simp only [World.size_alloc]; omega), World.cell?_alloc_lt _ _ _ hz1]; exact d1
    have k2 : w2.cell? ⟨w.heap.size, 2, none⟩ = some (.int .i64 0) := by rw [hc2 _ _ (by simp only [World.size_alloc]; omega), World.cell?_alloc_lt _ _ _ hz1]; exact d2
    have k3 : w2.cell? ⟨w.heap.size, 3, none⟩ = some (.string (ByteArray.mk #[])) := by rw [hc2 _ _ (by simp only [World.size_alloc]; omega), World.cell?_alloc_lt _ _ _ hz1]; exact d3
    have hok2 : okk = false := by
      have := HK.out
      rw [HE.out] at this
      have h5 : (⟨num4 s 0 % 536870912, 40, x4, decD s⟩ : Fr).ok = false := HQ3.out
      rw [h5] at this
      exact this.symm
    subst hok2
    go_wp2
    refine bodyPost_ret (v := .tuple #[.agg #[.int .i64 0, .int .i64 0, .int .i64 0, .string (ByteArray.mk #[])], .bool false]) (by simp [results, Tryd.results13, go_sem, k0, k1, k2, k3]) rfl ⟨by rw [HV.out]; rfl, ?_⟩
    exact ((((HB2.out.setCell (p := ⟨w.heap.size, 0, none⟩) (Nat.le_refl _) _).setCell (p := ⟨w.heap.size, 1, none⟩) (Nat.le_refl _) _).setCell (p := ⟨w.heap.size, 2, none⟩) (Nat.le_refl _) _).setCell (p := ⟨w.heap.size, 3, none⟩) (Nat.le_refl _) _)
  · have HQ3 := Lib.hid hq
    clear hq
    refine (rright_v HQ3.out _).mono ?_
    rintro e w2 ⟨rfl, hb2⟩
    obtain ⟨hc2, hf2⟩ := fbcell hb2
    have hz2 : w1.heap.size < w2.heap.size := by have := hb2.size; simp only [World.size_alloc] at this; omega
    have hz3 : w.heap.size < w2.heap.size := by omega
    have HB2 := Lib.hid (fbelow_t (Below.allocL HB1.out _) hb2)
    have k0 : w2.cell? ⟨w.heap.size, 0, none⟩ = some (.int .i64 0) := by rw [hc2 _ _ (by simp only [World.size_alloc]; omega), World.cell?_alloc_lt _ _ _ hz1]; exact d0
    have k1 : w2.cell? ⟨w.heap.size, 1, none⟩ = some (.int .i64 0) := by rw [hc2 _ _ (by simp only [World.size_alloc]; omega), World.cell?_alloc_lt _ _ _ hz1]; exact d1
    have k2 : w2.cell? ⟨w.heap.size, 2, none⟩ = some (.int .i64 0) := by rw [hc2 _ _ (by simp only [World.size_alloc]; omega), World.cell?_alloc_lt _ _ _ hz1]; exact d2
    have k3 : w2.cell? ⟨w.heap.size, 3, none⟩ = some (.string (ByteArray.mk #[])) := by rw [hc2 _ _ (by simp only [World.size_alloc]; omega), World.cell?_alloc_lt _ _ _ hz1]; exact d3
    by_cases h4 : num4 s 0 / 536870912 % 4 = 0
    · have m4 : (num4 s 0 / 536870912 % 4 == 0) = true := by simpa using h4
      have hok2 : okk = true := by
        have := HK.out
        rw [HE.out, decide_eq_true h4] at this
        have h5 : (⟨num4 s 0 % 536870912, 40, x4, decD s⟩ : Fr).ok = true := HQ3.out
        rw [h5] at this
        exact this.symm
      subst hok2
      clear h4
      go_wp2_with fail
      refine (has2 (n := 40) (q := false) (by decide) (by decide) (by decide) _ _ _ _).mono ?_
      rintro e w3 ⟨rfl, hb3⟩
      obtain ⟨hc3, hf3⟩ := fbcell hb3
      have hz4 : w1.heap.size < w3.heap.size := Nat.lt_of_lt_of_le hz2 hb3.size
      have hz5 : w.heap.size < w3.heap.size := by omega
      have HB3 := Lib.hid (fbelow_t HB2.out hb3)
      have l0 : w3.cell? ⟨w.heap.size, 0, none⟩ = some (.int .i64 0) := by rw [hc3 _ _ hz3]; exact k0
      have l1 : w3.cell? ⟨w.heap.size, 1, none⟩ = some (.int .i64 0) := by rw [hc3 _ _ hz3]; exact k1
      have l2 : w3.cell? ⟨w.heap.size, 2, none⟩ = some (.int .i64 0) := by rw [hc3 _ _ hz3]; exact k2
      have l3 : w3.cell? ⟨w.heap.size, 3, none⟩ = some (.string (ByteArray.mk #[])) := by rw [hc3 _ _ hz3]; exact k3
      go_wp2
      refine bodyPost_ret (v := .tuple #[.agg #[.int .i64 (num4 s 0 % 536870912), .int .i64 40, .int .i64 x4, .string (decD s)], .bool true]) (by simp [results, Tryd.results13, go_sem, l0, l1, l2, l3]) rfl ⟨by rw [HV.out, HE.out]; rfl, ?_⟩
      exact ((((HB3.out.setCell (p := ⟨w.heap.size, 0, none⟩) (Nat.le_refl _) _).setCell (p := ⟨w.heap.size, 1, none⟩) (Nat.le_refl _) _).setCell (p := ⟨w.heap.size, 2, none⟩) (Nat.le_refl _) _).setCell (p := ⟨w.heap.size, 3, none⟩) (Nat.le_refl _) _)
    · have m4 : (num4 s 0 / 536870912 % 4 == 0) = false := by simpa using h4
      have hok2 : okk = false := by
        have := HK.out
        rw [decide_eq_false h4, Bool.and_false] at this
        exact this.symm
      subst hok2
      clear h4
      go_wp2
      refine bodyPost_ret (v := .tuple #[.agg #[.int .i64 0, .int .i64 0, .int .i64 0, .string (ByteArray.mk #[])], .bool false]) (by simp [results, Tryd.results13, go_sem, k0, k1, k2, k3]) rfl ⟨by rw [HV.out]; rfl, ?_⟩
      exact ((((HB2.out.setCell (p := ⟨w.heap.size, 0, none⟩) (Nat.le_refl _) _).setCell (p := ⟨w.heap.size, 1, none⟩) (Nat.le_refl _) _).setCell (p := ⟨w.heap.size, 2, none⟩) (Nat.le_refl _) _).setCell (p := ⟨w.heap.size, 3, none⟩) (Nat.le_refl _) _)

set_option maxRecDepth 100000 in
set_option maxHeartbeats 2000000 in
theorem rdec_F_010 {s : ByteArray} (hs : s.size ≤ maxLen) (hsz : s.size = 72) (h6 : bt s 6 = 0) (h7 : bt s 7 = 0) (h5 : bt s 5 / 4 = 1) (h8 : decN s + 8 ≤ s.size) (h9 : zeroB s (8 + decN s) s.size = true) (he : wE (num4 s 0) = false) (hb : bt s 5 % 2 = 1) (ht : bt s 5 / 2 % 2 = 0) (okk : Bool) (hok : ((decF s).ok && decide (num4 s 0 / 536870912 % 4 = 0)) = okk) (V : Value) (hV : V = .tuple #[if okk then .agg #[.int .i64 (decF s).i, .int .i64 (decF s).n, .int .i64 (decF s).l, .string (decF s).d] else .agg #[.int .i64 0, .int .i64 0, .int .i64 0, .string (ByteArray.mk #[])], .bool okk]) (w : World) :
    Calls Tryd.prog 13 #[.string s] w fun e w' => e = .returned V ∧ Below w.heap.size w w' := by
  have HS := Lib.hid hs
  have e1 : ((s.size : Int) == 16) = false := by simp; omega
  have e2 : ((s.size : Int) != 16) = true := by simp; omega
  have e3 : ((s.size : Int) == 72) = true := by simp; omega
  have e4 : ((s.size : Int) != 72) = false := by simp; omega
  have s0 : s.size ≤ 72 := by omega
  have s1 : 16 ≤ s.size := by omega
  have HZ : Hid (s.size = 72) := Lib.hid hsz
  have i4 : ∀ w, (Instr.index 9 (.string s) (.int .i64 4)).run Tryd.prog w = .ok (.int .u8 (bt s 4)) w := index_bt (k := 4) Tryd.underlying9 (by omega)
  have i5 : ∀ w, (Instr.index 9 (.string s) (.int .i64 5)).run Tryd.prog w = .ok (.int .u8 (bt s 5)) w := index_bt (k := 5) Tryd.underlying9 (by omega)
  have i6 : ∀ w, (Instr.index 9 (.string s) (.int .i64 6)).run Tryd.prog w = .ok (.int .u8 (bt s 6)) w := index_bt (k := 6) Tryd.underlying9 (by omega)
  have i7 : ∀ w, (Instr.index 9 (.string s) (.int .i64 7)).run Tryd.prog w = .ok (.int .u8 (bt s 7)) w := index_bt (k := 7) Tryd.underlying9 (by omega)
  have p4 := (bt_lt s 4).1
  have r4 := (bt_lt s 4).2
  have p5 := (bt_lt s 5).1
  have r5 := (bt_lt s 5).2
  have f6 : (bt s 6 == 0) = true := by simpa using h6
  have g6 : (bt s 6 != 0) = false := by simpa using h6
  have f7 : (bt s 7 == 0) = true := by simpa using h7
  have g7 : (bt s 7 != 0) = false := by simpa using h7
  have f5 : (bt s 5 / 4 == 1) = true := by simpa using h5
  have x7l : bt s 5 ≤ 7 := by omega
  have b7 : decide (7 < bt s 5) = false := by simp; omega
  have hN : bt s 4 = (decN s : Int) := by unfold decN; have := bt_lt s 4; omega
  have HNN := Lib.hid hN
  have HX : Hid (s.extract 8 (8 + bt s 4).toNat = decD s) := Lib.hid (by unfold decD; rw [hN]; rfl)
  have l8 : bt s 4 ≤ (s.size : Int) - 8 := by omega
  have b8 : decide ((s.size : Int) - 8 < bt s 4) = false := by simp; omega
  have HNB : Hid (decN s + 8 ≤ s.size) := Lib.hid h8
  have HQ := Lib.hid h9
  have W0 := Lib.hid (num4_lt s 0).1
  have W1 : Hid (num4 s 0 < 4294967296) := Lib.hid (by have := (num4_lt s 0).2; omega)
  have HDS : Hid ((decD s).size ≤ maxLen) := Lib.hid (by unfold decD maxLen; rw [sub_size _ _ _ (by omega)]; omega)
  have HE : Hid (decF s = ⟨num4 s 0 % 536870912, 24, bt s 4, decD s⟩) := Lib.hid (by unfold decF isFd decFl; rw [decide_eq_true hsz, he, hb, ht]; rfl)
  have HV := Lib.hid hV
  have HK := Lib.hid hok
  have ge : decide (2147483648 ≤ num4 s 0) = false := by unfold wE at he; have := num4_lt s 0; simp at he ⊢; omega
  have fb : (bt s 5 % 2 == 1) = true := by rw [hb]; rfl
  have ft : (bt s 5 / 2 % 2 == 1) = false := by rw [ht]; rfl
  have FB := Lib.hid fb
  have FT := Lib.hid ft
  have GE := Lib.hid ge
  clear hsz hs h6 h7 h5 h8 h9 hN he hb ht hok hV fb ft ge
  generalize bt s 4 = x4 at *
  generalize bt s 5 = x5 at *
  generalize bt s 6 = x6 at *
  generalize bt s 7 = x7 at *
  go_enter Tryd.func13, Tryd.ntmps13
  go_wp2_with fail
  refine (rget_yes s 0 _ HS.out (by have := HZ.out; omega)).mono ?_
  rintro e w1 ⟨rfl, rfl⟩
  go_wp2_with fail
  go_quiet (fail)
  have c0 : ((w.alloc (.cells #[.int .i64 0, .int .i64 0, .int .i64 0, .string (ByteArray.mk #[])] 23)).drewN nq).cell? ⟨w.heap.size, 0, none⟩ = some (.int .i64 0) := by simp [go_sem]
  have c1 : ((w.alloc (.cells #[.int .i64 0, .int .i64 0, .int .i64 0, .string (ByteArray.mk #[])] 23)).drewN nq).cell? ⟨w.heap.size, 1, none⟩ = some (.int .i64 0) := by simp [go_sem]
  have c2 : ((w.alloc (.cells #[.int .i64 0, .int .i64 0, .int .i64 0, .string (ByteArray.mk #[])] 23)).drewN nq).cell? ⟨w.heap.size, 2, none⟩ = some (.int .i64 0) := by simp [go_sem]
  have c3 : ((w.alloc (.cells #[.int .i64 0, .int .i64 0, .int .i64 0, .string (ByteArray.mk #[])] 23)).drewN nq).cell? ⟨w.heap.size, 3, none⟩ = some (.string (ByteArray.mk #[])) := by simp [go_sem]
  have v0 : ((w.alloc (.cells #[.int .i64 0, .int .i64 0, .int .i64 0, .string (ByteArray.mk #[])] 23)).drewN nq).frozen? ⟨w.heap.size, 0, none⟩ = false := by simp [go_sem]
  have v1 : ((w.alloc (.cells #[.int .i64 0, .int .i64 0, .int .i64 0, .string (ByteArray.mk #[])] 23)).drewN nq).frozen? ⟨w.heap.size, 1, none⟩ = false := by simp [go_sem]
  have v2 : ((w.alloc (.cells #[.int .i64 0, .int .i64 0, .int .i64 0, .string (ByteArray.mk #[])] 23)).drewN nq).frozen? ⟨w.heap.size, 2, none⟩ = false := by simp [go_sem]
  have v3 : ((w.alloc (.cells #[.int .i64 0, .int .i64 0, .int .i64 0, .string (ByteArray.mk #[])] 23)).drewN nq).frozen? ⟨w.heap.size, 3, none⟩ = false := by simp [go_sem]
  have hzq : w.heap.size < ((w.alloc (.cells #[.int .i64 0, .int .i64 0, .int .i64 0, .string (ByteArray.mk #[])] 23)).drewN nq).heap.size := by simp
  have HW : Hid (Below w.heap.size w ((w.alloc (.cells #[.int .i64 0, .int .i64 0, .int .i64 0, .string (ByteArray.mk #[])] 23)).drewN nq)) := Lib.hid (below_drewN (Below.allocL (Below.refl _ _) _) _)
  generalize (w.alloc (.cells #[.int .i64 0, .int .i64 0, .int .i64 0, .string (ByteArray.mk #[])] 23)).drewN nq = wq at *
  go_wp2_with fail
  refine (rzero_v (a := 8 + decN s) (b := s.size) HQ.out (by rw [HNN.out]; simp) rfl (Nat.le_refl _) HS.out (by have := HZ.out; have := HNB.out; unfold maxLen; omega) _).mono ?_
  rintro e w1 ⟨rfl, rfl⟩
  clear e1 e2 e3 e4 i4 i5 i6 i7 f6 g6 f7 g7
  go_wp2_with fail
  rw [HX.out]
  refine (rof_some W0.out W1.out HDS.out _).mono ?_
  rintro e w1 ⟨a', b', c', d', q', rfl, hb⟩
  obtain ⟨hc, hf⟩ := fbcell hb
  have hz1 : w.heap.size < w1.heap.size := Nat.lt_of_lt_of_le hzq hb.size
  have HB1 := Lib.hid (fbelow_t HW.out hb)
  have d0 : w1.cell? ⟨w.heap.size, 0, none⟩ = some (.int .i64 0) := by rw [hc _ _ hzq]; exact c0
  have d1 : w1.cell? ⟨w.heap.size, 1, none⟩ = some (.int .i64 0) := by rw [hc _ _ hzq]; exact c1
  have d2 : w1.cell? ⟨w.heap.size, 2, none⟩ = some (.int .i64 0) := by rw [hc _ _ hzq]; exact c2
  have d3 : w1.cell? ⟨w.heap.size, 3, none⟩ = some (.string (ByteArray.mk #[])) := by rw [hc _ _ hzq]; exact c3
  have fb := FB.out
  have ft := FT.out
  have ge := GE.out
  have n0 := W0.out
  have n1 := W1.out
  go_wp2_with fail
  rw [HX.out]
  cases hq : okF (num4 s 0 % 536870912) 24 x4 (decD s).size
  · have HQ3 := Lib.hid hq
    clear hq
    refine (rright_v HQ3.out _).mono ?_
    rintro e w2 ⟨rfl, hb2⟩
    obtain ⟨hc2, hf2⟩ := fbcell hb2
    have hz2 : w1.heap.size < w2.heap.size := by have := hb2.size; simp only [World.size_alloc] at this; omega
    have hz3 : w.heap.size < w2.heap.size := by omega
    have HB2 := Lib.hid (fbelow_t (Below.allocL HB1.out _) hb2)
    have k0 : w2.cell? ⟨w.heap.size, 0, none⟩ = some (.int .i64 0) := by rw [hc2 _ _ (by simp only [World.size_alloc]; omega), World.cell?_alloc_lt _ _ _ hz1]; exact d0
    have k1 : w2.cell? ⟨w.heap.size, 1, none⟩ = some (.int .i64 0) := by rw [hc2 _ _ (by simp only [World.size_alloc]; omega), World.cell?_alloc_lt _ _ _ hz1]; exact d1
    have k2 : w2.cell? ⟨w.heap.size, 2, none⟩ = some (.int .i64 0) := by rw [hc2 _ _ (by simp only [World.size_alloc]; omega), World.cell?_alloc_lt _ _ _ hz1]; exact d2
    have k3 : w2.cell? ⟨w.heap.size, 3, none⟩ = some (.string (ByteArray.mk #[])) := by rw [hc2 _ _ (by simp only [World.size_alloc]; omega), World.cell?_alloc_lt _ _ _ hz1]; exact d3
    have hok2 : okk = false := by
      have := HK.out
      rw [HE.out] at this
      have h5 : (⟨num4 s 0 % 536870912, 24, x4, decD s⟩ : Fr).ok = false := HQ3.out
      rw [h5] at this
      exact this.symm
    subst hok2
    go_wp2
    refine bodyPost_ret (v := .tuple #[.agg #[.int .i64 0, .int .i64 0, .int .i64 0, .string (ByteArray.mk #[])], .bool false]) (by simp [results, Tryd.results13, go_sem, k0, k1, k2, k3]) rfl ⟨by rw [HV.out]; rfl, ?_⟩
    exact ((((HB2.out.setCell (p := ⟨w.heap.size, 0, none⟩) (Nat.le_refl _) _).setCell (p := ⟨w.heap.size, 1, none⟩) (Nat.le_refl _) _).setCell (p := ⟨w.heap.size, 2, none⟩) (Nat.le_refl _) _).setCell (p := ⟨w.heap.size, 3, none⟩) (Nat.le_refl _) _)
  · have HQ3 := Lib.hid hq
    clear hq
    refine (rright_v HQ3.out _).mono ?_
    rintro e w2 ⟨rfl, hb2⟩
    obtain ⟨hc2, hf2⟩ := fbcell hb2
    have hz2 : w1.heap.size < w2.heap.size := by have := hb2.size; simp only [World.size_alloc] at this; omega
    have hz3 : w.heap.size < w2.heap.size := by omega
    have HB2 := Lib.hid (fbelow_t (Below.allocL HB1.out _) hb2)
    have k0 : w2.cell? ⟨w.heap.size, 0, none⟩ = some (.int .i64 0) := by rw [hc2 _ _ (by simp only [World.size_alloc]; omega), World.cell?_alloc_lt _ _ _ hz1]; exact d0
    have k1 : w2.cell? ⟨w.heap.size, 1, none⟩ = some (.int .i64 0) := by rw [hc2 _ _ (by simp only [World.size_alloc]; omega), World.cell?_alloc_lt _ _ _ hz1]; exact d1
    have k2 : w2.cell? ⟨w.heap.size, 2, none⟩ = some (.int .i64 0) := by rw [hc2 _ _ (by simp only [World.size_alloc]; omega), World.cell?_alloc_lt _ _ _ hz1]; exact d2
    have k3 : w2.cell? ⟨w.heap.size, 3, none⟩ = some (.string (ByteArray.mk #[])) := by rw [hc2 _ _ (by simp only [World.size_alloc]; omega), World.cell?_alloc_lt _ _ _ hz1]; exact d3
    by_cases h4 : num4 s 0 / 536870912 % 4 = 0
    · have m4 : (num4 s 0 / 536870912 % 4 == 0) = true := by simpa using h4
      have hok2 : okk = true := by
        have := HK.out
        rw [HE.out, decide_eq_true h4] at this
        have h5 : (⟨num4 s 0 % 536870912, 24, x4, decD s⟩ : Fr).ok = true := HQ3.out
        rw [h5] at this
        exact this.symm
      subst hok2
      clear h4
      go_wp2_with fail
      refine (has2 (n := 24) (q := false) (by decide) (by decide) (by decide) _ _ _ _).mono ?_
      rintro e w3 ⟨rfl, hb3⟩
      obtain ⟨hc3, hf3⟩ := fbcell hb3
      have hz4 : w1.heap.size < w3.heap.size := Nat.lt_of_lt_of_le hz2 hb3.size
      have hz5 : w.heap.size < w3.heap.size := by omega
      have HB3 := Lib.hid (fbelow_t HB2.out hb3)
      have l0 : w3.cell? ⟨w.heap.size, 0, none⟩ = some (.int .i64 0) := by rw [hc3 _ _ hz3]; exact k0
      have l1 : w3.cell? ⟨w.heap.size, 1, none⟩ = some (.int .i64 0) := by rw [hc3 _ _ hz3]; exact k1
      have l2 : w3.cell? ⟨w.heap.size, 2, none⟩ = some (.int .i64 0) := by rw [hc3 _ _ hz3]; exact k2
      have l3 : w3.cell? ⟨w.heap.size, 3, none⟩ = some (.string (ByteArray.mk #[])) := by rw [hc3 _ _ hz3]; exact k3
      go_wp2
      refine bodyPost_ret (v := .tuple #[.agg #[.int .i64 (num4 s 0 % 536870912), .int .i64 24, .int .i64 x4, .string (decD s)], .bool true]) (by simp [results, Tryd.results13, go_sem, l0, l1, l2, l3]) rfl ⟨by rw [HV.out, HE.out]; rfl, ?_⟩
      exact ((((HB3.out.setCell (p := ⟨w.heap.size, 0, none⟩) (Nat.le_refl _) _).setCell (p := ⟨w.heap.size, 1, none⟩) (Nat.le_refl _) _).setCell (p := ⟨w.heap.size, 2, none⟩) (Nat.le_refl _) _).setCell (p := ⟨w.heap.size, 3, none⟩) (Nat.le_refl _) _)
    · have m4 : (num4 s 0 / 536870912 % 4 == 0) = false := by simpa using h4
      have hok2 : okk = false := by
        have := HK.out
        rw [decide_eq_false h4, Bool.and_false] at this
        exact this.symm
      subst hok2
      clear h4
      go_wp2
      refine bodyPost_ret (v := .tuple #[.agg #[.int .i64 0, .int .i64 0, .int .i64 0, .string (ByteArray.mk #[])], .bool false]) (by simp [results, Tryd.results13, go_sem, k0, k1, k2, k3]) rfl ⟨by rw [HV.out]; rfl, ?_⟩
      exact ((((HB2.out.setCell (p := ⟨w.heap.size, 0, none⟩) (Nat.le_refl _) _).setCell (p := ⟨w.heap.size, 1, none⟩) (Nat.le_refl _) _).setCell (p := ⟨w.heap.size, 2, none⟩) (Nat.le_refl _) _).setCell (p := ⟨w.heap.size, 3, none⟩) (Nat.le_refl _) _)

set_option maxRecDepth 100000 in
set_option maxHeartbeats 2000000 in
theorem rdec_F_011 {s : ByteArray} (hs : s.size ≤ maxLen) (hsz : s.size = 72) (h6 : bt s 6 = 0) (h7 : bt s 7 = 0) (h5 : bt s 5 / 4 = 1) (h8 : decN s + 8 ≤ s.size) (h9 : zeroB s (8 + decN s) s.size = true) (he : wE (num4 s 0) = false) (hb : bt s 5 % 2 = 1) (ht : bt s 5 / 2 % 2 = 1) (okk : Bool) (hok : ((decF s).ok && decide (num4 s 0 / 536870912 % 4 = 0)) = okk) (V : Value) (hV : V = .tuple #[if okk then .agg #[.int .i64 (decF s).i, .int .i64 (decF s).n, .int .i64 (decF s).l, .string (decF s).d] else .agg #[.int .i64 0, .int .i64 0, .int .i64 0, .string (ByteArray.mk #[])], .bool okk]) (w : World) :
    Calls Tryd.prog 13 #[.string s] w fun e w' => e = .returned V ∧ Below w.heap.size w w' := by
  have HS := Lib.hid hs
  have e1 : ((s.size : Int) == 16) = false := by simp; omega
  have e2 : ((s.size : Int) != 16) = true := by simp; omega
  have e3 : ((s.size : Int) == 72) = true := by simp; omega
  have e4 : ((s.size : Int) != 72) = false := by simp; omega
  have s0 : s.size ≤ 72 := by omega
  have s1 : 16 ≤ s.size := by omega
  have HZ : Hid (s.size = 72) := Lib.hid hsz
  have i4 : ∀ w, (Instr.index 9 (.string s) (.int .i64 4)).run Tryd.prog w = .ok (.int .u8 (bt s 4)) w := index_bt (k := 4) Tryd.underlying9 (by omega)
  have i5 : ∀ w, (Instr.index 9 (.string s) (.int .i64 5)).run Tryd.prog w = .ok (.int .u8 (bt s 5)) w := index_bt (k := 5) Tryd.underlying9 (by omega)
  have i6 : ∀ w, (Instr.index 9 (.string s) (.int .i64 6)).run Tryd.prog w = .ok (.int .u8 (bt s 6)) w := index_bt (k := 6) Tryd.underlying9 (by omega)
  have i7 : ∀ w, (Instr.index 9 (.string s) (.int .i64 7)).run Tryd.prog w = .ok (.int .u8 (bt s 7)) w := index_bt (k := 7) Tryd.underlying9 (by omega)
  have p4 := (bt_lt s 4).1
  have r4 := (bt_lt s 4).2
  have p5 := (bt_lt s 5).1
  have r5 := (bt_lt s 5).2
  have f6 : (bt s 6 == 0) = true := by simpa using h6
  have g6 : (bt s 6 != 0) = false := by simpa using h6
  have f7 : (bt s 7 == 0) = true := by simpa using h7
  have g7 : (bt s 7 != 0) = false := by simpa using h7
  have f5 : (bt s 5 / 4 == 1) = true := by simpa using h5
  have x7l : bt s 5 ≤ 7 := by omega
  have b7 : decide (7 < bt s 5) = false := by simp; omega
  have hN : bt s 4 = (decN s : Int) := by unfold decN; have := bt_lt s 4; omega
  have HNN := Lib.hid hN
  have HX : Hid (s.extract 8 (8 + bt s 4).toNat = decD s) := Lib.hid (by unfold decD; rw [hN]; rfl)
  have l8 : bt s 4 ≤ (s.size : Int) - 8 := by omega
  have b8 : decide ((s.size : Int) - 8 < bt s 4) = false := by simp; omega
  have HNB : Hid (decN s + 8 ≤ s.size) := Lib.hid h8
  have HQ := Lib.hid h9
  have W0 := Lib.hid (num4_lt s 0).1
  have W1 : Hid (num4 s 0 < 4294967296) := Lib.hid (by have := (num4_lt s 0).2; omega)
  have HDS : Hid ((decD s).size ≤ maxLen) := Lib.hid (by unfold decD maxLen; rw [sub_size _ _ _ (by omega)]; omega)
  have HE : Hid (decF s = ⟨num4 s 0 % 536870912, 56, bt s 4, decD s⟩) := Lib.hid (by unfold decF isFd decFl; rw [decide_eq_true hsz, he, hb, ht]; rfl)
  have HV := Lib.hid hV
  have HK := Lib.hid hok
  have ge : decide (2147483648 ≤ num4 s 0) = false := by unfold wE at he; have := num4_lt s 0; simp at he ⊢; omega
  have fb : (bt s 5 % 2 == 1) = true := by rw [hb]; rfl
  have ft : (bt s 5 / 2 % 2 == 1) = true := by rw [ht]; rfl
  have FB := Lib.hid fb
  have FT := Lib.hid ft
  have GE := Lib.hid ge
  clear hsz hs h6 h7 h5 h8 h9 hN he hb ht hok hV fb ft ge
  generalize bt s 4 = x4 at *
  generalize bt s 5 = x5 at *
  generalize bt s 6 = x6 at *
  generalize bt s 7 = x7 at *
  go_enter Tryd.func13, Tryd.ntmps13
  go_wp2_with fail
  refine (rget_yes s 0 _ HS.out (by have := HZ.out; omega)).mono ?_
  rintro e w1 ⟨rfl, rfl⟩
  go_wp2_with fail
  go_quiet (fail)
  have c0 : ((w.alloc (.cells #[.int .i64 0, .int .i64 0, .int .i64 0, .string (ByteArray.mk #[])] 23)).drewN nq).cell? ⟨w.heap.size, 0, none⟩ = some (.int .i64 0) := by simp [go_sem]
  have c1 : ((w.alloc (.cells #[.int .i64 0, .int .i64 0, .int .i64 0, .string (ByteArray.mk #[])] 23)).drewN nq).cell? ⟨w.heap.size, 1, none⟩ = some (.int .i64 0) := by simp [go_sem]
  have c2 : ((w.alloc (.cells #[.int .i64 0, .int .i64 0, .int .i64 0, .string (ByteArray.mk #[])] 23)).drewN nq).cell? ⟨w.heap.size, 2, none⟩ = some (.int .i64 0) := by simp [go_sem]
  have c3 : ((w.alloc (.cells #[.int .i64 0, .int .i64 0, .int .i64 0, .string (ByteArray.mk #[])] 23)).drewN nq).cell? ⟨w.heap.size, 3, none⟩ = some (.string (ByteArray.mk #[])) := by simp [go_sem]
  have v0 : ((w.alloc (.cells #[.int .i64 0, .int .i64 0, .int .i64 0, .string (ByteArray.mk #[])] 23)).drewN nq).frozen? ⟨w.heap.size, 0, none⟩ = false := by simp [go_sem]
  have v1 : ((w.alloc (.cells #[.int .i64 0, .int .i64 0, .int .i64 0, .string (ByteArray.mk #[])] 23)).drewN nq).frozen? ⟨w.heap.size, 1, none⟩ = false := by simp [go_sem]
  have v2 : ((w.alloc (.cells #[.int .i64 0, .int .i64 0, .int .i64 0, .string (ByteArray.mk #[])] 23)).drewN nq).frozen? ⟨w.heap.size, 2, none⟩ = false := by simp [go_sem]
  have v3 : ((w.alloc (.cells #[.int .i64 0, .int .i64 0, .int .i64 0, .string (ByteArray.mk #[])] 23)).drewN nq).frozen? ⟨w.heap.size, 3, none⟩ = false := by simp [go_sem]
  have hzq : w.heap.size < ((w.alloc (.cells #[.int .i64 0, .int .i64 0, .int .i64 0, .string (ByteArray.mk #[])] 23)).drewN nq).heap.size := by simp
  have HW : Hid (Below w.heap.size w ((w.alloc (.cells #[.int .i64 0, .int .i64 0, .int .i64 0, .string (ByteArray.mk #[])] 23)).drewN nq)) := Lib.hid (below_drewN (Below.allocL (Below.refl _ _) _) _)
  generalize (w.alloc (.cells #[.int .i64 0, .int .i64 0, .int .i64 0, .string (ByteArray.mk #[])] 23)).drewN nq = wq at *
  go_wp2_with fail
  refine (rzero_v (a := 8 + decN s) (b := s.size) HQ.out (by rw [HNN.out]; simp) rfl (Nat.le_refl _) HS.out (by have := HZ.out; have := HNB.out; unfold maxLen; omega) _).mono ?_
  rintro e w1 ⟨rfl, rfl⟩
  clear e1 e2 e3 e4 i4 i5 i6 i7 f6 g6 f7 g7
  go_wp2_with fail
  rw [HX.out]
  refine (rof_some W0.out W1.out HDS.out _).mono ?_
  rintro e w1 ⟨a', b', c', d', q', rfl, hb⟩
  obtain ⟨hc, hf⟩ := fbcell hb
  have hz1 : w.heap.size < w1.heap.size := Nat.lt_of_lt_of_le hzq hb.size
  have HB1 := Lib.hid (fbelow_t HW.out hb)
  have d0 : w1.cell? ⟨w.heap.size, 0, none⟩ = some (.int .i64 0) := by rw [hc _ _ hzq]; exact c0
  have d1 : w1.cell? ⟨w.heap.size, 1, none⟩ = some (.int .i64 0) := by rw [hc _ _ hzq]; exact c1
  have d2 : w1.cell? ⟨w.heap.size, 2, none⟩ = some (.int .i64 0) := by rw [hc _ _ hzq]; exact c2
  have d3 : w1.cell? ⟨w.heap.size, 3, none⟩ = some (.string (ByteArray.mk #[])) := by rw [hc _ _ hzq]; exact c3
  have fb := FB.out
  have ft := FT.out
  have ge := GE.out
  have n0 := W0.out
  have n1 := W1.out
  go_wp2_with fail
  rw [HX.out]
  cases hq : okF (num4 s 0 % 536870912) 56 x4 (decD s).size
  · have HQ3 := Lib.hid hq
    clear hq
    refine (rright_v HQ3.out _).mono ?_
    rintro e w2 ⟨rfl, hb2⟩
    obtain ⟨hc2, hf2⟩ := fbcell hb2
    have hz2 : w1.heap.size < w2.heap.size := by have := hb2.size; simp only [World.size_alloc] at this; omega
    have hz3 : w.heap.size < w2.heap.size := by omega
    have HB2 := Lib.hid (fbelow_t (Below.allocL HB1.out _) hb2)
    have k0 : w2.cell? ⟨w.heap.size, 0, none⟩ = some (.int .i64 0) := by rw [hc2 _ _ (by simp only [World.size_alloc]; omega), World.cell?_alloc_lt _ _ _ hz1]; exact d0
    have k1 : w2.cell? ⟨w.heap.size, 1, none⟩ = some (.int .i64 0) := by rw [hc2 _ _ (by simp only [World.size_alloc]; omega), World.cell?_alloc_lt _ _ _ hz1]; exact d1
    have k2 : w2.cell? ⟨w.heap.size, 2, none⟩ = some (.int .i64 0) := by rw [hc2 _ _ (by simp only [World.size_alloc]; omega), World.cell?_alloc_lt _ _ _ hz1]; exact d2
    have k3 : w2.cell? ⟨w.heap.size, 3, none⟩ = some (.string (ByteArray.mk #[])) := by rw [hc2 _ _ (by simp only [World.size_alloc]; omega), World.cell?_alloc_lt _ _ _ hz1]; exact d3
    have hok2 : okk = false := by
      have := HK.out
      rw [HE.out] at this
      have h5 : (⟨num4 s 0 % 536870912, 56, x4, decD s⟩ : Fr).ok = false := HQ3.out
      rw [h5] at this
      exact this.symm
    subst hok2
    go_wp2
    refine bodyPost_ret (v := .tuple #[.agg #[.int .i64 0, .int .i64 0, .int .i64 0, .string (ByteArray.mk #[])], .bool false]) (by simp [results, Tryd.results13, go_sem, k0, k1, k2, k3]) rfl ⟨by rw [HV.out]; rfl, ?_⟩
    exact ((((HB2.out.setCell (p := ⟨w.heap.size, 0, none⟩) (Nat.le_refl _) _).setCell (p := ⟨w.heap.size, 1, none⟩) (Nat.le_refl _) _).setCell (p := ⟨w.heap.size, 2, none⟩) (Nat.le_refl _) _).setCell (p := ⟨w.heap.size, 3, none⟩) (Nat.le_refl _) _)
  · have HQ3 := Lib.hid hq
    clear hq
    refine (rright_v HQ3.out _).mono ?_
    rintro e w2 ⟨rfl, hb2⟩
    obtain ⟨hc2, hf2⟩ := fbcell hb2
    have hz2 : w1.heap.size < w2.heap.size := by have := hb2.size; simp only [World.size_alloc] at this; omega
    have hz3 : w.heap.size < w2.heap.size := by omega
    have HB2 := Lib.hid (fbelow_t (Below.allocL HB1.out _) hb2)
    have k0 : w2.cell? ⟨w.heap.size, 0, none⟩ = some (.int .i64 0) := by rw [hc2 _ _ (by simp only [World.size_alloc]; omega), World.cell?_alloc_lt _ _ _ hz1]; exact d0
    have k1 : w2.cell? ⟨w.heap.size, 1, none⟩ = some (.int .i64 0) := by rw [hc2 _ _ (by simp only [World.size_alloc]; omega), World.cell?_alloc_lt _ _ _ hz1]; exact d1
    have k2 : w2.cell? ⟨w.heap.size, 2, none⟩ = some (.int .i64 0) := by rw [hc2 _ _ (by simp only [World.size_alloc]; omega), World.cell?_alloc_lt _ _ _ hz1]; exact d2
    have k3 : w2.cell? ⟨w.heap.size, 3, none⟩ = some (.string (ByteArray.mk #[])) := by rw [hc2 _ _ (by simp only [World.size_alloc]; omega), World.cell?_alloc_lt _ _ _ hz1]; exact d3
    by_cases h4 : num4 s 0 / 536870912 % 4 = 0
    · have m4 : (num4 s 0 / 536870912 % 4 == 0) = true := by simpa using h4
      have hok2 : okk = true := by
        have := HK.out
        rw [HE.out, decide_eq_true h4] at this
        have h5 : (⟨num4 s 0 % 536870912, 56, x4, decD s⟩ : Fr).ok = true := HQ3.out
        rw [h5] at this
        exact this.symm
      subst hok2
      clear h4
      go_wp2_with fail
      refine (has2 (n := 56) (q := false) (by decide) (by decide) (by decide) _ _ _ _).mono ?_
      rintro e w3 ⟨rfl, hb3⟩
      obtain ⟨hc3, hf3⟩ := fbcell hb3
      have hz4 : w1.heap.size < w3.heap.size := Nat.lt_of_lt_of_le hz2 hb3.size
      have hz5 : w.heap.size < w3.heap.size := by omega
      have HB3 := Lib.hid (fbelow_t HB2.out hb3)
      have l0 : w3.cell? ⟨w.heap.size, 0, none⟩ = some (.int .i64 0) := by rw [hc3 _ _ hz3]; exact k0
      have l1 : w3.cell? ⟨w.heap.size, 1, none⟩ = some (.int .i64 0) := by rw [hc3 _ _ hz3]; exact k1
      have l2 : w3.cell? ⟨w.heap.size, 2, none⟩ = some (.int .i64 0) := by rw [hc3 _ _ hz3]; exact k2
      have l3 : w3.cell? ⟨w.heap.size, 3, none⟩ = some (.string (ByteArray.mk #[])) := by rw [hc3 _ _ hz3]; exact k3
      go_wp2
      refine bodyPost_ret (v := .tuple #[.agg #[.int .i64 (num4 s 0 % 536870912), .int .i64 56, .int .i64 x4, .string (decD s)], .bool true]) (by simp [results, Tryd.results13, go_sem, l0, l1, l2, l3]) rfl ⟨by rw [HV.out, HE.out]; rfl, ?_⟩
      exact ((((HB3.out.setCell (p := ⟨w.heap.size, 0, none⟩) (Nat.le_refl _) _).setCell (p := ⟨w.heap.size, 1, none⟩) (Nat.le_refl _) _).setCell (p := ⟨w.heap.size, 2, none⟩) (Nat.le_refl _) _).setCell (p := ⟨w.heap.size, 3, none⟩) (Nat.le_refl _) _)
    · have m4 : (num4 s 0 / 536870912 % 4 == 0) = false := by simpa using h4
      have hok2 : okk = false := by
        have := HK.out
        rw [decide_eq_false h4, Bool.and_false] at this
        exact this.symm
      subst hok2
      clear h4
      go_wp2
      refine bodyPost_ret (v := .tuple #[.agg #[.int .i64 0, .int .i64 0, .int .i64 0, .string (ByteArray.mk #[])], .bool false]) (by simp [results, Tryd.results13, go_sem, k0, k1, k2, k3]) rfl ⟨by rw [HV.out]; rfl, ?_⟩
      exact ((((HB2.out.setCell (p := ⟨w.heap.size, 0, none⟩) (Nat.le_refl _) _).setCell (p := ⟨w.heap.size, 1, none⟩) (Nat.le_refl _) _).setCell (p := ⟨w.heap.size, 2, none⟩) (Nat.le_refl _) _).setCell (p := ⟨w.heap.size, 3, none⟩) (Nat.le_refl _) _)

set_option maxRecDepth 100000 in
set_option maxHeartbeats 2000000 in
theorem rdec_F_100 {s : ByteArray} (hs : s.size ≤ maxLen) (hsz : s.size = 72) (h6 : bt s 6 = 0) (h7 : bt s 7 = 0) (h5 : bt s 5 / 4 = 1) (h8 : decN s + 8 ≤ s.size) (h9 : zeroB s (8 + decN s) s.size = true) (he : wE (num4 s 0) = true) (hb : bt s 5 % 2 = 0) (ht : bt s 5 / 2 % 2 = 0) (okk : Bool) (hok : ((decF s).ok && decide (num4 s 0 / 536870912 % 4 = 0)) = okk) (V : Value) (hV : V = .tuple #[if okk then .agg #[.int .i64 (decF s).i, .int .i64 (decF s).n, .int .i64 (decF s).l, .string (decF s).d] else .agg #[.int .i64 0, .int .i64 0, .int .i64 0, .string (ByteArray.mk #[])], .bool okk]) (w : World) :
    Calls Tryd.prog 13 #[.string s] w fun e w' => e = .returned V ∧ Below w.heap.size w w' := by
  have HS := Lib.hid hs
  have e1 : ((s.size : Int) == 16) = false := by simp; omega
  have e2 : ((s.size : Int) != 16) = true := by simp; omega
  have e3 : ((s.size : Int) == 72) = true := by simp; omega
  have e4 : ((s.size : Int) != 72) = false := by simp; omega
  have s0 : s.size ≤ 72 := by omega
  have s1 : 16 ≤ s.size := by omega
  have HZ : Hid (s.size = 72) := Lib.hid hsz
  have i4 : ∀ w, (Instr.index 9 (.string s) (.int .i64 4)).run Tryd.prog w = .ok (.int .u8 (bt s 4)) w := index_bt (k := 4) Tryd.underlying9 (by omega)
  have i5 : ∀ w, (Instr.index 9 (.string s) (.int .i64 5)).run Tryd.prog w = .ok (.int .u8 (bt s 5)) w := index_bt (k := 5) Tryd.underlying9 (by omega)
  have i6 : ∀ w, (Instr.index 9 (.string s) (.int .i64 6)).run Tryd.prog w = .ok (.int .u8 (bt s 6)) w := index_bt (k := 6) Tryd.underlying9 (by omega)
  have i7 : ∀ w, (Instr.index 9 (.string s) (.int .i64 7)).run Tryd.prog w = .ok (.int .u8 (bt s 7)) w := index_bt (k := 7) Tryd.underlying9 (by omega)
  have p4 := (bt_lt s 4).1
  have r4 := (bt_lt s 4).2
  have p5 := (bt_lt s 5).1
  have r5 := (bt_lt s 5).2
  have f6 : (bt s 6 == 0) = true := by simpa using h6
  have g6 : (bt s 6 != 0) = false := by simpa using h6
  have f7 : (bt s 7 == 0) = true := by simpa using h7
  have g7 : (bt s 7 != 0) = false := by simpa using h7
  have f5 : (bt s 5 / 4 == 1) = true := by simpa using h5
  have x7l : bt s 5 ≤ 7 := by omega
  have b7 : decide (7 < bt s 5) = false := by simp; omega
  have hN : bt s 4 = (decN s : Int) := by unfold decN; have := bt_lt s 4; omega
  have HNN := Lib.hid hN
  have HX : Hid (s.extract 8 (8 + bt s 4).toNat = decD s) := Lib.hid (by unfold decD; rw [hN]; rfl)
  have l8 : bt s 4 ≤ (s.size : Int) - 8 := by omega
  have b8 : decide ((s.size : Int) - 8 < bt s 4) = false := by simp; omega
  have HNB : Hid (decN s + 8 ≤ s.size) := Lib.hid h8
  have HQ := Lib.hid h9
  have W0 := Lib.hid (num4_lt s 0).1
  have W1 : Hid (num4 s 0 < 4294967296) := Lib.hid (by have := (num4_lt s 0).2; omega)
  have HDS : Hid ((decD s).size ≤ maxLen) := Lib.hid (by unfold decD maxLen; rw [sub_size _ _ _ (by omega)]; omega)
  have HE : Hid (decF s = ⟨num4 s 0 % 536870912, 9, bt s 4, decD s⟩) := Lib.hid (by unfold decF isFd decFl; rw [decide_eq_true hsz, he, hb, ht]; rfl)
  have HV := Lib.hid hV
  have HK := Lib.hid hok
  have ge : decide (2147483648 ≤ num4 s 0) = true := by unfold wE at he; have := num4_lt s 0; simp at he ⊢; omega
  have fb : (bt s 5 % 2 == 1) = false := by rw [hb]; rfl
  have ft : (bt s 5 / 2 % 2 == 1) = false := by rw [ht]; rfl
  have FB := Lib.hid fb
  have FT := Lib.hid ft
  have GE := Lib.hid ge
  clear hsz hs h6 h7 h5 h8 h9 hN he hb ht hok hV fb ft ge
  generalize bt s 4 = x4 at *
  generalize bt s 5 = x5 at *
  generalize bt s 6 = x6 at *
  generalize bt s 7 = x7 at *
  go_enter Tryd.func13, Tryd.ntmps13
  go_wp2_with fail
  refine (rget_yes s 0 _ HS.out (by have := HZ.out; omega)).mono ?_
  rintro e w1 ⟨rfl, rfl⟩
  go_wp2_with fail
  go_quiet (fail)
  have c0 : ((w.alloc (.cells #[.int .i64 0, .int .i64 0, .int .i64 0, .string (ByteArray.mk #[])] 23)).drewN nq).cell? ⟨w.heap.size, 0, none⟩ = some (.int .i64 0) := by simp [go_sem]
  have c1 : ((w.alloc (.cells #[.int .i64 0, .int .i64 0, .int .i64 0, .string (ByteArray.mk #[])] 23)).drewN nq).cell? ⟨w.heap.size, 1, none⟩ = some (.int .i64 0) := by simp [go_sem]
  have c2 : ((w.alloc (.cells #[.int .i64 0, .int .i64 0, .int .i64 0, .string (ByteArray.mk #[])] 23)).drewN nq).cell? ⟨w.heap.size, 2, none⟩ = some (.int .i64 0) := by simp [go_sem]
  have c3 : ((w.alloc (.cells #[.int .i64 0, .int .i64 0, .int .i64 0, .string (ByteArray.mk #[])] 23)).drewN nq).cell? ⟨w.heap.size, 3, none⟩ = some (.string (ByteArray.mk #[])) := by simp [go_sem]
  have v0 : ((w.alloc (.cells #[.int .i64 0, .int .i64 0, .int .i64 0, .string (ByteArray.mk #[])] 23)).drewN nq).frozen? ⟨w.heap.size, 0, none⟩ = false := by simp [go_sem]
  have v1 : ((w.alloc (.cells #[.int .i64 0, .int .i64 0, .int .i64 0, .string (ByteArray.mk #[])] 23)).drewN nq).frozen? ⟨w.heap.size, 1, none⟩ = false := by simp [go_sem]
  have v2 : ((w.alloc (.cells #[.int .i64 0, .int .i64 0, .int .i64 0, .string (ByteArray.mk #[])] 23)).drewN nq).frozen? ⟨w.heap.size, 2, none⟩ = false := by simp [go_sem]
  have v3 : ((w.alloc (.cells #[.int .i64 0, .int .i64 0, .int .i64 0, .string (ByteArray.mk #[])] 23)).drewN nq).frozen? ⟨w.heap.size, 3, none⟩ = false := by simp [go_sem]
  have hzq : w.heap.size < ((w.alloc (.cells #[.int .i64 0, .int .i64 0, .int .i64 0, .string (ByteArray.mk #[])] 23)).drewN nq).heap.size := by simp
  have HW : Hid (Below w.heap.size w ((w.alloc (.cells #[.int .i64 0, .int .i64 0, .int .i64 0, .string (ByteArray.mk #[])] 23)).drewN nq)) := Lib.hid (below_drewN (Below.allocL (Below.refl _ _) _) _)
  generalize (w.alloc (.cells #[.int .i64 0, .int .i64 0, .int .i64 0, .string (ByteArray.mk #[])] 23)).drewN nq = wq at *
  go_wp2_with fail
  refine (rzero_v (a := 8 + decN s) (b := s.size) HQ.out (by rw [HNN.out]; simp) rfl (Nat.le_refl _) HS.out (by have := HZ.out; have := HNB.out; unfold maxLen; omega) _).mono ?_
  rintro e w1 ⟨rfl, rfl⟩
  clear e1 e2 e3 e4 i4 i5 i6 i7 f6 g6 f7 g7
  go_wp2_with fail
  rw [HX.out]
  refine (rof_some W0.out W1.out HDS.out _).mono ?_
  rintro e w1 ⟨a', b', c', d', q', rfl, hb⟩
  obtain ⟨hc, hf⟩ := fbcell hb
  have hz1 : w.heap.size < w1.heap.size := Nat.lt_of_lt_of_le hzq hb.size
  have HB1 := Lib.hid (fbelow_t HW.out hb)
  have d0 : w1.cell? ⟨w.heap.size, 0, none⟩ = some (.int .i64 0) := by rw [hc _ _ hzq]; exact c0
  have d1 : w1.cell? ⟨w.heap.size, 1, none⟩ = some (.int .i64 0) := by rw [hc _ _ hzq]; exact c1
  have d2 : w1.cell? ⟨w.heap.size, 2, none⟩ = some (.int .i64 0) := by rw [hc _ _ hzq]; exact c2
  have d3 : w1.cell? ⟨w.heap.size, 3, none⟩ = some (.string (ByteArray.mk #[])) := by rw [hc _ _ hzq]; exact c3
  have fb := FB.out
  have ft := FT.out
  have ge := GE.out
  have n0 := W0.out
  have n1 := W1.out
  go_wp2_with fail
  rw [HX.out]
  cases hq : okF (num4 s 0 % 536870912) 9 x4 (decD s).size
  · have HQ3 := Lib.hid hq
    clear hq
    refine (rright_v HQ3.out _).mono ?_
    rintro e w2 ⟨rfl, hb2⟩
    obtain ⟨hc2, hf2⟩ := fbcell hb2
    have hz2 : w1.heap.size < w2.heap.size := by have := hb2.size; simp only [World.size_alloc] at this; omega
    have hz3 : w.heap.size < w2.heap.size := by omega
    have HB2 := Lib.hid (fbelow_t (Below.allocL HB1.out _) hb2)
    have k0 : w2.cell? ⟨w.heap.size, 0, none⟩ = some (.int .i64 0) := by rw [hc2 _ _ (by simp only [World.size_alloc]; omega), World.cell?_alloc_lt _ _ _ hz1]; exact d0
    have k1 : w2.cell? ⟨w.heap.size, 1, none⟩ = some (.int .i64 0) := by rw [hc2 _ _ (by simp only [World.size_alloc]; omega), World.cell?_alloc_lt _ _ _ hz1]; exact d1
    have k2 : w2.cell? ⟨w.heap.size, 2, none⟩ = some (.int .i64 0) := by rw [hc2 _ _ (by simp only [World.size_alloc]; omega), World.cell?_alloc_lt _ _ _ hz1]; exact d2
    have k3 : w2.cell? ⟨w.heap.size, 3, none⟩ = some (.string (ByteArray.mk #[])) := by rw [hc2 _ _ (by simp only [World.size_alloc]; omega), World.cell?_alloc_lt _ _ _ hz1]; exact d3
    have hok2 : okk = false := by
      have := HK.out
      rw [HE.out] at this
      have h5 : (⟨num4 s 0 % 536870912, 9, x4, decD s⟩ : Fr).ok = false := HQ3.out
      rw [h5] at this
      exact this.symm
    subst hok2
    go_wp2
    refine bodyPost_ret (v := .tuple #[.agg #[.int .i64 0, .int .i64 0, .int .i64 0, .string (ByteArray.mk #[])], .bool false]) (by simp [results, Tryd.results13, go_sem, k0, k1, k2, k3]) rfl ⟨by rw [HV.out]; rfl, ?_⟩
    exact ((((HB2.out.setCell (p := ⟨w.heap.size, 0, none⟩) (Nat.le_refl _) _).setCell (p := ⟨w.heap.size, 1, none⟩) (Nat.le_refl _) _).setCell (p := ⟨w.heap.size, 2, none⟩) (Nat.le_refl _) _).setCell (p := ⟨w.heap.size, 3, none⟩) (Nat.le_refl _) _)
  · have HQ3 := Lib.hid hq
    clear hq
    refine (rright_v HQ3.out _).mono ?_
    rintro e w2 ⟨rfl, hb2⟩
    obtain ⟨hc2, hf2⟩ := fbcell hb2
    have hz2 : w1.heap.size < w2.heap.size := by have := hb2.size; simp only [World.size_alloc] at this; omega
    have hz3 : w.heap.size < w2.heap.size := by omega
    have HB2 := Lib.hid (fbelow_t (Below.allocL HB1.out _) hb2)
    have k0 : w2.cell? ⟨w.heap.size, 0, none⟩ = some (.int .i64 0) := by rw [hc2 _ _ (by simp only [World.size_alloc]; omega), World.cell?_alloc_lt _ _ _ hz1]; exact d0
    have k1 : w2.cell? ⟨w.heap.size, 1, none⟩ = some (.int .i64 0) := by rw [hc2 _ _ (by simp only [World.size_alloc]; omega), World.cell?_alloc_lt _ _ _ hz1]; exact d1
    have k2 : w2.cell? ⟨w.heap.size, 2, none⟩ = some (.int .i64 0) := by rw [hc2 _ _ (by simp only [World.size_alloc]; omega), World.cell?_alloc_lt _ _ _ hz1]; exact d2
    have k3 : w2.cell? ⟨w.heap.size, 3, none⟩ = some (.string (ByteArray.mk #[])) := by rw [hc2 _ _ (by simp only [World.size_alloc]; omega), World.cell?_alloc_lt _ _ _ hz1]; exact d3
    by_cases h4 : num4 s 0 / 536870912 % 4 = 0
    · have m4 : (num4 s 0 / 536870912 % 4 == 0) = true := by simpa using h4
      have hok2 : okk = true := by
        have := HK.out
        rw [HE.out, decide_eq_true h4] at this
        have h5 : (⟨num4 s 0 % 536870912, 9, x4, decD s⟩ : Fr).ok = true := HQ3.out
        rw [h5] at this
        exact this.symm
      subst hok2
      clear h4
      go_wp2_with fail
      refine (has2 (n := 9) (q := false) (by decide) (by decide) (by decide) _ _ _ _).mono ?_
      rintro e w3 ⟨rfl, hb3⟩
      obtain ⟨hc3, hf3⟩ := fbcell hb3
      have hz4 : w1.heap.size < w3.heap.size := Nat.lt_of_lt_of_le hz2 hb3.size
      have hz5 : w.heap.size < w3.heap.size := by omega
      have HB3 := Lib.hid (fbelow_t HB2.out hb3)
      have l0 : w3.cell? ⟨w.heap.size, 0, none⟩ = some (.int .i64 0) := by rw [hc3 _ _ hz3]; exact k0
      have l1 : w3.cell? ⟨w.heap.size, 1, none⟩ = some (.int .i64 0) := by rw [hc3 _ _ hz3]; exact k1
      have l2 : w3.cell? ⟨w.heap.size, 2, none⟩ = some (.int .i64 0) := by rw [hc3 _ _ hz3]; exact k2
      have l3 : w3.cell? ⟨w.heap.size, 3, none⟩ = some (.string (ByteArray.mk #[])) := by rw [hc3 _ _ hz3]; exact k3
      go_wp2
      refine bodyPost_ret (v := .tuple #[.agg #[.int .i64 (num4 s 0 % 536870912), .int .i64 9, .int .i64 x4, .string (decD s)], .bool true]) (by simp [results, Tryd.results13, go_sem, l0, l1, l2, l3]) rfl ⟨by rw [HV.out, HE.out]; rfl, ?_⟩
      exact ((((HB3.out.setCell (p := ⟨w.heap.size, 0, none⟩) (Nat.le_refl _) _).setCell (p := ⟨w.heap.size, 1, none⟩) (Nat.le_refl _) _).setCell (p := ⟨w.heap.size, 2, none⟩) (Nat.le_refl _) _).setCell (p := ⟨w.heap.size, 3, none⟩) (Nat.le_refl _) _)
    · have m4 : (num4 s 0 / 536870912 % 4 == 0) = false := by simpa using h4
      have hok2 : okk = false := by
        have := HK.out
        rw [decide_eq_false h4, Bool.and_false] at this
        exact this.symm
      subst hok2
      clear h4
      go_wp2
      refine bodyPost_ret (v := .tuple #[.agg #[.int .i64 0, .int .i64 0, .int .i64 0, .string (ByteArray.mk #[])], .bool false]) (by simp [results, Tryd.results13, go_sem, k0, k1, k2, k3]) rfl ⟨by rw [HV.out]; rfl, ?_⟩
      exact ((((HB2.out.setCell (p := ⟨w.heap.size, 0, none⟩) (Nat.le_refl _) _).setCell (p := ⟨w.heap.size, 1, none⟩) (Nat.le_refl _) _).setCell (p := ⟨w.heap.size, 2, none⟩) (Nat.le_refl _) _).setCell (p := ⟨w.heap.size, 3, none⟩) (Nat.le_refl _) _)

set_option maxRecDepth 100000 in
set_option maxHeartbeats 2000000 in
theorem rdec_F_101 {s : ByteArray} (hs : s.size ≤ maxLen) (hsz : s.size = 72) (h6 : bt s 6 = 0) (h7 : bt s 7 = 0) (h5 : bt s 5 / 4 = 1) (h8 : decN s + 8 ≤ s.size) (h9 : zeroB s (8 + decN s) s.size = true) (he : wE (num4 s 0) = true) (hb : bt s 5 % 2 = 0) (ht : bt s 5 / 2 % 2 = 1) (okk : Bool) (hok : ((decF s).ok && decide (num4 s 0 / 536870912 % 4 = 0)) = okk) (V : Value) (hV : V = .tuple #[if okk then .agg #[.int .i64 (decF s).i, .int .i64 (decF s).n, .int .i64 (decF s).l, .string (decF s).d] else .agg #[.int .i64 0, .int .i64 0, .int .i64 0, .string (ByteArray.mk #[])], .bool okk]) (w : World) :
    Calls Tryd.prog 13 #[.string s] w fun e w' => e = .returned V ∧ Below w.heap.size w w' := by
  have HS := Lib.hid hs
  have e1 : ((s.size : Int) == 16) = false := by simp; omega
  have e2 : ((s.size : Int) != 16) = true := by simp; omega
  have e3 : ((s.size : Int) == 72) = true := by simp; omega
  have e4 : ((s.size : Int) != 72) = false := by simp; omega
  have s0 : s.size ≤ 72 := by omega
  have s1 : 16 ≤ s.size := by omega
  have HZ : Hid (s.size = 72) := Lib.hid hsz
  have i4 : ∀ w, (Instr.index 9 (.string s) (.int .i64 4)).run Tryd.prog w = .ok (.int .u8 (bt s 4)) w := index_bt (k := 4) Tryd.underlying9 (by omega)
  have i5 : ∀ w, (Instr.index 9 (.string s) (.int .i64 5)).run Tryd.prog w = .ok (.int .u8 (bt s 5)) w := index_bt (k := 5) Tryd.underlying9 (by omega)
  have i6 : ∀ w, (Instr.index 9 (.string s) (.int .i64 6)).run Tryd.prog w = .ok (.int .u8 (bt s 6)) w := index_bt (k := 6) Tryd.underlying9 (by omega)
  have i7 : ∀ w, (Instr.index 9 (.string s) (.int .i64 7)).run Tryd.prog w = .ok (.int .u8 (bt s 7)) w := index_bt (k := 7) Tryd.underlying9 (by omega)
  have p4 := (bt_lt s 4).1
  have r4 := (bt_lt s 4).2
  have p5 := (bt_lt s 5).1
  have r5 := (bt_lt s 5).2
  have f6 : (bt s 6 == 0) = true := by simpa using h6
  have g6 : (bt s 6 != 0) = false := by simpa using h6
  have f7 : (bt s 7 == 0) = true := by simpa using h7
  have g7 : (bt s 7 != 0) = false := by simpa using h7
  have f5 : (bt s 5 / 4 == 1) = true := by simpa using h5
  have x7l : bt s 5 ≤ 7 := by omega
  have b7 : decide (7 < bt s 5) = false := by simp; omega
  have hN : bt s 4 = (decN s : Int) := by unfold decN; have := bt_lt s 4; omega
  have HNN := Lib.hid hN
  have HX : Hid (s.extract 8 (8 + bt s 4).toNat = decD s) := Lib.hid (by unfold decD; rw [hN]; rfl)
  have l8 : bt s 4 ≤ (s.size : Int) - 8 := by omega
  have b8 : decide ((s.size : Int) - 8 < bt s 4) = false := by simp; omega
  have HNB : Hid (decN s + 8 ≤ s.size) := Lib.hid h8
  have HQ := Lib.hid h9
  have W0 := Lib.hid (num4_lt s 0).1
  have W1 : Hid (num4 s 0 < 4294967296) := Lib.hid (by have := (num4_lt s 0).2; omega)
  have HDS : Hid ((decD s).size ≤ maxLen) := Lib.hid (by unfold decD maxLen; rw [sub_size _ _ _ (by omega)]; omega)
  have HE : Hid (decF s = ⟨num4 s 0 % 536870912, 41, bt s 4, decD s⟩) := Lib.hid (by unfold decF isFd decFl; rw [decide_eq_true hsz, he, hb, ht]; rfl)
  have HV := Lib.hid hV
  have HK := Lib.hid hok
  have ge : decide (2147483648 ≤ num4 s 0) = true := by unfold wE at he; have := num4_lt s 0; simp at he ⊢; omega
  have fb : (bt s 5 % 2 == 1) = false := by rw [hb]; rfl
  have ft : (bt s 5 / 2 % 2 == 1) = true := by rw [ht]; rfl
  have FB := Lib.hid fb
  have FT := Lib.hid ft
  have GE := Lib.hid ge
  clear hsz hs h6 h7 h5 h8 h9 hN he hb ht hok hV fb ft ge
  generalize bt s 4 = x4 at *
  generalize bt s 5 = x5 at *
  generalize bt s 6 = x6 at *
  generalize bt s 7 = x7 at *
  go_enter Tryd.func13, Tryd.ntmps13
  go_wp2_with fail
  refine (rget_yes s 0 _ HS.out (by have := HZ.out; omega)).mono ?_
  rintro e w1 ⟨rfl, rfl⟩
  go_wp2_with fail
  go_quiet (fail)
  have c0 : ((w.alloc (.cells #[.int .i64 0, .int .i64 0, .int .i64 0, .string (ByteArray.mk #[])] 23)).drewN nq).cell? ⟨w.heap.size, 0, none⟩ = some (.int .i64 0) := by simp [go_sem]
  have c1 : ((w.alloc (.cells #[.int .i64 0, .int .i64 0, .int .i64 0, .string (ByteArray.mk #[])] 23)).drewN nq).cell? ⟨w.heap.size, 1, none⟩ = some (.int .i64 0) := by simp [go_sem]
  have c2 : ((w.alloc (.cells #[.int .i64 0, .int .i64 0, .int .i64 0, .string (ByteArray.mk #[])] 23)).drewN nq).cell? ⟨w.heap.size, 2, none⟩ = some (.int .i64 0) := by simp [go_sem]
  have c3 : ((w.alloc (.cells #[.int .i64 0, .int .i64 0, .int .i64 0, .string (ByteArray.mk #[])] 23)).drewN nq).cell? ⟨w.heap.size, 3, none⟩ = some (.string (ByteArray.mk #[])) := by simp [go_sem]
  have v0 : ((w.alloc (.cells #[.int .i64 0, .int .i64 0, .int .i64 0, .string (ByteArray.mk #[])] 23)).drewN nq).frozen? ⟨w.heap.size, 0, none⟩ = false := by simp [go_sem]
  have v1 : ((w.alloc (.cells #[.int .i64 0, .int .i64 0, .int .i64 0, .string (ByteArray.mk #[])] 23)).drewN nq).frozen? ⟨w.heap.size, 1, none⟩ = false := by simp [go_sem]
  have v2 : ((w.alloc (.cells #[.int .i64 0, .int .i64 0, .int .i64 0, .string (ByteArray.mk #[])] 23)).drewN nq).frozen? ⟨w.heap.size, 2, none⟩ = false := by simp [go_sem]
  have v3 : ((w.alloc (.cells #[.int .i64 0, .int .i64 0, .int .i64 0, .string (ByteArray.mk #[])] 23)).drewN nq).frozen? ⟨w.heap.size, 3, none⟩ = false := by simp [go_sem]
  have hzq : w.heap.size < ((w.alloc (.cells #[.int .i64 0, .int .i64 0, .int .i64 0, .string (ByteArray.mk #[])] 23)).drewN nq).heap.size := by simp
  have HW : Hid (Below w.heap.size w ((w.alloc (.cells #[.int .i64 0, .int .i64 0, .int .i64 0, .string (ByteArray.mk #[])] 23)).drewN nq)) := Lib.hid (below_drewN (Below.allocL (Below.refl _ _) _) _)
  generalize (w.alloc (.cells #[.int .i64 0, .int .i64 0, .int .i64 0, .string (ByteArray.mk #[])] 23)).drewN nq = wq at *
  go_wp2_with fail
  refine (rzero_v (a := 8 + decN s) (b := s.size) HQ.out (by rw [HNN.out]; simp) rfl (Nat.le_refl _) HS.out (by have := HZ.out; have := HNB.out; unfold maxLen; omega) _).mono ?_
  rintro e w1 ⟨rfl, rfl⟩
  clear e1 e2 e3 e4 i4 i5 i6 i7 f6 g6 f7 g7
  go_wp2_with fail
  rw [HX.out]
  refine (rof_some W0.out W1.out HDS.out _).mono ?_
  rintro e w1 ⟨a', b', c', d', q', rfl, hb⟩
  obtain ⟨hc, hf⟩ := fbcell hb
  have hz1 : w.heap.size < w1.heap.size := Nat.lt_of_lt_of_le hzq hb.size
  have HB1 := Lib.hid (fbelow_t HW.out hb)
  have d0 : w1.cell? ⟨w.heap.size, 0, none⟩ = some (.int .i64 0) := by rw [hc _ _ hzq]; exact c0
  have d1 : w1.cell? ⟨w.heap.size, 1, none⟩ = some (.int .i64 0) := by rw [hc _ _ hzq]; exact c1
  have d2 : w1.cell? ⟨w.heap.size, 2, none⟩ = some (.int .i64 0) := by rw [hc _ _ hzq]; exact c2
  have d3 : w1.cell? ⟨w.heap.size, 3, none⟩ = some (.string (ByteArray.mk #[])) := by rw [hc _ _ hzq]; exact c3
  have fb := FB.out
  have ft := FT.out
  have ge := GE.out
  have n0 := W0.out
  have n1 := W1.out
  go_wp2_with fail
  rw [HX.out]
  cases hq : okF (num4 s 0 % 536870912) 41 x4 (decD s).size
  · have HQ3 := Lib.hid hq
    clear hq
    refine (rright_v HQ3.out _).mono ?_
    rintro e w2 ⟨rfl, hb2⟩
    obtain ⟨hc2, hf2⟩ := fbcell hb2
    have hz2 : w1.heap.size < w2.heap.size := by have := hb2.size; simp only [World.size_alloc] at this; omega
    have hz3 : w.heap.size < w2.heap.size := by omega
    have HB2 := Lib.hid (fbelow_t (Below.allocL HB1.out _) hb2)
    have k0 : w2.cell? ⟨w.heap.size, 0, none⟩ = some (.int .i64 0) := by rw [hc2 _ _ (by simp only [World.size_alloc]; omega), World.cell?_alloc_lt _ _ _ hz1]; exact d0
    have k1 : w2.cell? ⟨w.heap.size, 1, none⟩ = some (.int .i64 0) := by rw [hc2 _ _ (by simp only [World.size_alloc]; omega), World.cell?_alloc_lt _ _ _ hz1]; exact d1
    have k2 : w2.cell? ⟨w.heap.size, 2, none⟩ = some (.int .i64 0) := by rw [hc2 _ _ (by simp only [World.size_alloc]; omega), World.cell?_alloc_lt _ _ _ hz1]; exact d2
    have k3 : w2.cell? ⟨w.heap.size, 3, none⟩ = some (.string (ByteArray.mk #[])) := by rw [hc2 _ _ (by simp only [World.size_alloc]; omega), World.cell?_alloc_lt _ _ _ hz1]; exact d3
    have hok2 : okk = false := by
      have := HK.out
      rw [HE.out] at this
      have h5 : (⟨num4 s 0 % 536870912, 41, x4, decD s⟩ : Fr).ok = false := HQ3.out
      rw [h5] at this
      exact this.symm
    subst hok2
    go_wp2
    refine bodyPost_ret (v := .tuple #[.agg #[.int .i64 0, .int .i64 0, .int .i64 0, .string (ByteArray.mk #[])], .bool false]) (by simp [results, Tryd.results13, go_sem, k0, k1, k2, k3]) rfl ⟨by rw [HV.out]; rfl, ?_⟩
    exact ((((HB2.out.setCell (p := ⟨w.heap.size, 0, none⟩) (Nat.le_refl _) _).setCell (p := ⟨w.heap.size, 1, none⟩) (Nat.le_refl _) _).setCell (p := ⟨w.heap.size, 2, none⟩) (Nat.le_refl _) _).setCell (p := ⟨w.heap.size, 3, none⟩) (Nat.le_refl _) _)
  · have HQ3 := Lib.hid hq
    clear hq
    refine (rright_v HQ3.out _).mono ?_
    rintro e w2 ⟨rfl, hb2⟩
    obtain ⟨hc2, hf2⟩ := fbcell hb2
    have hz2 : w1.heap.size < w2.heap.size := by have := hb2.size; simp only [World.size_alloc] at this; omega
    have hz3 : w.heap.size < w2.heap.size := by omega
    have HB2 := Lib.hid (fbelow_t (Below.allocL HB1.out _) hb2)
    have k0 : w2.cell? ⟨w.heap.size, 0, none⟩ = some (.int .i64 0) := by rw [hc2 _ _ (by simp only [World.size_alloc]; omega), World.cell?_alloc_lt _ _ _ hz1]; exact d0
    have k1 : w2.cell? ⟨w.heap.size, 1, none⟩ = some (.int .i64 0) := by rw [hc2 _ _ (by simp only [World.size_alloc]; omega), World.cell?_alloc_lt _ _ _ hz1]; exact d1
    have k2 : w2.cell? ⟨w.heap.size, 2, none⟩ = some (.int .i64 0) := by rw [hc2 _ _ (by simp only [World.size_alloc]; omega), World.cell?_alloc_lt _ _ _ hz1]; exact d2
    have k3 : w2.cell? ⟨w.heap.size, 3, none⟩ = some (.string (ByteArray.mk #[])) := by rw [hc2 _ _ (by simp only [World.size_alloc]; omega), World.cell?_alloc_lt _ _ _ hz1]; exact d3
    by_cases h4 : num4 s 0 / 536870912 % 4 = 0
    · have m4 : (num4 s 0 / 536870912 % 4 == 0) = true := by simpa using h4
      have hok2 : okk = true := by
        have := HK.out
        rw [HE.out, decide_eq_true h4] at this
        have h5 : (⟨num4 s 0 % 536870912, 41, x4, decD s⟩ : Fr).ok = true := HQ3.out
        rw [h5] at this
        exact this.symm
      subst hok2
      clear h4
      go_wp2_with fail
      refine (has2 (n := 41) (q := false) (by decide) (by decide) (by decide) _ _ _ _).mono ?_
      rintro e w3 ⟨rfl, hb3⟩
      obtain ⟨hc3, hf3⟩ := fbcell hb3
      have hz4 : w1.heap.size < w3.heap.size := Nat.lt_of_lt_of_le hz2 hb3.size
      have hz5 : w.heap.size < w3.heap.size := by omega
      have HB3 := Lib.hid (fbelow_t HB2.out hb3)
      have l0 : w3.cell? ⟨w.heap.size, 0, none⟩ = some (.int .i64 0) := by rw [hc3 _ _ hz3]; exact k0
      have l1 : w3.cell? ⟨w.heap.size, 1, none⟩ = some (.int .i64 0) := by rw [hc3 _ _ hz3]; exact k1
      have l2 : w3.cell? ⟨w.heap.size, 2, none⟩ = some (.int .i64 0) := by rw [hc3 _ _ hz3]; exact k2
      have l3 : w3.cell? ⟨w.heap.size, 3, none⟩ = some (.string (ByteArray.mk #[])) := by rw [hc3 _ _ hz3]; exact k3
      go_wp2
      refine bodyPost_ret (v := .tuple #[.agg #[.int .i64 (num4 s 0 % 536870912), .int .i64 41, .int .i64 x4, .string (decD s)], .bool true]) (by simp [results, Tryd.results13, go_sem, l0, l1, l2, l3]) rfl ⟨by rw [HV.out, HE.out]; rfl, ?_⟩
      exact ((((HB3.out.setCell (p := ⟨w.heap.size, 0, none⟩) (Nat.le_refl _) _).setCell (p := ⟨w.heap.size, 1, none⟩) (Nat.le_refl _) _).setCell (p := ⟨w.heap.size, 2, none⟩) (Nat.le_refl _) _).setCell (p := ⟨w.heap.size, 3, none⟩) (Nat.le_refl _) _)
    · have m4 : (num4 s 0 / 536870912 % 4 == 0) = false := by simpa using h4
      have hok2 : okk = false := by
        have := HK.out
        rw [decide_eq_false h4, Bool.and_false] at this
        exact this.symm
      subst hok2
      clear h4
      go_wp2
      refine bodyPost_ret (v := .tuple #[.agg #[.int .i64 0, .int .i64 0, .int .i64 0, .string (ByteArray.mk #[])], .bool false]) (by simp [results, Tryd.results13, go_sem, k0, k1, k2, k3]) rfl ⟨by rw [HV.out]; rfl, ?_⟩
      exact ((((HB2.out.setCell (p := ⟨w.heap.size, 0, none⟩) (Nat.le_refl _) _).setCell (p := ⟨w.heap.size, 1, none⟩) (Nat.le_refl _) _).setCell (p := ⟨w.heap.size, 2, none⟩) (Nat.le_refl _) _).setCell (p := ⟨w.heap.size, 3, none⟩) (Nat.le_refl _) _)

set_option maxRecDepth 100000 in
set_option maxHeartbeats 2000000 in
theorem rdec_F_110 {s : ByteArray} (hs : s.size ≤ maxLen) (hsz : s.size = 72) (h6 : bt s 6 = 0) (h7 : bt s 7 = 0) (h5 : bt s 5 / 4 = 1) (h8 : decN s + 8 ≤ s.size) (h9 : zeroB s (8 + decN s) s.size = true) (he : wE (num4 s 0) = true) (hb : bt s 5 % 2 = 1) (ht : bt s 5 / 2 % 2 = 0) (okk : Bool) (hok : ((decF s).ok && decide (num4 s 0 / 536870912 % 4 = 0)) = okk) (V : Value) (hV : V = .tuple #[if okk then .agg #[.int .i64 (decF s).i, .int .i64 (decF s).n, .int .i64 (decF s).l, .string (decF s).d] else .agg #[.int .i64 0, .int .i64 0, .int .i64 0, .string (ByteArray.mk #[])], .bool okk]) (w : World) :
    Calls Tryd.prog 13 #[.string s] w fun e w' => e = .returned V ∧ Below w.heap.size w w' := by
  have HS := Lib.hid hs
  have e1 : ((s.size : Int) == 16) = false := by simp; omega
  have e2 : ((s.size : Int) != 16) = true := by simp; omega
  have e3 : ((s.size : Int) == 72) = true := by simp; omega
  have e4 : ((s.size : Int) != 72) = false := by simp; omega
  have s0 : s.size ≤ 72 := by omega
  have s1 : 16 ≤ s.size := by omega
  have HZ : Hid (s.size = 72) := Lib.hid hsz
  have i4 : ∀ w, (Instr.index 9 (.string s) (.int .i64 4)).run Tryd.prog w = .ok (.int .u8 (bt s 4)) w := index_bt (k := 4) Tryd.underlying9 (by omega)
  have i5 : ∀ w, (Instr.index 9 (.string s) (.int .i64 5)).run Tryd.prog w = .ok (.int .u8 (bt s 5)) w := index_bt (k := 5) Tryd.underlying9 (by omega)
  have i6 : ∀ w, (Instr.index 9 (.string s) (.int .i64 6)).run Tryd.prog w = .ok (.int .u8 (bt s 6)) w := index_bt (k := 6) Tryd.underlying9 (by omega)
  have i7 : ∀ w, (Instr.index 9 (.string s) (.int .i64 7)).run Tryd.prog w = .ok (.int .u8 (bt s 7)) w := index_bt (k := 7) Tryd.underlying9 (by omega)
  have p4 := (bt_lt s 4).1
  have r4 := (bt_lt s 4).2
  have p5 := (bt_lt s 5).1
  have r5 := (bt_lt s 5).2
  have f6 : (bt s 6 == 0) = true := by simpa using h6
  have g6 : (bt s 6 != 0) = false := by simpa using h6
  have f7 : (bt s 7 == 0) = true := by simpa using h7
  have g7 : (bt s 7 != 0) = false := by simpa using h7
  have f5 : (bt s 5 / 4 == 1) = true := by simpa using h5
  have x7l : bt s 5 ≤ 7 := by omega
  have b7 : decide (7 < bt s 5) = false := by simp; omega
  have hN : bt s 4 = (decN s : Int) := by unfold decN; have := bt_lt s 4; omega
  have HNN := Lib.hid hN
  have HX : Hid (s.extract 8 (8 + bt s 4).toNat = decD s) := Lib.hid (by unfold decD; rw [hN]; rfl)
  have l8 : bt s 4 ≤ (s.size : Int) - 8 := by omega
  have b8 : decide ((s.size : Int) - 8 < bt s 4) = false := by simp; omega
  have HNB : Hid (decN s + 8 ≤ s.size) := Lib.hid h8
  have HQ := Lib.hid h9
  have W0 := Lib.hid (num4_lt s 0).1
  have W1 : Hid (num4 s 0 < 4294967296) := Lib.hid (by have := (num4_lt s 0).2; omega)
  have HDS : Hid ((decD s).size ≤ maxLen) := Lib.hid (by unfold decD maxLen; rw [sub_size _ _ _ (by omega)]; omega)
  have HE : Hid (decF s = ⟨num4 s 0 % 536870912, 25, bt s 4, decD s⟩) := Lib.hid (by unfold decF isFd decFl; rw [decide_eq_true hsz, he, hb, ht]; rfl)
  have HV := Lib.hid hV
  have HK := Lib.hid hok
  have ge : decide (2147483648 ≤ num4 s 0) = true := by unfold wE at he; have := num4_lt s 0; simp at he ⊢; omega
  have fb : (bt s 5 % 2 == 1) = true := by rw [hb]; rfl
  have ft : (bt s 5 / 2 % 2 == 1) = false := by rw [ht]; rfl
  have FB := Lib.hid fb
  have FT := Lib.hid ft
  have GE := Lib.hid ge
  clear hsz hs h6 h7 h5 h8 h9 hN he hb ht hok hV fb ft ge
  generalize bt s 4 = x4 at *
  generalize bt s 5 = x5 at *
  generalize bt s 6 = x6 at *
  generalize bt s 7 = x7 at *
  go_enter Tryd.func13, Tryd.ntmps13
  go_wp2_with fail
  refine (rget_yes s 0 _ HS.out (by have := HZ.out; omega)).mono ?_
  rintro e w1 ⟨rfl, rfl⟩
  go_wp2_with fail
  go_quiet (fail)
  have c0 : ((w.alloc (.cells #[.int .i64 0, .int .i64 0, .int .i64 0, .string (ByteArray.mk #[])] 23)).drewN nq).cell? ⟨w.heap.size, 0, none⟩ = some (.int .i64 0) := by simp [go_sem]
  have c1 : ((w.alloc (.cells #[.int .i64 0, .int .i64 0, .int .i64 0, .string (ByteArray.mk #[])] 23)).drewN nq).cell? ⟨w.heap.size, 1, none⟩ = some (.int .i64 0) := by simp [go_sem]
  have c2 : ((w.alloc (.cells #[.int .i64 0, .int .i64 0, .int .i64 0, .string (ByteArray.mk #[])] 23)).drewN nq).cell? ⟨w.heap.size, 2, none⟩ = some (.int .i64 0) := by simp [go_sem]
  have c3 : ((w.alloc (.cells #[.int .i64 0, .int .i64 0, .int .i64 0, .string (ByteArray.mk #[])] 23)).drewN nq).cell? ⟨w.heap.size, 3, none⟩ = some (.string (ByteArray.mk #[])) := by simp [go_sem]
  have v0 : ((w.alloc (.cells #[.int .i64 0, .int .i64 0, .int .i64 0, .string (ByteArray.mk #[])] 23)).drewN nq).frozen? ⟨w.heap.size, 0, none⟩ = false := by simp [go_sem]
  have v1 : ((w.alloc (.cells #[.int .i64 0, .int .i64 0, .int .i64 0, .string (ByteArray.mk #[])] 23)).drewN nq).frozen? ⟨w.heap.size, 1, none⟩ = false := by simp [go_sem]
  have v2 : ((w.alloc (.cells #[.int .i64 0, .int .i64 0, .int .i64 0, .string (ByteArray.mk #[])] 23)).drewN nq).frozen? ⟨w.heap.size, 2, none⟩ = false := by simp [go_sem]
  have v3 : ((w.alloc (.cells #[.int .i64 0, .int .i64 0, .int .i64 0, .string (ByteArray.mk #[])] 23)).drewN nq).frozen? ⟨w.heap.size, 3, none⟩ = false := by simp [go_sem]
  have hzq : w.heap.size < ((w.alloc (.cells #[.int .i64 0, .int .i64 0, .int .i64 0, .string (ByteArray.mk #[])] 23)).drewN nq).heap.size := by simp
  have HW : Hid (Below w.heap.size w ((w.alloc (.cells #[.int .i64 0, .int .i64 0, .int .i64 0, .string (ByteArray.mk #[])] 23)).drewN nq)) := Lib.hid (below_drewN (Below.allocL (Below.refl _ _) _) _)
  generalize (w.alloc (.cells #[.int .i64 0, .int .i64 0, .int .i64 0, .string (ByteArray.mk #[])] 23)).drewN nq = wq at *
  go_wp2_with fail
  refine (rzero_v (a := 8 + decN s) (b := s.size) HQ.out (by rw [HNN.out]; simp) rfl (Nat.le_refl _) HS.out (by have := HZ.out; have := HNB.out; unfold maxLen; omega) _).mono ?_
  rintro e w1 ⟨rfl, rfl⟩
  clear e1 e2 e3 e4 i4 i5 i6 i7 f6 g6 f7 g7
  go_wp2_with fail
  rw [HX.out]
  refine (rof_some W0.out W1.out HDS.out _).mono ?_
  rintro e w1 ⟨a', b', c', d', q', rfl, hb⟩
  obtain ⟨hc, hf⟩ := fbcell hb
  have hz1 : w.heap.size < w1.heap.size := Nat.lt_of_lt_of_le hzq hb.size
  have HB1 := Lib.hid (fbelow_t HW.out hb)
  have d0 : w1.cell? ⟨w.heap.size, 0, none⟩ = some (.int .i64 0) := by rw [hc _ _ hzq]; exact c0
  have d1 : w1.cell? ⟨w.heap.size, 1, none⟩ = some (.int .i64 0) := by rw [hc _ _ hzq]; exact c1
  have d2 : w1.cell? ⟨w.heap.size, 2, none⟩ = some (.int .i64 0) := by rw [hc _ _ hzq]; exact c2
  have d3 : w1.cell? ⟨w.heap.size, 3, none⟩ = some (.string (ByteArray.mk #[])) := by rw [hc _ _ hzq]; exact c3
  have fb := FB.out
  have ft := FT.out
  have ge := GE.out
  have n0 := W0.out
  have n1 := W1.out
  go_wp2_with fail
  rw [HX.out]
  cases hq : okF (num4 s 0 % 536870912) 25 x4 (decD s).size
  · have HQ3 := Lib.hid hq
    clear hq
    refine (rright_v HQ3.out _).mono ?_
    rintro e w2 ⟨rfl, hb2⟩
    obtain ⟨hc2, hf2⟩ := fbcell hb2
    have hz2 : w1.heap.size < w2.heap.size := by have := hb2.size; simp only [World.size_alloc] at this; omega
    have hz3 : w.heap.size < w2.heap.size := by omega
    have HB2 := Lib.hid (fbelow_t (Below.allocL HB1.out _) hb2)
    have k0 : w2.cell? ⟨w.heap.size, 0, none⟩ = some (.int .i64 0) := by rw [hc2 _ _ (by simp only [World.size_alloc]; omega), World.cell?_alloc_lt _ _ _ hz1]; exact d0
    have k1 : w2.cell? ⟨w.heap.size, 1, none⟩ = some (.int .i64 0) := by rw [hc2 _ _ (by simp only [World.size_alloc]; omega), World.cell?_alloc_lt _ _ _ hz1]; exact d1
    have k2 : w2.cell? ⟨w.heap.size, 2, none⟩ = some (.int .i64 0) := by rw [hc2 _ _ (by simp only [World.size_alloc]; omega), World.cell?_alloc_lt _ _ _ hz1]; exact d2
    have k3 : w2.cell? ⟨w.heap.size, 3, none⟩ = some (.string (ByteArray.mk #[])) := by rw [hc2 _ _ (by simp only [World.size_alloc]; omega), World.cell?_alloc_lt _ _ _ hz1]; exact d3
    have hok2 : okk = false := by
      have := HK.out
      rw [HE.out] at this
      have h5 : (⟨num4 s 0 % 536870912, 25, x4, decD s⟩ : Fr).ok = false := HQ3.out
      rw [h5] at this
      exact this.symm
    subst hok2
    go_wp2
    refine bodyPost_ret (v := .tuple #[.agg #[.int .i64 0, .int .i64 0, .int .i64 0, .string (ByteArray.mk #[])], .bool false]) (by simp [results, Tryd.results13, go_sem, k0, k1, k2, k3]) rfl ⟨by rw [HV.out]; rfl, ?_⟩
    exact ((((HB2.out.setCell (p := ⟨w.heap.size, 0, none⟩) (Nat.le_refl _) _).setCell (p := ⟨w.heap.size, 1, none⟩) (Nat.le_refl _) _).setCell (p := ⟨w.heap.size, 2, none⟩) (Nat.le_refl _) _).setCell (p := ⟨w.heap.size, 3, none⟩) (Nat.le_refl _) _)
  · have HQ3 := Lib.hid hq
    clear hq
    refine (rright_v HQ3.out _).mono ?_
    rintro e w2 ⟨rfl, hb2⟩
    obtain ⟨hc2, hf2⟩ := fbcell hb2
    have hz2 : w1.heap.size < w2.heap.size := by have := hb2.size; simp only [World.size_alloc] at this; omega
    have hz3 : w.heap.size < w2.heap.size := by omega
    have HB2 := Lib.hid (fbelow_t (Below.allocL HB1.out _) hb2)
    have k0 : w2.cell? ⟨w.heap.size, 0, none⟩ = some (.int .i64 0) := by rw [hc2 _ _ (by simp only [World.size_alloc]; omega), World.cell?_alloc_lt _ _ _ hz1]; exact d0
    have k1 : w2.cell? ⟨w.heap.size, 1, none⟩ = some (.int .i64 0) := by rw [hc2 _ _ (by simp only [World.size_alloc]; omega), World.cell?_alloc_lt _ _ _ hz1]; exact d1
    have k2 : w2.cell? ⟨w.heap.size, 2, none⟩ = some (.int .i64 0) := by rw [hc2 _ _ (by simp only [World.size_alloc]; omega), World.cell?_alloc_lt _ _ _ hz1]; exact d2
    have k3 : w2.cell? ⟨w.heap.size, 3, none⟩ = some (.string (ByteArray.mk #[])) := by rw [hc2 _ _ (by simp only [World.size_alloc]; omega), World.cell?_alloc_lt _ _ _ hz1]; exact d3
    by_cases h4 : num4 s 0 / 536870912 % 4 = 0
    · have m4 : (num4 s 0 / 536870912 % 4 == 0) = true := by simpa using h4
      have hok2 : okk = true := by
        have := HK.out
        rw [HE.out, decide_eq_true h4] at this
        have h5 : (⟨num4 s 0 % 536870912, 25, x4, decD s⟩ : Fr).ok = true := HQ3.out
        rw [h5] at this
        exact this.symm
      subst hok2
      clear h4
      go_wp2_with fail
      refine (has2 (n := 25) (q := false) (by decide) (by decide) (by decide) _ _ _ _).mono ?_
      rintro e w3 ⟨rfl, hb3⟩
      obtain ⟨hc3, hf3⟩ := fbcell hb3
      have hz4 : w1.heap.size < w3.heap.size := Nat.lt_of_lt_of_le hz2 hb3.size
      have hz5 : w.heap.size < w3.heap.size := by omega
      have HB3 := Lib.hid (fbelow_t HB2.out hb3)
      have l0 : w3.cell? ⟨w.heap.size, 0, none⟩ = some (.int .i64 0) := by rw [hc3 _ _ hz3]; exact k0
      have l1 : w3.cell? ⟨w.heap.size, 1, none⟩ = some (.int .i64 0) := by rw [hc3 _ _ hz3]; exact k1
      have l2 : w3.cell? ⟨w.heap.size, 2, none⟩ = some (.int .i64 0) := by rw [hc3 _ _ hz3]; exact k2
      have l3 : w3.cell? ⟨w.heap.size, 3, none⟩ = some (.string (ByteArray.mk #[])) := by rw [hc3 _ _ hz3]; exact k3
      go_wp2
      refine bodyPost_ret (v := .tuple #[.agg #[.int .i64 (num4 s 0 % 536870912), .int .i64 25, .int .i64 x4, .string (decD s)], .bool true]) (by simp [results, Tryd.results13, go_sem, l0, l1, l2, l3]) rfl ⟨by rw [HV.out, HE.out]; rfl, ?_⟩
      exact ((((HB3.out.setCell (p := ⟨w.heap.size, 0, none⟩) (Nat.le_refl _) _).setCell (p := ⟨w.heap.size, 1, none⟩) (Nat.le_refl _) _).setCell (p := ⟨w.heap.size, 2, none⟩) (Nat.le_refl _) _).setCell (p := ⟨w.heap.size, 3, none⟩) (Nat.le_refl _) _)
    · have m4 : (num4 s 0 / 536870912 % 4 == 0) = false := by simpa using h4
      have hok2 : okk = false := by
        have := HK.out
        rw [decide_eq_false h4, Bool.and_false] at this
        exact this.symm
      subst hok2
      clear h4
      go_wp2
      refine bodyPost_ret (v := .tuple #[.agg #[.int .i64 0, .int .i64 0, .int .i64 0, .string (ByteArray.mk #[])], .bool false]) (by simp [results, Tryd.results13, go_sem, k0, k1, k2, k3]) rfl ⟨by rw [HV.out]; rfl, ?_⟩
      exact ((((HB2.out.setCell (p := ⟨w.heap.size, 0, none⟩) (Nat.le_refl _) _).setCell (p := ⟨w.heap.size, 1, none⟩) (Nat.le_refl _) _).setCell (p := ⟨w.heap.size, 2, none⟩) (Nat.le_refl _) _).setCell (p := ⟨w.heap.size, 3, none⟩) (Nat.le_refl _) _)

set_option maxRecDepth 100000 in
set_option maxHeartbeats 2000000 in
theorem rdec_F_111 {s : ByteArray} (hs : s.size ≤ maxLen) (hsz : s.size = 72) (h6 : bt s 6 = 0) (h7 : bt s 7 = 0) (h5 : bt s 5 / 4 = 1) (h8 : decN s + 8 ≤ s.size) (h9 : zeroB s (8 + decN s) s.size = true) (he : wE (num4 s 0) = true) (hb : bt s 5 % 2 = 1) (ht : bt s 5 / 2 % 2 = 1) (okk : Bool) (hok : ((decF s).ok && decide (num4 s 0 / 536870912 % 4 = 0)) = okk) (V : Value) (hV : V = .tuple #[if okk then .agg #[.int .i64 (decF s).i, .int .i64 (decF s).n, .int .i64 (decF s).l, .string (decF s).d] else .agg #[.int .i64 0, .int .i64 0, .int .i64 0, .string (ByteArray.mk #[])], .bool okk]) (w : World) :
    Calls Tryd.prog 13 #[.string s] w fun e w' => e = .returned V ∧ Below w.heap.size w w' := by
  have HS := Lib.hid hs
  have e1 : ((s.size : Int) == 16) = false := by simp; omega
  have e2 : ((s.size : Int) != 16) = true := by simp; omega
  have e3 : ((s.size : Int) == 72) = true := by simp; omega
  have e4 : ((s.size : Int) != 72) = false := by simp; omega
  have s0 : s.size ≤ 72 := by omega
  have s1 : 16 ≤ s.size := by omega
  have HZ : Hid (s.size = 72) := Lib.hid hsz
  have i4 : ∀ w, (Instr.index 9 (.string s) (.int .i64 4)).run Tryd.prog w = .ok (.int .u8 (bt s 4)) w := index_bt (k := 4) Tryd.underlying9 (by omega)
  have i5 : ∀ w, (Instr.index 9 (.string s) (.int .i64 5)).run Tryd.prog w = .ok (.int .u8 (bt s 5)) w := index_bt (k := 5) Tryd.underlying9 (by omega)
  have i6 : ∀ w, (Instr.index 9 (.string s) (.int .i64 6)).run Tryd.prog w = .ok (.int .u8 (bt s 6)) w := index_bt (k := 6) Tryd.underlying9 (by omega)
  have i7 : ∀ w, (Instr.index 9 (.string s) (.int .i64 7)).run Tryd.prog w = .ok (.int .u8 (bt s 7)) w := index_bt (k := 7) Tryd.underlying9 (by omega)
  have p4 := (bt_lt s 4).1
  have r4 := (bt_lt s 4).2
  have p5 := (bt_lt s 5).1
  have r5 := (bt_lt s 5).2
  have f6 : (bt s 6 == 0) = true := by simpa using h6
  have g6 : (bt s 6 != 0) = false := by simpa using h6
  have f7 : (bt s 7 == 0) = true := by simpa using h7
  have g7 : (bt s 7 != 0) = false := by simpa using h7
  have f5 : (bt s 5 / 4 == 1) = true := by simpa using h5
  have x7l : bt s 5 ≤ 7 := by omega
  have b7 : decide (7 < bt s 5) = false := by simp; omega
  have hN : bt s 4 = (decN s : Int) := by unfold decN; have := bt_lt s 4; omega
  have HNN := Lib.hid hN
  have HX : Hid (s.extract 8 (8 + bt s 4).toNat = decD s) := Lib.hid (by unfold decD; rw [hN]; rfl)
  have l8 : bt s 4 ≤ (s.size : Int) - 8 := by omega
  have b8 : decide ((s.size : Int) - 8 < bt s 4) = false := by simp; omega
  have HNB : Hid (decN s + 8 ≤ s.size) := Lib.hid h8
  have HQ := Lib.hid h9
  have W0 := Lib.hid (num4_lt s 0).1
  have W1 : Hid (num4 s 0 < 4294967296) := Lib.hid (by have := (num4_lt s 0).2; omega)
  have HDS : Hid ((decD s).size ≤ maxLen) := Lib.hid (by unfold decD maxLen; rw [sub_size _ _ _ (by omega)]; omega)
  have HE : Hid (decF s = ⟨num4 s 0 % 536870912, 57, bt s 4, decD s⟩) := Lib.hid (by unfold decF isFd decFl; rw [decide_eq_true hsz, he, hb, ht]; rfl)
  have HV := Lib.hid hV
  have HK := Lib.hid hok
  have ge : decide (2147483648 ≤ num4 s 0) = true := by unfold wE at he; have := num4_lt s 0; simp at he ⊢; omega
  have fb : (bt s 5 % 2 == 1) = true := by rw [hb]; rfl
  have ft : (bt s 5 / 2 % 2 == 1) = true := by rw [ht]; rfl
  have FB := Lib.hid fb
  have FT := Lib.hid ft
  have GE := Lib.hid ge
  clear hsz hs h6 h7 h5 h8 h9 hN he hb ht hok hV fb ft ge
  generalize bt s 4 = x4 at *
  generalize bt s 5 = x5 at *
  generalize bt s 6 = x6 at *
  generalize bt s 7 = x7 at *
  go_enter Tryd.func13, Tryd.ntmps13
  go_wp2_with fail
  refine (rget_yes s 0 _ HS.out (by have := HZ.out; omega)).mono ?_
  rintro e w1 ⟨rfl, rfl⟩
  go_wp2_with fail
  go_quiet (fail)
  have c0 : ((w.alloc (.cells #[.int .i64 0, .int .i64 0, .int .i64 0, .string (ByteArray.mk #[])] 23)).drewN nq).cell? ⟨w.heap.size, 0, none⟩ = some (.int .i64 0) := by simp [go_sem]
  have c1 : ((w.alloc (.cells #[.int .i64 0, .int .i64 0, .int .i64 0, .string (ByteArray.mk #[])] 23)).drewN nq).cell? ⟨w.heap.size, 1, none⟩ = some (.int .i64 0) := by simp [go_sem]
  have c2 : ((w.alloc (.cells #[.int .i64 0, .int .i64 0, .int .i64 0, .string (ByteArray.mk #[])] 23)).drewN nq).cell? ⟨w.heap.size, 2, none⟩ = some (.int .i64 0) := by simp [go_sem]
  have c3 : ((w.alloc (.cells #[.int .i64 0, .int .i64 0, .int .i64 0, .string (ByteArray.mk #[])] 23)).drewN nq).cell? ⟨w.heap.size, 3, none⟩ = some (.string (ByteArray.mk #[])) := by simp [go_sem]
  have v0 : ((w.alloc (.cells #[.int .i64 0, .int .i64 0, .int .i64 0, .string (ByteArray.mk #[])] 23)).drewN nq).frozen? ⟨w.heap.size, 0, none⟩ = false := by simp [go_sem]
  have v1 : ((w.alloc (.cells #[.int .i64 0, .int .i64 0, .int .i64 0, .string (ByteArray.mk #[])] 23)).drewN nq).frozen? ⟨w.heap.size, 1, none⟩ = false := by simp [go_sem]
  have v2 : ((w.alloc (.cells #[.int .i64 0, .int .i64 0, .int .i64 0, .string (ByteArray.mk #[])] 23)).drewN nq).frozen? ⟨w.heap.size, 2, none⟩ = false := by simp [go_sem]
  have v3 : ((w.alloc (.cells #[.int .i64 0, .int .i64 0, .int .i64 0, .string (ByteArray.mk #[])] 23)).drewN nq).frozen? ⟨w.heap.size, 3, none⟩ = false := by simp [go_sem]
  have hzq : w.heap.size < ((w.alloc (.cells #[.int .i64 0, .int .i64 0, .int .i64 0, .string (ByteArray.mk #[])] 23)).drewN nq).heap.size := by simp
  have HW : Hid (Below w.heap.size w ((w.alloc (.cells #[.int .i64 0, .int .i64 0, .int .i64 0, .string (ByteArray.mk #[])] 23)).drewN nq)) := Lib.hid (below_drewN (Below.allocL (Below.refl _ _) _) _)
  generalize (w.alloc (.cells #[.int .i64 0, .int .i64 0, .int .i64 0, .string (ByteArray.mk #[])] 23)).drewN nq = wq at *
  go_wp2_with fail
  refine (rzero_v (a := 8 + decN s) (b := s.size) HQ.out (by rw [HNN.out]; simp) rfl (Nat.le_refl _) HS.out (by have := HZ.out; have := HNB.out; unfold maxLen; omega) _).mono ?_
  rintro e w1 ⟨rfl, rfl⟩
  clear e1 e2 e3 e4 i4 i5 i6 i7 f6 g6 f7 g7
  go_wp2_with fail
  rw [HX.out]
  refine (rof_some W0.out W1.out HDS.out _).mono ?_
  rintro e w1 ⟨a', b', c', d', q', rfl, hb⟩
  obtain ⟨hc, hf⟩ := fbcell hb
  have hz1 : w.heap.size < w1.heap.size := Nat.lt_of_lt_of_le hzq hb.size
  have HB1 := Lib.hid (fbelow_t HW.out hb)
  have d0 : w1.cell? ⟨w.heap.size, 0, none⟩ = some (.int .i64 0) := by rw [hc _ _ hzq]; exact c0
  have d1 : w1.cell? ⟨w.heap.size, 1, none⟩ = some (.int .i64 0) := by rw [hc _ _ hzq]; exact c1
  have d2 : w1.cell? ⟨w.heap.size, 2, none⟩ = some (.int .i64 0) := by rw [hc _ _ hzq]; exact c2
  have d3 : w1.cell? ⟨w.heap.size, 3, none⟩ = some (.string (ByteArray.mk #[])) := by rw [hc _ _ hzq]; exact c3
  have fb := FB.out
  have ft := FT.out
  have ge := GE.out
  have n0 := W0.out
  have n1 := W1.out
  go_wp2_with fail
  rw [HX.out]
  cases hq : okF (num4 s 0 % 536870912) 57 x4 (decD s).size
  · have HQ3 := Lib.hid hq
    clear hq
    refine (rright_v HQ3.out _).mono ?_
    rintro e w2 ⟨rfl, hb2⟩
    obtain ⟨hc2, hf2⟩ := fbcell hb2
    have hz2 : w1.heap.size < w2.heap.size := by have := hb2.size; simp only [World.size_alloc] at this; omega
    have hz3 : w.heap.size < w2.heap.size := by omega
    have HB2 := Lib.hid (fbelow_t (Below.allocL HB1.out _) hb2)
    have k0 : w2.cell? ⟨w.heap.size, 0, none⟩ = some (.int .i64 0) := by rw [hc2 _ _ (by simp only [World.size_alloc]; omega), World.cell?_alloc_lt _ _ _ hz1]; exact d0
    have k1 : w2.cell? ⟨w.heap.size, 1, none⟩ = some (.int .i64 0) := by rw [hc2 _ _ (by simp only [World.size_alloc]; omega), World.cell?_alloc_lt _ _ _ hz1]; exact d1
    have k2 : w2.cell? ⟨w.heap.size, 2, none⟩ = some (.int .i64 0) := by rw [hc2 _ _ (by simp only [World.size_alloc]; omega), World.cell?_alloc_lt _ _ _ hz1]; exact d2
    have k3 : w2.cell? ⟨w.heap.size, 3, none⟩ = some (.string (ByteArray.mk #[])) := by rw [hc2 _ _ (by simp only [World.size_alloc]; omega), World.cell?_alloc_lt _ _ _ hz1]; exact d3
    have hok2 : okk = false := by
      have := HK.out
      rw [HE.out] at this
      have h5 : (⟨num4 s 0 % 536870912, 57, x4, decD s⟩ : Fr).ok = false := HQ3.out
      rw [h5] at this
      exact this.symm
    subst hok2
    go_wp2
    refine bodyPost_ret (v := .tuple #[.agg #[.int .i64 0, .int .i64 0, .int .i64 0, .string (ByteArray.mk #[])], .bool false]) (by simp [results, Tryd.results13, go_sem, k0, k1, k2, k3]) rfl ⟨by rw [HV.out]; rfl, ?_⟩
    exact ((((HB2.out.setCell (p := ⟨w.heap.size, 0, none⟩) (Nat.le_refl _) _).setCell (p := ⟨w.heap.size, 1, none⟩) (Nat.le_refl _) _).setCell (p := ⟨w.heap.size, 2, none⟩) (Nat.le_refl _) _).setCell (p := ⟨w.heap.size, 3, none⟩) (Nat.le_refl _) _)
  · have HQ3 := Lib.hid hq
    clear hq
    refine (rright_v HQ3.out _).mono ?_
    rintro e w2 ⟨rfl, hb2⟩
    obtain ⟨hc2, hf2⟩ := fbcell hb2
    have hz2 : w1.heap.size < w2.heap.size := by have := hb2.size; simp only [World.size_alloc] at this; omega
    have hz3 : w.heap.size < w2.heap.size := by omega
    have HB2 := Lib.hid (fbelow_t (Below.allocL HB1.out _) hb2)
    have k0 : w2.cell? ⟨w.heap.size, 0, none⟩ = some (.int .i64 0) := by rw [hc2 _ _ (by simp only [World.size_alloc]; omega), World.cell?_alloc_lt _ _ _ hz1]; exact d0
    have k1 : w2.cell? ⟨w.heap.size, 1, none⟩ = some (.int .i64 0) := by rw [hc2 _ _ (by simp only [World.size_alloc]; omega), World.cell?_alloc_lt _ _ _ hz1]; exact d1
    have k2 : w2.cell? ⟨w.heap.size, 2, none⟩ = some (.int .i64 0) := by rw [hc2 _ _ (by simp only [World.size_alloc]; omega), World.cell?_alloc_lt _ _ _ hz1]; exact d2
    have k3 : w2.cell? ⟨w.heap.size, 3, none⟩ = some (.string (ByteArray.mk #[])) := by rw [hc2 _ _ (by simp only [World.size_alloc]; omega), World.cell?_alloc_lt _ _ _ hz1]; exact d3
    by_cases h4 : num4 s 0 / 536870912 % 4 = 0
    · have m4 : (num4 s 0 / 536870912 % 4 == 0) = true := by simpa using h4
      have hok2 : okk = true := by
        have := HK.out
        rw [HE.out, decide_eq_true h4] at this
        have h5 : (⟨num4 s 0 % 536870912, 57, x4, decD s⟩ : Fr).ok = true := HQ3.out
        rw [h5] at this
        exact this.symm
      subst hok2
      clear h4
      go_wp2_with fail
      refine (has2 (n := 57) (q := false) (by decide) (by decide) (by decide) _ _ _ _).mono ?_
      rintro e w3 ⟨rfl, hb3⟩
      obtain ⟨hc3, hf3⟩ := fbcell hb3
      have hz4 : w1.heap.size < w3.heap.size := Nat.lt_of_lt_of_le hz2 hb3.size
      have hz5 : w.heap.size < w3.heap.size := by omega
      have HB3 := Lib.hid (fbelow_t HB2.out hb3)
      have l0 : w3.cell? ⟨w.heap.size, 0, none⟩ = some (.int .i64 0) := by rw [hc3 _ _ hz3]; exact k0
      have l1 : w3.cell? ⟨w.heap.size, 1, none⟩ = some (.int .i64 0) := by rw [hc3 _ _ hz3]; exact k1
      have l2 : w3.cell? ⟨w.heap.size, 2, none⟩ = some (.int .i64 0) := by rw [hc3 _ _ hz3]; exact k2
      have l3 : w3.cell? ⟨w.heap.size, 3, none⟩ = some (.string (ByteArray.mk #[])) := by rw [hc3 _ _ hz3]; exact k3
      go_wp2
      refine bodyPost_ret (v := .tuple #[.agg #[.int .i64 (num4 s 0 % 536870912), .int .i64 57, .int .i64 x4, .string (decD s)], .bool true]) (by simp [results, Tryd.results13, go_sem, l0, l1, l2, l3]) rfl ⟨by rw [HV.out, HE.out]; rfl, ?_⟩
      exact ((((HB3.out.setCell (p := ⟨w.heap.size, 0, none⟩) (Nat.le_refl _) _).setCell (p := ⟨w.heap.size, 1, none⟩) (Nat.le_refl _) _).setCell (p := ⟨w.heap.size, 2, none⟩) (Nat.le_refl _) _).setCell (p := ⟨w.heap.size, 3, none⟩) (Nat.le_refl _) _)
    · have m4 : (num4 s 0 / 536870912 % 4 == 0) = false := by simpa using h4
      have hok2 : okk = false := by
        have := HK.out
        rw [decide_eq_false h4, Bool.and_false] at this
        exact this.symm
      subst hok2
      clear h4
      go_wp2
      refine bodyPost_ret (v := .tuple #[.agg #[.int .i64 0, .int .i64 0, .int .i64 0, .string (ByteArray.mk #[])], .bool false]) (by simp [results, Tryd.results13, go_sem, k0, k1, k2, k3]) rfl ⟨by rw [HV.out]; rfl, ?_⟩
      exact ((((HB2.out.setCell (p := ⟨w.heap.size, 0, none⟩) (Nat.le_refl _) _).setCell (p := ⟨w.heap.size, 1, none⟩) (Nat.le_refl _) _).setCell (p := ⟨w.heap.size, 2, none⟩) (Nat.le_refl _) _).setCell (p := ⟨w.heap.size, 3, none⟩) (Nat.le_refl _) _)

end Go.Proofs.YtimlaopmhcipmaaDoor
