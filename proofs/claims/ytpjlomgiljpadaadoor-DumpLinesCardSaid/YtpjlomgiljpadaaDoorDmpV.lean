/- Dump: the document's Read: early ends (printed by gen_read.py). -/
import Derived.Test.YtpjlomgiljpadaaDoorDmpU
namespace Go.Proofs.YtpjlomgiljpadaaDoor
open Go.RowKit
set_option linter.unusedVariables false


set_option maxHeartbeats 2000000 in
set_option maxRecDepth 100000 in
theorem rread_none {s : ByteArray} (hs : s.size ≤ 1000000) (hc : cutL 35 (byL s) = none) (w : World) :
    Calls Tryd.prog 13 #[.string s] w (rrPost s w) := by
  have HN := Lib.hid (cutL_no hc)
  have HR : Hid (readO (byL s) = none) := Lib.hid (by unfold readO; rw [hc])
  clear hc
  go_enter Tryd.func13, Tryd.ntmps13
  go_wp2_with fail
  go_loop [5] (fun i => ∃ k : Nat, k ≤ s.size ∧ i = .int .i64 k) (fun i => s.size - (intOf i).toNat)
  case atStart => exact ⟨0, Nat.zero_le _, rfl⟩
  case round =>
    obtain ⟨k, hk, rfl⟩ := hrel
    by_cases hlt : k < s.size
    · have hi0 : ∀ w, (Instr.index 9 (.string s) (.int .i64 k)).run Tryd.prog w = .ok (.int .u8 (bt s k)) w := index_bt Tryd.underlying9 hlt
      have h35 : bt s k ≠ 35 := by
        intro hc
        apply HN.out
        rw [← hc, ← byL_get hlt]
        exact List.getElem_mem _
      have c1 : (bt s k == 35) = false := by simpa using h35
      have c2 : (bt s k != 35) = true := by simpa using h35
      clear h35
      go_wp2_with fail
      go_round
      case rel => exact ⟨k + 1, by omega, by go_num⟩
      case measure => simp [intOf]; omega
    · obtain rfl : k = s.size := by omega
      go_wp2_with fail
      refine bodyPost_ret (v := .tuple #[.agg #[.int .i64 0, .int .i64 0, .int .i64 0, .string (ByteArray.mk #[])], .bool false]) (by simp [results, Tryd.results13, go_sem]) rfl (rrPost_no HR.out ?_)
      exact ((Below.refl _ _).alloc (Nat.le_refl _) _).alloc (by simp) _

set_option maxHeartbeats 2000000 in
set_option maxRecDepth 100000 in
theorem rread_len {s : ByteArray} {a b : List Int} (hs : s.size ≤ 1000000) (hc : cutL 35 (byL s) = some (a, b)) (h3 : a.length ≠ 3) (h8 : a.length ≠ 8) (w : World) :
    Calls Tryd.prog 13 #[.string s] w (rrPost s w) := by
  obtain ⟨p1, p2, p3, p4, p5, p6⟩ := cut_parts hc
  have HR : Hid (readO (byL s) = none) := Lib.hid (readO_no hc (.inl (headO_len h3 h8)))
  obtain ⟨k, hk⟩ : ∃ k, a.length = k := ⟨_, rfl⟩
  rw [hk] at p1 p2 p3 h3 h8
  have HNE := Lib.hid p3
  have H35 := Lib.hid p2
  have HSZ := Lib.hid p1
  have e3 : ((k : Int) == 3) = false := by simp; omega
  have e8 : ((k : Int) == 8) = false := by simp; omega
  have n3 : ((k : Int) != 3) = true := by simp; omega
  have n8 : ((k : Int) != 8) = true := by simp; omega
  have es : ((k : Int) == (s.size : Int)) = false := by simp; omega
  clear p1 p2 p3 p4 p5 p6 hk h3 h8 hc
  go_enter Tryd.func13, Tryd.ntmps13
  go_wp2_with fail
  go_loop [5] (fun i => ∃ j : Nat, j ≤ k ∧ i = .int .i64 j) (fun i => k - (intOf i).toNat)
  case atStart => exact ⟨0, Nat.zero_le _, rfl⟩
  case round =>
    obtain ⟨j, hj, rfl⟩ := hrel
    have hjs : j < s.size := by have := HSZ.out; omega
    have hi0 : ∀ w, (Instr.index 9 (.string s) (.int .i64 j)).run Tryd.prog w = .ok (.int .u8 (bt s j)) w := index_bt Tryd.underlying9 hjs
    by_cases hlt : j < k
    · have c1 : (bt s j == 35) = false := by simpa using HNE.out j hlt
      have c2 : (bt s j != 35) = true := by simpa using HNE.out j hlt
      go_wp2_with fail
      go_round
      case rel => exact ⟨j + 1, by omega, by go_num⟩
      case measure => simp [intOf]; omega
    obtain rfl : j = k := by omega
    have c1 : (bt s j == 35) = true := by have := H35.out; simpa using this
    have c2 : (bt s j != 35) = false := by have := H35.out; simpa using this
    clear hlt hj
    go_wp2_with fail
    refine bodyPost_ret (v := .tuple #[.agg #[.int .i64 0, .int .i64 0, .int .i64 0, .string (ByteArray.mk #[])], .bool false]) (by simp [results, Tryd.results13, go_sem]) rfl (rrPost_no HR.out ?_)
    exact ((Below.refl _ _).alloc (Nat.le_refl _) _).alloc (by simp) _


set_option maxHeartbeats 2000000 in
set_option maxRecDepth 100000 in
theorem rread_num3 {s : ByteArray} {a b : List Int} (hs : s.size ≤ 1000000) (hc : cutL 35 (byL s) = some (a, b)) (hl : a.length = 3) (hn : headO a = none ∨ readO (byL s) = none) (hv : numV (s.extract 0 3) < 0 ∨ 1073741824 ≤ numV (s.extract 0 3)) (w : World) :
    Calls Tryd.prog 13 #[.string s] w (rrPost s w) := by
  obtain ⟨p1, p2, p3, p4, p5, p6⟩ := cut_parts hc
  have HR : Hid (readO (byL s) = none) := Lib.hid (hn.elim (fun h => readO_no hc (.inl h)) id)
  rw [hl] at p1 p2 p3 p4 p5 p6
  have HNE := Lib.hid p3
  have H35 := Lib.hid p2
  have HSZ := Lib.hid p1
  have es : ((3 : Int) == (s.size : Int)) = false := by simp; omega
  have hvs : (s.extract 0 3).size ≤ 12 := by rw [sub_size _ _ _ (by omega)]; omega
  obtain ⟨v, hve⟩ : ∃ v, numV (s.extract 0 3) = v := ⟨_, rfl⟩
  have HV := Lib.hid hve
  have hvb := numV_bd _ hvs
  rw [hve] at hv hvb
  clear p1 p2 p3 p4 p5 p6 hl hn hc hve
  go_enter Tryd.func13, Tryd.ntmps13
  go_wp2_with fail
  go_loop [5] (fun i => ∃ j : Nat, j ≤ 3 ∧ i = .int .i64 j) (fun i => 3 - (intOf i).toNat)
  case atStart => exact ⟨0, Nat.zero_le _, rfl⟩
  case round =>
    obtain ⟨j, hj, rfl⟩ := hrel
    have hjs : j < s.size := by have := HSZ.out; omega
    have hi0 : ∀ w, (Instr.index 9 (.string s) (.int .i64 j)).run Tryd.prog w = .ok (.int .u8 (bt s j)) w := index_bt Tryd.underlying9 hjs
    by_cases hlt : j < 3
    · have c1 : (bt s j == 35) = false := by simpa using HNE.out j hlt
      have c2 : (bt s j != 35) = true := by simpa using HNE.out j hlt
      go_wp2_with fail
      go_round
      case rel => exact ⟨j + 1, by omega, by go_num⟩
      case measure => simp [intOf]; omega
    obtain rfl : j = 3 := by omega
    have c1 : (bt s 3 == 35) = true := by have := H35.out; simpa using this
    have c2 : (bt s 3 != 35) = false := by have := H35.out; simpa using this
    clear hlt hj
    have hiK : ∀ w, (Instr.index 9 (.string s) (.int .i64 3)).run Tryd.prog w = .ok (.int .u8 (bt s 3)) w := hi0
    clear hi0
    go_wp2_with fail
    refine (number_v HV.out hvs _).mono ?_
    rintro e w1 ⟨rfl, rfl⟩
    rcases hv with hv | hv
    · have hd : decide (v < 0) = true := decide_eq_true hv
      go_wp2_with fail
      refine bodyPost_ret (v := .tuple #[.agg #[.int .i64 0, .int .i64 0, .int .i64 0, .string (ByteArray.mk #[])], .bool false]) (by simp [results, Tryd.results13, go_sem]) rfl (rrPost_no HR.out ?_)
      exact (((Below.refl _ _).alloc (Nat.le_refl _) _).alloc (by simp) _).alloc (by simp; omega) _
    · have hd : decide (v < 0) = false := decide_eq_false (by omega)
      have hd2 : decide (1073741824 ≤ v) = true := decide_eq_true hv
      go_wp2_with fail
      refine bodyPost_ret (v := .tuple #[.agg #[.int .i64 0, .int .i64 0, .int .i64 0, .string (ByteArray.mk #[])], .bool false]) (by simp [results, Tryd.results13, go_sem]) rfl (rrPost_no HR.out ?_)
      exact (((Below.refl _ _).alloc (Nat.le_refl _) _).alloc (by simp) _).alloc (by simp; omega) _


set_option maxHeartbeats 2000000 in
set_option maxRecDepth 100000 in
theorem rread_num8 {s : ByteArray} {a b : List Int} (hs : s.size ≤ 1000000) (hc : cutL 35 (byL s) = some (a, b)) (hl : a.length = 8) (hn : headO a = none ∨ readO (byL s) = none) (hv : numV (s.extract 0 8) < 0 ∨ 1073741824 ≤ numV (s.extract 0 8)) (w : World) :
    Calls Tryd.prog 13 #[.string s] w (rrPost s w) := by
  obtain ⟨p1, p2, p3, p4, p5, p6⟩ := cut_parts hc
  have HR : Hid (readO (byL s) = none) := Lib.hid (hn.elim (fun h => readO_no hc (.inl h)) id)
  rw [hl] at p1 p2 p3 p4 p5 p6
  have HNE := Lib.hid p3
  have H35 := Lib.hid p2
  have HSZ := Lib.hid p1
  have es : ((8 : Int) == (s.size : Int)) = false := by simp; omega
  have hvs : (s.extract 0 8).size ≤ 12 := by rw [sub_size _ _ _ (by omega)]; omega
  obtain ⟨v, hve⟩ : ∃ v, numV (s.extract 0 8) = v := ⟨_, rfl⟩
  have HV := Lib.hid hve
  have hvb := numV_bd _ hvs
  rw [hve] at hv hvb
  clear p1 p2 p3 p4 p5 p6 hl hn hc hve
  go_enter Tryd.func13, Tryd.ntmps13
  go_wp2_with fail
  go_loop [5] (fun i => ∃ j : Nat, j ≤ 8 ∧ i = .int .i64 j) (fun i => 8 - (intOf i).toNat)
  case atStart => exact ⟨0, Nat.zero_le _, rfl⟩
  case round =>
    obtain ⟨j, hj, rfl⟩ := hrel
    have hjs : j < s.size := by have := HSZ.out; omega
    have hi0 : ∀ w, (Instr.index 9 (.string s) (.int .i64 j)).run Tryd.prog w = .ok (.int .u8 (bt s j)) w := index_bt Tryd.underlying9 hjs
    by_cases hlt : j < 8
    · have c1 : (bt s j == 35) = false := by simpa using HNE.out j hlt
      have c2 : (bt s j != 35) = true := by simpa using HNE.out j hlt
      go_wp2_with fail
      go_round
      case rel => exact ⟨j + 1, by omega, by go_num⟩
      case measure => simp [intOf]; omega
    obtain rfl : j = 8 := by omega
    have c1 : (bt s 8 == 35) = true := by have := H35.out; simpa using this
    have c2 : (bt s 8 != 35) = false := by have := H35.out; simpa using this
    clear hlt hj
    have hiK : ∀ w, (Instr.index 9 (.string s) (.int .i64 8)).run Tryd.prog w = .ok (.int .u8 (bt s 8)) w := hi0
    clear hi0
    go_wp2_with fail
    refine (number_v HV.out hvs _).mono ?_
    rintro e w1 ⟨rfl, rfl⟩
    rcases hv with hv | hv
    · have hd : decide (v < 0) = true := decide_eq_true hv
      go_wp2_with fail
      refine bodyPost_ret (v := .tuple #[.agg #[.int .i64 0, .int .i64 0, .int .i64 0, .string (ByteArray.mk #[])], .bool false]) (by simp [results, Tryd.results13, go_sem]) rfl (rrPost_no HR.out ?_)
      exact (((Below.refl _ _).alloc (Nat.le_refl _) _).alloc (by simp) _).alloc (by simp; omega) _
    · have hd : decide (v < 0) = false := decide_eq_false (by omega)
      have hd2 : decide (1073741824 ≤ v) = true := decide_eq_true hv
      go_wp2_with fail
      refine bodyPost_ret (v := .tuple #[.agg #[.int .i64 0, .int .i64 0, .int .i64 0, .string (ByteArray.mk #[])], .bool false]) (by simp [results, Tryd.results13, go_sem]) rfl (rrPost_no HR.out ?_)
      exact (((Below.refl _ _).alloc (Nat.le_refl _) _).alloc (by simp) _).alloc (by simp; omega) _


theorem rdata_v {s X : ByteArray} {d : List Int} (h : datL (byL s) = some d) (hX : strOfNums d = X) (hs : s.size ≤ 100000000) (w : World) :
    Calls Tryd.prog 34 #[.string s] w fun e w' => e = .returned (.tuple #[.string X, .bool true]) ∧ Below w.heap.size w w' :=
  (rdata_any s hs w).mono fun e w' hp => by unfold rdPost at hp; rw [h] at hp; simp only [hX] at hp; exact hp
theorem rdata_n {s : ByteArray} (h : datL (byL s) = none) (hs : s.size ≤ 100000000) (w : World) :
    Calls Tryd.prog 34 #[.string s] w fun e w' => e = .returned (.tuple #[.string (ByteArray.mk #[]), .bool false]) ∧ Below w.heap.size w w' :=
  (rdata_any s hs w).mono fun e w' hp => by unfold rdPost at hp; rw [h] at hp; exact hp
theorem RB.facts {w wv : World} {i n l : Int} {d : ByteArray} (h : RB w wv i n l d) :
    (wv.cell? ⟨w.heap.size, 0, none⟩ = some (.int .i64 0) ∧ wv.cell? ⟨w.heap.size, 1, none⟩ = some (.int .i64 0) ∧ wv.cell? ⟨w.heap.size, 2, none⟩ = some (.int .i64 0) ∧ wv.cell? ⟨w.heap.size, 3, none⟩ = some (.string (ByteArray.mk #[])) ∧
    wv.frozen? ⟨w.heap.size, 0, none⟩ = false ∧ wv.frozen? ⟨w.heap.size, 1, none⟩ = false ∧ wv.frozen? ⟨w.heap.size, 2, none⟩ = false ∧ wv.frozen? ⟨w.heap.size, 3, none⟩ = false) ∧
    (wv.cell? ⟨w.heap.size + 1, 0, none⟩ = some (.int .i64 0) ∧ wv.cell? ⟨w.heap.size + 1, 1, none⟩ = some (.int .i64 0) ∧ wv.cell? ⟨w.heap.size + 1, 2, none⟩ = some (.int .i64 0) ∧ wv.cell? ⟨w.heap.size + 1, 3, none⟩ = some (.string (ByteArray.mk #[])) ∧
    wv.frozen? ⟨w.heap.size + 1, 0, none⟩ = false ∧ wv.frozen? ⟨w.heap.size + 1, 1, none⟩ = false ∧ wv.frozen? ⟨w.heap.size + 1, 2, none⟩ = false ∧ wv.frozen? ⟨w.heap.size + 1, 3, none⟩ = false) ∧
    (wv.cell? ⟨w.heap.size + 2, 0, none⟩ = some (.int .i64 i) ∧ wv.cell? ⟨w.heap.size + 2, 1, none⟩ = some (.int .i64 n) ∧ wv.cell? ⟨w.heap.size + 2, 2, none⟩ = some (.int .i64 l) ∧ wv.cell? ⟨w.heap.size + 2, 3, none⟩ = some (.string d) ∧
    wv.frozen? ⟨w.heap.size + 2, 0, none⟩ = false ∧ wv.frozen? ⟨w.heap.size + 2, 1, none⟩ = false ∧ wv.frozen? ⟨w.heap.size + 2, 2, none⟩ = false ∧ wv.frozen? ⟨w.heap.size + 2, 3, none⟩ = false) ∧ w.heap.size + 2 < wv.heap.size :=
  ⟨cells4 h.r, cells4 h.z, cells4 h.f, h.size⟩

end Go.Proofs.YtpjlomgiljpadaaDoor
