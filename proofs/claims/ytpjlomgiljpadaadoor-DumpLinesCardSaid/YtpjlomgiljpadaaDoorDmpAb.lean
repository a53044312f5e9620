/- Dump: contracts of readAsking, readFd, readBody. -/
import Derived.Test.YtpjlomgiljpadaaDoorDmpAa
import Derived.Test.YtpjlomgiljpadaaDoorDmpU
namespace Go.Proofs.YtpjlomgiljpadaaDoor
open Go.RowKit
set_option linter.unusedVariables false

/-! ### the result's block -/
structure R1 (w wv : World) : Prop where
  below : Below w.heap.size w wv
  r : wv.heap[w.heap.size]? = some (frCs 0 0 0 (ByteArray.mk #[]))
section
variable {w wv wv' : World}
theorem R1.start : R1 w (w.alloc (frCs 0 0 0 (ByteArray.mk #[]))) := ⟨(Below.refl _ _).alloc (Nat.le_refl _) _, heap_alloc_new _ _⟩
theorem R1.later (h : R1 w wv) (hb : Below wv.heap.size wv wv') : R1 w wv' := ⟨h.below.trans (hb.mono h.below.size), by rw [hb.block _ (lt_of_heap h.r)]; exact h.r⟩
theorem R1.alloc (h : R1 w wv) (o : Obj) : R1 w (wv.alloc o) := h.later ((Below.refl _ _).alloc (Nat.le_refl _) o)
theorem R1.size (h : R1 w wv) : w.heap.size < wv.heap.size := lt_of_heap h.r
theorem R1.done (h : R1 w wv) (a b c e : Value) : Below w.heap.size w ((((wv.setCell ⟨w.heap.size, 0, none⟩ a).setCell ⟨w.heap.size, 1, none⟩ b).setCell ⟨w.heap.size, 2, none⟩ c).setCell ⟨w.heap.size, 3, none⟩ e) :=
  ((((h.below.setCell (p := ⟨w.heap.size, 0, none⟩) (Nat.le_refl _) _).setCell (p := ⟨w.heap.size, 1, none⟩) (Nat.le_refl _) _).setCell (p := ⟨w.heap.size, 2, none⟩) (Nat.le_refl _) _).setCell (p := ⟨w.heap.size, 3, none⟩) (Nat.le_refl _) _)
end

/-! ### readAsking -/
def BodyPost (o : Option Fr) (w : World) (e : Ending) (w' : World) : Prop :=
  ∃ (i n l : Int) (d : ByteArray) (b : Bool), e = .returned (.tuple #[.agg #[.int .i64 i, .int .i64 n, .int .i64 l, .string d], .bool b]) ∧ Below w.heap.size w w' ∧ (match o with | some f => b = true ∧ f = ⟨i, n, l, d⟩ | none => b = false)
theorem bodyPost_y {o : Option Fr} {w w' : World} {i n l : Int} {d : ByteArray} (h : o = some ⟨i, n, l, d⟩) (hb : Below w.heap.size w w') : BodyPost o w (.returned (.tuple #[.agg #[.int .i64 i, .int .i64 n, .int .i64 l, .string d], .bool true])) w' := by
  subst h; exact ⟨i, n, l, d, true, rfl, hb, rfl, rfl⟩
theorem bodyPost_n {o : Option Fr} {w w' : World} {i n l : Int} {d : ByteArray} (h : o = none) (hb : Below w.heap.size w w') : BodyPost o w (.returned (.tuple #[.agg #[.int .i64 i, .int .i64 n, .int .i64 l, .string d], .bool false])) w' := by
  subst h; exact ⟨i, n, l, d, false, rfl, hb, rfl⟩
theorem digit_v {c n : Int} {b : Bool} (hn : digN c = n) (hb : digB c = b) (w : World) :
    Calls Tryd.prog 50 #[.int .i32 c] w fun e w' => e = .returned (.tuple #[.int .i64 n, .bool b]) ∧ w = w' := by rw [← hn, ← hb]; exact digit_any c w
theorem digN_bd (c : Int) : 0 ≤ digN c ∧ digN c < 16 := by unfold digN; have := dig_nn c; split <;> omega
theorem askO_y {s : ByteArray} {n : Int} (h1 : s.size = 1) (hn : digN (bt s 0) = n) (h0 : 0 < n) : askO (byL s) = some ⟨0, 2, n, ByteArray.mk #[]⟩ := by
  rw [byL_single h1]
  unfold digN at hn
  unfold askO
  simp only
  split at hn
  · rename_i h16
    rw [if_pos ⟨by omega, h16⟩, hn]
  · omega
theorem askO_n0 {s : ByteArray} {n : Int} (h1 : s.size = 1) (hn : digN (bt s 0) = n) (h0 : ¬ 0 < n) : askO (byL s) = none := by
  rw [byL_single h1]
  unfold digN at hn
  unfold askO
  simp only
  rw [if_neg]
  intro hc
  rw [if_pos hc.2] at hn
  omega
theorem askO_n2 {s : ByteArray} (h1 : 1 < s.size) : askO (byL s) = none := by rw [byL_two h1]; rfl

set_option maxHeartbeats 2000000 in
theorem readAsking_any {s : ByteArray} (hs : s.size ≤ 1000000) (w : World) :
    Calls Tryd.prog 53 #[.string s] w (BodyPost (askO (byL s)) w) := by
  by_cases h0 : s.size = 0
  · have := empty_of h0
    subst this
    go_enter Tryd.func53, Tryd.ntmps53
    go_wp2_with fail
    refine bodyPost_ret (v := .tuple #[.agg #[.int .i64 0, .int .i64 2, .int .i64 0, .string (ByteArray.mk #[])], .bool true]) (by simp [results, Tryd.results53, go_sem]) rfl (bodyPost_y rfl ?_)
    exact (Below.refl _ _).alloc (Nat.le_refl _) _
  · have hp : 0 < s.size := by omega
    obtain ⟨x1, x2, x3⟩ := empty_f hp
    have hi0 : ∀ w, (Instr.index 9 (.string s) (.int .i64 0)).run Tryd.prog w = .ok (.int .u8 (bt s 0)) w := index_bt (k := 0) Tryd.underlying9 hp
    have hb0 := bt_lt s 0
    obtain ⟨n, hn⟩ : ∃ n, digN (bt s 0) = n := ⟨_, rfl⟩
    obtain ⟨b, hb⟩ : ∃ b, digB (bt s 0) = b := ⟨_, rfl⟩
    have hnb := digN_bd (bt s 0)
    rw [hn] at hnb
    have HN := Lib.hid hn
    have HBB := Lib.hid hb
    clear hb
    by_cases hs1 : s.size = 1
    · by_cases hn0 : 0 < n
      · have HO := Lib.hid (askO_y hs1 hn hn0)
        have e1 : ((s.size : Int) == 1) = true := by simp; omega
        have e2 : decide (0 < n) = true := decide_eq_true hn0
        clear hn hn0 hs1 h0
        go_enter Tryd.func53, Tryd.ntmps53
        go_wp2_with fail
        refine (digit_v HN.out HBB.out _).mono ?_
        rintro e w1 ⟨rfl, rfl⟩
        go_wp2_with fail
        refine bodyPost_ret (v := .tuple #[.agg #[.int .i64 0, .int .i64 2, .int .i64 n, .string (ByteArray.mk #[])], .bool true]) (by simp [results, Tryd.results53, go_sem]) rfl (bodyPost_y HO.out ?_)
        exact (Below.refl _ _).alloc (Nat.le_refl _) _
      · have HO := Lib.hid (askO_n0 hs1 hn hn0)
        have e2 : decide (0 < n) = false := decide_eq_false hn0
        clear hn hn0 hs1 h0
        go_enter Tryd.func53, Tryd.ntmps53
        go_wp2_with fail
        refine (digit_v HN.out HBB.out _).mono ?_
        rintro e w1 ⟨rfl, rfl⟩
        go_wp2_with fail
        refine bodyPost_ret (v := .tuple #[.agg #[.int .i64 0, .int .i64 2, .int .i64 n, .string (ByteArray.mk #[])], .bool false]) (by simp [results, Tryd.results53, go_sem]) rfl (bodyPost_n HO.out ?_)
        exact (Below.refl _ _).alloc (Nat.le_refl _) _
    · have HO := Lib.hid (askO_n2 (s := s) (by omega))
      have e1 : ((s.size : Int) == 1) = false := by simp; omega
      clear hn hs1 h0
      cases e2 : decide (0 < n)
      all_goals
        go_enter Tryd.func53, Tryd.ntmps53
        go_wp2_with fail
        refine (digit_v HN.out HBB.out _).mono ?_
        rintro e w1 ⟨rfl, rfl⟩
        go_wp2_with fail
        refine bodyPost_ret (v := .tuple #[.agg #[.int .i64 0, .int .i64 2, .int .i64 n, .string (ByteArray.mk #[])], .bool false]) (by simp [results, Tryd.results53, go_sem]) rfl (bodyPost_n HO.out ?_)
        exact (Below.refl _ _).alloc (Nat.le_refl _) _

/-! ### readFd -/
theorem fdO_eq {s : ByteArray} (h : 0 < s.size) : fdO (byL s) = if dig (bt s 0) < 4 then (datL (byL (s.extract 1 s.size))).map fun d => ⟨0, 8 + 16 * dig (bt s 0), d.length, strOfNums d⟩ else none := by
  rw [byL_one h]; rfl
theorem R1.facts {w wv : World} (h : R1 w wv) :
    (wv.cell? ⟨w.heap.size, 0, none⟩ = some (.int .i64 0) ∧ wv.cell? ⟨w.heap.size, 1, none⟩ = some (.int .i64 0) ∧ wv.cell? ⟨w.heap.size, 2, none⟩ = some (.int .i64 0) ∧ wv.cell? ⟨w.heap.size, 3, none⟩ = some (.string (ByteArray.mk #[])) ∧
    wv.frozen? ⟨w.heap.size, 0, none⟩ = false ∧ wv.frozen? ⟨w.heap.size, 1, none⟩ = false ∧ wv.frozen? ⟨w.heap.size, 2, none⟩ = false ∧ wv.frozen? ⟨w.heap.size, 3, none⟩ = false) ∧ w.heap.size < wv.heap.size := ⟨cells4 h.r, h.size⟩

set_option maxHeartbeats 2000000 in
theorem readFd_any {s : ByteArray} (hs : s.size ≤ 1000000) (w : World) :
    Calls Tryd.prog 52 #[.string s] w (BodyPost (fdO (byL s)) w) := by
  by_cases h0 : s.size = 0
  · have := empty_of h0
    subst this
    go_enter Tryd.func52, Tryd.ntmps52
    go_wp2_with fail
    refine bodyPost_ret (v := .tuple #[.agg #[.int .i64 0, .int .i64 0, .int .i64 0, .string (ByteArray.mk #[])], .bool false]) (by simp [results, Tryd.results52, go_sem]) rfl (bodyPost_n rfl ?_)
    exact (Below.refl _ _).alloc (Nat.le_refl _) _
  · have hp : 0 < s.size := by omega
    have HF := Lib.hid (fdO_eq hp)
    obtain ⟨x1, x2, x3⟩ := empty_f hp
    have hi0 : ∀ w, (Instr.index 9 (.string s) (.int .i64 0)).run Tryd.prog w = .ok (.int .u8 (bt s 0)) w := index_bt (k := 0) Tryd.underlying9 hp
    have hb0 := bt_lt s 0
    obtain ⟨U, hU⟩ : ∃ U, s.extract 1 s.size = U := ⟨_, rfl⟩
    have HUs : Hid (U.size ≤ 1000000) := Lib.hid (by rw [← hU, sub_size _ _ _ (Nat.le_refl _)]; omega)
    rw [hU] at HF
    have hnn := dig_nn (bt s 0)
    clear h0
    by_cases h16 : dig (bt s 0) < 16
    · have HN : Hid (digN (bt s 0) = dig (bt s 0)) := Lib.hid (by unfold digN; rw [if_pos h16])
      have HBB : Hid (digB (bt s 0) = true) := Lib.hid (by unfold digB; exact decide_eq_true h16)
      by_cases h4 : dig (bt s 0) < 4
      · have HF2 := Lib.hid (HF.out.trans (if_pos h4))
        obtain ⟨m, hm⟩ : ∃ m, dig (bt s 0) = m := ⟨_, rfl⟩
        rw [hm] at HN HF2 h4 hnn
        have d4 : decide (3 < m) = false := decide_eq_false (by omega)
        clear hm h16
        cases hdat : datL (byL U)
        · have HD := Lib.hid hdat
          have HO : Hid (fdO (byL s) = none) := Lib.hid (by rw [HF2.out, hdat]; rfl)
          clear hdat
          go_enter Tryd.func52, Tryd.ntmps52
          go_wp2_with fail
          refine (digit_v HN.out HBB.out _).mono ?_
          rintro e w1 ⟨rfl, rfl⟩
          go_wp2_with fail
          refine (readData_n HD.out HUs.out _).mono ?_
          rintro e w2 ⟨rfl, hb⟩
          have HR := Lib.hid (R1.later R1.start hb)
          clear hb
          obtain ⟨⟨c0, c1, c2, c3, v0, v1, v2, v3⟩, hz⟩ := HR.out.facts
          go_wp2_with fail
          refine bodyPost_ret (v := .tuple #[.agg #[.int .i64 0, .int .i64 0, .int .i64 0, .string (ByteArray.mk #[])], .bool false]) (by simp [results, Tryd.results52, go_sem, c0, c1, c2, c3]) rfl (bodyPost_n HO.out ?_)
          exact HR.out.done _ _ _ _
        · rename_i d
          have HD := Lib.hid hdat
          obtain ⟨X, hX⟩ : ∃ X, strOfNums d = X := ⟨_, rfl⟩
          have HX := Lib.hid hX
          have HO : Hid (fdO (byL s) = some ⟨0, 8 + 16 * m, X.size, X⟩) := Lib.hid (by rw [HF2.out, hdat, ← hX, strOfNums_size]; rfl)
          have hXm : X.size ≤ 1000000 := by have := (datL_plain hdat).2.2; rw [byL_len] at this; have := HUs.out; rw [← hX, strOfNums_size]; omega
          clear hdat hX
          go_enter Tryd.func52, Tryd.ntmps52
          go_wp2_with fail
          refine (digit_v HN.out HBB.out _).mono ?_
          rintro e w1 ⟨rfl, rfl⟩
          go_wp2_with fail
          refine (readData_y HD.out HX.out HUs.out _).mono ?_
          rintro e w2 ⟨rfl, hb⟩
          have HR := Lib.hid (R1.later R1.start hb)
          clear hb
          obtain ⟨⟨c0, c1, c2, c3, v0, v1, v2, v3⟩, hz⟩ := HR.out.facts
          go_wp2_with fail
          refine (dflags_any m hnn h4 _).mono ?_
          rintro e w3 ⟨rfl, rfl⟩
          go_wp2_with fail
          refine bodyPost_ret (v := .tuple #[.agg #[.int .i64 0, .int .i64 (8 + 16 * m), .int .i64 X.size, .string X], .bool true]) (by simp [results, Tryd.results52, go_sem, c0, c1, c2, c3]) rfl (bodyPost_y HO.out ?_)
          exact HR.out.done _ _ _ _
      · have HO := Lib.hid (HF.out.trans (if_neg h4))
        obtain ⟨m, hm⟩ : ∃ m, dig (bt s 0) = m := ⟨_, rfl⟩
        rw [hm] at HN h4 hnn
        have d4 : decide (3 < m) = true := decide_eq_true (by omega)
        clear hm h16 h4
        have HDA := Lib.hid (fun w => readData_any HUs.out w)
        go_enter Tryd.func52, Tryd.ntmps52
        go_wp2_with fail
        refine (digit_v HN.out HBB.out _).mono ?_
        rintro e w1 ⟨rfl, rfl⟩
        go_wp2_with fail
        refine (readData_e HUs.out _).mono ?_
        rintro e w2 ⟨X, q, rfl, hb⟩
        have HR := Lib.hid (R1.later R1.start hb)
        clear hb
        obtain ⟨⟨c0, c1, c2, c3, v0, v1, v2, v3⟩, hz⟩ := HR.out.facts
        go_wp2_with fail
        refine bodyPost_ret (v := .tuple #[.agg #[.int .i64 0, .int .i64 0, .int .i64 0, .string (ByteArray.mk #[])], .bool false]) (by simp [results, Tryd.results52, go_sem, c0, c1, c2, c3]) rfl (bodyPost_n HO.out ?_)
        exact HR.out.done _ _ _ _
    · have HO := Lib.hid (HF.out.trans (if_neg (by omega)))
      have HN : Hid (digN (bt s 0) = 0) := Lib.hid (by unfold digN; rw [if_neg h16])
      have HBB : Hid (digB (bt s 0) = false) := Lib.hid (by unfold digB; exact decide_eq_false h16)
      clear h16
      go_enter Tryd.func52, Tryd.ntmps52
      go_wp2_with fail
      refine (digit_v HN.out HBB.out _).mono ?_
      rintro e w1 ⟨rfl, rfl⟩
      go_wp2_with fail
      refine (readData_e HUs.out _).mono ?_
      rintro e w2 ⟨X, q, rfl, hb⟩
      have HR := Lib.hid (R1.later R1.start hb)
      clear hb
      obtain ⟨⟨c0, c1, c2, c3, v0, v1, v2, v3⟩, hz⟩ := HR.out.facts
      go_wp2_with fail
      refine bodyPost_ret (v := .tuple #[.agg #[.int .i64 0, .int .i64 0, .int .i64 0, .string (ByteArray.mk #[])], .bool false]) (by simp [results, Tryd.results52, go_sem, c0, c1, c2, c3]) rfl (bodyPost_n HO.out ?_)
      exact HR.out.done _ _ _ _

end Go.Proofs.YtpjlomgiljpadaaDoor
