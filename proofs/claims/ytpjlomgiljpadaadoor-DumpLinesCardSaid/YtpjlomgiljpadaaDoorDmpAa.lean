/- Dump: contracts of readData, whole; of readAsking, readFd, readBody. -/
import Derived.Test.YtpjlomgiljpadaaDoorDmpZ
namespace Go.Proofs.YtpjlomgiljpadaaDoor
open Go.RowKit
set_option linter.unusedVariables false

def dirtyRel (s : ByteArray) (w : World) (q n : Nat) (wr : World) : Prop :=
  ∃ (pos : Nat) (acc : List UInt8), pos ≤ s.size ∧ IsB w.heap.size acc wr ∧ wr.heap[w.heap.size + 1]? = some (.stringIter s pos) ∧ Below w.heap.size w wr ∧
    (pos ≤ q ∨ ∃ c ∈ acL acc, ¬ dig c < 16) ∧ acc.length ≤ 4 * pos ∧ n ≤ pos
theorem rune_len (r : Int) : (Lib.encodeRune r).length ≤ 4 := by
  have := (Lib.runeCells_le r).2
  rw [Lib.runeCells_length] at this; exact this
theorem dirty_put {s : ByteArray} {w wr W1 : World} {q n pos d : Nat} {acc : List UInt8} {r : Int} (hq : q < s.size) (hbad : ¬ clean (bt s q)) (hcl : ∀ j, j < q → clean (bt s j)) (hp : pos < s.size) (d1 : 1 ≤ d) (d2 : pos + d ≤ s.size)
    (hr : (r = bt s pos ∧ d = 1 ∧ r < 128) ∨ (128 ≤ r ∧ r ≤ 2147483647 ∧ ∀ j, pos ≤ j → j < pos + d → 128 ≤ bt s j))
    (hit : wr.heap[w.heap.size + 1]? = some (.stringIter s pos)) (hB : Below w.heap.size w wr) (hx : pos ≤ q ∨ ∃ c ∈ acL acc, ¬ dig c < 16) (hl : acc.length ≤ 4 * pos) (hnp : n ≤ pos)
    (h1 : Lib.BuilderAtF 62 5 w.heap.size w.heap.size (.pointer (some ⟨w.heap.size, 0, none⟩)) (Lib.byteCells acc ++ Lib.runeCells r) W1)
    (b1 : Below w.heap.size (wr.iterAt (w.heap.size + 1) s (pos + d)) W1) (k1 : Lib.OthersKept 5 (some w.heap.size) (wr.iterAt (w.heap.size + 1) s (pos + d)) W1) :
    dirtyRel s w q (n + 1) W1 ∧ W1.heap[w.heap.size + 1]? = some (.stringIter s (pos + d)) := by
  have hit2 := Lib.iterAt_heap wr (w.heap.size + 1) s pos (pos + d) hit
  have hit3 := k1.iter hit2 (by simp)
  refine ⟨⟨pos + d, acc ++ Lib.encodeRune r, d2, ?_, hit3, (Lib.below_iterAt hB (by omega) _ _).trans b1, ?_, ?_, by omega⟩, hit3⟩
  · unfold IsB
    rw [Lib.byteCells_append, Lib.byteCells_encodeRune]; exact Or.inr h1
  · rcases hx with hx | ⟨c, hc1, hc2⟩
    · by_cases hpq : pos = q
      · right
        subst hpq
        rcases hr with ⟨e, _, e3⟩ | ⟨e, _, _⟩
        · have hb := bt_lt s pos
          refine ⟨r, ?_, ?_⟩
          · rw [acL_app, acL_rune (by omega) e3]; simp
          · intro hc; apply hbad; rw [← e]; exact .inl hc
        · obtain ⟨c, hc1, hc2⟩ := acL_high e
          exact ⟨c, by rw [acL_app]; exact List.mem_append_right _ hc1, hc2⟩
      · left
        rcases hr with ⟨_, e, _⟩ | ⟨_, _, e⟩
        · omega
        · have := e pos (Nat.le_refl _) (by omega)
          have := clean_lt (hcl pos (by omega))
          omega
    · exact .inr ⟨c, by rw [acL_app]; exact List.mem_append_left _ hc1, hc2⟩
  · have := rune_len r
    rw [List.length_append]; omega
theorem dirty_dot {s : ByteArray} {w wr : World} {q n pos d : Nat} {acc : List UInt8} {r : Int} (hbad : ¬ clean (bt s q)) (d2 : pos + d ≤ s.size) (d1 : 1 ≤ d)
    (hr : (r = bt s pos ∧ d = 1 ∧ r < 128) ∨ (128 ≤ r ∧ r ≤ 2147483647 ∧ ∀ j, pos ≤ j → j < pos + d → 128 ≤ bt s j)) (h46 : r = 46)
    (hI : IsB w.heap.size acc wr) (hit : wr.heap[w.heap.size + 1]? = some (.stringIter s pos)) (hB : Below w.heap.size w wr) (hx : pos ≤ q ∨ ∃ c ∈ acL acc, ¬ dig c < 16) (hl : acc.length ≤ 4 * pos) (hnp : n ≤ pos) :
    dirtyRel s w q n (wr.iterAt (w.heap.size + 1) s (pos + d)) := by
  rcases hr with ⟨e, e2, _⟩ | ⟨e, _, _⟩
  · subst e2
    refine ⟨pos + 1, acc, d2, hI.iterAt hit _, Lib.iterAt_heap _ _ _ _ _ hit, Lib.below_iterAt hB (by omega) _ _, ?_, by omega, by omega⟩
    rcases hx with hx | hx
    · left
      rcases Nat.lt_or_ge pos q with h | h
      · omega
      · obtain rfl : pos = q := by omega
        exact absurd (.inr (by rw [← e]; exact h46)) hbad
    · exact .inr hx
  · omega

set_option maxHeartbeats 4000000 in
theorem readData_dirty {s : ByteArray} {q : Nat} (hq : q < s.size) (hs : s.size ≤ 1000000) (hbad : ¬ clean (bt s q)) (hcl : ∀ j, j < q → clean (bt s j)) (w : World) :
    Calls Tryd.prog 54 #[.string s] w (rdPost s w) := by
  have HN : Hid (datL (byL s) = none) := Lib.hid (datL_dirty (by rw [← byL_get hq]; exact List.getElem_mem _) hbad)
  obtain ⟨x1, x2, x3⟩ := empty_f (X := s) (by omega)
  have HBAD := Lib.hid hbad
  have HCL := Lib.hid hcl
  clear hbad hcl
  go_enter Tryd.func54, Tryd.ntmps54
  go_wp2_with fail
  go_loopw [5, 6] (fun n dt wr => ∃ (k : Nat) (b : Bool), n = .int .i64 k ∧ dt = .bool b ∧ Hid (dirtyRel s w q k wr)) (fun _ _ wr => s.size - wr.iterPos (w.heap.size + 1))
  case atStart =>
    refine ⟨0, true, rfl, rfl, Lib.hid ⟨0, [], Nat.zero_le _, (Lib.IsBuilderF.of (Lib.fresh_isBuilder 62 5 w)).alloc _, ?_, ((Below.refl _ w).alloc (Nat.le_refl _) _).alloc (by simp) _, .inl (Nat.zero_le _), Nat.le_refl _, Nat.le_refl _⟩⟩
    have := World.iter_heap (w.alloc (.cells #[.pointer none, .slice none 0 0] 62)) s 0
    simpa using this
  case round =>
    obtain ⟨k, b, rfl, rfl, HR⟩ := hrel
    obtain ⟨pos, acc, hpos, hI, hit, hbw, hx, hl, hnp⟩ := HR.out
    have hsz := iter_lt hit
    have Hit := Lib.hid hit
    have HBW := Lib.hid hbw
    have hk1 : (k : Int) ≤ 1000000 := by omega
    by_cases hp : pos < s.size
    · obtain ⟨r, d, d1, d2, hr, hnx⟩ := next_any s pos (w.heap.size + 1) wr hp hit
      have Hit2 := Lib.hid (Lib.iterAt_heap wr (w.heap.size + 1) s pos (pos + d) hit)
      have HB2 := Lib.hid (Lib.below_iterAt hbw (k := w.heap.size + 1) (by omega) s (pos + d))
      have hr0 : -2147483648 ≤ r ∧ r ≤ 2147483647 := by have := bt_lt s pos; omega
      by_cases h46 : r = 46
      · have HD := Lib.hid (dirty_dot (q := q) HBAD.out d2 d1 hr h46 hI hit hbw hx hl hnp)
        subst h46
        clear hI hit hbw hx hl hnp hr hr0
        cases b
        · obtain ⟨ev1, ev2⟩ := even_i (k := k)
          by_cases hk2 : k % 2 = 0
          · rw [decide_eq_true hk2] at ev1
            rw [decide_eq_false (by omega)] at ev2
            clear hk2
            go_wp2_with fail
            go_roundw
            case rel => exact ⟨k, true, rfl, rfl, HD⟩
            case measure => rw [iterPos_at _ _ _ _ Hit2.out, iterPos_at _ _ _ _ Hit.out]; omega
          · rw [decide_eq_false hk2] at ev1
            rw [decide_eq_true hk2] at ev2
            clear hk2
            go_wp2_with fail
            go_ret2
            exact rdPost_no HN.out HB2.out
        · go_wp2_with fail
          go_ret2
          exact rdPost_no HN.out HB2.out
      · have c1 : (r == 46) = false := by simpa using h46
        have c2 : (r != 46) = true := by simpa using h46
        have HP := Lib.hid (fun W1 => dirty_put (W1 := W1) hq HBAD.out HCL.out hp d1 d2 hr hit hbw hx hl hnp)
        have HI2 := Lib.hid (hI.iterAt hit (pos + d))
        have HL : Hid ((Lib.byteCells acc).length + 4 ≤ 140737488355328) := Lib.hid (by rw [Lib.byteCells_length]; omega)
        have HS2 : Hid (w.heap.size ≤ (wr.iterAt (w.heap.size + 1) s (pos + d)).heap.size) := Lib.hid (by rw [Lib.iterAt_size]; omega)
        clear h46 hI hit hbw hx hl hnp hr
        go_wp2_with fail
        refine (dwrune_k w.heap.size w.heap.size _ r hr0.1 hr0.2 _ HI2.out HL.out HS2.out).mono ?_
        rintro e W1 ⟨rfl, h1, b1, k1⟩
        obtain ⟨hrel1, hit3⟩ := HP.out W1 h1 b1 k1
        have HR1 := Lib.hid hrel1
        have Hit3 := Lib.hid hit3
        clear hrel1 hit3 h1 b1 k1
        go_wp2_with fail
        go_roundw
        case rel => exact ⟨k + 1, false, by go_num, rfl, HR1⟩
        case measure => rw [iterPos_at _ _ _ _ Hit3.out, iterPos_at _ _ _ _ Hit.out]; omega
    · have hnx : ∀ ty, (Instr.next (.pointer (some ⟨w.heap.size + 1, 0, none⟩)) true ty).run Tryd.prog wr = _ := fun ty => Lib.run_next_end_at wr (w.heap.size + 1) s pos ty hit hp
      cases b
      · have HI := Lib.hid hI
        obtain ⟨c, hc1, hc2⟩ := hx.resolve_left (by omega)
        have hAs : (ByteArray.mk acc.toArray).size = acc.length := by show acc.toArray.size = _; simp
        rw [← acL_byL] at hc1
        have HNO := Lib.hid (isdig_no hc1 hc2)
        obtain ⟨A, hA⟩ : ∃ A, ByteArray.mk acc.toArray = A := ⟨_, rfl⟩
        have HST : Hid (∀ w0, Lib.IsBuilderF 62 5 w.heap.size w.heap.size (Lib.byteCells acc) w0 → w.heap.size ≤ w0.heap.size → Calls Tryd.prog 39 #[.pointer (some ⟨w.heap.size, 0, none⟩)] w0 fun e w' => e = .returned (.string A) ∧ Below w.heap.size w0 w') := Lib.hid (fun w0 h1 h2 => by
          rw [← hA]
          exact (Tryd.Builder_String_any_k w.heap.size w.heap.size acc w0 h1 h2).mono fun e w' ⟨a1, _, a2, _⟩ => ⟨a1, a2⟩)
        rw [hA] at hAs HNO
        have HAS : Hid (A.size ≤ 100000000) := Lib.hid (by omega)
        clear hI hit hbw hx hl hnp hc1 hc2 hAs hA ‹¬ pos < s.size›
        go_wp2_with fail
        refine (HST.out _ HI.out HBW.out.size).mono ?_
        rintro e W1 ⟨rfl, b1⟩
        have HB1 := Lib.hid (HBW.out.trans b1)
        clear b1
        go_wp2_with fail
        refine (unhex_no A _ HAS.out HNO.out).mono ?_
        rintro e W2 ⟨rfl, b2⟩
        have HB2 := Lib.hid (HB1.out.trans (b2.mono HB1.out.size))
        clear b2
        go_wp2_with fail
        go_ret2
        exact rdPost_no HN.out HB2.out
      · clear hI hit hbw hx hl hnp ‹¬ pos < s.size›
        go_wp2_with fail
        go_ret2
        exact rdPost_no HN.out HBW.out

set_option maxHeartbeats 1000000 in
theorem readData_empty (w : World) : Calls Tryd.prog 54 #[.string (ByteArray.mk #[])] w (rdPost (ByteArray.mk #[]) w) := by
  have HI := Lib.hid ((Lib.IsBuilderF.of (Lib.fresh_isBuilder 62 5 w)).alloc (.stringIter (ByteArray.mk #[]) 0))
  have HB := Lib.hid (((Below.refl w.heap.size w).alloc (Nat.le_refl _) (.cells #[.pointer none, .slice none 0 0] 62)).alloc (by simp) (.stringIter (ByteArray.mk #[]) 0))
  have HOK : Hid (unOk (ByteArray.mk #[])) := Lib.hid ⟨(fun i hi => by cases hi), rfl⟩
  have HST := Lib.hid (fun (w0 : World) (h1 : Lib.IsBuilderF 62 5 w.heap.size w.heap.size (Lib.byteCells []) w0) (h2 : w.heap.size ≤ w0.heap.size) => (Tryd.Builder_String_any_k w.heap.size w.heap.size [] w0 h1 h2).mono fun e w' ⟨a1, _, a2, _⟩ => (⟨a1, a2⟩ : e = Ending.returned (.string (ByteArray.mk #[])) ∧ Below w.heap.size w0 w'))
  have hit : ((w.alloc (.cells #[.pointer none, .slice none 0 0] 62)).alloc (.stringIter (ByteArray.mk #[]) 0)).heap[w.heap.size + 1]? = some (.stringIter (ByteArray.mk #[]) 0) := by
    have := heap_alloc_new (w.alloc (.cells #[.pointer none, .slice none 0 0] 62)) (.stringIter (ByteArray.mk #[]) 0)
    simpa using this
  have HIT := Lib.hid hit
  clear hit
  go_enter Tryd.func54, Tryd.ntmps54
  go_wp2_with fail
  go_loopw [5, 6] (fun n dt wr => n = .int .i64 0 ∧ dt = .bool true ∧ wr = (w.alloc (.cells #[.pointer none, .slice none 0 0] 62)).alloc (.stringIter (ByteArray.mk #[]) 0)) (fun _ _ _ => 0)
  case atStart => exact ⟨rfl, rfl, rfl⟩
  case round =>
    obtain ⟨rfl, rfl, rfl⟩ := hrel
    have hnx : ∀ ty, (Instr.next (.pointer (some ⟨w.heap.size + 1, 0, none⟩)) true ty).run Tryd.prog ((w.alloc (.cells #[.pointer none, .slice none 0 0] 62)).alloc (.stringIter (ByteArray.mk #[]) 0)) = _ := fun ty => Lib.run_next_end_at _ (w.heap.size + 1) (ByteArray.mk #[]) 0 ty HIT.out (by decide)
    generalize (w.alloc (.cells #[.pointer none, .slice none 0 0] 62)).alloc (.stringIter (ByteArray.mk #[]) 0) = wr at *
    go_wp2_with fail
    refine (HST.out _ HI.out HB.out.size).mono ?_
    rintro e W1 ⟨rfl, b1⟩
    have HB1 := Lib.hid (HB.out.trans b1)
    clear b1
    go_wp2_with fail
    refine (unhex_yes (ByteArray.mk #[]) _ (by show 0 ≤ _; omega) HOK.out).mono ?_
    rintro e W2 ⟨rfl, b2⟩
    have HB2 := Lib.hid (HB1.out.trans (b2.mono HB1.out.size))
    clear b2
    go_wp2_with fail
    go_ret2
    exact rdPost_yes (X := ByteArray.mk #[]) rfl HB2.out
theorem readData_any {s : ByteArray} (hs : s.size ≤ 1000000) (w : World) :
    Calls Tryd.prog 54 #[.string s] w (rdPost s w) := by
  by_cases h0 : s.size = 0
  · have := empty_of h0
    subst this
    exact readData_empty w
  by_cases hc : ∀ c ∈ byL s, clean c
  · exact readData_clean (by omega) hs hc w
  · obtain ⟨q, hq, hq2⟩ : ∃ q, q < s.size ∧ ¬ clean (bt s q) := by
      apply Classical.byContradiction
      intro hn
      apply hc
      intro c hm
      obtain ⟨i, hi, e⟩ := List.getElem_of_mem hm
      have hi' : i < s.size := by rw [byL_len] at hi; exact hi
      apply Classical.byContradiction
      intro hcc
      exact hn ⟨i, hi', by rw [← byL_get hi', e]; exact hcc⟩
    have least : ∀ n, n < s.size → ¬ clean (bt s n) → ∃ q, q < s.size ∧ ¬ clean (bt s q) ∧ ∀ j, j < q → clean (bt s j) := by
      intro n
      induction n using Nat.strongRecOn with
      | _ n ih =>
        intro h1 h2
        by_cases hall : ∀ j, j < n → clean (bt s j)
        · exact ⟨n, h1, h2, hall⟩
        · obtain ⟨j, hj⟩ := Classical.not_forall.1 hall
          obtain ⟨hj1, hj2⟩ := Classical.not_imp.1 hj
          exact ih j hj1 (by omega) hj2
    obtain ⟨q, a1, a2, a3⟩ := least q hq hq2
    exact readData_dirty a1 hs a2 a3 w
theorem readData_y {s X : ByteArray} {d : List Int} (h : datL (byL s) = some d) (hX : strOfNums d = X) (hs : s.size ≤ 1000000) (w : World) :
    Calls Tryd.prog 54 #[.string s] w fun e w' => e = .returned (.tuple #[.string X, .bool true]) ∧ Below w.heap.size w w' :=
  (readData_any hs w).mono fun e w' hp => by unfold rdPost at hp; rw [h] at hp; simp only [hX] at hp; exact hp
theorem readData_n {s : ByteArray} (h : datL (byL s) = none) (hs : s.size ≤ 1000000) (w : World) :
    Calls Tryd.prog 54 #[.string s] w fun e w' => e = .returned (.tuple #[.string (ByteArray.mk #[]), .bool false]) ∧ Below w.heap.size w w' :=
  (readData_any hs w).mono fun e w' hp => by unfold rdPost at hp; rw [h] at hp; exact hp

def DatSome (w : World) (e : Ending) (w' : World) : Prop := ∃ (X : ByteArray) (q : Bool), e = .returned (.tuple #[.string X, .bool q]) ∧ Below w.heap.size w w'
theorem readData_e {s : ByteArray} (hs : s.size ≤ 1000000) (w : World) :
    Calls Tryd.prog 54 #[.string s] w (DatSome w) :=
  (readData_any hs w).mono fun e w' hp => by
    unfold rdPost at hp
    cases h : datL (byL s) with
    | none => rw [h] at hp; exact ⟨_, _, hp.1, hp.2⟩
    | some d => rw [h] at hp; exact ⟨_, _, hp.1, hp.2⟩

end Go.Proofs.YtpjlomgiljpadaaDoor
