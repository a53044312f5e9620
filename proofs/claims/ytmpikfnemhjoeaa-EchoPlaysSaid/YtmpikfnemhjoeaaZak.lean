/- Echo, the code: what a table is in memory (a row of pointers, nil where nothing stands; each packet in a block of its own); what is stored into it. Echo, the code: has, lift, Put, Get, Peek. -/
import Derived.Test.YtmpikfnemhjoeaaZag
import Derived.Test.YtmpikfnemhjoeaaZaj
namespace Go.Proofs.Ytmpikfnemhjoeaa
open Go.RowKit
set_option linter.unusedVariables false

def ptV (o : Option Nat) : Value := .pointer (o.map fun k => ⟨k, 0, none⟩)
theorem ptV_none : ptV none = .pointer none := rfl
theorem ptV_some (k : Nat) : ptV (some k) = .pointer (some ⟨k, 0, none⟩) := rfl
/-- a table: R: the places' blocks -/
structure EkM (w : World) (b m : Nat) (R : List (Option Nat)) (s : Ec) : Prop where
  box : w.heap[b]? = some (.cells #[.slice (some ⟨m, 0, none⟩) R.length R.length] 50 (0, 0))
  row : w.heap[m]? = some (.cells (R.map ptV).toArray 52 (0, 0))
  here : ∀ i k, R[i]? = some (some k) → BoxP w k (s.H.getD i pk0)
  h1 : b ≠ m
  f1 : ∀ (i : Nat) k, R[i]? = some (some k) → k ≠ b ∧ k ≠ m
  f2 : ∀ (i j : Nat) k, R[i]? = some (some k) → R[j]? = some (some k) → i = j
  full : s.F = R.map Option.isSome
def ekO (b m : Nat) (R : List (Option Nat)) : Nat → Prop := fun k => k = b ∨ k = m ∨ ∃ i : Nat, R[i]? = some (some k)
def EkD (w : World) (v : Value) (s : Ec) (O : Nat → Prop) : Prop := ∃ b m R, v = .pointer (some ⟨b, 0, none⟩) ∧ O = ekO b m R ∧ EkM w b m R s
section
variable {w w' : World} {b m : Nat} {R : List (Option Nat)} {s : Ec}
theorem EkM.lt (h : EkM w b m R s) : ∀ k, ekO b m R k → k < w.heap.size := by
  rintro k (rfl | rfl | ⟨i, hk⟩)
  · exact heap_some_lt h.box
  · exact heap_some_lt h.row
  · exact (h.here i k hk).lt
theorem EkM.stay (h : EkM w b m R s) (hs : ∀ k, ekO b m R k → w'.heap[k]? = w.heap[k]?) : EkM w' b m R s :=
  ⟨(hs b (.inl rfl)).trans h.box, (hs m (.inr (.inl rfl))).trans h.row, fun i k hk => (hs k (.inr (.inr ⟨i, hk⟩))).trans (h.here i k hk), h.h1, h.f1, h.f2, h.full⟩
theorem EkM.later (h : EkM w b m R s) (hb : Below w.heap.size w w') : EkM w' b m R s := h.stay (fun k hk => hb.block k (h.lt k hk))
theorem EkM.len (h : EkM w b m R s) : s.F.length = R.length := by rw [h.full]; simp
theorem EkM.cells (h : EkM w b m R s) : w.cell? ⟨b, 0, none⟩ = some (.slice (some ⟨m, 0, none⟩) R.length R.length) := by rw [Lib.cell_of_heap h.box]; rfl
theorem EkM.at_ (h : EkM w b m R s) {i : Nat} {o : Option Nat} (hi : R[i]? = some o) : w.cell? ⟨m, i, none⟩ = some (ptV o) ∧ w.frozen? ⟨m, i, none⟩ = false ∧ s.F.getD i false = o.isSome := by
  refine ⟨?_, Lib.frozen_of_heap h.row i, ?_⟩
  · rw [Lib.cell_of_heap h.row]; simp [hi]
  · rw [h.full, List.getD_eq_getElem?_getD, List.getElem?_map, hi]; rfl
theorem EkM.look (h : EkM w b m R s) {i : Nat} (hi : i < R.length) (hf : s.F.getD i false = true) : ∃ k, R[i]? = some (some k) := by
  obtain ⟨o, ho⟩ : ∃ o, R[i]? = some o := ⟨_, List.getElem?_eq_getElem hi⟩
  have := (h.at_ ho).2.2
  rw [hf] at this
  cases o with
  | none => cases this
  | some k => exact ⟨k, ho⟩
theorem EkM.lookN (h : EkM w b m R s) {i : Nat} (hi : i < R.length) (hf : s.F.getD i false = false) : R[i]? = some none := by
  obtain ⟨o, ho⟩ : ∃ o, R[i]? = some o := ⟨_, List.getElem?_eq_getElem hi⟩
  have := (h.at_ ho).2.2
  rw [hf] at this
  cases o with
  | none => exact ho
  | some k => cases this
/-- a place is emptied -/
theorem EkM.drop (h : EkM w b m R s) (i : Nat) : EkM (w.setCell ⟨m, i, none⟩ (.pointer none)) b m (R.set i none) ⟨s.H, s.F.set i false⟩ := by
  have ho : ∀ k, k ≠ m → (w.setCell ⟨m, i, none⟩ (.pointer none)).heap[k]? = w.heap[k]? := fun k hk => Below.heap_setCell _ _ _ _ hk
  have hr : ∀ (j : Nat) k, (R.set i none)[j]? = some (some k) → R[j]? = some (some k) := fun j k hj => by
    rw [List.getElem?_set] at hj
    split at hj
    · split at hj <;> cases hj
    · exact hj
  refine ⟨?_, ?_, fun j k hj => ?_, h.h1, fun j k hj => h.f1 j k (hr j k hj), fun j l k hj hl => h.f2 j l k (hr j k hj) (hr l k hl), ?_⟩
  · rw [ho b h.h1, h.box]; simp
  · rw [heap_setCell_same w m i _ _ _ h.row]
    simp [ptV_none, List.map_set]
  · have h2 := hr j k hj
    exact (ho k (h.f1 j k h2).2).trans (h.here j k h2)
  · simp [h.full, List.map_set]
theorem ekO_sub (i : Nat) : ∀ k, ekO b m (R.set i none) k → ekO b m R k := by
  rintro k (h | h | ⟨j, h⟩)
  · exact .inl h
  · exact .inr (.inl h)
  · rw [List.getElem?_set] at h
    split at h
    · split at h <;> cases h
    · exact .inr (.inr ⟨j, h⟩)
theorem ekO_drop (i : Nat) : Grows (ekO b m R) w (ekO b m (R.set i none)) := fun k h => .inl (ekO_sub i k h)
theorem ekSet_kept {i : Nat} {u : Value} : Kept (ekO b m R) w (w.setCell ⟨m, i, none⟩ u) := ⟨rfl, rfl, rfl, by simp [World.setCell], fun k _ hk => Below.heap_setCell _ _ _ _ (fun e => hk (.inr (.inl e)))⟩
/-- something stands there now -/
theorem EkM.put (h : EkM w b m R s) {i k : Nat} {p : Pk} (hi : i < R.length) (hl : s.H.length = R.length) (hp : BoxP w k p) (hn : ¬ ekO b m R k) : EkM (w.setCell ⟨m, i, none⟩ (.pointer (some ⟨k, 0, none⟩))) b m (R.set i (some k)) ⟨s.H.set i p, s.F.set i true⟩ := by
  have ho : ∀ j, j ≠ m → (w.setCell ⟨m, i, none⟩ (.pointer (some ⟨k, 0, none⟩))).heap[j]? = w.heap[j]? := fun j hj => Below.heap_setCell _ _ _ _ hj
  have kb : k ≠ b := fun e => hn (.inl e)
  have km : k ≠ m := fun e => hn (.inr (.inl e))
  have hr : ∀ (j : Nat) l, (R.set i (some k))[j]? = some (some l) → (j = i ∧ l = k) ∨ (j ≠ i ∧ R[j]? = some (some l)) := fun j l hj => by
    rw [List.getElem?_set] at hj
    split at hj
    · rename_i e
      injection hj with hj
      injection hj with hj
      exact .inl ⟨e.symm, hj.symm⟩
    · rename_i e
      exact .inr ⟨fun e2 => e e2.symm, hj⟩
  refine ⟨?_, ?_, fun j l hj => ?_, h.h1, fun j l hj => ?_, fun j j' l hj hl' => ?_, ?_⟩
  · rw [ho b h.h1, h.box]; simp
  · rw [heap_setCell_same w m i _ _ _ h.row]
    simp [ptV_some, List.map_set]
  · rcases hr j l hj with ⟨rfl, rfl⟩ | ⟨e, h2⟩
    · show BoxP _ l ((s.H.set j p).getD j pk0)
      rw [getD_set', if_pos ⟨rfl, by omega⟩]
      exact (ho l km).trans hp
    · show BoxP _ l ((s.H.set i p).getD j pk0)
      rw [getD_set', if_neg (fun e2 => e e2.1.symm)]
      exact (ho l (h.f1 j l h2).2).trans (h.here j l h2)
  · rcases hr j l hj with ⟨rfl, rfl⟩ | ⟨e, h2⟩
    · exact ⟨kb, km⟩
    · exact h.f1 j l h2
  · rcases hr j l hj with ⟨rfl, rfl⟩ | ⟨e, h2⟩
    · rcases hr j' l hl' with ⟨rfl, -⟩ | ⟨e', h2'⟩
      · rfl
      · exact absurd (.inr (.inr ⟨j', h2'⟩)) hn
    · rcases hr j' l hl' with ⟨rfl, rfl⟩ | ⟨e', h2'⟩
      · exact absurd (.inr (.inr ⟨j, h2⟩)) hn
      · exact h.f2 j j' l h2 h2'
  · simp [h.full, List.map_set]
theorem ekO_put {i k : Nat} (hk : w.heap.size ≤ k) : Grows (ekO b m R) w (ekO b m (R.set i (some k))) := by
  rintro l (h | h | ⟨j, h⟩)
  · exact .inl (.inl h)
  · exact .inl (.inr (.inl h))
  · rw [List.getElem?_set] at h
    split at h
    · split at h
      · injection h with h
        injection h with h
        exact .inr (h ▸ hk)
      · cases h
    · exact .inl (.inr (.inr ⟨j, h⟩))
end
theorem isObj_ek : IsObj EkD where
  stay := by
    rintro w w' v s O ⟨b, m, R, rfl, rfl, h⟩ hs
    exact ⟨b, m, R, rfl, rfl, h.stay hs⟩
  lt := by
    rintro w v s O ⟨b, m, R, rfl, rfl, h⟩
    exact h.lt
theorem EkM.stp {w w' : World} {b m : Nat} {R : List (Option Nat)} {s : Ec} (h : EkM w b m R s) (hb : Below w.heap.size w w') : Stp EkD (.pointer (some ⟨b, 0, none⟩)) (ekO b m R) w s w' :=
  ⟨_, ⟨b, m, R, rfl, rfl, h.later hb⟩, .of_below hb, Grows.refl _ _⟩
/-! ### New -/
theorem info_pt : (Try.prog.info? 52).map (fun i => (i.zero, i.size, i.bytes)) = some (some (.pointer none), 1, 8) := by kernel_rfl
theorem rep_pt (n : Nat) : madeCells (Value.pointer none).cells (n * 1) = (List.replicate n (ptV none)).toArray := by
  have h := made_rep #[Value.pointer none] n (by decide)
  refine Eq.trans h ?_
  congr 1
  clear h
  induction n with
  | zero => rfl
  | succ n ih => rw [List.replicate_succ, List.flatten_cons, ih]; rfl
theorem run_mkPt (n : Nat) (hn : n ≤ 1000) (w : World) :
    (Instr.makeSlice 48 (.int .i64 n) (.int .i64 n)).run Try.prog w = .ok (.slice (some ⟨w.heap.size, 0, none⟩) n n) (w.alloc (.cells (List.replicate n (ptV none)).toArray 52)) := by
  obtain ⟨i0, hi, hz0, hz1, hz2⟩ := info_parts info_pt
  have := run_make (P := Try.prog) w 48 52 i0 _ Try.underlying48 hi hz0 .i64 .i64 (n : Int) (n : Int) (by omega) (Int.le_refl _) (by rw [hz2]; omega) (by omega)
  rw [hz1, Int.toNat_natCast, rep_pt] at this
  exact this
theorem ekD_new {w w' : World} {n : Nat} (e : w' = (w.alloc (.cells (List.replicate n (ptV none)).toArray 52)).alloc (.cells #[.slice (some ⟨w.heap.size, 0, none⟩) n n] 50)) :
    ∃ O, EkD w' (.pointer (some ⟨w.heap.size + 1, 0, none⟩)) (ecNew n) O ∧ Below w.heap.size w w' ∧ ∀ k, O k → w.heap.size ≤ k := by
  subst e
  obtain ⟨w1, e1⟩ : ∃ w1, w.alloc (.cells (List.replicate n (ptV none)).toArray 52) = w1 := ⟨_, rfl⟩
  have s1 : w1.heap.size = w.heap.size + 1 := by rw [← e1]; simp
  have n1 := heap_alloc_new w (.cells (List.replicate n (ptV none)).toArray 52)
  have hb1 : Below w.heap.size w w1 := by rw [← e1]; exact (Below.refl _ w).alloc (Nat.le_refl _) _
  rw [e1] at n1 ⊢
  have n2 := heap_alloc_new w1 (.cells #[.slice (some ⟨w.heap.size, 0, none⟩) n n] 50)
  have hb2 := (Below.refl _ w1).alloc (Nat.le_refl _) (.cells #[.slice (some ⟨w.heap.size, 0, none⟩) n n] 50)
  rw [s1] at n2
  have hN : ∀ (i : Nat) k, (List.replicate n (none : Option Nat))[i]? ≠ some (some k) := fun i k h => by
    rw [List.getElem?_replicate] at h
    split at h <;> cases h
  have hl : (List.replicate n (none : Option Nat)).length = n := by simp
  refine ⟨_, ⟨_, _, List.replicate n none, rfl, rfl, ⟨by rw [hl]; exact n2, ?_, fun i k h => (hN i k h).elim, by omega, fun i k h => (hN i k h).elim, fun i j k h => (hN i k h).elim, by simp [ecNew]⟩⟩, fbelow_t hb1 hb2, ?_⟩
  · rw [List.map_replicate]; exact (hb2.block _ (by omega)).trans n1
  · rintro k (rfl | rfl | ⟨i, hk⟩)
    · omega
    · exact Nat.le_refl _
    · exact (hN i k hk).elim
set_option maxHeartbeats 2000000 in
theorem kenew_v (n : Int) (w : World) : Calls Try.prog 7 #[.int .i64 n] w fun e w' => ∃ v O, e = .returned v ∧ EkD w' v (ecNew (boxesN n)) O ∧ Below w.heap.size w w' ∧ ∀ k, O k → w.heap.size ≤ k := by
  obtain ⟨m, hm⟩ : ∃ m, boxesN n = m := ⟨_, rfl⟩
  have hm2 : m ≤ 1000 := by rw [← hm]; unfold boxesN; split <;> (try split) <;> omega
  have mk1 := run_mkPt m hm2
  obtain ⟨ZM, hM⟩ : ∃ Z, List.replicate m (ptV none) = Z := ⟨_, rfl⟩
  rw [hM] at mk1
  have HZ := Lib.hid hM
  obtain ⟨q, hq⟩ : ∃ q : Nat, (if n < 1 then 1 else n) = (q : Int) := ⟨(if n < 1 then 1 else n).toNat, by split <;> omega⟩
  have hmin : (if 1000 < (q : Int) then 1000 else (q : Int)) = (m : Int) := by
    rw [← hm, ← hq]
    unfold boxesN
    split <;> split <;> (try split) <;> omega
  have HD : Hid (∀ w' : World, w' = (w.alloc (.cells ZM.toArray 52)).alloc (.cells #[.slice (some ⟨w.heap.size, 0, none⟩) m m] 50) → ∃ O, EkD w' (.pointer (some ⟨w.heap.size + 1, 0, none⟩)) (ecNew m) O ∧ Below w.heap.size w w' ∧ ∀ k, O k → w.heap.size ≤ k) := Lib.hid (fun w' e => ekD_new (by rw [HZ.out]; exact e))
  rw [hm]
  clear hm hM
  go_enter Try.func7, Try.ntmps7
  go_wp2
  go_ret
  obtain ⟨O, h⟩ := HD.out _ rfl
  exact ⟨_, O, rfl, h⟩
end Go.Proofs.Ytmpikfnemhjoeaa

namespace Go.Proofs.Ytmpikfnemhjoeaa
open Go.RowKit
set_option linter.unusedVariables false

/-! ### has -/
set_option maxHeartbeats 1000000 in
theorem kehas_t {w : World} {b m : Nat} {R : List (Option Nat)} {s : Ec} {i : Nat} (h : EkM w b m R s) (hi : i < R.length) :
    Calls Try.prog 16 #[.pointer (some ⟨b, 0, none⟩), .int .i64 i] w fun e w' => e = .returned (.bool true) ∧ w = w' := by
  have c0 := h.cells
  have d1 : decide ((0 : Int) ≤ (i : Int)) = true := decide_eq_true (by omega)
  have d2 : decide (i < R.length) = true := decide_eq_true hi
  clear h hi
  go_enter Try.func16, Try.ntmps16
  go_wp2
  go_ret
  exact ⟨rfl, rfl⟩
set_option maxHeartbeats 1000000 in
theorem kehas_f {w : World} {b m : Nat} {R : List (Option Nat)} {s : Ec} {i : Int} (h : EkM w b m R s) (hi : ¬ (0 ≤ i ∧ i < R.length)) :
    Calls Try.prog 16 #[.pointer (some ⟨b, 0, none⟩), .int .i64 i] w fun e w' => e = .returned (.bool false) ∧ w = w' := by
  have c0 := h.cells
  clear h
  by_cases h0 : i < 0
  · have d1 : decide ((0 : Int) ≤ i) = false := decide_eq_false (by omega)
    clear h0 hi
    go_enter Try.func16, Try.ntmps16
    go_wp2
    go_ret
    exact ⟨rfl, rfl⟩
  · have d1 : decide ((0 : Int) ≤ i) = true := decide_eq_true (by omega)
    have d2 : decide (i < (R.length : Int)) = false := decide_eq_false (by omega)
    clear h0 hi
    go_enter Try.func16, Try.ntmps16
    go_wp2
    go_ret
    exact ⟨rfl, rfl⟩
/-! ### lift -/
/-- what was there is laid into the result's box -/
theorem ek_done {w w8 : World} {b m z : Nat} {R R' : List (Option Nat)} {s' : Ec} {p0 : Pk} (p : Pk) (hk : Kept (ekO b m R) w w8) (hz : w.heap.size ≤ z) (hm : EkM w8 b m R' s') (hl : ∀ k, ekO b m R' k → k ≠ z)
    (hb : BoxP w8 z p0) : BoxP (putB w8 z p) z p ∧ EkM (putB w8 z p) b m R' s' ∧ Kept (ekO b m R) w (putB w8 z p) := by
  have hP := hb.put p
  have hO : ∀ k, k ≠ z → (putB w8 z p).heap[k]? = w8.heap[k]? := fun k h => putB_other h
  have hS := putB_size w8 z p
  obtain ⟨r1, r2, r3⟩ := putB_rest w8 z p
  generalize putB w8 z p = W at hP hO hS r1 r2 r3 ⊢
  exact ⟨hP, hm.stay (fun k hk' => hO k (hl k hk')),
    ⟨r1.trans hk.os, r2.trans hk.tape, r3.trans hk.output, by rw [hS]; exact hk.size, fun k h1 h2 => (hO k (by omega)).trans (hk.block k h1 h2)⟩⟩
set_option maxHeartbeats 4000000 in
theorem kelift_v {w : World} {b m k : Nat} {R : List (Option Nat)} {s : Ec} {i : Nat} {p : Pk} (h : EkM w b m R s) (hk : R[i]? = some (some k)) (hp : s.H.getD i pk0 = p) :
    Calls Try.prog 17 #[.pointer (some ⟨b, 0, none⟩), .int .i64 i] w fun e w' => e = .returned (pkV p) ∧ EkM w' b m (R.set i none) ⟨s.H, s.F.set i false⟩ ∧ Kept (ekO b m R) w w' := by
  have hzr := zeroPk
  have hi : i < R.length := by
    rcases Nat.lt_or_ge i R.length with h | h
    · exact h
    · rw [List.getElem?_eq_none h] at hk; cases hk
  have H := Lib.hid h
  have HK := Lib.hid hk
  have hb0 := (Below.refl w.heap.size w).alloc (Nat.le_refl _) (.cells #[.int .i64 0, .int .i64 0, .int .i64 0, .string (ByteArray.mk #[]), .int .i64 0, .int .i64 0, .bool false] 32)
  have HB0 := Lib.hid hb0
  have HZ0 := Lib.hid (BoxP.made w pk0)
  have HM0 := Lib.hid (h.later hb0)
  have HP0 : Hid (BoxP (w.alloc (.cells #[.int .i64 0, .int .i64 0, .int .i64 0, .string (ByteArray.mk #[]), .int .i64 0, .int .i64 0, .bool false] 32)) k p) := Lib.hid (by rw [← hp]; exact (h.here i k hk).later hb0)
  have c0 := HM0.out.cells
  obtain ⟨c1, c2, c3⟩ := HM0.out.at_ hk
  rw [ptV_some] at c1
  obtain ⟨d0, d1, d2, d3, d4, d5, d6⟩ := HP0.out.cells
  clear h hk hb0 hp c2 c3
  go_enter Try.func17, Try.ntmps17
  go_upto_region 2 with fail
  obtain ⟨w1, hw1⟩ : ∃ w1, (w.alloc (.cells #[.int .i64 0, .int .i64 0, .int .i64 0, .string (ByteArray.mk #[]), .int .i64 0, .int .i64 0, .bool false] 32)).alloc (.cells #[.int .i64 p.f.i, .int .i64 p.f.n, .int .i64 p.f.l, .string p.f.d, .int .i64 p.fr, .int .i64 p.tag, .bool p.lp] 32) = w1 := ⟨_, rfl⟩
  rw [hw1]
  have hb1 : Below (w.alloc (.cells #[.int .i64 0, .int .i64 0, .int .i64 0, .string (ByteArray.mk #[]), .int .i64 0, .int .i64 0, .bool false] 32)).heap.size (w.alloc (.cells #[.int .i64 0, .int .i64 0, .int .i64 0, .string (ByteArray.mk #[]), .int .i64 0, .int .i64 0, .bool false] 32)) w1 := by rw [← hw1]; exact (Below.refl _ _).alloc (Nat.le_refl _) _
  have HB1 := Lib.hid (fbelow_t HB0.out hb1)
  have HZ1 : Hid (BoxP w1 w.heap.size pk0) := Lib.hid (HZ0.out.later hb1)
  have HP1 : Hid (BoxP w1 (w.heap.size + 1) p) := Lib.hid (by have := BoxP.made (w.alloc (.cells #[.int .i64 0, .int .i64 0, .int .i64 0, .string (ByteArray.mk #[]), .int .i64 0, .int .i64 0, .bool false] 32)) p; rw [hw1, World.size_alloc] at this; exact this)
  have HM1 := Lib.hid (H.out.later HB1.out)
  clear c0 c1 d0 d1 d2 d3 d4 d5 d6 hw1 hb1 HM0 HZ0 HP0 HB0
  have HL := Lib.hid H.out.lt
  have HS2 := Lib.hid (HM1.out.drop i)
  have c0 := HM1.out.cells
  obtain ⟨c1, c2, c3⟩ := HM1.out.at_ HK.out
  rw [ptV_some] at c1
  clear c3
  have hmw : m < w.heap.size := HL.out m (.inr (.inl rfl))
  have hpk : ∀ k q, BoxP w1 k q → w.heap.size ≤ k → BoxP (w1.setCell ⟨m, i, none⟩ (.pointer none)) k q := fun k q h hk => (Below.heap_setCell _ _ _ _ (fun e => by have e : k = m := e; omega)).trans h
  have HZ2 := Lib.hid (hpk _ _ HZ1.out (Nat.le_refl _))
  have HP2 := Lib.hid (hpk _ _ HP1.out (by omega))
  have HK2 : Hid (Kept (ekO b m R) w (w1.setCell ⟨m, i, none⟩ (.pointer none))) := Lib.hid ((Kept.of_below (O := ekO b m R) HB1.out).trans ekSet_kept (Grows.refl _ _))
  obtain ⟨w2, hw2⟩ : ∃ w2, w1.setCell ⟨m, i, none⟩ (.pointer none) = w2 := ⟨_, rfl⟩
  rw [hw2] at HS2 HZ2 HP2 HK2
  clear hpk HZ1 HP1 HM1
  have HFIN := Lib.hid (ek_done p HK2.out (Nat.le_refl _) HS2.out (fun k hk e => by have := HL.out k (ekO_sub i k hk); omega) HZ2.out)
  go_upto_region 3 with fail
  clear hw2 c0 c1 c2
  obtain ⟨d0, d1, d2, d3, d4, d5, d6⟩ := HP2.out.cells
  obtain ⟨e0, e1, e2, e3, e4, e5, e6⟩ := HZ2.out.cells
  have fl : ∀ j, w2.frozen? ⟨w.heap.size, j, none⟩ = false := fun j => Lib.frozen_of_heap HZ2.out j
  go_wp2_with fail
  obtain ⟨r0, r1, r2, r3, r4, r5, r6⟩ := HFIN.out.1.cells
  unfold putB at r0 r1 r2 r3 r4 r5 r6
  refine bodyPost_ret (v := pkV p) ?_ rfl ⟨rfl, HFIN.out.2⟩
  simp [results, Try.results17, go_sem, r0, r1, r2, r3, r4, r5, r6]
/-! ### which case -/
inductive EkCase (s : Ec) (i : Int) (R : List (Option Nat)) : Prop where
  | out (h : ¬ (0 ≤ i ∧ i < R.length)) (e : s.has i = false)
  | empty (j : Nat) (hi : i = j) (hj : j < R.length) (hr : R[j]? = some none) (e : s.has i = true) (f : s.at_ i = false)
  | full (j k : Nat) (hi : i = j) (hj : j < R.length) (hr : R[j]? = some (some k)) (e : s.has i = true) (f : s.at_ i = true)
theorem EkM.case {w : World} {b m : Nat} {R : List (Option Nat)} {s : Ec} (h : EkM w b m R s) (i : Int) : EkCase s i R := by
  have hl := h.len
  by_cases hi : 0 ≤ i ∧ i < R.length
  · obtain ⟨j, rfl⟩ := Int.eq_ofNat_of_zero_le hi.1
    have hj : j < R.length := by omega
    have he : s.has (j : Int) = true := by unfold Ec.has; simp; omega
    cases hf : s.F.getD j false with
    | false => exact .empty j rfl hj (h.lookN hj hf) he hf
    | true =>
      obtain ⟨k, hk⟩ := h.look hj hf
      exact .full j k rfl hj hk he hf
  · refine .out hi ?_
    unfold Ec.has
    rw [Bool.eq_false_iff]
    intro hc
    simp at hc
    omega
/-! ### Put -/
set_option maxHeartbeats 4000000 in
theorem keput_v {v : Value} {s : Ec} {O : Nat → Prop} (w : World) (i : Int) (p : Pk) (h : EkD w v s O) (ok : s.Ok) :
    Calls Try.prog 9 #[v, .int .i64 i, pkV p] w fun e w' => e = .returned (.int .i64 (s.put i p).2) ∧ Stp EkD v O w (s.put i p).1 w' := by
  obtain ⟨b, m, R, rfl, rfl, hm⟩ := h
  have hb0 := (Below.refl w.heap.size w).alloc (Nat.le_refl _) (.cells #[.int .i64 p.f.i, .int .i64 p.f.n, .int .i64 p.f.l, .string p.f.d, .int .i64 p.fr, .int .i64 p.tag, .bool p.lp] 32)
  have HP0 := Lib.hid (BoxP.made w p)
  obtain ⟨w0, hw0⟩ : ∃ w0, w.alloc (.cells #[.int .i64 p.f.i, .int .i64 p.f.n, .int .i64 p.f.l, .string p.f.d, .int .i64 p.fr, .int .i64 p.tag, .bool p.lp] 32) = w0 := ⟨_, rfl⟩
  rw [hw0] at hb0 HP0
  have HB0 := Lib.hid hb0
  have HM := Lib.hid hm
  have HM0 := Lib.hid (hm.later hb0)
  have HL := Lib.hid hm.lt
  have hll : s.H.length = R.length := by rw [ok.len, hm.len]
  rcases hm.case i with ⟨h1, h2⟩ | ⟨j, rfl, hj, hr, h2, h3⟩ | ⟨j, k, rfl, hj, hr, h2, h3⟩
  · have HE : Hid (s.put i p = (s, 2)) := Lib.hid (by unfold Ec.put; rw [h2]; rfl)
    rw [HE.out]
    have HC := Lib.hid (kehas_f HM0.out h1)
    clear h1 h2 hm hb0 hll
    go_enter Try.func9, Try.ntmps9
    go_wp2_with fail
    refine HC.out.mono ?_
    rintro e w1 ⟨rfl, rfl⟩
    go_wp2
    go_ret
    exact ⟨rfl, HM.out.stp HB0.out⟩
  · have HE : Hid (s.put (j : Int) p = (⟨s.H.set j p, s.F.set j true⟩, 0)) := Lib.hid (by unfold Ec.put; rw [h2, h3]; rfl)
    rw [HE.out]
    have HC := Lib.hid (kehas_t HM0.out hj)
    have c0 := HM0.out.cells
    obtain ⟨c1, c2, -⟩ := HM0.out.at_ hr
    rw [ptV_none] at c1
    have HN : Hid (¬ ekO b m R w.heap.size) := Lib.hid (fun hc => absurd (HL.out _ hc) (Nat.lt_irrefl _))
    have HF := Lib.hid (HM0.out.put hj hll HP0.out HN.out)
    clear h2 h3 hr hm hb0 hll
    go_enter Try.func9, Try.ntmps9
    go_wp2_with fail
    refine HC.out.mono ?_
    rintro e w1 ⟨rfl, hw1⟩
    rw [← hw1] at *
    clear hw1
    go_wp2
    go_ret
    exact ⟨rfl, _, ⟨b, m, _, rfl, rfl, HF.out⟩, (Kept.of_below (O := ekO b m R) HB0.out).trans ekSet_kept (Grows.refl _ _), ekO_put (Nat.le_refl _)⟩
  · have HE : Hid (s.put (j : Int) p = (s, 5)) := Lib.hid (by unfold Ec.put; rw [h2, h3]; rfl)
    rw [HE.out]
    have HC := Lib.hid (kehas_t HM0.out hj)
    have c0 := HM0.out.cells
    obtain ⟨c1, c2, -⟩ := HM0.out.at_ hr
    rw [ptV_some] at c1
    clear h2 h3 hr hm hb0 hll
    go_enter Try.func9, Try.ntmps9
    go_wp2_with fail
    refine HC.out.mono ?_
    rintro e w1 ⟨rfl, hw1⟩
    rw [← hw1] at *
    clear hw1
    go_wp2
    go_ret
    exact ⟨rfl, HM.out.stp HB0.out⟩
/-! ### Get -/
theorem stp_box {w w0 w1 : World} {v : Value} {s' : Ec} {O : Nat → Prop} {p0 : Pk} (p : Pk) (hb : Below w.heap.size w w0) (hs : Stp EkD v O w0 s' w1) (hO : ∀ k, O k → k < w.heap.size) (hz : BoxP w0 w.heap.size p0) :
    BoxP w1 w.heap.size p0 ∧ BoxP (putB w1 w.heap.size p) w.heap.size p ∧ Stp EkD v O w s' (putB w1 w.heap.size p) := by
  obtain ⟨O', h1, h2, h3⟩ := hs
  have hn : ¬ O w.heap.size := fun h => absurd (hO _ h) (Nat.lt_irrefl _)
  have hb1 : BoxP w1 w.heap.size p0 := hz.kept h2 hn
  have hP := hb1.put p
  have hX : ∀ k, k ≠ w.heap.size → (putB w1 w.heap.size p).heap[k]? = w1.heap[k]? := fun k h => putB_other h
  have hS := putB_size w1 w.heap.size p
  obtain ⟨r1, r2, r3⟩ := putB_rest w1 w.heap.size p
  generalize putB w1 w.heap.size p = W at hP hX hS r1 r2 r3 ⊢
  have k0 : Kept O w w1 := (Kept.of_below (O := O) hb).trans h2 (Grows.refl _ _)
  refine ⟨hb1, hP, O', isObj_ek.stay h1 (fun k hk => hX k (fun e => ?_)), ⟨r1.trans k0.os, r2.trans k0.tape, r3.trans k0.output, by rw [hS]; exact k0.size, fun k h1 h2 => (hX k (by omega)).trans (k0.block k h1 h2)⟩, fun k hk => ?_⟩
  · have hlt := hz.lt
    rcases h3 k hk with h | h
    · exact hn (e ▸ h)
    · omega
  · rcases h3 k hk with h | h
    · exact .inl h
    · exact .inr (Nat.le_trans hb.size h)
set_option maxHeartbeats 4000000 in
theorem keget_v {v : Value} {s : Ec} {O : Nat → Prop} (w : World) (i : Int) (h : EkD w v s O) (ok : s.Ok) :
    Calls Try.prog 11 #[v, .int .i64 i] w fun e w' => e = .returned (.tuple #[pkV (s.get i).2.1, .int .i64 (s.get i).2.2]) ∧ Stp EkD v O w (s.get i).1 w' := by
  obtain ⟨b, m, R, rfl, rfl, hm⟩ := h
  have hzr := zeroPk
  have hb0 := (Below.refl w.heap.size w).alloc (Nat.le_refl _) (.cells #[.int .i64 0, .int .i64 0, .int .i64 0, .string (ByteArray.mk #[]), .int .i64 0, .int .i64 0, .bool false] 32)
  have HZ0 := Lib.hid (BoxP.made w pk0)
  obtain ⟨w0, hw0⟩ : ∃ w0, w.alloc (.cells #[.int .i64 0, .int .i64 0, .int .i64 0, .string (ByteArray.mk #[]), .int .i64 0, .int .i64 0, .bool false] 32) = w0 := ⟨_, rfl⟩
  have HZ : Hid (BoxP w0 w.heap.size pk0) := Lib.hid (by rw [← hw0]; exact HZ0.out)
  clear HZ0
  rw [hw0] at hb0
  have HB0 := Lib.hid hb0
  have HM := Lib.hid hm
  have HM0 := Lib.hid (hm.later hb0)
  have HL := Lib.hid hm.lt
  obtain ⟨d0, d1, d2, d3, d4, d5, d6⟩ := HZ.out.cells
  have fl : ∀ j, w0.frozen? ⟨w.heap.size, j, none⟩ = false := fun j => Lib.frozen_of_heap HZ.out j
  have HD := Lib.hid (hm.stp (putB_below pk0 hb0 (Nat.le_refl _)))
  have HPR := Lib.hid (HZ.out.put pk0)
  obtain ⟨r0, r1, r2, r3, r4, r5, r6⟩ := HPR.out.cells
  unfold putB pk0 at r0 r1 r2 r3 r4 r5 r6
  unfold putB pk0 at HD
  clear HPR
  rcases hm.case i with ⟨h1, h2⟩ | ⟨j, rfl, hj, hr, h2, h3⟩ | ⟨j, k, rfl, hj, hr, h2, h3⟩
  · have HE : Hid (s.get i = (s, pk0, 2)) := Lib.hid (by unfold Ec.get; rw [h2]; rfl)
    rw [HE.out]
    have HC := Lib.hid (kehas_f HM0.out h1)
    clear h1 h2 hm hb0
    go_enter Try.func11, Try.ntmps11
    go_wp2_with fail
    refine HC.out.mono ?_
    rintro e w1 ⟨rfl, hw1⟩
    rw [← hw1] at *
    clear hw1
    go_wp2_with fail
    refine bodyPost_ret (v := .tuple #[pkV pk0, .int .i64 2]) ?_ rfl ⟨rfl, HD.out⟩
    simp [results, Try.results11, go_sem, pk0, r0, r1, r2, r3, r4, r5, r6]
  · have HE : Hid (s.get (j : Int) = (s, pk0, 6)) := Lib.hid (by unfold Ec.get; rw [h2, h3]; rfl)
    rw [HE.out]
    have HC := Lib.hid (kehas_t HM0.out hj)
    have c0 := HM0.out.cells
    obtain ⟨c1, c2, -⟩ := HM0.out.at_ hr
    rw [ptV_none] at c1
    clear h2 h3 hr hm hb0
    go_enter Try.func11, Try.ntmps11
    go_wp2_with fail
    refine HC.out.mono ?_
    rintro e w1 ⟨rfl, hw1⟩
    rw [← hw1] at *
    clear hw1
    go_wp2_with fail
    refine bodyPost_ret (v := .tuple #[pkV pk0, .int .i64 6]) ?_ rfl ⟨rfl, HD.out⟩
    simp [results, Try.results11, go_sem, pk0, r0, r1, r2, r3, r4, r5, r6]
  · obtain ⟨p, hp⟩ : ∃ p, s.H.getD j pk0 = p := ⟨_, rfl⟩
    have HE : Hid (s.get (j : Int) = (⟨s.H, s.F.set j false⟩, p, 0)) := Lib.hid (by unfold Ec.get; rw [h2, h3, ← hp]; rfl)
    rw [HE.out]
    have HC := Lib.hid (kehas_t HM0.out hj)
    have HF := Lib.hid (kelift_v HM0.out hr hp)
    have c0 := HM0.out.cells
    obtain ⟨c1, c2, -⟩ := HM0.out.at_ hr
    rw [ptV_some] at c1
    clear h2 h3 hr hm hb0 hp r0 r1 r2 r3 r4 r5 r6 HD
    go_enter Try.func11, Try.ntmps11
    go_wp2_with fail
    refine HC.out.mono ?_
    rintro e w1 ⟨rfl, hw1⟩
    rw [← hw1] at *
    clear hw1
    go_wp2_with fail
    refine HF.out.mono ?_
    rintro e w2 ⟨rfl, hm2, hk2⟩
    have hs2 : Stp EkD (.pointer (some ⟨b, 0, none⟩)) (ekO b m R) w0 ⟨s.H, s.F.set j false⟩ w2 := ⟨_, ⟨b, m, _, rfl, rfl, hm2⟩, hk2, ekO_drop j⟩
    obtain ⟨q1, q2, q3⟩ := stp_box p HB0.out hs2 HL.out HZ.out
    have HQ2 := Lib.hid q2
    have HQ3 := Lib.hid q3
    clear hs2 hm2 hk2 c0 c1 c2 d0 d1 d2 d3 d4 d5 d6 q2 q3 fl
    obtain ⟨d0, d1, d2, d3, d4, d5, d6⟩ := q1.cells
    have fl : ∀ j, w2.frozen? ⟨w.heap.size, j, none⟩ = false := fun j => Lib.frozen_of_heap q1 j
    clear q1
    go_wp2_with fail
    obtain ⟨r0, r1, r2, r3, r4, r5, r6⟩ := HQ2.out.cells
    unfold putB at r0 r1 r2 r3 r4 r5 r6
    refine bodyPost_ret (v := .tuple #[pkV p, .int .i64 0]) ?_ rfl ⟨rfl, HQ3.out⟩
    simp [results, Try.results11, go_sem, r0, r1, r2, r3, r4, r5, r6]

/-! ### Peek -/
set_option maxHeartbeats 4000000 in
theorem kepeek_v {v : Value} {s : Ec} {O : Nat → Prop} (w : World) (i : Int) (h : EkD w v s O) (ok : s.Ok) :
    Calls Try.prog 10 #[v, .int .i64 i] w fun e w' => e = .returned (.tuple #[pkV (s.peek i).1, .bool (s.peek i).2]) ∧ Below w.heap.size w w' := by
  obtain ⟨b, m, R, rfl, rfl, hm⟩ := h
  have hzr := zeroPk
  have hb0 := (Below.refl w.heap.size w).alloc (Nat.le_refl _) (.cells #[.int .i64 0, .int .i64 0, .int .i64 0, .string (ByteArray.mk #[]), .int .i64 0, .int .i64 0, .bool false] 32)
  have HZ0 := Lib.hid (BoxP.made w pk0)
  obtain ⟨w0, hw0⟩ : ∃ w0, w.alloc (.cells #[.int .i64 0, .int .i64 0, .int .i64 0, .string (ByteArray.mk #[]), .int .i64 0, .int .i64 0, .bool false] 32) = w0 := ⟨_, rfl⟩
  have HZ : Hid (BoxP w0 w.heap.size pk0) := Lib.hid (by rw [← hw0]; exact HZ0.out)
  clear HZ0
  rw [hw0] at hb0
  have HB0 := Lib.hid hb0
  have HM := Lib.hid hm
  have HM0 := Lib.hid (hm.later hb0)
  have HL := Lib.hid hm.lt
  obtain ⟨d0, d1, d2, d3, d4, d5, d6⟩ := HZ.out.cells
  have fl : ∀ j, w0.frozen? ⟨w.heap.size, j, none⟩ = false := fun j => Lib.frozen_of_heap HZ.out j
  have HD := Lib.hid (putB_below pk0 hb0 (Nat.le_refl _))
  have HPR := Lib.hid (HZ.out.put pk0)
  obtain ⟨r0, r1, r2, r3, r4, r5, r6⟩ := HPR.out.cells
  unfold putB pk0 at r0 r1 r2 r3 r4 r5 r6
  unfold putB pk0 at HD
  clear HPR
  rcases hm.case i with ⟨h1, h2⟩ | ⟨j, rfl, hj, hr, h2, h3⟩ | ⟨j, k, rfl, hj, hr, h2, h3⟩
  · have HE : Hid (s.peek i = (pk0, false)) := Lib.hid (by unfold Ec.peek; rw [h2]; rfl)
    rw [HE.out]
    have HC := Lib.hid (kehas_f HM0.out h1)
    clear h1 h2 hm hb0
    go_enter Try.func10, Try.ntmps10
    go_wp2_with fail
    refine HC.out.mono ?_
    rintro e w1 ⟨rfl, hw1⟩
    rw [← hw1] at *
    clear hw1
    go_wp2_with fail
    refine bodyPost_ret (v := .tuple #[pkV pk0, .bool false]) ?_ rfl ⟨rfl, HD.out⟩
    simp [results, Try.results10, go_sem, pk0, r0, r1, r2, r3, r4, r5, r6]
  · have HE : Hid (s.peek (j : Int) = (pk0, false)) := Lib.hid (by unfold Ec.peek; rw [h2, h3]; rfl)
    rw [HE.out]
    have HC := Lib.hid (kehas_t HM0.out hj)
    have c0 := HM0.out.cells
    obtain ⟨c1, c2, -⟩ := HM0.out.at_ hr
    rw [ptV_none] at c1
    clear h2 h3 hr hm hb0
    go_enter Try.func10, Try.ntmps10
    go_wp2_with fail
    refine HC.out.mono ?_
    rintro e w1 ⟨rfl, hw1⟩
    rw [← hw1] at *
    clear hw1
    go_wp2_with fail
    refine bodyPost_ret (v := .tuple #[pkV pk0, .bool false]) ?_ rfl ⟨rfl, HD.out⟩
    simp [results, Try.results10, go_sem, pk0, r0, r1, r2, r3, r4, r5, r6]
  · obtain ⟨p, hp⟩ : ∃ p, s.H.getD j pk0 = p := ⟨_, rfl⟩
    have HE : Hid (s.peek (j : Int) = (p, true)) := Lib.hid (by unfold Ec.peek; rw [h2, h3, ← hp]; rfl)
    rw [HE.out]
    have HC := Lib.hid (kehas_t HM0.out hj)
    have HPK : Hid (BoxP w0 k p) := Lib.hid (by rw [← hp]; exact HM0.out.here j k hr)
    obtain ⟨x0, x1, x2, x3, x4, x5, x6⟩ := HPK.out.cells
    clear HD
    have HQ := Lib.hid (HZ.out.put p)
    have HD := Lib.hid (putB_below p hb0 (Nat.le_refl w.heap.size))
    unfold putB at HD
    have c0 := HM0.out.cells
    obtain ⟨c1, c2, -⟩ := HM0.out.at_ hr
    rw [ptV_some] at c1
    clear h2 h3 hr hm hb0 hp r0 r1 r2 r3 r4 r5 r6
    go_enter Try.func10, Try.ntmps10
    go_wp2_with fail
    refine HC.out.mono ?_
    rintro e w1 ⟨rfl, hw1⟩
    rw [← hw1] at *
    clear hw1
    go_wp2_with fail
    obtain ⟨r0, r1, r2, r3, r4, r5, r6⟩ := HQ.out.cells
    unfold putB at r0 r1 r2 r3 r4 r5 r6
    refine bodyPost_ret (v := .tuple #[pkV p, .bool true]) ?_ rfl ⟨rfl, HD.out⟩
    simp [results, Try.results10, go_sem, r0, r1, r2, r3, r4, r5, r6]

end Go.Proofs.Ytmpikfnemhjoeaa
