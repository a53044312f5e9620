/- Of no program: one row of whole numbers (of texts) appended to another, whoever made it. Of no program: parts of rows, and rows of texts appended to rows of the call's own, in a region that draws. Arb: walk of ArbOut. -/
import Derived.Test.YtlfhomahbacmpaaDoorZai
import Derived.Laws.AppendOwnNone
import Derived.Deep.RegionLaw
import Derived.Test.YtlfhomahbacmpaaDoorZam
namespace Go.Proofs.YtlfhomahbacmpaaDoor
open Go.RowKit
set_option linter.unusedVariables false

/-- a slice that reads as L, and is nil only as nil is -/
def RdI (w : World) (v : Value) (L : List Int) : Prop := SlI w v L ∧ (v = .slice none 0 0 ∨ ∃ x c, v = .slice (some x) L.length c ∧ L.length ≤ c)
theorem RdI.later {w w' : World} {v : Value} {L : List Int} (h : RdI w v L) (hb : Below w.heap.size w w') : RdI w' v L := ⟨SlG.later h.1 hb, h.2⟩
theorem RdI.nil (w : World) : RdI w (.slice none 0 0) [] := ⟨SlG.nil _ _ _ _, .inl rfl⟩
theorem RdI.of_row {B : Nat} {w0 wr : World} {v : Value} {L : List Int} (h : GathI B w0 v L wr) (hm : L.length ≤ 1000000) : RdI wr v L := by
  refine ⟨GathG.slI h hm, ?_⟩
  rcases h.1.2 with ⟨rfl, _⟩ | ⟨g, cap, cur, rfl, _, _, hc, _⟩
  · exact .inl rfl
  · exact .inr ⟨_, _, rfl, hc⟩
/-- without the first one -/
theorem RdI.tail {w : World} {x : Addr} {y : Int} {M : List Int} {cap : Nat} (h : RdI w (.slice (some x) (M.length + 1) cap) (y :: M)) :
    (cap = 1 → M = []) ∧ (cap ≠ 1 → RdI w (.slice (some ⟨x.block, x.off + 1, none⟩) M.length (cap - 1)) M) := by
  obtain ⟨hs, hsh⟩ := h
  have hc : M.length + 1 ≤ cap := by
    rcases hsh with h0 | ⟨x', c, h0, h1⟩
    · cases h0
    · injection h0 with _ _ h2
      subst h2
      simpa using h1
  refine ⟨fun h1 => List.eq_nil_of_length_eq_zero (by omega), fun _ => ⟨⟨some ⟨x.block, x.off + 1, none⟩, cap - 1, rfl, ?_, fun i a ha => ?_⟩, .inr ⟨_, _, rfl, by omega⟩⟩⟩
  · obtain ⟨_, _, _, hm, _⟩ := hs
    simp only [List.length_cons] at hm
    omega
  · have hi : i < M.length := by
      rcases Nat.lt_or_ge i M.length with h1 | h1
      · exact h1
      · rw [List.getElem?_eq_none h1] at ha; cases ha
    obtain ⟨A, c', hv, _, hcell⟩ := hs
    injection hv with hA _ _
    subst hA
    obtain ⟨x', hx', hb, hq⟩ := hcell (i + 1) a (by simpa using ha)
    injection hx' with hx'
    subst hx'
    refine ⟨_, rfl, hb, fun j u hu => ?_⟩
    have := hq j u hu
    rw [Nat.mul_one] at this ⊢
    have e : (⟨x.block, x.off + 1, none⟩ : Addr).add (i + j) = x.add (i + 1 + j) := by
      unfold Addr.add
      rw [if_neg (show ¬ i + 1 + j = 0 by omega)]
      by_cases h0 : i + j = 0
      · rw [if_pos h0]; congr 1; omega
      · rw [if_neg h0]; congr 1; simp only; omega
    rw [e]
    exact this
theorem RdI.none_left (w : World) {x : Addr} (h : x.block < w.heap.size) : RdI w (.slice (some x) 0 0) [] := ⟨⟨some x, 0, rfl, Nat.zero_le _, fun i a ha => by simp at ha⟩, .inr ⟨x, 0, rfl, Nat.le_refl _⟩⟩
theorem rowG_cells {L : List Int} {j : Nat} {u : Value} (h : (rowG intC L)[j]? = some u) : ∃ hj : j < L.length, u = .int .i64 L[j] := by
  have hl : (rowG intC L).length = L.length * 1 := rowG_length intC_len L
  have hj : j < L.length := by
    rcases Nat.lt_or_ge j L.length with h1 | h1
    · exact h1
    · rw [List.getElem?_eq_none (by omega)] at h; cases h
  have := rowG_get intC_len L j _ (List.getElem?_eq_getElem hj) 0 (.int .i64 L[j]) rfl
  rw [Nat.mul_one, Nat.add_zero, h] at this
  exact ⟨hj, Option.some.inj this⟩
/-- '[]int{}' -/
theorem own_empty (w : World) (e : TypeId) (k B : Nat) (hB : B ≤ w.heap.size) : (w.alloc (.cells #[] e)).ownsRow B e k (.slice (some ⟨w.heap.size, 0, none⟩) 0 0) 0 [] :=
  ⟨by simp, .inr ⟨w.heap.size, 0, #[], rfl, hB, heap_alloc_new w _, Nat.le_refl _, Nat.zero_le _, by simp, by simp⟩⟩
theorem wpList_catI {ops : Array Oper} {rest : List Oper} {o : Oper} {a : Act} {Q : Exit → Act → World → Prop} {W : World} (hgd : o.guard = none) (s x : Operand)
    (ho : o.op = .call { callee := .builtin .append, args := #[s, x], argTypes := #[28, 28] }) {B : Nat} {v u : Value} {L M : List Int} (hs : a.eval s = v) (hg : W.ownsRow B 3 1 v L.length (rowG intC L)) (hB : B ≤ W.heap.size)
    (hx : a.eval x = u) (hr : RdI W u M) (hsz : L.length + M.length ≤ 1000000)
    (h : ∀ v' w', w'.ownsRow B 3 1 v' (L ++ M).length (rowG intC (L ++ M)) → Below B W w' → wpList Tryd.prog ops Q rest (a.put o.dst v') w') : wpList Tryd.prog ops Q (o :: rest) a W := by
  obtain ⟨i0, hi, hz0, hz1, hz2⟩ := info_parts info_int
  obtain ⟨hsl, hshape⟩ := hr
  rcases hshape with rfl | ⟨p, c, rfl, _⟩
  · obtain ⟨A, cap, hv, _, _⟩ := hsl
    injection hv with _ hl _
    obtain rfl : M = [] := List.eq_nil_of_length_eq_zero hl.symm
    refine wpList_append_own_none hgd s x 28 ho B 3 i0 1 Tryd.underlying28 hi v L.length (rowG intC L) hs hg hx ?_
    exact h v W (by rw [List.append_nil]; exact hg) (Below.refl _ _)
  · refine wpList_append_own _ hgd s x 28 ho B 3 i0 _ 1 8 Tryd.underlying28 hi hz0 hz1 hz2 rfl (by decide) v L.length (rowG intC L) hs hg p M.length c (rowG intC M) hx (rowG_length intC_len M) (fun j u hu => ?_) (fun u hu => ?_) ?_ ?_ hB ?_
    · obtain ⟨hj, rfl⟩ := rowG_cells hu
      obtain ⟨y, c', hv, _, hc⟩ := SlG.at1 hsl hj rfl
      injection hv with hA _ _
      injection hA with hA
      subst hA
      exact hc
    · obtain ⟨j, hj, rfl⟩ := List.getElem_of_mem hu
      obtain ⟨hj2, e⟩ := rowG_cells (List.getElem?_eq_getElem hj)
      rw [e]; rfl
    · unfold maxLen; omega
    · omega
    · intro v' w' hown hgr _
      refine h v' w' ?_ ((Below.refl _ _).grown hgr hB ?_)
      · rw [List.length_append, rowG_app]; exact hown
      · intro k hk
        rcases hg.2 with ⟨rfl, _⟩ | ⟨g, cap, cur, rfl, hgg, _⟩
        · cases hk
        · cases hk; exact hgg
end Go.Proofs.YtlfhomahbacmpaaDoor

namespace Go.Proofs.YtlfhomahbacmpaaDoor
open Go.RowKit
set_option linter.unusedVariables false

theorem SlG.take {α : Type} {c : α → List Value} {k : Nat} {w : World} {B : Nat} {A : Option Addr} {n cap j : Nat} {L : List α} (h : SlG c k w B (.slice A n cap) L) (hj : j ≤ L.length) : SlG c k w B (.slice A j cap) (L.take j) := by
  obtain ⟨A', cap', hv, hm, hc⟩ := h
  injection hv with hA _ hcap
  subst hA; subst hcap
  refine ⟨A, cap, by rw [List.length_take, Nat.min_eq_left hj], by rw [List.length_take]; omega, fun i a ha => ?_⟩
  have hi : i < j := by
    rcases Nat.lt_or_ge i j with h1 | h1
    · exact h1
    · rw [List.getElem?_eq_none (by rw [List.length_take]; omega)] at ha; cases ha
  rw [List.getElem?_take_of_lt hi] at ha
  exact hc i a ha
theorem SlG.drop1 {α : Type} {c : α → List Value} {w : World} {B : Nat} {x : Addr} {n cap j m cap' : Nat} {L : List α} (h : SlG c 1 w B (.slice (some x) n cap) L) (hm : m = L.length - j) (hj : j ≤ L.length) (hc : ∀ a, (c a).length = 1) :
    SlG c 1 w B (.slice (some (x.add j)) m cap') (L.drop j) := by
  obtain ⟨A', cap1, hv, hmx, hcell⟩ := h
  injection hv with hA _ _
  subst hA
  refine ⟨_, _, by rw [List.length_drop, hm], by rw [List.length_drop]; omega, fun i a ha => ?_⟩
  rw [List.getElem?_drop] at ha
  obtain ⟨x', hx', hb, hq⟩ := hcell (j + i) a ha
  injection hx' with hx'
  subst hx'
  refine ⟨_, rfl, by rw [addr_block]; exact hb, fun t u hu => ?_⟩
  have := hq t u hu
  rw [Nat.mul_one] at this ⊢
  rw [addr_add, ← Nat.add_assoc]
  exact this
theorem cutS_head {x : Addr} {n cap k : Nat} (h : k ≤ cap) (w : World) : (Instr.sliceAt 22 (.slice (some x) n cap) none (some (.int .i64 (k : Int))) none).run Tryd.prog w = .ok (.slice (some x) k cap) w := by
  have e2 : (k : Int) ≤ (cap : Int) := by omega
  simp [go_sem, e2]
theorem cutS_tail {x : Addr} {n cap k : Nat} (h : k ≤ n) (hn : n ≤ cap) (w : World) : (Instr.sliceAt 22 (.slice (some x) n cap) (some (.int .i64 (k : Int))) none none).run Tryd.prog w = .ok (.slice (some (if cap = k then x else x.add k)) (n - k) (cap - k)) w := by
  have e2 : (k : Int) ≤ (n : Int) := by omega
  have e3 : (n : Int) ≤ (cap : Int) := by omega
  simp [go_sem, e2]
  split <;> rfl
/-- the rest of a row, wherever it lies -/
theorem SlG.rest {α : Type} {c : α → List Value} {w : World} {B : Nat} {x : Addr} {n cap k : Nat} {L : List α} (h : SlG c 1 w B (.slice (some x) n cap) L) (hk : k ≤ L.length) (hn : n ≤ cap) (hc : ∀ a, (c a).length = 1) :
    SlG c 1 w B (.slice (some (if cap = k then x else x.add k)) (n - k) (cap - k)) (L.drop k) := by
  have hl : n = L.length := by obtain ⟨A', cap1, hv, _, _⟩ := h; injection hv
  by_cases e : cap = k
  · have e0 : L.length = k := by omega
    rw [if_pos e, List.drop_of_length_le (by omega)]
    exact ⟨_, _, by rw [show n - k = 0 by omega]; rfl, Nat.zero_le _, fun i a ha => by simp at ha⟩
  · rw [if_neg e]
    exact h.drop1 (by omega) hk hc
theorem rowG_cellsS {L : List ByteArray} {j : Nat} {u : Value} (h : (rowG strC L)[j]? = some u) : ∃ hj : j < L.length, u = .string L[j] := by
  have hl : (rowG strC L).length = L.length * 1 := rowG_length strC_len L
  have hj : j < L.length := by
    rcases Nat.lt_or_ge j L.length with h1 | h1
    · exact h1
    · rw [List.getElem?_eq_none (by omega)] at h; cases h
  have := rowG_get strC_len L j _ (List.getElem?_eq_getElem hj) 0 (.string L[j]) rfl
  rw [Nat.mul_one, Nat.add_zero, h] at this
  exact ⟨hj, Option.some.inj this⟩
/-- 'append(own row, l...)' as a step of a region that draws -/
theorem step_catS {ops : Array Oper} {o : Oper} {a : Act} {K : Act → World → Prop} {Q : Exit → Act → World → Prop} {W : World} {E : Prop} (hgd : o.guard = none) (s x : Operand)
    (ho : o.op = .call { callee := .builtin .append, args := #[s, x], argTypes := #[22, 22] }) {B : Nat} {v : Value} {p : Addr} {c m : Nat} {L M : List ByteArray} (hs : a.eval s = v) (hg : W.ownsRow B 9 1 v L.length (rowG strC L)) (hB : B ≤ W.heap.size)
    (hx : a.eval x = .slice (some p) m c) (hr : SlS W (.slice (some p) m c) M) (hsz : L.length + M.length ≤ 1000000)
    (h : ∀ v' w', w'.ownsRow B 9 1 v' (L ++ M).length (rowG strC (L ++ M)) → Below B W w' → K (a.put o.dst v') w') : if Region.wanted o (yielded ops a.tmps) = true then Oper.wp Tryd.prog o a W K Q else E := by
  have hw : Region.wanted o (yielded ops a.tmps) = true := by unfold Region.wanted; rw [hgd]
  rw [if_pos hw]
  obtain ⟨i0, hi, hz0, hz1, hz2⟩ := info_parts info_str
  have hm : m = M.length := by obtain ⟨A', cap1, hv, _, _⟩ := hr; injection hv
  subst hm
  refine wp_append_own _ s x 22 ho B 9 i0 _ 1 16 Tryd.underlying22 hi hz0 hz1 hz2 rfl (by decide) v L.length (rowG strC L) hs hg p M.length c (rowG strC M) hx (rowG_length strC_len M) (fun j u hu => ?_) (fun u hu => ?_) ?_ ?_ hB ?_
  · obtain ⟨hj, rfl⟩ := rowG_cellsS hu
    obtain ⟨y, c', hv, _, hc⟩ := SlG.at1 hr hj rfl
    injection hv with hA _ _
    injection hA with hA
    subst hA
    exact hc
  · obtain ⟨j, hj, rfl⟩ := List.getElem_of_mem hu
    obtain ⟨hj2, e⟩ := rowG_cellsS (List.getElem?_eq_getElem hj)
    rw [e]; rfl
  · unfold maxLen; omega
  · omega
  · intro v' w' hown hgr _
    refine h v' w' ?_ ((Below.refl _ _).grown hgr hB ?_)
    · rw [List.length_append, rowG_app]; exact hown
    · intro k hk
      rcases hg.2 with ⟨rfl, _⟩ | ⟨g, cap, cur, rfl, hgg, _⟩
      · cases hk
      · cases hk; exact hgg
end Go.Proofs.YtlfhomahbacmpaaDoor

namespace Go.Proofs.YtlfhomahbacmpaaDoor
open Go.RowKit
set_option linter.unusedVariables false

theorem race_contains {L : List ByteArray} {n k : Nat} (hk : k < L.length) : (raceL L n L.length).contains (k : Int) = leastB L n (L.getD k emp0) L := by
  unfold raceL
  rw [List.contains_eq_mem, Bool.eq_iff_iff, decide_eq_true_eq, List.mem_map]
  constructor
  · rintro ⟨i, hi, he⟩
    rw [List.mem_filter] at hi
    have : i = k := by omega
    subst this
    exact hi.2
  · intro h
    exact ⟨k, List.mem_filter.2 ⟨List.mem_range.2 hk, h⟩, rfl⟩
theorem race_bd {L : List ByteArray} {n m : Nat} {x : Int} (h : x ∈ raceL L n m) : 0 ≤ x ∧ x < m := by
  unfold raceL at h
  obtain ⟨i, hi, rfl⟩ := List.mem_map.1 h
  have := List.mem_range.1 (List.mem_filter.1 hi).1
  omega
set_option maxHeartbeats 4000000 in
theorem arbOut_walk (a : Option Addr) (len cap : Nat) (F : Nat → List Value) (a1 : Int) (w : World) (hr : IsRowOf w [.str] a len cap F) (w1 : (Lit.int .i64 a1).wf = true) (hT : ATab w) :
    Calls Tryd.prog 7 #[.slice a len cap, .int .i64 a1] w fun e w' => e = .returned (.bool true) ∧ Below w.heap.size w w' := by
  obtain ⟨L, hL, hlen, hf⟩ := slice_of_row hr strOf strOf_c rfl (by decide)
  have hcap : a = none ∨ len ≤ cap := by
    rcases hr with ⟨rfl, rfl, rfl⟩ | ⟨x, rfl, hl, hm, hcell⟩
    · exact .inl rfl
    · exact .inr hl
  have HT := Lib.hid hT
  have HV : Hid (SlS w (.slice a len cap) L) := Lib.hid hL
  have HX : Hid (∀ s ∈ L, s.size ≤ maxLen) := Lib.hid (fun s hs => str_fits (hf s hs))
  obtain ⟨b0, b1⟩ := Go.bounds_i64 w1
  have HA : Hid (a1 ≤ 9223372036854775807) := Lib.hid b1
  clear hr hT hf hL w1 b0 b1
  subst hlen
  cases hq : fewTB L
  · have HQ := Lib.hid hq
    clear hq
    go_enter Tryd.func7, Tryd.ntmps7
    go_wp2_with fail
    refine (sfew_v HQ.out _ HV.out HX.out).mono ?_
    rintro e w1 ⟨rfl, rfl⟩
    go_wp2_with fail
    refine (arbalive_any _ HT.out).mono ?_
    rintro e w1 ⟨rfl, hb1⟩
    go_wp2
    go_ret
    exact ⟨rfl, hb1⟩
  have HQ := Lib.hid hq
  have HM := Lib.hid (few_small hq)
  have hl20 := (fewT_parts hq).1
  clear hq
  by_cases hlo : a1 < 0
  · go_enter Tryd.func7, Tryd.ntmps7
    go_wp2_with fail
    refine (sfew_v HQ.out _ HV.out HX.out).mono ?_
    rintro e w1 ⟨rfl, rfl⟩
    go_wp2_with fail
    refine (arbalive_any _ HT.out).mono ?_
    rintro e w1 ⟨rfl, hb1⟩
    go_wp2
    go_ret
    exact ⟨rfl, hb1⟩
  obtain ⟨k, rfl⟩ := Int.eq_ofNat_of_zero_le (show 0 ≤ a1 by omega)
  clear hlo
  by_cases hhi : L.length ≤ k
  · have hhi2 : (L.length : Int) ≤ (k : Int) := by omega
    clear hhi
    go_enter Tryd.func7, Tryd.ntmps7
    go_wp2_with fail
    refine (sfew_v HQ.out _ HV.out HX.out).mono ?_
    rintro e w1 ⟨rfl, rfl⟩
    go_wp2_with fail
    refine (arbalive_any _ HT.out).mono ?_
    rintro e w1 ⟨rfl, hb1⟩
    go_wp2
    go_ret
    exact ⟨rfl, hb1⟩
  have hks : k < L.length := by omega
  have hhi2 : ¬ (L.length : Int) ≤ (k : Int) := by omega
  clear hhi
  obtain ⟨x, rfl⟩ : ∃ x, a = some x := by
    obtain ⟨A', cap1, hv, _, hc⟩ := HV.out
    obtain ⟨x, hx, _⟩ := hc k _ (List.getElem?_eq_getElem hks)
    injection hv with hA _ _
    exact ⟨x, hA.trans hx⟩
  have hcl : L.length ≤ cap := by
    rcases hcap with h | h
    · cases h
    · exact h
  clear hcap
  obtain ⟨R, hR⟩ : ∃ R, raceL L (longL L) L.length = R := ⟨_, rfl⟩
  have HR := Lib.hid hR
  have HRL : Hid (R.length ≤ 20) := Lib.hid (by rw [← hR]; exact Nat.le_trans (raceL_len _ _ _) hl20)
  have HRB : Hid (∀ x ∈ R, 0 ≤ x ∧ x < 20) := Lib.hid (fun x hx => by rw [← hR] at hx; have := race_bd hx; omega)
  have hin : R.contains (k : Int) = leastB L (longL L) (L.getD k emp0) L := by rw [← hR]; exact race_contains hks
  cases hle : leastB L (longL L) (L.getD k emp0) L
  · rw [hle] at hin
    have HIN := Lib.hid hin
    have hwo := race_without hks hle
    rw [hR] at hwo
    have HWO := Lib.hid hwo
    have hwrap : IntKind.i64.wrap ((k : Int) + 1) = (k : Int) + 1 := by rw [IntKind.wrap_i64]; omega
    have hkl : (k : Int) + 1 ≤ (L.length : Int) := by omega
    have hkc : (k : Int) ≤ (cap : Int) := by omega
    have hk0 : (0 : Int) ≤ (k : Int) + 1 := by omega
    clear hin hle hR hwo
    go_enter Tryd.func7, Tryd.ntmps7
    go_wp2_with fail
    refine (sfew_v HQ.out _ HV.out HX.out).mono ?_
    rintro e w1 ⟨rfl, rfl⟩
    go_wp2_with fail
    refine (karace_v HM.out.1 HM.out.2 _ HV.out).mono ?_
    rw [HR.out]
    rintro e w3 ⟨u3, rfl, hs3, hb3⟩
    have HS3 := Lib.hid hs3
    have HV3 := Lib.hid (HV.out.later hb3)
    have HB3 := Lib.hid hb3
    obtain ⟨A3, c3, rfl, -, -⟩ := hs3
    clear hb3
    go_wp2_with fail
    refine (sin_v HIN.out _ HS3.out).mono ?_
    rintro e w4 ⟨rfl, rfl⟩
    have HE : Hid (Below w3.heap.size w3 (w3.alloc (.cells #[] 9))) := Lib.hid ((Below.refl _ _).alloc (Nat.le_refl _) _)
    have HV1 : Hid (SlS (w3.alloc (.cells #[] 9)) (.slice (some x) k cap) (L.take k)) := Lib.hid ((HV3.out.take (by omega)).later HE.out)
    go_wp2_with fail
    by_cases hck : cap = k + 1
    · have HV2 : Hid (SlG strC 1 w3 w3.heap.size (.slice (some x) (L.length - (k + 1)) (cap - (k + 1))) (L.drop (k + 1))) := Lib.hid (by
        have := HV3.out.rest hks hcl strC_len
        rwa [if_pos hck] at this)
      subst hck
      have hk9 : (k : Int) ≤ (k : Int) + 1 := by omega
      go_region_law (first | (refine step_catS rfl (.tmp 30) (.tmp 33) rfl (B := w3.heap.size) (L := []) (M := L.take k) (by simp [Act.eval]) (own_empty w3 9 1 w3.heap.size (Nat.le_refl _)) (by simp) (by simp [Act.eval]) HV1.out (by simp; omega) ?_; rintro v1 w5 hown1 hb1) | (refine step_catS rfl (.tmp 34) (.tmp 38) rfl (B := w3.heap.size) (L := L.take k) (M := L.drop (k + 1)) (by simp [Act.eval]) hown1 (Nat.le_trans (by simp) hb1.size) (by simp [Act.eval] <;> omega) (SlG.keep HV2.out (fun p hp => (hb1.cell hp).trans (HE.out.cell hp)) (Nat.le_trans HE.out.size hb1.size)) (by simp; omega) ?_; rintro v2 w6 hown2 hb2))
      all_goals (
        have hb1' : Below w3.heap.size (w3.alloc (.cells #[] 9)) w5 := ⟨hb1.os, hb1.tape, hb1.output, hb1.size, hb1.block⟩
        have HBX : Hid (Below w3.heap.size w3 w6) := Lib.hid ((HE.out.trans hb1').trans hb2)
        have HGS : Hid (SlS w6 v2 (without L k)) := Lib.hid (GathG.slS (B := w3.heap.size) (w0 := w3) ⟨hown2, HBX.out, HBX.out.size⟩ (by unfold without; simp; omega))
        have HS6 := Lib.hid (HS3.out.later HBX.out)
        have HB6 := Lib.hid (HB3.out.trans (HBX.out.mono HB3.out.size))
        clear hown1 hb1 hb1' hown2 hb2 HV1 HV2 HV3 HBX
        go_wp2_with fail
        go_loopw [7, 42] (fun u i wr => ∃ j : Nat, j ≤ R.length ∧ i = .int .i64 j ∧ Hid (GathI w6.heap.size w6 u ((R.take j).map (shift k)) wr)) (fun _ i _ => R.length - (intOf i).toNat)
        case atStart => exact ⟨0, Nat.zero_le _, rfl, Lib.hid (GathG.start _ _ _ _)⟩
        case round =>
          obtain ⟨j, hj, rfl, HI⟩ := hrel
          have hRl : R.length ≤ 20 := HRL.out
          by_cases hlt : j < R.length
          · obtain ⟨y, c', hv', hyb, c0⟩ := (HS6.out.later HI.out.2.1).at1 hlt rfl
            injection hv' with hA _ hcap
            subst hA
            subst hcap
            have HR9 : Hid ((R.take (j + 1)).map (shift k) = (R.take j).map (shift k) ++ [shift k R[j]]) := Lib.hid (by rw [take_snoc hlt, List.map_append]; rfl)
            have hbd := HRB.out R[j] (List.getElem_mem hlt)
            have HLN : Hid (((R.take j).map (shift k)).length ≤ 1000000) := Lib.hid (by rw [List.length_map, List.length_take]; have := HRL.out; omega)
            generalize R[j] = z at c0 HR9 hbd
            generalize (R.take j).map (shift k) = M at HI HR9 HLN
            have HI3 := Lib.hid (HI.out.alloc (.cells #[.int .i64 (shift k z)] 3))
            have HNW := Lib.hid (one_cell wr (.int .i64 (shift k z)) 3)
            by_cases hgt : (k : Int) < z
            · have hs : shift k z = z - 1 := by unfold shift; rw [if_pos hgt]
              have hw : IntKind.i64.wrap (z - 1) = z - 1 := by rw [IntKind.wrap_i64]; omega
              rw [hs] at HI3 HNW HR9
              go_wp2_with (at_builtin; refine wpList_rowI rfl _ _ rfl rfl HI3.out.1 HI3.out.2.2 wr.heap.size _ (z - 1) rfl HNW.out HLN.out ?_)
              intro v' w' hown hbel
              have HI4 : Hid (GathI w6.heap.size w6 v' (M ++ [z - 1]) w') := Lib.hid ⟨by rw [List.length_append]; exact hown, HI3.out.2.1.trans hbel, Nat.le_trans HI3.out.2.2 hbel.size⟩
              clear hown hbel
              go_wp2
              go_roundw
              case rel => exact ⟨j + 1, by omega, by go_num, by rw [HR9.out]; exact HI4⟩
              case measure => simp [intOf]; omega
            · have hs : shift k z = z := by unfold shift; rw [if_neg hgt]
              rw [hs] at HI3 HNW HR9
              go_wp2_with (at_builtin; refine wpList_rowI rfl _ _ rfl rfl HI3.out.1 HI3.out.2.2 wr.heap.size _ z rfl HNW.out HLN.out ?_)
              intro v' w' hown hbel
              have HI4 : Hid (GathI w6.heap.size w6 v' (M ++ [z]) w') := Lib.hid ⟨by rw [List.length_append]; exact hown, HI3.out.2.1.trans hbel, Nat.le_trans HI3.out.2.2 hbel.size⟩
              clear hown hbel
              go_wp2
              go_roundw
              case rel => exact ⟨j + 1, by omega, by go_num, by rw [HR9.out]; exact HI4⟩
              case measure => simp [intOf]; omega
          · obtain rfl : j = R.length := by omega
            rw [List.take_length] at HI
            have hlm : (R.map (shift k)).length ≤ 1000000 := by rw [List.length_map]; omega
            have HWO2 := HWO
            generalize R.map (shift k) = RM at HI HWO2 hlm
            have HW9 := Lib.hid (HI.out.slI hlm)
            clear hlm
            have HG9 := Lib.hid (HGS.out.later HI.out.2.1)
            have HB9 := Lib.hid (HB6.out.trans (HI.out.2.1.mono HB6.out.size))
            have HMW : Hid ((∀ s ∈ without L k, s.size ≤ 1000000) ∧ (without L k).length ≤ 1000000) := Lib.hid ⟨fun s hs => HM.out.1 s (without_mem hs), by rw [without_len hks]; omega⟩
            obtain ⟨A9, c9, hu9, -, -⟩ := HG9.out
            obtain ⟨A8, c8, hu8, -, -⟩ := HW9.out
            subst hu9
            subst hu8
            go_wp2_with fail
            refine (karace_v HMW.out.1 HMW.out.2 _ HG9.out).mono ?_
            rw [HWO2.out]
            rintro e w8 ⟨u8, rfl, hs8, hb8⟩
            have HS8 := Lib.hid hs8
            have HW8 := Lib.hid (HW9.out.later hb8)
            have HB8 := Lib.hid (fbelow_t HB9.out hb8)
            obtain ⟨A7, c7, rfl, -, -⟩ := hs8
            clear hb8
            go_wp2_with fail
            refine (sints_v (L := RM) (L' := RM) (q := true) (decide_eq_true rfl) _ HS8.out HW8.out).mono ?_
            rintro e w7 ⟨rfl, mm, rfl⟩
            have HB7 := Lib.hid (below_drewN HB8.out mm)
            generalize w8.drewN mm = w7 at HB7 ⊢
            go_wp2_with fail
            refine (arbalive_any _ (HT.out.below HB7.out)).mono ?_
            rintro e w0 ⟨rfl, hb0⟩
            go_wp2
            go_ret
            exact ⟨rfl, fbelow_t HB7.out hb0⟩)
    · have HV2 : Hid (SlG strC 1 w3 w3.heap.size (.slice (some ⟨x.block, x.off + (k + 1), none⟩) (L.length - (k + 1)) (cap - (k + 1))) (L.drop (k + 1))) := Lib.hid (by
        have := HV3.out.rest hks hcl strC_len
        have e : x.add (k + 1) = ⟨x.block, x.off + (k + 1), none⟩ := by unfold Addr.add; rw [if_neg (by omega)]
        rwa [if_neg hck, e] at this)
      go_region_law (first | (refine step_catS rfl (.tmp 30) (.tmp 33) rfl (B := w3.heap.size) (L := []) (M := L.take k) (by simp [Act.eval]) (own_empty w3 9 1 w3.heap.size (Nat.le_refl _)) (by simp) (by simp [Act.eval]) HV1.out (by simp; omega) ?_; rintro v1 w5 hown1 hb1) | (refine step_catS rfl (.tmp 34) (.tmp 38) rfl (B := w3.heap.size) (L := L.take k) (M := L.drop (k + 1)) (by simp [Act.eval]) hown1 (Nat.le_trans (by simp) hb1.size) (by simp [Act.eval] <;> omega) (SlG.keep HV2.out (fun p hp => (hb1.cell hp).trans (HE.out.cell hp)) (Nat.le_trans HE.out.size hb1.size)) (by simp; omega) ?_; rintro v2 w6 hown2 hb2))
      all_goals (
        have hb1' : Below w3.heap.size (w3.alloc (.cells #[] 9)) w5 := ⟨hb1.os, hb1.tape, hb1.output, hb1.size, hb1.block⟩
        have HBX : Hid (Below w3.heap.size w3 w6) := Lib.hid ((HE.out.trans hb1').trans hb2)
        have HGS : Hid (SlS w6 v2 (without L k)) := Lib.hid (GathG.slS (B := w3.heap.size) (w0 := w3) ⟨hown2, HBX.out, HBX.out.size⟩ (by unfold without; simp; omega))
        have HS6 := Lib.hid (HS3.out.later HBX.out)
        have HB6 := Lib.hid (HB3.out.trans (HBX.out.mono HB3.out.size))
        clear hown1 hb1 hb1' hown2 hb2 HV1 HV2 HV3 HBX
        go_wp2_with fail
        go_loopw [7, 42] (fun u i wr => ∃ j : Nat, j ≤ R.length ∧ i = .int .i64 j ∧ Hid (GathI w6.heap.size w6 u ((R.take j).map (shift k)) wr)) (fun _ i _ => R.length - (intOf i).toNat)
        case atStart => exact ⟨0, Nat.zero_le _, rfl, Lib.hid (GathG.start _ _ _ _)⟩
        case round =>
          obtain ⟨j, hj, rfl, HI⟩ := hrel
          have hRl : R.length ≤ 20 := HRL.out
          by_cases hlt : j < R.length
          · obtain ⟨y, c', hv', hyb, c0⟩ := (HS6.out.later HI.out.2.1).at1 hlt rfl
            injection hv' with hA _ hcap
            subst hA
            subst hcap
            have HR9 : Hid ((R.take (j + 1)).map (shift k) = (R.take j).map (shift k) ++ [shift k R[j]]) := Lib.hid (by rw [take_snoc hlt, List.map_append]; rfl)
            have hbd := HRB.out R[j] (List.getElem_mem hlt)
            have HLN : Hid (((R.take j).map (shift k)).length ≤ 1000000) := Lib.hid (by rw [List.length_map, List.length_take]; have := HRL.out; omega)
            generalize R[j] = z at c0 HR9 hbd
            generalize (R.take j).map (shift k) = M at HI HR9 HLN
            have HI3 := Lib.hid (HI.out.alloc (.cells #[.int .i64 (shift k z)] 3))
            have HNW := Lib.hid (one_cell wr (.int .i64 (shift k z)) 3)
            by_cases hgt : (k : Int) < z
            · have hs : shift k z = z - 1 := by unfold shift; rw [if_pos hgt]
              have hw : IntKind.i64.wrap (z - 1) = z - 1 := by rw [IntKind.wrap_i64]; omega
              rw [hs] at HI3 HNW HR9
              go_wp2_with (at_builtin; refine wpList_rowI rfl _ _ rfl rfl HI3.out.1 HI3.out.2.2 wr.heap.size _ (z - 1) rfl HNW.out HLN.out ?_)
              intro v' w' hown hbel
              have HI4 : Hid (GathI w6.heap.size w6 v' (M ++ [z - 1]) w') := Lib.hid ⟨by rw [List.length_append]; exact hown, HI3.out.2.1.trans hbel, Nat.le_trans HI3.out.2.2 hbel.size⟩
              clear hown hbel
              go_wp2
              go_roundw
              case rel => exact ⟨j + 1, by omega, by go_num, by rw [HR9.out]; exact HI4⟩
              case measure => simp [intOf]; omega
            · have hs : shift k z = z := by unfold shift; rw [if_neg hgt]
              rw [hs] at HI3 HNW HR9
              go_wp2_with (at_builtin; refine wpList_rowI rfl _ _ rfl rfl HI3.out.1 HI3.out.2.2 wr.heap.size _ z rfl HNW.out HLN.out ?_)
              intro v' w' hown hbel
              have HI4 : Hid (GathI w6.heap.size w6 v' (M ++ [z]) w') := Lib.hid ⟨by rw [List.length_append]; exact hown, HI3.out.2.1.trans hbel, Nat.le_trans HI3.out.2.2 hbel.size⟩
              clear hown hbel
              go_wp2
              go_roundw
              case rel => exact ⟨j + 1, by omega, by go_num, by rw [HR9.out]; exact HI4⟩
              case measure => simp [intOf]; omega
          · obtain rfl : j = R.length := by omega
            rw [List.take_length] at HI
            have hlm : (R.map (shift k)).length ≤ 1000000 := by rw [List.length_map]; omega
            have HWO2 := HWO
            generalize R.map (shift k) = RM at HI HWO2 hlm
            have HW9 := Lib.hid (HI.out.slI hlm)
            clear hlm
            have HG9 := Lib.hid (HGS.out.later HI.out.2.1)
            have HB9 := Lib.hid (HB6.out.trans (HI.out.2.1.mono HB6.out.size))
            have HMW : Hid ((∀ s ∈ without L k, s.size ≤ 1000000) ∧ (without L k).length ≤ 1000000) := Lib.hid ⟨fun s hs => HM.out.1 s (without_mem hs), by rw [without_len hks]; omega⟩
            obtain ⟨A9, c9, hu9, -, -⟩ := HG9.out
            obtain ⟨A8, c8, hu8, -, -⟩ := HW9.out
            subst hu9
            subst hu8
            go_wp2_with fail
            refine (karace_v HMW.out.1 HMW.out.2 _ HG9.out).mono ?_
            rw [HWO2.out]
            rintro e w8 ⟨u8, rfl, hs8, hb8⟩
            have HS8 := Lib.hid hs8
            have HW8 := Lib.hid (HW9.out.later hb8)
            have HB8 := Lib.hid (fbelow_t HB9.out hb8)
            obtain ⟨A7, c7, rfl, -, -⟩ := hs8
            clear hb8
            go_wp2_with fail
            refine (sints_v (L := RM) (L' := RM) (q := true) (decide_eq_true rfl) _ HS8.out HW8.out).mono ?_
            rintro e w7 ⟨rfl, mm, rfl⟩
            have HB7 := Lib.hid (below_drewN HB8.out mm)
            generalize w8.drewN mm = w7 at HB7 ⊢
            go_wp2_with fail
            refine (arbalive_any _ (HT.out.below HB7.out)).mono ?_
            rintro e w0 ⟨rfl, hb0⟩
            go_wp2
            go_ret
            exact ⟨rfl, fbelow_t HB7.out hb0⟩)
  · rw [hle] at hin
    have HIN := Lib.hid hin
    clear hin hle hR
    go_enter Tryd.func7, Tryd.ntmps7
    go_wp2_with fail
    refine (sfew_v HQ.out _ HV.out HX.out).mono ?_
    rintro e w1 ⟨rfl, rfl⟩
    go_wp2_with fail
    refine (karace_v HM.out.1 HM.out.2 _ HV.out).mono ?_
    rw [HR.out]
    rintro e w3 ⟨u3, rfl, hs3, hb3⟩
    have HS3 := Lib.hid hs3
    have HB3 := Lib.hid hb3
    obtain ⟨A3, c3, rfl, -, -⟩ := hs3
    clear hb3
    go_wp2_with fail
    refine (sin_v HIN.out _ HS3.out).mono ?_
    rintro e w4 ⟨rfl, rfl⟩
    go_wp2_with fail
    refine (arbalive_any _ (HT.out.below HB3.out)).mono ?_
    rintro e w5 ⟨rfl, hb5⟩
    go_wp2
    go_ret
    exact ⟨rfl, fbelow_t HB3.out hb5⟩
end Go.Proofs.YtlfhomahbacmpaaDoor
