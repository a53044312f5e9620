/- Dump: strconv.Atoi at every string; cuts by relation; Read and Line at every candidate. Dump: contracts of readLine. Dump: lists of entries, as lines and in memory; contracts of few, Same. Dump: contracts of the document's Parse. Dump: contracts of Parse. Dump: contracts of few, of both Lines at any entry, of Lines. Dump: the walk of DumpParses. -/
import Derived.Test.YtpjlomgiljpadaaDoorDmpBa
import Derived.Test.YtpjlomgiljpadaaDoorDmpAd
import Derived.Test.YtpjlomgiljpadaaDoorDmpX
import Derived.Test.YtpjlomgiljpadaaDoorDmpSg
import Derived.Lib.AtoiErrMem
import Derived.Lib.AtoiAllCases
import Derived.Test.YtpjlomgiljpadaaDoorRows2
import Derived.WalkMore
import Derived.Test.YtpjlomgiljpadaaDoorDmpSh
import Derived.Test.YtpjlomgiljpadaaDoorDmpAf
namespace Go.Proofs.YtpjlomgiljpadaaDoor
open Go.RowKit
set_option linter.unusedVariables false

/-! ### the number of a text -/
def atoN (s : ByteArray) : Int := match Lib.atoiAll s.data.toList with | .ok v => v | .range => Lib.atoiSat s.data.toList | _ => 0
theorem atoN_bounds (s : ByteArray) : -9223372036854775808 ≤ atoN s ∧ atoN s ≤ 9223372036854775807 := by
  unfold atoN
  cases h : Lib.atoiAll s.data.toList with
  | ok v => exact Lib.atoiAll_bounds h
  | range => exact Lib.atoiSat_bounds _
  | _ => simp only; omega
theorem parse_app : ∀ (l m : List UInt8) (acc v : Nat), Lib.parseUint10 acc l = .ok v → Lib.parseUint10 acc (l ++ m) = Lib.parseUint10 v m
  | [], m, acc, v, h => by simp only [Lib.parseUint10] at h; injection h with h; rw [h]; rfl
  | c :: r, m, acc, v, h => by
    simp only [Lib.parseUint10] at h
    simp only [List.cons_append, Lib.parseUint10]
    split at h
    · split at h
      · cases h
      · split at h
        · cases h
        · rw [if_pos (by assumption), if_neg (by assumption), if_neg (by assumption)]
          exact parse_app r m _ v h
    · cases h
theorem parse_one (acc d : Nat) (hd : d < 10) (h : acc * 10 + d < 9223372036854775808) : Lib.parseUint10 acc [UInt8.ofNat (48 + d)] = .ok (acc * 10 + d) := by
  have e : (UInt8.ofNat (48 + d)).toNat = 48 + d := by simp; omega
  simp only [Lib.parseUint10, e]
  rw [if_pos (by omega), if_neg (by omega), if_neg (by omega)]
  congr 1
  omega
theorem parse_dec : ∀ u : Nat, u < 9223372036854775808 → Lib.parseUint10 0 (Lib.decDigits u) = .ok u := by
  intro u
  induction u using Nat.strongRecOn with
  | _ u ih =>
    intro hu
    rw [Lib.decDigits]
    split
    · rename_i h
      have := parse_one 0 u h (by omega)
      simpa using this
    · rename_i h
      rw [parse_app _ _ _ _ (ih (u / 10) (by omega) (by omega)), parse_one _ _ (by omega) (by omega)]
      congr 1
      omega
theorem atoN_dec {n : Int} (h0 : 0 ≤ n) (h1 : n ≤ 9223372036854775807) : atoN (decS n) = n := by
  obtain ⟨u, rfl⟩ := Int.eq_ofNat_of_zero_le h0
  have hp := parse_dec u (by omega)
  have e : (decS (u : Int)).data.toList = Lib.decDigits u := by unfold decS; rw [Lib.itoa_nonneg]
  have hdig := decL_digit (n := (u : Int)) h0
  unfold decL at hdig
  rw [Lib.itoa_nonneg] at hdig
  have hne : Lib.decDigits u ≠ [] := by
    intro h
    have := Lib.decDigits_length u
    rw [h] at this
    have := Lib.nDigits_pos u
    simp at *
    omega
  unfold atoN
  rw [e]
  cases hl : Lib.decDigits u with
  | nil => exact absurd hl hne
  | cons c r =>
    have hc := hdig (c.toNat : Int) (by rw [hl]; simp)
    rw [Lib.atoiAll_plain c r (by omega) (by omega)]
    unfold Lib.parseMag
    rw [if_neg (by simp), ← hl, hp]
    simp only [Lib.signless]
    rw [if_neg (by omega)]

/-! ### strconv.Atoi -/
def TabV (w : World) : Prop := (∃ tp p t fr, w.heap[3]? = some (.cells #[.iface tp p] t fr)) ∧ ∃ tp p t fr, w.heap[4]? = some (.cells #[.iface tp p] t fr)
theorem TabV.below {w w' : World} (h : TabV w) (hb : Below w.heap.size w w') : TabV w' := by
  obtain ⟨⟨a, b, c, d, h1⟩, e, f, g, i, h2⟩ := h
  exact ⟨⟨a, b, c, d, by rw [hb.block _ (lt_of_heap h1)]; exact h1⟩, e, f, g, i, by rw [hb.block _ (lt_of_heap h2)]; exact h2⟩
theorem TabV.alloc {w : World} (h : TabV w) (o : Obj) : TabV (w.alloc o) := h.below ((Below.refl _ _).alloc (Nat.le_refl _) o)
theorem TabV.syn {w : World} (h : TabV w) : ∃ tp p, w.var? Tryd.prog "strconv.ErrSyntax" = some #[.iface tp p] := by
  obtain ⟨⟨tp, p, t, fr, h1⟩, _⟩ := h
  refine ⟨tp, p, ?_⟩
  unfold World.var?
  rw [show Tryd.prog.globalNamed "strconv.ErrSyntax" = some 3 by kernel_rfl]
  simp only [Option.bind_some, h1]
theorem TabV.ran {w : World} (h : TabV w) : ∃ tp p, w.var? Tryd.prog "strconv.ErrRange" = some #[.iface tp p] := by
  obtain ⟨_, tp, p, t, fr, h1⟩ := h
  refine ⟨tp, p, ?_⟩
  unfold World.var?
  rw [show Tryd.prog.globalNamed "strconv.ErrRange" = some 4 by kernel_rfl]
  simp only [Option.bind_some, h1]
theorem atoi_v {s : ByteArray} {n : Int} (hn : atoN s = n) (hs : s.size ≤ 1000000) (w : World) (hT : TabV w) :
    Calls Tryd.prog 57 #[.string s] w fun e w' => ∃ v, e = .returned (.tuple #[.int .i64 n, v]) ∧ Below w.heap.size w w' := by
  unfold atoN at hn
  cases h : Lib.atoiAll s.data.toList with
  | ok v =>
    rw [h] at hn
    simp only at hn
    subst hn
    refine (Tryd.strconv_Atoi_ok s (by omega) v h w).mono ?_
    rintro e w' ⟨rfl, hw⟩
    refine ⟨_, rfl, ?_⟩
    rcases hw with rfl | ⟨t, rfl⟩
    · exact Below.refl _ _
    · exact Lib.bytesWorld_below _ _ _
  | range =>
    rw [h] at hn
    simp only at hn
    subst hn
    obtain ⟨tp, p, hv⟩ := hT.ran
    refine (Tryd.strconv_Atoi_range_var s (by omega) h tp p w hv).mono ?_
    rintro e w' ⟨N, rfl, _, _, hb⟩
    exact ⟨_, rfl, hb⟩
  | _ =>
    rw [h] at hn
    simp only at hn
    subst hn
    obtain ⟨tp, p, hv⟩ := hT.syn
    refine (Tryd.strconv_Atoi_syntax_var s (by omega) h tp p w hv).mono ?_
    rintro e w' ⟨N, rfl, _, _, hb⟩
    exact ⟨_, rfl, hb⟩

/-! ### cuts -/
def CutR (c : Int) (t p : ByteArray) (i : Bool) (r : ByteArray) : Prop :=
  ((∀ j, j < t.size → bt t j ≠ c) ∧ p = ByteArray.mk #[] ∧ i = false ∧ r = t) ∨ ∃ k, k < t.size ∧ bt t k = c ∧ (∀ j, j < k → bt t j ≠ c) ∧ p = t.extract 0 k ∧ i = true ∧ r = t.extract (k + 1) t.size
theorem cutR_ex (c : Int) (t : ByteArray) : ∃ p i r, CutR c t p i r := by
  by_cases h : ∃ k, k < t.size ∧ bt t k = c
  · have : ∃ k, (k < t.size ∧ bt t k = c) ∧ ∀ j, j < k → ¬ (j < t.size ∧ bt t j = c) := by
      obtain ⟨k, hk⟩ := h
      induction k using Nat.strongRecOn with
      | _ k ih =>
        by_cases hj : ∃ j, j < k ∧ j < t.size ∧ bt t j = c
        · obtain ⟨j, h1, h2⟩ := hj
          exact ih j h1 h2
        · exact ⟨k, hk, fun j h1 h2 => hj ⟨j, h1, h2⟩⟩
    obtain ⟨k, ⟨h1, h2⟩, h3⟩ := this
    exact ⟨_, _, _, .inr ⟨k, h1, h2, fun j hj e => h3 j hj ⟨by omega, e⟩, rfl, rfl, rfl⟩⟩
  · exact ⟨_, _, _, .inl ⟨fun j hj e => h ⟨j, hj, e⟩, rfl, rfl, rfl⟩⟩
theorem CutR.sizes {c : Int} {t p r : ByteArray} {i : Bool} (h : CutR c t p i r) : p.size ≤ t.size ∧ r.size ≤ t.size := by
  rcases h with ⟨_, rfl, _, rfl⟩ | ⟨k, hk, _, _, rfl, _, rfl⟩
  · exact ⟨Nat.zero_le _, Nat.le_refl _⟩
  · rw [sub_size _ _ _ (by omega), sub_size _ _ _ (Nat.le_refl _)]; omega
theorem CutR.at {c : Int} {t p r : ByteArray} {i : Bool} (h : CutR c t p i r) {A B : List Int} (hA : byL t = A ++ c :: B) (hc : c ∉ A) : byL p = A ∧ i = true ∧ byL r = B := by
  have hl : t.size = A.length + 1 + B.length := by rw [← byL_len, hA]; simp; omega
  have hat : bt t A.length = c := by rw [← byL_getD, hA]; simp
  have hbe : ∀ j, j < A.length → bt t j ≠ c := by
    intro j hj e
    apply hc
    rw [← byL_getD, hA, List.getD_eq_getElem?_getD, List.getElem?_append_left hj, List.getElem?_eq_getElem hj] at e
    simp only [Option.getD_some] at e
    rw [← e]; exact List.getElem_mem _
  rcases h with ⟨h, _⟩ | ⟨k, hk, h1, h2, rfl, rfl, rfl⟩
  · exact absurd hat (h _ (by omega))
  · obtain rfl : k = A.length := by
      rcases Nat.lt_trichotomy k A.length with h | h | h
      · exact absurd h1 (hbe k h)
      · exact h
      · exact absurd hat (h2 _ h)
    refine ⟨?_, rfl, ?_⟩
    · rw [byL_extract, hA]; simp
    · rw [byL_extract, List.take_of_length_le (by rw [byL_len]; exact Nat.le_refl _), hA, ← List.drop_drop]
      simp
/-- what a cut leaves: the box holds the rest -/
def CutW (b : Nat) (r : ByteArray) (ty : TypeId) (w w' : World) : Prop := Below b w w' ∧ w'.heap[b]? = some (.cells #[.string r] ty)
theorem cut_r {c : Int} {t p r : ByteArray} {i : Bool} {b : Nat} {ty : TypeId} (h : CutR c t p i r) (c0 : 0 ≤ c) (c1 : c < 128) (ht : t.size ≤ 100000000) (w : World) (hb : w.heap[b]? = some (.cells #[.string t] ty)) :
    Calls Tryd.prog 49 #[.int .i32 c, .pointer (some ⟨b, 0, none⟩)] w fun e w' => e = .returned (.tuple #[.string p, .bool i]) ∧ CutW b r ty w w' := by
  have hbl := lt_of_heap hb
  rcases h with ⟨h, rfl, rfl, rfl⟩ | ⟨k, hk, h1, h2, rfl, rfl, rfl⟩
  · refine (cut_no h c0 c1 w hb).mono ?_
    rintro e w' ⟨rfl, h⟩
    exact ⟨rfl, h.mono (by omega), by rw [h.block _ hbl]; exact hb⟩
  · refine (cut_yes hk h1 h2 c0 c1 ht w hb).mono ?_
    rintro e w' ⟨rfl, w1, h, rfl⟩
    refine ⟨rfl, (h.mono (show b ≤ _ by omega)).setCell (p := ⟨b, 0, none⟩) (Nat.le_refl b) _, ?_⟩
    have : w1.heap[b]? = some (.cells #[.string t] ty) := by rw [h.block _ hbl]; exact hb
    exact heap_setCell_same w1 b 0 _ _ _ this

/-! ### Read and Line at every candidate -/
def candF (o : Option Fr) : Fr := o.getD ⟨0, 0, 0, ByteArray.mk #[]⟩
theorem candF_ok {L : List Int} : (candF (readO L)).ok = true := by
  cases h : readO L with
  | none => decide
  | some f => exact readO_ok h
theorem dread_c {s : ByteArray} {f : Fr} (hs : s.size ≤ 1000000) (hf : candF (readO (byL s)) = f) (w : World) (hT : Tabs w) :
    Calls Tryd.prog 11 #[.string s] w fun e w' => ∃ er : Int, e = .returned (.tuple #[.agg #[.int .i64 f.i, .int .i64 f.n, .int .i64 f.l, .string f.d], .int .i64 er]) ∧ Below w.heap.size w w' := by
  subst hf
  cases h : readO (byL s) with
  | none => exact (dread_f hs h w hT).mono (by rintro e w' ⟨rfl, hb⟩; exact ⟨_, rfl, hb⟩)
  | some f => exact (dread_t hs h w hT).mono (by rintro e w' ⟨rfl, hb⟩; exact ⟨_, rfl, hb⟩)
def lineC (e : En) : ByteArray := if 0 ≤ e.node ∧ 0 ≤ e.slot then lineS e else ByteArray.mk #[]
theorem dline_c {f : Fr} {node slot : Int} {B : ByteArray} (hB : lineC ⟨f, node, slot⟩ = B) (h : f.ok = true) (h1 : node ≤ 9223372036854775807) (h2 : slot ≤ 9223372036854775807) (w : World) (hT : TabD w) :
    Calls Tryd.prog 16 #[.agg #[.int .i64 f.i, .int .i64 f.n, .int .i64 f.l, .string f.d, .int .i64 node, .int .i64 slot]] w fun r w' => ∃ er : Int, r = .returned (.tuple #[.string B, .int .i64 er]) ∧ Below w.heap.size w w' := by
  subst hB
  unfold lineC
  by_cases hc : 0 ≤ node ∧ 0 ≤ slot
  · rw [if_pos hc]
    refine (dline_t (e := ⟨f, node, slot⟩) (by unfold En.ok; simp [h, hc.1, hc.2]) ⟨h1, h2⟩ w hT).mono ?_
    rintro r w' ⟨rfl, hb⟩
    exact ⟨_, rfl, hb⟩
  · rw [if_neg hc]
    refine (dline_arg (i := f.i) (n := f.n) (l := f.l) (d := f.d) h (by omega) w hT).mono ?_
    rintro r w' ⟨rfl, hb⟩
    exact ⟨_, rfl, hb⟩

/-! ### the candidate -/
theorem cand_yes {s : ByteArray} {M : List Int} {c : En} (hM : byL s = M ++ [10]) (h : c.f.ok = true) (h1 : c.node ≤ 9223372036854775807) (h2 : c.slot ≤ 9223372036854775807) (hl : lineC c = s) : isEnt M c := by
  unfold lineC at hl
  split at hl
  · rename_i hc
    have hok : c.ok = true := by unfold En.ok; simp [h, hc.1, hc.2]
    exact ⟨⟨hok, h1, h2⟩, by rw [← byL_line hok, hl, hM]⟩
  · subst hl
    have := congrArg List.length hM
    rw [byL_len] at this
    simp at this
    have e0 : (ByteArray.mk #[]).size = 0 := rfl
    omega
theorem cand_no {s p1 r1 p2 r2 p3 r3 p4 r4 p5 r5 : ByteArray} {i1 i2 i3 i4 i5 : Bool} {M : List Int} (hM : byL s = M ++ [10]) (c1 : CutR 40 s p1 i1 r1) (c2 : CutR 41 r1 p2 i2 r2) (c3 : CutR 110 r2 p3 i3 r3) (c4 : CutR 32 r3 p4 i4 r4) (c5 : CutR 10 r4 p5 i5 r5)
    (hl : lineC ⟨candF (readO (byL p5)), atoN p4, atoN p2⟩ ≠ s) : ∀ e, ¬ isEnt M e := by
  rintro e ⟨⟨hok, hf⟩, he⟩
  obtain ⟨f1, n1, s1⟩ := En.parts hok
  apply hl
  rw [← he] at hM
  have nn : ∀ (x : Int), (x < 48 ∨ 57 < x) → ∀ m : Int, 0 ≤ m → x ∉ decL m := fun x hx m hm hmem => by have := decL_digit hm x hmem; omega
  unfold lineL at hM
  obtain ⟨_, _, a1⟩ := c1.at (A := []) hM (by simp)
  obtain ⟨b2, _, a2⟩ := c2.at a1 (nn 41 (by omega) _ s1)
  obtain ⟨_, _, a3⟩ := c3.at (A := [32]) a2 (by simp)
  obtain ⟨b4, _, a4⟩ := c4.at a3 (nn 32 (by omega) _ n1)
  obtain ⟨b5, _, _⟩ := c5.at a4 (tellL_no10 f1)
  rw [b5, tell_read f1]
  obtain rfl : p2 = decS e.slot := byL_inj (by rw [b2, byL_dec])
  obtain rfl : p4 = decS e.node := byL_inj (by rw [b4, byL_dec])
  rw [atoN_dec s1 hf.2, atoN_dec n1 hf.1]
  show lineC e = s
  unfold lineC
  rw [if_pos ⟨n1, s1⟩]
  apply byL_inj
  rw [byL_line hok, hM]
  rfl

end Go.Proofs.YtpjlomgiljpadaaDoor

namespace Go.Proofs.YtpjlomgiljpadaaDoor
open Go.RowKit
set_option linter.unusedVariables false

/-! ### readLine's memory: the result's block, the cutter's box -/
structure RL (w wv : World) (t : ByteArray) : Prop where
  below : Below w.heap.size w wv
  r : wv.heap[w.heap.size]? = some enZ
  x : wv.heap[w.heap.size + 1]? = some (.cells #[.string t] 9)
theorem RL.r6 {w wv : World} {t : ByteArray} (h : RL w wv t) : R6 w wv := ⟨h.below, h.r⟩
theorem RL.start {w : World} {t : ByteArray} : RL w ((w.alloc enZ).alloc (.cells #[.string t] 9)) t :=
  ⟨((Below.refl _ _).alloc (Nat.le_refl _) _).alloc (by simp) _, R6.start.alloc _ |>.r, by have := heap_alloc_new (w.alloc enZ) (.cells #[.string t] 9); simpa using this⟩
theorem RL.cut {w wv wv' : World} {t r : ByteArray} (h : RL w wv t) (hc : CutW (w.heap.size + 1) r 9 wv wv') : RL w wv' r :=
  ⟨h.below.trans (hc.1.mono (by omega)), by rw [hc.1.block _ (by omega)]; exact h.r, hc.2⟩
theorem TabD.of_r6 {w wv : World} (h : TabD w) (h6 : R6 w wv) : TabD wv := h.below h6.below

set_option maxHeartbeats 4000000 in
theorem readLine_any {s : ByteArray} {M : List Int} (hs : s.size ≤ 1000000) (hM : byL s = M ++ [10]) (w : World) (hT : TabD w) (hV : TabV w) :
    Calls Tryd.prog 37 #[.string s] w (entPost M w) := by
  obtain ⟨p1, i1, r1, c1⟩ := cutR_ex 40 s
  obtain ⟨p2, i2, r2, c2⟩ := cutR_ex 41 r1
  obtain ⟨p3, i3, r3, c3⟩ := cutR_ex 110 r2
  obtain ⟨p4, i4, r4, c4⟩ := cutR_ex 32 r3
  obtain ⟨p5, i5, r5, c5⟩ := cutR_ex 10 r4
  have z1 := c1.sizes
  have z2 := c2.sizes
  have z3 := c3.sizes
  have z4 := c4.sizes
  have z5 := c5.sizes
  obtain ⟨slot, hslot⟩ : ∃ n, atoN p2 = n := ⟨_, rfl⟩
  obtain ⟨node, hnode⟩ : ∃ n, atoN p4 = n := ⟨_, rfl⟩
  obtain ⟨f, hf⟩ : ∃ f, candF (readO (byL p5)) = f := ⟨_, rfl⟩
  obtain ⟨B, hB⟩ : ∃ B, lineC ⟨f, node, slot⟩ = B := ⟨_, rfl⟩
  have hfk : f.ok = true := by rw [← hf]; exact candF_ok
  have bs := atoN_bounds p2
  have bn := atoN_bounds p4
  rw [hslot] at bs
  rw [hnode] at bn
  have HNO : Hid (B ≠ s → ∀ e, ¬ isEnt M e) := Lib.hid (fun h => cand_no hM c1 c2 c3 c4 c5 (by rw [hslot, hnode, hf, hB]; exact h))
  have HYE : Hid (B = s → isEnt M ⟨f, node, slot⟩) := Lib.hid (fun h => cand_yes hM hfk bn.2 bs.2 (hB.trans h))
  have q1 : s.size ≤ 100000000 := by omega
  have q2 : r1.size ≤ 100000000 := by omega
  have q3 : r2.size ≤ 100000000 := by omega
  have q4 : r3.size ≤ 100000000 := by omega
  have q5 : r4.size ≤ 100000000 := by omega
  have u2 : p2.size ≤ 1000000 := by omega
  have u4 : p4.size ≤ 1000000 := by omega
  have u5 : p5.size ≤ 1000000 := by omega
  have HT := Lib.hid hT
  have HV := Lib.hid hV
  have C1 := Lib.hid c1
  have C2 := Lib.hid c2
  have C3 := Lib.hid c3
  have C4 := Lib.hid c4
  have C5 := Lib.hid c5
  have HS := Lib.hid hslot
  have HN := Lib.hid hnode
  have HF := Lib.hid hf
  have HFK := Lib.hid hfk
  have HB := Lib.hid hB
  have B2 := Lib.hid bs.2
  have BN2 := Lib.hid bn.2
  have Q1 := Lib.hid q1
  have Q2 := Lib.hid q2
  have Q3 := Lib.hid q3
  have Q4 := Lib.hid q4
  have Q5 := Lib.hid q5
  have U2 := Lib.hid u2
  have U4 := Lib.hid u4
  have U5 := Lib.hid u5
  clear hT hV c1 c2 c3 c4 c5 hslot hnode hf hfk hB hM z1 z2 z3 z4 z5 q1 q2 q3 q4 q5 u2 u4 u5
  go_enter Tryd.func37, Tryd.ntmps37
  go_wp2_with fail
  refine (cutter_any s _).mono ?_
  rintro e w1 ⟨rfl, rfl⟩
  have K0 := Lib.hid (RL.start (w := w) (t := s))
  go_wp2_with fail
  refine (cut_r C1.out (by omega) (by omega) Q1.out _ K0.out.x).mono ?_
  rintro e w1 ⟨rfl, hw⟩
  have K1 := Lib.hid (K0.out.cut hw)
  clear hw
  go_wp2_with fail
  refine (cut_r C2.out (by omega) (by omega) Q2.out _ K1.out.x).mono ?_
  rintro e w2 ⟨rfl, hw⟩
  have K2 := Lib.hid (K1.out.cut hw)
  clear hw
  go_wp2_with fail
  refine (cut_r C3.out (by omega) (by omega) Q3.out _ K2.out.x).mono ?_
  rintro e w3 ⟨rfl, hw⟩
  have K3 := Lib.hid (K2.out.cut hw)
  clear hw
  go_wp2_with fail
  refine (cut_r C4.out (by omega) (by omega) Q4.out _ K3.out.x).mono ?_
  rintro e w4 ⟨rfl, hw⟩
  have K4 := Lib.hid (K3.out.cut hw)
  clear hw
  go_wp2_with fail
  refine (cut_r C5.out (by omega) (by omega) Q5.out _ K4.out.x).mono ?_
  rintro e w5 ⟨rfl, hw⟩
  have K5 := Lib.hid (K4.out.cut hw).r6
  clear hw
  go_wp2_with fail
  refine (atoi_v HS.out U2.out _ (HV.out.below K5.out.below)).mono ?_
  rintro e w6 ⟨v1, rfl, hb⟩
  have K6 := Lib.hid (K5.out.later hb)
  clear hb
  go_wp2_with fail
  refine (atoi_v HN.out U4.out _ (HV.out.below K6.out.below)).mono ?_
  rintro e w7 ⟨v2, rfl, hb⟩
  have K7 := Lib.hid (K6.out.later hb)
  clear hb
  go_wp2_with fail
  refine (dread_c U5.out HF.out _ (HT.out.below K7.out.below).1).mono ?_
  rintro e w8 ⟨er, rfl, hb⟩
  have K8 := Lib.hid (K7.out.later hb)
  clear hb
  go_wp2_with fail
  refine (dline_c HB.out HFK.out BN2.out B2.out _ (((HT.out.below K8.out.below).alloc _).alloc _)).mono ?_
  rintro e w9 ⟨er2, rfl, hb⟩
  have hen : w9.heap[w8.heap.size + 1]? = some (enCs f.i f.n f.l f.d node slot) := by
    rw [hb.block _ (by simp)]
    have := heap_alloc_new (w8.alloc (frCs f.i f.n f.l f.d)) (enCs f.i f.n f.l f.d node slot)
    rw [World.size_alloc] at this
    exact this
  have K9 := Lib.hid (((K8.out.alloc _).alloc _).later hb)
  clear hb
  obtain ⟨⟨g0, g1, g2, g3, g4, g5⟩, _⟩ := cells6 hen
  obtain ⟨⟨c0, c1, c2, c3, c4, c5⟩, v0, v1, v2, v3, v4, v5⟩ := cells6 K9.out.r
  have hz := K9.out.size
  by_cases hBs : B = s
  · have HY := Lib.hid (HYE.out hBs)
    have t1 : (B.toList == s.toList) = true := by rw [seq_beq]; exact decide_eq_true hBs
    have t2 : (B.toList != s.toList) = false := by unfold bne; rw [t1]; rfl
    clear hBs hen
    go_wp2_with fail
    refine bodyPost_ret (v := .tuple #[.agg #[.int .i64 f.i, .int .i64 f.n, .int .i64 f.l, .string f.d, .int .i64 node, .int .i64 slot], .bool true]) (by simp [results, Tryd.results37, go_sem, c0, c1, c2, c3, c4, c5]) rfl (entPost_y HY.out ?_)
    exact K9.out.done _ _ _ _ _ _
  · have HN' := Lib.hid (HNO.out hBs)
    have t1 : (B.toList == s.toList) = false := by rw [seq_beq]; exact decide_eq_false hBs
    have t2 : (B.toList != s.toList) = true := by unfold bne; rw [t1]; rfl
    clear hBs hen
    go_wp2_with fail
    refine bodyPost_ret (v := .tuple #[.agg #[.int .i64 0, .int .i64 0, .int .i64 0, .string (ByteArray.mk #[]), .int .i64 0, .int .i64 0], .bool false]) (by simp [results, Tryd.results37, go_sem, c0, c1, c2, c3, c4, c5]) rfl (entPost_n HN'.out ?_)
    exact K9.out.done _ _ _ _ _ _

end Go.Proofs.YtpjlomgiljpadaaDoor

namespace Go.Proofs.YtpjlomgiljpadaaDoor
open Go.RowKit
set_option linter.unusedVariables false

/-! ### lines -/
def linesL (E : List En) : List Int := E.flatMap lineL
theorem linesL_app (a b : List En) : linesL (a ++ b) = linesL a ++ linesL b := by simp [linesL]
theorem linesL_cons (e : En) (b : List En) : linesL (e :: b) = lineL e ++ linesL b := by simp [linesL]
theorem linesL_one (e : En) : linesL [e] = lineL e := by simp [linesL]
/-- from L on, behind the entries acc: the answer -/
inductive Par : List Int → List En → List En × Int → Prop
  | nil {L : List Int} (acc : List En) : L = [] → Par L acc (acc, -1)
  | cut {L : List Int} (acc : List En) : L ≠ [] → 10 ∉ L → Par L acc ([], acc.length)
  | ent {L M R : List Int} (acc : List En) : L = M ++ 10 :: R → 10 ∉ M → (∀ e, ¬ isEnt M e) → Par L acc ([], acc.length)
  | step {L M R : List Int} {acc : List En} {e : En} {o : List En × Int} : L = M ++ 10 :: R → 10 ∉ M → isEnt M e → Par R (acc ++ [e]) o → Par L acc o
theorem split_uniq {M R M' R' : List Int} (h : M ++ 10 :: R = M' ++ 10 :: R') (h1 : 10 ∉ M) (h2 : 10 ∉ M') : M = M' ∧ R = R' := by
  have a := cutL_at (x := 10) (b := R) h1
  rw [h, cutL_at h2] at a
  injection a with a
  injection a with a b
  exact ⟨a.symm, b.symm⟩
theorem Par.out_nil {acc : List En} {o : List En × Int} (h : Par [] acc o) : o = (acc, -1) := by
  cases h with
  | nil _ _ => rfl
  | cut _ a _ => exact absurd rfl a
  | ent _ a _ _ => simp at a
  | step a _ _ _ => simp at a
theorem Par.out_cut {L : List Int} {acc : List En} {o : List En × Int} (h : Par L acc o) (hn : L ≠ []) (hc : 10 ∉ L) : o = ([], (acc.length : Int)) := by
  cases h with
  | nil _ a => exact absurd a hn
  | cut _ a _ => rfl
  | ent _ a _ _ => subst a; simp at hc
  | step a _ _ _ => subst a; simp at hc
theorem Par.out_ent {L M R : List Int} {acc : List En} {o : List En × Int} (h : Par L acc o) (hL : L = M ++ 10 :: R) (hc : 10 ∉ M) (he : ∀ e, ¬ isEnt M e) : o = ([], (acc.length : Int)) := by
  cases h with
  | nil _ a => subst a; simp at hL
  | cut _ a b => subst hL; simp at b
  | ent _ a _ _ => rfl
  | step a b c d =>
    obtain ⟨rfl, rfl⟩ := split_uniq (hL.symm.trans a) hc b
    exact absurd c (he _)
theorem Par.next {L M R : List Int} {acc : List En} {o : List En × Int} {e : En} (h : Par L acc o) (hL : L = M ++ 10 :: R) (hc : 10 ∉ M) (he : isEnt M e) : Par R (acc ++ [e]) o := by
  cases h with
  | nil _ a => subst a; simp at hL
  | cut _ a b => subst hL; simp at b
  | ent _ a b c =>
    obtain ⟨rfl, rfl⟩ := split_uniq (hL.symm.trans a) hc b
    exact absurd he (c _)
  | step a b c d =>
    obtain ⟨rfl, rfl⟩ := split_uniq (hL.symm.trans a) hc b
    rw [isEnt_uniq he c]; exact d
theorem par_ex : ∀ (n : Nat) (L : List Int) (acc : List En), L.length ≤ n → ∃ o, Par L acc o
  | 0, L, acc, h => ⟨_, .nil acc (List.length_eq_zero_iff.1 (by omega))⟩
  | n + 1, L, acc, h => by
    by_cases h0 : L = []
    · exact ⟨_, .nil acc h0⟩
    cases hc : cutL 10 L with
    | none => exact ⟨_, .cut acc h0 (cutL_no hc)⟩
    | some p =>
      obtain ⟨M, R⟩ := p
      obtain ⟨hL, hM⟩ := cutL_some hc
      by_cases he : ∃ e, isEnt M e
      · obtain ⟨e, he⟩ := he
        obtain ⟨o, ho⟩ := par_ex n R (acc ++ [e]) (by rw [hL] at h; simp at h; omega)
        exact ⟨o, .step hL hM he ho⟩
      · exact ⟨_, .ent acc hL hM fun e h => he ⟨e, h⟩⟩
theorem Par.told {L : List Int} {acc : List En} {o : List En × Int} (h : Par L acc o) (hg : ∀ e ∈ acc, e.good) : (o.2 = -1 ∧ linesL o.1 = linesL acc ++ L ∧ ∀ e ∈ o.1, e.good) ∨ (0 ≤ o.2 ∧ o.1 = []) := by
  induction h with
  | nil acc a => left; subst a; simp; exact hg
  | cut acc _ _ => right; exact ⟨by simp, rfl⟩
  | ent acc _ _ _ => right; exact ⟨by simp, rfl⟩
  | step a b c d ih =>
    rcases ih (fun e he => by rcases List.mem_append.1 he with h | h; exact hg e h; rw [List.mem_singleton.1 h]; exact c.1) with ⟨h1, h2, h3⟩ | h
    · left
      refine ⟨h1, ?_, h3⟩
      rw [h2, linesL_app, linesL_one, c.2, a]
      simp
    · exact .inr h
theorem line_no10 {e : En} (h : e.ok = true) : ∃ M, lineL e = M ++ [10] ∧ 10 ∉ M := by
  obtain ⟨f1, n1, s1⟩ := En.parts h
  refine ⟨40 :: (decL e.slot ++ 41 :: 32 :: 110 :: (decL e.node ++ 32 :: tellL e.f)), by unfold lineL; simp, ?_⟩
  have a : 10 ∉ decL e.slot := fun hm => by have := decL_digit s1 10 hm; omega
  have b : 10 ∉ decL e.node := fun hm => by have := decL_digit n1 10 hm; omega
  have c := tellL_no10 f1
  simp [a, b, c]
theorem par_lines : ∀ (E acc : List En), (∀ e ∈ E, e.good) → Par (linesL E) acc (acc ++ E, -1)
  | [], acc, _ => by rw [List.append_nil]; exact .nil acc rfl
  | e :: E, acc, h => by
    have hg := h e List.mem_cons_self
    obtain ⟨M, hM, h10⟩ := line_no10 hg.1
    have := par_lines E (acc ++ [e]) (fun x hx => h x (List.mem_cons_of_mem _ hx))
    rw [List.append_assoc] at this
    exact .step (by rw [linesL_cons, hM]; simp) h10 ⟨hg, hM⟩ this

/-! ### entries in memory -/
def enC (e : En) : List Value := [.int .i64 e.f.i, .int .i64 e.f.n, .int .i64 e.f.l, .string e.f.d, .int .i64 e.node, .int .i64 e.slot]
theorem enC_len (e : En) : (enC e).length = 6 := rfl
abbrev SlE (w : World) (B : Nat) (v : Value) (L : List En) : Prop := SlG enC 6 w B v L
abbrev GathE (B : Nat) (w0 : World) (v : Value) (L : List En) (wr : World) : Prop := GathG 39 enC 6 B w0 v L wr
def enOf : List Value → En
  | [.int _ i, .int _ n, .int _ l, .string d, .int _ a, .int _ b] => ⟨⟨i, n, l, d⟩, a, b⟩
  | _ => ⟨⟨0, 0, 0, ByteArray.mk #[]⟩, 0, 0⟩
theorem enOf_c (l : List Value) (h : FitsAll [.int .i64, .int .i64, .int .i64, .str, .int .i64, .int .i64] l) : enC (enOf l) = l := by
  obtain ⟨v0, l0, rfl, ⟨a0, rfl, _⟩, h0⟩ := FitsAll.cons h
  obtain ⟨v1, l1, rfl, ⟨a1, rfl, _⟩, h1⟩ := FitsAll.cons h0
  obtain ⟨v2, l2, rfl, ⟨a2, rfl, _⟩, h2⟩ := FitsAll.cons h1
  obtain ⟨v3, l3, rfl, ⟨a3, rfl, _⟩, h3⟩ := FitsAll.cons h2
  obtain ⟨v4, l4, rfl, ⟨a4, rfl, _⟩, h4⟩ := FitsAll.cons h3
  obtain ⟨v5, l5, rfl, ⟨a5, rfl, _⟩, h5⟩ := FitsAll.cons h4
  obtain rfl := FitsAll.nil h5
  rfl
def En.inRange (e : En) : Prop := (Lit.int .i64 e.f.i).wf = true ∧ (Lit.int .i64 e.f.n).wf = true ∧ (Lit.int .i64 e.f.l).wf = true ∧ e.f.d.size ≤ maxLen ∧ (Lit.int .i64 e.node).wf = true ∧ (Lit.int .i64 e.slot).wf = true
theorem en_fits {e : En} (h : FitsAll [.int .i64, .int .i64, .int .i64, .str, .int .i64, .int .i64] (enC e)) : e.inRange := by
  obtain ⟨⟨a0, e0, h0⟩, ⟨a1, e1, h1⟩, ⟨a2, e2, h2⟩, ⟨a3, e3, h3⟩, ⟨a4, e4, h4⟩, ⟨a5, e5, h5⟩, _⟩ := h
  injection e0 with _ e0; injection e1 with _ e1; injection e2 with _ e2; injection e3 with e3; injection e4 with _ e4; injection e5 with _ e5
  exact ⟨by rw [e0]; exact h0, by rw [e1]; exact h1, by rw [e2]; exact h2, by rw [e3]; exact h3, by rw [e4]; exact h4, by rw [e5]; exact h5⟩
theorem info_en : (Tryd.prog.info? 39).map (fun i => (i.zero, i.size, i.bytes)) = some (some (.agg #[.int .i64 0, .int .i64 0, .int .i64 0, .string (ByteArray.mk #[]), .int .i64 0, .int .i64 0]), 6, 56) := by kernel_rfl
theorem entry_new (w : World) (e : En) (t : TypeId) : ∀ j u, (enC e)[j]? = some u → (w.alloc (.cells #[.int .i64 e.f.i, .int .i64 e.f.n, .int .i64 e.f.l, .string e.f.d, .int .i64 e.node, .int .i64 e.slot] t)).cell? ((⟨w.heap.size, 0, none⟩ : Addr).add j) = some u :=
  World.news_of_block (heap_alloc_new _ _)
theorem wpList_rowE {ops : Array Oper} {rest : List Oper} {o : Oper} {a : Act} {Q : Exit → Act → World → Prop} {W : World} (hgd : o.guard = none) (s x : Operand)
    (ho : o.op = .call { callee := .builtin .append, args := #[s, x], argTypes := #[36, 36] }) {B : Nat} {v : Value} {L : List En} (hs : a.eval s = v) (hg : W.ownsRow B 39 6 v L.length (rowG enC L)) (hB : B ≤ W.heap.size)
    (g c : Nat) (e : En) (hx : a.eval x = .slice (some ⟨g, 0, none⟩) 1 c) (hn : ∀ j u, (enC e)[j]? = some u → W.cell? ((⟨g, 0, none⟩ : Addr).add j) = some u) (hsz : L.length ≤ 100000)
    (h : ∀ v' w', w'.ownsRow B 39 6 v' (L ++ [e]).length (rowG enC (L ++ [e])) → Below B W w' → wpList Tryd.prog ops Q rest (a.put o.dst v') w') : wpList Tryd.prog ops Q (o :: rest) a W := by
  obtain ⟨i0, hi, hz0, hz1, hz2⟩ := info_parts info_en
  refine wpList_append_own _ hgd s x 36 ho B 39 i0 _ 6 56 Tryd.underlying36 hi hz0 hz1 hz2 rfl (by decide) v L.length (rowG enC L) hs hg ⟨g, 0, none⟩ 1 c (enC e) hx rfl hn (fun u hu => ?_) ?_ ?_ hB ?_
  · simp only [enC, List.mem_cons, List.not_mem_nil, or_false] at hu
    rcases hu with rfl | rfl | rfl | rfl | rfl | rfl <;> rfl
  · unfold maxLen; omega
  · omega
  · intro v' w' hown hgr _
    refine h v' w' ?_ ((Below.refl _ _).grown hgr hB ?_)
    · rw [List.length_append, rowG_app, rowG_one]; exact hown
    · intro k hk
      rcases hg.2 with ⟨rfl, _⟩ | ⟨g, cap, cur, rfl, hgg, _⟩
      · cases hk
      · cases hk; exact hgg

/-! ### Same, of two slices that read alike -/
set_option maxHeartbeats 1000000 in
theorem esame_t {L : List En} {v v' : Value} {B B' : Nat} (w : World) (h : SlE w B v L) (h' : SlE w B' v' L) :
    Calls Tryd.prog 20 #[v, v'] w fun e w' => e = .returned (.bool true) ∧ ∃ n, w' = w.drewN n := by
  have H := Lib.hid h
  have H' := Lib.hid h'
  obtain ⟨A, cap, rfl, hm, _⟩ := h
  obtain ⟨A', cap', rfl, _, _⟩ := h'
  unfold maxLen at hm
  have e1 : ((L.length : Int) == (L.length : Int)) = true := by simp
  have e2 : ((L.length : Int) != (L.length : Int)) = false := by simp
  go_enter Tryd.func20, Tryd.ntmps20
  go_wp2_with fail
  go_loopw [5] (fun i wr => ∃ k m : Nat, k ≤ L.length ∧ i = .int .i64 k ∧ wr = w.drewN m) (fun i _ => L.length - (intOf i).toNat)
  case atStart => exact ⟨0, 0, by omega, rfl, rfl⟩
  case round =>
    obtain ⟨k, m, hk, rfl, rfl⟩ := hrel
    by_cases hlt : k < L.length
    · obtain ⟨x, cap1, hv, hxb, hcell⟩ := H.out.at_ hlt
      obtain ⟨y, cap2, hv', hyb, hcell'⟩ := H'.out.at_ hlt
      injection hv with hA hn hc
      injection hv' with hA' hn' hc'
      subst hA hA' hc hc'
      have a0 : w.cell? (x.add (k * 6)) = some (.int .i64 (L[k]'hlt).f.i) := hcell 0 _ rfl
      have a1 : w.cell? ⟨(x.add (k * 6)).block, (x.add (k * 6)).off + 1, none⟩ = some (.int .i64 (L[k]'hlt).f.n) := hcell 1 _ rfl
      have a2 : w.cell? ⟨(x.add (k * 6)).block, (x.add (k * 6)).off + 2, none⟩ = some (.int .i64 (L[k]'hlt).f.l) := hcell 2 _ rfl
      have a3 : w.cell? ⟨(x.add (k * 6)).block, (x.add (k * 6)).off + 3, none⟩ = some (.string (L[k]'hlt).f.d) := hcell 3 _ rfl
      have a4 : w.cell? ⟨(x.add (k * 6)).block, (x.add (k * 6)).off + 4, none⟩ = some (.int .i64 (L[k]'hlt).node) := hcell 4 _ rfl
      have a5 : w.cell? ⟨(x.add (k * 6)).block, (x.add (k * 6)).off + 5, none⟩ = some (.int .i64 (L[k]'hlt).slot) := hcell 5 _ rfl
      have b0 : w.cell? (y.add (k * 6)) = some (.int .i64 (L[k]'hlt).f.i) := hcell' 0 _ rfl
      have b1 : w.cell? ⟨(y.add (k * 6)).block, (y.add (k * 6)).off + 1, none⟩ = some (.int .i64 (L[k]'hlt).f.n) := hcell' 1 _ rfl
      have b2 : w.cell? ⟨(y.add (k * 6)).block, (y.add (k * 6)).off + 2, none⟩ = some (.int .i64 (L[k]'hlt).f.l) := hcell' 2 _ rfl
      have b3 : w.cell? ⟨(y.add (k * 6)).block, (y.add (k * 6)).off + 3, none⟩ = some (.string (L[k]'hlt).f.d) := hcell' 3 _ rfl
      have b4 : w.cell? ⟨(y.add (k * 6)).block, (y.add (k * 6)).off + 4, none⟩ = some (.int .i64 (L[k]'hlt).node) := hcell' 4 _ rfl
      have b5 : w.cell? ⟨(y.add (k * 6)).block, (y.add (k * 6)).off + 5, none⟩ = some (.int .i64 (L[k]'hlt).slot) := hcell' 5 _ rfl
      have ed := seq_self (L[k]'hlt).f.d
      clear hcell hcell' hxb hyb
      generalize L[k]'hlt = f at a0 a1 a2 a3 a4 a5 b0 b1 b2 b3 b4 b5 ed
      have hk0 : (0 : Int) ≤ (k : Int) := by omega
      have hk1 : (k : Int) < (L.length : Int) := by omega
      go_wp2_with fail
      go_quiet (fail)
      go_wp2
      exact ⟨⟨k + 1, m + nq, by omega, by go_num, rfl⟩, by simp [intOf]; omega⟩
    · obtain rfl : k = L.length := by omega
      go_wp2
      go_ret
      exact ⟨rfl, m, rfl⟩

end Go.Proofs.YtpjlomgiljpadaaDoor

namespace Go.Proofs.YtpjlomgiljpadaaDoor
open Go.RowKit
set_option linter.unusedVariables false

/-- what the Parses answer -/
def ParPost (o : List En × Int) (w : World) (e : Ending) (w' : World) : Prop :=
  Below w.heap.size w w' ∧ ∃ v, e = .returned (.tuple #[v, .int .i64 o.2]) ∧ SlE w' w'.heap.size v o.1
theorem parPost_none {o : List En × Int} {w w' : World} {n : Nat} (h : o = ([], (n : Int))) (hb : Below w.heap.size w w') : ParPost o w (.returned (.tuple #[.slice none 0 0, .int .i64 n])) w' := by
  subst h
  exact ⟨hb, _, rfl, SlG.nil _ _ _ _⟩
theorem sub_none {s : ByteArray} {k p : Nat} (h : ∀ j, k ≤ j → j < p → bt s j ≠ 10) (hp : p ≤ s.size) : 10 ∉ byL (s.extract k p) := by
  intro hm
  obtain ⟨i, hi, hg⟩ := List.mem_iff_getElem.1 hm
  have hi' : i < p - k := by rw [byL_len, sub_size _ _ _ hp] at hi; exact hi
  rw [byL_get (by rw [sub_size _ _ _ hp]; exact hi'), bt_sub _ _ _ _ (by omega) hp] at hg
  exact h (k + i) (by omega) (by omega) hg
theorem drop_split {s : ByteArray} {k p : Nat} (hk : k ≤ p) (hp : p < s.size) (h10 : bt s p = 10) : (byL s).drop k = byL (s.extract k p) ++ 10 :: (byL s).drop (p + 1) := by
  rw [byL_extract, ← h10, ← byL_drop hp]
  rw [List.drop_take]
  have : (byL s).drop p = ((byL s).drop k).drop (p - k) := by rw [List.drop_drop]; congr 1; omega
  rw [this, List.take_append_drop]

structure ParAt (s : ByteArray) (o : List En × Int) (p k : Nat) (L : List En) : Prop where
  le : k ≤ p ∧ p ≤ s.size
  len : L.length ≤ k
  par : Par ((byL s).drop k) L o
  no : ∀ j, k ≤ j → j < p → bt s j ≠ 10

set_option maxHeartbeats 4000000 in
theorem rparse_any {s : ByteArray} {o : List En × Int} (ho : Par (byL s) [] o) (hs : s.size ≤ 4000) (w : World) :
    Calls Tryd.prog 21 #[.string s] w (ParPost o w) := by
  have HO := Lib.hid ho
  have HS := Lib.hid hs
  have hs9 : (s.size : Int) ≤ 4000 := by omega
  clear ho
  go_enter Tryd.func21, Tryd.ntmps21
  go_wp2_with fail
  go_loopw [4, 5, 6, 7] (fun v n b i wr => ∃ (p k : Nat) (L : List En), ParAt s o p k L ∧ i = .int .i64 p ∧ b = .int .i64 k ∧ n = .int .i64 L.length ∧ GathE w.heap.size w v L wr) (fun _ _ _ i _ => s.size - (intOf i).toNat)
  case atStart => exact ⟨0, 0, [], ⟨⟨Nat.le_refl _, Nat.zero_le _⟩, Nat.le_refl _, HO.out, fun j _ h => absurd h (Nat.not_lt_zero _)⟩, rfl, rfl, rfl, GathG.start _ _ _ _⟩
  case round =>
    obtain ⟨p, k, L, hP, rfl, rfl, rfl, hG⟩ := hrel
    have HP := Lib.hid hP
    have HG := Lib.hid hG
    have hkp : k ≤ p := hP.le.1
    have hps : p ≤ s.size := hP.le.2
    have HL : Hid (L.length ≤ 4000) := Lib.hid (by have := hP.len; omega)
    have hl9 : (L.length : Int) ≤ 4000 := by have := HL.out; omega
    have HBW : Hid (Below w.heap.size w wr) := Lib.hid hG.2.1
    clear hP hG
    by_cases hp : p < s.size
    · have hp1 : (p : Int) < (s.size : Int) := by omega
      have hp0 : (0 : Int) ≤ (p : Int) := by omega
      have hi : ∀ w, (Instr.index 9 (.string s) (.int .i64 p)).run Tryd.prog w = .ok (.int .u8 (bt s p)) w := index_bt Tryd.underlying9 hp
      have hib := bt_lt s p
      by_cases h10 : bt s p = 10
      · have e1 : (bt s p != 10) = false := by simpa using h10
        have HSP := Lib.hid (drop_split hkp hp h10)
        have HN := Lib.hid (sub_none HP.out.no hps)
        have hkp' : (k : Int) ≤ (p : Int) := by omega
        obtain ⟨T, hT⟩ : ∃ T, s.extract k p = T := ⟨_, rfl⟩
        have hTs : T.size ≤ 1000000 := by rw [← hT, sub_size _ _ _ hps]; omega
        have HTS := Lib.hid hTs
        have H10 := Lib.hid h10
        rw [hT] at HSP HN
        clear h10 hTs
        go_wp2_with fail
        refine (entry_any (s := T) HTS.out _).mono ?_
        rintro e w2 ⟨hb2, ⟨en, hen, rfl⟩ | ⟨hno, rfl⟩⟩
        · have HNX := Lib.hid (HP.out.par.next HSP.out HN.out hen)
          have HB2 := Lib.hid (fbelow_t HBW.out hb2)
          have G2 := Lib.hid (HG.out.later hb2)
          clear hb2 hen
          have hn := entry_new (w2.alloc (.cells #[.int .i64 en.f.i, .int .i64 en.f.n, .int .i64 en.f.l, .string en.f.d, .int .i64 en.node, .int .i64 en.slot] 39)) en 39
          rw [World.size_alloc] at hn
          have HNW := Lib.hid hn
          clear hn
          have G3 := Lib.hid ((G2.out.alloc (.cells #[.int .i64 en.f.i, .int .i64 en.f.n, .int .i64 en.f.l, .string en.f.d, .int .i64 en.node, .int .i64 en.slot] 39)).alloc (.cells #[.int .i64 en.f.i, .int .i64 en.f.n, .int .i64 en.f.l, .string en.f.d, .int .i64 en.node, .int .i64 en.slot] 39))
          go_wp2_with (at_builtin; refine wpList_rowE rfl _ _ rfl rfl G3.out.1 G3.out.2.2 (w2.heap.size + 1) _ en rfl HNW.out (by have := HL.out; omega) ?_)
          intro v3 w3 ho3 hb3
          have G4 : Hid (GathE w.heap.size w v3 (L ++ [en]) w3) := Lib.hid ⟨by rw [List.length_append]; exact ho3, G3.out.2.1.trans hb3, Nat.le_trans G3.out.2.2 hb3.size⟩
          clear ho3 hb3
          go_wp2
          go_roundw
          case rel => exact ⟨p + 1, p + 1, L ++ [en], ⟨⟨Nat.le_refl _, by omega⟩, by have := HP.out.len; simp; omega, HNX.out, fun j h1 h2 => absurd h2 (by omega)⟩, by go_num, by go_num, by simp, G4.out⟩
          case measure => simp [intOf]; omega
        · have HO2 := Lib.hid (HP.out.par.out_ent HSP.out HN.out hno)
          have HB2 := Lib.hid (fbelow_t HBW.out hb2)
          clear hb2 hno
          go_wp2
          go_ret2
          exact parPost_none HO2.out (Below.allocL HB2.out _)
      · have e1 : (bt s p != 10) = true := by simpa using h10
        have H10 := Lib.hid h10
        clear h10
        go_wp2
        go_roundw
        case rel => exact ⟨p + 1, k, L, ⟨⟨by omega, by omega⟩, HP.out.len, HP.out.par, fun j h1 h2 => by
          by_cases hj : j = p
          · rw [hj]; exact H10.out
          · exact HP.out.no j h1 (by omega)⟩, by go_num, rfl, rfl, HG.out⟩
        case measure => simp [intOf]; omega
    · obtain rfl : p = s.size := by omega
      by_cases hk : k < s.size
      · have hk1 : (k : Int) < (s.size : Int) := by omega
        have HO2 := Lib.hid (HP.out.par.out_cut (by rw [byL_drop hk]; simp) (by
          have h1 := sub_none HP.out.no (Nat.le_refl _)
          rw [byL_extract, List.take_of_length_le (by rw [byL_len]; exact Nat.le_refl _)] at h1
          exact h1))
        go_wp2
        go_ret2
        exact parPost_none HO2.out HBW.out
      · have hk1 : ¬ (k : Int) < (s.size : Int) := by omega
        have HO2 : Hid (o = (L, -1)) := Lib.hid (by
          have h1 := HP.out.par
          rw [List.drop_eq_nil_of_le (by rw [byL_len]; omega)] at h1
          exact h1.out_nil)
        go_wp2
        go_ret2
        rw [HO2.out]
        exact ⟨HBW.out, _, rfl, HG.out.slice enC_len (by decide) (show L.length ≤ maxLen by have := HL.out; unfold maxLen; omega)⟩

end Go.Proofs.YtpjlomgiljpadaaDoor

namespace Go.Proofs.YtpjlomgiljpadaaDoor
open Go.RowKit
set_option linter.unusedVariables false

/-- what the loop knows of its memory: the cutter's box, the row behind it -/
structure GP (w : World) (t : ByteArray) (v : Value) (L : List En) (wr : World) : Prop where
  own : wr.ownsRow (w.heap.size + 1) 39 6 v L.length (rowG enC L)
  below : Below w.heap.size w wr
  box : wr.heap[w.heap.size]? = some (.cells #[.string t] 9)
theorem GP.start (w : World) (t : ByteArray) : GP w t (.slice none 0 0) [] (w.alloc (.cells #[.string t] 9)) :=
  ⟨World.ownsRow_nil _ _ _ _, (Below.refl _ _).alloc (Nat.le_refl _) _, heap_alloc_new _ _⟩
theorem GP.size {w wr : World} {t : ByteArray} {v : Value} {L : List En} (h : GP w t v L wr) : w.heap.size + 1 ≤ wr.heap.size := lt_of_heap h.box
theorem GP.later {w wr w1 : World} {t : ByteArray} {v : Value} {L : List En} (h : GP w t v L wr) (hb : Below wr.heap.size wr w1) : GP w t v L w1 :=
  ⟨ownG_below h.own hb, h.below.trans (hb.mono h.below.size), by rw [hb.block _ (lt_of_heap h.box)]; exact h.box⟩
theorem GP.alloc {w wr : World} {t : ByteArray} {v : Value} {L : List En} (h : GP w t v L wr) (o : Obj) : GP w t v L (wr.alloc o) := h.later ((Below.refl _ _).alloc (Nat.le_refl _) o)
theorem GP.cut {w wr w1 : World} {t r : ByteArray} {v : Value} {L : List En} (h : GP w t v L wr) (hb : Below wr.heap.size wr w1) : GP w r v L (w1.setCell ⟨w.heap.size, 0, none⟩ (.string r)) := by
  have h1 := h.later hb
  refine ⟨ownsRow_setCell_below h1.own (by simp) _, h1.below.setCell (p := ⟨w.heap.size, 0, none⟩) (Nat.le_refl _) _, ?_⟩
  exact heap_setCell_same w1 w.heap.size 0 _ _ _ h1.box
theorem GP.more {w wr w1 : World} {t : ByteArray} {v v' : Value} {L L' : List En} (h : GP w t v L wr) (ho : w1.ownsRow (w.heap.size + 1) 39 6 v' L'.length (rowG enC L')) (hb : Below (w.heap.size + 1) wr w1) : GP w t v' L' w1 :=
  ⟨ho, h.below.trans (hb.mono (by omega)), by rw [hb.block _ (by omega)]; exact h.box⟩
theorem GP.slice {w wr : World} {t : ByteArray} {v : Value} {L : List En} (h : GP w t v L wr) (hL : L.length ≤ maxLen) : SlE wr wr.heap.size v L :=
  GathG.slice enC_len (by decide) (show GathE (w.heap.size + 1) wr v L wr from ⟨h.own, Below.refl _ _, h.size⟩) hL
theorem rest_bt {s : ByteArray} {p j : Nat} (hj : p + j < s.size) : bt (s.extract p s.size) j = bt s (p + j) := bt_sub _ _ _ _ (by omega) (Nat.le_refl _)
theorem rest_rest {s : ByteArray} {p k : Nat} (hp : p + k < s.size) : (s.extract p s.size).extract (k + 1) (s.extract p s.size).size = s.extract (p + k + 1) s.size := by
  have e := sub_size s p s.size (Nat.le_refl _)
  refine bt_ext (by rw [sub_size _ _ _ (Nat.le_refl _), e, sub_size _ _ _ (Nat.le_refl _)]; omega) fun j hj => ?_
  rw [sub_size _ _ _ (Nat.le_refl _), e] at hj
  rw [bt_sub _ _ _ _ (by omega) (Nat.le_refl _), bt_sub _ _ _ _ (by omega) (Nat.le_refl _), bt_sub _ _ _ _ (by omega) (Nat.le_refl _)]
  congr 1; omega
theorem rest_piece {s : ByteArray} {p k : Nat} (hp : p + k < s.size) : (s.extract p s.size).extract 0 k = s.extract p (p + k) := by
  have e := sub_size s p s.size (Nat.le_refl _)
  refine bt_ext (by rw [sub_size _ _ _ (by omega), sub_size _ _ _ (by omega)]; omega) fun j hj => ?_
  rw [sub_size _ _ _ (by omega)] at hj
  rw [bt_sub _ _ _ _ (by omega) (by omega), bt_sub _ _ _ _ (by omega) (Nat.le_refl _), bt_sub _ _ _ _ (by omega) (by omega), Nat.zero_add]
theorem line_at {s : ByteArray} {p q : Nat} (hp : p ≤ q) (hq : q < s.size) (h10 : bt s q = 10) : byL (s.extract p (q + 1)) = byL (s.extract p q) ++ [10] := by
  rw [byL_extract, byL_extract, byL_take hq, h10, List.drop_append_of_le_length (by rw [List.length_take, byL_len]; omega)]
theorem dsub_run {s : ByteArray} {a b : Nat} {B : Int} (hB : B = (b : Int)) (h1 : a ≤ b) (h2 : b ≤ s.size) (w : World) :
    (Instr.sliceAt 9 (.string s) (some (.int .i64 (a : Int))) (some (.int .i64 B)) none).run Tryd.prog w = .ok (.string (s.extract a b)) w := by
  subst hB
  have e1 : (a : Int) ≤ (b : Int) := by omega
  have e2 : (b : Int) ≤ (s.size : Int) := by omega
  have e3 : ¬ ((s.size : Int) < (b : Int)) := by omega
  have e4 : ¬ ((b : Int) < (a : Int)) := by omega
  simp [go_sem, e1, e2, e3, e4, h1, h2]

theorem least {Q : Nat → Prop} (h : ∃ k, Q k) : ∃ k, Q k ∧ ∀ i, i < k → ¬ Q i := by
  obtain ⟨k, hk⟩ := h
  induction k using Nat.strongRecOn with
  | _ k ih =>
    by_cases hj : ∃ j, j < k ∧ Q j
    · obtain ⟨j, h1, h2⟩ := hj
      exact ih j h1 h2
    · exact ⟨k, hk, fun j h1 h2 => hj ⟨j, h1, h2⟩⟩

set_option maxHeartbeats 4000000 in
set_option maxRecDepth 100000 in
theorem dparse_any {s : ByteArray} {o : List En × Int} (ho : Par (byL s) [] o) (hs : s.size ≤ 100000) (w : World) (hT : TabD w) (hV : TabV w) :
    Calls Tryd.prog 18 #[.string s] w (ParPost o w) := by
  have HO := Lib.hid ho
  have HS := Lib.hid hs
  have HT := Lib.hid hT
  have HV := Lib.hid hV
  have hs9 : (s.size : Int) ≤ 100000 := by omega
  have H0 : Hid (GP w (s.extract 0 s.size) (.slice none 0 0) [] (w.alloc (.cells #[.string s] 9))) := Lib.hid (by
    have := GP.start w s
    have e : s.extract 0 s.size = s := by
      refine bt_ext (by rw [sub_size _ _ _ (Nat.le_refl _)]; omega) fun k hk => ?_
      rw [sub_size _ _ _ (Nat.le_refl _)] at hk
      rw [bt_sub _ _ _ _ (by omega) (Nat.le_refl _), Nat.zero_add]
    rw [e]; exact this)
  clear ho hT hV
  go_enter Tryd.func18, Tryd.ntmps18
  go_wp2_with fail
  refine (cutter_any s _).mono ?_
  rintro e w1 ⟨rfl, rfl⟩
  go_wp2_with fail
  go_loopw [4, 6] (fun v i wr => ∃ (p : Nat) (L : List En), p ≤ s.size ∧ L.length ≤ p ∧ Par ((byL s).drop p) L o ∧ i = .int .i64 p ∧ GP w (s.extract p s.size) v L wr) (fun _ i _ => s.size - (intOf i).toNat)
  case atStart => exact ⟨0, [], Nat.zero_le _, Nat.le_refl _, HO.out, rfl, H0.out⟩
  case round =>
    obtain ⟨p, L, hps, hlp, hpar, rfl, hG⟩ := hrel
    have HP := Lib.hid hpar
    obtain ⟨A, cap, hv, _⟩ := hG.slice (show L.length ≤ maxLen by unfold maxLen; omega)
    subst hv
    have HG := Lib.hid hG
    have hl9 : (L.length : Int) ≤ 100000 := by omega
    have hp9 : (p : Int) ≤ 100000 := by omega
    have HBW : Hid (Below w.heap.size w wr) := Lib.hid hG.below
    clear hpar hG H0
    by_cases hp : p < s.size
    · have hp1 : (p : Int) < (s.size : Int) := by omega
      have HR := Lib.hid (sub_size s p s.size (Nat.le_refl _))
      by_cases h10 : ∃ k, p + k < s.size ∧ bt s (p + k) = 10 ∧ ∀ j, j < k → bt s (p + j) ≠ 10
      · obtain ⟨k, hk, hk10, hkn⟩ := h10
        have HC : Hid (∀ b w, w.heap[b]? = some (.cells #[.string (s.extract p s.size)] 9) → Calls Tryd.prog 49 #[.int .i32 10, .pointer (some ⟨b, 0, none⟩)] w (CutYes b (s.extract p (p + k)) (s.extract (p + k + 1) s.size) w)) := Lib.hid (fun b w hb =>
          cut_yes_v (rest_piece hk) (rest_rest hk) (by rw [HR.out]; omega) (by rw [rest_bt hk]; exact hk10) (fun j hj => by rw [rest_bt (by omega)]; exact hkn j hj) (by omega) (by omega) (by rw [HR.out]; omega) w hb)
        have HSP := Lib.hid (drop_split (s := s) (k := p) (p := p + k) (by omega) hk hk10)
        have HN := Lib.hid (sub_none (s := s) (k := p) (p := p + k) (fun j h1 h2 => by have := hkn (j - p) (by omega); rwa [show p + (j - p) = j by omega] at this) (by omega))
        have HLN := Lib.hid (line_at (s := s) (p := p) (q := p + k) (by omega) hk hk10)
        have hPs : ((s.extract p (p + k)).size : Int) = (k : Int) := by rw [sub_size _ _ _ (by omega)]; omega
        have hsub := dsub_run (s := s) (a := p) (b := p + k + 1) (B := (p : Int) + (k : Int) + 1) (by omega) (by omega) (by omega)
        have hTs : (s.extract p (p + k + 1)).size ≤ 1000000 := by rw [sub_size _ _ _ (by omega)]; omega
        have HTS := Lib.hid hTs
        have HK := Lib.hid hk
        have hk9 : (p : Int) + (k : Int) + 1 ≤ 100000 := by omega
        have hkk : (0 : Int) ≤ (k : Int) := by omega
        clear hk10 hkn hTs hk
        generalize s.extract p (p + k) = P at HC HSP HN HLN hPs
        go_wp2_with fail
        refine (HC.out _ _ HG.out.box).mono ?_
        rintro e w1 ⟨rfl, w1', hb1, rfl⟩
        have G1 := Lib.hid (HG.out.cut (r := s.extract (p + k + 1) s.size) hb1)
        clear hb1
        generalize (w1'.setCell ⟨w.heap.size, 0, none⟩ (.string (s.extract (p + k + 1) s.size))) = w1 at G1 ⊢
        generalize s.extract p (p + k + 1) = T at hsub HTS HLN
        go_wp2_with fail
        refine (readLine_any HTS.out HLN.out _ (HT.out.below G1.out.below) (HV.out.below G1.out.below)).mono ?_
        rintro e w2 ⟨hb2, ⟨en, hen, rfl⟩ | ⟨hno, rfl⟩⟩
        · have HNX := Lib.hid (HP.out.next HSP.out HN.out hen)
          have G2 := Lib.hid (G1.out.later hb2)
          clear hb2 hen
          have hn := entry_new (w2.alloc (.cells #[.int .i64 en.f.i, .int .i64 en.f.n, .int .i64 en.f.l, .string en.f.d, .int .i64 en.node, .int .i64 en.slot] 39)) en 39
          rw [World.size_alloc] at hn
          have HNW := Lib.hid hn
          clear hn
          have G3 := Lib.hid ((G2.out.alloc (.cells #[.int .i64 en.f.i, .int .i64 en.f.n, .int .i64 en.f.l, .string en.f.d, .int .i64 en.node, .int .i64 en.slot] 39)).alloc (.cells #[.int .i64 en.f.i, .int .i64 en.f.n, .int .i64 en.f.l, .string en.f.d, .int .i64 en.node, .int .i64 en.slot] 39))
          go_wp2_with (at_builtin; refine wpList_rowE rfl _ _ rfl rfl G3.out.own G3.out.size (w2.heap.size + 1) _ en rfl HNW.out (by omega) ?_)
          intro v3 w3 ho3 hb3
          have G4 : Hid (GP w (s.extract (p + k + 1) s.size) v3 (L ++ [en]) w3) := Lib.hid (G3.out.more (by rw [List.length_append]; exact ho3) hb3)
          clear ho3 hb3
          go_wp2
          go_roundw
          case rel => exact ⟨p + k + 1, L ++ [en], by have := HK.out; omega, by simp; omega, HNX.out, by go_num, G4.out⟩
          case measure => have := HK.out; simp [intOf]; omega
        · have HO2 := Lib.hid (HP.out.out_ent HSP.out HN.out hno)
          have G2 := Lib.hid (G1.out.later hb2)
          clear hb2 hno
          go_wp2
          go_ret2
          exact parPost_none HO2.out (Below.allocL G2.out.below _)
      · have hno : ∀ j, j < (s.extract p s.size).size → bt (s.extract p s.size) j ≠ 10 := by
          intro j hj
          rw [HR.out] at hj
          rw [rest_bt (by omega)]
          intro he
          apply h10
          have : ∃ k, (p + k < s.size ∧ bt s (p + k) = 10) ∧ ∀ i, i < k → ¬ (p + i < s.size ∧ bt s (p + i) = 10) := least ⟨j, by omega, he⟩
          obtain ⟨k, ⟨h1, h2⟩, h3⟩ := this
          exact ⟨k, h1, h2, fun i hi e => h3 i hi ⟨by omega, e⟩⟩
        have HO2 := Lib.hid (HP.out.out_cut (by rw [byL_drop hp]; simp) (by
          intro hm
          have e : (byL s).drop p = byL (s.extract p s.size) := by rw [byL_extract, List.take_of_length_le (by rw [byL_len]; exact Nat.le_refl _)]
          rw [e] at hm
          obtain ⟨i, hi, hg⟩ := List.mem_iff_getElem.1 hm
          have hi' : i < (s.extract p s.size).size := by rw [byL_len] at hi; exact hi
          rw [byL_get hi'] at hg
          exact hno i hi' hg))
        have HNO := Lib.hid hno
        clear hno h10
        go_wp2_with fail
        refine (cut_no HNO.out (by omega) (by omega) _ HG.out.box).mono ?_
        rintro e w1 ⟨rfl, hb1⟩
        have G1 := Lib.hid (HG.out.later hb1)
        clear hb1
        go_wp2
        go_ret2
        exact parPost_none HO2.out G1.out.below
    · obtain rfl : p = s.size := by omega
      have HO2 : Hid (o = (L, -1)) := Lib.hid (by
        have h1 := HP.out
        rw [List.drop_eq_nil_of_le (by rw [byL_len]; omega)] at h1
        exact h1.out_nil)
      go_wp2
      go_ret2
      rw [HO2.out]
      exact ⟨HBW.out, _, rfl, HG.out.slice (show L.length ≤ maxLen by unfold maxLen; omega)⟩

end Go.Proofs.YtpjlomgiljpadaaDoor

namespace Go.Proofs.YtpjlomgiljpadaaDoor
open Go.RowKit
set_option linter.unusedVariables false

/-! ### few -/
def min5 (e : En) : Nat := min e.f.d.size 5000
def sumN (L : List En) (k : Nat) : Nat := ((L.take k).map min5).sum
def fewE (L : List En) : Bool := decide (L.length ≤ 30) && decide (sumN L (min L.length 31) ≤ 2500)
theorem sumN_succ (L : List En) (k : Nat) (h : k < L.length) : sumN L (k + 1) = sumN L k + min5 L[k] := by
  unfold sumN
  rw [List.take_succ_eq_append_getElem h, List.map_append, List.sum_append]
  simp only [List.map_cons, List.map_nil, List.sum_cons, List.sum_nil, Nat.add_zero]
theorem min5_le (f : En) : min5 f ≤ 5000 := Nat.min_le_right _ _
theorem sumN_le (L : List En) : ∀ k, sumN L k ≤ 5000 * k
  | 0 => by simp [sumN]
  | k + 1 => by
    have := sumN_le L k
    by_cases h : k < L.length
    · rw [sumN_succ L k h]; have := min5_le L[k]; omega
    · have e : sumN L (k + 1) = sumN L k := by unfold sumN; rw [List.take_of_length_le (by omega), List.take_of_length_le (by omega)]
      omega
theorem few_mine (n : Nat) : min (n : Int) 5000 = ((min n 5000 : Nat) : Int) := by omega

set_option maxHeartbeats 1000000 in
theorem efew_any {L : List En} {v : Value} {B : Nat} (w : World) (h : SlE w B v L) :
    Calls Tryd.prog 15 #[v] w fun e w' => e = .returned (.bool (fewE L)) ∧ w = w' := by
  have H := Lib.hid h
  obtain ⟨A, cap, rfl, hm, _⟩ := h
  unfold maxLen at hm
  go_enter Tryd.func15, Tryd.ntmps15
  go_wp2_with fail
  go_loop [3, 4] (fun n i => ∃ k : Nat, k ≤ L.length ∧ k ≤ 31 ∧ i = .int .i64 k ∧ n = .int .i64 (sumN L k)) (fun _ i => L.length - (intOf i).toNat)
  case atStart => exact ⟨0, by omega, by omega, rfl, rfl⟩
  case round =>
    obtain ⟨k, hk, hk41, rfl, rfl⟩ := hrel
    have hN := sumN_le L k
    have HN : (sumN L k : Int) ≤ 155000 := by omega
    clear hN
    by_cases hlt : k < L.length ∧ k ≤ 30
    · obtain ⟨h1, h2⟩ := hlt
      obtain ⟨x, cap', hv, hxb, hcell⟩ := H.out.at_ h1
      injection hv with hA hn hc
      subst hA hc
      have hc3 : w.cell? ⟨(x.add (k * 6)).block, (x.add (k * 6)).off + 3, none⟩ = some (.string (L[k]'h1).f.d) := hcell 3 _ rfl
      have hk1 : (k : Int) < (L.length : Int) := by omega
      have hk2 : (k : Int) ≤ 30 := by omega
      have hsucc := Lib.hid (sumN_succ L k h1)
      have hmin := few_mine (L[k]'h1).f.d.size
      have h5 := min5_le (L[k]'h1)
      have h6 : ((min5 (L[k]'h1) : Nat) : Int) ≤ 5000 := by omega
      have hmn : min ((L[k]'h1).f.d.size : Int) 5000 = ((min5 (L[k]'h1) : Nat) : Int) := hmin
      clear hcell hmin h5 hxb
      generalize min5 (L[k]'h1) = m at hsucc h6 hmn
      generalize (L[k]'h1).f.d = d at hc3 hmn
      go_wp2
      exact ⟨⟨k + 1, by omega, by omega, by go_num, by rw [hsucc.out]; go_num⟩, by simp [intOf]; omega⟩
    · have hkm : min L.length 31 = k := by omega
      have HF : Hid (fewE L = (decide (L.length ≤ 30) && decide (sumN L k ≤ 2500))) := Lib.hid (by unfold fewE; rw [hkm])
      clear hkm H
      generalize sumN L k = m at HN HF
      by_cases ha : L.length ≤ 30
      · obtain rfl : k = L.length := by omega
        have ha' : (L.length : Int) ≤ 30 := by omega
        clear hlt hk hk41
        by_cases hb : m ≤ 2500
        · have hb' : (m : Int) ≤ 2500 := by omega
          go_wp2
          go_ret
          exact ⟨by rw [HF.out, decide_eq_true ha, decide_eq_true hb]; rfl, rfl⟩
        · have hb' : ¬ (m : Int) ≤ 2500 := by omega
          go_wp2
          go_ret
          exact ⟨by rw [HF.out, decide_eq_true ha, decide_eq_false hb]; rfl, rfl⟩
      · obtain rfl : k = 31 := by omega
        have ha' : ¬ (L.length : Int) ≤ 30 := by omega
        have ha2 : (31 : Int) < (L.length : Int) ∨ ¬ (31 : Int) < (L.length : Int) := by omega
        have HFF : Hid (fewE L = false) := Lib.hid (by rw [HF.out, decide_eq_false ha]; rfl)
        clear HF HN hlt hk hk41
        rcases ha2 with ha2 | ha2
        · go_wp2
          go_ret
          exact ⟨by rw [HFF.out]; rfl, rfl⟩
        · go_wp2
          go_ret
          exact ⟨by rw [HFF.out]; rfl, rfl⟩

/-! ### Line at any entry -/
def lineB (e : En) : ByteArray := if e.ok then lineS e else ByteArray.mk #[]
def errB (e : En) : Int := if e.f.ok then (if e.ok then 0 else 2) else 4
def En.rd (e : En) : Prop := e.fits ∧ (e.f.ok = true ∨ (-9223372036854775808 ≤ e.f.n ∧ e.f.n ≤ 9223372036854775807))
theorem En.inRange.rd {e : En} (h : e.inRange) : e.rd := by
  have a := Go.bounds_i64 h.2.1
  have b := Go.bounds_i64 h.2.2.2.2.1
  have c := Go.bounds_i64 h.2.2.2.2.2
  exact ⟨⟨b.2, c.2⟩, .inr a⟩
theorem En.good.rd {e : En} (h : e.good) : e.rd := ⟨h.2, .inl (En.parts h.1).1⟩
theorem lineB_good {e : En} (h : e.good) : lineB e = lineS e := by unfold lineB; rw [if_pos h.1]
theorem lineB_size {e : En} (h : e.rd) : (lineB e).size ≤ 200 := by
  unfold lineB
  split
  · rename_i hk; exact (lineS_size hk h.1).1
  · exact Nat.zero_le _
theorem ok_or {e : En} (h1 : e.f.ok = true) (h2 : e.ok = false) : e.node < 0 ∨ e.slot < 0 := by
  unfold En.ok at h2
  rw [h1] at h2
  simp at h2
  by_cases h : 0 ≤ e.node
  · exact .inr (h2 h)
  · exact .inl (by omega)
theorem dline_all {e : En} {B : ByteArray} {c : Int} (hB : lineB e = B) (hc : errB e = c) (hr : e.rd) (w : World) (hT : TabD w) :
    Calls Tryd.prog 16 #[.agg #[.int .i64 e.f.i, .int .i64 e.f.n, .int .i64 e.f.l, .string e.f.d, .int .i64 e.node, .int .i64 e.slot]] w fun r w' => r = .returned (.tuple #[.string B, .int .i64 c]) ∧ Below w.heap.size w w' := by
  subst hB hc
  unfold lineB errB
  cases h1 : e.f.ok
  · have h2 : e.ok = false := by unfold En.ok; rw [h1]; rfl
    rw [h2]
    rcases hr.2 with h | h
    · rw [h1] at h; cases h
    · exact dline_frame (i := e.f.i) (n := e.f.n) (l := e.f.l) (d := e.f.d) h1 w hT h.1 h.2
  · cases h2 : e.ok
    · exact dline_arg (i := e.f.i) (n := e.f.n) (l := e.f.l) (d := e.f.d) h1 (ok_or h1 h2) w hT
    · exact dline_t h2 hr.1 w hT
theorem rline_all {e : En} {B : ByteArray} (hB : lineB e = B) (hr : e.rd) (w : World) :
    Calls Tryd.prog 17 #[.agg #[.int .i64 e.f.i, .int .i64 e.f.n, .int .i64 e.f.l, .string e.f.d, .int .i64 e.node, .int .i64 e.slot]] w fun r w' => r = .returned (.string B) ∧ Below w.heap.size w w' := by
  subst hB
  unfold lineB
  cases h2 : e.ok
  · refine rline_f (i := e.f.i) (n := e.f.n) (l := e.f.l) (d := e.f.d) ?_ w
    cases h1 : e.f.ok
    · exact .inl h1
    · exact .inr (ok_or h1 h2)
  · exact rline_t h2 hr.1 w

/-! ### Lines -/
def linesU (L : List En) : List UInt8 := L.flatMap fun e => (lineB e).data.toList
def linesB (L : List En) : ByteArray := ⟨(linesU L).toArray⟩
theorem linesU_snoc (L : List En) (e : En) : linesU (L ++ [e]) = linesU L ++ (lineB e).data.toList := by simp [linesU]
theorem linesU_le : ∀ L : List En, (∀ e ∈ L, e.rd) → (linesU L).length ≤ 200 * L.length
  | [], _ => by simp [linesU]
  | e :: L, h => by
    have h1 := linesU_le L (fun x hx => h x (List.mem_cons_of_mem _ hx))
    have h2 : (lineB e).data.toList.length ≤ 200 := by
      have := lineB_size (h e List.mem_cons_self)
      have : (lineB e).data.toList.length = (lineB e).size := by simp
      omega
    simp only [linesU, List.flatMap_cons, List.length_append, List.length_cons] at h1 ⊢
    omega
theorem byL_linesB : ∀ {L : List En}, (∀ e ∈ L, e.good) → byL (linesB L) = linesL L
  | [], _ => rfl
  | e :: L, h => by
    have h1 := byL_linesB (L := L) (fun x hx => h x (List.mem_cons_of_mem _ hx))
    have hg := h e List.mem_cons_self
    rw [linesL_cons, ← h1, ← byL_line hg.1, ← lineB_good hg]
    simp [byL, linesB, linesU]
theorem ewstr (B b : Nat) (l : List UInt8) (s : ByteArray) (w : World) (h : Lib.IsBuilder 62 5 B b (Lib.byteCells l) w) (hlen : l.length + s.size ≤ 140737488355328) (hBw : B ≤ w.heap.size) :
    Calls Tryd.prog 38 #[.pointer (some ⟨b, 0, none⟩), .string s] w fun e w' => e = .returned (.tuple #[.int .i64 s.size, .nilIface]) ∧ Lib.IsBuilder 62 5 B b (Lib.byteCells (l ++ s.data.toList)) w' ∧ Below B w w' := by
  refine (dwstr B b (Lib.byteCells l) s w h (by unfold Lib.byteCells; simpa using hlen) hBw).mono ?_
  rintro e w' ⟨he, hb, hbel⟩
  refine ⟨he, .inr ?_, hbel⟩
  rw [← byteCells_str]
  exact hb

set_option maxHeartbeats 1000000 in
theorem dlines_any {L : List En} {v : Value} {S : ByteArray} (hS : linesB L = S) (w : World) (hT : TabD w) (h : SlE w w.heap.size v L) (hr : ∀ e ∈ L, e.rd) (hlen : L.length ≤ 100000) :
    Calls Tryd.prog 19 #[v] w fun e w' => e = .returned (.string S) ∧ Below w.heap.size w w' := by
  subst hS
  have H := Lib.hid h
  have HT := Lib.hid hT
  have HR := Lib.hid hr
  obtain ⟨A, cap, rfl, hm, _⟩ := h
  unfold maxLen at hm
  have HBu := Lib.hid (Lib.fresh_isBuilder 62 5 w)
  clear hT hr
  go_enter Tryd.func19, Tryd.ntmps19
  go_wp2_with fail
  go_loopw [10] (fun i wr => ∃ k : Nat, k ≤ L.length ∧ i = .int .i64 k ∧ Lib.IsBuilder 62 5 w.heap.size w.heap.size (Lib.byteCells (linesU (L.take k))) wr ∧ Below w.heap.size w wr) (fun i _ => L.length - (intOf i).toNat)
  case atStart => exact ⟨0, by omega, rfl, HBu.out, (Below.refl _ _).alloc (Nat.le_refl _) _⟩
  case round =>
    obtain ⟨k, hk, rfl, hbu, hbw⟩ := hrel
    have HBU := Lib.hid hbu
    have HBW := Lib.hid hbw
    clear hbu hbw HBu
    by_cases hlt : k < L.length
    · obtain ⟨x, cap1, hv, hxb, hcell⟩ := (H.out.later HBW.out).at_ hlt
      injection hv with hA hn hc
      subst hA hc
      have a0 : wr.cell? (x.add (k * 6)) = some (.int .i64 (L[k]'hlt).f.i) := hcell 0 _ rfl
      have a1 : wr.cell? ⟨(x.add (k * 6)).block, (x.add (k * 6)).off + 1, none⟩ = some (.int .i64 (L[k]'hlt).f.n) := hcell 1 _ rfl
      have a2 : wr.cell? ⟨(x.add (k * 6)).block, (x.add (k * 6)).off + 2, none⟩ = some (.int .i64 (L[k]'hlt).f.l) := hcell 2 _ rfl
      have a3 : wr.cell? ⟨(x.add (k * 6)).block, (x.add (k * 6)).off + 3, none⟩ = some (.string (L[k]'hlt).f.d) := hcell 3 _ rfl
      have a4 : wr.cell? ⟨(x.add (k * 6)).block, (x.add (k * 6)).off + 4, none⟩ = some (.int .i64 (L[k]'hlt).node) := hcell 4 _ rfl
      have a5 : wr.cell? ⟨(x.add (k * 6)).block, (x.add (k * 6)).off + 5, none⟩ = some (.int .i64 (L[k]'hlt).slot) := hcell 5 _ rfl
      have hk1 : (k : Int) < (L.length : Int) := by omega
      have hk0 : (0 : Int) ≤ (k : Int) := by omega
      have HF := Lib.hid (HR.out _ (List.getElem_mem hlt))
      have HS : Hid (linesU (L.take (k + 1)) = linesU (L.take k) ++ (lineB (L[k]'hlt)).data.toList) := Lib.hid (by rw [List.take_succ_eq_append_getElem hlt, linesU_snoc])
      have HLen : Hid ((linesU (L.take k)).length ≤ 200 * 100000) := Lib.hid (by have := linesU_le (L.take k) (fun e he => HR.out e (List.mem_of_mem_take he)); have := List.length_take_le k L; omega)
      clear hcell hxb
      generalize L[k]'hlt = e at a0 a1 a2 a3 a4 a5 HF HS
      obtain ⟨B, hB⟩ : ∃ B, lineB e = B := ⟨_, rfl⟩
      obtain ⟨c, hc⟩ : ∃ c, errB e = c := ⟨_, rfl⟩
      have HB := Lib.hid hB
      have HC := Lib.hid hc
      have HBs : Hid (B.size ≤ 200) := Lib.hid (by rw [← hB]; exact lineB_size HF.out)
      rw [hB] at HS
      clear hB hc
      go_wp2_with fail
      refine (dline_all HB.out HC.out HF.out _ ((HT.out.below HBW.out).alloc _)).mono ?_
      rintro r w2 ⟨rfl, hb2⟩
      have hB2 := Lib.hid (fbelow_t (Below.allocL HBW.out _) hb2)
      have HBU2 := Lib.hid (builder_below HBU.out (fbelow_a _ hb2))
      clear hb2
      go_wp2_with fail
      refine (ewstr _ _ _ B _ HBU2.out (by have := HLen.out; have := HBs.out; omega) hB2.out.size).mono ?_
      rintro r w3 ⟨rfl, hbu3, hb3⟩
      have HX := Lib.hid (And.intro hbu3 (hB2.out.trans hb3))
      clear hbu3 hb3
      go_wp2
      go_roundw
      case rel => exact ⟨k + 1, by omega, by go_num, by rw [HS.out]; exact HX.out.1, HX.out.2⟩
      case measure => simp [intOf]; omega
    · obtain rfl : k = L.length := by omega
      rw [List.take_length] at HBU
      go_wp2_with fail
      refine (Tryd.Builder_String_any _ _ _ _ HBU.out HBW.out.size).mono ?_
      rintro r w2 ⟨rfl, hb2⟩
      have HB2 := Lib.hid (HBW.out.trans hb2)
      clear hb2
      go_wp2
      go_ret
      exact ⟨rfl, HB2.out⟩

end Go.Proofs.YtpjlomgiljpadaaDoor

namespace Go.Proofs.YtpjlomgiljpadaaDoor
open Go.RowKit
set_option linter.unusedVariables false

theorem ebelow_drewN {w w' : World} {B : Nat} (h : Below B w w') (n : Nat) : Below B w (w'.drewN n) := ⟨h.os, h.tape, h.output, h.size, h.block⟩
theorem TabD.drewN {w : World} (h : TabD w) (n : Nat) : TabD (w.drewN n) := h
theorem lineL_pos (e : En) : 1 ≤ (lineL e).length := by unfold lineL; simp
theorem linesL_ge : ∀ L : List En, L.length ≤ (linesL L).length
  | [] => by simp [linesL]
  | e :: L => by
    have := linesL_ge L
    have := lineL_pos e
    rw [linesL_cons, List.length_append, List.length_cons]
    omega

set_option maxHeartbeats 2000000 in
theorem dumpParses_walk (s : ByteArray) (ws : s.size ≤ maxLen) (w : World) (hT1 : Tabs w) (hT2 : Tab10 w) (hV : TabV w) :
    Calls Tryd.prog 7 #[.string s] w fun e w' => e = .returned (.bool true) ∧ Below w.heap.size w w' := by
  have HT : Hid (TabD w) := Lib.hid ⟨hT1, hT2⟩
  have HV := Lib.hid hV
  clear hT1 hT2 ws hV
  by_cases hl : (2000 : Int) < s.size
  · go_enter Tryd.func7, Tryd.ntmps7
    go_wp2_with fail
    refine (dalive_any _ HT.out).mono ?_
    rintro e w1 ⟨rfl, hb1⟩
    go_wp2
    go_ret
    exact ⟨rfl, hb1⟩
  have hl2 : (s.size : Int) ≤ 2000 := by omega
  have HS : Hid (s.size ≤ 2000) := Lib.hid (by omega)
  obtain ⟨o, ho⟩ := par_ex (byL s).length (byL s) [] (Nat.le_refl _)
  have htold := ho.told (fun e h => by cases h)
  have HO := Lib.hid ho
  clear hl ho
  obtain ⟨E, q⟩ := o
  have es := seq_self s
  have eq2 : ((q : Int) == (q : Int)) = true := by simp
  simp only at htold
  rcases htold with ⟨rfl, h2, h3⟩ | ⟨h1, rfl⟩
  · have HG := Lib.hid h3
    have hES : linesB E = s := byL_inj (by rw [byL_linesB h3, h2]; simp [linesL])
    have HES := Lib.hid hES
    have HEL : Hid (E.length ≤ 100000) := Lib.hid (by have := linesL_ge E; rw [h2] at this; simp [linesL, byL_len] at this; omega)
    clear h2 h3 hES
    go_enter Tryd.func7, Tryd.ntmps7
    go_wp2_with fail
    refine (dparse_any HO.out (by have := HS.out; omega) _ HT.out HV.out).mono ?_
    rintro e w1 ⟨hb1, v1, rfl, hv1⟩
    have HB1 := Lib.hid hb1
    have T1 : Hid (TabD w1) := Lib.hid (HT.out.below hb1)
    have V1 := Lib.hid hv1
    clear hb1 hv1
    go_wp2_with fail
    refine (rparse_any HO.out (by have := HS.out; omega) _).mono ?_
    rintro e w2 ⟨hb2, v2, rfl, hv2⟩
    have HB2 := Lib.hid (fbelow_t HB1.out hb2)
    have T2 : Hid (TabD w2) := Lib.hid (T1.out.below hb2)
    have V2 := Lib.hid (V1.out.later hb2)
    have U2 := Lib.hid hv2
    clear hb2 hv2
    go_wp2_with fail
    refine (esame_t _ V2.out U2.out).mono ?_
    rintro e w3 ⟨rfl, m, rfl⟩
    go_wp2_with fail
    refine (dlines_any HES.out _ (T2.out.drewN _) (V2.out.drewN _) (fun e h => (HG.out e h).rd) HEL.out).mono ?_
    rintro e w4 ⟨rfl, hb4⟩
    have HB4 := Lib.hid (fbelow_t (ebelow_drewN HB2.out m) hb4)
    have T4 : Hid (TabD w4) := Lib.hid ((T2.out.drewN m).below hb4)
    clear hb4
    go_wp2_with fail
    refine (dalive_any _ T4.out).mono ?_
    rintro e w5 ⟨rfl, hb5⟩
    have HB5 := Lib.hid (fbelow_t HB4.out hb5)
    clear hb5
    go_wp2
    go_ret
    exact ⟨rfl, HB5.out⟩
  · go_enter Tryd.func7, Tryd.ntmps7
    go_wp2_with fail
    refine (dparse_any HO.out (by have := HS.out; omega) _ HT.out HV.out).mono ?_
    rintro e w1 ⟨hb1, v1, rfl, hv1⟩
    have HB1 := Lib.hid hb1
    have T1 : Hid (TabD w1) := Lib.hid (HT.out.below hb1)
    have V1 := Lib.hid hv1
    clear hb1 hv1
    go_wp2_with fail
    refine (rparse_any HO.out (by have := HS.out; omega) _).mono ?_
    rintro e w2 ⟨hb2, v2, rfl, hv2⟩
    have HB2 := Lib.hid (fbelow_t HB1.out hb2)
    have T2 : Hid (TabD w2) := Lib.hid (T1.out.below hb2)
    have V2 := Lib.hid (V1.out.later hb2)
    have U2 := Lib.hid hv2
    clear hb2 hv2
    go_wp2_with fail
    refine (esame_t _ V2.out U2.out).mono ?_
    rintro e w3 ⟨rfl, m, rfl⟩
    go_wp2_with fail
    refine (dalive_any _ (T2.out.drewN _)).mono ?_
    rintro e w4 ⟨rfl, hb4⟩
    have HB4 := Lib.hid (fbelow_t (ebelow_drewN HB2.out _) hb4)
    clear hb4
    go_wp2
    go_ret
    exact ⟨rfl, HB4.out⟩

end Go.Proofs.YtpjlomgiljpadaaDoor
