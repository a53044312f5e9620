/- Dump: contracts of Read. -/
import Derived.Test.YtpjlomgiljpadaaDoorDmpAc
namespace Go.Proofs.YtpjlomgiljpadaaDoor
open Go.RowKit
set_option linter.unusedVariables false

theorem R1.setOther {w wv : World} (h : R1 w wv) {k : Nat} (hk : w.heap.size < k) (j : Nat) (v : Value) : R1 w (wv.setCell ⟨k, j, none⟩ v) :=
  ⟨h.below.setCell (p := ⟨k, j, none⟩) (by simp only; omega) _, by rw [Below.heap_setCell _ _ _ _ (by simp only; omega)]; exact h.r⟩
theorem cut_yes_v {t p r : ByteArray} {c : Int} {k b : Nat} {ty : TypeId} (hp : t.extract 0 k = p) (hr : t.extract (k + 1) t.size = r) (hk : k < t.size) (hbk : bt t k = c) (hc : ∀ j, j < k → bt t j ≠ c) (c0 : 0 ≤ c) (c1 : c < 128) (ht : t.size ≤ 100000000) (w : World) (hb : w.heap[b]? = some (.cells #[.string t] ty)) :
    Calls Tryd.prog 49 #[.int .i32 c, .pointer (some ⟨b, 0, none⟩)] w (CutYes b p r w) := by
  rw [← hp, ← hr]; exact cut_yes hk hbk hc c0 c1 ht w hb

def readPost (o : Option Fr) (w : World) (e : Ending) (w' : World) : Prop :=
  (match o with | some f => e = .returned (.tuple #[.agg #[.int .i64 f.i, .int .i64 f.n, .int .i64 f.l, .string f.d], .int .i64 0]) | none => e = .returned (.tuple #[.agg #[.int .i64 0, .int .i64 0, .int .i64 0, .string (ByteArray.mk #[])], .int .i64 3])) ∧ Below w.heap.size w w'
theorem readPost_n {o : Option Fr} {w w' : World} (h : o = none) (hb : Below w.heap.size w w') : readPost o w (.returned (.tuple #[.agg #[.int .i64 0, .int .i64 0, .int .i64 0, .string (ByteArray.mk #[])], .int .i64 3])) w' := by subst h; exact ⟨rfl, hb⟩
theorem readPost_y {o : Option Fr} {i n l : Int} {d : ByteArray} {w w' : World} (h : o = some ⟨i, n, l, d⟩) (hb : Below w.heap.size w w') : readPost o w (.returned (.tuple #[.agg #[.int .i64 i, .int .i64 n, .int .i64 l, .string d], .int .i64 0])) w' := by subst h; exact ⟨rfl, hb⟩
theorem bits_or_bd (a b : Int) : -9223372036854775808 ≤ bits .or .i64 a b ∧ bits .or .i64 a b ≤ 9223372036854775807 := by
  show -9223372036854775808 ≤ IntKind.i64.wrap _ ∧ IntKind.i64.wrap _ ≤ 9223372036854775807
  rw [IntKind.wrap_i64]; omega
theorem or_all4 : ∀ k : Fin 4, ∀ q : Fin 3, (let hn : Int := if q.val = 0 then 0 else if q.val = 1 then 1 else 4
    bits .or .i64 (8 + 16 * ((k.val : Nat) : Int)) hn = 8 + 16 * ((k.val : Nat) : Int) + hn) := by decide +kernel
theorem or_raw {hn : Int} (hh : hn = 0 ∨ hn = 1 ∨ hn = 4) : bits .or .i64 0 hn = 0 + hn := by rcases hh with rfl | rfl | rfl <;> decide +kernel
theorem or_ask {hn : Int} (hh : hn = 0 ∨ hn = 1 ∨ hn = 4) : bits .or .i64 2 hn = 2 + hn := by rcases hh with rfl | rfl | rfl <;> decide +kernel
theorem or_body {b : List Int} {g : Fr} {hn : Int} (h : bodyO b = some g) (hh : hn = 0 ∨ hn = 1 ∨ hn = 4) : bits .or .i64 g.n hn = g.n + hn := by
  have z : ∀ {b : List Int}, rawO b = some g → bits .or .i64 g.n hn = g.n + hn := by
    intro b h
    obtain ⟨d, _, rfl⟩ := Option.map_eq_some_iff.1 h
    exact or_raw hh
  match b, h with
  | [], h => exact z h
  | c :: t, h =>
    simp only [bodyO] at h
    split at h
    · match t, h with
      | [], h => cases h
      | m :: t, h =>
        simp only [fdO] at h
        split at h
        · rename_i hm
          obtain ⟨d, _, rfl⟩ := Option.map_eq_some_iff.1 h
          simp only
          have m0 := dig_nn m
          generalize dig m = y at *
          obtain ⟨k, rfl⟩ := Int.eq_ofNat_of_zero_le m0
          have hk : k < 4 := by omega
          rcases hh with rfl | rfl | rfl
          · exact or_all4 ⟨k, hk⟩ 0
          · exact or_all4 ⟨k, hk⟩ 1
          · exact or_all4 ⟨k, hk⟩ 2
        · cases h
    · split at h
      · match t, h with
        | [], h =>
          simp only [askO, Option.some.injEq] at h
          subst h
          exact or_ask hh
        | [z], h =>
          simp only [askO] at h
          split at h
          · simp only [Option.some.injEq] at h
            subst h
            exact or_ask hh
          · cases h
        | _ :: _ :: _, h => cases h
      · exact z h

set_option maxHeartbeats 2000000 in
theorem dread_no {s : ByteArray} (hc : cutL 35 (byL s) = none) (w : World) :
    Calls Tryd.prog 11 #[.string s] w (readPost (readO (byL s)) w) := by
  have HO : Hid (readO (byL s) = none) := Lib.hid (by unfold readO; rw [hc])
  have HN : Hid (∀ j, j < s.size → bt s j ≠ 35) := Lib.hid (fun j hj hcc => cutL_no hc (by rw [← hcc, ← byL_get hj]; exact List.getElem_mem _))
  clear hc
  go_enter Tryd.func11, Tryd.ntmps11
  go_wp2_with fail
  refine (cutter_any s _).mono ?_
  rintro e w1 ⟨rfl, rfl⟩
  have HR0 : Hid (R1 w ((w.alloc (frCs 0 0 0 (ByteArray.mk #[]))).alloc (.cells #[.string s] 9))) := Lib.hid (R1.start.alloc _)
  have HH : Hid (((w.alloc (frCs 0 0 0 (ByteArray.mk #[]))).alloc (.cells #[.string s] 9)).heap[w.heap.size + 1]? = some (.cells #[.string s] 9)) := Lib.hid (by
    have := heap_alloc_new (w.alloc (frCs 0 0 0 (ByteArray.mk #[]))) (.cells #[.string s] 9)
    simpa using this)
  go_wp2_with fail
  refine (cut_no HN.out (by omega) (by omega) _ HH.out).mono ?_
  rintro e wa ⟨rfl, hb⟩
  have HR := Lib.hid (HR0.out.later hb)
  clear hb
  obtain ⟨⟨c0, c1, c2, c3, v0, v1, v2, v3⟩, hz⟩ := HR.out.facts
  go_wp2_with fail
  refine bodyPost_ret (v := .tuple #[.agg #[.int .i64 0, .int .i64 0, .int .i64 0, .string (ByteArray.mk #[])], .int .i64 3]) (by simp [results, Tryd.results11, go_sem, c0, c1, c2, c3]) rfl (readPost_n HO.out ?_)
  exact HR.out.done _ _ _ _

set_option maxHeartbeats 4000000 in
theorem dread_cut {s : ByteArray} {a b : List Int} (hs : s.size ≤ 1000000) (hc : cutL 35 (byL s) = some (a, b)) (w : World) (hT : Tabs w) :
    Calls Tryd.prog 11 #[.string s] w (readPost (readO (byL s)) w) := by
  obtain ⟨p1, p2, p3, p4, p5, p6⟩ := cut_parts hc
  obtain ⟨A, hA⟩ : ∃ A, s.extract 0 a.length = A := ⟨_, rfl⟩
  obtain ⟨B, hB⟩ : ∃ B, s.extract (a.length + 1) s.size = B := ⟨_, rfl⟩
  have hAs : A.size = a.length := by rw [← hA, sub_size _ _ _ (by omega)]; omega
  have HAL : Hid (byL A = a) := Lib.hid (by rw [← hA]; exact p4)
  have HBL : Hid (byL B = b) := Lib.hid (by rw [← hB]; exact p5)
  have HBs : Hid (B.size ≤ 1000000) := Lib.hid (by rw [← hB, sub_size _ _ _ (Nat.le_refl _)]; omega)
  have hC : Hid (∀ (bb : Nat) (w : World), w.heap[bb]? = some (.cells #[.string s] 9) → Calls Tryd.prog 49 #[.int .i32 35, .pointer (some ⟨bb, 0, none⟩)] w (CutYes bb A B w)) := Lib.hid (fun bb w h => cut_yes_v hA hB p1 p2 p3 (by omega) (by omega) (by omega) w h)
  rw [← hAs] at hB
  have hsl : A.size + 1 ≤ s.size := by omega
  have hsl2 : (A.size : Int) + 1 ≤ (s.size : Int) := by omega
  have HC := Lib.hid hc
  have HT := Lib.hid hT
  clear hA hAs p1 p2 p3 p4 p5 p6 hc hT
  go_enter Tryd.func11, Tryd.ntmps11
  go_wp2_with fail
  refine (cutter_any s _).mono ?_
  rintro e w1 ⟨rfl, rfl⟩
  have HR0 : Hid (R1 w ((w.alloc (frCs 0 0 0 (ByteArray.mk #[]))).alloc (.cells #[.string s] 9))) := Lib.hid (R1.start.alloc _)
  have HH : Hid (((w.alloc (frCs 0 0 0 (ByteArray.mk #[]))).alloc (.cells #[.string s] 9)).heap[w.heap.size + 1]? = some (.cells #[.string s] 9)) := Lib.hid (by
    have := heap_alloc_new (w.alloc (frCs 0 0 0 (ByteArray.mk #[]))) (.cells #[.string s] 9)
    simpa using this)
  go_wp2_with fail
  refine (hC.out _ _ HH.out).mono ?_
  rintro e wa ⟨rfl, wx, hb, rfl⟩
  have HR := Lib.hid ((HR0.out.later hb).setOther (k := w.heap.size + 1) (by omega) 0 (.string B))
  clear hb
  generalize wx.setCell ⟨w.heap.size + 1, 0, none⟩ (.string B) = wa at HR ⊢
  go_wp2_with fail
  refine (readIdent_any _).mono ?_
  rintro e wb ⟨i1, n1, l1, d1, b1, rfl, hb, ho1⟩
  have HRb := Lib.hid (HR.out.later hb)
  have HO1 := Lib.hid ho1
  clear hb ho1
  go_wp2_with fail
  refine (readBody_any HBs.out _).mono ?_
  rintro e wc ⟨i2, n2, l2, d2, b2, rfl, hb, ho2⟩
  have HRc := Lib.hid ((HRb.out.alloc _).later hb)
  have HO2 := Lib.hid ho2
  have hn6 : wc.heap[wb.heap.size]? = some (frCs i1 n1 l1 d1) := by
    rw [hb.block _ (by simp)]; exact heap_alloc_new _ _
  obtain ⟨g0, g1, g2, g3, _, _, _, _⟩ := cells4 hn6
  have hz6 : wb.heap.size < wc.heap.size := lt_of_heap hn6
  obtain ⟨⟨c0, c1, c2, c3, v0, v1, v2, v3⟩, hz⟩ := HRc.out.facts
  clear hb ho2 hn6
  cases b1
  · have HO : Hid (readO (byL s) = none) := Lib.hid (readO_no HC.out (.inl (by
      have := HO1.out
      rw [HAL.out] at this
      cases hh : headO a with
      | none => rfl
      | some p => rw [hh] at this; exact absurd this.1 (by decide))))
    go_wp2_with fail
    refine bodyPost_ret (v := .tuple #[.agg #[.int .i64 0, .int .i64 0, .int .i64 0, .string (ByteArray.mk #[])], .int .i64 3]) (by simp [results, Tryd.results11, go_sem, c0, c1, c2, c3, hz, World.cell?_alloc_lt]) rfl (readPost_n HO.out ?_)
    exact Below.allocL (HRc.out.done _ _ _ _) _
  cases b2
  · have HO : Hid (readO (byL s) = none) := Lib.hid (readO_no HC.out (.inr (by
      have := HO2.out
      rw [HBL.out] at this
      cases hh : bodyO b with
      | none => rfl
      | some p => rw [hh] at this; exact absurd this.1 (by decide))))
    go_wp2_with fail
    refine bodyPost_ret (v := .tuple #[.agg #[.int .i64 0, .int .i64 0, .int .i64 0, .string (ByteArray.mk #[])], .int .i64 3]) (by simp [results, Tryd.results11, go_sem, c0, c1, c2, c3, hz, World.cell?_alloc_lt]) rfl (readPost_n HO.out ?_)
    exact Below.allocL (HRc.out.done _ _ _ _) _
  obtain ⟨hh1, hh2, hor⟩ : headO a = some (i1, n1) ∧ bodyO b = some ⟨i2, n2, l2, d2⟩ ∧ bits .or .i64 n2 n1 = n2 + n1 := by
    have h1 := HO1.out
    rw [HAL.out] at h1
    have h2 := HO2.out
    rw [HBL.out] at h2
    cases hh : headO a with
    | none => rw [hh] at h1; cases h1
    | some p =>
      rw [hh] at h1
      obtain ⟨_, h1⟩ := h1
      injection h1 with e1 e2 _ _
      obtain ⟨pp, qq⟩ := p
      simp only at e1 e2
      subst e1 e2
      cases hg : bodyO b with
      | none => rw [hg] at h2; cases h2
      | some f =>
        rw [hg] at h2
        obtain ⟨_, rfl⟩ := h2
        exact ⟨rfl, rfl, or_body hg (head_up hh).1⟩
  have HO := Lib.hid (readO_of HC.out hh1 hh2 rfl)
  clear hh1 hh2
  simp only at HO
  have hTc : Hid (Tabs wc) := Lib.hid (HT.out.below HRc.out.below)
  obtain ⟨n, hn⟩ : ∃ n, n2 + n1 = n := ⟨_, rfl⟩
  rw [hn] at hor HO
  clear hn
  cases hq : okF i1 n l2 d2.size
  · have HQ := Lib.hid hq
    have HON : Hid (readO (byL s) = none) := Lib.hid (HO.out.trans (by rw [hq]; rfl))
    have hnb : -9223372036854775808 ≤ n ∧ n ≤ 9223372036854775807 := by rw [← hor]; exact bits_or_bd _ _
    clear hq
    go_wp2_with fail
    refine (right_f HQ.out _ (hTc.out.alloc _) hnb.1 hnb.2).mono ?_
    rintro e wd ⟨rfl, hb⟩
    have HRd := Lib.hid ((HRc.out.alloc _).later hb)
    clear hb c0 c1 c2 c3 v0 v1 v2 v3 hz
    obtain ⟨⟨c0, c1, c2, c3, v0, v1, v2, v3⟩, hz⟩ := HRd.out.facts
    go_wp2_with fail
    refine bodyPost_ret (v := .tuple #[.agg #[.int .i64 0, .int .i64 0, .int .i64 0, .string (ByteArray.mk #[])], .int .i64 3]) (by simp [results, Tryd.results11, go_sem, c0, c1, c2, c3]) rfl (readPost_n HON.out ?_)
    exact HRd.out.done _ _ _ _
  · have HQ := Lib.hid hq
    have HON : Hid (readO (byL s) = some ⟨i1, n, l2, d2⟩) := Lib.hid (HO.out.trans (by rw [hq]; rfl))
    clear hq
    go_wp2_with fail
    refine (right_t HQ.out _ (hTc.out.alloc _)).mono ?_
    rintro e wd ⟨rfl, hb⟩
    have HRd := Lib.hid ((HRc.out.alloc _).later hb)
    have hn8 : wd.heap[wc.heap.size]? = some (frCs i1 n l2 d2) := by
      rw [hb.block _ (by simp)]; exact heap_alloc_new _ _
    obtain ⟨k0, k1, k2, k3, _, _, _, _⟩ := cells4 hn8
    clear hb c0 c1 c2 c3 v0 v1 v2 v3 hz hn8
    obtain ⟨⟨c0, c1, c2, c3, v0, v1, v2, v3⟩, hz⟩ := HRd.out.facts
    go_wp2_with fail
    refine bodyPost_ret (v := .tuple #[.agg #[.int .i64 i1, .int .i64 n, .int .i64 l2, .string d2], .int .i64 0]) (by simp [results, Tryd.results11, go_sem, c0, c1, c2, c3]) rfl (readPost_y HON.out ?_)
    exact HRd.out.done _ _ _ _
theorem dread_any {s : ByteArray} (hs : s.size ≤ 1000000) (w : World) (hT : Tabs w) :
    Calls Tryd.prog 11 #[.string s] w (readPost (readO (byL s)) w) := by
  cases hc : cutL 35 (byL s) with
  | none => exact dread_no hc w
  | some p => exact dread_cut hs hc w hT
theorem dread_t {s : ByteArray} {f : Fr} (hs : s.size ≤ 1000000) (h : readO (byL s) = some f) (w : World) (hT : Tabs w) :
    Calls Tryd.prog 11 #[.string s] w fun e w' => e = .returned (.tuple #[.agg #[.int .i64 f.i, .int .i64 f.n, .int .i64 f.l, .string f.d], .int .i64 0]) ∧ Below w.heap.size w w' :=
  (dread_any hs w hT).mono fun e w' hp => by unfold readPost at hp; rw [h] at hp; exact hp
theorem dread_f {s : ByteArray} (hs : s.size ≤ 1000000) (h : readO (byL s) = none) (w : World) (hT : Tabs w) :
    Calls Tryd.prog 11 #[.string s] w fun e w' => e = .returned (.tuple #[.agg #[.int .i64 0, .int .i64 0, .int .i64 0, .string (ByteArray.mk #[])], .int .i64 3]) ∧ Below w.heap.size w w' :=
  (dread_any hs w hT).mono fun e w' hp => by unfold readPost at hp; rw [h] at hp; exact hp

end Go.Proofs.YtpjlomgiljpadaaDoor
