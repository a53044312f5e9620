/- Bus, the code: present: who is not off, in order; plain: who offers, who has a part in a slot. Bus, the code: who offers: the closure that gathers, and the loop. Bus, the code: offered. Bus, the code: rest. -/
import Derived.Test.YtpgfifacfkllfaaDoorZbb
import Derived.Test.YtpgfifacfkllfaaDoorZaz
import Derived.Test.YtpgfifacfkllfaaDoorZag
import Derived.Test.YtpgfifacfkllfaaDoorZba
namespace Go.Proofs.YtpgfifacfkllfaaDoor
open Go.RowKit
set_option linter.unusedVariables false

theorem info_int2 : (Tryd.prog.info? 3).map (fun i => (i.zero, i.size, i.bytes)) = some (some (.int .i64 0), 1, 8) := by kernel_rfl
theorem flat_int : FlatE Tryd.prog 71 3 1 8 := by
  obtain ⟨i0, hi, hz0, hz1, hz2⟩ := info_parts info_int2
  exact ⟨Tryd.underlying71, i0, _, hi, hz0, hz1, hz2, rfl, by decide, by decide⟩
theorem intC_one : ∀ n : Int, ∀ u ∈ intC n, u.oneCell' = true := fun n u hu => by
  simp only [intC, List.mem_cons, List.not_mem_nil, or_false] at hu
  subst hu; rfl
/-! ### who is present -/
def Bs.prs (s : Bs) : Nat → List Nat
  | 0 => []
  | i + 1 => s.prs i ++ if s.off i then [] else [i]
def natI (L : List Nat) : List Int := L.map fun n : Nat => (n : Int)
/-- who offers, of some nodes -/
def Bs.offP (s : Bs) (own : Fr) (has : Bool) (L : List Nat) : List (Nat × Fr) := L.flatMap fun i => if s.has own has i then [(i, s.x own i)] else []
/-- who offers, of the first so many nodes -/
def Bs.offs (s : Bs) (own : Fr) (has : Bool) : Nat → List (Nat × Fr)
  | 0 => []
  | i + 1 => s.offs own has i ++ if s.has own has i && !s.off i then [(i, s.x own i)] else []
section
variable {s : Bs} {own : Fr} {has : Bool}
theorem prs_len : ∀ i, (s.prs i).length ≤ i
  | 0 => Nat.le_refl _
  | i + 1 => by
    have := prs_len i
    unfold Bs.prs
    rw [List.length_append]
    split <;> simp <;> omega
theorem prs_in : ∀ i a, a ∈ s.prs i ↔ a < i ∧ s.off a = false
  | 0, a => by unfold Bs.prs; simp
  | i + 1, a => by
    unfold Bs.prs
    rw [List.mem_append, prs_in i a]
    cases h : s.off i
    · simp only [Bool.false_eq_true, if_false, List.mem_singleton]
      constructor
      · rintro (⟨h1, h2⟩ | rfl)
        · exact ⟨by omega, h2⟩
        · exact ⟨by omega, h⟩
      · rintro ⟨h1, h2⟩
        by_cases e : a = i
        · exact .inr e
        · exact .inl ⟨by omega, h2⟩
    · simp only [if_true, List.not_mem_nil, or_false]
      constructor
      · rintro ⟨h1, h2⟩; exact ⟨by omega, h2⟩
      · rintro ⟨h1, h2⟩
        refine ⟨?_, h2⟩
        by_cases e : a = i
        · subst e; rw [h] at h2; cases h2
        · omega
theorem prs_nodup : ∀ i, (s.prs i).Nodup
  | 0 => List.nodup_nil
  | i + 1 => by
    unfold Bs.prs
    rw [List.nodup_append]
    refine ⟨prs_nodup i, by split <;> simp, fun a ha b hb e => ?_⟩
    subst e
    have h1 := ((prs_in i a).1 ha).1
    split at hb
    · cases hb
    · simp at hb; omega
theorem offP_app (L M : List Nat) : s.offP own has (L ++ M) = s.offP own has L ++ s.offP own has M := by unfold Bs.offP; rw [List.flatMap_append]
theorem offs_prs : ∀ i, s.offs own has i = s.offP own has (s.prs i)
  | 0 => rfl
  | i + 1 => by
    unfold Bs.offs Bs.prs
    rw [offP_app, offs_prs i]
    congr 1
    cases h : s.off i
    · unfold Bs.offP; simp
    · unfold Bs.offP; simp
theorem prs_sl (n : Int) : ∀ i, Bs.prs { s with sl := n } i = s.prs i
  | 0 => rfl
  | i + 1 => by unfold Bs.prs; rw [prs_sl n i]; rfl
end
/-! ### the code -/
def PrS (w : World) (s : Bs) (k : Nat) (u : Value) (wr : World) : Prop := RowQ intC 1 wr u (natI (s.prs k)) ∧ Below w.heap.size w wr ∧ ∀ j, OwnO u j → w.heap.size ≤ j
def PrPost (s : Bs) (w : World) (e : Ending) (w' : World) : Prop := ∃ u, e = .returned u ∧ PrS w s s.N.length u w'
section
variable {w wr w' : World} {s : Bs} {k : Nat} {u v' : Value}
theorem PrS.later (h : PrS w s k u wr) (hb : Below wr.heap.size wr w') : PrS w s k u w' := ⟨h.1.later hb, fbelow_t h.2.1 hb, h.2.2⟩
theorem PrS.skip (h : PrS w s k u wr) (ho : s.off k = true) : PrS w s (k + 1) u wr := by
  have e : s.prs (k + 1) = s.prs k := by
    show s.prs k ++ _ = _
    rw [ho, if_pos rfl, List.append_nil]
  unfold PrS
  rw [e]; exact h
theorem PrS.add (h : PrS w s k u wr) (ho : s.off k = false) (hq : RowQ intC 1 w' v' (natI (s.prs k) ++ [(k : Int)])) (hk : Kept (OwnO u) wr w') (hg : Grows (OwnO u) wr (OwnO v')) : PrS w s (k + 1) v' w' := by
  have hz := h.2.1.size
  refine ⟨?_, hk.below h.2.1 hz (fun j hj => h.2.2 j hj), fun j hj => ?_⟩
  · have e : s.prs (k + 1) = s.prs k ++ [k] := by
      show s.prs k ++ _ = _
      rw [ho, if_neg (by decide)]
    rw [e]
    unfold natI
    rw [List.map_append]
    exact hq
  · rcases hg j hj with h1 | h1
    · exact h.2.2 j h1
    · omega
end
set_option maxHeartbeats 4000000 in
theorem kbpresent_v {w : World} {b gn gm : Nat} {D : DataW Value} {ws : List Value} {vl : Value} {s : Bs} (hm : BkM w b gn gm D ws vl s) (hN : s.N.length ≤ 32) : Calls Tryd.prog 33 #[.pointer (some ⟨b, 0, none⟩)] w (PrPost s w) := by
  have HM := Lib.hid hm
  have HNN := Lib.hid hN
  obtain ⟨c0, c1, c2, c3, c4, c5⟩ := hm.cells
  clear hm
  go_enter Tryd.func33, Tryd.ntmps33
  go_wp2
  clear c0 c1 c2 c3 c4 c5
  go_loopw [3, 11] (fun u i wr => ∃ k : Nat, k ≤ s.N.length ∧ i = .int .i64 k ∧ Hid (PrS w s k u wr)) (fun _ i _ => s.N.length - (intOf i).toNat)
  case atStart => exact ⟨0, Nat.zero_le _, rfl, Lib.hid ⟨RowQ.nil _, Below.refl _ _, fun j h => by cases h⟩⟩
  case round =>
    obtain ⟨k, hk, rfl, HI⟩ := hrel
    by_cases hlt : k < s.N.length
    · obtain ⟨n0, n1, n2, n3⟩ := (HM.out.later HI.out.2.1).node (i := k) hlt
      have HO : Hid (s.off k = (s.N[k]).o) := Lib.hid (by unfold Bs.off; rw [List.getD_eq_getElem?_getD, List.getElem?_eq_getElem hlt]; rfl)
      generalize s.N[k] = c at n0 n1 n2 n3 HO
      obtain ⟨ct, cr, co, cd⟩ := c
      have hkl : (k : Int) < (s.N.length : Int) := by omega
      have HB1 : Hid (Below wr.heap.size wr (wr.alloc (.cells #[.int .i64 ct, .int .i64 cr, .bool co, .int .i64 cd] 42))) := Lib.hid ((Below.refl _ _).alloc (Nat.le_refl _) _)
      have HBC := Lib.hid (BoxC.made wr ct cr co cd)
      cases co
      · have HI1 := Lib.hid (HI.out.later HB1.out)
        have hz1 : (wr.alloc (.cells #[.int .i64 ct, .int .i64 cr, .bool false, .int .i64 cd] 42)).heap.size = wr.heap.size + 1 := by simp
        have HBL : Hid (Below (wr.alloc (.cells #[.int .i64 ct, .int .i64 cr, .bool false, .int .i64 cd] 42)).heap.size (wr.alloc (.cells #[.int .i64 ct, .int .i64 cr, .bool false, .int .i64 cd] 42)) ((wr.alloc (.cells #[.int .i64 ct, .int .i64 cr, .bool false, .int .i64 cd] 42)).alloc (.cells #[.int .i64 (k : Int)] 3))) := Lib.hid ((Below.refl _ _).alloc (Nat.le_refl _) _)
        have HI2 := Lib.hid (HI1.out.later HBL.out)
        have HRD : Hid (RdA intC 1 ((wr.alloc (.cells #[.int .i64 ct, .int .i64 cr, .bool false, .int .i64 cd] 42)).alloc (.cells #[.int .i64 (k : Int)] 3)) (.slice (some ⟨wr.heap.size + 1, 0, none⟩) 1 1) [(k : Int)]) := Lib.hid (RdA.one intC_len _ _ _ hz1 rfl)
        have HLN : Hid ((natI (s.prs k)).length + [(k : Int)].length ≤ 1000000) := Lib.hid (by
          have := prs_len (s := s) k
          have := HNN.out
          unfold natI
          simp only [List.length_map, List.length_singleton]
          omega)
        obtain ⟨z0, z1, z2, z3⟩ := HBC.out.cells
        go_wp2_with (at_builtin; refine wpList_qO (c := intC) (L := natI (s.prs k)) (M := [(k : Int)]) flat_int intC_len intC_one rfl (.tmp 19) (.tmp 21) rfl (by rfl) HI2.out.1 (by rfl) HRD.out HLN.out ?_; rintro v3 w3 hq3 hk3 hg3; have HR := Lib.hid (HI2.out.add HO.out hq3 hk3 hg3); clear hq3 hk3 hg3)
        go_roundw
        case rel => exact ⟨k + 1, by omega, by go_num, HR⟩
        case measure => simp [intOf]; omega
      · have HR := Lib.hid ((HI.out.later HB1.out).skip HO.out)
        obtain ⟨z0, z1, z2, z3⟩ := HBC.out.cells
        go_wp2_with fail
        go_roundw
        case rel => exact ⟨k + 1, by omega, by go_num, HR⟩
        case measure => simp [intOf]; omega
    · obtain rfl : k = s.N.length := by omega
      go_wp2
      go_ret
      exact ⟨_, rfl, HI.out⟩
end Go.Proofs.YtpgfifacfkllfaaDoor

namespace Go.Proofs.YtpgfifacfkllfaaDoor
open Go.RowKit
set_option linter.unusedVariables false

/-- the three boxes of 'offered', and the two rows -/
structure OffS (w0 : World) (b4 b8 b9 : Nat) (own : Fr) (u1 u2 : Value) (ns : List Int) (fs : List Fr) (w : World) : Prop where
  below : Below w0.heap.size w0 w
  x4 : BoxF w b4 own.i own.n own.l own.d
  x8 : Bx1 w b8 u1 71
  x9 : Bx1 w b9 u2 39
  r1 : RowQ intC 1 w u1 ns
  r2 : RowQ frC 4 w u2 fs
  ap : Apart (OwnO u1) (OwnO u2)
  out : ∀ k, OwnO u1 k ∨ OwnO u2 k → w0.heap.size ≤ k ∧ k ≠ b4 ∧ k ≠ b8 ∧ k ≠ b9
  new : w0.heap.size ≤ b4 ∧ w0.heap.size ≤ b8 ∧ w0.heap.size ≤ b9
  ne : b8 ≠ b9 ∧ b4 ≠ b8 ∧ b4 ≠ b9
section
variable {w0 w w' : World} {b4 b8 b9 : Nat} {own : Fr} {u1 u2 : Value} {ns : List Int} {fs : List Fr}
theorem OffS.later (h : OffS w0 b4 b8 b9 own u1 u2 ns fs w) (hb : Below w.heap.size w w') : OffS w0 b4 b8 b9 own u1 u2 ns fs w' :=
  ⟨fbelow_t h.below hb, h.x4.later hb, h.x8.later hb, h.x9.later hb, h.r1.later hb, h.r2.later hb, h.ap, h.out, h.new, h.ne⟩
theorem OffS.lts (h : OffS w0 b4 b8 b9 own u1 u2 ns fs w) : b4 < w.heap.size ∧ b8 < w.heap.size ∧ b9 < w.heap.size := ⟨h.x4.lt, h.x8.lt, h.x9.lt⟩
/-- both rows appended to, and stored -/
theorem OffS.done {i : Int} {f : Fr} {v1 v2 : Value} (h : OffS w0 b4 b8 b9 own u1 u2 ns fs w) (hk : Kept (fun k => OwnO u1 k ∨ OwnO u2 k) w w') (q1 : RowQ intC 1 w' v1 (ns ++ [i])) (q2 : RowQ frC 4 w' v2 (fs ++ [f]))
    (g1 : Grows (OwnO u1) w (OwnO v1)) (g2 : Grows (OwnO u2) w (OwnO v2)) (ap : Apart (OwnO v1) (OwnO v2)) : OffS w0 b4 b8 b9 own v1 v2 (ns ++ [i]) (fs ++ [f]) ((w'.setCell ⟨b8, 0, none⟩ v1).setCell ⟨b9, 0, none⟩ v2) := by
  obtain ⟨n2, n3, n4⟩ := h.new
  obtain ⟨e1, e4, e5⟩ := h.ne
  obtain ⟨l2, l3, l4⟩ := h.lts
  have hsz := h.below.size
  have hno : ∀ k, (OwnO v1 k ∨ OwnO v2 k) → w0.heap.size ≤ k ∧ k ≠ b4 ∧ k ≠ b8 ∧ k ≠ b9 := fun k hk' => by
    have key : (OwnO u1 k ∨ OwnO u2 k) ∨ w.heap.size ≤ k := by
      rcases hk' with h1 | h1
      · rcases g1 k h1 with h2 | h2
        · exact .inl (.inl h2)
        · exact .inr h2
      · rcases g2 k h1 with h2 | h2
        · exact .inl (.inr h2)
        · exact .inr h2
    rcases key with h1 | h1
    · exact h.out k h1
    · exact ⟨by omega, by omega, by omega, by omega⟩
  have nb : ∀ k, (k = b4 ∨ k = b8 ∨ k = b9) → ¬ (OwnO u1 k ∨ OwnO u2 k) := fun k hk' ho => by have := h.out k ho; omega
  have x4 : BoxF w' b4 own.i own.n own.l own.d := (hk.block b4 l2 (nb b4 (.inl rfl))).trans h.x4
  have x8 := h.x8.kept hk (nb b8 (.inr (.inl rfl)))
  have x9 := h.x9.kept hk (nb b9 (.inr (.inr rfl)))
  have ho : ∀ k, k ≠ b8 → k ≠ b9 → ((w'.setCell ⟨b8, 0, none⟩ v1).setCell ⟨b9, 0, none⟩ v2).heap[k]? = w'.heap[k]? := fun k h1 h2 => by rw [Below.heap_setCell _ _ _ _ h2, Below.heap_setCell _ _ _ _ h1]
  have hz : w'.heap.size ≤ ((w'.setCell ⟨b8, 0, none⟩ v1).setCell ⟨b9, 0, none⟩ v2).heap.size := by simp [World.setCell]
  refine ⟨((hk.below h.below hsz (fun k ho => (h.out k ho).1)).setCell (by simpa using n3) v1).setCell (by simpa using n4) v2, ?_, (x8.set v1).other e1 v2, (x9.other (fun e => e1 e.symm) v1).set v2, ?_, ?_, ap, hno, h.new, h.ne⟩
  · exact (ho b4 e4 e5).trans x4
  · exact q1.stay (fun g hg => ho g (hno g (.inl hg)).2.2.1 (hno g (.inl hg)).2.2.2) hz
  · exact q2.stay (fun g hg => ho g (hno g (.inr hg)).2.2.1 (hno g (.inr hg)).2.2.2) hz
end
set_option maxHeartbeats 4000000 in
theorem kboffer1_v {w0 w : World} {b4 b8 b9 : Nat} {own f : Fr} {u1 u2 : Value} {ns : List Int} {fs : List Fr} {i : Nat} (h : OffS w0 b4 b8 b9 own u1 u2 ns fs w) (hl : ns.length ≤ 1000) (hl2 : fs.length ≤ 1000) :
    Calls Tryd.prog 49 #[.int .i64 i, frV f, .pointer (some ⟨b8, 0, none⟩), .pointer (some ⟨b9, 0, none⟩)] w fun e w' => e = .returned (.tuple #[]) ∧
      ∃ v1 v2, OffS w0 b4 b8 b9 own v1 v2 (ns ++ [(i : Int)]) (fs ++ [f]) w' := by
  have HL := Lib.hid hl
  have HL2 := Lib.hid hl2
  have hb0 := (Below.refl w.heap.size w).alloc (Nat.le_refl _) (.cells #[.int .i64 f.i, .int .i64 f.n, .int .i64 f.l, .string f.d] 30)
  have HS := Lib.hid (h.later hb0)
  have HF := Lib.hid (BoxF.made w f.i f.n f.l f.d)
  have hz0 : w.heap.size < (w.alloc (.cells #[.int .i64 f.i, .int .i64 f.n, .int .i64 f.l, .string f.d] 30)).heap.size := by simp
  obtain ⟨l2, l3, l4⟩ := h.lts
  obtain ⟨d0, d1, d2, d3⟩ := HF.out.cells
  have y8 := HS.out.x8.cell
  have y9 := HS.out.x9.cell
  generalize hw1 : w.alloc (.cells #[.int .i64 f.i, .int .i64 f.n, .int .i64 f.l, .string f.d] 30) = w1 at *
  have nb8 : ¬ (OwnO u1 b8 ∨ OwnO u2 b8) := fun h1 => (h.out b8 h1).2.2.1 rfl
  have nb9 : ¬ (OwnO u1 b9 ∨ OwnO u2 b9) := fun h1 => (h.out b9 h1).2.2.2 rfl
  have nbf : ¬ (OwnO u1 w.heap.size ∨ OwnO u2 w.heap.size) := fun h1 => by
    rcases h1 with h1 | h1
    · exact absurd (h.r1.lt _ h1) (Nat.lt_irrefl _)
    · exact absurd (h.r2.lt _ h1) (Nat.lt_irrefl _)
  have hq8 : ∀ (q : KLater (fun k => OwnO u1 k ∨ OwnO u2 k) w1) (o : Nat), q.w.cell? ⟨b8, o, none⟩ = w1.cell? ⟨b8, o, none⟩ := fun q o => q.cell b8 o HS.out.lts.2.1 nb8
  have hq9 : ∀ (q : KLater (fun k => OwnO u1 k ∨ OwnO u2 k) w1) (o : Nat), q.w.cell? ⟨b9, o, none⟩ = w1.cell? ⟨b9, o, none⟩ := fun q o => q.cell b9 o HS.out.lts.2.2 nb9
  have hqf : ∀ (q : KLater (fun k => OwnO u1 k ∨ OwnO u2 k) w1) (o : Nat), q.w.cell? ⟨w.heap.size, o, none⟩ = w1.cell? ⟨w.heap.size, o, none⟩ := fun q o => q.cell w.heap.size o HF.out.lt nbf
  clear h hl hl2 hb0
  go_enter Tryd.func49, Tryd.ntmps49
  go_upto_region 1 with fail
  refine wp_region_st 8 [] (fun _ xs w' => TwoS intC 1 u1 (i : Int) 3 ns 8 9 frC 4 u2 f 30 fs 12 13 w1 xs w') [8, 9, 12, 13] (TwoS.start HS.out.r1 HS.out.r2 HS.out.ap) (by kernel_rfl) (by kernel_rfl) (by kernel_rfl) (by kernel_rfl) (by kernel_rfl) (by kernel_rfl) (by kernel_rfl) ?_
  simp only [List.take_succ_cons, List.take_zero, List.drop_succ_cons, List.drop_zero]
  repeat (refine st_plain (O := fun k => OwnO u1 k ∨ OwnO u2 k) (fun h => h.kept) (by rfl) (by rfl) (by rfl) (by rfl) (by rfl) ?_; intro K hK; go_big_quiet_op; go_big_quiet_on)
  refine st_new (s := 8) (mk := fun w => .slice (some ⟨w.heap.size, 0, none⟩) 1 1) (ob := fun _ => .cells (intC (i : Int)).toArray 3) (by rfl) (by rfl) (by rfl) (by rfl) (by rfl) (by rfl) (fun _ => by kernel_rfl) (fun j xs w h => h.oneA (by decide) (by decide) (by decide)) ?_
  simp only [Act.put, List.setIfInBounds_toArray, List.set_cons_succ, List.set_cons_zero]
  refine st_appF (ts := 6) (tx := 8) (tr := 9) (L := ns) (M := [(i : Int)]) flat_int intC_len intC_one (by rfl) (by rfl) (by rfl) (by rfl) (by rfl) (by rfl) (by rfl) (by decide) (by decide) (by rfl) (fun j xs w x hG h0 hx => hG.a.rd intC_len h0 hx) (by have := HL.out; simp; omega) (fun j xs w v' w' hG h1 h2 h3 => hG.appA h1 h2 h3 (by decide) (by decide)) ?_
  simp only [Act.put, List.setIfInBounds_toArray, List.set_cons_succ, List.set_cons_zero]
  repeat (refine st_plain (O := fun k => OwnO u1 k ∨ OwnO u2 k) (fun h => h.kept) (by rfl) (by rfl) (by rfl) (by rfl) (by rfl) ?_; intro K hK; go_big_quiet_op; go_big_quiet_on)
  refine st_new (s := 12) (mk := fun w => .slice (some ⟨w.heap.size, 0, none⟩) 1 1) (ob := fun _ => .cells (frC f).toArray 30) (by rfl) (by rfl) (by rfl) (by rfl) (by rfl) (by rfl) (fun _ => by kernel_rfl) (fun j xs w h => h.oneB (by decide) (by decide) (by decide)) ?_
  simp only [Act.put, List.setIfInBounds_toArray, List.set_cons_succ, List.set_cons_zero]
  refine st_appF (ts := 10) (tx := 12) (tr := 13) (L := fs) (M := [f]) flat_fr frC_len frC_one (by rfl) (by rfl) (by rfl) (by rfl) (by rfl) (by rfl) (by rfl) (by decide) (by decide) (by rfl) (fun j xs w x hG h0 hx => hG.b.rd frC_len h0 hx) (by have := HL2.out; simp; omega) (fun j xs w v' w' hG h1 h2 h3 => hG.appB h1 h2 h3 (by decide) (by decide)) ?_
  simp only [Act.put, List.setIfInBounds_toArray, List.set_cons_succ, List.set_cons_zero]
  intro ys xs w2 hF h2
  have e9 := hF 9 (by simp)
  have e13 := hF 13 (by simp)
  obtain ⟨q1, g1⟩ := h2.a.out e9
  obtain ⟨q2, g2⟩ := h2.b.out e13
  have k2 := h2.kept
  have hap := h2.apv _ _ e9 e13
  clear h2 hF e9 e13
  simp only [secFill]
  simp only [Act.put, List.setIfInBounds_toArray, List.set_cons_succ, List.set_cons_zero]
  generalize ys 9 = v1 at *
  generalize ys 13 = v2 at *
  obtain ⟨g3, o3, cap3, hv1⟩ := q1.form
  obtain ⟨g4, o4, cap4, hv2⟩ := q2.form
  subst hv1 hv2
  have HD := Lib.hid (HS.out.done k2 q1 q2 g1 g2 hap)
  have x8 := HS.out.x8.kept k2 nb8
  have x9 := HS.out.x9.kept k2 nb9
  have y8' := x8.cell
  have y9' := x9.cell
  have f8 := x8.live
  have f9 := x9.live
  have ne89 := HS.out.ne.1
  clear q1 q2 g1 g2 k2 hap hq8 hq9 hqf x8 x9 y8 y9
  go_wp2
  go_end0
  exact ⟨rfl, _, _, HD.out⟩
end Go.Proofs.YtpgfifacfkllfaaDoor

namespace Go.Proofs.YtpgfifacfkllfaaDoor
open Go.RowKit
set_option linter.unusedVariables false

def Bs.ofN (s : Bs) (own : Fr) (has : Bool) (i : Nat) : List Int := (s.offs own has i).map fun p => (p.1 : Int)
def Bs.ofF (s : Bs) (own : Fr) (has : Bool) (i : Nat) : List Fr := (s.offs own has i).map fun p => p.2
def Bs.opN (s : Bs) (own : Fr) (has : Bool) (L : List Nat) : List Int := (s.offP own has L).map fun p => (p.1 : Int)
def Bs.opF (s : Bs) (own : Fr) (has : Bool) (L : List Nat) : List Fr := (s.offP own has L).map fun p => p.2
theorem natI_len (L : List Nat) : (natI L).length = L.length := by unfold natI; simp
section
variable {s : Bs} {own : Fr} {has : Bool} {i : Nat} {L : List Nat}
theorem offs_len : ∀ i, (s.offs own has i).length ≤ i
  | 0 => Nat.le_refl _
  | i + 1 => by
    have := offs_len i
    unfold Bs.offs
    rw [List.length_append]
    split <;> simp <;> omega
theorem offP_len : ∀ L : List Nat, (s.offP own has L).length ≤ L.length
  | [] => Nat.le_refl _
  | a :: L => by
    have := offP_len L
    have e : s.offP own has (a :: L) = (if s.has own has a then [(a, s.x own a)] else []) ++ s.offP own has L := by unfold Bs.offP; simp
    rw [e, List.length_append, List.length_cons]
    split <;> simp <;> omega
theorem op_ofN : s.opN own has (s.prs i) = s.ofN own has i := by unfold Bs.opN Bs.ofN; rw [offs_prs]
theorem op_ofF : s.opF own has (s.prs i) = s.ofF own has i := by unfold Bs.opF Bs.ofF; rw [offs_prs]
theorem op_skip (h : s.has own has i = false) : s.opN own has (L ++ [i]) = s.opN own has L ∧ s.opF own has (L ++ [i]) = s.opF own has L := by
  unfold Bs.opN Bs.opF
  have e : s.offP own has (L ++ [i]) = s.offP own has L := by
    rw [offP_app]
    unfold Bs.offP; simp [h]
  rw [e]; exact ⟨rfl, rfl⟩
theorem op_add (h : s.has own has i = true) {f : Fr} (hx : s.x own i = f) : s.opN own has (L ++ [i]) = s.opN own has L ++ [(i : Int)] ∧ s.opF own has (L ++ [i]) = s.opF own has L ++ [f] := by
  unfold Bs.opN Bs.opF
  have e : s.offP own has (L ++ [i]) = s.offP own has L ++ [(i, f)] := by
    rw [offP_app]
    unfold Bs.offP; simp [h, hx]
  rw [e]; simp
end
theorem take_one {P : List Nat} {k : Nat} (h : k < P.length) : P.take (k + 1) = P.take k ++ [P[k]] := by
  rw [List.take_succ_eq_append_getElem h]
theorem OffS.start {w w' : World} {own : Fr} (e : w' = (((w.alloc (.cells #[.int .i64 own.i, .int .i64 own.n, .int .i64 own.l, .string own.d] 30)).alloc (.cells #[.slice none 0 0] 71)).alloc (.cells #[.slice none 0 0] 39))) :
    OffS w w.heap.size (w.heap.size + 1) (w.heap.size + 1 + 1) own (.slice none 0 0) (.slice none 0 0) [] [] w' := by
  subst e
  obtain ⟨w2, e2⟩ : ∃ w2, w.alloc (.cells #[.int .i64 own.i, .int .i64 own.n, .int .i64 own.l, .string own.d] 30) = w2 := ⟨_, rfl⟩
  have s2 : w2.heap.size = w.heap.size + 1 := by rw [← e2]; simp
  have b2 : Below w.heap.size w w2 := by rw [← e2]; exact (Below.refl _ w).alloc (Nat.le_refl _) _
  have n2 : BoxF w2 w.heap.size own.i own.n own.l own.d := by rw [← e2]; exact BoxF.made _ _ _ _ _
  obtain ⟨w3, e3⟩ : ∃ w3, w2.alloc (.cells #[.slice none 0 0] 71) = w3 := ⟨_, rfl⟩
  have s3 : w3.heap.size = w.heap.size + 1 + 1 := by rw [← e3]; simp [s2]
  have b3 : Below w2.heap.size w2 w3 := by rw [← e3]; exact (Below.refl _ w2).alloc (Nat.le_refl _) _
  have n3 : Bx1 w3 (w.heap.size + 1) (.slice none 0 0) 71 := by rw [← e3]; exact Bx1.made _ _ _ s2
  rw [e2, e3]
  have b4 := (Below.refl _ w3).alloc (Nat.le_refl _) (.cells #[.slice none 0 0] 39)
  have nn : ∀ k, ¬ (OwnO (.slice none 0 0) k ∨ OwnO (.slice none 0 0) k) := fun k h => by rcases h with h | h <;> cases h
  exact ⟨fbelow_t b2 (fbelow_t b3 b4), (n2.later b3).later b4, n3.later b4, Bx1.made _ _ _ s3, RowQ.nil _, RowQ.nil _, fun k h _ => nn k (.inl h), fun k h => (nn k h).elim, ⟨by omega, by omega, by omega⟩, ⟨by omega, by omega, by omega⟩⟩
theorem RowQ.first4 {w : World} {g o n cap : Nat} {f : Fr} {M : List Fr} (h : RowQ frC 4 w (.slice (some ⟨g, o, none⟩) n cap) (f :: M)) :
    w.cell? ⟨g, o, none⟩ = some (.int .i64 f.i) ∧ w.cell? ⟨g, o + 1, none⟩ = some (.int .i64 f.n) ∧ w.cell? ⟨g, o + 2, none⟩ = some (.int .i64 f.l) ∧ w.cell? ⟨g, o + 3, none⟩ = some (.string f.d) := by
  rcases h with ⟨h, _⟩ | ⟨g', o', cap', hv, h1, h2, h3, h4, h5⟩
  · cases h
  · injection hv with hA _ _
    injection hA with hA
    injection hA with e1 e2
    subst e1 e2
    exact ⟨h4 0 _ rfl, h4 1 _ rfl, h4 2 _ rfl, h4 3 _ rfl⟩
def OffR (w : World) (b4 b8 b9 : Nat) (own : Fr) (s : Bs) (has : Bool) (L : List Nat) (wr : World) : Prop := ∃ u1 u2, OffS w b4 b8 b9 own u1 u2 (s.opN own has L) (s.opF own has L) wr
def OffPost (s : Bs) (own : Fr) (has : Bool) (P : List Nat) (w : World) (e : Ending) (w' : World) : Prop :=
  ∃ u1 u2, e = .returned (.tuple #[u1, u2]) ∧ RowQ intC 1 w' u1 (s.opN own has P) ∧ RowQ frC 4 w' u2 (s.opF own has P) ∧ Below w.heap.size w w' ∧ ∀ k, OwnO u1 k ∨ OwnO u2 k → w.heap.size ≤ k
set_option maxHeartbeats 8000000 in
theorem kboffered_v {w : World} {b gn gm : Nat} {D : DataW Value} {ws : List Value} {vl u0 : Value} {s : Bs} (P : List Nat) (own : Fr) (has : Bool) (hm : BkM w b gn gm D ws vl s) (hT : Tabs w) (hN : s.N.length ≤ 32) (hP : ∀ a ∈ P, a < s.N.length) (hPl : P.length ≤ 32) (h0 : SlI w u0 (natI P)) (hw0 : s.W.getD 0 [] = [])
    (hn : -9223372036854775808 ≤ own.n ∧ own.n ≤ 9223372036854775807) : Calls Tryd.prog 34 #[.pointer (some ⟨b, 0, none⟩), u0, frV own, .bool has] w (OffPost s own has P w) := by
  have HM := Lib.hid hm
  have HT := Lib.hid hT
  have HN := Lib.hid hn
  have HNN := Lib.hid hN
  have HW0 := Lib.hid hw0
  have HP := Lib.hid hP
  have HPL := Lib.hid hPl
  have HSL := Lib.hid h0
  obtain ⟨A0, cap0, hv0, _, _⟩ := h0
  rw [natI_len] at hv0
  subst hv0
  obtain ⟨w4, e4⟩ : ∃ w4, (((w.alloc (.cells #[.int .i64 own.i, .int .i64 own.n, .int .i64 own.l, .string own.d] 30)).alloc (.cells #[.slice none 0 0] 71)).alloc (.cells #[.slice none 0 0] 39)) = w4 := ⟨_, rfl⟩
  have HS := Lib.hid (OffS.start e4.symm)
  clear hm hT hn hw0 hP
  go_enter Tryd.func34, Tryd.ntmps34
  go_wp2
  have HS4 : Hid (Below w.heap.size w w4) := Lib.hid HS.out.below
  go_loopw [19] (fun i wr => ∃ k : Nat, k ≤ P.length ∧ i = .int .i64 k ∧ Hid (OffR w w.heap.size (w.heap.size + 1) (w.heap.size + 1 + 1) own s has (P.take k) wr)) (fun i _ => P.length - (intOf i).toNat)
  case atStart => exact ⟨0, Nat.zero_le _, rfl, Lib.hid ⟨_, _, HS.out⟩⟩
  case round =>
    obtain ⟨k, hk, rfl, HI⟩ := hrel
    obtain ⟨u1, u2, hS⟩ := HI.out
    have HSr := Lib.hid hS
    obtain ⟨d0, d1, d2, d3⟩ := hS.x4.cells
    have hmr := HM.out.later hS.below
    have HMr := Lib.hid hmr
    obtain ⟨c0, c1, c2, c3, c4, c5⟩ := hmr.cells
    by_cases hkP : k < P.length
    · have HTK := Lib.hid (take_one hkP)
      have hlt : P[k] < s.N.length := HP.out _ (List.getElem_mem hkP)
      obtain ⟨x5, cx, hv5, hx5, hcell⟩ := SlG.at1 (k := k) (HSL.out.later hS.below) (by rw [natI_len]; exact hkP) (u := .int .i64 (P[k] : Nat)) (by unfold natI; simp [intC])
      rw [natI_len] at hv5
      injection hv5 with hA _ hcap
      subst hA
      subst hcap
      generalize P[k] = a at HTK hlt hcell
      have hkl : (k : Int) < (P.length : Int) := by omega
      have hkw : a < ws.length := by rw [hmr.len]; exact hlt
      obtain ⟨u, hu⟩ : ∃ u, ws[a]? = some u := ⟨_, List.getElem?_eq_getElem hkw⟩
      have hkW : a < s.W.length := by rw [hmr.lenW]; exact hlt
      obtain ⟨R, hR⟩ : ∃ R, s.W[a]? = some R := ⟨_, List.getElem?_eq_getElem hkW⟩
      have hlk := hmr.look hu (by omega)
      have hG : s.W.getD a [] = R := by rw [List.getD_eq_getElem?_getD, hR]; rfl
      have hrow := hmr.row a u R hu hR
      have HLN : Hid ((s.opN own has (P.take k)).length ≤ 1000 ∧ (s.opF own has (P.take k)).length ≤ 1000) := Lib.hid (by
        have := offP_len (s := s) (own := own) (has := has) (P.take k)
        have := HPL.out
        have : (P.take k).length ≤ P.length := List.length_take_le' _ _
        unfold Bs.opN Bs.opF
        simp only [List.length_map]
        omega)
      by_cases hk0 : a = 0
      · subst hk0
        obtain rfl : R = [] := by rw [← hG]; exact HW0.out
        obtain ⟨A5, c5', hsh⟩ := hrow.shape
        rw [List.length_nil] at hsh
        subst hsh
        have e0 : ((0 : Nat) : Int) = 0 := rfl
        rw [e0] at hlk hcell
        clear hS hmr hrow hu hR hkw hkW hG hk hx5 hlt
        cases has
        · have HR := Lib.hid (op_skip (s := s) (own := own) (has := false) (i := 0) (L := P.take k) (by rw [(Bs.at_zero s own false).1]; rfl))
          go_wp2_with fail
          go_roundw
          case rel => exact ⟨k + 1, by omega, by go_num, Lib.hid ⟨u1, u2, by rw [HTK.out, HR.out.1, HR.out.2]; exact HSr.out⟩⟩
          case measure => simp [intOf]; omega
        · obtain ⟨q, hq⟩ : ∃ q, keyG own = q := ⟨_, rfl⟩
          have HQ : Hid (keyV own.i own.n own.l own.d.size = q) := Lib.hid hq
          have HTr := Lib.hid (HT.out.below HSr.out.below)
          by_cases hq0 : 0 ≤ q
          · have HA := Lib.hid (op_add (s := s) (own := own) (has := true) (i := 0) (L := P.take k) (by rw [(Bs.at_zero s own true).1, hq, decide_eq_true hq0]; rfl) (Bs.at_zero s own true).2)
            have hd : decide (0 ≤ q) = true := decide_eq_true hq0
            clear hq hq0
            go_wp2_with fail
            refine (key_v HQ.out _ HTr.out HN.out.1 HN.out.2).mono ?_
            rintro e w1 ⟨rfl, hb⟩
            have HS1 := Lib.hid (HSr.out.later hb)
            obtain ⟨x0, x1, x2, x3⟩ := HS1.out.x4.cells
            clear c0 c1 c2 c3 c4 c5 d0 d1 d2 d3 hlk hb hcell
            go_wp2_with fail
            refine (kboffer1_v (i := 0) (f := own) HS1.out HLN.out.1 HLN.out.2).mono ?_
            rintro e w2 ⟨rfl, v1, v2, hS2⟩
            have HR := Lib.hid hS2
            clear hS2 x0 x1 x2 x3
            go_wp2_with fail
            go_roundw
            case rel => exact ⟨k + 1, by omega, by go_num, Lib.hid ⟨v1, v2, by rw [HTK.out, HA.out.1, HA.out.2]; exact HR.out⟩⟩
            case measure => simp [intOf]; omega
          · have HR := Lib.hid (op_skip (s := s) (own := own) (has := true) (i := 0) (L := P.take k) (by rw [(Bs.at_zero s own true).1, hq, decide_eq_false hq0]; rfl))
            have hd : decide (0 ≤ q) = false := decide_eq_false hq0
            clear hq hq0
            go_wp2_with fail
            refine (key_v HQ.out _ HTr.out HN.out.1 HN.out.2).mono ?_
            rintro e w1 ⟨rfl, hb⟩
            have HS1 := Lib.hid (HSr.out.later hb)
            clear c0 c1 c2 c3 c4 c5 d0 d1 d2 d3 hlk hb hcell
            go_wp2_with fail
            go_roundw
            case rel => exact ⟨k + 1, by omega, by go_num, Lib.hid ⟨u1, u2, by rw [HTK.out, HR.out.1, HR.out.2]; exact HS1.out⟩⟩
            case measure => simp [intOf]; omega
      · have hkz : ((a : Int) == 0) = false := by simp; exact hk0
        cases R with
        | nil =>
          have HR := Lib.hid (op_skip (s := s) (own := own) (has := has) (i := a) (L := P.take k) (Bs.at_nil own has hk0 hG).1)
          obtain ⟨A5, c5', hsh⟩ := hrow.shape
          rw [List.length_nil] at hsh
          subst hsh
          clear hS hmr hrow hu hR hkw hkW hG hk hx5 hlt hk0
          go_wp2_with fail
          go_roundw
          case rel => exact ⟨k + 1, by omega, by go_num, Lib.hid ⟨u1, u2, by rw [HTK.out, HR.out.1, HR.out.2]; exact HSr.out⟩⟩
          case measure => simp [intOf]; omega
        | cons f M =>
          have HA := Lib.hid (op_add (s := s) (own := own) (has := has) (i := a) (L := P.take k) (Bs.at_cons own has hk0 hG).1 (Bs.at_cons own has hk0 hG).2)
          obtain ⟨g, o, cap, hsh, hcap, _⟩ := hrow.head
          subst hsh
          obtain ⟨x0, x1, x2, x3⟩ := hrow.first4
          have hpos : (0 : Int) < (M.length : Int) + 1 := by omega
          clear hS hmr hrow hu hR hkw hkW hG hk hx5 hlt hk0
          go_wp2_with fail
          refine (kboffer1_v (i := a) (f := f) HSr.out HLN.out.1 HLN.out.2).mono ?_
          rintro e w2 ⟨rfl, v1, v2, hS2⟩
          have HR := Lib.hid hS2
          clear hS2 x0 x1 x2 x3 c0 c1 c2 c3 c4 c5 d0 d1 d2 d3 hlk hcell
          go_wp2_with fail
          go_roundw
          case rel => exact ⟨k + 1, by omega, by go_num, Lib.hid ⟨v1, v2, by rw [HTK.out, HA.out.1, HA.out.2]; exact HR.out⟩⟩
          case measure => simp [intOf]; omega
    · obtain rfl : k = P.length := by omega
      have y8 := hS.x8.cell
      have y9 := hS.x9.cell
      have HP : Hid (∀ w', Below wr.heap.size wr w' → OffPost s own has P w (.returned (.tuple #[u1, u2])) w') := Lib.hid (fun w' hb => ⟨u1, u2, rfl, by have := HSr.out.r1; rw [List.take_length] at this; exact this.later hb, by have := HSr.out.r2; rw [List.take_length] at this; exact this.later hb, fbelow_t HSr.out.below hb, fun k hk => (HSr.out.out k hk).1⟩)
      clear hS hmr c0 c1 c2 c3 c4 c5 d0 d1 d2 d3
      go_wp2_with fail
      go_region
      all_goals (
        go_wp2
        go_ret2
        exact HP.out _ (Below.refl _ wr).drew)
end Go.Proofs.YtpgfifacfkllfaaDoor

namespace Go.Proofs.YtpgfifacfkllfaaDoor
open Go.RowKit
set_option linter.unusedVariables false

/-- the bus with other nodes, in the midst of a call -/
def BkT (w : World) (b gn gm : Nat) (D : DataW Value) (ws : List Value) (vl : Value) (s : Bs) (N' : List Cf) (wr : World) : Prop := BkM wr b gn gm D ws vl { s with N := N' } ∧ Kept (busO b gn gm ws vl) w wr
section
variable {w wr w' : World} {b gn gm : Nat} {D : DataW Value} {ws : List Value} {vl : Value} {s : Bs} {N' : List Cf}
theorem BkT.later (h : BkT w b gn gm D ws vl s N' wr) (hb : Below wr.heap.size wr w') : BkT w b gn gm D ws vl s N' w' := ⟨h.1.later hb, h.2.trans (.of_below (O := busO b gn gm ws vl) hb) (Grows.refl _ _)⟩
theorem BkT.put (h : BkT w b gn gm D ws vl s N' wr) {k : Nat} (hk : k < N'.length) (c : Cf) : BkT w b gn gm D ws vl s (N'.set k c) (putN wr gn k c) := ⟨h.1.setNode (s := { s with N := N' }) hk c, h.2.trans putN_kept (Grows.refl _ _)⟩
end
theorem Cf.idle_on {c : Cf} (h : c.ok = true) (ho : c.o = false) (back : Int) : c.do_ 4 back = c := by rw [Cf.do_on h ho]; rfl
set_option maxHeartbeats 8000000 in
theorem kbrest_v {w : World} {b gn gm : Nat} {D : DataW Value} {ws : List Value} {vl : Value} {s : Bs} (hm : BkM w b gn gm D ws vl s) (hN : s.N.length ≤ 32) (hN1 : 1 ≤ s.N.length) (hok : ∀ c ∈ s.N, c.ok = true)
    (hb : -9223372036854775808 ≤ s.back ∧ s.back ≤ 9223372036854775807) : Calls Tryd.prog 35 #[.pointer (some ⟨b, 0, none⟩)] w fun e w' => e = .returned (.tuple #[]) ∧
      BkM w' b gn gm D ws vl { s with N := s.N1, fx := s.fx1 } ∧ Kept (busO b gn gm ws vl) w w' := by
  have HM := Lib.hid hm
  have HOK := Lib.hid hok
  have HBK := Lib.hid hb
  have HNN := Lib.hid hN
  obtain ⟨c0, c1, c2, c3, c4, c5⟩ := hm.cells
  clear hm hok hb
  go_enter Tryd.func35, Tryd.ntmps35
  go_wp2
  clear c0 c1 c2 c3 c4 c5
  go_loopw [11] (fun i wr => ∃ k : Nat, k ≤ s.N.length ∧ i = .int .i64 k ∧ Hid (BkT w b gn gm D ws vl s (turnN s.gIdle s.N k) wr)) (fun i _ => s.N.length - (intOf i).toNat)
  case atStart => exact ⟨0, Nat.zero_le _, rfl, Lib.hid ⟨by rw [turnN_zero]; exact HM.out, Kept.refl _ _⟩⟩
  case round =>
    obtain ⟨k, hk, rfl, HI⟩ := hrel
    by_cases hlt : k < s.N.length
    · have hkl : k < (turnN s.gIdle s.N k).length := by rw [turnN_len]; exact hlt
      obtain ⟨n0, n1, n2, n3⟩ := HI.out.1.node (i := k) hkl
      simp only [turnN_at s.N s.gIdle k hlt] at n0 n1 n2 n3
      have HC : Hid ((s.N[k]).ok = true) := Lib.hid (HOK.out _ (List.getElem_mem hlt))
      have HTS := Lib.hid (turnN_set s.N s.gIdle k hlt)
      have HTM := Lib.hid (turnN_same s.N s.gIdle k hlt)
      have HOF : Hid (s.off k = (s.N[k]).o) := Lib.hid (by unfold Bs.off; rw [List.getD_eq_getElem?_getD, List.getElem?_eq_getElem hlt]; rfl)
      generalize s.N[k] = c at n0 n1 n2 n3 HC HTS HTM HOF
      obtain ⟨c0, c1, c2, c3, c4, c5⟩ := HI.out.1.cells
      simp only [turnN_len] at c0
      have hb1 := (Below.refl wr.heap.size wr).alloc (Nat.le_refl _) (.cells #[.int .i64 c.t, .int .i64 c.r, .bool c.o, .int .i64 c.d] 42)
      have HT1 := Lib.hid (HI.out.later hb1)
      have HBC := Lib.hid (BoxC.made wr c.t c.r c.o c.d)
      have HBL : Hid (b < wr.heap.size) := Lib.hid (HI.out.1.lt b (.inl rfl))
      by_cases hsk : k = 0 ∧ s.fx = false
      · obtain ⟨rfl, hfx⟩ := hsk
        have HR : Hid (BkT w b gn gm D ws vl s (turnN s.gIdle s.N 1) (wr.alloc (.cells #[.int .i64 c.t, .int .i64 c.r, .bool c.o, .int .i64 c.d] 42))) := Lib.hid (by
          rw [← HTM.out (by unfold Bs.gIdle; rw [hfx]; simp)]
          exact HT1.out)
        obtain ⟨e0, e1, e2, e3, e4, e5⟩ := HT1.out.1.cells
        rw [hfx] at e2
        clear hb1
        go_wp2_with fail
        go_roundw
        case rel => exact ⟨1, by omega, by go_num, HR⟩
        case measure => simp [intOf]; omega
      · have HGI : Hid (s.gIdle k c = c.do_ 4 s.back) := Lib.hid (by
          unfold Bs.gIdle
          rw [HOF.out]
          have hx : (decide (0 < k) || s.fx) = true := by
            by_cases h0 : k = 0
            · subst h0
              cases hf : s.fx
              · exact absurd ⟨rfl, hf⟩ hsk
              · rfl
            · rw [decide_eq_true (by omega)]; rfl
          rw [hx]
          cases ho : c.o
          · rw [Cf.idle_on HC.out ho]; rfl
          · rfl)
        obtain ⟨e, he⟩ : ∃ e, c.do_ 4 s.back = e := ⟨_, rfl⟩
        have HE := Lib.hid he
        obtain ⟨q0, q1, q2, q3, q4, q5⟩ := HT1.out.1.cells
        simp only [turnN_len] at q0
        obtain ⟨z0, z1, z2, z3⟩ := HBC.out.cells
        have hbz := HBC.out.lt
        have hbl := HT1.out.1.lt b (.inl rfl)
        have hcs : (((k : Int) == 0) = true ∧ s.fx = true) ∨ ((k : Int) == 0) = false := by
          by_cases h0 : k = 0
          · subst h0
            cases hf : s.fx
            · exact absurd ⟨rfl, hf⟩ hsk
            · exact .inl ⟨rfl, rfl⟩
          · exact .inr (by simp; exact h0)
        clear hb1 he hsk
        generalize hwa : wr.alloc (.cells #[.int .i64 c.t, .int .i64 c.r, .bool c.o, .int .i64 c.d] 42) = wa at *
        have hqb : ∀ (q : KLater (fun _ => False) wa) (o : Nat), q.w.cell? ⟨b, o, none⟩ = wa.cell? ⟨b, o, none⟩ := fun q o => q.cell b o hbl (fun h => h)
        have hqz : ∀ (q : KLater (fun _ => False) wa) (o : Nat), q.w.cell? ⟨wr.heap.size, o, none⟩ = wa.cell? ⟨wr.heap.size, o, none⟩ := fun q o => q.cell wr.heap.size o hbz (fun h => h)
        rcases hcs with ⟨hkz, hfx⟩ | hkz
        all_goals (
          try rw [hfx] at q2
          go_wp2_with fail
          refine wp_region_st 12 [] (fun _ _ w' => Below wa.heap.size wa w') [] (Below.refl _ _).drew (by kernel_rfl) (by kernel_rfl) (by kernel_rfl) (by kernel_rfl) (by kernel_rfl) (by kernel_rfl) (by kernel_rfl) ?_
          simp only [List.take_succ_cons, List.take_zero, List.drop_succ_cons, List.drop_zero]
          repeat (refine st_plain (O := fun _ => False) (fun h => .of_below h) (by rfl) (by rfl) (by rfl) (by rfl) (by rfl) ?_; intro K hK; go_big_quiet_op; go_big_quiet_on)
          refine st_nil (O := fun _ => False) (fun h => .of_below h) (by rfl) (by rfl) (by rfl) (by rfl) (by rfl) (by rfl) ?_; intro K hK; go_big_quiet_op; go_big_quiet_on
          repeat (refine st_plain (O := fun _ => False) (fun h => .of_below h) (by rfl) (by rfl) (by rfl) (by rfl) (by rfl) ?_; intro K hK; go_big_quiet_op; go_big_quiet_on)
          refine st_nil (O := fun _ => False) (fun h => .of_below h) (by rfl) (by rfl) (by rfl) (by rfl) (by rfl) (by rfl) ?_; intro K hK; go_big_quiet_op; go_big_quiet_on
          repeat (refine st_plain (O := fun _ => False) (fun h => .of_below h) (by rfl) (by rfl) (by rfl) (by rfl) (by rfl) ?_; intro K hK; go_big_quiet_op; go_big_quiet_on)
          refine st_call (f := 50) (args := #[cfV c, .int .i64 s.back]) (v := cfV e) (by rfl) (by rfl) (by rfl) (by rfl) (by rfl) (fun w => by simp [go_sem]) (fun j xs w' hG => (kcidle_v HE.out HC.out HBK.out.1 HBK.out.2 w').mono (fun x w'' h => ⟨h.1, fbelow_t hG h.2⟩)) ?_
          simp only [Act.put, List.setIfInBounds_toArray, List.set_cons_succ, List.set_cons_zero]
          repeat (refine st_plain (O := fun _ => False) (fun h => .of_below h) (by rfl) (by rfl) (by rfl) (by rfl) (by rfl) ?_; intro K hK; go_big_quiet_op; go_big_quiet_on)
          intro ys xs w2 hF h2
          have HT2 := Lib.hid (HT1.out.later h2)
          have HPUT := Lib.hid (HT2.out.put hkl e)
          obtain ⟨m0, m1, m2, m3⟩ := HT2.out.1.node (i := k) hkl
          have ml := HT2.out.1.nlive
          simp only [secFill]
          have HRR : Hid (BkT w b gn gm D ws vl s (turnN s.gIdle s.N (k + 1)) (putN w2 gn k e)) := Lib.hid (by
            rw [← HTS.out, HGI.out, HE.out]; exact HPUT.out)
          clear n0 n1 n2 n3 q0 q1 q2 q3 q4 q5 z0 z1 z2 z3 c0 c1 c2 c3 c4 c5 hqb hqz hF h2 hkz
          go_wp2_with fail
          go_roundw
          case rel => exact ⟨k + 1, by omega, by go_num, HRR⟩
          case measure => simp [intOf]; omega)
    · obtain rfl : k = s.N.length := by omega
      have HI1 : Hid (BkT w b gn gm D ws vl s s.N1 wr) := HI
      have h0 : s.N1[0]? = some (s.N1.getD 0 cf0) := by
        rw [List.getD_eq_getElem?_getD, List.getElem?_eq_getElem (by unfold Bs.N1; rw [turnN_len]; omega)]; rfl
      have HFX : Hid (s.fx1 = (s.fx && (s.N1.getD 0 cf0).o)) := Lib.hid rfl
      generalize s.N1.getD 0 cf0 = c at h0 HFX
      have H0 := Lib.hid h0
      clear h0 HI
      obtain ⟨ct, cr, co, cd⟩ := c
      go_wp2_with fail
      refine (kbconf_v (s := { s with N := s.N1 }) wr ⟨b, gn, gm, D, ws, vl, rfl, rfl, HI1.out.1⟩ 0 _ H0.out (by show s.N1.length ≤ 32; unfold Bs.N1; rw [turnN_len]; exact HNN.out)).mono ?_
      rintro x w1 ⟨rfl, hb⟩
      have HB2 := Lib.hid (fbelow_t hb ((Below.refl _ w1).alloc (Nat.le_refl _) (.cells #[.int .i64 ct, .int .i64 cr, .bool co, .int .i64 cd] 42)))
      have HT2 := Lib.hid (HI1.out.later HB2.out)
      obtain ⟨q0, q1, q2, q3, q4, q5⟩ := HT2.out.1.cells
      have f2 := HT2.out.1.live 2
      have HS := Lib.hid (HT2.out.1.setBox (s' := { s with N := s.N1, fx := s.fx1 }) 2 (.bool s.fx1) rfl rfl rfl rfl)
      have HK := Lib.hid (HT2.out.2.trans (setBox_kept (j := 2) (u := .bool s.fx1)) (Grows.refl _ _))
      clear hb
      obtain ⟨fx1, hfx1⟩ : ∃ fx1, s.fx1 = fx1 := ⟨_, rfl⟩
      rw [hfx1] at HS HK HFX
      cases hf : s.fx
      · rw [hf] at q2 HFX
        have e1 := HFX.out
        simp only [Bool.false_and] at e1
        subst e1
        go_wp2
        go_end0
        exact ⟨rfl, by rw [hfx1]; exact HS.out, HK.out⟩
      · rw [hf] at q2 HFX
        have e1 := HFX.out
        simp only [Bool.true_and] at e1
        subst e1
        go_wp2
        go_end0
        exact ⟨rfl, by rw [hfx1]; exact HS.out, HK.out⟩
end Go.Proofs.YtpgfifacfkllfaaDoor
