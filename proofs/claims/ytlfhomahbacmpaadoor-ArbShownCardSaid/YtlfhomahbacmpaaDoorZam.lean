/- Arb, the code's side: numbers, nextNought, kept. Arb, the code's side: kept, Race. Arb: what the walks ask of the code. Of no program: a row that a literal lays ('f(a, b)' of a variadic f; '[]int{1}'). Arb: the chapter's example; walk of ArbRaces. Arb: walks of ArbRaces and ArbLeast. -/
import Derived.Test.YtlfhomahbacmpaaDoorZal
import Derived.Test.YtlfhomahbacmpaaDoorZai
import Derived.Laws.MakeOwn
import Derived.Test.YtlfhomahbacmpaaDoorZak
import Derived.Test.YtlfhomahbacmpaaDoorZaf
import Derived.Lib.Hide
import Derived.Lib.OthersKept
import Derived.Test.YtlfhomahbacmpaaDoorZaa
namespace Go.Proofs.YtlfhomahbacmpaaDoor
open Go.RowKit
set_option linter.unusedVariables false

/-! ### numbers -/
def NumR (g n k : Nat) (w : World) : Prop := ∀ x, x < n → w.cell? ⟨g, x, none⟩ = some (.int .i64 (if x < k then (x : Int) else 0)) ∧ w.frozen? ⟨g, x, none⟩ = false
theorem NumR.set {g n k : Nat} {w : World} (h : NumR g n k w) (hk : k < n) : NumR g n (k + 1) (w.setCell ⟨g, k, none⟩ (.int .i64 (k : Int))) := by
  intro x hx
  rw [World.frozen?_setCell]
  refine ⟨?_, (h x hx).2⟩
  by_cases e : x = k
  · subst e
    rw [if_pos (by omega), World.cell?_setCell_same' _ _ _ (by rw [(h x hx).1]; rfl)]
  · rw [World.cell?_setCell_other _ _ _ _ (by intro e; injection e; omega), (h x hx).1]
    by_cases e2 : x < k
    · rw [if_pos e2, if_pos (by omega)]
    · rw [if_neg e2, if_neg (by omega)]
theorem NumR.made (w : World) (n : Nat) : NumR w.heap.size n 0 (w.alloc (.cells (madeCells #[.int .i64 0] n) 3)) := by
  intro x hx
  have h : (w.alloc (.cells (madeCells #[.int .i64 0] n) 3)).heap[w.heap.size]? = some (.cells (madeCells #[.int .i64 0] n) 3 (0, 0)) := by unfold World.alloc; simp
  refine ⟨?_, ?_⟩
  · rw [Lib.cell_of_heap h, if_neg (by omega)]
    unfold madeCells
    simp [hx, Nat.mod_one]
  · rw [Lib.frozen_of_heap h]
theorem NumR.sl {g n : Nat} {w : World} (h : NumR g n n w) (hg : g < w.heap.size) (hn : n ≤ 1000000) (c : Nat) : SlI w (.slice (some ⟨g, 0, none⟩) n c) ((List.range n).map fun i : Nat => (i : Int)) := by
  refine ⟨some ⟨g, 0, none⟩, c, by simp, by simp; unfold maxLen; omega, fun i a ha => ⟨_, rfl, hg, fun j u hu => ?_⟩⟩
  have hi : i < n := by
    rcases Nat.lt_or_ge i n with h | h
    · exact h
    · rw [List.getElem?_eq_none (by simpa using h)] at ha; cases ha
  rw [List.getElem?_map, List.getElem?_range hi] at ha
  simp at ha
  subst ha
  match j, hu with
  | 0, hu =>
    simp [intC] at hu
    subst hu
    rw [Nat.mul_one, Nat.add_zero, addr_zero, (h i hi).1, if_pos hi]
theorem run_mkI (n : Nat) (hn : n ≤ 1000000) (w : World) :
    (Instr.makeSlice 28 (.int .i64 n) (.int .i64 n)).run Tryd.prog w = .ok (.slice (some ⟨w.heap.size, 0, none⟩) n n) (w.alloc (.cells (madeCells #[.int .i64 0] n) 3)) := by
  obtain ⟨i0, hi, hz0, hz1, hz2⟩ := info_parts info_int
  have := run_make (P := Tryd.prog) w 28 3 i0 (.int .i64 0) Tryd.underlying28 hi hz0 .i64 .i64 (n : Int) (n : Int) (by omega) (Int.le_refl _) (by rw [hz2]; omega) (by omega)
  rw [hz1, Nat.mul_one, Int.toNat_natCast] at this
  exact this
set_option maxHeartbeats 1000000 in
theorem numbers_v {n : Nat} (hn : n ≤ 1000000) (w : World) :
    Calls Tryd.prog 27 #[.int .i64 n] w fun e w' => ∃ u, e = .returned u ∧ SlI w' u ((List.range n).map fun i : Nat => (i : Int)) ∧ Below w.heap.size w w' := by
  have hmk := run_mkI n hn
  have HM := Lib.hid (NumR.made w n)
  have HB := Lib.hid ((Below.refl w.heap.size w).alloc (Nat.le_refl _) (.cells (madeCells #[.int .i64 0] n) 3))
  have HG : Hid (w.heap.size < (w.alloc (.cells (madeCells #[.int .i64 0] n) 3)).heap.size) := Lib.hid (by simp)
  go_enter Tryd.func27, Tryd.ntmps27
  go_wp2
  clear hmk
  generalize w.alloc (.cells (madeCells #[.int .i64 0] n) 3) = w1 at HM HB HG ⊢
  obtain ⟨g, hg⟩ : ∃ g, w.heap.size = g := ⟨_, rfl⟩
  have HGG := Lib.hid hg
  rw [hg] at HM HG ⊢
  clear hg
  go_loopw [9] (fun i wr => ∃ k : Nat, k ≤ n ∧ i = .int .i64 k ∧ Hid (NumR g n k wr ∧ Below w.heap.size w wr ∧ g < wr.heap.size)) (fun i _ => n - (intOf i).toNat)
  case atStart => exact ⟨0, Nat.zero_le _, rfl, Lib.hid ⟨HM.out, HB.out, HG.out⟩⟩
  case round =>
    obtain ⟨k, hk, rfl, HI⟩ := hrel
    by_cases hlt : k < n
    · obtain ⟨c0, f0⟩ := HI.out.1 k hlt
      rw [if_neg (by omega)] at c0
      have HW := Lib.hid (HI.out.1.set hlt)
      have HBW : Hid (Below w.heap.size w (wr.setCell ⟨g, k, none⟩ (.int .i64 (k : Int)))) := Lib.hid (HI.out.2.1.setCell (p := ⟨g, k, none⟩) (by rw [HGG.out]; exact Nat.le_refl _) _)
      have HGW : Hid (g < (wr.setCell ⟨g, k, none⟩ (.int .i64 (k : Int))).heap.size) := Lib.hid (by simp [World.setCell]; exact HI.out.2.2)
      go_wp2
      go_roundw
      case rel => exact ⟨k + 1, by omega, by go_num, Lib.hid ⟨HW.out, HBW.out, HGW.out⟩⟩
      case measure => simp [intOf]; omega
    · obtain rfl : k = n := by omega
      have HS := Lib.hid (HI.out.1.sl HI.out.2.2 hn k)
      go_wp2
      go_ret
      exact ⟨_, rfl, HS.out, HI.out.2.1⟩

/-! ### nextNought -/
set_option maxHeartbeats 2000000 in
theorem nextN_v {v u : Value} {L : List ByteArray} {R : List Int} {p : Nat} (hm : ∀ s ∈ L, s.size ≤ 1000000) (hL : L.length ≤ 1000000) (hp : p ≤ 1000000) (hR : ∀ i ∈ R, ∃ m : Nat, i = m ∧ m < L.length) (w : World) (hv : SlS w v L) (hu : SlI w u R) :
    Calls Tryd.prog 28 #[v, u, .int .i64 p] w fun e w' => (∃ q, e = .returned (.int .i64 q) ∧ NextP L R p q) ∧ w = w' := by
  have HM := Lib.hid hm
  have HR := Lib.hid hR
  have HV := Lib.hid hv
  have HU := Lib.hid hu
  obtain ⟨A, cap, rfl, hlen, -⟩ := hv
  obtain ⟨A', cap', rfl, hlen', -⟩ := hu
  unfold maxLen at hlen hlen'
  clear hm hR
  go_enter Tryd.func28, Tryd.ntmps28
  go_wp2
  go_loop [7, 14] (fun b i => ∃ k : Nat, ∃ q : Int, k ≤ R.length ∧ i = .int .i64 k ∧ b = .int .i64 q ∧ Hid (NextP L (R.take k) p q)) (fun _ i => R.length - (intOf i).toNat)
  case atStart => exact ⟨0, -1, Nat.zero_le _, rfl, rfl, Lib.hid (NextP.nil L p)⟩
  case round =>
    obtain ⟨k, q, hk, rfl, rfl, HI⟩ := hrel
    have hq : q = -1 ∨ ∃ r : Nat, q = r ∧ p ≤ r ∧ r < 1000001 := HI.out.rng (n := 1000001) (fun i hi => by
      obtain ⟨m, rfl, hm⟩ := HR.out i (List.mem_of_mem_take hi)
      have := HM.out _ (lAt_mem hm)
      omega)
    have hq1 : -1 ≤ q ∧ q ≤ 1000001 := by rcases hq with rfl | ⟨r, rfl, h1, h2⟩ <;> omega
    clear hq
    by_cases hlt : k < R.length
    · obtain ⟨m, hmi, hml⟩ := HR.out _ (List.getElem_mem hlt)
      obtain ⟨x, c1, hv1, hxb, a0⟩ := HU.out.at1 hlt rfl
      injection hv1 with hA _ hcap
      subst hA
      subst hcap
      obtain ⟨y, c2, hv2, hyb, b0⟩ := HV.out.at1 hml rfl
      injection hv2 with hA _ hcap
      subst hA
      subst hcap
      have HT : Hid (R.take (k + 1) = R.take k ++ [(m : Int)]) := Lib.hid (by rw [take_snoc hlt, hmi])
      rw [hmi] at a0
      have hsz := HM.out _ (List.getElem_mem hml)
      have HAT := Lib.hid (lAt_nat hml)
      have hml2 : (m : Int) < (L.length : Int) := by omega
      generalize L[m] = s at b0 hsz HAT
      clear hmi
      by_cases hps : s.size ≤ p
      · have HN := Lib.hid (HI.out.quiet (i := (m : Int)) (fun r hr => by rw [HAT.out]; exact dom_past (by omega)))
        go_wp2
        go_round
        case rel => exact ⟨k + 1, q, by omega, by go_num, rfl, by rw [HT.out]; exact HN⟩
        case measure => simp [intOf]; omega
      · have hct := fun w => cut_tail (s := s) (k := p) (by omega) w
        obtain ⟨vi, hvi⟩ : ∃ vi, Lib.indexByte (s.extract p s.size).data.toList (Int.toNat 48).toUInt8 = vi := ⟨_, rfl⟩
        have hix := idx_rest (by omega) hvi
        have HVI := Lib.hid hvi
        clear hvi
        generalize s.extract p s.size = T at hct HVI
        go_wp2_with fail
        refine (Tryd.strings_IndexByte T 48 _).mono ?_
        rintro e w1 ⟨rfl, rfl⟩
        rw [HVI.out]
        clear hct
        rcases hix with ⟨rfl, hno⟩ | ⟨j, rfl, hj, hd, hno⟩
        · have HN := Lib.hid (HI.out.quiet (i := (m : Int)) (fun r hr => by rw [HAT.out]; exact hno r hr))
          clear hno
          go_wp2
          go_round
          case rel => exact ⟨k + 1, q, by omega, by go_num, rfl, by rw [HT.out]; exact HN⟩
          case measure => simp [intOf]; omega
        · by_cases hq0 : q < 0
          · have HN := Lib.hid (HI.out.turn (i := (m : Int)) (k := j) (by rw [HAT.out]; exact hd) (fun r h1 h2 => by rw [HAT.out]; exact hno r h1 h2) (.inl hq0))
            clear hno hd
            go_wp2
            go_round
            case rel => exact ⟨k + 1, (p : Int) + j, by omega, by go_num, by go_num, by rw [HT.out]; exact HN⟩
            case measure => simp [intOf]; omega
          · by_cases hq2 : (p : Int) + j < q
            · have HN := Lib.hid (HI.out.turn (i := (m : Int)) (k := j) (by rw [HAT.out]; exact hd) (fun r h1 h2 => by rw [HAT.out]; exact hno r h1 h2) (.inr hq2))
              clear hno hd
              go_wp2
              go_round
              case rel => exact ⟨k + 1, (p : Int) + j, by omega, by go_num, by go_num, by rw [HT.out]; exact HN⟩
              case measure => simp [intOf]; omega
            · have HN := Lib.hid (HI.out.later (i := (m : Int)) (k := j) (fun r h1 h2 => by rw [HAT.out]; exact hno r h1 h2) (by omega) (by omega))
              clear hno hd
              go_wp2
              go_round
              case rel => exact ⟨k + 1, q, by omega, by go_num, rfl, by rw [HT.out]; exact HN⟩
              case measure => simp [intOf]; omega
    · obtain rfl : k = R.length := by omega
      have HN : Hid (NextP L R p q) := Lib.hid (by have := HI.out; rwa [List.take_length] at this)
      go_wp2
      go_ret
      exact ⟨⟨q, rfl, HN.out⟩, rfl⟩
end Go.Proofs.YtlfhomahbacmpaaDoor

namespace Go.Proofs.YtlfhomahbacmpaaDoor
open Go.RowKit
set_option linter.unusedVariables false

set_option maxHeartbeats 1000000 in
theorem keeps_v {v : Value} {L : List ByteArray} {m p a b : Nat} {q : Bool} (hm : m < L.length) (hq : dom (lAt L (m : Int)) p = q) (w : World) (hv : SlS w v L)
    (ha : w.cell? ⟨a, 0, none⟩ = some v) (hb : w.cell? ⟨b, 0, none⟩ = some (.int .i64 p)) :
    Calls Tryd.prog 30 #[.int .i64 m, .pointer (some ⟨a, 0, none⟩), .pointer (some ⟨b, 0, none⟩)] w fun e w' => e = .returned (.bool q) ∧ ∃ n, w' = w.drewN n := by
  obtain ⟨x, cap, rfl, hxb, c0⟩ := hv.at1 hm rfl
  rw [lAt_nat hm] at hq
  have HQ := Lib.hid hq
  have c0' : ∀ n, (w.drewN n).cell? (x.add m) = some (.string L[m]) := fun _ => c0
  have ha' : ∀ n, (w.drewN n).cell? ⟨a, 0, none⟩ = some (.slice (some x) L.length cap) := fun _ => ha
  have hb' : ∀ n, (w.drewN n).cell? ⟨b, 0, none⟩ = some (.int .i64 p) := fun _ => hb
  have hm2 : (m : Int) < (L.length : Int) := by omega
  generalize L[m] = s at c0' HQ
  clear hq c0 ha hb
  go_enter Tryd.func30, Tryd.ntmps30
  go_wp2_with fail
  refine wp_region_quiet_lit (by kernel_rfl) (by kernel_rfl) ?_
  repeat (go_big_quiet_step (fail))
  go_big_quiet_step (exact Calls.quiet_of_same ((nought_v HQ.out _).mono fun _ _ ⟨h1, h2⟩ => ⟨h1, h2.symm⟩))
  repeat (go_big_quiet_step (fail))
  refine wpQuiet_nil ?_
  rintro _ ⟨nq, rfl⟩
  go_wp2
  go_ret
  exact ⟨rfl, _, rfl⟩

theorem filter_snoc (P : Int → Bool) {R : List Int} {k : Nat} (h : k < R.length) : (R.take (k + 1)).filter P = (R.take k).filter P ++ (if P R[k] then [R[k]] else []) := by
  rw [take_snoc h, List.filter_append]
  congr 1
  cases hp : P R[k] <;> simp [hp]
set_option maxHeartbeats 2000000 in
theorem kept_v {u : Value} {R : List Int} {P : Int → Bool} {x y : Value} (hl : R.length ≤ 1000000) (w : World) (hu : SlI w u R)
    (hc : ∀ i ∈ R, ∀ w1, Below w.heap.size w w1 → Calls Tryd.prog 30 #[.int .i64 i, x, y] w1 fun e w2 => e = .returned (.bool (P i)) ∧ ∃ n, w2 = w1.drewN n) :
    Calls Tryd.prog 29 #[u, .func (.func 30) #[] #[x, y]] w fun e w' => ∃ v, e = .returned v ∧ GathI w.heap.size w v (R.filter P) w' := by
  have HU := Lib.hid hu
  have HC := Lib.hid hc
  obtain ⟨A, cap, rfl, hlen, -⟩ := hu
  clear hc
  go_enter Tryd.func29, Tryd.ntmps29
  go_wp2_with fail
  go_loopw [5, 10] (fun v i wr => ∃ k : Nat, k ≤ R.length ∧ i = .int .i64 k ∧ Hid (GathI w.heap.size w v ((R.take k).filter P) wr)) (fun _ i _ => R.length - (intOf i).toNat)
  case atStart => exact ⟨0, Nat.zero_le _, rfl, Lib.hid (GathG.start _ _ _ _)⟩
  case round =>
    obtain ⟨k, hk, rfl, HI⟩ := hrel
    by_cases hlt : k < R.length
    · have HUr := Lib.hid (HU.out.later HI.out.2.1)
      obtain ⟨z, c1, hv1, hxb, a0⟩ := HUr.out.at1 hlt rfl
      injection hv1 with hA _ hcap
      subst hA
      subst hcap
      have HF := Lib.hid (filter_snoc P hlt)
      have HCL := Lib.hid (HC.out _ (List.getElem_mem hlt) wr HI.out.2.1)
      have HLN : Hid (((R.take k).filter P).length ≤ 1000000) := Lib.hid (by
        have h1 := List.length_filter_le P (R.take k)
        rw [List.length_take] at h1
        omega)
      generalize R[k] = i at a0 HF HCL
      generalize (R.take k).filter P = F at HI HF HLN
      obtain ⟨b, hb⟩ : ∃ b, P i = b := ⟨_, rfl⟩
      rw [hb] at HCL HF
      clear hb
      go_wp2_with fail
      refine (HCL.out).mono ?_
      rintro e w2 ⟨rfl, n, rfl⟩
      have HI2 := Lib.hid (HI.out.drewN n)
      generalize wr.drewN n = w2 at HI2 ⊢
      clear a0
      cases b
      · go_wp2
        go_roundw
        case rel => exact ⟨k + 1, by omega, by go_num, by rw [HF.out]; simpa using HI2⟩
        case measure => simp [intOf]; omega
      · have HNW := Lib.hid (one_cell w2 (.int .i64 i) 3)
        have HI3 := Lib.hid (HI2.out.alloc (.cells #[.int .i64 i] 3))
        go_wp2_with (at_builtin; refine wpList_rowI rfl _ _ rfl rfl HI3.out.1 HI3.out.2.2 w2.heap.size _ i rfl HNW.out HLN.out ?_)
        intro v' w' hown hbel
        have HI4 : Hid (GathI w.heap.size w v' (F ++ [i]) w') := Lib.hid ⟨by rw [List.length_append]; exact hown, HI3.out.2.1.trans hbel, Nat.le_trans HI3.out.2.2 hbel.size⟩
        clear hown hbel
        go_wp2
        go_roundw
        case rel => exact ⟨k + 1, by omega, by go_num, by rw [HF.out]; exact HI4⟩
        case measure => simp [intOf]; omega
    · obtain rfl : k = R.length := by omega
      have HN : Hid (GathI w.heap.size w u5 (R.filter P) wr) := Lib.hid (by have := HI.out; rwa [List.take_length] at this)
      go_wp2
      go_ret
      exact ⟨_, rfl, HN.out⟩

/-! ### Race -/
/-- v reads as the numbers R, and lies outside the block b -/
def SlX (w : World) (b : Nat) (v : Value) (R : List Int) : Prop :=
  ∃ A cap, v = .slice A R.length cap ∧ R.length ≤ maxLen ∧ ∀ i a, R[i]? = some a → ∃ x, A = some x ∧ x.block < w.heap.size ∧ x.block ≠ b ∧ ∀ j u, (intC a)[j]? = some u → w.cell? (x.add (i * 1 + j)) = some u
theorem SlX.sl {w : World} {b : Nat} {v : Value} {R : List Int} (h : SlX w b v R) : SlI w v R := by
  obtain ⟨A, cap, hv, hm, hc⟩ := h
  refine ⟨A, cap, hv, hm, fun i a ha => ?_⟩
  obtain ⟨x, h1, h2, _, h4⟩ := hc i a ha
  exact ⟨x, h1, h2, h4⟩
theorem SlX.set {w : World} {b : Nat} {v : Value} {R : List Int} (h : SlX w b v R) (u : Value) : SlX (w.setCell ⟨b, 0, none⟩ u) b v R := by
  obtain ⟨A, cap, hv, hm, hc⟩ := h
  refine ⟨A, cap, hv, hm, fun i a ha => ?_⟩
  obtain ⟨x, h1, h2, h3, h4⟩ := hc i a ha
  refine ⟨x, h1, by simpa [World.setCell] using h2, h3, fun j t ht => ?_⟩
  rw [World.cell?_setCell_other _ _ _ _ (by intro e; apply h3; have := congrArg Addr.block e; rw [addr_block] at this; exact this.symm)]
  exact h4 j t ht
theorem SlX.of_new {w : World} {v : Value} {R : List Int} (h : SlI w v R) (o : Obj) : SlX (w.alloc o) w.heap.size v R := by
  obtain ⟨A, cap, hv, hm, hc⟩ := h
  refine ⟨A, cap, hv, hm, fun i a ha => ?_⟩
  obtain ⟨x, h1, h2, h4⟩ := hc i a ha
  have hb := (Below.refl w.heap.size w).alloc (Nat.le_refl _) o
  exact ⟨x, h1, Nat.lt_of_lt_of_le h2 hb.size, by omega, fun j t ht => (hb.cell (by rw [addr_block]; exact h2)).trans (h4 j t ht)⟩
theorem SlX.of_gath {w0 wr : World} {B b : Nat} {v : Value} {R : List Int} (h : GathI B w0 v R wr) (hm : R.length ≤ 1000000) (hb : b < B) : SlX wr b v R := by
  have h9 := h.slI hm
  rcases h.1.2 with ⟨rfl, hn⟩ | ⟨g, cap, cur, rfl, hbg, hg, rest⟩
  · obtain ⟨A, c, hv, hm, hc⟩ := h9
    refine ⟨A, c, hv, hm, fun i a ha => ?_⟩
    obtain ⟨x, h1, h2, h4⟩ := hc i a ha
    injection hv with e
    rw [h1] at e
    cases e
  · obtain ⟨A, c, hv, hm, hc⟩ := h9
    refine ⟨A, c, hv, hm, fun i a ha => ?_⟩
    obtain ⟨x, h1, h2, h4⟩ := hc i a ha
    injection hv with e
    rw [h1] at e
    injection e with e
    exact ⟨x, h1, h2, by rw [← e]; simp only; omega, h4⟩
/-- what the race knows ahead of a place -/
structure RaceSt (L : List ByteArray) (v : Value) (w : World) (b p : Nat) (u : Value) (wr : World) : Prop where
  le : p ≤ longL L
  row : SlX wr b u (rcL L p)
  box : wr.cell? ⟨w.heap.size, 0, none⟩ = some v
  cur : wr.cell? ⟨b, 0, none⟩ = some (.int .i64 p)
  fr : wr.frozen? ⟨b, 0, none⟩ = false
  lt : w.heap.size < b
  bs : b < wr.heap.size
  below : Below w.heap.size w wr
theorem RaceSt.put {L : List ByteArray} {v : Value} {w : World} {b p : Nat} {u : Value} {wr : World} (h : RaceSt L v w b p u wr) (x : Int) :
    SlX (wr.setCell ⟨b, 0, none⟩ (.int .i64 x)) b u (rcL L p) ∧ (wr.setCell ⟨b, 0, none⟩ (.int .i64 x)).cell? ⟨w.heap.size, 0, none⟩ = some v ∧ (wr.setCell ⟨b, 0, none⟩ (.int .i64 x)).cell? ⟨b, 0, none⟩ = some (.int .i64 x) ∧
    (wr.setCell ⟨b, 0, none⟩ (.int .i64 x)).frozen? ⟨b, 0, none⟩ = false ∧ b < (wr.setCell ⟨b, 0, none⟩ (.int .i64 x)).heap.size ∧ Below w.heap.size w (wr.setCell ⟨b, 0, none⟩ (.int .i64 x)) := by
  have hl := h.lt
  refine ⟨h.row.set _, ?_, ?_, ?_, by simp [World.setCell]; exact h.bs, h.below.setCell (p := ⟨b, 0, none⟩) (by simp only; omega) _⟩
  · rw [World.cell?_setCell_other _ _ _ _ (by intro e; injection e; omega)]; exact h.box
  · rw [World.cell?_setCell_same' _ _ _ (by rw [h.cur]; rfl)]
  · rw [World.frozen?_setCell]; exact h.fr
def ptrA : Value → Addr
  | .pointer (some a) => a
  | _ => ⟨0, 0, none⟩
def numC : Option Value → Nat
  | some (.int _ n) => n.toNat
  | _ => 0
def raceJ (L : List ByteArray) (v : Value) (w : World) (a : Act) (wr : World) : Prop :=
  ∃ (p b : Nat) (u u5 u6 u7 u8 u9 u10 u11 u12 u13 u14 u15 u16 u17 u18 u19 : Value), a = { tmps := #[v, .pointer (some ⟨w.heap.size, 0, none⟩), .slice none 0 0, u, .pointer (some ⟨b, 0, none⟩), u5, u6, u7, u8, u9, u10, u11, u12, u13, u14, u15, u16, u17, u18, u19], defers := [] } ∧
    RaceSt L v w b p u wr
theorem rcL_rng {L : List ByteArray} {p : Nat} : ∀ i ∈ rcL L p, ∃ m : Nat, i = m ∧ m < L.length := fun i hi => by
  obtain ⟨m, h1, h2, _⟩ := rcL_mem.1 hi
  exact ⟨m, h1, h2⟩

set_option maxHeartbeats 2000000 in
theorem karace_v {v : Value} {L : List ByteArray} (hm : ∀ s ∈ L, s.size ≤ 1000000) (hL : L.length ≤ 1000000) (w : World) (hv : SlS w v L) :
    Calls Tryd.prog 13 #[v] w fun e w' => ∃ u, e = .returned u ∧ SlI w' u (raceL L (longL L) L.length) ∧ Below w.heap.size w w' := by
  have HM := Lib.hid hm
  have HL := Lib.hid hL
  have HV := Lib.hid hv
  have HN6 := Lib.hid (longL_le hm)
  obtain ⟨A, cap, rfl, -, -⟩ := hv
  clear hm
  go_enter Tryd.func13, Tryd.ntmps13
  go_wp2_with fail
  have hb0 := (Below.refl w.heap.size w).alloc (Nat.le_refl _) (.cells #[.slice A L.length cap] 22)
  have hx0 : (w.alloc (.cells #[.slice A L.length cap] 22)).cell? ⟨w.heap.size, 0, none⟩ = some (.slice A L.length cap) := by simp
  have hz0 : w.heap.size < (w.alloc (.cells #[.slice A L.length cap] 22)).heap.size := by simp
  have HB0 := Lib.hid hb0
  have HX0 := Lib.hid hx0
  have HZ0 := Lib.hid hz0
  clear hb0 hz0
  generalize w.alloc (.cells #[.slice A L.length cap] 22) = w0 at HB0 HX0 HZ0 hx0 ⊢
  refine (fun pass => wp_scope_label 0 (raceJ L (.slice A L.length cap) w) (fun a' w' => longL L + 1 - numC (w'.cell? (ptrA (a'.tmps.getD 4 undef)))) rfl pass ?_) ?_
  · intro hpass
    go_wp2_with fail
    refine (numbers_v (n := L.length) HL.out _).mono ?_
    rintro e w1 ⟨u, rfl, hs1, hb1⟩
    clear hx0
    go_wp2_with fail
    have hb2 := (Below.refl w1.heap.size w1).alloc (Nat.le_refl _) (.cells #[.int .i64 0] 3)
    have HST : RaceSt L (.slice A L.length cap) w w1.heap.size 0 u (w1.alloc (.cells #[.int .i64 0] 3)) := by
      have hlt1 : w.heap.size < w1.heap.size := Nat.lt_of_lt_of_le HZ0.out hb1.size
      refine ⟨Nat.zero_le _, ?_, ?_, by simp, by simp, hlt1, by simp, ?_⟩
      · rw [rcL_zero]; exact SlX.of_new hs1 _
      · exact (hb2.cell (p := ⟨w.heap.size, 0, none⟩) hlt1).trans ((hb1.cell (p := ⟨w.heap.size, 0, none⟩) HZ0.out).trans HX0.out)
      · exact (HB0.out.trans (hb1.mono HB0.out.size)).trans (hb2.mono (Nat.le_trans HB0.out.size hb1.size))
    go_step3
    rename_i K hK
    exact hK _ _ (hpass _ _ ⟨0, w1.heap.size, u, _, _, _, _, _, _, _, _, _, _, _, _, _, _, _, rfl, HST⟩)
  · rintro a' wr ⟨p, b, u, u5, u6, u7, u8, u9, u10, u11, u12, u13, u14, u15, u16, u17, u18, u19, rfl, hS⟩
    have HS := Lib.hid hS
    have HI := Lib.hid hS.row.sl
    have hle := hS.le
    have c1 := hS.box
    have c2 := hS.cur
    have f2 := hS.fr
    have HVR := Lib.hid (HV.out.later hS.below)
    obtain ⟨Au, cu, rfl, -, -⟩ := hS.row
    clear hS
    have hp6 : p ≤ 1000000 := Nat.le_trans hle HN6.out
    go_wp2_with fail
    refine (nextN_v HM.out HL.out hp6 rcL_rng _ HVR.out HI.out).mono ?_
    rintro e w2 ⟨⟨q, rfl, hq⟩, rfl⟩
    have HQ := Lib.hid hq
    have hr := hq.rng (n := longL L) (fun i hi => by
      obtain ⟨m, rfl, hm⟩ := rcL_rng i hi
      exact longL_ge (lAt_mem hm))
    clear hq
    have HP := Lib.hid (HS.out.put q)
    rcases hr with rfl | ⟨r, rfl, hpr, hrn⟩
    · have HE : Hid (raceL L (longL L) L.length = rcL L p) := Lib.hid (HQ.out.none hle)
      clear hle
      go_wp2
      simp only [Exit.jump]
      go_ret
      exact ⟨_, rfl, by rw [HE.out]; exact HP.out.1.sl, HP.out.2.2.2.2.2⟩
    · have HE := Lib.hid HQ.out.some
      have HRN := Lib.hid hrn
      have hr6 : r ≤ 1000000 := by have := HN6.out; omega
      have HPL := Lib.hid hpr
      have HKL : Hid ((rcL L p).length ≤ 1000000) := Lib.hid (Nat.le_trans (rcL_len L p) HL.out)
      clear hpr hrn hle
      go_wp2_with fail
      have HVW := Lib.hid (HV.out.later HP.out.2.2.2.2.2)
      refine (kept_v (P := fun i => dom (lAt L i) r) HKL.out _ HP.out.1.sl (fun i hi w3 hb3 => by
        obtain ⟨m, rfl, hm⟩ := rcL_rng i hi
        exact keeps_v hm rfl _ (HVW.out.later hb3) ((hb3.cell (p := ⟨w.heap.size, 0, none⟩) (Nat.lt_trans HS.out.lt HP.out.2.2.2.2.1)).trans HP.out.2.1) ((hb3.cell (p := ⟨b, 0, none⟩) HP.out.2.2.2.2.1).trans HP.out.2.2.1))).mono ?_
      rintro e w4 ⟨v4, rfl, hg4⟩
      have hb4 : Below (wr.setCell ⟨b, 0, none⟩ (.int .i64 (r : Int))).heap.size (wr.setCell ⟨b, 0, none⟩ (.int .i64 (r : Int))) w4 := hg4.2.1
      have HST : Hid (w4.cell? ⟨w.heap.size, 0, none⟩ = some (.slice A L.length cap) ∧ b < w4.heap.size ∧ Below w.heap.size w w4) := Lib.hid
        ⟨(hb4.cell (p := ⟨w.heap.size, 0, none⟩) (Nat.lt_trans HS.out.lt HP.out.2.2.2.2.1)).trans HP.out.2.1, Nat.lt_of_lt_of_le HP.out.2.2.2.2.1 hb4.size, HP.out.2.2.2.2.2.trans (hb4.mono HP.out.2.2.2.2.2.size)⟩
      have d2 : w4.cell? ⟨b, 0, none⟩ = some (.int .i64 (r : Int)) := (hb4.cell (p := ⟨b, 0, none⟩) HP.out.2.2.2.2.1).trans HP.out.2.2.1
      have g2 : w4.frozen? ⟨b, 0, none⟩ = false := (hb4.frozen (p := ⟨b, 0, none⟩) HP.out.2.2.2.2.1).trans HP.out.2.2.2.1
      have HR4 : Hid (SlX w4 b v4 (rcL L (r + 1))) := Lib.hid (by
        rw [HE.out]
        exact SlX.of_gath hg4 (Nat.le_trans (List.length_filter_le _ _) HKL.out) HP.out.2.2.2.2.1)
      have HC2 := Lib.hid c2
      clear hg4 hb4 c1 c2 f2
      go_wp2
      go_step3
      have e3 : (r : Int) + 1 = ((r + 1 : Nat) : Int) := by omega
      have hl := HS.out.lt
      rw [e3]
      refine ⟨rfl, ⟨r + 1, b, v4, _, _, _, _, _, _, _, _, _, _, _, _, _, _, _, rfl, HRN.out, HR4.out.set _, ?_, ?_, ?_, hl, ?_, ?_⟩, ?_⟩
      · rw [World.cell?_setCell_other _ _ _ _ (by intro e; injection e; omega)]; exact HST.out.1
      · rw [World.cell?_setCell_same' _ _ _ (by rw [d2]; rfl)]
      · rw [World.frozen?_setCell]; exact g2
      · simp [World.setCell]; exact HST.out.2.1
      · exact HST.out.2.2.setCell (p := ⟨b, 0, none⟩) (by simp only; omega) _
      · have e1 : (w4.setCell ⟨b, 0, none⟩ (.int .i64 ((r + 1 : Nat) : Int))).cell? ⟨b, 0, none⟩ = some (.int .i64 ((r + 1 : Nat) : Int)) := by rw [World.cell?_setCell_same' _ _ _ (by rw [d2]; rfl)]
        have e2 := HC2.out
        have e4 := HRN.out
        have e5 := HPL.out
        show longL L + 1 - numC ((w4.setCell ⟨b, 0, none⟩ (.int .i64 ((r + 1 : Nat) : Int))).cell? ⟨b, 0, none⟩) < longL L + 1 - numC (wr.cell? ⟨b, 0, none⟩)
        rw [e1, e2]
        simp only [numC, Int.toNat_natCast]
        omega
end Go.Proofs.YtlfhomahbacmpaaDoor

namespace Go.Proofs.YtlfhomahbacmpaaDoor
end Go.Proofs.YtlfhomahbacmpaaDoor

namespace Go.Proofs.YtlfhomahbacmpaaDoor
open Go.RowKit
set_option linter.unusedVariables false

theorem SlG.new {α : Type} {c : α → List Value} {k : Nat} (hk : ∀ a, (c a).length = k) (w : World) (E : TypeId) (L : List α) (hL : L.length ≤ 1000000) {cs : Array Value} (hc : cs = (rowG c L).toArray) {n m : Nat} (hn : n = L.length) (hm : m = L.length) :
    SlG c k (w.alloc (.cells cs E)) (w.alloc (.cells cs E)).heap.size (.slice (some ⟨w.heap.size, 0, none⟩) n m) L := by
  subst hc; subst hn; subst hm
  refine ⟨some ⟨w.heap.size, 0, none⟩, L.length, rfl, by unfold maxLen; omega, fun i a h => ⟨_, rfl, by simp, fun j u hu => ?_⟩⟩
  have hh : (w.alloc (.cells (rowG c L).toArray E)).heap[w.heap.size]? = some (.cells (rowG c L).toArray E (0, 0)) := by unfold World.alloc; simp
  have e : (⟨w.heap.size, 0, none⟩ : Addr).add (i * k + j) = ⟨w.heap.size, i * k + j, none⟩ := by unfold Addr.add; split <;> simp_all
  rw [e, Lib.cell_of_heap hh, List.getElem?_toArray]
  exact rowG_get hk L i a h j u hu
end Go.Proofs.YtlfhomahbacmpaaDoor

namespace Go.Proofs.YtlfhomahbacmpaaDoor
open Go.RowKit
set_option linter.unusedVariables false

set_option maxRecDepth 100000 in
theorem exa_race : decide (raceL [ByteArray.mk #[48, 49], ByteArray.mk #[48, 48], ByteArray.mk #[49]] (longL [ByteArray.mk #[48, 49], ByteArray.mk #[48, 48], ByteArray.mk #[49]]) 3 = [1]) = true := by decide +kernel
set_option maxRecDepth 100000 in
theorem exa_least : leastIx [⟨2, 0, 0, ByteArray.mk #[]⟩, ⟨1, 0, 0, ByteArray.mk #[]⟩] 2 = some 1 := by decide +kernel
set_option maxRecDepth 100000 in
theorem exa_level : strOfNums (levelL [ByteArray.mk #[49, 48], ByteArray.mk #[49, 49]] (longL [ByteArray.mk #[49, 48], ByteArray.mk #[49, 49]])) = ByteArray.mk #[49, 48] := by decide +kernel
theorem exa_fits : ∀ f ∈ [(⟨2, 0, 0, ByteArray.mk #[]⟩ : Fr), ⟨1, 0, 0, ByteArray.mk #[]⟩], f.fits := by
  intro f hf
  simp only [List.mem_cons, List.not_mem_nil, or_false] at hf
  rcases hf with rfl | rfl <;> exact ⟨by decide, by decide, by decide, by decide⟩
theorem exa_key : keyV 1 0 0 (ByteArray.mk #[]).size = keyV 1 0 0 0 := rfl
set_option maxRecDepth 100000 in
theorem exa_len : (strOfNums (fieldL (keyV 1 0 0 0))).size = 33 := by decide +kernel
set_option maxHeartbeats 2000000 in
theorem arbalive_any (w : World) (hT : ATab w) : Calls Tryd.prog 9 #[] w fun e w' => e = .returned (.bool true) ∧ Below w.heap.size w w' := by
  have HT := Lib.hid hT
  clear hT
  obtain ⟨t, ht⟩ : ∃ t, strOfNums (fieldL (keyV 1 0 0 0)) = t := ⟨_, rfl⟩
  have HF := Lib.hid ht
  have htz : t.size = 33 := by rw [← ht]; exact exa_len
  have htz2 : ((t.size : Int) == 33) = true := by rw [htz]; rfl
  clear ht
  have e1 := seq_self (ByteArray.mk #[49, 48])
  go_enter Tryd.func9, Tryd.ntmps9
  go_wp2_with fail
  have HB0 : Hid (Below w.heap.size w (w.alloc (.cells #[.int .i64 2, .int .i64 0, .int .i64 0, .string (ByteArray.mk #[]), .int .i64 1, .int .i64 0, .int .i64 0, .string (ByteArray.mk #[])] 33))) := Lib.hid ((Below.refl _ _).alloc (Nat.le_refl _) _)
  refine (kaleast_v (L := [⟨2, 0, 0, ByteArray.mk #[]⟩, ⟨1, 0, 0, ByteArray.mk #[]⟩]) _ (SlG.new frC_len w 33 _ (by decide) rfl rfl rfl) exa_fits (HT.out.below HB0.out)).mono ?_
  rw [show leastIx [⟨2, 0, 0, ByteArray.mk #[]⟩, ⟨1, 0, 0, ByteArray.mk #[]⟩] [(⟨2, 0, 0, ByteArray.mk #[]⟩ : Fr), ⟨1, 0, 0, ByteArray.mk #[]⟩].length = some 1 from exa_least]
  rintro e w1 ⟨rfl, hb1⟩
  have HB1 := Lib.hid (fbelow_t HB0.out hb1)
  clear hb1
  go_wp2_with fail
  have HB2 := Lib.hid (fbelow_t HB1.out ((Below.refl w1.heap.size w1).alloc (Nat.le_refl _) (.cells #[.string (ByteArray.mk #[48, 49]), .string (ByteArray.mk #[48, 48]), .string (ByteArray.mk #[49])] 9)))
  refine (karace_v (L := [ByteArray.mk #[48, 49], ByteArray.mk #[48, 48], ByteArray.mk #[49]]) (by decide) (by decide) _ (SlG.new strC_len w1 9 _ (by decide) rfl rfl rfl)).mono ?_
  rintro e w3 ⟨u, rfl, hs3, hb3⟩
  have HB3 := Lib.hid (fbelow_t HB2.out hb3)
  have HS3 := Lib.hid hs3
  obtain ⟨A3, cap3, rfl, -, -⟩ := hs3
  clear hb3
  go_wp2_with fail
  have hb4 := (Below.refl w3.heap.size w3).alloc (Nat.le_refl _) (.cells #[.int .i64 1] 3)
  have HB4 := Lib.hid (fbelow_t HB3.out hb4)
  refine (sints_v exa_race _ (HS3.out.later hb4) (SlG.new (c := intC) intC_len w3 3 [1] (by decide) rfl rfl rfl)).mono ?_
  rintro e w5 ⟨rfl, m, rfl⟩
  have HB5 := Lib.hid (below_drewN HB4.out m)
  clear hb4
  generalize (w3.alloc (.cells #[.int .i64 1] 3)).drewN m = w5 at HB5 ⊢
  go_wp2_with fail
  refine (kafield_v exa_key HF.out _ (HT.out.below HB5.out) (by decide)).mono ?_
  rintro e w6 ⟨rfl, hb6⟩
  have HB6 := Lib.hid (fbelow_t HB5.out hb6)
  clear hb6
  go_wp2_with fail
  have HB7 := Lib.hid (fbelow_t HB6.out ((Below.refl w6.heap.size w6).alloc (Nat.le_refl _) (.cells #[.string (ByteArray.mk #[49, 48]), .string (ByteArray.mk #[49, 49])] 9)))
  refine (kalevel_v (L := [ByteArray.mk #[49, 48], ByteArray.mk #[49, 49]]) exa_level (by decide) _ (SlG.new strC_len w6 9 _ (by decide) rfl rfl rfl)).mono ?_
  rintro e w8 ⟨rfl, hb8⟩
  have HB8 := Lib.hid (fbelow_t HB7.out hb8)
  clear hb8
  go_wp2
  go_ret
  exact ⟨rfl, HB8.out⟩
end Go.Proofs.YtlfhomahbacmpaaDoor

namespace Go.Proofs.YtlfhomahbacmpaaDoor
open Go.RowKit
set_option linter.unusedVariables false

theorem few_small {L : List ByteArray} (h : fewTB L = true) : (∀ s ∈ L, s.size ≤ 1000000) ∧ L.length ≤ 1000000 := by
  obtain ⟨h1, h2⟩ := fewT_parts h
  exact ⟨fun s hs => by have := h2 s hs; omega, by omega⟩
def strOf : List Value → ByteArray
  | [.string s] => s
  | _ => ByteArray.mk #[]
theorem strOf_c (l : List Value) (h : FitsAll [.str] l) : strC (strOf l) = l := by
  obtain ⟨v0, l0, rfl, ⟨a0, rfl, _⟩, h0⟩ := FitsAll.cons h
  obtain rfl := FitsAll.nil h0
  rfl
theorem str_fits {s : ByteArray} (h : FitsAll [.str] (strC s)) : s.size ≤ maxLen := by
  obtain ⟨⟨a0, e0, h0⟩, _⟩ := h
  injection e0 with e0
  rw [e0]; exact h0
set_option maxHeartbeats 4000000 in
theorem arbRaces_walk (a : Option Addr) (len cap : Nat) (F : Nat → List Value) (w : World) (hr : IsRowOf w [.str] a len cap F) (hT : ATab w) :
    Calls Tryd.prog 3 #[.slice a len cap] w fun e w' => e = .returned (.bool true) ∧ Below w.heap.size w w' := by
  obtain ⟨L, hL, hlen, hf⟩ := slice_of_row hr strOf strOf_c rfl (by decide)
  have HT := Lib.hid hT
  have HV : Hid (SlS w (.slice a len cap) L) := Lib.hid hL
  have HX : Hid (∀ s ∈ L, s.size ≤ maxLen) := Lib.hid (fun s hs => str_fits (hf s hs))
  clear hr hT hf hL
  cases hq : fewTB L
  · have HQ := Lib.hid hq
    clear hq
    go_enter Tryd.func3, Tryd.ntmps3
    go_wp2_with fail
    refine (sfew_v HQ.out _ HV.out HX.out).mono ?_
    rintro e w1 ⟨rfl, rfl⟩
    go_wp2_with fail
    refine (arbalive_any _ HT.out).mono ?_
    rintro e w1 ⟨rfl, hb1⟩
    go_wp2
    go_ret
    exact ⟨rfl, hb1⟩
  · have HQ := Lib.hid hq
    have HM := Lib.hid (few_small hq)
    obtain ⟨t, ht⟩ : ∃ t, strOfNums (levelL L (longL L)) = t := ⟨_, rfl⟩
    have HL := Lib.hid ht
    have et := seq_self t
    obtain ⟨R, hR⟩ : ∃ R, raceL L (longL L) L.length = R := ⟨_, rfl⟩
    have HR := Lib.hid hR
    have HRL : Hid (R.length ≤ 1000000) := Lib.hid (by rw [← hR]; exact Nat.le_trans (raceL_len _ _ _) HM.out.2)
    clear hq ht hR
    go_enter Tryd.func3, Tryd.ntmps3
    go_wp2_with fail
    refine (sfew_v HQ.out _ HV.out HX.out).mono ?_
    rintro e w1 ⟨rfl, rfl⟩
    go_wp2_with fail
    refine (kalevel_v HL.out HM.out.1 _ HV.out).mono ?_
    rintro e w2 ⟨rfl, hb2⟩
    have HV2 := Lib.hid (HV.out.later hb2)
    have HB2 := Lib.hid hb2
    clear hb2
    go_wp2_with fail
    refine (slevel_v HL.out (fun s hs => HM.out.1 s hs) _ HV2.out).mono ?_
    rintro e w3 ⟨rfl, rfl⟩
    go_wp2_with fail
    refine (karace_v HM.out.1 HM.out.2 _ HV2.out).mono ?_
    rw [HR.out]
    rintro e w3 ⟨u3, rfl, hs3, hb3⟩
    have HS3 := Lib.hid hs3
    have HV3 := Lib.hid (HV2.out.later hb3)
    have HB3 := Lib.hid (fbelow_t HB2.out hb3)
    obtain ⟨A3, c3, rfl, -, -⟩ := hs3
    clear hb3
    go_wp2_with fail
    refine (srace_v HM.out.1 HM.out.2 _ HV3.out).mono ?_
    rw [HR.out]
    rintro e w4 ⟨u4, rfl, hg4⟩
    have HS4 := Lib.hid (hg4.slI HRL.out)
    have HS34 := Lib.hid (HS3.out.later hg4.2.1)
    have HB4 := Lib.hid (fbelow_t HB3.out hg4.2.1)
    obtain ⟨A4, c4, rfl, -, -⟩ := hg4.slI HRL.out
    clear hg4
    go_wp2_with fail
    refine (sints_v (L := R) (L' := R) (q := true) (by simp) _ HS34.out HS4.out).mono ?_
    rintro e w5 ⟨rfl, m, rfl⟩
    have HB5 := Lib.hid (below_drewN HB4.out m)
    generalize w4.drewN m = w5 at HB5 ⊢
    go_wp2_with fail
    refine (arbalive_any _ (HT.out.below HB5.out)).mono ?_
    rintro e w6 ⟨rfl, hb6⟩
    go_wp2
    go_ret
    exact ⟨rfl, fbelow_t HB5.out hb6⟩

theorem ATab.later {W : World} (n : Later W) (h : ATab W) : ATab n.w := h.below n.h
theorem keyF_eq (f : Fr) : keyV f.i f.n f.l f.d.size = keyF f := rfl
set_option maxHeartbeats 4000000 in
theorem arbLeast_walk (a : Option Addr) (len cap : Nat) (F : Nat → List Value) (w : World) (hr : IsRowOf w [.int .i64, .int .i64, .int .i64, .str] a len cap F) (hT : ATab w) :
    Calls Tryd.prog 4 #[.slice a len cap] w fun e w' => e = .returned (.bool true) ∧ Below w.heap.size w w' := by
  obtain ⟨L, hL, hlen, hf⟩ := slice_of_row hr frOf frOf_c rfl (by decide)
  have HT := Lib.hid hT
  have HV : Hid (SlF w w.heap.size (.slice a len cap) L) := Lib.hid hL
  have HX : Hid (∀ f ∈ L, f.fits) := Lib.hid (fun f h => fr_fits (hf f h))
  clear hr hT hf hL
  subst hlen
  by_cases h20 : (20 : Int) < (L.length : Int)
  · go_enter Tryd.func4, Tryd.ntmps4
    go_wp2_with fail
    refine (arbalive_any _ HT.out).mono ?_
    rintro e w1 ⟨rfl, hb1⟩
    go_wp2
    go_ret
    exact ⟨rfl, hb1⟩
  have hl2 : L.length ≤ 20 := by omega
  clear h20
  have hl3 : ¬ (20 : Int) < (L.length : Int) := by omega
  go_enter Tryd.func4, Tryd.ntmps4
  go_wp2_with fail
  go_loopw [15] (fun i wr => ∃ k : Nat, k ≤ L.length ∧ i = .int .i64 k ∧ Hid (Below w.heap.size w wr)) (fun i _ => L.length - (intOf i).toNat)
  case atStart => exact ⟨0, Nat.zero_le _, rfl, Lib.hid (Below.refl _ _)⟩
  case round =>
    obtain ⟨k, hk, rfl, HI⟩ := hrel
    by_cases hlt : k < L.length
    · obtain ⟨x, c', hv', hxb, hc⟩ := SlF.facts (HV.out.later HI.out) hlt
      injection hv' with hA _ hcap
      subst hA
      subst hcap
      obtain ⟨c0, c1, c2, c3⟩ := hc ⟨wr, Below.refl _ _⟩
      clear hc
      have HNF : Hid ((Lit.int .i64 (L[k]).n).wf = true) := Lib.hid (HX.out _ (List.getElem_mem hlt)).2.1
      generalize L[k] = f at c0 c1 c2 c3 HNF
      obtain ⟨t, ht⟩ : ∃ t, strOfNums (fieldL (keyF f)) = t := ⟨_, rfl⟩
      have HTT := Lib.hid ht
      have et := seq_self t
      clear ht
      have HF := Lib.hid (BoxF.made wr f.i f.n f.l f.d)
      have HB1 := Lib.hid (fbelow_t HI.out ((Below.refl wr.heap.size wr).alloc (Nat.le_refl _) (.cells #[.int .i64 f.i, .int .i64 f.n, .int .i64 f.l, .string f.d] 33)))
      have HT1 := Lib.hid (HT.out.below HB1.out)
      go_wp2_with fail
      obtain ⟨d0, d1, d2, d3⟩ := HF.out.cells
      have hz : wr.heap.size < (wr.alloc (.cells #[.int .i64 f.i, .int .i64 f.n, .int .i64 f.l, .string f.d] 33)).heap.size := HF.out.lt
      generalize wr.alloc (.cells #[.int .i64 f.i, .int .i64 f.n, .int .i64 f.l, .string f.d] 33) = w2 at HF HB1 HT1 d0 d1 d2 d3 hz ⊢
      have hcl : ∀ (n : Later w2) (b o : Nat), b < w2.heap.size → n.w.cell? ⟨b, o, none⟩ = w2.cell? ⟨b, o, none⟩ := later_cells w2
      refine wp_region_later (by kernel_rfl) (by kernel_rfl) ?_
      repeat (go_big_quiet_step (fail))
      go_big_quiet_step (exact Later.call (kafield_v (keyF_eq f) HTT.out _ (ATab.later _ HT1.out) HNF.out))
      repeat (go_big_quiet_step (fail))
      go_big_quiet_step (exact Later.call (sfield_v (keyF_eq f) HTT.out _))
      repeat (go_big_quiet_step (fail))
      refine wpQuiet_nil ?_
      rintro w3 ⟨l2, rfl⟩
      have HB3 := Lib.hid (fbelow_t HB1.out l2.h)
      generalize l2.w = w3 at HB3 ⊢
      clear l2 hcl c0 c1 c2 c3 d0 d1 d2 d3 hz
      go_wp2
      go_roundw
      case rel => exact ⟨k + 1, by omega, by go_num, HB3⟩
      case measure => simp [intOf]; omega
    · obtain rfl : k = L.length := by omega
      have HV2 := Lib.hid (HV.out.later HI.out)
      have HT2 := Lib.hid (HT.out.below HI.out)
      obtain ⟨o, ho⟩ : ∃ o, leastIx L L.length = o := ⟨_, rfl⟩
      have HO := Lib.hid ho
      clear ho
      go_wp2_with fail
      refine (kaleast_v _ HV2.out HX.out HT2.out).mono ?_
      rw [HO.out]
      rintro e w2 ⟨h1, hb2⟩
      have HB2 := Lib.hid (fbelow_t HI.out hb2)
      have HV3 := Lib.hid (HV2.out.later hb2)
      clear hb2
      cases o
      · subst h1
        go_wp2_with fail
        refine (sleast_v _ HV3.out).mono ?_
        rw [HO.out]
        rintro e w3 ⟨h1, hb3⟩
        subst h1
        have HB3 := Lib.hid (fbelow_t HB2.out hb3)
        clear hb3
        go_wp2_with fail
        refine (arbalive_any _ (HT.out.below HB3.out)).mono ?_
        rintro e w6 ⟨rfl, hb6⟩
        go_wp2
        go_ret
        exact ⟨rfl, fbelow_t HB3.out hb6⟩
      · rename_i j
        subst h1
        have ej : ((j : Int) == (j : Int)) = true := by simp
        go_wp2_with fail
        refine (sleast_v _ HV3.out).mono ?_
        rw [HO.out]
        rintro e w3 ⟨h1, hb3⟩
        subst h1
        have HB3 := Lib.hid (fbelow_t HB2.out hb3)
        clear hb3
        go_wp2_with fail
        refine (arbalive_any _ (HT.out.below HB3.out)).mono ?_
        rintro e w6 ⟨rfl, hb6⟩
        go_wp2
        go_ret
        exact ⟨rfl, fbelow_t HB3.out hb6⟩
end Go.Proofs.YtlfhomahbacmpaaDoor
