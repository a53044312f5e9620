/- Of no program: rows of frames. (Parted from XWirY, so that others have it without wire.) Arb, the document's side: rows of texts; at, Long, Whole, Level, Few. Arb, the document's side: Few, Ints, In, Race. Arb, the document's side: Field. -/
import Derived.Test.YtlfhomahbacmpaaDoorZaf
import Derived.Test.YtlfhomahbacmpaaDoorZad
import Derived.Test.YtlfhomahbacmpaaDoorZaa
import Derived.Test.YtlfhomahbacmpaaDoorZag
import Derived.Test.YtlfhomahbacmpaaDoorZai
import Derived.Test.YtlfhomahbacmpaaDoorZah
namespace Go.Proofs.YtlfhomahbacmpaaDoor
open Go.RowKit
set_option linter.unusedVariables false

def frC (f : Fr) : List Value := [.int .i64 f.i, .int .i64 f.n, .int .i64 f.l, .string f.d]
theorem frC_len (f : Fr) : (frC f).length = 4 := rfl
/-- the slice v reads as the frames L -/
abbrev SlF (w : World) (B : Nat) (v : Value) (L : List Fr) : Prop := SlG frC 4 w B v L
abbrev GathF (B : Nat) (w0 : World) (v : Value) (L : List Fr) (wr : World) : Prop := GathG 33 frC 4 B w0 v L wr
def frOf : List Value → Fr
  | [.int _ i, .int _ n, .int _ l, .string d] => ⟨i, n, l, d⟩
  | _ => ⟨0, 0, 0, ByteArray.mk #[]⟩
theorem frOf_c (l : List Value) (h : FitsAll [.int .i64, .int .i64, .int .i64, .str] l) : frC (frOf l) = l := by
  obtain ⟨v0, l0, rfl, ⟨a0, rfl, _⟩, h0⟩ := FitsAll.cons h
  obtain ⟨v1, l1, rfl, ⟨a1, rfl, _⟩, h1⟩ := FitsAll.cons h0
  obtain ⟨v2, l2, rfl, ⟨a2, rfl, _⟩, h2⟩ := FitsAll.cons h1
  obtain ⟨v3, l3, rfl, ⟨a3, rfl, _⟩, h3⟩ := FitsAll.cons h2
  obtain rfl := FitsAll.nil h3
  rfl
/-- what a frame's fields hold, if they came in -/
def Fr.fits (f : Fr) : Prop := (Lit.int .i64 f.i).wf = true ∧ (Lit.int .i64 f.n).wf = true ∧ (Lit.int .i64 f.l).wf = true ∧ f.d.size ≤ maxLen
theorem fr_fits {f : Fr} (h : FitsAll [.int .i64, .int .i64, .int .i64, .str] (frC f)) : f.fits := by
  obtain ⟨⟨a0, e0, h0⟩, ⟨a1, e1, h1⟩, ⟨a2, e2, h2⟩, ⟨a3, e3, h3⟩, _⟩ := h
  injection e0 with _ e0; injection e1 with _ e1; injection e2 with _ e2; injection e3 with e3
  exact ⟨by rw [e0]; exact h0, by rw [e1]; exact h1, by rw [e2]; exact h2, by rw [e3]; exact h3⟩
/-- a frame of a row, as any later world holds it -/
theorem SlF.facts {w : World} {v : Value} {L : List Fr} (h : SlF w w.heap.size v L) {k : Nat} (hk : k < L.length) : ∃ x cap, v = .slice (some x) L.length cap ∧ x.block < w.heap.size ∧ ∀ m : Later w,
    m.w.cell? (x.add (k * 4)) = some (.int .i64 (L[k]'hk).i) ∧ m.w.cell? ⟨(x.add (k * 4)).block, (x.add (k * 4)).off + 1, none⟩ = some (.int .i64 (L[k]'hk).n) ∧
    m.w.cell? ⟨(x.add (k * 4)).block, (x.add (k * 4)).off + 2, none⟩ = some (.int .i64 (L[k]'hk).l) ∧ m.w.cell? ⟨(x.add (k * 4)).block, (x.add (k * 4)).off + 3, none⟩ = some (.string (L[k]'hk).d) := by
  obtain ⟨x, cap, hv, hxb, hcell⟩ := h.at_ hk
  refine ⟨x, cap, hv, hxb, fun m => ⟨?_, ?_, ?_, ?_⟩⟩
  · exact (m.h.cell (by rw [addr_block]; exact hxb)).trans (hcell 0 _ rfl)
  · exact (m.h.cell (p := ⟨(x.add (k * 4)).block, (x.add (k * 4)).off + 1, none⟩) (by rw [addr_block]; exact hxb)).trans (hcell 1 _ rfl)
  · exact (m.h.cell (p := ⟨(x.add (k * 4)).block, (x.add (k * 4)).off + 2, none⟩) (by rw [addr_block]; exact hxb)).trans (hcell 2 _ rfl)
  · exact (m.h.cell (p := ⟨(x.add (k * 4)).block, (x.add (k * 4)).off + 3, none⟩) (by rw [addr_block]; exact hxb)).trans (hcell 3 _ rfl)
end Go.Proofs.YtlfhomahbacmpaaDoor

namespace Go.Proofs.YtlfhomahbacmpaaDoor
open Go.RowKit
set_option linter.unusedVariables false

/-- the dominant bit at a place -/
def dom (s : ByteArray) (i : Nat) : Bool := bt s i == 48
def bitD (b : Bool) : Int := if b then 48 else 49
def wholeL (s : ByteArray) (n : Nat) : List Int := (List.range n).map fun i => bitD (dom s i)
theorem wholeL_succ (s : ByteArray) (n : Nat) : wholeL s (n + 1) = wholeL s n ++ [bitD (dom s n)] := by unfold wholeL; rw [List.range_succ, List.map_append]; rfl
theorem wholeL_len (s : ByteArray) (n : Nat) : (wholeL s n).length = n := by simp [wholeL]
def longL (L : List ByteArray) : Nat := L.foldl (fun n s => max n s.size) 0
theorem longL_snoc (L : List ByteArray) (s : ByteArray) : longL (L ++ [s]) = max (longL L) s.size := by unfold longL; rw [List.foldl_append]; rfl
theorem foldl_max_le : ∀ (L : List ByteArray) (n m : Nat), (∀ s ∈ L, s.size ≤ m) → n ≤ m → L.foldl (fun n s => max n s.size) n ≤ m
  | [], n, m, _, h => h
  | s :: L, n, m, hs, h => foldl_max_le L _ m (fun t ht => hs t (List.mem_cons_of_mem _ ht)) (by have := hs s (List.mem_cons_self ..); show max n s.size ≤ m; omega)
theorem longL_le {L : List ByteArray} {m : Nat} (h : ∀ s ∈ L, s.size ≤ m) : longL L ≤ m := foldl_max_le L 0 m h (Nat.zero_le _)
theorem foldl_max_ge : ∀ (L : List ByteArray) (n : Nat), n ≤ L.foldl (fun n s => max n s.size) n ∧ ∀ s ∈ L, s.size ≤ L.foldl (fun n s => max n s.size) n
  | [], n => ⟨Nat.le_refl _, fun s hs => by cases hs⟩
  | t :: L, n => by
    have ih := foldl_max_ge L (max n t.size)
    refine ⟨by have := ih.1; simp only [List.foldl_cons]; omega, fun s hs => ?_⟩
    rcases List.mem_cons.1 hs with rfl | hs
    · have := ih.1; simp only [List.foldl_cons]; omega
    · exact ih.2 s hs
theorem longL_ge {L : List ByteArray} {s : ByteArray} (h : s ∈ L) : s.size ≤ longL L := (foldl_max_ge L 0).2 s h
def levelL (L : List ByteArray) (n : Nat) : List Int := (List.range n).map fun i => bitD (L.any fun s => dom s i)
theorem levelL_succ (L : List ByteArray) (n : Nat) : levelL L (n + 1) = levelL L n ++ [bitD (L.any fun s => dom s n)] := by unfold levelL; rw [List.range_succ, List.map_append]; rfl
theorem levelL_len (L : List ByteArray) (n : Nat) : (levelL L n).length = n := by simp [levelL]

/-! ### at -/
theorem sat_v {s : ByteArray} {i : Nat} {t : ByteArray} (h : strOfNums [bitD (dom s i)] = t) (w : World) :
    Calls Tryd.prog 26 #[.string s, .int .i64 i] w fun e w' => e = .returned (.string t) ∧ w = w' := by
  subst h
  by_cases hi : i < s.size
  · have hix : ∀ w, (Instr.index 9 (.string s) (.int .i64 i)).run Tryd.prog w = .ok (.int .u8 (bt s i)) w := fun w => index_bt Tryd.underlying9 hi w
    have hd : dom s i = (bt s i == 48) := rfl
    rw [hd]
    generalize bt s i = c at hix
    clear hd
    by_cases hc : c = 48
    · subst hc
      go_enter Tryd.func26, Tryd.ntmps26
      go_wp2
      go_ret
      exact ⟨rfl, rfl⟩
    · have hq : (c == 48) = false := by simpa using hc
      rw [hq]
      go_enter Tryd.func26, Tryd.ntmps26
      go_wp2
      go_ret
      exact ⟨rfl, rfl⟩
  · have hd : dom s i = false := by unfold dom; rw [bt_past2 s i (by omega)]; rfl
    rw [hd]
    go_enter Tryd.func26, Tryd.ntmps26
    go_wp2
    go_ret
    exact ⟨rfl, rfl⟩

/-! ### Long -/
set_option maxHeartbeats 1000000 in
theorem slong_v {v : Value} {L : List ByteArray} {n : Nat} (h : longL L = n) (hm : ∀ s ∈ L, s.size ≤ 1000000000) (w : World) (hv : SlS w v L) :
    Calls Tryd.prog 21 #[v] w fun e w' => e = .returned (.int .i64 n) ∧ w = w' := by
  subst h
  have HV := Lib.hid hv
  obtain ⟨A, cap, rfl, hlen, _⟩ := hv
  unfold maxLen at hlen
  have HM := Lib.hid hm
  clear hm
  go_enter Tryd.func21, Tryd.ntmps21
  go_wp2
  go_loop [3, 4] (fun m i => ∃ k : Nat, k ≤ L.length ∧ i = .int .i64 k ∧ m = .int .i64 (longL (L.take k))) (fun _ i => L.length - (intOf i).toNat)
  case atStart => exact ⟨0, Nat.zero_le _, rfl, rfl⟩
  case round =>
    obtain ⟨k, hk, rfl, rfl⟩ := hrel
    by_cases hlt : k < L.length
    · obtain ⟨x, cap', hv', hxb, c0⟩ := HV.out.at1 hlt rfl
      injection hv' with hA _ hcap
      subst hA
      subst hcap
      have hs := HM.out _ (List.getElem_mem hlt)
      have HT : Hid (longL (L.take (k + 1)) = max (longL (L.take k)) (L[k]).size) := Lib.hid (by rw [take_snoc hlt, longL_snoc])
      have hl1 := longL_le (L := L.take k) (m := 1000000000) (fun s hs => HM.out s (List.mem_of_mem_take hs))
      generalize longL (L.take k) = m at HT hl1
      generalize L[k] = s at c0 hs HT
      by_cases hgt : m < s.size
      · go_wp2
        go_round
        case rel => exact ⟨k + 1, by omega, by go_num, by rw [HT.out, Nat.max_eq_right (by omega)]⟩
        case measure => simp [intOf]; omega
      · go_wp2
        go_round
        case rel => exact ⟨k + 1, by omega, by go_num, by rw [HT.out, Nat.max_eq_left (by omega)]⟩
        case measure => simp [intOf]; omega
    · obtain rfl : k = L.length := by omega
      rw [List.take_length]
      go_wp2
      go_ret
      exact ⟨rfl, rfl⟩

/-! ### Whole -/
theorem nums1_size (c : Int) : (strOfNums [c]).size = 1 := by rw [strOfNums_size]; rfl
set_option maxHeartbeats 1000000 in
theorem swhole_v {s : ByteArray} {n : Nat} {t : ByteArray} (h : strOfNums (wholeL s n) = t) (hn : n ≤ 1000000) (w : World) :
    Calls Tryd.prog 22 #[.string s, .int .i64 n] w fun e w' => e = .returned (.string t) ∧ w = w' := by
  have H := Lib.hid h
  clear h
  go_enter Tryd.func22, Tryd.ntmps22
  go_wp2
  go_loop [5, 6] (fun t i => ∃ k : Nat, k ≤ n ∧ i = .int .i64 k ∧ t = .string (strOfNums (wholeL s k))) (fun _ i => n - (intOf i).toNat)
  case atStart => exact ⟨0, Nat.zero_le _, rfl, rfl⟩
  case round =>
    obtain ⟨k, hk, rfl, rfl⟩ := hrel
    by_cases hlt : k < n
    · have HT : Hid (strOfNums (wholeL s (k + 1)) = strOfNums (wholeL s k) ++ strOfNums [bitD (dom s k)]) := Lib.hid (by rw [wholeL_succ, nums_app])
      have hz : (strOfNums (wholeL s k)).size ≤ 1000000 := by rw [strOfNums_size, wholeL_len]; omega
      have hz1 := nums1_size (bitD (dom s k))
      obtain ⟨c, hc⟩ : ∃ c, strOfNums [bitD (dom s k)] = c := ⟨_, rfl⟩
      have HC := Lib.hid hc
      rw [hc] at HT hz1
      generalize strOfNums (wholeL s k) = t at HT hz
      have hs1 : ¬ 9223372036854775807 < t.size + c.size := by omega
      clear hc
      go_wp2_with fail
      refine (sat_v HC.out _).mono ?_
      rintro e w1 ⟨rfl, rfl⟩
      go_wp2
      go_round
      case rel => exact ⟨k + 1, by omega, by go_num, by rw [HT.out]⟩
      case measure => simp [intOf]; omega
    · obtain rfl : k = n := by omega
      go_wp2
      go_ret
      exact ⟨congrArg (fun x => Ending.returned (Value.string x)) H.out, rfl⟩

/-! ### Level -/
set_option maxHeartbeats 2000000 in
theorem slevel_v {v : Value} {L : List ByteArray} {t : ByteArray} (h : strOfNums (levelL L (longL L)) = t) (hm : ∀ s ∈ L, s.size ≤ 1000000) (w : World) (hv : SlS w v L) :
    Calls Tryd.prog 11 #[v] w fun e w' => e = .returned (.string t) ∧ w = w' := by
  have H := Lib.hid h
  have HV := Lib.hid hv
  obtain ⟨n, hn⟩ : ∃ n, longL L = n := ⟨_, rfl⟩
  have HN := Lib.hid hn
  have hn6 : n ≤ 1000000 := by rw [← hn]; exact longL_le hm
  have HM : Hid (∀ s ∈ L, s.size ≤ 1000000000) := Lib.hid (fun s hs => by have := hm s hs; omega)
  rw [hn] at H
  obtain ⟨A, cap, rfl, hlen, _⟩ := hv
  unfold maxLen at hlen
  clear h hm hn
  go_enter Tryd.func11, Tryd.ntmps11
  go_wp2
  go_loopw [3, 4] (fun t i wr => ∃ k : Nat, k ≤ n ∧ i = .int .i64 k ∧ t = .string (strOfNums (levelL L k)) ∧ wr = w) (fun _ i _ => n - (intOf i).toNat)
  case atStart => exact ⟨0, Nat.zero_le _, rfl, rfl, rfl⟩
  case round =>
    obtain ⟨k, hk, rfl, rfl, rfl⟩ := hrel
    go_wp2_with fail
    refine (slong_v HN.out HM.out _ HV.out).mono ?_
    rintro e w1 ⟨rfl, rfl⟩
    by_cases hlt : k < n
    · have HT : Hid (strOfNums (levelL L (k + 1)) = strOfNums (levelL L k) ++ strOfNums [bitD (L.any fun s => dom s k)]) := Lib.hid (by rw [levelL_succ, nums_app])
      have hz : (strOfNums (levelL L k)).size ≤ 1000000 := by rw [strOfNums_size, levelL_len]; omega
      have hz1 := nums1_size (bitD (L.any fun s => dom s k))
      generalize strOfNums (levelL L k) = t at HT hz
      have hd : decide (k < n) = true := decide_eq_true hlt
      have hd2 : decide ((k : Int) < (n : Int)) = true := by simp; omega
      go_wp2_with fail
      go_loopw [5, 6] (fun c i wx => ∃ j : Nat, j ≤ L.length ∧ i = .int .i64 j ∧ c = .string (strOfNums [bitD ((L.take j).any fun s => dom s k)]) ∧ wx = wr) (fun _ i _ => L.length - (intOf i).toNat)
      case atStart => exact ⟨0, Nat.zero_le _, rfl, rfl, rfl⟩
      case round =>
        obtain ⟨j, hj, rfl, rfl, rfl⟩ := hrel
        by_cases hlt2 : j < L.length
        · obtain ⟨x, cap', hv', hxb, c0⟩ := HV.out.at1 hlt2 rfl
          injection hv' with hA _ hcap
          subst hA
          subst hcap
          have HA : Hid (((L.take (j + 1)).any fun s => dom s k) = (((L.take j).any fun s => dom s k) || dom L[j] k)) := Lib.hid (by rw [take_snoc hlt2, List.any_append]; simp)
          generalize ((L.take j).any fun s => dom s k) = q at HA
          generalize L[j] = s at c0 HA
          obtain ⟨q', hq'⟩ : ∃ q', dom s k = q' := ⟨_, rfl⟩
          obtain ⟨c, hc⟩ : ∃ c, strOfNums [bitD (dom s k)] = c := ⟨_, rfl⟩
          have HC := Lib.hid hc
          rw [hq'] at hc HA
          clear hq'
          cases q'
          · have hc' : c = ByteArray.mk #[49] := hc.symm
            subst hc'
            clear hc
            go_wp2_with fail
            refine (sat_v HC.out _).mono ?_
            rintro e w1 ⟨rfl, rfl⟩
            go_wp2
            go_roundw
            case rel => exact ⟨j + 1, by omega, by go_num, by rw [HA.out, Bool.or_false], True.intro⟩
            case measure => simp [intOf]; omega
          · have hc' : c = ByteArray.mk #[48] := hc.symm
            subst hc'
            clear hc
            go_wp2_with fail
            refine (sat_v HC.out _).mono ?_
            rintro e w1 ⟨rfl, rfl⟩
            go_wp2
            go_roundw
            case rel => exact ⟨j + 1, by omega, by go_num, by rw [HA.out, Bool.or_true]; rfl, True.intro⟩
            case measure => simp [intOf]; omega
        · obtain rfl : j = L.length := by omega
          rw [List.take_length]
          generalize strOfNums [bitD (L.any fun s => dom s k)] = c at HT hz1
          have hs1 : ¬ 9223372036854775807 < t.size + c.size := by omega
          go_wp2
          go_roundw
          case rel => exact ⟨k + 1, by omega, by go_num, by rw [HT.out], True.intro⟩
          case measure => simp [intOf]; omega
    · obtain rfl : k = n := by omega
      go_wp2
      go_ret
      exact ⟨congrArg (fun x => Ending.returned (Value.string x)) H.out, rfl⟩

end Go.Proofs.YtlfhomahbacmpaaDoor

namespace Go.Proofs.YtlfhomahbacmpaaDoor
open Go.RowKit
set_option linter.unusedVariables false

/-! ### Few -/
def fewTN (L : List ByteArray) : Nat := (L.map fun s => min s.size 2000).foldl (· + ·) 0
theorem fewTN_snoc (L : List ByteArray) (s : ByteArray) : fewTN (L ++ [s]) = fewTN L + min s.size 2000 := by unfold fewTN; rw [List.map_append, List.foldl_append]; rfl
def fewTB (L : List ByteArray) : Bool := decide (L.length ≤ 20) && decide (fewTN (L.take 21) ≤ 800)
theorem fewTN_bd : ∀ (L : List ByteArray) (n : Nat), n ≤ (L.map fun s => min s.size 2000).foldl (· + ·) n ∧ ∀ s ∈ L, min s.size 2000 ≤ (L.map fun s => min s.size 2000).foldl (· + ·) n
  | [], n => ⟨Nat.le_refl _, fun s hs => by cases hs⟩
  | t :: L, n => by
    have ih := fewTN_bd L (n + min t.size 2000)
    simp only [List.map_cons, List.foldl_cons]
    refine ⟨by omega, fun s hs => ?_⟩
    rcases List.mem_cons.1 hs with rfl | hs
    · omega
    · exact ih.2 s hs
theorem fewT_parts {L : List ByteArray} (h : fewTB L = true) : L.length ≤ 20 ∧ ∀ s ∈ L, s.size ≤ 800 := by
  unfold fewTB at h
  rw [Bool.and_eq_true, decide_eq_true_eq, decide_eq_true_eq] at h
  refine ⟨h.1, fun s hs => ?_⟩
  rw [List.take_of_length_le (by omega)] at h
  have h1 := (fewTN_bd L 0).2 s hs
  have h2 := h.2
  unfold fewTN at h2
  omega
theorem fewTN_le : ∀ (L : List ByteArray), fewTN L ≤ 2000 * L.length := fun L => by
  have key : ∀ (L : List ByteArray) (n : Nat), (L.map fun s => min s.size 2000).foldl (· + ·) n ≤ n + 2000 * L.length := by
    intro L
    induction L with
    | nil => intro n; simp
    | cons t L ih =>
      intro n
      simp only [List.map_cons, List.foldl_cons, List.length_cons]
      have := ih (n + min t.size 2000)
      omega
  have := key L 0
  unfold fewTN
  omega
set_option maxHeartbeats 1000000 in
theorem sfew_v {v : Value} {L : List ByteArray} {q : Bool} (h : fewTB L = q) (w : World) (hv : SlS w v L) (hmx : ∀ s ∈ L, s.size ≤ maxLen) :
    Calls Tryd.prog 8 #[v] w fun e w' => e = .returned (.bool q) ∧ w = w' := by
  have H := Lib.hid h
  have HV := Lib.hid hv
  have HM := Lib.hid hmx
  obtain ⟨A, cap, rfl, hlen, _⟩ := hv
  unfold maxLen at hlen
  clear h hmx
  go_enter Tryd.func8, Tryd.ntmps8
  go_wp2
  go_loop [3, 4] (fun n i => ∃ k : Nat, k ≤ L.length ∧ k ≤ 21 ∧ i = .int .i64 k ∧ n = .int .i64 (fewTN (L.take k))) (fun _ i => 21 - (intOf i).toNat)
  case atStart => exact ⟨0, Nat.zero_le _, by decide, rfl, rfl⟩
  case round =>
    obtain ⟨k, hk, hk2, rfl, rfl⟩ := hrel
    by_cases hlt : k < L.length
    · by_cases h20 : k ≤ 20
      · obtain ⟨x, cap', hv', hxb, c0⟩ := HV.out.at1 hlt rfl
        injection hv' with hA _ hcap
        subst hA
        subst hcap
        have hs := HM.out _ (List.getElem_mem hlt)
        unfold maxLen at hs
        have HT : Hid (fewTN (L.take (k + 1)) = fewTN (L.take k) + min (L[k]).size 2000) := Lib.hid (by rw [take_snoc hlt, fewTN_snoc])
        have hl1 := fewTN_le (L.take k)
        rw [List.length_take, Nat.min_eq_left (by omega)] at hl1
        generalize fewTN (L.take k) = m at HT hl1
        generalize L[k] = s at c0 hs HT
        have hmn : min (s.size : Int) 2000 = ((min s.size 2000 : Nat) : Int) := by omega
        have hm2 : min s.size 2000 ≤ 2000 := by omega
        generalize min s.size 2000 = y at HT hmn hm2
        go_wp2
        go_round
        case rel => exact ⟨k + 1, by omega, by omega, by go_num, by rw [HT.out]; go_num⟩
        case measure => simp [intOf]; omega
      · have HQ : Hid (false = q) := Lib.hid (by rw [← H.out]; unfold fewTB; rw [decide_eq_false (show ¬ L.length ≤ 20 by omega)]; rfl)
        have h20' : ¬ (L.length : Int) ≤ 20 := by omega
        go_wp2
        go_ret
        exact ⟨fret_bool HQ.out, rfl⟩
    · obtain rfl : k = L.length := by omega
      rw [List.take_length]
      by_cases h20 : L.length ≤ 20
      · have HQ : Hid (decide (fewTN L ≤ 800) = q) := Lib.hid (by rw [← H.out]; unfold fewTB; rw [decide_eq_true h20, List.take_of_length_le (by omega)]; rfl)
        generalize fewTN L = m at HQ
        go_wp2
        go_ret
        exact ⟨fret_bool (by rw [← HQ.out]; simp; try omega), rfl⟩
      · have HQ : Hid (false = q) := Lib.hid (by rw [← H.out]; unfold fewTB; rw [decide_eq_false h20]; rfl)
        go_wp2
        go_ret
        exact ⟨fret_bool HQ.out, rfl⟩

/-! ### In -/
theorem contains_take {L : List Int} {x : Int} {k : Nat} (h : k < L.length) : (L.take (k + 1)).contains x = ((L.take k).contains x || (L[k] == x)) := by
  rw [take_snoc h, List.contains_eq_mem, List.contains_eq_mem, Bool.eq_iff_iff, Bool.or_eq_true, decide_eq_true_eq, decide_eq_true_eq, List.mem_append, List.mem_singleton, beq_iff_eq]
  exact or_congr Iff.rfl eq_comm
set_option maxHeartbeats 1000000 in
theorem sin_v {v : Value} {L : List Int} {x : Int} {q : Bool} (h : L.contains x = q) (w : World) (hv : SlI w v L) :
    Calls Tryd.prog 20 #[v, .int .i64 x] w fun e w' => e = .returned (.bool q) ∧ w = w' := by
  have H := Lib.hid h
  have HV := Lib.hid hv
  obtain ⟨A, cap, rfl, hlen, _⟩ := hv
  unfold maxLen at hlen
  clear h
  go_enter Tryd.func20, Tryd.ntmps20
  go_wp2
  go_loop [5] (fun i => ∃ k : Nat, k ≤ L.length ∧ i = .int .i64 k ∧ Hid ((L.take k).contains x = false)) (fun i => L.length - (intOf i).toNat)
  case atStart => exact ⟨0, Nat.zero_le _, rfl, Lib.hid (by simp)⟩
  case round =>
    obtain ⟨k, hk, rfl, HI⟩ := hrel
    by_cases hlt : k < L.length
    · obtain ⟨x', cap', hv', hxb, c0⟩ := HV.out.at1 hlt rfl
      injection hv' with hA _ hcap
      subst hA
      subst hcap
      have HT := Lib.hid (contains_take (x := x) hlt)
      have HG : Hid (L[k] ∈ L) := Lib.hid (List.getElem_mem hlt)
      generalize L[k] = y at c0 HT HG
      by_cases hyx : y = x
      · subst hyx
        have HQ : Hid (true = q) := Lib.hid (by rw [← H.out]; simp [HG.out])
        go_wp2
        go_ret
        exact ⟨fret_bool HQ.out, rfl⟩
      · have hb : (y == x) = false := by simpa using hyx
        have HN : Hid ((L.take (k + 1)).contains x = false) := Lib.hid (by rw [HT.out, HI.out, hb]; rfl)
        clear hyx
        go_wp2
        go_round
        case rel => exact ⟨k + 1, by omega, by go_num, HN⟩
        case measure => simp [intOf]; omega
    · obtain rfl : k = L.length := by omega
      have HQ : Hid (false = q) := Lib.hid (by rw [← H.out, ← HI.out, List.take_length])
      go_wp2
      go_ret
      exact ⟨fret_bool HQ.out, rfl⟩

/-! ### Ints -/
theorem list_take_eq {A B : List Int} {k : Nat} (hl : A.length = B.length) (h : k < A.length) (h' : k < B.length) (he : A.take k = B.take k) : A.take (k + 1) = B.take (k + 1) ↔ A[k] = B[k] := by
  rw [take_snoc h, take_snoc h', he]
  constructor
  · intro e
    have := List.append_cancel_left e
    simpa using this
  · intro e; rw [e]
set_option maxHeartbeats 1000000 in
theorem sints_v {v v' : Value} {L L' : List Int} {q : Bool} (h : decide (L = L') = q) (w : World) (hv : SlI w v L) (hv' : SlI w v' L') :
    Calls Tryd.prog 12 #[v, v'] w fun e w' => e = .returned (.bool q) ∧ ∃ m, w' = w.drewN m := by
  have H := Lib.hid h
  have HV := Lib.hid hv
  have HV' := Lib.hid hv'
  obtain ⟨A, cap, rfl, hlen, _⟩ := hv
  obtain ⟨A', cap', rfl, hlen', _⟩ := hv'
  unfold maxLen at hlen hlen'
  clear h
  by_cases hl : L.length = L'.length
  · have hne : ((L.length : Int) != (L'.length : Int)) = false := by simp; omega
    have HL := Lib.hid hl
    clear hl
    go_enter Tryd.func12, Tryd.ntmps12
    go_wp2_with fail
    go_loopw [5] (fun i wr => ∃ k : Nat, k ≤ L.length ∧ i = .int .i64 k ∧ Hid (L.take k = L'.take k) ∧ ∃ m, wr = w.drewN m) (fun i _ => L.length - (intOf i).toNat)
    case atStart => exact ⟨0, Nat.zero_le _, rfl, Lib.hid rfl, 0, rfl⟩
    case round =>
      obtain ⟨k, hk, rfl, HI, m, rfl⟩ := hrel
      by_cases hlt : k < L.length
      · have hlt2 : k < L'.length := by rw [← HL.out]; exact hlt
        obtain ⟨x, c1, hv1, hxb, c0⟩ := HV.out.at1 hlt rfl
        injection hv1 with hA _ hcap
        subst hA
        subst hcap
        obtain ⟨y, c2, hv2, hyb, d0⟩ := HV'.out.at1 hlt2 rfl
        injection hv2 with hA _ hcap
        subst hA
        subst hcap
        have HT := Lib.hid (list_take_eq HL.out hlt hlt2 HI.out)
        have c0' : ∀ m, (w.drewN m).cell? (x.add k) = some (.int .i64 L[k]) := fun _ => c0
        have d0' : ∀ m, (w.drewN m).cell? (y.add k) = some (.int .i64 L'[k]) := fun _ => d0
        have HNE : Hid (L[k] ≠ L'[k] → L ≠ L') := Lib.hid (fun h e => h (by subst e; rfl))
        generalize L[k] = a at c0' HT HNE
        generalize L'[k] = b at d0' HT HNE
        clear c0 d0
        by_cases hab : a = b
        · have hb : (a != b) = false := by simpa using hab
          have HN : Hid (L.take (k + 1) = L'.take (k + 1)) := Lib.hid (HT.out.2 hab)
          clear hab
          go_wp2_with fail
          go_quiet (fail)
          go_wp2
          go_roundw
          case rel => exact ⟨k + 1, by omega, by go_num, HN, _, rfl⟩
          case measure => simp [intOf]; omega
        · have hb : (a != b) = true := by simpa using hab
          have HQ : Hid (false = q) := Lib.hid (by rw [← H.out, decide_eq_false (HNE.out hab)])
          clear hab
          go_wp2_with fail
          go_quiet (fail)
          go_wp2
          go_ret
          exact ⟨fret_bool HQ.out, _, drewN_two _ _ _⟩
      · obtain rfl : k = L.length := by omega
        have HQ : Hid (true = q) := Lib.hid (by
          have := HI.out
          rw [List.take_length, List.take_of_length_le (by rw [HL.out]; exact Nat.le_refl _)] at this
          rw [← H.out, decide_eq_true this])
        go_wp2
        go_ret
        exact ⟨fret_bool HQ.out, _, rfl⟩
  · have hne : ((L.length : Int) != (L'.length : Int)) = true := by simp; omega
    have HQ : Hid (false = q) := Lib.hid (by rw [← H.out, decide_eq_false (fun e => hl (by rw [e]))])
    clear hl
    go_enter Tryd.func12, Tryd.ntmps12
    go_wp2
    go_ret
    exact ⟨fret_bool HQ.out, 0, rfl⟩

/-! ### Race -/
def leS (a b : ByteArray) : Bool := Op.bytesLess a.toList b.toList || a.toList == b.toList
def shown (n : Nat) (s : ByteArray) : ByteArray := strOfNums (wholeL s n)
def leastB (L : List ByteArray) (n : Nat) (s : ByteArray) (M : List ByteArray) : Bool := M.all fun u => leS (shown n s) (shown n u)
def emp0 : ByteArray := ByteArray.mk #[]
def raceL (L : List ByteArray) (n : Nat) (k : Nat) : List Int := List.map (fun i : Nat => (i : Int)) ((List.range k).filter fun i => leastB L n (L.getD i emp0) L)
theorem raceL_succ (L : List ByteArray) (n k : Nat) : raceL L n (k + 1) = raceL L n k ++ (if leastB L n (L.getD k emp0) L then [(k : Int)] else []) := by
  unfold raceL
  rw [List.range_succ, List.filter_append, List.map_append]
  congr 1
  simp only [List.filter_cons, List.filter_nil]
  split <;> rfl
theorem raceL_len (L : List ByteArray) (n k : Nat) : (raceL L n k).length ≤ k := by
  unfold raceL
  rw [List.length_map]
  have := List.length_filter_le (fun i => leastB L n (L.getD i emp0) L) (List.range k)
  rwa [List.length_range] at this
theorem leastB_snoc (L : List ByteArray) (n : Nat) (s : ByteArray) (M : List ByteArray) (u : ByteArray) : leastB L n s (M ++ [u]) = (leastB L n s M && leS (shown n s) (shown n u)) := by
  unfold leastB; rw [List.all_append]; simp
set_option maxHeartbeats 4000000 in
theorem srace_v {v : Value} {L : List ByteArray} (hm : ∀ s ∈ L, s.size ≤ 1000000) (hL : L.length ≤ 1000000) (w : World) (hv : SlS w v L) :
    Calls Tryd.prog 14 #[v] w fun e w' => ∃ u, e = .returned u ∧ GathI w.heap.size w u (raceL L (longL L) L.length) w' := by
  have HV := Lib.hid hv
  obtain ⟨n, hn⟩ : ∃ n, longL L = n := ⟨_, rfl⟩
  have HN := Lib.hid hn
  have HN6 : Hid (n ≤ 1000000) := Lib.hid (by rw [← hn]; exact longL_le hm)
  have HM : Hid (∀ s ∈ L, s.size ≤ 1000000000) := Lib.hid (fun s hs => by have := hm s hs; omega)
  rw [hn]
  obtain ⟨A, cap, rfl, hlen, _⟩ := hv
  unfold maxLen at hlen
  clear hm hn
  go_enter Tryd.func14, Tryd.ntmps14
  go_wp2_with fail
  refine (slong_v HN.out HM.out _ HV.out).mono ?_
  rintro e w1 ⟨rfl, rfl⟩
  go_wp2_with fail
  go_loopw [4, 5] (fun u i wr => ∃ k : Nat, k ≤ L.length ∧ i = .int .i64 k ∧ Hid (GathI w.heap.size w u (raceL L n k) wr)) (fun _ i _ => L.length - (intOf i).toNat)
  case atStart => exact ⟨0, Nat.zero_le _, rfl, Lib.hid (GathG.start _ _ _ _)⟩
  case round =>
    obtain ⟨k, hk, rfl, HI⟩ := hrel
    by_cases hlt : k < L.length
    · have HVr := Lib.hid (HV.out.later HI.out.2.1)
      obtain ⟨x, c1, hv1, hxb, c0⟩ := HVr.out.at1 hlt rfl
      injection hv1 with hA _ hcap
      subst hA
      subst hcap
      have HR := Lib.hid (raceL_succ L n k)
      have HG : Hid (L.getD k emp0 = L[k]) := Lib.hid (by rw [List.getD_eq_getElem?_getD, List.getElem?_eq_getElem hlt]; rfl)
      have HT := Lib.hid (show shown n L[k] = shown n L[k] from rfl)
      have hd : decide (k < L.length) = true := decide_eq_true hlt
      go_wp2_with fail
      go_loopw [6, 7] (fun b j wx => ∃ y : Nat, y ≤ L.length ∧ j = .int .i64 y ∧ b = .bool (leastB L n L[k] (L.take y)) ∧ ∃ m, wx = wr.drewN m) (fun _ j _ => L.length - (intOf j).toNat)
      case atStart => exact ⟨0, Nat.zero_le _, rfl, rfl, 0, rfl⟩
      case round =>
        obtain ⟨y, hy, rfl, rfl, m, rfl⟩ := hrel
        by_cases hlt2 : y < L.length
        · have HS := Lib.hid (leastB_snoc L n L[k] (L.take y) L[y])
          have HS2 := Lib.hid (take_snoc hlt2)
          obtain ⟨x', c1, hv1, hxb', d0⟩ := HVr.out.at1 hlt2 rfl
          injection hv1 with hA _ hcap
          injection hA with hA
          subst hA
          subst hcap
          have c0' : ∀ m, (wr.drewN m).cell? (x.add k) = some (.string L[k]) := fun _ => c0
          have d0' : ∀ m, (wr.drewN m).cell? (x.add y) = some (.string L[y]) := fun _ => d0
          obtain ⟨b1, hb1⟩ : ∃ b, leS (shown n L[k]) (shown n L[y]) = b := ⟨_, rfl⟩
          have HB1 := Lib.hid hb1
          obtain ⟨s1, hs1⟩ : ∃ s, strOfNums (wholeL L[k] n) = s := ⟨_, rfl⟩
          obtain ⟨s2, hs2⟩ : ∃ s, strOfNums (wholeL L[y] n) = s := ⟨_, rfl⟩
          have H1 := Lib.hid hs1
          have H2 := Lib.hid hs2
          have hle : (Op.bytesLess s1.toList s2.toList || s1.toList == s2.toList) = b1 := by rw [← hs1, ← hs2]; exact hb1
          clear hb1 hs1 hs2
          obtain ⟨q, hq⟩ : ∃ q, leastB L n L[k] (L.take y) = q := ⟨_, rfl⟩
          rw [hq] at HS ⊢
          clear hq
          cases q
          · go_wp2_with fail
            go_quiet (fail)
            go_wp2
            go_roundw
            case rel => exact ⟨y + 1, by omega, by go_num, by rw [HS2.out, HS.out]; rfl, _, rfl⟩
            case measure => simp [intOf]; omega
          · obtain ⟨wq, hwq⟩ : ∃ wq, wr.drewN m = wq := ⟨_, rfl⟩
            have HWQ := Lib.hid hwq
            have c1' : ∀ m, (wq.drewN m).cell? (x.add k) = some (.string L[k]) := fun m' => by rw [← hwq]; exact c0
            have d1' : ∀ m, (wq.drewN m).cell? (x.add y) = some (.string L[y]) := fun m' => by rw [← hwq]; exact d0
            rw [hwq]
            clear hwq c0 d0 c0' d0'
            go_wp2_with fail
            refine wp_region_quiet_lit (by kernel_rfl) (by kernel_rfl) ?_
            repeat (go_big_quiet_step (fail))
            go_big_quiet_step (exact Calls.quiet_of_same ((swhole_v H1.out HN6.out _).mono fun _ _ ⟨h1, h2⟩ => ⟨h1, h2.symm⟩))
            repeat (go_big_quiet_step (fail))
            go_big_quiet_step (exact Calls.quiet_of_same ((swhole_v H2.out HN6.out _).mono fun _ _ ⟨h1, h2⟩ => ⟨h1, h2.symm⟩))
            repeat (go_big_quiet_step (fail))
            refine wpQuiet_nil ?_
            rintro _ ⟨nq, rfl⟩
            go_wp2
            go_roundw
            case rel => exact ⟨y + 1, by omega, by go_num, by rw [HS2.out, HS.out, HB1.out]; rfl, _, by rw [← HWQ.out]; exact drewN_two _ _ _⟩
            case measure => simp [intOf]; omega
        · obtain rfl : y = L.length := by omega
          rw [List.take_length]
          have HI2 := Lib.hid (HI.out.drewN m)
          have HLN : Hid ((raceL L n k).length ≤ 1000000) := Lib.hid (Nat.le_trans (raceL_len L n k) (by omega))
          obtain ⟨q, hq⟩ : ∃ q, leastB L n L[k] L = q := ⟨_, rfl⟩
          rw [HG.out, hq] at HR
          rw [hq]
          generalize wr.drewN m = wr2 at HI2 ⊢
          generalize raceL L n k = R at HI2 HR HLN
          clear hq
          cases q
          · go_wp2
            go_roundw
            case rel => exact ⟨k + 1, by omega, by go_num, by rw [HR.out]; simpa using HI2⟩
            case measure => simp [intOf]; omega
          · have HNW := Lib.hid (one_cell wr2 (.int .i64 k) 3)
            have HI3 := Lib.hid (HI2.out.alloc (.cells #[.int .i64 k] 3))
            go_wp2_with (at_builtin; refine wpList_rowI rfl _ _ rfl rfl HI3.out.1 HI3.out.2.2 wr2.heap.size _ (k : Int) rfl HNW.out HLN.out ?_)
            intro v' w' hown hbel
            have HI4 : Hid (GathI w.heap.size w v' (R ++ [(k : Int)]) w') := Lib.hid ⟨by rw [List.length_append]; exact hown, HI3.out.2.1.trans hbel, Nat.le_trans HI3.out.2.2 hbel.size⟩
            clear hown hbel
            go_wp2
            go_roundw
            case rel => exact ⟨k + 1, by omega, by go_num, by rw [HR.out]; exact HI4⟩
            case measure => simp [intOf]; omega
    · obtain rfl : k = L.length := by omega
      go_wp2
      go_ret
      exact ⟨_, rfl, HI.out⟩

end Go.Proofs.YtlfhomahbacmpaaDoor

namespace Go.Proofs.YtlfhomahbacmpaaDoor
open Go.RowKit
set_option linter.unusedVariables false

theorem valL_num : ∀ (L : List Bool) (a : Nat), L.foldl (fun (a : Int) b => 2 * a + b01 b) (a : Int) = (numA a L : Nat)
  | [], a => rfl
  | b :: L, a => by
    simp only [List.foldl_cons, numA]
    rw [← valL_num L]
    congr 1
    cases b <;> simp [b01]
theorem bits_of_val {L : List Bool} {v : Int} {m : Nat} (hL : L.length = m) (hv : valL L = v) : bitsT v.toNat m = L := by
  have h := valL_num L 0
  unfold valL at hv
  have h2 : v = (numA 0 L : Nat) := by rw [← hv]; exact h
  rw [h2, Int.toNat_natCast, ← hL]
  exact bits_num L 0
theorem keybits_any {i n l : Int} {d : ByteArray} (h : (okF i n l d.size && !fX n) = true) : ∃ L : List Bool, L.length = 33 ∧ bitsT (keyN i n).toNat 33 = L ∧ 0 ≤ keyN i n ∧
    ∀ w, Calls Tryd.prog 33 #[.agg #[.int .i64 i, .int .i64 n, .int .i64 l, .string d]] w (KbPost L w) := by
  simp only [Bool.and_eq_true, Bool.not_eq_true'] at h
  have g := good h.1
  cases he : fE n
  · have i1 : i ≤ 2047 := by have := g.i1; rw [topN_v he h.2] at this; simpa using this
    have hv : valL (narrowL i (fR n) (fD n) 19 ++ [fD n]) = keyN i n := by rw [valL_narrow g.i0 i1]; unfold keyN; rw [he]; rfl
    exact ⟨_, narrowL_len2 i (fR n) (fD n), bits_of_val (narrowL_len2 _ _ _) hv, by rw [← hv]; exact (valL_bd _).1, fun w => kb_narrow g.i0 g.top g.n0 g.n1 he rfl rfl w⟩
  · have hv : valL (wideL i (fR n) (fD n)) = keyN i n := by rw [valL_wide g.i0 g.top]; unfold keyN; rw [he]; rfl
    exact ⟨_, wideL_len i (fR n) (fD n), bits_of_val (wideL_len _ _ _) hv, by rw [← hv]; exact (valL_bd _).1, fun w => kb_wide g.i0 g.top g.n0 g.n1 he rfl rfl w⟩
def fieldL (v : Int) : List Int := if v < 0 then [] else bitsI v.toNat 33
theorem keyV_cases (i n l : Int) (sz : Nat) : ((okF i n l sz && !fX n) = true ∧ keyV i n l sz = keyN i n) ∨ ((okF i n l sz && !fX n) = false ∧ keyV i n l sz = -1) := by
  unfold keyV
  cases h : (okF i n l sz && !fX n)
  · exact .inr ⟨rfl, rfl⟩
  · exact .inl ⟨rfl, rfl⟩

set_option maxHeartbeats 2000000 in
theorem sfield_v {i n l v : Int} {d t : ByteArray} (h : keyV i n l d.size = v) (ht : strOfNums (fieldL v) = t) (w : World) :
    Calls Tryd.prog 16 #[.agg #[.int .i64 i, .int .i64 n, .int .i64 l, .string d]] w fun e w' => e = .returned (.string t) ∧ Below w.heap.size w w' := by
  have H := Lib.hid h
  rcases keyV_cases i n l d.size with ⟨hk, hv⟩ | ⟨hk, hv⟩
  · obtain ⟨L, hL, hLb, hn0, hkb⟩ := keybits_any hk
    rw [h] at hv
    subst hv
    have HL := Lib.hid hL
    have HK := Lib.hid hkb
    have HT : Hid (strOfNums (L.map bitC) = t) := Lib.hid (by rw [← ht, ← hLb]; unfold fieldL; rw [if_neg (by omega)]; rfl)
    generalize keyN i n = v at H hn0
    clear h hk hL hLb hkb ht
    go_enter Tryd.func16, Tryd.ntmps16
    go_wp2_with fail
    refine (rkey_v H.out _).mono ?_
    rintro e w1 ⟨rfl, hb1⟩
    obtain ⟨hc1, hf1⟩ := fbcell hb1
    have hz1 : w.heap.size < w1.heap.size := by have := hb1.size; simp only [World.size_alloc] at this; omega
    go_wp2_with fail
    refine (HK.out _).mono ?_
    rintro e w3 ⟨v3, rfl, hg3⟩
    obtain ⟨g3, cap3, rfl, hr3⟩ := hg3.row (by rw [HL.out]; decide)
    rw [HL.out]
    have HR := Lib.hid hr3
    have HBB := Lib.hid (fbelow_t (fbelow_a _ hb1) hg3.2.1)
    clear hr3 hg3 hc1 hf1 hb1 hz1
    go_wp2_with fail
    go_loop [3, 5] (fun s i => ∃ k : Nat, k ≤ 33 ∧ i = .int .i64 k ∧ s = .string (strOfNums ((L.take k).map bitC))) (fun _ i => 33 - (intOf i).toNat)
    case atStart => exact ⟨0, by omega, rfl, rfl⟩
    case round =>
      obtain ⟨k, hk, rfl, rfl⟩ := hrel
      by_cases hp : k < 33
      · have hpl : k < L.length := by rw [HL.out]; exact hp
        have hcell := HR.out.cell k hpl
        have HS : Hid (strOfNums ((L.take (k + 1)).map bitC) = strOfNums ((L.take k).map bitC) ++ strOfNums [bitC L[k]]) := Lib.hid (by rw [take_snoc hpl, List.map_append, nums_app]; rfl)
        have hz : (strOfNums ((L.take k).map bitC)).size ≤ 33 := by rw [strOfNums_size, List.length_map, List.length_take]; omega
        generalize strOfNums ((L.take k).map bitC) = s at HS hz
        generalize L[k] = q at hcell HS
        have z0 : (ByteArray.mk #[48]).size = 1 := rfl
        have z1 : (ByteArray.mk #[49]).size = 1 := rfl
        have s0 : ¬ 9223372036854775807 < s.size + (ByteArray.mk #[48]).size := by omega
        have s1 : ¬ 9223372036854775807 < s.size + (ByteArray.mk #[49]).size := by omega
        clear hpl
        cases q
        · go_wp2
          go_round
          case rel => exact ⟨k + 1, by omega, by go_num, by rw [HS.out]; rfl⟩
          case measure => simp [intOf]; omega
        · go_wp2
          go_round
          case rel => exact ⟨k + 1, by omega, by go_num, by rw [HS.out]; rfl⟩
          case measure => simp [intOf]; omega
      · obtain rfl : k = 33 := by omega
        have HQ : Hid (strOfNums ((L.take 33).map bitC) = t) := Lib.hid (by rw [List.take_of_length_le (by rw [HL.out]; decide)]; exact HT.out)
        go_wp2
        go_ret
        exact ⟨fret_str (by rw [← HQ.out, List.map_take]), HBB.out⟩
  · rw [h] at hv
    subst hv
    have HT : Hid (ByteArray.mk #[] = t) := Lib.hid (by rw [← ht]; rfl)
    clear h hk ht
    go_enter Tryd.func16, Tryd.ntmps16
    go_wp2_with fail
    refine (rkey_v H.out _).mono ?_
    rintro e w1 ⟨rfl, hb1⟩
    go_wp2
    go_ret
    exact ⟨fret_str HT.out, fbelow_a _ hb1⟩

end Go.Proofs.YtlfhomahbacmpaaDoor
