/- Frame: contracts of first with its two closures, Code, Size, Fit; and of the document's Sizes, Code, Fit. Frame: contracts of Code, Size, Fit; and of the document's Sizes, Code, Fit. Frame: contracts of lenFits, Right; of the document's Has, Right. Frame: contracts of the document's Has, Right. Frame: the contract of the document's Right, at flags that may be. -/
import Derived.Test.YtmmcjmejcngajaaGreatDoorZaa
namespace Go.Proofs.YtmmcjmejcngajaaGreatDoor
open Go.RowKit
set_option linter.unusedVariables false

def noLen (n : Int) (k : Nat) : Prop := ∀ j, j < k → lens.getD j 0 ≠ n
def noFit (n : Int) (k : Nat) : Prop := n < 0 ∨ ∀ j, j < k → lens.getD j 0 < n
theorem noLen_succ {n : Int} {k : Nat} (h : noLen n k) (hk : lens.getD k 0 ≠ n) : noLen n (k + 1) := by
  intro j hj
  by_cases e : j = k
  · rw [e]; exact hk
  · exact h j (by omega)
theorem code_at : ∀ k : Fin 16, codeN (lens.getD k.val 0) = k.val := by decide
theorem codeN_hit {n : Int} {k : Nat} (hk : k < 16) (h : lens.getD k 0 = n) : codeN n = k := by rw [← h]; exact code_at ⟨k, hk⟩
theorem codeN_miss {n : Int} (h : noLen n 16) : codeN n = -1 := by
  have h0 := h 0 (by omega); have h1 := h 1 (by omega); have h2 := h 2 (by omega); have h3 := h 3 (by omega); have h4 := h 4 (by omega); have h5 := h 5 (by omega); have h6 := h 6 (by omega); have h7 := h 7 (by omega)
  have h8 := h 8 (by omega); have h9 := h 9 (by omega); have h10 := h 10 (by omega); have h11 := h 11 (by omega); have h12 := h 12 (by omega); have h13 := h 13 (by omega); have h14 := h 14 (by omega); have h15 := h 15 (by omega)
  simp [lens] at h0 h1 h2 h3 h4 h5 h6 h7 h8 h9 h10 h11 h12 h13 h14 h15
  unfold codeN
  repeat (rw [if_neg (by omega)])
theorem lens_mono : ∀ k : Fin 16, ∀ j : Fin 16, j.val < k.val → lens.getD j.val 0 < lens.getD k.val 0 := by decide
theorem fitC_hit {n : Int} {k : Nat} (hk : k < 16) (h0 : 0 ≤ n) (h1 : n ≤ lens.getD k 0) (h2 : ∀ j, j < k → lens.getD j 0 < n) : fitC n = k := by
  have hl : k = 0 ∨ lens.getD (k - 1) 0 < n := by
    by_cases h : k = 0
    · exact .inl h
    · exact .inr (h2 _ (by omega))
  clear h2
  have : k = 0 ∨ k = 1 ∨ k = 2 ∨ k = 3 ∨ k = 4 ∨ k = 5 ∨ k = 6 ∨ k = 7 ∨ k = 8 ∨ k = 9 ∨ k = 10 ∨ k = 11 ∨ k = 12 ∨ k = 13 ∨ k = 14 ∨ k = 15 := by omega
  rcases this with rfl | rfl | rfl | rfl | rfl | rfl | rfl | rfl | rfl | rfl | rfl | rfl | rfl | rfl | rfl | rfl
  all_goals
    simp [lens] at h1 hl
    unfold fitC
    repeat (first | rw [if_neg (by omega)] | rw [if_pos (by omega)])
    try omega
theorem fitC_miss {n : Int} (h : noFit n 16) : fitC n = -1 := by
  rcases h with h | h
  · unfold fitC; rw [if_pos h]
  · have h15 := h 15 (by omega)
    simp [lens] at h15
    unfold fitC
    repeat (rw [if_neg (by omega)])
theorem noFit_succ {n : Int} {k : Nat} (h : noFit n k) (hk : n < 0 ∨ lens.getD k 0 < n) : noFit n (k + 1) := by
  rcases h with h | h
  · exact .inl h
  rcases hk with hk | hk
  · exact .inl hk
  refine .inr fun j hj => ?_
  by_cases e : j = k
  · rw [e]; exact hk
  · exact h j (by omega)

theorem lens_idx (k : Nat) (hk : k < 16) (w : World) : (Instr.index 132 (.agg lenCells) (.int .i64 k)).run Tryz.prog w = .ok (.int .i64 (lens.getD k 0)) w := by
  have : k = 0 ∨ k = 1 ∨ k = 2 ∨ k = 3 ∨ k = 4 ∨ k = 5 ∨ k = 6 ∨ k = 7 ∨ k = 8 ∨ k = 9 ∨ k = 10 ∨ k = 11 ∨ k = 12 ∨ k = 13 ∨ k = 14 ∨ k = 15 := by omega
  rcases this with rfl | rfl | rfl | rfl | rfl | rfl | rfl | rfl | rfl | rfl | rfl | rfl | rfl | rfl | rfl | rfl <;> (show _ = _; kernel_rfl)

set_option maxHeartbeats 1000000 in
theorem codeClos_t (x n : Int) (b : Nat) (w : World) (hc : w.cell? ⟨b, 0, none⟩ = some (.int .i64 n)) (h : x = n) :
    Calls Tryz.prog 102 #[.int .i64 x, .pointer (some ⟨b, 0, none⟩)] w fun e w' => e = .returned (.bool true) ∧ w = w' := by
  have h1 : (x == n) = true := by simpa using h
  clear h
  go_enter Tryz.func102, Tryz.ntmps102
  go_wp2
  go_ret
  exact ⟨rfl, rfl⟩
set_option maxHeartbeats 1000000 in
theorem codeClos_f (x n : Int) (b : Nat) (w : World) (hc : w.cell? ⟨b, 0, none⟩ = some (.int .i64 n)) (h : x ≠ n) :
    Calls Tryz.prog 102 #[.int .i64 x, .pointer (some ⟨b, 0, none⟩)] w fun e w' => e = .returned (.bool false) ∧ w = w' := by
  have h1 : (x == n) = false := by simpa using h
  clear h
  go_enter Tryz.func102, Tryz.ntmps102
  go_wp2
  go_ret
  exact ⟨rfl, rfl⟩

def codeE (n : Int) : Ending := if isLen n then .returned (.tuple #[.int .i64 (codeN n), .bool true]) else .returned (.tuple #[.int .i64 0, .bool false])
theorem codeE_t {n : Int} {k : Nat} (h : codeN n = k) : Ending.returned (.tuple #[.int .i64 k, .bool true]) = codeE n := by
  unfold codeE
  rw [if_pos (by unfold isLen; rw [h]; simp), h]
theorem codeE_f {n : Int} (h : codeN n = -1) : Ending.returned (.tuple #[.int .i64 0, .bool false]) = codeE n := by
  unfold codeE
  rw [if_neg (by unfold isLen; rw [h]; simp)]

set_option maxHeartbeats 2000000 in
theorem firstCode_any (n : Int) (b : Nat) (w : World) (hT : Tabs w) (hc : w.cell? ⟨b, 0, none⟩ = some (.int .i64 n)) :
    Calls Tryz.prog 101 #[.func (.func 102) #[] #[.pointer (some ⟨b, 0, none⟩)]] w fun e w' => e = codeE n ∧ w = w' := by
  obtain ⟨⟨t, fr, hg⟩, _⟩ := hT
  have HG := Lib.hid hg
  clear hg
  go_enter Tryz.func101, Tryz.ntmps101
  go_wp2_with (refine wpList_load_row rfl 132 _ rfl 1 rfl t lenCells fr _ HG.out Tryz.underlying132 rfl (by kernel_rfl) ?_)
  go_loop [4, 5, 7] (fun _ _ i => ∃ k : Nat, k ≤ 16 ∧ i = .int .i64 k ∧ noLen n k) (fun _ _ i => 16 - (intOf i).toNat)
  case atStart => exact ⟨0, by omega, rfl, fun j hj => by omega⟩
  case round =>
    obtain ⟨k, hk, rfl, hno⟩ := hrel
    by_cases hlt : k < 16
    · have hi := lens_idx k hlt
      by_cases hx : lens.getD k 0 = n
      · have hE := Lib.hid (codeE_t (codeN_hit hlt hx))
        have HX := Lib.hid hx
        clear hx hno
        go_wp2_with (go_at_call 102; refine (codeClos_t (lens.getD k 0) n b _ hc HX.out).mono ?_; rintro e w1 ⟨rfl, rfl⟩)
        go_ret2
        exact ⟨hE.out, rfl⟩
      · have hno' := Lib.hid (noLen_succ hno hx)
        have HX := Lib.hid hx
        clear hx hno
        go_wp2_with (go_at_call 102; refine (codeClos_f (lens.getD k 0) n b _ hc HX.out).mono ?_; rintro e w1 ⟨rfl, rfl⟩)
        go_round
        case rel => exact ⟨k + 1, by omega, by go_num, hno'.out⟩
        case measure => simp [intOf]; omega
    · obtain rfl : k = 16 := by omega
      have hE := Lib.hid (codeE_f (codeN_miss hno))
      clear hno
      go_wp2
      go_ret2
      exact ⟨hE.out, rfl⟩

end Go.Proofs.YtmmcjmejcngajaaGreatDoor

namespace Go.Proofs.YtmmcjmejcngajaaGreatDoor
open Go.RowKit
set_option linter.unusedVariables false

theorem fbelow_t {w w1 w2 : World} (h : Below w.heap.size w w1) (h' : Below w1.heap.size w1 w2) : Below w.heap.size w w2 := h.trans (h'.mono h.size)
theorem fbelow_a {w w2 : World} (o : Obj) (h' : Below (w.alloc o).heap.size (w.alloc o) w2) : Below w.heap.size w w2 := fbelow_t ((Below.refl _ _).alloc (Nat.le_refl _) o) h'

set_option maxHeartbeats 1000000 in
theorem code_t (n : Int) (w : World) (hT : Tabs w) (h : isLen n = true) :
    Calls Tryz.prog 99 #[.int .i64 n] w fun e w' => e = .returned (.tuple #[.int .i64 (codeN n), .bool true]) ∧ Below w.heap.size w w' := by
  have HE : Hid (codeE n = .returned (.tuple #[.int .i64 (codeN n), .bool true])) := Lib.hid (by unfold codeE; rw [if_pos h])
  clear h
  have HT := Lib.hid hT
  clear hT
  have hmf : ∀ (fn : Fn) (first cap : Array Value) (w : World), (Instr.makeFunc fn first cap).run Tryz.prog w = .ok (.func fn first cap) w := fun _ _ _ _ => rfl
  go_enter Tryz.func99, Tryz.ntmps99
  go_wp2_with fail
  refine (firstCode_any n _ _ (HT.out.alloc _) ?_).mono ?_
  · rw [World.cell?_alloc_at _ _ _ _ rfl]; rfl
  rintro e w1 ⟨he, rfl⟩
  rw [HE.out] at he
  subst he
  go_wp2
  go_ret2
  exact ⟨rfl, (Below.refl _ _).alloc (Nat.le_refl _) _⟩
set_option maxHeartbeats 1000000 in
theorem code_f (n : Int) (w : World) (hT : Tabs w) (h : isLen n = false) :
    Calls Tryz.prog 99 #[.int .i64 n] w fun e w' => e = .returned (.tuple #[.int .i64 0, .bool false]) ∧ Below w.heap.size w w' := by
  have HE : Hid (codeE n = .returned (.tuple #[.int .i64 0, .bool false])) := Lib.hid (by unfold codeE; rw [h]; rfl)
  clear h
  have HT := Lib.hid hT
  clear hT
  have hmf : ∀ (fn : Fn) (first cap : Array Value) (w : World), (Instr.makeFunc fn first cap).run Tryz.prog w = .ok (.func fn first cap) w := fun _ _ _ _ => rfl
  go_enter Tryz.func99, Tryz.ntmps99
  go_wp2_with fail
  refine (firstCode_any n _ _ (HT.out.alloc _) ?_).mono ?_
  · rw [World.cell?_alloc_at _ _ _ _ rfl]; rfl
  rintro e w1 ⟨he, rfl⟩
  rw [HE.out] at he
  subst he
  go_wp2
  go_ret2
  exact ⟨rfl, (Below.refl _ _).alloc (Nat.le_refl _) _⟩

theorem Tabs.len {w : World} (h : Tabs w) (k : Nat) (hk : k < 16) : w.cell? ⟨1, k, none⟩ = some (.int .i64 (lens.getD k 0)) := by
  rw [h.cell]
  have : k = 0 ∨ k = 1 ∨ k = 2 ∨ k = 3 ∨ k = 4 ∨ k = 5 ∨ k = 6 ∨ k = 7 ∨ k = 8 ∨ k = 9 ∨ k = 10 ∨ k = 11 ∨ k = 12 ∨ k = 13 ∨ k = 14 ∨ k = 15 := by omega
  rcases this with rfl | rfl | rfl | rfl | rfl | rfl | rfl | rfl | rfl | rfl | rfl | rfl | rfl | rfl | rfl | rfl <;> rfl

/-! ### Fit -/
def hitF (n x : Int) : Bool := decide (0 ≤ n) && decide (n ≤ x)
def fitE (n : Int) : Ending := if 0 ≤ fitC n then .returned (.tuple #[.int .i64 (fitC n), .bool true]) else .returned (.tuple #[.int .i64 0, .bool false])
theorem fitE_t {n : Int} {k : Nat} (h : fitC n = k) : Ending.returned (.tuple #[.int .i64 k, .bool true]) = fitE n := by
  unfold fitE
  rw [if_pos (by rw [h]; simp), h]
theorem fitE_f {n : Int} (h : fitC n = -1) : Ending.returned (.tuple #[.int .i64 0, .bool false]) = fitE n := by
  unfold fitE
  rw [if_neg (by rw [h]; simp)]
theorem fit_lt {n : Int} {k : Nat} (h0 : 0 ≤ n) (h : noFit n k) : ∀ j, j < k → lens.getD j 0 < n := h.elim (fun h => by omega) id

theorem fitC_cases (n : Int) : fitC n = -1 ∨ ∃ k : Nat, k < 16 ∧ fitC n = k := by
  have h : -1 ≤ fitC n ∧ fitC n < 16 := by unfold fitC; (repeat' split) <;> omega
  by_cases h0 : fitC n = -1
  · exact .inl h0
  · exact .inr ⟨(fitC n).toNat, by omega, by omega⟩
def lenAt (k : Nat) : Int := lens.getD k 0

/-! ### the document's -/
set_option maxHeartbeats 1000000 in
theorem rsizes_any (w : World) :
    Calls Tryz.prog 96 #[] w fun e w' => e = .returned (.slice (some ⟨w.heap.size, 0, none⟩) 16 16) ∧ (∀ k : Nat, k < 16 → w'.cell? ⟨w.heap.size, k, none⟩ = some (.int .i64 (lens.getD k 0))) ∧ Below w.heap.size w w' := by
  go_enter Tryz.func96, Tryz.ntmps96
  go_wp2
  go_ret
  refine ⟨rfl, fun k hk => ?_, (Below.refl _ _).alloc (Nat.le_refl _) _⟩
  rw [World.cell?_alloc_at _ _ _ _ rfl]
  have : k = 0 ∨ k = 1 ∨ k = 2 ∨ k = 3 ∨ k = 4 ∨ k = 5 ∨ k = 6 ∨ k = 7 ∨ k = 8 ∨ k = 9 ∨ k = 10 ∨ k = 11 ∨ k = 12 ∨ k = 13 ∨ k = 14 ∨ k = 15 := by omega
  rcases this with rfl | rfl | rfl | rfl | rfl | rfl | rfl | rfl | rfl | rfl | rfl | rfl | rfl | rfl | rfl | rfl <;> rfl

set_option maxHeartbeats 2000000 in
theorem rcode_any (n : Int) (w : World) :
    Calls Tryz.prog 86 #[.int .i64 n] w fun e w' => e = .returned (.int .i64 (codeN n)) ∧ Below w.heap.size w w' := by
  go_enter Tryz.func86, Tryz.ntmps86
  go_wp2_with fail
  refine (rsizes_any _).mono ?_
  rintro e w1 ⟨rfl, hcs, hb⟩
  have HC := Lib.hid hcs
  clear hcs
  go_wp2_with fail
  go_loop [4] (fun i => ∃ k : Nat, k ≤ 16 ∧ i = .int .i64 k ∧ noLen n k) (fun i => 16 - (intOf i).toNat)
  case atStart => exact ⟨0, by omega, rfl, fun j hj => by omega⟩
  case round =>
    obtain ⟨k, hk, rfl, hno⟩ := hrel
    by_cases hlt : k < 16
    · have hi : w1.cell? ⟨w.heap.size, k, none⟩ = some (.int .i64 (lenAt k)) := HC.out k hlt
      by_cases hx : lenAt k = n
      · have hE := Lib.hid (codeN_hit hlt hx)
        have hx' : (lenAt k == n) = true := by simpa using hx
        clear hx hno
        go_wp2
        go_ret
        exact ⟨fret_int hE.out.symm, hb⟩
      · have hno' := Lib.hid (noLen_succ hno hx)
        have hx' : (lenAt k == n) = false := by simpa using hx
        clear hx hno
        go_wp2
        go_round
        case rel => exact ⟨k + 1, by omega, by go_num, hno'.out⟩
        case measure => simp [intOf]; omega
    · obtain rfl : k = 16 := by omega
      have hE := Lib.hid (codeN_miss hno)
      clear hno
      go_wp2
      go_ret
      exact ⟨fret_int hE.out.symm, hb⟩

def fitN (n : Int) : Int := if 0 ≤ fitC n then lens.getD (fitC n).toNat 0 else -1
theorem fitN_t {n : Int} {k : Nat} (h : fitC n = k) : lens.getD k 0 = fitN n := by
  unfold fitN
  rw [if_pos (by rw [h]; simp), h]
  simp
theorem fitN_f {n : Int} (h : fitC n = -1) : -1 = fitN n := by
  unfold fitN
  rw [if_neg (by rw [h]; simp)]

end Go.Proofs.YtmmcjmejcngajaaGreatDoor

namespace Go.Proofs.YtmmcjmejcngajaaGreatDoor
open Go.RowKit
set_option linter.unusedVariables false

theorem fquiet_add {P : Program} {f : FuncId} {args : Array Value} {w : World} {a n : Nat} {v : Value}
    (h : Calls P f args (w.drewN (a + n)) fun e w' => e = .returned v ∧ w.drewN (a + n) = w') :
    Calls P f args (w.drewN (a + n)) fun e w'' => e = .returned v ∧ ∃ m, w'' = w.drewN (a + m) :=
  h.mono fun _ _ ⟨he, hm⟩ => ⟨he, n, hm.symm⟩
theorem fquiet {P : Program} {f : FuncId} {args : Array Value} {w : World} {n : Nat} {v : Value}
    (h : Calls P f args (w.drewN n) fun e w' => e = .returned v ∧ w.drewN n = w') : Calls P f args (w.drewN n) fun e w'' => e = .returned v ∧ ∃ m, w'' = w.drewN m :=
  h.mono fun _ _ ⟨he, hm⟩ => ⟨he, n, hm.symm⟩
theorem fbcell {W w1 : World} (hb : Below W.heap.size W w1) : (∀ b o, b < W.heap.size → w1.cell? ⟨b, o, none⟩ = W.cell? ⟨b, o, none⟩) ∧ (∀ b o, b < W.heap.size → w1.frozen? ⟨b, o, none⟩ = W.frozen? ⟨b, o, none⟩) :=
  ⟨fun b o h => hb.cell (p := ⟨b, o, none⟩) h, fun b o h => hb.frozen (p := ⟨b, o, none⟩) h⟩

set_option maxHeartbeats 1000000 in
theorem lenFits_any (n l : Int) (w : World) (hT : Tabs w) :
    Calls Tryz.prog 93 #[.int .i64 n, .int .i64 l] w fun e w' => e = .returned (.bool (lenOk n l)) ∧ Below w.heap.size w w' := by
  have HT := Lib.hid hT
  clear hT
  unfold lenOk
  cases hX : fX n
  · have h4 := and4_f hX
    clear hX
    cases hD : fD n
    · have h8 := and8_f hD
      clear hD
      simp only [Bool.false_eq_true, if_false]
      by_cases h0 : l < 0
      · have h1 : decide (0 ≤ l) = false := by simp; omega
        go_enter Tryz.func93, Tryz.ntmps93
        go_wp2
        go_ret
        exact ⟨fret_bool (by simp; omega), Below.refl _ _⟩
      · have h1 : 0 ≤ l := by omega
        clear h0
        go_enter Tryz.func93, Tryz.ntmps93
        go_wp2
        go_ret
        exact ⟨fret_bool (by simp; omega), Below.refl _ _⟩
    · have h8 := and8_t hD
      clear hD
      simp only [Bool.false_eq_true, if_false, if_true]
      cases hL : isLen l
      · have HL := Lib.hid hL
        clear hL
        go_enter Tryz.func93, Tryz.ntmps93
        go_wp2_with fail
        refine (code_f l _ HT.out HL.out).mono ?_
        rintro e w1 ⟨rfl, hb⟩
        go_wp2
        go_ret
        exact ⟨rfl, hb⟩
      · have HL := Lib.hid hL
        clear hL
        go_enter Tryz.func93, Tryz.ntmps93
        go_wp2_with fail
        refine (code_t l _ HT.out HL.out).mono ?_
        rintro e w1 ⟨rfl, hb⟩
        go_wp2
        go_ret
        exact ⟨rfl, hb⟩
  · have h4 := and4_t hX
    clear hX
    simp only [if_true]
    go_enter Tryz.func93, Tryz.ntmps93
    go_wp2
    go_ret
    exact ⟨fret_bool (by rw [Bool.eq_iff_iff]; simp), Below.refl _ _⟩

def rightE (b : Bool) : Int := if b then 0 else 4

theorem lenFits_v {n l : Int} {q : Bool} (h : lenOk n l = q) (w : World) (hT : Tabs w) :
    Calls Tryz.prog 93 #[.int .i64 n, .int .i64 l] w fun e w' => e = .returned (.bool q) ∧ Below w.heap.size w w' := by rw [← h]; exact lenFits_any n l w hT
theorem dataFit_v {n l : Int} {d : ByteArray} {q : Bool} (h : datOk n l d.size = q) (i : Int) (w : World) :
    Calls Tryz.prog 94 #[.agg #[.int .i64 i, .int .i64 n, .int .i64 l, .string d]] w fun e w' => e = .returned (.bool q) ∧ Below w.heap.size w w' := by rw [← h]; exact dataFit_any i n l d w

set_option maxHeartbeats 2000000 in
theorem right_any (i n l : Int) (d : ByteArray) (w : World) (hT : Tabs w) (hn1 : -9223372036854775808 ≤ n) (hn2 : n ≤ 9223372036854775807) :
    Calls Tryz.prog 77 #[.agg #[.int .i64 i, .int .i64 n, .int .i64 l, .string d]] w fun e w' => e = .returned (.int .i64 (rightE (okF i n l d.size))) ∧ Below w.heap.size w w' := by
  have HT := Lib.hid hT
  have HO := Lib.hid (bar_ok n hn1 hn2)
  clear hT hn1 hn2
  unfold okF
  cases h1 : okFl n
  · have hbar : (bits .and .i64 n (barN n) != 0) = true := by rw [bne_iff_ne]; intro h; rw [HO.out.1 h] at h1; cases h1
    clear h1 HO
    go_enter Tryz.func77, Tryz.ntmps77
    go_wp2_with fail
    go_quiet ((go_at_call 91; exact Calls.quiet_of_same ((barred_any _ _).mono fun _ _ ⟨h1, h2⟩ => ⟨h1, h2.symm⟩)))
    go_wp2
    go_ret
    exact ⟨rfl, below_drewN ((Below.refl _ _).alloc (Nat.le_refl _) _) _⟩
  · have hbar : bits .and .i64 n (barN n) = 0 := HO.out.2 h1
    clear h1 HO
    by_cases hi0 : i < 0
    · have hid0 : idOk i n = false := by unfold idOk; rw [decide_eq_false (by omega)]; rfl
      rw [hid0]
      clear hid0
      go_enter Tryz.func77, Tryz.ntmps77
      go_wp2_with fail
      go_quiet ((go_at_call 91; exact Calls.quiet_of_same ((barred_any _ _).mono fun _ _ ⟨h1, h2⟩ => ⟨h1, h2.symm⟩)))
      go_wp2_with fail
      go_quiet (fail)
      go_wp2
      go_ret
      exact ⟨rfl, below_drewN (below_drewN ((Below.refl _ _).alloc (Nat.le_refl _) _) _) _⟩
    · have hi1 : decide (i < 0) = false := by simp; omega
      by_cases ht : topN n < i
      · have hid0 : idOk i n = false := by unfold idOk; rw [decide_eq_false (show ¬ i ≤ topN n by omega)]; simp
        rw [hid0]
        clear hid0 hi0
        go_enter Tryz.func77, Tryz.ntmps77
        go_wp2_with fail
        go_quiet ((go_at_call 91; exact Calls.quiet_of_same ((barred_any _ _).mono fun _ _ ⟨h1, h2⟩ => ⟨h1, h2.symm⟩)))
        go_wp2_with fail
        go_quiet ((go_at_call 92; exact fquiet_add (top_any _ _)))
        go_wp2
        go_ret
        exact ⟨rfl, below_drewN (below_drewN ((Below.refl _ _).alloc (Nat.le_refl _) _) _) _⟩
      · have hid0 : idOk i n = true := by unfold idOk; rw [decide_eq_true (show i ≤ topN n by omega), decide_eq_true (show 0 ≤ i by omega)]; rfl
        have ht' : i ≤ topN n := by omega
        rw [hid0]
        clear hid0 hi0 ht
        cases hL : lenOk n l
        · have HL := Lib.hid hL
          clear hL
          go_enter Tryz.func77, Tryz.ntmps77
          go_wp2_with fail
          go_quiet ((go_at_call 91; exact Calls.quiet_of_same ((barred_any _ _).mono fun _ _ ⟨h1, h2⟩ => ⟨h1, h2.symm⟩)))
          go_wp2_with fail
          go_quiet ((go_at_call 92; exact fquiet_add (top_any _ _)))
          go_wp2_with fail
          refine (lenFits_v HL.out _ ((HT.out.alloc _).drewN _)).mono ?_
          rintro e w1 ⟨rfl, hb⟩
          go_wp2
          go_ret
          exact ⟨rfl, (below_drewN ((Below.refl _ _).alloc (Nat.le_refl _) _) _).trans (hb.mono (by simp))⟩
        · have HL := Lib.hid hL
          clear hL
          cases hd : datOk n l d.size
          all_goals
            have HD := Lib.hid hd
            clear hd
            go_enter Tryz.func77, Tryz.ntmps77
            go_wp2_with fail
            go_quiet ((go_at_call 91; exact Calls.quiet_of_same ((barred_any _ _).mono fun _ _ ⟨h1, h2⟩ => ⟨h1, h2.symm⟩)))
            go_wp2_with fail
            go_quiet ((go_at_call 92; exact fquiet_add (top_any _ _)))
            go_wp2_with fail
            refine (lenFits_v HL.out _ ((HT.out.alloc _).drewN _)).mono ?_
            rintro e w1 ⟨rfl, hb⟩
            obtain ⟨hc, hf⟩ := fbcell hb
            go_wp2_with fail
            refine (dataFit_v HD.out _ _).mono ?_
            rintro e w2 ⟨rfl, hb2⟩
            go_wp2
            go_ret
            exact ⟨rfl, fbelow_t ((below_drewN ((Below.refl _ _).alloc (Nat.le_refl _) _) _).trans (hb.mono (by simp))) hb2⟩

end Go.Proofs.YtmmcjmejcngajaaGreatDoor

namespace Go.Proofs.YtmmcjmejcngajaaGreatDoor
open Go.RowKit
set_option linter.unusedVariables false

set_option maxHeartbeats 1000000 in
theorem has_v {n k : Int} {q : Bool} (h : decide (n / k % 2 = 1) = q) (h0 : 0 ≤ n) (h1 : n ≤ 63) (hk : 1 ≤ k) (hk2 : k ≤ 32) (i l : Int) (d : ByteArray) (w : World) :
    Calls Tryz.prog 70 #[.agg #[.int .i64 i, .int .i64 n, .int .i64 l, .string d], .int .i64 k] w fun e w' => e = .returned (.bool q) ∧ Below w.heap.size w w' := by
  have H := Lib.hid h
  have hq0 : 0 ≤ n / k := Int.ediv_nonneg h0 (by omega)
  have hq1 : n / k ≤ 63 := Int.le_trans (Int.ediv_le_self _ h0) h1
  have hb : (k == 0) = false := by simp; omega
  clear h
  go_enter Tryz.func70, Tryz.ntmps70
  go_wp2
  go_ret
  exact ⟨fret_bool (by rw [← H.out, Bool.eq_iff_iff]; simp), (Below.refl _ _).alloc (Nat.le_refl _) _⟩

theorem has1 {n : Int} {q : Bool} (h : fE n = q) (h0 : 0 ≤ n) (h1 : n ≤ 63) (i l : Int) (d : ByteArray) (w : World) :
    Calls Tryz.prog 70 #[.agg #[.int .i64 i, .int .i64 n, .int .i64 l, .string d], .int .i64 1] w fun e w' => e = .returned (.bool q) ∧ Below w.heap.size w w' :=
  has_v (by rw [← h]; unfold fE; rw [Int.ediv_one]) h0 h1 (by decide) (by decide) i l d w
theorem has2 {n : Int} {q : Bool} (h : fR n = q) (h0 : 0 ≤ n) (h1 : n ≤ 63) (i l : Int) (d : ByteArray) (w : World) :
    Calls Tryz.prog 70 #[.agg #[.int .i64 i, .int .i64 n, .int .i64 l, .string d], .int .i64 2] w fun e w' => e = .returned (.bool q) ∧ Below w.heap.size w w' :=
  has_v h h0 h1 (by decide) (by decide) i l d w
theorem has4 {n : Int} {q : Bool} (h : fX n = q) (h0 : 0 ≤ n) (h1 : n ≤ 63) (i l : Int) (d : ByteArray) (w : World) :
    Calls Tryz.prog 70 #[.agg #[.int .i64 i, .int .i64 n, .int .i64 l, .string d], .int .i64 4] w fun e w' => e = .returned (.bool q) ∧ Below w.heap.size w w' :=
  has_v h h0 h1 (by decide) (by decide) i l d w
theorem has8 {n : Int} {q : Bool} (h : fD n = q) (h0 : 0 ≤ n) (h1 : n ≤ 63) (i l : Int) (d : ByteArray) (w : World) :
    Calls Tryz.prog 70 #[.agg #[.int .i64 i, .int .i64 n, .int .i64 l, .string d], .int .i64 8] w fun e w' => e = .returned (.bool q) ∧ Below w.heap.size w w' :=
  has_v h h0 h1 (by decide) (by decide) i l d w
theorem has16 {n : Int} {q : Bool} (h : fB n = q) (h0 : 0 ≤ n) (h1 : n ≤ 63) (i l : Int) (d : ByteArray) (w : World) :
    Calls Tryz.prog 70 #[.agg #[.int .i64 i, .int .i64 n, .int .i64 l, .string d], .int .i64 16] w fun e w' => e = .returned (.bool q) ∧ Below w.heap.size w w' :=
  has_v h h0 h1 (by decide) (by decide) i l d w
theorem has32 {n : Int} {q : Bool} (h : fS n = q) (h0 : 0 ≤ n) (h1 : n ≤ 63) (i l : Int) (d : ByteArray) (w : World) :
    Calls Tryz.prog 70 #[.agg #[.int .i64 i, .int .i64 n, .int .i64 l, .string d], .int .i64 32] w fun e w' => e = .returned (.bool q) ∧ Below w.heap.size w w' :=
  has_v h h0 h1 (by decide) (by decide) i l d w

set_option maxHeartbeats 4000000 in
theorem rright_bad (i n l : Int) (d : ByteArray) (w : World) (h0 : 0 ≤ n) (h1 : n ≤ 63) (h2 : 0 ≤ i) (h3 : i ≤ 536870911) (e r x fd b s : Bool) (he : Hid (fE n = e)) (hr : Hid (fR n = r)) (hx : Hid (fX n = x)) (hd : Hid (fD n = fd))
    (hB : Hid (fB n = b)) (hS : Hid (fS n = s)) (hbad : Hid (((x && (e || r || fd)) || (fd && r) || ((b || s) && !fd)) = true)) :
    Calls Tryz.prog 69 #[.agg #[.int .i64 i, .int .i64 n, .int .i64 l, .string d]] w fun e w' => e = .returned (.bool false) ∧ Below w.heap.size w w' := by
  have hl := later_cells
  have t1 : decide (n < 0) = false := by simp; omega
  have t2 : decide (63 < n) = false := by simp; omega
  have t3 : decide (i < 0) = false := by simp; omega
  have t4 : decide (536870911 < i) = false := by simp; omega
  go_enter Tryz.func69, Tryz.ntmps69
  go_wp2_with fail
  refine wp_region_later (by kernel_rfl) (by kernel_rfl) ?_
  repeat (go_big_quiet_step (fail))
  go_big_quiet_step (exact Later.call (has4 hx.out h0 h1 _ _ _ _))
  repeat (go_big_quiet_step (fail))
  go_big_quiet_step (exact Later.call (has8 hd.out h0 h1 _ _ _ _))
  repeat (go_big_quiet_step (fail))
  go_big_quiet_step (exact Later.call (has2 hr.out h0 h1 _ _ _ _))
  repeat (go_big_quiet_step (fail))
  go_big_quiet_step (exact Later.call (has1 he.out h0 h1 _ _ _ _))
  repeat (go_big_quiet_step (fail))
  refine wpQuiet_nil ?_
  rintro w1 ⟨m, rfl⟩
  have hz : w.heap.size < m.w.heap.size := by have := m.h.size; simp at this; omega
  have hbm : Below w.heap.size w m.w := fbelow_a _ m.h
  cases x <;> cases fd <;> cases e <;> cases r
  all_goals first
    | (go_wp2_with fail; go_ret; exact ⟨rfl, hbm⟩)
    | (go_wp2_with fail
       refine (has16 hB.out h0 h1 _ _ _ _).mono ?_
       rintro e w2 ⟨rfl, hb2⟩
       obtain ⟨hc2, hf2⟩ := fbcell hb2
       cases b
       · go_wp2_with fail
         refine (has32 hS.out h0 h1 _ _ _ _).mono ?_
         rintro e w3 ⟨rfl, hb3⟩
         cases s
         · exact absurd hbad.out (by decide)
         · first
           | exact absurd hbad.out (by decide)
           | (go_wp2; done)
           | (go_wp2; go_ret; exact ⟨rfl, fbelow_t (fbelow_t hbm hb2) hb3⟩)
       · first
         | exact absurd hbad.out (by decide)
         | (go_wp2; done)
         | (go_wp2; go_ret; exact ⟨rfl, fbelow_t hbm hb2⟩))

end Go.Proofs.YtmmcjmejcngajaaGreatDoor

namespace Go.Proofs.YtmmcjmejcngajaaGreatDoor
open Go.RowKit
set_option linter.unusedVariables false

def resD (r : Bool) (l : Int) (sz : Nat) : Bool := if r then decide (sz = 0) else decide ((sz : Int) = l)
def resC (e r : Bool) (i l : Int) (sz : Nat) : Bool := (e || decide (i ≤ 2047)) && (decide (0 ≤ l) && decide (l ≤ 8)) && resD r l sz
theorem resD_t (l : Int) (d : ByteArray) : d.toList.isEmpty = resD true l d.size := nilB d
theorem resD_f (l : Int) (d : ByteArray) : ((d.size : Int) == l) = resD false l d.size := by unfold resD; rw [Bool.eq_iff_iff]; simp

set_option maxHeartbeats 4000000 in
theorem rright_C (i n l : Int) (d : ByteArray) (w : World) (h0 : 0 ≤ n) (h1 : n ≤ 63) (h2 : 0 ≤ i) (h3 : i ≤ 536870911) (e r : Bool) (he : Hid (fE n = e)) (hr : Hid (fR n = r)) (hx : Hid (fX n = false)) (hd : Hid (fD n = false))
    (hB : Hid (fB n = false)) (hS : Hid (fS n = false)) :
    Calls Tryz.prog 69 #[.agg #[.int .i64 i, .int .i64 n, .int .i64 l, .string d]] w fun en w' => en = .returned (.bool (resC e r i l d.size)) ∧ Below w.heap.size w w' := by
  have hl := later_cells
  have t1 : decide (n < 0) = false := by simp; omega
  have t2 : decide (63 < n) = false := by simp; omega
  have t3 : decide (i < 0) = false := by simp; omega
  have t4 : decide (536870911 < i) = false := by simp; omega
  go_enter Tryz.func69, Tryz.ntmps69
  go_wp2_with fail
  refine wp_region_later (by kernel_rfl) (by kernel_rfl) ?_
  repeat (go_big_quiet_step (fail))
  go_big_quiet_step (exact Later.call (has4 hx.out h0 h1 _ _ _ _))
  repeat (go_big_quiet_step (fail))
  go_big_quiet_step (exact Later.call (has8 hd.out h0 h1 _ _ _ _))
  repeat (go_big_quiet_step (fail))
  go_big_quiet_step (exact Later.call (has2 hr.out h0 h1 _ _ _ _))
  repeat (go_big_quiet_step (fail))
  go_big_quiet_step (exact Later.call (has1 he.out h0 h1 _ _ _ _))
  repeat (go_big_quiet_step (fail))
  refine wpQuiet_nil ?_
  rintro w1 ⟨m, rfl⟩
  have hz : w.heap.size < m.w.heap.size := by have := m.h.size; simp at this; omega
  have hbm : Below w.heap.size w m.w := fbelow_a _ m.h
  go_wp2_with fail
  refine (has16 hB.out h0 h1 _ _ _ _).mono ?_
  rintro e2 w2 ⟨rfl, hb2⟩
  obtain ⟨hc2, hf2⟩ := fbcell hb2
  have hz2 : w.heap.size < w2.heap.size := Nat.lt_of_lt_of_le hz hb2.size
  go_wp2_with fail
  refine (has32 hS.out h0 h1 _ _ _ _).mono ?_
  rintro e3 w3 ⟨rfl, hb3⟩
  obtain ⟨hc3, hf3⟩ := fbcell hb3
  have hz3 : w.heap.size < w3.heap.size := Nat.lt_of_lt_of_le hz2 hb3.size
  have hbb : Below w.heap.size w w3 := fbelow_t (fbelow_t hbm hb2) hb3
  have hfin : ∀ q : Bool, q = (e || decide (i ≤ 2047)) → ∀ p : Bool, p = (decide (0 ≤ l) && decide (l ≤ 8)) → resC e r i l d.size = (q && p && resD r l d.size) := fun q hq p hp => by rw [hq, hp]; rfl
  have Hfin := Lib.hid hfin
  clear hfin
  cases e
  · by_cases hi : 2047 < i
    · go_wp2
      go_ret
      exact ⟨fret_bool (by rw [Hfin.out false (by simp; omega) _ rfl]; rfl), hbb⟩
    · have t5 : decide (2047 < i) = false := by simp; omega
      by_cases l0 : l < 0
      · go_wp2
        go_ret
        exact ⟨fret_bool (by rw [Hfin.out _ rfl false (by simp; omega)]; simp), hbb⟩
      have t6 : decide (l < 0) = false := by simp; omega
      by_cases l1 : 64 < l
      · go_wp2
        go_ret
        exact ⟨fret_bool (by rw [Hfin.out _ rfl false (by simp; omega)]; simp), hbb⟩
      have t7 : decide (64 < l) = false := by simp; omega
      by_cases l2 : 8 < l
      · go_wp2
        go_ret
        exact ⟨fret_bool (by rw [Hfin.out _ rfl false (by simp; omega)]; simp), hbb⟩
      have t8 : decide (8 < l) = false := by simp; omega
      cases r
      · go_wp2
        go_ret
        exact ⟨fret_bool (by rw [Hfin.out true (by simp; omega) true (by simp; omega)]; exact resD_f l d), hbb⟩
      · go_wp2
        go_ret
        exact ⟨fret_bool (by rw [Hfin.out true (by simp; omega) true (by simp; omega)]; exact resD_t l d), hbb⟩
  · by_cases hi : 2047 < i
    all_goals
      have t5 : decide (2047 < i) = decide (2047 < i) := rfl
      clear t5
      try (have t5 : decide (2047 < i) = false := by simp; omega)
      by_cases l0 : l < 0
      · go_wp2
        go_ret
        exact ⟨fret_bool (by rw [Hfin.out _ rfl false (by simp; omega)]; simp), hbb⟩
      have t6 : decide (l < 0) = false := by simp; omega
      by_cases l1 : 64 < l
      · go_wp2
        go_ret
        exact ⟨fret_bool (by rw [Hfin.out _ rfl false (by simp; omega)]; simp), hbb⟩
      have t7 : decide (64 < l) = false := by simp; omega
      by_cases l2 : 8 < l
      · go_wp2
        go_ret
        exact ⟨fret_bool (by rw [Hfin.out _ rfl false (by simp; omega)]; simp), hbb⟩
      have t8 : decide (8 < l) = false := by simp; omega
      cases r
      · go_wp2
        go_ret
        exact ⟨fret_bool (by rw [Hfin.out true rfl true (by simp; omega)]; exact resD_f l d), hbb⟩
      · go_wp2
        go_ret
        exact ⟨fret_bool (by rw [Hfin.out true rfl true (by simp; omega)]; exact resD_t l d), hbb⟩

end Go.Proofs.YtmmcjmejcngajaaGreatDoor
