/- Frame: contracts of Code, Size, Fit; and of the document's Sizes, Code, Fit. -/
import Derived.Test.YtohoedhaomkafaaDoorFrmB
namespace Go.Proofs.YtohoedhaomkafaaDoor
open Go.RowKit
set_option linter.unusedVariables false

theorem fbelow_t {w w1 w2 : World} (h : Below w.heap.size w w1) (h' : Below w1.heap.size w1 w2) : Below w.heap.size w w2 := h.trans (h'.mono h.size)
theorem fbelow_a {w w2 : World} (o : Obj) (h' : Below (w.alloc o).heap.size (w.alloc o) w2) : Below w.heap.size w w2 := fbelow_t ((Below.refl _ _).alloc (Nat.le_refl _) o) h'

set_option maxHeartbeats 1000000 in
theorem code_t (n : Int) (w : World) (hT : Tabs w) (h : isLen n = true) :
    Calls Tryd.prog 34 #[.int .i64 n] w fun e w' => e = .returned (.tuple #[.int .i64 (codeN n), .bool true]) ∧ Below w.heap.size w w' := by
  have HE : Hid (codeE n = .returned (.tuple #[.int .i64 (codeN n), .bool true])) := Lib.hid (by unfold codeE; rw [if_pos h])
  clear h
  have HT := Lib.hid hT
  clear hT
  have hmf : ∀ (fn : Fn) (first cap : Array Value) (w : World), (Instr.makeFunc fn first cap).run Tryd.prog w = .ok (.func fn first cap) w := fun _ _ _ _ => rfl
  go_enter Tryd.func34, Tryd.ntmps34
  go_wp2_with fail
  refine (firstCode_any n _ _ (HT.out.alloc _) ?_).mono ?_
  · rw [World.cell?_alloc_at _ _ _ _ rfl]; rfl
  rintro e w1 ⟨he, rfl⟩
  rw [HE.out] at he
  subst he
  go_wp2
  go_ret2
  exact ⟨rfl, (Below.refl _ _).alloc (Nat.le_refl _) _⟩
set_option maxHeartbeats 1000000 in
theorem code_f (n : Int) (w : World) (hT : Tabs w) (h : isLen n = false) :
    Calls Tryd.prog 34 #[.int .i64 n] w fun e w' => e = .returned (.tuple #[.int .i64 0, .bool false]) ∧ Below w.heap.size w w' := by
  have HE : Hid (codeE n = .returned (.tuple #[.int .i64 0, .bool false])) := Lib.hid (by unfold codeE; rw [h]; rfl)
  clear h
  have HT := Lib.hid hT
  clear hT
  have hmf : ∀ (fn : Fn) (first cap : Array Value) (w : World), (Instr.makeFunc fn first cap).run Tryd.prog w = .ok (.func fn first cap) w := fun _ _ _ _ => rfl
  go_enter Tryd.func34, Tryd.ntmps34
  go_wp2_with fail
  refine (firstCode_any n _ _ (HT.out.alloc _) ?_).mono ?_
  · rw [World.cell?_alloc_at _ _ _ _ rfl]; rfl
  rintro e w1 ⟨he, rfl⟩
  rw [HE.out] at he
  subst he
  go_wp2
  go_ret2
  exact ⟨rfl, (Below.refl _ _).alloc (Nat.le_refl _) _⟩

theorem Tabs.len {w : World} (h : Tabs w) (k : Nat) (hk : k < 16) : w.cell? ⟨1, k, none⟩ = some (.int .i64 (lens.getD k 0)) := by
  rw [h.cell]
  have : k = 0 ∨ k = 1 ∨ k = 2 ∨ k = 3 ∨ k = 4 ∨ k = 5 ∨ k = 6 ∨ k = 7 ∨ k = 8 ∨ k = 9 ∨ k = 10 ∨ k = 11 ∨ k = 12 ∨ k = 13 ∨ k = 14 ∨ k = 15 := by omega
  rcases this with rfl | rfl | rfl | rfl | rfl | rfl | rfl | rfl | rfl | rfl | rfl | rfl | rfl | rfl | rfl | rfl <;> rfl

/-! ### Fit -/
def hitF (n x : Int) : Bool := decide (0 ≤ n) && decide (n ≤ x)
def fitE (n : Int) : Ending := if 0 ≤ fitC n then .returned (.tuple #[.int .i64 (fitC n), .bool true]) else .returned (.tuple #[.int .i64 0, .bool false])
theorem fitE_t {n : Int} {k : Nat} (h : fitC n = k) : Ending.returned (.tuple #[.int .i64 k, .bool true]) = fitE n := by
  unfold fitE
  rw [if_pos (by rw [h]; simp), h]
theorem fitE_f {n : Int} (h : fitC n = -1) : Ending.returned (.tuple #[.int .i64 0, .bool false]) = fitE n := by
  unfold fitE
  rw [if_neg (by rw [h]; simp)]
theorem fit_lt {n : Int} {k : Nat} (h0 : 0 ≤ n) (h : noFit n k) : ∀ j, j < k → lens.getD j 0 < n := h.elim (fun h => by omega) id

theorem fitC_cases (n : Int) : fitC n = -1 ∨ ∃ k : Nat, k < 16 ∧ fitC n = k := by
  have h : -1 ≤ fitC n ∧ fitC n < 16 := by unfold fitC; (repeat' split) <;> omega
  by_cases h0 : fitC n = -1
  · exact .inl h0
  · exact .inr ⟨(fitC n).toNat, by omega, by omega⟩
def lenAt (k : Nat) : Int := lens.getD k 0

/-! ### the document's -/
set_option maxHeartbeats 1000000 in
theorem rsizes_any (w : World) :
    Calls Tryd.prog 33 #[] w fun e w' => e = .returned (.slice (some ⟨w.heap.size, 0, none⟩) 16 16) ∧ (∀ k : Nat, k < 16 → w'.cell? ⟨w.heap.size, k, none⟩ = some (.int .i64 (lens.getD k 0))) ∧ Below w.heap.size w w' := by
  go_enter Tryd.func33, Tryd.ntmps33
  go_wp2
  go_ret
  refine ⟨rfl, fun k hk => ?_, (Below.refl _ _).alloc (Nat.le_refl _) _⟩
  rw [World.cell?_alloc_at _ _ _ _ rfl]
  have : k = 0 ∨ k = 1 ∨ k = 2 ∨ k = 3 ∨ k = 4 ∨ k = 5 ∨ k = 6 ∨ k = 7 ∨ k = 8 ∨ k = 9 ∨ k = 10 ∨ k = 11 ∨ k = 12 ∨ k = 13 ∨ k = 14 ∨ k = 15 := by omega
  rcases this with rfl | rfl | rfl | rfl | rfl | rfl | rfl | rfl | rfl | rfl | rfl | rfl | rfl | rfl | rfl | rfl <;> rfl

set_option maxHeartbeats 2000000 in
theorem rcode_any (n : Int) (w : World) :
    Calls Tryd.prog 26 #[.int .i64 n] w fun e w' => e = .returned (.int .i64 (codeN n)) ∧ Below w.heap.size w w' := by
  go_enter Tryd.func26, Tryd.ntmps26
  go_wp2_with fail
  refine (rsizes_any _).mono ?_
  rintro e w1 ⟨rfl, hcs, hb⟩
  have HC := Lib.hid hcs
  clear hcs
  go_wp2_with fail
  go_loop [4] (fun i => ∃ k : Nat, k ≤ 16 ∧ i = .int .i64 k ∧ noLen n k) (fun i => 16 - (intOf i).toNat)
  case atStart => exact ⟨0, by omega, rfl, fun j hj => by omega⟩
  case round =>
    obtain ⟨k, hk, rfl, hno⟩ := hrel
    by_cases hlt : k < 16
    · have hi : w1.cell? ⟨w.heap.size, k, none⟩ = some (.int .i64 (lenAt k)) := HC.out k hlt
      by_cases hx : lenAt k = n
      · have hE := Lib.hid (codeN_hit hlt hx)
        have hx' : (lenAt k == n) = true := by simpa using hx
        clear hx hno
        go_wp2
        go_ret
        exact ⟨fret_int hE.out.symm, hb⟩
      · have hno' := Lib.hid (noLen_succ hno hx)
        have hx' : (lenAt k == n) = false := by simpa using hx
        clear hx hno
        go_wp2
        go_round
        case rel => exact ⟨k + 1, by omega, by go_num, hno'.out⟩
        case measure => simp [intOf]; omega
    · obtain rfl : k = 16 := by omega
      have hE := Lib.hid (codeN_miss hno)
      clear hno
      go_wp2
      go_ret
      exact ⟨fret_int hE.out.symm, hb⟩

def fitN (n : Int) : Int := if 0 ≤ fitC n then lens.getD (fitC n).toNat 0 else -1
theorem fitN_t {n : Int} {k : Nat} (h : fitC n = k) : lens.getD k 0 = fitN n := by
  unfold fitN
  rw [if_pos (by rw [h]; simp), h]
  simp
theorem fitN_f {n : Int} (h : fitC n = -1) : -1 = fitN n := by
  unfold fitN
  rw [if_neg (by rw [h]; simp)]

end Go.Proofs.YtohoedhaomkafaaDoor
