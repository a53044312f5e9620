/- Frame: alive. -/
import Derived.Test.YtimlaopmhcipmaaDoorFrmK
namespace Go.Proofs.YtimlaopmhcipmaaDoor
open Go.RowKit
set_option linter.unusedVariables false

def s12 : ByteArray := ⟨#[1, 2]⟩
/-! ### FrameSizes -/
theorem codeN_bd (n : Int) : -1 ≤ codeN n ∧ codeN n < 16 := by unfold codeN; (repeat' split) <;> omega
theorem code_vt {n c : Int} (h : codeN n = c) (h0 : 0 ≤ c) (w : World) (hT : Tabs w) :
    Calls Tryd.prog 50 #[.int .i64 n] w fun e w' => e = .returned (.tuple #[.int .i64 c, .bool true]) ∧ Below w.heap.size w w' := by
  rw [← h]; exact code_t n w hT (by unfold isLen; rw [h]; simpa using h0)
theorem code_vf {n c : Int} (h : codeN n = c) (h0 : c < 0) (w : World) (hT : Tabs w) :
    Calls Tryd.prog 50 #[.int .i64 n] w fun e w' => e = .returned (.tuple #[.int .i64 0, .bool false]) ∧ Below w.heap.size w w' :=
  code_f n w hT (by unfold isLen; rw [h]; simpa using h0)
theorem rcode_v {n c : Int} (h : codeN n = c) (w : World) :
    Calls Tryd.prog 27 #[.int .i64 n] w fun e w' => e = .returned (.int .i64 c) ∧ Below w.heap.size w w' := by rw [← h]; exact rcode_any n w
theorem lens_nn : ∀ k : Fin 16, 0 ≤ lens.getD k.val 0 := by decide
theorem rsizes_v {k : Nat} {s : Int} (h : lenAt k = s) (hk : k < 16) (w : World) :
    Calls Tryd.prog 44 #[] w fun e w' => e = .returned (.slice (some ⟨w.heap.size, 0, none⟩) 16 16) ∧ w'.cell? ⟨w.heap.size, k, none⟩ = some (.int .i64 s) ∧ Below w.heap.size w w' := by
  rw [← h]; exact (rsizes_any w).mono fun _ _ ⟨h1, h2, h3⟩ => ⟨h1, h2 k hk, h3⟩

theorem codeN_len {k : Nat} (hk : k < 16) : codeN (lenAt k) = k := code_at ⟨k, hk⟩
end Go.Proofs.YtimlaopmhcipmaaDoor
