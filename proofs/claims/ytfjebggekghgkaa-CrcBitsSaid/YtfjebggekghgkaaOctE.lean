/- Octet: contracts of Ones; of what every statement asks at its end (alive). -/
import Derived.Test.YtfjebggekghgkaaOctD
namespace Go.Proofs.Ytfjebggekghgkaa
open Go.RowKit
set_option linter.unusedVariables false

/-- how many bits of a byte are set -/
def pc (x : Int) : Int := x % 2 + x / 2 % 2 + x / 4 % 2 + x / 8 % 2 + x / 16 % 2 + x / 32 % 2 + x / 64 % 2 + x / 128 % 2
def ones (s : ByteArray) : Nat → Int
  | 0 => 0
  | n + 1 => ones s n + pc (bt s n)
theorem pc_bd (x : Int) : 0 ≤ pc x ∧ pc x ≤ 8 := by unfold pc; omega
theorem ones_bd (s : ByteArray) : ∀ n, 0 ≤ ones s n ∧ ones s n ≤ 8 * n
  | 0 => by simp [ones]
  | n + 1 => by have h := ones_bd s n; have h' := pc_bd (bt s n); simp only [ones]; omega

end Go.Proofs.Ytfjebggekghgkaa
