/- Octet: contracts of Ones; of what every statement asks at its end (alive). -/
import Derived.Test.YtpjlomgiljpadaaDoorOctD
namespace Go.Proofs.YtpjlomgiljpadaaDoor
open Go.RowKit
set_option linter.unusedVariables false

/-- how many bits of a byte are set -/
def pc (x : Int) : Int := x % 2 + x / 2 % 2 + x / 4 % 2 + x / 8 % 2 + x / 16 % 2 + x / 32 % 2 + x / 64 % 2 + x / 128 % 2
def ones (s : ByteArray) : Nat → Int
  | 0 => 0
  | n + 1 => ones s n + pc (bt s n)
theorem pc_bd (x : Int) : 0 ≤ pc x ∧ pc x ≤ 8 := by unfold pc; omega
theorem ones_bd (s : ByteArray) : ∀ n, 0 ≤ ones s n ∧ ones s n ≤ 8 * n
  | 0 => by simp [ones]
  | n + 1 => by have h := ones_bd s n; have h' := pc_bd (bt s n); simp only [ones]; omega

theorem unhex_c (w : World) : Calls Tryd.prog 64 #[.string ⟨#[48, 48, 65, 98]⟩] w fun e w' => e = .returned (.tuple #[.string ⟨#[0, 171]⟩, .bool true]) ∧ Below w.heap.size w w' := by
  refine (unhex_any ⟨#[48, 48, 65, 98]⟩ w (by decide)).mono fun e w' ⟨h, hb⟩ => ⟨?_, hb⟩
  rcases h with ⟨_, rfl⟩ | ⟨h, _⟩
  · have e1 : strOfNums (unl ⟨#[48, 48, 65, 98]⟩ ((⟨#[48, 48, 65, 98]⟩ : ByteArray).size / 2)) = ⟨#[0, 171]⟩ := by decide +kernel
    rw [e1]
  · exact absurd (show unOk ⟨#[48, 48, 65, 98]⟩ by unfold unOk isdig; decide +kernel) h

theorem hex_c (w : World) : Calls Tryd.prog 46 #[.string ⟨#[0, 171]⟩] w fun e w' => e = .returned (.string ⟨#[48, 48, 65, 66]⟩) ∧ Below w.heap.size w w' := by
  refine (hex_any ⟨#[0, 171]⟩ w (by decide)).mono fun e w' ⟨h, hb⟩ => ⟨?_, hb⟩
  have e1 : strOfNums (hexl ⟨#[0, 171]⟩ (⟨#[0, 171]⟩ : ByteArray).size) = ⟨#[48, 48, 65, 66]⟩ := by decide +kernel
  rw [h, e1]

end Go.Proofs.YtpjlomgiljpadaaDoor
