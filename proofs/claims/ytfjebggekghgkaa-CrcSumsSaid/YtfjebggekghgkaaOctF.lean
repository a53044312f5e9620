/- Octet: the walks of OctetDigits, OctetWords. -/
import Derived.Test.YtfjebggekghgkaaOctE
import Derived.OpenShut
namespace Go.Proofs.Ytfjebggekghgkaa
open Go.RowKit
set_option linter.unusedVariables false


theorem bt_ofNums (xs : List Int) (k : Nat) (hx : ∀ x ∈ xs, 0 ≤ x ∧ x < 256) (hk : k < xs.length) : bt (strOfNums xs) k = xs.getD k 0 := by
  have hm := hx xs[k] (List.getElem_mem hk)
  unfold bt
  rw [strOfNums_data, List.getElem?_map, List.getElem?_eq_getElem hk]
  simp only [Option.map_some, Option.getD_some, List.getD_eq_getElem?_getD, List.getElem?_eq_getElem hk]
  have : (xs[k].toNat) % 256 = xs[k].toNat := by omega
  simp only [UInt8.toNat_ofNat']
  omega

theorem num4_put (n : Int) (h0 : 0 ≤ n) (h1 : n ≤ 4294967295) : num4 (strOfNums [n % 256, n / 256 % 256, n / 65536 % 256, n / 16777216]) 0 = n := by
  have hx : ∀ x ∈ [n % 256, n / 256 % 256, n / 65536 % 256, n / 16777216], 0 ≤ x ∧ x < 256 := by
    intro x hx
    simp only [List.mem_cons, List.not_mem_nil, or_false] at hx
    rcases hx with rfl | rfl | rfl | rfl <;> omega
  unfold num4
  rw [bt_ofNums _ 0 hx (by simp), bt_ofNums _ 1 hx (by simp), bt_ofNums _ 2 hx (by simp), bt_ofNums _ 3 hx (by simp)]
  simp
  omega

end Go.Proofs.Ytfjebggekghgkaa
