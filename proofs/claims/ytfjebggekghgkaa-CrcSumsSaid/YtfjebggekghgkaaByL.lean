/- Of no program: texts as lists of bytes. (Parted from XDmpM, so that every layer has it.) -/
import Derived.Test.YtfjebggekghgkaaWirL
namespace Go.Proofs.Ytfjebggekghgkaa
open Go.RowKit
set_option linter.unusedVariables false

/-! ### texts as lists of bytes -/
def byL (s : ByteArray) : List Int := s.data.toList.map fun b => (b.toNat : Int)
def isBy (L : List Int) : Prop := ∀ x ∈ L, 0 ≤ x ∧ x < 256
theorem byL_len (s : ByteArray) : (byL s).length = s.size := by simp [byL]
theorem byL_by (s : ByteArray) : isBy (byL s) := by
  intro x hx
  obtain ⟨b, _, rfl⟩ := List.mem_map.1 hx
  have := b.toNat_lt
  omega
theorem nums_byL (s : ByteArray) : strOfNums (byL s) = s := by
  apply ByteArray.ext
  apply Array.toList_inj.1
  rw [strOfNums_data]
  unfold byL
  rw [List.map_map]
  conv => rhs; rw [← List.map_id s.data.toList]
  apply List.map_congr_left
  intro b _
  simp
theorem byL_nums {L : List Int} (h : isBy L) : byL (strOfNums L) = L := by
  unfold byL
  rw [strOfNums_data, List.map_map]
  conv => rhs; rw [← List.map_id L]
  apply List.map_congr_left
  intro x hx
  have := h x hx
  simp only [Function.comp, UInt8.toNat_ofNat', id]
  omega
theorem byL_inj {s t : ByteArray} (h : byL s = byL t) : s = t := by rw [← nums_byL s, h, nums_byL]
theorem byL_app (a b : ByteArray) : byL (a ++ b) = byL a ++ byL b := by unfold byL; simp [ByteArray.data_append]
theorem byL_extract (s : ByteArray) (a b : Nat) : byL (s.extract a b) = ((byL s).take b).drop a := by
  unfold byL
  rw [ByteArray.data_extract, Array.toList_extract]
  simp [List.map_take, List.map_drop, List.extract_eq_take_drop, List.drop_take]
theorem byL_getD (s : ByteArray) (k : Nat) : (byL s).getD k 0 = bt s k := by
  unfold byL bt
  rw [List.getD_eq_getElem?_getD, List.getElem?_map]
  cases s.data.toList[k]? <;> rfl
theorem byL_get {s : ByteArray} {k : Nat} (h : k < s.size) : (byL s)[k]'(by rw [byL_len]; exact h) = bt s k := by
  rw [← byL_getD, List.getD_eq_getElem?_getD, List.getElem?_eq_getElem (by rw [byL_len]; exact h)]; rfl
theorem byL_drop {s : ByteArray} {k : Nat} (h : k < s.size) : (byL s).drop k = bt s k :: (byL s).drop (k + 1) := by
  rw [List.drop_eq_getElem_cons (by rw [byL_len]; exact h), byL_get h]
theorem byL_take {s : ByteArray} {k : Nat} (h : k < s.size) : (byL s).take (k + 1) = (byL s).take k ++ [bt s k] := by
  rw [List.take_succ_eq_append_getElem (by rw [byL_len]; exact h), byL_get h]
theorem isBy_app {a b : List Int} (ha : isBy a) (hb : isBy b) : isBy (a ++ b) := by
  intro x hx
  rcases List.mem_append.1 hx with h | h
  · exact ha x h
  · exact hb x h
theorem isBy_cons {x : Int} {L : List Int} (h0 : 0 ≤ x ∧ x < 256) (h : isBy L) : isBy (x :: L) := by
  intro y hy
  rcases List.mem_cons.1 hy with rfl | hy
  · exact h0
  · exact h y hy
theorem isBy_nil : isBy [] := fun x hx => by cases hx
theorem nums_app (a b : List Int) : strOfNums (a ++ b) = strOfNums a ++ strOfNums b := by
  apply ByteArray.ext
  apply Array.toList_inj.1
  simp [ByteArray.data_append, strOfNums]

end Go.Proofs.Ytfjebggekghgkaa
