/- Of no program: bytes of texts one by one; a frame's datum. (Parted from XWirM, so that dump has it without wire.) -/
import Derived.Test.YtfjebggekghgkaaOctB
import Derived.Test.YtfjebggekghgkaaFrmM
namespace Go.Proofs.Ytfjebggekghgkaa
open Go.RowKit
set_option linter.unusedVariables false

/-! ### bytes -/
theorem bt_past2 (s : ByteArray) (k : Nat) (h : s.size ≤ k) : bt s k = 0 := by
  unfold bt
  rw [List.getElem?_eq_none (by simpa using h)]
  rfl
theorem bt_ext {s t : ByteArray} (hs : s.size = t.size) (h : ∀ k, k < s.size → bt s k = bt t k) : s = t := by
  apply ByteArray.ext
  apply Array.toList_inj.1
  apply List.ext_getElem?
  intro k
  by_cases hk : k < s.size
  · have hk' : k < s.data.toList.length := by simpa using hk
    have hk2 : k < t.data.toList.length := by have : k < t.size := by omega
                                              simpa using this
    have := h k hk
    unfold bt at this
    rw [List.getElem?_eq_getElem hk', List.getElem?_eq_getElem hk2] at this ⊢
    simp only [Option.getD_some] at this
    congr 1
    apply UInt8.toNat_inj.1
    omega
  · rw [List.getElem?_eq_none (by simpa using hk), List.getElem?_eq_none (by have : ¬ k < t.size := by omega
                                                                             simpa using this)]
theorem bt_app (a b : ByteArray) (k : Nat) : bt (a ++ b) k = if k < a.size then bt a k else bt b (k - a.size) := by
  have e : (a ++ b).data.toList = a.data.toList ++ b.data.toList := by simp [ByteArray.data_append]
  unfold bt
  rw [e]
  split
  · rename_i h
    rw [List.getElem?_append_left (by simpa using h)]
  · rename_i h
    rw [List.getElem?_append_right (by simpa using h)]
    rfl
theorem bt_nums (L : List Int) (hL : ∀ x ∈ L, 0 ≤ x ∧ x < 256) (k : Nat) : bt (strOfNums L) k = L.getD k 0 := by
  unfold bt
  rw [strOfNums_data, List.getElem?_map]
  by_cases hk : k < L.length
  · have := hL L[k] (List.getElem_mem hk)
    simp only [List.getElem?_eq_getElem hk, Option.map_some, Option.getD_some, List.getD_eq_getElem?_getD, UInt8.toNat_ofNat']
    omega
  · simp [List.getElem?_eq_none (by omega : L.length ≤ k)]
theorem sub_size (s : ByteArray) (a b : Nat) (h : b ≤ s.size) : (s.extract a b).size = b - a := by
  rw [ByteArray.size_extract]; omega
theorem bt_sub (s : ByteArray) (a b k : Nat) (h1 : a + k < b) (h2 : b ≤ s.size) : bt (s.extract a b) k = bt s (a + k) := by
  have hk : k < (s.extract a b).size := by rw [sub_size _ _ _ h2]; omega
  rw [← bt_eq _ k hk, ← bt_eq s (a + k) (by omega), ByteArray.getElem_extract]

theorem Below.allocL {w w1 : World} (h : Below w.heap.size w w1) (o : Obj) : Below w.heap.size w (w1.alloc o) := h.alloc h.size o
theorem index_bt {t : TypeId} {s : ByteArray} {k : Nat} (ht : Try.prog.underlying t = some .string) (hk : k < s.size) (w : World) : (Instr.index t (.string s) (.int .i64 k)).run Try.prog w = .ok (.int .u8 (bt s k)) w := by
  rw [← bt_eq s k hk]
  simp [go_sem, ht, hk]
theorem seq_beq (a b : ByteArray) : (a.toList == b.toList) = decide (a = b) := by
  rw [Bool.eq_iff_iff, beq_iff_eq, decide_eq_true_eq, ByteArray.toList_eq, ByteArray.toList_eq]
  exact ⟨fun h => ByteArray.ext (Array.toList_inj.1 h), fun h => by rw [h]⟩
theorem seq_self (a : ByteArray) : (a.toList == a.toList) = true := by simp

/-! ### a frame -/
structure Fr where
  i : Int
  n : Int
  l : Int
  d : ByteArray
def Fr.ok (f : Fr) : Bool := okF f.i f.n f.l f.d.size

end Go.Proofs.Ytfjebggekghgkaa
