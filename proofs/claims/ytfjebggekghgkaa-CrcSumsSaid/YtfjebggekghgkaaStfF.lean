/- Stuff: contracts of Right, Turn, Stuff, each with what it hands to walk. -/
import Derived.Test.YtfjebggekghgkaaStfE
namespace Go.Proofs.Ytfjebggekghgkaa
open Go.RowKit
set_option linter.unusedVariables false

/-! ### runes of bits -/
theorem rune_bit {s : ByteArray} {k : Nat} (hk : k < s.size) (hb : isBit (bt s k) = true) : ((Utf8.decode s k).1 : Int) = bt s k ∧ (Utf8.decode s k).2 = 1 := by
  have e := bt_eq s k hk
  have ha : (s[k]'hk).toNat < 128 := by
    rw [isBit_iff] at hb
    omega
  rw [decode_ascii s k hk ha]
  exact ⟨e, rfl⟩
theorem rune_not {s : ByteArray} {k : Nat} (hk : k < s.size) (hb : isBit (bt s k) = false) : isBit ((Utf8.decode s k).1 : Int) = false := by
  have e := bt_eq s k hk
  by_cases ha : (s[k]'hk).toNat < 128
  · rw [decode_ascii s k hk ha]
    rw [← e] at hb
    exact hb
  · have h := (decode_high s k hk (by omega)).1
    unfold isBit
    simp
    omega
theorem bits_step {s : ByteArray} {k : Nat} (hk : k < s.size) (h : bitsB ((byL s).take k) = true) (hb : isBit (bt s k) = true) : bitsB ((byL s).take (k + 1)) = true := by
  rw [byL_take hk, bitsB_app, h]
  simp [bitsB, hb]
theorem bits_not {s : ByteArray} {k : Nat} (hk : k < s.size) (hb : isBit (bt s k) = false) : bitsB (byL s) = false := by
  rw [← List.take_append_drop (k + 1) (byL s), bitsB_app, byL_take hk, bitsB_app]
  simp [bitsB, hb]
theorem bits_all {s : ByteArray} {k : Nat} (hk : ¬ k < s.size) (h : bitsB ((byL s).take k) = true) : bitsB (byL s) = true := by
  rwa [List.take_of_length_le (by rw [byL_len]; omega)] at h
theorem take_all {s : ByteArray} {k : Nat} (hk : ¬ k < s.size) : (byL s).take k = byL s := List.take_of_length_le (by rw [byL_len]; omega)
theorem rcells {x : Int} (hx : isBit x = true) : Lib.runeCells x = [.int .u8 x] := by
  rw [isBit_iff] at hx
  rcases hx with rfl | rfl <;> rfl
theorem bcells {O : List Int} (h : isBy O) : O.map (Value.int .u8) = Lib.byteCells (strOfNums O).data.toList := by
  have e := byL_nums h
  unfold byL at e
  unfold Lib.byteCells
  conv => lhs; rw [← e]
  rw [List.map_map]
  rfl
theorem str_list (s : ByteArray) : (⟨s.data.toList.toArray⟩ : ByteArray) = s := by
  cases s
  simp

/-! ### Right -/
theorem rightC_t {x : Int} (hx : isBit x = true) (w : World) : Calls Try.prog 30 #[.int .i32 x] w fun e w' => e = .returned (.bool true) ∧ w = w' := by
  have HX := Lib.hid hx
  clear hx
  go_enter Try.func30, Try.ntmps30
  go_wp2_with fail
  refine (cother_t rfl HX.out _).mono ?_
  rintro e w1 ⟨rfl, rfl⟩
  go_wp2
  go_ret
  exact ⟨rfl, rfl⟩
theorem rightC_f {x : Int} (hx : isBit x = false) (w : World) : Calls Try.prog 30 #[.int .i32 x] w fun e w' => e = .returned (.bool false) ∧ w = w' := by
  have HX := Lib.hid hx
  clear hx
  go_enter Try.func30, Try.ntmps30
  go_wp2_with fail
  refine (cother_f HX.out _).mono ?_
  rintro e w1 ⟨rfl, rfl⟩
  go_wp2
  go_ret
  exact ⟨rfl, rfl⟩
def rInv (s : ByteArray) (w : World) (k : Nat) (w1 : World) : Prop := bitsB ((byL s).take k) = true ∧ Below w.heap.size w w1
def rFin (s : ByteArray) (w : World) (k : Nat) (w1 : World) : Prop := bitsB (byL s) = false ∧ Below w.heap.size w w1
theorem below_iter (w : World) (s : ByteArray) : Below w.heap.size w (w.iter s 0) := (Below.refl _ w).alloc (Nat.le_refl _) _
theorem right_walk (s : ByteArray) (w : World) : Calls Try.prog 29 #[.string s, .func (.func 30) #[] #[]] w (WalkPost s (rInv s w) (rFin s w)) := by
  refine walk_v 30 #[] (enters_of Try.func30 (by kernel_rfl) rfl) _ _ w ⟨rfl, below_iter w s⟩ (fun pos q w1 h _ => ⟨h.1, Lib.below_iterAt h.2 (Nat.le_refl _) s q⟩) ?_
  intro pos w1 hp h
  cases hb : isBit (bt s pos)
  · refine (rightC_f (rune_not hp hb) w1).mono ?_
    rintro e w2 ⟨rfl, rfl⟩
    exact ⟨KeepsI.refl _ _, .inr ⟨rfl, bits_not hp hb, h.2⟩⟩
  · obtain ⟨h1, h2⟩ := rune_bit hp hb
    rw [h1, h2]
    refine (rightC_t hb w1).mono ?_
    rintro e w2 ⟨rfl, rfl⟩
    exact ⟨KeepsI.refl _ _, .inl ⟨rfl, bits_step hp h.1 hb, h.2⟩⟩
theorem cright_v {s : ByteArray} {q : Bool} (h : bitsB (byL s) = q) (w : World) :
    Calls Try.prog 27 #[.string s] w fun e w' => e = .returned (.bool q) ∧ Below w.heap.size w w' := by
  have H := Lib.hid h
  clear h
  have hmf : ∀ (fn : Fn) (first cap : Array Value) (w : World), (Instr.makeFunc fn first cap).run Try.prog w = .ok (.func fn first cap) w := fun _ _ _ _ => rfl
  go_enter Try.func27, Try.ntmps27
  go_wp2_with fail
  refine (right_walk s w).mono ?_
  rintro e w1 (⟨rfl, pos, hp, hI⟩ | ⟨pos, hp, rfl, hF⟩)
  · go_wp2
    go_ret
    exact ⟨fret_bool (by rw [← H.out]; exact (bits_all hp hI.1).symm), hI.2⟩
  · have hne : ((pos : Int) == -1) = false := by simp
    go_wp2
    go_ret
    exact ⟨fret_bool (by rw [← H.out]; exact hF.1.symm), hF.2⟩

/-! ### Turn -/
structure OutSt (B b : Nat) (O : List Int) (w0 w : World) : Prop where
  below : Below B w0 w
  bld : Lib.IsBuilderF 42 5 B b (O.map (Value.int .u8)) w
  le : B ≤ w0.heap.size
theorem OutSt.iterAt {B b i p q : Nat} {O : List Int} {w0 w : World} {s : ByteArray} (h : OutSt B b O w0 w) (hi : w.heap[i]? = some (.stringIter s p)) (hB : B ≤ i) : OutSt B b O w0 (w.iterAt i s q) :=
  ⟨Lib.below_iterAt h.below hB s q, h.bld.iterAt hi q, h.le⟩
theorem OutSt.hB {B b : Nat} {O : List Int} {w0 w : World} (h : OutSt B b O w0 w) : B ≤ w.heap.size := Nat.le_trans h.le h.below.size

def tInv (s : ByteArray) (B b : Nat) (w0 : World) (k : Nat) (w1 : World) : Prop := k ≤ s.size ∧ bitsB ((byL s).take k) = true ∧ OutSt B b (((byL s).take k).map oth) w0 w1
def tFin (s : ByteArray) (B : Nat) (w0 : World) (k : Nat) (w1 : World) : Prop := bitsB (byL s) = false ∧ Below B w0 w1
def turnS (L : List Int) : ByteArray := if bitsB L then strOfNums (L.map oth) else ByteArray.mk #[]
theorem bits_map_by {L : List Int} (h : bitsB L = true) : isBy (L.map oth) := isBy_bits (turn_bits h)
/-! ### Stuff -/
theorem Box.alloc {w : World} {k : Nat} {v : Value} {t : TypeId} (h : Box w k v t) (o : Obj) : Box (w.alloc o) k v t := h.below (((Below.refl w.heap.size w)).alloc (Nat.le_refl _) o) h.lt
theorem OutSt.alloc {B b : Nat} {O : List Int} {w0 w : World} (h : OutSt B b O w0 w) (o : Obj) : OutSt B b O w0 (w.alloc o) := ⟨h.below.alloc h.hB _, h.bld.alloc _, h.le⟩
end Go.Proofs.Ytfjebggekghgkaa
