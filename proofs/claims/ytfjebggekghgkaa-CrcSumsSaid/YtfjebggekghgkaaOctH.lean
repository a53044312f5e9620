/- Octet: contracts of the document's Sign, Hex, Unhex; the walks of OctetHex, OctetBack. -/
import Derived.Test.YtfjebggekghgkaaOctF
import Derived.Deep.RegionWith
namespace Go.Proofs.Ytfjebggekghgkaa
open Go.RowKit
set_option linter.unusedVariables false

theorem conv1 (w : World) (a : Int) :
    (convert 39 9 (.slice (some ⟨w.heap.size, 0, none⟩) 1 1)).run Try.prog (w.alloc (.cells #[.int .u8 a] 5)) = .ok (.string (strOfNums [a])) (w.alloc (.cells #[.int .u8 a] 5)) := by
  refine run_convert_bytes_arg _ 39 5 Try.underlying39 Try.underlying5 _ 0 1 1 [a] rfl (fun i hi => ?_) 9 Try.underlying9
  rw [Nat.zero_add, World.cell?_alloc_at _ _ _ _ rfl]
  obtain rfl : i = 0 := by omega
  rfl

theorem add_nums (A B : List Int) (h : A.length + B.length ≤ 1000000000) (w : World) :
    (Op.stringOp .add (strOfNums A) (strOfNums B)).run Try.prog w = .ok (.string (strOfNums (A ++ B))) w := by
  rw [run_string_add_sum w _ _ (by rw [strOfNums_size, strOfNums_size]; omega)]
  have e : strOfNums A ++ strOfNums B = strOfNums (A ++ B) := by
    apply ByteArray.ext
    simp [strOfNums, ByteArray.data_append]
  rw [e]

theorem below3 {w wr wa wb : World} (h : Below w.heap.size w wr) (h1 : Below wr.heap.size wr.drew wa) (h2 : Below wa.heap.size wa wb) : Below w.heap.size w wb :=
  have h3 : Below w.heap.size w wr.drew := h.drew
  (h3.trans (h1.mono h3.size)).trans (h2.mono (Nat.le_trans h3.size h1.size))

def runRel (B : Nat) (s : ByteArray) (w : World) (v i : Value) (wr : World) : Prop :=
  ∃ k : Nat, 2 * k ≤ s.size ∧ i = .int .i64 (2 * k) ∧ isdig s (2 * k) ∧ Below B w wr ∧ B ≤ wr.heap.size ∧ wr.ownsRow B 5 1 v k ((unl s k).map (Value.int .u8))

theorem run_step {B : Nat} {s : ByteArray} {w wr w1 : World} {k : Nat} {v v' : Value} {o : Obj} {n : Nat} (hk : 2 * k + 1 < s.size) (hd : isdig s (2 * k)) (h1 : dg s (2 * k) < 16) (h2 : dg s (2 * k + 1) < 16)
    (hB : Below B w wr) (hsz : B ≤ wr.heap.size) (hown : wr.ownsRow B 5 1 v k ((unl s k).map (Value.int .u8)))
    (hown1 : w1.ownsRow B 5 1 v' (k + 1) ((unl s k).map (Value.int .u8) ++ [.int .u8 (16 * dg s (2 * k) + dg s (2 * k + 1))]))
    (hgrow : ((wr.drewN n).alloc o).grownBy w1 v.ownBlock) : runRel B s w v' (.int .i64 (2 * (k : Int) + 2)) w1 := by
  have hgrow' : (wr.alloc o).grownBy w1 v.ownBlock := ⟨hgrow.os, hgrow.tape, hgrow.output, hgrow.size, hgrow.block⟩
  have hsz1 : wr.heap.size + 1 ≤ w1.heap.size := by have := hgrow'.size; simpa using this
  refine ⟨k + 1, by omega, by congr 1, fun i hi => ?_, (hB.alloc hsz o).grown hgrow' (by simp; omega) (fun j hj => (hown.lt j hj).1), by omega, ?_⟩
  · rcases Nat.lt_or_ge i (2 * k) with h | h
    · exact hd i h
    · rcases (show i = 2 * k ∨ i = 2 * k + 1 by omega) with rfl | rfl
      · exact h1
      · exact h2
  · rw [unl_succ, List.map_append]
    exact hown1

/-- the two ways of Unhex, in one word each -/
def YesPost (s : ByteArray) (w : World) (e : Ending) (w' : World) : Prop := e = .returned (.tuple #[.string (strOfNums (unl s (s.size / 2))), .bool true]) ∧ Below w.heap.size w w'
def NoPost (w : World) (e : Ending) (w' : World) : Prop := e = .returned (.tuple #[.string ⟨#[]⟩, .bool false]) ∧ Below w.heap.size w w'
theorem post_yes {s : ByteArray} {w : World} (h : unOk s) {e : Ending} {w' : World} (hp : UnPost s w e w') : YesPost s w e w' :=
  ⟨hp.1.elim (fun x => x.2) (fun x => absurd h x.1), hp.2⟩
theorem post_no {s : ByteArray} {w : World} (h : ¬ unOk s) {e : Ending} {w' : World} (hp : UnPost s w e w') : NoPost w e w' :=
  ⟨hp.1.elim (fun x => absurd x.1 h) (fun x => x.2), hp.2⟩
theorem below_t {w w1 w2 : World} (h : Below w.heap.size w w1) (h' : Below w1.heap.size w1 w2) : Below w.heap.size w w2 := h.trans (h'.mono h.size)

/-! ### OctetBack: digits back to bytes -/

theorem hx_bd {d : Int} (h0 : 0 ≤ d) (h1 : d < 16) : 0 ≤ hx d ∧ hx d < 256 := by unfold hx; split <;> omega
theorem dig_hx {d : Int} (h0 : 0 ≤ d) (h1 : d < 16) : dig (hx d) = d := by
  unfold hx
  split
  · rw [dig_0 (by omega)]; omega
  · rw [dig_A (by omega)]; omega
theorem hexl_bd (s : ByteArray) (n : Nat) : ∀ x ∈ hexl s n, 0 ≤ x ∧ x < 256 := by
  intro x hm
  unfold hexl at hm
  rw [List.mem_flatMap] at hm
  obtain ⟨i, _, hi⟩ := hm
  have hb := bt_lt s i
  simp only [List.mem_cons, List.not_mem_nil, or_false] at hi
  rcases hi with rfl | rfl
  · exact hx_bd (by omega) (by omega)
  · exact hx_bd (by omega) (by omega)
theorem hexl_get (s : ByteArray) : ∀ (n i : Nat), i < n → (hexl s n).getD (2 * i) 0 = hx (bt s i / 16) ∧ (hexl s n).getD (2 * i + 1) 0 = hx (bt s i % 16)
  | 0, i, h => by omega
  | n + 1, i, h => by
    have hl := hexl_len s n
    rw [hexl_succ]
    by_cases hi : i < n
    · have ih := hexl_get s n i hi
      simp only [List.getD_eq_getElem?_getD] at ih ⊢
      rw [List.getElem?_append_left (by omega), List.getElem?_append_left (by omega)]
      exact ih
    · obtain rfl : i = n := by omega
      simp only [List.getD_eq_getElem?_getD]
      rw [List.getElem?_append_right (by omega), List.getElem?_append_right (by omega), hl, Nat.sub_self, Nat.add_sub_cancel_left]
      exact ⟨rfl, rfl⟩
theorem hex_size (s : ByteArray) : (strOfNums (hexl s s.size)).size = 2 * s.size := by rw [strOfNums_size, hexl_len]
theorem dg_hex (s : ByteArray) (i : Nat) (h : i < s.size) : dg (strOfNums (hexl s s.size)) (2 * i) = bt s i / 16 ∧ dg (strOfNums (hexl s s.size)) (2 * i + 1) = bt s i % 16 := by
  have hl := hexl_len s s.size
  have hg := hexl_get s s.size i h
  have hb := bt_lt s i
  unfold dg
  rw [bt_ofNums _ _ (hexl_bd s _) (by omega), bt_ofNums _ _ (hexl_bd s _) (by omega), hg.1, hg.2]
  exact ⟨dig_hx (by omega) (by omega), dig_hx (by omega) (by omega)⟩
theorem hex_ok (s : ByteArray) : unOk (strOfNums (hexl s s.size)) := by
  have hs := hex_size s
  refine ⟨fun i hi => ?_, by omega⟩
  have hb := bt_lt s (i / 2)
  have hd := dg_hex s (i / 2) (by omega)
  rcases (show i = 2 * (i / 2) ∨ i = 2 * (i / 2) + 1 by omega) with e | e
  · rw [e, hd.1]; omega
  · rw [e, hd.2]; omega
theorem bytes_all (s : ByteArray) : strOfNums ((List.range s.size).map (bt s)) = s := by
  apply ByteArray.ext
  apply Array.toList_inj.1
  rw [strOfNums_data]
  apply List.ext_getElem?
  intro j
  rw [List.getElem?_map, List.getElem?_map]
  by_cases hj : j < s.size
  · rw [List.getElem?_range hj]
    have hj' : j < s.data.toList.length := by simpa using hj
    simp only [Option.map_some, bt]
    rw [List.getElem?_eq_getElem hj']
    simp
  · rw [List.getElem?_eq_none (by simpa using hj), List.getElem?_eq_none (by simpa using hj)]
    rfl
theorem unl_hex (s : ByteArray) : strOfNums (unl (strOfNums (hexl s s.size)) ((strOfNums (hexl s s.size)).size / 2)) = s := by
  rw [hex_size, Nat.mul_div_cancel_left _ (by decide)]
  have e : unl (strOfNums (hexl s s.size)) s.size = (List.range s.size).map (bt s) := by
    unfold unl
    apply List.map_congr_left
    intro i hi
    have hd := dg_hex s i (by simpa using hi)
    unfold unb
    rw [hd.1, hd.2]
    omega
  rw [e, bytes_all]

end Go.Proofs.Ytfjebggekghgkaa
