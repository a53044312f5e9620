/- Of no program: a row of bytes that the call gathers by append; a slice of bytes that it reads; '[]byte(s)'. -/
import Derived.Test.YtfjebggekghgkaaByL
import Derived.Test.YtfjebggekghgkaaFrmD
import Derived.Test.YtfjebggekghgkaaGen
import Derived.Test.YtfjebggekghgkaaRows2
import Derived.Lib.ConvBytes
namespace Go.Proofs.Ytfjebggekghgkaa
open Go.RowKit
set_option linter.unusedVariables false

theorem drewN_two (w : World) (a b : Nat) : (w.drewN a).drewN b = w.drewN (a + b) := by
  unfold World.drewN
  simp [Nat.add_assoc]
theorem info_u8 : (Try.prog.info? 5).map (fun i => (i.zero, i.size, i.bytes)) = some (some (.int .u8 0), 1, 1) := by kernel_rfl
theorem news_byte (w : World) (v : Value) (t : TypeId) : ∀ j u, [v][j]? = some u → (w.alloc (.cells #[v] t)).cell? ((⟨w.heap.size, 0, none⟩ : Addr).add j) = some u := by
  intro j u hj
  rcases Nat.lt_or_ge j 1 with h | h
  · obtain rfl : j = 0 := by omega
    simp at hj
    subst hj
    simp [Addr.add, World.cell?_alloc_at _ _ _ _ rfl]
  · rw [List.getElem?_eq_none (by simpa using h)] at hj; cases hj

/-- a slice of bytes that can be read -/
def SlB (w : World) (v : Value) (L : List Int) : Prop :=
  L.length ≤ 140737488355328 ∧ ((L = [] ∧ ∃ A cap, v = .slice A 0 cap) ∨ ∃ g cap, v = .slice (some ⟨g, 0, none⟩) L.length cap ∧ ∀ k, k < L.length → w.cell? ⟨g, k, none⟩ = some (.int .u8 (L.getD k 0)))

def byteRow (L : List Int) : List Value := L.map (Value.int .u8)
theorem byteRow_app (a b : List Int) : byteRow (a ++ b) = byteRow a ++ byteRow b := by simp [byteRow]
/-- what a loop that gathers bytes knows -/
def gathB (B : Nat) (w : World) (v : Value) (L : List Int) (wr : World) : Prop :=
  wr.ownsRow B 5 1 v L.length (byteRow L) ∧ Below B w wr ∧ B ≤ wr.heap.size
theorem gathB.start (w : World) : gathB w.heap.size w (.slice none 0 0) [] w := ⟨World.ownsRow_nil _ _ _ _, Below.refl _ _, Nat.le_refl _⟩
theorem gathB.startB {B : Nat} {w wr : World} (h : Below B w wr) (hB : B ≤ wr.heap.size) : gathB B w (.slice none 0 0) [] wr := ⟨World.ownsRow_nil _ _ _ _, h, hB⟩
theorem gathB.later {B : Nat} {w wr w1 : World} {v : Value} {L : List Int} (h : gathB B w v L wr) (hb : Below wr.heap.size wr w1) : gathB B w v L w1 := by
  obtain ⟨h1, h2, h3⟩ := h
  refine ⟨?_, h2.trans (hb.mono h3), Nat.le_trans h3 hb.size⟩
  refine ⟨h1.1, ?_⟩
  rcases h1.2 with hn | ⟨g, cap, cur, rfl, hbg, hg, rest⟩
  · exact .inl hn
  · exact .inr ⟨g, cap, cur, rfl, hbg, (hb.block g (Array.getElem?_eq_some_iff.1 hg).1).trans hg, rest⟩
theorem gathB.drewN {B : Nat} {w wr : World} {v : Value} {L : List Int} (h : gathB B w v L wr) (n : Nat) : gathB B w v L (wr.drewN n) :=
  h.later ⟨rfl, rfl, rfl, Nat.le_refl _, fun _ _ => rfl⟩
theorem gathB.step {B : Nat} {w wr w1 : World} {v v' : Value} {L : List Int} {b : Int} {T : TypeId} (h : gathB B w v L wr)
    (hown : w1.ownsRow B 5 1 v' (L.length + 1) (byteRow L ++ [.int .u8 b])) (hgr : (wr.alloc (.cells #[.int .u8 b] T)).grownBy w1 v.ownBlock) : gathB B w v' (L ++ [b]) w1 := by
  obtain ⟨h1, h2, h3⟩ := h
  refine ⟨by rw [List.length_append, byteRow_app]; exact hown, (h2.alloc h3 _).grown hgr (by simp; omega) ?_, ?_⟩
  · intro k hk
    rcases h1.2 with ⟨rfl, _⟩ | ⟨g, cap, cur, rfl, hg, _⟩
    · cases hk
    · cases hk; exact hg
  · have := hgr.size; simp at this; omega
theorem gathB.slice {B : Nat} {w wr : World} {v : Value} {L : List Int} (h : gathB B w v L wr) (hm : L.length ≤ 140737488355328) : SlB wr v L := by
  obtain ⟨h1, _, _⟩ := h
  refine ⟨hm, ?_⟩
  rcases h1.2 with ⟨rfl, hn⟩ | ⟨g, cap, cur, rfl, hbg, hg, rest⟩
  · have : L = [] := by
      cases L with
      | nil => rfl
      | cons a L => simp at hn
    subst this
    exact .inl ⟨rfl, none, 0, rfl⟩
  · refine .inr ⟨g, cap, rfl, fun k hk => ?_⟩
    rw [h1.cellAt k (by simpa [byteRow] using hk)]
    unfold byteRow
    rw [List.getElem?_map, List.getElem?_eq_getElem hk]
    simp [List.getD, List.getElem?_eq_getElem hk]
/-- '[]byte(s)': the bytes of s in a block of their own -/
theorem bytesWorld_below (w : World) (e : TypeId) (s : ByteArray) : Below w.heap.size w (Lib.bytesWorld w e s) := by
  refine ⟨rfl, rfl, rfl, by rw [Lib.bytesWorld_size]; omega, fun k hk => Lib.bytesWorld_at_old w e s k hk⟩
theorem bytesWorld_slice (w : World) (e : TypeId) (s : ByteArray) (cap : Nat) (hs : s.size ≤ 140737488355328) : SlB (Lib.bytesWorld w e s) (.slice (some ⟨w.heap.size, 0, none⟩) s.size cap) (byL s) := by
  refine ⟨by rw [byL_len]; exact hs, .inr ⟨w.heap.size, cap, by rw [byL_len], fun k hk => ?_⟩⟩
  rw [byL_len] at hk
  rw [Lib.bytesWorld_cell w e s k hk, byL_getD]
  unfold bt
  simp [List.getD_eq_getElem?_getD]
theorem conv_bytes (s : ByteArray) (w : World) : (convert 9 39 (.string s)).run Try.prog w = .ok (.slice (some ⟨w.heap.size, 0, none⟩) s.size (grownCap w s.size 0 5)) (Lib.bytesWorld w 5 s) :=
  Lib.run_convert_string_bytes w _ _ _ s Try.underlying9 Try.underlying39 Try.underlying5
/-- a cut ahead -/
theorem cut_ahead {s : ByteArray} {k : Nat} (h : k ≤ s.size) (w : World) : (Instr.sliceAt 9 (.string s) none (some (.int .i64 (k : Int))) none).run Try.prog w = .ok (.string (s.extract 0 k)) w := by
  have e2 : (k : Int) ≤ (s.size : Int) := by omega
  have e3 : ¬ ((s.size : Int) < (k : Int)) := by omega
  simp [go_sem, e2, e3, h]

end Go.Proofs.Ytfjebggekghgkaa
