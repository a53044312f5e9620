/- Stuff: slices of bytes; contracts of the document's Right, other, tail. -/
import Derived.Test.YtfjebggekghgkaaStfM
import Derived.Test.YtfjebggekghgkaaGthB
namespace Go.Proofs.Ytfjebggekghgkaa
open Go.RowKit
set_option linter.unusedVariables false

/-! ### the run at the end, counted from behind -/
theorem tl_rep : ∀ (j : Nat) (p : Int × Nat) (c : Int), p.1 = c → (List.replicate j c).foldl nxt p = (c, p.2 + j)
  | 0, p, c, h => by rw [← h]; rfl
  | j + 1, p, c, h => by
    rw [List.replicate_succ, List.foldl_cons]
    have e : nxt p c = (c, p.2 + 1) := by unfold nxt; rw [if_pos h.symm]
    rw [e, tl_rep j _ c rfl]
    simp; omega
theorem tl_last {A : List Int} {x : Int} : (tl (A ++ [x])).1 = x := by rw [tl_snoc]; rfl
/-- so many at the end are the same, and the one ahead of them is another one, or there is none -/
theorem tl_count {L : List Int} {m j : Nat} {c : Int} (hl : L.length = m + j) (hj : 1 ≤ j) (hs : ∀ x, m ≤ x → x < m + j → L.getD x 0 = c) (hm : m = 0 ∨ L.getD (m - 1) 0 ≠ c) : (tl L).2 = j := by
  have hL : L = L.take m ++ List.replicate j c := by
    apply List.ext_getElem?
    intro x
    by_cases hx : x < m
    · rw [List.getElem?_append_left (by rw [List.length_take]; omega), List.getElem?_take_of_lt hx]
    · rw [List.getElem?_append_right (by rw [List.length_take]; omega), List.length_take, Nat.min_eq_left (by omega)]
      by_cases hx2 : x < m + j
      · have := hs x (by omega) hx2
        rw [List.getD_eq_getElem?_getD, List.getElem?_eq_getElem (by omega)] at this
        rw [List.getElem?_eq_getElem (by omega), List.getElem?_replicate, if_pos (by omega), ← this]; rfl
      · rw [List.getElem?_eq_none (by omega), List.getElem?_eq_none (by simp; omega)]
  obtain ⟨j', rfl⟩ : ∃ j', j = j' + 1 := ⟨j - 1, by omega⟩
  have h1 : (nxt (tl (L.take m)) c) = (c, 1) := by
    rcases hm with h0 | hne
    · subst h0
      simp only [List.take_zero]
      show nxt (0, 0) c = _
      unfold nxt
      dsimp only
      split <;> rfl
    · by_cases h0 : m = 0
      · subst h0
        simp only [List.take_zero]
        show nxt (0, 0) c = _
        unfold nxt
        dsimp only
        split <;> rfl
      · obtain ⟨m', rfl⟩ : ∃ m', m = m' + 1 := ⟨m - 1, by omega⟩
        have hlt : m' < L.length := by omega
        rw [List.take_succ_eq_append_getElem hlt]
        have hx : L[m'] ≠ c := by
          rw [List.getD_eq_getElem?_getD, Nat.add_sub_cancel, List.getElem?_eq_getElem hlt] at hne
          exact hne
        unfold nxt
        rw [tl_last, if_neg (fun e => hx e.symm)]
  rw [hL, List.replicate_succ]
  show ((L.take m ++ c :: List.replicate j' c).foldl nxt (0, 0)).2 = j' + 1
  rw [List.foldl_append, List.foldl_cons]
  have e : nxt ((L.take m).foldl nxt (0, 0)) c = (c, 1) := h1
  rw [e, tl_rep j' _ c rfl]
  simp; omega

set_option maxHeartbeats 1000000 in
theorem sright_v {s : ByteArray} {q : Bool} (h : bitsB (byL s) = q) (hs : s.size ≤ maxLen) (w : World) :
    Calls Try.prog 18 #[.string s] w fun e w' => e = .returned (.bool q) ∧ w = w' := by
  have H := Lib.hid h
  unfold maxLen at hs
  clear h
  go_enter Try.func18, Try.ntmps18
  go_wp2
  go_loop [3] (fun i => ∃ k : Nat, k ≤ s.size ∧ i = .int .i64 k ∧ Hid (bitsB ((byL s).take k) = true)) (fun i => s.size - (intOf i).toNat)
  case atStart => exact ⟨0, Nat.zero_le _, rfl, Lib.hid rfl⟩
  case round =>
    obtain ⟨k, hk, rfl, HK⟩ := hrel
    by_cases hlt : k < s.size
    · have hix : ∀ w, (Instr.index 9 (.string s) (.int .i64 k)).run Try.prog w = .ok (.int .u8 (bt s k)) w := fun w => index_bt Try.underlying9 hlt w
      have HN : Hid (bitsB ((byL s).take (k + 1)) = isBit (bt s k)) := Lib.hid (by rw [byL_take hlt, bitsB_app, HK.out]; simp [bitsB])
      have HF : Hid (isBit (bt s k) = false → false = q) := Lib.hid (fun hf => by
        rw [← H.out, ← List.take_append_drop (k + 1) (byL s), bitsB_app, HN.out, hf]; rfl)
      generalize bt s k = x at hix HN HF
      by_cases h0 : x = 48
      · subst h0
        go_wp2
        go_round
        case rel => exact ⟨k + 1, by omega, by go_num, Lib.hid (by rw [HN.out]; rfl)⟩
        case measure => simp [intOf]; omega
      · by_cases h1 : x = 49
        · subst h1
          go_wp2
          go_round
          case rel => exact ⟨k + 1, by omega, by go_num, Lib.hid (by rw [HN.out]; rfl)⟩
          case measure => simp [intOf]; omega
        · have e0 : (x != 48) = true := by simp [h0]
          have e1 : (x != 49) = true := by simp [h1]
          have HQ : Hid (false = q) := Lib.hid (HF.out (by unfold isBit; simp [h0, h1]))
          go_wp2
          go_ret
          exact ⟨fret_bool HQ.out, rfl⟩
    · obtain rfl : k = s.size := by omega
      have HQ : Hid (true = q) := Lib.hid (by rw [← H.out, ← HK.out, ← byL_len, List.take_length])
      go_wp2
      go_ret
      exact ⟨fret_bool HQ.out, rfl⟩

end Go.Proofs.Ytfjebggekghgkaa
