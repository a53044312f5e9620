/- Stuff: slices of bytes; contracts of the document's Right, other, tail. -/
import Derived.Test.YtpapdonodgedoaaStfM
import Derived.Test.YtpapdonodgedoaaGthB
namespace Go.Proofs.Ytpapdonodgedoaa
open Go.RowKit
set_option linter.unusedVariables false

/-! ### the run at the end, counted from behind -/
theorem tl_rep : ∀ (j : Nat) (p : Int × Nat) (c : Int), p.1 = c → (List.replicate j c).foldl nxt p = (c, p.2 + j)
  | 0, p, c, h => by rw [← h]; rfl
  | j + 1, p, c, h => by
    rw [List.replicate_succ, List.foldl_cons]
    have e : nxt p c = (c, p.2 + 1) := by unfold nxt; rw [if_pos h.symm]
    rw [e, tl_rep j _ c rfl]
    simp; omega
theorem tl_last {A : List Int} {x : Int} : (tl (A ++ [x])).1 = x := by rw [tl_snoc]; rfl
/-- so many at the end are the same, and the one ahead of them is another one, or there is none -/
theorem tl_count {L : List Int} {m j : Nat} {c : Int} (hl : L.length = m + j) (hj : 1 ≤ j) (hs : ∀ x, m ≤ x → x < m + j → L.getD x 0 = c) (hm : m = 0 ∨ L.getD (m - 1) 0 ≠ c) : (tl L).2 = j := by
  have hL : L = L.take m ++ List.replicate j c := by
    apply List.ext_getElem?
    intro x
    by_cases hx : x < m
    · rw [List.getElem?_append_left (by rw [List.length_take]; omega), List.getElem?_take_of_lt hx]
    · rw [List.getElem?_append_right (by rw [List.length_take]; omega), List.length_take, Nat.min_eq_left (by omega)]
      by_cases hx2 : x < m + j
      · have := hs x (by omega) hx2
        rw [List.getD_eq_getElem?_getD, List.getElem?_eq_getElem (by omega)] at this
        rw [List.getElem?_eq_getElem (by omega), List.getElem?_replicate, if_pos (by omega), ← this]; rfl
      · rw [List.getElem?_eq_none (by omega), List.getElem?_eq_none (by simp; omega)]
  obtain ⟨j', rfl⟩ : ∃ j', j = j' + 1 := ⟨j - 1, by omega⟩
  have h1 : (nxt (tl (L.take m)) c) = (c, 1) := by
    rcases hm with h0 | hne
    · subst h0
      simp only [List.take_zero]
      show nxt (0, 0) c = _
      unfold nxt
      dsimp only
      split <;> rfl
    · by_cases h0 : m = 0
      · subst h0
        simp only [List.take_zero]
        show nxt (0, 0) c = _
        unfold nxt
        dsimp only
        split <;> rfl
      · obtain ⟨m', rfl⟩ : ∃ m', m = m' + 1 := ⟨m - 1, by omega⟩
        have hlt : m' < L.length := by omega
        rw [List.take_succ_eq_append_getElem hlt]
        have hx : L[m'] ≠ c := by
          rw [List.getD_eq_getElem?_getD, Nat.add_sub_cancel, List.getElem?_eq_getElem hlt] at hne
          exact hne
        unfold nxt
        rw [tl_last, if_neg (fun e => hx e.symm)]
  rw [hL, List.replicate_succ]
  show ((L.take m ++ c :: List.replicate j' c).foldl nxt (0, 0)).2 = j' + 1
  rw [List.foldl_append, List.foldl_cons]
  have e : nxt ((L.take m).foldl nxt (0, 0)) c = (c, 1) := h1
  rw [e, tl_rep j' _ c rfl]
  simp; omega

set_option maxHeartbeats 1000000 in
theorem sright_v {s : ByteArray} {q : Bool} (h : bitsB (byL s) = q) (hs : s.size ≤ maxLen) (w : World) :
    Calls Try.prog 10 #[.string s] w fun e w' => e = .returned (.bool q) ∧ w = w' := by
  have H := Lib.hid h
  unfold maxLen at hs
  clear h
  go_enter Try.func10, Try.ntmps10
  go_wp2
  go_loop [3] (fun i => ∃ k : Nat, k ≤ s.size ∧ i = .int .i64 k ∧ Hid (bitsB ((byL s).take k) = true)) (fun i => s.size - (intOf i).toNat)
  case atStart => exact ⟨0, Nat.zero_le _, rfl, Lib.hid rfl⟩
  case round =>
    obtain ⟨k, hk, rfl, HK⟩ := hrel
    by_cases hlt : k < s.size
    · have hix : ∀ w, (Instr.index 9 (.string s) (.int .i64 k)).run Try.prog w = .ok (.int .u8 (bt s k)) w := fun w => index_bt Try.underlying9 hlt w
      have HN : Hid (bitsB ((byL s).take (k + 1)) = isBit (bt s k)) := Lib.hid (by rw [byL_take hlt, bitsB_app, HK.out]; simp [bitsB])
      have HF : Hid (isBit (bt s k) = false → false = q) := Lib.hid (fun hf => by
        rw [← H.out, ← List.take_append_drop (k + 1) (byL s), bitsB_app, HN.out, hf]; rfl)
      generalize bt s k = x at hix HN HF
      by_cases h0 : x = 48
      · subst h0
        go_wp2
        go_round
        case rel => exact ⟨k + 1, by omega, by go_num, Lib.hid (by rw [HN.out]; rfl)⟩
        case measure => simp [intOf]; omega
      · by_cases h1 : x = 49
        · subst h1
          go_wp2
          go_round
          case rel => exact ⟨k + 1, by omega, by go_num, Lib.hid (by rw [HN.out]; rfl)⟩
          case measure => simp [intOf]; omega
        · have e0 : (x != 48) = true := by simp [h0]
          have e1 : (x != 49) = true := by simp [h1]
          have HQ : Hid (false = q) := Lib.hid (HF.out (by unfold isBit; simp [h0, h1]))
          go_wp2
          go_ret
          exact ⟨fret_bool HQ.out, rfl⟩
    · obtain rfl : k = s.size := by omega
      have HQ : Hid (true = q) := Lib.hid (by rw [← H.out, ← HK.out, ← byL_len, List.take_length])
      go_wp2
      go_ret
      exact ⟨fret_bool HQ.out, rfl⟩

theorem sother_v {x : Int} (hx : isBit x = true) (w : World) :
    Calls Try.prog 27 #[.int .u8 x] w fun e w' => e = .returned (.int .u8 (oth x)) ∧ w = w' := by
  rw [isBit_iff] at hx
  rcases hx with rfl | rfl
  · go_enter Try.func27, Try.ntmps27
    go_wp2
    go_ret
    exact ⟨rfl, rfl⟩
  · go_enter Try.func27, Try.ntmps27
    go_wp2
    go_ret
    exact ⟨rfl, rfl⟩

set_option maxHeartbeats 1000000 in
theorem stail_v {v : Value} {L : List Int} {n : Nat} (h : (tl L).2 = n) (w : World) (hv : SlB w v L) :
    Calls Try.prog 26 #[v] w fun e w' => e = .returned (.int .i64 n) ∧ ∃ m, w' = w.drewN m := by
  obtain ⟨hm, ⟨rfl, A, cap, rfl⟩ | ⟨g, cap, rfl, hc⟩⟩ := hv
  · subst h
    go_enter Try.func26, Try.ntmps26
    go_wp2_with fail
    go_loopw [3, 4] (fun n i wr => n = .int .i64 0 ∧ i = .int .i64 (-1) ∧ wr = w) (fun _ _ _ => 0)
    case atStart => exact ⟨rfl, rfl, rfl⟩
    case round =>
      obtain ⟨rfl, rfl, rfl⟩ := hrel
      go_wp2_with fail
      go_quiet (fail)
      go_wp2
      go_ret
      exact ⟨rfl, _, rfl⟩
  · by_cases hL : L = []
    · subst hL
      subst h
      simp only [List.length_nil] at hc ⊢
      go_enter Try.func26, Try.ntmps26
      go_wp2_with fail
      go_loopw [3, 4] (fun n i wr => n = .int .i64 0 ∧ i = .int .i64 (-1) ∧ wr = w) (fun _ _ _ => 0)
      case atStart => exact ⟨rfl, rfl, rfl⟩
      case round =>
        obtain ⟨rfl, rfl, rfl⟩ := hrel
        go_wp2_with fail
        go_quiet (fail)
        go_wp2
        go_ret
        exact ⟨rfl, _, rfl⟩
    · obtain ⟨p, hp⟩ : ∃ p, L.length = p + 1 := ⟨L.length - 1, by cases L with | nil => exact absurd rfl hL | cons _ _ => simp⟩
      have HL := Lib.hid hp
      have HC := Lib.hid hc
      have H := Lib.hid h
      rw [hp] at hm ⊢
      clear hc h hL hp
      go_enter Try.func26, Try.ntmps26
      go_wp2_with fail
      go_loopw [3, 4] (fun n i wr => ∃ j m : Nat, m + j = p + 1 ∧ i = .int .i64 ((m : Int) - 1) ∧ n = .int .i64 j ∧ Hid (∀ x, m ≤ x → x < m + j → L.getD x 0 = L.getD p 0) ∧ ∃ d, wr = w.drewN d) (fun _ i _ => (intOf i + 1).toNat)
      case atStart => exact ⟨0, p + 1, rfl, by go_num, rfl, Lib.hid (fun x h1 h2 => by omega), 0, rfl⟩
      case round =>
        obtain ⟨j, m, hmj, rfl, rfl, HJ, d, rfl⟩ := hrel
        cases m with
        | zero =>
          obtain rfl : j = p + 1 := by omega
          have HQ : Hid (p + 1 = n) := Lib.hid (by rw [← H.out]; exact (tl_count (m := 0) (by rw [HL.out]; omega) (by omega) HJ.out (.inl rfl)).symm)
          go_wp2_with fail
          go_quiet (fail)
          go_wp2
          go_ret
          exact ⟨fret_int (by rw [← HQ.out]), _, drewN_two _ _ _⟩
        | succ k =>
          rw [show (((k + 1 : Nat) : Int) - 1) = (k : Int) by omega]
          have a0 : ∀ d : Nat, (w.drewN d).cell? ⟨g, k, none⟩ = some (.int .u8 (L.getD k 0)) := fun d => HC.out k (by rw [HL.out]; omega)
          have a1 : ∀ d : Nat, (w.drewN d).cell? ⟨g, p, none⟩ = some (.int .u8 (L.getD p 0)) := fun d => HC.out p (by rw [HL.out]; omega)
          have hk : k ≤ p := by omega
          have HJ1 : Hid (L.getD k 0 = L.getD p 0 → ∀ x, k ≤ x → x < k + (j + 1) → L.getD x 0 = L.getD p 0) := Lib.hid (fun e x h1 h2 => by
            by_cases hx : x = k
            · rw [hx]; exact e
            · exact HJ.out x (by omega) (by omega))
          have HQ : Hid (L.getD k 0 ≠ L.getD p 0 → j = n) := Lib.hid (fun e => by
            rw [← H.out]
            by_cases hj : j = 0
            · exfalso; exact e (by rw [show k = p by omega])
            · exact (tl_count (m := k + 1) (by rw [HL.out]; omega) (by omega) HJ.out (.inr e)).symm)
          have hkp : k = p ∨ k < p := by omega
          generalize L.getD k 0 = x at a0 HJ1 HQ
          generalize L.getD p 0 = y at a0 a1 HJ1 HQ HJ
          by_cases hxy : x = y
          · have HJ2 := Lib.hid (HJ1.out hxy)
            subst hxy
            go_wp2_with fail
            go_quiet (fail)
            go_wp2
            go_roundw
            case rel => exact ⟨j + 1, k, by omega, rfl, by go_num, HJ2, _, rfl⟩
            case measure => simp [intOf]
          · have HQ2 := Lib.hid (HQ.out hxy)
            have hne : (x == y) = false := by simp [hxy]
            go_wp2_with fail
            go_quiet (fail)
            go_wp2
            go_ret
            exact ⟨fret_int (by rw [HQ2.out]), _, drewN_two _ _ _⟩

end Go.Proofs.Ytpapdonodgedoaa
