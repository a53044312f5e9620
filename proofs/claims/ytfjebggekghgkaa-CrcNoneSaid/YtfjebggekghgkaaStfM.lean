/- Stuff: the plain lists of bits: what is put in, taken out, the longest run, turned bits. No program is meant here. -/
import Derived.Test.YtfjebggekghgkaaRows
import Derived.WalkKit
namespace Go.Proofs.Ytfjebggekghgkaa
open Go.RowKit
set_option linter.unusedVariables false

def isBit (c : Int) : Bool := c == 48 || c == 49
def oth (c : Int) : Int := 97 - c
theorem isBit_iff (c : Int) : isBit c = true ↔ c = 48 ∨ c = 49 := by unfold isBit; simp
theorem oth_bit {c : Int} (h : isBit c = true) : isBit (oth c) = true := by
  rw [isBit_iff] at h ⊢; unfold oth; omega
theorem oth_ne {c : Int} (h : isBit c = true) : oth c ≠ c := by
  rw [isBit_iff] at h; unfold oth; omega
theorem oth_oth (c : Int) : oth (oth c) = c := by unfold oth; omega
theorem oth_inj {a b : Int} : oth a = oth b ↔ a = b := by unfold oth; omega
def bitsB (L : List Int) : Bool := L.all isBit
theorem bitsB_cons (x : Int) (L : List Int) : bitsB (x :: L) = (isBit x && bitsB L) := rfl
theorem bitsB_app (a b : List Int) : bitsB (a ++ b) = (bitsB a && bitsB b) := by unfold bitsB; rw [List.all_append]

/-- the run at the end: the last one, and how many of it; one more is told -/
def nxt (p : Int × Nat) (x : Int) : Int × Nat := (x, if x = p.1 then p.2 + 1 else 1)
theorem nxt_1 (p : Int × Nat) (x : Int) : (nxt p x).1 = x := rfl
theorem nxt_le (p : Int × Nat) (x : Int) : (nxt p x).2 ≤ p.2 + 1 := by unfold nxt; dsimp only; split <;> omega
theorem nxt_pos (p : Int × Nat) (x : Int) : 1 ≤ (nxt p x).2 := by unfold nxt; dsimp only; split <;> omega
theorem nxt_oth {x : Int} (n : Nat) (h : isBit x = true) : nxt (x, n) (oth x) = (oth x, 1) := by
  unfold nxt; rw [if_neg (oth_ne h)]
/-- the run at the end of a text -/
def tl (L : List Int) : Int × Nat := L.foldl nxt (0, 0)
theorem tl_snoc (L : List Int) (x : Int) : tl (L ++ [x]) = nxt (tl L) x := by unfold tl; rw [List.foldl_append]; rfl

/-- what is stuffed behind a run -/
def stG : Int × Nat → List Int → List Int
  | _, [] => []
  | p, x :: L => if (nxt p x).2 = 5 then x :: oth x :: stG (oth x, 1) L else x :: stG (nxt p x) L
/-- the run behind it -/
def stS : Int × Nat → List Int → Int × Nat
  | p, [] => p
  | p, x :: L => if (nxt p x).2 = 5 then stS (oth x, 1) L else stS (nxt p x) L
theorem stG_app : ∀ (L M : List Int) (p : Int × Nat), stG p (L ++ M) = stG p L ++ stG (stS p L) M
  | [], M, p => rfl
  | x :: L, M, p => by
    simp only [List.cons_append, stG, stS]
    split
    · rw [stG_app L M]; rfl
    · rw [stG_app L M]; rfl
theorem stS_app : ∀ (L M : List Int) (p : Int × Nat), stS p (L ++ M) = stS (stS p L) M
  | [], M, p => rfl
  | x :: L, M, p => by
    simp only [List.cons_append, stS]
    split
    · rw [stS_app L M]
    · rw [stS_app L M]
def stuffL (L : List Int) : List Int := stG (0, 0) L
theorem stuffL_snoc (L : List Int) (x : Int) : stuffL (L ++ [x]) = stuffL L ++ (if (nxt (stS (0, 0) L) x).2 = 5 then [x, oth x] else [x]) := by
  unfold stuffL
  rw [stG_app]
  rfl
theorem stS_tl : ∀ (L : List Int) (p : Int × Nat) (A : List Int), bitsB L = true → tl A = p → tl (A ++ stG p L) = stS p L
  | [], p, A, _, h => by simpa [stG, stS] using h
  | x :: L, p, A, hb, h => by
    rw [bitsB_cons, Bool.and_eq_true] at hb
    simp only [stG, stS]
    split
    · rw [show A ++ x :: oth x :: stG (oth x, 1) L = ((A ++ [x]) ++ [oth x]) ++ stG (oth x, 1) L by simp]
      refine stS_tl L _ _ hb.2 ?_
      rw [tl_snoc, tl_snoc, h]
      exact nxt_oth _ hb.1
    · rw [show A ++ x :: stG (nxt p x) L = (A ++ [x]) ++ stG (nxt p x) L by simp]
      exact stS_tl L _ _ hb.2 (by rw [tl_snoc, h])
theorem tl_stuff {L : List Int} (h : bitsB L = true) : tl (stuffL L) = stS (0, 0) L := by
  have := stS_tl L (0, 0) [] h rfl
  unfold stuffL
  simpa using this
theorem stS_le : ∀ (L : List Int) (p : Int × Nat), p.2 ≤ 4 → (stS p L).2 ≤ 4
  | [], p, h => h
  | x :: L, p, h => by
    simp only [stS]
    split
    · exact stS_le L _ (by show 1 ≤ 4; omega)
    · exact stS_le L _ (by have := nxt_le p x; omega)
theorem stG_bits : ∀ (L : List Int) (p : Int × Nat), bitsB L = true → bitsB (stG p L) = true
  | [], _, _ => rfl
  | x :: L, p, h => by
    rw [bitsB_cons, Bool.and_eq_true] at h
    simp only [stG]
    split
    · rw [bitsB_cons, bitsB_cons, h.1, oth_bit h.1, stG_bits L _ h.2]; rfl
    · rw [bitsB_cons, h.1, stG_bits L _ h.2]; rfl
theorem stuffL_bits {L : List Int} (h : bitsB L = true) : bitsB (stuffL L) = true := stG_bits L _ h

/-- what is taken out, behind what was taken out so far: the bits and -1, or none and the place -/
def unA : List Int → Int × Nat → Nat → List Int → List Int × Int
  | out, p, i, [] => if p.2 = 5 then ([], i) else (out, -1)
  | out, p, i, x :: L => if isBit x = false then ([], i) else if p.2 = 5 then (if x = p.1 then ([], i) else unA out (x, 1) (i + 1) L) else unA (out ++ [x]) (nxt p x) (i + 1) L
def unL (L : List Int) : List Int × Int := unA [] (0, 0) 0 L
theorem unA_stG : ∀ (L out : List Int) (p : Int × Nat) (i : Nat), p.2 ≤ 4 → bitsB L = true → unA out p i (stG p L) = (out ++ L, -1)
  | [], out, p, i, h, _ => by
    simp only [stG, unA]
    rw [if_neg (by omega)]; simp
  | x :: L, out, p, i, h, hb => by
    rw [bitsB_cons, Bool.and_eq_true] at hb
    have hn := nxt_le p x
    simp only [stG]
    split
    · rename_i h5
      simp only [unA]
      rw [if_neg (by rw [hb.1]; decide), if_neg (by omega), if_neg (by rw [oth_bit hb.1]; decide), if_pos h5, if_neg (by rw [nxt_1]; exact oth_ne hb.1), unA_stG L _ _ _ (by show 1 ≤ 4; omega) hb.2]
      simp
    · simp only [unA]
      rw [if_neg (by rw [hb.1]; decide), if_neg (by omega), unA_stG L _ _ _ (by omega) hb.2]
      simp
theorem un_stuff {L : List Int} (h : bitsB L = true) : unL (stuffL L) = (L, -1) := unA_stG L [] (0, 0) 0 (by decide) h
theorem unA_back : ∀ (T out : List Int) (p : Int × Nat) (i : Nat) (M : List Int), p.2 ≤ 5 → (p.2 = 5 → isBit p.1 = true) → unA out p i T = (M, -1) →
    ∃ L, M = out ++ L ∧ bitsB L = true ∧ (p.2 = 5 → T = oth p.1 :: stG (oth p.1, 1) L) ∧ (p.2 ≠ 5 → stG p L = T)
  | [], out, p, i, M, h5, hb, h => by
    simp only [unA] at h
    split at h
    · injection h with _ h; omega
    · rename_i hn
      injection h with h
      exact ⟨[], by simp [h], rfl, fun e => absurd e hn, fun _ => rfl⟩
  | x :: T, out, p, i, M, h5, hb, h => by
    simp only [unA] at h
    split at h
    · injection h with _ h; omega
    · rename_i hx
      have hx : isBit x = true := by simpa using hx
      split at h
      · rename_i hp
        split at h
        · injection h with _ h; omega
        · rename_i hne
          obtain ⟨L, hM, hL, _, h2⟩ := unA_back T out (x, 1) (i + 1) M (by show 1 ≤ 5; omega) (fun e => by cases e) h
          have hxo : x = oth p.1 := by
            have h1 := hb hp
            rw [isBit_iff] at h1 hx
            unfold oth
            omega
          refine ⟨L, hM, hL, fun _ => ?_, fun e => absurd hp e⟩
          rw [← hxo, h2 (by show 1 ≠ 5; omega)]
      · rename_i hp
        have hn := nxt_le p x
        obtain ⟨L, hM, hL, h1, h2⟩ := unA_back T (out ++ [x]) (nxt p x) (i + 1) M (by omega) (fun _ => hx) h
        refine ⟨x :: L, by rw [hM]; simp, by rw [bitsB_cons, hx, hL]; rfl, fun e => absurd e hp, fun _ => ?_⟩
        simp only [stG]
        split
        · rename_i h55
          rw [h1 h55]; rfl
        · rename_i h55
          rw [h2 h55]
theorem un_back {T M : List Int} (h : unL T = (M, -1)) : bitsB M = true ∧ stuffL M = T := by
  obtain ⟨L, hM, hL, _, h2⟩ := unA_back T [] (0, 0) 0 M (by decide) (fun e => by cases e) h
  have : M = L := by simpa using hM
  subst this
  exact ⟨hL, h2 (by decide)⟩

/-- the longest run, beside those that were seen -/
def runA : Nat → Int × Nat → List Int → Nat
  | m, _, [] => m
  | m, p, x :: L => runA (max m (nxt p x).2) (nxt p x) L
def runL (L : List Int) : Nat := runA 0 (0, 0) L
theorem runA_app : ∀ (L : List Int) (m : Nat) (p : Int × Nat) (x : Int), runA m p (L ++ [x]) = max (runA m p L) (nxt (L.foldl nxt p) x).2
  | [], m, p, x => rfl
  | y :: L, m, p, x => by simp only [List.cons_append, runA, List.foldl_cons]; exact runA_app L _ _ x
theorem runL_snoc (L : List Int) (x : Int) : runL (L ++ [x]) = max (runL L) (tl (L ++ [x])).2 := by
  unfold runL; rw [runA_app, tl_snoc]; rfl
theorem runA_stG : ∀ (L : List Int) (m : Nat) (p : Int × Nat), m ≤ 5 → p.2 ≤ 4 → bitsB L = true → runA m p (stG p L) ≤ 5
  | [], m, p, hm, hp, _ => by simpa [stG, runA] using hm
  | x :: L, m, p, hm, hp, hb => by
    rw [bitsB_cons, Bool.and_eq_true] at hb
    have hn := nxt_le p x
    simp only [stG]
    split
    · rename_i h5
      simp only [runA]
      have e : nxt (nxt p x) (oth x) = (oth x, 1) := nxt_oth _ hb.1
      rw [e]
      exact runA_stG L _ _ (by dsimp only; omega) (by show 1 ≤ 4; omega) hb.2
    · simp only [runA]
      exact runA_stG L _ _ (by omega) (by omega) hb.2
theorem run_stuff {L : List Int} (h : bitsB L = true) : runL (stuffL L) ≤ 5 := runA_stG L 0 (0, 0) (by decide) (by decide) h
theorem runA_le : ∀ (L : List Int) (m : Nat) (p : Int × Nat), m ≤ p.2 + L.length ∨ m ≤ runA m p L
  | [], m, p => .inr (Nat.le_refl _)
  | x :: L, m, p => by
    right
    have key : ∀ (L : List Int) (m : Nat) (p : Int × Nat), m ≤ runA m p L := by
      intro L
      induction L with
      | nil => intro m p; exact Nat.le_refl _
      | cons x L ih => intro m p; exact Nat.le_trans (Nat.le_max_left _ _) (ih _ _)
    exact key _ _ _
theorem runA_bd : ∀ (L : List Int) (m : Nat) (p : Int × Nat), runA m p L ≤ max m (p.2 + L.length)
  | [], m, p => Nat.le_max_left _ _
  | x :: L, m, p => by
    have h1 := runA_bd L (max m (nxt p x).2) (nxt p x)
    have h2 := nxt_le p x
    simp only [runA, List.length_cons]
    omega
theorem run_le (L : List Int) : runL L ≤ L.length := by
  have := runA_bd L 0 (0, 0)
  unfold runL
  simp at this
  omega

theorem stG_len : ∀ (L : List Int) (p : Int × Nat), p.2 ≤ 4 → 4 * (stG p L).length ≤ 5 * L.length + p.2 ∧ L.length ≤ (stG p L).length
  | [], p, _ => by simp [stG]
  | x :: L, p, hp => by
    have hn := nxt_le p x
    simp only [stG]
    split
    · have h1 := stG_len L (oth x, 1) (by show 1 ≤ 4; omega)
      simp only [List.length_cons] at h1 ⊢
      omega
    · have h1 := stG_len L (nxt p x) (by omega)
      simp only [List.length_cons] at h1 ⊢
      omega
theorem stuff_len (L : List Int) : 4 * (stuffL L).length ≤ 5 * L.length ∧ L.length ≤ (stuffL L).length := stG_len L (0, 0) (by decide)

/-! turned -/
def turnP (p : Int × Nat) : Int × Nat := (oth p.1, p.2)
theorem nxt_turn (p : Int × Nat) (x : Int) : nxt (turnP p) (oth x) = turnP (nxt p x) := by
  unfold nxt turnP
  dsimp only
  by_cases h : x = p.1
  · rw [if_pos h, if_pos (oth_inj.2 h)]
  · rw [if_neg h, if_neg (fun e => h (oth_inj.1 e))]
theorem stG_turn : ∀ (L : List Int) (p : Int × Nat), stG (turnP p) (L.map oth) = (stG p L).map oth
  | [], p => rfl
  | x :: L, p => by
    simp only [List.map_cons, stG, nxt_turn]
    have e : (turnP (nxt p x)).2 = (nxt p x).2 := rfl
    rw [e]
    split
    · rw [List.map_cons, List.map_cons, ← stG_turn L]
      rfl
    · rw [List.map_cons, ← stG_turn L]
theorem stG_none : ∀ (L : List Int) (c c' : Int), stG (c, 0) L = stG (c', 0) L
  | [], c, c' => rfl
  | x :: L, c, c' => by
    have e : ∀ d : Int, nxt (d, 0) x = (x, 1) := fun d => by unfold nxt; dsimp only; split <;> rfl
    simp only [stG, e]
theorem stuff_turn (L : List Int) : stuffL (L.map oth) = (stuffL L).map oth := by
  unfold stuffL
  rw [← stG_turn L, stG_none _ 0 97]
  rfl
theorem turn_turn (L : List Int) : (L.map oth).map oth = L := by
  rw [List.map_map]
  conv => rhs; rw [← List.map_id L]
  exact List.map_congr_left fun x _ => oth_oth x
theorem turn_bits {L : List Int} (h : bitsB L = true) : bitsB (L.map oth) = true := by
  unfold bitsB at h ⊢
  rw [List.all_eq_true] at h ⊢
  intro x hx
  obtain ⟨y, hy, rfl⟩ := List.mem_map.1 hx
  exact oth_bit (h y hy)
theorem runA_turn : ∀ (L : List Int) (m : Nat) (p : Int × Nat), runA m (turnP p) (L.map oth) = runA m p L
  | [], m, p => rfl
  | x :: L, m, p => by
    simp only [List.map_cons, runA, nxt_turn]
    rw [runA_turn L]
    rfl
theorem run_turn (L : List Int) : runL (L.map oth) = runL L := by
  unfold runL
  rw [← runA_turn L 0 (0, 0)]
  cases L with
  | nil => rfl
  | cons x L =>
    have e : ∀ d : Int, nxt (d, 0) (oth x) = (oth x, 1) := fun d => by unfold nxt; dsimp only; split <;> rfl
    simp only [List.map_cons, runA]
    rw [e, show nxt (turnP (0, 0)) (oth x) = (oth x, 1) from e _]
/-- what is stuffed of more begins with what is stuffed of those ahead -/
theorem stuff_ahead (L M : List Int) : ∃ R, stuffL (L ++ M) = stuffL L ++ R ∧ M.length ≤ R.length := by
  unfold stuffL
  rw [stG_app]
  exact ⟨_, rfl, (stG_len M _ (stS_le L (0, 0) (by decide))).2⟩

end Go.Proofs.Ytfjebggekghgkaa
