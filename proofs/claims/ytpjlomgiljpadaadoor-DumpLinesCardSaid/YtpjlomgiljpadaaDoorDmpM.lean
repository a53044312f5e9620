/- Dump: the plain texts, as lists of bytes: a frame's text, which frame a text is, and that each leads back to the other. No program is meant here. -/
import Derived.Test.YtpjlomgiljpadaaDoorWirL
import Derived.Test.YtpjlomgiljpadaaDoorOctH
import Derived.Test.YtpjlomgiljpadaaDoorFrmM
namespace Go.Proofs.YtpjlomgiljpadaaDoor
open Go.RowKit
set_option linter.unusedVariables false

/-! ### texts as lists of bytes -/
def byL (s : ByteArray) : List Int := s.data.toList.map fun b => (b.toNat : Int)
def isBy (L : List Int) : Prop := ∀ x ∈ L, 0 ≤ x ∧ x < 256
theorem byL_len (s : ByteArray) : (byL s).length = s.size := by simp [byL]
theorem byL_by (s : ByteArray) : isBy (byL s) := by
  intro x hx
  obtain ⟨b, _, rfl⟩ := List.mem_map.1 hx
  have := b.toNat_lt
  omega
theorem nums_byL (s : ByteArray) : strOfNums (byL s) = s := by
  apply ByteArray.ext
  apply Array.toList_inj.1
  rw [strOfNums_data]
  unfold byL
  rw [List.map_map]
  conv => rhs; rw [← List.map_id s.data.toList]
  apply List.map_congr_left
  intro b _
  simp
theorem byL_nums {L : List Int} (h : isBy L) : byL (strOfNums L) = L := by
  unfold byL
  rw [strOfNums_data, List.map_map]
  conv => rhs; rw [← List.map_id L]
  apply List.map_congr_left
  intro x hx
  have := h x hx
  simp only [Function.comp, UInt8.toNat_ofNat', id]
  omega
theorem byL_inj {s t : ByteArray} (h : byL s = byL t) : s = t := by rw [← nums_byL s, h, nums_byL]
theorem byL_app (a b : ByteArray) : byL (a ++ b) = byL a ++ byL b := by unfold byL; simp [ByteArray.data_append]
theorem byL_extract (s : ByteArray) (a b : Nat) : byL (s.extract a b) = ((byL s).take b).drop a := by
  unfold byL
  rw [ByteArray.data_extract, Array.toList_extract]
  simp [List.map_take, List.map_drop, List.extract_eq_take_drop, List.drop_take]
theorem byL_getD (s : ByteArray) (k : Nat) : (byL s).getD k 0 = bt s k := by
  unfold byL bt
  rw [List.getD_eq_getElem?_getD, List.getElem?_map]
  cases s.data.toList[k]? <;> rfl
theorem byL_get {s : ByteArray} {k : Nat} (h : k < s.size) : (byL s)[k]'(by rw [byL_len]; exact h) = bt s k := by
  rw [← byL_getD, List.getD_eq_getElem?_getD, List.getElem?_eq_getElem (by rw [byL_len]; exact h)]; rfl
theorem byL_drop {s : ByteArray} {k : Nat} (h : k < s.size) : (byL s).drop k = bt s k :: (byL s).drop (k + 1) := by
  rw [List.drop_eq_getElem_cons (by rw [byL_len]; exact h), byL_get h]
theorem byL_take {s : ByteArray} {k : Nat} (h : k < s.size) : (byL s).take (k + 1) = (byL s).take k ++ [bt s k] := by
  rw [List.take_succ_eq_append_getElem (by rw [byL_len]; exact h), byL_get h]
theorem isBy_app {a b : List Int} (ha : isBy a) (hb : isBy b) : isBy (a ++ b) := by
  intro x hx
  rcases List.mem_append.1 hx with h | h
  · exact ha x h
  · exact hb x h
theorem isBy_cons {x : Int} {L : List Int} (h0 : 0 ≤ x ∧ x < 256) (h : isBy L) : isBy (x :: L) := by
  intro y hy
  rcases List.mem_cons.1 hy with rfl | hy
  · exact h0
  · exact h y hy
theorem isBy_nil : isBy [] := fun x hx => by cases hx
theorem nums_app (a b : List Int) : strOfNums (a ++ b) = strOfNums a ++ strOfNums b := by
  apply ByteArray.ext
  apply Array.toList_inj.1
  simp [ByteArray.data_append, strOfNums]

/-! ### hex digits -/
def digs (L : List Int) : Bool := L.all fun c => decide (dig c < 16)
theorem digs_iff {L : List Int} : digs L = true ↔ ∀ c ∈ L, dig c < 16 := by unfold digs; simp
def numL (L : List Int) : Int := L.foldl (fun n c => 16 * n + dig c) 0
theorem numL_snoc (L : List Int) (c : Int) : numL (L ++ [c]) = 16 * numL L + dig c := by simp [numL]
def hexN : Nat → Int → List Int
  | 0, _ => []
  | k + 1, n => hexN k (n / 16) ++ [hx (n % 16)]
theorem hexN_len : ∀ (k : Nat) (n : Int), (hexN k n).length = k
  | 0, _ => rfl
  | k + 1, n => by simp [hexN, hexN_len k]
theorem hx_dig {d : Int} (h0 : 0 ≤ d) (h1 : d < 16) : (48 ≤ hx d ∧ hx d ≤ 57) ∨ (65 ≤ hx d ∧ hx d ≤ 70) := by unfold hx; split <;> omega
/-- what great digits are made of -/
def great (L : List Int) : Prop := ∀ c ∈ L, (48 ≤ c ∧ c ≤ 57) ∨ (65 ≤ c ∧ c ≤ 70)
theorem great_app {a b : List Int} (ha : great a) (hb : great b) : great (a ++ b) := by
  intro x hx
  rcases List.mem_append.1 hx with h | h
  · exact ha x h
  · exact hb x h
theorem hexN_great : ∀ (k : Nat) (n : Int), great (hexN k n)
  | 0, _ => fun c hc => by cases hc
  | k + 1, n => great_app (hexN_great k _) fun c hc => by
      have : c = hx (n % 16) := by simpa using hc
      subst this
      exact hx_dig (by omega) (by omega)
theorem great_digs {L : List Int} (h : great L) : digs L = true := digs_iff.2 fun c hc => by
  rcases h c hc with h | h
  · rw [dig_0 h]; omega
  · rw [dig_A h]; omega
theorem great_by {L : List Int} (h : great L) : isBy L := fun c hc => by have := h c hc; omega
theorem great_ne {L : List Int} (h : great L) {x : Int} (hx : x < 48 ∨ (57 < x ∧ x < 65) ∨ 70 < x) : x ∉ L := fun hm => by have := h x hm; omega
theorem numL_hexN : ∀ (k : Nat) (n : Int), 0 ≤ n → numL (hexN k n) = n % (16 ^ k : Nat)
  | 0, n, h => by simp [hexN, numL]
  | k + 1, n, h => by
    have ih := numL_hexN k (n / 16) (by omega)
    rw [hexN, numL_snoc, ih, dig_hx (by omega) (by omega)]
    have e : ((16 ^ (k + 1) : Nat) : Int) = 16 * ((16 ^ k : Nat) : Int) := by rw [Nat.pow_succ]; omega
    rw [e]
    have hp : 0 < ((16 ^ k : Nat) : Int) := by have := Nat.pow_pos (n := k) (show 0 < 16 by decide); omega
    have a := Int.emod_emod_of_dvd n (Int.dvd_mul_right 16 ((16 ^ k : Nat) : Int))
    generalize ((16 ^ k : Nat) : Int) = p at *
    have h1 := Int.emod_add_mul_ediv (n / 16) p
    have h2 := Int.emod_add_mul_ediv n 16
    have b0 := Int.emod_nonneg (n / 16) (show p ≠ 0 by omega)
    have b1 := Int.emod_lt_of_pos (n / 16) hp
    symm
    have e3 : n = (16 * ((n / 16) % p) + n % 16) + (n / 16 / p) * (16 * p) := by
      have : n / 16 / p * (16 * p) = 16 * (p * (n / 16 / p)) := by rw [Int.mul_comm, Int.mul_assoc]
      rw [this]; omega
    conv => lhs; rw [e3]
    rw [Int.add_mul_emod_self_right]
    apply Int.emod_eq_of_lt <;> omega
theorem dig_nn (c : Int) : 0 ≤ dig c := (dig_bd c).1
theorem snoc_ind {P : List Int → Prop} (h0 : P []) (h1 : ∀ L c, P L → P (L ++ [c])) (L : List Int) : P L := by
  have : ∀ R : List Int, P R.reverse := by
    intro R
    induction R with
    | nil => exact h0
    | cons c R ih => rw [List.reverse_cons]; exact h1 _ _ ih
  rw [← List.reverse_reverse L]
  exact this _
theorem numL_bd : ∀ (L : List Int), digs L = true → 0 ≤ numL L ∧ numL L < (16 ^ L.length : Nat) := by
  refine snoc_ind ?_ ?_
  · intro _; simp [numL]
  · intro L c ih h
    have h' := digs_iff.1 h
    have a := ih (digs_iff.2 fun x hx => h' x (List.mem_append_left _ hx))
    have b := h' c (by simp)
    have b0 := dig_nn c
    rw [numL_snoc, List.length_append, List.length_singleton, Nat.pow_succ]
    omega

/-! ### great letters, no dots -/
def up (c : Int) : Int := if 97 ≤ c ∧ c ≤ 122 then c - 32 else c
def plainL (L : List Int) : List Int := (L.map up).filter fun c => decide (c ≠ 46)
theorem plainL_app (a b : List Int) : plainL (a ++ b) = plainL a ++ plainL b := by simp [plainL]
theorem plainL_cons {c : Int} (h : c ≠ 46) (L : List Int) : plainL (c :: L) = up c :: plainL L := by
  unfold plainL
  rw [List.map_cons, List.filter_cons_of_pos]
  unfold up; split <;> simp <;> omega
theorem plainL_dot (L : List Int) : plainL (46 :: L) = plainL L := by unfold plainL; rw [List.map_cons]; rfl
theorem hx_dig_up {c : Int} (h : dig c < 16) : hx (dig c) = up c := by
  have h3 := fun h => dig_no (r := c) h
  by_cases a : 48 ≤ c ∧ c ≤ 57
  · rw [dig_0 a]; unfold hx up; rw [if_pos (by omega), if_neg (by omega)]; omega
  by_cases b : 65 ≤ c ∧ c ≤ 70
  · rw [dig_A b]; unfold hx up; rw [if_neg (by omega), if_neg (by omega)]; omega
  by_cases d : 97 ≤ c ∧ c ≤ 102
  · rw [dig_a d]; unfold hx up; rw [if_neg (by omega), if_pos (by omega)]; omega
  · have := h3 (by omega); omega
theorem dig_ne_dot {c : Int} (h : dig c < 16) : c ≠ 46 := by rintro rfl; revert h; decide
theorem plainL_digs {L : List Int} (h : digs L = true) : plainL L = L.map up := by
  induction L with
  | nil => rfl
  | cons c L ih =>
    have h' := digs_iff.1 h
    rw [plainL_cons (dig_ne_dot (h' c (by simp))), ih (digs_iff.2 fun x hx => h' x (by simp [hx])), List.map_cons]
theorem hexN_numL : ∀ (L : List Int), digs L = true → hexN L.length (numL L) = L.map up := by
  refine snoc_ind ?_ ?_
  · intro _; rfl
  · intro L c ih h
    have h' := digs_iff.1 h
    have hL := digs_iff.2 fun x hx => h' x (List.mem_append_left _ hx)
    have b := h' c (by simp)
    have b0 := dig_nn c
    rw [List.length_append, List.length_singleton, hexN, numL_snoc, show (16 * numL L + dig c) / 16 = numL L by omega, show (16 * numL L + dig c) % 16 = dig c by omega, ih hL, hx_dig_up b]
    simp

/-! ### the first of some byte -/
def cutL (x : Int) : List Int → Option (List Int × List Int)
  | [] => none
  | c :: t => if c = x then some ([], t) else (cutL x t).map fun p => (c :: p.1, p.2)
theorem cutL_none {x : Int} : ∀ {L : List Int}, x ∉ L → cutL x L = none
  | [], _ => rfl
  | c :: t, h => by
    have : c ≠ x := fun e => h (by simp [e])
    rw [cutL, if_neg this, cutL_none (fun hm => h (List.mem_cons_of_mem _ hm))]; rfl
theorem cutL_at {x : Int} : ∀ {a b : List Int}, x ∉ a → cutL x (a ++ x :: b) = some (a, b)
  | [], b, _ => by simp [cutL]
  | c :: t, b, h => by
    have : c ≠ x := fun e => h (by simp [e])
    rw [List.cons_append, cutL, if_neg this, cutL_at (fun hm => h (List.mem_cons_of_mem _ hm))]; rfl
theorem cutL_some {x : Int} : ∀ {L a b : List Int}, cutL x L = some (a, b) → L = a ++ x :: b ∧ x ∉ a
  | [], a, b, h => by cases h
  | c :: t, a, b, h => by
    rw [cutL] at h
    split at h
    · rename_i e
      cases h
      subst e
      exact ⟨rfl, by simp⟩
    · rename_i e
      obtain ⟨⟨p, q⟩, h1, h2⟩ := Option.map_eq_some_iff.1 h
      simp only [Prod.mk.injEq] at h2
      obtain ⟨rfl, rfl⟩ := h2
      obtain ⟨rfl, hn⟩ := cutL_some h1
      exact ⟨rfl, by simp only [List.mem_cons, not_or]; exact ⟨fun e' => e e'.symm, hn⟩⟩
theorem cutL_no {x : Int} : ∀ {L : List Int}, cutL x L = none → x ∉ L
  | [], _ => by simp
  | c :: t, h => by
    rw [cutL] at h
    split at h
    · cases h
    · rename_i e
      have := cutL_no (Option.map_eq_none_iff.1 h)
      simp only [List.mem_cons, not_or]
      exact ⟨fun e' => e e'.symm, this⟩

/-! ### data -/
def dat1 : List Int → Option (List Int)
  | [] => none
  | [_] => none
  | [a, b] => if dig a < 16 ∧ dig b < 16 then some [16 * dig a + dig b] else none
  | a :: b :: c :: t => if dig a < 16 ∧ dig b < 16 then (if c = 46 then dat1 t else dat1 (c :: t)).map (fun l => (16 * dig a + dig b) :: l) else none
/-- what follows behind a byte -/
def datC (L : List Int) : Option (List Int) := match L with
  | [] => some []
  | c :: t => if c = 46 then dat1 t else dat1 (c :: t)
def datL (L : List Int) : Option (List Int) := if L = [] then some [] else dat1 L
theorem dat1_two (a b : Int) (t : List Int) : dat1 (a :: b :: t) = if dig a < 16 ∧ dig b < 16 then (datC t).map (fun l => (16 * dig a + dig b) :: l) else none := by
  cases t with
  | nil => rw [dat1]; rfl
  | cons c t => rw [dat1]; rfl
theorem dat1_no {L : List Int} (h : L.length < 2) : dat1 L = none := by
  match L, h with
  | [], _ => rfl
  | [_], _ => rfl
theorem pair_up {a b : Int} (ha : dig a < 16) (hb : dig b < 16) : hx ((16 * dig a + dig b) / 16) = up a ∧ hx ((16 * dig a + dig b) % 16) = up b ∧ 0 ≤ 16 * dig a + dig b ∧ 16 * dig a + dig b < 256 := by
  have := dig_nn a; have := dig_nn b
  rw [show (16 * dig a + dig b) / 16 = dig a by omega, show (16 * dig a + dig b) % 16 = dig b by omega]
  exact ⟨hx_dig_up ha, hx_dig_up hb, by omega, by omega⟩
def hexF (l : List Int) : List Int := l.flatMap fun x => [hx (x / 16), hx (x % 16)]
theorem dat1_plain : ∀ (n : Nat) {L l : List Int}, L.length ≤ n → dat1 L = some l → hexF l = plainL L ∧ isBy l ∧ 1 ≤ l.length ∧ 2 * l.length ≤ L.length
  | 0, L, l, hn, h => by
    have : L = [] := List.length_eq_zero_iff.1 (by omega)
    subst this; cases h
  | n + 1, L, l, hn, h => by
    match L, h with
    | [], h => cases h
    | [_], h => cases h
    | a :: b :: t, h =>
      rw [dat1_two] at h
      split at h
      · rename_i hab
        obtain ⟨l', h1, rfl⟩ := Option.map_eq_some_iff.1 h
        obtain ⟨pa, pb, p0, p1⟩ := pair_up hab.1 hab.2
        have hd : hexF l' = plainL t ∧ isBy l' ∧ 2 * l'.length ≤ t.length := by
          cases t with
          | nil => cases h1; exact ⟨rfl, isBy_nil, by simp⟩
          | cons c t =>
            simp only [datC] at h1
            simp only [List.length_cons] at hn
            split at h1
            · rename_i e
              subst e
              obtain ⟨i1, i2, _, i3⟩ := dat1_plain n (by omega) h1
              rw [plainL_dot]
              exact ⟨i1, i2, by simp; omega⟩
            · obtain ⟨i1, i2, _, i3⟩ := dat1_plain n (by simp; omega) h1
              exact ⟨i1, i2, i3⟩
        refine ⟨?_, isBy_cons ⟨p0, p1⟩ hd.2.1, by simp, by have := hd.2.2; simp; omega⟩
        rw [plainL_cons (dig_ne_dot hab.1), plainL_cons (dig_ne_dot hab.2), ← hd.1, ← pa, ← pb]
        rfl
      · cases h
theorem datL_plain {L l : List Int} (h : datL L = some l) : hexF l = plainL L ∧ isBy l ∧ 2 * l.length ≤ L.length := by
  unfold datL at h
  split at h
  · rename_i e
    cases h; subst e
    exact ⟨rfl, isBy_nil, by simp⟩
  · obtain ⟨a, b, _, c⟩ := dat1_plain _ (Nat.le_refl _) h
    exact ⟨a, b, c⟩
theorem hexF_great {l : List Int} (h : isBy l) : great (hexF l) := by
  intro c hc
  obtain ⟨x, hx1, hx2⟩ := List.mem_flatMap.1 hc
  have := h x hx1
  simp only [List.mem_cons, List.not_mem_nil, or_false] at hx2
  rcases hx2 with rfl | rfl
  · exact hx_dig (by omega) (by omega)
  · exact hx_dig (by omega) (by omega)
theorem hexF_len (l : List Int) : (hexF l).length = 2 * l.length := by
  induction l with
  | nil => rfl
  | cons x l ih => simp [hexF] at ih ⊢; omega
theorem datL_hex : ∀ {l : List Int}, isBy l → datL (hexF l) = some l
  | [], _ => rfl
  | x :: l, h => by
    have hb := h x (by simp)
    have ih := datL_hex (l := l) fun y hy => h y (by simp [hy])
    have g := hexF_great (l := l) fun y hy => h y (by simp [hy])
    have e : hexF (x :: l) = hx (x / 16) :: hx (x % 16) :: hexF l := rfl
    rw [e]
    unfold datL
    rw [if_neg (by simp), dat1_two, dig_hx (by omega) (by omega), dig_hx (by omega) (by omega), if_pos ⟨by omega, by omega⟩, show 16 * (x / 16) + x % 16 = x by omega]
    have e2 : datC (hexF l) = some l := by
      rw [← ih]
      unfold datL datC
      cases hl : hexF l with
      | nil => rfl
      | cons c t =>
        simp only [reduceCtorEq, if_false]
        rw [if_neg (fun e => by
          have := g c (by rw [hl]; simp)
          omega)]
    rw [e2]; rfl
theorem hexl_F (s : ByteArray) : hexl s s.size = hexF (byL s) := by
  have : ∀ n, n ≤ s.size → hexl s n = hexF ((byL s).take n) := by
    intro n
    induction n with
    | zero => intro _; rfl
    | succ n ih =>
      intro h
      rw [hexl_succ, ih (by omega), byL_take (by omega)]
      simp [hexF]
  rw [this _ (Nat.le_refl _), List.take_of_length_le (by rw [byL_len]; exact Nat.le_refl _)]

end Go.Proofs.YtpjlomgiljpadaaDoor
