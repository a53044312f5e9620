/- Box, plain: those that are ready, the best one first. No program is meant. Box, the code: what its mailboxes are in memory. -/
import Derived.Test.YtmmcjmejcngajaaGreatDoorZan
import Derived.Test.YtmmcjmejcngajaaGreatDoorZao
import Derived.Test.YtmmcjmejcngajaaGreatDoorZay
namespace Go.Proofs.YtmmcjmejcngajaaGreatDoor
open Go.RowKit
set_option linter.unusedVariables false

/-- x ahead of the first one that it wins over -/
def insK (key : Int → Int) (x : Int) : List Int → List Int
  | [] => [x]
  | y :: l => if key x < key y then x :: y :: l else y :: insK key x l
def turnK (key : Int → Int) (L : List Int) : List Int := L.foldl (fun l x => insK key x l) []
section
variable {key key' : Int → Int} {x y : Int} {l L : List Int}
theorem mem_insK : ∀ {l : List Int}, y ∈ insK key x l ↔ y = x ∨ y ∈ l
  | [] => by simp [insK]
  | z :: l => by
    unfold insK
    split
    · simp
    · simp only [List.mem_cons, mem_insK]
      constructor
      · rintro (h | h | h)
        · exact .inr (.inl h)
        · exact .inl h
        · exact .inr (.inr h)
      · rintro (h | h | h)
        · exact .inr (.inl h)
        · exact .inl h
        · exact .inr (.inr h)
theorem insK_len : ∀ {l : List Int}, (insK key x l).length = l.length + 1
  | [] => rfl
  | z :: l => by
    unfold insK
    split
    · rfl
    · simp [insK_len]
def SortK (key : Int → Int) (l : List Int) : Prop := l.Pairwise (fun a b => key a ≤ key b)
theorem insK_sort : ∀ {l : List Int}, SortK key l → SortK key (insK key x l)
  | [], _ => by simp [insK, SortK]
  | z :: l, h => by
    unfold SortK at h
    rw [List.pairwise_cons] at h
    unfold insK
    split
    · rename_i hx
      unfold SortK
      rw [List.pairwise_cons, List.pairwise_cons]
      refine ⟨fun a ha => ?_, h⟩
      rcases List.mem_cons.1 ha with rfl | ha
      · omega
      · have := h.1 a ha; omega
    · unfold SortK
      rw [List.pairwise_cons]
      refine ⟨fun a ha => ?_, insK_sort h.2⟩
      rcases mem_insK.1 ha with rfl | ha
      · omega
      · exact h.1 a ha
theorem insK_nodup : ∀ {l : List Int}, l.Nodup → x ∉ l → (insK key x l).Nodup
  | [], _, _ => by simp [insK]
  | z :: l, h, hx => by
    rw [List.nodup_cons] at h
    simp only [List.mem_cons, not_or] at hx
    unfold insK
    split
    · rw [List.nodup_cons, List.nodup_cons]
      exact ⟨by simp only [List.mem_cons, not_or]; exact hx, h⟩
    · rw [List.nodup_cons]
      refine ⟨fun hm => ?_, insK_nodup h.2 hx.2⟩
      rcases mem_insK.1 hm with e | hm
      · exact hx.1 e.symm
      · exact h.1 hm
theorem turnK_app : turnK key (L ++ [x]) = insK key x (turnK key L) := by unfold turnK; rw [List.foldl_append]; rfl
theorem rev_ind {p : List Int → Prop} (h0 : p []) (h1 : ∀ L x, p L → p (L ++ [x])) (L : List Int) : p L := by
  have : ∀ (n : Nat) (L : List Int), L.length = n → p L := by
    intro n
    induction n with
    | zero => intro L h; rw [List.eq_nil_of_length_eq_zero h]; exact h0
    | succ n ih =>
      intro L h
      have hne : L ≠ [] := by rintro rfl; simp at h
      rw [← List.dropLast_concat_getLast hne]
      exact h1 _ _ (ih _ (by simp; omega))
  exact this _ L rfl
theorem mem_turnK : y ∈ turnK key L ↔ y ∈ L := by
  induction L using rev_ind with
  | h0 => simp [turnK]
  | h1 L x ih =>
    rw [turnK_app, mem_insK, ih]
    simp [or_comm]
theorem turnK_len : (turnK key L).length = L.length := by
  induction L using rev_ind with
  | h0 => simp [turnK]
  | h1 L x ih =>
    rw [turnK_app, insK_len, ih]
    simp
theorem turnK_sort : SortK key (turnK key L) := by
  induction L using rev_ind with
  | h0 => simp [turnK, SortK]
  | h1 L x ih =>
    rw [turnK_app]
    exact insK_sort ih
theorem turnK_nodup : L.Nodup → (turnK key L).Nodup := by
  induction L using rev_ind with
  | h0 => simp [turnK]
  | h1 L x ih =>
    intro h
    rw [List.nodup_append] at h
    rw [turnK_app]
    exact insK_nodup (ih h.1) (fun hm => (h.2.2 x (mem_turnK.1 hm) x (by simp)) rfl)
theorem insK_congr : ∀ {l : List Int}, key x = key' x → (∀ y ∈ l, key y = key' y) → insK key x l = insK key' x l
  | [], _, _ => rfl
  | z :: l, hx, h => by
    unfold insK
    rw [hx, h z (by simp), insK_congr hx (fun y hy => h y (by simp [hy]))]
theorem turnK_congr : (∀ y ∈ L, key y = key' y) → turnK key L = turnK key' L := by
  induction L using rev_ind with
  | h0 => exact fun _ => rfl
  | h1 L x ih =>
    intro h
    have e := ih (fun y hy => h y (by simp [hy]))
    rw [turnK_app, turnK_app, ← e]
    exact insK_congr (h x (by simp)) (fun y hy => h y (by simp [mem_turnK.1 hy]))
theorem insK_ahead : (∀ y ∈ l, key x < key y) → insK key x l = x :: l := by
  intro h
  cases l with
  | nil => rfl
  | cons z l => unfold insK; rw [if_pos (h z (by simp))]
theorem insK_filter (p : Int → Bool) : ∀ {l : List Int}, SortK key l → (insK key x l).filter p = if p x then insK key x (l.filter p) else l.filter p
  | [], _ => by simp [insK, List.filter_cons]
  | z :: l, h => by
    unfold SortK at h
    have h' := List.pairwise_cons.1 h
    have e : insK key x (z :: l) = if key x < key z then x :: z :: l else z :: insK key x l := rfl
    rw [e]
    by_cases hx : key x < key z
    · rw [if_pos hx, List.filter_cons]
      by_cases hp : p x = true
      · rw [if_pos hp, if_pos hp, insK_ahead]
        intro y hy
        rcases List.mem_cons.1 (List.mem_filter.1 hy).1 with rfl | hy
        · exact hx
        · have := h'.1 y hy; omega
      · rw [if_neg hp, if_neg hp]
    · rw [if_neg hx, List.filter_cons, insK_filter p h'.2]
      by_cases hz : p z = true
      · rw [if_pos hz, List.filter_cons, if_pos hz]
        by_cases hp : p x = true
        · rw [if_pos hp, if_pos hp]
          have e2 : insK key x (z :: l.filter p) = if key x < key z then x :: z :: l.filter p else z :: insK key x (l.filter p) := rfl
          rw [e2, if_neg hx]
        · rw [if_neg hp, if_neg hp]
      · rw [if_neg hz, List.filter_cons, if_neg hz]
theorem turnK_filter (p : Int → Bool) : turnK key (L.filter p) = (turnK key L).filter p := by
  induction L using rev_ind with
  | h0 => rfl
  | h1 L x ih =>
    rw [List.filter_append, turnK_app, insK_filter p turnK_sort, ← ih]
    by_cases hp : p x = true
    · rw [if_pos hp, List.filter_cons, if_pos hp]
      exact turnK_app
    · rw [if_neg hp, List.filter_cons, if_neg hp]
      simp
/-- its place: behind all that it does not win over -/
theorem insK_at : ∀ {l : List Int} {n : Nat}, n ≤ l.length → (∀ t, t < n → ¬ key x < key (l.getD t 0)) → (∀ t, n ≤ t → t < l.length → key x < key (l.getD t 0)) → insK key x l = l.take n ++ x :: l.drop n
  | [], n, _, _, _ => by simp [insK]
  | z :: l, 0, _, _, h => by
    have := h 0 (Nat.le_refl _) (by simp)
    unfold insK
    rw [if_pos (by simpa using this)]
    simp
  | z :: l, n + 1, hn, h1, h2 => by
    have := h1 0 (by omega)
    unfold insK
    rw [if_neg (by simpa using this), insK_at (n := n) (by simpa using hn) (fun t ht => by simpa using h1 (t + 1) (by omega)) (fun t h3 h4 => by simpa using h2 (t + 1) (by omega) (by simpa using h4))]
    simp
/-- one that stands once, cut out -/
theorem filter_cut : ∀ {l : List Int} {i : Nat}, l.Nodup → l[i]? = some x → l.filter (fun y => y != x) = l.take i ++ l.drop (i + 1)
  | [], i, _, h => by simp at h
  | z :: l, 0, hn, h => by
    simp at h
    subst h
    rw [List.nodup_cons] at hn
    rw [List.filter_cons, if_neg (by simp)]
    simp only [List.take_zero, List.nil_append, List.drop_succ_cons, List.drop_zero]
    exact List.filter_eq_self.2 fun y hy => by simp; rintro rfl; exact hn.1 hy
  | z :: l, i + 1, hn, h => by
    rw [List.nodup_cons] at hn
    have hx : l[i]? = some x := by simpa using h
    have hz : z ≠ x := by rintro rfl; exact hn.1 (List.mem_of_getElem? hx)
    rw [List.filter_cons, if_pos (by simpa using hz), filter_cut hn.2 hx]
    simp
end
/-! ### of mailboxes -/
def Bx.trn (s : Bx) : List Int := turnK s.key s.ord
theorem Bx.best_turn {s : Bx} (ho : s.ordOk) : ∀ k, k ≤ s.ord.length → s.best k = match turnK s.key (s.ord.take k) with | [] => -1 | y :: _ => y
  | 0, _ => by simp [Bx.best, turnK]
  | k + 1, hk => by
    have ih := Bx.best_turn ho k (by omega)
    have hx : s.ord.getD k 0 = s.ord[k]'(by omega) := by rw [List.getD_eq_getElem?_getD, List.getElem?_eq_getElem (by omega)]; rfl
    rw [List.take_succ_eq_append_getElem (by omega), turnK_app, ← hx]
    unfold Bx.best
    have hm : ∀ y ∈ turnK s.key (s.ord.take k), 0 ≤ y := fun y hy => (ho y (List.mem_of_mem_take (mem_turnK.1 hy))).1
    cases hT : turnK s.key (s.ord.take k) with
    | nil =>
      rw [hT] at ih
      simp only at ih
      rw [ih, if_pos (.inl (by decide))]
      rfl
    | cons y l =>
      rw [hT] at ih hm
      simp only at ih
      have hy := hm y (by simp)
      rw [ih]
      unfold insK
      by_cases hlt : s.key (s.ord.getD k 0) < s.key y
      · rw [if_pos hlt, if_pos (.inr hlt)]
      · rw [if_neg hlt, if_neg (by omega)]
theorem Bx.best_head {s : Bx} (ho : s.ordOk) : s.best s.ord.length = match s.trn with | [] => -1 | y :: _ => y := by
  have := Bx.best_turn ho s.ord.length (Nat.le_refl _)
  rw [List.take_length] at this
  exact this
theorem Bx.bst_nil {s : Bx} (ho : s.ordOk) (h : s.trn = []) : s.bst = (0, pk0, false) := by
  have e := Bx.best_head ho
  rw [h] at e
  simp only at e
  unfold Bx.bst
  rw [e, if_pos (by decide)]
theorem Bx.bst_cons {s : Bx} (ho : s.ordOk) {y : Int} {l : List Int} (h : s.trn = y :: l) : s.bst = (y, s.P.getD y.toNat pk0, true) := by
  have e := Bx.best_head ho
  rw [h] at e
  simp only at e
  have hy := (ho y (mem_turnK.1 (by unfold Bx.trn at h; rw [h]; simp))).1
  unfold Bx.bst
  rw [e, if_neg (by omega)]
theorem Bx.trn_len (s : Bx) : s.trn.length = s.ord.length := turnK_len
theorem Bx.Ok.trnOk {s : Bx} (h : s.Ok) : ∀ x ∈ s.trn, 0 ≤ x ∧ x < s.S.length ∧ s.S.getD x.toNat 0 = 1 := fun x hx => h.ord x (mem_turnK.1 hx)
theorem Bx.Ok.trnNd {s : Bx} (h : s.Ok) : s.trn.Nodup := turnK_nodup h.nd1
theorem Bx.Ok.free_new {s : Bx} (h : s.Ok) {i : Nat} (h0 : s.S.getD i 0 = 0) : (i : Int) ∉ s.ord := fun hm => by
  have := (h.ord _ hm).2.2
  rw [Int.toNat_natCast, h0] at this
  omega
/-- put: at its place -/
theorem Bx.trn_put {s : Bx} (h : s.Ok) {i n : Nat} {p : Pk} (hi : i < s.S.length) (h0 : s.S.getD i 0 = 0) (hn : n ≤ s.trn.length) (h1 : ∀ t, t < n → ¬ keyG p.f < s.key (s.trn.getD t 0)) (h2 : ∀ t, n ≤ t → t < s.trn.length → keyG p.f < s.key (s.trn.getD t 0)) :
    (s.putAt i p).trn = s.trn.take n ++ (i : Int) :: s.trn.drop n := by
  have hno := h.free_new h0
  have hk : ∀ y ∈ s.ord, (s.putAt i p).key y = s.key y := fun y hy => by
    unfold Bx.key Bx.putAt
    simp only [getD_set']
    rw [if_neg (fun h' => hno (by rw [h'.1, Int.toNat_of_nonneg (h.ord y hy).1]; exact hy))]
  have hki : (s.putAt i p).key (i : Int) = keyG p.f := by
    unfold Bx.key Bx.putAt
    simp only [getD_set', Int.toNat_natCast]
    rw [if_pos (by simp [h.lp, hi])]
  have e : (s.putAt i p).trn = insK (s.putAt i p).key (i : Int) s.trn := by
    unfold Bx.trn
    rw [show (s.putAt i p).ord = s.ord ++ [(i : Int)] from rfl, turnK_app, turnK_congr hk]
  rw [e]
  have hm : ∀ t, t < s.trn.length → (s.putAt i p).key (s.trn.getD t 0) = s.key (s.trn.getD t 0) := fun t ht => hk _ (by
    rw [List.getD_eq_getElem?_getD, List.getElem?_eq_getElem ht]
    exact mem_turnK.1 (List.getElem_mem ht))
  refine insK_at hn (fun t ht => ?_) (fun t h3 h4 => ?_)
  · rw [hki, hm t (by omega)]; exact h1 t ht
  · rw [hki, hm t h4]; exact h2 t h3 h4
theorem Bx.trn_mono {s : Bx} {k : Int} {a b : Nat} (hab : a ≤ b) (hb : b < s.trn.length) (h : k < s.key (s.trn.getD a 0)) : k < s.key (s.trn.getD b 0) := by
  rcases Nat.lt_or_ge a b with h1 | h1
  · have hs : SortK s.key s.trn := turnK_sort
    have := List.pairwise_iff_getElem.1 hs a b (by omega) hb h1
    rw [List.getD_eq_getElem?_getD, List.getElem?_eq_getElem (by omega)] at h
    rw [List.getD_eq_getElem?_getD, List.getElem?_eq_getElem hb]
    simp only [Option.getD_some] at h ⊢
    omega
  · obtain rfl : a = b := by omega
    exact h
/-- ended: cut out -/
theorem Bx.trn_end {s : Bx} (h : s.Ok) {i n : Nat} (st : Int) (hx : s.trn[n]? = some (i : Int)) : (s.endAt i st).trn = s.trn.take n ++ s.trn.drop (n + 1) := by
  have e : (s.endAt i st).trn = s.trn.filter (fun y => y != (i : Int)) := by
    unfold Bx.trn
    rw [show (s.endAt i st).ord = s.ord.filter (fun y => y != (i : Int)) from rfl, show (s.endAt i st).key = s.key from rfl, turnK_filter]
  rw [e]
  exact filter_cut h.trnNd hx
/-- taken: they stand as they stood -/
theorem Bx.trn_take {s : Bx} (h : s.Ok) {x : Int} {r : List Int} (hf : s.fin = x :: r) : s.take.1.trn = s.trn := by
  obtain ⟨h1, h2, h3⟩ := h.fin x (by rw [hf]; simp)
  unfold Bx.trn Bx.take
  rw [hf]
  refine turnK_congr fun y hy => ?_
  unfold Bx.key
  simp only [getD_set']
  rw [if_neg]
  intro h'
  have := (h.ord y hy).2.2
  rw [← h'.1] at this
  omega
theorem Bx.first_spec {s : Bx} {i : Nat} (hi : i < s.S.length) (h0 : s.S.getD i 0 = 0) (h1 : ∀ j, j < i → s.S.getD j 0 ≠ 0) : s.first s.S.length = some i := by
  have key : ∀ k, k ≤ i → s.first k = none := by
    intro k
    induction k with
    | zero => intro _; rfl
    | succ k ih =>
      intro hk
      exact Bx.first_more (ih (by omega)) (by rw [Bx.getD_01 (by omega)]; exact h1 k (by omega))
  exact Bx.first_at (key i (Nat.le_refl _)) (by rw [Bx.getD_01 hi]; exact h0) _ hi
theorem Bx.first_none {s : Bx} (h1 : ∀ j, j < s.S.length → s.S.getD j 0 ≠ 0) : s.first s.S.length = none := by
  have key : ∀ k, k ≤ s.S.length → s.first k = none := by
    intro k
    induction k with
    | zero => intro _; rfl
    | succ k ih =>
      intro hk
      exact Bx.first_more (ih (by omega)) (by rw [Bx.getD_01 (by omega)]; exact h1 k (by omega))
  exact key _ (Nat.le_refl _)
/-- none but those that are ready is listed as such; free are those that are neither ready nor have ended -/
structure Bx.Full (s : Bx) : Prop where
  mem : ∀ i : Nat, i < s.S.length → s.S.getD i 0 = 1 → (i : Int) ∈ s.ord
  cnt : s.free s.S.length + s.ord.length + s.fin.length = s.S.length
/-- free ones, one state turned -/
theorem free_set (S : List Int) : ∀ (i : Nat) (a : Int), i < S.length → ((S.set i a).filter (· == 0)).length + (if S.getD i 0 = 0 then 1 else 0) = (S.filter (· == 0)).length + (if a = 0 then 1 else 0) := by
  induction S with
  | nil => intro i a h; cases h
  | cons z S ih =>
    intro i a h
    cases i with
    | zero =>
      simp only [List.set_cons_zero, List.filter_cons, List.getD_cons_zero, beq_iff_eq]
      by_cases h1 : a = 0 <;> by_cases h2 : z = 0 <;> simp [h1, h2]
    | succ i =>
      have := ih i a (by simpa using h)
      simp only [List.set_cons_succ, List.filter_cons, List.getD_cons_succ, beq_iff_eq]
      generalize (if S.getD i 0 = 0 then 1 else 0) = q at this ⊢
      by_cases h2 : z = 0
      · simp only [if_pos h2, List.length_cons]; omega
      · simp only [if_neg h2]; omega
theorem Bx.free_all (s : Bx) : s.free s.S.length = (s.S.filter (· == 0)).length := by unfold Bx.free; rw [List.take_length]
theorem Bx.Full.new (n : Nat) : (bxNew n).Full := by
  refine ⟨fun i hi h => ?_, ?_⟩
  · simp only [bxNew, List.length_replicate] at hi
    simp only [bxNew, List.getD_eq_getElem?_getD, List.getElem?_replicate, if_pos hi, Option.getD_some] at h
    omega
  · rw [Bx.free_all]
    simp [bxNew]
theorem Bx.Full.putAt {s : Bx} (h : s.Full) {i : Nat} (hi : i < s.S.length) (h0 : s.S.getD i 0 = 0) (p : Pk) : (s.putAt i p).Full := by
  refine ⟨fun j hj hs => ?_, ?_⟩
  · simp only [Bx.putAt, List.length_set] at hj
    simp only [Bx.putAt, getD_set'] at hs
    simp only [Bx.putAt, List.mem_append, List.mem_singleton]
    by_cases e : i = j
    · exact .inr (by rw [e])
    · rw [if_neg (fun h' => e h'.1)] at hs
      exact .inl (h.mem j hj hs)
  · have hc := h.cnt
    rw [Bx.free_all] at hc ⊢
    have := free_set s.S i 1 hi
    rw [if_pos h0, if_neg (by decide)] at this
    simp only [Bx.putAt, List.length_append, List.length_singleton, List.length_set]
    omega
theorem Bx.Full.endAt {s : Bx} (h : s.Full) (ok : s.Ok) {i : Nat} (hi : i < s.S.length) (h1 : s.S.getD i 0 = 1) {st : Int} (hst : st = 2 ∨ st = 3) : (s.endAt i st).Full := by
  have hm := h.mem i hi h1
  refine ⟨fun j hj hs => ?_, ?_⟩
  · simp only [Bx.endAt, List.length_set] at hj
    simp only [Bx.endAt, getD_set'] at hs
    simp only [Bx.endAt, List.mem_filter, bne_iff_ne, ne_eq]
    by_cases e : i = j
    · rw [if_pos ⟨e, by omega⟩] at hs
      omega
    · rw [if_neg (fun h' => e h'.1)] at hs
      exact ⟨h.mem j hj hs, by omega⟩
  · have hc := h.cnt
    rw [Bx.free_all] at hc ⊢
    have := free_set s.S i st hi
    rw [if_neg (by omega), if_neg (by omega)] at this
    obtain ⟨k, hk, hk2⟩ := List.getElem_of_mem hm
    have e := filter_cut ok.nd1 (by rw [List.getElem?_eq_getElem hk, hk2])
    simp only [Bx.endAt, List.length_append, List.length_singleton, List.length_set]
    rw [e, List.length_append, List.length_take, List.length_drop]
    omega
theorem Bx.Full.take {s : Bx} (h : s.Full) (ok : s.Ok) : s.take.1.Full := by
  unfold Bx.take
  cases hf : s.fin with
  | nil => exact h
  | cons x r =>
    obtain ⟨h1, h2, h3⟩ := ok.fin x (by rw [hf]; simp)
    have hx : x.toNat < s.S.length := by omega
    refine ⟨fun j hj hs => ?_, ?_⟩
    · simp only [List.length_set] at hj
      simp only [getD_set'] at hs
      by_cases e : x.toNat = j
      · rw [if_pos ⟨e, hx⟩] at hs
        omega
      · rw [if_neg (fun h' => e h'.1)] at hs
        exact h.mem j hj hs
    · have hc := h.cnt
      rw [Bx.free_all] at hc ⊢
      have := free_set s.S x.toNat 0 hx
      rw [if_neg (by omega), if_pos rfl] at this
      rw [hf, List.length_cons] at hc
      simp only [List.length_set]
      omega
end Go.Proofs.YtmmcjmejcngajaaGreatDoor

namespace Go.Proofs.YtmmcjmejcngajaaGreatDoor
open Go.RowKit
set_option linter.unusedVariables false

/-- a mailbox: its state and its packet -/
def mbC (m : Int × Pk) : List Value := .int .i64 m.1 :: pkC m.2
theorem mbC_len (m : Int × Pk) : (mbC m).length = 8 := rfl
/-- within a greater block: Y stands behind it -/
structure BmM (TB : TypeId) (Y : List Value) (w : World) (b g : Nat) (vt ve : Value) (M : List (Int × Pk)) (T E : List Int) : Prop where
  box : w.heap[b]? = some (.cells (Value.slice (some ⟨g, 0, none⟩) M.length M.length :: vt :: ve :: Y).toArray TB (0, 0))
  row : w.heap[g]? = some (.cells (rowG mbC M).toArray 95 (0, 0))
  turn : RowQ inC 1 w vt T
  fin : RowQ inC 1 w ve E
  h1 : b ≠ g
  f1 : ¬ OwnO vt b ∧ ¬ OwnO vt g
  f2 : ¬ OwnO ve b ∧ ¬ OwnO ve g
  f3 : Apart (OwnO vt) (OwnO ve)
/-- the mailboxes are those of s -/
structure BmS (M : List (Int × Pk)) (s : Bx) : Prop where
  hS : M.map (·.1) = s.S
  hP : M.map (·.2) = s.P
  full : s.Full
def bmO (b g : Nat) (vt ve : Value) : Nat → Prop := fun k => k = b ∨ k = g ∨ OwnO vt k ∨ OwnO ve k
def BmD (TB : TypeId) (Y : List Value) (w : World) (v : Value) (s : Bx) (O : Nat → Prop) : Prop := (∃ b g vt ve M, v = .pointer (some ⟨b, 0, none⟩) ∧ O = bmO b g vt ve ∧ BmM TB Y w b g vt ve M s.trn s.fin ∧ BmS M s)
section
variable {TB : TypeId} {Y : List Value} {w w' : World} {b g : Nat} {vt ve : Value} {M : List (Int × Pk)} {T E : List Int} {s : Bx}
theorem BmM.lt (h : BmM TB Y w b g vt ve M T E) : ∀ k, bmO b g vt ve k → k < w.heap.size := by
  rintro k (rfl | rfl | hk | hk)
  · exact heap_some_lt h.box
  · exact heap_some_lt h.row
  · exact h.turn.lt k hk
  · exact h.fin.lt k hk
theorem BmM.stay (h : BmM TB Y w b g vt ve M T E) (hs : ∀ k, bmO b g vt ve k → w'.heap[k]? = w.heap[k]?) : BmM TB Y w' b g vt ve M T E := by
  have hz : ∀ k, bmO b g vt ve k → k < w'.heap.size := fun k hk => by
    have h1 := hs k hk
    have h2 := h.lt k hk
    rw [Array.getElem?_eq_getElem h2] at h1
    exact heap_some_lt h1
  exact ⟨(hs b (.inl rfl)).trans h.box, (hs g (.inr (.inl rfl))).trans h.row, 
    h.turn.stayL (fun k hk => hs k (.inr (.inr (.inl hk)))) (fun k hk => hz k (.inr (.inr (.inl hk)))),
    h.fin.stayL (fun k hk => hs k (.inr (.inr (.inr hk)))) (fun k hk => hz k (.inr (.inr (.inr hk)))), h.h1, h.f1, h.f2, h.f3⟩
theorem BmM.later (h : BmM TB Y w b g vt ve M T E) (hb : Below w.heap.size w w') : BmM TB Y w' b g vt ve M T E := h.stay (fun k hk => hb.block k (h.lt k hk))
theorem isObj_bm : IsObj (BmD TB Y) where
  stay := by
    rintro w w' v s O ⟨b, g, vt, ve, M, rfl, rfl, h, hf⟩ hs
    exact ⟨b, g, vt, ve, M, rfl, rfl, h.stay hs, hf⟩
  lt := by
    rintro w v s O ⟨b, g, vt, ve, M, rfl, rfl, h, _⟩
    exact h.lt
theorem BmS.len (h : BmS M s) : M.length = s.S.length := by rw [← h.hS]; simp
theorem BmS.lenP (h : BmS M s) : M.length = s.P.length := by rw [← h.hP]; simp
theorem BmM.cells (h : BmM TB Y w b g vt ve M T E) : w.cell? ⟨b, 0, none⟩ = some (.slice (some ⟨g, 0, none⟩) M.length M.length) ∧ w.cell? ⟨b, 1, none⟩ = some vt ∧ w.cell? ⟨b, 2, none⟩ = some ve := by
  have hb := h.box
  refine ⟨?_, ?_, ?_⟩ <;> (rw [Lib.cell_of_heap hb]; simp)
theorem BmM.live (h : BmM TB Y w b g vt ve M T E) (j : Nat) : w.frozen? ⟨b, j, none⟩ = false := Lib.frozen_of_heap h.box j
theorem BmM.liveR (h : BmM TB Y w b g vt ve M T E) (j : Nat) : w.frozen? ⟨g, j, none⟩ = false := Lib.frozen_of_heap h.row j
theorem BmS.at_ (h : BmS M s) {i : Nat} (hi : i < s.S.length) : M[i]? = some (s.S.getD i 0, s.P.getD i pk0) := by
  have hl : i < M.length := by rw [h.len]; exact hi
  rw [List.getElem?_eq_getElem hl, ← h.hS, ← h.hP, List.getD_eq_getElem?_getD, List.getD_eq_getElem?_getD, List.getElem?_map, List.getElem?_map, List.getElem?_eq_getElem hl]
  rfl
/-- a mailbox's cells -/
theorem BmM.mail (h : BmM TB Y w b g vt ve M T E) {i : Nat} {x : Int} {p : Pk} (hx : M[i]? = some (x, p)) :
    w.cell? ⟨g, i * 8, none⟩ = some (.int .i64 x) ∧ w.cell? ⟨g, i * 8 + 1, none⟩ = some (.int .i64 p.f.i) ∧ w.cell? ⟨g, i * 8 + 2, none⟩ = some (.int .i64 p.f.n) ∧ w.cell? ⟨g, i * 8 + 3, none⟩ = some (.int .i64 p.f.l) ∧ w.cell? ⟨g, i * 8 + 4, none⟩ = some (.string p.f.d) ∧
    w.cell? ⟨g, i * 8 + 5, none⟩ = some (.int .i64 p.fr) ∧ w.cell? ⟨g, i * 8 + 6, none⟩ = some (.int .i64 p.tag) ∧ w.cell? ⟨g, i * 8 + 7, none⟩ = some (.bool p.lp) := by
  have key : ∀ j u, (mbC (x, p))[j]? = some u → w.cell? ⟨g, i * 8 + j, none⟩ = some u := fun j u hu => by
    rw [Lib.cell_of_heap h.row]
    simpa using rowG_get mbC_len M i _ hx j u hu
  exact ⟨key 0 _ rfl, key 1 _ rfl, key 2 _ rfl, key 3 _ rfl, key 4 _ rfl, key 5 _ rfl, key 6 _ rfl, key 7 _ rfl⟩
end
/-! ### what is stored -/
/-- a whole mailbox is stored -/
def putM (w : World) (g i : Nat) (x : Int) (p : Pk) : World :=
  (((((((w.setCell ⟨g, i * 8, none⟩ (.int .i64 x)).setCell ⟨g, i * 8 + 1, none⟩ (.int .i64 p.f.i)).setCell ⟨g, i * 8 + 2, none⟩ (.int .i64 p.f.n)).setCell ⟨g, i * 8 + 3, none⟩ (.int .i64 p.f.l)).setCell ⟨g, i * 8 + 4, none⟩ (.string p.f.d)).setCell ⟨g, i * 8 + 5, none⟩ (.int .i64 p.fr)).setCell ⟨g, i * 8 + 6, none⟩ (.int .i64 p.tag)).setCell ⟨g, i * 8 + 7, none⟩ (.bool p.lp)
theorem mb_split (m : Int × Pk) (L : List (Int × Pk)) : rowG mbC (m :: L) = mbC m ++ rowG mbC L := by simp [rowG]
theorem rowG_setM (x : Int) (p : Pk) : ∀ (N : List (Int × Pk)) (i : Nat), i < N.length → ((((((((rowG mbC N).set (i * 8) (.int .i64 x)).set (i * 8 + 1) (.int .i64 p.f.i)).set (i * 8 + 2) (.int .i64 p.f.n)).set (i * 8 + 3) (.int .i64 p.f.l)).set (i * 8 + 4) (.string p.f.d)).set (i * 8 + 5) (.int .i64 p.fr)).set (i * 8 + 6) (.int .i64 p.tag)).set (i * 8 + 7) (.bool p.lp) = rowG mbC (N.set i (x, p))
  | [], i, h => by cases h
  | a :: N, 0, h => rfl
  | a :: N, i + 1, h => by
    have ih := rowG_setM x p N i (by simpa using h)
    rw [List.set_cons_succ, mb_split, mb_split, ← ih]
    have l : (mbC a).length = 8 := rfl
    iterate 8 rw [List.set_append_right _ _ (by rw [l]; omega)]
    rw [l]
    congr 1
    rw [show (i + 1) * 8 - 8 = i * 8 by omega, show (i + 1) * 8 + 1 - 8 = i * 8 + 1 by omega, show (i + 1) * 8 + 2 - 8 = i * 8 + 2 by omega, show (i + 1) * 8 + 3 - 8 = i * 8 + 3 by omega, show (i + 1) * 8 + 4 - 8 = i * 8 + 4 by omega, show (i + 1) * 8 + 5 - 8 = i * 8 + 5 by omega, show (i + 1) * 8 + 6 - 8 = i * 8 + 6 by omega, show (i + 1) * 8 + 7 - 8 = i * 8 + 7 by omega]
theorem rowG_setS (x : Int) : ∀ (N : List (Int × Pk)) (i : Nat) {y : Int} {p : Pk}, N[i]? = some (y, p) → (rowG mbC N).set (i * 8) (.int .i64 x) = rowG mbC (N.set i (x, p))
  | [], i, _, _, h => by simp at h
  | a :: N, 0, y, p, h => by
    simp at h
    subst h
    rfl
  | a :: N, i + 1, y, p, h => by
    have ih := rowG_setS x N i (by simpa using h)
    have l : (mbC a).length = 8 := rfl
    rw [List.set_cons_succ, mb_split, mb_split, ← ih, List.set_append_right _ _ (by rw [l]; omega), l]
    congr 1
    rw [show (i + 1) * 8 - 8 = i * 8 by omega]
theorem putM_other {w : World} {g i k : Nat} {x : Int} {c : Pk} (h : k ≠ g) : (putM w g i x c).heap[k]? = w.heap[k]? := by
  unfold putM
  iterate 8 rw [Below.heap_setCell _ _ _ _ h]
theorem putM_size (w : World) (g i : Nat) (x : Int) (c : Pk) : (putM w g i x c).heap.size = w.heap.size := by unfold putM; simp [World.setCell]
theorem putM_rest (w : World) (g i : Nat) (x : Int) (c : Pk) : (putM w g i x c).os = w.os ∧ (putM w g i x c).tape = w.tape ∧ (putM w g i x c).output = w.output := by
  unfold putM
  refine ⟨?_, ?_, ?_⟩
  · iterate 8 rw [(setCell_rest1 _ _ _).1]
  · iterate 8 rw [(setCell_rest1 _ _ _).2.1]
  · iterate 8 rw [(setCell_rest1 _ _ _).2.2]
theorem putM_row {w : World} {g i : Nat} {M : List (Int × Pk)} {x : Int} {p : Pk} (h : w.heap[g]? = some (.cells (rowG mbC M).toArray 95 (0, 0))) (hi : i < M.length) : (putM w g i x p).heap[g]? = some (.cells (rowG mbC (M.set i (x, p))).toArray 95 (0, 0)) := by
  have a0 := heap_setCell_same w g (i * 8) _ _ (.int .i64 x) h
  have a1 := heap_setCell_same _ g (i * 8 + 1) _ _ (.int .i64 p.f.i) a0
  have a2 := heap_setCell_same _ g (i * 8 + 2) _ _ (.int .i64 p.f.n) a1
  have a3 := heap_setCell_same _ g (i * 8 + 3) _ _ (.int .i64 p.f.l) a2
  have a4 := heap_setCell_same _ g (i * 8 + 4) _ _ (.string p.f.d) a3
  have a5 := heap_setCell_same _ g (i * 8 + 5) _ _ (.int .i64 p.fr) a4
  have a6 := heap_setCell_same _ g (i * 8 + 6) _ _ (.int .i64 p.tag) a5
  have a7 := heap_setCell_same _ g (i * 8 + 7) _ _ (.bool p.lp) a6
  unfold putM
  rw [a7]
  simp only [List.setIfInBounds_toArray]
  rw [rowG_setM x p M i hi]
section
variable {TB : TypeId} {Y : List Value} {w w' : World} {b g : Nat} {vt ve v' : Value} {M : List (Int × Pk)} {T E T' : List Int}
theorem BmM.setTurn (h : BmM TB Y w b g vt ve M T E) (hq : RowQ inC 1 w' v' T') (hk : Kept (OwnO vt) w w') (hg : Grows (OwnO vt) w (OwnO v')) :
    BmM TB Y (w'.setCell ⟨b, 1, none⟩ v') b g v' ve M T' E ∧ Kept (bmO b g vt ve) w (w'.setCell ⟨b, 1, none⟩ v') ∧ Grows (bmO b g vt ve) w (bmO b g v' ve) := by
  have hz : w'.heap.size ≤ (w'.setCell ⟨b, 1, none⟩ v').heap.size := by simp [World.setCell]
  have ho : ∀ k, k ≠ b → (w'.setCell ⟨b, 1, none⟩ v').heap[k]? = w'.heap[k]? := fun k hk => Below.heap_setCell _ _ _ _ hk
  have hlt := h.lt
  obtain ⟨u1, u2⟩ := h.f1
  have nv : ∀ k, k < w.heap.size → ¬ OwnO vt k → ¬ OwnO v' k := fun k h1 h2 h3 => by rcases hg k h3 with h4 | h4; exact h2 h4; omega
  have lb := hlt b (.inl rfl)
  have lg := hlt g (.inr (.inl rfl))
  refine ⟨⟨?_, ?_, hq.stay (fun k hk' => ho k (fun e => nv b lb u1 (e ▸ hk'))) hz, ?_, h.h1, ⟨nv b lb u1, nv g lg u2⟩, h.f2, fun k h1 h2 => ?_⟩, ?_, ?_⟩
  · rw [heap_setCell_same w' b 1 _ _ _ ((hk.block b lb u1).trans h.box)]; simp
  · rw [ho g (fun e => h.h1 e.symm), hk.block g lg u2]; exact h.row
  · exact (h.fin.stay (fun k hk' => hk.block k (h.fin.lt k hk') (fun h6 => h.f3 k h6 hk')) hk.size).stay (fun k hk' => ho k (fun e => h.f2.1 (e ▸ hk'))) hz
  · exact nv k (h.fin.lt k h2) (fun h3 => h.f3 k h3 h2) h1
  · exact ⟨hk.os, hk.tape, hk.output, Nat.le_trans hk.size hz, fun k h1 h2 => (ho k (fun e => h2 (.inl e))).trans (hk.block k h1 (fun h3 => h2 (.inr (.inr (.inl h3)))))⟩
  · rintro k (h1 | h1 | h1 | h1)
    · exact .inl (.inl h1)
    · exact .inl (.inr (.inl h1))
    · exact (hg k h1).imp (fun h => .inr (.inr (.inl h))) id
    · exact .inl (.inr (.inr (.inr h1)))
theorem BmM.setFin (h : BmM TB Y w b g vt ve M T E) (hq : RowQ inC 1 w' v' T') (hk : Kept (OwnO ve) w w') (hg : Grows (OwnO ve) w (OwnO v')) :
    BmM TB Y (w'.setCell ⟨b, 2, none⟩ v') b g vt v' M T T' ∧ Kept (bmO b g vt ve) w (w'.setCell ⟨b, 2, none⟩ v') ∧ Grows (bmO b g vt ve) w (bmO b g vt v') := by
  have hz : w'.heap.size ≤ (w'.setCell ⟨b, 2, none⟩ v').heap.size := by simp [World.setCell]
  have ho : ∀ k, k ≠ b → (w'.setCell ⟨b, 2, none⟩ v').heap[k]? = w'.heap[k]? := fun k hk => Below.heap_setCell _ _ _ _ hk
  have hlt := h.lt
  obtain ⟨u1, u2⟩ := h.f2
  have nv : ∀ k, k < w.heap.size → ¬ OwnO ve k → ¬ OwnO v' k := fun k h1 h2 h3 => by rcases hg k h3 with h4 | h4; exact h2 h4; omega
  have lb := hlt b (.inl rfl)
  have lg := hlt g (.inr (.inl rfl))
  refine ⟨⟨?_, ?_, ?_, hq.stay (fun k hk' => ho k (fun e => nv b lb u1 (e ▸ hk'))) hz, h.h1, h.f1, ⟨nv b lb u1, nv g lg u2⟩, fun k h1 h2 => ?_⟩, ?_, ?_⟩
  · rw [heap_setCell_same w' b 2 _ _ _ ((hk.block b lb u1).trans h.box)]; simp
  · rw [ho g (fun e => h.h1 e.symm), hk.block g lg u2]; exact h.row
  · exact (h.turn.stay (fun k hk' => hk.block k (h.turn.lt k hk') (fun h6 => h.f3 k hk' h6)) hk.size).stay (fun k hk' => ho k (fun e => h.f1.1 (e ▸ hk'))) hz
  · exact nv k (h.turn.lt k h1) (fun h3 => h.f3 k h1 h3) h2
  · exact ⟨hk.os, hk.tape, hk.output, Nat.le_trans hk.size hz, fun k h1 h2 => (ho k (fun e => h2 (.inl e))).trans (hk.block k h1 (fun h3 => h2 (.inr (.inr (.inr h3)))))⟩
  · rintro k (h1 | h1 | h1 | h1)
    · exact .inl (.inl h1)
    · exact .inl (.inr (.inl h1))
    · exact .inl (.inr (.inr (.inl h1)))
    · exact (hg k h1).imp (fun h => .inr (.inr (.inr h))) id
theorem BmM.setRow {M' : List (Int × Pk)} (h : BmM TB Y w b g vt ve M T E) (e1 : w'.heap.size = w.heap.size) (e2 : w'.os = w.os ∧ w'.tape = w.tape ∧ w'.output = w.output) (ho : ∀ k, k ≠ g → w'.heap[k]? = w.heap[k]?) (hl : M'.length = M.length)
    (hr : w'.heap[g]? = some (.cells (rowG mbC M').toArray 95 (0, 0))) : BmM TB Y w' b g vt ve M' T E ∧ Kept (bmO b g vt ve) w w' := by
  refine ⟨⟨?_, hr, h.turn.stay (fun k hk => ho k (fun e => h.f1.2 (e ▸ hk))) (by omega), h.fin.stay (fun k hk => ho k (fun e => h.f2.2 (e ▸ hk))) (by omega), h.h1, h.f1, h.f2, h.f3⟩, ⟨e2.1, e2.2.1, e2.2.2, by omega, fun k _ hn => ho k (fun e => hn (.inr (.inl e)))⟩⟩
  rw [ho b h.h1, hl]; exact h.box
theorem BmM.setMail (h : BmM TB Y w b g vt ve M T E) {i : Nat} (hi : i < M.length) (x : Int) (p : Pk) : BmM TB Y (putM w g i x p) b g vt ve (M.set i (x, p)) T E ∧ Kept (bmO b g vt ve) w (putM w g i x p) :=
  h.setRow (putM_size _ _ _ _ _) (putM_rest _ _ _ _ _) (fun k hk => putM_other hk) (by simp) (putM_row h.row hi)
theorem BmM.setState (h : BmM TB Y w b g vt ve M T E) {i : Nat} {y : Int} {p : Pk} (hi : M[i]? = some (y, p)) (x : Int) : BmM TB Y (w.setCell ⟨g, i * 8, none⟩ (.int .i64 x)) b g vt ve (M.set i (x, p)) T E ∧ Kept (bmO b g vt ve) w (w.setCell ⟨g, i * 8, none⟩ (.int .i64 x)) := by
  refine h.setRow (by simp [World.setCell]) ⟨rfl, rfl, rfl⟩ (fun k hk => Below.heap_setCell _ _ _ _ hk) (by simp) ?_
  rw [heap_setCell_same w g (i * 8) _ _ _ h.row]
  simp only [List.setIfInBounds_toArray]
  rw [rowG_setS x M i hi]
end
end Go.Proofs.YtmmcjmejcngajaaGreatDoor
