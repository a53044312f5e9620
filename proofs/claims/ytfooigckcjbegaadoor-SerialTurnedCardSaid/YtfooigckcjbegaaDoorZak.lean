/- Serial: heads, what is sent, what is read of it by its places. Plain lists; no program is meant here. Serial, the document's side: Plain, bit, Head. Serial, the document's side: Send, number. -/
import Derived.Test.YtfooigckcjbegaaDoorZaj
import Derived.Test.YtfooigckcjbegaaDoorZab
import Derived.Test.YtfooigckcjbegaaDoorZac
import Derived.Test.YtfooigckcjbegaaDoorZad
import Derived.Test.YtfooigckcjbegaaDoorZaf
namespace Go.Proofs.YtfooigckcjbegaaDoor
open Go.RowKit
set_option linter.unusedVariables false

/-- which frames are sent bit by bit -/
def plainF (i n l : Int) (sz : Nat) : Bool := okF i n l sz && !fD n && !fX n
structure PlainP (i n l : Int) (sz : Nat) : Prop where
  n0 : 0 ≤ n
  n4 : n < 4
  fD : fD n = false
  fX : fX n = false
  i0 : 0 ≤ i
  i1 : i < 536870912
  i2 : fE n = false → i < 2048
  l0 : 0 ≤ l
  l8 : l ≤ 8
  dR : fR n = true → sz = 0
  dL : fR n = false → (sz : Int) = l
theorem plain_parts {i n l : Int} {sz : Nat} (h : plainF i n l sz = true) : PlainP i n l sz := by
  unfold plainF okF at h
  simp only [Bool.and_eq_true, Bool.not_eq_true'] at h
  obtain ⟨⟨⟨⟨⟨h1, h2⟩, h3⟩, h4⟩, h5⟩, h6⟩ := h
  unfold okFl at h1
  unfold idOk at h2
  unfold lenOk at h3
  unfold datOk at h4
  rw [h6, h5] at h1
  rw [if_neg (by rw [h6]; decide), if_neg (by rw [h5]; decide)] at h3
  simp only [Bool.and_eq_true, decide_eq_true_eq, Bool.not_eq_true', Bool.or_eq_false_iff, Bool.not_false, Bool.and_true] at h1 h2 h3
  have hB : fB n = false ∧ fS n = false := by
    have := h1.2
    simpa using this
  have h7 : n < 4 := by
    have e1 := hB.1; have e2 := hB.2; have e3 := h5; have e4 := h6
    unfold fB at e1; unfold fS at e2; unfold Go.Proofs.YtfooigckcjbegaaDoor.fD at e3; unfold Go.Proofs.YtfooigckcjbegaaDoor.fX at e4
    simp only [decide_eq_false_iff_not] at e1 e2 e3 e4
    omega
  have ht : topN n = if fE n then 536870911 else 2047 := by unfold topN; rw [h6]; simp
  rw [ht] at h2
  refine ⟨by omega, h7, h5, h6, h2.1, ?_, ?_, h3.1, h3.2, ?_, ?_⟩
  · have := h2.2; split at this <;> omega
  · intro he; rw [he] at h2; have := h2.2; simp at this; omega
  · intro hr; rw [hr] at h4; simpa using h4
  · intro hr; rw [hr] at h4; simpa using h4

/-! ### heads -/
def idL (i : Nat) (x : Bool) : List Int := if x then bitsI (i / 262144) 11 ++ ([49, 49] ++ bitsI (i % 262144) 18) else bitsI i 11
def datL : List Int → List Int
  | [] => []
  | c :: D => bitsI c.toNat 8 ++ datL D
def headL (i n l : Int) (D : List Int) : List Int := 48 :: (idL i.toNat (fE n) ++ (bitC (fR n) :: 48 :: 48 :: (bitsI l.toNat 4 ++ datL D)))
theorem datL_app : ∀ (A B : List Int), datL (A ++ B) = datL A ++ datL B
  | [], B => rfl
  | c :: A, B => by simp only [List.cons_append, datL, datL_app A B, List.append_assoc]
theorem datL_len : ∀ D : List Int, (datL D).length = 8 * D.length
  | [] => rfl
  | c :: D => by simp only [datL, List.length_append, bitsI_len, datL_len D, List.length_cons]; omega
theorem datL_bits : ∀ D : List Int, bitsB (datL D) = true
  | [] => rfl
  | c :: D => by rw [datL, bitsB_app, bitsI_bits, datL_bits D]; rfl
theorem idL_len (i : Nat) (x : Bool) : (idL i x).length = if x then 31 else 11 := by
  unfold idL
  cases x <;> simp [bitsI_len]
theorem idL_bits (i : Nat) (x : Bool) : bitsB (idL i x) = true := by
  unfold idL
  cases x
  · exact bitsI_bits _ _
  · rw [if_pos rfl, bitsB_app, bitsB_app, bitsI_bits, bitsI_bits]; rfl
theorem headL_len (i n l : Int) (D : List Int) : (headL i n l D).length = (if fE n then 39 else 19) + 8 * D.length := by
  unfold headL
  simp only [List.length_cons, List.length_append, idL_len, bitsI_len, datL_len]
  split <;> omega
theorem headL_bits (i n l : Int) (D : List Int) : bitsB (headL i n l D) = true := by
  unfold headL
  rw [bitsB_cons, bitsB_app, bitsB_cons, bitsB_cons, bitsB_cons, bitsB_app, idL_bits, bitsI_bits, datL_bits, bitC_bit]; rfl
theorem bitsI_inj {a b w : Nat} (ha : a < 2 ^ w) (hb : b < 2 ^ w) (h : bitsI a w = bitsI b w) : a = b := by
  have := congrArg toB h
  rw [toB_bitsI, toB_bitsI] at this
  rw [← num_bits ha, ← num_bits hb, this]
theorem datL_inj : ∀ {A B : List Int}, isBy A → isBy B → A.length = B.length → datL A = datL B → A = B
  | [], [], _, _, _, _ => rfl
  | a :: A, b :: B, hA, hB, hl, h => by
    simp only [datL] at h
    obtain ⟨h1, h2⟩ := List.append_inj h (by rw [bitsI_len, bitsI_len])
    have ha := hA a (List.mem_cons_self ..)
    have hb := hB b (List.mem_cons_self ..)
    have h3 := bitsI_inj (w := 8) (by omega) (by omega) h1
    rw [datL_inj (fun x hx => hA x (List.mem_cons_of_mem _ hx)) (fun x hx => hB x (List.mem_cons_of_mem _ hx)) (by simpa using hl) h2, show a = b by omega]
  | [], _ :: _, _, _, hl, _ => by cases hl
  | _ :: _, [], _, _, hl, _ => by cases hl
theorem flags_eq {n m : Int} (h0 : 0 ≤ n) (h1 : n < 4) (g0 : 0 ≤ m) (g1 : m < 4) (hE : fE n = fE m) (hR : fR n = fR m) : n = m := by
  unfold fE at hE
  unfold fR at hR
  rw [decide_eq_decide] at hE hR
  omega
theorem headL_inj {i n l i' n' l' : Int} {D D' : List Int} (hp : PlainP i n l D.length) (hp' : PlainP i' n' l' D'.length) (hD : isBy D) (hD' : isBy D') (h : headL i n l D = headL i' n' l' D') : i = i' ∧ n = n' ∧ l = l' ∧ D = D' := by
  unfold headL at h
  injection h with _ h
  have key : fE n = fE n' ∧ i = i' ∧ bitC (fR n) :: 48 :: 48 :: (bitsI l.toNat 4 ++ datL D) = bitC (fR n') :: 48 :: 48 :: (bitsI l'.toNat 4 ++ datL D') := by
    have a0 := hp.i0; have a1 := hp.i1; have a2 := hp.i2; have b0 := hp'.i0; have b1 := hp'.i1; have b2 := hp'.i2
    cases hE : fE n <;> cases hE' : fE n' <;> rw [hE, hE'] at h
    · have a3 := a2 hE; have b3 := b2 hE'
      obtain ⟨h1, h2⟩ := List.append_inj h (by rw [idL_len, idL_len])
      have h3 := bitsI_inj (w := 11) (by omega) (by omega) h1
      exact ⟨rfl, by omega, h2⟩
    · exfalso
      unfold idL at h
      rw [if_pos rfl, if_neg (by decide), List.append_assoc] at h
      obtain ⟨h1, h2⟩ := List.append_inj h (by rw [bitsI_len, bitsI_len])
      injection h2 with _ h2
      injection h2 with h2
      exact absurd h2 (by decide)
    · exfalso
      unfold idL at h
      rw [if_pos rfl, if_neg (by decide), List.append_assoc] at h
      obtain ⟨h1, h2⟩ := List.append_inj h (by rw [bitsI_len, bitsI_len])
      injection h2 with _ h2
      injection h2 with h2
      exact absurd h2 (by decide)
    · obtain ⟨h1, h2⟩ := List.append_inj h (by rw [idL_len, idL_len])
      unfold idL at h1
      rw [if_pos rfl, if_pos rfl] at h1
      obtain ⟨h3, h4⟩ := List.append_inj h1 (by rw [bitsI_len, bitsI_len])
      have h5 := bitsI_inj (w := 11) (by omega) (by omega) h3
      have h6 := bitsI_inj (w := 18) (by omega) (by omega) (List.append_cancel_left h4)
      exact ⟨rfl, by omega, h2⟩
  obtain ⟨hE, hi, h⟩ := key
  injection h with hr h
  injection h with _ h
  injection h with _ h
  have hR := bitC_inj.1 hr
  obtain ⟨h1, h2⟩ := List.append_inj h (by rw [bitsI_len, bitsI_len])
  have a0 := hp.l0; have a1 := hp.l8; have b0 := hp'.l0; have b1 := hp'.l8
  have hl := bitsI_inj (w := 4) (by omega) (by omega) h1
  refine ⟨hi, flags_eq hp.n0 hp.n4 hp'.n0 hp'.n4 hE hR, by omega, datL_inj hD hD' ?_ h2⟩
  cases hR1 : fR n
  · have c1 := hp.dL hR1; have c2 := hp'.dL (hR ▸ hR1); omega
  · rw [hp.dR hR1, hp'.dR (hR ▸ hR1)]

/-! ### what is sent -/
def checkL (H : List Int) : Nat := feedC 15 17817 0 (toB H)
def frameL (i n l : Int) (D : List Int) : List Int := headL i n l D ++ bitsI (checkL (headL i n l D)) 15
def tailL : List Int := [49, 48, 49, 49, 49, 49, 49, 49, 49, 49]
def sendL (i n l : Int) (D : List Int) : List Int := stuffL (frameL i n l D) ++ tailL
theorem frameL_bits (i n l : Int) (D : List Int) : bitsB (frameL i n l D) = true := by unfold frameL; rw [bitsB_app, headL_bits, bitsI_bits]; rfl
theorem frameL_len (i n l : Int) (D : List Int) : (frameL i n l D).length = (if fE n then 54 else 34) + 8 * D.length := by
  unfold frameL
  rw [List.length_append, headL_len, bitsI_len]
  split <;> omega
theorem frameL_feed (i n l : Int) (D : List Int) : feedC 15 17817 0 (toB (frameL i n l D)) = 0 := by
  unfold frameL
  rw [toB_app, feedC_app, toB_bitsI]
  exact feed_bits (feed_lt (by decide) _ 0 (by decide))
theorem frameL_inj {i n l i' n' l' : Int} {D D' : List Int} (hp : PlainP i n l D.length) (hp' : PlainP i' n' l' D'.length) (hD : isBy D) (hD' : isBy D') (h : frameL i n l D = frameL i' n' l' D') : i = i' ∧ n = n' ∧ l = l' ∧ D = D' := by
  unfold frameL at h
  exact headL_inj hp hp' hD hD' (List.append_inj' h (by rw [bitsI_len, bitsI_len])).1
theorem sendL_inj {i n l i' n' l' : Int} {D D' : List Int} (hp : PlainP i n l D.length) (hp' : PlainP i' n' l' D'.length) (hD : isBy D) (hD' : isBy D') (h : sendL i n l D = sendL i' n' l' D') : i = i' ∧ n = n' ∧ l = l' ∧ D = D' := by
  unfold sendL at h
  have h1 := List.append_cancel_right h
  exact frameL_inj hp hp' hD hD' (stG_inj (by decide) (frameL_bits ..) (frameL_bits ..) h1)
theorem sendL_len (i n l : Int) (D : List Int) : ((if fE n then 64 else 44) + 8 * D.length ≤ (sendL i n l D).length) ∧ 4 * ((sendL i n l D).length - ((if fE n then 64 else 44) + 8 * D.length)) ≤ (if fE n then 54 else 34) + 8 * D.length := by
  have h := stuff_len (frameL i n l D)
  have h2 := frameL_len i n l D
  unfold sendL
  rw [List.length_append, show tailL.length = 10 from rfl]
  rw [h2] at h
  cases hE : fE n <;> rw [hE] at h <;> simp at h ⊢ <;> omega
theorem One.app : ∀ {A B T : List Int}, A.length = B.length → bitsB T = true → One (A ++ T) (B ++ T) → One A B
  | [], [], T, _, hT, h => absurd h (One.irr hT)
  | a :: A, b :: B, T, hl, hT, h => by
    rcases h with ⟨h1, h2⟩ | ⟨h1, h2⟩
    · exact .inl ⟨h1, List.append_cancel_right h2⟩
    · exact .inr ⟨h1, One.app (by simpa using hl) hT h2⟩
  | [], _ :: _, _, hl, _, _ => by cases hl
  | _ :: _, [], _, hl, _, _ => by cases hl
/-- what is sent, with one bit turned, is not what is sent of any frame -/
theorem sendL_turned {i n l i' n' l' : Int} {D D' A B : List Int} {x : Int} (h : sendL i n l D = A ++ x :: B) (h' : sendL i' n' l' D' = A ++ oth x :: B) : False := by
  have h1 : One (sendL i n l D) (sendL i' n' l' D') := by rw [h, h']; exact One.at_ A B x
  have hl : (sendL i n l D).length = (sendL i' n' l' D').length := by rw [h, h']; simp
  unfold sendL at h1 hl
  rw [List.length_append, List.length_append] at hl
  refine turned_found (frameL_bits ..) (frameL_bits ..) ?_ (frameL_feed ..) (frameL_feed ..) (One.app (by omega) (by decide) h1)
  rw [frameL_len, frameL_len]
  split <;> split <;> omega

/-! ### by their places -/
def numAt (b : List Int) (k m : Nat) : Int := if b.length < k + m then -1 else (numA 0 (toB ((b.drop k).take m)) : Nat)
theorem numAt_mid {b X Y Z : List Int} {k m : Nat} (hb : b = X ++ (Y ++ Z)) (hk : X.length = k) (hm : Y.length = m) : numAt b k m = (numA 0 (toB Y) : Nat) := by
  subst hb; subst hk; subst hm
  unfold numAt
  rw [if_neg (by simp), List.drop_left, List.take_left]
theorem numAt_bits {b X Z : List Int} {k m a : Nat} (hb : b = X ++ (bitsI a m ++ Z)) (hk : X.length = k) (ha : a < 2 ^ m) : numAt b k m = a := by
  rw [numAt_mid hb hk (bitsI_len a m), toB_bitsI, num_bits ha]
theorem numAt_one {b X Z : List Int} {k : Nat} {c : Bool} (hb : b = X ++ (bitC c :: Z)) (hk : X.length = k) : numAt b k 1 = if c then 1 else 0 := by
  have h := numAt_mid (m := 1) (Y := [bitC c]) hb hk rfl
  rw [h]
  cases c <;> rfl
/-- a frame by its places, some bits behind it -/
theorem places_n {i n l : Int} {D C : List Int} (hp : PlainP i n l D.length) (hE : fE n = false) :
    numAt (headL i n l D ++ C) 1 11 = i ∧ numAt (headL i n l D ++ C) 12 1 = (if fR n then 1 else 0) ∧ numAt (headL i n l D ++ C) 13 1 = 0 ∧ numAt (headL i n l D ++ C) 15 4 = l := by
  have h0 := hp.i0; have h1 := hp.i2 hE; have h2 := hp.l0; have h3 := hp.l8
  unfold headL idL
  rw [hE, if_neg (by decide)]
  refine ⟨?_, ?_, ?_, ?_⟩
  · rw [numAt_bits (k := 1) (X := [48]) (a := i.toNat) (Z := bitC (fR n) :: 48 :: 48 :: (bitsI l.toNat 4 ++ datL D) ++ C) (by simp) rfl (by omega)]; omega
  · exact numAt_one (X := 48 :: bitsI i.toNat 11) (Z := 48 :: 48 :: (bitsI l.toNat 4 ++ datL D) ++ C) (by simp) (by simp [bitsI_len])
  · exact numAt_one (X := 48 :: bitsI i.toNat 11 ++ [bitC (fR n)]) (c := false) (Z := 48 :: (bitsI l.toNat 4 ++ datL D) ++ C) (by simp [bitC]) (by simp [bitsI_len])
  · rw [numAt_bits (X := 48 :: bitsI i.toNat 11 ++ [bitC (fR n), 48, 48]) (a := l.toNat) (Z := datL D ++ C) (by simp) (by simp [bitsI_len]) (by omega)]; omega
theorem places_w {i n l : Int} {D C : List Int} (hp : PlainP i n l D.length) (hE : fE n = true) :
    numAt (headL i n l D ++ C) 1 11 = i / 262144 ∧ numAt (headL i n l D ++ C) 13 1 = 1 ∧ numAt (headL i n l D ++ C) 14 18 = i % 262144 ∧ numAt (headL i n l D ++ C) 32 1 = (if fR n then 1 else 0) ∧ numAt (headL i n l D ++ C) 35 4 = l := by
  have h0 := hp.i0; have h1 := hp.i1; have h2 := hp.l0; have h3 := hp.l8
  unfold headL idL
  rw [hE, if_pos rfl]
  refine ⟨?_, ?_, ?_, ?_, ?_⟩
  · rw [numAt_bits (k := 1) (X := [48]) (a := i.toNat / 262144) (Z := [49, 49] ++ bitsI (i.toNat % 262144) 18 ++ (bitC (fR n) :: 48 :: 48 :: (bitsI l.toNat 4 ++ datL D)) ++ C) (by simp) rfl (by omega)]; omega
  · exact numAt_one (X := 48 :: bitsI (i.toNat / 262144) 11 ++ [49]) (c := true) (Z := bitsI (i.toNat % 262144) 18 ++ (bitC (fR n) :: 48 :: 48 :: (bitsI l.toNat 4 ++ datL D)) ++ C) (by simp [bitC]) (by simp [bitsI_len])
  · rw [numAt_bits (X := 48 :: bitsI (i.toNat / 262144) 11 ++ [49, 49]) (a := i.toNat % 262144) (Z := bitC (fR n) :: 48 :: 48 :: (bitsI l.toNat 4 ++ datL D) ++ C) (by simp) (by simp [bitsI_len]) (by omega)]; omega
  · exact numAt_one (X := 48 :: bitsI (i.toNat / 262144) 11 ++ [49, 49] ++ bitsI (i.toNat % 262144) 18) (Z := 48 :: 48 :: (bitsI l.toNat 4 ++ datL D) ++ C) (by simp) (by simp [bitsI_len])
  · rw [numAt_bits (X := 48 :: bitsI (i.toNat / 262144) 11 ++ [49, 49] ++ bitsI (i.toNat % 262144) 18 ++ [bitC (fR n), 48, 48]) (a := l.toNat) (Z := datL D ++ C) (by simp) (by simp [bitsI_len]) (by omega)]; omega
/-- its bytes -/
theorem places_d {i n l : Int} {D C : List Int} (hD : isBy D) (k : Nat) (hk : k < D.length) : numAt (headL i n l D ++ C) ((if fE n then 39 else 19) + 8 * k) 8 = D.getD k 0 := by
  have hb := hD D[k] (List.getElem_mem hk)
  have e : D = D.take k ++ D[k] :: D.drop (k + 1) := by rw [List.getElem_cons_drop, List.take_append_drop]
  have e2 : headL i n l D ++ C = (headL i n l (D.take k)) ++ (bitsI (D[k]).toNat 8 ++ (datL (D.drop (k + 1)) ++ C)) := by
    unfold headL
    conv => lhs; rw [e]
    rw [datL_app, datL]
    simp
  rw [numAt_bits e2 (by rw [headL_len, List.length_take, Nat.min_eq_left (by omega)]) (by omega), List.getD_eq_getElem?_getD, List.getElem?_eq_getElem hk]
  show ((D[k].toNat : Nat) : Int) = D[k]
  omega

end Go.Proofs.YtfooigckcjbegaaDoor

namespace Go.Proofs.YtfooigckcjbegaaDoor
open Go.RowKit
set_option linter.unusedVariables false

/-! ### a frame behind an address -/
def BoxF (w : World) (b : Nat) (i n l : Int) (d : ByteArray) : Prop := w.heap[b]? = some (.cells #[.int .i64 i, .int .i64 n, .int .i64 l, .string d] 23 (0, 0))
theorem BoxF.made (w : World) (i n l : Int) (d : ByteArray) : BoxF (w.alloc (.cells #[.int .i64 i, .int .i64 n, .int .i64 l, .string d] 23)) w.heap.size i n l d := by unfold BoxF World.alloc; simp
theorem BoxF.lt {w : World} {b : Nat} {i n l : Int} {d : ByteArray} (h : BoxF w b i n l d) : b < w.heap.size := (Array.getElem?_eq_some_iff.1 h).1
theorem BoxF.below {w w' : World} {b B : Nat} {i n l : Int} {d : ByteArray} (h : BoxF w b i n l d) (hb : Below B w w') (hB : b < B) : BoxF w' b i n l d := (hb.block b hB).trans h
theorem BoxF.later {w w' : World} {b : Nat} {i n l : Int} {d : ByteArray} (h : BoxF w b i n l d) (hb : Below w.heap.size w w') : BoxF w' b i n l d := h.below hb h.lt
theorem BoxF.cells {w : World} {b : Nat} {i n l : Int} {d : ByteArray} (h : BoxF w b i n l d) : w.cell? ⟨b, 0, none⟩ = some (.int .i64 i) ∧ w.cell? ⟨b, 1, none⟩ = some (.int .i64 n) ∧ w.cell? ⟨b, 2, none⟩ = some (.int .i64 l) ∧ w.cell? ⟨b, 3, none⟩ = some (.string d) := by
  unfold BoxF at h
  refine ⟨?_, ?_, ?_, ?_⟩ <;> (rw [Lib.cell_of_heap h]; rfl)

/-! ### bit, Plain -/
theorem sbit_v {q : Bool} {t : ByteArray} (h : strOfNums [bitC q] = t) (w : World) : Calls Tryd.prog 27 #[.bool q] w fun e w' => e = .returned (.string t) ∧ w = w' := by
  subst h
  cases q
  · go_enter Tryd.func27, Tryd.ntmps27
    go_wp2
    go_ret
    exact ⟨rfl, rfl⟩
  · go_enter Tryd.func27, Tryd.ntmps27
    go_wp2
    go_ret
    exact ⟨rfl, rfl⟩
theorem ok_bounds {i n l : Int} {sz : Nat} (h : okF i n l sz = true) : 0 ≤ n ∧ n ≤ 63 := by
  unfold okF okFl at h
  simp only [Bool.and_eq_true, decide_eq_true_eq] at h
  exact ⟨h.1.1.1.1.1.1.1, h.1.1.1.1.1.1.2⟩
set_option maxHeartbeats 1000000 in
theorem splain_v {i n l : Int} {d : ByteArray} {q : Bool} (h : plainF i n l d.size = q) (w : World) :
    Calls Tryd.prog 10 #[.agg #[.int .i64 i, .int .i64 n, .int .i64 l, .string d]] w fun e w' => e = .returned (.bool q) ∧ Below w.heap.size w w' := by
  subst h
  cases hk : okF i n l d.size
  · have HK := Lib.hid hk
    have HQ : Hid (false = plainF i n l d.size) := Lib.hid (by unfold plainF; rw [hk]; rfl)
    clear hk
    go_enter Tryd.func10, Tryd.ntmps10
    go_wp2_with fail
    refine (rright_v HK.out _).mono ?_
    rintro e w1 ⟨rfl, hb⟩
    go_wp2
    go_ret
    exact ⟨fret_bool HQ.out, fbelow_a _ hb⟩
  obtain ⟨n0, n1⟩ := ok_bounds hk
  have HK := Lib.hid hk
  cases hD : fD n
  · have HD := Lib.hid hD
    obtain ⟨x, hx⟩ : ∃ x, fX n = x := ⟨_, rfl⟩
    have HX := Lib.hid hx
    have HQ : Hid ((!x) = plainF i n l d.size) := Lib.hid (by unfold plainF; rw [hk, hD, hx]; rfl)
    clear hk hD hx
    go_enter Tryd.func10, Tryd.ntmps10
    go_wp2_with fail
    refine (rright_v HK.out _).mono ?_
    rintro e w1 ⟨rfl, hb1⟩
    obtain ⟨hc1, hf1⟩ := fbcell hb1
    have hz1 : w.heap.size < w1.heap.size := by have := hb1.size; simp only [World.size_alloc] at this; omega
    go_wp2_with fail
    refine (has8 HD.out n0 n1 _ _ _ _).mono ?_
    rintro e w2 ⟨rfl, hb2⟩
    obtain ⟨hc2, hf2⟩ := fbcell hb2
    go_wp2_with fail
    refine (has4 HX.out n0 n1 _ _ _ _).mono ?_
    rintro e w3 ⟨rfl, hb3⟩
    go_wp2
    go_ret
    exact ⟨fret_bool HQ.out, fbelow_t (fbelow_t (fbelow_a _ hb1) hb2) hb3⟩
  · have HD := Lib.hid hD
    have HQ : Hid (false = plainF i n l d.size) := Lib.hid (by unfold plainF; rw [hk, hD]; rfl)
    clear hk hD
    go_enter Tryd.func10, Tryd.ntmps10
    go_wp2_with fail
    refine (rright_v HK.out _).mono ?_
    rintro e w1 ⟨rfl, hb1⟩
    obtain ⟨hc1, hf1⟩ := fbcell hb1
    have hz1 : w.heap.size < w1.heap.size := by have := hb1.size; simp only [World.size_alloc] at this; omega
    go_wp2_with fail
    refine (has8 HD.out n0 n1 _ _ _ _).mono ?_
    rintro e w2 ⟨rfl, hb2⟩
    go_wp2
    go_ret
    exact ⟨fret_bool HQ.out, fbelow_t (fbelow_a _ hb1) hb2⟩

/-! ### Head -/
theorem bitsS_t {n w : Int} (h0 : 0 ≤ n) (h1 : 0 ≤ w) (h2 : w ≤ 60) : bitsS n w = strOfNums (bitsI n.toNat w.toNat) := by unfold bitsS; rw [if_pos ⟨h0, h1, h2⟩]
theorem headL_snoc (i n l : Int) (A : List Int) (c : Int) : headL i n l (A ++ [c]) = headL i n l A ++ bitsI c.toNat 8 := by
  unfold headL
  rw [datL_app]
  simp [datL]
theorem headL_nil (i n l : Int) : headL i n l [] = 48 :: (idL i.toNat (fE n) ++ [bitC (fR n), 48, 48] ++ bitsI l.toNat 4) := by unfold headL; simp [datL]
theorem bt_byte (s : ByteArray) (k : Nat) : 0 ≤ bt s k ∧ bt s k < 256 := by
  unfold bt
  refine ⟨Int.natCast_nonneg _, ?_⟩
  have := UInt8.toNat_lt (s.data.toList[k]?.getD 0)
  omega

set_option maxHeartbeats 4000000 in
theorem shead_n {i n l : Int} {d t : ByteArray} (hp : PlainP i n l d.size) (hE : fE n = false) (h : strOfNums (headL i n l (byL d)) = t) (w : World) :
    Calls Tryd.prog 13 #[.agg #[.int .i64 i, .int .i64 n, .int .i64 l, .string d]] w fun e w' => e = .returned (.string t) ∧ Below w.heap.size w w' := by
  have i0 := hp.i0
  have i1 := hp.i1
  have l0 := hp.l0
  have l8 := hp.l8
  have n0 := hp.n0
  have n1 : n ≤ 63 := by have := hp.n4; omega
  have hd8 : (d.size : Int) ≤ 8 := by
    cases hr : fR n
    · have := hp.dL hr; omega
    · have := hp.dR hr; omega
  have HE := Lib.hid hE
  obtain ⟨r, hr⟩ : ∃ r, fR n = r := ⟨_, rfl⟩
  have HR := Lib.hid hr
  have H := Lib.hid h
  obtain ⟨tr, htr⟩ : ∃ tr, strOfNums [bitC r] = tr := ⟨_, rfl⟩
  have HTR := Lib.hid htr
  obtain ⟨tl4, htl⟩ : ∃ tl4, bitsS l 4 = tl4 := ⟨_, rfl⟩
  have HTL := Lib.hid htl
  have hnl := headL_nil i n l
  have hl8 : l < 9223372036854775808 := by omega
  obtain ⟨ta, hta⟩ : ∃ ta, bitsS i 11 = ta := ⟨_, rfl⟩
  have HTA := Lib.hid hta
  have HI1 : Hid (i < 9223372036854775808) := Lib.hid (by omega)
  obtain ⟨y1, hy1⟩ : ∃ y, ByteArray.mk #[48] ++ ta = y := ⟨_, rfl⟩
  have e1 : y1 = strOfNums (48 :: idL i.toNat (fE n)) := by
    rw [← hy1, ← hta, bitsS_t i0 (by decide) (by decide), hE]
    have e : ByteArray.mk #[48] = strOfNums [48] := rfl
    rw [e, ← nums_app]
    rfl
  obtain ⟨y2, hy2⟩ : ∃ y, y1 ++ tr = y := ⟨_, rfl⟩
  obtain ⟨y3, hy3⟩ : ∃ y, y2 ++ ByteArray.mk #[48, 48] = y := ⟨_, rfl⟩
  obtain ⟨y4, hy4⟩ : ∃ y, y3 ++ tl4 = y := ⟨_, rfl⟩
  have e4 : strOfNums (headL i n l []) = y4 := by
    have f : ByteArray.mk #[48, 48] = strOfNums [48, 48] := rfl
    rw [← hy4, ← hy3, ← hy2, e1, ← htr, ← htl, f, bitsS_t l0 (by decide) (by decide), ← nums_app, ← nums_app, ← nums_app, hnl, hr]
    congr 1
    simp
  have H4 := Lib.hid e4
  have zr : tr.size = 1 := by rw [← htr, numsz]; rfl
  have zl : tl4.size = 4 := by rw [← htl, bitsS_t l0 (by decide) (by decide), numsz, bitsI_len]; rfl
  have z48 : (ByteArray.mk #[48]).size = 1 := rfl
  have z4848 : (ByteArray.mk #[48, 48]).size = 2 := rfl
  have za : ta.size = 11 := by rw [← hta, bitsS_t i0 (by decide) (by decide), numsz, bitsI_len]; rfl
  have zy1 : y1.size = 12 := by rw [← hy1, ByteArray.size_append, za]; rfl
  have zy2 : y2.size = 13 := by rw [← hy2, ByteArray.size_append, zy1, zr]
  have zy3 : y3.size = 15 := by rw [← hy3, ByteArray.size_append, zy2]; rfl
  have s4 : ¬ 9223372036854775807 < y1.size + tr.size := by omega
  have s5 : ¬ 9223372036854775807 < y2.size + (ByteArray.mk #[48, 48]).size := by omega
  have s6 : ¬ 9223372036854775807 < y3.size + tl4.size := by omega
  clear hp hE h hr htr htl hta e1 e4 hnl
  go_enter Tryd.func13, Tryd.ntmps13
  go_wp2_with fail
  refine (has1 HE.out n0 n1 _ _ _ _).mono ?_
  rintro e w1 ⟨rfl, hb1⟩
  have HF1 := Lib.hid ((BoxF.made w i n l d).later hb1)
  have HB1 := Lib.hid (fbelow_a _ hb1)
  obtain ⟨a0, a1, a2, a3⟩ := HF1.out.cells
  have hz1 : w.heap.size < w1.heap.size := HF1.out.lt
  clear hb1
  go_wp2_with fail
  refine (cbits_v HTA.out HI1.out _).mono ?_
  rintro e w2 ⟨rfl, hb2⟩
  have HF2 := Lib.hid (HF1.out.later hb2)
  have HB2 := Lib.hid (fbelow_t HB1.out hb2)
  clear hb2 a0 a1 a2 a3 hz1
  obtain ⟨a0, a1, a2, a3⟩ := HF2.out.cells
  have hz2 : w.heap.size < w2.heap.size := HF2.out.lt
  have hcl : ∀ (n : Later w2) (b o : Nat), b < w2.heap.size → n.w.cell? ⟨b, o, none⟩ = w2.cell? ⟨b, o, none⟩ := later_cells w2
  go_wp2_with fail
  refine wp_region_later (by kernel_rfl) (by kernel_rfl) ?_
  repeat (go_big_quiet_step (fail))
  go_big_quiet_step (exact Later.call (has2 HR.out n0 n1 _ _ _ _))
  repeat (go_big_quiet_step (fail))
  go_big_quiet_step (exact Later.same (sbit_v HTR.out _))
  repeat (go_big_quiet_step (fail))
  go_big_quiet_step (exact Later.call (cbits_v HTL.out hl8 _))
  repeat (go_big_quiet_step (fail))
  refine wpQuiet_nil ?_
  rintro w3 ⟨l2, rfl⟩
  have HF3 := Lib.hid (HF2.out.later l2.h)
  have HB3 := Lib.hid (fbelow_t HB2.out l2.h)
  generalize l2.w = w3 at HF3 HB3 ⊢
  clear l2 hcl a0 a1 a2 a3 hz2
  go_wp2_with fail
  go_loopw [3, 4] (fun s k wr => ∃ x : Nat, x ≤ d.size ∧ k = .int .i64 x ∧ s = .string (strOfNums (headL i n l ((byL d).take x))) ∧ Hid (BoxF wr w.heap.size i n l d ∧ Below w.heap.size w wr)) (fun _ k _ => d.size - (intOf k).toNat)
  case atStart => exact ⟨0, Nat.zero_le _, rfl, by rw [List.take_zero, H4.out], Lib.hid ⟨HF3.out, HB3.out⟩⟩
  case round =>
    obtain ⟨x, hx, rfl, rfl, HI⟩ := hrel
    obtain ⟨a0, a1, a2, a3⟩ := HI.out.1.cells
    by_cases hlt : x < d.size
    · have hix : ∀ w, (Instr.index 9 (.string d) (.int .i64 x)).run Tryd.prog w = .ok (.int .u8 (bt d x)) w := fun w => index_bt Tryd.underlying9 hlt w
      obtain ⟨c0, c1⟩ := bt_byte d x
      have HS : Hid (strOfNums (headL i n l ((byL d).take (x + 1))) = strOfNums (headL i n l ((byL d).take x)) ++ strOfNums (bitsI (bt d x).toNat 8)) := Lib.hid (by rw [byL_take hlt, headL_snoc, nums_app])
      have zs : (strOfNums (headL i n l ((byL d).take x))).size ≤ 200 := by
        rw [numsz, headL_len, List.length_take, byL_len]
        split <;> omega
      generalize strOfNums (headL i n l ((byL d).take x)) = s at HS zs
      generalize bt d x = c at hix HS c0 c1
      obtain ⟨tc, htc⟩ : ∃ tc, bitsS c 8 = tc := ⟨_, rfl⟩
      have zc : tc.size = 8 := by rw [← htc, bitsS_t c0 (by decide) (by decide), numsz, bitsI_len]; rfl
      have HTC := Lib.hid htc
      have HS2 : Hid (strOfNums (headL i n l ((byL d).take (x + 1))) = s ++ tc) := Lib.hid (by rw [HS.out, ← htc, bitsS_t c0 (by decide) (by decide)]; rfl)
      have hc9 : c < 9223372036854775808 := by omega
      have sc : ¬ 9223372036854775807 < s.size + tc.size := by omega
      clear HS htc
      have hz : w.heap.size < wr.heap.size := HI.out.1.lt
      go_wp2_with fail
      refine (cbits_v HTC.out hc9 _).mono ?_
      rintro e w5 ⟨rfl, hb5⟩
      have HI2 := Lib.hid (And.intro (HI.out.1.later hb5) (fbelow_t HI.out.2 hb5))
      clear hb5
      go_wp2
      go_roundw
      case rel => exact ⟨x + 1, by omega, by go_num, by rw [HS2.out], HI2⟩
      case measure => simp [intOf]; omega
    · obtain rfl : x = d.size := by omega
      have HQ : Hid (strOfNums (headL i n l ((byL d).take d.size)) = t) := Lib.hid (by rw [List.take_of_length_le (by rw [byL_len]; omega)]; exact H.out)
      go_wp2
      go_ret
      exact ⟨fret_str HQ.out, HI.out.2⟩

set_option maxHeartbeats 4000000 in
theorem shead_w {i n l : Int} {d t : ByteArray} (hp : PlainP i n l d.size) (hE : fE n = true) (h : strOfNums (headL i n l (byL d)) = t) (w : World) :
    Calls Tryd.prog 13 #[.agg #[.int .i64 i, .int .i64 n, .int .i64 l, .string d]] w fun e w' => e = .returned (.string t) ∧ Below w.heap.size w w' := by
  have i0 := hp.i0
  have i1 := hp.i1
  have l0 := hp.l0
  have l8 := hp.l8
  have n0 := hp.n0
  have n1 : n ≤ 63 := by have := hp.n4; omega
  have hd8 : (d.size : Int) ≤ 8 := by
    cases hr : fR n
    · have := hp.dL hr; omega
    · have := hp.dR hr; omega
  have HE := Lib.hid hE
  obtain ⟨r, hr⟩ : ∃ r, fR n = r := ⟨_, rfl⟩
  have HR := Lib.hid hr
  have H := Lib.hid h
  obtain ⟨tr, htr⟩ : ∃ tr, strOfNums [bitC r] = tr := ⟨_, rfl⟩
  have HTR := Lib.hid htr
  obtain ⟨tl4, htl⟩ : ∃ tl4, bitsS l 4 = tl4 := ⟨_, rfl⟩
  have HTL := Lib.hid htl
  have hnl := headL_nil i n l
  have hl8 : l < 9223372036854775808 := by omega
  have htm : i.tmod 262144 = i % 262144 := Int.tmod_eq_emod_of_nonneg i0
  have htd : i.tdiv 262144 = i / 262144 := Int.tdiv_eq_ediv_of_nonneg i0
  obtain ⟨ta, hta⟩ : ∃ ta, bitsS (i / 262144) 11 = ta := ⟨_, rfl⟩
  have HTA := Lib.hid hta
  obtain ⟨tb, htb⟩ : ∃ tb, bitsS (i % 262144) 18 = tb := ⟨_, rfl⟩
  have HTB := Lib.hid htb
  have HI1 : Hid (i / 262144 < 9223372036854775808) := Lib.hid (by omega)
  have HI2 : Hid (i % 262144 < 9223372036854775808) := Lib.hid (by omega)
  obtain ⟨x1, hx1⟩ : ∃ y, ByteArray.mk #[48] ++ ta = y := ⟨_, rfl⟩
  obtain ⟨x2, hx2⟩ : ∃ y, x1 ++ ByteArray.mk #[49, 49] = y := ⟨_, rfl⟩
  obtain ⟨y1, hy1⟩ : ∃ y, x2 ++ tb = y := ⟨_, rfl⟩
  have e1 : y1 = strOfNums (48 :: idL i.toNat (fE n)) := by
    rw [← hy1, ← hx2, ← hx1, ← hta, ← htb, bitsS_t (by omega) (by decide) (by decide), bitsS_t (by omega) (by decide) (by decide), hE]
    have q1 : (i / 262144).toNat = i.toNat / 262144 := by omega
    have q2 : (i % 262144).toNat = i.toNat % 262144 := by omega
    have e : ByteArray.mk #[48] = strOfNums [48] := rfl
    have f : ByteArray.mk #[49, 49] = strOfNums [49, 49] := rfl
    rw [e, f, q1, q2, ← nums_app, ← nums_app, ← nums_app]
    unfold idL
    simp
  obtain ⟨y2, hy2⟩ : ∃ y, y1 ++ tr = y := ⟨_, rfl⟩
  obtain ⟨y3, hy3⟩ : ∃ y, y2 ++ ByteArray.mk #[48, 48] = y := ⟨_, rfl⟩
  obtain ⟨y4, hy4⟩ : ∃ y, y3 ++ tl4 = y := ⟨_, rfl⟩
  have e4 : strOfNums (headL i n l []) = y4 := by
    have f : ByteArray.mk #[48, 48] = strOfNums [48, 48] := rfl
    rw [← hy4, ← hy3, ← hy2, e1, ← htr, ← htl, f, bitsS_t l0 (by decide) (by decide), ← nums_app, ← nums_app, ← nums_app, hnl, hr]
    congr 1
    simp
  have H4 := Lib.hid e4
  have zr : tr.size = 1 := by rw [← htr, numsz]; rfl
  have zl : tl4.size = 4 := by rw [← htl, bitsS_t l0 (by decide) (by decide), numsz, bitsI_len]; rfl
  have z48 : (ByteArray.mk #[48]).size = 1 := rfl
  have z4848 : (ByteArray.mk #[48, 48]).size = 2 := rfl
  have za : ta.size = 11 := by rw [← hta, bitsS_t (by omega) (by decide) (by decide), numsz, bitsI_len]; rfl
  have zb : tb.size = 18 := by rw [← htb, bitsS_t (by omega) (by decide) (by decide), numsz, bitsI_len]; rfl
  have z4949 : (ByteArray.mk #[49, 49]).size = 2 := rfl
  have zx1 : x1.size = 12 := by rw [← hx1, ByteArray.size_append, za]; rfl
  have zx2 : x2.size = 14 := by rw [← hx2, ByteArray.size_append, zx1]; rfl
  have zy1 : y1.size = 32 := by rw [← hy1, ByteArray.size_append, zx2, zb]
  have zy2 : y2.size = 33 := by rw [← hy2, ByteArray.size_append, zy1, zr]
  have zy3 : y3.size = 35 := by rw [← hy3, ByteArray.size_append, zy2]; rfl
  have s1 : ¬ 9223372036854775807 < (ByteArray.mk #[48]).size + ta.size := by omega
  have s2 : ¬ 9223372036854775807 < x1.size + (ByteArray.mk #[49, 49]).size := by omega
  have s3 : ¬ 9223372036854775807 < x2.size + tb.size := by omega
  have s4 : ¬ 9223372036854775807 < y1.size + tr.size := by omega
  have s5 : ¬ 9223372036854775807 < y2.size + (ByteArray.mk #[48, 48]).size := by omega
  have s6 : ¬ 9223372036854775807 < y3.size + tl4.size := by omega
  clear hp hE h hr htr htl hta e1 e4 hnl htb
  go_enter Tryd.func13, Tryd.ntmps13
  go_wp2_with fail
  refine (has1 HE.out n0 n1 _ _ _ _).mono ?_
  rintro e w1 ⟨rfl, hb1⟩
  have HF1 := Lib.hid ((BoxF.made w i n l d).later hb1)
  have HB1 := Lib.hid (fbelow_a _ hb1)
  obtain ⟨a0, a1, a2, a3⟩ := HF1.out.cells
  have hz1 : w.heap.size < w1.heap.size := HF1.out.lt
  clear hb1
  have hcl : ∀ (n : Later w1) (b o : Nat), b < w1.heap.size → n.w.cell? ⟨b, o, none⟩ = w1.cell? ⟨b, o, none⟩ := later_cells w1
  go_wp2_with fail
  refine wp_region_later (by kernel_rfl) (by kernel_rfl) ?_
  repeat (go_big_quiet_step (fail))
  go_big_quiet_step (exact Later.call (cbits_v HTA.out HI1.out _))
  repeat (go_big_quiet_step (fail))
  go_big_quiet_step (exact Later.call (cbits_v HTB.out HI2.out _))
  repeat (go_big_quiet_step (fail))
  refine wpQuiet_nil ?_
  rintro w2 ⟨l1, rfl⟩
  have HF2 := Lib.hid (HF1.out.later l1.h)
  have HB2 := Lib.hid (fbelow_t HB1.out l1.h)
  generalize l1.w = w2 at HF2 HB2 ⊢
  clear l1 hcl a0 a1 a2 a3 hz1
  obtain ⟨a0, a1, a2, a3⟩ := HF2.out.cells
  have hz2 : w.heap.size < w2.heap.size := HF2.out.lt
  have hcl : ∀ (n : Later w2) (b o : Nat), b < w2.heap.size → n.w.cell? ⟨b, o, none⟩ = w2.cell? ⟨b, o, none⟩ := later_cells w2
  go_wp2_with fail
  refine wp_region_later (by kernel_rfl) (by kernel_rfl) ?_
  repeat (go_big_quiet_step (fail))
  go_big_quiet_step (exact Later.call (has2 HR.out n0 n1 _ _ _ _))
  repeat (go_big_quiet_step (fail))
  go_big_quiet_step (exact Later.same (sbit_v HTR.out _))
  repeat (go_big_quiet_step (fail))
  go_big_quiet_step (exact Later.call (cbits_v HTL.out hl8 _))
  repeat (go_big_quiet_step (fail))
  refine wpQuiet_nil ?_
  rintro w3 ⟨l2, rfl⟩
  have HF3 := Lib.hid (HF2.out.later l2.h)
  have HB3 := Lib.hid (fbelow_t HB2.out l2.h)
  generalize l2.w = w3 at HF3 HB3 ⊢
  clear l2 hcl a0 a1 a2 a3 hz2
  go_wp2_with fail
  go_loopw [3, 4] (fun s k wr => ∃ x : Nat, x ≤ d.size ∧ k = .int .i64 x ∧ s = .string (strOfNums (headL i n l ((byL d).take x))) ∧ Hid (BoxF wr w.heap.size i n l d ∧ Below w.heap.size w wr)) (fun _ k _ => d.size - (intOf k).toNat)
  case atStart => exact ⟨0, Nat.zero_le _, rfl, by rw [List.take_zero, H4.out], Lib.hid ⟨HF3.out, HB3.out⟩⟩
  case round =>
    obtain ⟨x, hx, rfl, rfl, HI⟩ := hrel
    obtain ⟨a0, a1, a2, a3⟩ := HI.out.1.cells
    by_cases hlt : x < d.size
    · have hix : ∀ w, (Instr.index 9 (.string d) (.int .i64 x)).run Tryd.prog w = .ok (.int .u8 (bt d x)) w := fun w => index_bt Tryd.underlying9 hlt w
      obtain ⟨c0, c1⟩ := bt_byte d x
      have HS : Hid (strOfNums (headL i n l ((byL d).take (x + 1))) = strOfNums (headL i n l ((byL d).take x)) ++ strOfNums (bitsI (bt d x).toNat 8)) := Lib.hid (by rw [byL_take hlt, headL_snoc, nums_app])
      have zs : (strOfNums (headL i n l ((byL d).take x))).size ≤ 200 := by
        rw [numsz, headL_len, List.length_take, byL_len]
        split <;> omega
      generalize strOfNums (headL i n l ((byL d).take x)) = s at HS zs
      generalize bt d x = c at hix HS c0 c1
      obtain ⟨tc, htc⟩ : ∃ tc, bitsS c 8 = tc := ⟨_, rfl⟩
      have zc : tc.size = 8 := by rw [← htc, bitsS_t c0 (by decide) (by decide), numsz, bitsI_len]; rfl
      have HTC := Lib.hid htc
      have HS2 : Hid (strOfNums (headL i n l ((byL d).take (x + 1))) = s ++ tc) := Lib.hid (by rw [HS.out, ← htc, bitsS_t c0 (by decide) (by decide)]; rfl)
      have hc9 : c < 9223372036854775808 := by omega
      have sc : ¬ 9223372036854775807 < s.size + tc.size := by omega
      clear HS htc
      have hz : w.heap.size < wr.heap.size := HI.out.1.lt
      go_wp2_with fail
      refine (cbits_v HTC.out hc9 _).mono ?_
      rintro e w5 ⟨rfl, hb5⟩
      have HI2 := Lib.hid (And.intro (HI.out.1.later hb5) (fbelow_t HI.out.2 hb5))
      clear hb5
      go_wp2
      go_roundw
      case rel => exact ⟨x + 1, by omega, by go_num, by rw [HS2.out], HI2⟩
      case measure => simp [intOf]; omega
    · obtain rfl : x = d.size := by omega
      have HQ : Hid (strOfNums (headL i n l ((byL d).take d.size)) = t) := Lib.hid (by rw [List.take_of_length_le (by rw [byL_len]; omega)]; exact H.out)
      go_wp2
      go_ret
      exact ⟨fret_str HQ.out, HI.out.2⟩

end Go.Proofs.YtfooigckcjbegaaDoor

namespace Go.Proofs.YtfooigckcjbegaaDoor
open Go.RowKit
set_option linter.unusedVariables false

theorem shead_v {i n l : Int} {d t : ByteArray} (hp : PlainP i n l d.size) (h : strOfNums (headL i n l (byL d)) = t) (w : World) :
    Calls Tryd.prog 13 #[.agg #[.int .i64 i, .int .i64 n, .int .i64 l, .string d]] w fun e w' => e = .returned (.string t) ∧ Below w.heap.size w w' := by
  cases hE : fE n
  · exact shead_n hp hE h w
  · exact shead_w hp hE h w
theorem PlainP.d8 {i n l : Int} {sz : Nat} (hp : PlainP i n l sz) : sz ≤ 8 := by
  have l8 := hp.l8
  cases hr : fR n
  · have := hp.dL hr; omega
  · have := hp.dR hr; omega
theorem sendL_bits (i n l : Int) (D : List Int) : bitsB (sendL i n l D) = true := by
  unfold sendL
  rw [bitsB_app, stuffL_bits (frameL_bits ..)]; rfl
theorem frame_small {i n l : Int} {D : List Int} (h : D.length ≤ 8) : (frameL i n l D).length ≤ 118 := by
  rw [frameL_len]; split <;> omega

theorem stuffS_bits {L : List Int} (h : bitsB L = true) : stuffS L = strOfNums (stuffL L) := by unfold stuffS; rw [if_pos h]
set_option maxHeartbeats 2000000 in
theorem ssend_v {i n l : Int} {d t : ByteArray} (hp : PlainP i n l d.size) (h : strOfNums (sendL i n l (byL d)) = t) (w : World) :
    Calls Tryd.prog 14 #[.agg #[.int .i64 i, .int .i64 n, .int .i64 l, .string d]] w fun e w' => e = .returned (.string t) ∧ Below w.heap.size w w' := by
  have HP := Lib.hid hp
  obtain ⟨y, hy⟩ : ∃ y, strOfNums (headL i n l (byL d)) = y := ⟨_, rfl⟩
  have HY := Lib.hid hy
  have hby : byL y = headL i n l (byL d) := by rw [← hy, byL_nums (isBy_bits (headL_bits ..))]
  have HQ : Hid (bitsB (byL y) = true) := Lib.hid (by rw [hby]; exact headL_bits ..)
  obtain ⟨c, hc⟩ : ∃ c, feedC 15 17817 0 (toB (byL y)) = c := ⟨_, rfl⟩
  have HC := Lib.hid hc
  have hcl : c < 2 ^ 15 := by rw [← hc]; exact feed_lt (by decide) _ 0 (by decide)
  obtain ⟨tc, htc⟩ : ∃ tc, bitsS (c : Int) 15 = tc := ⟨_, rfl⟩
  have HTC := Lib.hid htc
  have htc2 : tc = strOfNums (bitsI c 15) := by
    rw [← htc, bitsS_t (by omega) (by decide) (by decide), Int.toNat_natCast]; rfl
  have hc9 : (c : Int) < 9223372036854775808 := by omega
  obtain ⟨z, hz⟩ : ∃ z, y ++ tc = z := ⟨_, rfl⟩
  have hbz : byL z = frameL i n l (byL d) := by
    rw [← hz, byL_app, hby, htc2, byL_nums (isBy_bits (bitsI_bits c 15))]
    unfold frameL checkL
    rw [← hby, hc]
  have hd8 := hp.d8
  have hfl : (frameL i n l (byL d)).length ≤ 118 := frame_small (by rw [byL_len]; exact hd8)
  have hzs : z.size ≤ 118 := by rw [← byL_len z, hbz]; exact hfl
  have hys : y.size ≤ 118 := by
    have : (y ++ tc).size = y.size + tc.size := ByteArray.size_append ..
    rw [hz] at this; omega
  have hts : tc.size = 15 := by rw [htc2, numsz, bitsI_len]
  have HYS : Hid (y.size ≤ 100000) := Lib.hid (by omega)
  have HZS : Hid (z.size ≤ 100000) := Lib.hid (by omega)
  obtain ⟨u, hu⟩ : ∃ u, stuffS (byL z) = u := ⟨_, rfl⟩
  have HU := Lib.hid hu
  have hu2 : u = strOfNums (stuffL (frameL i n l (byL d))) := by rw [← hu, stuffS_bits (by rw [hbz]; exact frameL_bits ..), hbz]
  have hus : u.size ≤ 200 := by
    have := (stuff_len (frameL i n l (byL d))).1
    rw [hu2, numsz]; omega
  have HT : Hid (u ++ ByteArray.mk #[49, 48, 49, 49, 49, 49, 49, 49, 49, 49] = t) := Lib.hid (by
    rw [hu2, ← h]
    unfold sendL
    rw [nums_app]
    rfl)
  have z10 : (ByteArray.mk #[49, 48, 49, 49, 49, 49, 49, 49, 49, 49]).size = 10 := rfl
  have s1 : ¬ 9223372036854775807 < y.size + tc.size := by omega
  have s2 : ¬ 9223372036854775807 < u.size + (ByteArray.mk #[49, 48, 49, 49, 49, 49, 49, 49, 49, 49]).size := by omega
  clear hp h hy hby hc hcl htc htc2 hbz hd8 hfl hzs hu hu2
  go_enter Tryd.func14, Tryd.ntmps14
  go_wp2_with fail
  refine (shead_v HP.out HY.out _).mono ?_
  rintro e w1 ⟨rfl, hb1⟩
  have HB1 := Lib.hid (fbelow_a _ hb1)
  clear hb1
  go_wp2_with fail
  refine (csum_t (w := 15) (p := 17817) HC.out HQ.out (by decide) (by decide) (by decide) HYS.out _).mono ?_
  rintro e w2 ⟨rfl, hb2⟩
  have HB2 := Lib.hid (fbelow_t HB1.out hb2)
  clear hb2
  go_wp2_with fail
  refine (cbits_v HTC.out hc9 _).mono ?_
  rintro e w3 ⟨rfl, hb3⟩
  have HB3 := Lib.hid (fbelow_t HB2.out hb3)
  clear hb3
  go_wp2_with fail
  refine (sstuff_v HU.out HZS.out _).mono ?_
  rintro e w4 ⟨rfl, hb4⟩
  have HB4 := Lib.hid (fbelow_t HB3.out hb4)
  clear hb4
  go_wp2
  go_ret
  exact ⟨fret_str HT.out, HB4.out⟩

/-! ### number -/
theorem numAt_bd {b : List Int} {k m : Nat} (hm : m ≤ 60) : -1 ≤ numAt b k m ∧ numAt b k m < 2 ^ m := by
  unfold numAt
  split
  · have : (0 : Int) < 2 ^ m := Int.pow_pos (by decide)
    omega
  · have h1 := numA_lt (toB ((b.drop k).take m)) 0 0 (by decide)
    have h2 : 2 ^ (0 + (toB ((b.drop k).take m)).length) ≤ 2 ^ m := Nat.pow_le_pow_right (by decide) (by rw [toB_len, List.length_take]; omega)
    have h3 : ((2 ^ m : Nat) : Int) = (2 : Int) ^ m := by simp
    omega
set_option maxHeartbeats 1000000 in
theorem snum_v {b : ByteArray} {k m : Nat} {v : Int} (h : numAt (byL b) k m = v) (hb : bitsB (byL b) = true) (hs : b.size ≤ 100000) (hm : m ≤ 60) (hk : k ≤ 100000) (w : World) :
    Calls Tryd.prog 31 #[.string b, .int .i64 k, .int .i64 m] w fun e w' => e = .returned (.int .i64 v) ∧ w = w' := by
  by_cases hl : b.size < k + m
  · have HV : Hid (-1 = v) := Lib.hid (by rw [← h]; unfold numAt; rw [if_pos (by rw [byL_len]; exact hl)])
    have hl2 : (b.size : Int) - k < m := by omega
    clear h
    go_enter Tryd.func31, Tryd.ntmps31
    go_wp2
    go_ret
    exact ⟨fret_int HV.out, rfl⟩
  · have hkm : k + m ≤ b.size := by omega
    have hcut := fun w => cut_mid hkm w
    obtain ⟨x, hx⟩ : ∃ x, b.extract k (k + m) = x := ⟨_, rfl⟩
    rw [hx] at hcut
    have hbx : byL x = ((byL b).drop k).take m := by rw [← hx, byL_extract, List.drop_take, show k + m - k = m by omega]
    have hxs : x.size = m := by rw [← hx]; exact ext_size hkm
    have HQ : Hid (numOk (byL x) = true) := Lib.hid (by
      unfold numOk
      rw [byL_len, hxs, decide_eq_true hm, Bool.and_true, hbx]
      unfold bitsB at hb ⊢
      rw [List.all_eq_true] at hb ⊢
      exact fun y hy => hb y (List.mem_of_mem_drop (List.mem_of_mem_take hy)))
    obtain ⟨n, hn⟩ : ∃ n, numA 0 (toB (byL x)) = n := ⟨_, rfl⟩
    have HN := Lib.hid hn
    have HV : Hid ((n : Int) = v) := Lib.hid (by
      rw [← h]
      unfold numAt
      rw [if_neg (by rw [byL_len]; omega), ← hbx, hn])
    have hl2 : ¬ (b.size : Int) - k < m := by omega
    clear h hl hkm hx hbx hxs hn
    go_enter Tryd.func31, Tryd.ntmps31
    go_wp2_with fail
    refine (cnum_t HN.out HQ.out _).mono ?_
    rintro e w1 ⟨rfl, rfl⟩
    go_wp2
    go_ret
    exact ⟨fret_int HV.out, rfl⟩

end Go.Proofs.YtfooigckcjbegaaDoor
