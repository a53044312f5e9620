/- Of no program: as XStep, but each operation knows how far the chain is at least (lv: for each operation, how many of the chain it waits for, through others too): so an operation behind a call may read what the call made. Printed out of XStep by a program of a session: the template is what counts. Of no program: a row of the call's own appended to in a region that draws: the states of the chain. -/
import Derived.Test.YtmmcjmejcngajaaGreatDoorZaj
import Derived.Test.YtmmcjmejcngajaaGreatDoorZai
import Derived.Test.YtmmcjmejcngajaaGreatDoorZak
namespace Go.Proofs.YtmmcjmejcngajaaGreatDoor
open Go.RowKit
set_option linter.unusedVariables false

section
variable {P : Program} {ops : Array Oper} {md : Region.Mode} {st lv : List Nat} {G : Nat → (Tmp → Option Value) → World → Prop} {sec : List Tmp}

def slSpec (P : Program) (ops : Array Oper) (st : List Nat) (lv : List Nat) (G : Nat → (Tmp → Option Value) → World → Prop) (sec : List Tmp) (i : Nat) (o : Oper) (h : Act) (v : Value) : Prop :=
  ∀ (j : Nat) (xs : Tmp → Option Value) (a : Act) (w : World), j ≤ st.length → (∀ k : Nat, st[k]? = some i → j = k) → lv.getD i 0 ≤ j → G j xs w → stFresh sec xs o → stLooks ops sec xs o h a →
    stUpon P w (fun u w' => G (if i ∈ st then j + 1 else j) (hidPut sec xs o.dst u) w' ∧ stGood sec o.dst v u) ((execOp a.eval o).run P w)
def slOp (P : Program) (ops : Array Oper) (st : List Nat) (lv : List Nat) (G : Nat → (Tmp → Option Value) → World → Prop) (sec : List Tmp) (i : Nat) (K : Act → Prop) (h : Act) : Prop :=
  match ops[i]? with
  | none => K h
  | some o => if Region.wanted o (yielded ops h.tmps) then ∃ v, slSpec P ops st lv G sec i o h v ∧ K (h.put o.dst v) else (∀ d, o.dst = some d → d ∉ sec) ∧ K (h.put o.dst undef)
/-- the walk in the order of the text -/
def wpSl (P : Program) (ops : Array Oper) (st : List Nat) (lv : List Nat) (G : Nat → (Tmp → Option Value) → World → Prop) (sec : List Tmp) (Q : Act → Prop) : Nat → List Oper → Act → Prop
  | _, [], h => Q h
  | i, o :: rest, h => if Region.wanted o (yielded ops h.tmps) then ∃ v, slSpec P ops st lv G sec i o h v ∧ wpSl P ops st lv G sec Q (i + 1) rest (h.put o.dst v)
      else (∀ d, o.dst = some d → d ∉ sec) ∧ wpSl P ops st lv G sec Q (i + 1) rest (h.put o.dst undef)
/-! ### at which level of the chain an operation is at least -/
def LevL (st lv : List Nat) (listed : Array Bool) (j : Nat) : Prop := Lev st listed j ∧ ∀ i, listed.getD i false = true → lv.getD i 0 ≤ j
def lvB (md : Region.Mode) (ops : Array Oper) (st lv : List Nat) : Bool :=
  (List.range lv.length).all fun i => lv.getD i 0 == 0 || match ops[i]? with
    | some o => o.after.any fun e => Region.binds md e && (decide (lv.getD i 0 ≤ lv.getD e.on 0) || (List.range st.length).any fun k => st[k]? == some e.on && decide (lv.getD i 0 ≤ k + 1))
    | none => false
theorem LevL.zero {st lv : List Nat} (n : Nat) : LevL st lv (Array.replicate n false) 0 := ⟨lev_zero n, fun i h => by rw [getD_replicate_false] at h; cases h⟩
theorem lv_ready {lv : List Nat} {md : Region.Mode} {ops : Array Oper} {st : List Nat} (h : lvB md ops st lv = true) {listed : Array Bool} {i j : Nat} (hl : LevL st lv listed j) (hi : i ∈ Region.ready md ops listed) : lv.getD i 0 ≤ j := by
  obtain ⟨_, o, ho, hw⟩ := mem_ready.1 hi
  by_cases hil : i < lv.length
  · have h1 := List.all_eq_true.1 h i (List.mem_range.2 hil)
    simp only [Bool.or_eq_true, beq_iff_eq] at h1
    rcases h1 with h1 | h1
    · omega
    · rw [ho] at h1
      simp only at h1
      obtain ⟨e, he, hb⟩ := Array.any_eq_true'.1 h1
      simp only [Bool.and_eq_true, Bool.or_eq_true, decide_eq_true_eq] at hb
      have hlist := hw e he hb.1
      rcases hb.2 with h2 | h2
      · exact Nat.le_trans h2 (hl.2 _ hlist)
      · obtain ⟨k, _, hk⟩ := List.any_eq_true.1 h2
        simp only [Bool.and_eq_true, beq_iff_eq, decide_eq_true_eq] at hk
        have := (hl.1.2 k e.on hk.1).1 hlist
        omega
  · have : lv.getD i 0 = 0 := by rw [List.getD_eq_getElem?_getD, List.getElem?_eq_none (by omega)]; rfl
    omega
theorem LevL.step {lv : List Nat} {md : Region.Mode} {ops : Array Oper} {st : List Nat} (h : lvB md ops st lv = true) {listed : Array Bool} {i j j' : Nat} (hl : LevL st lv listed j) (hi : i ∈ Region.ready md ops listed) (h' : Lev st (listed.setIfInBounds i true) j') (hj : j ≤ j') : LevL st lv (listed.setIfInBounds i true) j' := by
  refine ⟨h', fun k hk => ?_⟩
  by_cases e : i = k
  · subst e; exact Nat.le_trans (lv_ready h hl hi) hj
  · rw [getD_set_ne false e] at hk
    exact Nat.le_trans (hl.2 k hk) hj
/-! ### any order -/
def wpAnySl (P : Program) (md : Region.Mode) (ops : Array Oper) (st : List Nat) (lv : List Nat) (G : Nat → (Tmp → Option Value) → World → Prop) (sec : List Tmp) (n : Nat) (L : Array Bool → Act → Prop) : Nat → Array Bool → Act → Prop
  | 0, listed, h => L listed h
  | f + 1, listed, h => Region.ready md ops listed ≠ [] ∧ ∀ i ∈ Region.ready md ops listed, i < n ∧ slOp P ops st lv G sec i (wpAnySl P md ops st lv G sec n L f (listed.setIfInBounds i true)) h
theorem slOp_mono {i : Nat} {K K' : Act → Prop} {h : Act} (hk : ∀ h, K h → K' h) (hh : slOp P ops st lv G sec i K h) : slOp P ops st lv G sec i K' h := by
  unfold slOp at *
  split
  · exact hk _ (by simpa [*] using hh)
  · rename_i o ho
    simp only [ho] at hh
    split
    · rename_i hw
      simp only [hw, if_true] at hh
      obtain ⟨v, h1, h2⟩ := hh
      exact ⟨v, h1, hk _ h2⟩
    · rename_i hw
      simp only [hw] at hh
      exact ⟨hh.1, hk _ hh.2⟩
theorem wpOp_of_sl {n0 : Nat} (hO : onceB ops sec = true) (hB : secB md ops sec = true) (hS : stB md ops st n0 = true) (hLB : lvB md ops st lv = true) {i : Nat} {h a : Act} {w : World} {K : Act → Prop} {K' : Act → World → Prop} {Q' : Exit → Act → World → Prop} {listed : Array Bool} {j : Nat} {xs : Tmp → Option Value}
    (hi : i ∈ Region.ready md ops listed) (hs : ∀ t ∈ sec, t < h.tmps.size) (hag : SecAg sec h a) (hlv : LevL st lv listed j) (hb : G j xs w) (hf : HidV ops sec listed a xs)
    (hK : ∀ h' a' w' j' xs', K h' → h'.tmps.size = h.tmps.size → SecAg sec h' a' → LevL st lv (listed.setIfInBounds i true) j' → G j' xs' w' → HidV ops sec (listed.setIfInBounds i true) a' xs' → K' a' w') (hh : slOp P ops st lv G sec i K h) : wpOp P ops Q' i K' a w := by
  obtain ⟨hun, o, ho, _⟩ := mem_ready.1 hi
  unfold slOp at hh
  unfold wpOp
  simp only [ho] at hh ⊢
  rw [secB_guard hB ho hag]
  split
  · rename_i hw
    simp only [hw, if_true] at hh
    obtain ⟨v, hsp, hk⟩ := hh
    have hjk : ∀ k : Nat, st[k]? = some i → j = k := fun k hk => (lev_step hS hlv.1 hi hk).1
    have hlv' : LevL st lv (listed.setIfInBounds i true) (if i ∈ st then j + 1 else j) := by
      by_cases hm : i ∈ st
      · rw [if_pos hm]
        obtain ⟨k, hk1, hk2⟩ := List.getElem_of_mem hm
        exact (LevL.step hLB hlv hi (lev_step hS hlv.1 hi (by rw [List.getElem?_eq_getElem hk1, hk2])).2 (Nat.le_succ _))
      · rw [if_neg hm]; exact LevL.step hLB hlv hi (lev_set hlv.1 hm) (Nat.le_refl _)
    have hfr : stFresh sec xs o := fun t hd ht => by
      rw [hf i o t ho hd ht, getD_both hun]; rfl
    have h3 := hsp j xs a w hlv.1.1 hjk (lv_ready hLB hlv hi) hb hfr (hidV_looks hB ho hi hag hf)
    have on : ∀ u w', (G (if i ∈ st then j + 1 else j) (hidPut sec xs o.dst u) w' ∧ stGood sec o.dst v u) → K' (a.put o.dst u) w' := fun u w' ⟨hbw, hg⟩ => by
      refine hK _ _ _ _ _ hk (put_size _ _ _) (hag.put fun t ht => ?_) hlv' hbw (hidV_put hO hf ho hun (fun t ht => by rw [hag.size]; exact hs t ht) u)
      unfold stGood at hg
      rw [ht] at hg
      exact hg
    refine .inl ?_
    unfold Oper.wp
    generalize (execOp a.eval o).run P w = r at h3 ⊢
    cases r with
    | ok x w' =>
      cases x <;> simp only [stUpon] at h3 <;> simp only [Oper.upon]
      case value u => exact on u w' h3
      case skip => exact on undef w' h3
      case enter f args =>
        obtain ⟨rfl, hc⟩ := h3
        refine hc.mono fun e w'' ⟨u, he, h4⟩ => ?_
        subst he
        exact on u w'' h4
    | halt x w' => simp only [stUpon] at h3
  · rename_i hw
    simp only [hw] at hh
    have hm : i ∉ st := fun hm => by
      obtain ⟨_, o', ho', hg⟩ := (stB_spec hS).2.2 i hm
      obtain rfl : o' = o := Option.some.inj (ho'.symm.trans ho)
      exact hw (by simp [Region.wanted, hg])
    exact hK _ _ _ _ _ hh.2 (put_size _ _ _) (hag.put fun _ _ => .inr rfl) (LevL.step hLB hlv hi (lev_set hlv.1 hm) (Nat.le_refl _)) hb (hidV_skip hf ho hh.1 _)
theorem wpAny_of_Sl {n0 : Nat} (hO : onceB ops sec = true) (hB : secB md ops sec = true) (hS : stB md ops st n0 = true) (hLB : lvB md ops st lv = true) {n g : Nat} {L : Array Bool → Act → Prop} {Q' : Exit → Act → World → Prop}
    (hL : ∀ listed h a w j xs, L listed h → (∀ t ∈ sec, t < h.tmps.size) → SecAg sec h a → LevL st lv listed j → G j xs w → HidV ops sec listed a xs → wpAny P md ops Q' g listed a w) :
    ∀ (f : Nat) (listed : Array Bool) (h a : Act) (w : World) (j : Nat) (xs : Tmp → Option Value), (∀ t ∈ sec, t < h.tmps.size) → SecAg sec h a → LevL st lv listed j → G j xs w → HidV ops sec listed a xs →
      wpAnySl P md ops st lv G sec n L f listed h → wpAny P md ops Q' (f + g) listed a w
  | 0, listed, h, a, w, j, xs, hs, hag, hlv, hb, hf, hx => by rw [Nat.zero_add]; exact hL _ _ _ _ _ _ hx hs hag hlv hb hf
  | f + 1, listed, h, a, w, j, xs, hs, hag, hlv, hb, hf, hx => by
    rw [show f + 1 + g = (f + g) + 1 by omega]
    refine ⟨fun h0 => absurd h0 hx.1, fun i hi => ?_⟩
    exact wpOp_of_sl hO hB hS hLB hi hs hag hlv hb hf (fun h' a' w' j' xs' hk hsz hag' hlv' hb' hf' => wpAny_of_Sl hO hB hS hLB hL f _ h' a' w' j' xs' (fun t ht => by rw [hsz]; exact hs t ht) hag' hlv' hb' hf' hk) (hx.2 i hi).2

/-! ### the order of the text serves any -/
def SlYields (P : Program) (ops : Array Oper) (st : List Nat) (lv : List Nat) (G : Nat → (Tmp → Option Value) → World → Prop) (sec : List Tmp) (i : Nat) (o : Oper) (v : Value) (h : Act) : Prop :=
  (Region.wanted o (yielded ops h.tmps) = true ∧ slSpec P ops st lv G sec i o h v) ∨ (Region.wanted o (yielded ops h.tmps) = false ∧ (∀ d, o.dst = some d → d ∉ sec) ∧ v = undef)
theorem slSpec_put {i : Nat} {o : Oper} {h : Act} {v : Value} (hs : slSpec P ops st lv G sec i o h v) {d : Option Tmp} (u : Value) (hd : ∀ x, d = some x → x ∉ o.looksAt ops) : slSpec P ops st lv G sec i o (h.put d u) v := by
  intro j xs a w hj hjk hlj hb hfr hl
  refine hs j xs a w hj hjk hlj hb hfr fun t ht => ?_
  have := hl t ht
  rw [getD_put_ne h u t (fun x hx hxt => hd x hx (hxt ▸ ht))] at this
  exact this
theorem slSpec_unput {i : Nat} {o : Oper} {h : Act} {v : Value} {d : Option Tmp} (u : Value) (hd : ∀ x, d = some x → x ∉ o.looksAt ops) (hs : slSpec P ops st lv G sec i o (h.put d u) v) : slSpec P ops st lv G sec i o h v := by
  intro j xs a w hj hjk hlj hb hfr hl
  refine hs j xs a w hj hjk hlj hb hfr fun t ht => ?_
  have := hl t ht
  rw [getD_put_ne h u t (fun x hx hxt => hd x hx (hxt ▸ ht))]
  exact this
theorem SlYields.op {i : Nat} {o : Oper} {v : Value} {h : Act} (hi : ops[i]? = some o) (hy : SlYields P ops st lv G sec i o v h) {K : Act → Prop} (hk : K (h.put o.dst v)) : slOp P ops st lv G sec i K h := by
  unfold slOp
  simp only [hi]
  rcases hy with ⟨hw, hv⟩ | ⟨hw, hd, rfl⟩
  · simp only [hw, if_true]; exact ⟨v, hv, hk⟩
  · simp only [hw, Bool.false_eq_true, if_false]; exact ⟨hd, hk⟩
theorem slYields_of {i : Nat} {o : Oper} {h : Act} {K : Act → Prop} (hi : ops[i]? = some o) (hh : slOp P ops st lv G sec i K h) : ∃ v, SlYields P ops st lv G sec i o v h ∧ K (h.put o.dst v) := by
  unfold slOp at hh
  simp only [hi] at hh
  by_cases hw : Region.wanted o (yielded ops h.tmps) = true
  · simp only [hw, if_true] at hh
    obtain ⟨v, h1, h2⟩ := hh
    exact ⟨v, .inl ⟨hw, h1⟩, h2⟩
  · simp only [hw] at hh
    exact ⟨undef, .inr ⟨by simpa using hw, hh.1, rfl⟩, hh.2⟩
theorem slOp_put {i j : Nat} {oi oj : Oper} {v : Value} (hj : ops[j]? = some oj) (hap : oi.apart ops oj = true) {K : Act → Prop} {h : Act}
    (hy : SlYields P ops st lv G sec i oi v h) (hh : slOp P ops st lv G sec j K (h.put oi.dst v)) : slOp P ops st lv G sec j (fun h' => SlYields P ops st lv G sec i oi v h' ∧ K (h'.put oi.dst v)) h := by
  obtain ⟨h1, h2, h3⟩ := Oper.apart_spec hap
  have keep : ∀ u, SlYields P ops st lv G sec i oi v (h.put oj.dst u) := fun u => by
    unfold SlYields
    rw [wanted_put oi h oj.dst u h3]
    rcases hy with ⟨hw, hv⟩ | ⟨hw, hd⟩
    · exact .inl ⟨hw, slSpec_put hv u h3⟩
    · exact .inr ⟨hw, hd⟩
  unfold slOp at *
  simp only [hj] at *
  rw [wanted_put oj h oi.dst v h1] at hh
  split
  · rename_i hw
    simp only [hw, if_true] at hh
    obtain ⟨u, hu, hn⟩ := hh
    exact ⟨u, slSpec_unput v h1 hu, keep u, by rw [← Act.put_comm h v u h2]; exact hn⟩
  · rename_i hw
    simp only [hw] at hh
    exact ⟨hh.1, keep _, by rw [← Act.put_comm h v undef h2]; exact hh.2⟩
theorem wpAnySl_first {n i : Nat} {oi : Oper} {v : Value} {L : Array Bool → Act → Prop} (hi : ops[i]? = some oi)
    (hs : Region.sinkB md ops n = true) (hc : Region.chainB md ops n = true) (hn : n < ops.size) (hin : i < n) (hdone : ∀ listed h, L listed h → ∀ j ∈ Region.ready md ops listed, n ≤ j) :
    ∀ (f : Nat) (listed : Array Bool) (h : Act), HeadInv md ops n listed →
      (∀ j oj, ops[j]? = some oj → j ≠ i → listed.getD j true = false → (∀ e ∈ oj.after, Region.binds md e = true → e.on ≠ i) → oi.apart ops oj = true) →
      i ∈ Region.ready md ops listed → SlYields P ops st lv G sec i oi v h →
      wpAnySl P md ops st lv G sec n L f (listed.setIfInBounds i true) (h.put oi.dst v) → wpAnySl P md ops st lv G sec n L (f + 1) listed h := by
  intro f
  induction f with
  | zero =>
    intro listed h inv _ hr hy H
    have hun := (mem_ready.1 hr).1
    refine ⟨fun h0 => (by rw [h0] at hr; cases hr), fun j hj => ?_⟩
    have hjn : j < n := Nat.lt_of_not_le fun hge => tail_waits hs hc hn inv _ i rfl hin hun j hge hj
    refine ⟨hjn, ?_⟩
    by_cases hji : j = i
    · subst hji; exact hy.op hi H
    · have := hdone _ _ H j (ready_mono hj hji)
      omega
  | succ f ih =>
    intro listed h inv hfree hr hy H
    have hun := (mem_ready.1 hr).1
    refine ⟨fun h0 => (by rw [h0] at hr; cases hr), fun j hj => ?_⟩
    have hjn : j < n := Nat.lt_of_not_le fun hge => tail_waits hs hc hn inv _ i rfl hin hun j hge hj
    refine ⟨hjn, ?_⟩
    by_cases hji : j = i
    · subst hji; exact hy.op hi H
    · have h1 := (H.2 j (ready_mono hj hji)).2
      obtain ⟨hjun, oj, hoj, hall⟩ := mem_ready.1 hj
      have hnot : ∀ e ∈ oj.after, Region.binds md e = true → e.on ≠ i := fun e he hb heq => by
        have h4 := hall e he hb
        rw [heq, getD_both hun] at h4
        cases h4
      have h2 := slOp_put hoj (hfree j oj hoj hji hjun hnot) hy h1
      refine slOp_mono (fun h' h3 => ih (listed.setIfInBounds j true) h' (inv.set hj hjn) (fun k ok hk hki hunk hno => ?_) (ready_mono hr (Ne.symm hji)) h3.1 ?_) h2
      · refine hfree k ok hk hki ?_ hno
        by_cases hjk : j = k
        · subst hjk; exact hjun
        · rw [getD_set_ne true hjk] at hunk; exact hunk
      · rw [Array.setIfInBounds_comm _ _ hji]
        exact h3.2
theorem wpAnySl_lex {n g : Nat} {Lq : Act → Prop} (hs : Region.sinkB md ops n = true) (hc : Region.chainB md ops n = true) (hn : n < ops.size) :
    ∀ (l : List Oper) (k : Nat) (listed : Array Bool) (h : Act), (∀ j, j < l.length → l[j]? = ops[k + j]?) → k + l.length = n → HeadInv md ops n listed → (∀ j, j < k → listed.getD j false = true) →
    Region.lexHead md ops g l.length k listed = true → wpSl P ops st lv G sec Lq k l h →
    wpAnySl P md ops st lv G sec n (fun listed' h' => Region.seqB md ops g n listed' = true ∧ (∀ j, j < n → listed'.getD j false = true) ∧ Lq h') l.length listed h
  | [], k, listed, h, _, hk, _, hall, hB, hh => by
    obtain rfl : k = n := by simpa using hk
    exact ⟨by simpa [Region.lexHead] using hB, hall, hh⟩
  | o :: l, k, listed, h, hl, hk, inv, hall, hB, hh => by
    have h0 : ops[k]? = some o := by simpa using (hl 0 (by simp)).symm
    simp only [List.length_cons, Region.lexHead, Bool.and_eq_true] at hB
    obtain ⟨⟨hr, hf⟩, hB'⟩ := hB
    have hkn : k < n := by simp only [List.length_cons] at hk; omega
    have hr' : k ∈ Region.ready md ops listed := by simpa using hr
    have hst : slOp P ops st lv G sec k (wpSl P ops st lv G sec Lq (k + 1) l) h := by unfold slOp; simp only [h0]; exact hh
    obtain ⟨v, hy, hK⟩ := slYields_of h0 hst
    exact wpAnySl_first h0 hs hc hn hkn (fun listed' h' hL => seqB_ready hL.1) l.length listed h inv (Region.free_spec h0 hf) hr' hy
      (wpAnySl_lex hs hc hn l (k + 1) _ _ (fun j hj => by have := hl (j + 1) (by simp; omega); simpa [Nat.add_assoc, Nat.add_comm 1 j] using this) (by simp only [List.length_cons] at hk; omega) (inv.set hr' hkn)
        (fun j hj => by
          by_cases e : k = j
          · subst e
            have hkl : k < listed.size := by rw [inv.size]; omega
            simp [hkl]
          · exact getD_set_true (hall j (by omega))) hB' hK)
end
section
variable {P : Program}
theorem wpAny_sl {Q : Exit → Act → World → Prop} {a : Act} {w : World} {l : List Oper} (n : Nat) (st : List Nat) (lv : List Nat) (G : Nat → (Tmp → Option Value) → World → Prop) (sec : List Tmp)
    (h0 : G 0 (fun _ => none) w.drew) (hB : Region.lexTailB .any l.toArray n = true) (hS : secB .any l.toArray sec = true) (hO : onceB l.toArray sec = true) (hT : stB .any l.toArray st n = true) (hLB : lvB .any l.toArray st lv = true)
    (hW : (sec.all fun t => (l.take n).any fun o => o.dst == some t) = true) (hz : (sec.all fun t => decide (t < a.tmps.size)) = true)
    (h : wpSl P l.toArray st lv G sec (fun h' => ∀ (ys : Tmp → Value) (xs : Tmp → Option Value) (w' : World), (∀ t ∈ sec, xs t = some (ys t)) → G st.length xs w' → wpList P l.toArray Q (l.drop n) (secFill ys sec h') w') 0 (l.take n) a) :
    wpAny P .any l.toArray Q l.toArray.size (Array.replicate l.toArray.size false) a { w with drawn := w.drawn + 1 } := by
  simp only [Region.lexTailB, Bool.and_eq_true, decide_eq_true_eq] at hB
  obtain ⟨⟨⟨⟨hsel, hn⟩, hs⟩, hc⟩, hlex⟩ := hB
  have hn' : n < l.length := by simpa using hn
  have htl : (l.take n).length = n := by simp; omega
  have hdl : (l.drop n).length = l.toArray.size - n := by simp
  have hzz : ∀ t ∈ sec, t < a.tmps.size := fun t ht => by simpa using List.all_eq_true.1 hz t ht
  have inv0 : HeadInv .any l.toArray n (Array.replicate l.toArray.size false) :=
    ⟨by simp, fun j oj _ hl => (by rw [getD_replicate_false] at hl; cases hl), fun t _ ht => getD_in (by simpa using ht) (getD_replicate_false _ _)⟩
  have H := wpAnySl_lex (md := .any) (g := l.toArray.size - n) hs hc hn (l.take n) 0 _ a (fun j hj => by
    have hj' : j < n := by rw [htl] at hj; exact hj
    simp [hj']) (by simpa using htl) inv0 (fun j hj => by omega) (by rw [htl]; exact hlex) h
  have := wpAny_of_Sl (Q' := Q) (g := l.toArray.size - n) hO hS hT hLB (fun listed h' a' w' j xs hL hs' hag hlv hb hf => by
    have hfill := hag.fill hs'
    obtain rfl := lev_all hT hlv.1 hL.2.1
    have hq := hL.2.2 (fun t => a'.tmps.getD t undef) xs w' (fun t ht => by
      have h1 := List.all_eq_true.1 hW t ht
      obtain ⟨o, ho, hd⟩ := List.any_eq_true.1 h1
      obtain ⟨j, hj, hjo⟩ := List.getElem_of_mem ho
      have hjn : j < n := by omega
      have hjl : j < l.length := by omega
      have h2 := hf j o t (by rw [List.getElem?_toArray, List.getElem?_eq_getElem hjl, ← hjo, List.getElem_take]) (by simpa using hd) ht
      rw [if_pos (hL.2.1 j hjn)] at h2
      exact h2) hb
    rw [← hfill] at hq
    have h5 := wpAny_of_seq (md := .any) (Q' := Q) (l.drop n) n listed a' w' (fun j => by simp [List.getElem?_drop]) (by rw [hdl]; exact hL.1) hq
    rwa [hdl] at h5) _ _ a a { w with drawn := w.drawn + 1 } 0 (fun _ => none) hzz (SecAg.refl a) (LevL.zero _) h0 (fun i o t _ _ _ => by rw [getD_replicate_false]; rfl) H
  rw [htl, show n + (l.toArray.size - n) = l.toArray.size by omega] at this
  exact this
/-- **A drawn region with calls that turn memory in a chain, walked once.** -/
theorem wp_region_sl {id : Nat} {Q : Exit → Act → World → Prop} {a : Act} {w : World} {l : List Oper} (n : Nat) (st : List Nat) (lv : List Nat) (G : Nat → (Tmp → Option Value) → World → Prop) (sec : List Tmp)
    (h0 : G 0 (fun _ => none) w.drew) (hm : P.follows .mixedOrders = true) (hB : Region.lexTailB .any l.toArray n = true) (hS : secB .any l.toArray sec = true) (hO : onceB l.toArray sec = true) (hT : stB .any l.toArray st n = true) (hLB : lvB .any l.toArray st lv = true)
    (hW : (sec.all fun t => (l.take n).any fun o => o.dst == some t) = true) (hz : (sec.all fun t => decide (t < a.tmps.size)) = true)
    (h : wpSl P l.toArray st lv G sec (fun h' => ∀ (ys : Tmp → Value) (xs : Tmp → Option Value) (w' : World), (∀ t ∈ sec, xs t = some (ys t)) → G st.length xs w' → wpList P l.toArray Q (l.drop n) (secFill ys sec h') w') 0 (l.take n) a) :
    (Code.region id l.toArray true).wp P Q a w :=
  wp_region_any hm (wpAny_sl n st lv G sec h0 hB hS hO hT hLB hW hz h)
end

/-! ### steps -/
section
variable {P : Program} {ops : Array Oper} {st lv : List Nat} {G : Nat → (Tmp → Option Value) → World → Prop} {sec : List Tmp} {Q : Act → Prop} {o : Oper} {rest : List Oper} {h : Act} {i : Nat} {O : Nat → Prop} {W : World}
theorem sl_plain (hC : ∀ {j xs w}, G j xs w → Kept O W w) (hi : st.contains i = false) (hw : Region.wanted o (yielded ops h.tmps) = true) (hp : plainOp o = true) (hl : secOpenL ops sec o = true) (hd : secOpenD sec o = true)
    (hk : ∀ K : Act → Prop, (∀ a, wpSl P ops st lv G sec Q (i + 1) rest a → K a) → o.quiet P h (fun w' => ∃ n : KLater O W, w' = n.w) K) : wpSl P ops st lv G sec Q i (o :: rest) h := by
  obtain ⟨v, h1, h2⟩ := hk _ fun _ hh => hh
  unfold wpSl
  rw [if_pos hw]
  refine ⟨v, fun j xs a w hj hjk hlj hb hfr hlk => ?_, h2⟩
  have hi' : i ∉ st := by simpa using hi
  rw [if_neg hi', eval_open hl (plain_sel hp) (stLooks_open hl hlk w)]
  simp only [hidPut_open hd]
  have h3 := h1 w ⟨⟨w, hC hb⟩, rfl⟩
  have h4 := plain_noEnter (P := P) hp h.eval w
  unfold Oper.quietAt at h3
  generalize (execOp h.eval o).run P w = r at h3 h4
  cases r with
  | ok x w' =>
    cases x <;> simp only [Oper.quietUpon] at h3 <;> simp only [stUpon]
    case value u => obtain ⟨rfl, e⟩ := h3; exact ⟨hb, stGood_open _ e⟩
    case skip => obtain ⟨rfl, e⟩ := h3; exact ⟨hb, stGood_open _ e.symm⟩
    case enter f args => exact absurd rfl (h4 f args w')
  | halt x w' => simp only [Oper.quietUpon] at h3
theorem sl_nil {x : Operand} {p : Addr} (hC : ∀ {j xs w}, G j xs w → Kept O W w) (hi : st.contains i = false) (hw : Region.wanted o (yielded ops h.tmps) = true) (ho : o.op = .nilCheck x) (hx : h.eval x = .pointer (some p)) (hl : secOpenL ops sec o = true) (hd : secOpenD sec o = true)
    (hk : ∀ K : Act → Prop, (∀ a, wpSl P ops st lv G sec Q (i + 1) rest a → K a) → o.quiet P h (fun w' => ∃ n : KLater O W, w' = n.w) K) : wpSl P ops st lv G sec Q i (o :: rest) h := by
  obtain ⟨v, h1, h2⟩ := hk _ fun _ hh => hh
  unfold wpSl
  rw [if_pos hw]
  refine ⟨v, fun j xs a w hj hjk hlj hb hfr hlk => ?_, h2⟩
  have hi' : i ∉ st := by simpa using hi
  rw [if_neg hi', eval_open hl (fun cs b => by rw [ho]; simp) (stLooks_open hl hlk w)]
  simp only [hidPut_open hd]
  have h3 := h1 w ⟨⟨w, hC hb⟩, rfl⟩
  have h4 : ∀ f args w', (execOp h.eval o).run P w ≠ .ok (.enter f args) w' := fun f args w' => by simp [execOp, ho, hx, Sem.run_pure]
  unfold Oper.quietAt at h3
  generalize (execOp h.eval o).run P w = r at h3 h4
  cases r with
  | ok x w' =>
    cases x <;> simp only [Oper.quietUpon] at h3 <;> simp only [stUpon]
    case value u => obtain ⟨rfl, e⟩ := h3; exact ⟨hb, stGood_open _ e⟩
    case skip => obtain ⟨rfl, e⟩ := h3; exact ⟨hb, stGood_open _ e.symm⟩
    case enter f args => exact absurd rfl (h4 f args w')
  | halt x w' => simp only [Oper.quietUpon] at h3
theorem sl_skip (hw : Region.wanted o (yielded ops h.tmps) = false) (hd : secOpenD sec o = true) (hk : wpSl P ops st lv G sec Q (i + 1) rest (h.put o.dst undef)) : wpSl P ops st lv G sec Q i (o :: rest) h := by
  unfold wpSl
  rw [if_neg (by rw [hw]; exact Bool.false_ne_true)]
  refine ⟨fun d e => ?_, hk⟩
  unfold secOpenD at hd
  rw [e] at hd
  simpa using hd
/-- the k-th call of the chain -/
theorem sl_step {f : FuncId} {args : Array Value} {v : Value} (k : Nat) (hi : st[k]? = some i) (hw : Region.wanted o (yielded ops h.tmps) = true) (hn : noSel o = true) (hl : secOpenL ops sec o = true) (hd : secOpenD sec o = true)
    (hrun : ∀ w, (execOp h.eval o).run P w = .ok (.enter f args) w) (hc : ∀ xs w, G k xs w → Calls P f args w fun e w' => e = .returned v ∧ G (k + 1) xs w')
    (hk : wpSl P ops st lv G sec Q (i + 1) rest (h.put o.dst v)) : wpSl P ops st lv G sec Q i (o :: rest) h := by
  unfold wpSl
  rw [if_pos hw]
  refine ⟨v, fun j xs a w hj hjk hlj hb hfr hlk => ?_, hk⟩
  obtain rfl := hjk k hi
  rw [if_pos (List.mem_of_getElem? hi), eval_open hl (noSel_spec hn) (stLooks_open hl hlk w), hrun w]
  simp only [hidPut_open hd]
  refine ⟨rfl, (hc xs w hb).mono ?_⟩
  rintro e w' ⟨he, h1⟩
  exact ⟨v, he, h1, stGood_open _ rfl⟩
/-- a call that makes new memory alone and answers v -/
theorem sl_call {f : FuncId} {args : Array Value} {v : Value} (hi : st.contains i = false) (hw : Region.wanted o (yielded ops h.tmps) = true) (hn : noSel o = true) (hl : secOpenL ops sec o = true) (hd : secOpenD sec o = true)
    (hrun : ∀ w, (execOp h.eval o).run P w = .ok (.enter f args) w) (hc : ∀ j xs w, G j xs w → Calls P f args w fun e w' => e = .returned v ∧ G j xs w')
    (hk : wpSl P ops st lv G sec Q (i + 1) rest (h.put o.dst v)) : wpSl P ops st lv G sec Q i (o :: rest) h := by
  unfold wpSl
  rw [if_pos hw]
  refine ⟨v, fun j xs a w hj hjk hlj hb hfr hlk => ?_, hk⟩
  have hi' : i ∉ st := by simpa using hi
  rw [if_neg hi', eval_open hl (noSel_spec hn) (stLooks_open hl hlk w), hrun w]
  simp only [hidPut_open hd]
  refine ⟨rfl, (hc j xs w hb).mono ?_⟩
  rintro e w' ⟨he, h1⟩
  exact ⟨v, he, h1, stGood_open _ rfl⟩
/-- an operation that lays a new block, whose place is hidden -/
theorem sl_new {s : Tmp} {mk : World → Value} {ob : World → Obj} (hi : st.contains i = false) (hw : Region.wanted o (yielded ops h.tmps) = true) (hn : noSel o = true) (hl : secOpenL ops sec o = true) (hd : o.dst = some s) (hs : sec.contains s = true)
    (hrun : ∀ w, (execOp h.eval o).run P w = .ok (.value (mk w)) (w.alloc (ob w))) (hG : ∀ j xs w, G j xs w → G j (fun t => if t = s then Option.some (mk w) else xs t) (w.alloc (ob w)))
    (hk : wpSl P ops st lv G sec Q (i + 1) rest (h.put o.dst undef)) : wpSl P ops st lv G sec Q i (o :: rest) h := by
  unfold wpSl
  rw [if_pos hw]
  refine ⟨undef, fun j xs a w hj hjk hlj hb hfr hlk => ?_, hk⟩
  have hi' : i ∉ st := by simpa using hi
  have hs' : s ∈ sec := by simpa using hs
  rw [if_neg hi', eval_open hl (noSel_spec hn) (stLooks_open hl hlk w), hrun w, hd]
  refine ⟨?_, .inl hs'⟩
  have := hG j xs w hb
  unfold hidPut
  simp only
  rw [if_pos hs']
  exact this
/-- a call that makes new memory alone, whose answer is hidden -/
theorem sl_callF {f : FuncId} {args : Array Value} {s : Tmp} (hi : st.contains i = false) (hw : Region.wanted o (yielded ops h.tmps) = true) (hn : noSel o = true) (hl : secOpenL ops sec o = true) (hd : o.dst = some s) (hs : sec.contains s = true)
    (hrun : ∀ w, (execOp h.eval o).run P w = .ok (.enter f args) w) (hc : ∀ j xs w, G j xs w → Calls P f args w fun e w' => ∃ u, e = .returned u ∧ G j (fun t => if t = s then Option.some u else xs t) w')
    (hk : wpSl P ops st lv G sec Q (i + 1) rest (h.put o.dst undef)) : wpSl P ops st lv G sec Q i (o :: rest) h := by
  unfold wpSl
  rw [if_pos hw]
  refine ⟨undef, fun j xs a w hj hjk hlj hb hfr hlk => ?_, hk⟩
  have hi' : i ∉ st := by simpa using hi
  have hs' : s ∈ sec := by simpa using hs
  rw [if_neg hi', eval_open hl (noSel_spec hn) (stLooks_open hl hlk w), hrun w]
  refine ⟨rfl, (hc j xs w hb).mono ?_⟩
  rintro e w' ⟨u, he, h1⟩
  refine ⟨u, he, ?_, by rw [hd]; exact .inl hs'⟩
  rw [hd]
  unfold hidPut
  simp only
  rw [if_pos hs']
  exact h1
/-- a call that reads hidden slots, makes new memory alone, and answers v -/
theorem sl_callR {v : Value} (hi : st.contains i = false) (hw : Region.wanted o (yielded ops h.tmps) = true) (hd : secOpenD sec o = true)
    (hrun : ∀ (j : Nat) (xs : Tmp → Option Value) (a : Act) (w : World), G j xs w → stLooks ops sec xs o h a → ∃ f args, (execOp a.eval o).run P w = .ok (.enter f args) w ∧ Calls P f args w fun e w' => e = .returned v ∧ G j xs w')
    (hk : wpSl P ops st lv G sec Q (i + 1) rest (h.put o.dst v)) : wpSl P ops st lv G sec Q i (o :: rest) h := by
  unfold wpSl
  rw [if_pos hw]
  refine ⟨v, fun j xs a w hj hjk hlj hb hfr hlk => ?_, hk⟩
  have hi' : i ∉ st := by simpa using hi
  obtain ⟨f, args, he, hc⟩ := hrun j xs a w hb hlk
  rw [if_neg hi', he]
  simp only [hidPut_open hd]
  refine ⟨rfl, hc.mono ?_⟩
  rintro e w' ⟨h0, h1⟩
  exact ⟨v, h0, h1, stGood_open _ rfl⟩

/-- the k-th call of the chain, whose answer is hidden -/
theorem sl_stepF {f : FuncId} {args : Array Value} {s : Tmp} (k : Nat) (hi : st[k]? = some i) (hw : Region.wanted o (yielded ops h.tmps) = true) (hn : noSel o = true) (hl : secOpenL ops sec o = true) (hd : o.dst = some s) (hs : sec.contains s = true)
    (hrun : ∀ w, (execOp h.eval o).run P w = .ok (.enter f args) w) (hc : ∀ xs w, G k xs w → xs s = none → Calls P f args w fun e w' => ∃ u, e = .returned u ∧ G (k + 1) (fun t => if t = s then Option.some u else xs t) w')
    (hk : wpSl P ops st lv G sec Q (i + 1) rest (h.put o.dst undef)) : wpSl P ops st lv G sec Q i (o :: rest) h := by
  unfold wpSl
  rw [if_pos hw]
  refine ⟨undef, fun j xs a w hj hjk hlj hb hfr hlk => ?_, hk⟩
  obtain rfl := hjk k hi
  have hs' : s ∈ sec := by simpa using hs
  rw [if_pos (List.mem_of_getElem? hi), eval_open hl (noSel_spec hn) (stLooks_open hl hlk w), hrun w]
  refine ⟨rfl, (hc xs w hb (hfr s hd hs')).mono ?_⟩
  rintro e w' ⟨u, he, h1⟩
  refine ⟨u, he, ?_, by rw [hd]; exact .inl hs'⟩
  rw [hd]
  unfold hidPut
  simp only
  rw [if_pos hs']
  exact h1
/-- a hidden slot is moved into another one -/
theorem sl_move {s1 s2 : Tmp} (hi : st.contains i = false) (hw : Region.wanted o (yielded ops h.tmps) = true) (hd : o.dst = some s2) (hs1 : sec.contains s1 = true) (hs2 : sec.contains s2 = true) (hl1 : s1 ∈ o.looksAt ops)
    (hrun : ∀ (a : Act) w, (execOp a.eval o).run P w = .ok (.value (a.tmps.getD s1 undef)) w) (hG : ∀ j xs w u, G j xs w → xs s1 = some u → xs s2 = none → G j (fun t => if t = s2 then Option.some u else xs t) w)
    (hk : wpSl P ops st lv G sec Q (i + 1) rest (h.put o.dst undef)) : wpSl P ops st lv G sec Q i (o :: rest) h := by
  unfold wpSl
  rw [if_pos hw]
  refine ⟨undef, fun j xs a w hj hjk hlj hb hfr hlk => ?_, hk⟩
  have hi' : i ∉ st := by simpa using hi
  have m1 : s1 ∈ sec := by simpa using hs1
  have m2 : s2 ∈ sec := by simpa using hs2
  have h1 := hlk s1 hl1
  rw [if_pos m1] at h1
  rw [if_neg hi', hrun a w]
  refine ⟨?_, by rw [hd]; exact .inl m2⟩
  rw [hd]
  unfold hidPut
  simp only
  rw [if_pos m2]
  exact hG j xs w _ hb h1 (hfr s2 hd m2)
/-- an operation that reads what is known at its level -/
theorem sl_read {v : Value} (hi : st.contains i = false) (hw : Region.wanted o (yielded ops h.tmps) = true) (hn : noSel o = true) (hl : secOpenL ops sec o = true) (hd : secOpenD sec o = true)
    (hrun : ∀ j xs w, j ≤ st.length → lv.getD i 0 ≤ j → G j xs w → (execOp h.eval o).run P w = .ok (.value v) w)
    (hk : wpSl P ops st lv G sec Q (i + 1) rest (h.put o.dst v)) : wpSl P ops st lv G sec Q i (o :: rest) h := by
  unfold wpSl
  rw [if_pos hw]
  refine ⟨v, fun j xs a w hj hjk hlj hb hfr hlk => ?_, hk⟩
  have hi' : i ∉ st := by simpa using hi
  rw [if_neg hi', eval_open hl (noSel_spec hn) (stLooks_open hl hlk w), hrun j xs w hj hlj hb]
  simp only [hidPut_open hd]
  exact ⟨hb, stGood_open _ rfl⟩
/-- a call that makes new memory alone and answers v, at its level -/
theorem sl_callL {f : FuncId} {args : Array Value} {v : Value} (hi : st.contains i = false) (hw : Region.wanted o (yielded ops h.tmps) = true) (hn : noSel o = true) (hl : secOpenL ops sec o = true) (hd : secOpenD sec o = true)
    (hrun : ∀ w, (execOp h.eval o).run P w = .ok (.enter f args) w) (hc : ∀ j xs w, j ≤ st.length → lv.getD i 0 ≤ j → G j xs w → Calls P f args w fun e w' => e = .returned v ∧ G j xs w')
    (hk : wpSl P ops st lv G sec Q (i + 1) rest (h.put o.dst v)) : wpSl P ops st lv G sec Q i (o :: rest) h := by
  unfold wpSl
  rw [if_pos hw]
  refine ⟨v, fun j xs a w hj hjk hlj hb hfr hlk => ?_, hk⟩
  have hi' : i ∉ st := by simpa using hi
  rw [if_neg hi', eval_open hl (noSel_spec hn) (stLooks_open hl hlk w), hrun w]
  simp only [hidPut_open hd]
  refine ⟨rfl, (hc j xs w hj hlj hb).mono ?_⟩
  rintro e w' ⟨he, h1⟩
  exact ⟨v, he, h1, stGood_open _ rfl⟩
/-- an operation that reads what is known at its level, into a hidden slot -/
theorem sl_readF {s : Tmp} (hi : st.contains i = false) (hw : Region.wanted o (yielded ops h.tmps) = true) (hn : noSel o = true) (hl : secOpenL ops sec o = true) (hd : o.dst = some s) (hs : sec.contains s = true)
    (hrun : ∀ j xs w, j ≤ st.length → lv.getD i 0 ≤ j → G j xs w → xs s = none → ∃ u, (execOp h.eval o).run P w = .ok (.value u) w ∧ G j (fun t => if t = s then Option.some u else xs t) w)
    (hk : wpSl P ops st lv G sec Q (i + 1) rest (h.put o.dst undef)) : wpSl P ops st lv G sec Q i (o :: rest) h := by
  unfold wpSl
  rw [if_pos hw]
  refine ⟨undef, fun j xs a w hj hjk hlj hb hfr hlk => ?_, hk⟩
  have hi' : i ∉ st := by simpa using hi
  have hs' : s ∈ sec := by simpa using hs
  obtain ⟨u, h1, h2⟩ := hrun j xs w hj hlj hb (hfr s hd hs')
  rw [if_neg hi', eval_open hl (noSel_spec hn) (stLooks_open hl hlk w), h1]
  refine ⟨?_, by rw [hd]; exact .inl hs'⟩
  rw [hd]
  unfold hidPut
  simp only
  rw [if_pos hs']
  exact h2
/-- an operation that reads hidden slots, and what is known at its level -/
theorem sl_readH {v : Value} (hi : st.contains i = false) (hw : Region.wanted o (yielded ops h.tmps) = true) (hd : secOpenD sec o = true)
    (hrun : ∀ (j : Nat) (xs : Tmp → Option Value) (a : Act) (w : World), j ≤ st.length → lv.getD i 0 ≤ j → G j xs w → stLooks ops sec xs o h a → (execOp a.eval o).run P w = .ok (.value v) w)
    (hk : wpSl P ops st lv G sec Q (i + 1) rest (h.put o.dst v)) : wpSl P ops st lv G sec Q i (o :: rest) h := by
  unfold wpSl
  rw [if_pos hw]
  refine ⟨v, fun j xs a w hj hjk hlj hb hfr hlk => ?_, hk⟩
  have hi' : i ∉ st := by simpa using hi
  rw [if_neg hi', hrun j xs a w hj hlj hb hlk]
  simp only [hidPut_open hd]
  exact ⟨hb, stGood_open _ rfl⟩
/-- a call that reads hidden slots, at its level -/
theorem sl_callH {v : Value} (hi : st.contains i = false) (hw : Region.wanted o (yielded ops h.tmps) = true) (hd : secOpenD sec o = true)
    (hrun : ∀ (j : Nat) (xs : Tmp → Option Value) (a : Act) (w : World), j ≤ st.length → lv.getD i 0 ≤ j → G j xs w → stLooks ops sec xs o h a → ∃ f args, (execOp a.eval o).run P w = .ok (.enter f args) w ∧ Calls P f args w fun e w' => e = .returned v ∧ G j xs w')
    (hk : wpSl P ops st lv G sec Q (i + 1) rest (h.put o.dst v)) : wpSl P ops st lv G sec Q i (o :: rest) h := by
  unfold wpSl
  rw [if_pos hw]
  refine ⟨v, fun j xs a w hj hjk hlj hb hfr hlk => ?_, hk⟩
  have hi' : i ∉ st := by simpa using hi
  obtain ⟨f, args, he, hc⟩ := hrun j xs a w hj hlj hb hlk
  rw [if_neg hi', he]
  simp only [hidPut_open hd]
  refine ⟨rfl, hc.mono ?_⟩
  rintro e w' ⟨h0, h1⟩
  exact ⟨v, h0, h1, stGood_open _ rfl⟩
end
end Go.Proofs.YtmmcjmejcngajaaGreatDoor

namespace Go.Proofs.YtmmcjmejcngajaaGreatDoor
open Go.RowKit
set_option linter.unusedVariables false

section
variable {α : Type} {c : α → List Value} {kk : Nat} {u : Value} {X L : List α} {W w w' : World} {tx tr : Tmp} {j : Nat} {xs : Tmp → Option Value}
def AppQ (c : α → List Value) (kk : Nat) (u : Value) (X L : List α) (W : World) (tx tr : Tmp) (j : Nat) (xs : Tmp → Option Value) (w : World) : Prop :=
  Kept (OwnO u) W w ∧ ((j = 0 ∧ xs tr = none ∧ RowQ c kk w u L ∧ ∀ x, xs tx = some x → RdA c kk w x X) ∨ (j = 1 ∧ ∃ v', xs tr = some v' ∧ RowQ c kk w v' (L ++ X) ∧ Grows (OwnO u) W (OwnO v')))
theorem AppQ.start (h : RowQ c kk W u L) : AppQ c kk u X L W tx tr 0 (fun _ => none) W.drew :=
  ⟨.of_below (Below.refl _ _).drew, .inl ⟨rfl, rfl, h.later (Below.refl _ _).drew, fun x hx => by cases hx⟩⟩
theorem AppQ.one {f : α} {t : TypeId} (hkk : ∀ a, (c a).length = kk) (hne : tr ≠ tx) (j : Nat) (xs : Tmp → Option Value) (w : World) (h : AppQ c kk u [f] L W tx tr j xs w) :
    AppQ c kk u [f] L W tx tr j (fun t => if t = tx then some (.slice (some ⟨w.heap.size, 0, none⟩) 1 1) else xs t) (w.alloc (.cells (c f).toArray t)) := by
  have hb : Below w.heap.size w (w.alloc (.cells (c f).toArray t)) := (Below.refl _ _).alloc (Nat.le_refl _) _
  obtain ⟨h1, h2⟩ := h
  refine ⟨h1.trans (.of_below (O := OwnO u) hb) (Grows.refl _ _), ?_⟩
  rcases h2 with ⟨rfl, h0, h3, h4⟩ | ⟨rfl, v', h3, h4, h5⟩
  · refine .inl ⟨rfl, by simp only; rw [if_neg hne]; exact h0, h3.later hb, fun x hx => ?_⟩
    simp at hx
    rw [← hx]
    exact RdA.one hkk w f t rfl rfl
  · exact .inr ⟨rfl, v', by simp only; rw [if_neg hne]; exact h3, h4.later hb, h5⟩
theorem AppQ.app (xs : Tmp → Option Value) (w : World) (v' : Value) (w' : World) (h : AppQ c kk u X L W tx tr 0 xs w) (hq : RowQ c kk w' v' (L ++ X)) (hk : Kept (OwnO u) w w') (hg : Grows (OwnO u) w (OwnO v')) :
    AppQ c kk u X L W tx tr 1 (fun t => if t = tr then some v' else xs t) w' := by
  obtain ⟨h1, _⟩ := h
  refine ⟨h1.trans hk (Grows.refl _ _), .inr ⟨rfl, v', by simp, hq, fun k hk' => ?_⟩⟩
  rcases hg k hk' with h2 | h2
  · exact .inl h2
  · exact .inr (Nat.le_trans h1.size h2)
theorem AppQ.rd (xs : Tmp → Option Value) (w : World) (x : Value) (h : AppQ c kk u X L W tx tr 0 xs w) (hx : xs tx = some x) : RowQ c kk w u L ∧ RdA c kk w x X := by
  rcases h.2 with ⟨_, _, h1, h2⟩ | ⟨h0, _⟩
  · exact ⟨h1, h2 x hx⟩
  · cases h0
theorem AppQ.out {v : Value} (h : AppQ c kk u X L W tx tr 1 xs w) (hv : xs tr = some v) : Kept (OwnO u) W w ∧ RowQ c kk w v (L ++ X) ∧ Grows (OwnO u) W (OwnO v) := by
  obtain ⟨h1, h2⟩ := h
  rcases h2 with ⟨h0, _⟩ | ⟨_, v', h3, h4, h5⟩
  · cases h0
  · rw [hv] at h3
    injection h3 with h3
    subst h3
    exact ⟨h1, h4, h5⟩
end
end Go.Proofs.YtmmcjmejcngajaaGreatDoor
