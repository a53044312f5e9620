/- Wire: unpacking, as bytes and lists; contracts of Unpack. -/
import Derived.Test.YtimlaopmhcipmaaDoorWirZ
import Derived.WalkMore
import Derived.ScopeJumps
import Derived.Deep.WholeRow
namespace Go.Proofs.YtimlaopmhcipmaaDoor
open Go.RowKit
set_option linter.unusedVariables false

def leftS (s : ByteArray) (p : Nat) : ByteArray := s.extract p s.size
def stepN (s : ByteArray) (p : Nat) : Nat := min (longN (leftS s p)).toNat (leftS s p).size
def pieceS (s : ByteArray) (p : Nat) : ByteArray := (leftS s p).extract 0 (stepN s p)
/-- the frames from place p on, behind those that were read -/
def unpF (s : ByteArray) : Nat → Nat → List Fr → List Fr × Nat × Bool
  | 0, p, _ => ([], p, false)
  | fuel + 1, p, L => if p = s.size then (L, 0, true) else if decOk (pieceS s p) then unpF s fuel (p + stepN s p) (L ++ [decF (pieceS s p)]) else ([], p, false)
def unpR (s : ByteArray) : List Fr × Nat × Bool := unpF s (s.size + 1) 0 []

theorem info_fr : (Tryd.prog.info? 23).map (fun i => (i.zero, i.size, i.bytes)) = some (some (.agg #[.int .i64 0, .int .i64 0, .int .i64 0, .string (ByteArray.mk #[])]), 4, 40) := by kernel_rfl
theorem wp_scope_label {P : Program} {a : Act} {w : World} {Q : Exit → Act → World → Prop} {c rest : Code} (l : Nat) (J : Act → World → Prop) (μ : Act → World → Nat) (hf : findLabel c l = some (.seq .skip rest))
    (pass : ∀ a w, J a w → rest.wp P (Exit.jump l (fun a' w' => J a' w' ∧ μ a' w' < μ a w) Q) a w)
    (first : (∀ a w, J a w → rest.wp P (Exit.jump l J Q) a w) → c.wp P (Exit.jump l J Q) a w) : (Code.scope c).wp P Q a w := by
  refine wp_scope_jumps l J μ hf (first fun a w hJ => wp_mono (pass a w hJ) fun e a' w' h => ?_) fun a w hJ => wp_seq (wp_skip (pass a w hJ))
  cases e with
  | goto l' => exact ⟨h.1, h.2.1⟩
  | normal => exact h
  | exit id => exact h
  | ret => exact h
  | panic ch => exact h
  | outgrown => exact h
theorem wpList_gathF {ops : Array Oper} {rest : List Oper} {o : Oper} {a : Act} {Q : Exit → Act → World → Prop} {W : World} (hgd : o.guard = none) (s x : Operand)
    (ho : o.op = .call { callee := .builtin .append, args := #[s, x], argTypes := #[37, 37] }) {B : Nat} {w : World} {v : Value} {L : List Fr} (hs : a.eval s = v) (hg : GathF B w v L W)
    (g c : Nat) (f : Fr) (hx : a.eval x = .slice (some ⟨g, 0, none⟩) 1 c) (hn : ∀ j u, (frC f)[j]? = some u → W.cell? ((⟨g, 0, none⟩ : Addr).add j) = some u) (hsz : L.length ≤ 4000)
    (h : ∀ v' w', GathF B w v' (L ++ [f]) w' → wpList Tryd.prog ops Q rest (a.put o.dst v') w') : wpList Tryd.prog ops Q (o :: rest) a W := by
  obtain ⟨i0, hi, hz0, hz1, hz2⟩ := info_parts info_fr
  refine wpList_append_own _ hgd s x 37 ho B 23 i0 _ 4 40 Tryd.underlying37 hi hz0 hz1 hz2 rfl (by decide) v L.length (rowG frC L) hs hg.1 ⟨g, 0, none⟩ 1 c (frC f) hx rfl hn (fun u hu => ?_) ?_ ?_ hg.2.2 ?_
  · simp only [frC, List.mem_cons, List.not_mem_nil, or_false] at hu
    rcases hu with rfl | rfl | rfl | rfl <;> rfl
  · unfold maxLen; omega
  · omega
  · intro v' w' hown hgr _
    refine h v' w' ⟨?_, hg.2.1.grown hgr hg.2.2 ?_, Nat.le_trans hg.2.2 hgr.size⟩
    · rw [List.length_append, rowG_app, rowG_one]; exact hown
    · intro k hk
      rcases hg.1.2 with ⟨rfl, _⟩ | ⟨g, cap, cur, rfl, hgg, _⟩
      · cases hk
      · cases hk; exact hgg
theorem frame_new (w : World) (f : Fr) (t : TypeId) : ∀ j u, (frC f)[j]? = some u → (w.alloc (.cells #[.int .i64 f.i, .int .i64 f.n, .int .i64 f.l, .string f.d] t)).cell? ((⟨w.heap.size, 0, none⟩ : Addr).add j) = some u :=
  World.news_of_block (heap_alloc_last _ _)
theorem extract_all (T : ByteArray) : T.extract 0 T.size = T := by
  refine bt_ext (by rw [sub_size _ _ _ (Nat.le_refl _)]; omega) fun k hk => ?_
  rw [sub_size _ _ _ (Nat.le_refl _)] at hk
  rw [bt_sub _ _ _ _ (by omega) (Nat.le_refl _), Nat.zero_add]
theorem left_size (s : ByteArray) (p : Nat) : (leftS s p).size = s.size - p := by unfold leftS; rw [sub_size _ _ _ (Nat.le_refl _)]
theorem step_le (s : ByteArray) (p : Nat) (hp : p ≤ s.size) : p + stepN s p ≤ s.size := by
  have := left_size s p
  unfold stepN; omega
theorem piece_size (s : ByteArray) (p : Nat) : (pieceS s p).size = stepN s p := by unfold pieceS; rw [sub_size _ _ _ (by unfold stepN; omega)]; omega
theorem longN_nn (s : ByteArray) : 0 ≤ longN s := by rcases longN_cases s with h | h | h <;> omega
theorem piece_ok {s : ByteArray} {p : Nat} (h : decOk (pieceS s p) = true) : 1 ≤ stepN s p ∧ longN (leftS s p) = stepN s p := by
  obtain ⟨h1, h2⟩ := dec_told h
  obtain ⟨h3, h4, _, _⟩ := toldOk_parts h1
  rw [piece_size] at h3 h4
  have hn := longN_nn (leftS s p)
  refine ⟨by omega, ?_⟩
  by_cases hl : longN (leftS s p) ≤ (leftS s p).size
  · unfold stepN; omega
  · have e : stepN s p = (leftS s p).size := by unfold stepN; omega
    have e2 : pieceS s p = leftS s p := by unfold pieceS; rw [e, extract_all]
    rw [e2] at h4
    omega
theorem min_step (s : ByteArray) (p : Nat) : min (longN (leftS s p)) ((leftS s p).size : Int) = (stepN s p : Int) := by
  have := longN_nn (leftS s p)
  unfold stepN; omega
theorem left_run {s : ByteArray} {p : Nat} (hp : p ≤ s.size) (w : World) : (Instr.sliceAt 9 (.string s) (some (.int .i64 p)) none none).run Tryd.prog w = .ok (.string (leftS s p)) w := by
  unfold leftS
  have e1 : (p : Int) ≤ (s.size : Int) := by omega
  have e2 : ¬ ((s.size : Int) < (p : Int)) := by omega
  simp [go_sem, e1, e2, hp]
theorem first_run {T : ByteArray} {m : Nat} (hm : m ≤ T.size) (w : World) : (Instr.sliceAt 9 (.string T) none (some (.int .i64 m)) none).run Tryd.prog w = .ok (.string (T.extract 0 m)) w := by
  have e1 : (m : Int) ≤ (T.size : Int) := by omega
  have e2 : ¬ ((T.size : Int) < (m : Int)) := by omega
  simp [go_sem, e1, e2, hm]

/-- what the loop knows at place p -/
structure UnpAt (s : ByteArray) (R : List Fr × Nat × Bool) (p : Nat) (L : List Fr) : Prop where
  le : p ≤ s.size
  len : L.length ≤ p
  run : ∃ fuel, s.size + 1 ≤ fuel + p ∧ unpF s fuel p L = R
theorem UnpAt.start (s : ByteArray) : UnpAt s (unpR s) 0 [] := ⟨Nat.zero_le _, Nat.le_refl _, s.size + 1, by omega, rfl⟩
theorem UnpAt.done {s : ByteArray} {R : List Fr × Nat × Bool} {p : Nat} {L : List Fr} (h : UnpAt s R p L) (e : p = s.size) : R = (L, 0, true) := by
  obtain ⟨fuel, hf, hr⟩ := h.run
  cases fuel with
  | zero => have := h.le; omega
  | succ fuel => rw [← hr, unpF, if_pos e]
theorem UnpAt.bad {s : ByteArray} {R : List Fr × Nat × Bool} {p : Nat} {L : List Fr} (h : UnpAt s R p L) (e : p ≠ s.size) (hd : decOk (pieceS s p) = false) : R = ([], p, false) := by
  obtain ⟨fuel, hf, hr⟩ := h.run
  cases fuel with
  | zero => have := h.le; omega
  | succ fuel => rw [← hr, unpF, if_neg e, hd]; rfl
theorem UnpAt.next {s : ByteArray} {R : List Fr × Nat × Bool} {p : Nat} {L : List Fr} (h : UnpAt s R p L) (e : p ≠ s.size) (hd : decOk (pieceS s p) = true) : UnpAt s R (p + stepN s p) (L ++ [decF (pieceS s p)]) := by
  have h1 := piece_ok hd
  obtain ⟨fuel, hf, hr⟩ := h.run
  cases fuel with
  | zero => have := h.le; omega
  | succ fuel =>
    rw [unpF, if_neg e, if_pos hd] at hr
    exact ⟨step_le s p h.le, by simp; have := h.len; omega, fuel, by omega, hr⟩

/-- what Unpack answers: the third is told by the caller -/
def UnpPost (R : List Fr × Nat × Bool) (ok bad : Value) (w : World) (e : Ending) (w' : World) : Prop :=
  Below w.heap.size w w' ∧ ((R.2.2 = true ∧ ∃ v, e = .returned (.tuple #[v, .int .i64 0, ok]) ∧ SlF w' w'.heap.size v R.1) ∨ (R.2.2 = false ∧ e = .returned (.tuple #[.slice none 0 0, .int .i64 R.2.1, bad])))
def unpJ (s : ByteArray) (w : World) (a : Act) (wr : World) : Prop :=
  ∃ (p : Nat) (L : List Fr) (v u7 u8 u9 u10 u11 u12 u13 u14 u15 u16 u17 u18 u19 u20 u21 u22 u23 u24 u25 u26 u27 u28 u29 u30 u31 u32 u33 u34 u35 u36 u37 u38 u39 u40 u41 : Value), a = { tmps := #[.string s, undef, .slice none 0 0, .int .i64 0, .int .i64 0, v, .int .i64 p, u7, u8, u9, u10, u11, u12, u13, u14, u15, u16, u17, u18, u19, u20, u21, u22, u23, u24, u25, u26, u27, u28, u29, u30, u31, u32, u33, u34, u35, u36, u37, u38, u39, u40, u41], defers := [] } ∧
    UnpAt s (unpR s) p L ∧ GathF w.heap.size w v L wr

set_option maxHeartbeats 2000000 in
theorem unpack_any {s : ByteArray} (hs : s.size ≤ 3000) (w : World) (hT : TabA w) :
    Calls Tryd.prog 18 #[.string s] w (UnpPost (unpR s) (.int .i64 0) (.int .i64 3) w) := by
  obtain ⟨i0, hi, hz0, hz1, hz2⟩ := info_parts info_fr
  have HT := Lib.hid hT
  have HS := Lib.hid hs
  have hs9 : (s.size : Int) ≤ 3000 := by omega
  clear hT
  go_enter Tryd.func18, Tryd.ntmps18
  go_wp2_with fail
  refine (fun pass => wp_scope_label 0 (unpJ s w) (fun a' _ => s.size - (intOf (a'.tmps.getD 6 undef)).toNat) rfl pass ?_) ?_
  · intro hpass
    go_wp2_with fail
    go_step3
    rename_i K hK
    refine hK _ _ (hpass _ _ ⟨0, [], _, _, _, _, _, _, _, _, _, _, _, _, _, _, _, _, _, _, _, _, _, _, _, _, _, _, _, _, _, _, _, _, _, _, _, _, rfl, UnpAt.start s, GathG.start _ _ _ _⟩)
  · rintro a' wr ⟨p, L, v, u7, u8, u9, u10, u11, u12, u13, u14, u15, u16, u17, u18, u19, u20, u21, u22, u23, u24, u25, u26, u27, u28, u29, u30, u31, u32, u33, u34, u35, u36, u37, u38, u39, u40, u41, rfl, hU, hG⟩
    have HU := Lib.hid hU
    have HG := Lib.hid hG
    have hle : p ≤ s.size := hU.le
    have HL : Hid (L.length ≤ 3000) := Lib.hid (by have := hU.len; omega)
    have hp1 : (p : Int) ≤ 3000 := by omega
    have HST := Lib.hid (step_le s p hle)
    have HSZ := Lib.hid (left_size s p)
    have HPS := Lib.hid (piece_size s p)
    have hleft := fun w => left_run (s := s) (p := p) hle w
    have hfst := fun w => first_run (T := leftS s p) (m := stepN s p) (by unfold stepN; omega) w
    have hpc : (leftS s p).extract 0 (stepN s p) = pieceS s p := rfl
    rw [hpc] at hfst
    have hmin := min_step s p
    have HBW : Hid (Below w.heap.size w wr) := Lib.hid hG.2.1
    obtain ⟨vl, hvl⟩ : ∃ vl, longN (leftS s p) = vl := ⟨_, rfl⟩
    rw [hvl] at hmin
    have HV := Lib.hid hvl
    have HTS : Hid ((leftS s p).size ≤ maxLen) := Lib.hid (by rw [left_size]; unfold maxLen; omega)
    have hstp : (p : Int) + (stepN s p : Int) ≤ 3000 := by have := HST.out; omega
    clear hU hG hpc hvl
    by_cases he : p = s.size
    · have hdone := Lib.hid (HU.out.done he)
      have e1 : ((p : Int) == (s.size : Int)) = true := by rw [he]; simp
      clear he hleft hfst hmin
      go_wp2
      simp only [Exit.jump]
      go_ret3
      refine ⟨HBW.out, .inl ⟨by rw [hdone.out], v, rfl, ?_⟩⟩
      rw [hdone.out]
      exact HG.out.slice frC_len (by decide) (show L.length ≤ maxLen by have := HL.out; unfold maxLen; omega)
    · have hne := Lib.hid he
      have e1 : ((p : Int) == (s.size : Int)) = false := by simp; omega
      clear he
      generalize leftS s p = T at hleft hfst hmin HV HTS HSZ
      go_wp2_with fail
      refine (long_v HV.out HTS.out _).mono ?_
      rintro e w1 ⟨rfl, rfl⟩
      have HZ : Hid ((pieceS s p).size ≤ maxLen) := Lib.hid (by rw [HPS.out]; have := HST.out; have := HS.out; unfold maxLen; omega)
      cases hd : decOk (pieceS s p)
      · have HD := Lib.hid (HU.out.bad hne.out hd)
        go_wp2_with fail
        refine (decode_f HZ.out hd _ (HT.out.below HBW.out)).mono ?_
        rintro e w2 ⟨rfl, hb2⟩
        have HB2 := Lib.hid (fbelow_t HBW.out hb2)
        clear hb2
        go_wp2
        simp only [Exit.jump]
        go_ret3
        exact ⟨Below.allocL HB2.out _, .inr ⟨by rw [HD.out], by rw [HD.out]; rfl⟩⟩
      · have HN := Lib.hid (HU.out.next hne.out hd)
        have H1 := Lib.hid (piece_ok hd)
        go_wp2_with fail
        refine (decode_t hd _ (HT.out.below HBW.out)).mono ?_
        rintro e w2 ⟨rfl, hb2⟩
        have HB2 := Lib.hid (fbelow_t HBW.out hb2)
        have G2 := Lib.hid (HG.out.later hb2)
        clear hb2
        generalize decF (pieceS s p) = f at HN
        have hn := frame_new (w2.alloc (.cells #[.int .i64 f.i, .int .i64 f.n, .int .i64 f.l, .string f.d] 23)) f 23
        rw [World.size_alloc] at hn
        have HNW := Lib.hid hn
        clear hn
        go_wp2_with (at_builtin; refine wpList_gathF rfl _ _ rfl rfl ((G2.out.alloc _).alloc _) (w2.heap.size + 1) _ f rfl HNW.out (by have := HL.out; omega) ?_)
        intro v3 w3 hg3
        have G3 := Lib.hid hg3
        clear hg3
        go_wp2
        go_step3
        have e3 : (p : Int) + (stepN s p : Int) = ((p + stepN s p : Nat) : Int) := by omega
        rw [e3]
        exact ⟨rfl, ⟨p + stepN s p, L ++ [f], v3, _, _, _, _, _, _, _, _, _, _, _, _, _, _, _, _, _, _, _, _, _, _, _, _, _, _, _, _, _, _, _, _, _, _, _, rfl, HN.out, G3.out⟩, by have := H1.out.1; have := HST.out; simp [intOf]; omega⟩

end Go.Proofs.YtimlaopmhcipmaaDoor
