/- Bus, the code: of nil. Bus, plain: of those who offer the least key is who is the first. Bus, the code: happens. Bus, the code: Slot, nobody offers. -/
import Derived.Test.YtpgfifacfkllfaaDoorZbb
import Derived.Test.YtpgfifacfkllfaaDoorZbc
import Derived.Test.YtpgfifacfkllfaaDoorZan
import Derived.Test.YtpgfifacfkllfaaDoorZaz
namespace Go.Proofs.YtpgfifacfkllfaaDoor
open Go.RowKit
set_option linter.unusedVariables false

set_option maxHeartbeats 2000000 in
theorem kbconf_nil (i : Int) (w : World) : Calls Tryd.prog 17 #[.pointer none, .int .i64 i] w fun e w' => e = .returned (.tuple #[.agg #[.int .i64 0, .int .i64 0, .bool false, .int .i64 0], .bool false]) ∧ Below w.heap.size w w' := by
  go_enter Tryd.func17, Tryd.ntmps17
  go_wp2
  refine bodyPost_ret (v := .tuple #[.agg #[.int .i64 0, .int .i64 0, .bool false, .int .i64 0], .bool false]) ?_ rfl ⟨rfl, (Below.refl _ w).alloc (Nat.le_refl _) _⟩
  simp [results, Tryd.results17, go_sem]
set_option maxHeartbeats 2000000 in
theorem kbfix_nil (w : World) : Calls Tryd.prog 24 #[.pointer none] w fun e w' => e = .returned (.tuple #[]) ∧ Below w.heap.size w w' := by
  go_enter Tryd.func24, Tryd.ntmps24
  go_wp2_with fail
  refine (kbconf_nil 0 w).mono ?_
  rintro x w1 ⟨rfl, hb⟩
  have HB := Lib.hid hb
  clear hb
  go_wp2
  go_end0
  exact ⟨rfl, fbelow_t HB.out ((Below.refl _ w1).alloc (Nat.le_refl _) _)⟩
set_option maxHeartbeats 2000000 in
theorem kboffer_nil (i : Int) (f : Fr) (w : World) : Calls Tryd.prog 14 #[.pointer none, .int .i64 i, frV f] w fun e w' => e = .returned (.int .i64 1) ∧ Below w.heap.size w w' := by
  go_enter Tryd.func14, Tryd.ntmps14
  go_wp2
  go_ret
  exact ⟨rfl, (Below.refl _ w).alloc (Nat.le_refl _) _⟩
set_option maxHeartbeats 2000000 in
theorem kbwaits_nil (i : Int) (w : World) : Calls Tryd.prog 16 #[.pointer none, .int .i64 i] w fun e w' => (∃ A c, e = .returned (.slice A 0 c)) ∧ Below w.heap.size w w' := by
  go_enter Tryd.func16, Tryd.ntmps16
  go_wp2
  go_ret
  exact ⟨⟨_, _, rfl⟩, Below.refl _ w⟩
set_option maxHeartbeats 2000000 in
theorem kblog_nil (w : World) : Calls Tryd.prog 20 #[.pointer none] w fun e w' => (∃ A c, e = .returned (.slice A 0 c)) ∧ Below w.heap.size w w' := by
  go_enter Tryd.func20, Tryd.ntmps20
  go_wp2
  go_ret
  exact ⟨⟨_, _, rfl⟩, Below.refl _ w⟩
set_option maxHeartbeats 2000000 in
theorem kbslots_nil (w : World) : Calls Tryd.prog 23 #[.pointer none] w fun e w' => e = .returned (.int .i64 0) ∧ Below w.heap.size w w' := by
  go_enter Tryd.func23, Tryd.ntmps23
  go_wp2
  go_ret
  exact ⟨rfl, Below.refl _ w⟩
set_option maxHeartbeats 2000000 in
theorem kbnodes_nil (w : World) : Calls Tryd.prog 15 #[.pointer none] w fun e w' => e = .returned (.int .i64 0) ∧ Below w.heap.size w w' := by
  go_enter Tryd.func15, Tryd.ntmps15
  go_wp2
  go_ret
  exact ⟨rfl, Below.refl _ w⟩
set_option maxHeartbeats 2000000 in
theorem kbslot_nil (f : Fr) (has bad : Bool) (w : World) : Calls Tryd.prog 19 #[.pointer none, frV f, .bool has, .bool bad] w fun e w' => e = .returned (.agg #[.int .i64 0, .int .i64 0, .int .i64 0, .int .i64 0, .int .i64 0, .string (ByteArray.mk #[])]) ∧ Below w.heap.size w w' := by
  go_enter Tryd.func19, Tryd.ntmps19
  go_wp2
  refine bodyPost_ret (v := .agg #[.int .i64 0, .int .i64 0, .int .i64 0, .int .i64 0, .int .i64 0, .string (ByteArray.mk #[])]) ?_ rfl ⟨rfl, fbelow_t ((Below.refl _ w).alloc (Nat.le_refl _) _) ((Below.refl _ _).alloc (Nat.le_refl _) _)⟩
  simp [results, Tryd.results19, go_sem]
theorem busNone : BusNo := ⟨kboffer_nil, kbslot_nil, kbfix_nil, kbconf_nil, kbwaits_nil, kblog_nil, kbslots_nil, kbnodes_nil⟩
end Go.Proofs.YtpgfifacfkllfaaDoor

namespace Go.Proofs.YtpgfifacfkllfaaDoor
open Go.RowKit
set_option linter.unusedVariables false

theorem leastIx_of {L : List Fr} {m : Nat} (hm : m < L.length) (h : lsB L m L.length = true) : leastIx L L.length = some m := by
  have h2 := lsB_iff.1 h
  have e : leastIx L m = none := least_first _ fun j hj => by
    cases hq : lsB L j L.length
    · rfl
    · have h3 := lsB_iff.1 hq
      have h4 := h3.2 m hm
      have h5 := h2.2 j (by omega)
      omega
  exact leastIx_found e h L.length hm
theorem keyAt_app {L : List Fr} {f : Fr} {j : Nat} : keyAt (L ++ [f]) j = if j < L.length then keyAt L j else if j = L.length then keyG f else keyF fr0 := by
  unfold keyAt
  rw [List.getD_eq_getElem?_getD, List.getD_eq_getElem?_getD]
  by_cases h : j < L.length
  · rw [if_pos h, List.getElem?_append_left h]
  · rw [if_neg h, List.getElem?_append_right (by omega)]
    by_cases e : j = L.length
    · rw [if_pos e, e]; simp; rfl
    · rw [if_neg e, List.getElem?_eq_none (by simp; omega)]; rfl
/-- of the first i nodes: nobody offers, or who is the first stands at the least key's place -/
def BestAt (s : Bs) (own : Fr) (has : Bool) (i : Nat) : Prop :=
  (s.offs own has i = [] ∧ s.best own has i = (-1, frz)) ∨ ∃ (m a : Nat) (f : Fr), (s.offs own has i)[m]? = some (a, f) ∧ s.best own has i = ((a : Int), f) ∧ a < i ∧ lsB (s.ofF own has i) m (s.ofF own has i).length = true
theorem best_at {s : Bs} (own : Fr) (has : Bool) (hk : ∀ i, s.has own has i = true → 0 ≤ keyG (s.x own i)) : ∀ i, BestAt s own has i
  | 0 => .inl ⟨rfl, rfl⟩
  | i + 1 => by
    have ih := best_at own has hk i
    have eo : s.offs own has (i + 1) = s.offs own has i ++ if s.has own has i && !s.off i then [(i, s.x own i)] else [] := rfl
    have eb : s.best own has (i + 1) = if s.has own has i && (!s.off i && (decide ((s.best own has i).1 < 0) || decide (keyG (s.x own i) < keyG (s.best own has i).2))) then ((i : Int), s.x own i) else s.best own has i := rfl
    by_cases hc : (s.has own has i && !s.off i) = true
    · rw [if_pos hc] at eo
      have h0 := hk i (by simp only [Bool.and_eq_true] at hc; exact hc.1)
      have ef : s.ofF own has (i + 1) = s.ofF own has i ++ [s.x own i] := by unfold Bs.ofF; rw [eo]; simp
      have el : (s.offs own has i).length = (s.ofF own has i).length := by unfold Bs.ofF; simp
      rw [← Bool.and_assoc, hc, Bool.true_and] at eb
      rcases ih with ⟨h1, h2⟩ | ⟨m, a, f, h1, h2, h3, h4⟩
      · refine .inr ⟨0, i, s.x own i, by rw [eo, h1]; rfl, by rw [eb, h2]; rfl, by omega, ?_⟩
        have e0 : s.ofF own has i = [] := by unfold Bs.ofF; rw [h1]; rfl
        rw [ef, e0]
        exact lsB_iff.2 ⟨h0, fun j hj => by simp at hj; subst hj; right; right; exact ⟨rfl, Nat.le_refl _⟩⟩
      · have hm : m < (s.ofF own has i).length := by
          rw [← el]
          rcases Nat.lt_or_ge m (s.offs own has i).length with h | h
          · exact h
          · rw [List.getElem?_eq_none h] at h1; cases h1
        have hf : keyAt (s.ofF own has i) m = keyG f := by
          unfold keyAt Bs.ofF
          rw [List.getD_eq_getElem?_getD, List.getElem?_map, h1]; rfl
        have h4' := lsB_iff.1 h4
        rw [hf] at h4'
        have h5 : decide (((a : Nat) : Int) < 0) = false := decide_eq_false (by omega)
        rw [h2] at eb
        simp only [h5, Bool.false_or, decide_eq_true_eq] at eb
        by_cases hl : keyG (s.x own i) < keyG f
        · rw [if_pos hl] at eb
          refine .inr ⟨(s.ofF own has i).length, i, s.x own i, by rw [eo, ← el]; simp, eb, by omega, ?_⟩
          rw [ef]
          refine lsB_iff.2 ⟨by rw [keyAt_app, if_neg (Nat.lt_irrefl _), if_pos rfl]; exact h0, fun j hj => ?_⟩
          rw [keyAt_app, keyAt_app, if_neg (Nat.lt_irrefl _), if_pos rfl]
          simp only [List.length_append, List.length_singleton] at hj
          by_cases hj2 : j < (s.ofF own has i).length
          · rw [if_pos hj2]
            have := h4'.2 j hj2
            omega
          · obtain rfl : j = (s.ofF own has i).length := by omega
            rw [if_neg (Nat.lt_irrefl _), if_pos rfl]
            right; right; exact ⟨rfl, Nat.le_refl _⟩
        · rw [if_neg hl] at eb
          refine .inr ⟨m, a, f, by rw [eo, List.getElem?_append_left (by omega)]; exact h1, eb, by omega, ?_⟩
          rw [ef]
          refine lsB_iff.2 ⟨by rw [keyAt_app, if_pos hm, hf]; exact h4'.1, fun j hj => ?_⟩
          rw [keyAt_app, keyAt_app, if_pos hm, hf]
          simp only [List.length_append, List.length_singleton] at hj
          by_cases hj2 : j < (s.ofF own has i).length
          · rw [if_pos hj2]
            exact h4'.2 j hj2
          · obtain rfl : j = (s.ofF own has i).length := by omega
            rw [if_neg (Nat.lt_irrefl _), if_pos rfl]
            omega
    · have hc' : (s.has own has i && !s.off i) = false := by simpa using hc
      rw [hc'] at eo
      have eo' : s.offs own has (i + 1) = s.offs own has i := by rw [eo]; simp
      have ef : s.ofF own has (i + 1) = s.ofF own has i := by unfold Bs.ofF; rw [eo']
      rw [← Bool.and_assoc, hc', Bool.false_and, if_neg (by decide)] at eb
      rcases ih with ⟨h1, h2⟩ | ⟨m, a, f, h1, h2, h3, h4⟩
      · exact .inl ⟨by rw [eo', h1], by rw [eb, h2]⟩
      · exact .inr ⟨m, a, f, by rw [eo']; exact h1, by rw [eb, h2], by omega, by rw [ef]; exact h4⟩
end Go.Proofs.YtpgfifacfkllfaaDoor

namespace Go.Proofs.YtpgfifacfkllfaaDoor
open Go.RowKit
set_option linter.unusedVariables false

/-- what happens to the node m, and to all others -/
def hapG (m : Nat) (k1 k2 : Int) (i : Nat) (c : Cf) : Cf := c.do_ (if i = m then k1 else k2) 0
/-- what happens to those of P alone -/
def hapP (P : List Nat) (m : Nat) (k1 k2 : Int) (i : Nat) (c : Cf) : Cf := if i ∈ P then hapG m k1 k2 i c else c
def hapL (P : List Nat) (m : Nat) (k1 k2 : Int) (N : List Cf) : List Cf := turnN (hapP P m k1 k2) N N.length
section
variable {P : List Nat} {m : Nat} {k1 k2 : Int} {N : List Cf}
theorem hapL_len : (hapL P m k1 k2 N).length = N.length := turnN_len _ _ _
theorem hapL_get (i : Nat) : (hapL P m k1 k2 N)[i]? = (N[i]?).map (hapP P m k1 k2 i) := by
  unfold hapL
  rw [turnN_get]
  by_cases h : i < N.length
  · rw [if_pos h]
  · rw [if_neg h, List.getElem?_eq_none (by omega)]; rfl
theorem hapL_nil : hapL [] m k1 k2 N = N := by
  apply List.ext_getElem?
  intro i
  rw [hapL_get]
  cases h : N[i]? with
  | none => rfl
  | some c => unfold hapP; simp
theorem hapL_at {a : Nat} (hP : a ∉ P) (ha : a < N.length) : (hapL P m k1 k2 N)[a]'(by rw [hapL_len]; exact ha) = N[a] := by
  have h := hapL_get (P := P) (m := m) (k1 := k1) (k2 := k2) (N := N) a
  rw [List.getElem?_eq_getElem (by rw [hapL_len]; exact ha), List.getElem?_eq_getElem ha] at h
  have h2 := Option.some.inj h
  rw [h2]
  unfold hapP
  rw [if_neg hP]
theorem hapL_set {a : Nat} (ha : a < N.length) : (hapL P m k1 k2 N).set a (hapG m k1 k2 a N[a]) = hapL (P ++ [a]) m k1 k2 N := by
  apply List.ext_getElem?
  intro i
  rw [List.getElem?_set, hapL_get, hapL_get, hapL_len]
  by_cases e : a = i
  · subst e
    rw [if_pos rfl, if_pos ha, List.getElem?_eq_getElem ha]
    unfold hapP
    simp
  · rw [if_neg e]
    have h : ∀ c, hapP P m k1 k2 i c = hapP (P ++ [a]) m k1 k2 i c := fun c => by
      unfold hapP
      have : i ∈ P ++ [a] ↔ i ∈ P := by
        rw [List.mem_append, List.mem_singleton]
        exact ⟨fun h => h.resolve_right (fun h => e h.symm), .inl⟩
      simp only [this]
    cases hN : N[i]? with
    | none => rfl
    | some c => simp only [Option.map_some, h]
end
theorem do_back {c : Cf} {k : Int} (hk : k ≠ 4) (b1 b2 : Int) : c.do_ k b1 = c.do_ k b2 := by
  unfold Cf.do_
  rw [if_neg hk, if_neg hk]
theorem hapL_N2 {s : Bs} {m : Nat} {bad : Bool} {k1 k2 : Int} (h1 : k1 = if bad then 2 else 0) (h2 : k2 = if bad then 3 else 1) : hapL (s.prs s.N.length) m k1 k2 s.N1 = s.N2 bad m := by
  apply List.ext_getElem?
  intro i
  unfold Bs.N2
  rw [hapL_get, turnN_get]
  by_cases hi : i < s.N.length
  · rw [if_pos hi]
    congr 1
    funext c
    unfold hapP Bs.gSent
    have hp := prs_in (s := s) s.N.length i
    cases ho : s.off i
    · rw [if_pos (hp.2 ⟨hi, ho⟩), if_neg (by decide)]
      unfold hapG
      have hk : (if i = m then k1 else k2) = (if (i : Int) = (m : Int) then (if bad then 2 else 0) else if bad then 3 else 1) := by
        have e : ((i : Int) = (m : Int)) ↔ i = m := by omega
        simp only [e, h1, h2]
      rw [hk]
      refine do_back ?_ _ _
      split <;> cases bad <;> decide
    · rw [if_neg (fun h => by have := (hp.1 h).2; rw [ho] at this; cases this), if_pos rfl]
  · rw [if_neg hi, List.getElem?_eq_none (by unfold Bs.N1; rw [turnN_len]; omega)]; rfl
set_option maxHeartbeats 8000000 in
theorem kbhap_v {FT FO : FuncId} {k1 k2 : Int} (E1 : ∀ args w, (callFunc FT args).run Tryd.prog w = .ok (.enter FT args) w) (E2 : ∀ args w, (callFunc FO args).run Tryd.prog w = .ok (.enter FO args) w) (h1 : ∀ (c e : Cf), c.do_ k1 0 = e → ∀ w, Calls Tryd.prog FT #[cfV c] w fun x w' => x = .returned (cfV e) ∧ Below w.heap.size w w') (h2 : ∀ (c e : Cf), c.do_ k2 0 = e → ∀ w, Calls Tryd.prog FO #[cfV c] w fun x w' => x = .returned (cfV e) ∧ Below w.heap.size w w')
    {w : World} {b gn gm : Nat} {D : DataW Value} {ws : List Value} {vl u0 : Value} {s : Bs} (m : Nat) (P : List Nat) (hm : BkM w b gn gm D ws vl s) (hN : s.N.length ≤ 32) (hP : ∀ a ∈ P, a < s.N.length) (hPn : P.Nodup) (hPl : P.length ≤ 32) (h0 : SlI w u0 (natI P)) (hO : ∀ x L c, u0 = .slice (some x) L c → ¬ busO b gn gm ws vl x.block) :
    Calls Tryd.prog 37 #[.pointer (some ⟨b, 0, none⟩), u0, .int .i64 m, .func (.func FT) #[] #[], .func (.func FO) #[] #[]] w fun e w' => e = .returned (.tuple #[]) ∧
      BkM w' b gn gm D ws vl { s with N := hapL P m k1 k2 s.N } ∧ Kept (busO b gn gm ws vl) w w' := by
  have HM := Lib.hid hm
  have H1 := Lib.hid h1
  have H2 := Lib.hid h2
  have HNN := Lib.hid hN
  have HP := Lib.hid hP
  have HPN := Lib.hid hPn
  have HSL := Lib.hid h0
  have HO := Lib.hid hO
  obtain ⟨A0, cap0, hv0, _, _⟩ := h0
  rw [natI_len] at hv0
  subst hv0
  clear hm h1 h2 hP hPn hO hN
  go_enter Tryd.func37, Tryd.ntmps37
  go_wp2
  go_loopw [14] (fun i wr => ∃ k : Nat, k ≤ P.length ∧ i = .int .i64 k ∧ Hid (BkT w b gn gm D ws vl s (hapL (P.take k) m k1 k2 s.N) wr)) (fun i _ => P.length - (intOf i).toNat)
  case atStart => exact ⟨0, Nat.zero_le _, rfl, Lib.hid ⟨by rw [List.take_zero, hapL_nil]; exact HM.out, Kept.refl _ _⟩⟩
  case round =>
    obtain ⟨k, hk, rfl, HI⟩ := hrel
    by_cases hkP : k < P.length
    · have HTK := Lib.hid (take_one hkP)
      have hlt : P[k] < s.N.length := HP.out _ (List.getElem_mem hkP)
      have hni : P[k] ∉ P.take k := fun h => by
        obtain ⟨j, hj, e⟩ := List.getElem_of_mem h
        rw [List.getElem_take] at e
        have hjk : j < k := by simp at hj; omega
        exact absurd e ((List.pairwise_iff_getElem.1 HPN.out) j k (by omega) hkP hjk)
      obtain ⟨x5, cx, hv5, hx5, hcell0⟩ := SlG.at1 (k := k) HSL.out (by rw [natI_len]; exact hkP) (u := .int .i64 (P[k] : Nat)) (by unfold natI; simp [intC])
      rw [natI_len] at hv5
      have hno := HO.out x5 _ _ hv5
      have hcell : wr.cell? (x5.add k) = some (.int .i64 (P[k] : Nat)) := (HI.out.2.cell (by rw [addr_block]; exact hx5) (by rw [addr_block]; exact hno)).trans hcell0
      injection hv5 with hA _ hcap
      subst hA
      subst hcap
      have hal : P[k] < (hapL (P.take k) m k1 k2 s.N).length := by rw [hapL_len]; exact hlt
      obtain ⟨n0, n1, n2, n3⟩ := HI.out.1.node (i := P[k]) hal
      have hat := hapL_at (m := m) (k1 := k1) (k2 := k2) hni hlt
      simp only [hat] at n0 n1 n2 n3
      have HTS := Lib.hid (hapL_set (P := P.take k) (m := m) (k1 := k1) (k2 := k2) hlt)
      clear hat
      generalize s.N[P[k]] = c at n0 n1 n2 n3 HTS
      generalize P[k] = a at HTK hlt hcell n0 n1 n2 n3 HTS hal hni
      have hkl : (k : Int) < (P.length : Int) := by omega
      have hal2 : (a : Int) < (s.N.length : Int) := by omega
      obtain ⟨c0, c1, c2, c3, c4, c5⟩ := HI.out.1.cells
      simp only [hapL_len] at c0
      have hbl := HI.out.1.lt b (.inl rfl)
      have hnl := HI.out.1.lt gn (.inr (.inl rfl))
      have hqb : ∀ (q : KLater (fun _ => False) wr) (o : Nat), q.w.cell? ⟨b, o, none⟩ = wr.cell? ⟨b, o, none⟩ := fun q o => q.cell b o hbl (fun h => h)
      have hqn : ∀ (q : KLater (fun _ => False) wr) (o : Nat), q.w.cell? ⟨gn, o, none⟩ = wr.cell? ⟨gn, o, none⟩ := fun q o => q.cell gn o hnl (fun h => h)
      clear hk hno hcell0 hx5 hni
      by_cases hkm : a = m
      · subst hkm
        obtain ⟨e, he⟩ : ∃ e, c.do_ k1 0 = e := ⟨_, rfl⟩
        have HE := Lib.hid he
        have HGI : Hid (hapG a k1 k2 a c = e) := Lib.hid (by unfold hapG; rw [if_pos rfl]; exact he)
        clear he
        go_wp2_with fail
        refine wp_region_st 15 [] (fun _ _ w' => Below wr.heap.size wr w') [] (Below.refl _ _).drew (by kernel_rfl) (by kernel_rfl) (by kernel_rfl) (by kernel_rfl) (by kernel_rfl) (by kernel_rfl) (by kernel_rfl) ?_
        simp only [List.take_succ_cons, List.take_zero, List.drop_succ_cons, List.drop_zero]
        repeat (refine st_plain (O := fun _ => False) (fun h => .of_below h) (by rfl) (by rfl) (by rfl) (by rfl) (by rfl) ?_; intro K hK; go_big_quiet_op; go_big_quiet_on)
        refine st_nil (O := fun _ => False) (fun h => .of_below h) (by rfl) (by rfl) (by rfl) (by rfl) (by rfl) (by rfl) ?_; intro K hK; go_big_quiet_op; go_big_quiet_on
        repeat (refine st_plain (O := fun _ => False) (fun h => .of_below h) (by rfl) (by rfl) (by rfl) (by rfl) (by rfl) ?_; intro K hK; go_big_quiet_op; go_big_quiet_on)
        refine st_nil (O := fun _ => False) (fun h => .of_below h) (by rfl) (by rfl) (by rfl) (by rfl) (by rfl) (by rfl) ?_; intro K hK; go_big_quiet_op; go_big_quiet_on
        repeat (refine st_plain (O := fun _ => False) (fun h => .of_below h) (by rfl) (by rfl) (by rfl) (by rfl) (by rfl) ?_; intro K hK; go_big_quiet_op; go_big_quiet_on)
        refine st_call (f := FT) (args := #[cfV c]) (v := cfV e) (by rfl) (by rfl) (by rfl) (by rfl) (by rfl) (fun w => by simp [execOp, resolve, invoke, go_sem, cfV]; exact E1 _ _) (fun j xs w' hG => (H1.out _ _ HE.out w').mono (fun x w'' h => ⟨h.1, fbelow_t hG h.2⟩)) ?_
        simp only [Act.put, List.setIfInBounds_toArray, List.set_cons_succ, List.set_cons_zero]
        repeat (refine st_plain (O := fun _ => False) (fun h => .of_below h) (by rfl) (by rfl) (by rfl) (by rfl) (by rfl) ?_; intro K hK; go_big_quiet_op; go_big_quiet_on)
        intro ys xs w2 hF h2
        have HT2 := Lib.hid (HI.out.later h2)
        have HPUT := Lib.hid (HT2.out.put hal e)
        obtain ⟨m0, m1, m2, m3⟩ := HT2.out.1.node (i := a) hal
        have ml := HT2.out.1.nlive
        simp only [secFill]
        have HRR : Hid (BkT w b gn gm D ws vl s (hapL (P.take (k + 1)) a k1 k2 s.N) (putN w2 gn a e)) := Lib.hid (by rw [HTK.out, ← HTS.out, HGI.out]; exact HPUT.out)
        clear n0 n1 n2 n3 c0 c1 c2 c3 c4 c5 hqb hqn hF h2 hcell
        go_wp2_with fail
        go_roundw
        case rel => exact ⟨k + 1, by omega, by go_num, HRR⟩
        case measure => simp [intOf]; omega
      · have hkz : ((a : Int) == (m : Int)) = false := by simp only [beq_eq_false_iff_ne]; omega
        obtain ⟨e, he⟩ : ∃ e, c.do_ k2 0 = e := ⟨_, rfl⟩
        have HE := Lib.hid he
        have HGI : Hid (hapG m k1 k2 a c = e) := Lib.hid (by unfold hapG; rw [if_neg hkm]; exact he)
        clear he hkm
        go_wp2_with fail
        refine wp_region_st 15 [] (fun _ _ w' => Below wr.heap.size wr w') [] (Below.refl _ _).drew (by kernel_rfl) (by kernel_rfl) (by kernel_rfl) (by kernel_rfl) (by kernel_rfl) (by kernel_rfl) (by kernel_rfl) ?_
        simp only [List.take_succ_cons, List.take_zero, List.drop_succ_cons, List.drop_zero]
        repeat (refine st_plain (O := fun _ => False) (fun h => .of_below h) (by rfl) (by rfl) (by rfl) (by rfl) (by rfl) ?_; intro K hK; go_big_quiet_op; go_big_quiet_on)
        refine st_nil (O := fun _ => False) (fun h => .of_below h) (by rfl) (by rfl) (by rfl) (by rfl) (by rfl) (by rfl) ?_; intro K hK; go_big_quiet_op; go_big_quiet_on
        repeat (refine st_plain (O := fun _ => False) (fun h => .of_below h) (by rfl) (by rfl) (by rfl) (by rfl) (by rfl) ?_; intro K hK; go_big_quiet_op; go_big_quiet_on)
        refine st_nil (O := fun _ => False) (fun h => .of_below h) (by rfl) (by rfl) (by rfl) (by rfl) (by rfl) (by rfl) ?_; intro K hK; go_big_quiet_op; go_big_quiet_on
        repeat (refine st_plain (O := fun _ => False) (fun h => .of_below h) (by rfl) (by rfl) (by rfl) (by rfl) (by rfl) ?_; intro K hK; go_big_quiet_op; go_big_quiet_on)
        refine st_call (f := FO) (args := #[cfV c]) (v := cfV e) (by rfl) (by rfl) (by rfl) (by rfl) (by rfl) (fun w => by simp [execOp, resolve, invoke, go_sem, cfV]; exact E2 _ _) (fun j xs w' hG => (H2.out _ _ HE.out w').mono (fun x w'' h => ⟨h.1, fbelow_t hG h.2⟩)) ?_
        simp only [Act.put, List.setIfInBounds_toArray, List.set_cons_succ, List.set_cons_zero]
        repeat (refine st_plain (O := fun _ => False) (fun h => .of_below h) (by rfl) (by rfl) (by rfl) (by rfl) (by rfl) ?_; intro K hK; go_big_quiet_op; go_big_quiet_on)
        intro ys xs w2 hF h2
        have HT2 := Lib.hid (HI.out.later h2)
        have HPUT := Lib.hid (HT2.out.put hal e)
        obtain ⟨m0, m1, m2, m3⟩ := HT2.out.1.node (i := a) hal
        have ml := HT2.out.1.nlive
        simp only [secFill]
        have HRR : Hid (BkT w b gn gm D ws vl s (hapL (P.take (k + 1)) m k1 k2 s.N) (putN w2 gn a e)) := Lib.hid (by rw [HTK.out, ← HTS.out, HGI.out]; exact HPUT.out)
        clear n0 n1 n2 n3 c0 c1 c2 c3 c4 c5 hqb hqn hF h2 hcell hkz
        go_wp2_with fail
        go_roundw
        case rel => exact ⟨k + 1, by omega, by go_num, HRR⟩
        case measure => simp [intOf]; omega
    · obtain rfl : k = P.length := by omega
      have HI2 : Hid (BkT w b gn gm D ws vl s (hapL P m k1 k2 s.N) wr) := Lib.hid (by have := HI.out; rw [List.take_length] at this; exact this)
      go_wp2
      go_end0
      exact ⟨rfl, HI2.out.1, HI2.out.2⟩
end Go.Proofs.YtpgfifacfkllfaaDoor

namespace Go.Proofs.YtpgfifacfkllfaaDoor
open Go.RowKit
set_option linter.unusedVariables false

/-- an event's block -/
def EvB (w : World) (a : Nat) (k n : Int) (f : Fr) : Prop := w.heap[a]? = some (.cells #[.int .i64 k, .int .i64 n, .int .i64 f.i, .int .i64 f.n, .int .i64 f.l, .string f.d] 46 (0, 0))
section
variable {w w' : World} {a : Nat} {k n : Int} {f : Fr}
theorem EvB.lt (h : EvB w a k n f) : a < w.heap.size := heap_some_lt h
theorem EvB.made (w : World) {a : Nat} (h : w.heap.size = a) : EvB (w.alloc (.cells #[.int .i64 0, .int .i64 0, .int .i64 0, .int .i64 0, .int .i64 0, .string (ByteArray.mk #[])] 46)) a 0 0 frz := by
  subst h
  unfold EvB World.alloc
  simp; exact ⟨rfl, rfl, rfl, rfl⟩
theorem EvB.put (h : EvB w a k n f) {b j : Nat} {u : Value} (hb : b ≠ a) : EvB (w.setCell ⟨b, j, none⟩ u) a k n f := (Below.heap_setCell _ _ _ _ (fun e => hb e.symm)).trans h
theorem EvB.later (h : EvB w a k n f) (hb : Below w.heap.size w w') : EvB w' a k n f := (hb.block a h.lt).trans h
theorem EvB.kept {O : Nat → Prop} (h : EvB w a k n f) (hk : Kept O w w') (hn : ¬ O a) : EvB w' a k n f := (hk.block a h.lt hn).trans h
theorem EvB.cells (h : EvB w a k n f) : w.cell? ⟨a, 0, none⟩ = some (.int .i64 k) ∧ w.cell? ⟨a, 1, none⟩ = some (.int .i64 n) ∧ w.cell? ⟨a, 2, none⟩ = some (.int .i64 f.i) ∧ w.cell? ⟨a, 3, none⟩ = some (.int .i64 f.n) ∧ w.cell? ⟨a, 4, none⟩ = some (.int .i64 f.l) ∧ w.cell? ⟨a, 5, none⟩ = some (.string f.d) := by
  refine ⟨?_, ?_, ?_, ?_, ?_, ?_⟩ <;> (rw [Lib.cell_of_heap h]; rfl)
theorem EvB.live (h : EvB w a k n f) : ∀ j, w.frozen? ⟨a, j, none⟩ = false := fun j => Lib.frozen_of_heap h j
end
theorem set_kept1 {w : World} {a j : Nat} {u : Value} : Kept (fun k => k = a) w (w.setCell ⟨a, j, none⟩ u) := ⟨rfl, rfl, rfl, by simp [World.setCell], fun k _ hk => Below.heap_setCell _ _ _ _ hk⟩
theorem ev_kept (w : World) (a : Nat) (x0 x1 x2 x3 x4 x5 : Value) : Kept (fun k => k = a) w ((((((w.setCell ⟨a, 0, none⟩ x0).setCell ⟨a, 1, none⟩ x1).setCell ⟨a, 2, none⟩ x2).setCell ⟨a, 3, none⟩ x3).setCell ⟨a, 4, none⟩ x4).setCell ⟨a, 5, none⟩ x5) :=
  ((((set_kept1.trans set_kept1 (Grows.refl _ _)).trans set_kept1 (Grows.refl _ _)).trans set_kept1 (Grows.refl _ _)).trans set_kept1 (Grows.refl _ _)).trans set_kept1 (Grows.refl _ _)
theorem ev_put {w : World} {a : Nat} {k n : Int} {f : Fr} (h : EvB w a k n f) (k' n' : Int) (f' : Fr) : EvB ((((((w.setCell ⟨a, 0, none⟩ (.int .i64 k')).setCell ⟨a, 1, none⟩ (.int .i64 n')).setCell ⟨a, 2, none⟩ (.int .i64 f'.i)).setCell ⟨a, 3, none⟩ (.int .i64 f'.n)).setCell ⟨a, 4, none⟩ (.int .i64 f'.l)).setCell ⟨a, 5, none⟩ (.string f'.d)) a k' n' f' := by
  unfold EvB at h
  have h0 := heap_setCell_same w a 0 _ _ (.int .i64 k') h
  have h1 := heap_setCell_same _ a 1 _ _ (.int .i64 n') h0
  have h2 := heap_setCell_same _ a 2 _ _ (.int .i64 f'.i) h1
  have h3 := heap_setCell_same _ a 3 _ _ (.int .i64 f'.n) h2
  have h4 := heap_setCell_same _ a 4 _ _ (.int .i64 f'.l) h3
  have h5 := heap_setCell_same _ a 5 _ _ (.string f'.d) h4
  exact h5
/-- none of the tables' blocks is owned -/
def TabO (O : Nat → Prop) : Prop := ¬ O 0
theorem Tabs.kept {O : Nat → Prop} {w w' : World} (h : Tabs w) (hk : Kept O w w') (ho : TabO O) : Tabs w' := by
  obtain ⟨⟨t, fr, h1⟩, _⟩ := h
  exact ⟨⟨t, fr, by rw [hk.block _ (lt_of_heap h1) ho]; exact h1⟩, trivial⟩
theorem TabO.grows {O O' : Nat → Prop} {w : World} (h : TabO O) (hT : Tabs w) (hg : Grows O w O') : TabO O' := by
  obtain ⟨⟨t, fr, h1⟩, _⟩ := hT
  exact fun h3 => (hg _ h3).elim h (fun h4 => absurd (lt_of_heap h1) (by omega))
section
variable {s : Bs} {own : Fr} {has : Bool} {i : Nat}
theorem opN_sl (n : Int) (L : List Nat) : Bs.opN { s with sl := n } own has L = s.opN own has L := rfl
theorem opF_sl (n : Int) (L : List Nat) : Bs.opF { s with sl := n } own has L = s.opF own has L := rfl
theorem ofN_nil (h : s.offs own has i = []) : s.ofN own has i = [] := by unfold Bs.ofN; rw [h]; rfl
theorem ofF_nil (h : s.offs own has i = []) : s.ofF own has i = [] := by unfold Bs.ofF; rw [h]; rfl
end
set_option maxHeartbeats 8000000 in
theorem kbslot0_v {v : Value} {s : Bs} {O : Nat → Prop} (own : Fr) (has bad : Bool) (w : World) (h : BkD w v s O) (ok : s.Ok) (hT : Tabs w) (hsl : s.sl ≤ 100000) (hn : -9223372036854775808 ≤ own.n ∧ own.n ≤ 9223372036854775807)
    (hO : TabO O) (h0 : s.offs own has s.N.length = []) :
    Calls Tryd.prog 19 #[v, frV own, .bool has, .bool bad] w fun e w' => e = .returned (evV 0 0 frz) ∧ Stp BkD v O w { s with N := s.N1, fx := s.fx1, sl := s.sl + 1 } w' := by
  obtain ⟨b, gn, gm, D, ws, vl, rfl, rfl, hm⟩ := h
  have HOK := Lib.hid ok
  have HN := Lib.hid hn
  obtain ⟨w1, e1⟩ : ∃ w1, (w.alloc (.cells #[.int .i64 own.i, .int .i64 own.n, .int .i64 own.l, .string own.d] 30)).alloc (.cells #[.int .i64 0, .int .i64 0, .int .i64 0, .int .i64 0, .int .i64 0, .string (ByteArray.mk #[])] 46) = w1 := ⟨_, rfl⟩
  have hb0 : Below w.heap.size w w1 := by rw [← e1]; exact ((Below.refl w.heap.size w).alloc (Nat.le_refl _) _).alloc (by simp) _
  have HB0 := Lib.hid hb0
  have HT0 := Lib.hid (hT.below hb0)
  have HM0 := Lib.hid (hm.later hb0)
  have HF0 : Hid (BoxF w1 w.heap.size own.i own.n own.l own.d) := Lib.hid (by rw [← e1]; exact (BoxF.made w own.i own.n own.l own.d).later ((Below.refl _ _).alloc (Nat.le_refl _) _))
  obtain ⟨w2, e2⟩ : ∃ w2, w1.setCell ⟨b, 5, none⟩ (.int .i64 (s.sl + 1)) = w2 := ⟨_, rfl⟩
  have HM1 : Hid (BkM w2 b gn gm D ws vl { s with sl := s.sl + 1 }) := Lib.hid (by rw [← e2]; exact HM0.out.setBox (s' := { s with sl := s.sl + 1 }) 5 (.int .i64 (s.sl + 1)) rfl rfl rfl rfl)
  have HK1 : Hid (Kept (busO b gn gm ws vl) w w2) := Lib.hid (by rw [← e2]; exact (Kept.of_below HB0.out).trans setBox_kept (Grows.refl _ _))
  obtain ⟨c0, c1, c2, c3, c4, c5⟩ := HM0.out.cells
  obtain ⟨d0, d1, d2, d3⟩ := HF0.out.cells
  have f5 := HM0.out.live 5
  have hs0 := HOK.out.sl0
  have x0 : (w2.cell? ⟨w.heap.size, 0, none⟩ = some (.int .i64 own.i) ∧ w2.cell? ⟨w.heap.size, 1, none⟩ = some (.int .i64 own.n) ∧ w2.cell? ⟨w.heap.size, 2, none⟩ = some (.int .i64 own.l) ∧ w2.cell? ⟨w.heap.size, 3, none⟩ = some (.string own.d)) := by
    have hne : (w.heap.size : Nat) ≠ b := fun e => absurd (hm.lt b (.inl rfl)) (by omega)
    have key : ∀ o, w2.cell? ⟨w.heap.size, o, none⟩ = w1.cell? ⟨w.heap.size, o, none⟩ := fun o => by rw [← e2]; exact World.cell?_setCell_other _ _ _ _ (fun e => hne (congrArg Addr.block e).symm)
    rw [key, key, key, key]; exact ⟨d0, d1, d2, d3⟩
  have HE1 : Hid (EvB w1 (w.heap.size + 1) 0 0 frz) := Lib.hid (by rw [← e1]; exact EvB.made _ (by simp))
  have HE2 : Hid (EvB w2 (w.heap.size + 1) 0 0 frz) := Lib.hid (by rw [← e2]; exact HE1.out.put (by have := hm.lt b (.inl rfl); omega))
  have HLT : Hid (∀ k, busO b gn gm ws vl k → k < w.heap.size) := Lib.hid hm.lt
  obtain ⟨x0, x1, x2, x3⟩ := x0
  have HTA : Hid (Tabs w2) := Lib.hid (hT.kept HK1.out hO)
  have hT0 := Lib.hid hT
  have hO0 := Lib.hid hO
  clear hm hb0 ok hT hn hO
  go_enter Tryd.func19, Tryd.ntmps19
  go_wp2_with fail
  refine (kbpresent_v (s := { s with sl := s.sl + 1 }) HM1.out (by exact HOK.out.n2)).mono ?_
  rintro e wp ⟨u0, rfl, hpr, hbp, hop⟩
  have hpr : RowQ intC 1 wp u0 (natI (s.prs s.N.length)) := by have h5 := hpr; rw [prs_sl] at h5; exact h5
  have HPM : Hid ((∀ a ∈ s.prs s.N.length, a < s.N.length) ∧ (s.prs s.N.length).Nodup ∧ (s.prs s.N.length).length ≤ 32) := Lib.hid ⟨fun a h => ((prs_in _ a).1 h).1, prs_nodup _, Nat.le_trans (prs_len _) HOK.out.n2⟩
  have HE1P := Lib.hid (op_ofN (s := s) (own := own) (has := has) (i := s.N.length))
  have HE2P := Lib.hid (op_ofF (s := s) (own := own) (has := has) (i := s.N.length))
  generalize s.prs s.N.length = P at hpr HPM HE1P HE2P
  have HPR := Lib.hid hpr
  have HBP := Lib.hid hbp
  have HOP := Lib.hid hop
  have HMP := Lib.hid (HM1.out.later hbp)
  have HTP := Lib.hid (HTA.out.below hbp)
  have HSP : Hid (SlI wp u0 (natI P)) := Lib.hid (hpr.sl intC_len (by rw [natI_len]; have := HPM.out.2.2; unfold maxLen; omega))
  have hxc : ∀ o, wp.cell? ⟨w.heap.size, o, none⟩ = w2.cell? ⟨w.heap.size, o, none⟩ := fun o => hbp.cell (by have := HB0.out.size; have := HE2.out.lt; show w.heap.size < _; omega)
  have v0 := (hxc 0).trans x0
  have v1 := (hxc 1).trans x1
  have v2 := (hxc 2).trans x2
  have v3 := (hxc 3).trans x3
  clear hpr hbp hop hxc x0 x1 x2 x3
  go_wp2_with fail
  refine (kboffered_v (s := { s with sl := s.sl + 1 }) P own has HMP.out HTP.out (by exact HOK.out.n2) (by exact HPM.out.1) HPM.out.2.2 HSP.out (by exact HOK.out.w0) HN.out).mono ?_
  rintro e w3 ⟨u1, u2, rfl, hq1, hq2, hb3, ho3⟩
  have HM3 := Lib.hid (HMP.out.later hb3)
  clear HSP
  have hq1 : RowQ intC 1 w3 u1 [] := by have h5 := hq1; rw [opN_sl, HE1P.out, ofN_nil h0] at h5; exact h5
  have hq2 : RowQ frC 4 w3 u2 [] := by have h5 := hq2; rw [opF_sl, HE2P.out, ofF_nil h0] at h5; exact h5
  have HQ1 := Lib.hid hq1
  have HQ2 := Lib.hid hq2
  have HB3 := Lib.hid (fbelow_t HBP.out hb3)
  have HP3 := Lib.hid (HPR.out.later hb3)
  have HO3 : Hid (∀ k, OwnO u1 k ∨ OwnO u2 k → w2.heap.size ≤ k) := Lib.hid (fun k hk => Nat.le_trans HBP.out.size (ho3 k hk))
  clear hq1 hq2 hb3 ho3 c0 c1 c2 c3 c4 c5 d0 d1 d2 d3 f5 v0 v1 v2 v3
  go_wp2_with fail
  refine (kbrest_v HM3.out (by exact HOK.out.n2) (by exact HOK.out.n1) (by exact HOK.out.okN) (by exact HOK.out.back)).mono ?_
  rintro e w4 ⟨rfl, hm4, hk4⟩
  have HM4 := Lib.hid hm4
  have HK4 := Lib.hid hk4
  clear hm4 hk4
  have HK3 := Lib.hid (((HK1.out.trans (Kept.of_below HB3.out) (Grows.refl _ _))).trans HK4.out (Grows.refl _ _))
  have HT4 : Hid (ATab w4) := Lib.hid (hT0.out.kept HK3.out hO0.out)
  have hq4 : RowQ frC 4 w4 u2 [] := HQ2.out.stay (fun g hg => HK4.out.block g (HQ2.out.lt g hg) (fun h => by have := HLT.out g h; have := HO3.out g (.inr hg); have := HK1.out.size; omega)) HK4.out.size
  have HP4 : Hid (RowQ intC 1 w4 u0 (natI P)) := Lib.hid (HP3.out.stay (fun g hg => HK4.out.block g (HP3.out.lt g hg) (fun h => by have := HLT.out g h; have := HOP.out g hg; have := HK1.out.size; omega)) HK4.out.size)
  have HE4 := Lib.hid ((HE2.out.later HB3.out).kept HK4.out (fun h => by have := HLT.out _ h; omega))
  have m0 := hq4.sl frC_len (by decide)
  go_wp2_with fail
  refine (kaleast_n w4 m0 (by intro f hf; cases hf) HT4.out).mono ?_
  rintro e w5 ⟨rfl, hb5⟩
  have HB5 := Lib.hid hb5
  clear hb5 m0 hq4
  have HE5 := Lib.hid (HE4.out.later HB5.out)
  obtain ⟨g0, g1, g2, g3, g4, g5⟩ := HE5.out.cells
  have gl := HE5.out.live
  have HFIN : Hid (∀ w6, Kept (fun k => k = w.heap.size + 1) w5 w6 → Stp BkD (.pointer (some ⟨b, 0, none⟩)) (busO b gn gm ws vl) w { s with N := s.N1, fx := s.fx1, sl := s.sl + 1 } w6) := Lib.hid (fun w6 hk6 => ⟨_, ⟨b, gn, gm, D, ws, vl, rfl, rfl, (HM4.out.later HB5.out).stay (fun k hk => by
      have := HLT.out k hk
      exact hk6.block k (by have := HK3.out.size; have := HB5.out.size; omega) (by omega))⟩,
    (HK3.out.trans (Kept.of_below (O := busO b gn gm ws vl) HB5.out) (Grows.refl _ _)).trans hk6 (fun k hk => .inr (by omega)), Grows.refl _ _⟩)
  go_wp2_with fail
  generalize hw6 : (World.setCell _ ⟨w.heap.size + 1, 5, none⟩ _) = w6
  have HE6 : Hid (EvB w6 (w.heap.size + 1) 0 0 frz) := Lib.hid (by rw [← hw6]; exact ev_put HE5.out 0 0 frz)
  have HK6 : Hid (Kept (fun k => k = w.heap.size + 1) w5 w6) := Lib.hid (by rw [← hw6]; exact ev_kept _ _ _ _ _ _ _ _)
  clear hw6 g0 g1 g2 g3 g4 g5 gl
  obtain ⟨g0, g1, g2, g3, g4, g5⟩ := HE6.out.cells
  refine bodyPost_ret (v := evV 0 0 frz) ?_ rfl ⟨rfl, HFIN.out _ HK6.out⟩
  simp [results, Tryd.results19, go_sem, g0, g1, g2, g3, g4, g5]
end Go.Proofs.YtpgfifacfkllfaaDoor
