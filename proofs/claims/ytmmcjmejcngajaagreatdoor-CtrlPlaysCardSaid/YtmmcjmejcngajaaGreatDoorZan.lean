/- Box, the document's side: Best. Box, plain: what Put, End and Take make of mailboxes; what may be of them. No program is meant. Box, the document's side: what is stored into mailboxes: a state, a packet, the rows of those that are ready, that have ended. Box, the document's side: Put. -/
import Derived.Test.YtmmcjmejcngajaaGreatDoorZam
import Derived.Test.YtmmcjmejcngajaaGreatDoorZai
import Derived.BigQuiet
import Derived.Deep.Cut
import Derived.Test.YtmmcjmejcngajaaGreatDoorZal
namespace Go.Proofs.YtmmcjmejcngajaaGreatDoor
open Go.RowKit
set_option linter.unusedVariables false

def Bx.key (s : Bx) (i : Int) : Int := keyG (s.P.getD i.toNat pk0).f
/-- of the first k that are ready the one with the least key -/
def Bx.best (s : Bx) : Nat → Int
  | 0 => -1
  | k + 1 => if s.best k < 0 ∨ s.key (s.ord.getD k 0) < s.key (s.best k) then s.ord.getD k 0 else s.best k
/-- those that are ready are mailboxes -/
def Bx.ordOk (s : Bx) : Prop := ∀ x ∈ s.ord, 0 ≤ x ∧ x < s.S.length
theorem Bx.best_rng {s : Bx} (h : s.ordOk) : ∀ k, k ≤ s.ord.length → -1 ≤ s.best k ∧ s.best k < s.S.length
  | 0, _ => by unfold Bx.best; exact ⟨Int.le_refl _, by omega⟩
  | k + 1, hk => by
    have h1 := Bx.best_rng h k (by omega)
    have h2 : 0 ≤ s.ord.getD k 0 ∧ s.ord.getD k 0 < s.S.length := by
      rw [List.getD_eq_getElem?_getD, List.getElem?_eq_getElem (by omega)]
      exact h _ (List.getElem_mem _)
    unfold Bx.best
    split <;> omega
theorem BxM.frame {w : World} {b gs gp : Nat} {vo ve : Value} {s : Bx} (h : BxM w b gs gp vo ve s) {n : Nat} (hn : n < s.S.length) :
    w.cell? ⟨gp, n * 7, none⟩ = some (.int .i64 (s.P.getD n pk0).f.i) ∧ w.cell? ⟨gp, n * 7 + 1, none⟩ = some (.int .i64 (s.P.getD n pk0).f.n) ∧ w.cell? ⟨gp, n * 7 + 2, none⟩ = some (.int .i64 (s.P.getD n pk0).f.l) ∧ w.cell? ⟨gp, n * 7 + 3, none⟩ = some (.string (s.P.getD n pk0).f.d) := by
  obtain ⟨p, hp⟩ : ∃ p, s.P[n]? = some p := ⟨_, List.getElem?_eq_getElem (by rw [h.len]; exact hn)⟩
  rw [List.getD_eq_getElem?_getD, hp]
  exact ⟨h.packet hp 0 _ rfl, h.packet hp 1 _ rfl, h.packet hp 2 _ rfl, h.packet hp 3 _ rfl⟩
set_option maxHeartbeats 4000000 in
theorem xbest_v {v : Value} {s : Bx} {O : Nat → Prop} (w : World) (h : BxD w v s O) (ho : s.ordOk) (hl : s.S.length ≤ 1000) (hol : s.ord.length ≤ 100000) : Calls Tryz.prog 52 #[v] w fun e w' => e = .returned (.int .i64 (s.best s.ord.length)) ∧ Below w.heap.size w w' := by
  obtain ⟨b, gs, gp, vo, ve, rfl, rfl, h⟩ := h
  have H := Lib.hid h
  have HO := Lib.hid ho
  obtain ⟨AO, co, hv⟩ := h.ord.shape
  subst hv
  have hol2 : (s.ord.length : Int) ≤ 100000 := by omega
  have hl2 : (s.S.length : Int) ≤ 1000 := by omega
  clear h ho
  have HB0 := Lib.hid (Below.refl w.heap.size w)
  go_enter Tryz.func52, Tryz.ntmps52
  go_wp2_with fail
  go_loopw [3, 4] (fun m i wr => ∃ k : Nat, k ≤ s.ord.length ∧ i = .int .i64 k ∧ m = .int .i64 (s.best k) ∧ Hid (Below w.heap.size w wr)) (fun _ i _ => s.ord.length - (intOf i).toNat)
  case atStart => exact ⟨0, by omega, rfl, rfl, HB0⟩
  case round =>
    obtain ⟨k, hk, rfl, rfl, HB⟩ := hrel
    have HM := Lib.hid (H.out.later HB.out)
    obtain ⟨c0, c1, c2, c3⟩ := HM.out.cells
    have hb := heap_some_lt HM.out.box
    by_cases hlt : k < s.ord.length
    · have hkl : (k : Int) < (s.ord.length : Int) := by omega
      obtain ⟨x, cx, hv1, hxb, hcell⟩ := SlG.at_ (HM.out.ord.sl inC_len (by unfold maxLen; omega)) hlt
      injection hv1 with hAA _ hcap
      subst hAA hcap
      have a0 : wr.cell? (x.add (k * 1)) = some (.int .i64 (s.ord[k]'hlt)) := hcell 0 _ rfl
      rw [Nat.mul_one] at a0
      obtain ⟨y1, y2⟩ := HO.out _ (List.getElem_mem hlt)
      have hgd : s.ord.getD k 0 = s.ord[k]'hlt := by rw [List.getD_eq_getElem?_getD, List.getElem?_eq_getElem hlt]; rfl
      have HSU : Hid (s.best (k + 1) = if s.best k < 0 ∨ s.key (s.ord[k]'hlt) < s.key (s.best k) then s.ord[k]'hlt else s.best k) := Lib.hid (by rw [← hgd]; rfl)
      obtain ⟨r1, r2⟩ := Bx.best_rng HO.out k (by omega)
      generalize s.ord[k]'hlt = o at a0 y1 y2 HSU
      obtain ⟨n, rfl⟩ : ∃ n : Nat, o = n := ⟨o.toNat, by omega⟩
      generalize s.best k = bk at r1 r2 HSU
      clear hcell hgd
      by_cases hneg : bk < 0
      · have HS2 : Hid (s.best (k + 1) = n) := Lib.hid (by rw [HSU.out, if_pos (.inl hneg)])
        go_wp2
        go_quiet (fail)
        go_wp2
        go_roundw
        case rel => exact ⟨k + 1, by omega, by go_num, by rw [HS2.out], Lib.hid (fbelow_t HB.out (below_drewN (Below.refl _ _) _))⟩
        case measure => simp [intOf]; omega
      · obtain ⟨m, rfl⟩ : ∃ m : Nat, bk = m := ⟨bk.toNat, by omega⟩
        go_upto_region 6 with fail
        have hn0 : (n : Int) < (s.S.length : Int) := by omega
        have hm0 : (m : Int) < (s.S.length : Int) := by omega
        obtain ⟨p0, p1, p2, p3⟩ := HM.out.frame (n := n) (by omega)
        obtain ⟨q0, q1, q2, q3⟩ := HM.out.frame (n := m) (by omega)
        have hgp := heap_some_lt HM.out.pk
        obtain ⟨kn, hkn⟩ : ∃ z, s.key n = z := ⟨_, rfl⟩
        obtain ⟨km, hkm⟩ : ∃ z, s.key m = z := ⟨_, rfl⟩
        rw [hkn, hkm] at HSU
        have HKN : Hid (keyG (s.P.getD n pk0).f = kn) := Lib.hid (by rw [← hkn]; rfl)
        have HKM : Hid (keyG (s.P.getD m pk0).f = km) := Lib.hid (by rw [← hkm]; rfl)
        generalize (s.P.getD n pk0).f = fn at p0 p1 p2 p3 HKN
        generalize (s.P.getD m pk0).f = fm at q0 q1 q2 q3 HKM
        clear hkn hkm
        have hcl : ∀ (n : Later wr) (b o : Nat), b < wr.heap.size → n.w.cell? ⟨b, o, none⟩ = wr.cell? ⟨b, o, none⟩ := later_cells wr
        refine wp_region_sec 22 [] (fun _ _ _ => True) (fun _ _ _ _ _ _ => True.intro) (by kernel_rfl) (by kernel_rfl) (by kernel_rfl) (by kernel_rfl) (by kernel_rfl) ?_
        simp only [List.take_succ_cons, List.take_zero, List.drop_succ_cons, List.drop_zero]
        repeat ((first | refine sec_plain (by rfl) (by rfl) (by rfl) (by rfl) ?_ | refine sec_nil (by rfl) (by rfl) (by rfl) (by rfl) (by rfl) ?_); intro K hK; go_big_quiet_op; go_big_quiet_on)
        refine sec_call (v := .int .i64 kn) (by rfl) (by rfl) (by rfl) (by rfl) (by rfl) ?_ ?_
        · intro q K hK
          go_big_quiet_op
          exact ⟨_, fun q2 => Later.call (rkey_v HKN.out _), hK⟩
        simp only [Act.put, List.setIfInBounds_toArray, List.set_cons_succ, List.set_cons_zero]
        repeat ((first | refine sec_plain (by rfl) (by rfl) (by rfl) (by rfl) ?_ | refine sec_nil (by rfl) (by rfl) (by rfl) (by rfl) (by rfl) ?_); intro K hK; go_big_quiet_op; go_big_quiet_on)
        refine sec_call (v := .int .i64 km) (by rfl) (by rfl) (by rfl) (by rfl) (by rfl) ?_ ?_
        · intro q K hK
          go_big_quiet_op
          exact ⟨_, fun q2 => Later.call (rkey_v HKM.out _), hK⟩
        simp only [Act.put, List.setIfInBounds_toArray, List.set_cons_succ, List.set_cons_zero]
        repeat ((first | refine sec_plain (by rfl) (by rfl) (by rfl) (by rfl) ?_ | refine sec_nil (by rfl) (by rfl) (by rfl) (by rfl) (by rfl) ?_); intro K hK; go_big_quiet_op; go_big_quiet_on)
        intro xs m9 hF
        simp only [secFill]
        clear hF xs hcl a0 c0 c1 c2 c3 hb p0 p1 p2 p3 q0 q1 q2 q3
        have HB9 := Lib.hid (fbelow_t HB.out m9.h)
        generalize m9.w = w9 at HB9 ⊢
        by_cases hkk : kn < km
        · have HS2 : Hid (s.best (k + 1) = n) := Lib.hid (by rw [HSU.out, if_pos (.inr hkk)])
          go_wp2
          go_roundw
          case rel => exact ⟨k + 1, by omega, by go_num, by rw [HS2.out], HB9⟩
          case measure => simp [intOf]; omega
        · have HS2 : Hid (s.best (k + 1) = m) := Lib.hid (by rw [HSU.out, if_neg (by omega)])
          go_wp2
          go_roundw
          case rel => exact ⟨k + 1, by omega, by go_num, by rw [HS2.out], HB9⟩
          case measure => simp [intOf]; omega
    · obtain rfl : k = s.ord.length := by omega
      go_wp2
      go_ret
      exact ⟨rfl, HB.out⟩
end Go.Proofs.YtmmcjmejcngajaaGreatDoor

namespace Go.Proofs.YtmmcjmejcngajaaGreatDoor
open Go.RowKit
set_option linter.unusedVariables false

/-- the first free one from k on -/
def Bx.first (s : Bx) : Nat → Option Nat
  | 0 => none
  | k + 1 => match s.first k with
    | some i => some i
    | none => if s.S.getD k 1 = 0 then some k else none
theorem Bx.first_some {s : Bx} {i : Nat} : ∀ {k}, s.first k = some i → i < k ∧ s.S.getD i 1 = 0
  | 0, h => by cases h
  | k + 1, h => by
    unfold Bx.first at h
    cases hk : s.first k with
    | some j =>
      rw [hk] at h
      simp only at h
      injection h with h
      subst h
      have := Bx.first_some hk
      exact ⟨by omega, this.2⟩
    | none =>
      rw [hk] at h
      simp only at h
      split at h
      · injection h with h; subst h; exact ⟨Nat.lt_succ_self _, by assumption⟩
      · cases h
theorem Bx.first_at {s : Bx} {k : Nat} (h : s.first k = none) (h0 : s.S.getD k 1 = 0) : ∀ n, k < n → s.first n = some k := by
  intro n
  induction n with
  | zero => intro h; omega
  | succ n ih =>
    intro hk
    unfold Bx.first
    by_cases e : k = n
    · subst e; rw [h]; simp only; rw [if_pos h0]
    · rw [ih (by omega)]
theorem Bx.first_more {s : Bx} {k : Nat} (h : s.first k = none) (h0 : ¬ s.S.getD k 1 = 0) : s.first (k + 1) = none := by unfold Bx.first; rw [h]; simp only; rw [if_neg h0]
def Bx.putAt (s : Bx) (i : Nat) (p : Pk) : Bx := { s with S := s.S.set i 1, P := s.P.set i p, ord := s.ord ++ [(i : Int)] }
def Bx.put (s : Bx) (p : Pk) : Bx × Int × Int :=
  if keyG p.f < 0 then (s, 0, 4) else match s.first s.S.length with
    | some i => (s.putAt i p, i, 0)
    | none => (s, 0, 5)
def Bx.endAt (s : Bx) (i : Nat) (st : Int) : Bx := { s with S := s.S.set i st, ord := s.ord.filter (fun x => x != (i : Int)), fin := s.fin ++ [(i : Int)] }
def Bx.end_ (s : Bx) (box st : Int) : Bx × Int := if box < 0 ∨ (s.S.length : Int) ≤ box ∨ s.S.getD box.toNat 0 ≠ 1 then (s, 2) else (s.endAt box.toNat st, 0)
def Bx.take (s : Bx) : Bx × Int × Pk × Bool := match s.fin with
  | [] => (s, -1, pk0, false)
  | x :: r => ({ s with S := s.S.set x.toNat 0, P := s.P.set x.toNat pk0, fin := r }, x, s.P.getD x.toNat pk0, s.S.getD x.toNat 0 == 2)
/-- what may be of mailboxes -/
structure Bx.Ok (s : Bx) : Prop where
  n1 : 1 ≤ s.S.length
  n2 : s.S.length ≤ 1000
  lp : s.P.length = s.S.length
  ord : ∀ x ∈ s.ord, 0 ≤ x ∧ x < s.S.length ∧ s.S.getD x.toNat 0 = 1
  fin : ∀ x ∈ s.fin, 0 ≤ x ∧ x < s.S.length ∧ (s.S.getD x.toNat 0 = 2 ∨ s.S.getD x.toNat 0 = 3)
  nd1 : s.ord.Nodup
  nd2 : s.fin.Nodup
  key : ∀ x ∈ s.ord, 0 ≤ s.key x
theorem nodup_le : ∀ (n : Nat) (L : List Int), L.Nodup → (∀ x ∈ L, 0 ≤ x ∧ x < n) → L.length ≤ n
  | 0, L, _, h => by
    cases L with
    | nil => exact Nat.le_refl _
    | cons a L => have := h a (by simp); omega
  | n + 1, L, hn, h => by
    have h1 := nodup_le n (L.erase (n : Int)) (hn.erase _) (fun x hx => by
      have h2 := h x (List.mem_of_mem_erase hx)
      have h3 : x ≠ (n : Int) := fun e => by subst e; exact (List.Nodup.not_mem_erase hn) hx
      omega)
    by_cases hm : (n : Int) ∈ L
    · have := List.length_erase_of_mem hm
      omega
    · rw [List.erase_of_not_mem hm] at h1
      omega
theorem Bx.Ok.ordOk {s : Bx} (h : s.Ok) : s.ordOk := fun x hx => ⟨(h.ord x hx).1, (h.ord x hx).2.1⟩
theorem Bx.Ok.ordLe {s : Bx} (h : s.Ok) : s.ord.length ≤ 1000 := Nat.le_trans (nodup_le _ _ h.nd1 fun x hx => ⟨(h.ord x hx).1, (h.ord x hx).2.1⟩) h.n2
theorem Bx.Ok.finLe {s : Bx} (h : s.Ok) : s.fin.length ≤ 1000 := Nat.le_trans (nodup_le _ _ h.nd2 fun x hx => ⟨(h.fin x hx).1, (h.fin x hx).2.1⟩) h.n2
theorem boxesN_rng (n : Int) : 1 ≤ boxesN n ∧ boxesN n ≤ 1000 := by unfold boxesN; split <;> (try split) <;> omega
theorem Bx.Ok.new (n : Int) : (bxNew (boxesN n)).Ok := by
  have := boxesN_rng n
  exact ⟨by simp [bxNew]; omega, by simp [bxNew]; omega, by simp [bxNew], nofun, nofun, List.nodup_nil, List.nodup_nil, nofun⟩
theorem getD_set' {α : Type} (l : List α) (i j : Nat) (a d : α) : (l.set i a).getD j d = if i = j ∧ i < l.length then a else l.getD j d := by
  rw [List.getD_eq_getElem?_getD, List.getD_eq_getElem?_getD, List.getElem?_set]
  by_cases h : i = j
  · subst h
    by_cases h2 : i < l.length
    · rw [if_pos rfl, if_pos h2, if_pos ⟨rfl, h2⟩]; rfl
    · rw [if_pos rfl, if_neg h2, if_neg (fun h => h2 h.2), List.getElem?_eq_none (by omega)]
  · rw [if_neg h, if_neg (fun h' => h h'.1)]
theorem Bx.getD_01 {s : Bx} {i : Nat} (h : i < s.S.length) : s.S.getD i 1 = s.S.getD i 0 := by rw [List.getD_eq_getElem?_getD, List.getD_eq_getElem?_getD, List.getElem?_eq_getElem h]; rfl
theorem Bx.Ok.putAt {s : Bx} (h : s.Ok) {i : Nat} (hi : i < s.S.length) (h0 : s.S.getD i 1 = 0) {p : Pk} (hp : 0 ≤ keyG p.f) : (s.putAt i p).Ok := by
  rw [Bx.getD_01 hi] at h0
  have hno : (i : Int) ∉ s.ord := fun hm => by
    have := (h.ord _ hm).2.2
    rw [Int.toNat_natCast, h0] at this
    omega
  have hnf : (i : Int) ∉ s.fin := fun hm => by
    have := (h.fin _ hm).2.2
    rw [Int.toNat_natCast, h0] at this
    omega
  refine ⟨by simp [Bx.putAt]; exact h.n1, by simp [Bx.putAt]; exact h.n2, by simp [Bx.putAt]; exact h.lp, fun x hx => ?_, fun x hx => ?_, ?_, h.nd2, fun x hx => ?_⟩
  · simp only [Bx.putAt, List.mem_append, List.mem_singleton] at hx
    simp only [Bx.putAt, List.length_set, getD_set']
    rcases hx with hx | rfl
    · obtain ⟨h1, h2, h3⟩ := h.ord x hx
      refine ⟨h1, h2, ?_⟩
      rw [if_neg (fun h' => hno (by rw [h'.1, Int.toNat_of_nonneg h1]; exact hx))]; exact h3
    · refine ⟨by omega, by omega, ?_⟩
      rw [Int.toNat_natCast, if_pos ⟨rfl, hi⟩]
  · have hx' : x ∈ s.fin := hx
    obtain ⟨h1, h2, h3⟩ := h.fin x hx'
    simp only [Bx.putAt, List.length_set, getD_set']
    refine ⟨h1, h2, ?_⟩
    rw [if_neg (fun h' => hnf (by rw [h'.1, Int.toNat_of_nonneg h1]; exact hx'))]; exact h3
  · show (s.ord ++ [(i : Int)]).Nodup
    rw [List.nodup_append]
    exact ⟨h.nd1, by simp, fun a ha b hb => by simp at hb; subst hb; exact fun e => hno (e ▸ ha)⟩
  · simp only [Bx.putAt, List.mem_append, List.mem_singleton] at hx
    simp only [Bx.key, Bx.putAt, getD_set']
    rcases hx with hx | rfl
    · rw [if_neg (fun h' => hno (by rw [h'.1, Int.toNat_of_nonneg (h.ord x hx).1]; exact hx))]; exact h.key x hx
    · rw [Int.toNat_natCast, if_pos ⟨rfl, by rw [h.lp]; exact hi⟩]; exact hp
theorem Bx.Ok.put {s : Bx} (h : s.Ok) (p : Pk) : (s.put p).1.Ok := by
  unfold Bx.put
  split
  · exact h
  · split
    · rename_i hk i hf
      obtain ⟨h1, h2⟩ := Bx.first_some hf
      exact h.putAt h1 h2 (by omega)
    · exact h
theorem Bx.Ok.endAt {s : Bx} (h : s.Ok) {i : Nat} (hi : i < s.S.length) (h1 : s.S.getD i 0 = 1) {st : Int} (hst : st = 2 ∨ st = 3) : (s.endAt i st).Ok := by
  have hnf : (i : Int) ∉ s.fin := fun hm => by
    have := (h.fin _ hm).2.2
    rw [Int.toNat_natCast, h1] at this
    omega
  refine ⟨by simp [Bx.endAt]; exact h.n1, by simp [Bx.endAt]; exact h.n2, by simp [Bx.endAt]; exact h.lp, fun x hx => ?_, fun x hx => ?_, h.nd1.filter _, ?_, fun x hx => ?_⟩
  · simp only [Bx.endAt, List.mem_filter, bne_iff_ne, ne_eq] at hx
    obtain ⟨h2, h3, h4⟩ := h.ord x hx.1
    simp only [Bx.endAt, List.length_set, getD_set']
    refine ⟨h2, h3, ?_⟩
    rw [if_neg (fun h' => hx.2 (by rw [h'.1, Int.toNat_of_nonneg h2]))]; exact h4
  · simp only [Bx.endAt, List.mem_append, List.mem_singleton] at hx
    simp only [Bx.endAt, List.length_set, getD_set']
    rcases hx with hx | rfl
    · obtain ⟨h2, h3, h4⟩ := h.fin x hx
      refine ⟨h2, h3, ?_⟩
      rw [if_neg (fun h' => hnf (by rw [h'.1, Int.toNat_of_nonneg h2]; exact hx))]; exact h4
    · refine ⟨by omega, by omega, ?_⟩
      rw [Int.toNat_natCast, if_pos ⟨rfl, hi⟩]; exact hst
  · show (s.fin ++ [(i : Int)]).Nodup
    rw [List.nodup_append]
    exact ⟨h.nd2, by simp, fun a ha b hb => by simp at hb; subst hb; exact fun e => hnf (e ▸ ha)⟩
  · simp only [Bx.endAt, List.mem_filter] at hx
    exact h.key x hx.1
theorem Bx.Ok.end_ {s : Bx} (h : s.Ok) (box : Int) {st : Int} (hst : st = 2 ∨ st = 3) : (s.end_ box st).1.Ok := by
  unfold Bx.end_
  split
  · exact h
  · rename_i hc
    exact h.endAt (by omega) (by omega) hst
theorem Bx.Ok.take {s : Bx} (h : s.Ok) : s.take.1.Ok := by
  unfold Bx.take
  cases hf : s.fin with
  | nil => exact h
  | cons x r =>
    obtain ⟨h1, h2, h3⟩ := h.fin x (by rw [hf]; simp)
    have hnd := h.nd2
    rw [hf, List.nodup_cons] at hnd
    have hno : ∀ y ∈ s.ord, x.toNat ≠ y.toNat := fun y hy e => by
      have := (h.ord y hy).2.2
      rw [← e] at this
      omega
    refine ⟨by simp; exact h.n1, by simp; exact h.n2, by simp; exact h.lp, fun y hy => ?_, fun y hy => ?_, h.nd1, hnd.2, fun y hy => ?_⟩
    · obtain ⟨g1, g2, g3⟩ := h.ord y hy
      simp only [List.length_set, getD_set']
      refine ⟨g1, g2, ?_⟩
      rw [if_neg (fun h' => hno y hy h'.1)]; exact g3
    · obtain ⟨g1, g2, g3⟩ := h.fin y (by rw [hf]; simp; exact .inr hy)
      simp only [List.length_set, getD_set']
      refine ⟨g1, g2, ?_⟩
      rw [if_neg (fun h' => hnd.1 (by rw [show x = y by omega]; exact hy))]; exact g3
    · simp only [Bx.key, getD_set']
      rw [if_neg (fun h' => hno y hy h'.1)]; exact h.key y hy
end Go.Proofs.YtmmcjmejcngajaaGreatDoor

namespace Go.Proofs.YtmmcjmejcngajaaGreatDoor
open Go.RowKit
set_option linter.unusedVariables false

theorem rowG_setI (x : Int) : ∀ (N : List Int) (i : Nat), (rowG inC N).set i (.int .i64 x) = rowG inC (N.set i x)
  | [], i => rfl
  | a :: N, 0 => rfl
  | a :: N, i + 1 => by
    have ih := rowG_setI x N i
    have e : rowG inC (a :: N) = inC a ++ rowG inC N := by simp [rowG]
    have e2 : rowG inC ((a :: N).set (i + 1) x) = inC a ++ rowG inC (N.set i x) := by simp [rowG]
    rw [e, e2, ← ih]
    rfl
section
variable {w w' : World} {b gs gp : Nat} {vo ve : Value} {s : Bx}
theorem BxM.setState (h : BxM w b gs gp vo ve s) (i : Nat) (x : Int) : BxM (w.setCell ⟨gs, i, none⟩ (.int .i64 x)) b gs gp vo ve { s with S := s.S.set i x } ∧ Kept (bxO b gs gp vo ve) w (w.setCell ⟨gs, i, none⟩ (.int .i64 x)) := by
  have hz : w.heap.size ≤ (w.setCell ⟨gs, i, none⟩ (.int .i64 x)).heap.size := by simp [World.setCell]
  have ho : ∀ k, k ≠ gs → (w.setCell ⟨gs, i, none⟩ (.int .i64 x)).heap[k]? = w.heap[k]? := fun k hk => Below.heap_setCell _ _ _ _ hk
  refine ⟨⟨?_, ?_, ?_, by simpa using h.len, ?_, ?_, h.h1, h.h2, h.h3, h.f1, h.f2, h.f3⟩, ⟨rfl, rfl, rfl, hz, fun k _ hk => ho k (fun e => hk (.inr (.inl e)))⟩⟩
  · rw [ho b h.h1, h.box]; simp
  · rw [heap_setCell_same w gs i _ _ _ h.st]
    simp only [List.setIfInBounds_toArray]
    rw [rowG_setI]
  · rw [ho gp (fun e => h.h3 e.symm)]; exact h.pk
  · exact h.ord.stay (fun k hk => ho k (fun e => h.f1.2.1 (e ▸ hk))) hz
  · exact h.fin.stay (fun k hk => ho k (fun e => h.f2.2.1 (e ▸ hk))) hz
theorem BxM.setPacket (h : BxM w b gs gp vo ve s) {i : Nat} (hi : i < s.P.length) (p : Pk) : BxM (putP w gp i p) b gs gp vo ve { s with P := s.P.set i p } ∧ Kept (bxO b gs gp vo ve) w (putP w gp i p) := by
  have hz : w.heap.size ≤ (putP w gp i p).heap.size := by rw [putP_size]; exact Nat.le_refl _
  refine ⟨⟨?_, ?_, ?_, by simpa using h.len, ?_, ?_, h.h1, h.h2, h.h3, h.f1, h.f2, h.f3⟩, ⟨(putP_rest w gp i p).1, (putP_rest w gp i p).2.1, (putP_rest w gp i p).2.2, hz, fun k _ hk => putP_other (fun e => hk (.inr (.inr (.inl e))))⟩⟩
  · rw [putP_other h.h2]; exact h.box
  · rw [putP_other h.h3]; exact h.st
  · have a0 := heap_setCell_same w gp (i * 7) _ _ (.int .i64 p.f.i) h.pk
    have a1 := heap_setCell_same _ gp (i * 7 + 1) _ _ (.int .i64 p.f.n) a0
    have a2 := heap_setCell_same _ gp (i * 7 + 2) _ _ (.int .i64 p.f.l) a1
    have a3 := heap_setCell_same _ gp (i * 7 + 3) _ _ (.string p.f.d) a2
    have a4 := heap_setCell_same _ gp (i * 7 + 4) _ _ (.int .i64 p.fr) a3
    have a5 := heap_setCell_same _ gp (i * 7 + 5) _ _ (.int .i64 p.tag) a4
    have a6 := heap_setCell_same _ gp (i * 7 + 6) _ _ (.bool p.lp) a5
    unfold putP
    rw [a6]
    simp only [List.setIfInBounds_toArray]
    rw [rowG_setP p s.P i hi]
  · exact h.ord.stay (fun k hk => putP_other (fun e => h.f1.2.2 (e ▸ hk))) hz
  · exact h.fin.stay (fun k hk => putP_other (fun e => h.f2.2.2 (e ▸ hk))) hz
/-- the row of those that are ready is another one now -/
theorem BxM.setOrd {v' : Value} {L' : List Int} (h : BxM w b gs gp vo ve s) (hq : RowQ inC 1 w' v' L') (hk : Kept (OwnO vo) w w') (hg : Grows (OwnO vo) w (OwnO v')) :
    BxM (w'.setCell ⟨b, 2, none⟩ v') b gs gp v' ve { s with ord := L' } ∧ Kept (bxO b gs gp vo ve) w (w'.setCell ⟨b, 2, none⟩ v') ∧ Grows (bxO b gs gp vo ve) w (bxO b gs gp v' ve) := by
  have hz : w'.heap.size ≤ (w'.setCell ⟨b, 2, none⟩ v').heap.size := by simp [World.setCell]
  have ho : ∀ k, k ≠ b → (w'.setCell ⟨b, 2, none⟩ v').heap[k]? = w'.heap[k]? := fun k hk => Below.heap_setCell _ _ _ _ hk
  have hlt := h.lt
  obtain ⟨u1, u2, u3⟩ := h.f1
  have nv : ∀ k, k < w.heap.size → ¬ OwnO vo k → ¬ OwnO v' k := fun k h1 h2 h3 => by rcases hg k h3 with h4 | h4; exact h2 h4; omega
  have lb := hlt b (.inl rfl)
  have ls := hlt gs (.inr (.inl rfl))
  have lp := hlt gp (.inr (.inr (.inl rfl)))
  refine ⟨⟨?_, ?_, ?_, h.len, hq.stay (fun k hk' => ho k (fun e => nv b lb u1 (e ▸ hk'))) hz, ?_, h.h1, h.h2, h.h3, ⟨nv b lb u1, nv gs ls u2, nv gp lp u3⟩, h.f2, fun k h1 h2 => ?_⟩, ?_, ?_⟩
  · rw [heap_setCell_same w' b 2 _ _ _ ((hk.block b lb u1).trans h.box)]; rfl
  · rw [ho gs (fun e => h.h1 e.symm), hk.block gs ls u2]; exact h.st
  · rw [ho gp (fun e => h.h2 e.symm), hk.block gp lp u3]; exact h.pk
  · exact (h.fin.stay (fun k hk' => hk.block k (h.fin.lt k hk') (fun h6 => h.f3 k h6 hk')) hk.size).stay (fun k hk' => ho k (fun e => h.f2.1 (e ▸ hk'))) hz
  · exact nv k (h.fin.lt k h2) (fun h3 => h.f3 k h3 h2) h1
  · exact ⟨hk.os, hk.tape, hk.output, Nat.le_trans hk.size hz, fun k h1 h2 => (ho k (fun e => h2 (.inl e))).trans (hk.block k h1 (fun h3 => h2 (.inr (.inr (.inr (.inl h3))))))⟩
  · rintro k (h1 | h1 | h1 | h1 | h1)
    · exact .inl (.inl h1)
    · exact .inl (.inr (.inl h1))
    · exact .inl (.inr (.inr (.inl h1)))
    · exact (hg k h1).imp (fun h => .inr (.inr (.inr (.inl h)))) id
    · exact .inl (.inr (.inr (.inr (.inr h1))))
/-- the row of those that have ended is another one now -/
theorem BxM.setFin {v' : Value} {L' : List Int} (h : BxM w b gs gp vo ve s) (hq : RowQ inC 1 w' v' L') (hk : Kept (OwnO ve) w w') (hg : Grows (OwnO ve) w (OwnO v')) :
    BxM (w'.setCell ⟨b, 3, none⟩ v') b gs gp vo v' { s with fin := L' } ∧ Kept (bxO b gs gp vo ve) w (w'.setCell ⟨b, 3, none⟩ v') ∧ Grows (bxO b gs gp vo ve) w (bxO b gs gp vo v') := by
  have hz : w'.heap.size ≤ (w'.setCell ⟨b, 3, none⟩ v').heap.size := by simp [World.setCell]
  have ho : ∀ k, k ≠ b → (w'.setCell ⟨b, 3, none⟩ v').heap[k]? = w'.heap[k]? := fun k hk => Below.heap_setCell _ _ _ _ hk
  have hlt := h.lt
  obtain ⟨u1, u2, u3⟩ := h.f2
  have nv : ∀ k, k < w.heap.size → ¬ OwnO ve k → ¬ OwnO v' k := fun k h1 h2 h3 => by rcases hg k h3 with h4 | h4; exact h2 h4; omega
  have lb := hlt b (.inl rfl)
  have ls := hlt gs (.inr (.inl rfl))
  have lp := hlt gp (.inr (.inr (.inl rfl)))
  refine ⟨⟨?_, ?_, ?_, h.len, ?_, hq.stay (fun k hk' => ho k (fun e => nv b lb u1 (e ▸ hk'))) hz, h.h1, h.h2, h.h3, h.f1, ⟨nv b lb u1, nv gs ls u2, nv gp lp u3⟩, fun k h1 h2 => ?_⟩, ?_, ?_⟩
  · rw [heap_setCell_same w' b 3 _ _ _ ((hk.block b lb u1).trans h.box)]; rfl
  · rw [ho gs (fun e => h.h1 e.symm), hk.block gs ls u2]; exact h.st
  · rw [ho gp (fun e => h.h2 e.symm), hk.block gp lp u3]; exact h.pk
  · exact (h.ord.stay (fun k hk' => hk.block k (h.ord.lt k hk') (fun h6 => h.f3 k hk' h6)) hk.size).stay (fun k hk' => ho k (fun e => h.f1.1 (e ▸ hk'))) hz
  · exact nv k (h.ord.lt k h1) (fun h3 => h.f3 k h1 h3) h2
  · exact ⟨hk.os, hk.tape, hk.output, Nat.le_trans hk.size hz, fun k h1 h2 => (ho k (fun e => h2 (.inl e))).trans (hk.block k h1 (fun h3 => h2 (.inr (.inr (.inr (.inr h3))))))⟩
  · rintro k (h1 | h1 | h1 | h1 | h1)
    · exact .inl (.inl h1)
    · exact .inl (.inr (.inl h1))
    · exact .inl (.inr (.inr (.inl h1)))
    · exact .inl (.inr (.inr (.inr (.inl h1))))
    · exact (hg k h1).imp (fun h => .inr (.inr (.inr (.inr h)))) id
end
end Go.Proofs.YtmmcjmejcngajaaGreatDoor

namespace Go.Proofs.YtmmcjmejcngajaaGreatDoor
open Go.RowKit
set_option linter.unusedVariables false

theorem flat_in : FlatE Tryz.prog 45 3 1 8 := by
  obtain ⟨i0, hi, hz0, hz1, hz2⟩ := info_parts info_in
  exact ⟨Tryz.underlying45, i0, _, hi, hz0, hz1, hz2, rfl, by decide, by decide⟩
theorem inC_one : ∀ n : Int, ∀ u ∈ inC n, u.oneCell' = true := fun n u hu => by
  simp only [inC, List.mem_cons, List.not_mem_nil, or_false] at hu
  subst hu; rfl
set_option maxHeartbeats 8000000 in
theorem xput_v {v : Value} {s : Bx} {O : Nat → Prop} {p : Pk} {i e : Int} (w : World) (h : BxD w v s O) (hk : (s.put p).2 = (i, e)) (hl : s.S.length ≤ 1000) (hol : s.ord.length ≤ 1000) :
    Calls Tryz.prog 23 #[v, pkV p] w fun x w' => x = .returned (.tuple #[.int .i64 i, .int .i64 e]) ∧ Stp BxD v O w (s.put p).1 w' := by
  obtain ⟨b, gs, gp, vo, ve, rfl, rfl, hm⟩ := h
  have HM := Lib.hid hm
  have HK := Lib.hid hk
  have HOL := Lib.hid hol
  have hb0 := (Below.refl w.heap.size w).alloc (Nat.le_refl _) (.cells #[.int .i64 p.f.i, .int .i64 p.f.n, .int .i64 p.f.l, .string p.f.d, .int .i64 p.fr, .int .i64 p.tag, .bool p.lp] 35)
  have HB0 := Lib.hid hb0
  have HP0 := Lib.hid (BoxP.made w p)
  have hl2 : (s.S.length : Int) ≤ 1000 := by omega
  have HS : Hid (∀ w' : World, Below w.heap.size w w' → Stp BxD (.pointer (some ⟨b, 0, none⟩)) (bxO b gs gp vo ve) w s w') := Lib.hid (fun w' hb => ⟨_, ⟨b, gs, gp, vo, ve, rfl, rfl, HM.out.later hb⟩, .of_below hb, Grows.refl _ _⟩)
  obtain ⟨q, hq⟩ : ∃ q, keyG p.f = q := ⟨_, rfl⟩
  have HQ : Hid (keyV p.f.i p.f.n p.f.l p.f.d.size = q) := Lib.hid hq
  obtain ⟨d0, d1, d2, d3, d4, d5, d6⟩ := HP0.out.cells
  clear hb0 hk hol hm
  by_cases h3 : q < 0
  · have HE : Hid (s.put p = (s, 0, 4)) := Lib.hid (by unfold Bx.put; rw [if_pos (by rw [hq]; exact h3)])
    rw [HE.out] at HK ⊢
    obtain ⟨rfl, rfl⟩ : 0 = i ∧ 4 = e := by have e1 := HK.out; simpa using e1
    go_enter Tryz.func23, Tryz.ntmps23
    go_wp2_with fail
    refine (rkey_v HQ.out _).mono ?_
    rintro x w1 ⟨rfl, hb⟩
    go_wp2
    go_ret2
    exact ⟨rfl, HS.out _ (fbelow_t HB0.out hb)⟩
  · have HPU : Hid (s.put p = match s.first s.S.length with | some i => (s.putAt i p, (i : Int), 0) | none => (s, 0, 5)) := Lib.hid (by unfold Bx.put; rw [if_neg (by rw [hq]; exact h3)]; try (cases s.first s.S.length <;> rfl))
    have hd3 : decide (q < 0) = false := decide_eq_false h3
    clear hq h3
    go_enter Tryz.func23, Tryz.ntmps23
    go_wp2_with fail
    refine (rkey_v HQ.out _).mono ?_
    rintro x w1 ⟨rfl, hb⟩
    have HB1 := Lib.hid (fbelow_t HB0.out hb)
    have HM1 := Lib.hid (HM.out.later HB1.out)
    have HP1 := Lib.hid (HP0.out.later hb)
    clear d0 d1 d2 d3 d4 d5 d6 hb
    obtain ⟨c0, c1, c2, c3⟩ := HM1.out.cells
    go_wp2_with fail
    go_loop [6] (fun i => ∃ k : Nat, k ≤ s.S.length ∧ i = .int .i64 k ∧ Hid (s.first k = none)) (fun i => s.S.length - (intOf i).toNat)
    case atStart => exact ⟨0, Nat.zero_le _, rfl, Lib.hid rfl⟩
    case round =>
      obtain ⟨k, hk, rfl, HI⟩ := hrel
      by_cases hlt : k < s.S.length
      · have hkl : (k : Int) < (s.S.length : Int) := by omega
        obtain ⟨x, hx⟩ : ∃ x, s.S[k]? = some x := ⟨_, List.getElem?_eq_getElem hlt⟩
        obtain ⟨a0, a1⟩ := HM1.out.state hx
        have hx2 : s.S.getD k 1 = x := by rw [List.getD_eq_getElem?_getD, hx]; rfl
        by_cases h0 : x = 0
        · subst h0
          have HF := Lib.hid (Bx.first_at HI.out hx2 _ hlt)
          have HE : Hid (s.put p = (s.putAt k p, (k : Int), 0)) := Lib.hid (by rw [HPU.out, HF.out])
          have HW1 := Lib.hid (HM1.out.setState k 1)
          clear hx hx2
          obtain ⟨rfl, rfl⟩ : (k : Int) = i ∧ 0 = e := by have e1 := HK.out; rw [HE.out] at e1; simpa using e1
          have hbs : b < w1.heap.size := heap_some_lt HM1.out.box
          have hps := HP1.out.lt
          have hno : ¬ w.heap.size = gs := fun e => by have := heap_some_lt HM.out.st; omega
          go_upto_region 8 with fail
          generalize hws : w1.setCell ⟨gs, k, none⟩ (.int .i64 1) = ws at *
          have HPS : Hid (BoxP ws w.heap.size p) := Lib.hid (HP1.out.kept (O := fun x => x = gs) (by rw [← hws]; exact ⟨rfl, rfl, rfl, by simp [World.setCell], fun x _ hx => Below.heap_setCell _ _ _ _ hx⟩) hno)
          obtain ⟨d0, d1, d2, d3, d4, d5, d6⟩ := HPS.out.cells
          obtain ⟨q0, q1, q2, q3⟩ := HW1.out.1.cells
          simp only [List.length_set] at q0 q1
          have hbs2 : b < ws.heap.size := heap_some_lt HW1.out.1.box
          have hps2 := HPS.out.lt
          clear c0 c1 c2 c3 a0 a1
          have hqb : ∀ (q : KLater (fun _ => False) ws) (o : Nat), q.w.cell? ⟨b, o, none⟩ = ws.cell? ⟨b, o, none⟩ := fun q o => q.cell b o hbs2 (fun h => h)
          have hqp : ∀ (q : KLater (fun _ => False) ws) (o : Nat), q.w.cell? ⟨w.heap.size, o, none⟩ = ws.cell? ⟨w.heap.size, o, none⟩ := fun q o => q.cell w.heap.size o hps2 (fun h => h)
          refine wp_region_st 7 [] (fun _ _ w' => Below ws.heap.size ws w') [] (Below.refl _ _).drew (by kernel_rfl) (by kernel_rfl) (by kernel_rfl) (by kernel_rfl) (by kernel_rfl) (by kernel_rfl) (by kernel_rfl) ?_
          simp only [List.take_succ_cons, List.take_zero, List.drop_succ_cons, List.drop_zero]
          repeat (refine st_plain (O := fun _ => False) (fun h => .of_below h) (by rfl) (by rfl) (by rfl) (by rfl) (by rfl) ?_; intro K hK; go_big_quiet_op; go_big_quiet_on)
          refine st_nil (O := fun _ => False) (fun h => .of_below h) (by rfl) (by rfl) (by rfl) (by rfl) (by rfl) (by rfl) ?_; intro K hK; go_big_quiet_op; go_big_quiet_on
          repeat (refine st_plain (O := fun _ => False) (fun h => .of_below h) (by rfl) (by rfl) (by rfl) (by rfl) (by rfl) ?_; intro K hK; go_big_quiet_op; go_big_quiet_on)
          intro ys xs w2 hF h2
          simp only [secFill]
          have HM2 := Lib.hid (HW1.out.1.later h2)
          have hkP : k < s.P.length := by rw [HM.out.len]; exact hlt
          obtain ⟨p', hp'⟩ : ∃ p', s.P[k]? = some p' := ⟨_, List.getElem?_eq_getElem hkP⟩
          have m0 := HM2.out.packet hp' 0 _ rfl
          rw [Nat.add_zero] at m0
          have m1 := HM2.out.packet hp' 1 _ rfl
          have m2 := HM2.out.packet hp' 2 _ rfl
          have m3 := HM2.out.packet hp' 3 _ rfl
          have m4 := HM2.out.packet hp' 4 _ rfl
          have m5 := HM2.out.packet hp' 5 _ rfl
          have m6 := HM2.out.packet hp' 6 _ rfl
          have ml : ∀ j, w2.frozen? ⟨gp, j, none⟩ = false := fun j => Lib.frozen_of_heap HM2.out.pk j
          have HW3 := Lib.hid (HM2.out.setPacket (i := k) hkP p)
          have HK3 : Hid (Kept (bxO b gs gp vo ve) w (putP w2 gp k p)) := Lib.hid
            ((((Kept.of_below (O := bxO b gs gp vo ve) HB1.out).trans HW1.out.2 (Grows.refl _ _)).trans (.of_below (O := bxO b gs gp vo ve) h2) (Grows.refl _ _)).trans HW3.out.2 (Grows.refl _ _))
          clear q0 q1 q2 q3 d0 d1 d2 d3 d4 d5 d6 hqb hqp hF h2 hp'
          obtain ⟨q0, q1, q2, q3⟩ := HW3.out.1.cells
          have f2 := HW3.out.1.live 2
          have hbz : b < (putP w2 gp k p).heap.size := heap_some_lt HW3.out.1.box
          have HBL : Hid (Below (putP w2 gp k p).heap.size (putP w2 gp k p) ((putP w2 gp k p).alloc (.cells #[.int .i64 (k : Int)] 3))) := Lib.hid ((Below.refl _ _).alloc (Nat.le_refl _) _)
          have HRQ : Hid (RowQ inC 1 ((putP w2 gp k p).alloc (.cells #[.int .i64 (k : Int)] 3)) vo s.ord) := Lib.hid (HW3.out.1.ord.later HBL.out)
          have HRD : Hid (RdA inC 1 ((putP w2 gp k p).alloc (.cells #[.int .i64 (k : Int)] 3)) (.slice (some ⟨(putP w2 gp k p).heap.size, 0, none⟩) 1 1) [(k : Int)]) := Lib.hid (RdA.one inC_len _ _ _ rfl rfl)
          obtain ⟨wp, hwp⟩ : ∃ wp, putP w2 gp k p = wp := ⟨_, rfl⟩
          have HWP := Lib.hid hwp
          rw [hwp] at HW3 HK3 q0 q1 q2 q3 f2 hbz HBL HRQ HRD
          clear hwp
          have hfold : ((((((w2.setCell ⟨gp, k * 7, none⟩ (.int .i64 p.f.i)).setCell ⟨gp, k * 7 + 1, none⟩ (.int .i64 p.f.n)).setCell ⟨gp, k * 7 + 2, none⟩ (.int .i64 p.f.l)).setCell ⟨gp, k * 7 + 3, none⟩ (.string p.f.d)).setCell ⟨gp, k * 7 + 4, none⟩ (.int .i64 p.fr)).setCell ⟨gp, k * 7 + 5, none⟩ (.int .i64 p.tag)).setCell ⟨gp, k * 7 + 6, none⟩ (.bool p.lp) = wp := HWP.out
          go_wp2_with (at_builtin; refine wpList_qO (c := inC) (L := s.ord) (M := [(k : Int)]) flat_in inC_len inC_one rfl (.tmp 45) (.tmp 47) rfl (by rfl) HRQ.out (by rfl) HRD.out (by have := HOL.out; simp; omega) ?_; rintro v3 w3 hq3 hk3 hg3; obtain ⟨g3, o3, cap3, rfl⟩ := hq3.form; have HQ3 := Lib.hid hq3; have HK3b := Lib.hid hk3; have HG3 := Lib.hid hg3; have y0 := (hk3.cell (p := ⟨b, 2, none⟩) (Nat.lt_of_lt_of_le hbz HBL.out.size) HW3.out.1.f1.1).trans ((HBL.out.cell (p := ⟨b, 2, none⟩) hbz).trans q2); have y1 := (hk3.frozen (p := ⟨b, 2, none⟩) (Nat.lt_of_lt_of_le hbz HBL.out.size) HW3.out.1.f1.1).trans ((HBL.out.frozen (p := ⟨b, 2, none⟩) hbz).trans f2); clear hq3 hk3 hg3)
          obtain ⟨r1, r2, r3⟩ := (HW3.out.1.later HBL.out).setOrd HQ3.out HK3b.out HG3.out
          have HD : Hid (Stp BxD (.pointer (some ⟨b, 0, none⟩)) (bxO b gs gp vo ve) w (s.putAt k p) (w3.setCell ⟨b, 2, none⟩ (.slice (some ⟨g3, o3, none⟩) (s.ord.length + 1) cap3))) := Lib.hid
            ⟨_, ⟨b, gs, gp, _, ve, rfl, rfl, r1⟩, (HK3.out.trans (.of_below (O := bxO b gs gp vo ve) HBL.out) (Grows.refl _ _)).trans r2 (Grows.refl _ _), fun k hk => (r3 k hk).imp id (fun h => Nat.le_trans (Nat.le_trans HK3.out.size HBL.out.size) h)⟩
          clear r1 r2 r3
          go_wp2
          go_ret2
          rw [HE.out]
          exact ⟨rfl, HD.out⟩
        · have HR : Hid (s.first (k + 1) = none) := Lib.hid (Bx.first_more HI.out (by rw [hx2]; exact h0))
          have e0 : (x == 0) = false := by simp [h0]
          clear hx hx2
          go_wp2
          exact ⟨⟨k + 1, by omega, by go_num, HR⟩, by simp [intOf]; omega⟩
      · obtain rfl : k = s.S.length := by omega
        have HE : Hid (s.put p = (s, 0, 5)) := Lib.hid (by rw [HPU.out, HI.out])
        obtain ⟨rfl, rfl⟩ : 0 = i ∧ 5 = e := by have e1 := HK.out; rw [HE.out] at e1; simpa using e1
        go_wp2
        go_ret2
        rw [HE.out]
        exact ⟨rfl, HS.out _ HB1.out⟩
end Go.Proofs.YtmmcjmejcngajaaGreatDoor
