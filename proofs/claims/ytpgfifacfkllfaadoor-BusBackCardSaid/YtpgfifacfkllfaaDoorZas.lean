/- Bus: the law's do, whatever it is. Bus: the documents' Same of frames and of entries, of two slices that read alike. Printed. Bus, plain: each once: what a node sent, and what waits there, is together what was offered there. Bus, plain: what BusBack's buses are. -/
import Derived.Test.YtpgfifacfkllfaaDoorZar
import Derived.Test.YtpgfifacfkllfaaDoorZah
import Derived.BigQuiet
import Derived.Test.YtpgfifacfkllfaaDoorZan
namespace Go.Proofs.YtpgfifacfkllfaaDoor
open Go.RowKit
set_option linter.unusedVariables false

theorem kept_or_ {A B : Nat → Prop} {w w' : World} (h : Kept A w w') (hs : ∀ k, A k → B k) : Kept B w w' := ⟨h.os, h.tape, h.output, h.size, fun k hk hn => h.block k hk (fun ha => hn (hs k ha))⟩
set_option maxHeartbeats 4000000 in
theorem do_fix {T : World → Prop} {I : World → Value → Bs → (Nat → Prop) → Prop} (A : BusI T I) {w0 w : World} {v v' : Value} {s t : Bs} {O O' : Nat → Prop} {m : Int} {f : Fr} (h : Pair I BusD w0 v v' s t O O' w) (hs : s.Ok) (ht : t.Ok) (hT : T w0) :
    Calls Tryd.prog 12 #[v, v', opV ⟨5, m, f⟩] w (DoPost I w0 v v' s t ⟨5, m, f⟩ (fun k => O k ∨ O' k) w) := by
  have HA := Lib.hid A
  have HT := Lib.hid hT
  have HS := Lib.hid hs
  have HTT := Lib.hid ht
  have H0 := Lib.hid (h.later A.obj isObj_bus ((Below.refl w.heap.size w).alloc (Nat.le_refl _) (.cells #[.int .i64 5, .int .i64 m, .int .i64 f.i, .int .i64 f.n, .int .i64 f.l, .string f.d] 32)))
  have HW1 := Lib.hid ((Below.refl w.heap.size w).alloc (Nat.le_refl _) (.cells #[.int .i64 5, .int .i64 m, .int .i64 f.i, .int .i64 f.n, .int .i64 f.l, .string f.d] 32))
  clear A hs ht h hT
  go_enter Tryd.func12, Tryd.ntmps12
  go_wp2_with fail
  refine (HA.out.fix H0.out.a.inv HS.out (HA.out.tab HT.out H0.out.a.below)).mono ?_
  rintro e w1 ⟨rfl, O1, hi, hk, hg⟩
  have H1 := Lib.hid (H0.out.stepA HA.out.obj isObj_bus hi hk hg)
  have HKA := Lib.hid (And.intro (kept_from HW1.out (kept_or_ (B := fun k => O k ∨ O' k) hk fun k h => .inl h)) (grows_from (U := fun k => O k ∨ O' k) HW1.out (fun k h => (hg k h).imp_left .inl)))
  clear hi hk hg
  go_wp2_with fail
  refine (bfix_v _ H1.out.b.inv (by have := HTT.out.n1; omega)).mono ?_
  rintro e w2 ⟨rfl, O2, hi, hk, hg⟩
  have H2 := Lib.hid (H1.out.stepB HA.out.obj isObj_bus hi hk hg)
  have HKB := Lib.hid (And.intro (HKA.out.1.trans (kept_or_ (B := fun k => O k ∨ O' k) hk fun k h => .inr h) (Grows.refl _ _)) (show Grows (fun k => O k ∨ O' k) w O2 from fun k h => by rcases hg k h with h1 | h1; exact .inl (.inr h1); exact .inr (Nat.le_trans HKA.out.1.size h1)))
  clear hi hk hg
  go_wp2
  go_ret
  exact ⟨true, O1, O2, rfl, fun _ => rfl, H2.out, HKB.out.1, HKA.out.2, HKB.out.2⟩
set_option maxHeartbeats 4000000 in
theorem do_none {T : World → Prop} {I : World → Value → Bs → (Nat → Prop) → Prop} (A : BusI T I) {w0 w : World} {v v' : Value} {s t : Bs} {O O' : Nat → Prop} {k m : Int} {f : Fr} (h : Pair I BusD w0 v v' s t O O' w) (hk : k < 0 ∨ 5 < k) :
    Calls Tryd.prog 12 #[v, v', opV ⟨k, m, f⟩] w (DoPost I w0 v v' s t ⟨k, m, f⟩ (fun k => O k ∨ O' k) w) := by
  have H0 := Lib.hid (h.later A.obj isObj_bus ((Below.refl w.heap.size w).alloc (Nat.le_refl _) (.cells #[.int .i64 k, .int .i64 m, .int .i64 f.i, .int .i64 f.n, .int .i64 f.l, .string f.d] 32)))
  have k0 : (k == 0) = false := by simp; omega
  have k1 : (k == 1) = false := by simp; omega
  have k2 : (k == 2) = false := by simp; omega
  have k3 : (k == 3) = false := by simp; omega
  have k4 : (k == 4) = false := by simp; omega
  have k5 : (k == 5) = false := by simp; omega
  have HS : Hid (s.doOp ⟨k, m, f⟩ = s) := Lib.hid (by unfold Bs.doOp; rw [if_neg (by simp only; omega), if_neg (by simp only; omega), if_neg (by simp only; omega)])
  have HT : Hid (t.doOp ⟨k, m, f⟩ = t) := Lib.hid (by unfold Bs.doOp; rw [if_neg (by simp only; omega), if_neg (by simp only; omega), if_neg (by simp only; omega)])
  have HW1 := Lib.hid ((Below.refl w.heap.size w).alloc (Nat.le_refl _) (.cells #[.int .i64 k, .int .i64 m, .int .i64 f.i, .int .i64 f.n, .int .i64 f.l, .string f.d] 32))
  clear A h hk
  go_enter Tryd.func12, Tryd.ntmps12
  go_wp2
  go_ret
  exact ⟨true, O, O', rfl, fun _ => rfl, by rw [HS.out, HT.out]; exact H0.out, .of_below HW1.out, fun k h => .inl (.inl h), fun k h => .inl (.inr h)⟩
theorem do_any {T : World → Prop} {I : World → Value → Bs → (Nat → Prop) → Prop} (A : BusI T I) {w0 w : World} {v v' : Value} {s t : Bs} {O O' : Nat → Prop} {o : Op6} (h : Pair I BusD w0 v v' s t O O' w) (hs : s.Ok) (ht : t.Ok) (hsl : s.sl ≤ 100000) (htl : t.sl ≤ 100000) (hT : T w0) (hf : -9223372036854775808 ≤ o.f.n ∧ o.f.n ≤ 9223372036854775807) :
    Calls Tryd.prog 12 #[v, v', opV o] w (DoPost I w0 v v' s t o (fun k => O k ∨ O' k) w) := by
  obtain ⟨k, m, f⟩ := o
  by_cases h0 : k = 0
  · subst h0; exact do_offer A h hs ht hT hf
  by_cases h1 : k = 1
  · subst h1; exact do_slot1 A h hs ht hsl htl hT hf
  by_cases h2 : k = 2
  · subst h2; exact do_slot2 A h hs ht hsl htl hT hf
  by_cases h3 : k = 3
  · subst h3; exact do_slot3 A h hs ht hsl htl hT hf
  by_cases h4 : k = 4
  · subst h4; exact do_slot4 A h hs ht hsl htl hT hf
  by_cases h5 : k = 5
  · subst h5; exact do_fix A h hs ht hT
  exact do_none A h (by omega)
theorem Bs.Ok.doOp {s : Bs} (h : s.Ok) (o : Op6) : (s.doOp o).Ok := by
  unfold Bs.doOp
  split
  · exact h.offer _ _
  · split
    · exact h.slot _ _ _
    · split
      · exact h.fix
      · exact h
theorem Bs.sl_doOp (s : Bs) (o : Op6) : (s.doOp o).sl ≤ s.sl + 1 ∧ s.sl ≤ (s.doOp o).sl := by
  unfold Bs.doOp
  split
  · rw [s.sl_offer]; omega
  · split
    · rw [s.sl_slot]; omega
    · split
      · exact ⟨by show s.sl ≤ s.sl + 1; omega, Int.le_refl _⟩
      · omega
end Go.Proofs.YtpgfifacfkllfaaDoor

namespace Go.Proofs.YtpgfifacfkllfaaDoor
open Go.RowKit
set_option linter.unusedVariables false
set_option maxHeartbeats 1000000 in
theorem fsame_t {L : List Fr} {v v' : Value} {B B' : Nat} (w : World) (h : SlG frC 4 w B v L) (h' : SlG frC 4 w B' v' L) :
    Calls Tryd.prog 22 #[v, v'] w fun e w' => e = .returned (.bool true) ∧ ∃ n, w' = w.drewN n := by
  have H := Lib.hid h
  have H' := Lib.hid h'
  obtain ⟨A, cap, rfl, hm, _⟩ := h
  obtain ⟨A', cap', rfl, _, _⟩ := h'
  unfold maxLen at hm
  have e1 : ((L.length : Int) == (L.length : Int)) = true := by simp
  have e2 : ((L.length : Int) != (L.length : Int)) = false := by simp
  go_enter Tryd.func22, Tryd.ntmps22
  go_wp2_with fail
  go_loopw [5] (fun i wr => ∃ k m : Nat, k ≤ L.length ∧ i = .int .i64 k ∧ wr = w.drewN m) (fun i _ => L.length - (intOf i).toNat)
  case atStart => exact ⟨0, 0, by omega, rfl, rfl⟩
  case round =>
    obtain ⟨k, m, hk, rfl, rfl⟩ := hrel
    by_cases hlt : k < L.length
    · obtain ⟨x, cap1, hv, hxb, hcell⟩ := H.out.at_ hlt
      obtain ⟨y, cap2, hv', hyb, hcell'⟩ := H'.out.at_ hlt
      injection hv with hA hn hc
      injection hv' with hA' hn' hc'
      subst hA hA' hc hc'
      have a0 : w.cell? (x.add (k * 4)) = some (.int .i64 (L[k]'hlt).i) := hcell 0 _ rfl
      have a1 : w.cell? ⟨(x.add (k * 4)).block, (x.add (k * 4)).off + 1, none⟩ = some (.int .i64 (L[k]'hlt).n) := hcell 1 _ rfl
      have a2 : w.cell? ⟨(x.add (k * 4)).block, (x.add (k * 4)).off + 2, none⟩ = some (.int .i64 (L[k]'hlt).l) := hcell 2 _ rfl
      have a3 : w.cell? ⟨(x.add (k * 4)).block, (x.add (k * 4)).off + 3, none⟩ = some (.string (L[k]'hlt).d) := hcell 3 _ rfl
      have b0 : w.cell? (y.add (k * 4)) = some (.int .i64 (L[k]'hlt).i) := hcell' 0 _ rfl
      have b1 : w.cell? ⟨(y.add (k * 4)).block, (y.add (k * 4)).off + 1, none⟩ = some (.int .i64 (L[k]'hlt).n) := hcell' 1 _ rfl
      have b2 : w.cell? ⟨(y.add (k * 4)).block, (y.add (k * 4)).off + 2, none⟩ = some (.int .i64 (L[k]'hlt).l) := hcell' 2 _ rfl
      have b3 : w.cell? ⟨(y.add (k * 4)).block, (y.add (k * 4)).off + 3, none⟩ = some (.string (L[k]'hlt).d) := hcell' 3 _ rfl
      have ed := seq_self (L[k]'hlt).d
      clear hcell hcell' hxb hyb
      generalize L[k]'hlt = f at a0 a1 a2 a3 b0 b1 b2 b3 ed
      have hk0 : (0 : Int) ≤ (k : Int) := by omega
      have hk1 : (k : Int) < (L.length : Int) := by omega
      go_wp2_with fail
      go_quiet (fail)
      go_wp2
      exact ⟨⟨k + 1, m + nq, by omega, by go_num, rfl⟩, by simp [intOf]; omega⟩
    · obtain rfl : k = L.length := by omega
      go_wp2
      go_ret
      exact ⟨rfl, m, rfl⟩
set_option maxHeartbeats 1000000 in
theorem lsame_t {L : List Lg} {v v' : Value} {B B' : Nat} (w : World) (h : SlG lgC 6 w B v L) (h' : SlG lgC 6 w B' v' L) :
    Calls Tryd.prog 21 #[v, v'] w fun e w' => e = .returned (.bool true) ∧ ∃ n, w' = w.drewN n := by
  have H := Lib.hid h
  have H' := Lib.hid h'
  obtain ⟨A, cap, rfl, hm, _⟩ := h
  obtain ⟨A', cap', rfl, _, _⟩ := h'
  unfold maxLen at hm
  have e1 : ((L.length : Int) == (L.length : Int)) = true := by simp
  have e2 : ((L.length : Int) != (L.length : Int)) = false := by simp
  go_enter Tryd.func21, Tryd.ntmps21
  go_wp2_with fail
  go_loopw [5] (fun i wr => ∃ k m : Nat, k ≤ L.length ∧ i = .int .i64 k ∧ wr = w.drewN m) (fun i _ => L.length - (intOf i).toNat)
  case atStart => exact ⟨0, 0, by omega, rfl, rfl⟩
  case round =>
    obtain ⟨k, m, hk, rfl, rfl⟩ := hrel
    by_cases hlt : k < L.length
    · obtain ⟨x, cap1, hv, hxb, hcell⟩ := H.out.at_ hlt
      obtain ⟨y, cap2, hv', hyb, hcell'⟩ := H'.out.at_ hlt
      injection hv with hA hn hc
      injection hv' with hA' hn' hc'
      subst hA hA' hc hc'
      have a0 : w.cell? (x.add (k * 6)) = some (.int .i64 (L[k]'hlt).f.i) := hcell 0 _ rfl
      have a1 : w.cell? ⟨(x.add (k * 6)).block, (x.add (k * 6)).off + 1, none⟩ = some (.int .i64 (L[k]'hlt).f.n) := hcell 1 _ rfl
      have a2 : w.cell? ⟨(x.add (k * 6)).block, (x.add (k * 6)).off + 2, none⟩ = some (.int .i64 (L[k]'hlt).f.l) := hcell 2 _ rfl
      have a3 : w.cell? ⟨(x.add (k * 6)).block, (x.add (k * 6)).off + 3, none⟩ = some (.string (L[k]'hlt).f.d) := hcell 3 _ rfl
      have a4 : w.cell? ⟨(x.add (k * 6)).block, (x.add (k * 6)).off + 4, none⟩ = some (.int .i64 (L[k]'hlt).n) := hcell 4 _ rfl
      have a5 : w.cell? ⟨(x.add (k * 6)).block, (x.add (k * 6)).off + 5, none⟩ = some (.int .i64 (L[k]'hlt).s) := hcell 5 _ rfl
      have b0 : w.cell? (y.add (k * 6)) = some (.int .i64 (L[k]'hlt).f.i) := hcell' 0 _ rfl
      have b1 : w.cell? ⟨(y.add (k * 6)).block, (y.add (k * 6)).off + 1, none⟩ = some (.int .i64 (L[k]'hlt).f.n) := hcell' 1 _ rfl
      have b2 : w.cell? ⟨(y.add (k * 6)).block, (y.add (k * 6)).off + 2, none⟩ = some (.int .i64 (L[k]'hlt).f.l) := hcell' 2 _ rfl
      have b3 : w.cell? ⟨(y.add (k * 6)).block, (y.add (k * 6)).off + 3, none⟩ = some (.string (L[k]'hlt).f.d) := hcell' 3 _ rfl
      have b4 : w.cell? ⟨(y.add (k * 6)).block, (y.add (k * 6)).off + 4, none⟩ = some (.int .i64 (L[k]'hlt).n) := hcell' 4 _ rfl
      have b5 : w.cell? ⟨(y.add (k * 6)).block, (y.add (k * 6)).off + 5, none⟩ = some (.int .i64 (L[k]'hlt).s) := hcell' 5 _ rfl
      have ed := seq_self (L[k]'hlt).f.d
      clear hcell hcell' hxb hyb
      generalize L[k]'hlt = f at a0 a1 a2 a3 a4 a5 b0 b1 b2 b3 b4 b5 ed
      have hk0 : (0 : Int) ≤ (k : Int) := by omega
      have hk1 : (k : Int) < (L.length : Int) := by omega
      go_wp2_with fail
      go_quiet (fail)
      go_wp2
      exact ⟨⟨k + 1, m + nq, by omega, by go_num, rfl⟩, by simp [intOf]; omega⟩
    · obtain rfl : k = L.length := by omega
      go_wp2
      go_ret
      exact ⟨rfl, m, rfl⟩
end Go.Proofs.YtpgfifacfkllfaaDoor

namespace Go.Proofs.YtpgfifacfkllfaaDoor
open Go.RowKit
set_option linter.unusedVariables false

/-- of the log those of node i -/
def logF (l : List Lg) (i : Nat) : List Fr := (l.filter fun e => e.n == (i : Int)).map (·.f)
theorem logF_app (l m : List Lg) (i : Nat) : logF (l ++ m) i = logF l i ++ logF m i := by unfold logF; rw [List.filter_append, List.map_append]
theorem logF_one (f : Fr) (n sl : Int) (i : Nat) : logF [⟨f, n, sl⟩] i = if n = (i : Int) then [f] else [] := by
  unfold logF
  by_cases h : n = (i : Int)
  · simp [h]
  · simp [h]
structure Once (s : Bs) (off : Nat → List Fr) : Prop where
  row : ∀ i, 1 ≤ i → i < s.N.length → logF s.log i ++ s.W.getD i [] = off i
  out : ∀ i, s.N.length ≤ i → off i = []
  node : ∀ e ∈ s.log, 0 ≤ e.n ∧ e.n < 32
  slot : ∀ e ∈ s.log, 0 ≤ e.s ∧ e.s < s.sl
  rise : s.log.Pairwise fun a b => a.s < b.s
def offAdd (off : Nat → List Fr) (j : Nat) (f : Fr) : Nat → List Fr := fun i => if i = j then off i ++ [f] else off i
theorem Once.new (n : Nat) (back : Int) : Once (bsNew n back) fun _ => [] := by
  refine ⟨fun i _ hi => ?_, fun _ _ => rfl, fun e (he : e ∈ ([] : List Lg)) => (by cases he), fun e (he : e ∈ ([] : List Lg)) => (by cases he), List.Pairwise.nil⟩
  simp only [bsNew, logF, List.filter_nil, List.map_nil, List.nil_append, List.getD_eq_getElem?_getD, List.getElem?_replicate]
  split <;> rfl
theorem Bs.offer_no {s : Bs} {i : Int} {f : Fr} (h : (s.offer i f).2 ≠ 0) : (s.offer i f).1 = s := by
  unfold Bs.offer at h ⊢
  split
  · rfl
  · split
    · rfl
    · split
      · rfl
      · rename_i h1 h2 h3; rw [if_neg h1, if_neg h2, if_neg h3] at h; exact absurd rfl h
theorem Bs.offer_yes {s : Bs} {i : Int} {f : Fr} (h : (s.offer i f).2 = 0) : 1 ≤ i ∧ i < s.N.length ∧ (s.offer i f).1 = { s with W := s.W.set i.toNat (s.W.getD i.toNat [] ++ [f]) } := by
  unfold Bs.offer at h ⊢
  split at h
  · cases h
  · rename_i h1
    split at h
    · cases h
    · rename_i h2
      split at h
      · cases h
      · rename_i h3
        rw [if_neg h1, if_neg h2, if_neg h3]
        exact ⟨by omega, by omega, rfl⟩
theorem Once.offer {s : Bs} {off : Nat → List Fr} (h : Once s off) (hl : s.W.length = s.N.length) {i : Int} {f : Fr} (he : (s.offer i f).2 = 0) : Once (s.offer i f).1 (offAdd off i.toNat f) := by
  obtain ⟨h1, h2, e⟩ := Bs.offer_yes he
  rw [e]
  refine ⟨fun j hj1 hj2 => ?_, fun j hj => ?_, h.node, h.slot, h.rise⟩
  · simp only at hj2 ⊢
    unfold offAdd
    rw [List.getD_eq_getElem?_getD, List.getElem?_set]
    by_cases hij : j = i.toNat
    · subst hij
      rw [if_pos rfl, if_pos (by omega), if_pos rfl, Option.getD_some, ← h.row _ hj1 hj2, List.append_assoc]
    · rw [if_neg (fun e => hij e.symm), if_neg hij, ← List.getD_eq_getElem?_getD]
      exact h.row j hj1 hj2
  · unfold offAdd
    simp only at hj
    rw [if_neg (by omega)]
    exact h.out j hj
theorem Once.fix {s : Bs} {off : Nat → List Fr} (h : Once s off) : Once s.fix off := ⟨h.row, h.out, h.node, h.slot, h.rise⟩
/-- what a slot adds to the log -/
def Bs.logNew (s : Bs) (own : Fr) (has bad : Bool) : List Lg := if (s.slot own has bad).2.1 = 1 then [⟨(s.slot own has bad).2.2.2, (s.slot own has bad).2.2.1, s.sl⟩] else []
theorem Bs.slot_log (s : Bs) (own : Fr) (has bad : Bool) : (s.slot own has bad).1.log = s.log ++ s.logNew own has bad := by
  unfold Bs.logNew Bs.slot
  split
  · simp
  · split <;> simp
theorem Once.slot_ {s : Bs} {off : Nat → List Fr} (h : Once s off) (hk : s.Ok) (own : Fr) (has bad : Bool) : Once (s.slot own has bad).1 off := by
  have hlen := s.len_slot own has bad
  have hsl := s.sl_slot own has bad
  have hr := best_rng s own has s.N.length
  have hn2 := hk.n2
  obtain ⟨B, hB⟩ : ∃ B, s.best own has s.N.length = B := ⟨_, rfl⟩
  unfold Bs.slot at hlen hsl ⊢
  rw [hB] at hlen hsl hr ⊢
  split
  · rename_i hc
    rw [if_pos hc] at hlen
    exact ⟨fun i h1 h2 => h.row i h1 (by rw [← hlen]; exact h2), fun i hi => h.out i (by rw [← hlen]; exact hi), h.node, fun e he => by have := h.slot e he; simp only; omega, h.rise⟩
  · rename_i hc
    rw [if_neg hc] at hlen
    split
    · rename_i hb
      rw [if_pos hb] at hlen
      exact ⟨fun i h1 h2 => h.row i h1 (by rw [← hlen]; exact h2), fun i hi => h.out i (by rw [← hlen]; exact hi), h.node, fun e he => by have := h.slot e he; simp only; omega, h.rise⟩
    · rename_i hb
      rw [if_neg hb] at hlen
      have hlen' : (s.N2 false B.1).length = s.N.length := hlen
      refine ⟨fun i h1 h2 => ?_, fun i hi => h.out i (by rw [← hlen']; exact hi), fun e he => ?_, fun e he => ?_, ?_⟩
      · simp only at h2 ⊢
        rw [hlen'] at h2
        rw [logF_app, logF_one]
        by_cases hi : B.1 = (i : Int)
        · rw [if_pos hi, if_pos (by omega), hi, Int.toNat_natCast, List.getD_eq_getElem?_getD, List.getElem?_set, if_pos rfl, if_pos (by rw [hk.lw]; exact h2), Option.getD_some, ← h.row i h1 h2]
          obtain ⟨q1, q2, _, _⟩ := best_has s own has i s.N.length (by rw [hB]; exact hi)
          rw [hB] at q2
          rw [q2]
          unfold Bs.has at q1
          unfold Bs.x
          rw [if_neg (by omega)] at q1 ⊢
          cases hw : s.W.getD i [] with
          | nil => rw [hw] at q1; simp at q1
          | cons g M => simp
        · rw [if_neg hi, List.append_nil, ← h.row i h1 h2]
          congr 1
          split
          · rw [List.getD_eq_getElem?_getD, List.getElem?_set, if_neg (by omega), List.getD_eq_getElem?_getD]
          · rfl
      · rcases List.mem_append.1 he with h1 | h1
        · exact h.node e h1
        · rw [List.mem_singleton.1 h1]; simp only; omega
      · rcases List.mem_append.1 he with h1 | h1
        · have := h.slot e h1; simp only; omega
        · rw [List.mem_singleton.1 h1]; have := hk.sl0; simp only; omega
      · rw [List.pairwise_append]
        refine ⟨h.rise, List.pairwise_singleton _ _, fun a ha b hb => ?_⟩
        rw [List.mem_singleton.1 hb]
        exact (h.slot a ha).2
end Go.Proofs.YtpgfifacfkllfaaDoor

namespace Go.Proofs.YtpgfifacfkllfaaDoor
open Go.RowKit
set_option linter.unusedVariables false

instance decCf : DecidableEq Cf := fun a b => decidable_of_iff (a.t = b.t ∧ a.r = b.r ∧ a.o = b.o ∧ a.d = b.d) ⟨fun h => by obtain ⟨h1, h2, h3, h4⟩ := h; cases a; cases b; simp only at h1 h2 h3 h4; subst h1 h2 h3 h4; rfl, fun h => by subst h; exact ⟨rfl, rfl, rfl, rfl⟩⟩
theorem Cf.do_same {c : Cf} {what : Int} (h : what ≠ 4) (a b : Int) : c.do_ what a = c.do_ what b := by
  unfold Cf.do_
  rw [if_neg h, if_neg h]
def fB1 : Fr := ⟨1, 0, 0, ByteArray.mk #[]⟩
theorem fB1_key : 0 ≤ keyG fB1 := by decide +kernel
/-- who has failed so many times -/
def failK (k : Nat) : Cf := ⟨8 * k, 0, decide (255 < (8 * k : Int)), 0⟩
def missK : Nat → Cf
  | 0 => cf0
  | k + 1 => (missK k).do_ 3 0
/-- who is off, and counts -/
def offK (d : Nat) : Cf := ⟨256, 0, true, d⟩
theorem failK_o {k : Nat} (h : k < 32) : (failK k).o = false := by unfold failK; simp; omega
theorem failK_ok {k : Nat} (h : k ≤ 32) : (failK k).ok = true := by
  have : ∀ j : Fin 33, (failK j.val).ok = true := by decide +kernel
  exact this ⟨k, by omega⟩
theorem failK_do {k : Nat} (h : k < 32) (b : Int) : (failK k).do_ 2 b = failK (k + 1) := by
  rw [Cf.do_same (by decide) b 0]
  have : ∀ j : Fin 32, (failK j.val).do_ 2 0 = failK (j.val + 1) := by decide +kernel
  exact this ⟨k, h⟩
theorem failK_32 : failK 32 = offK 0 := by decide +kernel
theorem missK_ok : ∀ k, (missK k).ok = true
  | 0 => by decide +kernel
  | k + 1 => Cf.do_ok (missK_ok k) _ _
theorem missK_o : ∀ k, k ≤ 32 → (missK k).o = false := by
  have : ∀ j : Fin 33, (missK j.val).o = false := by decide +kernel
  exact fun k h => this ⟨k, by omega⟩
theorem missK_do (k : Nat) (b : Int) : (missK k).do_ 3 b = missK (k + 1) := Cf.do_same (by decide) b 0
theorem offK_do {d : Nat} {b : Int} (h1 : 1 ≤ b) (h2 : b ≤ 40) (hd : (d : Int) < b) : (offK d).do_ 4 b = if (d : Int) = b - 1 then cf0 else offK (d + 1) := by
  have : ∀ (j : Fin 40) (c : Fin 41), 1 ≤ c.val → j.val < c.val → (offK j.val).do_ 4 (c.val : Int) = if (j.val : Int) = (c.val : Int) - 1 then cf0 else offK (j.val + 1) := by decide +kernel
  have := this ⟨d, by omega⟩ ⟨b.toNat, by omega⟩ (by simp only; omega) (by simp only; omega)
  simp only at this
  rw [Int.toNat_of_nonneg (by omega)] at this
  exact this
/-- a slot of two nodes -/
theorem slot_two {a b : Cf} {M : List Fr} {back sl : Int} {fx : Bool} {lg : List Lg} (own : Fr) (has bad : Bool) {s : Bs} (hs : s = ⟨[a, b], [[], M], back, fx, sl, lg⟩) :
    s.N1 = [if a.o && fx then a.do_ 4 back else a, if b.o then b.do_ 4 back else b] ∧ s.off 0 = a.o ∧ s.off 1 = b.o ∧ s.has own has 0 = (has && decide (0 ≤ keyG own)) ∧ s.has own has 1 = !M.isEmpty ∧ s.x own 0 = own ∧ s.x own 1 = M.headD own := by
  subst hs
  refine ⟨?_, rfl, rfl, rfl, rfl, rfl, rfl⟩
  simp [Bs.N1, turnN, Bs.gIdle, Bs.off]
/-- our own one fails, the other one misses -/
def ownF (back : Int) (k : Nat) : Bs := ⟨[failK k, missK k], [[], []], back, false, k, []⟩
theorem ownF_slot (back : Int) {k : Nat} (h : k < 32) : ((ownF back k).slot fB1 true true).1 = ownF back (k + 1) := by
  have h1 := failK_o h
  have h2 := missK_o k (by omega)
  obtain ⟨e1, e2, e3, e4, e5, e6, e7⟩ := slot_two fB1 true true (s := ownF back k) rfl
  rw [h1] at e1 e2
  rw [h2] at e1 e3
  have hb : (ownF back k).best fB1 true 2 = (0, fB1) := by
    simp [Bs.best, e2, e3, e4, e5, e6, fB1_key]
  unfold Bs.slot
  rw [show (ownF back k).N.length = 2 from rfl, hb, if_neg (by decide), if_pos rfl]
  simp only [Bs.N2, Bs.fx1, e1]
  simp [ownF, turnN, Bs.gSent, failK_do h, missK_do, Bs.off, h1, h2]
/-- the other one fails, our own one misses -/
def othF (back : Int) (k : Nat) : Bs := ⟨[missK k, failK k], [[], [fB1]], back, false, k, []⟩
theorem othF_slot (back : Int) {k : Nat} (h : k < 32) : ((othF back k).slot frz false true).1 = othF back (k + 1) := by
  have h1 := failK_o h
  have h2 := missK_o k (by omega)
  obtain ⟨e1, e2, e3, e4, e5, e6, e7⟩ := slot_two frz false true (s := othF back k) rfl
  rw [h1] at e1 e3
  rw [h2] at e1 e2
  have hb : (othF back k).best frz false 2 = (1, fB1) := by
    simp [Bs.best, e2, e3, e4, e5, e7]
  unfold Bs.slot
  rw [show (othF back k).N.length = 2 from rfl, hb, if_neg (by decide), if_pos rfl]
  simp only [Bs.N2, Bs.fx1, e1]
  simp [othF, turnN, Bs.gSent, failK_do h, missK_do, Bs.off, h1, h2]
/-- our own one is off, ahead of a Fix -/
def ownL (back : Int) (k : Nat) : Bs := ⟨[offK 0, missK 32], [[], []], back, false, 32 + k, []⟩
theorem ownL_slot (back : Int) (k : Nat) : ((ownL back k).slot fB1 true false).1 = ownL back (k + 1) ∧ ((ownL back k).slot fB1 true false).2.1 = 0 := by
  obtain ⟨e1, e2, e3, e4, e5, e6, e7⟩ := slot_two fB1 true false (s := ownL back k) rfl
  have h1 : (offK 0).o = true := rfl
  have h2 := missK_o 32 (by omega)
  rw [h1] at e1 e2
  rw [h2] at e1 e3
  have hb : (ownL back k).best fB1 true 2 = (-1, frz) := by
    simp [Bs.best, e2, e3, e4, e5]
  unfold Bs.slot
  rw [show (ownL back k).N.length = 2 from rfl, hb, if_pos (by decide)]
  simp only [Bs.fx1, e1]
  simp [ownL]
  omega
/-- behind the Fix -/
def backK (back : Int) (d : Nat) : Cf := if (d : Int) < back then offK d else cf0
def ownB (back : Int) (k d : Nat) : Bs := ⟨[backK back d, missK 32], [[], []], back, decide ((d : Int) < back), 32 + k + d, []⟩
theorem ownL_fix {back : Int} (h : 1 ≤ back) (k : Nat) : (ownL back k).fix = ownB back k 0 := by
  unfold Bs.fix ownL ownB backK
  simp [offK]
  omega
theorem backK_do {back : Int} (h1 : 1 ≤ back) (h2 : back ≤ 40) {d : Nat} (hd : (d : Int) < back) : (backK back d).do_ 4 back = backK back (d + 1) := by
  unfold backK
  rw [if_pos hd, offK_do h1 h2 hd]
  by_cases h : (d : Int) = back - 1
  · rw [if_pos h, if_neg (by omega)]
  · rw [if_neg h, if_pos (by omega)]
theorem ownB_slot {back : Int} (h1 : 1 ≤ back) (h2 : back ≤ 40) (k : Nat) {d : Nat} (hd : (d : Int) < back) : ((ownB back k d).slot fB1 true false).1 = ownB back k (d + 1) ∧ ((ownB back k d).slot fB1 true false).2.1 = 0 := by
  obtain ⟨e1, e2, e3, e4, e5, e6, e7⟩ := slot_two fB1 true false (s := ownB back k d) rfl
  have ho : (backK back d).o = true := by unfold backK; rw [if_pos hd]; rfl
  have hm := missK_o 32 (by omega)
  rw [ho] at e1 e2
  rw [hm] at e1 e3
  have hb : (ownB back k d).best fB1 true 2 = (-1, frz) := by
    simp [Bs.best, e2, e3, e4, e5]
  have hf : decide ((d : Int) < back) = true := decide_eq_true hd
  rw [hf] at e1
  have hq : (backK back (d + 1)).o = decide (((d + 1 : Nat) : Int) < back) := by
    unfold backK
    by_cases h : ((d + 1 : Nat) : Int) < back
    · rw [if_pos h, decide_eq_true h]; rfl
    · rw [if_neg h, decide_eq_false h]; rfl
  unfold Bs.slot
  rw [show (ownB back k d).N.length = 2 from rfl, hb, if_pos (by decide)]
  simp only [Bs.fx1, e1]
  have hd2 : (backK back d).do_ 4 back = backK back (d + 1) := backK_do h1 h2 hd
  simp only [Bool.and_true, if_true, hd2]
  refine ⟨?_, trivial⟩
  unfold ownB
  simp only [hf, List.getD_cons_zero, hq, Bool.true_and]
  have e : ((32 : Int) + k + d + 1) = 32 + k + ((d + 1 : Nat) : Int) := by omega
  rw [e, if_neg (by decide)]
theorem ownB_last {back : Int} (k : Nat) {d : Nat} (hd : ¬ (d : Int) < back) : ((ownB back k d).slot fB1 true false).2.1 = 1 ∧ ((ownB back k d).slot fB1 true false).2.2.1 = 0 := by
  obtain ⟨e1, e2, e3, e4, e5, e6, e7⟩ := slot_two fB1 true false (s := ownB back k d) rfl
  have ho : (backK back d).o = false := by unfold backK; rw [if_neg hd]; rfl
  have hm := missK_o 32 (by omega)
  rw [ho] at e2
  rw [hm] at e3
  have hb : (ownB back k d).best fB1 true 2 = (0, fB1) := by
    simp [Bs.best, e2, e3, e4, e5, e6, fB1_key]
  unfold Bs.slot
  rw [show (ownB back k d).N.length = 2 from rfl, hb, if_neg (by decide), if_neg (by decide)]
  exact ⟨rfl, rfl⟩
/-- the other one, of which a frame waits -/
def othB (back : Int) (d : Nat) : Bs := ⟨[missK 32, backK back d], [[], [fB1]], back, false, 32 + d, []⟩
theorem othF_32 {back : Int} (h : 1 ≤ back) : othF back 32 = othB back 0 := by
  unfold othF othB backK
  rw [if_pos (by omega), failK_32]
  simp
theorem ownF_32 (back : Int) : ownF back 32 = ownL back 0 := by
  unfold ownF ownL
  rw [failK_32]
  simp
theorem othB_slot {back : Int} (h1 : 1 ≤ back) (h2 : back ≤ 40) {d : Nat} (hd : (d : Int) < back) : ((othB back d).slot frz false false).1 = othB back (d + 1) ∧ ((othB back d).slot frz false false).2.1 = 0 := by
  obtain ⟨e1, e2, e3, e4, e5, e6, e7⟩ := slot_two frz false false (s := othB back d) rfl
  have ho : (backK back d).o = true := by unfold backK; rw [if_pos hd]; rfl
  have hm := missK_o 32 (by omega)
  rw [ho] at e1 e3
  rw [hm] at e1 e2
  have hb : (othB back d).best frz false 2 = (-1, frz) := by
    simp [Bs.best, e2, e3, e4, e5]
  unfold Bs.slot
  rw [show (othB back d).N.length = 2 from rfl, hb, if_pos (by decide)]
  simp only [Bs.fx1, e1]
  have hd2 : (backK back d).do_ 4 back = backK back (d + 1) := backK_do h1 h2 hd
  simp only [Bool.false_and, Bool.false_eq_true, if_false, if_true, hd2]
  refine ⟨?_, trivial⟩
  unfold othB
  simp
  omega
theorem othB_last {back : Int} {d : Nat} (hd : ¬ (d : Int) < back) : ((othB back d).slot frz false false).2.1 = 1 ∧ ((othB back d).slot frz false false).2.2.1 = 1 := by
  obtain ⟨e1, e2, e3, e4, e5, e6, e7⟩ := slot_two frz false false (s := othB back d) rfl
  have ho : (backK back d).o = false := by unfold backK; rw [if_neg hd]; rfl
  have hm := missK_o 32 (by omega)
  rw [ho] at e3
  rw [hm] at e2
  have hb : (othB back d).best frz false 2 = (1, fB1) := by
    simp [Bs.best, e2, e3, e4, e5, e7]
  unfold Bs.slot
  rw [show (othB back d).N.length = 2 from rfl, hb, if_neg (by decide), if_neg (by decide)]
  exact ⟨rfl, rfl⟩
/-! ### they may be -/
theorem ownF_zero (back : Int) : bsNew (nodesN 2) back = ownF back 0 := by
  unfold bsNew ownF
  rw [show nodesN 2 = 2 from rfl]
  rfl
theorem othF_zero (back : Int) : ((bsNew (nodesN 2) back).offer 1 fB1).1 = othF back 0 ∧ ((bsNew (nodesN 2) back).offer 1 fB1).2 = 0 := by
  have e : bsNew (nodesN 2) back = ⟨[cf0, cf0], [[], []], back, false, 0, []⟩ := rfl
  rw [e]
  unfold Bs.offer
  rw [if_neg (by simp), if_neg (by have := fB1_key; omega), if_neg (by simp)]
  exact ⟨rfl, rfl⟩
section
variable {back : Int} (h1 : 1 ≤ back) (h2 : back ≤ 40)
include h1 h2
theorem ownF_ok : ∀ k, k ≤ 32 → (ownF back k).Ok
  | 0, _ => by rw [← ownF_zero]; exact Bs.Ok.new 2 back (by omega)
  | k + 1, h => by rw [← ownF_slot back (by omega)]; exact (ownF_ok k (by omega)).slot _ _ _
theorem othF_ok : ∀ k, k ≤ 32 → (othF back k).Ok
  | 0, _ => by rw [← (othF_zero back).1]; exact (Bs.Ok.new 2 back (by omega)).offer _ _
  | k + 1, h => by rw [← othF_slot back (by omega)]; exact (othF_ok k (by omega)).slot _ _ _
theorem ownL_ok : ∀ k, (ownL back k).Ok
  | 0 => by rw [← ownF_32]; exact ownF_ok h1 h2 32 (by omega)
  | k + 1 => by rw [← (ownL_slot back k).1]; exact (ownL_ok k).slot _ _ _
theorem ownB_ok (k : Nat) : ∀ d : Nat, (d : Int) ≤ back → (ownB back k d).Ok
  | 0, _ => by rw [← ownL_fix h1]; exact (ownL_ok h1 h2 k).fix
  | d + 1, h => by rw [← (ownB_slot h1 h2 k (by omega)).1]; exact (ownB_ok k d (by omega)).slot _ _ _
theorem othB_ok : ∀ d : Nat, (d : Int) ≤ back → (othB back d).Ok
  | 0, _ => by rw [← othF_32 h1]; exact othF_ok h1 h2 32 (by omega)
  | d + 1, h => by rw [← (othB_slot h1 h2 (by omega)).1]; exact (othB_ok d (by omega)).slot _ _ _
end
end Go.Proofs.YtpgfifacfkllfaaDoor
