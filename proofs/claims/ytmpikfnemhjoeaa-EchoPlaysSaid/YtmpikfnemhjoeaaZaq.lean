/- Echo: walk of EchoPlays. Printed by gen_v.py. -/
import Derived.Test.YtmpikfnemhjoeaaZap
import Derived.Test.YtmpikfnemhjoeaaZal
namespace Go.Proofs.Ytmpikfnemhjoeaa
open Go.RowKit
set_option linter.unusedVariables false

theorem pk_ne {p : Pk} : (p.f.i != p.f.i) = false ∧ (p.f.n != p.f.n) = false ∧ (p.f.l != p.f.l) = false ∧ (p.f.d.toList != p.f.d.toList) = false ∧ (p.fr != p.fr) = false ∧ (p.tag != p.tag) = false ∧ (p.lp != p.lp) = false := by simp
/-- two rows made in a region that draws -/
def MkG (W : World) (nn : Nat) (ZP ZB : List Value) (j : Nat) (xs : Tmp → Option Value) (w : World) : Prop := Below W.heap.size W w ∧ (∀ t u, t = 31 ∨ t = 7 → xs t = some u → ∃ g, u = .slice (some ⟨g, 0, none⟩) nn nn ∧ W.heap.size ≤ g ∧ w.heap[g]? = some (.cells ZP.toArray 32 (0, 0))) ∧
  (∀ u, xs 33 = some u → ∃ g, u = .slice (some ⟨g, 0, none⟩) nn nn ∧ W.heap.size ≤ g ∧ w.heap[g]? = some (.cells ZB.toArray 4 (0, 0)))
theorem MkG.oneP {W : World} {nn : Nat} {ZP ZB : List Value} (j : Nat) (xs : Tmp → Option Value) (w : World) (h : MkG W nn ZP ZB j xs w) : MkG W nn ZP ZB j (fun t => if t = 31 then some (.slice (some ⟨w.heap.size, 0, none⟩) nn nn) else xs t) (w.alloc (.cells ZP.toArray 32)) := by
  have hb := (Below.refl w.heap.size w).alloc (Nat.le_refl _) (.cells ZP.toArray 32)
  refine ⟨fbelow_t h.1 hb, fun t u ht hu => ?_, fun u hu => ?_⟩
  · rcases ht with rfl | rfl
    · simp at hu; subst hu
      exact ⟨_, rfl, h.1.size, heap_alloc_new w _⟩
    · simp at hu
      obtain ⟨g, e, h1, h2⟩ := h.2.1 7 u (.inr rfl) hu
      exact ⟨g, e, h1, (hb.block g (heap_some_lt h2)).trans h2⟩
  · simp at hu
    obtain ⟨g, e, h1, h2⟩ := h.2.2 u hu
    exact ⟨g, e, h1, (hb.block g (heap_some_lt h2)).trans h2⟩
theorem MkG.oneB {W : World} {nn : Nat} {ZP ZB : List Value} (j : Nat) (xs : Tmp → Option Value) (w : World) (h : MkG W nn ZP ZB j xs w) : MkG W nn ZP ZB j (fun t => if t = 33 then some (.slice (some ⟨w.heap.size, 0, none⟩) nn nn) else xs t) (w.alloc (.cells ZB.toArray 4)) := by
  have hb := (Below.refl w.heap.size w).alloc (Nat.le_refl _) (.cells ZB.toArray 4)
  refine ⟨fbelow_t h.1 hb, fun t u ht hu => ?_, fun u hu => ?_⟩
  · have h33 : t ≠ 33 := by rcases ht with rfl | rfl <;> decide
    simp only [if_neg h33] at hu
    obtain ⟨g, e, h1, h2⟩ := h.2.1 t u ht hu
    exact ⟨g, e, h1, (hb.block g (heap_some_lt h2)).trans h2⟩
  · simp at hu; subst hu
    exact ⟨_, rfl, h.1.size, heap_alloc_new w _⟩
theorem MkG.move {W w : World} {nn : Nat} {ZP ZB : List Value} {j : Nat} {xs : Tmp → Option Value} {u : Value} (h : MkG W nn ZP ZB j xs w) (h1 : xs 31 = some u) : MkG W nn ZP ZB j (fun t => if t = 7 then some u else xs t) w := by
  refine ⟨h.1, fun t x ht hu => ?_, fun x hu => h.2.2 x (by simpa using hu)⟩
  rcases ht with rfl | rfl
  · exact h.2.1 31 x (.inl rfl) (by simpa using hu)
  · simp at hu; subst hu
    exact h.2.1 31 _ (.inl rfl) h1
set_option maxHeartbeats 16000000 in
set_option maxRecDepth 8000 in
theorem echoPlays_walk {I : World → Value → Ec → (Nat → Prop) → Prop} (A : EchoI I) (many : Int) (a : Option Addr) (len cap : Nat) (F : Nat → List Value) (w : World) (wn : (Lit.int .i64 many).wf = true) (hr : IsRowOf w op9Sh a len cap F) :
    Calls Try.prog 3 #[.int .i64 many, .slice a len cap] w fun e w' => e = .returned (.bool true) ∧ Below w.heap.size w w' := by
  obtain ⟨L, hL, hlen, hf⟩ := slice_of_row hr op9Of op9Of_c rfl (by decide)
  have HA := Lib.hid A
  have HV := Lib.hid hL
  subst hlen
  clear A hL hr hf wn
  by_cases h4 : 400 < L.length
  · have h4' : (400 : Int) < (L.length : Int) := by omega
    clear h4
    go_enter Try.func3, Try.ntmps3
    go_wp2_with fail
    refine (echoalive HA.out _).mono ?_
    rintro e w1 ⟨rfl, hb⟩
    go_wp2
    go_ret
    exact ⟨rfl, hb⟩
  have h4' : ¬ (400 : Int) < (L.length : Int) := by omega
  have hl4 : (L.length : Int) ≤ 400 := by omega
  obtain ⟨nn, hnn⟩ : ∃ nn, boxesN many = nn := ⟨_, rfl⟩
  have hn1 : nn ≤ 1000 := by have := boxesN_rng many; omega
  have hn2 : (nn : Int) ≤ 1000 := by omega
  have HRM : Hid (roomN many = (nn : Int)) := Lib.hid (by rw [room_boxes, hnn])
  have HOK0 : Hid (ecNew nn).Ok := Lib.hid (by rw [← hnn]; exact Ec.Ok.new many)
  have mk1 := run_mkP nn hn1
  have mk2 := run_mkBo nn hn1
  obtain ⟨ZP, hZP⟩ : ∃ Z, rowG pkC (List.replicate nn pk0) = Z := ⟨_, rfl⟩
  obtain ⟨ZB, hZB⟩ : ∃ Z, rowG boC (List.replicate nn false) = Z := ⟨_, rfl⟩
  rw [hZP] at mk1
  rw [hZB] at mk2
  have HZP := Lib.hid hZP
  have HZB := Lib.hid hZB
  clear h4 hn1 hZP hZB
  go_enter Try.func3, Try.ntmps3
  go_wp2_with fail
  refine (HA.out.new many _).mono ?_
  rintro e w1 ⟨v, O, rfl, hi, hb, hn⟩
  obtain ⟨pa, rfl⟩ := HA.out.ptr hi
  rw [hnn] at hi
  have H1 : Hid (Has I w (.pointer (some pa)) (ecNew nn) O w1) := Lib.hid ⟨hi, hb, hn⟩
  have HO1 := Lib.hid (HA.out.obj.lt hi)
  clear hi hb hn hnn
  go_wp2_with fail
  refine (xroom_v HRM.out _).mono ?_
  rintro e w2 ⟨rfl, rfl⟩
  have HGO : Hid (∀ (gh gf : Nat) (w3 : World), gh ≠ gf → w1.heap.size ≤ gh → w1.heap.size ≤ gf → w3.heap[gh]? = some (.cells ZP.toArray 32 (0, 0)) → w3.heap[gf]? = some (.cells ZB.toArray 4 (0, 0)) → Below w1.heap.size w1 w3 → EcS I w (.pointer (some pa)) gh gf (ecNew nn) (ecNew nn) O w3) := Lib.hid (fun gh gf w3 hne g1 g2 p1 p2 hb =>
    ⟨H1.out.later HA.out.obj hb, by rw [← HZP.out] at p1; exact p1, by rw [← HZB.out] at p2; exact p2, fun h => by have := HO1.out _ h; omega, fun h => by have := HO1.out _ h; omega, hne, Nat.le_trans H1.out.below.size g1, Nat.le_trans H1.out.below.size g2⟩)
  go_upto_region 5 with fail
  refine wp_region_st 5 [] (MkG w1 nn ZP ZB) [31, 7, 33] ⟨(Below.refl _ _).drew, (fun t u _ h => by cases h), (fun u h => by cases h)⟩ (by kernel_rfl) (by kernel_rfl) (by kernel_rfl) (by kernel_rfl) (by kernel_rfl) (by kernel_rfl) (by kernel_rfl) ?_
  simp only [List.take_succ_cons, List.take_zero, List.drop_succ_cons, List.drop_zero]
  repeat (refine st_plain (O := fun _ => False) (fun h => .of_below h.1) (by rfl) (by rfl) (by rfl) (by rfl) (by rfl) ?_; intro K hK; go_big_quiet_op; go_big_quiet_on)
  refine st_new (s := 31) (mk := fun w => .slice (some ⟨w.heap.size, 0, none⟩) nn nn) (ob := fun _ => .cells ZP.toArray 32) (by rfl) (by rfl) (by rfl) (by rfl) (by rfl) (by rfl) (fun w => by simp [go_sem, mk1]) MkG.oneP ?_
  simp only [Act.put, List.setIfInBounds_toArray, List.set_cons_succ, List.set_cons_zero]
  repeat (refine st_plain (O := fun _ => False) (fun h => .of_below h.1) (by rfl) (by rfl) (by rfl) (by rfl) (by rfl) ?_; intro K hK; go_big_quiet_op; go_big_quiet_on)
  refine st_new (s := 33) (mk := fun w => .slice (some ⟨w.heap.size, 0, none⟩) nn nn) (ob := fun _ => .cells ZB.toArray 4) (by rfl) (by rfl) (by rfl) (by rfl) (by rfl) (by rfl) (fun w => by simp [go_sem, mk2]) MkG.oneB ?_
  simp only [Act.put, List.setIfInBounds_toArray, List.set_cons_succ, List.set_cons_zero]
  refine st_move (s1 := 31) (s2 := 7) (by rfl) (by rfl) (by rfl) (by rfl) (by rfl) (by decide) (fun a w => by simp [execOp, go_sem]) (fun j xs w u hG h1 h2 => hG.move h1) ?_
  simp only [Act.put, List.setIfInBounds_toArray, List.set_cons_succ, List.set_cons_zero]
  intro ys xs w3 hF h3
  simp only [secFill]
  simp only [Act.put, List.setIfInBounds_toArray, List.set_cons_succ, List.set_cons_zero]
  obtain ⟨b3, p3, f3⟩ := h3
  obtain ⟨gh, y1, y2, y3⟩ := p3 7 _ (.inr rfl) (hF 7 (by simp))
  obtain ⟨gf, y4, y5, y6⟩ := f3 _ (hF 33 (by simp))
  rw [y1, y4]
  have HE3 : Hid (EcS I w (.pointer (some pa)) gh gf (ecNew nn) (ecNew nn) O w3) := Lib.hid (HGO.out gh gf w3 (fun e => by rw [e, y6] at y3; injection y3 with y3; injection y3 with _ y3 _; cases y3) y2 y5 y3 y6 b3)
  clear b3 p3 f3 y1 y2 y3 y4 y5 y6 hF HGO H1 HO1 mk1 mk2
  have hlN : (ecNew nn).F.length = nn := by simp [ecNew]
  have hl0 : (ecNew nn).len = 0 := Ec.new_len nn
  go_wp2_with fail
  go_loopw [36, 9] (fun i c wr => ∃ (k : Nat) (s : Ec) (O : Nat → Prop), k ≤ L.length ∧ i = .int .i64 k ∧ c = .int .i64 (s.len : Nat) ∧ s.F.length = nn ∧ Hid s.Ok ∧ Hid (EcS I w (.pointer (some pa)) gh gf s s O wr)) (fun i _ _ => L.length - (intOf i).toNat)
  case atStart => exact ⟨0, ecNew nn, O, Nat.zero_le _, rfl, by rw [hl0]; rfl, hlN, HOK0, HE3⟩
  case round =>
    clear hlN hl0 HE3 HOK0
    obtain ⟨k, s, O1, hk, rfl, rfl, hnn, HS, HE⟩ := hrel
    by_cases hlt : k < L.length
    case neg =>
      obtain rfl : k = L.length := by omega
      clear hlt hk
      go_wp2_with fail
      refine (echoalive HA.out _).mono ?_
      rintro e w5 ⟨rfl, hb⟩
      have HB5 := Lib.hid (fbelow_t HE.out.has.below hb)
      clear hb
      go_wp2
      go_ret
      exact ⟨rfl, HB5.out⟩
    have hkl : (k : Int) < (L.length : Int) := by omega
    obtain ⟨x, c1, hv1, hxb, hcell⟩ := SlG.at_ (HV.out.later HE.out.has.below) hlt
    injection hv1 with hAA _ hcap
    subst hAA hcap
    have a0 : wr.cell? (x.add (k * 9)) = some (.int .i64 (L[k]'hlt).k) := hcell 0 _ rfl
    have a1 : wr.cell? ⟨(x.add (k * 9)).block, (x.add (k * 9)).off + 1, none⟩ = some (.int .i64 (L[k]'hlt).b) := hcell 1 _ rfl
    have a2 : wr.cell? ⟨(x.add (k * 9)).block, (x.add (k * 9)).off + 2, none⟩ = some (.int .i64 (L[k]'hlt).p.f.i) := hcell 2 _ rfl
    have a3 : wr.cell? ⟨(x.add (k * 9)).block, (x.add (k * 9)).off + 3, none⟩ = some (.int .i64 (L[k]'hlt).p.f.n) := hcell 3 _ rfl
    have a4 : wr.cell? ⟨(x.add (k * 9)).block, (x.add (k * 9)).off + 4, none⟩ = some (.int .i64 (L[k]'hlt).p.f.l) := hcell 4 _ rfl
    have a5 : wr.cell? ⟨(x.add (k * 9)).block, (x.add (k * 9)).off + 5, none⟩ = some (.string (L[k]'hlt).p.f.d) := hcell 5 _ rfl
    have a6 : wr.cell? ⟨(x.add (k * 9)).block, (x.add (k * 9)).off + 6, none⟩ = some (.int .i64 (L[k]'hlt).p.fr) := hcell 6 _ rfl
    have a7 : wr.cell? ⟨(x.add (k * 9)).block, (x.add (k * 9)).off + 7, none⟩ = some (.int .i64 (L[k]'hlt).p.tag) := hcell 7 _ rfl
    have a8 : wr.cell? ⟨(x.add (k * 9)).block, (x.add (k * 9)).off + 8, none⟩ = some (.bool (L[k]'hlt).p.lp) := hcell 8 _ rfl
    generalize L[k]'hlt = o at a0 a1 a2 a3 a4 a5 a6 a7 a8
    obtain ⟨ok, ob, p⟩ := o
    clear hcell hxb
    obtain ⟨wa, ea⟩ : ∃ wa, wr.alloc (.cells #[.int .i64 ok, .int .i64 ob, .int .i64 p.f.i, .int .i64 p.f.n, .int .i64 p.f.l, .string p.f.d, .int .i64 p.fr, .int .i64 p.tag, .bool p.lp] 34) = wa := ⟨_, rfl⟩
    have hba : Below wr.heap.size wr wa := by rw [← ea]; exact (Below.refl _ wr).alloc (Nat.le_refl _) _
    have hoa : wa.heap[wr.heap.size]? = some (.cells #[.int .i64 ok, .int .i64 ob, .int .i64 p.f.i, .int .i64 p.f.n, .int .i64 p.f.l, .string p.f.d, .int .i64 p.fr, .int .i64 p.tag, .bool p.lp] 34 (0, 0)) := by rw [← ea]; exact heap_alloc_new wr _
    have HEA := Lib.hid (HE.out.later HA.out.obj hba)
    have HOA := Lib.hid hoa
    have HNO : Hid (¬ O1 wr.heap.size ∧ wr.heap.size ≠ gh ∧ wr.heap.size ≠ gf) := Lib.hid ⟨fun h => absurd (HA.out.obj.lt HE.out.has.inv _ h) (Nat.lt_irrefl _), fun e => by have := heap_some_lt HE.out.held; omega, fun e => by have := heap_some_lt HE.out.full; omega⟩
    have HKL : Hid (k < L.length) := Lib.hid hlt
    simp only at a0 a1 a2 a3 a4 a5 a6 a7 a8
    clear hba hoa hlt HE
    go_upto_region 10 with fail
    clear ea a0 a1 a2 a3 a4 a5 a6 a7 a8 hk
    have b0 := Lib.cell_of_heap HOA.out 0
    have b1 := Lib.cell_of_heap HOA.out 1
    have b2 := Lib.cell_of_heap HOA.out 2
    have b3 := Lib.cell_of_heap HOA.out 3
    have b4 := Lib.cell_of_heap HOA.out 4
    have b5 := Lib.cell_of_heap HOA.out 5
    have b6 := Lib.cell_of_heap HOA.out 6
    have b7 := Lib.cell_of_heap HOA.out 7
    have b8 := Lib.cell_of_heap HOA.out 8
    simp only [List.getElem?_toArray, List.getElem?_cons_zero, List.getElem?_cons_succ] at b0 b1 b2 b3 b4 b5 b6 b7 b8
    have zo : wr.heap.size < wa.heap.size := heap_some_lt HOA.out
    have HNN : Hid (s.len ≤ 1000) := Lib.hid (by have := s.len_le; have := HS.out.n2; omega)
    have hcl : (s.len : Int) ≤ 1000 := by have := HNN.out; omega
    clear HNN
    generalize hcc : s.len = cc at *
    have HCC := Lib.hid hcc
    clear hcc
    by_cases hk0 : ok = 0
    · subst hk0
      by_cases hob : 0 ≤ ob
      case neg =>
        have HIN : Hid (s.has ob = false) := Lib.hid (by unfold Ec.has; rw [decide_eq_false hob]; rfl)
        have d1 : decide (0 ≤ ob) = false := decide_eq_false hob
        clear hob
        as_aux_lemma =>
          have HPU : Hid (s.put ob p = (s, 2)) := Lib.hid (by unfold Ec.put; rw [HIN.out]; rfl)
          clear HIN
          go_wp2_with fail
          refine (HA.out.put ob p HEA.out.has.inv HS.out).mono ?_
          rw [HPU.out]
          rintro e w5 ⟨rfl, O5, hi, hk5, hg⟩
          have HE5 := Lib.hid (HEA.out.step HA.out.obj hi hk5 hg)
          have HS5 := HS
          have HL := HCC
          have HLN5 : Hid (s.F.length = nn) := Lib.hid hnn
          clear hi hk5 hg b0 b1 b2 b3 b4 b5 b6 b7 b8
          go_wp2_with fail
          refine (HA.out.len HE5.out.has.inv HS5.out).mono ?_
          rw [HL.out]
          rintro e w6 ⟨rfl, hb6⟩
          have HE6 := Lib.hid (HE5.out.later HA.out.obj hb6)
          clear hb6
          go_wp2
          go_roundw
          case rel => exact ⟨k + 1, s, O5, by have := HKL.out; omega, by go_num, by first | (rw [HL.out]; done) | (rw [HL.out]; go_num), HLN5.out, HS5, HE6⟩
          case measure => have := HKL.out; simp [intOf]; omega
      obtain ⟨m, rfl⟩ : ∃ m : Nat, ob = (m : Int) := ⟨ob.toNat, by omega⟩
      clear hob
      by_cases hmn : m < nn
      case neg =>
        have HIN : Hid (s.has (m : Int) = false) := Lib.hid (by unfold Ec.has; rw [decide_eq_false (by omega : ¬ (m : Int) < (s.F.length : Int))]; simp)
        have d2 : decide (m < nn) = false := decide_eq_false hmn
        clear hmn
        as_aux_lemma =>
          have HPU : Hid (s.put (m : Int) p = (s, 2)) := Lib.hid (by unfold Ec.put; rw [HIN.out]; rfl)
          clear HIN
          go_wp2_with fail
          refine (HA.out.put (m : Int) p HEA.out.has.inv HS.out).mono ?_
          rw [HPU.out]
          rintro e w5 ⟨rfl, O5, hi, hk5, hg⟩
          have HE5 := Lib.hid (HEA.out.step HA.out.obj hi hk5 hg)
          have HS5 := HS
          have HL := HCC
          have HLN5 : Hid (s.F.length = nn) := Lib.hid hnn
          clear hi hk5 hg b0 b1 b2 b3 b4 b5 b6 b7 b8
          go_wp2_with fail
          refine (HA.out.len HE5.out.has.inv HS5.out).mono ?_
          rw [HL.out]
          rintro e w6 ⟨rfl, hb6⟩
          have HE6 := Lib.hid (HE5.out.later HA.out.obj hb6)
          clear hb6
          go_wp2
          go_roundw
          case rel => exact ⟨k + 1, s, O5, by have := HKL.out; omega, by go_num, by first | (rw [HL.out]; done) | (rw [HL.out]; go_num), HLN5.out, HS5, HE6⟩
          case measure => have := HKL.out; simp [intOf]; omega
      have HIN : Hid (s.has (m : Int) = true) := Lib.hid (by unfold Ec.has; rw [decide_eq_true (by omega : (m : Int) < (s.F.length : Int))]; simp)
      have d2 : decide (m < nn) = true := decide_eq_true hmn
      have d3 : (m : Int) < (nn : Int) := by omega
      obtain ⟨f1, fl1⟩ := HEA.out.cellF (i := m) (by rw [hnn]; exact hmn)
      cases hq : s.F.getD m false
      case true =>
        rw [hq] at f1
        have HAT : Hid (s.at_ (m : Int) = true) := Lib.hid hq
        clear hq
        as_aux_lemma =>
          have HPU : Hid (s.put (m : Int) p = (s, 5)) := Lib.hid (by unfold Ec.put; rw [HIN.out, HAT.out]; rfl)
          clear HIN HAT
          go_wp2_with fail
          refine (HA.out.put (m : Int) p HEA.out.has.inv HS.out).mono ?_
          rw [HPU.out]
          rintro e w5 ⟨rfl, O5, hi, hk5, hg⟩
          have HE5 := Lib.hid (HEA.out.step HA.out.obj hi hk5 hg)
          have HS5 := HS
          have HL := HCC
          have HLN5 : Hid (s.F.length = nn) := Lib.hid hnn
          clear hi hk5 hg b0 b1 b2 b3 b4 b5 b6 b7 b8
          go_wp2_with fail
          refine (HA.out.len HE5.out.has.inv HS5.out).mono ?_
          rw [HL.out]
          rintro e w6 ⟨rfl, hb6⟩
          have HE6 := Lib.hid (HE5.out.later HA.out.obj hb6)
          clear hb6
          go_wp2
          go_roundw
          case rel => exact ⟨k + 1, s, O5, by have := HKL.out; omega, by go_num, by first | (rw [HL.out]; done) | (rw [HL.out]; go_num), HLN5.out, HS5, HE6⟩
          case measure => have := HKL.out; simp [intOf]; omega
      rw [hq] at f1
      have HAT : Hid (s.at_ (m : Int) = false) := Lib.hid hq
      clear hq
      as_aux_lemma =>
        have HPU : Hid (s.put (m : Int) p = (⟨s.H.set m p, s.F.set m true⟩, 0)) := Lib.hid (by unfold Ec.put; rw [HIN.out, HAT.out]; rfl)
        have HL : Hid ((⟨s.H.set m p, s.F.set m true⟩ : Ec).len = cc + 1) := Lib.hid (by
          have c := cntF_set s.F m true (by rw [hnn]; exact hmn)
          have e : s.F.getD m false = false := HAT.out
          have e2 : (s.F.filter id).length = cc := HCC.out
          rw [e, e2] at c
          simpa [Ec.len] using c)
        have HS5 : Hid ((⟨s.H.set m p, s.F.set m true⟩ : Ec).Ok) := Lib.hid (by have := HS.out.put (m : Int) p; rw [HPU.out] at this; exact this)
        have HLN5 : Hid ((⟨s.H.set m p, s.F.set m true⟩ : Ec).F.length = nn) := Lib.hid (by simpa using hnn)
        have hmH : m < s.H.length := by rw [HS.out.len, hnn]; exact hmn
        obtain ⟨c0, c1, c2, c3, c4, c5, c6, cl⟩ := HEA.out.cellH hmH
        have HWP := Lib.hid ((HEA.out.later HA.out.obj (Below.refl _ _).drew).setH HA.out.obj hmH p)
        have HKP : Hid (Kept (fun k => k = gh) wa (putP wa.drew gh m p)) := Lib.hid ⟨(putP_rest _ _ _ _).1, (putP_rest _ _ _ _).2.1, (putP_rest _ _ _ _).2.2, by rw [putP_size]; exact Nat.le_refl _, fun k _ hk => putP_other hk⟩
        obtain ⟨wp, ep⟩ : ∃ wp, putP wa.drew gh m p = wp := ⟨_, rfl⟩
        rw [ep] at HWP HKP
        obtain ⟨f2, fl2⟩ := HWP.out.cellF (i := m) (by show m < s.F.length; rw [hnn]; exact hmn)
        have HWQ := Lib.hid (HWP.out.setF HA.out.obj m true)
        have HOQ : Hid ((wp.setCell ⟨gf, m, none⟩ (.bool true)).heap[wr.heap.size]? = some (.cells #[.int .i64 0, .int .i64 m, .int .i64 p.f.i, .int .i64 p.f.n, .int .i64 p.f.l, .string p.f.d, .int .i64 p.fr, .int .i64 p.tag, .bool p.lp] 34 (0, 0))) := Lib.hid (by
          rw [Below.heap_setCell _ _ _ _ HNO.out.2.2, ← ep, putP_other HNO.out.2.1]
          exact HOA.out)
        have hzg : wr.heap.size ≠ gh := HNO.out.2.1
        have hfold : ((((((wa.drew.setCell ⟨gh, m * 7, none⟩ (.int .i64 p.f.i)).setCell ⟨gh, m * 7 + 1, none⟩ (.int .i64 p.f.n)).setCell ⟨gh, m * 7 + 2, none⟩ (.int .i64 p.f.l)).setCell ⟨gh, m * 7 + 3, none⟩ (.string p.f.d)).setCell ⟨gh, m * 7 + 4, none⟩ (.int .i64 p.fr)).setCell ⟨gh, m * 7 + 5, none⟩ (.int .i64 p.tag)).setCell ⟨gh, m * 7 + 6, none⟩ (.bool p.lp) = wp := ep
        clear ep HIN HAT hmH
        go_upto_region 18 with fail
        have hkq : ∀ (r : KLater (fun k => k = gh) wa) (o : Nat), r.w.cell? ⟨wr.heap.size, o, none⟩ = wa.cell? ⟨wr.heap.size, o, none⟩ := fun r o => r.cell wr.heap.size o zo hzg
        refine wp_region_st 10 [9] (fun j _ w' => (j = 0 ∧ w' = wa.drew) ∨ (j = 1 ∧ w' = wp)) [] (.inl ⟨rfl, rfl⟩) (by kernel_rfl) (by kernel_rfl) (by kernel_rfl) (by kernel_rfl) (by kernel_rfl) (by kernel_rfl) (by kernel_rfl) ?_
        simp only [List.take_succ_cons, List.take_zero, List.drop_succ_cons, List.drop_zero]
        repeat (refine st_plain (O := fun k => k = gh) (fun h => by rcases h with ⟨_, rfl⟩ | ⟨_, rfl⟩; exact .of_below (Below.refl _ _).drew; exact HKP.out) (by rfl) (by rfl) (by rfl) (by rfl) (by rfl) ?_; intro K hK; go_big_quiet_op; go_big_quiet_on)
        refine st_turn 0 (by rfl) (by rfl) (by rfl) (by rfl) (by rfl) (fun xs9 w9 h9 => ?_) ?_
        · obtain ⟨_, rfl⟩ | ⟨h9, _⟩ := h9
          · refine ⟨wp, .inl ?_, .inr ⟨rfl, rfl⟩⟩
            rw [← hfold]
            exact store_pk (p0 := s.H.getD m pk0) (sa := .tmp 68) (sb := .tmp 67) rfl rfl rfl c0 c1 c2 c3 c4 c5 c6 cl
          · cases h9
        simp only [Act.put]
        intro ys xs wf hF h9
        simp only [secFill]
        obtain ⟨h9, _⟩ | ⟨_, rfl⟩ := h9
        · cases h9
        obtain ⟨wq, eq⟩ : ∃ wq, wf.setCell ⟨gf, m, none⟩ (.bool true) = wq := ⟨_, rfl⟩
        rw [eq] at HWQ HOQ
        clear hfold hkq hF c0 c1 c2 c3 c4 c5 c6 cl b0 b1 b2 b3 b4 b5 b6 b7 b8 f1 fl1 zo
        go_upto_region 20 with fail
        clear eq f2 fl2
        have b0 := Lib.cell_of_heap HOQ.out 0
        have b1 := Lib.cell_of_heap HOQ.out 1
        have b2 := Lib.cell_of_heap HOQ.out 2
        have b3 := Lib.cell_of_heap HOQ.out 3
        have b4 := Lib.cell_of_heap HOQ.out 4
        have b5 := Lib.cell_of_heap HOQ.out 5
        have b6 := Lib.cell_of_heap HOQ.out 6
        have b7 := Lib.cell_of_heap HOQ.out 7
        have b8 := Lib.cell_of_heap HOQ.out 8
        simp only [List.getElem?_toArray, List.getElem?_cons_zero, List.getElem?_cons_succ] at b0 b1 b2 b3 b4 b5 b6 b7 b8

        go_wp2_with fail
        refine (HA.out.put m p HWQ.out.has.inv HS.out).mono ?_
        rw [HPU.out]
        rintro e w5 ⟨rfl, O5, hi, hk5, hg⟩
        have HE5 := Lib.hid (HWQ.out.step HA.out.obj hi hk5 hg)
        clear hi hk5 hg b0 b1 b2 b3 b4 b5 b6 b7 b8
        go_wp2_with fail
        refine (HA.out.len HE5.out.has.inv HS5.out).mono ?_
        rw [HL.out]
        rintro e w6 ⟨rfl, hb6⟩
        have HE6 := Lib.hid (HE5.out.later HA.out.obj hb6)
        clear hb6
        go_wp2
        go_roundw
        case rel => exact ⟨k + 1, ⟨s.H.set m p, s.F.set m true⟩, O5, by have := HKL.out; omega, by go_num, by first | (rw [HL.out]; done) | (rw [HL.out]; go_num), HLN5.out, HS5, HE6⟩
        case measure => have := HKL.out; simp [intOf]; omega
    by_cases hk1 : ok = 1
    · subst hk1
      by_cases hob : 0 ≤ ob
      case neg =>
        have HIN : Hid (s.has ob = false) := Lib.hid (by unfold Ec.has; rw [decide_eq_false hob]; rfl)
        have d1 : decide (0 ≤ ob) = false := decide_eq_false hob
        clear hob
        as_aux_lemma =>
          obtain ⟨pp, hpp⟩ : ∃ pp, pk0 = pp := ⟨_, rfl⟩
          have HPK : Hid (s.peek ob = (pp, false)) := Lib.hid (by unfold Ec.peek; rw [HIN.out, ← hpp]; rfl)
          have HGT : Hid (s.get ob = (s, pp, 2)) := Lib.hid (by unfold Ec.get; rw [HIN.out, ← hpp]; rfl)
          have HPP := Lib.hid hpp
          clear hpp

          have HS5 := HS
          have HL := HCC
          have HLN5 : Hid (s.F.length = nn) := Lib.hid hnn

          have zgh : gh < wa.heap.size := heap_some_lt HEA.out.held
          have zgf : gf < wa.heap.size := heap_some_lt HEA.out.full
          obtain ⟨wb, eb⟩ : ∃ wb, wa.alloc (.cells #[.int .i64 0, .int .i64 0, .int .i64 0, .string (ByteArray.mk #[]), .int .i64 0, .int .i64 0, .bool false] 32) = wb := ⟨_, rfl⟩
          have hbb : Below wa.heap.size wa wb := by rw [← eb]; exact (Below.refl _ wa).alloc (Nat.le_refl _) _
          have HPB : Hid (BoxP wb wa.heap.size pp) := Lib.hid (by rw [← eb, ← HPP.out]; exact BoxP.made wa pk0)
          have HEB := Lib.hid (HEA.out.later HA.out.obj hbb)
          have HOB := Lib.hid ((hbb.block _ zo).trans HOA.out)
          have HNP : Hid (¬ O1 wa.heap.size) := Lib.hid (fun h => absurd (HA.out.obj.lt HEA.out.has.inv _ h) (Nat.lt_irrefl _))
          clear hbb HIN

          go_upto_region 30 with fail

          clear eb zgh zgf b0 b1 b2 b3 b4 b5 b6 b7 b8 zo 
          have b0 := Lib.cell_of_heap HOB.out 0
          have b1 := Lib.cell_of_heap HOB.out 1
          have b2 := Lib.cell_of_heap HOB.out 2
          have b3 := Lib.cell_of_heap HOB.out 3
          have b4 := Lib.cell_of_heap HOB.out 4
          have b5 := Lib.cell_of_heap HOB.out 5
          have b6 := Lib.cell_of_heap HOB.out 6
          have b7 := Lib.cell_of_heap HOB.out 7
          have b8 := Lib.cell_of_heap HOB.out 8
          simp only [List.getElem?_toArray, List.getElem?_cons_zero, List.getElem?_cons_succ] at b0 b1 b2 b3 b4 b5 b6 b7 b8

          have zo : wr.heap.size < wb.heap.size := heap_some_lt HOB.out
          go_wp2_with fail
          refine (HA.out.peek ob HEB.out.has.inv HS.out).mono ?_
          rw [HPK.out]
          rintro e w5 ⟨rfl, hb5⟩
          have HE5a := Lib.hid (HEB.out.later HA.out.obj hb5)
          have HO5 := Lib.hid ((hb5.block _ zo).trans HOB.out)
          have HP5 := Lib.hid (HPB.out.later hb5)
          clear hb5 b0 b1 b2 b3 b4 b5 b6 b7 b8 zo
          obtain ⟨wc, ec⟩ : ∃ wc, w5.alloc (.cells #[.int .i64 pp.f.i, .int .i64 pp.f.n, .int .i64 pp.f.l, .string pp.f.d, .int .i64 pp.fr, .int .i64 pp.tag, .bool pp.lp] 32) = wc := ⟨_, rfl⟩
          have hbc : Below w5.heap.size w5 wc := by rw [← ec]; exact (Below.refl _ w5).alloc (Nat.le_refl _) _
          have HXC : Hid (BoxP wc w5.heap.size pp) := Lib.hid (by rw [← ec]; exact BoxP.made w5 pp)
          have HEC := Lib.hid (HE5a.out.later HA.out.obj hbc)
          have HOC := Lib.hid ((hbc.block _ (heap_some_lt HO5.out)).trans HO5.out)
          have HPC := Lib.hid (HP5.out.later hbc)
          obtain ⟨d0, d1, d2, d3, d4, d5, d6⟩ := HPC.out.cells
          obtain ⟨x0, x1, x2, x3, x4, x5, x6⟩ := HXC.out.cells

          clear hbc
          go_upto_region 31 with fail
          clear ec
          have b0 := Lib.cell_of_heap HOC.out 0
          have b1 := Lib.cell_of_heap HOC.out 1
          have b2 := Lib.cell_of_heap HOC.out 2
          have b3 := Lib.cell_of_heap HOC.out 3
          have b4 := Lib.cell_of_heap HOC.out 4
          have b5 := Lib.cell_of_heap HOC.out 5
          have b6 := Lib.cell_of_heap HOC.out 6
          have b7 := Lib.cell_of_heap HOC.out 7
          have b8 := Lib.cell_of_heap HOC.out 8
          simp only [List.getElem?_toArray, List.getElem?_cons_zero, List.getElem?_cons_succ] at b0 b1 b2 b3 b4 b5 b6 b7 b8

          go_wp2_with fail
          refine (HA.out.get ob HEC.out.has.inv HS.out).mono ?_
          rw [HGT.out]
          rintro e w7 ⟨rfl, O5, hi, hk5, hg⟩
          have HE7 := Lib.hid (HEC.out.step HA.out.obj hi hk5 hg)
          have HP7 := Lib.hid (HPC.out.kept hk5 HNP.out)
          have HO7 := Lib.hid ((hk5.block _ (heap_some_lt HOC.out) HNO.out.1).trans HOC.out)
          clear hi hk5 hg d0 d1 d2 d3 d4 d5 d6 x0 x1 x2 x3 x4 x5 x6 b0 b1 b2 b3 b4 b5 b6 b7 b8
          obtain ⟨wd, ed⟩ : ∃ wd, w7.alloc (.cells #[.int .i64 pp.f.i, .int .i64 pp.f.n, .int .i64 pp.f.l, .string pp.f.d, .int .i64 pp.fr, .int .i64 pp.tag, .bool pp.lp] 32) = wd := ⟨_, rfl⟩
          have hbd : Below w7.heap.size w7 wd := by rw [← ed]; exact (Below.refl _ w7).alloc (Nat.le_refl _) _
          have HYD : Hid (BoxP wd w7.heap.size pp) := Lib.hid (by rw [← ed]; exact BoxP.made w7 pp)
          have HED := Lib.hid (HE7.out.later HA.out.obj hbd)
          have HOD := Lib.hid ((hbd.block _ (heap_some_lt HO7.out)).trans HO7.out)
          have HPD := Lib.hid (HP7.out.later hbd)
          obtain ⟨d0, d1, d2, d3, d4, d5, d6⟩ := HPD.out.cells
          obtain ⟨x0, x1, x2, x3, x4, x5, x6⟩ := HYD.out.cells

          clear hbd
          go_upto_region 35 with fail
          clear ed
          have b0 := Lib.cell_of_heap HOD.out 0
          have b1 := Lib.cell_of_heap HOD.out 1
          have b2 := Lib.cell_of_heap HOD.out 2
          have b3 := Lib.cell_of_heap HOD.out 3
          have b4 := Lib.cell_of_heap HOD.out 4
          have b5 := Lib.cell_of_heap HOD.out 5
          have b6 := Lib.cell_of_heap HOD.out 6
          have b7 := Lib.cell_of_heap HOD.out 7
          have b8 := Lib.cell_of_heap HOD.out 8
          simp only [List.getElem?_toArray, List.getElem?_cons_zero, List.getElem?_cons_succ] at b0 b1 b2 b3 b4 b5 b6 b7 b8

          have HE5 := HED
          go_wp2_with fail
          clear d0 d1 d2 d3 d4 d5 d6 x0 x1 x2 x3 x4 x5 x6 b0 b1 b2 b3 b4 b5 b6 b7 b8
          refine (HA.out.len HE5.out.has.inv HS5.out).mono ?_
          rw [HL.out]
          rintro e w6 ⟨rfl, hb6⟩
          have HE6 := Lib.hid (HE5.out.later HA.out.obj hb6)
          clear hb6
          go_wp2
          go_roundw
          case rel => exact ⟨k + 1, s, O5, by have := HKL.out; omega, by go_num, by first | (rw [HL.out]; done) | (rw [HL.out]; go_num), HLN5.out, HS5, HE6⟩
          case measure => have := HKL.out; simp [intOf]; omega
      obtain ⟨m, rfl⟩ : ∃ m : Nat, ob = (m : Int) := ⟨ob.toNat, by omega⟩
      clear hob
      by_cases hmn : m < nn
      case neg =>
        have HIN : Hid (s.has (m : Int) = false) := Lib.hid (by unfold Ec.has; rw [decide_eq_false (by omega : ¬ (m : Int) < (s.F.length : Int))]; simp)
        have d2 : decide (m < nn) = false := decide_eq_false hmn
        clear hmn
        as_aux_lemma =>
          obtain ⟨pp, hpp⟩ : ∃ pp, pk0 = pp := ⟨_, rfl⟩
          have HPK : Hid (s.peek (m : Int) = (pp, false)) := Lib.hid (by unfold Ec.peek; rw [HIN.out, ← hpp]; rfl)
          have HGT : Hid (s.get (m : Int) = (s, pp, 2)) := Lib.hid (by unfold Ec.get; rw [HIN.out, ← hpp]; rfl)
          have HPP := Lib.hid hpp
          clear hpp

          have HS5 := HS
          have HL := HCC
          have HLN5 : Hid (s.F.length = nn) := Lib.hid hnn

          have zgh : gh < wa.heap.size := heap_some_lt HEA.out.held
          have zgf : gf < wa.heap.size := heap_some_lt HEA.out.full
          obtain ⟨wb, eb⟩ : ∃ wb, wa.alloc (.cells #[.int .i64 0, .int .i64 0, .int .i64 0, .string (ByteArray.mk #[]), .int .i64 0, .int .i64 0, .bool false] 32) = wb := ⟨_, rfl⟩
          have hbb : Below wa.heap.size wa wb := by rw [← eb]; exact (Below.refl _ wa).alloc (Nat.le_refl _) _
          have HPB : Hid (BoxP wb wa.heap.size pp) := Lib.hid (by rw [← eb, ← HPP.out]; exact BoxP.made wa pk0)
          have HEB := Lib.hid (HEA.out.later HA.out.obj hbb)
          have HOB := Lib.hid ((hbb.block _ zo).trans HOA.out)
          have HNP : Hid (¬ O1 wa.heap.size) := Lib.hid (fun h => absurd (HA.out.obj.lt HEA.out.has.inv _ h) (Nat.lt_irrefl _))
          clear hbb HIN

          go_upto_region 30 with fail

          clear eb zgh zgf b0 b1 b2 b3 b4 b5 b6 b7 b8 zo 
          have b0 := Lib.cell_of_heap HOB.out 0
          have b1 := Lib.cell_of_heap HOB.out 1
          have b2 := Lib.cell_of_heap HOB.out 2
          have b3 := Lib.cell_of_heap HOB.out 3
          have b4 := Lib.cell_of_heap HOB.out 4
          have b5 := Lib.cell_of_heap HOB.out 5
          have b6 := Lib.cell_of_heap HOB.out 6
          have b7 := Lib.cell_of_heap HOB.out 7
          have b8 := Lib.cell_of_heap HOB.out 8
          simp only [List.getElem?_toArray, List.getElem?_cons_zero, List.getElem?_cons_succ] at b0 b1 b2 b3 b4 b5 b6 b7 b8

          have zo : wr.heap.size < wb.heap.size := heap_some_lt HOB.out
          go_wp2_with fail
          refine (HA.out.peek m HEB.out.has.inv HS.out).mono ?_
          rw [HPK.out]
          rintro e w5 ⟨rfl, hb5⟩
          have HE5a := Lib.hid (HEB.out.later HA.out.obj hb5)
          have HO5 := Lib.hid ((hb5.block _ zo).trans HOB.out)
          have HP5 := Lib.hid (HPB.out.later hb5)
          clear hb5 b0 b1 b2 b3 b4 b5 b6 b7 b8 zo
          obtain ⟨wc, ec⟩ : ∃ wc, w5.alloc (.cells #[.int .i64 pp.f.i, .int .i64 pp.f.n, .int .i64 pp.f.l, .string pp.f.d, .int .i64 pp.fr, .int .i64 pp.tag, .bool pp.lp] 32) = wc := ⟨_, rfl⟩
          have hbc : Below w5.heap.size w5 wc := by rw [← ec]; exact (Below.refl _ w5).alloc (Nat.le_refl _) _
          have HXC : Hid (BoxP wc w5.heap.size pp) := Lib.hid (by rw [← ec]; exact BoxP.made w5 pp)
          have HEC := Lib.hid (HE5a.out.later HA.out.obj hbc)
          have HOC := Lib.hid ((hbc.block _ (heap_some_lt HO5.out)).trans HO5.out)
          have HPC := Lib.hid (HP5.out.later hbc)
          obtain ⟨d0, d1, d2, d3, d4, d5, d6⟩ := HPC.out.cells
          obtain ⟨x0, x1, x2, x3, x4, x5, x6⟩ := HXC.out.cells

          clear hbc
          go_upto_region 31 with fail
          clear ec
          have b0 := Lib.cell_of_heap HOC.out 0
          have b1 := Lib.cell_of_heap HOC.out 1
          have b2 := Lib.cell_of_heap HOC.out 2
          have b3 := Lib.cell_of_heap HOC.out 3
          have b4 := Lib.cell_of_heap HOC.out 4
          have b5 := Lib.cell_of_heap HOC.out 5
          have b6 := Lib.cell_of_heap HOC.out 6
          have b7 := Lib.cell_of_heap HOC.out 7
          have b8 := Lib.cell_of_heap HOC.out 8
          simp only [List.getElem?_toArray, List.getElem?_cons_zero, List.getElem?_cons_succ] at b0 b1 b2 b3 b4 b5 b6 b7 b8

          go_wp2_with fail
          refine (HA.out.get m HEC.out.has.inv HS.out).mono ?_
          rw [HGT.out]
          rintro e w7 ⟨rfl, O5, hi, hk5, hg⟩
          have HE7 := Lib.hid (HEC.out.step HA.out.obj hi hk5 hg)
          have HP7 := Lib.hid (HPC.out.kept hk5 HNP.out)
          have HO7 := Lib.hid ((hk5.block _ (heap_some_lt HOC.out) HNO.out.1).trans HOC.out)
          clear hi hk5 hg d0 d1 d2 d3 d4 d5 d6 x0 x1 x2 x3 x4 x5 x6 b0 b1 b2 b3 b4 b5 b6 b7 b8
          obtain ⟨wd, ed⟩ : ∃ wd, w7.alloc (.cells #[.int .i64 pp.f.i, .int .i64 pp.f.n, .int .i64 pp.f.l, .string pp.f.d, .int .i64 pp.fr, .int .i64 pp.tag, .bool pp.lp] 32) = wd := ⟨_, rfl⟩
          have hbd : Below w7.heap.size w7 wd := by rw [← ed]; exact (Below.refl _ w7).alloc (Nat.le_refl _) _
          have HYD : Hid (BoxP wd w7.heap.size pp) := Lib.hid (by rw [← ed]; exact BoxP.made w7 pp)
          have HED := Lib.hid (HE7.out.later HA.out.obj hbd)
          have HOD := Lib.hid ((hbd.block _ (heap_some_lt HO7.out)).trans HO7.out)
          have HPD := Lib.hid (HP7.out.later hbd)
          obtain ⟨d0, d1, d2, d3, d4, d5, d6⟩ := HPD.out.cells
          obtain ⟨x0, x1, x2, x3, x4, x5, x6⟩ := HYD.out.cells

          clear hbd
          go_upto_region 35 with fail
          clear ed
          have b0 := Lib.cell_of_heap HOD.out 0
          have b1 := Lib.cell_of_heap HOD.out 1
          have b2 := Lib.cell_of_heap HOD.out 2
          have b3 := Lib.cell_of_heap HOD.out 3
          have b4 := Lib.cell_of_heap HOD.out 4
          have b5 := Lib.cell_of_heap HOD.out 5
          have b6 := Lib.cell_of_heap HOD.out 6
          have b7 := Lib.cell_of_heap HOD.out 7
          have b8 := Lib.cell_of_heap HOD.out 8
          simp only [List.getElem?_toArray, List.getElem?_cons_zero, List.getElem?_cons_succ] at b0 b1 b2 b3 b4 b5 b6 b7 b8

          have HE5 := HED
          go_wp2_with fail
          clear d0 d1 d2 d3 d4 d5 d6 x0 x1 x2 x3 x4 x5 x6 b0 b1 b2 b3 b4 b5 b6 b7 b8
          refine (HA.out.len HE5.out.has.inv HS5.out).mono ?_
          rw [HL.out]
          rintro e w6 ⟨rfl, hb6⟩
          have HE6 := Lib.hid (HE5.out.later HA.out.obj hb6)
          clear hb6
          go_wp2
          go_roundw
          case rel => exact ⟨k + 1, s, O5, by have := HKL.out; omega, by go_num, by first | (rw [HL.out]; done) | (rw [HL.out]; go_num), HLN5.out, HS5, HE6⟩
          case measure => have := HKL.out; simp [intOf]; omega
      have HIN : Hid (s.has (m : Int) = true) := Lib.hid (by unfold Ec.has; rw [decide_eq_true (by omega : (m : Int) < (s.F.length : Int))]; simp)
      have d2 : decide (m < nn) = true := decide_eq_true hmn
      have d3 : (m : Int) < (nn : Int) := by omega
      obtain ⟨f1, fl1⟩ := HEA.out.cellF (i := m) (by rw [hnn]; exact hmn)
      cases hq : s.F.getD m false
      case true =>
        rw [hq] at f1
        have HAT : Hid (s.at_ (m : Int) = true) := Lib.hid hq
        clear hq
        as_aux_lemma =>
          obtain ⟨pp, hpp⟩ : ∃ pp, s.H.getD m pk0 = pp := ⟨_, rfl⟩
          have HPK : Hid (s.peek (m : Int) = (pp, true)) := Lib.hid (by unfold Ec.peek; rw [HIN.out, HAT.out, ← hpp]; rfl)
          have HGT : Hid (s.get (m : Int) = (⟨s.H, s.F.set m false⟩, pp, 0)) := Lib.hid (by unfold Ec.get; rw [HIN.out, HAT.out, ← hpp]; rfl)
          obtain ⟨cd, hcd⟩ : ∃ cd, cc = cd + 1 := by
            have c := cntF_set s.F m false (by rw [hnn]; exact hmn)
            have e : s.F.getD m false = true := HAT.out
            have e2 : (s.F.filter id).length = cc := HCC.out
            rw [e, e2] at c
            simp at c
            exact ⟨_, c.symm⟩
          have HL : Hid ((⟨s.H, s.F.set m false⟩ : Ec).len = cd) := Lib.hid (by
            have c := cntF_set s.F m false (by rw [hnn]; exact hmn)
            have e : s.F.getD m false = true := HAT.out
            have e2 : (s.F.filter id).length = cc := HCC.out
            rw [e, e2, hcd] at c
            simpa [Ec.len] using c)
          have HS5 : Hid ((⟨s.H, s.F.set m false⟩ : Ec).Ok) := Lib.hid (by have := HS.out.get (m : Int); rw [HGT.out] at this; exact this)
          have HLN5 : Hid ((⟨s.H, s.F.set m false⟩ : Ec).F.length = nn) := Lib.hid (by simpa using hnn)
          subst hcd
          have hmH : m < s.H.length := by rw [HS.out.len, hnn]; exact hmn
          obtain ⟨c0, c1, c2, c3, c4, c5, c6, cl⟩ := HEA.out.cellH hmH
          rw [hpp] at c0 c1 c2 c3 c4 c5 c6
          clear cl hmH hpp

          have zgh : gh < wa.heap.size := heap_some_lt HEA.out.held
          have zgf : gf < wa.heap.size := heap_some_lt HEA.out.full
          obtain ⟨wb, eb⟩ : ∃ wb, wa.alloc (.cells #[.int .i64 pp.f.i, .int .i64 pp.f.n, .int .i64 pp.f.l, .string pp.f.d, .int .i64 pp.fr, .int .i64 pp.tag, .bool pp.lp] 32) = wb := ⟨_, rfl⟩
          have hbb : Below wa.heap.size wa wb := by rw [← eb]; exact (Below.refl _ wa).alloc (Nat.le_refl _) _
          have HPB : Hid (BoxP wb wa.heap.size pp) := Lib.hid (by rw [← eb]; exact BoxP.made wa pp)
          have HEB := Lib.hid (HEA.out.later HA.out.obj hbb)
          have HOB := Lib.hid ((hbb.block _ zo).trans HOA.out)
          have HNP : Hid (¬ O1 wa.heap.size) := Lib.hid (fun h => absurd (HA.out.obj.lt HEA.out.has.inv _ h) (Nat.lt_irrefl _))
          clear hbb HIN HAT

          go_upto_region 30 with fail

          clear eb zgh zgf b0 b1 b2 b3 b4 b5 b6 b7 b8 zo c0 c1 c2 c3 c4 c5 c6 f1 fl1
          have b0 := Lib.cell_of_heap HOB.out 0
          have b1 := Lib.cell_of_heap HOB.out 1
          have b2 := Lib.cell_of_heap HOB.out 2
          have b3 := Lib.cell_of_heap HOB.out 3
          have b4 := Lib.cell_of_heap HOB.out 4
          have b5 := Lib.cell_of_heap HOB.out 5
          have b6 := Lib.cell_of_heap HOB.out 6
          have b7 := Lib.cell_of_heap HOB.out 7
          have b8 := Lib.cell_of_heap HOB.out 8
          simp only [List.getElem?_toArray, List.getElem?_cons_zero, List.getElem?_cons_succ] at b0 b1 b2 b3 b4 b5 b6 b7 b8

          have zo : wr.heap.size < wb.heap.size := heap_some_lt HOB.out
          go_wp2_with fail
          refine (HA.out.peek m HEB.out.has.inv HS.out).mono ?_
          rw [HPK.out]
          rintro e w5 ⟨rfl, hb5⟩
          have HE5a := Lib.hid (HEB.out.later HA.out.obj hb5)
          have HO5 := Lib.hid ((hb5.block _ zo).trans HOB.out)
          have HP5 := Lib.hid (HPB.out.later hb5)
          clear hb5 b0 b1 b2 b3 b4 b5 b6 b7 b8 zo
          obtain ⟨wc, ec⟩ : ∃ wc, w5.alloc (.cells #[.int .i64 pp.f.i, .int .i64 pp.f.n, .int .i64 pp.f.l, .string pp.f.d, .int .i64 pp.fr, .int .i64 pp.tag, .bool pp.lp] 32) = wc := ⟨_, rfl⟩
          have hbc : Below w5.heap.size w5 wc := by rw [← ec]; exact (Below.refl _ w5).alloc (Nat.le_refl _) _
          have HXC : Hid (BoxP wc w5.heap.size pp) := Lib.hid (by rw [← ec]; exact BoxP.made w5 pp)
          have HEC := Lib.hid (HE5a.out.later HA.out.obj hbc)
          have HOC := Lib.hid ((hbc.block _ (heap_some_lt HO5.out)).trans HO5.out)
          have HPC := Lib.hid (HP5.out.later hbc)
          obtain ⟨d0, d1, d2, d3, d4, d5, d6⟩ := HPC.out.cells
          obtain ⟨x0, x1, x2, x3, x4, x5, x6⟩ := HXC.out.cells

          clear hbc
          go_upto_region 31 with fail
          clear ec
          have b0 := Lib.cell_of_heap HOC.out 0
          have b1 := Lib.cell_of_heap HOC.out 1
          have b2 := Lib.cell_of_heap HOC.out 2
          have b3 := Lib.cell_of_heap HOC.out 3
          have b4 := Lib.cell_of_heap HOC.out 4
          have b5 := Lib.cell_of_heap HOC.out 5
          have b6 := Lib.cell_of_heap HOC.out 6
          have b7 := Lib.cell_of_heap HOC.out 7
          have b8 := Lib.cell_of_heap HOC.out 8
          simp only [List.getElem?_toArray, List.getElem?_cons_zero, List.getElem?_cons_succ] at b0 b1 b2 b3 b4 b5 b6 b7 b8

          go_wp2_with fail
          refine (HA.out.get m HEC.out.has.inv HS.out).mono ?_
          rw [HGT.out]
          rintro e w7 ⟨rfl, O5, hi, hk5, hg⟩
          have HE7 := Lib.hid (HEC.out.step HA.out.obj hi hk5 hg)
          have HP7 := Lib.hid (HPC.out.kept hk5 HNP.out)
          have HO7 := Lib.hid ((hk5.block _ (heap_some_lt HOC.out) HNO.out.1).trans HOC.out)
          clear hi hk5 hg d0 d1 d2 d3 d4 d5 d6 x0 x1 x2 x3 x4 x5 x6 b0 b1 b2 b3 b4 b5 b6 b7 b8
          obtain ⟨wd, ed⟩ : ∃ wd, w7.alloc (.cells #[.int .i64 pp.f.i, .int .i64 pp.f.n, .int .i64 pp.f.l, .string pp.f.d, .int .i64 pp.fr, .int .i64 pp.tag, .bool pp.lp] 32) = wd := ⟨_, rfl⟩
          have hbd : Below w7.heap.size w7 wd := by rw [← ed]; exact (Below.refl _ w7).alloc (Nat.le_refl _) _
          have HYD : Hid (BoxP wd w7.heap.size pp) := Lib.hid (by rw [← ed]; exact BoxP.made w7 pp)
          have HED := Lib.hid (HE7.out.later HA.out.obj hbd)
          have HOD := Lib.hid ((hbd.block _ (heap_some_lt HO7.out)).trans HO7.out)
          have HPD := Lib.hid (HP7.out.later hbd)
          obtain ⟨d0, d1, d2, d3, d4, d5, d6⟩ := HPD.out.cells
          obtain ⟨x0, x1, x2, x3, x4, x5, x6⟩ := HYD.out.cells

          clear hbd
          go_upto_region 35 with fail
          clear ed
          have b0 := Lib.cell_of_heap HOD.out 0
          have b1 := Lib.cell_of_heap HOD.out 1
          have b2 := Lib.cell_of_heap HOD.out 2
          have b3 := Lib.cell_of_heap HOD.out 3
          have b4 := Lib.cell_of_heap HOD.out 4
          have b5 := Lib.cell_of_heap HOD.out 5
          have b6 := Lib.cell_of_heap HOD.out 6
          have b7 := Lib.cell_of_heap HOD.out 7
          have b8 := Lib.cell_of_heap HOD.out 8
          simp only [List.getElem?_toArray, List.getElem?_cons_zero, List.getElem?_cons_succ] at b0 b1 b2 b3 b4 b5 b6 b7 b8

          obtain ⟨f2, fl2⟩ := HED.out.cellF (i := m) (by show m < s.F.length; rw [hnn]; exact hmn)
          have HWQ := Lib.hid (HED.out.setF HA.out.obj m false)
          obtain ⟨wq, eq⟩ : ∃ wq, wd.setCell ⟨gf, m, none⟩ (.bool false) = wq := ⟨_, rfl⟩
          rw [eq] at HWQ
          have HE5 := HWQ
          go_wp2_with fail
          clear eq f2 fl2 d0 d1 d2 d3 d4 d5 d6 x0 x1 x2 x3 x4 x5 x6 b0 b1 b2 b3 b4 b5 b6 b7 b8
          refine (HA.out.len HE5.out.has.inv HS5.out).mono ?_
          rw [HL.out]
          rintro e w6 ⟨rfl, hb6⟩
          have HE6 := Lib.hid (HE5.out.later HA.out.obj hb6)
          clear hb6
          go_wp2
          go_roundw
          case rel => exact ⟨k + 1, ⟨s.H, s.F.set m false⟩, O5, by have := HKL.out; omega, by go_num, by first | (rw [HL.out]; done) | (rw [HL.out]; go_num), HLN5.out, HS5, HE6⟩
          case measure => have := HKL.out; simp [intOf]; omega
      rw [hq] at f1
      have HAT : Hid (s.at_ (m : Int) = false) := Lib.hid hq
      clear hq
      as_aux_lemma =>
        obtain ⟨pp, hpp⟩ : ∃ pp, pk0 = pp := ⟨_, rfl⟩
        have HPK : Hid (s.peek (m : Int) = (pp, false)) := Lib.hid (by unfold Ec.peek; rw [HIN.out, HAT.out, ← hpp]; rfl)
        have HGT : Hid (s.get (m : Int) = (s, pp, 6)) := Lib.hid (by unfold Ec.get; rw [HIN.out, HAT.out, ← hpp]; rfl)
        have HPP := Lib.hid hpp
        clear hpp
        have HATE : Hid (s.F.getD m false = false) := Lib.hid HAT.out
        have HS5 := HS
        have HL := HCC
        have HLN5 : Hid (s.F.length = nn) := Lib.hid hnn

        have zgh : gh < wa.heap.size := heap_some_lt HEA.out.held
        have zgf : gf < wa.heap.size := heap_some_lt HEA.out.full
        obtain ⟨wb, eb⟩ : ∃ wb, wa.alloc (.cells #[.int .i64 0, .int .i64 0, .int .i64 0, .string (ByteArray.mk #[]), .int .i64 0, .int .i64 0, .bool false] 32) = wb := ⟨_, rfl⟩
        have hbb : Below wa.heap.size wa wb := by rw [← eb]; exact (Below.refl _ wa).alloc (Nat.le_refl _) _
        have HPB : Hid (BoxP wb wa.heap.size pp) := Lib.hid (by rw [← eb, ← HPP.out]; exact BoxP.made wa pk0)
        have HEB := Lib.hid (HEA.out.later HA.out.obj hbb)
        have HOB := Lib.hid ((hbb.block _ zo).trans HOA.out)
        have HNP : Hid (¬ O1 wa.heap.size) := Lib.hid (fun h => absurd (HA.out.obj.lt HEA.out.has.inv _ h) (Nat.lt_irrefl _))
        clear hbb HIN HAT
        have o0 := Lib.cell_of_heap HOB.out 0
        have o1 := Lib.cell_of_heap HOB.out 1
        have o2 := Lib.cell_of_heap HOB.out 2
        have o3 := Lib.cell_of_heap HOB.out 3
        have o4 := Lib.cell_of_heap HOB.out 4
        have o5 := Lib.cell_of_heap HOB.out 5
        have o6 := Lib.cell_of_heap HOB.out 6
        have o7 := Lib.cell_of_heap HOB.out 7
        have o8 := Lib.cell_of_heap HOB.out 8
        simp only [List.getElem?_toArray, List.getElem?_cons_zero, List.getElem?_cons_succ] at o0 o1 o2 o3 o4 o5 o6 o7 o8
        obtain ⟨f3, fl3⟩ := HEB.out.cellF (i := m) (by rw [hnn]; exact hmn)
        rw [show s.F.getD m false = false from HATE.out] at f3

        go_upto_region 30 with fail
        clear o0 o1 o2 o3 o4 o5 o6 o7 o8 f3 fl3
        clear eb zgh zgf b0 b1 b2 b3 b4 b5 b6 b7 b8 zo f1 fl1
        have b0 := Lib.cell_of_heap HOB.out 0
        have b1 := Lib.cell_of_heap HOB.out 1
        have b2 := Lib.cell_of_heap HOB.out 2
        have b3 := Lib.cell_of_heap HOB.out 3
        have b4 := Lib.cell_of_heap HOB.out 4
        have b5 := Lib.cell_of_heap HOB.out 5
        have b6 := Lib.cell_of_heap HOB.out 6
        have b7 := Lib.cell_of_heap HOB.out 7
        have b8 := Lib.cell_of_heap HOB.out 8
        simp only [List.getElem?_toArray, List.getElem?_cons_zero, List.getElem?_cons_succ] at b0 b1 b2 b3 b4 b5 b6 b7 b8

        have zo : wr.heap.size < wb.heap.size := heap_some_lt HOB.out
        go_wp2_with fail
        refine (HA.out.peek m HEB.out.has.inv HS.out).mono ?_
        rw [HPK.out]
        rintro e w5 ⟨rfl, hb5⟩
        have HE5a := Lib.hid (HEB.out.later HA.out.obj hb5)
        have HO5 := Lib.hid ((hb5.block _ zo).trans HOB.out)
        have HP5 := Lib.hid (HPB.out.later hb5)
        clear hb5 b0 b1 b2 b3 b4 b5 b6 b7 b8 zo
        obtain ⟨wc, ec⟩ : ∃ wc, w5.alloc (.cells #[.int .i64 pp.f.i, .int .i64 pp.f.n, .int .i64 pp.f.l, .string pp.f.d, .int .i64 pp.fr, .int .i64 pp.tag, .bool pp.lp] 32) = wc := ⟨_, rfl⟩
        have hbc : Below w5.heap.size w5 wc := by rw [← ec]; exact (Below.refl _ w5).alloc (Nat.le_refl _) _
        have HXC : Hid (BoxP wc w5.heap.size pp) := Lib.hid (by rw [← ec]; exact BoxP.made w5 pp)
        have HEC := Lib.hid (HE5a.out.later HA.out.obj hbc)
        have HOC := Lib.hid ((hbc.block _ (heap_some_lt HO5.out)).trans HO5.out)
        have HPC := Lib.hid (HP5.out.later hbc)
        obtain ⟨d0, d1, d2, d3, d4, d5, d6⟩ := HPC.out.cells
        obtain ⟨x0, x1, x2, x3, x4, x5, x6⟩ := HXC.out.cells

        clear hbc
        go_upto_region 31 with fail
        clear ec
        have b0 := Lib.cell_of_heap HOC.out 0
        have b1 := Lib.cell_of_heap HOC.out 1
        have b2 := Lib.cell_of_heap HOC.out 2
        have b3 := Lib.cell_of_heap HOC.out 3
        have b4 := Lib.cell_of_heap HOC.out 4
        have b5 := Lib.cell_of_heap HOC.out 5
        have b6 := Lib.cell_of_heap HOC.out 6
        have b7 := Lib.cell_of_heap HOC.out 7
        have b8 := Lib.cell_of_heap HOC.out 8
        simp only [List.getElem?_toArray, List.getElem?_cons_zero, List.getElem?_cons_succ] at b0 b1 b2 b3 b4 b5 b6 b7 b8

        go_wp2_with fail
        refine (HA.out.get m HEC.out.has.inv HS.out).mono ?_
        rw [HGT.out]
        rintro e w7 ⟨rfl, O5, hi, hk5, hg⟩
        have HE7 := Lib.hid (HEC.out.step HA.out.obj hi hk5 hg)
        have HP7 := Lib.hid (HPC.out.kept hk5 HNP.out)
        have HO7 := Lib.hid ((hk5.block _ (heap_some_lt HOC.out) HNO.out.1).trans HOC.out)
        clear hi hk5 hg d0 d1 d2 d3 d4 d5 d6 x0 x1 x2 x3 x4 x5 x6 b0 b1 b2 b3 b4 b5 b6 b7 b8
        obtain ⟨wd, ed⟩ : ∃ wd, w7.alloc (.cells #[.int .i64 pp.f.i, .int .i64 pp.f.n, .int .i64 pp.f.l, .string pp.f.d, .int .i64 pp.fr, .int .i64 pp.tag, .bool pp.lp] 32) = wd := ⟨_, rfl⟩
        have hbd : Below w7.heap.size w7 wd := by rw [← ed]; exact (Below.refl _ w7).alloc (Nat.le_refl _) _
        have HYD : Hid (BoxP wd w7.heap.size pp) := Lib.hid (by rw [← ed]; exact BoxP.made w7 pp)
        have HED := Lib.hid (HE7.out.later HA.out.obj hbd)
        have HOD := Lib.hid ((hbd.block _ (heap_some_lt HO7.out)).trans HO7.out)
        have HPD := Lib.hid (HP7.out.later hbd)
        obtain ⟨d0, d1, d2, d3, d4, d5, d6⟩ := HPD.out.cells
        obtain ⟨x0, x1, x2, x3, x4, x5, x6⟩ := HYD.out.cells

        clear hbd
        go_upto_region 35 with fail
        clear ed
        have b0 := Lib.cell_of_heap HOD.out 0
        have b1 := Lib.cell_of_heap HOD.out 1
        have b2 := Lib.cell_of_heap HOD.out 2
        have b3 := Lib.cell_of_heap HOD.out 3
        have b4 := Lib.cell_of_heap HOD.out 4
        have b5 := Lib.cell_of_heap HOD.out 5
        have b6 := Lib.cell_of_heap HOD.out 6
        have b7 := Lib.cell_of_heap HOD.out 7
        have b8 := Lib.cell_of_heap HOD.out 8
        simp only [List.getElem?_toArray, List.getElem?_cons_zero, List.getElem?_cons_succ] at b0 b1 b2 b3 b4 b5 b6 b7 b8

        have HE5 := HED
        go_wp2_with fail
        clear d0 d1 d2 d3 d4 d5 d6 x0 x1 x2 x3 x4 x5 x6 b0 b1 b2 b3 b4 b5 b6 b7 b8
        refine (HA.out.len HE5.out.has.inv HS5.out).mono ?_
        rw [HL.out]
        rintro e w6 ⟨rfl, hb6⟩
        have HE6 := Lib.hid (HE5.out.later HA.out.obj hb6)
        clear hb6
        go_wp2
        go_roundw
        case rel => exact ⟨k + 1, s, O5, by have := HKL.out; omega, by go_num, by first | (rw [HL.out]; done) | (rw [HL.out]; go_num), HLN5.out, HS5, HE6⟩
        case measure => have := HKL.out; simp [intOf]; omega
    by_cases hk2 : ok = 2
    · subst hk2
      by_cases hob : 0 ≤ ob
      case neg =>
        have HIN : Hid (s.has ob = false) := Lib.hid (by unfold Ec.has; rw [decide_eq_false hob]; rfl)
        have d1 : decide (0 ≤ ob) = false := decide_eq_false hob
        clear hob
        as_aux_lemma =>
          obtain ⟨pp, hpp⟩ : ∃ pp, pk0 = pp := ⟨_, rfl⟩
          have HPK : Hid (s.peek ob = (pp, false)) := Lib.hid (by unfold Ec.peek; rw [HIN.out, ← hpp]; rfl)
          have HGT : Hid (s.get ob = (s, pp, 2)) := Lib.hid (by unfold Ec.get; rw [HIN.out, ← hpp]; rfl)
          have HPP := Lib.hid hpp
          clear hpp

          have HS5 := HS
          have HL := HCC
          have HLN5 : Hid (s.F.length = nn) := Lib.hid hnn

          have zgh : gh < wa.heap.size := heap_some_lt HEA.out.held
          have zgf : gf < wa.heap.size := heap_some_lt HEA.out.full
          obtain ⟨wb, eb⟩ : ∃ wb, wa.alloc (.cells #[.int .i64 0, .int .i64 0, .int .i64 0, .string (ByteArray.mk #[]), .int .i64 0, .int .i64 0, .bool false] 32) = wb := ⟨_, rfl⟩
          have hbb : Below wa.heap.size wa wb := by rw [← eb]; exact (Below.refl _ wa).alloc (Nat.le_refl _) _
          have HPB : Hid (BoxP wb wa.heap.size pp) := Lib.hid (by rw [← eb, ← HPP.out]; exact BoxP.made wa pk0)
          have HEB := Lib.hid (HEA.out.later HA.out.obj hbb)
          have HOB := Lib.hid ((hbb.block _ zo).trans HOA.out)
          have HNP : Hid (¬ O1 wa.heap.size) := Lib.hid (fun h => absurd (HA.out.obj.lt HEA.out.has.inv _ h) (Nat.lt_irrefl _))
          clear hbb HIN

          go_upto_region 30 with fail

          clear eb zgh zgf b0 b1 b2 b3 b4 b5 b6 b7 b8 zo 
          have b0 := Lib.cell_of_heap HOB.out 0
          have b1 := Lib.cell_of_heap HOB.out 1
          have b2 := Lib.cell_of_heap HOB.out 2
          have b3 := Lib.cell_of_heap HOB.out 3
          have b4 := Lib.cell_of_heap HOB.out 4
          have b5 := Lib.cell_of_heap HOB.out 5
          have b6 := Lib.cell_of_heap HOB.out 6
          have b7 := Lib.cell_of_heap HOB.out 7
          have b8 := Lib.cell_of_heap HOB.out 8
          simp only [List.getElem?_toArray, List.getElem?_cons_zero, List.getElem?_cons_succ] at b0 b1 b2 b3 b4 b5 b6 b7 b8

          have zo : wr.heap.size < wb.heap.size := heap_some_lt HOB.out
          go_wp2_with fail
          refine (HA.out.peek ob HEB.out.has.inv HS.out).mono ?_
          rw [HPK.out]
          rintro e w5 ⟨rfl, hb5⟩
          have HE5a := Lib.hid (HEB.out.later HA.out.obj hb5)
          have HO5 := Lib.hid ((hb5.block _ zo).trans HOB.out)
          have HP5 := Lib.hid (HPB.out.later hb5)
          clear hb5 b0 b1 b2 b3 b4 b5 b6 b7 b8 zo
          obtain ⟨wc, ec⟩ : ∃ wc, w5.alloc (.cells #[.int .i64 pp.f.i, .int .i64 pp.f.n, .int .i64 pp.f.l, .string pp.f.d, .int .i64 pp.fr, .int .i64 pp.tag, .bool pp.lp] 32) = wc := ⟨_, rfl⟩
          have hbc : Below w5.heap.size w5 wc := by rw [← ec]; exact (Below.refl _ w5).alloc (Nat.le_refl _) _
          have HXC : Hid (BoxP wc w5.heap.size pp) := Lib.hid (by rw [← ec]; exact BoxP.made w5 pp)
          have HEC := Lib.hid (HE5a.out.later HA.out.obj hbc)
          have HOC := Lib.hid ((hbc.block _ (heap_some_lt HO5.out)).trans HO5.out)
          have HPC := Lib.hid (HP5.out.later hbc)
          obtain ⟨d0, d1, d2, d3, d4, d5, d6⟩ := HPC.out.cells
          obtain ⟨x0, x1, x2, x3, x4, x5, x6⟩ := HXC.out.cells

          clear hbc
          go_upto_region 31 with fail
          clear ec
          have b0 := Lib.cell_of_heap HOC.out 0
          have b1 := Lib.cell_of_heap HOC.out 1
          have b2 := Lib.cell_of_heap HOC.out 2
          have b3 := Lib.cell_of_heap HOC.out 3
          have b4 := Lib.cell_of_heap HOC.out 4
          have b5 := Lib.cell_of_heap HOC.out 5
          have b6 := Lib.cell_of_heap HOC.out 6
          have b7 := Lib.cell_of_heap HOC.out 7
          have b8 := Lib.cell_of_heap HOC.out 8
          simp only [List.getElem?_toArray, List.getElem?_cons_zero, List.getElem?_cons_succ] at b0 b1 b2 b3 b4 b5 b6 b7 b8

          go_wp2
          go_roundw
          case rel => exact ⟨k + 1, s, O1, by have := HKL.out; omega, by go_num, by first | (rw [HCC.out]; done) | (rw [HCC.out]; go_num), hnn, HS, HEC⟩
          case measure => have := HKL.out; simp [intOf]; omega
      obtain ⟨m, rfl⟩ : ∃ m : Nat, ob = (m : Int) := ⟨ob.toNat, by omega⟩
      clear hob
      by_cases hmn : m < nn
      case neg =>
        have HIN : Hid (s.has (m : Int) = false) := Lib.hid (by unfold Ec.has; rw [decide_eq_false (by omega : ¬ (m : Int) < (s.F.length : Int))]; simp)
        have d2 : decide (m < nn) = false := decide_eq_false hmn
        clear hmn
        as_aux_lemma =>
          obtain ⟨pp, hpp⟩ : ∃ pp, pk0 = pp := ⟨_, rfl⟩
          have HPK : Hid (s.peek (m : Int) = (pp, false)) := Lib.hid (by unfold Ec.peek; rw [HIN.out, ← hpp]; rfl)
          have HGT : Hid (s.get (m : Int) = (s, pp, 2)) := Lib.hid (by unfold Ec.get; rw [HIN.out, ← hpp]; rfl)
          have HPP := Lib.hid hpp
          clear hpp

          have HS5 := HS
          have HL := HCC
          have HLN5 : Hid (s.F.length = nn) := Lib.hid hnn

          have zgh : gh < wa.heap.size := heap_some_lt HEA.out.held
          have zgf : gf < wa.heap.size := heap_some_lt HEA.out.full
          obtain ⟨wb, eb⟩ : ∃ wb, wa.alloc (.cells #[.int .i64 0, .int .i64 0, .int .i64 0, .string (ByteArray.mk #[]), .int .i64 0, .int .i64 0, .bool false] 32) = wb := ⟨_, rfl⟩
          have hbb : Below wa.heap.size wa wb := by rw [← eb]; exact (Below.refl _ wa).alloc (Nat.le_refl _) _
          have HPB : Hid (BoxP wb wa.heap.size pp) := Lib.hid (by rw [← eb, ← HPP.out]; exact BoxP.made wa pk0)
          have HEB := Lib.hid (HEA.out.later HA.out.obj hbb)
          have HOB := Lib.hid ((hbb.block _ zo).trans HOA.out)
          have HNP : Hid (¬ O1 wa.heap.size) := Lib.hid (fun h => absurd (HA.out.obj.lt HEA.out.has.inv _ h) (Nat.lt_irrefl _))
          clear hbb HIN

          go_upto_region 30 with fail

          clear eb zgh zgf b0 b1 b2 b3 b4 b5 b6 b7 b8 zo 
          have b0 := Lib.cell_of_heap HOB.out 0
          have b1 := Lib.cell_of_heap HOB.out 1
          have b2 := Lib.cell_of_heap HOB.out 2
          have b3 := Lib.cell_of_heap HOB.out 3
          have b4 := Lib.cell_of_heap HOB.out 4
          have b5 := Lib.cell_of_heap HOB.out 5
          have b6 := Lib.cell_of_heap HOB.out 6
          have b7 := Lib.cell_of_heap HOB.out 7
          have b8 := Lib.cell_of_heap HOB.out 8
          simp only [List.getElem?_toArray, List.getElem?_cons_zero, List.getElem?_cons_succ] at b0 b1 b2 b3 b4 b5 b6 b7 b8

          have zo : wr.heap.size < wb.heap.size := heap_some_lt HOB.out
          go_wp2_with fail
          refine (HA.out.peek m HEB.out.has.inv HS.out).mono ?_
          rw [HPK.out]
          rintro e w5 ⟨rfl, hb5⟩
          have HE5a := Lib.hid (HEB.out.later HA.out.obj hb5)
          have HO5 := Lib.hid ((hb5.block _ zo).trans HOB.out)
          have HP5 := Lib.hid (HPB.out.later hb5)
          clear hb5 b0 b1 b2 b3 b4 b5 b6 b7 b8 zo
          obtain ⟨wc, ec⟩ : ∃ wc, w5.alloc (.cells #[.int .i64 pp.f.i, .int .i64 pp.f.n, .int .i64 pp.f.l, .string pp.f.d, .int .i64 pp.fr, .int .i64 pp.tag, .bool pp.lp] 32) = wc := ⟨_, rfl⟩
          have hbc : Below w5.heap.size w5 wc := by rw [← ec]; exact (Below.refl _ w5).alloc (Nat.le_refl _) _
          have HXC : Hid (BoxP wc w5.heap.size pp) := Lib.hid (by rw [← ec]; exact BoxP.made w5 pp)
          have HEC := Lib.hid (HE5a.out.later HA.out.obj hbc)
          have HOC := Lib.hid ((hbc.block _ (heap_some_lt HO5.out)).trans HO5.out)
          have HPC := Lib.hid (HP5.out.later hbc)
          obtain ⟨d0, d1, d2, d3, d4, d5, d6⟩ := HPC.out.cells
          obtain ⟨x0, x1, x2, x3, x4, x5, x6⟩ := HXC.out.cells

          clear hbc
          go_upto_region 31 with fail
          clear ec
          have b0 := Lib.cell_of_heap HOC.out 0
          have b1 := Lib.cell_of_heap HOC.out 1
          have b2 := Lib.cell_of_heap HOC.out 2
          have b3 := Lib.cell_of_heap HOC.out 3
          have b4 := Lib.cell_of_heap HOC.out 4
          have b5 := Lib.cell_of_heap HOC.out 5
          have b6 := Lib.cell_of_heap HOC.out 6
          have b7 := Lib.cell_of_heap HOC.out 7
          have b8 := Lib.cell_of_heap HOC.out 8
          simp only [List.getElem?_toArray, List.getElem?_cons_zero, List.getElem?_cons_succ] at b0 b1 b2 b3 b4 b5 b6 b7 b8

          go_wp2
          go_roundw
          case rel => exact ⟨k + 1, s, O1, by have := HKL.out; omega, by go_num, by first | (rw [HCC.out]; done) | (rw [HCC.out]; go_num), hnn, HS, HEC⟩
          case measure => have := HKL.out; simp [intOf]; omega
      have HIN : Hid (s.has (m : Int) = true) := Lib.hid (by unfold Ec.has; rw [decide_eq_true (by omega : (m : Int) < (s.F.length : Int))]; simp)
      have d2 : decide (m < nn) = true := decide_eq_true hmn
      have d3 : (m : Int) < (nn : Int) := by omega
      obtain ⟨f1, fl1⟩ := HEA.out.cellF (i := m) (by rw [hnn]; exact hmn)
      cases hq : s.F.getD m false
      case true =>
        rw [hq] at f1
        have HAT : Hid (s.at_ (m : Int) = true) := Lib.hid hq
        clear hq
        as_aux_lemma =>
          obtain ⟨pp, hpp⟩ : ∃ pp, s.H.getD m pk0 = pp := ⟨_, rfl⟩
          have HPK : Hid (s.peek (m : Int) = (pp, true)) := Lib.hid (by unfold Ec.peek; rw [HIN.out, HAT.out, ← hpp]; rfl)
          have HGT : Hid (s.get (m : Int) = (⟨s.H, s.F.set m false⟩, pp, 0)) := Lib.hid (by unfold Ec.get; rw [HIN.out, HAT.out, ← hpp]; rfl)
          obtain ⟨cd, hcd⟩ : ∃ cd, cc = cd + 1 := by
            have c := cntF_set s.F m false (by rw [hnn]; exact hmn)
            have e : s.F.getD m false = true := HAT.out
            have e2 : (s.F.filter id).length = cc := HCC.out
            rw [e, e2] at c
            simp at c
            exact ⟨_, c.symm⟩
          have HL : Hid ((⟨s.H, s.F.set m false⟩ : Ec).len = cd) := Lib.hid (by
            have c := cntF_set s.F m false (by rw [hnn]; exact hmn)
            have e : s.F.getD m false = true := HAT.out
            have e2 : (s.F.filter id).length = cc := HCC.out
            rw [e, e2, hcd] at c
            simpa [Ec.len] using c)
          have HS5 : Hid ((⟨s.H, s.F.set m false⟩ : Ec).Ok) := Lib.hid (by have := HS.out.get (m : Int); rw [HGT.out] at this; exact this)
          have HLN5 : Hid ((⟨s.H, s.F.set m false⟩ : Ec).F.length = nn) := Lib.hid (by simpa using hnn)
          subst hcd
          have hmH : m < s.H.length := by rw [HS.out.len, hnn]; exact hmn
          obtain ⟨c0, c1, c2, c3, c4, c5, c6, cl⟩ := HEA.out.cellH hmH
          rw [hpp] at c0 c1 c2 c3 c4 c5 c6
          clear cl hmH hpp

          have zgh : gh < wa.heap.size := heap_some_lt HEA.out.held
          have zgf : gf < wa.heap.size := heap_some_lt HEA.out.full
          obtain ⟨wb, eb⟩ : ∃ wb, wa.alloc (.cells #[.int .i64 pp.f.i, .int .i64 pp.f.n, .int .i64 pp.f.l, .string pp.f.d, .int .i64 pp.fr, .int .i64 pp.tag, .bool pp.lp] 32) = wb := ⟨_, rfl⟩
          have hbb : Below wa.heap.size wa wb := by rw [← eb]; exact (Below.refl _ wa).alloc (Nat.le_refl _) _
          have HPB : Hid (BoxP wb wa.heap.size pp) := Lib.hid (by rw [← eb]; exact BoxP.made wa pp)
          have HEB := Lib.hid (HEA.out.later HA.out.obj hbb)
          have HOB := Lib.hid ((hbb.block _ zo).trans HOA.out)
          have HNP : Hid (¬ O1 wa.heap.size) := Lib.hid (fun h => absurd (HA.out.obj.lt HEA.out.has.inv _ h) (Nat.lt_irrefl _))
          clear hbb HIN HAT

          go_upto_region 30 with fail

          clear eb zgh zgf b0 b1 b2 b3 b4 b5 b6 b7 b8 zo c0 c1 c2 c3 c4 c5 c6 f1 fl1
          have b0 := Lib.cell_of_heap HOB.out 0
          have b1 := Lib.cell_of_heap HOB.out 1
          have b2 := Lib.cell_of_heap HOB.out 2
          have b3 := Lib.cell_of_heap HOB.out 3
          have b4 := Lib.cell_of_heap HOB.out 4
          have b5 := Lib.cell_of_heap HOB.out 5
          have b6 := Lib.cell_of_heap HOB.out 6
          have b7 := Lib.cell_of_heap HOB.out 7
          have b8 := Lib.cell_of_heap HOB.out 8
          simp only [List.getElem?_toArray, List.getElem?_cons_zero, List.getElem?_cons_succ] at b0 b1 b2 b3 b4 b5 b6 b7 b8

          have zo : wr.heap.size < wb.heap.size := heap_some_lt HOB.out
          go_wp2_with fail
          refine (HA.out.peek m HEB.out.has.inv HS.out).mono ?_
          rw [HPK.out]
          rintro e w5 ⟨rfl, hb5⟩
          have HE5a := Lib.hid (HEB.out.later HA.out.obj hb5)
          have HO5 := Lib.hid ((hb5.block _ zo).trans HOB.out)
          have HP5 := Lib.hid (HPB.out.later hb5)
          clear hb5 b0 b1 b2 b3 b4 b5 b6 b7 b8 zo
          obtain ⟨wc, ec⟩ : ∃ wc, w5.alloc (.cells #[.int .i64 pp.f.i, .int .i64 pp.f.n, .int .i64 pp.f.l, .string pp.f.d, .int .i64 pp.fr, .int .i64 pp.tag, .bool pp.lp] 32) = wc := ⟨_, rfl⟩
          have hbc : Below w5.heap.size w5 wc := by rw [← ec]; exact (Below.refl _ w5).alloc (Nat.le_refl _) _
          have HXC : Hid (BoxP wc w5.heap.size pp) := Lib.hid (by rw [← ec]; exact BoxP.made w5 pp)
          have HEC := Lib.hid (HE5a.out.later HA.out.obj hbc)
          have HOC := Lib.hid ((hbc.block _ (heap_some_lt HO5.out)).trans HO5.out)
          have HPC := Lib.hid (HP5.out.later hbc)
          obtain ⟨d0, d1, d2, d3, d4, d5, d6⟩ := HPC.out.cells
          obtain ⟨x0, x1, x2, x3, x4, x5, x6⟩ := HXC.out.cells

          clear hbc
          go_upto_region 31 with fail
          clear ec
          have b0 := Lib.cell_of_heap HOC.out 0
          have b1 := Lib.cell_of_heap HOC.out 1
          have b2 := Lib.cell_of_heap HOC.out 2
          have b3 := Lib.cell_of_heap HOC.out 3
          have b4 := Lib.cell_of_heap HOC.out 4
          have b5 := Lib.cell_of_heap HOC.out 5
          have b6 := Lib.cell_of_heap HOC.out 6
          have b7 := Lib.cell_of_heap HOC.out 7
          have b8 := Lib.cell_of_heap HOC.out 8
          simp only [List.getElem?_toArray, List.getElem?_cons_zero, List.getElem?_cons_succ] at b0 b1 b2 b3 b4 b5 b6 b7 b8

          go_wp2
          go_roundw
          case rel => exact ⟨k + 1, s, O1, by have := HKL.out; omega, by go_num, by first | (rw [HCC.out]; done) | (rw [HCC.out]; go_num), hnn, HS, HEC⟩
          case measure => have := HKL.out; simp [intOf]; omega
      rw [hq] at f1
      have HAT : Hid (s.at_ (m : Int) = false) := Lib.hid hq
      clear hq
      as_aux_lemma =>
        obtain ⟨pp, hpp⟩ : ∃ pp, pk0 = pp := ⟨_, rfl⟩
        have HPK : Hid (s.peek (m : Int) = (pp, false)) := Lib.hid (by unfold Ec.peek; rw [HIN.out, HAT.out, ← hpp]; rfl)
        have HGT : Hid (s.get (m : Int) = (s, pp, 6)) := Lib.hid (by unfold Ec.get; rw [HIN.out, HAT.out, ← hpp]; rfl)
        have HPP := Lib.hid hpp
        clear hpp
        have HATE : Hid (s.F.getD m false = false) := Lib.hid HAT.out
        have HS5 := HS
        have HL := HCC
        have HLN5 : Hid (s.F.length = nn) := Lib.hid hnn

        have zgh : gh < wa.heap.size := heap_some_lt HEA.out.held
        have zgf : gf < wa.heap.size := heap_some_lt HEA.out.full
        obtain ⟨wb, eb⟩ : ∃ wb, wa.alloc (.cells #[.int .i64 0, .int .i64 0, .int .i64 0, .string (ByteArray.mk #[]), .int .i64 0, .int .i64 0, .bool false] 32) = wb := ⟨_, rfl⟩
        have hbb : Below wa.heap.size wa wb := by rw [← eb]; exact (Below.refl _ wa).alloc (Nat.le_refl _) _
        have HPB : Hid (BoxP wb wa.heap.size pp) := Lib.hid (by rw [← eb, ← HPP.out]; exact BoxP.made wa pk0)
        have HEB := Lib.hid (HEA.out.later HA.out.obj hbb)
        have HOB := Lib.hid ((hbb.block _ zo).trans HOA.out)
        have HNP : Hid (¬ O1 wa.heap.size) := Lib.hid (fun h => absurd (HA.out.obj.lt HEA.out.has.inv _ h) (Nat.lt_irrefl _))
        clear hbb HIN HAT
        have o0 := Lib.cell_of_heap HOB.out 0
        have o1 := Lib.cell_of_heap HOB.out 1
        have o2 := Lib.cell_of_heap HOB.out 2
        have o3 := Lib.cell_of_heap HOB.out 3
        have o4 := Lib.cell_of_heap HOB.out 4
        have o5 := Lib.cell_of_heap HOB.out 5
        have o6 := Lib.cell_of_heap HOB.out 6
        have o7 := Lib.cell_of_heap HOB.out 7
        have o8 := Lib.cell_of_heap HOB.out 8
        simp only [List.getElem?_toArray, List.getElem?_cons_zero, List.getElem?_cons_succ] at o0 o1 o2 o3 o4 o5 o6 o7 o8
        obtain ⟨f3, fl3⟩ := HEB.out.cellF (i := m) (by rw [hnn]; exact hmn)
        rw [show s.F.getD m false = false from HATE.out] at f3

        go_upto_region 30 with fail
        clear o0 o1 o2 o3 o4 o5 o6 o7 o8 f3 fl3
        clear eb zgh zgf b0 b1 b2 b3 b4 b5 b6 b7 b8 zo f1 fl1
        have b0 := Lib.cell_of_heap HOB.out 0
        have b1 := Lib.cell_of_heap HOB.out 1
        have b2 := Lib.cell_of_heap HOB.out 2
        have b3 := Lib.cell_of_heap HOB.out 3
        have b4 := Lib.cell_of_heap HOB.out 4
        have b5 := Lib.cell_of_heap HOB.out 5
        have b6 := Lib.cell_of_heap HOB.out 6
        have b7 := Lib.cell_of_heap HOB.out 7
        have b8 := Lib.cell_of_heap HOB.out 8
        simp only [List.getElem?_toArray, List.getElem?_cons_zero, List.getElem?_cons_succ] at b0 b1 b2 b3 b4 b5 b6 b7 b8

        have zo : wr.heap.size < wb.heap.size := heap_some_lt HOB.out
        go_wp2_with fail
        refine (HA.out.peek m HEB.out.has.inv HS.out).mono ?_
        rw [HPK.out]
        rintro e w5 ⟨rfl, hb5⟩
        have HE5a := Lib.hid (HEB.out.later HA.out.obj hb5)
        have HO5 := Lib.hid ((hb5.block _ zo).trans HOB.out)
        have HP5 := Lib.hid (HPB.out.later hb5)
        clear hb5 b0 b1 b2 b3 b4 b5 b6 b7 b8 zo
        obtain ⟨wc, ec⟩ : ∃ wc, w5.alloc (.cells #[.int .i64 pp.f.i, .int .i64 pp.f.n, .int .i64 pp.f.l, .string pp.f.d, .int .i64 pp.fr, .int .i64 pp.tag, .bool pp.lp] 32) = wc := ⟨_, rfl⟩
        have hbc : Below w5.heap.size w5 wc := by rw [← ec]; exact (Below.refl _ w5).alloc (Nat.le_refl _) _
        have HXC : Hid (BoxP wc w5.heap.size pp) := Lib.hid (by rw [← ec]; exact BoxP.made w5 pp)
        have HEC := Lib.hid (HE5a.out.later HA.out.obj hbc)
        have HOC := Lib.hid ((hbc.block _ (heap_some_lt HO5.out)).trans HO5.out)
        have HPC := Lib.hid (HP5.out.later hbc)
        obtain ⟨d0, d1, d2, d3, d4, d5, d6⟩ := HPC.out.cells
        obtain ⟨x0, x1, x2, x3, x4, x5, x6⟩ := HXC.out.cells

        clear hbc
        go_upto_region 31 with fail
        clear ec
        have b0 := Lib.cell_of_heap HOC.out 0
        have b1 := Lib.cell_of_heap HOC.out 1
        have b2 := Lib.cell_of_heap HOC.out 2
        have b3 := Lib.cell_of_heap HOC.out 3
        have b4 := Lib.cell_of_heap HOC.out 4
        have b5 := Lib.cell_of_heap HOC.out 5
        have b6 := Lib.cell_of_heap HOC.out 6
        have b7 := Lib.cell_of_heap HOC.out 7
        have b8 := Lib.cell_of_heap HOC.out 8
        simp only [List.getElem?_toArray, List.getElem?_cons_zero, List.getElem?_cons_succ] at b0 b1 b2 b3 b4 b5 b6 b7 b8

        go_wp2
        go_roundw
        case rel => exact ⟨k + 1, s, O1, by have := HKL.out; omega, by go_num, by first | (rw [HCC.out]; done) | (rw [HCC.out]; go_num), hnn, HS, HEC⟩
        case measure => have := HKL.out; simp [intOf]; omega
    by_cases hk3 : ok = 3
    · subst hk3
      by_cases hob : 0 ≤ ob
      case neg =>
        have HIN : Hid (s.has ob = false) := Lib.hid (by unfold Ec.has; rw [decide_eq_false hob]; rfl)
        have d1 : decide (0 ≤ ob) = false := decide_eq_false hob
        clear hob
        clear HIN
        obtain ⟨wo, rfl⟩ : ∃ wo : World, wo = wr := ⟨_, rfl⟩
        go_wp2_with fail
        go_loopw [20, 142] (fun u i wl => ∃ j : Nat, j ≤ nn ∧ i = .int .i64 j ∧ Hid (FlS I w (.pointer (some pa)) gh gf s O1 j u wl)) (fun _ i _ => nn - (intOf i).toNat)
        case atStart => exact ⟨0, Nat.zero_le _, rfl, Lib.hid (FlS.start HEA.out)⟩
        case round =>
          obtain ⟨j, hj, rfl, HFL⟩ := hrel
          by_cases hjn : j < nn
          case neg =>
            have hjd : decide (j < nn) = false := decide_eq_false hjn
            obtain ⟨h1, h2⟩ := FlS.done HS.out (by have h := HFL.out; rw [show j = s.F.length by omega] at h; exact h)
            have HFE := Lib.hid h1
            have HFR := Lib.hid h2
            obtain ⟨A2, k2, hv2⟩ := h2.shape
            have HFO := Lib.hid HFL.out.out
            subst hv2
            have HLA : Hid (s.all.length ≤ 1000) := Lib.hid (by have := allE_len s.H s.F; unfold Ec.all; omega)
            clear h1 h2 hjn hj HFL
            go_wp2_with fail
            refine (HA.out.flush HFE.out.has.inv HS.out).mono ?_
            rintro e w5 ⟨u2, rfl, hsl, O5, hi, hk5, hg⟩
            have HE5a := Lib.hid (HFE.out.step HA.out.obj hi hk5 hg)
            have HSL := Lib.hid hsl
            have HFR5 : Hid (RowQ pkC 7 w5 (.slice A2 s.all.length k2) s.all) := Lib.hid (HFR.out.stay (fun g hg' => hk5.block g (HFR.out.lt g hg') (fun ho => (HFO.out g hg').1 ho)) hk5.size)
            clear hi hk5 hg hsl
            go_wp2_with fail
            refine (pksame_t w5 HSL.out (HFR5.out.sl pkC_len (by have := HLA.out; unfold maxLen; omega))).mono ?_
            rintro e w6 ⟨rfl, dn, rfl⟩
            have HE5 := Lib.hid (HE5a.out.later HA.out.obj (below_drewN (Below.refl _ w5) dn))
            have HS5 := Lib.hid HS.out.flush
            have HL : Hid (s.flush.len = 0) := Lib.hid s.flush_len
            have HLN5 : Hid (s.flush.F.length = nn) := Lib.hid (by simpa [Ec.flush] using hnn)
            go_wp2_with fail
            refine (HA.out.len HE5.out.has.inv HS5.out).mono ?_
            rw [HL.out]
            rintro e w6 ⟨rfl, hb6⟩
            have HE6 := Lib.hid (HE5.out.later HA.out.obj hb6)
            clear hb6
            go_wp2
            go_roundw
            case rel => exact ⟨k + 1, s.flush, O5, by have := HKL.out; omega, by go_num, by first | (rw [HL.out]; done) | (rw [HL.out]; go_num), HLN5.out, HS5, HE6⟩
            case measure => have := HKL.out; simp [intOf]; omega
          have hjl : (j : Int) < (nn : Int) := by omega
          have hjF : j < s.F.length := by rw [hnn]; exact hjn
          obtain ⟨g1, gl1⟩ := HFL.out.ec.cellF (i := j) (by show j < (clrF s.F j).length; rw [clrF_len (by omega)]; exact hjF)
          rw [show ((⟨s.H, clrF s.F j⟩ : Ec).F.getD j false) = s.F.getD j false from clrF_at hjF] at g1
          cases hq : s.F.getD j false
          case false =>
            rw [hq] at g1
            have HN := Lib.hid (HFL.out.skip HA.out.obj HS.out hjF hq)
            obtain ⟨A2, k2, hv2⟩ := HFL.out.row.shape
            subst hv2
            clear hq
            go_wp2
            go_roundw
            case rel => exact ⟨j + 1, by omega, by go_num, HN⟩
            case measure => simp [intOf]; omega
          rw [hq] at g1
          have hjH : j < s.H.length := by rw [HS.out.len]; exact hjF
          obtain ⟨c0, c1, c2, c3, c4, c5, c6, cl⟩ := HFL.out.ec.cellH hjH
          simp only at c0 c1 c2 c3 c4 c5 c6
          obtain ⟨pj, hpj⟩ : ∃ pj, s.H.getD j pk0 = pj := ⟨_, rfl⟩
          rw [hpj] at c0 c1 c2 c3 c4 c5 c6
          have HPJ := Lib.hid hpj
          have HB1 := fun o : Obj => (Below.refl wr.heap.size wr).alloc (Nat.le_refl _) o
          have HBB := Lib.hid (HB1 (.cells #[.int .i64 pj.f.i, .int .i64 pj.f.n, .int .i64 pj.f.l, .string pj.f.d, .int .i64 pj.fr, .int .i64 pj.tag, .bool pj.lp] 32))
          obtain ⟨A2, k2, hv2⟩ := HFL.out.row.shape
          subst hv2
          have HRQ := Lib.hid (HFL.out.row.later HBB.out)
          have HRD : Hid (RdA pkC 7 (wr.alloc (.cells #[.int .i64 pj.f.i, .int .i64 pj.f.n, .int .i64 pj.f.l, .string pj.f.d, .int .i64 pj.fr, .int .i64 pj.tag, .bool pj.lp] 32)) (.slice (some ⟨wr.heap.size, 0, none⟩) 1 1) [pj]) := Lib.hid (RdA.one pkC_len _ _ _ rfl rfl)
          have HLE : Hid ((allE (s.H.take j) (s.F.take j)).length ≤ 1000) := Lib.hid (by have h := allE_len (s.H.take j) (s.F.take j); rw [List.length_take] at h; have := HS.out.n2; omega)
          have HST : Hid (∀ (v4 : Value) (w4 : World), RowQ pkC 7 w4 v4 (allE (s.H.take j) (s.F.take j) ++ [pj]) → Kept (OwnO (.slice A2 (allE (s.H.take j) (s.F.take j)).length k2)) (wr.alloc (.cells #[.int .i64 pj.f.i, .int .i64 pj.f.n, .int .i64 pj.f.l, .string pj.f.d, .int .i64 pj.fr, .int .i64 pj.tag, .bool pj.lp] 32)) w4 → Grows (OwnO (.slice A2 (allE (s.H.take j) (s.F.take j)).length k2)) (wr.alloc (.cells #[.int .i64 pj.f.i, .int .i64 pj.f.n, .int .i64 pj.f.l, .string pj.f.d, .int .i64 pj.fr, .int .i64 pj.tag, .bool pj.lp] 32)) (OwnO v4) → Hid (FlS I w (.pointer (some pa)) gh gf s O1 (j + 1) v4 (w4.setCell ⟨gf, j, none⟩ (.bool false))) ∧ w4.cell? ⟨gf, j, none⟩ = some (.bool true) ∧ w4.frozen? ⟨gf, j, none⟩ = false) := Lib.hid (fun v4 w4 hr hk4 hg4 => by
            obtain ⟨t1, t2⟩ := HFL.out.app HA.out.obj HS.out hjF hq HBB.out (by rw [HPJ.out]; exact hr) hk4 hg4
            obtain ⟨t3, t4⟩ := t2.cellF (i := j) (by show j < (clrF s.F j).length; rw [clrF_len (by omega)]; exact hjF)
            rw [show ((⟨s.H, clrF s.F j⟩ : Ec).F.getD j false) = s.F.getD j false from clrF_at hjF, hq] at t3
            exact ⟨Lib.hid t1, t3, t4⟩)
          clear hq hpj HB1 hjH cl
          clear HFL HPJ HBB hjF hj b0 b1 b2 b3 b4 b5 b6 b7 b8 zo HOA HNO
          generalize allE (s.H.take j) (s.F.take j) = LA at *
          go_upto_region 46 with fail
          go_wp2_with (at_builtin; refine wpList_qO (c := pkC) (M := [pj]) flat_pk pkC_len pkC_one rfl (.tmp 149) (.tmp 154) rfl (by rfl) HRQ.out (by rfl) HRD.out (by have := HLE.out; simp only [List.length_singleton]; omega) ?_; rintro v4 w4 hq4 hk4 hg4; obtain ⟨HN, t3, t4⟩ := HST.out v4 w4 hq4 hk4 hg4; clear hq4 hk4 hg4)
          go_roundw
          case rel => exact ⟨j + 1, by omega, by go_num, HN⟩
          case measure => simp [intOf]; omega
      obtain ⟨m, rfl⟩ : ∃ m : Nat, ob = (m : Int) := ⟨ob.toNat, by omega⟩
      clear hob
      by_cases hmn : m < nn
      case neg =>
        have HIN : Hid (s.has (m : Int) = false) := Lib.hid (by unfold Ec.has; rw [decide_eq_false (by omega : ¬ (m : Int) < (s.F.length : Int))]; simp)
        have d2 : decide (m < nn) = false := decide_eq_false hmn
        clear hmn
        clear HIN
        obtain ⟨wo, rfl⟩ : ∃ wo : World, wo = wr := ⟨_, rfl⟩
        go_wp2_with fail
        go_loopw [20, 142] (fun u i wl => ∃ j : Nat, j ≤ nn ∧ i = .int .i64 j ∧ Hid (FlS I w (.pointer (some pa)) gh gf s O1 j u wl)) (fun _ i _ => nn - (intOf i).toNat)
        case atStart => exact ⟨0, Nat.zero_le _, rfl, Lib.hid (FlS.start HEA.out)⟩
        case round =>
          obtain ⟨j, hj, rfl, HFL⟩ := hrel
          by_cases hjn : j < nn
          case neg =>
            have hjd : decide (j < nn) = false := decide_eq_false hjn
            obtain ⟨h1, h2⟩ := FlS.done HS.out (by have h := HFL.out; rw [show j = s.F.length by omega] at h; exact h)
            have HFE := Lib.hid h1
            have HFR := Lib.hid h2
            obtain ⟨A2, k2, hv2⟩ := h2.shape
            have HFO := Lib.hid HFL.out.out
            subst hv2
            have HLA : Hid (s.all.length ≤ 1000) := Lib.hid (by have := allE_len s.H s.F; unfold Ec.all; omega)
            clear h1 h2 hjn hj HFL
            go_wp2_with fail
            refine (HA.out.flush HFE.out.has.inv HS.out).mono ?_
            rintro e w5 ⟨u2, rfl, hsl, O5, hi, hk5, hg⟩
            have HE5a := Lib.hid (HFE.out.step HA.out.obj hi hk5 hg)
            have HSL := Lib.hid hsl
            have HFR5 : Hid (RowQ pkC 7 w5 (.slice A2 s.all.length k2) s.all) := Lib.hid (HFR.out.stay (fun g hg' => hk5.block g (HFR.out.lt g hg') (fun ho => (HFO.out g hg').1 ho)) hk5.size)
            clear hi hk5 hg hsl
            go_wp2_with fail
            refine (pksame_t w5 HSL.out (HFR5.out.sl pkC_len (by have := HLA.out; unfold maxLen; omega))).mono ?_
            rintro e w6 ⟨rfl, dn, rfl⟩
            have HE5 := Lib.hid (HE5a.out.later HA.out.obj (below_drewN (Below.refl _ w5) dn))
            have HS5 := Lib.hid HS.out.flush
            have HL : Hid (s.flush.len = 0) := Lib.hid s.flush_len
            have HLN5 : Hid (s.flush.F.length = nn) := Lib.hid (by simpa [Ec.flush] using hnn)
            go_wp2_with fail
            refine (HA.out.len HE5.out.has.inv HS5.out).mono ?_
            rw [HL.out]
            rintro e w6 ⟨rfl, hb6⟩
            have HE6 := Lib.hid (HE5.out.later HA.out.obj hb6)
            clear hb6
            go_wp2
            go_roundw
            case rel => exact ⟨k + 1, s.flush, O5, by have := HKL.out; omega, by go_num, by first | (rw [HL.out]; done) | (rw [HL.out]; go_num), HLN5.out, HS5, HE6⟩
            case measure => have := HKL.out; simp [intOf]; omega
          have hjl : (j : Int) < (nn : Int) := by omega
          have hjF : j < s.F.length := by rw [hnn]; exact hjn
          obtain ⟨g1, gl1⟩ := HFL.out.ec.cellF (i := j) (by show j < (clrF s.F j).length; rw [clrF_len (by omega)]; exact hjF)
          rw [show ((⟨s.H, clrF s.F j⟩ : Ec).F.getD j false) = s.F.getD j false from clrF_at hjF] at g1
          cases hq : s.F.getD j false
          case false =>
            rw [hq] at g1
            have HN := Lib.hid (HFL.out.skip HA.out.obj HS.out hjF hq)
            obtain ⟨A2, k2, hv2⟩ := HFL.out.row.shape
            subst hv2
            clear hq
            go_wp2
            go_roundw
            case rel => exact ⟨j + 1, by omega, by go_num, HN⟩
            case measure => simp [intOf]; omega
          rw [hq] at g1
          have hjH : j < s.H.length := by rw [HS.out.len]; exact hjF
          obtain ⟨c0, c1, c2, c3, c4, c5, c6, cl⟩ := HFL.out.ec.cellH hjH
          simp only at c0 c1 c2 c3 c4 c5 c6
          obtain ⟨pj, hpj⟩ : ∃ pj, s.H.getD j pk0 = pj := ⟨_, rfl⟩
          rw [hpj] at c0 c1 c2 c3 c4 c5 c6
          have HPJ := Lib.hid hpj
          have HB1 := fun o : Obj => (Below.refl wr.heap.size wr).alloc (Nat.le_refl _) o
          have HBB := Lib.hid (HB1 (.cells #[.int .i64 pj.f.i, .int .i64 pj.f.n, .int .i64 pj.f.l, .string pj.f.d, .int .i64 pj.fr, .int .i64 pj.tag, .bool pj.lp] 32))
          obtain ⟨A2, k2, hv2⟩ := HFL.out.row.shape
          subst hv2
          have HRQ := Lib.hid (HFL.out.row.later HBB.out)
          have HRD : Hid (RdA pkC 7 (wr.alloc (.cells #[.int .i64 pj.f.i, .int .i64 pj.f.n, .int .i64 pj.f.l, .string pj.f.d, .int .i64 pj.fr, .int .i64 pj.tag, .bool pj.lp] 32)) (.slice (some ⟨wr.heap.size, 0, none⟩) 1 1) [pj]) := Lib.hid (RdA.one pkC_len _ _ _ rfl rfl)
          have HLE : Hid ((allE (s.H.take j) (s.F.take j)).length ≤ 1000) := Lib.hid (by have h := allE_len (s.H.take j) (s.F.take j); rw [List.length_take] at h; have := HS.out.n2; omega)
          have HST : Hid (∀ (v4 : Value) (w4 : World), RowQ pkC 7 w4 v4 (allE (s.H.take j) (s.F.take j) ++ [pj]) → Kept (OwnO (.slice A2 (allE (s.H.take j) (s.F.take j)).length k2)) (wr.alloc (.cells #[.int .i64 pj.f.i, .int .i64 pj.f.n, .int .i64 pj.f.l, .string pj.f.d, .int .i64 pj.fr, .int .i64 pj.tag, .bool pj.lp] 32)) w4 → Grows (OwnO (.slice A2 (allE (s.H.take j) (s.F.take j)).length k2)) (wr.alloc (.cells #[.int .i64 pj.f.i, .int .i64 pj.f.n, .int .i64 pj.f.l, .string pj.f.d, .int .i64 pj.fr, .int .i64 pj.tag, .bool pj.lp] 32)) (OwnO v4) → Hid (FlS I w (.pointer (some pa)) gh gf s O1 (j + 1) v4 (w4.setCell ⟨gf, j, none⟩ (.bool false))) ∧ w4.cell? ⟨gf, j, none⟩ = some (.bool true) ∧ w4.frozen? ⟨gf, j, none⟩ = false) := Lib.hid (fun v4 w4 hr hk4 hg4 => by
            obtain ⟨t1, t2⟩ := HFL.out.app HA.out.obj HS.out hjF hq HBB.out (by rw [HPJ.out]; exact hr) hk4 hg4
            obtain ⟨t3, t4⟩ := t2.cellF (i := j) (by show j < (clrF s.F j).length; rw [clrF_len (by omega)]; exact hjF)
            rw [show ((⟨s.H, clrF s.F j⟩ : Ec).F.getD j false) = s.F.getD j false from clrF_at hjF, hq] at t3
            exact ⟨Lib.hid t1, t3, t4⟩)
          clear hq hpj HB1 hjH cl
          clear HFL HPJ HBB hjF hj b0 b1 b2 b3 b4 b5 b6 b7 b8 zo HOA HNO
          generalize allE (s.H.take j) (s.F.take j) = LA at *
          go_upto_region 46 with fail
          go_wp2_with (at_builtin; refine wpList_qO (c := pkC) (M := [pj]) flat_pk pkC_len pkC_one rfl (.tmp 149) (.tmp 154) rfl (by rfl) HRQ.out (by rfl) HRD.out (by have := HLE.out; simp only [List.length_singleton]; omega) ?_; rintro v4 w4 hq4 hk4 hg4; obtain ⟨HN, t3, t4⟩ := HST.out v4 w4 hq4 hk4 hg4; clear hq4 hk4 hg4)
          go_roundw
          case rel => exact ⟨j + 1, by omega, by go_num, HN⟩
          case measure => simp [intOf]; omega
      have HIN : Hid (s.has (m : Int) = true) := Lib.hid (by unfold Ec.has; rw [decide_eq_true (by omega : (m : Int) < (s.F.length : Int))]; simp)
      have d2 : decide (m < nn) = true := decide_eq_true hmn
      have d3 : (m : Int) < (nn : Int) := by omega
      obtain ⟨f1, fl1⟩ := HEA.out.cellF (i := m) (by rw [hnn]; exact hmn)
      cases hq : s.F.getD m false
      case true =>
        rw [hq] at f1
        have HAT : Hid (s.at_ (m : Int) = true) := Lib.hid hq
        clear hq
        clear HIN HAT
        obtain ⟨wo, rfl⟩ : ∃ wo : World, wo = wr := ⟨_, rfl⟩
        go_wp2_with fail
        go_loopw [20, 142] (fun u i wl => ∃ j : Nat, j ≤ nn ∧ i = .int .i64 j ∧ Hid (FlS I w (.pointer (some pa)) gh gf s O1 j u wl)) (fun _ i _ => nn - (intOf i).toNat)
        case atStart => exact ⟨0, Nat.zero_le _, rfl, Lib.hid (FlS.start HEA.out)⟩
        case round =>
          obtain ⟨j, hj, rfl, HFL⟩ := hrel
          by_cases hjn : j < nn
          case neg =>
            have hjd : decide (j < nn) = false := decide_eq_false hjn
            obtain ⟨h1, h2⟩ := FlS.done HS.out (by have h := HFL.out; rw [show j = s.F.length by omega] at h; exact h)
            have HFE := Lib.hid h1
            have HFR := Lib.hid h2
            obtain ⟨A2, k2, hv2⟩ := h2.shape
            have HFO := Lib.hid HFL.out.out
            subst hv2
            have HLA : Hid (s.all.length ≤ 1000) := Lib.hid (by have := allE_len s.H s.F; unfold Ec.all; omega)
            clear h1 h2 hjn hj HFL
            go_wp2_with fail
            refine (HA.out.flush HFE.out.has.inv HS.out).mono ?_
            rintro e w5 ⟨u2, rfl, hsl, O5, hi, hk5, hg⟩
            have HE5a := Lib.hid (HFE.out.step HA.out.obj hi hk5 hg)
            have HSL := Lib.hid hsl
            have HFR5 : Hid (RowQ pkC 7 w5 (.slice A2 s.all.length k2) s.all) := Lib.hid (HFR.out.stay (fun g hg' => hk5.block g (HFR.out.lt g hg') (fun ho => (HFO.out g hg').1 ho)) hk5.size)
            clear hi hk5 hg hsl
            go_wp2_with fail
            refine (pksame_t w5 HSL.out (HFR5.out.sl pkC_len (by have := HLA.out; unfold maxLen; omega))).mono ?_
            rintro e w6 ⟨rfl, dn, rfl⟩
            have HE5 := Lib.hid (HE5a.out.later HA.out.obj (below_drewN (Below.refl _ w5) dn))
            have HS5 := Lib.hid HS.out.flush
            have HL : Hid (s.flush.len = 0) := Lib.hid s.flush_len
            have HLN5 : Hid (s.flush.F.length = nn) := Lib.hid (by simpa [Ec.flush] using hnn)
            go_wp2_with fail
            refine (HA.out.len HE5.out.has.inv HS5.out).mono ?_
            rw [HL.out]
            rintro e w6 ⟨rfl, hb6⟩
            have HE6 := Lib.hid (HE5.out.later HA.out.obj hb6)
            clear hb6
            go_wp2
            go_roundw
            case rel => exact ⟨k + 1, s.flush, O5, by have := HKL.out; omega, by go_num, by first | (rw [HL.out]; done) | (rw [HL.out]; go_num), HLN5.out, HS5, HE6⟩
            case measure => have := HKL.out; simp [intOf]; omega
          have hjl : (j : Int) < (nn : Int) := by omega
          have hjF : j < s.F.length := by rw [hnn]; exact hjn
          obtain ⟨g1, gl1⟩ := HFL.out.ec.cellF (i := j) (by show j < (clrF s.F j).length; rw [clrF_len (by omega)]; exact hjF)
          rw [show ((⟨s.H, clrF s.F j⟩ : Ec).F.getD j false) = s.F.getD j false from clrF_at hjF] at g1
          cases hq : s.F.getD j false
          case false =>
            rw [hq] at g1
            have HN := Lib.hid (HFL.out.skip HA.out.obj HS.out hjF hq)
            obtain ⟨A2, k2, hv2⟩ := HFL.out.row.shape
            subst hv2
            clear hq
            go_wp2
            go_roundw
            case rel => exact ⟨j + 1, by omega, by go_num, HN⟩
            case measure => simp [intOf]; omega
          rw [hq] at g1
          have hjH : j < s.H.length := by rw [HS.out.len]; exact hjF
          obtain ⟨c0, c1, c2, c3, c4, c5, c6, cl⟩ := HFL.out.ec.cellH hjH
          simp only at c0 c1 c2 c3 c4 c5 c6
          obtain ⟨pj, hpj⟩ : ∃ pj, s.H.getD j pk0 = pj := ⟨_, rfl⟩
          rw [hpj] at c0 c1 c2 c3 c4 c5 c6
          have HPJ := Lib.hid hpj
          have HB1 := fun o : Obj => (Below.refl wr.heap.size wr).alloc (Nat.le_refl _) o
          have HBB := Lib.hid (HB1 (.cells #[.int .i64 pj.f.i, .int .i64 pj.f.n, .int .i64 pj.f.l, .string pj.f.d, .int .i64 pj.fr, .int .i64 pj.tag, .bool pj.lp] 32))
          obtain ⟨A2, k2, hv2⟩ := HFL.out.row.shape
          subst hv2
          have HRQ := Lib.hid (HFL.out.row.later HBB.out)
          have HRD : Hid (RdA pkC 7 (wr.alloc (.cells #[.int .i64 pj.f.i, .int .i64 pj.f.n, .int .i64 pj.f.l, .string pj.f.d, .int .i64 pj.fr, .int .i64 pj.tag, .bool pj.lp] 32)) (.slice (some ⟨wr.heap.size, 0, none⟩) 1 1) [pj]) := Lib.hid (RdA.one pkC_len _ _ _ rfl rfl)
          have HLE : Hid ((allE (s.H.take j) (s.F.take j)).length ≤ 1000) := Lib.hid (by have h := allE_len (s.H.take j) (s.F.take j); rw [List.length_take] at h; have := HS.out.n2; omega)
          have HST : Hid (∀ (v4 : Value) (w4 : World), RowQ pkC 7 w4 v4 (allE (s.H.take j) (s.F.take j) ++ [pj]) → Kept (OwnO (.slice A2 (allE (s.H.take j) (s.F.take j)).length k2)) (wr.alloc (.cells #[.int .i64 pj.f.i, .int .i64 pj.f.n, .int .i64 pj.f.l, .string pj.f.d, .int .i64 pj.fr, .int .i64 pj.tag, .bool pj.lp] 32)) w4 → Grows (OwnO (.slice A2 (allE (s.H.take j) (s.F.take j)).length k2)) (wr.alloc (.cells #[.int .i64 pj.f.i, .int .i64 pj.f.n, .int .i64 pj.f.l, .string pj.f.d, .int .i64 pj.fr, .int .i64 pj.tag, .bool pj.lp] 32)) (OwnO v4) → Hid (FlS I w (.pointer (some pa)) gh gf s O1 (j + 1) v4 (w4.setCell ⟨gf, j, none⟩ (.bool false))) ∧ w4.cell? ⟨gf, j, none⟩ = some (.bool true) ∧ w4.frozen? ⟨gf, j, none⟩ = false) := Lib.hid (fun v4 w4 hr hk4 hg4 => by
            obtain ⟨t1, t2⟩ := HFL.out.app HA.out.obj HS.out hjF hq HBB.out (by rw [HPJ.out]; exact hr) hk4 hg4
            obtain ⟨t3, t4⟩ := t2.cellF (i := j) (by show j < (clrF s.F j).length; rw [clrF_len (by omega)]; exact hjF)
            rw [show ((⟨s.H, clrF s.F j⟩ : Ec).F.getD j false) = s.F.getD j false from clrF_at hjF, hq] at t3
            exact ⟨Lib.hid t1, t3, t4⟩)
          clear hq hpj HB1 hjH cl
          clear HFL HPJ HBB hjF hj b0 b1 b2 b3 b4 b5 b6 b7 b8 zo HOA HNO
          generalize allE (s.H.take j) (s.F.take j) = LA at *
          go_upto_region 46 with fail
          go_wp2_with (at_builtin; refine wpList_qO (c := pkC) (M := [pj]) flat_pk pkC_len pkC_one rfl (.tmp 149) (.tmp 154) rfl (by rfl) HRQ.out (by rfl) HRD.out (by have := HLE.out; simp only [List.length_singleton]; omega) ?_; rintro v4 w4 hq4 hk4 hg4; obtain ⟨HN, t3, t4⟩ := HST.out v4 w4 hq4 hk4 hg4; clear hq4 hk4 hg4)
          go_roundw
          case rel => exact ⟨j + 1, by omega, by go_num, HN⟩
          case measure => simp [intOf]; omega
      rw [hq] at f1
      have HAT : Hid (s.at_ (m : Int) = false) := Lib.hid hq
      clear hq
      clear HIN HAT
      obtain ⟨wo, rfl⟩ : ∃ wo : World, wo = wr := ⟨_, rfl⟩
      go_wp2_with fail
      go_loopw [20, 142] (fun u i wl => ∃ j : Nat, j ≤ nn ∧ i = .int .i64 j ∧ Hid (FlS I w (.pointer (some pa)) gh gf s O1 j u wl)) (fun _ i _ => nn - (intOf i).toNat)
      case atStart => exact ⟨0, Nat.zero_le _, rfl, Lib.hid (FlS.start HEA.out)⟩
      case round =>
        obtain ⟨j, hj, rfl, HFL⟩ := hrel
        by_cases hjn : j < nn
        case neg =>
          have hjd : decide (j < nn) = false := decide_eq_false hjn
          obtain ⟨h1, h2⟩ := FlS.done HS.out (by have h := HFL.out; rw [show j = s.F.length by omega] at h; exact h)
          have HFE := Lib.hid h1
          have HFR := Lib.hid h2
          obtain ⟨A2, k2, hv2⟩ := h2.shape
          have HFO := Lib.hid HFL.out.out
          subst hv2
          have HLA : Hid (s.all.length ≤ 1000) := Lib.hid (by have := allE_len s.H s.F; unfold Ec.all; omega)
          clear h1 h2 hjn hj HFL
          go_wp2_with fail
          refine (HA.out.flush HFE.out.has.inv HS.out).mono ?_
          rintro e w5 ⟨u2, rfl, hsl, O5, hi, hk5, hg⟩
          have HE5a := Lib.hid (HFE.out.step HA.out.obj hi hk5 hg)
          have HSL := Lib.hid hsl
          have HFR5 : Hid (RowQ pkC 7 w5 (.slice A2 s.all.length k2) s.all) := Lib.hid (HFR.out.stay (fun g hg' => hk5.block g (HFR.out.lt g hg') (fun ho => (HFO.out g hg').1 ho)) hk5.size)
          clear hi hk5 hg hsl
          go_wp2_with fail
          refine (pksame_t w5 HSL.out (HFR5.out.sl pkC_len (by have := HLA.out; unfold maxLen; omega))).mono ?_
          rintro e w6 ⟨rfl, dn, rfl⟩
          have HE5 := Lib.hid (HE5a.out.later HA.out.obj (below_drewN (Below.refl _ w5) dn))
          have HS5 := Lib.hid HS.out.flush
          have HL : Hid (s.flush.len = 0) := Lib.hid s.flush_len
          have HLN5 : Hid (s.flush.F.length = nn) := Lib.hid (by simpa [Ec.flush] using hnn)
          go_wp2_with fail
          refine (HA.out.len HE5.out.has.inv HS5.out).mono ?_
          rw [HL.out]
          rintro e w6 ⟨rfl, hb6⟩
          have HE6 := Lib.hid (HE5.out.later HA.out.obj hb6)
          clear hb6
          go_wp2
          go_roundw
          case rel => exact ⟨k + 1, s.flush, O5, by have := HKL.out; omega, by go_num, by first | (rw [HL.out]; done) | (rw [HL.out]; go_num), HLN5.out, HS5, HE6⟩
          case measure => have := HKL.out; simp [intOf]; omega
        have hjl : (j : Int) < (nn : Int) := by omega
        have hjF : j < s.F.length := by rw [hnn]; exact hjn
        obtain ⟨g1, gl1⟩ := HFL.out.ec.cellF (i := j) (by show j < (clrF s.F j).length; rw [clrF_len (by omega)]; exact hjF)
        rw [show ((⟨s.H, clrF s.F j⟩ : Ec).F.getD j false) = s.F.getD j false from clrF_at hjF] at g1
        cases hq : s.F.getD j false
        case false =>
          rw [hq] at g1
          have HN := Lib.hid (HFL.out.skip HA.out.obj HS.out hjF hq)
          obtain ⟨A2, k2, hv2⟩ := HFL.out.row.shape
          subst hv2
          clear hq
          go_wp2
          go_roundw
          case rel => exact ⟨j + 1, by omega, by go_num, HN⟩
          case measure => simp [intOf]; omega
        rw [hq] at g1
        have hjH : j < s.H.length := by rw [HS.out.len]; exact hjF
        obtain ⟨c0, c1, c2, c3, c4, c5, c6, cl⟩ := HFL.out.ec.cellH hjH
        simp only at c0 c1 c2 c3 c4 c5 c6
        obtain ⟨pj, hpj⟩ : ∃ pj, s.H.getD j pk0 = pj := ⟨_, rfl⟩
        rw [hpj] at c0 c1 c2 c3 c4 c5 c6
        have HPJ := Lib.hid hpj
        have HB1 := fun o : Obj => (Below.refl wr.heap.size wr).alloc (Nat.le_refl _) o
        have HBB := Lib.hid (HB1 (.cells #[.int .i64 pj.f.i, .int .i64 pj.f.n, .int .i64 pj.f.l, .string pj.f.d, .int .i64 pj.fr, .int .i64 pj.tag, .bool pj.lp] 32))
        obtain ⟨A2, k2, hv2⟩ := HFL.out.row.shape
        subst hv2
        have HRQ := Lib.hid (HFL.out.row.later HBB.out)
        have HRD : Hid (RdA pkC 7 (wr.alloc (.cells #[.int .i64 pj.f.i, .int .i64 pj.f.n, .int .i64 pj.f.l, .string pj.f.d, .int .i64 pj.fr, .int .i64 pj.tag, .bool pj.lp] 32)) (.slice (some ⟨wr.heap.size, 0, none⟩) 1 1) [pj]) := Lib.hid (RdA.one pkC_len _ _ _ rfl rfl)
        have HLE : Hid ((allE (s.H.take j) (s.F.take j)).length ≤ 1000) := Lib.hid (by have h := allE_len (s.H.take j) (s.F.take j); rw [List.length_take] at h; have := HS.out.n2; omega)
        have HST : Hid (∀ (v4 : Value) (w4 : World), RowQ pkC 7 w4 v4 (allE (s.H.take j) (s.F.take j) ++ [pj]) → Kept (OwnO (.slice A2 (allE (s.H.take j) (s.F.take j)).length k2)) (wr.alloc (.cells #[.int .i64 pj.f.i, .int .i64 pj.f.n, .int .i64 pj.f.l, .string pj.f.d, .int .i64 pj.fr, .int .i64 pj.tag, .bool pj.lp] 32)) w4 → Grows (OwnO (.slice A2 (allE (s.H.take j) (s.F.take j)).length k2)) (wr.alloc (.cells #[.int .i64 pj.f.i, .int .i64 pj.f.n, .int .i64 pj.f.l, .string pj.f.d, .int .i64 pj.fr, .int .i64 pj.tag, .bool pj.lp] 32)) (OwnO v4) → Hid (FlS I w (.pointer (some pa)) gh gf s O1 (j + 1) v4 (w4.setCell ⟨gf, j, none⟩ (.bool false))) ∧ w4.cell? ⟨gf, j, none⟩ = some (.bool true) ∧ w4.frozen? ⟨gf, j, none⟩ = false) := Lib.hid (fun v4 w4 hr hk4 hg4 => by
          obtain ⟨t1, t2⟩ := HFL.out.app HA.out.obj HS.out hjF hq HBB.out (by rw [HPJ.out]; exact hr) hk4 hg4
          obtain ⟨t3, t4⟩ := t2.cellF (i := j) (by show j < (clrF s.F j).length; rw [clrF_len (by omega)]; exact hjF)
          rw [show ((⟨s.H, clrF s.F j⟩ : Ec).F.getD j false) = s.F.getD j false from clrF_at hjF, hq] at t3
          exact ⟨Lib.hid t1, t3, t4⟩)
        clear hq hpj HB1 hjH cl
        clear HFL HPJ HBB hjF hj b0 b1 b2 b3 b4 b5 b6 b7 b8 zo HOA HNO
        generalize allE (s.H.take j) (s.F.take j) = LA at *
        go_upto_region 46 with fail
        go_wp2_with (at_builtin; refine wpList_qO (c := pkC) (M := [pj]) flat_pk pkC_len pkC_one rfl (.tmp 149) (.tmp 154) rfl (by rfl) HRQ.out (by rfl) HRD.out (by have := HLE.out; simp only [List.length_singleton]; omega) ?_; rintro v4 w4 hq4 hk4 hg4; obtain ⟨HN, t3, t4⟩ := HST.out v4 w4 hq4 hk4 hg4; clear hq4 hk4 hg4)
        go_roundw
        case rel => exact ⟨j + 1, by omega, by go_num, HN⟩
        case measure => simp [intOf]; omega
    have q0 : (ok == 0) = false := by simpa using hk0
    have q1 : (ok == 1) = false := by simpa using hk1
    have q2 : (ok == 2) = false := by simpa using hk2
    have q3 : (ok == 3) = false := by simpa using hk3
    clear hk0 hk1 hk2 hk3
    by_cases hob : 0 ≤ ob
    case neg =>
      have HIN : Hid (s.has ob = false) := Lib.hid (by unfold Ec.has; rw [decide_eq_false hob]; rfl)
      have d1 : decide (0 ≤ ob) = false := decide_eq_false hob
      clear hob
      as_aux_lemma =>
        have HE5 := HEA
        have HS5 := HS
        have HL := HCC
        have HLN5 : Hid (s.F.length = nn) := Lib.hid hnn
        clear HIN
        go_wp2_with fail
        clear b0 b1 b2 b3 b4 b5 b6 b7 b8
        refine (HA.out.len HE5.out.has.inv HS5.out).mono ?_
        rw [HL.out]
        rintro e w6 ⟨rfl, hb6⟩
        have HE6 := Lib.hid (HE5.out.later HA.out.obj hb6)
        clear hb6
        go_wp2
        go_roundw
        case rel => exact ⟨k + 1, s, O1, by have := HKL.out; omega, by go_num, by first | (rw [HL.out]; done) | (rw [HL.out]; go_num), HLN5.out, HS5, HE6⟩
        case measure => have := HKL.out; simp [intOf]; omega
    obtain ⟨m, rfl⟩ : ∃ m : Nat, ob = (m : Int) := ⟨ob.toNat, by omega⟩
    clear hob
    by_cases hmn : m < nn
    case neg =>
      have HIN : Hid (s.has (m : Int) = false) := Lib.hid (by unfold Ec.has; rw [decide_eq_false (by omega : ¬ (m : Int) < (s.F.length : Int))]; simp)
      have d2 : decide (m < nn) = false := decide_eq_false hmn
      clear hmn
      as_aux_lemma =>
        have HE5 := HEA
        have HS5 := HS
        have HL := HCC
        have HLN5 : Hid (s.F.length = nn) := Lib.hid hnn
        clear HIN
        go_wp2_with fail
        clear b0 b1 b2 b3 b4 b5 b6 b7 b8
        refine (HA.out.len HE5.out.has.inv HS5.out).mono ?_
        rw [HL.out]
        rintro e w6 ⟨rfl, hb6⟩
        have HE6 := Lib.hid (HE5.out.later HA.out.obj hb6)
        clear hb6
        go_wp2
        go_roundw
        case rel => exact ⟨k + 1, s, O1, by have := HKL.out; omega, by go_num, by first | (rw [HL.out]; done) | (rw [HL.out]; go_num), HLN5.out, HS5, HE6⟩
        case measure => have := HKL.out; simp [intOf]; omega
    have HIN : Hid (s.has (m : Int) = true) := Lib.hid (by unfold Ec.has; rw [decide_eq_true (by omega : (m : Int) < (s.F.length : Int))]; simp)
    have d2 : decide (m < nn) = true := decide_eq_true hmn
    have d3 : (m : Int) < (nn : Int) := by omega
    obtain ⟨f1, fl1⟩ := HEA.out.cellF (i := m) (by rw [hnn]; exact hmn)
    cases hq : s.F.getD m false
    case true =>
      rw [hq] at f1
      have HAT : Hid (s.at_ (m : Int) = true) := Lib.hid hq
      clear hq
      as_aux_lemma =>
        have HE5 := HEA
        have HS5 := HS
        have HL := HCC
        have HLN5 : Hid (s.F.length = nn) := Lib.hid hnn
        clear HIN
        go_wp2_with fail
        clear b0 b1 b2 b3 b4 b5 b6 b7 b8
        refine (HA.out.len HE5.out.has.inv HS5.out).mono ?_
        rw [HL.out]
        rintro e w6 ⟨rfl, hb6⟩
        have HE6 := Lib.hid (HE5.out.later HA.out.obj hb6)
        clear hb6
        go_wp2
        go_roundw
        case rel => exact ⟨k + 1, s, O1, by have := HKL.out; omega, by go_num, by first | (rw [HL.out]; done) | (rw [HL.out]; go_num), HLN5.out, HS5, HE6⟩
        case measure => have := HKL.out; simp [intOf]; omega
    rw [hq] at f1
    have HAT : Hid (s.at_ (m : Int) = false) := Lib.hid hq
    clear hq
    as_aux_lemma =>
      have HE5 := HEA
      have HS5 := HS
      have HL := HCC
      have HLN5 : Hid (s.F.length = nn) := Lib.hid hnn
      clear HIN
      go_wp2_with fail
      clear b0 b1 b2 b3 b4 b5 b6 b7 b8
      refine (HA.out.len HE5.out.has.inv HS5.out).mono ?_
      rw [HL.out]
      rintro e w6 ⟨rfl, hb6⟩
      have HE6 := Lib.hid (HE5.out.later HA.out.obj hb6)
      clear hb6
      go_wp2
      go_roundw
      case rel => exact ⟨k + 1, s, O1, by have := HKL.out; omega, by go_num, by first | (rw [HL.out]; done) | (rw [HL.out]; go_num), HLN5.out, HS5, HE6⟩
      case measure => have := HKL.out; simp [intOf]; omega
end Go.Proofs.Ytmpikfnemhjoeaa
