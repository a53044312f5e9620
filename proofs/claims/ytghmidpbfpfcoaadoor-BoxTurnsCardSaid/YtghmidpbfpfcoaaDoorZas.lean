/- Box: walk of BoxTurns. -/
import Derived.Test.YtghmidpbfpfcoaaDoorZaq
import Derived.Test.YtghmidpbfpfcoaaDoorZar
namespace Go.Proofs.YtghmidpbfpfcoaaDoor
open Go.RowKit
set_option linter.unusedVariables false

def pkOf : List Value → Pk
  | [.int _ i, .int _ n, .int _ l, .string d, .int _ fr, .int _ t, .bool lp] => ⟨⟨i, n, l, d⟩, fr, t, lp⟩
  | _ => pk0
abbrev pkSh : List Sh := [.int .i64, .int .i64, .int .i64, .str, .int .i64, .int .i64, .bool]
theorem pkOf_c (l : List Value) (h : FitsAll pkSh l) : pkC (pkOf l) = l := by
  obtain ⟨v0, l0, rfl, ⟨a0, rfl, _⟩, h0⟩ := FitsAll.cons h
  obtain ⟨v1, l1, rfl, ⟨a1, rfl, _⟩, h1⟩ := FitsAll.cons h0
  obtain ⟨v2, l2, rfl, ⟨a2, rfl, _⟩, h2⟩ := FitsAll.cons h1
  obtain ⟨v3, l3, rfl, ⟨a3, rfl, _⟩, h3⟩ := FitsAll.cons h2
  obtain ⟨v4, l4, rfl, ⟨a4, rfl, _⟩, h4⟩ := FitsAll.cons h3
  obtain ⟨v5, l5, rfl, ⟨a5, rfl, _⟩, h5⟩ := FitsAll.cons h4
  obtain ⟨v6, l6, rfl, ⟨a6, rfl⟩, h6⟩ := FitsAll.cons h5
  obtain rfl := FitsAll.nil h6
  rfl
theorem pk_fits {p : Pk} (h : FitsAll pkSh (pkC p)) : p.ok := by
  obtain ⟨⟨a0, e0, h0⟩, ⟨a1, e1, h1⟩, _⟩ := h
  injection e1 with _ e1
  have h4 := wf_i64x h1
  unfold Pk.ok
  omega
def ft5 (p : Pk) : Nat := min p.f.d.size 5000
def ftN (L : List Pk) (k : Nat) : Nat := ((L.take k).map ft5).sum
theorem ftN_succ (L : List Pk) (k : Nat) (h : k < L.length) : ftN L (k + 1) = ftN L k + ft5 L[k] := by
  unfold ftN
  rw [List.take_succ_eq_append_getElem h, List.map_append, List.sum_append]
  simp only [List.map_cons, List.map_nil, List.sum_cons, List.sum_nil, Nat.add_zero]
theorem ft5_le (p : Pk) : ft5 p ≤ 5000 := Nat.min_le_right _ _
theorem ftN_le (L : List Pk) : ∀ k, ftN L k ≤ 5000 * k
  | 0 => by simp [ftN]
  | k + 1 => by
    have := ftN_le L k
    by_cases h : k < L.length
    · rw [ftN_succ L k h]; have := ft5_le L[k]; omega
    · have e : ftN L (k + 1) = ftN L k := by unfold ftN; rw [List.take_of_length_le (by omega), List.take_of_length_le (by omega)]
      omega
theorem ft_min (n : Nat) : min (n : Int) 5000 = ((min n 5000 : Nat) : Int) := by omega
abbrev pkO (p : Pk) : Obj := .cells #[.int .i64 p.f.i, .int .i64 p.f.n, .int .i64 p.f.l, .string p.f.d, .int .i64 p.fr, .int .i64 p.tag, .bool p.lp] 32 (0, 0)
theorem HasB.put {I : World → Value → Bx → (Nat → Prop) → Prop} {w0 w : World} {v : Value} {s : Bx} {O : Nat → Prop} {z : Nat} {q : Pk} (hI : IsObj I) (h : HasB I w0 v s O z (pkO q) w) (hz : w0.heap.size ≤ z) (p : Pk) : HasB I w0 v s O z (pkO p) (putB w z p) := by
  have hP : BoxP (putB w z p) z p := BoxP.put (p0 := q) h.box p
  have hO : ∀ k, k ≠ z → (putB w z p).heap[k]? = w.heap[k]? := fun k h => putB_other h
  have hS := putB_size w z p
  obtain ⟨r1, r2, r3⟩ := putB_rest w z p
  generalize putB w z p = W at hP hO hS r1 r2 r3 ⊢
  have hb := h.has.below
  refine ⟨⟨hI.stay h.has.inv (fun k hk => hO k (fun e => h.no (e ▸ hk))), ⟨r1.trans hb.os, r2.trans hb.tape, r3.trans hb.output, by rw [hS]; exact hb.size, fun k hk => (hO k (by omega)).trans (hb.block k hk)⟩, h.has.new⟩, hP, h.no⟩
/-- in the midst of the sending: k were sent, q was the last one -/
structure TurnS (s : Bx) (n k : Nat) (q : Pk) : Prop where
  ok : s.Ok
  tags : s.byTag
  num : s.ord.length + k = n
  lex : 0 < k → ∀ y ∈ s.ord, lexP q (s.pkt y)
theorem TurnS.next {s : Bx} {n k : Nat} {q : Pk} (h : TurnS s n k q) (hk : k < n) : ∃ m : Nat, s.bst = ((m : Int), s.pkt m, true) ∧ (s.end_ m 2).2 = 0 ∧ (0 < k → lexP q (s.pkt m)) ∧ TurnS (s.end_ m 2).1 n (k + 1) (s.pkt m) := by
  have hne : s.ord ≠ [] := fun e => by have := h.num; rw [e] at this; simp at this; omega
  obtain ⟨m, hb, hm, hl⟩ := bst_some h.ok h.tags hne
  obtain ⟨e0, e1, e2, e3, e4⟩ := sent_best h.ok h.tags hm
  refine ⟨m, by unfold Bx.bst; rw [if_neg (by omega), hb]; rfl, e0, fun h0 => h.lex h0 _ hm, ⟨h.ok.end_ _ (.inl rfl), e1, by have := h.num; omega, fun _ y hy => ?_⟩⟩
  rw [e4]
  exact hl y (e3 y hy).1 (e3 y hy).2
theorem TurnS.done {s : Bx} {n : Nat} {q : Pk} (h : TurnS s n n q) : s.bst = (0, pk0, false) := by
  have e : s.ord.length = 0 := by have := h.num; omega
  unfold Bx.bst
  rw [e]
  rfl
set_option maxRecDepth 4000 in
set_option maxHeartbeats 16000000 in
theorem boxTurns_walk {T : World → Prop} {I : World → Value → Bx → (Nat → Prop) → Prop} (A : BoxI T I) (a : Option Addr) (len cap : Nat) (F : Nat → List Value) (w : World) (hr : IsRowOf w pkSh a len cap F) (hT : T w) :
    Calls Tryd.prog 4 #[.slice a len cap] w fun e w' => e = .returned (.bool true) ∧ Below w.heap.size w w' := by
  obtain ⟨L, hL, hlen, hf⟩ := slice_of_row hr pkOf pkOf_c rfl (by decide)
  have HA := Lib.hid A
  have HT := Lib.hid hT
  have HV := Lib.hid hL
  have HX : Hid (∀ o ∈ L, o.ok) := Lib.hid (fun o h => pk_fits (hf o h))
  subst hlen
  obtain ⟨_, _, _, hm, _⟩ := id hL
  unfold maxLen at hm
  clear A hT hL hr hf
  go_enter Tryd.func4, Tryd.ntmps4
  go_wp2_with fail
  go_loop [3, 4] (fun n i => ∃ k : Nat, k ≤ L.length ∧ k ≤ 101 ∧ i = .int .i64 k ∧ n = .int .i64 (ftN L k)) (fun _ i => L.length - (intOf i).toNat)
  case atStart => exact ⟨0, by omega, by omega, rfl, rfl⟩
  case round =>
    obtain ⟨k, hk, hk41, rfl, rfl⟩ := hrel
    have hN := ftN_le L k
    have HN : (ftN L k : Int) ≤ 505000 := by omega
    clear hN
    by_cases hlt : k < L.length ∧ k ≤ 100
    · obtain ⟨h1, h2⟩ := hlt
      obtain ⟨x, cap', hv, hxb, hcell⟩ := HV.out.at_ h1
      injection hv with hA hn hc
      subst hA hc
      have hc3 : w.cell? ⟨(x.add (k * 7)).block, (x.add (k * 7)).off + 3, none⟩ = some (.string (L[k]'h1).f.d) := hcell 3 _ rfl
      have hk1 : (k : Int) < (L.length : Int) := by omega
      have hk2 : (k : Int) ≤ 100 := by omega
      have hsucc := Lib.hid (ftN_succ L k h1)
      have hmin := ft_min (L[k]'h1).f.d.size
      have h5 := ft5_le (L[k]'h1)
      have h6 : ((ft5 (L[k]'h1) : Nat) : Int) ≤ 5000 := by omega
      have hmn : min ((L[k]'h1).f.d.size : Int) 5000 = ((ft5 (L[k]'h1) : Nat) : Int) := hmin
      clear hcell hmin h5 hxb
      generalize ft5 (L[k]'h1) = m at hsucc h6 hmn
      generalize (L[k]'h1).f.d = d at hc3 hmn
      go_wp2
      exact ⟨⟨k + 1, by omega, by omega, by go_num, by rw [hsucc.out]; go_num⟩, by simp [intOf]; omega⟩
    · by_cases ha : L.length ≤ 100
      · obtain rfl : k = L.length := by omega
        have ha' : (L.length : Int) ≤ 100 := by omega
        generalize ftN L L.length = m at HN
        clear hlt hk hk41
        by_cases hb : m ≤ 3000
        · have hb' : decide ((3000 : Int) < (m : Int)) = false := decide_eq_false (by omega)
          have ha2 : decide ((100 : Int) < (L.length : Int)) = false := decide_eq_false (by omega)
          clear hb ha'
          go_wp2_with fail
          refine (HA.out.new 100 _).mono ?_
          rintro e w1 ⟨v, O, rfl, hi, hb1, hn⟩
          obtain ⟨p, rfl⟩ := HA.out.ptr hi
          have H0 : Hid (Has I w (.pointer (some p)) (bxNew (boxesN 100)) O w1) := Lib.hid ⟨hi, hb1, hn⟩
          have HF := Lib.hid Filled.new
          clear hi hb1 hn
          go_wp2_with fail
          go_loopw [6, 52] (fun q i wr => ∃ (k n : Nat) (s : Bx) (O : Nat → Prop), k ≤ L.length ∧ i = .int .i64 k ∧ n ≤ k ∧ q = .int .i64 n ∧ Hid (Filled s n k) ∧ Hid (Has I w (.pointer (some p)) s O wr)) (fun _ i _ => L.length - (intOf i).toNat)
          case atStart => exact ⟨0, 0, _, O, by omega, rfl, Nat.le_refl _, rfl, HF, H0⟩
          case round =>
            obtain ⟨k, n, s, O1, hk, rfl, hnk, rfl, HS, HP⟩ := hrel
            by_cases hlt : k < L.length
            · have hkl : (k : Int) < (L.length : Int) := by omega
              obtain ⟨x, c1, hv1, hxb, hcell⟩ := SlG.at_ (HV.out.later HP.out.below) hlt
              injection hv1 with hAA _ hcap
              subst hAA hcap
              have a0 : wr.cell? (x.add (k * 7)) = some (.int .i64 (L[k]'hlt).f.i) := hcell 0 _ rfl
              have a1 : wr.cell? ⟨(x.add (k * 7)).block, (x.add (k * 7)).off + 1, none⟩ = some (.int .i64 (L[k]'hlt).f.n) := hcell 1 _ rfl
              have a2 : wr.cell? ⟨(x.add (k * 7)).block, (x.add (k * 7)).off + 2, none⟩ = some (.int .i64 (L[k]'hlt).f.l) := hcell 2 _ rfl
              have a3 : wr.cell? ⟨(x.add (k * 7)).block, (x.add (k * 7)).off + 3, none⟩ = some (.string (L[k]'hlt).f.d) := hcell 3 _ rfl
              have a4 : wr.cell? ⟨(x.add (k * 7)).block, (x.add (k * 7)).off + 4, none⟩ = some (.int .i64 (L[k]'hlt).fr) := hcell 4 _ rfl
              have a5 : wr.cell? ⟨(x.add (k * 7)).block, (x.add (k * 7)).off + 5, none⟩ = some (.int .i64 (L[k]'hlt).tag) := hcell 5 _ rfl
              have a6 : wr.cell? ⟨(x.add (k * 7)).block, (x.add (k * 7)).off + 6, none⟩ = some (.bool (L[k]'hlt).lp) := hcell 6 _ rfl
              have HFX := Lib.hid (HX.out _ (List.getElem_mem hlt))
              generalize L[k]'hlt = o at a0 a1 a2 a3 a4 a5 a6 HFX
              clear hcell hxb
              have hbl := (Below.refl wr.heap.size wr).alloc (Nat.le_refl _) (.cells #[.int .i64 o.f.i, .int .i64 o.f.n, .int .i64 o.f.l, .string o.f.d, .int .i64 o.fr, .int .i64 (k : Int), .bool o.lp] 32)
              have HPa := Lib.hid (HP.out.later HA.out.obj hbl)
              clear hbl
              have HOK : Hid (({ o with tag := (k : Int) } : Pk).ok) := HFX
              by_cases hkey : keyG o.f < 0
              · have HN := Lib.hid (HS.out.skip (p := { o with tag := (k : Int) }) hkey)
                go_wp2_with fail
                refine (HA.out.put { o with tag := (k : Int) } HPa.out.inv HS.out.ok (HA.out.tab HT.out HPa.out.below) HOK.out).mono ?_
                rintro e w5 ⟨he, O3, hi, hkp, hg⟩
                rw [HN.out.1] at he hi
                simp only at he hi
                subst he
                have HP5 := Lib.hid (HPa.out.step HA.out.obj hi hkp hg)
                clear hi hkp hg a0 a1 a2 a3 a4 a5 a6
                go_wp2
                go_roundw
                case rel => exact ⟨k + 1, n, s, O3, by omega, by go_num, by omega, rfl, Lib.hid HN.out.2, HP5⟩
                case measure => simp [intOf]; omega
              · have HN := Lib.hid (HS.out.add (by omega) (p := { o with tag := (k : Int) }) (by show 0 ≤ keyG o.f; omega) rfl)
                go_wp2_with fail
                refine (HA.out.put { o with tag := (k : Int) } HPa.out.inv HS.out.ok (HA.out.tab HT.out HPa.out.below) HOK.out).mono ?_
                rintro e w5 ⟨he, O3, hi, hkp, hg⟩
                rw [HN.out.1] at he hi
                simp only at he hi
                subst he
                have HP5 := Lib.hid (HPa.out.step HA.out.obj hi hkp hg)
                have hnb : (n : Int) < 100 := by omega
                clear hi hkp hg a0 a1 a2 a3 a4 a5 a6
                go_wp2
                go_roundw
                case rel => exact ⟨k + 1, n + 1, _, O3, by omega, by go_num, by omega, by go_num, Lib.hid HN.out.2, HP5⟩
                case measure => simp [intOf]; omega
            · obtain rfl : k = L.length := by omega
              have HZ : Hid (w.heap.size ≤ wr.heap.size) := Lib.hid HP.out.below.size
              have HQ0 := Lib.hid (HasB.made HA.out.obj HP.out (.cells #[.int .i64 0, .int .i64 0, .int .i64 0, .string (ByteArray.mk #[]), .int .i64 0, .int .i64 (-1), .bool false] 32) (BoxP.made wr ⟨⟨0, 0, 0, ByteArray.mk #[]⟩, 0, -1, false⟩))
              have HT0 : Hid (TurnS s n 0 ⟨⟨0, 0, 0, ByteArray.mk #[]⟩, 0, -1, false⟩) := Lib.hid ⟨HS.out.ok, HS.out.tags, HS.out.num, fun h => absurd h (Nat.lt_irrefl 0)⟩
              have hnm : (n : Int) ≤ 100 := by omega
              go_wp2_with fail
              generalize hzz : wr.heap.size = z at HZ HQ0 ⊢
              go_loopw [12] (fun i wx => ∃ (k : Nat) (s : Bx) (O : Nat → Prop) (q : Pk), k ≤ n ∧ i = .int .i64 k ∧ Hid (TurnS s n k q) ∧ Hid (HasB I w (.pointer (some p)) s O z (pkO q) wx)) (fun i _ => n - (intOf i).toNat)
              case atStart => exact ⟨0, s, O1, _, by omega, rfl, HT0, HQ0⟩
              case round =>
                obtain ⟨k, s, O1, q, hk, rfl, HS, HP⟩ := hrel
                by_cases hlt : k < n
                · have hkl : (k : Int) < (n : Int) := by omega
                  obtain ⟨mb, hbs, he2, hlx, hnx⟩ := HS.out.next hlt
                  have HBS := Lib.hid hbs
                  have HE2 := Lib.hid he2
                  have HNX := Lib.hid hnx
                  generalize s.pkt mb = pn at hbs HBS HNX hlx
                  have HLX := Lib.hid hlx
                  clear hbs he2 hnx hlx
                  go_wp2_with fail
                  refine (HA.out.best HP.out.has.inv HS.out.ok (HA.out.tab HT.out HP.out.has.below)).mono ?_
                  rintro e w3 ⟨he, hb3⟩
                  rw [HBS.out] at he
                  simp only at he
                  subst he
                  have HP3 := Lib.hid (HP.out.later HA.out.obj hb3)
                  have HP4 := Lib.hid (HP3.out.later HA.out.obj ((Below.refl w3.heap.size w3).alloc (Nat.le_refl _) (.cells #[.int .i64 pn.f.i, .int .i64 pn.f.n, .int .i64 pn.f.l, .string pn.f.d, .int .i64 pn.fr, .int .i64 pn.tag, .bool pn.lp] 32)))
                  have HN4 := Lib.hid (BoxP.made w3 pn)
                  clear hb3
                  go_upto_region 23 with fail
                  have HNZ : Hid (¬ O1 w3.heap.size) := Lib.hid (fun h => absurd (HA.out.obj.lt HP3.out.has.inv _ h) (Nat.lt_irrefl _))
                  have hz2 : w3.heap.size ≠ z := fun e => by have := heap_some_lt HP3.out.box; omega
                  generalize w3.heap.size = z2 at HN4 hz2 HNZ ⊢
                  generalize w3.alloc (.cells #[.int .i64 pn.f.i, .int .i64 pn.f.n, .int .i64 pn.f.l, .string pn.f.d, .int .i64 pn.fr, .int .i64 pn.tag, .bool pn.lp] 32) = wa at HP4 HN4 ⊢
                  obtain ⟨kq, hkq⟩ : ∃ kq, keyG q.f = kq := ⟨_, rfl⟩
                  obtain ⟨kp, hkp⟩ : ∃ kp, keyG pn.f = kp := ⟨_, rfl⟩
                  have Kkq : Hid (keyV q.f.i q.f.n q.f.l q.f.d.size = kq) := Lib.hid hkq
                  have Kkp : Hid (keyV pn.f.i pn.f.n pn.f.l pn.f.d.size = kp) := Lib.hid hkp
                  have hbq : BoxP wa z q := HP4.out.box
                  obtain ⟨c0, c1, c2, c3, c4, c5, c6⟩ := hbq.cells
                  obtain ⟨d0, d1, d2, d3, d4, d5, d6⟩ := HN4.out.cells
                  have hcq : ∀ (r : KLater (fun _ => False) wa) (o : Nat), r.w.cell? ⟨z, o, none⟩ = wa.cell? ⟨z, o, none⟩ := fun r o => r.cell z o hbq.lt (fun h => h)
                  have hcp : ∀ (r : KLater (fun _ => False) wa) (o : Nat), r.w.cell? ⟨z2, o, none⟩ = wa.cell? ⟨z2, o, none⟩ := fun r o => r.cell z2 o HN4.out.lt (fun h => h)
                  refine wp_region_st 6 [] (fun _ _ w' => Below wa.heap.size wa w') [] (Below.refl _ _).drew (by kernel_rfl) (by kernel_rfl) (by kernel_rfl) (by kernel_rfl) (by kernel_rfl) (by kernel_rfl) (by kernel_rfl) ?_
                  simp only [List.take_succ_cons, List.take_zero, List.drop_succ_cons, List.drop_zero]
                  repeat (refine st_plain (O := fun _ => False) (fun h => .of_below h) (by rfl) (by rfl) (by rfl) (by rfl) (by rfl) ?_; intro K hK; go_big_quiet_op; go_big_quiet_on)
                  refine st_call (f := 17) (args := #[.agg #[.int .i64 q.f.i, .int .i64 q.f.n, .int .i64 q.f.l, .string q.f.d]]) (v := .int .i64 kq) (by rfl) (by rfl) (by rfl) (by rfl) (by rfl) (fun w => by simp [go_sem]) (fun j xs w' hG => (rkey_v (Kkq.out) w').mono (fun x w'' h => ⟨h.1, fbelow_t hG h.2⟩)) ?_
                  simp only [Act.put, List.setIfInBounds_toArray, List.set_cons_succ, List.set_cons_zero]
                  repeat (refine st_plain (O := fun _ => False) (fun h => .of_below h) (by rfl) (by rfl) (by rfl) (by rfl) (by rfl) ?_; intro K hK; go_big_quiet_op; go_big_quiet_on)
                  refine st_call (f := 17) (args := #[.agg #[.int .i64 pn.f.i, .int .i64 pn.f.n, .int .i64 pn.f.l, .string pn.f.d]]) (v := .int .i64 kp) (by rfl) (by rfl) (by rfl) (by rfl) (by rfl) (fun w => by simp [go_sem]) (fun j xs w' hG => (rkey_v (Kkp.out) w').mono (fun x w'' h => ⟨h.1, fbelow_t hG h.2⟩)) ?_
                  simp only [Act.put, List.setIfInBounds_toArray, List.set_cons_succ, List.set_cons_zero]
                  intro ys xs w4 hF h4
                  simp only [secFill]
                  have HP5 := Lib.hid (HP4.out.later HA.out.obj h4)
                  have HN5 := Lib.hid (HN4.out.later h4)
                  have hbq5 : BoxP w4 z q := HP5.out.box
                  clear c0 c1 c2 c3 c4 c5 c6 d0 d1 d2 d3 d4 d5 d6 hcq hcp hF h4 hbq
                  have hcs : (k = 0) ∨ (0 < k ∧ kq < kp) ∨ (0 < k ∧ kp = kq ∧ q.tag < pn.tag) := by
                    by_cases h0 : k = 0
                    · exact .inl h0
                    · rcases HLX.out (by omega) with h1 | ⟨h1, h2⟩
                      · rw [hkq, hkp] at h1; exact .inr (.inl ⟨by omega, h1⟩)
                      · rw [hkq, hkp] at h1; exact .inr (.inr ⟨by omega, h1.symm, h2⟩)
                  clear hkq hkp
                  go_wp2_with fail
                  refine (HA.out.sent (mb : Int) HP5.out.has.inv HS.out.ok).mono ?_
                  rintro e w5 ⟨he, O5, hi, hkp, hg⟩
                  rw [HE2.out] at he
                  subst he
                  have HP6 := Lib.hid (HP5.out.step HA.out.obj hi hkp hg)
                  have HN6 := Lib.hid (HN5.out.kept hkp HNZ.out)
                  have hbq6 : BoxP w5 z q := HP6.out.box
                  obtain ⟨c0, c1, c2, c3, c4, c5, c6⟩ := hbq6.cells
                  obtain ⟨d0, d1, d2, d3, d4, d5, d6⟩ := HN6.out.cells
                  have cl : ∀ j, w5.frozen? ⟨z, j, none⟩ = false := fun j => Lib.frozen_of_heap hbq6 j
                  have HP7 := Lib.hid (HP6.out.put HA.out.obj HZ.out pn)
                  clear hi hkp hg hbq5 hbq6
                  have hz3 : ¬ z2 = z := hz2
                  rcases hcs with h0 | ⟨h0, h1⟩ | ⟨h0, h1, h2⟩
                  · have b0 : decide ((0 : Int) < (k : Int)) = false := decide_eq_false (by omega)
                    go_wp2
                    go_roundw
                    case rel => exact ⟨k + 1, _, O5, pn, by omega, by go_num, HNX, HP7⟩
                    case measure => simp [intOf]; omega
                  · have b0 : decide ((0 : Int) < (k : Int)) = true := decide_eq_true (by omega)
                    have b1 : decide (kp < kq) = false := decide_eq_false (by omega)
                    have b2 : (kp == kq) = false := by simp; omega
                    clear h0 h1
                    go_wp2
                    all_goals (
                      go_roundw
                      case rel => exact ⟨k + 1, _, O5, pn, by omega, by go_num, HNX, HP7⟩
                      case measure => simp [intOf]; omega)
                  · have b0 : decide ((0 : Int) < (k : Int)) = true := decide_eq_true (by omega)
                    have b3 : decide (pn.tag ≤ q.tag) = false := decide_eq_false (by omega)
                    subst h1
                    clear h0 h2
                    go_wp2
                    all_goals (
                      go_roundw
                      case rel => exact ⟨k + 1, _, O5, pn, by omega, by go_num, HNX, HP7⟩
                      case measure => simp [intOf]; omega)
                · obtain rfl : k = n := by omega
                  have HBS := Lib.hid HS.out.done
                  go_wp2_with fail
                  refine (HA.out.best HP.out.has.inv HS.out.ok (HA.out.tab HT.out HP.out.has.below)).mono ?_
                  rintro e w3 ⟨he, hb3⟩
                  rw [HBS.out] at he
                  simp only at he
                  subst he
                  have HP3 := Lib.hid (HP.out.has.later HA.out.obj hb3)
                  have HP4 := Lib.hid (HP3.out.later HA.out.obj ((Below.refl w3.heap.size w3).alloc (Nat.le_refl _) (.cells #[.int .i64 pk0.f.i, .int .i64 pk0.f.n, .int .i64 pk0.f.l, .string pk0.f.d, .int .i64 pk0.fr, .int .i64 pk0.tag, .bool pk0.lp] 32)))
                  clear hb3
                  go_wp2_with fail
                  refine (boxalive HA.out _ (HA.out.tab HT.out HP4.out.below)).mono ?_
                  rintro e w6 ⟨rfl, hb6⟩
                  have H6 := Lib.hid (fbelow_t HP4.out.below hb6)
                  clear hb6
                  go_wp2
                  go_ret
                  exact ⟨rfl, H6.out⟩
        · have hb' : ¬ (m : Int) ≤ 3000 := by omega
          go_wp2_with fail
          refine (boxalive HA.out _ HT.out).mono ?_
          rintro e w1 ⟨rfl, hb1⟩
          go_wp2
          go_ret
          exact ⟨rfl, hb1⟩
      · have ha' : ¬ (L.length : Int) ≤ 100 := by omega
        obtain rfl : k = 101 := by omega
        have ha2 : (101 : Int) < (L.length : Int) ∨ ¬ (101 : Int) < (L.length : Int) := by omega
        generalize ftN L 101 = m at HN
        clear hlt hk hk41
        rcases ha2 with ha2 | ha2
        · go_wp2_with fail
          refine (boxalive HA.out _ HT.out).mono ?_
          rintro e w1 ⟨rfl, hb1⟩
          go_wp2
          go_ret
          exact ⟨rfl, hb1⟩
        · go_wp2_with fail
          refine (boxalive HA.out _ HT.out).mono ?_
          rintro e w1 ⟨rfl, hb1⟩
          go_wp2
          go_ret
          exact ⟨rfl, hb1⟩
end Go.Proofs.YtghmidpbfpfcoaaDoor
