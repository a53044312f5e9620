/- Ring: the chapter's example; walks of RingNil, RingOwn, over what the walks ask of the code (XRngB). Ring: walk of RingOrder, over what the walks ask of the code (XRngB). Ring: the memory of RingPlays: a row, the document's row behind an address. -/
import Derived.Test.YtbjijmdknlopdaaZad
import Derived.Test.YtbjijmdknlopdaaZac
namespace Go.Proofs.Ytbjijmdknlopdaa
open Go.RowKit
set_option linter.unusedVariables false

theorem Has.drewN {σ : Type} {I : World → Value → σ → (Nat → Prop) → Prop} {w0 w : World} {v : Value} {s : σ} {O : Nat → Prop} (hI : IsObj I) (h : Has I w0 v s O w) (n : Nat) : Has I w0 v s O (w.drewN n) := h.later hI (below_drewN (Below.refl _ _) n)
theorem Has.stp {σ : Type} {I : World → Value → σ → (Nat → Prop) → Prop} {w0 w w' : World} {v : Value} {s s' : σ} {O : Nat → Prop} (hI : IsObj I) (h : Has I w0 v s O w) (hs : Stp I v O w s' w') : ∃ O', Has I w0 v s' O' w' ∧ Kept O w w' ∧ Grows O w O' := by
  obtain ⟨O', hi, hk, hg⟩ := hs
  exact ⟨O', h.step hI hi hk hg, hk, hg⟩
abbrev RingI (I : World → Value → Rg Int → (Nat → Prop) → Prop) : Prop := RingApiR Try.prog (fun x : Int => .int .i64 x) (.int .i64 0) 8 11 14 13 16 17 18 20 15 I

theorem has_made {σ : Type} {I : World → Value → σ → (Nat → Prop) → Prop} {w0 w1 : World} {v : Value} {s : σ} {O : Nat → Prop} (hb0 : Below w0.heap.size w0 w1) {w : World} (hi : I w v s O) (hb : Below w1.heap.size w1 w) (hn : ∀ k, O k → w1.heap.size ≤ k) : Has I w0 v s O w :=
  ⟨hi, hb0.trans (hb.mono hb0.size), fun k hk => Nat.le_trans hb0.size (hn k hk)⟩

set_option maxHeartbeats 2000000 in
theorem ralive_any {I : World → Value → Rg Int → (Nat → Prop) → Prop} (H : RingI I) (w : World) :
    Calls Try.prog 7 #[] w fun e w' => e = .returned (.bool true) ∧ Below w.heap.size w w' := by
  have HA := Lib.hid H
  go_enter Try.func7, Try.ntmps7
  go_wp2_with fail
  refine (HA.out.new 1 _).mono ?_
  rintro e w1 ⟨v, O, rfl, hi, hb, hn⟩
  have HS := Lib.hid (has_made (Below.refl w.heap.size w) hi hb hn)
  obtain ⟨a, rfl⟩ := HA.out.ptr hi
  clear hi hb hn
  go_wp2_with fail
  refine (HA.out.put_t 7 HS.out.inv (by decide)).mono ?_
  rintro e w2 ⟨rfl, hs⟩
  obtain ⟨O2, h2, -, -⟩ := HS.out.stp HA.out.obj hs
  have HS2 := Lib.hid h2
  clear h2 hs
  go_wp2_with fail
  refine (HA.out.put_f 8 HS2.out.inv (by decide) (by decide)).mono ?_
  rintro e w3 ⟨rfl, hs⟩
  obtain ⟨O3, h3, -, -⟩ := HS2.out.stp HA.out.obj hs
  have HS3 := Lib.hid h3
  clear h3 hs
  go_wp2_with fail
  refine (HA.out.take_t (x := 7) (L := []) HS3.out.inv).mono ?_
  rintro e w4 ⟨rfl, hs⟩
  obtain ⟨O4, h4, -, -⟩ := HS3.out.stp HA.out.obj hs
  have HS4 := Lib.hid h4
  clear h4 hs
  go_wp2_with fail
  refine (HA.out.take_f HS4.out.inv).mono ?_
  rintro e w5 ⟨rfl, hs⟩
  obtain ⟨O5, h5, -, -⟩ := HS4.out.stp HA.out.obj hs
  have HS5 := Lib.hid h5
  clear h5 hs
  go_wp2_with fail
  refine (HA.out.lost HS5.out.inv).mono ?_
  rintro e w6 ⟨rfl, n, rfl⟩
  have HS6 := Lib.hid (HS5.out.drewN HA.out.obj n)
  generalize w5.drewN n = w6 at HS6 ⊢
  go_wp2_with fail
  refine (HA.out.room HS6.out.inv).mono ?_
  rintro e w7 ⟨rfl, n2, rfl⟩
  go_wp2
  go_ret
  exact ⟨rfl, below_drewN HS6.out.below n2⟩

/-! ### RingNil -/
set_option maxHeartbeats 2000000 in
theorem ringNil_walk {I : World → Value → Rg Int → (Nat → Prop) → Prop} (H : RingI I) (HN : RingNone (α := Int) Try.prog (fun x => .int .i64 x) (.int .i64 0) 11 14 13 16 17 18 20 15)
    (a0 : Int) (w0 : (Lit.int .i64 a0).wf = true) (w : World) : Calls Try.prog 6 #[.int .i64 a0] w fun e w' => e = .returned (.bool true) ∧ Below w.heap.size w w' := by
  have HA := Lib.hid H
  have HNN := Lib.hid HN
  clear HN
  go_enter Try.func6, Try.ntmps6
  go_wp2_with fail
  refine (HNN.out.take _).mono ?_
  rintro e w1 ⟨rfl, hb⟩
  have HB1 := Lib.hid hb
  clear hb
  go_wp2_with fail
  refine (HNN.out.peek _).mono ?_
  rintro e w2 ⟨rfl, hb⟩
  have HB2 := Lib.hid (fbelow_t HB1.out hb)
  clear hb
  go_wp2_with fail
  refine (HNN.out.len _).mono ?_
  rintro e w3 ⟨rfl, hb⟩
  have HB3 := Lib.hid (fbelow_t HB2.out hb)
  clear hb
  go_wp2_with fail
  refine (HNN.out.room _).mono ?_
  rintro e w4 ⟨rfl, hb⟩
  have HB4 := Lib.hid (fbelow_t HB3.out hb)
  clear hb
  go_wp2_with fail
  refine (HNN.out.lost _).mono ?_
  rintro e w5 ⟨rfl, hb⟩
  have HB5 := Lib.hid (fbelow_t HB4.out hb)
  clear hb
  go_wp2_with fail
  refine (HNN.out.clear _).mono ?_
  rintro e w6 ⟨rfl, hb⟩
  have HB6 := Lib.hid (fbelow_t HB5.out hb)
  clear hb
  go_wp2_with fail
  refine (HNN.out.all _).mono ?_
  rintro e w7 ⟨⟨A, c, rfl⟩, hb⟩
  have HB7 := Lib.hid (fbelow_t HB6.out hb)
  clear hb
  go_wp2_with fail
  refine (HNN.out.put a0 _).mono ?_
  rintro e w8 ⟨rfl, hb⟩
  have HB8 := Lib.hid (fbelow_t HB7.out hb)
  clear hb
  go_wp2_with fail
  refine (ralive_any HA.out _).mono ?_
  rintro e w9 ⟨rfl, hb⟩
  have HB9 := Lib.hid (fbelow_t HB8.out hb)
  clear hb
  go_wp2
  go_ret
  exact ⟨rfl, HB9.out⟩

/-! ### RingOwn -/
set_option maxHeartbeats 4000000 in
theorem ringOwn_walk {I : World → Value → Rg Int → (Nat → Prop) → Prop} (H : RingI I) (a : Option Addr) (len cap : Nat) (F : Nat → List Value) (a1 : Int) (w : World) (hr : IsRowOf w [.int .i64] a len cap F) (w1 : (Lit.int .i64 a1).wf = true) :
    Calls Try.prog 5 #[.slice a len cap, .int .i64 a1] w fun e w' => e = .returned (.bool true) ∧ Below w.heap.size w w' := by
  obtain ⟨L, hL, hlen, hf⟩ := slice_of_row hr numOf numOf_c rfl (by decide)
  have HA := Lib.hid H
  have HV := Lib.hid hL
  subst hlen
  have hlen2 : L.length ≤ maxLen := by obtain ⟨_, _, _, h, _⟩ := hL; exact h
  unfold maxLen at hlen2
  clear hL hr hf
  by_cases h50 : L.length ≤ 50
  · have hd : decide (50 < L.length) = false := by simp; omega
    go_enter Try.func5, Try.ntmps5
    go_wp2_with fail
    refine (HA.out.new a1 _).mono ?_
    rintro e w2 ⟨v, O, rfl, hi, hb, hn⟩
    have HS := Lib.hid (has_made (Below.refl w.heap.size w) hi hb hn)
    have hrg := HA.out.rng hi
    obtain ⟨p, rfl⟩ := HA.out.ptr hi
    simp only at hrg
    generalize (roomN a1).toNat = m at HS hrg
    have HRG := Lib.hid hrg
    clear hi hb hn hrg
    go_wp2_with fail
    go_loopw [19] (fun i wr => ∃ k : Nat, k ≤ L.length ∧ i = .int .i64 k ∧ Hid (∃ s O, Has I w (.pointer (some p)) s O wr ∧ s.m = m ∧ s.L.length = min k m ∧ s.n ≤ k)) (fun i _ => L.length - (intOf i).toNat)
    case atStart => exact ⟨0, Nat.zero_le _, rfl, Lib.hid ⟨_, O, HS.out, rfl, by simp, Nat.le_refl _⟩⟩
    case round =>
      obtain ⟨wo, rfl⟩ : ∃ wo : World, wo = wr := ⟨_, rfl⟩
      obtain ⟨k, hk, rfl, HI⟩ := hrel
      obtain ⟨s, O2, h1, h2, h3, h4⟩ := HI.out
      have HS2 := Lib.hid h1
      have HSM := Lib.hid (And.intro h2 (And.intro h3 h4))
      clear h1 h2 h3 h4 HI
      by_cases hlt : k < L.length
      · obtain ⟨x, c1, hv1, hxb, c0⟩ := SlG.at1 (HV.out.later HS2.out.below) hlt rfl
        injection hv1 with hAA _ hcap
        subst hAA
        subst hcap
        generalize L[k] = y at c0
        by_cases hfull : s.L.length < s.m
        · go_wp2_with fail
          refine (HA.out.put_t y HS2.out.inv hfull).mono ?_
          rintro e w3 ⟨rfl, hs⟩
          obtain ⟨O3, h3, -, -⟩ := HS2.out.stp HA.out.obj hs
          have HS3 := Lib.hid h3
          have HM3 : Hid (min (k + 1) m = s.L.length + 1) := Lib.hid (by have := HSM.out; omega)
          clear h3 hs c0 hfull
          go_wp2
          go_roundw
          case rel => exact ⟨k + 1, by omega, by go_num, Lib.hid ⟨_, _, HS3.out, HSM.out.1, by rw [HM3.out]; simp, by have := HSM.out.2.2; simp only; omega⟩⟩
          case measure => simp [intOf]; omega
        · go_wp2_with fail
          refine (HA.out.put_f y HS2.out.inv (by have := (HA.out.rng HS2.out.inv).1; omega) (by have := HSM.out.2.2; omega)).mono ?_
          rintro e w3 ⟨rfl, hs⟩
          obtain ⟨O3, h3, -, -⟩ := HS2.out.stp HA.out.obj hs
          have HS3 := Lib.hid h3
          have HM3 : Hid (min (k + 1) m = s.L.length) := Lib.hid (by have := HSM.out; omega)
          clear h3 hs c0 hfull
          go_wp2
          go_roundw
          case rel => exact ⟨k + 1, by omega, by go_num, Lib.hid ⟨_, _, HS3.out, HSM.out.1, by rw [HM3.out], by have := HSM.out.2.2; simp only; omega⟩⟩
          case measure => simp [intOf]; omega
      · obtain rfl : k = L.length := by omega
        have HSL : Hid (s.L.length ≤ 1000) := Lib.hid (by have := HA.out.rng HS2.out.inv; omega)
        go_wp2_with fail
        refine (HA.out.all HS2.out.inv).mono ?_
        rintro e w3 ⟨u1, rfl, hf1, hb3⟩
        have HS3 := Lib.hid (HS2.out.later HA.out.obj hb3)
        have HO3 : Hid (∀ k, O2 k → k < wo.heap.size) := Lib.hid (HA.out.obj.lt HS2.out.inv)
        have HBW := Lib.hid HS2.out.below.size
        have HZ3 := Lib.hid hb3.size
        have hu1 : ∃ A1 cap1, u1 = .slice A1 s.L.length cap1 := by
          rcases hf1 with ⟨h1, h2⟩ | ⟨g, o, c, h1, _⟩
          · exact ⟨none, 0, by rw [h1, h2]; rfl⟩
          · exact ⟨_, _, h1⟩
        obtain ⟨A1, cap1, rfl⟩ := hu1
        have HW3 := Lib.hid hf1.wr.2
        clear hf1 hb3
        go_wp2_with fail
        refine (HA.out.all HS3.out.inv).mono ?_
        rintro e w4 ⟨u2, rfl, hf2, hb4⟩
        have HS4 := Lib.hid (HS3.out.later HA.out.obj hb4)
        have HW4 := Lib.hid (HW3.out.later hb4)
        have HL4 : Hid (SlA intC 1 w4 (fun k => k < w3.heap.size) u2 s.L) := Lib.hid (FreeA.sla (fun _ => rfl) hf2 (by have := HSL.out; unfold maxLen; omega) (fun k h => h))
        have HB4 : Hid (∀ i, i < s.L.length → ∀ g o, A1 = some ⟨g, o, none⟩ → g < w3.heap.size) := Lib.hid (fun i hi g o he => by
          obtain ⟨g', o', x, h1, _, h2, _⟩ := HW3.out i hi
          rw [he] at h1
          injection h1 with h1
          injection h1 with h1
          subst h1
          exact h2)
        obtain ⟨A2, cap2, rfl, -, -⟩ := HL4.out
        clear hf2 hb4 HW3 HS2 HS3
        go_wp2_with fail
        go_loopw [33] (fun i wx => ∃ k : Nat, k ≤ s.L.length ∧ i = .int .i64 k ∧ Hid (Has I w (.pointer (some p)) s O2 wx ∧ SlA intC 1 wx (fun k => k < w3.heap.size) (.slice A2 s.L.length cap2) s.L ∧ WrI wo.heap.size wx A1 s.L.length)) (fun i _ => s.L.length - (intOf i).toNat)
        case atStart => exact ⟨0, Nat.zero_le _, rfl, Lib.hid ⟨HS4.out, HL4.out, HW4.out⟩⟩
        case round =>
          obtain ⟨k, hk, rfl, HJ⟩ := hrel
          by_cases hlt2 : k < s.L.length
          · obtain ⟨g, o, x, hAe, hB, hg, hc, hfz⟩ := HJ.out.2.2 k hlt2
            subst hAe
            have hgn : ¬ O2 g := fun h => by have := HO3.out g h; omega
            have hgw : w.heap.size ≤ g := Nat.le_trans HBW.out hB
            have hg3 := HB4.out k hlt2 g o rfl
            have HJ2 : Hid (∀ y, Has I w (.pointer (some p)) s O2 (wr.setCell ⟨g, o + k, none⟩ (.int .i64 y))) := Lib.hid (fun y => HJ.out.1.setCell HA.out.obj (p := ⟨g, o + k, none⟩) hgw hgn _)
            have HJ3 : Hid (∀ y, SlA intC 1 (wr.setCell ⟨g, o + k, none⟩ (.int .i64 y)) (fun k => k < w3.heap.size) (.slice A2 s.L.length cap2) s.L) := Lib.hid (fun y => HJ.out.2.1.set (p := ⟨g, o + k, none⟩) hg3 _)
            have HJ4 : Hid (∀ y : Int, WrI wo.heap.size (wr.setCell ⟨g, o + k, none⟩ (.int .i64 y)) (some ⟨g, o, none⟩) s.L.length) := Lib.hid (fun y => HJ.out.2.2.set rfl hc)
            clear hgn hgw hg3 hB
            have hsl := HSL.out
            go_wp2_with fail
            go_roundw
            case rel => exact ⟨k + 1, by omega, by go_num, Lib.hid ⟨HJ2.out _, HJ3.out _, HJ4.out _⟩⟩
            case measure => simp [intOf]; omega
          · obtain rfl : k = s.L.length := by omega
            have HVL : Hid (min L.length m = s.L.length) := Lib.hid (by have := HSM.out; omega)
            go_wp2_with fail
            refine (HA.out.all HJ.out.1.inv).mono ?_
            rintro e w5 ⟨u3, rfl, hf3, hb5⟩
            have HS5 := Lib.hid (HJ.out.1.later HA.out.obj hb5)
            have HL5 : Hid (SlI w5 u3 s.L) := Lib.hid (FreeA.sla (O := fun _ => False) (fun _ => rfl) hf3 (by have := HSL.out; unfold maxLen; omega) (fun k h => h.elim)).sl
            have HL6 : Hid (SlI w5 (.slice A2 s.L.length cap2) s.L) := Lib.hid (HJ.out.2.1.sl.later hb5)
            obtain ⟨A3, cap3, rfl, -, -⟩ := HL5.out
            clear hf3 hb5
            go_wp2_with fail
            refine (sints_v (q := true) (by simp) _ HL5.out HL6.out).mono ?_
            rintro e w6 ⟨rfl, n6, rfl⟩
            have HS6 := Lib.hid (HS5.out.drewN HA.out.obj n6)
            generalize w5.drewN n6 = w6 at HS6 ⊢
            go_wp2_with fail
            refine (HA.out.room HS6.out.inv).mono ?_
            rintro e w7 ⟨rfl, n7, rfl⟩
            have HS7 := Lib.hid (HS6.out.drewN HA.out.obj n7)
            generalize w6.drewN n7 = w7 at HS7 ⊢
            have hsm := HSM.out.1
            rw [hsm]
            clear hsm
            have hmn : ∀ (ts : Array TypeId) (t : TypeId) (W : World), (Builtin.min_ ts t #[.int .i64 (L.length : Int), .int .i64 (m : Int)]).run Try.prog W = .ok (.int .i64 (s.L.length : Int)) W := fun ts t W => by
              have := HVL.out
              simp [Builtin.min_, Builtin.min2]; omega
            go_wp2_with fail
            refine (ralive_any HA.out _).mono ?_
            rintro e w8 ⟨rfl, hb8⟩
            go_wp2
            go_ret
            exact ⟨rfl, fbelow_t HS7.out.below hb8⟩
  · have hd : decide (50 < L.length) = true := by simp; omega
    go_enter Try.func5, Try.ntmps5
    go_wp2_with fail
    refine (ralive_any HA.out _).mono ?_
    rintro e w2 ⟨rfl, hb⟩
    go_wp2
    go_ret
    exact ⟨rfl, hb⟩
end Go.Proofs.Ytbjijmdknlopdaa

namespace Go.Proofs.Ytbjijmdknlopdaa
open Go.RowKit
set_option linter.unusedVariables false

abbrev RingS (I : World → Value → Rg ByteArray → (Nat → Prop) → Prop) : Prop := RingApi Try.prog (fun x : ByteArray => .string x) (.string (ByteArray.mk #[])) 21 23 22 30 25 51 26 24 27 I
theorem flat_str : FlatE Try.prog 44 9 1 16 := by
  obtain ⟨i0, hi, hz0, hz1, hz2⟩ := info_parts info_str
  exact ⟨Try.underlying44, i0, _, hi, hz0, hz1, hz2, rfl, by decide, by decide⟩
theorem strC_one : ∀ a : ByteArray, ∀ u ∈ strC a, u.oneCell' = true := fun a u hu => by
  simp only [strC, List.mem_cons, List.not_mem_nil, or_false] at hu
  subst hu; rfl
/-- the memory of RingOrder: a row, and two rows of its own -/
structure OrdM {σ : Type} (I : World → Value → σ → (Nat → Prop) → Prop) (E : TypeId) (w : World) (r : Value) (s : σ) (O : Nat → Prop) (v u : Value) (IN OUT : List ByteArray) (wr : World) : Prop where
  has : Has I w r s O wr
  inn : wr.ownsRow w.heap.size E 1 v IN.length (rowG strC IN)
  out : wr.ownsRow w.heap.size E 1 u OUT.length (rowG strC OUT)
  a1 : Apart O (OwnO v)
  a2 : Apart O (OwnO u)
  a3 : Apart (OwnO v) (OwnO u)
section
variable {σ : Type} {I : World → Value → σ → (Nat → Prop) → Prop} {E : TypeId} {w wr w' : World} {r v u v' : Value} {s s' : σ} {O : Nat → Prop} {IN OUT IN' OUT' : List ByteArray}
theorem OrdM.step (hI : IsObj I) (h : OrdM I E w r s O v u IN OUT wr) (hs : Stp I r O wr s' w') : ∃ O', OrdM I E w r s' O' v u IN OUT w' := by
  obtain ⟨O', hi, hk, hg⟩ := hs
  refine ⟨O', h.has.step hI hi hk hg, own_stay h.inn (fun g hg => hk.block g (own_lt h.inn g hg) (fun ho => h.a1 g ho hg)), own_stay h.out (fun g hg => hk.block g (own_lt h.out g hg) (fun ho => h.a2 g ho hg)), h.a1.step (own_lt h.inn) hg, h.a2.step (own_lt h.out) hg, h.a3⟩
theorem OrdM.later (hI : IsObj I) (h : OrdM I E w r s O v u IN OUT wr) (hb : Below wr.heap.size wr w') : OrdM I E w r s O v u IN OUT w' :=
  ⟨h.has.later hI hb, ownG_below h.inn hb, ownG_below h.out hb, h.a1, h.a2, h.a3⟩
theorem OrdM.grow_out (hI : IsObj I) (h : OrdM I E w r s O v u IN OUT wr) (ho : w'.ownsRow w.heap.size E 1 v' OUT'.length (rowG strC OUT')) (hk : Kept (OwnO u) wr w') (hg : Grows (OwnO u) wr (OwnO v')) : OrdM I E w r s O v v' IN OUT' w' := by
  refine ⟨⟨hI.stay h.has.inv (fun k hk' => hk.block k (hI.lt h.has.inv k hk') (fun e => h.a2 k hk' e)), hk.below h.has.below h.has.below.size (own_ge h.out), h.has.new⟩, own_stay h.inn (fun g hg => hk.block g (own_lt h.inn g hg) (fun e => h.a3 g hg e)), ho, h.a1, ?_, ?_⟩
  · exact (h.a2.symm.step (hI.lt h.has.inv) hg).symm
  · exact (h.a3.symm.step (own_lt h.inn) hg).symm
theorem OrdM.grow_in (hI : IsObj I) (h : OrdM I E w r s O v u IN OUT wr) (ho : w'.ownsRow w.heap.size E 1 v' IN'.length (rowG strC IN')) (hk : Kept (OwnO v) wr w') (hg : Grows (OwnO v) wr (OwnO v')) : OrdM I E w r s O v' u IN' OUT w' := by
  refine ⟨⟨hI.stay h.has.inv (fun k hk' => hk.block k (hI.lt h.has.inv k hk') (fun e => h.a1 k hk' e)), hk.below h.has.below h.has.below.size (own_ge h.inn), h.has.new⟩, ho, own_stay h.out (fun g hg => hk.block g (own_lt h.out g hg) (fun e => h.a3 g e hg)), ?_, h.a2, ?_⟩
  · exact (h.a1.symm.step (hI.lt h.has.inv) hg).symm
  · exact h.a3.step (own_lt h.out) hg
end
theorem ord_strs {w : World} {B : Nat} {v : Value} {L : List ByteArray} (h : w.ownsRow B 9 1 v L.length (rowG strC L)) (hm : L.length ≤ 1000000) : SlS w v L := GathG.slS (B := 0) (w0 := w) ⟨own_low h (Nat.zero_le _), Below.refl _ _, Nat.zero_le _⟩ hm
theorem FreeA.rd {α : Type} {c : α → Value} {cc : α → List Value} (hcc : ∀ a, cc a = [c a]) {B : Nat} {w : World} {v : Value} {L : List α} (h : FreeA c B w v L) (hm : L.length ≤ maxLen) : RdA cc 1 w v L := by
  refine ⟨(FreeA.sla (O := fun _ => False) hcc h hm (fun _ h => h.elim)).sl, ?_⟩
  rcases h with ⟨h1, _⟩ | ⟨g, o, cap, h1, h2, _⟩
  · exact .inl h1
  · exact .inr ⟨_, cap, h1, h2⟩

set_option maxHeartbeats 4000000 in
theorem ringOrder_walk {I : World → Value → Rg Int → (Nat → Prop) → Prop} (H : RingI I) {J : World → Value → Rg ByteArray → (Nat → Prop) → Prop} (HS : RingS J)
    (a0 : Int) (a : Option Addr) (len cap : Nat) (F : Nat → List Value) (a2 : Int) (w : World) (w0 : (Lit.int .i64 a0).wf = true) (hr : IsRowOf w [.str] a len cap F) (w2 : (Lit.int .i64 a2).wf = true) :
    Calls Try.prog 4 #[.int .i64 a0, .slice a len cap, .int .i64 a2] w fun e w' => e = .returned (.bool true) ∧ Below w.heap.size w w' := by
  obtain ⟨L, hL, hlen, hf⟩ := slice_of_row hr strOf strOf_c rfl (by decide)
  have HA := Lib.hid H
  have HB := Lib.hid HS
  have HV := Lib.hid hL
  subst hlen
  have hlen2 : L.length ≤ maxLen := by obtain ⟨_, _, _, h, _⟩ := hL; exact h
  unfold maxLen at hlen2
  clear hL hr hf HS
  by_cases hc : L.length ≤ 300 ∧ 0 ≤ a2 ∧ a2 ≤ 5
  · obtain ⟨h1, h2, h3⟩ := hc
    have d1 : decide (300 < L.length) = false := by simp; omega
    have d2 : decide (a2 < 0) = false := by simp; omega
    have d3 : decide (5 < a2) = false := by simp; omega
    obtain ⟨t, rfl⟩ := Int.eq_ofNat_of_zero_le h2
    have h3' : t ≤ 5 := by omega
    go_enter Try.func4, Try.ntmps4
    go_wp2_with fail
    refine (HB.out.new a0 _).mono ?_
    rintro e w1 ⟨r, O, rfl, hi, hb, hn⟩
    have HM : Hid (OrdM J 9 w r ⟨[], (roomN a0).toNat, 0⟩ O (.slice none 0 0) (.slice none 0 0) [] [] w1) := Lib.hid ⟨has_made (Below.refl w.heap.size w) hi hb hn, World.ownsRow_nil _ _ _ _, World.ownsRow_nil _ _ _ _, apart_nil _, apart_nil _, apart_nil _⟩
    obtain ⟨p, rfl⟩ := HB.out.ptr hi
    clear hi hb hn
    go_wp2_with fail
    go_loopw [8, 9, 10, 33] (fun v u q i wr => ∃ k : Nat, ∃ (s : Rg ByteArray) (O : Nat → Prop) (IN OUT : List ByteArray), k ≤ L.length ∧ i = .int .i64 k ∧ q = .int .i64 s.n ∧ s.n ≤ k ∧ IN.length ≤ k ∧ Hid (OUT ++ s.L = IN ∧ OrdM J 9 w (.pointer (some p)) s O v u IN OUT wr)) (fun _ _ _ i _ => L.length - (intOf i).toNat)
    case atStart => exact ⟨0, _, O, [], [], Nat.zero_le _, rfl, rfl, Nat.le_refl _, Nat.le_refl _, Lib.hid ⟨rfl, HM.out⟩⟩
    case round =>
      obtain ⟨wo, rfl⟩ : ∃ wo : World, wo = wr := ⟨_, rfl⟩
      obtain ⟨k, s, O1, IN, OUT, hk, rfl, rfl, hn, hin, HI⟩ := hrel
      by_cases hlt : k < L.length
      · obtain ⟨x, c1, hv1, hxb, c0⟩ := SlG.at1 (HV.out.later HI.out.2.has.below) hlt rfl
        injection hv1 with hAA _ hcap
        subst hAA
        subst hcap
        generalize L[k] = y at c0
        have hd : decide (k < L.length) = true := decide_eq_true hlt
        go_wp2_with fail
        clear c0
        go_loopw [9, 38] (fun u i wr => ∃ j : Nat, ∃ (s' : Rg ByteArray) (O : Nat → Prop) (OUT' : List ByteArray), j ≤ t ∧ i = .int .i64 j ∧ s'.n = s.n ∧ Hid (OUT' ++ s'.L = IN ∧ OrdM J 9 w (.pointer (some p)) s' O u8 u IN OUT' wr)) (fun _ i _ => t - (intOf i).toNat)
        case atStart => exact ⟨0, s, O1, OUT, Nat.zero_le _, rfl, rfl, Lib.hid ⟨HI.out.1, HI.out.2⟩⟩
        case round =>
          obtain ⟨j, s', O2, OUT', hj, rfl, hsn, HJ⟩ := hrel
          have HLO : Hid (OUT'.length ≤ 300) := Lib.hid (by have := congrArg List.length HJ.out.1; rw [List.length_append] at this; omega)
          by_cases hlt2 : j < t
          · obtain ⟨Ls, m, n⟩ := s'
            cases Ls with
            | nil =>
              go_wp2_with fail
              refine (HB.out.take_f HJ.out.2.has.inv).mono ?_
              rintro e w3 ⟨rfl, hs⟩
              obtain ⟨O3, h3⟩ := HJ.out.2.step HB.out.obj hs
              have HM3 := Lib.hid h3
              clear h3 hs
              go_wp2
              go_roundw
              case rel => exact ⟨j + 1, ⟨[], m, n⟩, O3, OUT', by omega, by go_num, hsn, Lib.hid ⟨HJ.out.1, HM3.out⟩⟩
              case measure => simp [intOf]; omega
            | cons z Ls =>
              go_wp2_with fail
              refine (HB.out.take_t HJ.out.2.has.inv).mono ?_
              rintro e w3 ⟨rfl, hs⟩
              obtain ⟨O3, h3⟩ := HJ.out.2.step HB.out.obj hs
              have HM3 := Lib.hid (h3.later HB.out.obj ((Below.refl _ w3).alloc (Nat.le_refl _) (.cells #[.string z] 9)))
              have HRD : Hid (RdA strC 1 (w3.alloc (.cells #[.string z] 9)) (.slice (some ⟨w3.heap.size, 0, none⟩) 1 1) [z]) := Lib.hid (RdA.one strC_len w3 z 9 rfl rfl)
              have HEQ : Hid ((OUT' ++ [z]) ++ Ls = IN) := Lib.hid (by rw [← HJ.out.1]; simp)
              clear h3 hs
              go_wp2_with (at_builtin; refine wpList_growO (c := strC) flat_str strC_len strC_one rfl _ _ rfl rfl HM3.out.out HM3.out.has.below.size rfl HRD.out (by have := HLO.out; simp; omega) ?_)
              intro v' w4 hown hkp hgr
              have HM4 := Lib.hid (HM3.out.grow_out (OUT' := OUT' ++ [z]) HB.out.obj (by rw [List.length_append]; exact hown) hkp hgr)
              clear hown hkp hgr HM3 HRD
              go_wp2
              go_roundw
              case rel => exact ⟨j + 1, ⟨Ls, m, n⟩, O3, OUT' ++ [z], by omega, by go_num, hsn, Lib.hid ⟨HEQ.out, HM4.out⟩⟩
              case measure => simp [intOf]; omega
          · obtain rfl : j = t := by omega
            have HSN := Lib.hid hsn
            by_cases hfull : s'.L.length < s'.m
            · go_wp2_with fail
              refine (HB.out.put_t y HJ.out.2.has.inv hfull).mono ?_
              rintro e w3 ⟨rfl, hs⟩
              obtain ⟨O3, h3⟩ := HJ.out.2.step HB.out.obj hs
              have HM3 := Lib.hid (h3.later HB.out.obj ((Below.refl _ w3).alloc (Nat.le_refl _) (.cells #[.string y] 9)))
              have HRD : Hid (RdA strC 1 (w3.alloc (.cells #[.string y] 9)) (.slice (some ⟨w3.heap.size, 0, none⟩) 1 1) [y]) := Lib.hid (RdA.one strC_len w3 y 9 rfl rfl)
              have HEQ : Hid (OUT' ++ (s'.L ++ [y]) = IN ++ [y]) := Lib.hid (by rw [← HJ.out.1]; simp)
              clear h3 hs hsn
              go_wp2_with (at_builtin; refine wpList_growO (c := strC) flat_str strC_len strC_one rfl _ _ rfl rfl HM3.out.inn HM3.out.has.below.size rfl HRD.out (by simp; omega) ?_)
              intro v' w4 hown hkp hgr
              have HM4 := Lib.hid (HM3.out.grow_in (IN' := IN ++ [y]) HB.out.obj (by rw [List.length_append]; exact hown) hkp hgr)
              clear hown hkp hgr HM3 HRD
              go_wp2
              go_roundw
              case rel => exact ⟨k + 1, ⟨s'.L ++ [y], s'.m, s'.n⟩, O3, IN ++ [y], OUT', by omega, by go_num, by rw [HSN.out], by rw [HSN.out]; omega, by simp; omega, Lib.hid ⟨HEQ.out, HM4.out⟩⟩
              case measure => simp [intOf]; omega
            · go_wp2_with fail
              refine (HB.out.put_f y HJ.out.2.has.inv (by have := (HB.out.rng HJ.out.2.has.inv).1; omega) (by omega)).mono ?_
              rintro e w3 ⟨rfl, hs⟩
              obtain ⟨O3, h3⟩ := HJ.out.2.step HB.out.obj hs
              have HM3 := Lib.hid h3
              clear h3 hs hsn
              go_wp2
              go_roundw
              case rel => exact ⟨k + 1, ⟨s'.L, s'.m, s'.n + 1⟩, O3, IN, OUT', by omega, by go_num, by show _ = Value.int .i64 ((s'.n + 1 : Nat) : Int); rw [HSN.out]; go_num, by show s'.n + 1 ≤ k + 1; rw [HSN.out]; omega, by omega, Lib.hid ⟨HJ.out.1, HM3.out⟩⟩
              case measure => simp [intOf]; omega
      · obtain rfl : k = L.length := by omega
        have HLS : Hid (OUT.length + s.L.length = IN.length) := Lib.hid (by rw [← HI.out.1]; simp)
        have HLM : Hid (s.L.length ≤ 300) := Lib.hid (by have := HLS.out; omega)
        go_wp2_with fail
        refine (HB.out.all HI.out.2.has.inv).mono ?_
        rintro e w3 ⟨u3, rfl, hf3, hb3⟩
        have HM3 := Lib.hid (HI.out.2.later HB.out.obj hb3)
        have HRD := Lib.hid (FreeA.rd (cc := strC) (fun _ => rfl) hf3 (by have := HLM.out; unfold maxLen; omega))
        obtain ⟨⟨A3, cap3, rfl, -, -⟩, -⟩ := HRD.out
        clear hf3 hb3
        go_wp2_with (at_builtin; refine wpList_growO (c := strC) flat_str strC_len strC_one rfl _ _ rfl rfl HM3.out.out HM3.out.has.below.size rfl HRD.out (by have := HLS.out; omega) ?_)
        intro v' w4 hown hkp hgr
        rw [HI.out.1] at hown
        have HM4 := Lib.hid (HM3.out.grow_out (OUT' := IN) HB.out.obj (by rw [← HLS.out]; exact hown) hkp hgr)
        clear hown hkp hgr HM3 HRD
        obtain ⟨A8, c8, rfl, -, -⟩ := ord_strs HM4.out.inn (by omega)
        obtain ⟨A9, c9, rfl, -, -⟩ := ord_strs HM4.out.out (by omega)
        go_wp2_with fail
        refine (HB.out.len HM4.out.has.inv).mono ?_
        rintro e w5 ⟨rfl, n5, rfl⟩
        have HM5 := Lib.hid (HM4.out.later HB.out.obj (below_drewN (Below.refl _ _) n5))
        generalize w4.drewN n5 = w5 at HM5 ⊢
        have hin3 : IN.length ≤ 300 := by omega
        go_wp2_with fail
        refine (HB.out.lost HM5.out.has.inv).mono ?_
        rintro e w6 ⟨rfl, n6, rfl⟩
        have HM6 := Lib.hid (HM5.out.later HB.out.obj (below_drewN (Below.refl _ _) n6))
        generalize w5.drewN n6 = w6 at HM6 ⊢
        go_wp2_with fail
        refine (HB.out.clear HM6.out.has.inv).mono ?_
        rintro e w7 ⟨rfl, hs⟩
        obtain ⟨O7, h7⟩ := HM6.out.step HB.out.obj hs
        have HM7 := Lib.hid h7
        clear h7 hs
        go_wp2_with fail
        refine (HB.out.len HM7.out.has.inv).mono ?_
        rintro e w8 ⟨rfl, n8, rfl⟩
        have HM8 := Lib.hid (HM7.out.later HB.out.obj (below_drewN (Below.refl _ _) n8))
        generalize w7.drewN n8 = w8 at HM8 ⊢
        go_wp2_with fail
        refine (HB.out.lost HM8.out.has.inv).mono ?_
        rintro e w9 ⟨rfl, n9, rfl⟩
        have HM9 := Lib.hid (HM8.out.later HB.out.obj (below_drewN (Below.refl _ _) n9))
        generalize w8.drewN n9 = w9 at HM9 ⊢
        have HI9 := Lib.hid (ord_strs HM9.out.inn (by omega))
        have HO9 := Lib.hid (ord_strs HM9.out.out (by omega))
        go_wp2_with fail
        go_loopw [98] (fun i wr => ∃ j : Nat, j ≤ IN.length ∧ i = .int .i64 j ∧ ∃ m, wr = w9.drewN m) (fun i _ => IN.length - (intOf i).toNat)
        case atStart => exact ⟨0, Nat.zero_le _, rfl, 0, rfl⟩
        case round =>
          obtain ⟨j, hj, rfl, m, rfl⟩ := hrel
          by_cases hlt2 : j < IN.length
          · obtain ⟨x, c1, hv1, hxb, c0⟩ := HI9.out.at1 hlt2 rfl
            injection hv1 with hAA _ hcap
            subst hAA
            subst hcap
            obtain ⟨y, c2, hv2, hyb, d0⟩ := HO9.out.at1 hlt2 rfl
            injection hv2 with hAA _ hcap
            subst hAA
            subst hcap
            have c0' : ∀ m, (w9.drewN m).cell? (x.add j) = some (.string IN[j]) := fun _ => c0
            have d0' : ∀ m, (w9.drewN m).cell? (y.add j) = some (.string IN[j]) := fun _ => d0
            generalize IN[j] = z at c0' d0'
            clear c0 d0
            go_wp2_with fail
            go_quiet (fail)
            go_wp2
            go_roundw
            case rel => exact ⟨j + 1, by omega, by go_num, _, rfl⟩
            case measure => simp [intOf]; omega
          · obtain rfl : j = IN.length := by omega
            have HM10 := Lib.hid (HM9.out.later HB.out.obj (below_drewN (Below.refl _ _) m))
            generalize w9.drewN m = w10 at HM10 ⊢
            go_wp2_with fail
            refine (ralive_any HA.out _).mono ?_
            rintro e w11 ⟨rfl, hb⟩
            go_wp2
            go_ret
            exact ⟨rfl, fbelow_t HM10.out.has.below hb⟩
  · have HX : Hid (∀ w1 : World, Calls Try.prog 7 #[] w1 fun e w' => e = .returned (.bool true) ∧ Below w1.heap.size w1 w') := Lib.hid (fun w1 => ralive_any HA.out w1)
    by_cases h1 : 300 < L.length
    · have d1 : decide (300 < L.length) = true := by simpa using h1
      go_enter Try.func4, Try.ntmps4
      go_wp2_with fail
      refine (HX.out _).mono ?_
      rintro e w2 ⟨rfl, hb⟩
      go_wp2
      go_ret
      exact ⟨rfl, hb⟩
    · have d1 : decide (300 < L.length) = false := by simpa using h1
      by_cases h2 : a2 < 0
      · have d2 : decide (a2 < 0) = true := by simpa using h2
        go_enter Try.func4, Try.ntmps4
        go_wp2_with fail
        refine (HX.out _).mono ?_
        rintro e w2 ⟨rfl, hb⟩
        go_wp2
        go_ret
        exact ⟨rfl, hb⟩
      · have d2 : decide (a2 < 0) = false := by simpa using h2
        have d3 : decide (5 < a2) = true := by simp; omega
        go_enter Try.func4, Try.ntmps4
        go_wp2_with fail
        refine (HX.out _).mono ?_
        rintro e w2 ⟨rfl, hb⟩
        go_wp2
        go_ret
        exact ⟨rfl, hb⟩
end Go.Proofs.Ytbjijmdknlopdaa

namespace Go.Proofs.Ytbjijmdknlopdaa
open Go.RowKit
set_option linter.unusedVariables false

theorem RdI.stay {w w' : World} {v : Value} {L : List Int} (h : RdI w v L) (hs : ∀ g, OwnO v g → w'.heap[g]? = w.heap[g]?) (hz : w.heap.size ≤ w'.heap.size) : RdI w' v L := by
  obtain ⟨⟨A, cap, rfl, hm, hc⟩, hsh⟩ := h
  refine ⟨⟨A, cap, rfl, hm, fun i a ha => ?_⟩, hsh⟩
  obtain ⟨x, hx, hb, hq⟩ := hc i a ha
  subst hx
  refine ⟨x, rfl, Nat.lt_of_lt_of_le hb hz, fun j u hu => ?_⟩
  rw [← hq j u hu]
  refine World.cell?_of_block (w := w) ?_
  rw [addr_block]
  exact hs _ rfl
def putR (w : World) (b : Nat) (v : Value) (m n : Int) : World := ((w.setCell ⟨b, 0, none⟩ v).setCell ⟨b, 1, none⟩ (.int .i64 m)).setCell ⟨b, 2, none⟩ (.int .i64 n)
theorem BoxR.put {w : World} {b : Nat} {v v' : Value} {m n m' n' : Int} (h : BoxR w b v m n) : BoxR (putR w b v' m' n') b v' m' n' := by
  unfold BoxR at h
  have h0 : (w.setCell ⟨b, 0, none⟩ v').heap[b]? = some (.cells #[v', .int .i64 m, .int .i64 n] 28 (0, 0)) := by rw [heap_setCell_same w b 0 _ _ _ h]; rfl
  have h1 : ((w.setCell ⟨b, 0, none⟩ v').setCell ⟨b, 1, none⟩ (.int .i64 m')).heap[b]? = some (.cells #[v', .int .i64 m', .int .i64 n] 28 (0, 0)) := by rw [heap_setCell_same _ b 1 _ _ _ h0]; rfl
  unfold BoxR putR
  rw [heap_setCell_same _ b 2 _ _ _ h1]; rfl
theorem putR_other {w : World} {b k : Nat} {v : Value} {m n : Int} (h : k ≠ b) : (putR w b v m n).heap[k]? = w.heap[k]? := by
  unfold putR
  rw [Below.heap_setCell _ _ _ _ h, Below.heap_setCell _ _ _ _ h, Below.heap_setCell _ _ _ _ h]
theorem putR_size (w : World) (b : Nat) (v : Value) (m n : Int) : (putR w b v m n).heap.size = w.heap.size := by unfold putR; simp [World.setCell]
theorem putR_below {B b : Nat} {a w : World} {v : Value} {m n : Int} (h : Below B a w) (hb : B ≤ b) : Below B a (putR w b v m n) :=
  ((h.setCell (p := ⟨b, 0, none⟩) hb _).setCell (p := ⟨b, 1, none⟩) hb _).setCell (p := ⟨b, 2, none⟩) hb _

structure PlM (I : World → Value → Rg Int → (Nat → Prop) → Prop) (w : World) (p : Value) (b : Nat) (v : Value) (L : List Int) (m n : Int) (s : Rg Int) (O : Nat → Prop) (wr : World) : Prop where
  has : Has I w p s O wr
  box : BoxR wr b v m n
  rd : RdI wr v L
  lt : ∀ g, OwnO v g → g < wr.heap.size
  ap : Apart O (OwnO v)
  nb : ¬ O b
  nv : ¬ OwnO v b
  bw : w.heap.size ≤ b
section
variable {I : World → Value → Rg Int → (Nat → Prop) → Prop} {w wr w' : World} {p v : Value} {b : Nat} {L : List Int} {m n : Int} {s s' : Rg Int} {O : Nat → Prop}
theorem PlM.later (hI : IsObj I) (h : PlM I w p b v L m n s O wr) (hb : Below wr.heap.size wr w') : PlM I w p b v L m n s O w' :=
  ⟨h.has.later hI hb, h.box.later hb, h.rd.later hb, fun g hg => Nat.lt_of_lt_of_le (h.lt g hg) hb.size, h.ap, h.nb, h.nv, h.bw⟩
theorem PlM.step (hI : IsObj I) (h : PlM I w p b v L m n s O wr) (hs : Stp I p O wr s' w') : ∃ O', PlM I w p b v L m n s' O' w' := by
  obtain ⟨O', hi, hk, hg⟩ := hs
  exact ⟨O', h.has.step hI hi hk hg, (hk.block b h.box.lt h.nb).trans h.box, h.rd.stay (fun g hg' => hk.block g (h.lt g hg') (fun ho => h.ap g ho hg')) hk.size, fun g hg' => Nat.lt_of_lt_of_le (h.lt g hg') hk.size,
    h.ap.step h.lt hg, out_step h.box.lt h.nb hg, h.nv, h.bw⟩
theorem PlM.put (hI : IsObj I) (h : PlM I w p b v L m n s O wr) {u : Value} {L' : List Int} {m' n' : Int} (hr : RdI wr u L') (hl : ∀ g, OwnO u g → g < wr.heap.size) (ha : Apart O (OwnO u)) (hn : ¬ OwnO u b) : PlM I w p b u L' m' n' s O (putR wr b u m' n') :=
  ⟨⟨hI.stay h.has.inv (fun k hk => putR_other (fun e => h.nb (e ▸ hk))), putR_below h.has.below h.bw, h.has.new⟩, h.box.put, hr.stay (fun g hg => putR_other (fun e => hn (e ▸ hg))) (by rw [putR_size]; exact Nat.le_refl _),
    fun g hg => by rw [putR_size]; exact hl g hg, ha, h.nb, hn, h.bw⟩
end
theorem plM_nil {I : World → Value → Rg Int → (Nat → Prop) → Prop} (hI : IsObj I) {w wr : World} {p v : Value} {b : Nat} {L : List Int} {m n : Int} {s : Rg Int} {O : Nat → Prop} (h : PlM I w p b v L m n s O wr) : PlM I w p b (.slice none 0 0) [] m n s O (wr.setCell ⟨b, 0, none⟩ (.slice none 0 0)) := by
  have hx := h.box
  unfold BoxR at hx
  refine ⟨⟨hI.stay h.has.inv (fun k hk => Below.heap_setCell wr ⟨b, 0, none⟩ _ k (fun e => h.nb (by have e : k = b := e; rw [← e]; exact hk))), h.has.below.setCell (p := ⟨b, 0, none⟩) h.bw _, h.has.new⟩, ?_, RdI.nil _, fun g hg => by (cases hg), apart_nil _, h.nb, fun hg => by (cases hg), h.bw⟩
  unfold BoxR
  rw [heap_setCell_same wr b 0 _ _ _ hx]; rfl
theorem Reads.quiet {P : Program} {f : FuncId} {args : Array Value} {w : World} {n : Nat} {v : Value} (h : Calls P f args (w.drewN n) (Reads (w.drewN n) v)) : Calls P f args (w.drewN n) fun e w'' => e = .returned v ∧ ∃ m, w'' = w.drewN m :=
  h.mono fun _ _ ⟨he, m, hm⟩ => ⟨he, n + m, by rw [hm, drewN_two]⟩
def opC (o : Int × Int) : List Value := [.int .i64 o.1, .int .i64 o.2]
def opOf : List Value → Int × Int
  | [.int _ a, .int _ b] => (a, b)
  | _ => (0, 0)
theorem opOf_c (l : List Value) (h : FitsAll [.int .i64, .int .i64] l) : opC (opOf l) = l := by
  obtain ⟨v0, l0, rfl, ⟨a0, rfl, _⟩, h0⟩ := FitsAll.cons h
  obtain ⟨v1, l1, rfl, ⟨a1, rfl, _⟩, h1⟩ := FitsAll.cons h0
  obtain rfl := FitsAll.nil h1
  rfl
end Go.Proofs.Ytbjijmdknlopdaa
