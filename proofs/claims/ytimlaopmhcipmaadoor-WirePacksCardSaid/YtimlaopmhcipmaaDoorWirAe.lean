/- Wire: the walk of WirePacks. -/
import Derived.Test.YtimlaopmhcipmaaDoorWirAd
namespace Go.Proofs.YtimlaopmhcipmaaDoor
open Go.RowKit
set_option linter.unusedVariables false

theorem few_v {L : List Fr} {v : Value} {B : Nat} {q : Bool} (hq : fewB L = q) (w : World) (h : SlF w B v L) :
    Calls Tryd.prog 16 #[v] w fun e w' => e = .returned (.bool q) ∧ w = w' := by rw [← hq]; exact few_any w h
theorem few_len {L : List Fr} (h : fewB L = true) : L.length ≤ 40 := by
  unfold fewB at h
  simp only [Bool.and_eq_true, decide_eq_true_eq] at h
  exact h.1
theorem first_bad : ∀ L : List Fr, (∀ f ∈ L, f.ok = true) ∨ ∃ q, ∃ hq : q < L.length, (∀ i (hi : i < q), (L[i]'(by omega)).ok = true) ∧ (L[q]'hq).ok = false
  | [] => .inl fun f hf => by cases hf
  | f :: L => by
    cases hf : f.ok
    · exact .inr ⟨0, by simp, fun i hi => by omega, hf⟩
    · rcases first_bad L with h | ⟨q, hq, h1, h2⟩
      · refine .inl fun g hg => ?_
        rcases List.mem_cons.1 hg with rfl | hg
        · exact hf
        · exact h g hg
      · refine .inr ⟨q + 1, by simp; omega, fun i hi => ?_, by simpa using h2⟩
        cases i with
        | zero => simpa using hf
        | succ i => simpa using h1 i (by omega)

set_option maxHeartbeats 2000000 in
theorem packs_no {L : List Fr} {v : Value} (w : World) (HT : Hid (TabA w)) (H : Hid (SlF w w.heap.size v L)) (HFew : Hid (fewB L = false)) :
    Calls Tryd.prog 6 #[v] w fun e w' => e = .returned (.bool true) ∧ Below w.heap.size w w' := by
  go_enter Tryd.func6, Tryd.ntmps6
  go_wp2_with fail
  refine (few_v HFew.out _ H.out).mono ?_
  rintro e w1 ⟨rfl, rfl⟩
  go_wp2_with fail
  refine (walive_any _ HT.out).mono ?_
  rintro e w1 ⟨rfl, hb1⟩
  go_wp2
  go_ret
  exact ⟨rfl, hb1⟩

set_option maxHeartbeats 2000000 in
theorem packs_t {L : List Fr} {v : Value} (w : World) (HT : Hid (TabA w)) (H : Hid (SlF w w.heap.size v L)) (HFew : Hid (fewB L = true)) (HK : Hid (∀ f ∈ L, f.ok = true)) :
    Calls Tryd.prog 6 #[v] w fun e w' => e = .returned (.bool true) ∧ Below w.heap.size w w' := by
  have HL : Hid (L.length ≤ 1000) := Lib.hid (by have := few_len HFew.out; omega)
  have HU := Lib.hid (unp_pack HK.out)
  have HSz : Hid ((packS L).size ≤ 3000) := Lib.hid (by rw [packS_size]; have := packL_le L; have := few_len HFew.out; omega)
  obtain ⟨S, hS⟩ : ∃ S, packS L = S := ⟨_, rfl⟩
  rw [hS] at HU HSz
  have HP := Lib.hid hS
  have es := seq_self S
  clear hS
  have H0 := H.out
  obtain ⟨A, cap, rfl, hm, _⟩ := H0
  unfold maxLen at hm
  go_enter Tryd.func6, Tryd.ntmps6
  go_wp2_with fail
  refine (few_v HFew.out _ H.out).mono ?_
  rintro e w1 ⟨rfl, rfl⟩
  go_wp2_with fail
  refine (pack_v HP.out _ HT.out H.out HK.out HL.out).mono ?_
  rintro e w1 ⟨rfl, hb1⟩
  have HB1 := Lib.hid hb1
  have T1 : Hid (TabA w1) := Lib.hid (HT.out.below hb1)
  have H1 := Lib.hid (H.out.later hb1)
  clear hb1
  go_wp2_with fail
  go_loopw [6, 24] (fun wt i wr => ∃ k : Nat, k ≤ L.length ∧ i = .int .i64 k ∧ wt = .string (packS (L.take k)) ∧ Below w.heap.size w wr) (fun _ i _ => L.length - (intOf i).toNat)
  case atStart => exact ⟨0, by omega, rfl, rfl, HB1.out⟩
  case round =>
    obtain ⟨k, hk, rfl, rfl, hbw⟩ := hrel
    have HBW := Lib.hid hbw
    have TW : Hid (TabA wr) := Lib.hid (HT.out.below hbw)
    have HW := Lib.hid (H.out.later hbw)
    clear hbw
    by_cases hlt : k < L.length
    · obtain ⟨x, cap1, hv, hxb, hcell⟩ := HW.out.at_ hlt
      injection hv with hA hn hc
      subst hA hc
      have a0 : wr.cell? (x.add (k * 4)) = some (.int .i64 (L[k]'hlt).i) := hcell 0 _ rfl
      have a1 : wr.cell? ⟨(x.add (k * 4)).block, (x.add (k * 4)).off + 1, none⟩ = some (.int .i64 (L[k]'hlt).n) := hcell 1 _ rfl
      have a2 : wr.cell? ⟨(x.add (k * 4)).block, (x.add (k * 4)).off + 2, none⟩ = some (.int .i64 (L[k]'hlt).l) := hcell 2 _ rfl
      have a3 : wr.cell? ⟨(x.add (k * 4)).block, (x.add (k * 4)).off + 3, none⟩ = some (.string (L[k]'hlt).d) := hcell 3 _ rfl
      have hk1 : (k : Int) < (L.length : Int) := by omega
      have hk0 : (0 : Int) ≤ (k : Int) := by omega
      have HF : Hid ((L[k]'hlt).ok = true) := Lib.hid (HK.out _ (List.getElem_mem hlt))
      have HS : Hid (packS (L.take (k + 1)) = packS (L.take k) ++ encS (L[k]'hlt)) := Lib.hid (by rw [List.take_succ_eq_append_getElem hlt, packS_snoc])
      have hsum : ¬ 9223372036854775807 < (packS (L.take k)).size + (encS (L[k]'hlt)).size := by
        have h1 := packL_le (L.take k)
        have h2 := List.length_take_le k L
        have h3 := HL.out
        have h4 := encS_size (L[k]'hlt)
        have h5 := totN_le (L[k]'hlt).n
        rw [packS_size]
        omega
      clear hcell hxb
      generalize L[k]'hlt = f at a0 a1 a2 a3 HF HS hsum
      have hr := renc_t HF.out
      generalize packS (L.take k) = W at HS hsum
      generalize encS f = E at HS hsum hr
      have HR := Lib.hid hr
      clear hr
      go_wp2_with fail
      refine (rright_v (i := f.i) (n := f.n) (l := f.l) (d := f.d) (q := true) HF.out _).mono ?_
      rintro e w2 ⟨rfl, hb2⟩
      obtain ⟨hc2, hf2⟩ := fbcell hb2
      have hz2 : wr.heap.size < w2.heap.size := by have := hb2.size; simp only [World.size_alloc] at this; omega
      have HB2 := Lib.hid (fbelow_t (Below.allocL HBW.out _) hb2)
      clear hb2
      go_wp2_with fail
      refine (HR.out _).mono ?_
      rintro e w3 ⟨rfl, hb3⟩
      have HB3 := Lib.hid (fbelow_t HB2.out hb3)
      clear hb3
      go_wp2
      go_roundw
      case rel => exact ⟨k + 1, by omega, by go_num, by rw [HS.out], HB3.out⟩
      case measure => simp [intOf]; omega
    · obtain rfl : k = L.length := by omega
      rw [List.take_length, HP.out]
      go_wp2_with fail
      refine (unpack_t HSz.out HU.out _ TW.out).mono ?_
      rintro e w2 ⟨hb2, v2, rfl, hv2⟩
      have HB2 := Lib.hid (fbelow_t HBW.out hb2)
      have T2 : Hid (TabA w2) := Lib.hid (TW.out.below hb2)
      have V2 := Lib.hid (HW.out.later hb2)
      have U2 := Lib.hid hv2
      clear hb2 hv2
      go_wp2_with fail
      refine (same_t _ U2.out V2.out).mono ?_
      rintro e w3 ⟨rfl, m, rfl⟩
      go_wp2_with fail
      refine (walive_any _ (T2.out.drewN _)).mono ?_
      rintro e w4 ⟨rfl, hb4⟩
      have HB4 := Lib.hid (fbelow_t (below_drewN HB2.out _) hb4)
      clear hb4
      go_wp2
      go_ret
      exact ⟨rfl, HB4.out⟩

set_option maxHeartbeats 2000000 in
theorem packs_f {L : List Fr} {v : Value} (w : World) (HT : Hid (TabA w)) (H : Hid (SlF w w.heap.size v L)) (HFew : Hid (fewB L = true)) (q : Nat) (hq : q < L.length) (HK : Hid (∀ i (hi : i < q), (L[i]'(by omega)).ok = true)) (HN : Hid ((L[q]'hq).ok = false)) (HFit : Hid (∀ f ∈ L, f.fits)) :
    Calls Tryd.prog 6 #[v] w fun e w' => e = .returned (.bool true) ∧ Below w.heap.size w w' := by
  have HL : Hid (L.length ≤ 1000) := Lib.hid (by have := few_len HFew.out; omega)
  have es : ((ByteArray.mk #[]).toList == (ByteArray.mk #[]).toList) = true := by simp
  have eq : ((q : Int) == (q : Int)) = true := by simp
  have H0 := H.out
  obtain ⟨A, cap, rfl, hm, _⟩ := H0
  unfold maxLen at hm
  go_enter Tryd.func6, Tryd.ntmps6
  go_wp2_with fail
  refine (few_v HFew.out _ H.out).mono ?_
  rintro e w1 ⟨rfl, rfl⟩
  go_wp2_with fail
  refine (pack_f _ HT.out H.out q hq HK.out HN.out HFit.out HL.out).mono ?_
  rintro e w1 ⟨rfl, hb1⟩
  have HB1 := Lib.hid hb1
  have T1 : Hid (TabA w1) := Lib.hid (HT.out.below hb1)
  have H1 := Lib.hid (H.out.later hb1)
  clear hb1
  go_wp2_with fail
  go_loopw [6, 24] (fun wt i wr => ∃ k : Nat, k ≤ q ∧ i = .int .i64 k ∧ wt = .string (packS (L.take k)) ∧ Below w.heap.size w wr) (fun _ i _ => L.length - (intOf i).toNat)
  case atStart => exact ⟨0, by omega, rfl, rfl, HB1.out⟩
  case round =>
    obtain ⟨k, hk, rfl, rfl, hbw⟩ := hrel
    have HBW := Lib.hid hbw
    have TW : Hid (TabA wr) := Lib.hid (HT.out.below hbw)
    have HW := Lib.hid (H.out.later hbw)
    clear hbw
    have hlt : k < L.length := by omega
    obtain ⟨x, cap1, hv, hxb, hcell⟩ := HW.out.at_ hlt
    injection hv with hA hn hc
    subst hA hc
    have a0 : wr.cell? (x.add (k * 4)) = some (.int .i64 (L[k]'hlt).i) := hcell 0 _ rfl
    have a1 : wr.cell? ⟨(x.add (k * 4)).block, (x.add (k * 4)).off + 1, none⟩ = some (.int .i64 (L[k]'hlt).n) := hcell 1 _ rfl
    have a2 : wr.cell? ⟨(x.add (k * 4)).block, (x.add (k * 4)).off + 2, none⟩ = some (.int .i64 (L[k]'hlt).l) := hcell 2 _ rfl
    have a3 : wr.cell? ⟨(x.add (k * 4)).block, (x.add (k * 4)).off + 3, none⟩ = some (.string (L[k]'hlt).d) := hcell 3 _ rfl
    have hk1 : (k : Int) < (L.length : Int) := by omega
    have hk0 : (0 : Int) ≤ (k : Int) := by omega
    have HS : Hid (packS (L.take (k + 1)) = packS (L.take k) ++ encS (L[k]'hlt)) := Lib.hid (by rw [List.take_succ_eq_append_getElem hlt, packS_snoc])
    have hsum : ¬ 9223372036854775807 < (packS (L.take k)).size + (encS (L[k]'hlt)).size := by
      have h1 := packL_le (L.take k)
      have h2 := List.length_take_le k L
      have h3 := HL.out
      have h4 := encS_size (L[k]'hlt)
      have h5 := totN_le (L[k]'hlt).n
      rw [packS_size]
      omega
    clear hcell hxb
    by_cases hkq : k < q
    · have HF : Hid ((L[k]'hlt).ok = true) := Lib.hid (HK.out k hkq)
      generalize L[k]'hlt = f at a0 a1 a2 a3 HF HS hsum
      have hr := renc_t HF.out
      generalize packS (L.take k) = W at HS hsum
      generalize encS f = E at HS hsum hr
      have HR := Lib.hid hr
      clear hr
      go_wp2_with fail
      refine (rright_v (i := f.i) (n := f.n) (l := f.l) (d := f.d) (q := true) HF.out _).mono ?_
      rintro e w2 ⟨rfl, hb2⟩
      obtain ⟨hc2, hf2⟩ := fbcell hb2
      have hz2 : wr.heap.size < w2.heap.size := by have := hb2.size; simp only [World.size_alloc] at this; omega
      have HB2 := Lib.hid (fbelow_t (Below.allocL HBW.out _) hb2)
      clear hb2
      go_wp2_with fail
      refine (HR.out _).mono ?_
      rintro e w3 ⟨rfl, hb3⟩
      have HB3 := Lib.hid (fbelow_t HB2.out hb3)
      clear hb3
      go_wp2
      go_roundw
      case rel => exact ⟨k + 1, by omega, by go_num, by rw [HS.out], HB3.out⟩
      case measure => simp [intOf]; omega
    · obtain rfl : k = q := by omega
      have HF : Hid ((L[k]'hlt).ok = false) := Lib.hid HN.out
      generalize L[k]'hlt = f at a0 a1 a2 a3 HF HS hsum
      clear hsum HS
      generalize packS (L.take k) = W
      go_wp2_with fail
      refine (rright_v (i := f.i) (n := f.n) (l := f.l) (d := f.d) (q := false) HF.out _).mono ?_
      rintro e w2 ⟨rfl, hb2⟩
      have HB2 := Lib.hid (fbelow_t (Below.allocL HBW.out _) hb2)
      have T2 : Hid (TabA w2) := Lib.hid ((TW.out.alloc _).below hb2)
      clear hb2
      go_wp2_with fail
      refine (walive_any _ T2.out).mono ?_
      rintro e w4 ⟨rfl, hb4⟩
      have HB4 := Lib.hid (fbelow_t HB2.out hb4)
      clear hb4
      go_wp2
      go_ret
      exact ⟨rfl, HB4.out⟩

theorem wirePacks_walk (a : Option Addr) (len cap : Nat) (F : Nat → List Value) (w : World) (hr : IsRowOf w [.int .i64, .int .i64, .int .i64, .str] a len cap F) (hT1 : Tabs w) (hT2 : TabW w) :
    Calls Tryd.prog 6 #[.slice a len cap] w fun e w' => e = .returned (.bool true) ∧ Below w.heap.size w w' := by
  obtain ⟨L, hL, _, hf⟩ := slice_of_row hr frOf frOf_c rfl (by decide)
  have HT : Hid (TabA w) := Lib.hid ⟨hT1, hT2⟩
  cases hw : fewB L
  · exact packs_no w HT (Lib.hid hL) (Lib.hid hw)
  · rcases first_bad L with h | ⟨q, hq, h1, h2⟩
    · exact packs_t w HT (Lib.hid hL) (Lib.hid hw) (Lib.hid h)
    · exact packs_f w HT (Lib.hid hL) (Lib.hid hw) q hq (Lib.hid h1) (Lib.hid h2) (Lib.hid fun f hm => fr_fits (hf f hm))

end Go.Proofs.YtimlaopmhcipmaaDoor
