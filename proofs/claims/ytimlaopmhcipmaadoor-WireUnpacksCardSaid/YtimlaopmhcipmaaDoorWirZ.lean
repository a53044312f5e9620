/- Wire: contracts of Pack. -/
import Derived.Test.YtimlaopmhcipmaaDoorWirY
namespace Go.Proofs.YtimlaopmhcipmaaDoor
open Go.RowKit
set_option linter.unusedVariables false

def packL (L : List Fr) : List UInt8 := L.flatMap fun f => (encS f).data.toList
def packS (L : List Fr) : ByteArray := ⟨(packL L).toArray⟩
theorem packL_snoc (L : List Fr) (f : Fr) : packL (L ++ [f]) = packL L ++ (encS f).data.toList := by simp [packL]
theorem packL_le : ∀ L : List Fr, (packL L).length ≤ 72 * L.length
  | [] => by simp [packL]
  | f :: L => by
    have h1 := packL_le L
    have h2 : (encS f).data.toList.length ≤ 72 := by
      have := encS_size f
      have h3 := totN_le f.n
      have : (encS f).data.toList.length = (encS f).size := by simp
      omega
    simp only [packL, List.flatMap_cons, List.length_append, List.length_cons] at h1 ⊢
    omega
theorem wstr_any (B b : Nat) (l : List UInt8) (s : ByteArray) (w : World) (h : Lib.IsBuilder 61 5 B b (Lib.byteCells l) w) (hlen : l.length + s.size ≤ 140737488355328) (hBw : B ≤ w.heap.size) :
    Calls Tryd.prog 34 #[.pointer (some ⟨b, 0, none⟩), .string s] w fun e w' => e = .returned (.tuple #[.int .i64 s.size, .nilIface]) ∧ Lib.IsBuilder 61 5 B b (Lib.byteCells (l ++ s.data.toList)) w' ∧ Below B w w' := by
  refine (Any.Builder_WriteString (ρ := Tryd.lays105_ren) { Tryd.lays105 with } Tryd.Builder_Extra_105 B b (Lib.byteCells l) s w h (by unfold Lib.byteCells; simpa using hlen) hBw).mono ?_
  rintro e w' ⟨he, hb, hbel⟩
  refine ⟨he, .inr ?_, hbel⟩
  rw [← byteCells_str]
  exact hb

set_option maxHeartbeats 1000000 in
theorem pack_t {L : List Fr} {v : Value} (w : World) (hT : TabA w) (h : SlF w w.heap.size v L) (hok : ∀ f ∈ L, f.ok = true) (hlen : L.length ≤ 1000) :
    Calls Tryd.prog 17 #[v] w fun e w' => e = .returned (.tuple #[.string (packS L), .int .i64 0, .int .i64 0]) ∧ Below w.heap.size w w' := by
  have H := Lib.hid h
  have HT := Lib.hid hT
  have HOK := Lib.hid hok
  obtain ⟨A, cap, rfl, hm, _⟩ := h
  unfold maxLen at hm
  have HBu := Lib.hid (Lib.fresh_isBuilder 61 5 w)
  clear hT hok
  go_enter Tryd.func17, Tryd.ntmps17
  go_wp2_with fail
  go_loopw [12] (fun i wr => ∃ k : Nat, k ≤ L.length ∧ i = .int .i64 k ∧ Lib.IsBuilder 61 5 w.heap.size w.heap.size (Lib.byteCells (packL (L.take k))) wr ∧ Below w.heap.size w wr) (fun i _ => L.length - (intOf i).toNat)
  case atStart => exact ⟨0, by omega, rfl, HBu.out, (Below.refl _ _).alloc (Nat.le_refl _) _⟩
  case round =>
    obtain ⟨k, hk, rfl, hbu, hbw⟩ := hrel
    have HBU := Lib.hid hbu
    have HBW := Lib.hid hbw
    clear hbu hbw HBu
    by_cases hlt : k < L.length
    · obtain ⟨x, cap1, hv, hxb, hcell⟩ := (H.out.later HBW.out).at_ hlt
      injection hv with hA hn hc
      subst hA hc
      have a0 : wr.cell? (x.add (k * 4)) = some (.int .i64 (L[k]'hlt).i) := hcell 0 _ rfl
      have a1 : wr.cell? ⟨(x.add (k * 4)).block, (x.add (k * 4)).off + 1, none⟩ = some (.int .i64 (L[k]'hlt).n) := hcell 1 _ rfl
      have a2 : wr.cell? ⟨(x.add (k * 4)).block, (x.add (k * 4)).off + 2, none⟩ = some (.int .i64 (L[k]'hlt).l) := hcell 2 _ rfl
      have a3 : wr.cell? ⟨(x.add (k * 4)).block, (x.add (k * 4)).off + 3, none⟩ = some (.string (L[k]'hlt).d) := hcell 3 _ rfl
      have hk1 : (k : Int) < (L.length : Int) := by omega
      have hk0 : (0 : Int) ≤ (k : Int) := by omega
      have HF : Hid ((L[k]'hlt).ok = true) := Lib.hid (HOK.out _ (List.getElem_mem hlt))
      have HS : Hid (packL (L.take (k + 1)) = packL (L.take k) ++ (encS (L[k]'hlt)).data.toList) := Lib.hid (by rw [List.take_succ_eq_append_getElem hlt, packL_snoc])
      have HLen : Hid ((packL (L.take k)).length ≤ 72 * 1000) := Lib.hid (by have := packL_le (L.take k); have := List.length_take_le k L; omega)
      clear hcell hxb
      generalize L[k]'hlt = f at a0 a1 a2 a3 HF HS
      go_wp2_with fail
      refine (encode_t HF.out _ ((HT.out.below HBW.out).alloc _)).mono ?_
      rintro e w2 ⟨rfl, hb2⟩
      have hB2 := Lib.hid (fbelow_t (Below.allocL HBW.out _) hb2)
      have HBU2 := Lib.hid (builder_below HBU.out (fbelow_a _ hb2))
      clear hb2
      go_wp2_with fail
      refine (wstr_any _ _ _ (encS f) _ HBU2.out (by have := HLen.out; have := encS_size f; have := totN_le f.n; omega) hB2.out.size).mono ?_
      rintro e w3 ⟨rfl, hbu3, hb3⟩
      have HR := Lib.hid (And.intro hbu3 (hB2.out.trans hb3))
      clear hbu3 hb3
      go_wp2
      go_roundw
      case rel => exact ⟨k + 1, by omega, by go_num, by rw [HS.out]; exact HR.out.1, HR.out.2⟩
      case measure => simp [intOf]; omega
    · obtain rfl : k = L.length := by omega
      rw [List.take_length] at HBU
      go_wp2_with fail
      refine (Tryd.Builder_String_any _ _ _ _ HBU.out HBW.out.size).mono ?_
      rintro e w2 ⟨rfl, hb2⟩
      have HB2 := Lib.hid (HBW.out.trans hb2)
      clear hb2
      go_wp2
      go_ret3
      exact ⟨rfl, HB2.out⟩

set_option maxHeartbeats 1000000 in
theorem pack_f {L : List Fr} {v : Value} (w : World) (hT : TabA w) (h : SlF w w.heap.size v L) (q : Nat) (hq : q < L.length) (hok : ∀ i (hi : i < q), (L[i]'(by omega)).ok = true) (hno : (L[q]'hq).ok = false) (hfit : ∀ f ∈ L, f.fits) (hlen : L.length ≤ 1000) :
    Calls Tryd.prog 17 #[v] w fun e w' => e = .returned (.tuple #[.string (ByteArray.mk #[]), .int .i64 q, .int .i64 4]) ∧ Below w.heap.size w w' := by
  have H := Lib.hid h
  have HT := Lib.hid hT
  have HOK := Lib.hid hok
  have HNO := Lib.hid hno
  have HFit := Lib.hid hfit
  obtain ⟨A, cap, rfl, hm, _⟩ := h
  unfold maxLen at hm
  have HBu := Lib.hid (Lib.fresh_isBuilder 61 5 w)
  clear hT hok hno hfit
  go_enter Tryd.func17, Tryd.ntmps17
  go_wp2_with fail
  go_loopw [12] (fun i wr => ∃ k : Nat, k ≤ q ∧ i = .int .i64 k ∧ Lib.IsBuilder 61 5 w.heap.size w.heap.size (Lib.byteCells (packL (L.take k))) wr ∧ Below w.heap.size w wr) (fun i _ => L.length - (intOf i).toNat)
  case atStart => exact ⟨0, by omega, rfl, HBu.out, (Below.refl _ _).alloc (Nat.le_refl _) _⟩
  case round =>
    obtain ⟨k, hk, rfl, hbu, hbw⟩ := hrel
    have HBU := Lib.hid hbu
    have HBW := Lib.hid hbw
    clear hbu hbw HBu
    have hlt : k < L.length := by omega
    obtain ⟨x, cap1, hv, hxb, hcell⟩ := (H.out.later HBW.out).at_ hlt
    injection hv with hA hn hc
    subst hA hc
    have a0 : wr.cell? (x.add (k * 4)) = some (.int .i64 (L[k]'hlt).i) := hcell 0 _ rfl
    have a1 : wr.cell? ⟨(x.add (k * 4)).block, (x.add (k * 4)).off + 1, none⟩ = some (.int .i64 (L[k]'hlt).n) := hcell 1 _ rfl
    have a2 : wr.cell? ⟨(x.add (k * 4)).block, (x.add (k * 4)).off + 2, none⟩ = some (.int .i64 (L[k]'hlt).l) := hcell 2 _ rfl
    have a3 : wr.cell? ⟨(x.add (k * 4)).block, (x.add (k * 4)).off + 3, none⟩ = some (.string (L[k]'hlt).d) := hcell 3 _ rfl
    have hk1 : (k : Int) < (L.length : Int) := by omega
    have hk0 : (0 : Int) ≤ (k : Int) := by omega
    have HS : Hid (packL (L.take (k + 1)) = packL (L.take k) ++ (encS (L[k]'hlt)).data.toList) := Lib.hid (by rw [List.take_succ_eq_append_getElem hlt, packL_snoc])
    have HLen : Hid ((packL (L.take k)).length ≤ 72 * 1000) := Lib.hid (by have := packL_le (L.take k); have := List.length_take_le k L; omega)
    have HFI := Lib.hid (HFit.out _ (List.getElem_mem hlt))
    clear hcell hxb
    by_cases hkq : k < q
    · have HF : Hid ((L[k]'hlt).ok = true) := Lib.hid (HOK.out k hkq)
      generalize L[k]'hlt = f at a0 a1 a2 a3 HF HS HFI
      go_wp2_with fail
      refine (encode_t HF.out _ ((HT.out.below HBW.out).alloc _)).mono ?_
      rintro e w2 ⟨rfl, hb2⟩
      have hB2 := Lib.hid (fbelow_t (Below.allocL HBW.out _) hb2)
      have HBU2 := Lib.hid (builder_below HBU.out (fbelow_a _ hb2))
      clear hb2
      go_wp2_with fail
      refine (wstr_any _ _ _ (encS f) _ HBU2.out (by have := HLen.out; have := encS_size f; have := totN_le f.n; omega) hB2.out.size).mono ?_
      rintro e w3 ⟨rfl, hbu3, hb3⟩
      have HR := Lib.hid (And.intro hbu3 (hB2.out.trans hb3))
      clear hbu3 hb3
      go_wp2
      go_roundw
      case rel => exact ⟨k + 1, by omega, by go_num, by rw [HS.out]; exact HR.out.1, HR.out.2⟩
      case measure => simp [intOf]; omega
    · obtain rfl : k = q := by omega
      have HF : Hid ((L[k]'hlt).ok = false) := Lib.hid HNO.out
      generalize L[k]'hlt = f at a0 a1 a2 a3 HF HS HFI
      have hb := Go.bounds_i64 HFI.out.2.1
      have HBN := Lib.hid hb
      clear hb
      go_wp2_with fail
      refine (encode_f (i := f.i) (n := f.n) (l := f.l) (d := f.d) HF.out _ ((HT.out.below HBW.out).alloc _) HBN.out.1 HBN.out.2).mono ?_
      rintro e w2 ⟨rfl, hb2⟩
      have hB2 := Lib.hid (fbelow_t (Below.allocL HBW.out _) hb2)
      clear hb2
      go_wp2
      go_ret3
      exact ⟨rfl, hB2.out⟩

end Go.Proofs.YtimlaopmhcipmaaDoor
