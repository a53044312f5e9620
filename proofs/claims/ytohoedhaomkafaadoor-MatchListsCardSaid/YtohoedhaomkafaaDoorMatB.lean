/- Match: contracts of Witness and its closure, Covers. -/
import Derived.Test.YtohoedhaomkafaaDoorMatA
namespace Go.Proofs.YtohoedhaomkafaaDoor
open Go.RowKit
set_option linter.unusedVariables false

/-- the cells of a filter in block b -/
def FlAt (w : World) (b : Nat) (f : Flt) : Prop := w.cell? ⟨b, 0, none⟩ = some (.int .u32 f.i) ∧ w.cell? ⟨b, 1, none⟩ = some (.int .u32 f.m) ∧ w.cell? ⟨b, 2, none⟩ = some (.bool f.v)
theorem FlAt.below {w w1 : World} {b B : Nat} {f : Flt} (h : FlAt w b f) (hb : Below B w w1) (hB : b < B) : FlAt w1 b f :=
  ⟨(hb.cell (p := ⟨b, 0, none⟩) hB).trans h.1, (hb.cell (p := ⟨b, 1, none⟩) hB).trans h.2.1, (hb.cell (p := ⟨b, 2, none⟩) hB).trans h.2.2⟩

theorem FlAt.made (w : World) (f : Flt) (t : TypeId) (k : Nat) (hk : w.heap.size = k) : FlAt (w.alloc (.cells #[.int .u32 f.i, .int .u32 f.m, .bool f.v] t)) k f := by
  subst hk
  refine ⟨?_, ?_, ?_⟩ <;> (rw [World.cell?_alloc_at _ _ _ _ rfl]; rfl)

/-- a slice of two filters that a call makes -/
theorem sl_two (w : World) (a b : Flt) (t : TypeId) (k : Nat) (hk : w.heap.size = k) :
    SlL (w.alloc (.cells #[.int .u32 a.i, .int .u32 a.m, .bool a.v, .int .u32 b.i, .int .u32 b.m, .bool b.v] t)) (w.alloc (.cells #[.int .u32 a.i, .int .u32 a.m, .bool a.v, .int .u32 b.i, .int .u32 b.m, .bool b.v] t)).heap.size
      (.slice (some ⟨k, 0, none⟩) 2 2) [a, b] := by
  subst hk
  refine ⟨some ⟨w.heap.size, 0, none⟩, 2, rfl, by simp [maxLen], fun i f hf => ⟨_, rfl, by simp, fun j u hu => ?_⟩⟩
  rw [addr_zero, World.cell?_alloc_at _ _ _ _ rfl]
  match i, j with
  | 0, 0 => cases hf; cases hu; rfl
  | 0, 1 => cases hf; cases hu; rfl
  | 0, 2 => cases hf; cases hu; rfl
  | 1, 0 => cases hf; cases hu; rfl
  | 1, 1 => cases hf; cases hu; rfl
  | 1, 2 => cases hf; cases hu; rfl
  | 0, j + 3 => cases hf; cases hu
  | 1, j + 3 => cases hf; cases hu
  | i + 2, j => cases hf
theorem fits_two {a b : Flt} (ha : a.fits) (hb : b.fits) : ∀ f ∈ [a, b], f.fits := by
  intro f hf
  rcases List.mem_cons.1 hf with rfl | hf
  · exact ha
  · rcases List.mem_cons.1 hf with rfl | hf
    · exact hb
    · cases hf
theorem cnt_two (a b : Flt) (u : Nat) : ((cntN [a, b] u : Int) == 2) = bothN a b u := by
  unfold cntN bothN
  cases ha : hitN a u <;> cases hb : hitN b u <;> simp [ha, hb]
theorem ask_two (a b : Flt) : askL [a, b] = lowN a b := by unfold askL lowN; simp

set_option maxHeartbeats 1000000 in
theorem both_v {a b : Flt} {u p r : Nat} {q : Bool} (h : bothN a b u = q) (ha : a.fits) (hb : b.fits) (hu : u < 4294967296) (w : World) (hA : FlAt w p a) (hB : FlAt w r b) :
    Calls Tryd.prog 27 #[.int .u32 u, .pointer (some ⟨p, 0, none⟩), .pointer (some ⟨r, 0, none⟩)] w fun e w' => e = .returned (.bool q) ∧ Below w.heap.size w w' := by
  have H := Lib.hid h
  have HU := Lib.hid hu
  have HF := Lib.hid (fits_two ha hb)
  have HC := Lib.hid (cnt_two a b u)
  obtain ⟨a0, a1, a2⟩ := hA
  obtain ⟨b0, b1, b2⟩ := hB
  clear h hu ha hb
  go_enter Tryd.func27, Tryd.ntmps27
  go_wp2_with fail
  refine (hits_any _ (sl_two w a b _ _ rfl) HF.out HU.out).mono ?_
  rintro e w1 ⟨rfl, hb⟩
  go_wp2
  go_ret
  exact ⟨fret_bool (by rw [← H.out]; exact HC.out), fbelow_a _ hb⟩

/-- both filters' boxes stand, and something may have been made behind them -/
def Boxes (w : World) (k : Nat) (a b : Flt) : Prop := FlAt w k a ∧ FlAt w (k + 1) b ∧ k + 1 < w.heap.size
theorem Boxes.below {w w1 : World} {k : Nat} {a b : Flt} (h : Boxes w k a b) (hb : Below w.heap.size w w1) : Boxes w1 k a b :=
  ⟨h.1.below hb (by have := h.2.2; omega), h.2.1.below hb h.2.2, Nat.lt_of_lt_of_le h.2.2 hb.size⟩
theorem Boxes.made {w w1 : World} {a b : Flt} {t t' : TypeId} {o : Obj}
    (hb : Below (((w.alloc (.cells #[.int .u32 a.i, .int .u32 a.m, .bool a.v] t)).alloc (.cells #[.int .u32 b.i, .int .u32 b.m, .bool b.v] t')).alloc o).heap.size
      (((w.alloc (.cells #[.int .u32 a.i, .int .u32 a.m, .bool a.v] t)).alloc (.cells #[.int .u32 b.i, .int .u32 b.m, .bool b.v] t')).alloc o) w1) : Boxes w1 w.heap.size a b ∧ Below w.heap.size w w1 := by
  have h2 := fbelow_a _ hb
  have h1 := fbelow_a _ h2
  have hz := h2.size
  simp only [World.size_alloc] at hz
  refine ⟨⟨(FlAt.made w a _ _ rfl).below h1 (by simp), (FlAt.made _ b _ _ (by simp)).below h2 (by simp), by omega⟩, fbelow_a _ h1⟩
theorem or_shl (n k : Nat) (hn : n < 4294967296) (hk : k < 32) : bits .or .u32 (n : Int) ((2 : Int) ^ k % 4294967296) = ((n ||| 2 ^ k : Nat) : Int) := by
  have hp : 2 ^ k < 4294967296 := by
    have : 2 ^ k < 2 ^ 32 := Nat.pow_lt_pow_right (by decide) hk
    omega
  have e : ((2 : Int) ^ k % 4294967296) = ((2 ^ k : Nat) : Int) := by
    have h2 : ((2 ^ k : Nat) : Int) = (2 : Int) ^ k := by simp
    rw [← h2]
    exact Int.emod_eq_of_lt (Int.natCast_nonneg _) (Int.ofNat_lt.2 hp)
  rw [e]
  exact u32_or _ _ hn hp
theorem fret_tuple {a b : Nat} {q r : Bool} (h : a = b ∧ q = r) : Ending.returned (.tuple #[.int .u32 (a : Int), .bool q]) = .returned (.tuple #[.int .u32 (b : Int), .bool r]) := by rw [h.1, h.2]

set_option maxHeartbeats 2000000 in
theorem witness_v {a b : Flt} {c : Nat} {q : Bool} (h : Least (bothN (turnF a) b) c q) (ha : a.fits) (hb : b.fits) (w : World) :
    Calls Tryd.prog 22 #[.agg #[.int .u32 a.i, .int .u32 a.m, .bool a.v], .agg #[.int .u32 b.i, .int .u32 b.m, .bool b.v]] w fun e w' => e = .returned (.tuple #[.int .u32 c, .bool q]) ∧ Below w.heap.size w w' := by
  obtain ⟨ai, am, av⟩ := a
  have HA : Hid (Flt.fits ⟨ai, am, !av⟩) := Lib.hid ha
  have H : Hid (Least (bothN ⟨ai, am, !av⟩ b) c q) := Lib.hid h
  have HB := Lib.hid hb
  clear h ha hb
  go_enter Tryd.func22, Tryd.ntmps22
  go_wp2_with fail
  refine (floor_any _ (sl_two _ ⟨ai, am, !av⟩ b _ _ (by simp)) (fits_two HA.out HB.out)).mono ?_
  rintro e w1 ⟨rfl, hb1⟩
  rw [ask_two]
  have hlow : lowN ⟨ai, am, !av⟩ b < 4294967296 := low_lt HA.out.1 HB.out.1
  have HL := Lib.hid hlow
  have HPA : Hid (Boxes w1 w.heap.size ⟨ai, am, !av⟩ b ∧ Below w.heap.size w w1) := Lib.hid (Boxes.made (a := ⟨ai, am, !av⟩) hb1)
  clear hb1 hlow
  generalize hn : lowN ⟨ai, am, !av⟩ b = n at HL
  have HN := Lib.hid hn
  clear hn
  generalize h0 : bothN ⟨ai, am, !av⟩ b n = q0
  have H0 := Lib.hid h0
  clear h0
  go_wp2_with fail
  refine (both_v H0.out HA.out HB.out HL.out _ HPA.out.1.1 HPA.out.1.2.1).mono ?_
  rintro e w2 ⟨rfl, hb2⟩
  have HPB : Hid (Boxes w2 w.heap.size ⟨ai, am, !av⟩ b ∧ Below w.heap.size w w2) := Lib.hid ⟨HPA.out.1.below hb2, fbelow_t HPA.out.2 hb2⟩
  clear hb2 HPA
  cases q0
  · go_wp2_with fail
    go_loopw [25] (fun i wr => ∃ k : Nat, k ≤ 32 ∧ i = .int .i64 k ∧ Hid (Tried ⟨ai, am, !av⟩ b k) ∧ Hid (Boxes wr w.heap.size ⟨ai, am, !av⟩ b ∧ Below w.heap.size w wr)) (fun i _ => 32 - (intOf i).toNat)
    case atStart => exact ⟨0, by omega, rfl, Lib.hid ⟨by rw [HN.out]; exact H0.out, fun i hi => absurd hi (Nat.not_lt_zero _)⟩, HPB⟩
    case round =>
      obtain ⟨k, hk, rfl, HT, HBW⟩ := hrel
      by_cases hlt : k < 32
      · have e1 := or_shl n k HL.out hlt
        have HO : Hid (n ||| 2 ^ k < 4294967296) := Lib.hid (or_lt HL.out hlt)
        generalize h1 : (n ||| 2 ^ k : Nat) = one at e1 HO
        have HE := Lib.hid h1
        generalize hq1 : bothN ⟨ai, am, !av⟩ b one = q1
        have H1 := Lib.hid hq1
        clear h1 hq1
        go_wp2_with fail
        refine (both_v H1.out HA.out HB.out HO.out _ HBW.out.1.1 HBW.out.1.2.1).mono ?_
        rintro e w3 ⟨rfl, hb3⟩
        have HPC : Hid (Boxes w3 w.heap.size ⟨ai, am, !av⟩ b ∧ Below w.heap.size w w3) := Lib.hid ⟨HBW.out.1.below hb3, fbelow_t HBW.out.2 hb3⟩
        clear hb3 HBW
        cases q1
        · go_wp2_with fail
          go_loopw [37] (fun i wr => ∃ j : Nat, j ≤ k ∧ i = .int .i64 j ∧ Hid (Tried2 ⟨ai, am, !av⟩ b k j) ∧ Hid (Boxes wr w.heap.size ⟨ai, am, !av⟩ b ∧ Below w.heap.size w wr)) (fun i _ => k - (intOf i).toNat)
          case atStart => exact ⟨0, by omega, rfl, Lib.hid ⟨HT.out, by rw [HN.out, HE.out]; exact H1.out, fun i hi => absurd hi (Nat.not_lt_zero _)⟩, HPC⟩
          case round =>
            obtain ⟨j, hj, rfl, HT2, HBX⟩ := hrel
            by_cases hlj : j < k
            · have e2 := or_shl one j HO.out (by omega)
              have HO2 : Hid (one ||| 2 ^ j < 4294967296) := Lib.hid (or_lt HO.out (by omega))
              generalize h2 : (one ||| 2 ^ j : Nat) = two at e2 HO2
              have HE2 := Lib.hid h2
              generalize hq2 : bothN ⟨ai, am, !av⟩ b two = q2
              have H2 := Lib.hid hq2
              clear h2 hq2
              go_wp2_with fail
              refine (both_v H2.out HA.out HB.out HO2.out _ HBX.out.1.1 HBX.out.1.2.1).mono ?_
              rintro e w4 ⟨rfl, hb4⟩
              have HPD : Hid (Boxes w4 w.heap.size ⟨ai, am, !av⟩ b ∧ Below w.heap.size w w4) := Lib.hid ⟨HBX.out.1.below hb4, fbelow_t HBX.out.2 hb4⟩
              clear hb4 HBX
              cases q2
              · go_wp2
                go_roundw
                case rel => exact ⟨j + 1, by omega, by go_num, Lib.hid (HT2.out.next (by rw [HN.out, HE.out, HE2.out]; exact H2.out)), HPD⟩
                case measure => simp [intOf]; omega
              · go_wp2
                go_ret2
                refine ⟨fret_tuple (Least.same ?_ H.out), HPD.out.2⟩
                rw [← HE2.out, ← HE.out, ← HN.out]
                exact least_two HA.out.1 HB.out.1 hlt hlj HT2.out (by rw [HN.out, HE.out, HE2.out]; exact H2.out)
            · obtain rfl : j = k := by omega
              go_wp2
              go_roundw
              case rel => exact ⟨j + 1, by omega, by go_num, Lib.hid (Tried.next HT2.out), HBX⟩
              case measure => simp [intOf]; omega
        · go_wp2
          go_ret2
          refine ⟨fret_tuple (Least.same ?_ H.out), HPC.out.2⟩
          rw [← HE.out, ← HN.out]
          exact least_one HA.out.1 HB.out.1 hlt HT.out (by rw [HN.out, HE.out]; exact H1.out)
      · obtain rfl : k = 32 := by omega
        go_wp2
        go_ret2
        exact ⟨fret_tuple ((least_none HT.out).same H.out), HBW.out.2⟩
  · go_wp2
    go_ret2
    refine ⟨fret_tuple (Least.same ?_ H.out), HPB.out.2⟩
    rw [← HN.out]
    exact least_zero HA.out.1 HB.out.1 (by rw [HN.out]; exact H0.out)

set_option maxHeartbeats 1000000 in
theorem covers_v {a b : Flt} {c : Nat} {q : Bool} (h : Least (bothN (turnF a) b) c q) (ha : a.fits) (hb : b.fits) (w : World) :
    Calls Tryd.prog 23 #[.agg #[.int .u32 a.i, .int .u32 a.m, .bool a.v], .agg #[.int .u32 b.i, .int .u32 b.m, .bool b.v]] w fun e w' => e = .returned (.bool (!q)) ∧ Below w.heap.size w w' := by
  have H := Lib.hid h
  have HA := Lib.hid ha
  have HB := Lib.hid hb
  clear h ha hb
  go_enter Tryd.func23, Tryd.ntmps23
  go_wp2_with fail
  refine (witness_v H.out HA.out HB.out _).mono ?_
  rintro e w1 ⟨rfl, hb1⟩
  go_wp2
  go_ret
  exact ⟨rfl, fbelow_a _ (fbelow_a _ hb1)⟩

end Go.Proofs.YtohoedhaomkafaaDoor
