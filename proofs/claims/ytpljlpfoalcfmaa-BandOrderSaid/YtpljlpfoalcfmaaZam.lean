/- Band: walk of BandNil. -/
import Derived.Test.YtpljlpfoalcfmaaZal
namespace Go.Proofs.Ytpljlpfoalcfmaa
open Go.RowKit
set_option linter.unusedVariables false

set_option maxHeartbeats 4000000 in
theorem bandNil_walk {I : World → Value → Bq → (Nat → Prop) → Prop} (A : BandI I) (N : BandNo) (n : Int) (p : Pk) (w : World) :
    Calls Try.prog 6 #[.int .i64 n, pkV p] w fun e w' => e = .returned (.bool true) ∧ Below w.heap.size w w' := by
  have HA := Lib.hid A
  have HN := Lib.hid N
  have HB0 := Lib.hid ((Below.refl w.heap.size w).alloc (Nat.le_refl _) (.cells #[.int .i64 p.f.i, .int .i64 p.f.n, .int .i64 p.f.l, .string p.f.d, .int .i64 p.fr, .int .i64 p.tag, .bool p.lp] 32))
  have HP0 := Lib.hid (BoxP.made w p)
  clear A N
  go_enter Try.func6, Try.ntmps6
  go_wp2_with fail
  refine (HN.out.stop _).mono ?_
  rintro e w1 ⟨rfl, hb⟩
  have HB1 := Lib.hid (fbelow_t HB0.out hb)
  have HP1 := Lib.hid (HP0.out.later hb)
  clear hb
  go_wp2_with fail
  refine (HN.out.wake _).mono ?_
  rintro e w2 ⟨rfl, hb⟩
  have HB2 := Lib.hid (fbelow_t HB1.out hb)
  have HP2 := Lib.hid (HP1.out.later hb)
  clear hb
  go_wp2_with fail
  refine (HN.out.take _).mono ?_
  rintro e w3 ⟨rfl, hb⟩
  have HB3 := Lib.hid (fbelow_t HB2.out hb)
  have HP3 := Lib.hid (HP2.out.later hb)
  clear hb
  have hbl := (Below.refl w3.heap.size w3).alloc (Nat.le_refl _) (.cells #[.int .i64 0, .int .i64 0, .int .i64 0, .string (ByteArray.mk #[]), .int .i64 0, .int .i64 0, .bool false] 32)
  have HB3a := Lib.hid (fbelow_t HB3.out hbl)
  have HP3a := Lib.hid (HP3.out.later hbl)
  have HZ3 := Lib.hid (BoxP.made w3 pk0)
  obtain ⟨d0, d1, d2, d3, d4, d5, d6⟩ := HP3.out.cells
  have hz3 : w.heap.size < w3.heap.size := HP3.out.lt
  clear hbl
  go_wp2_with fail
  refine (HN.out.put n p _).mono ?_
  rintro e w4 ⟨rfl, hb⟩
  have HB4 := Lib.hid (fbelow_t HB3a.out hb)
  have HZ4 := Lib.hid (HZ3.out.later hb)
  clear hb d0 d1 d2 d3 d4 d5 d6
  obtain ⟨d0, d1, d2, d3, d4, d5, d6⟩ := HZ4.out.cells
  simp only [pk0] at d0 d1 d2 d3 d4 d5 d6
  go_wp2_with fail
  refine (HN.out.stopped _).mono ?_
  rintro e w5 ⟨rfl, hb⟩
  have HB5 := Lib.hid (fbelow_t HB4.out hb)
  clear hb
  go_wp2_with fail
  refine (HN.out.len _).mono ?_
  rintro e w6 ⟨rfl, hb⟩
  have HB6 := Lib.hid (fbelow_t HB5.out hb)
  clear hb
  go_wp2_with fail
  refine (HN.out.all _).mono ?_
  rintro e w7 ⟨⟨A1, c1, rfl⟩, hb⟩
  have HB7 := Lib.hid (fbelow_t HB6.out hb)
  clear hb
  go_wp2_with fail
  refine (HN.out.flush _).mono ?_
  rintro e w8 ⟨rfl, hb⟩
  have HB8 := Lib.hid (fbelow_t HB7.out hb)
  clear hb
  go_wp2_with fail
  refine (bandalive HA.out _).mono ?_
  rintro e w9 ⟨rfl, hb⟩
  have HB9 := Lib.hid (fbelow_t HB8.out hb)
  clear hb
  go_wp2
  go_ret
  exact ⟨rfl, HB9.out⟩
end Go.Proofs.Ytpljlpfoalcfmaa
