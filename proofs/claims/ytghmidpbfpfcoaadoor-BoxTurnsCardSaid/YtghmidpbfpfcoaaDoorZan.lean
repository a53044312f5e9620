/- Box: walk of BoxNil. -/
import Derived.Test.YtghmidpbfpfcoaaDoorZam
namespace Go.Proofs.YtghmidpbfpfcoaaDoor
open Go.RowKit
set_option linter.unusedVariables false

set_option maxHeartbeats 4000000 in
theorem boxNil_walk {T : World → Prop} {I : World → Value → Bx → (Nat → Prop) → Prop} (A : BoxI T I) (N : BoxNo) (p : Pk) (n : Int) (w : World) (hT : T w) :
    Calls Tryd.prog 5 #[pkV p, .int .i64 n] w fun e w' => e = .returned (.bool true) ∧ Below w.heap.size w w' := by
  have HA := Lib.hid A
  have HN := Lib.hid N
  have HT := Lib.hid hT
  have HB0 := Lib.hid ((Below.refl w.heap.size w).alloc (Nat.le_refl _) (.cells #[.int .i64 p.f.i, .int .i64 p.f.n, .int .i64 p.f.l, .string p.f.d, .int .i64 p.fr, .int .i64 p.tag, .bool p.lp] 32))
  obtain ⟨d0, d1, d2, d3, d4, d5, d6⟩ := (BoxP.made w p).cells
  have k3 : pk0.f.d = ByteArray.mk #[] := rfl
  have k4 : pk0.fr = 0 := rfl
  have k5 : pk0.tag = 0 := rfl
  have k6 : pk0.lp = false := rfl
  clear hT A N
  go_enter Tryd.func5, Tryd.ntmps5
  go_wp2_with fail
  refine (HN.out.put p _).mono ?_
  rintro e w1 ⟨rfl, hb⟩
  have HB1 := Lib.hid (fbelow_t HB0.out hb)
  clear hb d0 d1 d2 d3 d4 d5 d6
  go_wp2_with fail
  refine (HN.out.best _).mono ?_
  rintro e w2 ⟨rfl, hb⟩
  have HB2 := Lib.hid (fbelow_t HB1.out hb)
  clear hb
  have HB2a := Lib.hid (fbelow_t HB2.out ((Below.refl w2.heap.size w2).alloc (Nat.le_refl _) (.cells #[.int .i64 0, .int .i64 0, .int .i64 0, .string (ByteArray.mk #[]), .int .i64 0, .int .i64 0, .bool false] 32)))
  have HP2 := Lib.hid (BoxP.made w2 pk0)
  go_wp2_with fail
  refine (HN.out.take _).mono ?_
  rintro e w3 ⟨rfl, hb⟩
  have HB3 := Lib.hid (fbelow_t HB2a.out hb)
  have HP3 := Lib.hid (HP2.out.later hb)
  clear hb
  have hbl := (Below.refl w3.heap.size w3).alloc (Nat.le_refl _) (.cells #[.int .i64 0, .int .i64 0, .int .i64 0, .int .i64 0, .string (ByteArray.mk #[]), .int .i64 0, .int .i64 0, .bool false, .bool false] 53)
  have HB4 := Lib.hid (fbelow_t HB3.out hbl)
  have HP4 := Lib.hid (HP3.out.later hbl)
  obtain ⟨d0, d1, d2, d3, d4, d5, d6⟩ := HP3.out.cells
  simp only [pk0] at d0 d1 d2 d3 d4 d5 d6
  have hz3 : w2.heap.size < w3.heap.size := HP3.out.lt
  clear hbl
  go_wp2_with fail
  refine (HN.out.sent n _).mono ?_
  rintro e w5 ⟨rfl, hb⟩
  have HB5 := Lib.hid (fbelow_t HB4.out hb)
  clear hb
  go_wp2_with fail
  refine (HN.out.abort n _).mono ?_
  rintro e w6 ⟨rfl, hb⟩
  have HB6 := Lib.hid (fbelow_t HB5.out hb)
  clear hb
  go_wp2_with fail
  refine (HN.out.states _).mono ?_
  rintro e w7 ⟨⟨A1, c1, rfl⟩, hb⟩
  have HB7 := Lib.hid (fbelow_t HB6.out hb)
  clear hb
  go_wp2_with fail
  refine (HN.out.free _).mono ?_
  rintro e w8 ⟨rfl, hb⟩
  have HB8 := Lib.hid (fbelow_t HB7.out hb)
  clear hb
  go_wp2_with fail
  refine (boxalive HA.out _ (HA.out.tab HT.out HB8.out)).mono ?_
  rintro e w9 ⟨rfl, hb⟩
  have HB9 := Lib.hid (fbelow_t HB8.out hb)
  clear hb
  go_wp2
  go_ret
  exact ⟨rfl, HB9.out⟩
end Go.Proofs.YtghmidpbfpfcoaaDoor
