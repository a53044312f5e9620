/- Echo: the chapter's example; walk of EchoNil. -/
import Derived.Test.YtmpikfnemhjoeaaZag
namespace Go.Proofs.Ytmpikfnemhjoeaa
open Go.RowKit
set_option linter.unusedVariables false

def pkE (t : Int) : Pk := ⟨⟨0, 0, 0, ByteArray.mk #[]⟩, 0, t, false⟩
theorem epacket_v (t : Int) (w : World) : Calls Try.prog 15 #[.int .i64 t] w fun e w' => e = .returned (pkV (pkE t)) ∧ Below w.heap.size w w' := by
  go_enter Try.func15, Try.ntmps15
  go_wp2
  refine bodyPost_ret (v := pkV (pkE t)) ?_ rfl ⟨rfl, (Below.refl _ w).alloc (Nat.le_refl _) _⟩
  simp [results, Try.results15, go_sem, pkE]
def eA0 : Ec := ecNew (boxesN 1)
def eA1 : Ec := (eA0.put 0 (pkE 1)).1
def eA2 : Ec := (eA1.put 0 (pkE 2)).1
def eA3 : Ec := (eA2.get 0).1
theorem eA0_ok : eA0.Ok := Ec.Ok.new 1
theorem eA1_ok : eA1.Ok := eA0_ok.put _ _
theorem eA2_ok : eA2.Ok := eA1_ok.put _ _
theorem eA3_ok : eA3.Ok := eA2_ok.get _
theorem eA_e1 : (eA0.put 0 (pkE 1)).2 = 0 := by decide +kernel
theorem eA_e2 : (eA1.put 0 (pkE 2)).2 = 5 := by decide +kernel
theorem eA_e3 : (eA2.get 0).2.1.tag = 1 ∧ (eA2.get 0).2.2 = 0 := by decide +kernel
theorem eA_e4 : (eA3.get 0).2.2 = 6 := by decide +kernel
set_option maxHeartbeats 4000000 in
theorem echoalive {I : World → Value → Ec → (Nat → Prop) → Prop} (A : EchoI I) (w : World) :
    Calls Try.prog 6 #[] w fun e w' => e = .returned (.bool true) ∧ Below w.heap.size w w' := by
  have HA := Lib.hid A
  clear A
  go_enter Try.func6, Try.ntmps6
  go_wp2_with fail
  refine (HA.out.new 1 _).mono ?_
  rintro e w0 ⟨v, O0, rfl, hi, hb, hn⟩
  obtain ⟨a, rfl⟩ := HA.out.ptr hi
  have H1 : Hid (Has I w (.pointer (some a)) eA0 O0 w0) := Lib.hid ⟨hi, hb, hn⟩
  clear hi hb hn
  go_wp2_with fail
  refine (epacket_v 1 _).mono ?_
  rintro e y1 ⟨rfl, hb⟩
  have HP1 := Lib.hid (H1.out.later HA.out.obj hb)
  clear hb
  go_wp2_with fail
  refine (HA.out.put 0 (pkE 1) HP1.out.inv eA0_ok).mono ?_
  rintro e w1 ⟨he, O1, hi, hk, hg⟩
  rw [eA_e1] at he
  subst he
  have H2 : Hid (Has I w (.pointer (some a)) eA1 O1 w1) := Lib.hid (HP1.out.step HA.out.obj hi hk hg)
  clear hi hk hg
  go_wp2_with fail
  refine (epacket_v 2 _).mono ?_
  rintro e y2 ⟨rfl, hb⟩
  have HP2 := Lib.hid (H2.out.later HA.out.obj hb)
  clear hb
  go_wp2_with fail
  refine (HA.out.put 0 (pkE 2) HP2.out.inv eA1_ok).mono ?_
  rintro e w2 ⟨he, O2, hi, hk, hg⟩
  rw [eA_e2] at he
  subst he
  have H3 : Hid (Has I w (.pointer (some a)) eA2 O2 w2) := Lib.hid (HP2.out.step HA.out.obj hi hk hg)
  clear hi hk hg
  obtain ⟨t1, t2⟩ := eA_e3
  go_wp2_with fail
  refine (HA.out.get 0 H3.out.inv eA2_ok).mono ?_
  rintro e w3 ⟨rfl, O3, hi, hk, hg⟩
  have H4 : Hid (Has I w (.pointer (some a)) eA3 O3 w3) := Lib.hid (H3.out.step HA.out.obj hi hk hg)
  clear hi hk hg
  rw [t2]
  generalize (eA2.get 0).2.1 = p at t1 ⊢
  have HT1 := Lib.hid t1
  clear t1
  have HQ5 : Hid (HasB I w (.pointer (some a)) eA3 O3 w3.heap.size (.cells #[.int .i64 p.f.i, .int .i64 p.f.n, .int .i64 p.f.l, .string p.f.d, .int .i64 p.fr, .int .i64 p.tag, .bool p.lp] 32 (0, 0)) (w3.alloc (.cells #[.int .i64 p.f.i, .int .i64 p.f.n, .int .i64 p.f.l, .string p.f.d, .int .i64 p.fr, .int .i64 p.tag, .bool p.lp] 32))) := Lib.hid (HasB.made HA.out.obj H4.out _ (BoxP.made w3 p))
  have e4 := eA_e4
  go_wp2_with fail
  refine (HA.out.get 0 HQ5.out.has.inv eA3_ok).mono ?_
  rintro e w5 ⟨rfl, O5, hi, hk, hg⟩
  have HQ6 : Hid (HasB I w (.pointer (some a)) (eA3.get 0).1 O5 w3.heap.size _ w5) := Lib.hid (HQ5.out.step HA.out.obj hi hk hg)
  clear hi hk hg
  rw [e4]
  generalize (eA3.get 0).2.1 = p2
  have p5 : w5.cell? ⟨w3.heap.size, 5, none⟩ = some (.int .i64 1) := by rw [Lib.cell_of_heap HQ6.out.box, ← HT1.out]; rfl
  have hz : w3.heap.size < w5.heap.size := heap_some_lt HQ6.out.box
  have HF := Lib.hid (HQ6.out.later HA.out.obj ((Below.refl _ w5).alloc (Nat.le_refl _) (.cells #[.int .i64 p2.f.i, .int .i64 p2.f.n, .int .i64 p2.f.l, .string p2.f.d, .int .i64 p2.fr, .int .i64 p2.tag, .bool p2.lp] 32)))
  clear t2 e4
  go_wp2
  go_ret
  exact ⟨rfl, HF.out.has.below⟩
set_option maxHeartbeats 4000000 in
theorem echoNil_walk {I : World → Value → Ec → (Nat → Prop) → Prop} (A : EchoI I) (N : EchoNo) (n : Int) (p : Pk) (w : World) :
    Calls Try.prog 5 #[.int .i64 n, pkV p] w fun e w' => e = .returned (.bool true) ∧ Below w.heap.size w w' := by
  have HA := Lib.hid A
  have HN := Lib.hid N
  have HB0 := Lib.hid ((Below.refl w.heap.size w).alloc (Nat.le_refl _) (.cells #[.int .i64 p.f.i, .int .i64 p.f.n, .int .i64 p.f.l, .string p.f.d, .int .i64 p.fr, .int .i64 p.tag, .bool p.lp] 32))
  have HP0 := Lib.hid (BoxP.made w p)
  have k3 : pk0.f.d = ByteArray.mk #[] := rfl
  have k4 : pk0.fr = 0 := rfl
  have k5 : pk0.tag = 0 := rfl
  have k6 : pk0.lp = false := rfl
  clear A N
  go_enter Try.func5, Try.ntmps5
  go_wp2_with fail
  refine (HN.out.get n _).mono ?_
  rintro e w1 ⟨rfl, hb⟩
  have HB1 := Lib.hid (fbelow_t HB0.out hb)
  have HP1 := Lib.hid (HP0.out.later hb)
  clear hb
  have hb1 := (Below.refl w1.heap.size w1).alloc (Nat.le_refl _) (.cells #[.int .i64 0, .int .i64 0, .int .i64 0, .string (ByteArray.mk #[]), .int .i64 0, .int .i64 0, .bool false] 32)
  have HB1a := Lib.hid (fbelow_t HB1.out hb1)
  have HP1a := Lib.hid (HP1.out.later hb1)
  have HG1 := Lib.hid (BoxP.made w1 pk0)
  clear hb1
  go_wp2_with fail
  refine (HN.out.peek n _).mono ?_
  rintro e w2 ⟨rfl, hb⟩
  have HB2 := Lib.hid (fbelow_t HB1a.out hb)
  have HP2 := Lib.hid (HP1a.out.later hb)
  have HG2 := Lib.hid (HG1.out.later hb)
  clear hb
  have hb2 := (Below.refl w2.heap.size w2).alloc (Nat.le_refl _) (.cells #[.int .i64 0, .int .i64 0, .int .i64 0, .string (ByteArray.mk #[]), .int .i64 0, .int .i64 0, .bool false] 32)
  have HB2a := Lib.hid (fbelow_t HB2.out hb2)
  have HP2a := Lib.hid (HP2.out.later hb2)
  have HG2a := Lib.hid (HG2.out.later hb2)
  have HK2 := Lib.hid (BoxP.made w2 pk0)
  clear hb2
  obtain ⟨d0, d1, d2, d3, d4, d5, d6⟩ := HP2.out.cells
  have z1 : w.heap.size < w2.heap.size := HP2.out.lt
  go_wp2_with fail
  refine (HN.out.put n p _).mono ?_
  rintro e w3 ⟨rfl, hb⟩
  have HB3 := Lib.hid (fbelow_t HB2a.out hb)
  have HG3 := Lib.hid (HG2a.out.later hb)
  have HK3 := Lib.hid (HK2.out.later hb)
  clear hb d0 d1 d2 d3 d4 d5 d6
  obtain ⟨d0, d1, d2, d3, d4, d5, d6⟩ := HG3.out.cells
  obtain ⟨f0, f1, f2, f3, f4, f5, f6⟩ := HK3.out.cells
  simp only [pk0] at d0 d1 d2 d3 d4 d5 d6 f0 f1 f2 f3 f4 f5 f6
  go_wp2_with fail
  refine (HN.out.len _).mono ?_
  rintro e w4 ⟨rfl, hb⟩
  have HB4 := Lib.hid (fbelow_t HB3.out hb)
  clear hb
  go_wp2_with fail
  refine (HN.out.flush _).mono ?_
  rintro e w5 ⟨A1, c1, rfl, hb⟩
  have HB5 := Lib.hid (fbelow_t HB4.out hb)
  clear hb
  go_wp2_with fail
  refine (echoalive HA.out _).mono ?_
  rintro e w6 ⟨rfl, hb⟩
  have HB6 := Lib.hid (fbelow_t HB5.out hb)
  clear hb
  go_wp2
  go_ret
  exact ⟨rfl, HB6.out⟩
end Go.Proofs.Ytmpikfnemhjoeaa
