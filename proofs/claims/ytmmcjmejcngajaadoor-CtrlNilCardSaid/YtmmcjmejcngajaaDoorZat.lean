/- Ctrl: the chapter's example; walk of CtrlNil. -/
import Derived.Test.YtmmcjmejcngajaaDoorZas
import Derived.Test.YtmmcjmejcngajaaDoorZan
namespace Go.Proofs.YtmmcjmejcngajaaDoor
open Go.RowKit
set_option linter.unusedVariables false

def cA : Cg := ⟨1, 1, 0, 0, 0, 0, 0, none, 0, 0⟩
def fA (i : Int) : Fr := ⟨i, 0, 0, ByteArray.mk #[]⟩
def sA0 : Ct := ctNew cA []
def sA1 : Ct := (sA0.hear (fA 1)).1
def sA2 : Ct := (sA1.hear (fA 2)).1
theorem sA0_ok : sA0.Ok := Ct.Ok.new cA []
theorem sA1_ok : sA1.Ok := sA0_ok.hear _
theorem sA2_ok : sA2.Ok := sA1_ok.hear _
theorem sA_e1 : (sA0.hear (fA 1)).2 = true := by decide +kernel
theorem sA_e2 : (sA1.hear (fA 2)).2 = false := by decide +kernel
theorem sA_e3 : sA2.asks = 6 ∧ sA2.fifo.length = 1 ∧ sA2.lost = 1 ∧ sA2.bx.free sA2.bx.S.length = 1 := by decide +kernel
theorem sA_l : sA0.lost ≤ 1000000 ∧ sA1.lost ≤ 1000000 := by decide +kernel
theorem fA_64 (i : Int) : (fA i).n64 := ⟨by show (-9223372036854775808 : Int) ≤ 0; decide, by show (0 : Int) ≤ 9223372036854775807; decide⟩
theorem accA_nil (w : World) (s : Ct) (O : Nat → Prop) (h1 : s.va = .slice none 0 0) (h2 : s.acc = []) : AccA w s O := by
  unfold AccA
  rw [h1, h2]
  exact ⟨SlA.nil _ _ _ _, nofun⟩
theorem sA1_acc : sA1.va = .slice none 0 0 ∧ sA1.acc = [] := ⟨(Ct.hear_acc sA0 (fA 1)).1, (Ct.hear_acc sA0 (fA 1)).2.1⟩
set_option maxHeartbeats 4000000 in
theorem ctrlalive {T : World → Prop} {I : World → Value → Ct → (Nat → Prop) → Prop} (A : CtrlI T I) (w : World) (hT : T w) :
    Calls Tryd.prog 6 #[] w fun e w' => e = .returned (.bool true) ∧ Below w.heap.size w w' := by
  have HA := Lib.hid A
  have HT := Lib.hid hT
  clear hT A
  go_enter Tryd.func6, Tryd.ntmps6
  go_wp2_with fail
  refine (HA.out.new cA [] _ HT.out (SlG.nil _ _ _ _) nofun (by decide)).mono ?_
  rintro e w0 ⟨v, O0, rfl, hi, hb, hn⟩
  obtain ⟨a, rfl⟩ := HA.out.ptr hi
  have H1 : Hid (Has I w (.pointer (some a)) sA0 O0 w0) := Lib.hid ⟨hi, hb, hn⟩
  clear hi hb hn
  go_wp2_with fail
  refine (HA.out.hear (fA 1) H1.out.inv sA0_ok sA_l.1 (HA.out.tab HT.out H1.out.below) (fA_64 1) (accA_nil _ _ _ rfl rfl)).mono ?_
  rintro e w1 ⟨he, O1, hi, hk, hg⟩
  rw [sA_e1] at he
  subst he
  have H2 : Hid (Has I w (.pointer (some a)) sA1 O1 w1) := Lib.hid (H1.out.step HA.out.obj hi hk hg)
  clear hi hk hg
  go_wp2_with fail
  refine (HA.out.hear (fA 2) H2.out.inv sA1_ok sA_l.2 (HA.out.tab HT.out H2.out.below) (fA_64 2) (accA_nil _ _ _ sA1_acc.1 sA1_acc.2)).mono ?_
  rintro e w2 ⟨he, O2, hi, hk, hg⟩
  rw [sA_e2] at he
  subst he
  have H3 : Hid (Has I w (.pointer (some a)) sA2 O2 w2) := Lib.hid (H2.out.step HA.out.obj hi hk hg)
  clear hi hk hg
  obtain ⟨b1, b2, b3, b4⟩ := sA_e3
  go_wp2_with fail
  refine (HA.out.asks H3.out.inv sA2_ok).mono ?_
  rintro e w3 ⟨rfl, hb⟩
  rw [b1]
  have H4 := Lib.hid (H3.out.later HA.out.obj hb)
  clear hb
  go_wp2_with fail
  refine (HA.out.kept H4.out.inv sA2_ok).mono ?_
  rintro e w4 ⟨rfl, hb⟩
  rw [b2]
  have H5 := Lib.hid (H4.out.later HA.out.obj hb)
  clear hb
  go_wp2_with fail
  refine (HA.out.lost H5.out.inv sA2_ok).mono ?_
  rintro e w5 ⟨rfl, hb⟩
  rw [b3]
  have H6 := Lib.hid (H5.out.later HA.out.obj hb)
  clear hb
  go_wp2_with fail
  refine (HA.out.free H6.out.inv sA2_ok).mono ?_
  rintro e w6 ⟨rfl, hb⟩
  rw [b4]
  have H7 := Lib.hid (H6.out.later HA.out.obj hb)
  clear hb
  go_wp2
  go_ret
  exact ⟨rfl, H7.out.below⟩
set_option maxHeartbeats 8000000 in
theorem ctrlNil_walk {T : World → Prop} {I : World → Value → Ct → (Nat → Prop) → Prop} (A : CtrlI T I) (N : CtrlNo) (p : Pk) (w : World) (hT : T w) :
    Calls Tryd.prog 5 #[pkV p] w fun e w' => e = .returned (.bool true) ∧ Below w.heap.size w w' := by
  have HA := Lib.hid A
  have HN := Lib.hid N
  have HT := Lib.hid hT
  have HB0 := Lib.hid ((Below.refl w.heap.size w).alloc (Nat.le_refl _) (.cells #[.int .i64 p.f.i, .int .i64 p.f.n, .int .i64 p.f.l, .string p.f.d, .int .i64 p.fr, .int .i64 p.tag, .bool p.lp] 45))
  have HP0 := Lib.hid (BoxP.made w p)
  have k3 : pk0.f.d = ByteArray.mk #[] := rfl
  have k4 : pk0.fr = 0 := rfl
  have k5 : pk0.tag = 0 := rfl
  have k6 : pk0.lp = false := rfl
  clear hT A N
  go_enter Tryd.func5, Tryd.ntmps5
  go_wp2_with fail
  refine (HN.out.off _).mono ?_
  rintro e w1 ⟨rfl, hb⟩
  have HB1 := Lib.hid (fbelow_t HB0.out hb)
  have HP1 := Lib.hid (HP0.out.later hb)
  clear hb
  go_wp2_with fail
  refine (HN.out.clear 3 _).mono ?_
  rintro e w2 ⟨rfl, hb⟩
  have HB2 := Lib.hid (fbelow_t HB1.out hb)
  have HP2 := Lib.hid (HP1.out.later hb)
  clear hb
  obtain ⟨d0, d1, d2, d3, d4, d5, d6⟩ := HP2.out.cells
  go_wp2_with fail
  refine (HN.out.load p _).mono ?_
  rintro e w3 ⟨rfl, hb⟩
  have HB3 := Lib.hid (fbelow_t HB2.out hb)
  have HP3 := Lib.hid (HP2.out.later hb)
  clear hb d0 d1 d2 d3 d4 d5 d6
  go_wp2_with fail
  refine (HN.out.offer _).mono ?_
  rintro e w4 ⟨rfl, hb⟩
  have hb4 := fbelow_t hb ((Below.refl w4.heap.size w4).alloc (Nat.le_refl _) (.cells #[.int .i64 0, .int .i64 0, .int .i64 0, .string (ByteArray.mk #[])] 27))
  have HB4 := Lib.hid (fbelow_t HB3.out hb4)
  have HP4 := Lib.hid (HP3.out.later hb4)
  have HF4 := Lib.hid (BoxF.made w4 0 0 0 (ByteArray.mk #[]))
  clear hb hb4
  simp only [fmV, frz]
  go_wp2_with fail
  refine (HN.out.ended _).mono ?_
  rintro e w5 ⟨rfl, hb⟩
  have hb5 := fbelow_t hb ((Below.refl w5.heap.size w5).alloc (Nat.le_refl _) (.cells #[.int .i64 0, .int .i64 0, .int .i64 0, .int .i64 0, .string (ByteArray.mk #[]), .int .i64 0, .int .i64 0, .bool false, .bool false] 55))
  have HB5 := Lib.hid (fbelow_t HB4.out hb5)
  have HP5 := Lib.hid (HP4.out.later hb5)
  have HF5 := Lib.hid (HF4.out.later hb5)
  have HD5 : Hid ((w5.alloc (.cells #[.int .i64 0, .int .i64 0, .int .i64 0, .int .i64 0, .string (ByteArray.mk #[]), .int .i64 0, .int .i64 0, .bool false, .bool false] 55)).heap[w5.heap.size]? = some (.cells #[.int .i64 0, .int .i64 0, .int .i64 0, .int .i64 0, .string (ByteArray.mk #[]), .int .i64 0, .int .i64 0, .bool false, .bool false] 55 (0, 0))) := Lib.hid (by unfold World.alloc; simp)
  clear hb hb5
  go_wp2_with fail
  refine (HN.out.fetch _).mono ?_
  rintro e w6 ⟨rfl, hb⟩
  have hb6 := fbelow_t hb ((Below.refl w6.heap.size w6).alloc (Nat.le_refl _) (.cells #[.int .i64 0, .int .i64 0, .int .i64 0, .string (ByteArray.mk #[])] 27))
  have HB6 := Lib.hid (fbelow_t HB5.out hb6)
  have HP6 := Lib.hid (HP5.out.later hb6)
  have HF6 := Lib.hid (HF5.out.later hb)
  have HD6 : Hid (w6.heap[w5.heap.size]? = some (.cells #[.int .i64 0, .int .i64 0, .int .i64 0, .int .i64 0, .string (ByteArray.mk #[]), .int .i64 0, .int .i64 0, .bool false, .bool false] 55 (0, 0))) := Lib.hid ((hb.block w5.heap.size (heap_some_lt HD5.out)).trans HD5.out)
  have hz4 := HF6.out.lt
  have hz5 : w5.heap.size < w6.heap.size := heap_some_lt HD6.out
  clear hb hb6
  obtain ⟨d0, d1, d2, d3⟩ := HF6.out.cells
  have e0 : ∀ j, w6.cell? ⟨w5.heap.size, j, none⟩ = (#[Value.int .i64 0, .int .i64 0, .int .i64 0, .int .i64 0, .string (ByteArray.mk #[]), .int .i64 0, .int .i64 0, .bool false, .bool false] : Array Value)[j]? := Lib.cell_of_heap HD6.out
  have x0 := e0 0
  have x1 := e0 1
  have x2 := e0 2
  have x3 := e0 3
  have x4 := e0 4
  have x5 := e0 5
  have x6 := e0 6
  have x7 := e0 7
  have x8 := e0 8
  simp at x0 x1 x2 x3 x4 x5 x6 x7 x8
  clear e0
  simp only [fmV, frz]
  go_wp2_with fail
  refine (HN.out.won _).mono ?_
  rintro e w7 ⟨rfl, hb⟩
  have HB7 := Lib.hid (fbelow_t HB6.out hb)
  have HP7 := Lib.hid (HP6.out.later hb)
  clear hb d0 d1 d2 d3 x0 x1 x2 x3 x4 x5 x6 x7 x8 hz4 hz5
  obtain ⟨d0, d1, d2, d3, d4, d5, d6⟩ := HP7.out.cells
  go_wp2_with fail
  refine (HN.out.hear p.f _).mono ?_
  rintro e w8 ⟨rfl, hb⟩
  have HB8 := Lib.hid (fbelow_t HB7.out hb)
  clear hb d0 d1 d2 d3 d4 d5 d6
  go_wp2_with fail
  refine (HN.out.asks _).mono ?_
  rintro e w9 ⟨rfl, hb⟩
  have HB9 := Lib.hid (fbelow_t HB8.out hb)
  clear hb
  go_wp2_with fail
  refine (HN.out.abort _).mono ?_
  rintro e w10 ⟨rfl, hb⟩
  have HB10 := Lib.hid (fbelow_t HB9.out hb)
  clear hb
  go_wp2_with fail
  refine (HN.out.free _).mono ?_
  rintro e w11 ⟨rfl, hb⟩
  have HB11 := Lib.hid (fbelow_t HB10.out hb)
  clear hb
  go_wp2_with fail
  refine (HN.out.lost _).mono ?_
  rintro e w12 ⟨rfl, hb⟩
  have HB12 := Lib.hid (fbelow_t HB11.out hb)
  clear hb
  go_wp2_with fail
  refine (HN.out.kept _).mono ?_
  rintro e w13 ⟨rfl, hb⟩
  have HB13 := Lib.hid (fbelow_t HB12.out hb)
  clear hb
  go_wp2_with fail
  refine (HN.out.states _).mono ?_
  rintro e w14 ⟨⟨A1, c1, rfl⟩, hb⟩
  have HB14 := Lib.hid (fbelow_t HB13.out hb)
  clear hb
  go_wp2_with fail
  refine (ctrlalive HA.out _ (HA.out.tab HT.out HB14.out)).mono ?_
  rintro e w15 ⟨rfl, hb⟩
  have HB15 := Lib.hid (fbelow_t HB14.out hb)
  clear hb
  go_wp2
  go_ret
  exact ⟨rfl, HB15.out⟩
end Go.Proofs.YtmmcjmejcngajaaDoor
