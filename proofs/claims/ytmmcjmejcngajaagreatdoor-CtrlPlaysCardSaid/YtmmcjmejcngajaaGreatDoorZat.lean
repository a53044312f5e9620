/- Ctrl: the chapter's example; walk of CtrlNil. Ctrl: the law's few. -/
import Derived.Test.YtmmcjmejcngajaaGreatDoorZas
import Derived.Test.YtmmcjmejcngajaaGreatDoorZan
import Derived.Test.YtmmcjmejcngajaaGreatDoorZao
namespace Go.Proofs.YtmmcjmejcngajaaGreatDoor
open Go.RowKit
set_option linter.unusedVariables false

def cA : Cg := ⟨1, 1, 0, 0, 0, 0, 0, none, 0, 0⟩
def fA (i : Int) : Fr := ⟨i, 0, 0, ByteArray.mk #[]⟩
def sA0 : Ct := ctNew cA []
def sA1 : Ct := (sA0.hear (fA 1)).1
def sA2 : Ct := (sA1.hear (fA 2)).1
theorem sA0_ok : sA0.Ok := Ct.Ok.new cA []
theorem sA1_ok : sA1.Ok := sA0_ok.hear _
theorem sA2_ok : sA2.Ok := sA1_ok.hear _
theorem sA_e1 : (sA0.hear (fA 1)).2 = true := by decide +kernel
theorem sA_e2 : (sA1.hear (fA 2)).2 = false := by decide +kernel
theorem sA_e3 : sA2.asks = 6 ∧ sA2.fifo.length = 1 ∧ sA2.lost = 1 ∧ sA2.bx.free sA2.bx.S.length = 1 := by decide +kernel
theorem sA_l : sA0.lost ≤ 1000000 ∧ sA1.lost ≤ 1000000 := by decide +kernel
theorem fA_64 (i : Int) : (fA i).n64 := ⟨by show (-9223372036854775808 : Int) ≤ 0; decide, by show (0 : Int) ≤ 9223372036854775807; decide⟩
theorem accA_nil (w : World) (s : Ct) (O : Nat → Prop) (h1 : s.va = .slice none 0 0) (h2 : s.acc = []) : AccA w s O := by
  unfold AccA
  rw [h1, h2]
  exact ⟨SlA.nil _ _ _ _, nofun⟩
theorem sA1_acc : sA1.va = .slice none 0 0 ∧ sA1.acc = [] := ⟨(Ct.hear_acc sA0 (fA 1)).1, (Ct.hear_acc sA0 (fA 1)).2.1⟩
set_option maxHeartbeats 4000000 in
theorem ctrlalive {T : World → Prop} {I : World → Value → Ct → (Nat → Prop) → Prop} (A : CtrlI T I) (w : World) (hT : T w) :
    Calls Tryz.prog 5 #[] w fun e w' => e = .returned (.bool true) ∧ Below w.heap.size w w' := by
  have HA := Lib.hid A
  have HT := Lib.hid hT
  clear hT A
  go_enter Tryz.func5, Tryz.ntmps5
  go_wp2_with fail
  refine (HA.out.new cA [] _ HT.out (SlG.nil _ _ _ _) nofun (by decide)).mono ?_
  rintro e w0 ⟨v, O0, rfl, hi, hb, hn⟩
  obtain ⟨a, rfl⟩ := HA.out.ptr hi
  have H1 : Hid (Has I w (.pointer (some a)) sA0 O0 w0) := Lib.hid ⟨hi, hb, hn⟩
  clear hi hb hn
  go_wp2_with fail
  refine (HA.out.hear (fA 1) H1.out.inv sA0_ok sA_l.1 (HA.out.tab HT.out H1.out.below) (fA_64 1) (accA_nil _ _ _ rfl rfl)).mono ?_
  rintro e w1 ⟨he, O1, hi, hk, hg⟩
  rw [sA_e1] at he
  subst he
  have H2 : Hid (Has I w (.pointer (some a)) sA1 O1 w1) := Lib.hid (H1.out.step HA.out.obj hi hk hg)
  clear hi hk hg
  go_wp2_with fail
  refine (HA.out.hear (fA 2) H2.out.inv sA1_ok sA_l.2 (HA.out.tab HT.out H2.out.below) (fA_64 2) (accA_nil _ _ _ sA1_acc.1 sA1_acc.2)).mono ?_
  rintro e w2 ⟨he, O2, hi, hk, hg⟩
  rw [sA_e2] at he
  subst he
  have H3 : Hid (Has I w (.pointer (some a)) sA2 O2 w2) := Lib.hid (H2.out.step HA.out.obj hi hk hg)
  clear hi hk hg
  obtain ⟨b1, b2, b3, b4⟩ := sA_e3
  go_wp2_with fail
  refine (HA.out.asks H3.out.inv sA2_ok).mono ?_
  rintro e w3 ⟨rfl, hb⟩
  rw [b1]
  have H4 := Lib.hid (H3.out.later HA.out.obj hb)
  clear hb
  go_wp2_with fail
  refine (HA.out.kept H4.out.inv sA2_ok).mono ?_
  rintro e w4 ⟨rfl, hb⟩
  rw [b2]
  have H5 := Lib.hid (H4.out.later HA.out.obj hb)
  clear hb
  go_wp2_with fail
  refine (HA.out.lost H5.out.inv sA2_ok).mono ?_
  rintro e w5 ⟨rfl, hb⟩
  rw [b3]
  have H6 := Lib.hid (H5.out.later HA.out.obj hb)
  clear hb
  go_wp2_with fail
  refine (HA.out.free H6.out.inv sA2_ok).mono ?_
  rintro e w6 ⟨rfl, hb⟩
  rw [b4]
  have H7 := Lib.hid (H6.out.later HA.out.obj hb)
  clear hb
  go_wp2
  go_ret
  exact ⟨rfl, H7.out.below⟩
end Go.Proofs.YtmmcjmejcngajaaGreatDoor

namespace Go.Proofs.YtmmcjmejcngajaaGreatDoor
open Go.RowKit
set_option linter.unusedVariables false

def fcB (c : Cg) (L : List Op9) : Bool := decide (L.length ≤ 300) && decide (fxN L (min L.length 301) ≤ 6000) && decide (c.n ≤ 50)
set_option maxHeartbeats 2000000 in
theorem fc_any {c : Cg} {L : List Op9} {v : Value} (w : World) (h : SlG opC9 9 w w.heap.size v L) (hc : c.n ≤ maxLen) :
    Calls Tryz.prog 4 #[cgV c, v] w fun e w' => e = .returned (.bool (fcB c L)) ∧ Below w.heap.size w w' := by
  obtain ⟨w1, e1⟩ : ∃ w1, w.alloc (cgO c) = w1 := ⟨_, rfl⟩
  have hb1 : Below w.heap.size w w1 := by rw [← e1]; exact (Below.refl _ _).alloc (Nat.le_refl _) _
  have HB1 := Lib.hid hb1
  have H := Lib.hid (h.later hb1)
  obtain ⟨d0, d1, d7⟩ := cg_cells w c
  rw [e1] at d7
  unfold maxLen at hc
  have hcn : (c.n : Int) ≤ 9223372036854775807 := by omega
  obtain ⟨A, cap, rfl, hm, _⟩ := h
  unfold maxLen at hm
  clear hb1 d0 d1
  go_enter Tryz.func4, Tryz.ntmps4
  go_wp2_with fail
  go_loop [5, 6] (fun n i => ∃ k : Nat, k ≤ L.length ∧ k ≤ 301 ∧ i = .int .i64 k ∧ n = .int .i64 (fxN L k)) (fun _ i => L.length - (intOf i).toNat)
  case atStart => exact ⟨0, by omega, by omega, rfl, rfl⟩
  case round =>
    obtain ⟨k, hk, hk41, rfl, rfl⟩ := hrel
    have hN := fxN_le L k
    have HN : (fxN L k : Int) ≤ 1505000 := by omega
    clear hN
    by_cases hlt : k < L.length ∧ k ≤ 300
    · obtain ⟨h1, h2⟩ := hlt
      obtain ⟨x, cap', hv, hxb, hcell⟩ := H.out.at_ h1
      injection hv with hA hn hc
      subst hA hc
      have hc3 : w1.cell? ⟨(x.add (k * 9)).block, (x.add (k * 9)).off + 5, none⟩ = some (.string (L[k]'h1).p.f.d) := hcell 5 _ rfl
      have hk1 : (k : Int) < (L.length : Int) := by omega
      have hk2 : (k : Int) ≤ 300 := by omega
      have hsucc := Lib.hid (fxN_succ L k h1)
      have hmin := fx_min (L[k]'h1).p.f.d.size
      have h5 := fx5_le (L[k]'h1)
      have h6 : ((fx5 (L[k]'h1) : Nat) : Int) ≤ 5000 := by omega
      have hmn : min ((L[k]'h1).p.f.d.size : Int) 5000 = ((fx5 (L[k]'h1) : Nat) : Int) := hmin
      clear hcell hmin h5 hxb
      generalize fx5 (L[k]'h1) = m at hsucc h6 hmn
      generalize (L[k]'h1).p.f.d = d at hc3 hmn
      go_wp2
      exact ⟨⟨k + 1, by omega, by omega, by go_num, by rw [hsucc.out]; go_num⟩, by simp [intOf]; omega⟩
    · have hkm : min L.length 301 = k := by omega
      have HF : Hid (fcB c L = (decide (L.length ≤ 300) && decide (fxN L k ≤ 6000) && decide (c.n ≤ 50))) := Lib.hid (by unfold fcB; rw [hkm])
      clear hkm H
      generalize fxN L k = m at HN HF
      by_cases ha : L.length ≤ 300
      · obtain rfl : k = L.length := by omega
        have ha' : (L.length : Int) ≤ 300 := by omega
        clear hlt hk hk41
        by_cases hb : m ≤ 6000
        · have hb' : (m : Int) ≤ 6000 := by omega
          by_cases hg : c.n ≤ 50
          · have hg' : decide (c.n ≤ 50) = true := decide_eq_true hg
            have hg2 : (c.n : Int) ≤ 50 := by omega
            go_wp2
            go_ret
            exact ⟨by rw [HF.out, decide_eq_true ha, decide_eq_true hb, decide_eq_true hg]; rfl, HB1.out⟩
          · have hg' : decide (c.n ≤ 50) = false := decide_eq_false hg
            have hg2 : ¬ (c.n : Int) ≤ 50 := by omega
            go_wp2
            go_ret
            exact ⟨by rw [HF.out, decide_eq_true ha, decide_eq_true hb, decide_eq_false hg]; rfl, HB1.out⟩
        · have hb' : ¬ (m : Int) ≤ 6000 := by omega
          go_wp2
          go_ret
          exact ⟨by rw [HF.out, decide_eq_true ha, decide_eq_false hb]; rfl, HB1.out⟩
      · obtain rfl : k = 301 := by omega
        have ha' : ¬ (L.length : Int) ≤ 300 := by omega
        have ha2 : (301 : Int) < (L.length : Int) ∨ ¬ (301 : Int) < (L.length : Int) := by omega
        have HFF : Hid (fcB c L = false) := Lib.hid (by rw [HF.out, decide_eq_false ha]; rfl)
        clear HF HN hlt hk hk41
        rcases ha2 with ha2 | ha2
        · go_wp2
          go_ret
          exact ⟨by rw [HFF.out]; rfl, HB1.out⟩
        · go_wp2
          go_ret
          exact ⟨by rw [HFF.out]; rfl, HB1.out⟩
end Go.Proofs.YtmmcjmejcngajaaGreatDoor
