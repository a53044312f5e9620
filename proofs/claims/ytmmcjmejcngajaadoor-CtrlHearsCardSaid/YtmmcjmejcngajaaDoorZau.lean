/- Ctrl: the law's few. -/
import Derived.Test.YtmmcjmejcngajaaDoorZat
import Derived.Test.YtmmcjmejcngajaaDoorZao
namespace Go.Proofs.YtmmcjmejcngajaaDoor
open Go.RowKit
set_option linter.unusedVariables false

def fcB (c : Cg) (L : List Op9) : Bool := decide (L.length ≤ 300) && decide (fxN L (min L.length 301) ≤ 6000) && decide (c.n ≤ 50)
set_option maxHeartbeats 2000000 in
theorem fc_any {c : Cg} {L : List Op9} {v : Value} (w : World) (h : SlG opC9 9 w w.heap.size v L) (hc : c.n ≤ maxLen) :
    Calls Tryd.prog 15 #[cgV c, v] w fun e w' => e = .returned (.bool (fcB c L)) ∧ Below w.heap.size w w' := by
  obtain ⟨w1, e1⟩ : ∃ w1, w.alloc (cgO c) = w1 := ⟨_, rfl⟩
  have hb1 : Below w.heap.size w w1 := by rw [← e1]; exact (Below.refl _ _).alloc (Nat.le_refl _) _
  have HB1 := Lib.hid hb1
  have H := Lib.hid (h.later hb1)
  obtain ⟨d0, d1, d7⟩ := cg_cells w c
  rw [e1] at d7
  unfold maxLen at hc
  have hcn : (c.n : Int) ≤ 9223372036854775807 := by omega
  obtain ⟨A, cap, rfl, hm, _⟩ := h
  unfold maxLen at hm
  clear hb1 d0 d1
  go_enter Tryd.func15, Tryd.ntmps15
  go_wp2_with fail
  go_loop [5, 6] (fun n i => ∃ k : Nat, k ≤ L.length ∧ k ≤ 301 ∧ i = .int .i64 k ∧ n = .int .i64 (fxN L k)) (fun _ i => L.length - (intOf i).toNat)
  case atStart => exact ⟨0, by omega, by omega, rfl, rfl⟩
  case round =>
    obtain ⟨k, hk, hk41, rfl, rfl⟩ := hrel
    have hN := fxN_le L k
    have HN : (fxN L k : Int) ≤ 1505000 := by omega
    clear hN
    by_cases hlt : k < L.length ∧ k ≤ 300
    · obtain ⟨h1, h2⟩ := hlt
      obtain ⟨x, cap', hv, hxb, hcell⟩ := H.out.at_ h1
      injection hv with hA hn hc
      subst hA hc
      have hc3 : w1.cell? ⟨(x.add (k * 9)).block, (x.add (k * 9)).off + 5, none⟩ = some (.string (L[k]'h1).p.f.d) := hcell 5 _ rfl
      have hk1 : (k : Int) < (L.length : Int) := by omega
      have hk2 : (k : Int) ≤ 300 := by omega
      have hsucc := Lib.hid (fxN_succ L k h1)
      have hmin := fx_min (L[k]'h1).p.f.d.size
      have h5 := fx5_le (L[k]'h1)
      have h6 : ((fx5 (L[k]'h1) : Nat) : Int) ≤ 5000 := by omega
      have hmn : min ((L[k]'h1).p.f.d.size : Int) 5000 = ((fx5 (L[k]'h1) : Nat) : Int) := hmin
      clear hcell hmin h5 hxb
      generalize fx5 (L[k]'h1) = m at hsucc h6 hmn
      generalize (L[k]'h1).p.f.d = d at hc3 hmn
      go_wp2
      exact ⟨⟨k + 1, by omega, by omega, by go_num, by rw [hsucc.out]; go_num⟩, by simp [intOf]; omega⟩
    · have hkm : min L.length 301 = k := by omega
      have HF : Hid (fcB c L = (decide (L.length ≤ 300) && decide (fxN L k ≤ 6000) && decide (c.n ≤ 50))) := Lib.hid (by unfold fcB; rw [hkm])
      clear hkm H
      generalize fxN L k = m at HN HF
      by_cases ha : L.length ≤ 300
      · obtain rfl : k = L.length := by omega
        have ha' : (L.length : Int) ≤ 300 := by omega
        clear hlt hk hk41
        by_cases hb : m ≤ 6000
        · have hb' : (m : Int) ≤ 6000 := by omega
          by_cases hg : c.n ≤ 50
          · have hg' : decide (c.n ≤ 50) = true := decide_eq_true hg
            have hg2 : (c.n : Int) ≤ 50 := by omega
            go_wp2
            go_ret
            exact ⟨by rw [HF.out, decide_eq_true ha, decide_eq_true hb, decide_eq_true hg]; rfl, HB1.out⟩
          · have hg' : decide (c.n ≤ 50) = false := decide_eq_false hg
            have hg2 : ¬ (c.n : Int) ≤ 50 := by omega
            go_wp2
            go_ret
            exact ⟨by rw [HF.out, decide_eq_true ha, decide_eq_true hb, decide_eq_false hg]; rfl, HB1.out⟩
        · have hb' : ¬ (m : Int) ≤ 6000 := by omega
          go_wp2
          go_ret
          exact ⟨by rw [HF.out, decide_eq_true ha, decide_eq_false hb]; rfl, HB1.out⟩
      · obtain rfl : k = 301 := by omega
        have ha' : ¬ (L.length : Int) ≤ 300 := by omega
        have ha2 : (301 : Int) < (L.length : Int) ∨ ¬ (301 : Int) < (L.length : Int) := by omega
        have HFF : Hid (fcB c L = false) := Lib.hid (by rw [HF.out, decide_eq_false ha]; rfl)
        clear HF HN hlt hk hk41
        rcases ha2 with ha2 | ha2
        · go_wp2
          go_ret
          exact ⟨by rw [HFF.out]; rfl, HB1.out⟩
        · go_wp2
          go_ret
          exact ⟨by rw [HFF.out]; rfl, HB1.out⟩
end Go.Proofs.YtmmcjmejcngajaaDoor
