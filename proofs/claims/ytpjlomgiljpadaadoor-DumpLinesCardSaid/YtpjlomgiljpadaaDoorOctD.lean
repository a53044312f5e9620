/- Octet: contracts of Hex. -/
import Derived.Test.YtpjlomgiljpadaaDoorOctC
import Derived.Deep.RegionLaw
namespace Go.Proofs.YtpjlomgiljpadaaDoor
open Go.RowKit
set_option linter.unusedVariables false

/-- the sign of a worth -/
def hx (d : Int) : Int := if d < 10 then 48 + d else 55 + d
def hexl (s : ByteArray) (n : Nat) : List Int := (List.range n).flatMap fun i => [hx (bt s i / 16), hx (bt s i % 16)]
theorem hexl_succ (s : ByteArray) (n : Nat) : hexl s (n + 1) = hexl s n ++ [hx (bt s n / 16), hx (bt s n % 16)] := by simp [hexl, List.range_succ]
theorem hexl_len (s : ByteArray) (n : Nat) : (hexl s n).length = 2 * n := by
  induction n with
  | zero => rfl
  | succ n ih => rw [hexl_succ, List.length_append, ih]; simp; omega

theorem index_digs (d : Int) (h0 : 0 ≤ d) (h1 : d < 16) (h : d.toNat < (⟨#[48, 49, 50, 51, 52, 53, 54, 55, 56, 57, 65, 66, 67, 68, 69, 70]⟩ : ByteArray).size) :
    (((⟨#[48, 49, 50, 51, 52, 53, 54, 55, 56, 57, 65, 66, 67, 68, 69, 70]⟩ : ByteArray)[d.toNat]'h).toNat : Int) = hx d := by
  rcases (show d = 0 ∨ d = 1 ∨ d = 2 ∨ d = 3 ∨ d = 4 ∨ d = 5 ∨ d = 6 ∨ d = 7 ∨ d = 8 ∨ d = 9 ∨ d = 10 ∨ d = 11 ∨ d = 12 ∨ d = 13 ∨ d = 14 ∨ d = 15 from by omega) with rfl | rfl | rfl | rfl | rfl | rfl | rfl | rfl | rfl | rfl | rfl | rfl | rfl | rfl | rfl | rfl <;> rfl

def hexRel (B : Nat) (s : ByteArray) (w : World) (v i : Value) (wr : World) : Prop :=
  ∃ k : Nat, k ≤ s.size ∧ i = .int .i64 k ∧ Below B w wr ∧ B < wr.heap.size ∧ wr.ownsRow B 5 1 v (2 * k) ((hexl s k).map (Value.int .u8))

theorem hexstep {B : Nat} {s : ByteArray} {w wr w1 : World} (k : Nat) {u v : Value} {o : Obj} (hbw : Below B w wr) (hsz : B < wr.heap.size) (hp : k < s.size)
    (hown : wr.ownsRow B 5 1 u (2 * k) ((hexl s k).map (Value.int .u8)))
    (hown1 : w1.ownsRow B 5 1 v (2 * k + 2) ((hexl s k).map (Value.int .u8) ++ [.int .u8 (hx (bt s k / 16)), .int .u8 (hx (bt s k % 16))]))
    (hgrow : ((wr.alloc o).drew).grownBy w1 u.ownBlock) : hexRel B s w v (.int .i64 ((k : Int) + 1)) w1 := by
  have hgrow' : (wr.alloc o).grownBy w1 u.ownBlock := ⟨hgrow.os, hgrow.tape, hgrow.output, hgrow.size, hgrow.block⟩
  have hsz1 : wr.heap.size + 1 ≤ w1.heap.size := by have := hgrow'.size; simpa using this
  refine ⟨k + 1, by omega, by simp, (hbw.alloc (by omega) o).grown hgrow' (by simp; omega) (fun j hj => (hown.lt j hj).1), by omega, ?_⟩
  rw [hexl_succ, List.map_append]
  exact hown1

set_option maxHeartbeats 1000000 in
theorem hex_any (s : ByteArray) (w : World) (hs : s.size ≤ 100000000) :
    Calls Tryd.prog 46 #[.string s] w fun e w' => e = .returned (.string (strOfNums (hexl s s.size))) ∧ Below w.heap.size w w' := by
  have hmk := run_make8 (2 * (s.size : Int)) (by omega) (by omega)
  obtain ⟨i0, hi, hz0, hz1, hz2⟩ := info_parts info8
  go_enter Tryd.func46, Tryd.ntmps46
  go_wp2
  clear hmk
  go_loopw [3, 11] (fun v i wr => hexRel w.heap.size s w v i wr) (fun _ i wr => s.size - (intOf i).toNat)
  case atStart =>
    refine ⟨0, by omega, rfl, (Below.refl _ w).alloc (Nat.le_refl _) _, by simp, ?_⟩
    exact World.ownsRow_made w _ _ (Nat.le_refl _) (by unfold maxLen; omega) (by rw [size_madeCells, Nat.mul_one])
  case round =>
    obtain ⟨k, hk, rfl, hbw, hsz, hown⟩ := hrel
    by_cases hp : k < s.size
    · have hb := bt_lt s k
      have hbe := bt_eq s k hp
      have hq0 : 0 ≤ bt s k / 16 := by omega
      have hq1 : bt s k / 16 < 16 := by omega
      have hm0 : 0 ≤ bt s k % 16 := by omega
      have hm1 : bt s k % 16 < 16 := by omega
      have hv1 := index_digs (bt s k / 16) hq0 hq1
      have hv2 := index_digs (bt s k % 16) hm0 hm1
      have had := u8_and15 (bt s k) hb.1 hb.2
      have hown2 : ((wr.alloc (.cells #[.int .u8 (hx (bt s k / 16)), .int .u8 (hx (bt s k % 16))] 5)).drew).ownsRow w.heap.size 5 1 u3 (2 * k) ((hexl s k).map (Value.int .u8)) := hown.alloc _
      have hnews : ∀ j x, [Value.int .u8 (hx (bt s k / 16)), .int .u8 (hx (bt s k % 16))][j]? = some x → ((wr.alloc (.cells #[.int .u8 (hx (bt s k / 16)), .int .u8 (hx (bt s k % 16))] 5)).drew).cell? ((⟨wr.heap.size, 0, none⟩ : Addr).add j) = some x := news_two wr _ _ _
      have Hn := Lib.hid hnews
      have Ho := Lib.hid hown2
      clear hnews hown2
      go_wp2
      go_region_law ((refine step_append_lies _ rfl _ _ 56 rfl w.heap.size 5 i0 (.int .u8 0) 1 1 Tryd.underlying56 hi hz0 hz1 hz2 rfl (by decide) u3 (2 * k) ((hexl s k).map (Value.int .u8)) rfl Ho.out ⟨wr.heap.size, 0, none⟩ 2 2 [.int .u8 (hx (bt s k / 16)), .int .u8 (hx (bt s k % 16))] rfl rfl Hn.out (by intro u hu; simp at hu; rcases hu with rfl | rfl <;> rfl) (by omega) (by unfold maxLen; omega) (by omega) (by simp only [World.size_alloc, World.drew]; omega) _ rfl ?_); intro g cap w1 hown1 hgrow hat hlt)
      all_goals (
        clear hat hlt
        have hr := hexstep k hbw hsz hp hown hown1 hgrow
        clear hown hown1 hgrow
        go_wp2
        go_roundw
        case rel => exact hr
        case measure => simp [intOf]; omega)
    · obtain rfl : k = s.size := by omega
      have hcv := conv_own (P := Tryd.prog) wr 56 9 5 Tryd.underlying56 Tryd.underlying5 Tryd.underlying9 hown
      clear hown
      go_wp2
      go_ret
      exact ⟨rfl, hbw⟩

end Go.Proofs.YtpjlomgiljpadaaDoor
