/- Octet: contracts of Hex. -/
import Derived.Test.YtfjebggekghgkaaOctC
import Derived.Deep.RegionLaw
namespace Go.Proofs.Ytfjebggekghgkaa
open Go.RowKit
set_option linter.unusedVariables false

/-- the sign of a worth -/
def hx (d : Int) : Int := if d < 10 then 48 + d else 55 + d
def hexl (s : ByteArray) (n : Nat) : List Int := (List.range n).flatMap fun i => [hx (bt s i / 16), hx (bt s i % 16)]
theorem hexl_succ (s : ByteArray) (n : Nat) : hexl s (n + 1) = hexl s n ++ [hx (bt s n / 16), hx (bt s n % 16)] := by simp [hexl, List.range_succ]
theorem hexl_len (s : ByteArray) (n : Nat) : (hexl s n).length = 2 * n := by
  induction n with
  | zero => rfl
  | succ n ih => rw [hexl_succ, List.length_append, ih]; simp; omega

theorem index_digs (d : Int) (h0 : 0 ≤ d) (h1 : d < 16) (h : d.toNat < (⟨#[48, 49, 50, 51, 52, 53, 54, 55, 56, 57, 65, 66, 67, 68, 69, 70]⟩ : ByteArray).size) :
    (((⟨#[48, 49, 50, 51, 52, 53, 54, 55, 56, 57, 65, 66, 67, 68, 69, 70]⟩ : ByteArray)[d.toNat]'h).toNat : Int) = hx d := by
  rcases (show d = 0 ∨ d = 1 ∨ d = 2 ∨ d = 3 ∨ d = 4 ∨ d = 5 ∨ d = 6 ∨ d = 7 ∨ d = 8 ∨ d = 9 ∨ d = 10 ∨ d = 11 ∨ d = 12 ∨ d = 13 ∨ d = 14 ∨ d = 15 from by omega) with rfl | rfl | rfl | rfl | rfl | rfl | rfl | rfl | rfl | rfl | rfl | rfl | rfl | rfl | rfl | rfl <;> rfl

def hexRel (B : Nat) (s : ByteArray) (w : World) (v i : Value) (wr : World) : Prop :=
  ∃ k : Nat, k ≤ s.size ∧ i = .int .i64 k ∧ Below B w wr ∧ B < wr.heap.size ∧ wr.ownsRow B 5 1 v (2 * k) ((hexl s k).map (Value.int .u8))

theorem hexstep {B : Nat} {s : ByteArray} {w wr w1 : World} (k : Nat) {u v : Value} {o : Obj} (hbw : Below B w wr) (hsz : B < wr.heap.size) (hp : k < s.size)
    (hown : wr.ownsRow B 5 1 u (2 * k) ((hexl s k).map (Value.int .u8)))
    (hown1 : w1.ownsRow B 5 1 v (2 * k + 2) ((hexl s k).map (Value.int .u8) ++ [.int .u8 (hx (bt s k / 16)), .int .u8 (hx (bt s k % 16))]))
    (hgrow : ((wr.alloc o).drew).grownBy w1 u.ownBlock) : hexRel B s w v (.int .i64 ((k : Int) + 1)) w1 := by
  have hgrow' : (wr.alloc o).grownBy w1 u.ownBlock := ⟨hgrow.os, hgrow.tape, hgrow.output, hgrow.size, hgrow.block⟩
  have hsz1 : wr.heap.size + 1 ≤ w1.heap.size := by have := hgrow'.size; simpa using this
  refine ⟨k + 1, by omega, by simp, (hbw.alloc (by omega) o).grown hgrow' (by simp; omega) (fun j hj => (hown.lt j hj).1), by omega, ?_⟩
  rw [hexl_succ, List.map_append]
  exact hown1

end Go.Proofs.Ytfjebggekghgkaa
