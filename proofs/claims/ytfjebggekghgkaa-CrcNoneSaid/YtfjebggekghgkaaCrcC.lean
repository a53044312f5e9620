/- Crc, the code: contract of each over whatever function value; what Sum and Number hand to it. -/
import Derived.Test.YtfjebggekghgkaaCrcB
import Derived.Test.YtfjebggekghgkaaStfF
import Derived.Test.YtfjebggekghgkaaBldB
namespace Go.Proofs.Ytfjebggekghgkaa
open Go.RowKit
set_option linter.unusedVariables false

def bitN : Bool → Int
  | true => 1
  | false => 0
theorem bt_bit {s : ByteArray} (hb : bitsB (byL s) = true) {k : Nat} (hk : k < s.size) : ∃ b : Bool, bt s k = bitC b ∧ toB ((byL s).take (k + 1)) = toB ((byL s).take k) ++ [b] := by
  have h1 := bits_take hb (k + 1)
  rw [byL_take hk, bitsB_app] at h1
  simp only [bitsB, List.all_cons, List.all_nil, Bool.and_true, Bool.and_eq_true] at h1
  have h2 := (isBit_iff _).1 h1.2
  rw [byL_take hk, toB_app]
  rcases h2 with h2 | h2
  · exact ⟨false, h2, by rw [h2]; rfl⟩
  · exact ⟨true, h2, by rw [h2]; rfl⟩
theorem bt_isBit {s : ByteArray} {k : Nat} {b : Bool} (h : bt s k = bitC b) : isBit (bt s k) = true := by rw [h]; exact bitC_bit b

/-! ### each -/
def EachStep (k : Nat) (w1 : World) (Yes : World → Prop) (e : Ending) (w2 : World) : Prop := e = .returned (.tuple #[]) ∧ KeepsI k w1 w2 ∧ Yes w2
set_option maxHeartbeats 2000000 in
theorem each_f (f : Value) {s : ByteArray} (hb : bitsB (byL s) = false) (w : World) :
    Calls Try.prog 20 #[.string s, f] w fun e w' => e = .returned (.bool false) ∧ Below w.heap.size w w' := by
  have HB := Lib.hid hb
  clear hb
  go_enter Try.func20, Try.ntmps20
  go_wp2_with fail
  refine (cright_v HB.out _).mono ?_
  rintro e w1 ⟨rfl, hb1⟩
  go_wp2
  go_ret
  exact ⟨rfl, hb1⟩
set_option maxHeartbeats 2000000 in
theorem each_t (g : Nat) (lb : Array Value) (eg : ∀ args w, (callFunc g args).run Try.prog w = .ok (.enter g args) w) {s : ByteArray} (hb : bitsB (byL s) = true) (Inv : Nat → World → Prop) (w : World)
    (h0 : ∀ w1, Below w.heap.size w w1 → Inv 0 (w1.iter s 0)) (hit : ∀ k pos q w1, w.heap.size ≤ k → Inv pos w1 → w1.heap[k]? = some (.stringIter s pos) → Inv pos (w1.iterAt k s q))
    (hdo : ∀ k pos w1 (b : Bool), w.heap.size ≤ k → pos < s.size → bt s pos = bitC b → Inv pos w1 → Calls Try.prog g (#[.int .i64 (bitN b)] ++ lb) w1 (EachStep k w1 (Inv (pos + 1)))) :
    Calls Try.prog 20 #[.string s, .func (.func g) #[] lb] w fun e w' => e = .returned (.bool true) ∧ Inv s.size w' := by
  have HB := Lib.hid hb
  have H0 := Lib.hid h0
  have HIT := Lib.hid hit
  have HDO := Lib.hid hdo
  clear hb h0 hit hdo
  go_enter Try.func20, Try.ntmps20
  go_wp2_with fail
  refine (cright_v HB.out _).mono ?_
  rintro e w0 ⟨rfl, hb0⟩
  have HI0 := Lib.hid (H0.out w0 hb0)
  have HLE : Hid (w.heap.size ≤ w0.heap.size) := Lib.hid hb0.size
  clear hb0 H0
  go_wp2
  go_loopg [] s.size (fun gf wx => ∃ pos : Nat, wx.heap[w0.heap.size]? = some (.stringIter s pos) ∧ Hid (Inv pos wx) ∧ pos ≤ s.size ∧ s.size ≤ pos + gf)
  case atStart => exact ⟨0, World.iter_heap w0 s 0, HI0, Nat.zero_le _, by omega⟩
  case round =>
    obtain ⟨pos, hit, HI, hle, hfu⟩ := hrel
    by_cases hps : pos < s.size
    · obtain ⟨g', rfl⟩ : ∃ g', gk = g' + 1 := ⟨gk - 1, by omega⟩
      obtain ⟨b, hbt, -⟩ := bt_bit HB.out hps
      obtain ⟨e1, e2⟩ := rune_bit hps (bt_isBit hbt)
      have hnx : ∀ ty, (Instr.next (.pointer (some ⟨w0.heap.size, 0, none⟩)) true ty).run Try.prog wr = _ := fun ty => Lib.run_next_any_at wr w0.heap.size s pos ty hit hps
      have cS := HDO.out w0.heap.size pos _ b HLE.out hps hbt (HIT.out _ pos (pos + 1) _ HLE.out HI.out hit)
      have hit2 := Lib.iterAt_heap wr w0.heap.size s pos (pos + 1) hit
      simp only [e1, e2, hbt] at hnx
      clear e1 e2 hbt
      generalize wr.iterAt w0.heap.size s (pos + 1) = W at hnx hit2 cS
      cases b
      · simp only [show bitC false = 48 from rfl] at hnx
        simp only [show bitN false = 0 from rfl] at cS
        have CS := Lib.hid cS
        clear cS
        go_wp2_with (go_at_fn g; refine CS.out.mono ?_; rintro e W' ⟨rfl, hkeep, hI⟩)
        go_roundg g'
        case measure => omega
        case rel => exact ⟨pos + 1, hkeep _ _ hit2, Lib.hid hI, by omega, by omega⟩
      · simp only [show bitC true = 49 from rfl] at hnx
        simp only [show bitN true = 1 from rfl] at cS
        have CS := Lib.hid cS
        clear cS
        go_wp2_with (go_at_fn g; refine CS.out.mono ?_; rintro e W' ⟨rfl, hkeep, hI⟩)
        go_roundg g'
        case measure => omega
        case rel => exact ⟨pos + 1, hkeep _ _ hit2, Lib.hid hI, by omega, by omega⟩
    · obtain rfl : pos = s.size := by omega
      have hnx : ∀ ty, (Instr.next (.pointer (some ⟨w0.heap.size, 0, none⟩)) true ty).run Try.prog wr = _ := fun ty => Lib.run_next_end_at wr w0.heap.size s s.size ty hit hps
      go_wp2
      go_ret
      exact ⟨rfl, HI.out⟩

end Go.Proofs.Ytfjebggekghgkaa
