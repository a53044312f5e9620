/- Wire: the chapter's example; walks of WireEncodes, WireApart. -/
import Derived.Test.YtimlaopmhcipmaaDoorWirU
namespace Go.Proofs.YtimlaopmhcipmaaDoor
open Go.RowKit
set_option linter.unusedVariables false

theorem encode_v {f : Fr} {s : ByteArray} (h : f.ok = true) (hs : encS f = s) (w : World) (hT : TabA w) :
    Calls Tryd.prog 8 #[.agg #[.int .i64 f.i, .int .i64 f.n, .int .i64 f.l, .string f.d]] w fun e w' => e = .returned (.tuple #[.string s, .int .i64 0]) ∧ Below w.heap.size w w' := by rw [← hs]; exact encode_t h w hT
theorem decode_v {f : Fr} {s : ByteArray} (h : f.ok = true) (hs : encS f = s) (w : World) (hT : TabA w) :
    Calls Tryd.prog 11 #[.string s] w fun e w' => e = .returned (.tuple #[.agg #[.int .i64 f.i, .int .i64 f.n, .int .i64 f.l, .string f.d], .int .i64 0]) ∧ Below w.heap.size w w' := by
  have h1 := enc_ok h
  have h2 := enc_dec h
  rw [hs] at h1 h2
  have := decode_t h1 w hT
  rw [h2] at this
  exact this

def frA : Fr := ⟨1, 0, 1, ⟨#[65]⟩⟩
def bytesA : ByteArray := ⟨#[1, 0, 0, 0, 1, 0, 0, 0, 65, 0, 0, 0, 0, 0, 0, 0]⟩
theorem frA_ok : frA.ok = true := by decide +kernel
theorem frA_enc : encS frA = bytesA := by
  apply ByteArray.ext
  apply Array.toList_inj.1
  decide +kernel

set_option maxHeartbeats 1000000 in
theorem walive_any (w : World) (hT : TabA w) :
    Calls Tryd.prog 10 #[] w fun e w' => e = .returned (.bool true) ∧ Below w.heap.size w w' := by
  have HT := Lib.hid hT
  clear hT
  go_enter Tryd.func10, Tryd.ntmps10
  go_wp2_with fail
  refine (encode_v (f := frA) (s := bytesA) frA_ok frA_enc _ HT.out).mono ?_
  rintro e w1 ⟨rfl, hb1⟩
  have HT1 := Lib.hid (HT.out.below hb1)
  have HB1 := Lib.hid hb1
  clear hb1
  go_wp2_with fail
  refine (decode_v (f := frA) (s := bytesA) frA_ok frA_enc _ HT1.out).mono ?_
  rintro e w2 ⟨rfl, hb2⟩
  have HB2 := Lib.hid (fbelow_t HB1.out hb2)
  clear hb2
  have ea : (bytesA.toList == (ByteArray.mk #[1, 0, 0, 0, 1, 0, 0, 0, 65, 0, 0, 0, 0, 0, 0, 0]).toList) = true := by rw [seq_beq]; decide +kernel
  unfold frA bytesA at *
  go_wp2
  go_ret
  exact ⟨rfl, Below.allocL HB2.out _⟩

end Go.Proofs.YtimlaopmhcipmaaDoor
