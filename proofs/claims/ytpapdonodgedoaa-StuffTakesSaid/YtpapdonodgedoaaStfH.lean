/- Stuff: contract of Run with what it hands to walk. -/
import Derived.Test.YtpapdonodgedoaaStfG
import Derived.Deep.RegionWith
namespace Go.Proofs.Ytpapdonodgedoaa
open Go.RowKit
set_option linter.unusedVariables false

structure RunSt (B g c l m : Nat) (p : Int × Nat) (x : Nat) (w0 w : World) : Prop where
  below : Below B w0 w
  lng : Box w g (.int .i64 x) 3
  cnt : Box w c (cntV l m) 37
  last : Box w l (.int .i32 p.1) 21
  num : Box w m (.int .i64 p.2) 3
  le : B ≤ w0.heap.size
  hl : B ≤ l
  hm : B ≤ m
  hg : B ≤ g
  ne : g ≠ m
theorem RunSt.drew {B g c l m : Nat} {p : Int × Nat} {x : Nat} {w0 w : World} (h : RunSt B g c l m p x w0 w) : RunSt B g c l m p x w0 w.drew :=
  ⟨⟨h.below.os, h.below.tape, h.below.output, h.below.size, h.below.block⟩, h.lng, h.cnt, h.last, h.num, h.le, h.hl, h.hm, h.hg, h.ne⟩
theorem RunSt.stored {B g c l m x y : Nat} {p : Int × Nat} {w0 w : World} (h : RunSt B g c l m p x w0 w) : RunSt B g c l m p (max x y) w0 (w.setCell ⟨g, 0, none⟩ (.int .i64 (max (x : Int) (y : Int)))) := by
  have e : (max (x : Int) (y : Int)) = ((max x y : Nat) : Int) := by omega
  rw [e]
  have hgl := h.lng.ne h.last (by decide)
  have hgc := h.lng.ne h.cnt (by decide)
  exact ⟨(Upd.setL g g w _).below h.below h.hg h.hg, h.lng.set _, h.cnt.other (fun e => hgc e.symm) _, h.last.other (fun e => hgl e.symm) _, h.num.other (fun e => h.ne e.symm) _, h.le, h.hl, h.hm, h.hg, h.ne⟩
theorem set_keepsI {w : World} {g : Nat} {v : Value} {t : TypeId} (h : Box w g v t) (u : Value) (k : Nat) : KeepsI k w (w.setCell ⟨g, 0, none⟩ u) := (Upd.setL g g w u).keepsI h h k
theorem count_run {B g c l m k n y : Nat} {a x : Int} {p : Int × Nat} {w0 w : World} (hp : n ≤ 1000000) (hs : nxt (a, n) x = p) (h : RunSt B g c l m (a, n) y w0 w) :
    Calls Try.prog 31 #[.int .i32 x, .pointer (some ⟨l, 0, none⟩), .pointer (some ⟨m, 0, none⟩)] w fun e w2 => e = .returned (.int .i64 p.2) ∧ RunSt B g c l m p y w0 w2 ∧ KeepsI k w w2 := by
  refine (count_v hs hp w h.last h.num).mono ?_
  rintro e w2 ⟨he, hl, hm, hu⟩
  exact ⟨he, ⟨hu.below h.below h.hl h.hm, hu.box h.lng (h.lng.ne h.last (by decide)) h.ne, hu.box h.cnt (h.cnt.ne h.last (by decide)) (h.cnt.ne h.num (by decide)), hl, hm, h.le, h.hl, h.hm, h.hg, h.ne⟩, hu.keepsI h.last h.num k⟩
set_option maxHeartbeats 2000000 in
theorem runC_t {B g c l m k n y : Nat} {a x : Int} {p : Int × Nat} {w0 w : World} {Q : World → Prop} (hp : n ≤ 1000000) (hy : y ≤ 1000000) (hs : nxt (a, n) x = p) (h : RunSt B g c l m (a, n) y w0 w) :
    Calls Try.prog 29 #[.int .i32 x, .pointer (some ⟨g, 0, none⟩), .pointer (some ⟨c, 0, none⟩)] w (StepPost k w (RunSt B g c l m p (max y p.2) w0) Q) := by
  have H := Lib.hid h
  have HS := Lib.hid hs
  have HP := Lib.hid hp
  have HY := Lib.hid hy
  have c1 : w.cell? ⟨c, 0, none⟩ = some (.func (.func 31) #[] #[.pointer (some ⟨l, 0, none⟩), .pointer (some ⟨m, 0, none⟩)]) := h.cnt.cell
  have g1 := h.lng.cell
  have f1 := h.lng.live
  clear h hs hp hy
  go_enter Try.func29, Try.ntmps29
  go_wp2
  have HD : Hid (RunSt B g c l m (a, n) y w0 w.drew) := Lib.hid H.out.drew
  go_region_with (go_at_call 31; refine (count_run (k := k) (w := w.drew) HP.out HS.out HD.out).mono ?_; rintro e w2 ⟨rfl, hl, hm⟩; have cg := hl.lng.cell; have fg := hl.lng.live; have HU := Lib.hid (And.intro hl hm); clear hl hm)
  all_goals (
    go_wp2
    go_ret
    exact ⟨HU.out.2.trans (set_keepsI HU.out.1.lng _ k), .inl ⟨rfl, HU.out.1.stored⟩⟩)


theorem RunSt.alloc {B g c l m : Nat} {p : Int × Nat} {x : Nat} {w0 w : World} (h : RunSt B g c l m p x w0 w) (o : Obj) : RunSt B g c l m p x w0 (w.alloc o) :=
  ⟨h.below.alloc (Nat.le_trans h.le h.below.size) _, h.lng.alloc o, h.cnt.alloc o, h.last.alloc o, h.num.alloc o, h.le, h.hl, h.hm, h.hg, h.ne⟩
theorem RunSt.iterAt {B g c l m i q r : Nat} {p : Int × Nat} {x : Nat} {w0 w : World} {s : ByteArray} (h : RunSt B g c l m p x w0 w) (hi : w.heap[i]? = some (.stringIter s q)) (hB : B ≤ i) : RunSt B g c l m p x w0 (w.iterAt i s r) :=
  ⟨Lib.below_iterAt h.below hB s r, h.lng.iterAt hi, h.cnt.iterAt hi, h.last.iterAt hi, h.num.iterAt hi, h.le, h.hl, h.hm, h.hg, h.ne⟩
def nInv (s : ByteArray) (B g c l m : Nat) (w0 : World) (k : Nat) (w1 : World) : Prop := k ≤ s.size ∧ RunSt B g c l m (tl ((byL s).take k)) (runL ((byL s).take k)) w0 w1
def nFin (k : Nat) (w1 : World) : Prop := False
theorem bit_at {s : ByteArray} {k : Nat} (h : bitsB (byL s) = true) (hk : k < s.size) : isBit (bt s k) = true := by
  have h1 := bits_take h (k + 1)
  rw [byL_take hk, bitsB_app] at h1
  simp [bitsB] at h1
  exact h1.2
theorem run_walk {s : ByteArray} {B g c l m : Nat} {w0 w : World} (hb : bitsB (byL s) = true) (hs : s.size ≤ 1000000) (h : RunSt B g c l m (0, 0) 0 w0 w) :
    Calls Try.prog 19 #[.string s, .func (.func 29) #[] #[.pointer (some ⟨g, 0, none⟩), .pointer (some ⟨c, 0, none⟩)]] w (WalkPost s (nInv s B g c l m w0) nFin) := by
  refine walk_v 29 #[.pointer (some ⟨g, 0, none⟩), .pointer (some ⟨c, 0, none⟩)] (enters_of Try.func29 (by kernel_rfl) rfl) _ _ w ⟨Nat.zero_le _, h.alloc _⟩ (fun pos q w1 h1 hi => ⟨h1.1, h1.2.iterAt hi (Nat.le_trans h.le h.below.size)⟩) ?_
  intro pos w1 hp h1
  have h2 := h1.2
  have hlt := tl_le_len ((byL s).take pos) (0, 0)
  have hll := List.length_take_le pos (byL s)
  have hrl := run_le ((byL s).take pos)
  have ht : (tl ((byL s).take pos)).2 ≤ 1000000 := by unfold tl; simp only at hlt; omega
  obtain ⟨e1, e2⟩ := rune_bit hp (bit_at hb hp)
  rw [e1, e2]
  have htl : tl ((byL s).take (pos + 1)) = nxt (tl ((byL s).take pos)) (bt s pos) := by rw [byL_take hp, tl_snoc]
  have hrn : runL ((byL s).take (pos + 1)) = max (runL ((byL s).take pos)) (nxt (tl ((byL s).take pos)) (bt s pos)).2 := by rw [byL_take hp, runL_snoc, tl_snoc]
  obtain ⟨p, hp0⟩ : ∃ p, tl ((byL s).take pos) = p := ⟨_, rfl⟩
  rw [hp0] at ht h2 htl hrn
  obtain ⟨a, n⟩ := p
  refine (runC_t ht (by omega) rfl h2).mono fun e w2 ⟨hk, hh⟩ => ⟨hk, hh.imp (fun ⟨he, hw⟩ => ⟨he, by omega, ?_⟩) id⟩
  rw [htl, hrn]
  exact hw
theorem runSt_made {w w1 : World} (hl : Box w1 w.heap.size (.int .i32 0) 21) (hm : Box w1 (w.heap.size + 1) (.int .i64 0) 3) (hb : Below w.heap.size w w1) :
    RunSt w.heap.size w1.heap.size (w1.heap.size + 1) w.heap.size (w.heap.size + 1) (0, 0) 0 w ((w1.alloc (.cells #[.int .i64 0] 3)).alloc (.cells #[cntV w.heap.size (w.heap.size + 1)] 37)) := by
  have h1 := hl.lt
  have h2 := hm.lt
  exact ⟨(hb.alloc (by omega) _).alloc (by simp; omega) _, (Box.made0 _ _ _).alloc _, Box.made _ _ _ (by simp), (hl.alloc _).alloc _, (hm.alloc _).alloc _, Nat.le_refl _, Nat.le_refl _, by omega, by omega, by omega⟩
set_option maxHeartbeats 1000000 in
theorem crun_v {s : ByteArray} {n : Nat} (h : runL (byL s) = n) (hb : bitsB (byL s) = true) (hs : s.size ≤ 1000000) (w : World) :
    Calls Try.prog 15 #[.string s] w fun e w' => e = .returned (.int .i64 n) ∧ Below w.heap.size w w' := by
  have H := Lib.hid h
  have HS := Lib.hid hs
  have HB := Lib.hid hb
  clear h hs hb
  have hmf : ∀ (fn : Fn) (first cap : Array Value) (w : World), (Instr.makeFunc fn first cap).run Try.prog w = .ok (.func fn first cap) w := fun _ _ _ _ => rfl
  go_enter Try.func15, Try.ntmps15
  go_wp2_with fail
  refine (runs_any _).mono ?_
  rintro e w1 ⟨rfl, hl, hm, hb, hz⟩
  have HP := Lib.hid (runSt_made hl hm hb)
  clear hl hm hb hz
  unfold cntV at HP ⊢
  go_wp2_with fail
  refine (run_walk HB.out HS.out HP.out).mono ?_
  rintro e w2 (⟨rfl, pos, hp, hI⟩ | ⟨pos, hp, rfl, hF⟩)
  · have HI : Hid (RunSt w.heap.size w1.heap.size (w1.heap.size + 1) w.heap.size (w.heap.size + 1) (tl ((byL s).take pos)) n w w2) := Lib.hid (by have h7 := hI.2; rw [take_all hp, H.out] at h7; rw [take_all hp]; exact h7)
    have cg := HI.out.lng.cell
    clear hI hp
    go_wp2
    go_ret
    exact ⟨rfl, HI.out.below⟩
  · exact hF.elim

end Go.Proofs.Ytpapdonodgedoaa
