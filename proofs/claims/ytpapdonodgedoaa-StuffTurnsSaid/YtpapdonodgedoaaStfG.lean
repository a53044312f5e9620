/- Stuff: contracts of Stuff with what it hands to walk. -/
import Derived.Test.YtpapdonodgedoaaStfF
namespace Go.Proofs.Ytpapdonodgedoaa
open Go.RowKit
set_option linter.unusedVariables false

set_option maxHeartbeats 2000000 in
theorem putC_5 {B b c l m k n : Nat} {a x : Int} {O : List Int} {w0 w : World} {Q : World → Prop} (hx : isBit x = true) (hp : n ≤ 4) (hO : O.length ≤ 10000000) (hs : nxt (a, n) x = (x, 5)) (h : PutSt B b c l m (a, n) O w0 w) :
    Calls Try.prog 23 #[.int .i32 x, .pointer (some ⟨b, 0, none⟩), .pointer (some ⟨c, 0, none⟩)] w (StepPost k w (PutSt B b c l m (oth x, 1) (O ++ [x] ++ [oth x]) w0) Q) := by
  have HX := Lib.hid hx
  have HO := Lib.hid hO
  have H := Lib.hid h
  have HS := Lib.hid hs
  have HP := Lib.hid hp
  clear hx hO h hs hp
  have HX1 : Hid (-2147483648 ≤ x ∧ x ≤ 2147483647) := Lib.hid (by have := (isBit_iff x).1 HX.out; omega)
  have HY1 : Hid (-2147483648 ≤ oth x ∧ oth x ≤ 2147483647) := Lib.hid (by have := (isBit_iff x).1 HX.out; unfold oth; omega)
  go_enter Try.func23, Try.ntmps23
  go_wp2_with fail
  refine (cother_t rfl HX.out _).mono ?_
  rintro e w1 ⟨rfl, rfl⟩
  go_wp2_with fail
  refine (dwrune_k B b _ x HX1.out.1 HX1.out.2 _ H.out.out.bld (by have := HO.out; simp; omega) H.out.out.hB).mono ?_
  rintro e w2 ⟨rfl, hI, hb, hk⟩
  rw [rcells HX.out] at hI
  have K2 : Hid (KeepsI k w w2) := Lib.hid (bld_keepsI H.out.out.bld hk k)
  have H2 : Hid (PutSt B b c l m (a, n) (O ++ [x]) w0 w2) := Lib.hid (H.out.wrote (by simpa using hI) hb hk)
  clear hI hb hk H
  have c2 : w2.cell? ⟨c, 0, none⟩ = some (.func (.func 31) #[] #[.pointer (some ⟨l, 0, none⟩), .pointer (some ⟨m, 0, none⟩)]) := H2.out.cnt.cell
  go_wp2_with fail
  refine (count_v HS.out (by have := HP.out; omega) _ H2.out.last H2.out.num).mono ?_
  rintro e w3 ⟨rfl, hl, hm, hu⟩
  have K3 : Hid (KeepsI k w w3) := Lib.hid (K2.out.trans (hu.keepsI H2.out.last H2.out.num k))
  have H3 : Hid (PutSt B b c l m (x, 5) (O ++ [x]) w0 w3) := Lib.hid (H2.out.counted hl hm hu)
  clear hl hm hu H2 K2 c2
  go_wp2_with fail
  refine (dwrune_k B b _ (oth x) HY1.out.1 HY1.out.2 _ H3.out.out.bld (by have := HO.out; simp; omega) H3.out.out.hB).mono ?_
  rintro e w4 ⟨rfl, hI, hb, hk⟩
  rw [rcells (oth_bit HX.out)] at hI
  have K4 : Hid (KeepsI k w w4) := Lib.hid (K3.out.trans (bld_keepsI H3.out.out.bld hk k))
  have H4 : Hid (PutSt B b c l m (x, 5) (O ++ [x] ++ [oth x]) w0 w4) := Lib.hid (H3.out.wrote (by simpa using hI) hb hk)
  clear hI hb hk H3 K3
  have c4 : w4.cell? ⟨c, 0, none⟩ = some (.func (.func 31) #[] #[.pointer (some ⟨l, 0, none⟩), .pointer (some ⟨m, 0, none⟩)]) := H4.out.cnt.cell
  go_wp2_with fail
  refine (count_v (nxt_oth 5 HX.out) (by omega) _ H4.out.last H4.out.num).mono ?_
  rintro e w5 ⟨rfl, hl, hm, hu⟩
  have K5 : Hid (KeepsI k w w5) := Lib.hid (K4.out.trans (hu.keepsI H4.out.last H4.out.num k))
  have H5 : Hid (PutSt B b c l m (oth x, 1) (O ++ [x] ++ [oth x]) w0 w5) := Lib.hid (H4.out.counted hl hm hu)
  clear hl hm hu H4 K4 c4
  go_wp2
  go_ret
  exact ⟨K5.out, .inl ⟨rfl, H5.out⟩⟩

set_option maxHeartbeats 2000000 in
theorem putC_t {B b c l m k n : Nat} {a x : Int} {p : Int × Nat} {O : List Int} {w0 w : World} {Q : World → Prop} (hx : isBit x = true) (hp : n ≤ 4) (hO : O.length ≤ 10000000) (hs : nxt (a, n) x = p) (h5 : p.2 ≠ 5) (h : PutSt B b c l m (a, n) O w0 w) :
    Calls Try.prog 23 #[.int .i32 x, .pointer (some ⟨b, 0, none⟩), .pointer (some ⟨c, 0, none⟩)] w (StepPost k w (PutSt B b c l m p (O ++ [x]) w0) Q) := by
  have HX := Lib.hid hx
  have HO := Lib.hid hO
  have H := Lib.hid h
  have HS := Lib.hid hs
  have HP := Lib.hid hp
  have hq : ((p.2 : Int) == 5) = false := by simp; omega
  clear hx hO h hs hp h5
  have HX1 : Hid (-2147483648 ≤ x ∧ x ≤ 2147483647) := Lib.hid (by have := (isBit_iff x).1 HX.out; omega)
  go_enter Try.func23, Try.ntmps23
  go_wp2_with fail
  refine (cother_t rfl HX.out _).mono ?_
  rintro e w1 ⟨rfl, rfl⟩
  go_wp2_with fail
  refine (dwrune_k B b _ x HX1.out.1 HX1.out.2 _ H.out.out.bld (by have := HO.out; simp; omega) H.out.out.hB).mono ?_
  rintro e w2 ⟨rfl, hI, hb, hk⟩
  rw [rcells HX.out] at hI
  have K2 : Hid (KeepsI k w w2) := Lib.hid (bld_keepsI H.out.out.bld hk k)
  have H2 : Hid (PutSt B b c l m (a, n) (O ++ [x]) w0 w2) := Lib.hid (H.out.wrote (by simpa using hI) hb hk)
  clear hI hb hk H
  have c2 : w2.cell? ⟨c, 0, none⟩ = some (.func (.func 31) #[] #[.pointer (some ⟨l, 0, none⟩), .pointer (some ⟨m, 0, none⟩)]) := H2.out.cnt.cell
  go_wp2_with fail
  refine (count_v HS.out (by have := HP.out; omega) _ H2.out.last H2.out.num).mono ?_
  rintro e w3 ⟨rfl, hl, hm, hu⟩
  have K3 : Hid (KeepsI k w w3) := Lib.hid (K2.out.trans (hu.keepsI H2.out.last H2.out.num k))
  have H3 : Hid (PutSt B b c l m p (O ++ [x]) w0 w3) := Lib.hid (H2.out.counted hl hm hu)
  clear hl hm hu H2 K2 c2
  go_wp2
  go_ret
  exact ⟨K3.out, .inl ⟨rfl, H3.out⟩⟩

set_option maxHeartbeats 2000000 in
theorem putC_f {B b c l m k n : Nat} {a x : Int} {O : List Int} {w0 w : World} {Q : World → Prop} (hx : isBit x = false) (hx0 : 0 ≤ x) (hx1 : x ≤ 2147483647) (hp : n ≤ 4) (hO : O.length ≤ 10000000) (h : PutSt B b c l m (a, n) O w0 w) :
    Calls Try.prog 23 #[.int .i32 x, .pointer (some ⟨b, 0, none⟩), .pointer (some ⟨c, 0, none⟩)] w (StepPost k w Q (fun w' => Below B w0 w')) := by
  have HX := Lib.hid hx
  have HO := Lib.hid hO
  have H := Lib.hid h
  have HP := Lib.hid hp
  have HX1 : Hid (-2147483648 ≤ x ∧ x ≤ 2147483647) := Lib.hid (by omega)
  have HR := Lib.hid (Lib.runeCells_le x)
  clear hx hO h hp hx0 hx1
  go_enter Try.func23, Try.ntmps23
  go_wp2_with fail
  refine (cother_f HX.out _).mono ?_
  rintro e w1 ⟨rfl, rfl⟩
  go_wp2_with fail
  refine (dwrune_k B b _ x HX1.out.1 HX1.out.2 _ H.out.out.bld (by have := HO.out; simp; omega) H.out.out.hB).mono ?_
  rintro e w2 ⟨rfl, hI, hb, hk⟩
  have K2 : Hid (KeepsI k w w2) := Lib.hid (bld_keepsI H.out.out.bld hk k)
  have HB2 : Hid (Below B w0 w2) := Lib.hid (H.out.out.below.trans hb)
  have HI2 : Hid (Lib.IsBuilderF 36 5 B b (O.map (Value.int .u8) ++ Lib.runeCells x) w2) := Lib.hid (.inr hI)
  have HC2 : Hid (Box w2 c (cntV l m) 37) := Lib.hid (H.out.cnt.kept hk (H.out.cnt.ne_bld H.out.out.bld) (by decide))
  have HL2 : Hid (Box w2 l (.int .i32 a) 21) := Lib.hid (H.out.last.kept hk (H.out.last.ne_bld H.out.out.bld) (by decide))
  have HM2 : Hid (Box w2 m (.int .i64 n) 3) := Lib.hid (H.out.num.kept hk (H.out.num.ne_bld H.out.out.bld) (by decide))
  have c2 : w2.cell? ⟨c, 0, none⟩ = some (.func (.func 31) #[] #[.pointer (some ⟨l, 0, none⟩), .pointer (some ⟨m, 0, none⟩)]) := HC2.out.cell
  clear hI hb hk
  obtain ⟨p, hS⟩ : ∃ p, nxt (a, n) x = p := ⟨_, rfl⟩
  have HS := Lib.hid hS
  have HPL := Lib.hid (show p.2 ≤ 5 by have := nxt_le (a, n) x; have := HP.out; rw [hS] at *; simp only at *; omega)
  clear hS
  go_wp2_with fail
  refine (count_v HS.out (by have := HP.out; omega) _ HL2.out HM2.out).mono ?_
  rintro e w3 ⟨rfl, hl, hm, hu⟩
  have K3 : Hid (KeepsI k w w3) := Lib.hid (K2.out.trans (hu.keepsI HL2.out HM2.out k))
  have HB3 : Hid (Below B w0 w3) := Lib.hid (hu.below HB2.out H.out.hl H.out.hm)
  have HI3 : Hid (Lib.IsBuilderF 36 5 B b (O.map (Value.int .u8) ++ Lib.runeCells x) w3) := Lib.hid (hu.builder HI2.out HL2.out HM2.out (by decide) (by decide) (by decide) (by decide))
  have HC3 : Hid (Box w3 c (cntV l m) 37) := Lib.hid (hu.box HC2.out (HC2.out.ne HL2.out (by decide)) (HC2.out.ne HM2.out (by decide)))
  have HL3 := Lib.hid hl
  have HM3 := Lib.hid hm
  have HZ : Hid (B ≤ w3.heap.size) := Lib.hid (Nat.le_trans H.out.out.le HB3.out.size)
  clear hl hm hu c2 K2 HB2 HI2 HC2 HL2 HM2
  by_cases h5 : p.2 = 5
  · have hq : ((p.2 : Int) == 5) = true := by rw [h5]; rfl
    clear h5
    go_wp2_with fail
    refine (dwrune_k B b _ 0 (by decide) (by decide) _ HI3.out (by have := HO.out; have := HR.out; simp; omega) HZ.out).mono ?_
    rintro e w4 ⟨rfl, hI, hb, hk⟩
    have K4 : Hid (KeepsI k w w4) := Lib.hid (K3.out.trans (bld_keepsI HI3.out hk k))
    have HB4 : Hid (Below B w0 w4) := Lib.hid (HB3.out.trans hb)
    have HC4 : Hid (Box w4 c (cntV l m) 37) := Lib.hid (HC3.out.kept hk (HC3.out.ne_bld HI3.out) (by decide))
    have HL4 := Lib.hid (HL3.out.kept hk (HL3.out.ne_bld HI3.out) (by decide))
    have HM4 := Lib.hid (HM3.out.kept hk (HM3.out.ne_bld HI3.out) (by decide))
    have c4 : w4.cell? ⟨c, 0, none⟩ = some (.func (.func 31) #[] #[.pointer (some ⟨l, 0, none⟩), .pointer (some ⟨m, 0, none⟩)]) := HC4.out.cell
    clear hI hb hk
    go_wp2_with fail
    refine (count_v rfl (by have := HPL.out; omega) _ HL4.out HM4.out).mono ?_
    rintro e w5 ⟨rfl, hl, hm, hu⟩
    have K5 : Hid (KeepsI k w w5) := Lib.hid (K4.out.trans (hu.keepsI HL4.out HM4.out k))
    have HB5 : Hid (Below B w0 w5) := Lib.hid (hu.below HB4.out H.out.hl H.out.hm)
    clear hl hm hu
    go_wp2
    go_ret
    exact ⟨K5.out, .inr ⟨rfl, HB5.out⟩⟩
  · have hq : ((p.2 : Int) == 5) = false := by simp; omega
    clear h5
    go_wp2
    go_ret
    exact ⟨K3.out, .inr ⟨rfl, HB3.out⟩⟩

theorem rune_hi (s : ByteArray) (k : Nat) : (0 : Int) ≤ ((Utf8.decode s k).1 : Int) ∧ ((Utf8.decode s k).1 : Int) ≤ 2147483647 := by
  have := decode_le s k
  omega
theorem stS_one (p : Int × Nat) (x : Int) : stS p [x] = if (nxt p x).2 = 5 then (oth x, 1) else nxt p x := by
  show (if (nxt p x).2 = 5 then stS (oth x, 1) [] else stS (nxt p x) []) = _
  split <;> rfl
def pInv (s : ByteArray) (B b c l m : Nat) (w0 : World) (k : Nat) (w1 : World) : Prop := k ≤ s.size ∧ bitsB ((byL s).take k) = true ∧ PutSt B b c l m (stS (0, 0) ((byL s).take k)) (stuffL ((byL s).take k)) w0 w1
theorem put_walk {s : ByteArray} {B b c l m : Nat} {w0 w : World} (hs : s.size ≤ 1000000) (h : PutSt B b c l m (0, 0) [] w0 w) :
    Calls Try.prog 19 #[.string s, .func (.func 23) #[] #[.pointer (some ⟨b, 0, none⟩), .pointer (some ⟨c, 0, none⟩)]] w (WalkPost s (pInv s B b c l m w0) (tFin s B w0)) := by
  refine walk_v 23 #[.pointer (some ⟨b, 0, none⟩), .pointer (some ⟨c, 0, none⟩)] (enters_of Try.func23 (by kernel_rfl) rfl) _ _ w ⟨Nat.zero_le _, rfl, h.alloc _⟩ (fun pos q w1 h1 hi => ⟨h1.1, h1.2.1, h1.2.2.iterAt hi h.out.hB⟩) ?_
  intro pos w1 hp h1
  have hle := stS_le ((byL s).take pos) (0, 0) (by decide)
  have hlen : (stuffL ((byL s).take pos)).length ≤ 10000000 := by
    have := (stuff_len ((byL s).take pos)).1
    rw [List.length_take] at this
    omega
  have h2 := h1.2.2
  obtain ⟨p, hp0⟩ : ∃ p, stS (0, 0) ((byL s).take pos) = p := ⟨_, rfl⟩
  rw [hp0] at hle h2
  obtain ⟨a, n⟩ := p
  cases hb : isBit (bt s pos)
  · exact (putC_f (rune_not hp hb) (rune_hi s pos).1 (rune_hi s pos).2 hle hlen h2).mono fun e w2 ⟨hk, hh⟩ => ⟨hk, hh.imp id fun ⟨he, hw⟩ => ⟨he, bits_not hp hb, hw⟩⟩
  · obtain ⟨e1, e2⟩ := rune_bit hp hb
    rw [e1, e2]
    have hst : stS (0, 0) ((byL s).take (pos + 1)) = if (nxt (a, n) (bt s pos)).2 = 5 then (oth (bt s pos), 1) else nxt (a, n) (bt s pos) := by rw [byL_take hp, stS_app, hp0, stS_one]
    have hso : stuffL ((byL s).take (pos + 1)) = stuffL ((byL s).take pos) ++ (if (nxt (a, n) (bt s pos)).2 = 5 then [bt s pos, oth (bt s pos)] else [bt s pos]) := by rw [byL_take hp, stuffL_snoc, hp0]
    by_cases h5 : (nxt (a, n) (bt s pos)).2 = 5
    · rw [if_pos h5] at hst hso
      refine (putC_5 hb hle hlen (Prod.ext rfl h5) h2).mono fun e w2 ⟨hk, hh⟩ => ⟨hk, hh.imp (fun ⟨he, hw⟩ => ⟨he, by omega, bits_step hp h1.2.1 hb, ?_⟩) id⟩
      rw [hst, hso]
      simpa using hw
    · rw [if_neg h5] at hst hso
      refine (putC_t hb hle hlen rfl h5 h2).mono fun e w2 ⟨hk, hh⟩ => ⟨hk, hh.imp (fun ⟨he, hw⟩ => ⟨he, by omega, bits_step hp h1.2.1 hb, ?_⟩) id⟩
      rw [hst, hso]
      exact hw

theorem stuffS_t {L : List Int} (h : bitsB L = true) : strOfNums (stuffL L) = stuffS L := by unfold stuffS; rw [if_pos h]
theorem stuffS_f {L : List Int} (h : bitsB L = false) : ByteArray.mk #[] = stuffS L := by unfold stuffS; rw [if_neg (by rw [h]; decide)]
theorem Box.made0 (w : World) (v : Value) (t : TypeId) : Box (w.alloc (.cells #[v] t)) w.heap.size v t := Box.made w v t rfl
theorem bldF_below {T e : TypeId} {B b : Nat} {bs : List Value} {w w' : World} (h : Lib.IsBuilderF T e B b bs w) (hb : Below w.heap.size w w') : Lib.IsBuilderF T e B b bs w' := by
  have key : ∀ {k : Nat} {o : Obj}, w.heap[k]? = some o → w'.heap[k]? = some o := fun hk => (hb.block _ (Array.getElem?_eq_some_iff.1 hk).1).trans hk
  have one : ∀ p, Lib.BuilderAtF T e B b p bs w → Lib.BuilderAtF T e B b p bs w' := by
    rintro p ⟨hB, v, hb, hown, hne⟩
    refine ⟨hB, v, key hb, ⟨hown.1, ?_⟩, hne⟩
    rcases hown.2 with hn | ⟨g, cap, cur, fz, hv, hbg, hg, rest⟩
    · exact .inl hn
    · exact .inr ⟨g, cap, cur, fz, hv, hbg, key hg, rest⟩
  exact h.elim (fun x => .inl (one _ x)) (fun x => .inr (one _ x))
theorem OutSt.later {B b : Nat} {O : List Int} {w0 w w1 : World} (h : OutSt B b O w0 w) (hb : Below w.heap.size w w1) : OutSt B b O w0 w1 := ⟨h.below.trans (hb.mono h.hB), bldF_below h.bld hb, h.le⟩
theorem putSt_made {w w1 : World} {o : Obj} (HO : OutSt w.heap.size w.heap.size [] w (w.alloc o)) (hl : Box w1 (w.alloc o).heap.size (.int .i32 0) 21) (hm : Box w1 ((w.alloc o).heap.size + 1) (.int .i64 0) 3)
    (hb : Below (w.alloc o).heap.size (w.alloc o) w1) : PutSt w.heap.size w.heap.size w1.heap.size (w.heap.size + 1) (w.heap.size + 1 + 1) (0, 0) [] w (w1.alloc (.cells #[cntV (w.heap.size + 1) (w.heap.size + 1 + 1)] 37)) := by
  simp only [World.size_alloc] at hl hm
  exact ⟨(HO.later hb).alloc _, Box.made0 _ _ _, hl.alloc _, hm.alloc _, by omega, by omega⟩
set_option maxHeartbeats 1000000 in
theorem cstuff_v {s t : ByteArray} (h : stuffS (byL s) = t) (hs : s.size ≤ 1000000) (w : World) :
    Calls Try.prog 11 #[.string s] w fun e w' => e = .returned (.string t) ∧ Below w.heap.size w w' := by
  have H := Lib.hid h
  have HS := Lib.hid hs
  clear h hs
  have hmf : ∀ (fn : Fn) (first cap : Array Value) (w : World), (Instr.makeFunc fn first cap).run Try.prog w = .ok (.func fn first cap) w := fun _ _ _ _ => rfl
  have HO : Hid (OutSt w.heap.size w.heap.size [] w (w.alloc (.cells #[.pointer none, .slice none 0 0] 36))) := Lib.hid ⟨(Below.refl _ w).alloc (Nat.le_refl _) _, .of (Lib.fresh_isBuilder _ _ w), Nat.le_refl _⟩
  go_enter Try.func11, Try.ntmps11
  go_wp2_with fail
  refine (runs_any _).mono ?_
  rintro e w1 ⟨rfl, hl, hm, hb, hz⟩
  have HP : Hid (PutSt w.heap.size w.heap.size w1.heap.size (w.heap.size + 1) (w.heap.size + 1 + 1) (0, 0) [] w (w1.alloc (.cells #[cntV (w.heap.size + 1) (w.heap.size + 1 + 1)] 37))) := Lib.hid (putSt_made HO.out hl hm hb)
  clear hl hm hb hz
  unfold cntV at HP ⊢
  go_wp2_with fail
  refine (put_walk HS.out HP.out).mono ?_
  rintro e w2 (⟨rfl, pos, hp, hI⟩ | ⟨pos, hp, rfl, hF⟩)
  · have HB : Hid (bitsB (byL s) = true) := Lib.hid (bits_all hp hI.2.1)
    have HI := Lib.hid hI.2.2
    have HT := Lib.hid (take_all hp)
    clear hI hp
    rw [HT.out] at HI
    have HBL := Lib.hid (bcells (isBy_bits (stuffL_bits HB.out)))
    have HL : Hid (Lib.IsBuilderF 36 5 w.heap.size w.heap.size (Lib.byteCells (strOfNums (stuffL (byL s))).data.toList) w2) := Lib.hid (by rw [← HBL.out]; exact HI.out.out.bld)
    go_wp2_with fail
    refine (dstring_k _ _ _ _ HL.out HI.out.out.hB).mono ?_
    rintro e w3 ⟨rfl, _, hb, _⟩
    rw [str_list]
    go_wp2
    go_ret
    exact ⟨fret_str (by rw [← H.out]; exact stuffS_t HB.out), HI.out.out.below.trans hb⟩
  · have hne : ((pos : Int) == -1) = false := by simp
    go_wp2
    go_ret
    exact ⟨fret_str (by rw [← H.out]; exact stuffS_f hF.1), hF.2⟩

end Go.Proofs.Ytpapdonodgedoaa
