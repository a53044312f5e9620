/- Match: filters in memory; contracts of Hit, hits, floor. -/
import Derived.Test.YtohoedhaomkafaaDoorMatM
import Derived.Test.YtohoedhaomkafaaDoorFrmJ
import Derived.Test.YtohoedhaomkafaaDoorWirL
import Derived.Test.YtohoedhaomkafaaDoorRows2
namespace Go.Proofs.YtohoedhaomkafaaDoor
open Go.RowKit
set_option linter.unusedVariables false

/-! ### bits of words -/
theorem u32_nat (a : Nat) (ha : a < 4294967296) : (BitVec.ofInt 32 (a : Int)).toNat = a := by rw [BitVec.ofInt_natCast, BitVec.toNat_ofNat]; exact Nat.mod_eq_of_lt (by omega)
theorem u32_xor (a b : Nat) (ha : a < 4294967296) (hb : b < 4294967296) : bits .xor .u32 (a : Int) (b : Int) = ((a ^^^ b : Nat) : Int) := by
  show IntKind.u32.wrap (((BitVec.ofInt 32 (a : Int)) ^^^ (BitVec.ofInt 32 (b : Int))).toNat : Int) = _
  have := Nat.xor_lt_two_pow (n := 32) ha hb
  rw [BitVec.toNat_xor, u32_nat a ha, u32_nat b hb, IntKind.wrap_u32]
  omega
theorem u32_and (a b : Nat) (ha : a < 4294967296) (hb : b < 4294967296) : bits .and .u32 (a : Int) (b : Int) = ((a &&& b : Nat) : Int) := by
  show IntKind.u32.wrap (((BitVec.ofInt 32 (a : Int)) &&& (BitVec.ofInt 32 (b : Int))).toNat : Int) = _
  have := Nat.and_lt_two_pow (n := 32) a hb
  rw [BitVec.toNat_and, u32_nat a ha, u32_nat b hb, IntKind.wrap_u32]
  omega
theorem u32_or (a b : Nat) (ha : a < 4294967296) (hb : b < 4294967296) : bits .or .u32 (a : Int) (b : Int) = ((a ||| b : Nat) : Int) := by
  show IntKind.u32.wrap (((BitVec.ofInt 32 (a : Int)) ||| (BitVec.ofInt 32 (b : Int))).toNat : Int) = _
  have := Nat.or_lt_two_pow (n := 32) ha hb
  rw [BitVec.toNat_or, u32_nat a ha, u32_nat b hb, IntKind.wrap_u32]
  omega

/-! ### filters in memory -/
/-- a filter's fields fit -/
def Flt.fits (f : Flt) : Prop := f.i < 4294967296 ∧ f.m < 4294967296
theorem Flt.fits.turn {f : Flt} (h : f.fits) : (turnF f).fits := h
def flC (f : Flt) : List Value := [.int .u32 f.i, .int .u32 f.m, .bool f.v]
theorem flC_len (f : Flt) : (flC f).length = 3 := rfl
abbrev SlL (w : World) (B : Nat) (v : Value) (L : List Flt) : Prop := SlG flC 3 w B v L

set_option maxHeartbeats 1000000 in
theorem mhit_v {f : Flt} {u : Nat} {q : Bool} (h : hitN f u = q) (hf : f.fits) (hu : u < 4294967296) (w : World) :
    Calls Tryd.prog 6 #[.agg #[.int .u32 f.i, .int .u32 f.m, .bool f.v], .int .u32 u] w fun e w' => e = .returned (.bool q) ∧ Below w.heap.size w w' := by
  have H := Lib.hid h
  obtain ⟨h1, h2⟩ := hf
  have e1 := u32_xor u f.i hu h1
  have e2 := u32_and (u ^^^ f.i) f.m (Nat.xor_lt_two_pow (n := 32) hu h1) h2
  have H2 := Lib.hid (And.intro hu (And.intro h1 h2))
  clear h h1 h2 hu
  go_enter Tryd.func6, Tryd.ntmps6
  go_wp2
  go_ret
  exact ⟨fret_bool (by rw [← H.out]; unfold hitN; rw [Bool.eq_iff_iff]; cases f.v <;> simp <;> omega), (Below.refl _ _).alloc (Nat.le_refl _) _⟩

/-- how many of the filters hit the word -/
def cntN (L : List Flt) (u : Nat) : Nat := (L.filter fun f => hitN f u).length
theorem cntN_snoc (L : List Flt) (f : Flt) (u : Nat) : cntN (L ++ [f]) u = cntN L u + (if hitN f u then 1 else 0) := by
  unfold cntN
  rw [List.filter_append, List.length_append]
  cases h : hitN f u <;> simp [h]
theorem cntN_le (L : List Flt) (u : Nat) : cntN L u ≤ L.length := List.length_filter_le _ _

set_option maxHeartbeats 1000000 in
theorem hits_any {L : List Flt} {v : Value} {u : Nat} (w : World) (h : SlL w w.heap.size v L) (hfit : ∀ f ∈ L, f.fits) (hu : u < 4294967296) :
    Calls Tryd.prog 24 #[.int .u32 u, v] w fun e w' => e = .returned (.int .i64 (cntN L u)) ∧ Below w.heap.size w w' := by
  have H := Lib.hid h
  have HF := Lib.hid hfit
  have HU := Lib.hid hu
  obtain ⟨A, cap, rfl, hm, _⟩ := h
  unfold maxLen at hm
  clear hfit hu
  go_enter Tryd.func24, Tryd.ntmps24
  go_wp2_with fail
  go_loopw [5, 10] (fun n i wr => ∃ k : Nat, k ≤ L.length ∧ i = .int .i64 k ∧ n = .int .i64 (cntN (L.take k) u) ∧ Below w.heap.size w wr) (fun _ i _ => L.length - (intOf i).toNat)
  case atStart => exact ⟨0, by omega, rfl, rfl, Below.refl _ _⟩
  case round =>
    obtain ⟨k, hk, rfl, rfl, hbw⟩ := hrel
    have HBW := Lib.hid hbw
    clear hbw
    by_cases hlt : k < L.length
    · obtain ⟨x, cap1, hv, hxb, hcell⟩ := (H.out.later HBW.out).at_ hlt
      injection hv with hA hn hc
      subst hA hc
      have a0 : wr.cell? (x.add (k * 3)) = some (.int .u32 (L[k]'hlt).i) := hcell 0 _ rfl
      have a1 : wr.cell? ⟨(x.add (k * 3)).block, (x.add (k * 3)).off + 1, none⟩ = some (.int .u32 (L[k]'hlt).m) := hcell 1 _ rfl
      have a2 : wr.cell? ⟨(x.add (k * 3)).block, (x.add (k * 3)).off + 2, none⟩ = some (.bool (L[k]'hlt).v) := hcell 2 _ rfl
      have hk1 : (k : Int) < (L.length : Int) := by omega
      have hk0 : (0 : Int) ≤ (k : Int) := by omega
      have HFi : Hid ((L[k]'hlt).fits) := Lib.hid (HF.out _ (List.getElem_mem hlt))
      have HS : Hid (cntN (L.take (k + 1)) u = cntN (L.take k) u + (if hitN (L[k]'hlt) u then 1 else 0)) := Lib.hid (by rw [List.take_succ_eq_append_getElem hlt, cntN_snoc])
      have hcl := cntN_le (L.take k) u
      have HCL : cntN (L.take k) u < 9223372036854775807 := by have := List.length_take_le k L; omega
      clear hcell hxb hcl
      generalize L[k]'hlt = f at a0 a1 a2 HFi HS
      generalize hq : hitN f u = q at HS
      have HQ := Lib.hid hq
      clear hq
      go_wp2_with fail
      refine (mhit_v HQ.out HFi.out HU.out _).mono ?_
      rintro e w2 ⟨rfl, hb2⟩
      have hB2 := Lib.hid (fbelow_t (Below.allocL HBW.out _) hb2)
      clear hb2
      cases q
      · go_wp2
        go_roundw
        case rel => exact ⟨k + 1, by omega, by go_num, by rw [HS.out]; go_num, hB2.out⟩
        case measure => simp [intOf]; omega
      · go_wp2
        go_roundw
        case rel => exact ⟨k + 1, by omega, by go_num, by rw [HS.out]; go_num, hB2.out⟩
        case measure => simp [intOf]; omega
    · obtain rfl : k = L.length := by omega
      rw [List.take_length]
      go_wp2
      go_ret
      exact ⟨rfl, HBW.out⟩

/-- what filters ask to be 1 -/
def askL (L : List Flt) : Nat := L.foldl (fun n f => n ||| askN f) 0
theorem askL_snoc (L : List Flt) (f : Flt) : askL (L ++ [f]) = askL L ||| askN f := by unfold askL; rw [List.foldl_append]; rfl
theorem askL_lt : ∀ (L : List Flt) (n : Nat), n < 4294967296 → (∀ f ∈ L, f.fits) → L.foldl (fun n f => n ||| askN f) n < 4294967296
  | [], n, h, _ => h
  | f :: L, n, h, hf => askL_lt L _ (Nat.or_lt_two_pow (n := 32) h (ask_lt (hf f (List.mem_cons_self ..)).1)) (fun g hg => hf g (List.mem_cons_of_mem _ hg))

set_option maxHeartbeats 1000000 in
theorem floor_any {L : List Flt} {v : Value} (w : World) (h : SlL w w.heap.size v L) (hfit : ∀ f ∈ L, f.fits) :
    Calls Tryd.prog 28 #[v] w fun e w' => e = .returned (.int .u32 (askL L)) ∧ Below w.heap.size w w' := by
  have H := Lib.hid h
  have HF := Lib.hid hfit
  obtain ⟨A, cap, rfl, hm, _⟩ := h
  unfold maxLen at hm
  clear hfit
  go_enter Tryd.func28, Tryd.ntmps28
  go_wp2_with fail
  go_loopw [3, 8] (fun n i wr => ∃ k : Nat, k ≤ L.length ∧ i = .int .i64 k ∧ n = .int .u32 (askL (L.take k)) ∧ Below w.heap.size w wr) (fun _ i _ => L.length - (intOf i).toNat)
  case atStart => exact ⟨0, by omega, rfl, rfl, Below.refl _ _⟩
  case round =>
    obtain ⟨k, hk, rfl, rfl, hbw⟩ := hrel
    have HBW := Lib.hid hbw
    clear hbw
    by_cases hlt : k < L.length
    · obtain ⟨x, cap1, hv, hxb, hcell⟩ := (H.out.later HBW.out).at_ hlt
      injection hv with hA hn hc
      subst hA hc
      have a0 : wr.cell? (x.add (k * 3)) = some (.int .u32 (L[k]'hlt).i) := hcell 0 _ rfl
      have a1 : wr.cell? ⟨(x.add (k * 3)).block, (x.add (k * 3)).off + 1, none⟩ = some (.int .u32 (L[k]'hlt).m) := hcell 1 _ rfl
      have a2 : wr.cell? ⟨(x.add (k * 3)).block, (x.add (k * 3)).off + 2, none⟩ = some (.bool (L[k]'hlt).v) := hcell 2 _ rfl
      have hk1 : (k : Int) < (L.length : Int) := by omega
      have hk0 : (0 : Int) ≤ (k : Int) := by omega
      have hfi := HF.out _ (List.getElem_mem hlt)
      have HS : Hid (askL (L.take (k + 1)) = askL (L.take k) ||| askN (L[k]'hlt)) := Lib.hid (by rw [List.take_succ_eq_append_getElem hlt, askL_snoc])
      have hal : askL (L.take k) < 4294967296 := askL_lt _ 0 (by decide) (fun f hf => HF.out f (List.mem_of_mem_take hf))
      clear hcell hxb
      generalize L[k]'hlt = f at a0 a1 a2 hfi HS
      obtain ⟨fi, fm, fv⟩ := f
      obtain ⟨h1, h2⟩ := hfi
      simp only at h1 h2
      generalize askL (L.take k) = n at hal HS
      have e1 := u32_and fi fm h1 h2
      have e2 := u32_or n (fi &&& fm) hal (Nat.lt_of_le_of_lt Nat.and_le_left h1)
      clear h1 h2 hal
      cases fv
      · go_wp2
        go_roundw
        case rel => exact ⟨k + 1, by omega, by go_num, by rw [HS.out]; rfl, Below.allocL HBW.out _⟩
        case measure => simp [intOf]; omega
      · go_wp2
        go_roundw
        case rel => exact ⟨k + 1, by omega, by go_num, by rw [HS.out]; unfold askN; simp, Below.allocL HBW.out _⟩
        case measure => simp [intOf]; omega
    · obtain rfl : k = L.length := by omega
      rw [List.take_length]
      go_wp2
      go_ret
      exact ⟨rfl, HBW.out⟩

end Go.Proofs.YtohoedhaomkafaaDoor
