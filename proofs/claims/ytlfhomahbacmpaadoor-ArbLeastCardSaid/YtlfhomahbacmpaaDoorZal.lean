/- Arb, the code's side: Field, Least; what the walks know of tables. The shelf's contracts that dump's texts use, laid by the shelf's command at this seat (wip/shelf.sh), taken out of its print by wip/prune_shelf.py. Arb, the code's side: nought, longest, Level. Of no program: a text's beginning, and its rest. (Parted from XSerK.) Arb, plain: who is left up to a place; the next place where one that is left shows 0. No program is meant here. Of no program: a scope in which the run jumps back to one label, the code behind it walked once. (Parted from XWirAa.) -/
import Derived.Test.YtlfhomahbacmpaaDoorZak
import Derived.Test.YtlfhomahbacmpaaDoorZaf
import Derived.Test.YtlfhomahbacmpaaDoorZai
import Derived.Shelf.Small.Strs
import Derived.Shelf.Strings.Repeat
import Derived.Test.YtlfhomahbacmpaaDoorProg
import Derived.Test.YtlfhomahbacmpaaDoorZad
import Derived.Lib.Bytealg
import Derived.WalkMore
import Derived.ScopeJumps
namespace Go.Proofs.YtlfhomahbacmpaaDoor
open Go.RowKit
set_option linter.unusedVariables false

def ATab (w : World) : Prop := Tabs w
theorem ATab.below {w w' : World} (h : ATab w) (hb : Below w.heap.size w w') : ATab w' := Tabs.below h hb
theorem fret_of {u v : Value} (h : u = v) : Ending.returned u = .returned v := by rw [h]

theorem key_bd (f : Fr) : keyF f < 8589934592 := by
  unfold keyF
  rcases keyV_cases f.i f.n f.l f.d.size with ⟨h, e⟩ | ⟨h, e⟩
  · rw [e]
    simp only [Bool.and_eq_true, Bool.not_eq_true'] at h
    have g := good h.1
    have h1 := g.top
    have h0 := g.i0
    have b1 : b01 (fR f.n) = 0 ∨ b01 (fR f.n) = 1 := by cases fR f.n <;> simp [b01]
    have b2 : b01 (fD f.n) = 0 ∨ b01 (fD f.n) = 1 := by cases fD f.n <;> simp [b01]
    unfold keyN
    cases hE : fE f.n
    · have h2 := g.i1
      rw [topN_v hE h.2] at h2
      simp at h2
      simp only [Bool.false_eq_true, if_false]
      omega
    · simp only [if_true]
      omega
  · rw [e]; decide
theorem field_bits {v : Int} {t : ByteArray} (h : strOfNums (fieldL v) = t) : bitsS v 33 = t := by
  rw [← h]
  unfold bitsS fieldL
  by_cases h0 : 0 ≤ v
  · rw [if_pos ⟨h0, by decide, by decide⟩, if_neg (by omega)]; rfl
  · rw [if_neg (fun h => h0 h.1), if_pos (by omega)]; rfl
theorem wf_n {n : Int} (h : (Lit.int .i64 n).wf = true) : -9223372036854775808 ≤ n ∧ n ≤ 9223372036854775807 := by
  simp [Lit.wf, IntKind.min, IntKind.max, IntKind.signed, IntKind.bits] at h
  omega
set_option maxHeartbeats 1000000 in
theorem kafield_v {i n l v : Int} {d t : ByteArray} (h : keyV i n l d.size = v) (ht : strOfNums (fieldL v) = t) (w : World) (hT : ATab w) (hn : (Lit.int .i64 n).wf = true) :
    Calls Tryd.prog 15 #[.agg #[.int .i64 i, .int .i64 n, .int .i64 l, .string d]] w fun e w' => e = .returned (.string t) ∧ Below w.heap.size w w' := by
  have H := Lib.hid h
  have HT := Lib.hid (field_bits ht)
  have HTT := Lib.hid hT
  have HN := Lib.hid (wf_n hn)
  have HB := Lib.hid (key_bd ⟨i, n, l, d⟩)
  clear h ht hn hT
  go_enter Tryd.func15, Tryd.ntmps15
  go_wp2_with fail
  refine (key_v H.out _ (Tabs.alloc HTT.out _) HN.out.1 HN.out.2).mono ?_
  rintro e w1 ⟨rfl, hb⟩
  have HB1 := Lib.hid (fbelow_a _ hb)
  go_wp2_with fail
  refine (kbits_v HT.out (by have h1 := HB.out; have h2 := H.out; unfold keyF at h1; simp only at h1; omega) _).mono ?_
  rintro e w2 ⟨rfl, hb2⟩
  go_wp2
  go_ret
  exact ⟨rfl, fbelow_t HB1.out hb2⟩

/-! ### Least -/
/-- the least key of the first k frames is that of the frame i -/
def Best (L : List Fr) (k : Nat) (i least : Int) : Prop := (i = 0 ∧ least = -1 ∧ ∀ j < k, keyAt L j < 0) ∨ (∃ m : Nat, m < k ∧ i = m ∧ least = keyAt L m ∧ lsB L m k = true)
theorem lsB_iff {L : List Fr} {i y : Nat} : lsB L i y = true ↔ 0 ≤ keyAt L i ∧ ∀ j < y, keyAt L j < 0 ∨ keyAt L i < keyAt L j ∨ (keyAt L i = keyAt L j ∧ i ≤ j) := by
  unfold lsB aheadB
  rw [Bool.and_eq_true, decide_eq_true_eq, List.all_eq_true]
  constructor
  · rintro ⟨h0, h⟩
    refine ⟨h0, fun j hj => ?_⟩
    have := h j (List.mem_range.2 hj)
    simpa [or_assoc] using this
  · rintro ⟨h0, h⟩
    refine ⟨h0, fun j hj => ?_⟩
    have := h j (List.mem_range.1 hj)
    simpa [or_assoc] using this
theorem Best.zero (L : List Fr) : Best L 0 0 (-1) := .inl ⟨rfl, rfl, fun j hj => by omega⟩
theorem Best.rng {L : List Fr} {k : Nat} {i least : Int} (h : Best L k i least) (hk : k ≤ 9223372036854775807) : -1 ≤ least ∧ least < 8589934592 := by
  rcases h with ⟨_, rfl, _⟩ | ⟨m, _, _, rfl, hl⟩
  · decide
  · have := (lsB_iff.1 hl).1
    have := key_bd (L.getD m fr0)
    unfold keyAt at *
    omega
theorem Best.turn {L : List Fr} {k : Nat} {i least : Int} (h : Best L k i least) (h0 : 0 ≤ keyAt L k) (hl : least < 0 ∨ keyAt L k < least) : Best L (k + 1) k (keyAt L k) := by
  refine .inr ⟨k, by omega, rfl, rfl, lsB_iff.2 ⟨h0, fun j hj => ?_⟩⟩
  by_cases e : j = k
  · subst e; right; right; exact ⟨rfl, Nat.le_refl _⟩
  · rcases h with ⟨_, rfl, hn⟩ | ⟨m, hm, _, rfl, hl2⟩
    · left; exact hn j (by omega)
    · have hm2 := lsB_iff.1 hl2
      have := hm2.2 j (by omega)
      omega
theorem Best.keep {L : List Fr} {k : Nat} {i least : Int} (h : Best L k i least) (h0 : keyAt L k < 0 ∨ (0 ≤ least ∧ least ≤ keyAt L k)) : Best L (k + 1) i least := by
  rcases h with ⟨rfl, rfl, hn⟩ | ⟨m, hm, rfl, rfl, hl⟩
  · refine .inl ⟨rfl, rfl, fun j hj => ?_⟩
    by_cases e : j = k
    · subst e; omega
    · exact hn j (by omega)
  · refine .inr ⟨m, by omega, rfl, rfl, ?_⟩
    have hm2 := lsB_iff.1 hl
    refine lsB_iff.2 ⟨hm2.1, fun j hj => ?_⟩
    by_cases e : j = k
    · subst e; omega
    · exact hm2.2 j (by omega)
theorem least_first {L : List Fr} : ∀ x, (∀ j < x, lsB L j L.length = false) → leastIx L x = none := by
  intro x h
  unfold leastIx
  rw [List.find?_eq_none]
  intro j hj
  rw [h j (List.mem_range.1 hj)]
  decide
theorem Best.done {L : List Fr} {i least : Int} (h : Best L L.length i least) {w w' : World} (hb : Below w.heap.size w w') {b : Bool} (he : decide (0 ≤ least) = b) :
    leastPost (leastIx L L.length) w (.returned (.tuple #[.int .i64 i, .bool b])) w' := by
  rcases h with ⟨rfl, rfl, hn⟩ | ⟨m, hm, rfl, rfl, hl⟩
  · have e : leastIx L L.length = none := least_first _ fun j hj => by
      cases hq : lsB L j L.length
      · rfl
      · have := (lsB_iff.1 hq).1
        have := hn j hj
        omega
    subst he
    exact leastPost_n e hb
  · have hm2 := lsB_iff.1 hl
    have e : leastIx L m = none := least_first _ fun j hj => by
      cases hq : lsB L j L.length
      · rfl
      · have h3 := lsB_iff.1 hq
        have h4 := h3.2 m hm
        have h5 := hm2.2 j (by omega)
        omega
    have e2 := leastIx_found e hl L.length hm
    rw [decide_eq_true hm2.1] at he
    subst he
    exact leastPost_y e2 hb

set_option maxHeartbeats 2000000 in
theorem kaleast_v {v : Value} {L : List Fr} (w : World) (hv : SlF w w.heap.size v L) (hf : ∀ f ∈ L, f.fits) (hT : ATab w) :
    Calls Tryd.prog 17 #[v] w (leastPost (leastIx L L.length) w) := by
  have HV := Lib.hid hv
  have HX := Lib.hid hf
  have HT := Lib.hid hT
  obtain ⟨A, cap, rfl, hlen, _⟩ := hv
  unfold maxLen at hlen
  clear hf hT
  go_enter Tryd.func17, Tryd.ntmps17
  go_wp2
  go_loopw [4, 5, 11] (fun a b i wr => ∃ k : Nat, ∃ x y : Int, k ≤ L.length ∧ i = .int .i64 k ∧ a = .int .i64 x ∧ b = .int .i64 y ∧ Hid (Best L k x y ∧ Below w.heap.size w wr)) (fun _ _ i _ => L.length - (intOf i).toNat)
  case atStart => exact ⟨0, 0, -1, Nat.zero_le _, rfl, rfl, rfl, Lib.hid ⟨Best.zero L, Below.refl _ _⟩⟩
  case round =>
    obtain ⟨k, x, y, hk, rfl, rfl, rfl, HI⟩ := hrel
    have hy := HI.out.1.rng (by omega)
    by_cases hlt : k < L.length
    · have HVr := Lib.hid (HV.out.later HI.out.2)
      obtain ⟨p, c1, hv1, hpb, hf⟩ := SlF.facts HVr.out hlt
      injection hv1 with hA _ hcap
      subst hA
      subst hcap
      obtain ⟨a0, a1, a2, a3⟩ := hf ⟨wr, Below.refl _ _⟩
      obtain ⟨kx, hkx⟩ : ∃ kx, keyAt L k = kx := ⟨_, rfl⟩
      have HKX : Hid (keyV (L[k]).i (L[k]).n (L[k]).l (L[k]).d.size = kx) := Lib.hid (by rw [← hkx, keyAt_get hlt])
      have HN := Lib.hid (wf_n (HX.out _ (List.getElem_mem hlt)).2.1)
      have HTU := Lib.hid (HI.out.1.turn (k := k))
      have HKE := Lib.hid (HI.out.1.keep (k := k))
      rw [hkx] at HTU HKE
      simp only at a0 a1 a2 a3
      clear hf hkx
      generalize L[k] = f at a0 a1 a2 a3 HKX HN
      have HF := Lib.hid (BoxF.made wr f.i f.n f.l f.d)
      have HB1 := Lib.hid (fbelow_t HI.out.2 ((Below.refl wr.heap.size wr).alloc (Nat.le_refl _) (.cells #[.int .i64 f.i, .int .i64 f.n, .int .i64 f.l, .string f.d] 33)))
      obtain ⟨d0, d1, d2, d3⟩ := HF.out.cells
      go_wp2_with fail
      refine (key_v HKX.out _ (HT.out.below HB1.out) HN.out.1 HN.out.2).mono ?_
      rintro e w1 ⟨rfl, hb1⟩
      have HB2 := Lib.hid (fbelow_t HB1.out hb1)
      clear hb1 a0 a1 a2 a3 d0 d1 d2 d3
      by_cases h0 : 0 ≤ kx
      · by_cases hn : y < 0
        · have HR := Lib.hid (HTU.out h0 (.inl hn))
          go_wp2
          go_roundw
          case rel => exact ⟨k + 1, k, kx, by omega, by go_num, rfl, rfl, Lib.hid ⟨HR.out, HB2.out⟩⟩
          case measure => simp [intOf]; omega
        · by_cases hl : kx < y
          · have HR := Lib.hid (HTU.out h0 (.inr hl))
            go_wp2
            go_roundw
            case rel => exact ⟨k + 1, k, kx, by omega, by go_num, rfl, rfl, Lib.hid ⟨HR.out, HB2.out⟩⟩
            case measure => simp [intOf]; omega
          · have HR := Lib.hid (HKE.out (.inr ⟨by omega, by omega⟩))
            go_wp2
            go_roundw
            case rel => exact ⟨k + 1, x, y, by omega, by go_num, rfl, rfl, Lib.hid ⟨HR.out, HB2.out⟩⟩
            case measure => simp [intOf]; omega
      · have HR := Lib.hid (HKE.out (.inl (by omega)))
        go_wp2
        go_roundw
        case rel => exact ⟨k + 1, x, y, by omega, by go_num, rfl, rfl, Lib.hid ⟨HR.out, HB2.out⟩⟩
        case measure => simp [intOf]; omega
    · obtain rfl : k = L.length := by omega
      obtain ⟨b, hb⟩ : ∃ b, decide (0 ≤ y) = b := ⟨_, rfl⟩
      have HD := Lib.hid (HI.out.1.done HI.out.2 hb)
      go_wp2
      go_ret2
      exact HD.out
end Go.Proofs.YtlfhomahbacmpaaDoor

namespace Go.Proofs
open Go.Shelf
def Tryd.lays137_ren : Go.Shelf.Ren := ⟨fun | 137 => 42 | 217 => 53 | 266 => 61 | n => n, fun | 9 => 9 | 5 => 5 | 3 => 3 | n => n, fun | n => n⟩
theorem Tryd.lays137 : Go.Proofs.Lays.n137 Tryd.prog Tryd.lays137_ren := {
  mixed := by kernel_rfl
  f137 := Tryd.func42.trans (congrArg some (by kernel_rfl))
  f217 := Tryd.func53.trans (congrArg some (by kernel_rfl))
  f266 := Tryd.func61.trans (congrArg some (by kernel_rfl))
  t3 := Tryd.underlying3
  a3 := Tryd.isAgg3
  z3 := Tryd.sizeOf3
  v3 := Tryd.zeroValue3
  t5 := Tryd.underlying5
  a5 := Tryd.isAgg5
  z5 := Tryd.sizeOf5
  v5 := Tryd.zeroValue5
  t9 := Tryd.underlying9
  a9 := Tryd.isAgg9
  z9 := Tryd.sizeOf9
  v9 := Tryd.zeroValue9 }
open Go.RowKit in
theorem Tryd.strings_IndexByte (s : ByteArray) (c : Int) (w : World) :
    Calls Tryd.prog 42 #[.string s, .int .u8 c] w fun e w' => e = .returned (.int .i64 (Lib.indexByte s.data.toList c.toNat.toUInt8)) ∧ w' = w := Any.strings_IndexByte Tryd.lays137 s c w
def Tryd.lays105_ren : Go.Shelf.Ren := ⟨fun | 105 => 23 | 212 => 36 | 99 => 37 | 165 => 38 | 166 => 39 | 170 => 40 | 169 => 41 | 263 => 48 | 264 => 49 | 206 => 50 | 240 => 51 | 241 => 52 | 276 => 59 | 277 => 60 | n => n, fun | 9 => 9 | 3 => 3 | 4 => 4 | 20 => 20 | 0 => 0 | 46 => 55 | 109 => 56 | 5 => 5 | 72 => 61 | 76 => 65 | 51 => 76 | 146 => 77 | 53 => 79 | 148 => 80 | 70 => 59 | 37 => 44 | 75 => 64 | 127 => 82 | 164 => 85 | 80 => 68 | n => n, fun | n => n⟩
theorem Tryd.lays105 : Go.Proofs.Lays.n105 Tryd.prog Tryd.lays105_ren := {
  mixed := by kernel_rfl
  f99 := Tryd.func37.trans (congrArg some (by kernel_rfl))
  f105 := Tryd.func23.trans (congrArg some (by kernel_rfl))
  f165 := Tryd.func38.trans (congrArg some (by kernel_rfl))
  f166 := Tryd.func39.trans (congrArg some (by kernel_rfl))
  f169 := Tryd.func41.trans (congrArg some (by kernel_rfl))
  f170 := Tryd.func40.trans (congrArg some (by kernel_rfl))
  f206 := Tryd.func50.trans (congrArg some (by kernel_rfl))
  f212 := Tryd.func36.trans (congrArg some (by kernel_rfl))
  f240 := Tryd.func51.trans (congrArg some (by kernel_rfl))
  f241 := Tryd.func52.trans (congrArg some (by kernel_rfl))
  f263 := Tryd.func48.trans (congrArg some (by kernel_rfl))
  f264 := Tryd.func49.trans (congrArg some (by kernel_rfl))
  f276 := Tryd.func59.trans (congrArg some (by kernel_rfl))
  f277 := Tryd.func60.trans (congrArg some (by kernel_rfl))
  t0 := Tryd.underlying0
  a0 := Tryd.isAgg0
  z0 := Tryd.sizeOf0
  v0 := Tryd.zeroValue0
  t3 := Tryd.underlying3
  a3 := Tryd.isAgg3
  z3 := Tryd.sizeOf3
  v3 := Tryd.zeroValue3
  t4 := Tryd.underlying4
  a4 := Tryd.isAgg4
  z4 := Tryd.sizeOf4
  v4 := Tryd.zeroValue4
  t5 := Tryd.underlying5
  a5 := Tryd.isAgg5
  z5 := Tryd.sizeOf5
  v5 := Tryd.zeroValue5
  t9 := Tryd.underlying9
  a9 := Tryd.isAgg9
  z9 := Tryd.sizeOf9
  v9 := Tryd.zeroValue9
  t20 := Tryd.underlying20
  a20 := Tryd.isAgg20
  z20 := Tryd.sizeOf20
  v20 := Tryd.zeroValue20
  t37 := Tryd.underlying44
  a37 := Tryd.isAgg44
  z37 := Tryd.sizeOf44
  v37 := Tryd.zeroValue44
  t46 := Tryd.underlying55
  a46 := Tryd.isAgg55
  z46 := Tryd.sizeOf55
  v46 := Tryd.zeroValue55
  t51 := Tryd.underlying76
  a51 := Tryd.isAgg76
  z51 := Tryd.sizeOf76
  v51 := Tryd.zeroValue76
  t53 := Tryd.underlying79
  a53 := Tryd.isAgg79
  z53 := Tryd.sizeOf79
  v53 := Tryd.zeroValue79
  t70 := Tryd.underlying59
  a70 := Tryd.isAgg59
  z70 := Tryd.sizeOf59
  v70 := Tryd.zeroValue59
  t72 := Tryd.underlying61
  a72 := Tryd.isAgg61
  z72 := Tryd.sizeOf61
  v72 := Tryd.zeroValue61
  t75 := Tryd.underlying64
  a75 := Tryd.isAgg64
  z75 := Tryd.sizeOf64
  v75 := Tryd.zeroValue64
  t76 := Tryd.underlying65
  a76 := Tryd.isAgg65
  z76 := Tryd.sizeOf65
  v76 := Tryd.zeroValue65
  t109 := Tryd.underlying56
  a109 := Tryd.isAgg56
  z109 := Tryd.sizeOf56
  v109 := Tryd.zeroValue56
  t127 := Tryd.underlying82
  a127 := Tryd.isAgg82
  z127 := Tryd.sizeOf82
  v127 := Tryd.zeroValue82
  t146 := Tryd.underlying77
  a146 := Tryd.isAgg77
  z146 := Tryd.sizeOf77
  v146 := Tryd.zeroValue77
  t148 := Tryd.underlying80
  a148 := Tryd.isAgg80
  z148 := Tryd.sizeOf80
  v148 := Tryd.zeroValue80
  t164 := Tryd.underlying85
  a164 := Tryd.isAgg85
  z164 := Tryd.sizeOf85
  v164 := Tryd.zeroValue85 }
theorem Tryd.Builder_Extra_105 : Builder.Extra Tryd.prog Tryd.lays105_ren := {
  sizeBuilder := by kernel_rfl
  liesBuilder := by kernel_rfl
  t5 := Tryd.underlying5
  a5 := Tryd.isAgg5
  z5 := Tryd.sizeOf5
  v5 := Tryd.zeroValue5
  infoByte := by kernel_rfl
  cellsByte := by kernel_rfl
  sizeByte := by kernel_rfl
  neB5 := by decide }
open Go.RowKit Go.Lib in
theorem Tryd.strings_Repeat (s : ByteArray) (c : Nat) (w : World) (hc : c ≤ 9223372036854775807) (hlen : s.size * c ≤ 140737488355328) :
    Calls Tryd.prog 23 #[.string s, .int .i64 c] w fun e w' => e = .returned (.string ⟨(Lib.repeatL s.data.toList c).toArray⟩) ∧ Below w.heap.size w w' := Any.strings_Repeat Tryd.lays105 Tryd.Builder_Extra_105 s c w hc hlen
end Go.Proofs

namespace Go.Proofs.YtlfhomahbacmpaaDoor
open Go.RowKit
set_option linter.unusedVariables false

set_option maxHeartbeats 1000000 in
theorem nought_v {s : ByteArray} {i : Nat} {b : Bool} (h : dom s i = b) (w : World) :
    Calls Tryd.prog 25 #[.string s, .int .i64 i] w fun e w' => e = .returned (.bool b) ∧ w = w' := by
  have H := Lib.hid h
  by_cases hi : i < s.size
  · have hix : ∀ w, (Instr.index 9 (.string s) (.int .i64 i)).run Tryd.prog w = .ok (.int .u8 (bt s i)) w := fun w => index_bt Tryd.underlying9 hi w
    have hd : dom s i = (bt s i == 48) := rfl
    rw [h] at hd
    have HD := Lib.hid hd
    generalize bt s i = c at hix HD
    clear hd h
    go_enter Tryd.func25, Tryd.ntmps25
    go_wp2
    all_goals (go_ret; refine ⟨fret_bool ?_, rfl⟩; rw [HD.out])
  · have HD : Hid (b = false) := Lib.hid (by rw [← h]; exact dom_past (by omega))
    clear h
    go_enter Tryd.func25, Tryd.ntmps25
    go_wp2
    go_ret
    exact ⟨fret_bool HD.out.symm, rfl⟩

set_option maxHeartbeats 1000000 in
theorem longest_v {v : Value} {L : List ByteArray} {n : Nat} (h : longL L = n) (hm : ∀ s ∈ L, s.size ≤ 1000000000) (w : World) (hv : SlS w v L) :
    Calls Tryd.prog 24 #[v] w fun e w' => e = .returned (.int .i64 n) ∧ w = w' := by
  subst h
  have HV := Lib.hid hv
  obtain ⟨A, cap, rfl, hlen, _⟩ := hv
  unfold maxLen at hlen
  have HM := Lib.hid hm
  clear hm
  go_enter Tryd.func24, Tryd.ntmps24
  go_wp2
  go_loop [3, 8] (fun m i => ∃ k : Nat, k ≤ L.length ∧ i = .int .i64 k ∧ m = .int .i64 (longL (L.take k))) (fun _ i => L.length - (intOf i).toNat)
  case atStart => exact ⟨0, Nat.zero_le _, rfl, rfl⟩
  case round =>
    obtain ⟨k, hk, rfl, rfl⟩ := hrel
    by_cases hlt : k < L.length
    · obtain ⟨x, cap', hv', hxb, c0⟩ := HV.out.at1 hlt rfl
      injection hv' with hA _ hcap
      subst hA
      subst hcap
      have hs := HM.out _ (List.getElem_mem hlt)
      have HT : Hid (longL (L.take (k + 1)) = max (longL (L.take k)) (L[k]).size) := Lib.hid (by rw [take_snoc hlt, longL_snoc])
      have hl1 := longL_le (L := L.take k) (m := 1000000000) (fun s hs => HM.out s (List.mem_of_mem_take hs))
      generalize longL (L.take k) = m at HT hl1
      generalize L[k] = s at c0 hs HT
      by_cases hgt : m < s.size
      · have hmx : ∀ (ts : Array TypeId) (W : World), (Builtin.max_ ts 3 #[.int .i64 (m : Int), .int .i64 (s.size : Int)]).run Tryd.prog W = .ok (.int .i64 (s.size : Int)) W := fun ts W => by
          simp [Builtin.max_, Builtin.max2]; omega
        go_wp2
        go_round
        case rel => exact ⟨k + 1, by omega, by go_num, by rw [HT.out, Nat.max_eq_right (by omega)]⟩
        case measure => simp [intOf]; omega
      · have hmx : ∀ (ts : Array TypeId) (W : World), (Builtin.max_ ts 3 #[.int .i64 (m : Int), .int .i64 (s.size : Int)]).run Tryd.prog W = .ok (.int .i64 (m : Int)) W := fun ts W => by
          simp [Builtin.max_, Builtin.max2]; omega
        go_wp2
        go_round
        case rel => exact ⟨k + 1, by omega, by go_num, by rw [HT.out, Nat.max_eq_left (by omega)]⟩
        case measure => simp [intOf]; omega
    · obtain rfl : k = L.length := by omega
      rw [List.take_length]
      go_wp2
      go_ret
      exact ⟨rfl, rfl⟩

/-! ### Level -/
def onesB (n : Nat) : ByteArray := ByteArray.mk (Lib.repeatL (ByteArray.mk #[49]).data.toList n).toArray
theorem ones_list (n : Nat) : Lib.repeatL ([49] : List UInt8) n = List.replicate n 49 := by
  induction n with
  | zero => rfl
  | succ n ih => rw [List.replicate_succ]; simp [Lib.repeatL, ih]
theorem ones_size (n : Nat) : (onesB n).size = n := by
  show (Lib.repeatL ([49] : List UInt8) n).toArray.size = n
  rw [ones_list]; simp
theorem ones_byL (n j : Nat) (h : j < n) : (byL (onesB n)).getD j 0 = 49 := by
  unfold byL onesB
  show (((Lib.repeatL ([49] : List UInt8) n).toArray.toList).map _).getD j 0 = 49
  rw [ones_list, List.getD_eq_getElem?_getD, List.getElem?_map]
  simp [h]
def lvF (L : List ByteArray) (k x : Nat) : Bool := !((L.take k).any fun s => dom s x)
theorem lvF_succ {L : List ByteArray} {k : Nat} (h : k < L.length) (x : Nat) : lvF L (k + 1) x = !((L.take k).any (fun s => dom s x) || dom L[k] x) := by
  unfold lvF; rw [take_snoc h, List.any_append]; simp
theorem bitD_C (b : Bool) : bitD b = bitC (!b) := by cases b <;> rfl

set_option maxHeartbeats 2000000 in
theorem kalevel_v {v : Value} {L : List ByteArray} {t : ByteArray} (h : strOfNums (levelL L (longL L)) = t) (hm : ∀ s ∈ L, s.size ≤ 1000000) (w : World) (hv : SlS w v L) :
    Calls Tryd.prog 10 #[v] w fun e w' => e = .returned (.string t) ∧ Below w.heap.size w w' := by
  have H := Lib.hid h
  have HM := Lib.hid hm
  have HM9 : Hid (∀ s ∈ L, s.size ≤ 1000000000) := Lib.hid (fun s hs => by have := hm s hs; omega)
  have HV := Lib.hid hv
  obtain ⟨A, cap, rfl, hlen, -⟩ := hv
  unfold maxLen at hlen
  have hn6 := longL_le hm
  have HGE : Hid (∀ s ∈ L, s.size ≤ longL L) := Lib.hid (fun s hs => longL_ge hs)
  obtain ⟨n, hn⟩ : ∃ n, longL L = n := ⟨_, rfl⟩
  rw [hn] at H HGE hn6
  have HN := Lib.hid hn
  clear h hm hn
  go_enter Tryd.func10, Tryd.ntmps10
  go_wp2_with fail
  refine (longest_v HN.out HM9.out _ HV.out).mono ?_
  rintro e w1 ⟨rfl, rfl⟩
  go_wp2_with fail
  refine (Tryd.strings_Repeat (ByteArray.mk #[49]) n _ (by omega) (by show 1 * n ≤ _; omega)).mono ?_
  rintro e w1 ⟨rfl, hb1⟩
  have hcb := conv_bytes (onesB n) w1
  have hos := ones_size n
  have HB1 : Hid (Below w.heap.size w (Lib.bytesWorld w1 5 (onesB n))) := Lib.hid (fbelow_t hb1 (bytesWorld_below w1 _ _))
  have HF := Lib.hid (free_bytes w1 5 (onesB n) (by unfold maxLen; omega))
  have HZ : Hid (w.heap.size ≤ w1.heap.size) := Lib.hid hb1.size
  have hfold : (ByteArray.mk (Lib.repeatL (ByteArray.mk #[49]).data.toList n).toArray) = onesB n := rfl
  rw [hfold]
  clear hb1 hfold
  go_wp2_with fail
  clear hcb
  obtain ⟨g, c, hgv, hBg, hgs, hl, hmx, h1, h2⟩ := HF.out
  injection hgv with hg0 _ hc0
  injection hg0 with hg0
  injection hg0 with hg0
  have hlen1 : (byL (onesB n)).length = n := by rw [byL_len, hos]
  rw [hlen1] at h1 hl
  have HROW : Hid (RowM w1.heap.size n (lvF L 0) (Lib.bytesWorld w1 5 (onesB n))) := Lib.hid (fun x hx => ⟨by rw [hg0, h1 x hx, ones_byL n x hx]; rfl, by rw [hg0]; exact (h2 x (by omega)).2⟩)
  have HGS : Hid (w1.heap.size < (Lib.bytesWorld w1 5 (onesB n)).heap.size) := Lib.hid (by rw [hg0]; exact hgs)
  have HVB := Lib.hid (HV.out.later HB1.out)
  generalize Lib.bytesWorld w1 5 (onesB n) = w2 at HB1 HROW HGS HVB ⊢
  generalize w1.heap.size = g0 at HZ HROW HGS ⊢
  generalize grownCap w1 n 0 5 = c0
  clear h1 h2 hl hmx hg0 hc0 hBg hgs HF hlen1 hos
  go_loopw [13] (fun i wr => ∃ k : Nat, k ≤ L.length ∧ i = .int .i64 k ∧ Hid (RowM g0 n (lvF L k) wr ∧ Below w.heap.size w wr ∧ g0 < wr.heap.size)) (fun i _ => L.length - (intOf i).toNat)
  case atStart => exact ⟨0, Nat.zero_le _, rfl, Lib.hid ⟨HROW.out, HB1.out, HGS.out⟩⟩
  case round =>
    obtain ⟨k, hk, rfl, HI⟩ := hrel
    by_cases hlt : k < L.length
    · have HVr := Lib.hid (HV.out.later HI.out.2.1)
      obtain ⟨x, cap', hv', hxb, c0⟩ := HVr.out.at1 hlt rfl
      injection hv' with hA _ hcap
      subst hA
      subst hcap
      have hs := HGE.out _ (List.getElem_mem hlt)
      have HT := Lib.hid (lvF_succ hlt)
      have HT0 : Hid (∀ y, lvF L k y = !((L.take k).any fun s => dom s y)) := Lib.hid (fun y => rfl)
      generalize L[k] = s at c0 hs HT
      have hd : decide (k < L.length) = true := decide_eq_true hlt
      go_wp2_with fail
      clear c0
      go_loopw [19] (fun j wx => ∃ y : Nat, y ≤ s.size ∧ j = .int .i64 y ∧ Hid (RowM g0 n (fun z => !((L.take k).any (fun s => dom s z) || (decide (z < y) && dom s z))) wx ∧ Below w.heap.size w wx ∧ g0 < wx.heap.size)) (fun j _ => s.size - (intOf j).toNat)
      case atStart => exact ⟨0, Nat.zero_le _, rfl, Lib.hid ⟨HI.out.1.congr (fun x _ => by rw [HT0.out]; simp), HI.out.2⟩⟩
      case round =>
        obtain ⟨y, hy, rfl, HJ⟩ := hrel
        by_cases hlt2 : y < s.size
        · cases hq : dom s y
          · have HN2 : Hid (∀ z, (decide (z < y + 1) && dom s z) = (decide (z < y) && dom s z)) := Lib.hid (fun z => by
              by_cases e : z = y
              · subst e; rw [hq]; simp
              · congr 1; rw [Bool.eq_iff_iff]; simp; omega)
            have HQ := Lib.hid hq
            clear hq
            go_wp2_with fail
            refine (nought_v HQ.out _).mono ?_
            rintro e w3 ⟨rfl, rfl⟩
            go_wp2_with fail
            go_roundw
            case rel => exact ⟨y + 1, by omega, by go_num, Lib.hid ⟨HJ.out.1.congr (fun z _ => by rw [HN2.out z]), HJ.out.2⟩⟩
            case measure => simp [intOf]; omega
          · have HN2 : Hid (∀ z, (if z = y then false else !((L.take k).any (fun s => dom s z) || (decide (z < y) && dom s z))) = !((L.take k).any (fun s => dom s z) || (decide (z < y + 1) && dom s z))) := Lib.hid (fun z => by
              by_cases e : z = y
              · subst e; rw [if_pos rfl, hq]; simp
              · rw [if_neg e]; congr 3; rw [Bool.eq_iff_iff]; simp; omega)
            have HQ := Lib.hid hq
            clear hq
            go_wp2_with fail
            refine (nought_v HQ.out _).mono ?_
            rintro e w3 ⟨rfl, rfl⟩
            have hyn : y < n := by omega
            obtain ⟨a0, f0⟩ := HJ.out.1 y hyn
            have HW := Lib.hid ((HJ.out.1.set (b := false) hyn).congr (fun z _ => HN2.out z))
            have HBW : Hid (Below w.heap.size w (wr.setCell ⟨g0, y, none⟩ (.int .u8 (bitC false)))) := Lib.hid (HJ.out.2.1.setCell (p := ⟨g0, y, none⟩) HZ.out _)
            have HGW : Hid (g0 < (wr.setCell ⟨g0, y, none⟩ (.int .u8 (bitC false))).heap.size) := Lib.hid (by simp [World.setCell]; exact HJ.out.2.2)
            generalize bitC (!((L.take k).any (fun s => dom s y) || (decide (y < y) && dom s y))) = cur at a0
            go_wp2_with fail
            go_roundw
            case rel => exact ⟨y + 1, by omega, by go_num, Lib.hid ⟨HW.out, HBW.out, HGW.out⟩⟩
            case measure => simp [intOf]; omega
        · obtain rfl : y = s.size := by omega
          go_wp2_with fail
          go_roundw
          case rel => exact ⟨k + 1, by omega, by go_num, Lib.hid ⟨HJ.out.1.congr (fun z _ => by
            rw [HT.out z]
            by_cases e : z < s.size
            · rw [decide_eq_true e]; simp
            · rw [decide_eq_false e, dom_past (by omega)]; simp), HJ.out.2⟩⟩
          case measure => simp [intOf]; omega
    · obtain rfl : k = L.length := by omega
      have hcv : ∀ c', (convert 44 9 (.slice (some ⟨g0, 0, none⟩) n c')).run Tryd.prog wr = .ok (.string t) wr := fun c' => by
        rw [← H.out]
        refine run_convert_bytes_arg wr 44 5 Tryd.underlying44 Tryd.underlying5 g0 0 n c' (levelL L n) (levelL_len L n) (fun j hj => ?_) 9 Tryd.underlying9
        rw [Nat.zero_add, (HI.out.1 j hj).1]
        unfold lvF levelL
        rw [List.take_length, List.getD_eq_getElem?_getD, List.getElem?_map, List.getElem?_range hj]
        simp only [Option.map_some, Option.getD_some]
        rw [bitD_C]
      go_wp2
      go_ret
      exact ⟨rfl, HI.out.2.1⟩
end Go.Proofs.YtlfhomahbacmpaaDoor

namespace Go.Proofs.YtlfhomahbacmpaaDoor
open Go.RowKit
set_option linter.unusedVariables false

theorem cut_head {s : ByteArray} {k : Nat} (h : k ≤ s.size) (w : World) : (Instr.sliceAt 9 (.string s) none (some (.int .i64 (k : Int))) none).run Tryd.prog w = .ok (.string (s.extract 0 k)) w := by
  have e2 : (k : Int) ≤ (s.size : Int) := by omega
  simp [go_sem, e2]
theorem cut_tail {s : ByteArray} {k : Nat} (h : k ≤ s.size) (w : World) : (Instr.sliceAt 9 (.string s) (some (.int .i64 (k : Int))) none none).run Tryd.prog w = .ok (.string (s.extract k s.size)) w := by
  have e2 : (k : Int) ≤ (s.size : Int) := by omega
  simp [go_sem, e2]
end Go.Proofs.YtlfhomahbacmpaaDoor

namespace Go.Proofs.YtlfhomahbacmpaaDoor
open Go.RowKit
set_option linter.unusedVariables false

def lAt (L : List ByteArray) (i : Int) : ByteArray := L.getD i.toNat emp0
theorem lAt_nat {L : List ByteArray} {m : Nat} (h : m < L.length) : lAt L (m : Int) = L[m] := by
  unfold lAt; rw [Int.toNat_natCast, List.getD_eq_getElem?_getD, List.getElem?_eq_getElem h]; rfl
theorem lAt_mem {L : List ByteArray} {m : Nat} (h : m < L.length) : lAt L (m : Int) ∈ L := by rw [lAt_nat h]; exact List.getElem_mem _
/-- those left behind p places -/
def rcL (L : List ByteArray) (p : Nat) : List Int := raceL L p L.length
theorem rcL_mem {L : List ByteArray} {p : Nat} {i : Int} : i ∈ rcL L p ↔ ∃ m : Nat, i = m ∧ m < L.length ∧ leastB L p (lAt L m) L = true := by
  unfold rcL raceL
  rw [List.mem_map]
  constructor
  · rintro ⟨m, hm, rfl⟩
    rw [List.mem_filter, List.mem_range] at hm
    exact ⟨m, rfl, hm.1, hm.2⟩
  · rintro ⟨m, rfl, h1, h2⟩
    exact ⟨m, List.mem_filter.2 ⟨List.mem_range.2 h1, h2⟩, rfl⟩
theorem rcL_len (L : List ByteArray) (p : Nat) : (rcL L p).length ≤ L.length := raceL_len _ _ _
theorem rcL_zero (L : List ByteArray) : rcL L 0 = (List.range L.length).map fun i : Nat => (i : Int) := by
  unfold rcL raceL
  congr 1
  rw [List.filter_eq_self]
  intro i _
  exact least_zero _ _
theorem rcL_step (L : List ByteArray) (p : Nat) : rcL L (p + 1) = (rcL L p).filter fun i => dom (lAt L i) p || !((rcL L p).any fun u => dom (lAt L u) p) := by
  have e : ((rcL L p).any fun u => dom (lAt L u) p) = L.any fun u => leastB L p u L && dom u p := by
    rw [Bool.eq_iff_iff, List.any_eq_true, List.any_eq_true]
    constructor
    · rintro ⟨i, hi, hd⟩
      obtain ⟨m, rfl, hm, hl⟩ := rcL_mem.1 hi
      exact ⟨_, lAt_mem hm, by rw [hl, hd]; rfl⟩
    · rintro ⟨u, hu, hd⟩
      rw [Bool.and_eq_true] at hd
      obtain ⟨m, hm, rfl⟩ := List.getElem_of_mem hu
      exact ⟨m, rcL_mem.2 ⟨m, rfl, hm, by rw [lAt_nat hm]; exact hd.1⟩, by rw [lAt_nat hm]; exact hd.2⟩
  rw [e]
  unfold rcL raceL
  rw [List.filter_map, List.filter_filter]
  congr 1
  apply List.filter_congr
  intro i hi
  rw [List.mem_range] at hi
  have hm : L.getD i emp0 ∈ L := by have := lAt_mem hi; unfold lAt at this; rwa [Int.toNat_natCast] at this
  show _ = ((dom (lAt L (i : Int)) p || _) && _)
  unfold lAt
  rw [Int.toNat_natCast, least_step hm, Bool.and_comm]
theorem rcL_pass {L : List ByteArray} {p : Nat} (h : ∀ i ∈ rcL L p, ∀ q, p ≤ q → dom (lAt L i) q = false) : ∀ q, p ≤ q → rcL L q = rcL L p := by
  intro q hq
  obtain ⟨d, rfl⟩ : ∃ d, q = p + d := ⟨q - p, by omega⟩
  clear hq
  induction d with
  | zero => rfl
  | succ d ih =>
    rw [← Nat.add_assoc, rcL_step, ih]
    rw [List.filter_eq_self]
    intro i hi
    have e : ((rcL L p).any fun u => dom (lAt L u) (p + d)) = false := by
      rw [List.any_eq_false]; intro u hu; rw [h u hu _ (by omega)]; decide
    rw [e]; simp
theorem rcL_pass_to {L : List ByteArray} {p q : Nat} (hq : p ≤ q) (h : ∀ i ∈ rcL L p, ∀ r, p ≤ r → r < q → dom (lAt L i) r = false) : rcL L q = rcL L p := by
  obtain ⟨d, rfl⟩ : ∃ d, q = p + d := ⟨q - p, by omega⟩
  clear hq
  induction d with
  | zero => rfl
  | succ d ih =>
    rw [← Nat.add_assoc, rcL_step, ih (fun i hi r h1 h2 => h i hi r h1 (by omega))]
    rw [List.filter_eq_self]
    intro i hi
    have e : ((rcL L p).any fun u => dom (lAt L u) (p + d)) = false := by
      rw [List.any_eq_false]; intro u hu; rw [h u hu _ (by omega) (by omega)]; decide
    rw [e]; simp
theorem rcL_turn {L : List ByteArray} {p : Nat} (h : ∃ i ∈ rcL L p, dom (lAt L i) p = true) : rcL L (p + 1) = (rcL L p).filter fun i => dom (lAt L i) p := by
  rw [rcL_step]
  have e : ((rcL L p).any fun u => dom (lAt L u) p) = true := List.any_eq_true.2 h
  rw [e]
  simp

/-- the next place from p on, at which one of R shows 0 -/
def NextP (L : List ByteArray) (R : List Int) (p : Nat) (v : Int) : Prop :=
  (v = -1 ∧ ∀ i ∈ R, ∀ q, p ≤ q → dom (lAt L i) q = false) ∨
  (∃ q : Nat, v = q ∧ p ≤ q ∧ (∃ i ∈ R, dom (lAt L i) q = true) ∧ ∀ i ∈ R, ∀ r, p ≤ r → r < q → dom (lAt L i) r = false)
theorem NextP.nil (L : List ByteArray) (p : Nat) : NextP L [] p (-1) := .inl ⟨rfl, fun i hi => by cases hi⟩
theorem NextP.quiet {L : List ByteArray} {R : List Int} {p : Nat} {v i : Int} (h : NextP L R p v) (hi : ∀ q, p ≤ q → dom (lAt L i) q = false) : NextP L (R ++ [i]) p v := by
  rcases h with ⟨rfl, hn⟩ | ⟨q, rfl, hq, ⟨j, hj, hd⟩, hn⟩
  · refine .inl ⟨rfl, fun j hj r hr => ?_⟩
    rcases List.mem_append.1 hj with hj | hj
    · exact hn j hj r hr
    · simp at hj; subst hj; exact hi r hr
  · refine .inr ⟨q, rfl, hq, ⟨j, List.mem_append_left _ hj, hd⟩, fun j hj r h1 h2 => ?_⟩
    rcases List.mem_append.1 hj with hj | hj
    · exact hn j hj r h1 h2
    · simp at hj; subst hj; exact hi r h1
theorem NextP.later {L : List ByteArray} {R : List Int} {p k : Nat} {v i : Int} (h : NextP L R p v) (hi : ∀ r, p ≤ r → r < p + k → dom (lAt L i) r = false) (h0 : 0 ≤ v) (hv : v ≤ (p : Int) + k) : NextP L (R ++ [i]) p v := by
  rcases h with ⟨rfl, hn⟩ | ⟨q, rfl, hq, ⟨j, hj, hd⟩, hn⟩
  · omega
  · refine .inr ⟨q, rfl, hq, ⟨j, List.mem_append_left _ hj, hd⟩, fun j hj r h1 h2 => ?_⟩
    rcases List.mem_append.1 hj with hj | hj
    · exact hn j hj r h1 h2
    · simp at hj; subst hj; exact hi r h1 (by omega)
theorem NextP.turn {L : List ByteArray} {R : List Int} {p k : Nat} {v i : Int} (h : NextP L R p v) (hd : dom (lAt L i) (p + k) = true) (hi : ∀ r, p ≤ r → r < p + k → dom (lAt L i) r = false) (hv : v < 0 ∨ (p : Int) + k < v) : NextP L (R ++ [i]) p ((p : Int) + k) := by
  refine .inr ⟨p + k, by simp, by omega, ⟨i, by simp, hd⟩, fun j hj r h1 h2 => ?_⟩
  rcases List.mem_append.1 hj with hj | hj
  · rcases h with ⟨rfl, hn⟩ | ⟨q, rfl, hq, _, hn⟩
    · exact hn j hj r h1
    · exact hn j hj r h1 (by omega)
  · simp at hj; subst hj; exact hi r h1 h2
theorem NextP.rng {L : List ByteArray} {R : List Int} {p : Nat} {v : Int} {n : Nat} (h : NextP L R p v) (hn : ∀ i ∈ R, (lAt L i).size ≤ n) : v = -1 ∨ ∃ q : Nat, v = q ∧ p ≤ q ∧ q < n := by
  rcases h with ⟨rfl, _⟩ | ⟨q, rfl, hq, ⟨i, hi, hd⟩, _⟩
  · exact .inl rfl
  · refine .inr ⟨q, rfl, hq, ?_⟩
    have h2 := hn i hi
    apply Classical.byContradiction
    intro hc
    rw [dom_past (by omega)] at hd
    cases hd
/-- nobody shows 0 any more -/
theorem NextP.none {L : List ByteArray} {p n : Nat} (h : NextP L (rcL L p) p (-1)) (hp : p ≤ n) : rcL L n = rcL L p := by
  rcases h with ⟨_, hn⟩ | ⟨q, hq, _⟩
  · exact rcL_pass hn n hp
  · omega
theorem NextP.some {L : List ByteArray} {p q : Nat} (h : NextP L (rcL L p) p (q : Int)) : rcL L (q + 1) = (rcL L p).filter fun i => dom (lAt L i) q := by
  rcases h with ⟨hq, _⟩ | ⟨q', hq, hpq, hex, hn⟩
  · omega
  · obtain rfl : q = q' := by omega
    have e := rcL_pass_to hpq hn
    rw [rcL_turn (by rw [e]; exact hex), e]

/-! ### the first 0 of a text's rest -/
theorem idxL (c : UInt8) : ∀ l : List UInt8, (Lib.indexByte l c = -1 ∧ ∀ j : Nat, l[j]? ≠ some c) ∨ (∃ k : Nat, Lib.indexByte l c = k ∧ l[k]? = some c ∧ ∀ j : Nat, j < k → l[j]? ≠ some c)
  | [] => .inl ⟨rfl, fun j => by simp⟩
  | b :: l => by
    unfold Lib.indexByte
    by_cases hb : (b == c) = true
    · rw [if_pos hb]
      exact .inr ⟨0, rfl, by simpa using hb, fun j hj => by omega⟩
    · rw [if_neg hb]
      have hb' : b ≠ c := by simpa using hb
      rcases idxL c l with ⟨h1, h2⟩ | ⟨k, h1, h2, h3⟩
      · rw [h1]
        refine .inl ⟨rfl, fun j => ?_⟩
        cases j with
        | zero => simpa using hb'
        | succ j => simpa using h2 j
      · rw [h1]
        have e : (((k : Nat) : Int) == -1) = false := by simp
        rw [e]
        refine .inr ⟨k + 1, by simp, by simpa using h2, fun j hj => ?_⟩
        cases j with
        | zero => simpa using hb'
        | succ j => simpa using h3 j (by omega)
theorem dom_list (s : ByteArray) (j : Nat) : dom s j = true ↔ s.data.toList[j]? = some 48 := by
  unfold dom bt
  cases h : s.data.toList[j]? with
  | none => simp
  | some b =>
    simp only [Option.getD_some, beq_iff_eq, Option.some.injEq]
    constructor
    · intro e
      apply UInt8.toNat_inj.1
      have : (48 : UInt8).toNat = 48 := rfl
      rw [this]; omega
    · rintro rfl; rfl
theorem dom_rest {s : ByteArray} {p j : Nat} (hp : p ≤ s.size) : dom (s.extract p s.size) j = dom s (p + j) := by
  by_cases h : p + j < s.size
  · unfold dom; rw [bt_sub _ _ _ _ h (Nat.le_refl _)]
  · rw [dom_past (by rw [sub_size _ _ _ (Nat.le_refl _)]; omega), dom_past (by omega)]
theorem idx_rest {s : ByteArray} {p : Nat} (hp : p ≤ s.size) {v : Int} (hv : Lib.indexByte (s.extract p s.size).data.toList (Int.toNat 48).toUInt8 = v) :
    (v = -1 ∧ ∀ q, p ≤ q → dom s q = false) ∨ (∃ k : Nat, v = k ∧ p + k < s.size ∧ dom s (p + k) = true ∧ ∀ r, p ≤ r → r < p + k → dom s r = false) := by
  have key : ∀ r, p ≤ r → (s.extract p s.size).data.toList[r - p]? ≠ some 48 → dom s r = false := by
    intro r hr h
    cases hd : dom s r
    · rfl
    · have e : p + (r - p) = r := by omega
      rw [← e, ← dom_rest hp] at hd
      exact absurd ((dom_list _ _).1 hd) h
  rcases idxL 48 (s.extract p s.size).data.toList with ⟨h1, h2⟩ | ⟨k, h1, h2, h3⟩
  · exact .inl ⟨by rw [← hv]; exact h1, fun q hq => key q hq (h2 _)⟩
  · have hd : dom s (p + k) = true := by rw [← dom_rest hp]; exact (dom_list _ _).2 h2
    refine .inr ⟨k, by rw [← hv]; exact h1, ?_, hd, fun r hr h => key r hr (h3 _ (by omega))⟩
    apply Classical.byContradiction
    intro hc
    rw [dom_past (by omega)] at hd
    cases hd
end Go.Proofs.YtlfhomahbacmpaaDoor

namespace Go.Proofs.YtlfhomahbacmpaaDoor
open Go.RowKit
set_option linter.unusedVariables false

theorem wp_scope_label {P : Program} {a : Act} {w : World} {Q : Exit → Act → World → Prop} {c rest : Code} (l : Nat) (J : Act → World → Prop) (μ : Act → World → Nat) (hf : findLabel c l = some (.seq .skip rest))
    (pass : ∀ a w, J a w → rest.wp P (Exit.jump l (fun a' w' => J a' w' ∧ μ a' w' < μ a w) Q) a w)
    (first : (∀ a w, J a w → rest.wp P (Exit.jump l J Q) a w) → c.wp P (Exit.jump l J Q) a w) : (Code.scope c).wp P Q a w := by
  refine wp_scope_jumps l J μ hf (first fun a w hJ => wp_mono (pass a w hJ) fun e a' w' h => ?_) fun a w hJ => wp_seq (wp_skip (pass a w hJ))
  cases e with
  | goto l' => exact ⟨h.1, h.2.1⟩
  | normal => exact h
  | exit id => exact h
  | ret => exact h
  | panic ch => exact h
  | outgrown => exact h
end Go.Proofs.YtlfhomahbacmpaaDoor
