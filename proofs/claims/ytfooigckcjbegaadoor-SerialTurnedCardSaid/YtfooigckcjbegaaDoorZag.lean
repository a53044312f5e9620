/- Stuff: contracts of Right, Turn, Stuff, each with what it hands to walk. Stuff: contracts of Stuff with what it hands to walk. Stuff: contract of Unstuff with what it hands to walk. -/
import Derived.Test.YtfooigckcjbegaaDoorZaf
namespace Go.Proofs.YtfooigckcjbegaaDoor
open Go.RowKit
set_option linter.unusedVariables false

/-! ### runes of bits -/
theorem rune_bit {s : ByteArray} {k : Nat} (hk : k < s.size) (hb : isBit (bt s k) = true) : ((Utf8.decode s k).1 : Int) = bt s k ∧ (Utf8.decode s k).2 = 1 := by
  have e := bt_eq s k hk
  have ha : (s[k]'hk).toNat < 128 := by
    rw [isBit_iff] at hb
    omega
  rw [decode_ascii s k hk ha]
  exact ⟨e, rfl⟩
theorem rune_not {s : ByteArray} {k : Nat} (hk : k < s.size) (hb : isBit (bt s k) = false) : isBit ((Utf8.decode s k).1 : Int) = false := by
  have e := bt_eq s k hk
  by_cases ha : (s[k]'hk).toNat < 128
  · rw [decode_ascii s k hk ha]
    rw [← e] at hb
    exact hb
  · have h := (decode_high s k hk (by omega)).1
    unfold isBit
    simp
    omega
theorem bits_step {s : ByteArray} {k : Nat} (hk : k < s.size) (h : bitsB ((byL s).take k) = true) (hb : isBit (bt s k) = true) : bitsB ((byL s).take (k + 1)) = true := by
  rw [byL_take hk, bitsB_app, h]
  simp [bitsB, hb]
theorem bits_not {s : ByteArray} {k : Nat} (hk : k < s.size) (hb : isBit (bt s k) = false) : bitsB (byL s) = false := by
  rw [← List.take_append_drop (k + 1) (byL s), bitsB_app, byL_take hk, bitsB_app]
  simp [bitsB, hb]
theorem bits_all {s : ByteArray} {k : Nat} (hk : ¬ k < s.size) (h : bitsB ((byL s).take k) = true) : bitsB (byL s) = true := by
  rwa [List.take_of_length_le (by rw [byL_len]; omega)] at h
theorem take_all {s : ByteArray} {k : Nat} (hk : ¬ k < s.size) : (byL s).take k = byL s := List.take_of_length_le (by rw [byL_len]; omega)
theorem rcells {x : Int} (hx : isBit x = true) : Lib.runeCells x = [.int .u8 x] := by
  rw [isBit_iff] at hx
  rcases hx with rfl | rfl <;> rfl
theorem bcells {O : List Int} (h : isBy O) : O.map (Value.int .u8) = Lib.byteCells (strOfNums O).data.toList := by
  have e := byL_nums h
  unfold byL at e
  unfold Lib.byteCells
  conv => lhs; rw [← e]
  rw [List.map_map]
  rfl
theorem str_list (s : ByteArray) : (⟨s.data.toList.toArray⟩ : ByteArray) = s := by
  cases s
  simp

/-! ### Right -/
theorem rightC_t {x : Int} (hx : isBit x = true) (w : World) : Calls Tryd.prog 79 #[.int .i32 x] w fun e w' => e = .returned (.bool true) ∧ w = w' := by
  have HX := Lib.hid hx
  clear hx
  go_enter Tryd.func79, Tryd.ntmps79
  go_wp2_with fail
  refine (cother_t rfl HX.out _).mono ?_
  rintro e w1 ⟨rfl, rfl⟩
  go_wp2
  go_ret
  exact ⟨rfl, rfl⟩
theorem rightC_f {x : Int} (hx : isBit x = false) (w : World) : Calls Tryd.prog 79 #[.int .i32 x] w fun e w' => e = .returned (.bool false) ∧ w = w' := by
  have HX := Lib.hid hx
  clear hx
  go_enter Tryd.func79, Tryd.ntmps79
  go_wp2_with fail
  refine (cother_f HX.out _).mono ?_
  rintro e w1 ⟨rfl, rfl⟩
  go_wp2
  go_ret
  exact ⟨rfl, rfl⟩
def rInv (s : ByteArray) (w : World) (k : Nat) (w1 : World) : Prop := bitsB ((byL s).take k) = true ∧ Below w.heap.size w w1
def rFin (s : ByteArray) (w : World) (k : Nat) (w1 : World) : Prop := bitsB (byL s) = false ∧ Below w.heap.size w w1
theorem below_iter (w : World) (s : ByteArray) : Below w.heap.size w (w.iter s 0) := (Below.refl _ w).alloc (Nat.le_refl _) _
theorem right_walk (s : ByteArray) (w : World) : Calls Tryd.prog 57 #[.string s, .func (.func 79) #[] #[]] w (WalkPost s (rInv s w) (rFin s w)) := by
  refine walk_v 79 #[] (enters_of Tryd.func79 (by kernel_rfl) rfl) _ _ w ⟨rfl, below_iter w s⟩ (fun pos q w1 h _ => ⟨h.1, Lib.below_iterAt h.2 (Nat.le_refl _) s q⟩) ?_
  intro pos w1 hp h
  cases hb : isBit (bt s pos)
  · refine (rightC_f (rune_not hp hb) w1).mono ?_
    rintro e w2 ⟨rfl, rfl⟩
    exact ⟨KeepsI.refl _ _, .inr ⟨rfl, bits_not hp hb, h.2⟩⟩
  · obtain ⟨h1, h2⟩ := rune_bit hp hb
    rw [h1, h2]
    refine (rightC_t hb w1).mono ?_
    rintro e w2 ⟨rfl, rfl⟩
    exact ⟨KeepsI.refl _ _, .inl ⟨rfl, bits_step hp h.1 hb, h.2⟩⟩
theorem cright_v {s : ByteArray} {q : Bool} (h : bitsB (byL s) = q) (w : World) :
    Calls Tryd.prog 76 #[.string s] w fun e w' => e = .returned (.bool q) ∧ Below w.heap.size w w' := by
  have H := Lib.hid h
  clear h
  have hmf : ∀ (fn : Fn) (first cap : Array Value) (w : World), (Instr.makeFunc fn first cap).run Tryd.prog w = .ok (.func fn first cap) w := fun _ _ _ _ => rfl
  go_enter Tryd.func76, Tryd.ntmps76
  go_wp2_with fail
  refine (right_walk s w).mono ?_
  rintro e w1 (⟨rfl, pos, hp, hI⟩ | ⟨pos, hp, rfl, hF⟩)
  · go_wp2
    go_ret
    exact ⟨fret_bool (by rw [← H.out]; exact (bits_all hp hI.1).symm), hI.2⟩
  · have hne : ((pos : Int) == -1) = false := by simp
    go_wp2
    go_ret
    exact ⟨fret_bool (by rw [← H.out]; exact hF.1.symm), hF.2⟩

/-! ### Turn -/
structure OutSt (B b : Nat) (O : List Int) (w0 w : World) : Prop where
  below : Below B w0 w
  bld : Lib.IsBuilderF 56 5 B b (O.map (Value.int .u8)) w
  le : B ≤ w0.heap.size
theorem OutSt.iterAt {B b i p q : Nat} {O : List Int} {w0 w : World} {s : ByteArray} (h : OutSt B b O w0 w) (hi : w.heap[i]? = some (.stringIter s p)) (hB : B ≤ i) : OutSt B b O w0 (w.iterAt i s q) :=
  ⟨Lib.below_iterAt h.below hB s q, h.bld.iterAt hi q, h.le⟩
theorem OutSt.hB {B b : Nat} {O : List Int} {w0 w : World} (h : OutSt B b O w0 w) : B ≤ w.heap.size := Nat.le_trans h.le h.below.size
theorem bldF_below {T e : TypeId} {B b : Nat} {bs : List Value} {w w' : World} (h : Lib.IsBuilderF T e B b bs w) (hb : Below w.heap.size w w') : Lib.IsBuilderF T e B b bs w' := by
  have key : ∀ {k : Nat} {o : Obj}, w.heap[k]? = some o → w'.heap[k]? = some o := fun hk => (hb.block _ (Array.getElem?_eq_some_iff.1 hk).1).trans hk
  have one : ∀ p, Lib.BuilderAtF T e B b p bs w → Lib.BuilderAtF T e B b p bs w' := by
    rintro p ⟨hB, v, hb, hown, hne⟩
    refine ⟨hB, v, key hb, ⟨hown.1, ?_⟩, hne⟩
    rcases hown.2 with hn | ⟨g, cap, cur, fz, hv, hbg, hg, rest⟩
    · exact .inl hn
    · exact .inr ⟨g, cap, cur, fz, hv, hbg, key hg, rest⟩
  exact h.elim (fun x => .inl (one _ x)) (fun x => .inr (one _ x))
theorem OutSt.later {B b : Nat} {O : List Int} {w0 w w1 : World} (h : OutSt B b O w0 w) (hb : Below w.heap.size w w1) : OutSt B b O w0 w1 := ⟨h.below.trans (hb.mono h.hB), bldF_below h.bld hb, h.le⟩

def tInv (s : ByteArray) (B b : Nat) (w0 : World) (k : Nat) (w1 : World) : Prop := k ≤ s.size ∧ bitsB ((byL s).take k) = true ∧ OutSt B b (((byL s).take k).map oth) w0 w1
def tFin (s : ByteArray) (B : Nat) (w0 : World) (k : Nat) (w1 : World) : Prop := bitsB (byL s) = false ∧ Below B w0 w1
def turnS (L : List Int) : ByteArray := if bitsB L then strOfNums (L.map oth) else ByteArray.mk #[]
theorem bits_map_by {L : List Int} (h : bitsB L = true) : isBy (L.map oth) := isBy_bits (turn_bits h)
/-! ### Stuff -/
structure PutSt (B b c l m : Nat) (p : Int × Nat) (O : List Int) (w0 w : World) : Prop where
  out : OutSt B b O w0 w
  cnt : Box w c (cntV l m) 72
  last : Box w l (.int .i32 p.1) 21
  num : Box w m (.int .i64 p.2) 3
  hl : B ≤ l
  hm : B ≤ m
theorem PutSt.iterAt {B b c l m i q r : Nat} {p : Int × Nat} {O : List Int} {w0 w : World} {s : ByteArray} (h : PutSt B b c l m p O w0 w) (hi : w.heap[i]? = some (.stringIter s q)) (hB : B ≤ i) : PutSt B b c l m p O w0 (w.iterAt i s r) :=
  ⟨h.out.iterAt hi hB, h.cnt.iterAt hi, h.last.iterAt hi, h.num.iterAt hi, h.hl, h.hm⟩
theorem Box.alloc {w : World} {k : Nat} {v : Value} {t : TypeId} (h : Box w k v t) (o : Obj) : Box (w.alloc o) k v t := h.below (((Below.refl w.heap.size w)).alloc (Nat.le_refl _) o) h.lt
theorem OutSt.alloc {B b : Nat} {O : List Int} {w0 w : World} (h : OutSt B b O w0 w) (o : Obj) : OutSt B b O w0 (w.alloc o) := ⟨h.below.alloc h.hB _, h.bld.alloc _, h.le⟩
theorem PutSt.alloc {B b c l m : Nat} {p : Int × Nat} {O : List Int} {w0 w : World} (h : PutSt B b c l m p O w0 w) (o : Obj) : PutSt B b c l m p O w0 (w.alloc o) :=
  ⟨h.out.alloc o, h.cnt.alloc o, h.last.alloc o, h.num.alloc o, h.hl, h.hm⟩
theorem PutSt.wrote {B b c l m : Nat} {p : Int × Nat} {O O' : List Int} {w0 w w' : World} (h : PutSt B b c l m p O w0 w) (hI : Lib.BuilderAtF 56 5 B b (.pointer (some ⟨b, 0, none⟩)) (O'.map (Value.int .u8)) w')
    (hb : Below B w w') (hk : Lib.OthersKept 5 (some b) w w') : PutSt B b c l m p O' w0 w' :=
  ⟨⟨h.out.below.trans hb, .inr hI, h.out.le⟩, h.cnt.kept hk (h.cnt.ne_bld h.out.bld) (by decide), h.last.kept hk (h.last.ne_bld h.out.bld) (by decide), h.num.kept hk (h.num.ne_bld h.out.bld) (by decide), h.hl, h.hm⟩
theorem PutSt.counted {B b c l m : Nat} {p q : Int × Nat} {O : List Int} {w0 w w' : World} (h : PutSt B b c l m p O w0 w) (hl : Box w' l (.int .i32 q.1) 21) (hm : Box w' m (.int .i64 q.2) 3) (hu : Upd l m w w') : PutSt B b c l m q O w0 w' :=
  ⟨⟨hu.below h.out.below h.hl h.hm, hu.builder h.out.bld h.last h.num (by decide) (by decide) (by decide) (by decide), h.out.le⟩, hu.box h.cnt (h.cnt.ne h.last (by decide)) (h.cnt.ne h.num (by decide)), hl, hm, h.hl, h.hm⟩

end Go.Proofs.YtfooigckcjbegaaDoor

namespace Go.Proofs.YtfooigckcjbegaaDoor
open Go.RowKit
set_option linter.unusedVariables false

set_option maxHeartbeats 2000000 in
theorem putC_5 {B b c l m k n : Nat} {a x : Int} {O : List Int} {w0 w : World} {Q : World → Prop} (hx : isBit x = true) (hp : n ≤ 4) (hO : O.length ≤ 10000000) (hs : nxt (a, n) x = (x, 5)) (h : PutSt B b c l m (a, n) O w0 w) :
    Calls Tryd.prog 58 #[.int .i32 x, .pointer (some ⟨b, 0, none⟩), .pointer (some ⟨c, 0, none⟩)] w (StepPost k w (PutSt B b c l m (oth x, 1) (O ++ [x] ++ [oth x]) w0) Q) := by
  have HX := Lib.hid hx
  have HO := Lib.hid hO
  have H := Lib.hid h
  have HS := Lib.hid hs
  have HP := Lib.hid hp
  clear hx hO h hs hp
  have HX1 : Hid (-2147483648 ≤ x ∧ x ≤ 2147483647) := Lib.hid (by have := (isBit_iff x).1 HX.out; omega)
  have HY1 : Hid (-2147483648 ≤ oth x ∧ oth x ≤ 2147483647) := Lib.hid (by have := (isBit_iff x).1 HX.out; unfold oth; omega)
  go_enter Tryd.func58, Tryd.ntmps58
  go_wp2_with fail
  refine (cother_t rfl HX.out _).mono ?_
  rintro e w1 ⟨rfl, rfl⟩
  go_wp2_with fail
  refine (dwrune_k B b _ x HX1.out.1 HX1.out.2 _ H.out.out.bld (by have := HO.out; simp; omega) H.out.out.hB).mono ?_
  rintro e w2 ⟨rfl, hI, hb, hk⟩
  rw [rcells HX.out] at hI
  have K2 : Hid (KeepsI k w w2) := Lib.hid (bld_keepsI H.out.out.bld hk k)
  have H2 : Hid (PutSt B b c l m (a, n) (O ++ [x]) w0 w2) := Lib.hid (H.out.wrote (by simpa using hI) hb hk)
  clear hI hb hk H
  have c2 : w2.cell? ⟨c, 0, none⟩ = some (.func (.func 69) #[] #[.pointer (some ⟨l, 0, none⟩), .pointer (some ⟨m, 0, none⟩)]) := H2.out.cnt.cell
  go_wp2_with fail
  refine (count_v HS.out (by have := HP.out; omega) _ H2.out.last H2.out.num).mono ?_
  rintro e w3 ⟨rfl, hl, hm, hu⟩
  have K3 : Hid (KeepsI k w w3) := Lib.hid (K2.out.trans (hu.keepsI H2.out.last H2.out.num k))
  have H3 : Hid (PutSt B b c l m (x, 5) (O ++ [x]) w0 w3) := Lib.hid (H2.out.counted hl hm hu)
  clear hl hm hu H2 K2 c2
  go_wp2_with fail
  refine (dwrune_k B b _ (oth x) HY1.out.1 HY1.out.2 _ H3.out.out.bld (by have := HO.out; simp; omega) H3.out.out.hB).mono ?_
  rintro e w4 ⟨rfl, hI, hb, hk⟩
  rw [rcells (oth_bit HX.out)] at hI
  have K4 : Hid (KeepsI k w w4) := Lib.hid (K3.out.trans (bld_keepsI H3.out.out.bld hk k))
  have H4 : Hid (PutSt B b c l m (x, 5) (O ++ [x] ++ [oth x]) w0 w4) := Lib.hid (H3.out.wrote (by simpa using hI) hb hk)
  clear hI hb hk H3 K3
  have c4 : w4.cell? ⟨c, 0, none⟩ = some (.func (.func 69) #[] #[.pointer (some ⟨l, 0, none⟩), .pointer (some ⟨m, 0, none⟩)]) := H4.out.cnt.cell
  go_wp2_with fail
  refine (count_v (nxt_oth 5 HX.out) (by omega) _ H4.out.last H4.out.num).mono ?_
  rintro e w5 ⟨rfl, hl, hm, hu⟩
  have K5 : Hid (KeepsI k w w5) := Lib.hid (K4.out.trans (hu.keepsI H4.out.last H4.out.num k))
  have H5 : Hid (PutSt B b c l m (oth x, 1) (O ++ [x] ++ [oth x]) w0 w5) := Lib.hid (H4.out.counted hl hm hu)
  clear hl hm hu H4 K4 c4
  go_wp2
  go_ret
  exact ⟨K5.out, .inl ⟨rfl, H5.out⟩⟩

set_option maxHeartbeats 2000000 in
theorem putC_t {B b c l m k n : Nat} {a x : Int} {p : Int × Nat} {O : List Int} {w0 w : World} {Q : World → Prop} (hx : isBit x = true) (hp : n ≤ 4) (hO : O.length ≤ 10000000) (hs : nxt (a, n) x = p) (h5 : p.2 ≠ 5) (h : PutSt B b c l m (a, n) O w0 w) :
    Calls Tryd.prog 58 #[.int .i32 x, .pointer (some ⟨b, 0, none⟩), .pointer (some ⟨c, 0, none⟩)] w (StepPost k w (PutSt B b c l m p (O ++ [x]) w0) Q) := by
  have HX := Lib.hid hx
  have HO := Lib.hid hO
  have H := Lib.hid h
  have HS := Lib.hid hs
  have HP := Lib.hid hp
  have hq : ((p.2 : Int) == 5) = false := by simp; omega
  clear hx hO h hs hp h5
  have HX1 : Hid (-2147483648 ≤ x ∧ x ≤ 2147483647) := Lib.hid (by have := (isBit_iff x).1 HX.out; omega)
  go_enter Tryd.func58, Tryd.ntmps58
  go_wp2_with fail
  refine (cother_t rfl HX.out _).mono ?_
  rintro e w1 ⟨rfl, rfl⟩
  go_wp2_with fail
  refine (dwrune_k B b _ x HX1.out.1 HX1.out.2 _ H.out.out.bld (by have := HO.out; simp; omega) H.out.out.hB).mono ?_
  rintro e w2 ⟨rfl, hI, hb, hk⟩
  rw [rcells HX.out] at hI
  have K2 : Hid (KeepsI k w w2) := Lib.hid (bld_keepsI H.out.out.bld hk k)
  have H2 : Hid (PutSt B b c l m (a, n) (O ++ [x]) w0 w2) := Lib.hid (H.out.wrote (by simpa using hI) hb hk)
  clear hI hb hk H
  have c2 : w2.cell? ⟨c, 0, none⟩ = some (.func (.func 69) #[] #[.pointer (some ⟨l, 0, none⟩), .pointer (some ⟨m, 0, none⟩)]) := H2.out.cnt.cell
  go_wp2_with fail
  refine (count_v HS.out (by have := HP.out; omega) _ H2.out.last H2.out.num).mono ?_
  rintro e w3 ⟨rfl, hl, hm, hu⟩
  have K3 : Hid (KeepsI k w w3) := Lib.hid (K2.out.trans (hu.keepsI H2.out.last H2.out.num k))
  have H3 : Hid (PutSt B b c l m p (O ++ [x]) w0 w3) := Lib.hid (H2.out.counted hl hm hu)
  clear hl hm hu H2 K2 c2
  go_wp2
  go_ret
  exact ⟨K3.out, .inl ⟨rfl, H3.out⟩⟩

set_option maxHeartbeats 2000000 in
theorem putC_f {B b c l m k n : Nat} {a x : Int} {O : List Int} {w0 w : World} {Q : World → Prop} (hx : isBit x = false) (hx0 : 0 ≤ x) (hx1 : x ≤ 2147483647) (hp : n ≤ 4) (hO : O.length ≤ 10000000) (h : PutSt B b c l m (a, n) O w0 w) :
    Calls Tryd.prog 58 #[.int .i32 x, .pointer (some ⟨b, 0, none⟩), .pointer (some ⟨c, 0, none⟩)] w (StepPost k w Q (fun w' => Below B w0 w')) := by
  have HX := Lib.hid hx
  have HO := Lib.hid hO
  have H := Lib.hid h
  have HP := Lib.hid hp
  have HX1 : Hid (-2147483648 ≤ x ∧ x ≤ 2147483647) := Lib.hid (by omega)
  have HR := Lib.hid (Lib.runeCells_le x)
  clear hx hO h hp hx0 hx1
  go_enter Tryd.func58, Tryd.ntmps58
  go_wp2_with fail
  refine (cother_f HX.out _).mono ?_
  rintro e w1 ⟨rfl, rfl⟩
  go_wp2_with fail
  refine (dwrune_k B b _ x HX1.out.1 HX1.out.2 _ H.out.out.bld (by have := HO.out; simp; omega) H.out.out.hB).mono ?_
  rintro e w2 ⟨rfl, hI, hb, hk⟩
  have K2 : Hid (KeepsI k w w2) := Lib.hid (bld_keepsI H.out.out.bld hk k)
  have HB2 : Hid (Below B w0 w2) := Lib.hid (H.out.out.below.trans hb)
  have HI2 : Hid (Lib.IsBuilderF 56 5 B b (O.map (Value.int .u8) ++ Lib.runeCells x) w2) := Lib.hid (.inr hI)
  have HC2 : Hid (Box w2 c (cntV l m) 72) := Lib.hid (H.out.cnt.kept hk (H.out.cnt.ne_bld H.out.out.bld) (by decide))
  have HL2 : Hid (Box w2 l (.int .i32 a) 21) := Lib.hid (H.out.last.kept hk (H.out.last.ne_bld H.out.out.bld) (by decide))
  have HM2 : Hid (Box w2 m (.int .i64 n) 3) := Lib.hid (H.out.num.kept hk (H.out.num.ne_bld H.out.out.bld) (by decide))
  have c2 : w2.cell? ⟨c, 0, none⟩ = some (.func (.func 69) #[] #[.pointer (some ⟨l, 0, none⟩), .pointer (some ⟨m, 0, none⟩)]) := HC2.out.cell
  clear hI hb hk
  obtain ⟨p, hS⟩ : ∃ p, nxt (a, n) x = p := ⟨_, rfl⟩
  have HS := Lib.hid hS
  have HPL := Lib.hid (show p.2 ≤ 5 by have := nxt_le (a, n) x; have := HP.out; rw [hS] at *; simp only at *; omega)
  clear hS
  go_wp2_with fail
  refine (count_v HS.out (by have := HP.out; omega) _ HL2.out HM2.out).mono ?_
  rintro e w3 ⟨rfl, hl, hm, hu⟩
  have K3 : Hid (KeepsI k w w3) := Lib.hid (K2.out.trans (hu.keepsI HL2.out HM2.out k))
  have HB3 : Hid (Below B w0 w3) := Lib.hid (hu.below HB2.out H.out.hl H.out.hm)
  have HI3 : Hid (Lib.IsBuilderF 56 5 B b (O.map (Value.int .u8) ++ Lib.runeCells x) w3) := Lib.hid (hu.builder HI2.out HL2.out HM2.out (by decide) (by decide) (by decide) (by decide))
  have HC3 : Hid (Box w3 c (cntV l m) 72) := Lib.hid (hu.box HC2.out (HC2.out.ne HL2.out (by decide)) (HC2.out.ne HM2.out (by decide)))
  have HL3 := Lib.hid hl
  have HM3 := Lib.hid hm
  have HZ : Hid (B ≤ w3.heap.size) := Lib.hid (Nat.le_trans H.out.out.le HB3.out.size)
  clear hl hm hu c2 K2 HB2 HI2 HC2 HL2 HM2
  by_cases h5 : p.2 = 5
  · have hq : ((p.2 : Int) == 5) = true := by rw [h5]; rfl
    clear h5
    go_wp2_with fail
    refine (dwrune_k B b _ 0 (by decide) (by decide) _ HI3.out (by have := HO.out; have := HR.out; simp; omega) HZ.out).mono ?_
    rintro e w4 ⟨rfl, hI, hb, hk⟩
    have K4 : Hid (KeepsI k w w4) := Lib.hid (K3.out.trans (bld_keepsI HI3.out hk k))
    have HB4 : Hid (Below B w0 w4) := Lib.hid (HB3.out.trans hb)
    have HC4 : Hid (Box w4 c (cntV l m) 72) := Lib.hid (HC3.out.kept hk (HC3.out.ne_bld HI3.out) (by decide))
    have HL4 := Lib.hid (HL3.out.kept hk (HL3.out.ne_bld HI3.out) (by decide))
    have HM4 := Lib.hid (HM3.out.kept hk (HM3.out.ne_bld HI3.out) (by decide))
    have c4 : w4.cell? ⟨c, 0, none⟩ = some (.func (.func 69) #[] #[.pointer (some ⟨l, 0, none⟩), .pointer (some ⟨m, 0, none⟩)]) := HC4.out.cell
    clear hI hb hk
    go_wp2_with fail
    refine (count_v rfl (by have := HPL.out; omega) _ HL4.out HM4.out).mono ?_
    rintro e w5 ⟨rfl, hl, hm, hu⟩
    have K5 : Hid (KeepsI k w w5) := Lib.hid (K4.out.trans (hu.keepsI HL4.out HM4.out k))
    have HB5 : Hid (Below B w0 w5) := Lib.hid (hu.below HB4.out H.out.hl H.out.hm)
    clear hl hm hu
    go_wp2
    go_ret
    exact ⟨K5.out, .inr ⟨rfl, HB5.out⟩⟩
  · have hq : ((p.2 : Int) == 5) = false := by simp; omega
    clear h5
    go_wp2
    go_ret
    exact ⟨K3.out, .inr ⟨rfl, HB3.out⟩⟩

theorem rune_hi (s : ByteArray) (k : Nat) : (0 : Int) ≤ ((Utf8.decode s k).1 : Int) ∧ ((Utf8.decode s k).1 : Int) ≤ 2147483647 := by
  have := decode_le s k
  omega
theorem stS_one (p : Int × Nat) (x : Int) : stS p [x] = if (nxt p x).2 = 5 then (oth x, 1) else nxt p x := by
  show (if (nxt p x).2 = 5 then stS (oth x, 1) [] else stS (nxt p x) []) = _
  split <;> rfl
def pInv (s : ByteArray) (B b c l m : Nat) (w0 : World) (k : Nat) (w1 : World) : Prop := k ≤ s.size ∧ bitsB ((byL s).take k) = true ∧ PutSt B b c l m (stS (0, 0) ((byL s).take k)) (stuffL ((byL s).take k)) w0 w1
theorem put_walk {s : ByteArray} {B b c l m : Nat} {w0 w : World} (hs : s.size ≤ 1000000) (h : PutSt B b c l m (0, 0) [] w0 w) :
    Calls Tryd.prog 57 #[.string s, .func (.func 58) #[] #[.pointer (some ⟨b, 0, none⟩), .pointer (some ⟨c, 0, none⟩)]] w (WalkPost s (pInv s B b c l m w0) (tFin s B w0)) := by
  refine walk_v 58 #[.pointer (some ⟨b, 0, none⟩), .pointer (some ⟨c, 0, none⟩)] (enters_of Tryd.func58 (by kernel_rfl) rfl) _ _ w ⟨Nat.zero_le _, rfl, h.alloc _⟩ (fun pos q w1 h1 hi => ⟨h1.1, h1.2.1, h1.2.2.iterAt hi h.out.hB⟩) ?_
  intro pos w1 hp h1
  have hle := stS_le ((byL s).take pos) (0, 0) (by decide)
  have hlen : (stuffL ((byL s).take pos)).length ≤ 10000000 := by
    have := (stuff_len ((byL s).take pos)).1
    rw [List.length_take] at this
    omega
  have h2 := h1.2.2
  obtain ⟨p, hp0⟩ : ∃ p, stS (0, 0) ((byL s).take pos) = p := ⟨_, rfl⟩
  rw [hp0] at hle h2
  obtain ⟨a, n⟩ := p
  cases hb : isBit (bt s pos)
  · exact (putC_f (rune_not hp hb) (rune_hi s pos).1 (rune_hi s pos).2 hle hlen h2).mono fun e w2 ⟨hk, hh⟩ => ⟨hk, hh.imp id fun ⟨he, hw⟩ => ⟨he, bits_not hp hb, hw⟩⟩
  · obtain ⟨e1, e2⟩ := rune_bit hp hb
    rw [e1, e2]
    have hst : stS (0, 0) ((byL s).take (pos + 1)) = if (nxt (a, n) (bt s pos)).2 = 5 then (oth (bt s pos), 1) else nxt (a, n) (bt s pos) := by rw [byL_take hp, stS_app, hp0, stS_one]
    have hso : stuffL ((byL s).take (pos + 1)) = stuffL ((byL s).take pos) ++ (if (nxt (a, n) (bt s pos)).2 = 5 then [bt s pos, oth (bt s pos)] else [bt s pos]) := by rw [byL_take hp, stuffL_snoc, hp0]
    by_cases h5 : (nxt (a, n) (bt s pos)).2 = 5
    · rw [if_pos h5] at hst hso
      refine (putC_5 hb hle hlen (Prod.ext rfl h5) h2).mono fun e w2 ⟨hk, hh⟩ => ⟨hk, hh.imp (fun ⟨he, hw⟩ => ⟨he, by omega, bits_step hp h1.2.1 hb, ?_⟩) id⟩
      rw [hst, hso]
      simpa using hw
    · rw [if_neg h5] at hst hso
      refine (putC_t hb hle hlen rfl h5 h2).mono fun e w2 ⟨hk, hh⟩ => ⟨hk, hh.imp (fun ⟨he, hw⟩ => ⟨he, by omega, bits_step hp h1.2.1 hb, ?_⟩) id⟩
      rw [hst, hso]
      exact hw

theorem stuffS_t {L : List Int} (h : bitsB L = true) : strOfNums (stuffL L) = stuffS L := by unfold stuffS; rw [if_pos h]
theorem stuffS_f {L : List Int} (h : bitsB L = false) : ByteArray.mk #[] = stuffS L := by unfold stuffS; rw [if_neg (by rw [h]; decide)]
theorem Box.made0 (w : World) (v : Value) (t : TypeId) : Box (w.alloc (.cells #[v] t)) w.heap.size v t := Box.made w v t rfl
theorem putSt_made {w w1 : World} {o : Obj} (HO : OutSt w.heap.size w.heap.size [] w (w.alloc o)) (hl : Box w1 (w.alloc o).heap.size (.int .i32 0) 21) (hm : Box w1 ((w.alloc o).heap.size + 1) (.int .i64 0) 3)
    (hb : Below (w.alloc o).heap.size (w.alloc o) w1) : PutSt w.heap.size w.heap.size w1.heap.size (w.heap.size + 1) (w.heap.size + 1 + 1) (0, 0) [] w (w1.alloc (.cells #[cntV (w.heap.size + 1) (w.heap.size + 1 + 1)] 72)) := by
  simp only [World.size_alloc] at hl hm
  exact ⟨(HO.later hb).alloc _, Box.made0 _ _ _, hl.alloc _, hm.alloc _, by omega, by omega⟩
set_option maxHeartbeats 1000000 in
theorem cstuff_v {s t : ByteArray} (h : stuffS (byL s) = t) (hs : s.size ≤ 1000000) (w : World) :
    Calls Tryd.prog 39 #[.string s] w fun e w' => e = .returned (.string t) ∧ Below w.heap.size w w' := by
  have H := Lib.hid h
  have HS := Lib.hid hs
  clear h hs
  have hmf : ∀ (fn : Fn) (first cap : Array Value) (w : World), (Instr.makeFunc fn first cap).run Tryd.prog w = .ok (.func fn first cap) w := fun _ _ _ _ => rfl
  have HO : Hid (OutSt w.heap.size w.heap.size [] w (w.alloc (.cells #[.pointer none, .slice none 0 0] 56))) := Lib.hid ⟨(Below.refl _ w).alloc (Nat.le_refl _) _, .of (Lib.fresh_isBuilder _ _ w), Nat.le_refl _⟩
  go_enter Tryd.func39, Tryd.ntmps39
  go_wp2_with fail
  refine (runs_any _).mono ?_
  rintro e w1 ⟨rfl, hl, hm, hb, hz⟩
  have HP : Hid (PutSt w.heap.size w.heap.size w1.heap.size (w.heap.size + 1) (w.heap.size + 1 + 1) (0, 0) [] w (w1.alloc (.cells #[cntV (w.heap.size + 1) (w.heap.size + 1 + 1)] 72))) := Lib.hid (putSt_made HO.out hl hm hb)
  clear hl hm hb hz
  unfold cntV at HP ⊢
  go_wp2_with fail
  refine (put_walk HS.out HP.out).mono ?_
  rintro e w2 (⟨rfl, pos, hp, hI⟩ | ⟨pos, hp, rfl, hF⟩)
  · have HB : Hid (bitsB (byL s) = true) := Lib.hid (bits_all hp hI.2.1)
    have HI := Lib.hid hI.2.2
    have HT := Lib.hid (take_all hp)
    clear hI hp
    rw [HT.out] at HI
    have HBL := Lib.hid (bcells (isBy_bits (stuffL_bits HB.out)))
    have HL : Hid (Lib.IsBuilderF 56 5 w.heap.size w.heap.size (Lib.byteCells (strOfNums (stuffL (byL s))).data.toList) w2) := Lib.hid (by rw [← HBL.out]; exact HI.out.out.bld)
    go_wp2_with fail
    refine (dstring_k _ _ _ _ HL.out HI.out.out.hB).mono ?_
    rintro e w3 ⟨rfl, _, hb, _⟩
    rw [str_list]
    go_wp2
    go_ret
    exact ⟨fret_str (by rw [← H.out]; exact stuffS_t HB.out), HI.out.out.below.trans hb⟩
  · have hne : ((pos : Int) == -1) = false := by simp
    go_wp2
    go_ret
    exact ⟨fret_str (by rw [← H.out]; exact stuffS_f hF.1), hF.2⟩

end Go.Proofs.YtfooigckcjbegaaDoor

namespace Go.Proofs.YtfooigckcjbegaaDoor
open Go.RowKit
set_option linter.unusedVariables false

structure UnSt (B b c l m g : Nat) (p : Int × Nat) (q : Bool) (O : List Int) (w0 w : World) : Prop where
  put : PutSt B b c l m p O w0 w
  ful : Box w g (.bool q) 4
  hg : B ≤ g
theorem PutSt.setB {B b c l m g : Nat} {p : Int × Nat} {O : List Int} {w0 w : World} {q : Bool} (h : PutSt B b c l m p O w0 w) (hf : Box w g (.bool q) 4) (hg : B ≤ g) (r : Bool) : PutSt B b c l m p O w0 (w.setCell ⟨g, 0, none⟩ (.bool r)) := by
  have hu := Upd.setL g g w (.bool r)
  have e1 := h.cnt.ne hf (by decide)
  have e2 := h.last.ne hf (by decide)
  have e3 := h.num.ne hf (by decide)
  exact ⟨⟨hu.below h.out.below hg hg, hu.builder h.out.bld hf hf (by decide) (by decide) (by decide) (by decide), h.out.le⟩, h.cnt.other e1 _, h.last.other e2 _, h.num.other e3 _, h.hl, h.hm⟩
theorem UnSt.stored {B b c l m g : Nat} {p : Int × Nat} {O : List Int} {w0 w : World} {q : Bool} (h : UnSt B b c l m g p q O w0 w) (r : Bool) : UnSt B b c l m g p r O w0 (w.setCell ⟨g, 0, none⟩ (.bool r)) :=
  ⟨h.put.setB h.ful h.hg r, h.ful.set _, h.hg⟩
theorem UnSt.counted {B b c l m g : Nat} {p q : Int × Nat} {O : List Int} {w0 w w' : World} {f : Bool} (h : UnSt B b c l m g p f O w0 w) (hl : Box w' l (.int .i32 q.1) 21) (hm : Box w' m (.int .i64 q.2) 3) (hu : Upd l m w w') : UnSt B b c l m g q f O w0 w' :=
  ⟨h.put.counted hl hm hu, hu.box h.ful (h.ful.ne h.put.last (by decide)) (h.ful.ne h.put.num (by decide)), h.hg⟩
theorem UnSt.wrote {B b c l m g : Nat} {p : Int × Nat} {O O' : List Int} {w0 w w' : World} {f : Bool} (h : UnSt B b c l m g p f O w0 w) (hI : Lib.BuilderAtF 56 5 B b (.pointer (some ⟨b, 0, none⟩)) (O'.map (Value.int .u8)) w')
    (hb : Below B w w') (hk : Lib.OthersKept 5 (some b) w w') : UnSt B b c l m g p f O' w0 w' :=
  ⟨h.put.wrote hI hb hk, h.ful.kept hk (h.ful.ne_bld h.put.out.bld) (by decide), h.hg⟩
theorem UnSt.alloc {B b c l m g : Nat} {p : Int × Nat} {O : List Int} {w0 w : World} {f : Bool} (h : UnSt B b c l m g p f O w0 w) (o : Obj) : UnSt B b c l m g p f O w0 (w.alloc o) := ⟨h.put.alloc o, h.ful.alloc o, h.hg⟩
theorem UnSt.iterAt {B b c l m g i q r : Nat} {p : Int × Nat} {O : List Int} {w0 w : World} {f : Bool} {s : ByteArray} (h : UnSt B b c l m g p f O w0 w) (hi : w.heap[i]? = some (.stringIter s q)) (hB : B ≤ i) : UnSt B b c l m g p f O w0 (w.iterAt i s r) :=
  ⟨h.put.iterAt hi hB, h.ful.iterAt hi, h.hg⟩
theorem setB_keepsI {w : World} {g : Nat} {v : Value} {t : TypeId} (h : Box w g v t) (u : Value) (k : Nat) : KeepsI k w (w.setCell ⟨g, 0, none⟩ u) := (Upd.setL g g w u).keepsI h h k

/-- what the last part does: count, store whether the run is full -/
theorem count_un {B b c l m g k n : Nat} {a x : Int} {p : Int × Nat} {O : List Int} {w0 w : World} {f : Bool} (hp : n ≤ 1000000) (hs : nxt (a, n) x = p) (h : UnSt B b c l m g (a, n) f O w0 w) :
    Calls Tryd.prog 69 #[.int .i32 x, .pointer (some ⟨l, 0, none⟩), .pointer (some ⟨m, 0, none⟩)] w fun e w2 => e = .returned (.int .i64 p.2) ∧ UnSt B b c l m g p f O w0 w2 ∧ KeepsI k w w2 := by
  refine (count_v hs hp w h.put.last h.put.num).mono ?_
  rintro e w2 ⟨he, hl, hm, hu⟩
  exact ⟨he, h.counted hl hm hu, hu.keepsI h.put.last h.put.num k⟩

set_option maxHeartbeats 2000000 in
/-- a bit that is told -/
theorem unC_w {B b c l m g k n : Nat} {a x : Int} {p : Int × Nat} {O : List Int} {w0 w : World} {r : Bool} {Q : World → Prop} (hx : isBit x = true) (hp : n ≤ 4) (hO : O.length ≤ 10000000) (hs : nxt (a, n) x = p) (hr : ((p.2 : Int) == 5) = r) (h : UnSt B b c l m g (a, n) false O w0 w) :
    Calls Tryd.prog 62 #[.int .i32 x, .pointer (some ⟨g, 0, none⟩), .pointer (some ⟨b, 0, none⟩), .pointer (some ⟨c, 0, none⟩)] w (StepPost k w (UnSt B b c l m g p r (O ++ [x]) w0) Q) := by
  have HX := Lib.hid hx
  have HO := Lib.hid hO
  have H := Lib.hid h
  have HS := Lib.hid hs
  have HP := Lib.hid hp
  have HR := Lib.hid hr
  have h5 : decide ((p.2 : Int) ≤ 5) = true := by have := nxt_le (a, n) x; rw [hs] at this; simp only at this; simp; omega
  have g1 := h.ful.cell
  clear hx hO h hs hp hr
  have HX1 : Hid (-2147483648 ≤ x ∧ x ≤ 2147483647) := Lib.hid (by have := (isBit_iff x).1 HX.out; omega)
  go_enter Tryd.func62, Tryd.ntmps62
  go_wp2_with fail
  refine (dwrune_k B b _ x HX1.out.1 HX1.out.2 _ H.out.put.out.bld (by have := HO.out; simp; omega) H.out.put.out.hB).mono ?_
  rintro e w2 ⟨rfl, hI, hb, hk⟩
  rw [rcells HX.out] at hI
  have K2 : Hid (KeepsI k w w2) := Lib.hid (bld_keepsI H.out.put.out.bld hk k)
  have H2 : Hid (UnSt B b c l m g (a, n) false (O ++ [x]) w0 w2) := Lib.hid (H.out.wrote (by simpa using hI) hb hk)
  clear hI hb hk H g1
  go_wp2_with fail
  refine (cother_t rfl HX.out _).mono ?_
  rintro e w1 ⟨rfl, rfl⟩
  have c2 : w2.cell? ⟨c, 0, none⟩ = some (.func (.func 69) #[] #[.pointer (some ⟨l, 0, none⟩), .pointer (some ⟨m, 0, none⟩)]) := H2.out.put.cnt.cell
  go_wp2_with fail
  refine (count_un (k := k) (by have := HP.out; omega) HS.out H2.out).mono ?_
  rintro e w3 ⟨rfl, hu, hk⟩
  have K3 : Hid (KeepsI k w w3) := Lib.hid (K2.out.trans hk)
  have H3 := Lib.hid hu
  clear hu hk H2 K2 c2
  have g3 := H3.out.ful.cell
  have f3 := H3.out.ful.live
  go_wp2
  go_ret
  rw [HR.out]
  exact ⟨K3.out.trans (setB_keepsI H3.out.ful _ k), .inl ⟨rfl, H3.out.stored r⟩⟩

set_option maxHeartbeats 2000000 in
/-- a bit that was put in (q: whether it is the other one) -/
theorem unC_n {B b c l m g k n : Nat} {a x : Int} {p : Int × Nat} {O : List Int} {w0 w : World} {q r : Bool} {Yes No : World → Prop} (hx : isBit x = true) (hp : n ≤ 5) (hs : nxt (a, n) x = p) (hq : decide ((p.2 : Int) ≤ 5) = q) (hr : ((p.2 : Int) == 5) = r) (h : UnSt B b c l m g (a, n) true O w0 w)
    (hy : ∀ w', q = true → UnSt B b c l m g p r O w0 w' → Yes w') (hn : ∀ w', q = false → Below B w0 w' → No w') :
    Calls Tryd.prog 62 #[.int .i32 x, .pointer (some ⟨g, 0, none⟩), .pointer (some ⟨b, 0, none⟩), .pointer (some ⟨c, 0, none⟩)] w (StepPost k w Yes No) := by
  have HX := Lib.hid hx
  have H := Lib.hid h
  have HS := Lib.hid hs
  have HP := Lib.hid hp
  have HR := Lib.hid hr
  have HY := Lib.hid hy
  have HN := Lib.hid hn
  have g1 := h.ful.cell
  clear hx h hs hp hr hy hn
  go_enter Tryd.func62, Tryd.ntmps62
  go_wp2_with fail
  refine (cother_t rfl HX.out _).mono ?_
  rintro e w1 ⟨rfl, rfl⟩
  have c2 : w.cell? ⟨c, 0, none⟩ = some (.func (.func 69) #[] #[.pointer (some ⟨l, 0, none⟩), .pointer (some ⟨m, 0, none⟩)]) := H.out.put.cnt.cell
  go_wp2_with fail
  refine (count_un (k := k) (by have := HP.out; omega) HS.out H.out).mono ?_
  rintro e w3 ⟨rfl, hu, hk⟩
  have K3 := Lib.hid hk
  have H3 := Lib.hid hu
  clear hu hk H c2 g1
  have g3 := H3.out.ful.cell
  have f3 := H3.out.ful.live
  cases q
  · go_wp2
    go_ret
    refine ⟨K3.out.trans (setB_keepsI H3.out.ful _ k), .inr ⟨rfl, HN.out _ (by trivial) (H3.out.stored _).put.out.below⟩⟩
  · go_wp2
    go_ret
    rw [HR.out]
    exact ⟨K3.out.trans (setB_keepsI H3.out.ful _ k), .inl ⟨rfl, HY.out _ (by trivial) (H3.out.stored r)⟩⟩

set_option maxHeartbeats 2000000 in
/-- no bit -/
theorem unC_f {B b c l m g k n : Nat} {a x : Int} {O : List Int} {w0 w : World} {f : Bool} {Q : World → Prop} (hx : isBit x = false) (hx0 : 0 ≤ x) (hx1 : x ≤ 2147483647) (hp : n ≤ 5) (hO : O.length ≤ 10000000) (h : UnSt B b c l m g (a, n) f O w0 w) :
    Calls Tryd.prog 62 #[.int .i32 x, .pointer (some ⟨g, 0, none⟩), .pointer (some ⟨b, 0, none⟩), .pointer (some ⟨c, 0, none⟩)] w (StepPost k w Q (fun w' => Below B w0 w')) := by
  have HX := Lib.hid hx
  have HO := Lib.hid hO
  have H := Lib.hid h
  have HP := Lib.hid hp
  have HX1 : Hid (-2147483648 ≤ x ∧ x ≤ 2147483647) := Lib.hid (by omega)
  have g1 := h.ful.cell
  obtain ⟨p, hS⟩ : ∃ p, nxt (a, n) x = p := ⟨_, rfl⟩
  have HS := Lib.hid hS
  clear hx hO h hp hx0 hx1 hS
  cases f
  · go_enter Tryd.func62, Tryd.ntmps62
    go_wp2_with fail
    refine (dwrune_k B b _ x HX1.out.1 HX1.out.2 _ H.out.put.out.bld (by have := HO.out; simp; omega) H.out.put.out.hB).mono ?_
    rintro e w2 ⟨rfl, hI, hb, hk⟩
    have K2 : Hid (KeepsI k w w2) := Lib.hid (bld_keepsI H.out.put.out.bld hk k)
    have HB2 : Hid (Below B w0 w2) := Lib.hid (H.out.put.out.below.trans hb)
    have HF2 : Hid (Box w2 g (.bool false) 4) := Lib.hid (H.out.ful.kept hk (H.out.ful.ne_bld H.out.put.out.bld) (by decide))
    have HL2 : Hid (Box w2 l (.int .i32 a) 21) := Lib.hid (H.out.put.last.kept hk (H.out.put.last.ne_bld H.out.put.out.bld) (by decide))
    have HM2 : Hid (Box w2 m (.int .i64 n) 3) := Lib.hid (H.out.put.num.kept hk (H.out.put.num.ne_bld H.out.put.out.bld) (by decide))
    have c2 : w2.cell? ⟨c, 0, none⟩ = some (.func (.func 69) #[] #[.pointer (some ⟨l, 0, none⟩), .pointer (some ⟨m, 0, none⟩)]) := (H.out.put.cnt.kept hk (H.out.put.cnt.ne_bld H.out.put.out.bld) (by decide)).cell
    clear hI hb hk g1
    go_wp2_with fail
    refine (cother_f HX.out _).mono ?_
    rintro e w1 ⟨rfl, rfl⟩
    go_wp2_with fail
    refine (count_v HS.out (by have := HP.out; omega) _ HL2.out HM2.out).mono ?_
    rintro e w3 ⟨rfl, hl, hm, hu⟩
    have K3 : Hid (KeepsI k w w3) := Lib.hid (K2.out.trans (hu.keepsI HL2.out HM2.out k))
    have HB3 : Hid (Below B w0 w3) := Lib.hid (hu.below HB2.out H.out.put.hl H.out.put.hm)
    have HF3 : Hid (Box w3 g (.bool false) 4) := Lib.hid (hu.box HF2.out (HF2.out.ne HL2.out (by decide)) (HF2.out.ne HM2.out (by decide)))
    clear hl hm hu c2
    have g3 := HF3.out.cell
    have f3 := HF3.out.live
    go_wp2
    go_ret
    exact ⟨K3.out.trans (setB_keepsI HF3.out _ k), .inr ⟨rfl, (Upd.setL g g _ _).below HB3.out H.out.hg H.out.hg⟩⟩
  · go_enter Tryd.func62, Tryd.ntmps62
    go_wp2_with fail
    refine (cother_f HX.out _).mono ?_
    rintro e w1 ⟨rfl, rfl⟩
    have c2 : w.cell? ⟨c, 0, none⟩ = some (.func (.func 69) #[] #[.pointer (some ⟨l, 0, none⟩), .pointer (some ⟨m, 0, none⟩)]) := H.out.put.cnt.cell
    go_wp2_with fail
    refine (count_un (k := k) (by have := HP.out; omega) HS.out H.out).mono ?_
    rintro e w3 ⟨rfl, hu, hk⟩
    have K3 := Lib.hid hk
    have H3 := Lib.hid hu
    clear hu hk H c2 g1
    have g3 := H3.out.ful.cell
    have f3 := H3.out.ful.live
    go_wp2
    go_ret
    exact ⟨K3.out.trans (setB_keepsI H3.out.ful _ k), .inr ⟨rfl, (H3.out.stored _).put.out.below⟩⟩

def uInv (s : ByteArray) (R : List Int × Int) (B b c l m g : Nat) (w0 : World) (k : Nat) (w1 : World) : Prop :=
  k ≤ s.size ∧ (tl ((byL s).take k)).2 ≤ 5 ∧ ∃ O, O.length ≤ k ∧ isBy O ∧ unA O (tl ((byL s).take k)) k ((byL s).drop k) = R ∧ UnSt B b c l m g (tl ((byL s).take k)) (((tl ((byL s).take k)).2 : Int) == 5) O w0 w1
def uFin (R : List Int × Int) (B : Nat) (w0 : World) (k : Nat) (w1 : World) : Prop := R = ([], (k : Int)) ∧ Below B w0 w1
theorem by_bit {x : Int} (h : isBit x = true) : 0 ≤ x ∧ x < 256 := by rw [isBit_iff] at h; omega
theorem un_walk {s : ByteArray} {R : List Int × Int} {B b c l m g : Nat} {w0 w : World} (hs : s.size ≤ 1000000) (hR : unL (byL s) = R) (h : UnSt B b c l m g (0, 0) false [] w0 w) :
    Calls Tryd.prog 57 #[.string s, .func (.func 62) #[] #[.pointer (some ⟨g, 0, none⟩), .pointer (some ⟨b, 0, none⟩), .pointer (some ⟨c, 0, none⟩)]] w (WalkPost s (uInv s R B b c l m g w0) (uFin R B w0)) := by
  refine walk_v 62 #[.pointer (some ⟨g, 0, none⟩), .pointer (some ⟨b, 0, none⟩), .pointer (some ⟨c, 0, none⟩)] (enters_of Tryd.func62 (by kernel_rfl) rfl) _ _ w ⟨Nat.zero_le _, by show 0 ≤ 5; omega, [], Nat.le_refl _, isBy_nil, hR, h.alloc _⟩ ?_ ?_
  · rintro pos q w1 ⟨h1, h2, O, h3, h4, h5, h6⟩ hi
    exact ⟨h1, h2, O, h3, h4, h5, h6.iterAt hi h.put.out.hB⟩
  rintro pos w1 hp ⟨h1, h2, O, h3, h4, h5, h6⟩
  rw [byL_drop hp] at h5
  simp only [unA] at h5
  have htl : tl ((byL s).take (pos + 1)) = nxt (tl ((byL s).take pos)) (bt s pos) := by rw [byL_take hp, tl_snoc]
  obtain ⟨p, hp0⟩ : ∃ p, tl ((byL s).take pos) = p := ⟨_, rfl⟩
  rw [hp0] at h2 h5 h6 htl
  obtain ⟨a, n⟩ := p
  simp only at h2 h5 h6
  cases hb : isBit (bt s pos)
  · rw [if_pos hb] at h5
    exact (unC_f (rune_not hp hb) (rune_hi s pos).1 (rune_hi s pos).2 h2 (by omega) h6).mono fun e w2 ⟨hk, hh⟩ => ⟨hk, hh.imp id fun ⟨he, hw⟩ => ⟨he, h5.symm, hw⟩⟩
  · obtain ⟨e1, e2⟩ := rune_bit hp hb
    rw [if_neg (by rw [hb]; decide)] at h5
    rw [e1, e2]
    by_cases hn : n = 5
    · subst hn
      rw [if_pos rfl] at h5
      refine unC_n (p := nxt (a, 5) (bt s pos)) hb (Nat.le_refl _) rfl rfl rfl h6 ?_ ?_
      · intro w' hq hw
        have hne : bt s pos ≠ a := by
          intro e
          rw [e] at hq
          simp [nxt] at hq
        rw [if_neg hne] at h5
        have hnx : nxt (a, 5) (bt s pos) = (bt s pos, 1) := nxt_new hne
        rw [hnx] at hw htl
        exact ⟨by omega, by rw [htl]; simp, O, by omega, h4, by rw [htl]; exact h5, by rw [htl]; exact hw⟩
      · intro w' hq hw
        have he : bt s pos = a := by
          apply Decidable.byContradiction
          intro hne
          rw [show nxt (a, 5) (bt s pos) = (bt s pos, 1) from nxt_new hne] at hq
          simp at hq
        rw [if_pos he] at h5
        exact ⟨h5.symm, hw⟩
    · rw [if_neg hn] at h5
      have hf : ((n : Int) == 5) = false := by simp; omega
      rw [hf] at h6
      have hle := nxt_le (a, n) (bt s pos)
      simp only at hle
      refine (unC_w (Q := uFin R B w0 pos) hb (by omega) (by omega) rfl rfl h6).mono fun e w2 ⟨hk, hh⟩ => ⟨hk, hh.imp (fun ⟨he, hw⟩ => ⟨he, by omega, by rw [htl]; omega, O ++ [bt s pos], by simp; omega, isBy_app h4 (isBy_cons (by_bit hb) isBy_nil), by rw [htl]; exact h5, by rw [htl]; exact hw⟩) id⟩

theorem unSt_made {w w1 : World} {o : Obj} (HO : OutSt w.heap.size w.heap.size [] w (w.alloc o)) (hl : Box w1 (w.alloc o).heap.size (.int .i32 0) 21) (hm : Box w1 ((w.alloc o).heap.size + 1) (.int .i64 0) 3)
    (hb : Below (w.alloc o).heap.size (w.alloc o) w1) : UnSt w.heap.size w.heap.size w1.heap.size (w.heap.size + 1) (w.heap.size + 1 + 1) (w1.heap.size + 1) (0, 0) false [] w ((w1.alloc (.cells #[cntV (w.heap.size + 1) (w.heap.size + 1 + 1)] 72)).alloc (.cells #[.bool false] 4)) := by
  have h1 := hl.lt
  simp only [World.size_alloc] at h1
  exact ⟨(putSt_made HO hl hm hb).alloc _, Box.made _ _ _ (by simp), by omega⟩
def unE (R : List Int × Int) : Ending := .returned (.tuple #[.string (strOfNums R.1), .int .i64 R.2])
theorem unE_no {R : List Int × Int} {k : Int} (h : R = ([], k)) : Ending.returned (.tuple #[.string (ByteArray.mk #[]), .int .i64 k]) = unE R := by subst h; rfl
theorem unE_yes {R : List Int × Int} {O : List Int} (h : R = (O, -1)) : Ending.returned (.tuple #[.string (strOfNums O), .int .i64 (-1)]) = unE R := by subst h; rfl
set_option maxHeartbeats 2000000 in
theorem cunstuff_v {s : ByteArray} {R : List Int × Int} (h : unL (byL s) = R) (hs : s.size ≤ 1000000) (w : World) :
    Calls Tryd.prog 41 #[.string s] w fun e w' => e = unE R ∧ Below w.heap.size w w' := by
  have H := Lib.hid h
  have HS := Lib.hid hs
  clear h hs
  have hmf : ∀ (fn : Fn) (first cap : Array Value) (w : World), (Instr.makeFunc fn first cap).run Tryd.prog w = .ok (.func fn first cap) w := fun _ _ _ _ => rfl
  have HO : Hid (OutSt w.heap.size w.heap.size [] w (w.alloc (.cells #[.pointer none, .slice none 0 0] 56))) := Lib.hid ⟨(Below.refl _ w).alloc (Nat.le_refl _) _, .of (Lib.fresh_isBuilder _ _ w), Nat.le_refl _⟩
  go_enter Tryd.func41, Tryd.ntmps41
  go_wp2_with fail
  refine (runs_any _).mono ?_
  rintro e w1 ⟨rfl, hl, hm, hb, hz⟩
  have HP := Lib.hid (unSt_made HO.out hl hm hb)
  clear hl hm hb hz
  unfold cntV at HP ⊢
  go_wp2_with fail
  refine (un_walk HS.out H.out HP.out).mono ?_
  rintro e w2 (⟨rfl, pos, hp, hI⟩ | ⟨pos, hp, rfl, hF⟩)
  · obtain ⟨h1, h2, O, h3, h4, h5, h6⟩ := hI
    obtain rfl : pos = s.size := by omega
    rw [List.drop_of_length_le (by rw [byL_len]; exact Nat.le_refl _)] at h5
    simp only [unA] at h5
    obtain ⟨p, hp0⟩ : ∃ p, tl ((byL s).take s.size) = p := ⟨_, rfl⟩
    rw [hp0] at h2 h5 h6
    have HI := Lib.hid h6
    have g2 := h6.ful.cell
    have H5 := Lib.hid h5
    have H4 := Lib.hid h4
    have HLE := Lib.hid h2
    clear h1 h2 h3 h4 h5 h6 hp hp0
    by_cases h5 : p.2 = 5
    · have hq : ((p.2 : Int) == 5) = true := by rw [h5]; rfl
      have HQ : Hid (R = ([], (s.size : Int))) := Lib.hid (by have := H5.out; rw [if_pos h5] at this; exact this.symm)
      rw [hq] at g2
      clear h5
      go_wp2
      go_ret2
      exact ⟨unE_no HQ.out, HI.out.put.out.below⟩
    · have hq : ((p.2 : Int) == 5) = false := by simp; omega
      have HQ : Hid (R = (O, -1)) := Lib.hid (by have := H5.out; rw [if_neg h5] at this; exact this.symm)
      rw [hq] at g2
      have HBL := Lib.hid (bcells H4.out)
      have HL : Hid (Lib.IsBuilderF 56 5 w.heap.size w.heap.size (Lib.byteCells (strOfNums O).data.toList) w2) := Lib.hid (by rw [← HBL.out]; exact HI.out.put.out.bld)
      clear h5
      go_wp2_with fail
      refine (dstring_k _ _ _ _ HL.out HI.out.put.out.hB).mono ?_
      rintro e w3 ⟨rfl, _, hb, _⟩
      rw [str_list]
      go_wp2
      go_ret2
      exact ⟨unE_yes HQ.out, HI.out.put.out.below.trans hb⟩
  · have hne : ((pos : Int) != -1) = true := by simp
    go_wp2
    go_ret2
    exact ⟨unE_no hF.1, hF.2⟩

end Go.Proofs.YtfooigckcjbegaaDoor
