/- Stuff: contracts of Right, Turn, Stuff, each with what it hands to walk. -/
import Derived.Test.YtpapdonodgedoaaStfE
namespace Go.Proofs.Ytpapdonodgedoaa
open Go.RowKit
set_option linter.unusedVariables false

/-! ### runes of bits -/
theorem rune_bit {s : ByteArray} {k : Nat} (hk : k < s.size) (hb : isBit (bt s k) = true) : ((Utf8.decode s k).1 : Int) = bt s k ∧ (Utf8.decode s k).2 = 1 := by
  have e := bt_eq s k hk
  have ha : (s[k]'hk).toNat < 128 := by
    rw [isBit_iff] at hb
    omega
  rw [decode_ascii s k hk ha]
  exact ⟨e, rfl⟩
theorem rune_not {s : ByteArray} {k : Nat} (hk : k < s.size) (hb : isBit (bt s k) = false) : isBit ((Utf8.decode s k).1 : Int) = false := by
  have e := bt_eq s k hk
  by_cases ha : (s[k]'hk).toNat < 128
  · rw [decode_ascii s k hk ha]
    rw [← e] at hb
    exact hb
  · have h := (decode_high s k hk (by omega)).1
    unfold isBit
    simp
    omega
theorem bits_step {s : ByteArray} {k : Nat} (hk : k < s.size) (h : bitsB ((byL s).take k) = true) (hb : isBit (bt s k) = true) : bitsB ((byL s).take (k + 1)) = true := by
  rw [byL_take hk, bitsB_app, h]
  simp [bitsB, hb]
theorem bits_not {s : ByteArray} {k : Nat} (hk : k < s.size) (hb : isBit (bt s k) = false) : bitsB (byL s) = false := by
  rw [← List.take_append_drop (k + 1) (byL s), bitsB_app, byL_take hk, bitsB_app]
  simp [bitsB, hb]
theorem bits_all {s : ByteArray} {k : Nat} (hk : ¬ k < s.size) (h : bitsB ((byL s).take k) = true) : bitsB (byL s) = true := by
  rwa [List.take_of_length_le (by rw [byL_len]; omega)] at h
theorem take_all {s : ByteArray} {k : Nat} (hk : ¬ k < s.size) : (byL s).take k = byL s := List.take_of_length_le (by rw [byL_len]; omega)
theorem rcells {x : Int} (hx : isBit x = true) : Lib.runeCells x = [.int .u8 x] := by
  rw [isBit_iff] at hx
  rcases hx with rfl | rfl <;> rfl
theorem bcells {O : List Int} (h : isBy O) : O.map (Value.int .u8) = Lib.byteCells (strOfNums O).data.toList := by
  have e := byL_nums h
  unfold byL at e
  unfold Lib.byteCells
  conv => lhs; rw [← e]
  rw [List.map_map]
  rfl
theorem str_list (s : ByteArray) : (⟨s.data.toList.toArray⟩ : ByteArray) = s := by
  cases s
  simp

/-! ### Right -/
theorem rightC_t {x : Int} (hx : isBit x = true) (w : World) : Calls Try.prog 20 #[.int .i32 x] w fun e w' => e = .returned (.bool true) ∧ w = w' := by
  have HX := Lib.hid hx
  clear hx
  go_enter Try.func20, Try.ntmps20
  go_wp2_with fail
  refine (cother_t rfl HX.out _).mono ?_
  rintro e w1 ⟨rfl, rfl⟩
  go_wp2
  go_ret
  exact ⟨rfl, rfl⟩
theorem rightC_f {x : Int} (hx : isBit x = false) (w : World) : Calls Try.prog 20 #[.int .i32 x] w fun e w' => e = .returned (.bool false) ∧ w = w' := by
  have HX := Lib.hid hx
  clear hx
  go_enter Try.func20, Try.ntmps20
  go_wp2_with fail
  refine (cother_f HX.out _).mono ?_
  rintro e w1 ⟨rfl, rfl⟩
  go_wp2
  go_ret
  exact ⟨rfl, rfl⟩
def rInv (s : ByteArray) (w : World) (k : Nat) (w1 : World) : Prop := bitsB ((byL s).take k) = true ∧ Below w.heap.size w w1
def rFin (s : ByteArray) (w : World) (k : Nat) (w1 : World) : Prop := bitsB (byL s) = false ∧ Below w.heap.size w w1
theorem below_iter (w : World) (s : ByteArray) : Below w.heap.size w (w.iter s 0) := (Below.refl _ w).alloc (Nat.le_refl _) _
theorem right_walk (s : ByteArray) (w : World) : Calls Try.prog 19 #[.string s, .func (.func 20) #[] #[]] w (WalkPost s (rInv s w) (rFin s w)) := by
  refine walk_v 20 #[] (enters_of Try.func20 (by kernel_rfl) rfl) _ _ w ⟨rfl, below_iter w s⟩ (fun pos q w1 h _ => ⟨h.1, Lib.below_iterAt h.2 (Nat.le_refl _) s q⟩) ?_
  intro pos w1 hp h
  cases hb : isBit (bt s pos)
  · refine (rightC_f (rune_not hp hb) w1).mono ?_
    rintro e w2 ⟨rfl, rfl⟩
    exact ⟨KeepsI.refl _ _, .inr ⟨rfl, bits_not hp hb, h.2⟩⟩
  · obtain ⟨h1, h2⟩ := rune_bit hp hb
    rw [h1, h2]
    refine (rightC_t hb w1).mono ?_
    rintro e w2 ⟨rfl, rfl⟩
    exact ⟨KeepsI.refl _ _, .inl ⟨rfl, bits_step hp h.1 hb, h.2⟩⟩
theorem cright_v {s : ByteArray} {q : Bool} (h : bitsB (byL s) = q) (w : World) :
    Calls Try.prog 9 #[.string s] w fun e w' => e = .returned (.bool q) ∧ Below w.heap.size w w' := by
  have H := Lib.hid h
  clear h
  have hmf : ∀ (fn : Fn) (first cap : Array Value) (w : World), (Instr.makeFunc fn first cap).run Try.prog w = .ok (.func fn first cap) w := fun _ _ _ _ => rfl
  go_enter Try.func9, Try.ntmps9
  go_wp2_with fail
  refine (right_walk s w).mono ?_
  rintro e w1 (⟨rfl, pos, hp, hI⟩ | ⟨pos, hp, rfl, hF⟩)
  · go_wp2
    go_ret
    exact ⟨fret_bool (by rw [← H.out]; exact (bits_all hp hI.1).symm), hI.2⟩
  · have hne : ((pos : Int) == -1) = false := by simp
    go_wp2
    go_ret
    exact ⟨fret_bool (by rw [← H.out]; exact hF.1.symm), hF.2⟩

/-! ### Turn -/
structure OutSt (B b : Nat) (O : List Int) (w0 w : World) : Prop where
  below : Below B w0 w
  bld : Lib.IsBuilderF 36 5 B b (O.map (Value.int .u8)) w
  le : B ≤ w0.heap.size
theorem OutSt.iterAt {B b i p q : Nat} {O : List Int} {w0 w : World} {s : ByteArray} (h : OutSt B b O w0 w) (hi : w.heap[i]? = some (.stringIter s p)) (hB : B ≤ i) : OutSt B b O w0 (w.iterAt i s q) :=
  ⟨Lib.below_iterAt h.below hB s q, h.bld.iterAt hi q, h.le⟩
theorem OutSt.hB {B b : Nat} {O : List Int} {w0 w : World} (h : OutSt B b O w0 w) : B ≤ w.heap.size := Nat.le_trans h.le h.below.size

theorem turnC_t {B b k : Nat} {O : List Int} {w0 w : World} {x : Int} {Q : World → Prop} (hx : isBit x = true) (hO : O.length ≤ 10000000) (h : OutSt B b O w0 w) :
    Calls Try.prog 28 #[.int .i32 x, .pointer (some ⟨b, 0, none⟩)] w (StepPost k w (OutSt B b (O ++ [oth x]) w0) Q) := by
  have HX := Lib.hid hx
  have HO := Lib.hid hO
  have H := Lib.hid h
  clear hx hO h
  go_enter Try.func28, Try.ntmps28
  go_wp2_with fail
  refine (cother_t rfl HX.out _).mono ?_
  rintro e w1 ⟨rfl, rfl⟩
  have hy : -2147483648 ≤ oth x ∧ oth x ≤ 2147483647 := by have := (isBit_iff x).1 HX.out; unfold oth; omega
  have HY := Lib.hid hy
  clear hy
  go_wp2_with fail
  refine (dwrune_k B b _ (oth x) HY.out.1 HY.out.2 _ H.out.bld (by have := HO.out; simp; omega) H.out.hB).mono ?_
  rintro e w2 ⟨rfl, hI, hb, hk⟩
  go_wp2
  go_ret
  rw [rcells (oth_bit HX.out)] at hI
  exact ⟨bld_keepsI H.out.bld hk k, .inl ⟨rfl, H.out.below.trans hb, .inr (by simpa using hI), H.out.le⟩⟩
theorem turnC_f {B b k : Nat} {O : List Int} {w0 w : World} {x : Int} {Q : World → Prop} (hx : isBit x = false) (hO : O.length ≤ 10000000) (h : OutSt B b O w0 w) :
    Calls Try.prog 28 #[.int .i32 x, .pointer (some ⟨b, 0, none⟩)] w (StepPost k w Q (fun w' => Below B w0 w')) := by
  have HX := Lib.hid hx
  have HO := Lib.hid hO
  have H := Lib.hid h
  clear hx hO h
  go_enter Try.func28, Try.ntmps28
  go_wp2_with fail
  refine (cother_f HX.out _).mono ?_
  rintro e w1 ⟨rfl, rfl⟩
  go_wp2_with fail
  refine (dwrune_k B b _ 0 (by decide) (by decide) _ H.out.bld (by have := HO.out; simp; omega) H.out.hB).mono ?_
  rintro e w2 ⟨rfl, hI, hb, hk⟩
  go_wp2
  go_ret
  exact ⟨bld_keepsI H.out.bld hk k, .inr ⟨rfl, H.out.below.trans hb⟩⟩

def tInv (s : ByteArray) (B b : Nat) (w0 : World) (k : Nat) (w1 : World) : Prop := k ≤ s.size ∧ bitsB ((byL s).take k) = true ∧ OutSt B b (((byL s).take k).map oth) w0 w1
def tFin (s : ByteArray) (B : Nat) (w0 : World) (k : Nat) (w1 : World) : Prop := bitsB (byL s) = false ∧ Below B w0 w1
theorem turn_walk {s : ByteArray} {B b : Nat} {w0 w : World} (hs : s.size ≤ 1000000) (h : OutSt B b [] w0 w) :
    Calls Try.prog 19 #[.string s, .func (.func 28) #[] #[.pointer (some ⟨b, 0, none⟩)]] w (WalkPost s (tInv s B b w0) (tFin s B w0)) := by
  refine walk_v 28 #[.pointer (some ⟨b, 0, none⟩)] (enters_of Try.func28 (by kernel_rfl) rfl) _ _ w ⟨Nat.zero_le _, rfl, ⟨h.below.alloc h.hB _, h.bld.alloc _, h.le⟩⟩ (fun pos q w1 h1 hi => ⟨h1.1, h1.2.1, h1.2.2.iterAt hi h.hB⟩) ?_
  intro pos w1 hp h1
  have hlen : (((byL s).take pos).map oth).length ≤ 10000000 := by rw [List.length_map, List.length_take]; omega
  cases hb : isBit (bt s pos)
  · exact (turnC_f (rune_not hp hb) hlen h1.2.2).mono fun e w2 ⟨hk, hh⟩ => ⟨hk, hh.imp id fun ⟨he, hw⟩ => ⟨he, bits_not hp hb, hw⟩⟩
  · obtain ⟨e1, e2⟩ := rune_bit hp hb
    rw [e1, e2]
    refine (turnC_t hb hlen h1.2.2).mono fun e w2 ⟨hk, hh⟩ => ⟨hk, hh.imp (fun ⟨he, hw⟩ => ⟨he, by omega, bits_step hp h1.2.1 hb, ?_⟩) id⟩
    rw [byL_take hp, List.map_append]
    exact hw
def turnS (L : List Int) : ByteArray := if bitsB L then strOfNums (L.map oth) else ByteArray.mk #[]
theorem bits_map_by {L : List Int} (h : bitsB L = true) : isBy (L.map oth) := isBy_bits (turn_bits h)
set_option maxHeartbeats 1000000 in
theorem cturn_v {s t : ByteArray} (h : turnS (byL s) = t) (hs : s.size ≤ 1000000) (w : World) :
    Calls Try.prog 13 #[.string s] w fun e w' => e = .returned (.string t) ∧ Below w.heap.size w w' := by
  have H := Lib.hid h
  have HS := Lib.hid hs
  clear h hs
  have hmf : ∀ (fn : Fn) (first cap : Array Value) (w : World), (Instr.makeFunc fn first cap).run Try.prog w = .ok (.func fn first cap) w := fun _ _ _ _ => rfl
  have HO : Hid (OutSt w.heap.size w.heap.size [] w (w.alloc (.cells #[.pointer none, .slice none 0 0] 36))) := Lib.hid ⟨(Below.refl _ w).alloc (Nat.le_refl _) _, .of (Lib.fresh_isBuilder _ _ w), Nat.le_refl _⟩
  go_enter Try.func13, Try.ntmps13
  go_wp2_with fail
  refine (turn_walk HS.out HO.out).mono ?_
  rintro e w1 (⟨rfl, pos, hp, hI⟩ | ⟨pos, hp, rfl, hF⟩)
  · have HB : Hid (bitsB (byL s) = true) := Lib.hid (bits_all hp hI.2.1)
    have HI := Lib.hid hI.2.2
    have HT := Lib.hid (take_all hp)
    clear hI hp
    rw [HT.out] at HI
    have HBL := Lib.hid (bcells (bits_map_by HB.out))
    have HL : Hid (Lib.IsBuilderF 36 5 w.heap.size w.heap.size (Lib.byteCells (strOfNums ((byL s).map oth)).data.toList) w1) := Lib.hid (by rw [← HBL.out]; exact HI.out.bld)
    go_wp2_with fail
    refine (dstring_k _ _ _ _ HL.out HI.out.hB).mono ?_
    rintro e w2 ⟨rfl, _, hb, _⟩
    rw [str_list]
    go_wp2
    go_ret
    exact ⟨fret_str (by rw [← H.out]; unfold turnS; rw [if_pos HB.out]), HI.out.below.trans hb⟩
  · have hne : ((pos : Int) == -1) = false := by simp
    go_wp2
    go_ret
    exact ⟨fret_str (by rw [← H.out]; unfold turnS; rw [if_neg (by rw [hF.1]; decide)]), hF.2⟩

/-! ### Stuff -/
structure PutSt (B b c l m : Nat) (p : Int × Nat) (O : List Int) (w0 w : World) : Prop where
  out : OutSt B b O w0 w
  cnt : Box w c (cntV l m) 37
  last : Box w l (.int .i32 p.1) 21
  num : Box w m (.int .i64 p.2) 3
  hl : B ≤ l
  hm : B ≤ m
theorem PutSt.iterAt {B b c l m i q r : Nat} {p : Int × Nat} {O : List Int} {w0 w : World} {s : ByteArray} (h : PutSt B b c l m p O w0 w) (hi : w.heap[i]? = some (.stringIter s q)) (hB : B ≤ i) : PutSt B b c l m p O w0 (w.iterAt i s r) :=
  ⟨h.out.iterAt hi hB, h.cnt.iterAt hi, h.last.iterAt hi, h.num.iterAt hi, h.hl, h.hm⟩
theorem Box.alloc {w : World} {k : Nat} {v : Value} {t : TypeId} (h : Box w k v t) (o : Obj) : Box (w.alloc o) k v t := h.below (((Below.refl w.heap.size w)).alloc (Nat.le_refl _) o) h.lt
theorem OutSt.alloc {B b : Nat} {O : List Int} {w0 w : World} (h : OutSt B b O w0 w) (o : Obj) : OutSt B b O w0 (w.alloc o) := ⟨h.below.alloc h.hB _, h.bld.alloc _, h.le⟩
theorem PutSt.alloc {B b c l m : Nat} {p : Int × Nat} {O : List Int} {w0 w : World} (h : PutSt B b c l m p O w0 w) (o : Obj) : PutSt B b c l m p O w0 (w.alloc o) :=
  ⟨h.out.alloc o, h.cnt.alloc o, h.last.alloc o, h.num.alloc o, h.hl, h.hm⟩
theorem PutSt.wrote {B b c l m : Nat} {p : Int × Nat} {O O' : List Int} {w0 w w' : World} (h : PutSt B b c l m p O w0 w) (hI : Lib.BuilderAtF 36 5 B b (.pointer (some ⟨b, 0, none⟩)) (O'.map (Value.int .u8)) w')
    (hb : Below B w w') (hk : Lib.OthersKept 5 (some b) w w') : PutSt B b c l m p O' w0 w' :=
  ⟨⟨h.out.below.trans hb, .inr hI, h.out.le⟩, h.cnt.kept hk (h.cnt.ne_bld h.out.bld) (by decide), h.last.kept hk (h.last.ne_bld h.out.bld) (by decide), h.num.kept hk (h.num.ne_bld h.out.bld) (by decide), h.hl, h.hm⟩
theorem PutSt.counted {B b c l m : Nat} {p q : Int × Nat} {O : List Int} {w0 w w' : World} (h : PutSt B b c l m p O w0 w) (hl : Box w' l (.int .i32 q.1) 21) (hm : Box w' m (.int .i64 q.2) 3) (hu : Upd l m w w') : PutSt B b c l m q O w0 w' :=
  ⟨⟨hu.below h.out.below h.hl h.hm, hu.builder h.out.bld h.last h.num (by decide) (by decide) (by decide) (by decide), h.out.le⟩, hu.box h.cnt (h.cnt.ne h.last (by decide)) (h.cnt.ne h.num (by decide)), hl, hm, h.hl, h.hm⟩

end Go.Proofs.Ytpapdonodgedoaa
