/- Arb, the document's side: Least. Arb: texts as they are shown, by order: who is left behind each place; keys by their bits. No program is meant here. Of no program: a frame behind an address. (Parted from XSerA.) Arb: what is shown of those that are left; raced without one that goes out. No program is meant here. -/
import Derived.Test.YtlfhomahbacmpaaDoorZaj
import Derived.Test.YtlfhomahbacmpaaDoorZah
import Derived.Test.YtlfhomahbacmpaaDoorZad
import Derived.Lib.OthersKept
namespace Go.Proofs.YtlfhomahbacmpaaDoor
open Go.RowKit
set_option linter.unusedVariables false

def fr0 : Fr := ⟨0, 0, 0, ByteArray.mk #[]⟩
def keyF (f : Fr) : Int := keyV f.i f.n f.l f.d.size
def keyAt (L : List Fr) (k : Nat) : Int := keyF (L.getD k fr0)
/-- of two the first one is ahead -/
def aheadB (L : List Fr) (i k : Nat) : Bool := decide (keyAt L k < 0) || decide (keyAt L i < keyAt L k) || (keyAt L i == keyAt L k && decide (i ≤ k))
def lsB (L : List Fr) (i y : Nat) : Bool := decide (0 ≤ keyAt L i) && (List.range y).all fun k => aheadB L i k
theorem lsB_succ (L : List Fr) (i y : Nat) : lsB L i (y + 1) = (lsB L i y && aheadB L i y) := by unfold lsB; rw [List.range_succ, List.all_append]; simp [Bool.and_assoc]
theorem lsB_more {L : List Fr} {i y : Nat} (h : lsB L i y = false) : ∀ n, y ≤ n → lsB L i n = false := by
  intro n hn
  unfold lsB at h ⊢
  rw [Bool.and_eq_false_iff] at h ⊢
  rcases h with h | h
  · exact .inl h
  · refine .inr ?_
    rw [List.all_eq_false] at h ⊢
    obtain ⟨k, hk, hq⟩ := h
    exact ⟨k, List.mem_range.2 (Nat.lt_of_lt_of_le (List.mem_range.1 hk) hn), hq⟩
def leastIx (L : List Fr) (x : Nat) : Option Nat := (List.range x).find? fun i => lsB L i L.length
theorem leastIx_succ {L : List Fr} {x : Nat} (h : leastIx L x = none) : leastIx L (x + 1) = if lsB L x L.length then some x else none := by
  unfold leastIx at h ⊢
  rw [List.range_succ, List.find?_append, h]
  simp only [List.find?_cons, List.find?_nil, Option.none_or]
  split <;> simp_all
theorem leastIx_found {L : List Fr} {x : Nat} (h : leastIx L x = none) (hl : lsB L x L.length = true) : ∀ n, x < n → leastIx L n = some x := by
  intro n
  induction n with
  | zero => intro hx; omega
  | succ n ih =>
    intro hx
    by_cases e : x = n
    · subst e; rw [leastIx_succ h, if_pos hl]
    · have := ih (by omega)
      unfold leastIx at this ⊢
      rw [List.range_succ, List.find?_append, this]
      rfl
def leastPost (o : Option Nat) (w : World) (e : Ending) (w' : World) : Prop :=
  (match o with | some i => e = .returned (.tuple #[.int .i64 i, .bool true]) | none => e = .returned (.tuple #[.int .i64 0, .bool false])) ∧ Below w.heap.size w w'
theorem leastPost_y {o : Option Nat} {i : Nat} {w w' : World} (h : o = some i) (hb : Below w.heap.size w w') : leastPost o w (.returned (.tuple #[.int .i64 i, .bool true])) w' := by subst h; exact ⟨rfl, hb⟩
theorem leastPost_n {o : Option Nat} {w w' : World} (h : o = none) (hb : Below w.heap.size w w') : leastPost o w (.returned (.tuple #[.int .i64 0, .bool false])) w' := by subst h; exact ⟨rfl, hb⟩
theorem keyAt_get {L : List Fr} {k : Nat} (h : k < L.length) : keyAt L k = keyV (L[k]).i (L[k]).n (L[k]).l (L[k]).d.size := by unfold keyAt keyF; rw [List.getD_eq_getElem?_getD, List.getElem?_eq_getElem h]; rfl

set_option maxHeartbeats 4000000 in
theorem sleast_v {v : Value} {L : List Fr} (w : World) (hv : SlF w w.heap.size v L) :
    Calls Tryd.prog 18 #[v] w (leastPost (leastIx L L.length) w) := by
  have HV := Lib.hid hv
  obtain ⟨A, cap, rfl, hlen, _⟩ := hv
  unfold maxLen at hlen
  go_enter Tryd.func18, Tryd.ntmps18
  go_wp2_with fail
  go_loopw [4] (fun i wr => ∃ x : Nat, x ≤ L.length ∧ i = .int .i64 x ∧ Hid (leastIx L x = none ∧ Below w.heap.size w wr)) (fun i _ => L.length - (intOf i).toNat)
  case atStart => exact ⟨0, Nat.zero_le _, rfl, Lib.hid ⟨rfl, Below.refl _ _⟩⟩
  case round =>
    obtain ⟨x, hx, rfl, HI⟩ := hrel
    by_cases hlt : x < L.length
    · have HVr := Lib.hid (HV.out.later HI.out.2)
      obtain ⟨p, c1, hv1, hpb, hf⟩ := SlF.facts HVr.out hlt
      injection hv1 with hA _ hcap
      subst hA
      subst hcap
      obtain ⟨a0, a1, a2, a3⟩ := hf ⟨wr, Below.refl _ _⟩
      obtain ⟨kx, hkx⟩ : ∃ kx, keyAt L x = kx := ⟨_, rfl⟩
      have HKX : Hid (keyV (L[x]).i (L[x]).n (L[x]).l (L[x]).d.size = kx) := Lib.hid (by rw [← hkx, keyAt_get hlt])
      have hd : decide (x < L.length) = true := decide_eq_true hlt
      have HX := Lib.hid hkx
      simp only at a0 a1 a2 a3
      clear hf hkx
      go_wp2_with fail
      refine (rkey_v HKX.out _).mono ?_
      rintro e w1 ⟨rfl, hb1⟩
      have HB1 := Lib.hid (fbelow_t HI.out.2 hb1)
      clear hb1 a0 a1 a2 a3
      have H0 : Hid (lsB L x 0 = decide (0 ≤ kx)) := Lib.hid (by unfold lsB; rw [HX.out]; simp)
      obtain ⟨q0, hq0⟩ : ∃ q0, decide (0 ≤ kx) = q0 := ⟨_, rfl⟩
      rw [hq0] at H0
      go_wp2_with fail
      go_loopw [5, 6] (fun b j wx => ∃ y : Nat, y ≤ L.length ∧ j = .int .i64 y ∧ b = .bool (lsB L x y) ∧ Hid (Below w.heap.size w wx)) (fun _ j _ => L.length - (intOf j).toNat)
      case atStart => exact ⟨0, Nat.zero_le _, rfl, by rw [H0.out], HB1⟩
      case round =>
        obtain ⟨y, hy, rfl, rfl, HW⟩ := hrel
        obtain ⟨q, hq⟩ : ∃ q, lsB L x y = q := ⟨_, rfl⟩
        have HS := Lib.hid (lsB_succ L x y)
        have HQ := Lib.hid hq
        rw [hq] at HS ⊢
        clear hq
        cases q
        · have HNO := Lib.hid (lsB_more HQ.out L.length hy)
          by_cases hy2 : y < L.length
          · go_wp2
            go_roundw
            case rel => exact ⟨x + 1, by omega, by go_num, Lib.hid ⟨by rw [leastIx_succ HI.out.1, if_neg (by rw [HNO.out]; decide)], HW.out⟩⟩
            case measure => simp [intOf]; omega
          · go_wp2
            go_roundw
            case rel => exact ⟨x + 1, by omega, by go_num, Lib.hid ⟨by rw [leastIx_succ HI.out.1, if_neg (by rw [HNO.out]; decide)], HW.out⟩⟩
            case measure => simp [intOf]; omega
        · by_cases hlt2 : y < L.length
          · have HVw := Lib.hid (HV.out.later HW.out)
            obtain ⟨p', c1, hv1, hpb', g⟩ := SlF.facts HVw.out hlt2
            injection hv1 with hA _ hcap
            injection hA with hA
            subst hA
            subst hcap
            obtain ⟨p'', c1', hv1', hpb'', f⟩ := SlF.facts HVw.out hlt
            injection hv1' with hA' _ hcap'
            injection hA' with hA'
            subst hA'
            subst hcap'
            have a0 : ∀ m : Later wr, m.w.cell? (p.add (x * 4)) = some (.int .i64 (L[x]).i) := fun m => (f m).1
            have a1 : ∀ m : Later wr, m.w.cell? ⟨(p.add (x * 4)).block, (p.add (x * 4)).off + 1, none⟩ = some (.int .i64 (L[x]).n) := fun m => (f m).2.1
            have a2 : ∀ m : Later wr, m.w.cell? ⟨(p.add (x * 4)).block, (p.add (x * 4)).off + 2, none⟩ = some (.int .i64 (L[x]).l) := fun m => (f m).2.2.1
            have a3 : ∀ m : Later wr, m.w.cell? ⟨(p.add (x * 4)).block, (p.add (x * 4)).off + 3, none⟩ = some (.string (L[x]).d) := fun m => (f m).2.2.2
            have b0 : ∀ m : Later wr, m.w.cell? (p.add (y * 4)) = some (.int .i64 (L[y]).i) := fun m => (g m).1
            have b1 : ∀ m : Later wr, m.w.cell? ⟨(p.add (y * 4)).block, (p.add (y * 4)).off + 1, none⟩ = some (.int .i64 (L[y]).n) := fun m => (g m).2.1
            have b2 : ∀ m : Later wr, m.w.cell? ⟨(p.add (y * 4)).block, (p.add (y * 4)).off + 2, none⟩ = some (.int .i64 (L[y]).l) := fun m => (g m).2.2.1
            have b3 : ∀ m : Later wr, m.w.cell? ⟨(p.add (y * 4)).block, (p.add (y * 4)).off + 3, none⟩ = some (.string (L[y]).d) := fun m => (g m).2.2.2
            obtain ⟨ky, hky⟩ : ∃ ky, keyAt L y = ky := ⟨_, rfl⟩
            have HKY : Hid (keyV (L[y]).i (L[y]).n (L[y]).l (L[y]).d.size = ky) := Lib.hid (by rw [← hky, keyAt_get hlt2])
            have HAA : Hid (aheadB L x y = (decide (ky < 0) || decide (kx < ky) || (kx == ky && decide (x ≤ y)))) := Lib.hid (by unfold aheadB; rw [hky, HX.out])
            have hx1 : (x : Int) < (L.length : Int) := by omega
            have hy1 : (y : Int) < (L.length : Int) := by omega
            clear f g hky hpb'
            by_cases h1 : ky < 0
            · have d1 : decide (ky < 0) = true := decide_eq_true h1
              have HA : Hid (aheadB L x y = true) := Lib.hid (by rw [HAA.out, d1]; rfl)
              clear h1
              go_wp2_with fail
              refine wp_region_later (by kernel_rfl) (by kernel_rfl) ?_
              repeat (go_big_quiet_step (fail))
              go_big_quiet_step (exact Later.call (rkey_v HKY.out _))
              repeat (go_big_quiet_step (fail))
              refine wpQuiet_nil ?_
              rintro w2 ⟨l1, rfl⟩
              have HW2 := Lib.hid (fbelow_t HW.out l1.h)
              go_wp2
              go_roundw
              case rel => exact ⟨y + 1, by omega, by go_num, by rw [HS.out, HA.out]; rfl, HW2⟩
              case measure => simp [intOf]; omega
            have d1 : decide (ky < 0) = false := decide_eq_false h1
            clear h1
            by_cases h2 : kx < ky
            · have d2 : decide (kx < ky) = true := decide_eq_true h2
              have HA : Hid (aheadB L x y = true) := Lib.hid (by rw [HAA.out, d1, d2]; rfl)
              clear h2
              go_wp2_with fail
              refine wp_region_later (by kernel_rfl) (by kernel_rfl) ?_
              repeat (go_big_quiet_step (fail))
              go_big_quiet_step (exact Later.call (rkey_v HKY.out _))
              repeat (go_big_quiet_step (fail))
              go_big_quiet_step (exact Later.call (rkey_v HKX.out _))
              repeat (go_big_quiet_step (fail))
              go_big_quiet_step (exact Later.call (rkey_v HKY.out _))
              repeat (go_big_quiet_step (fail))
              refine wpQuiet_nil ?_
              rintro w2 ⟨l1, rfl⟩
              have HW2 := Lib.hid (fbelow_t HW.out l1.h)
              go_wp2
              go_roundw
              case rel => exact ⟨y + 1, by omega, by go_num, by rw [HS.out, HA.out]; rfl, HW2⟩
              case measure => simp [intOf]; omega
            have d2 : decide (kx < ky) = false := decide_eq_false h2
            clear h2
            by_cases h3 : kx = ky
            · have d3 : (kx == ky) = true := by simpa using h3
              by_cases h4 : x ≤ y
              · have d4 : decide (x ≤ y) = true := decide_eq_true h4
                have d5 : decide ((x : Int) ≤ (y : Int)) = true := by simp; omega
                have HA : Hid (aheadB L x y = true) := Lib.hid (by rw [HAA.out, d1, d2, d3, d4]; rfl)
                clear h3 h4
                go_wp2_with fail
                refine wp_region_later (by kernel_rfl) (by kernel_rfl) ?_
                repeat (go_big_quiet_step (fail))
                go_big_quiet_step (exact Later.call (rkey_v HKY.out _))
                repeat (go_big_quiet_step (fail))
                go_big_quiet_step (exact Later.call (rkey_v HKX.out _))
                repeat (go_big_quiet_step (fail))
                go_big_quiet_step (exact Later.call (rkey_v HKY.out _))
                repeat (go_big_quiet_step (fail))
                go_big_quiet_step (exact Later.call (rkey_v HKX.out _))
                repeat (go_big_quiet_step (fail))
                go_big_quiet_step (exact Later.call (rkey_v HKY.out _))
                repeat (go_big_quiet_step (fail))
                refine wpQuiet_nil ?_
                rintro w2 ⟨l1, rfl⟩
                have HW2 := Lib.hid (fbelow_t HW.out l1.h)
                go_wp2
                go_roundw
                case rel => exact ⟨y + 1, by omega, by go_num, by rw [HS.out, HA.out]; rfl, HW2⟩
                case measure => simp [intOf]; omega
              · have d4 : decide (x ≤ y) = false := decide_eq_false h4
                have d5 : decide ((x : Int) ≤ (y : Int)) = false := by simp; omega
                have HA : Hid (aheadB L x y = false) := Lib.hid (by rw [HAA.out, d1, d2, d3, d4]; rfl)
                clear h3 h4
                go_wp2_with fail
                refine wp_region_later (by kernel_rfl) (by kernel_rfl) ?_
                repeat (go_big_quiet_step (fail))
                go_big_quiet_step (exact Later.call (rkey_v HKY.out _))
                repeat (go_big_quiet_step (fail))
                go_big_quiet_step (exact Later.call (rkey_v HKX.out _))
                repeat (go_big_quiet_step (fail))
                go_big_quiet_step (exact Later.call (rkey_v HKY.out _))
                repeat (go_big_quiet_step (fail))
                go_big_quiet_step (exact Later.call (rkey_v HKX.out _))
                repeat (go_big_quiet_step (fail))
                go_big_quiet_step (exact Later.call (rkey_v HKY.out _))
                repeat (go_big_quiet_step (fail))
                refine wpQuiet_nil ?_
                rintro w2 ⟨l1, rfl⟩
                have HW2 := Lib.hid (fbelow_t HW.out l1.h)
                go_wp2
                go_roundw
                case rel => exact ⟨y + 1, by omega, by go_num, by rw [HS.out, HA.out]; rfl, HW2⟩
                case measure => simp [intOf]; omega
            · have d3 : (kx == ky) = false := by simpa using h3
              have HA : Hid (aheadB L x y = false) := Lib.hid (by rw [HAA.out, d1, d2, d3]; rfl)
              clear h3
              go_wp2_with fail
              refine wp_region_later (by kernel_rfl) (by kernel_rfl) ?_
              repeat (go_big_quiet_step (fail))
              go_big_quiet_step (exact Later.call (rkey_v HKY.out _))
              repeat (go_big_quiet_step (fail))
              go_big_quiet_step (exact Later.call (rkey_v HKX.out _))
              repeat (go_big_quiet_step (fail))
              go_big_quiet_step (exact Later.call (rkey_v HKY.out _))
              repeat (go_big_quiet_step (fail))
              go_big_quiet_step (exact Later.call (rkey_v HKX.out _))
              repeat (go_big_quiet_step (fail))
              go_big_quiet_step (exact Later.call (rkey_v HKY.out _))
              repeat (go_big_quiet_step (fail))
              refine wpQuiet_nil ?_
              rintro w2 ⟨l1, rfl⟩
              have HW2 := Lib.hid (fbelow_t HW.out l1.h)
              go_wp2
              go_roundw
              case rel => exact ⟨y + 1, by omega, by go_num, by rw [HS.out, HA.out]; rfl, HW2⟩
              case measure => simp [intOf]; omega
          · obtain rfl : y = L.length := by omega
            have HF := Lib.hid (leastIx_found HI.out.1 HQ.out L.length hlt)
            go_wp2
            go_ret2
            exact leastPost_y HF.out HW.out
    · obtain rfl : x = L.length := by omega
      go_wp2
      go_ret2
      exact leastPost_n HI.out.1 HI.out.2

end Go.Proofs.YtlfhomahbacmpaaDoor

namespace Go.Proofs.YtlfhomahbacmpaaDoor
open Go.RowKit
set_option linter.unusedVariables false

/-! ### the order of rows of bits: who shows the dominant one first is ahead -/
def lle : List Bool → List Bool → Bool
  | [], _ => true
  | _ :: _, [] => false
  | a :: x, b :: y => (a && !b) || (a == b && lle x y)
theorem lle_refl : ∀ x : List Bool, lle x x = true
  | [] => rfl
  | a :: x => by simp [lle, lle_refl x]
theorem lle_total : ∀ x y : List Bool, x.length = y.length → lle x y = true ∨ lle y x = true
  | [], y, _ => .inl rfl
  | a :: x, [], h => by cases h
  | a :: x, b :: y, h => by
    have := lle_total x y (by simpa using h)
    cases a <;> cases b <;> simp [lle] <;> exact this
theorem lle_anti : ∀ x y : List Bool, x.length = y.length → lle x y = true → lle y x = true → x = y
  | [], [], _, _, _ => rfl
  | a :: x, b :: y, h, h1, h2 => by
    cases a <;> cases b <;> simp [lle] at h1 h2 <;> rw [lle_anti x y (by simpa using h) h1 h2]
  | [], _ :: _, h, _, _ => by cases h
  | _ :: _, [], h, _, _ => by cases h
theorem lle_trans : ∀ x y z : List Bool, x.length = y.length → y.length = z.length → lle x y = true → lle y z = true → lle x z = true
  | [], _, _, _, _, _, _ => rfl
  | a :: x, b :: y, c :: z, h, h', h1, h2 => by
    cases a <;> cases b <;> cases c <;> simp [lle] at h1 h2 ⊢ <;> exact lle_trans x y z (by simpa using h) (by simpa using h') h1 h2
  | a :: x, [], _, h, _, _, _ => by cases h
  | a :: x, b :: y, [], _, h, _, _ => by cases h
theorem lle_snoc : ∀ (x y : List Bool) (a b : Bool), x.length = y.length → lle (x ++ [a]) (y ++ [b]) = (lle x y && (!(decide (x = y)) || (a || !b)))
  | [], [], a, b, _ => by cases a <;> cases b <;> rfl
  | c :: x, d :: y, a, b, h => by
    have ih := lle_snoc x y a b (by simpa using h)
    simp only [List.cons_append, lle, ih]
    cases c <;> cases d <;> simp
  | [], _ :: _, _, _, h => by cases h
  | _ :: _, [], _, _, h => by cases h

/-- the first places of a text, as they are shown -/
def domL (s : ByteArray) (n : Nat) : List Bool := (List.range n).map fun i => dom s i
theorem domL_succ (s : ByteArray) (n : Nat) : domL s (n + 1) = domL s n ++ [dom s n] := by unfold domL; rw [List.range_succ, List.map_append]; rfl
theorem domL_len (s : ByteArray) (n : Nat) : (domL s n).length = n := by simp [domL]
theorem wholeL_dom (s : ByteArray) (n : Nat) : wholeL s n = (domL s n).map bitD := by unfold wholeL domL; rw [List.map_map]; rfl
theorem toList_nums (L : List Int) : (strOfNums L).toList = L.map fun c => UInt8.ofNat c.toNat := by rw [ByteArray.toList_eq, strOfNums_data]
theorem less_lle : ∀ x y : List Bool, x.length = y.length →
    (Op.bytesLess ((x.map bitD).map fun c => UInt8.ofNat c.toNat) ((y.map bitD).map fun c => UInt8.ofNat c.toNat) || ((x.map bitD).map fun c => UInt8.ofNat c.toNat) == ((y.map bitD).map fun c => UInt8.ofNat c.toNat)) = lle x y
  | [], [], _ => rfl
  | a :: x, b :: y, h => by
    have ih := less_lle x y (by simpa using h)
    have e0 : (bitD false).toNat = 49 := rfl
    have e1 : (bitD true).toNat = 48 := rfl
    have l1 : (UInt8.ofNat 48 < UInt8.ofNat 49) := by decide
    have l2 : ¬ (UInt8.ofNat 49 < UInt8.ofNat 48) := by decide
    have l3 : ¬ (UInt8.ofNat 49 < UInt8.ofNat 49) := by decide
    have l4 : ¬ (UInt8.ofNat 48 < UInt8.ofNat 48) := by decide
    have q1 : (UInt8.ofNat 48 == UInt8.ofNat 49) = false := by decide
    have q2 : (UInt8.ofNat 49 == UInt8.ofNat 48) = false := by decide
    simp only [List.map_cons, Op.bytesLess, lle, ← ih]
    cases a <;> cases b <;> simp only [e0, e1, List.cons_beq_cons, l1, l2, l3, l4, q1, q2] <;> simp
  | [], _ :: _, h => by cases h
  | _ :: _, [], h => by cases h
theorem leS_lle (n : Nat) (s u : ByteArray) : leS (shown n s) (shown n u) = lle (domL s n) (domL u n) := by
  unfold leS shown
  rw [toList_nums, toList_nums, wholeL_dom, wholeL_dom]
  exact less_lle _ _ (by rw [domL_len, domL_len])

/-! ### who is left behind each place -/
theorem least_iff {L : List ByteArray} {n : Nat} {s : ByteArray} : leastB L n s L = true ↔ ∀ u ∈ L, lle (domL s n) (domL u n) = true := by
  unfold leastB
  rw [List.all_eq_true]
  exact ⟨fun h u hu => by rw [← leS_lle]; exact h u hu, fun h u hu => by rw [leS_lle]; exact h u hu⟩
theorem least_zero (L : List ByteArray) (s : ByteArray) : leastB L 0 s L = true := least_iff.2 fun u _ => rfl
/-- those left behind k places show the same -/
theorem least_same {L : List ByteArray} {n : Nat} {s u : ByteArray} (hs : s ∈ L) (hu : u ∈ L) (h : leastB L n s L = true) (h' : leastB L n u L = true) : domL s n = domL u n :=
  lle_anti _ _ (by rw [domL_len, domL_len]) (least_iff.1 h u hu) (least_iff.1 h' s hs)
theorem least_of_same {L : List ByteArray} {n : Nat} {s u : ByteArray} (h : leastB L n s L = true) (e : domL s n = domL u n) : leastB L n u L = true := by
  rw [least_iff] at h ⊢
  rw [← e]
  exact h
/-- one place more: who shows 1 where one that is left shows 0 goes out -/
theorem least_step {L : List ByteArray} {n : Nat} {s : ByteArray} (hs : s ∈ L) :
    leastB L (n + 1) s L = (leastB L n s L && (dom s n || !(L.any fun u => leastB L n u L && dom u n))) := by
  rw [Bool.eq_iff_iff, Bool.and_eq_true]
  constructor
  · intro h
    rw [least_iff] at h
    have h0 : leastB L n s L = true := least_iff.2 fun u hu => by
      have := h u hu
      rw [domL_succ, domL_succ, lle_snoc _ _ _ _ (by rw [domL_len, domL_len]), Bool.and_eq_true] at this
      exact this.1
    refine ⟨h0, ?_⟩
    cases hd : dom s n
    · simp only [Bool.false_or, Bool.not_eq_true', List.any_eq_false, Bool.and_eq_true, not_and]
      intro u hu hl
      have := h u hu
      rw [domL_succ, domL_succ, lle_snoc _ _ _ _ (by rw [domL_len, domL_len]), least_same hs hu h0 hl, hd] at this
      simp at this
      rw [this.2]
      decide
    · rfl
  · rintro ⟨h0, h1⟩
    rw [least_iff]
    intro u hu
    rw [domL_succ, domL_succ, lle_snoc _ _ _ _ (by rw [domL_len, domL_len]), least_iff.1 h0 u hu, Bool.true_and]
    by_cases e : domL s n = domL u n
    · have hl := least_of_same h0 e
      rw [decide_eq_true e]
      cases hd : dom s n
      · rw [hd] at h1
        simp only [Bool.false_or, Bool.not_eq_true', List.any_eq_false, Bool.and_eq_true, not_and] at h1
        have := h1 u hu hl
        simpa using this
      · rfl
    · rw [decide_eq_false e]; rfl
/-- somebody is left -/
theorem least_some {L : List ByteArray} (n : Nat) (h : L ≠ []) : ∃ s ∈ L, leastB L n s L = true := by
  have key : ∀ M : List ByteArray, M ≠ [] → ∃ s ∈ M, ∀ u ∈ M, lle (domL s n) (domL u n) = true := by
    intro M
    induction M with
    | nil => intro h; exact absurd rfl h
    | cons a M ih =>
      intro _
      by_cases hM : M = []
      · subst hM; exact ⟨a, by simp, fun u hu => by simp at hu; subst hu; exact lle_refl _⟩
      · obtain ⟨s, hs, hl⟩ := ih hM
        rcases lle_total (domL a n) (domL s n) (by rw [domL_len, domL_len]) with h1 | h1
        · refine ⟨a, by simp, fun u hu => ?_⟩
          rcases List.mem_cons.1 hu with rfl | hu
          · exact lle_refl _
          · exact lle_trans _ (domL s n) _ (by rw [domL_len, domL_len]) (by rw [domL_len, domL_len]) h1 (hl u hu)
        · refine ⟨s, List.mem_cons_of_mem _ hs, fun u hu => ?_⟩
          rcases List.mem_cons.1 hu with rfl | hu
          · exact h1
          · exact hl u hu
  obtain ⟨s, hs, hl⟩ := key L h
  exact ⟨s, hs, least_iff.2 hl⟩

/-! ### keys by their bits -/
theorem lle_bits : ∀ (x y : List Bool), x.length = y.length → lle (x.map fun b => !b) (y.map fun b => !b) = decide (numA 0 x ≤ numA 0 y)
  | [], [], _ => rfl
  | a :: x, b :: y, h => by
    have hl : x.length = y.length := by simpa using h
    have ih := lle_bits x y hl
    have key : ∀ (L : List Bool) (a : Nat), numA a L = a * 2 ^ L.length + numA 0 L := by
      intro L
      induction L with
      | nil => intro a; simp [numA]
      | cons c L ih =>
        intro a
        simp only [numA, List.length_cons]
        rw [ih (2 * a + _), ih (2 * 0 + _), Nat.pow_succ]
        simp only [Nat.mul_zero, Nat.zero_add]
        rw [Nat.add_mul, Nat.mul_comm 2 a, Nat.mul_assoc, Nat.mul_comm (2 ^ L.length) 2]
        omega
    have bx := numA_lt x 0 0 (by decide)
    have b_y := numA_lt y 0 0 (by decide)
    rw [Nat.zero_add] at bx b_y
    simp only [List.map_cons, lle, ih]
    have ea : numA 0 (a :: x) = (2 * 0 + if a = true then 1 else 0) * 2 ^ x.length + numA 0 x := key x _
    have eb : numA 0 (b :: y) = (2 * 0 + if b = true then 1 else 0) * 2 ^ y.length + numA 0 y := key y _
    rw [Bool.eq_iff_iff, decide_eq_true_eq, ea, eb, hl]
    rw [hl] at bx
    generalize numA 0 x = X at bx
    generalize numA 0 y = Y at b_y
    generalize 2 ^ y.length = P at bx b_y
    cases a <;> cases b <;> simp <;> omega
  | [], _ :: _, h => by cases h
  | _ :: _, [], h => by cases h
theorem domL_get (s : ByteArray) (n k : Nat) (h : k < (domL s n).length) : (domL s n)[k] = dom s k := by simp [domL]
theorem dom_bits (n w : Nat) : domL (strOfNums (bitsI n w)) w = (bitsT n w).map fun b => !b := by
  apply List.ext_getElem
  · rw [domL_len, List.length_map, bitsT_len]
  · intro k h1 h2
    rw [List.length_map, bitsT_len] at h2
    rw [domL_get, List.getElem_map]
    unfold dom
    rw [bt_nums _ (isBy_bits (bitsI_bits n w))]
    unfold bitsI
    rw [List.getD_eq_getElem?_getD, List.getElem?_map, List.getElem?_eq_getElem (by rw [bitsT_len]; exact h2)]
    simp only [Option.map_some, Option.getD_some]
    cases (bitsT n w)[k]'(by rw [bitsT_len]; exact h2) <;> rfl
/-- of two keys the lesser one's field is ahead -/
theorem lle_keys {a b w : Nat} (ha : a < 2 ^ w) (hb : b < 2 ^ w) : lle (domL (strOfNums (bitsI a w)) w) (domL (strOfNums (bitsI b w)) w) = decide (a ≤ b) := by
  rw [dom_bits, dom_bits, lle_bits _ _ (by rw [bitsT_len, bitsT_len]), num_bits ha, num_bits hb]

end Go.Proofs.YtlfhomahbacmpaaDoor

namespace Go.Proofs.YtlfhomahbacmpaaDoor
open Go.RowKit
set_option linter.unusedVariables false

/-! ### a frame behind an address -/
def BoxF (w : World) (b : Nat) (i n l : Int) (d : ByteArray) : Prop := w.heap[b]? = some (.cells #[.int .i64 i, .int .i64 n, .int .i64 l, .string d] 33 (0, 0))
theorem BoxF.made (w : World) (i n l : Int) (d : ByteArray) : BoxF (w.alloc (.cells #[.int .i64 i, .int .i64 n, .int .i64 l, .string d] 33)) w.heap.size i n l d := by unfold BoxF World.alloc; simp
theorem BoxF.lt {w : World} {b : Nat} {i n l : Int} {d : ByteArray} (h : BoxF w b i n l d) : b < w.heap.size := (Array.getElem?_eq_some_iff.1 h).1
theorem BoxF.below {w w' : World} {b B : Nat} {i n l : Int} {d : ByteArray} (h : BoxF w b i n l d) (hb : Below B w w') (hB : b < B) : BoxF w' b i n l d := (hb.block b hB).trans h
theorem BoxF.later {w w' : World} {b : Nat} {i n l : Int} {d : ByteArray} (h : BoxF w b i n l d) (hb : Below w.heap.size w w') : BoxF w' b i n l d := h.below hb h.lt
theorem BoxF.cells {w : World} {b : Nat} {i n l : Int} {d : ByteArray} (h : BoxF w b i n l d) : w.cell? ⟨b, 0, none⟩ = some (.int .i64 i) ∧ w.cell? ⟨b, 1, none⟩ = some (.int .i64 n) ∧ w.cell? ⟨b, 2, none⟩ = some (.int .i64 l) ∧ w.cell? ⟨b, 3, none⟩ = some (.string d) := by
  unfold BoxF at h
  refine ⟨?_, ?_, ?_, ?_⟩ <;> (rw [Lib.cell_of_heap h]; rfl)
end Go.Proofs.YtlfhomahbacmpaaDoor

namespace Go.Proofs.YtlfhomahbacmpaaDoor
open Go.RowKit
set_option linter.unusedVariables false

theorem dom_past {s : ByteArray} {i : Nat} (h : s.size ≤ i) : dom s i = false := by
  unfold dom bt
  rw [List.getElem?_eq_none (by rw [Array.length_toList]; exact h)]
  rfl
/-- of a row of levels -/
theorem dom_level {L : List ByteArray} {n i : Nat} (h : i < n) : dom (strOfNums (levelL L n)) i = L.any fun s => dom s i := by
  have hb : isBy (levelL L n) := fun x hx => by
    unfold levelL at hx
    obtain ⟨k, _, rfl⟩ := List.mem_map.1 hx
    unfold bitD
    split <;> decide
  show (bt _ i == 48) = _
  rw [bt_nums _ hb]
  unfold levelL
  rw [List.getD_eq_getElem?_getD, List.getElem?_map, List.getElem?_range h]
  simp only [Option.map_some, Option.getD_some]
  cases L.any fun s => dom s i <;> rfl
theorem domL_ext {s u : ByteArray} {n : Nat} (h : domL s n = domL u n) {i : Nat} (hi : i < n) : dom s i = dom u i := by
  have := congrArg (fun l => l[i]?) h
  unfold domL at this
  simpa [List.getElem?_map, List.getElem?_range hi] using this
/-- those that are left -/
def leftL (L : List ByteArray) : List ByteArray := L.filter fun s => leastB L (longL L) s L
theorem left_same {L : List ByteArray} {s u : ByteArray} (hs : s ∈ leftL L) (hu : u ∈ leftL L) : domL s (longL L) = domL u (longL L) := by
  unfold leftL at hs hu
  rw [List.mem_filter] at hs hu
  exact least_same hs.1 hu.1 hs.2 hu.2
theorem left_long (L : List ByteArray) : longL (leftL L) ≤ longL L := longL_le fun s hs => longL_ge (List.mem_filter.1 hs).1
theorem any_same {L : List ByteArray} {s : ByteArray} {i : Nat} (hs : s ∈ L) (h : ∀ u ∈ L, dom u i = dom s i) : (L.any fun u => dom u i) = dom s i := by
  cases hd : dom s i
  · rw [List.any_eq_false]
    intro u hu
    rw [h u hu, hd]
    decide
  · rw [List.any_eq_true]
    exact ⟨s, hs, by rw [hd]⟩
theorem left_level {L : List ByteArray} {s : ByteArray} (hs : s ∈ leftL L) {i : Nat} (hi : i < longL L) : ((leftL L).any fun u => dom u i) = dom s i :=
  any_same hs fun u hu => domL_ext (left_same hu hs) hi
/-- what is shown of those that are left is how each of them begins -/
theorem shown_begins {L : List ByteArray} {s : ByteArray} (hs : s ∈ leftL L) : (wholeL s (longL L)).take (longL (leftL L)) = levelL (leftL L) (longL (leftL L)) := by
  have h := left_long L
  apply List.ext_getElem
  · rw [List.length_take, wholeL_len, levelL_len]; omega
  · intro i h1 h2
    rw [levelL_len] at h2
    simp only [wholeL, levelL, List.getElem_take, List.getElem_map, List.getElem_range]
    rw [left_level hs (by omega)]
/-- and so long it is each of them -/
theorem shown_whole {L : List ByteArray} {s : ByteArray} (hs : s ∈ leftL L) : wholeL s (longL L) = wholeL (strOfNums (levelL (leftL L) (longL (leftL L)))) (longL L) := by
  unfold wholeL
  apply List.map_congr_left
  intro i hi
  rw [List.mem_range] at hi
  by_cases h : i < longL (leftL L)
  · rw [dom_level h, left_level hs hi]
  · rw [dom_past (s := s) (Nat.le_trans (longL_ge hs) (by omega)), dom_past]
    rw [strOfNums_size, levelL_len]; omega
theorem left_none {L : List ByteArray} : leftL L = [] ↔ L = [] := by
  constructor
  · intro h
    apply Classical.byContradiction
    intro hn
    obtain ⟨s, hs, hl⟩ := least_some (longL L) hn
    have : s ∈ leftL L := List.mem_filter.2 ⟨hs, hl⟩
    rw [h] at this
    cases this
  · rintro rfl; rfl
/-- the numbers of those that are left -/
theorem race_left (L : List ByteArray) (k : Nat) (hk : k ≤ L.length) : (raceL L (longL L) k).map (fun i => L.getD i.toNat emp0) = (L.take k).filter fun s => leastB L (longL L) s L := by
  induction k with
  | zero => rfl
  | succ k ih =>
    rw [raceL_succ, List.map_append, ih (by omega), List.take_succ_eq_append_getElem (by omega), List.filter_append]
    have e : L.getD k emp0 = L[k]'(by omega) := by rw [List.getD_eq_getElem?_getD, List.getElem?_eq_getElem (by omega)]; rfl
    rw [e]
    congr 1
    cases hl : leastB L (longL L) (L[k]'(by omega)) L <;> simp [hl, List.getElem?_eq_getElem (show k < L.length by omega)]
theorem race_all (L : List ByteArray) : (raceL L (longL L) L.length).map (fun i => L.getD i.toNat emp0) = leftL L := by
  rw [race_left L _ (Nat.le_refl _), List.take_length]; rfl

/-! ### without one that goes out -/
theorem domL_more {s : ByteArray} {m n : Nat} (h : s.size ≤ m) (hmn : m ≤ n) : domL s n = domL s m ++ List.replicate (n - m) false := by
  apply List.ext_getElem
  · rw [List.length_append, domL_len, domL_len, List.length_replicate]; omega
  · intro i h1 h2
    rw [domL_get]
    by_cases hi : i < m
    · rw [List.getElem_append_left (by rw [domL_len]; exact hi), domL_get]
    · rw [List.getElem_append_right (by rw [domL_len]; omega), List.getElem_replicate]
      exact dom_past (by omega)
theorem lle_app : ∀ (x y r : List Bool), x.length = y.length → lle (x ++ r) (y ++ r) = lle x y
  | [], [], r, _ => by rw [List.nil_append, lle_refl]; rfl
  | a :: x, b :: y, r, h => by
    simp only [List.cons_append, lle, lle_app x y r (by simpa using h)]
  | [], _ :: _, _, h => by cases h
  | _ :: _, [], _, h => by cases h
theorem least_more {L : List ByteArray} {m n : Nat} {s : ByteArray} (hs : s.size ≤ m) (hL : ∀ u ∈ L, u.size ≤ m) (hmn : m ≤ n) : leastB L n s L = leastB L m s L := by
  rw [Bool.eq_iff_iff, least_iff, least_iff]
  constructor
  · intro h u hu
    have := h u hu
    rwa [domL_more hs hmn, domL_more (hL u hu) hmn, lle_app _ _ _ (by rw [domL_len, domL_len])] at this
  · intro h u hu
    rw [domL_more hs hmn, domL_more (hL u hu) hmn, lle_app _ _ _ (by rw [domL_len, domL_len])]
    exact h u hu
theorem least_without {L R : List ByteArray} {n : Nat} {s t : ByteArray} (hR : ∀ u ∈ R, u ∈ L) (hL : ∀ u ∈ L, u ∈ R ∨ u = t) (hs : s ∈ R) (ht : leastB L n t L = false) : leastB R n s R = leastB L n s L := by
  rw [Bool.eq_iff_iff, least_iff, least_iff]
  constructor
  · intro h
    obtain ⟨m, hm, hml⟩ := least_some n (L := L) (fun e => by rw [e] at hR; cases hR s hs)
    have hmR : m ∈ R := by
      rcases hL m hm with h1 | rfl
      · exact h1
      · rw [hml] at ht; cases ht
    intro u hu
    exact lle_trans _ (domL m n) _ (by rw [domL_len, domL_len]) (by rw [domL_len, domL_len]) (h m hmR) (least_iff.1 hml u hu)
  · intro h u hu
    exact h u (hR u hu)
/-- without the one at a place -/
def without (L : List ByteArray) (k : Nat) : List ByteArray := L.take k ++ L.drop (k + 1)
theorem without_len {L : List ByteArray} {k : Nat} (h : k < L.length) : (without L k).length = L.length - 1 := by
  unfold without
  rw [List.length_append, List.length_take, List.length_drop]; omega
theorem without_get {L : List ByteArray} {k i : Nat} (h : k < L.length) : (without L k).getD i emp0 = L.getD (if i < k then i else i + 1) emp0 := by
  unfold without
  rw [List.getD_eq_getElem?_getD, List.getD_eq_getElem?_getD]
  congr 1
  by_cases hi : i < k
  · rw [if_pos hi, List.getElem?_append_left (by rw [List.length_take]; omega), List.getElem?_take_of_lt hi]
  · rw [if_neg hi, List.getElem?_append_right (by rw [List.length_take]; omega), List.getElem?_drop, List.length_take]
    congr 1
    omega
theorem without_mem {L : List ByteArray} {k : Nat} {u : ByteArray} (h : u ∈ without L k) : u ∈ L := by
  unfold without at h
  rcases List.mem_append.1 h with h | h
  · exact List.mem_of_mem_take h
  · exact List.mem_of_mem_drop h
theorem without_or {L : List ByteArray} {k : Nat} (h : k < L.length) {u : ByteArray} (hu : u ∈ L) : u ∈ without L k ∨ u = L.getD k emp0 := by
  obtain ⟨i, hi, rfl⟩ := List.getElem_of_mem hu
  by_cases h1 : i = k
  · subst h1
    right
    rw [List.getD_eq_getElem?_getD, List.getElem?_eq_getElem hi]; rfl
  · left
    unfold without
    rw [List.mem_append]
    by_cases h2 : i < k
    · left
      exact List.mem_take_iff_getElem.2 ⟨i, by omega, rfl⟩
    · right
      exact List.mem_drop_iff_getElem.2 ⟨i - (k + 1), by omega, by congr 1; omega⟩
def shift (k : Nat) (i : Int) : Int := if (k : Int) < i then i - 1 else i
theorem filter_shift (p : Nat → Bool) (k : Nat) (hp : p k = false) : ∀ n, k < n → ((List.range n).filter p).map (fun i : Nat => shift k (i : Int)) = ((List.range (n - 1)).filter fun i => p (if i < k then i else i + 1)).map fun i : Nat => (i : Int) := by
  intro n
  induction n with
  | zero => intro h; omega
  | succ n ih =>
    intro h
    rw [List.range_succ, List.filter_append, List.map_append, Nat.add_sub_cancel]
    by_cases e : n = k
    · subst e
      simp only [List.filter_cons, hp, Bool.false_eq_true, if_false, List.filter_nil, List.map_nil, List.append_nil]
      have key : ∀ m, m ≤ n → ((List.range m).filter p).map (fun i : Nat => shift n (i : Int)) = ((List.range m).filter fun i => p (if i < n then i else i + 1)).map fun i : Nat => (i : Int) := by
        intro m
        induction m with
        | zero => intro _; rfl
        | succ m ihm =>
          intro hm
          rw [List.range_succ, List.filter_append, List.map_append, List.filter_append, List.map_append, ihm (by omega)]
          congr 1
          simp only [List.filter_cons, List.filter_nil, if_pos (show m < n by omega)]
          cases p m
          · rfl
          · simp only [if_true, List.map_cons, List.map_nil, shift]
            rw [if_neg (by omega)]
      exact key n (Nat.le_refl _)
    · have hk : k < n := by omega
      obtain ⟨m, rfl⟩ : ∃ m, n = m + 1 := ⟨n - 1, by omega⟩
      rw [ih hk, Nat.add_sub_cancel, List.range_succ (n := m), List.filter_append, List.map_append]
      congr 1
      simp only [List.filter_cons, List.filter_nil, if_neg (show ¬ m < k by omega)]
      cases p (m + 1)
      · rfl
      · simp only [if_true, List.map_cons, List.map_nil, shift]
        rw [if_pos (by omega)]
        congr 1
        omega
theorem race_without {L : List ByteArray} {k : Nat} (hk : k < L.length) (ht : leastB L (longL L) (L.getD k emp0) L = false) :
    raceL (without L k) (longL (without L k)) (without L k).length = (raceL L (longL L) L.length).map (shift k) := by
  unfold raceL
  rw [List.map_map]
  have e := filter_shift (fun i => leastB L (longL L) (L.getD i emp0) L) k ht L.length hk
  refine Eq.trans ?_ (Eq.trans e.symm ?_)
  · rw [without_len hk]
    congr 1
    apply List.filter_congr
    intro i hi
    rw [List.mem_range] at hi
    have hm : (without L k).getD i emp0 ∈ without L k := by
      rw [List.getD_eq_getElem?_getD, List.getElem?_eq_getElem (by rw [without_len hk]; omega)]
      exact List.getElem_mem _
    have hle : longL (without L k) ≤ longL L := longL_le fun s hs => longL_ge (without_mem hs)
    rw [← least_more (n := longL L) (longL_ge hm) (fun u hu => longL_ge hu) hle, least_without (t := L.getD k emp0) (fun u hu => without_mem hu) (fun u hu => without_or hk hu) hm ht, without_get hk]
  · rfl
end Go.Proofs.YtlfhomahbacmpaaDoor
