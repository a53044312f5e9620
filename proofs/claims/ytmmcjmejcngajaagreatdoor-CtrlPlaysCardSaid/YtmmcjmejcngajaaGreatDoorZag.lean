/- Frame: the contracts of the document's KeyBits, Key. Frame: the contracts of the document's KeyBits of narrow frames, Key. Frame: the contract of the document's Key; the walk of FrameKeys. Conf: what is known of a node; contracts of the document's Right, State, Do. Conf: the contract of the document's Do. Conf: what may be may be behind whatever happens; the order of states; failures again and again. No program is meant here. Of no program: rows of whole numbers, of texts: read, gathered by append. -/
import Derived.Test.YtmmcjmejcngajaaGreatDoorZaf
import Derived.Test.YtmmcjmejcngajaaGreatDoorZab
import Derived.Lib.Hide
import Derived.OwnWalk
namespace Go.Proofs.YtmmcjmejcngajaaGreatDoor
open Go.RowKit
set_option linter.unusedVariables false

theorem own_below {B : Nat} {e : TypeId} {s n : Nat} {v : Value} {xs : List Value} {w w1 : World} (h : w.ownsRow B e s v n xs) (hb : Below w.heap.size w w1) : w1.ownsRow B e s v n xs := by
  refine ⟨h.1, ?_⟩
  rcases h.2 with h0 | ⟨g, cap, cur, hv, hg, hh, r⟩
  · exact .inl h0
  · exact .inr ⟨g, cap, cur, hv, hg, by rw [hb.block _ (lt_of_heap hh)]; exact hh, r⟩
theorem gath.nil {B : Nat} {w wr : World} (h : Below B w wr) (hB : B ≤ wr.heap.size) : gath B w (.slice none 0 0) [] wr := ⟨World.ownsRow_nil _ _ _ _, h, hB⟩
theorem gath.below {B : Nat} {w wr w1 : World} {v : Value} {l : List Bool} (h : gath B w v l wr) (hb : Below wr.heap.size wr w1) : gath B w v l w1 :=
  ⟨own_below h.1 hb, h.2.1.trans (hb.mono h.2.2), Nat.le_trans h.2.2 hb.size⟩
theorem gath.alloc {B : Nat} {w wr : World} {v : Value} {l : List Bool} (h : gath B w v l wr) (o : Obj) : gath B w v l (wr.alloc o) := h.below ((Below.refl _ _).alloc (Nat.le_refl _) o)
theorem gath.drewN {B : Nat} {w wr : World} {v : Value} {l : List Bool} (h : gath B w v l wr) (n : Nat) : gath B w v l (wr.drewN n) := h.below (below_drewN (Below.refl _ _) n)
def rowAt (w : World) (g : Nat) (l : List Bool) : Prop := ∀ j u, (boolRow l)[j]? = some u → w.cell? ((⟨g, 0, none⟩ : Addr).add j) = some u
theorem gath.row {B : Nat} {w wr : World} {v : Value} {l : List Bool} (h : gath B w v l wr) (hl : 0 < l.length) : ∃ g cap, v = .slice (some ⟨g, 0, none⟩) l.length cap ∧ rowAt wr g l := by
  obtain ⟨h1, _, _⟩ := h
  rcases h1.2 with ⟨_, h0⟩ | ⟨g, cap, cur, hv, hg, hh, hc, hm, hs, ht⟩
  · omega
  · refine ⟨g, cap, hv, fun j u hj => ?_⟩
    have hjl : j < l.length := by
      have := (List.getElem?_eq_some_iff.1 hj).1
      simpa [boolRow] using this
    rw [← ht, List.getElem?_take_of_lt (by omega)] at hj
    have e : (⟨g, 0, none⟩ : Addr).add j = ⟨g, j, none⟩ := by unfold Addr.add; split <;> simp_all
    rw [e, cell_of_row _ _ _ _ _ _ hh]
    simpa using hj
theorem row_two (w : World) (a b : Bool) (t : TypeId) : rowAt (w.alloc (.cells #[.bool a, .bool b] t)) w.heap.size [a, b] := fnews_two w _ _ t
theorem row_one (w : World) (a : Bool) (t : TypeId) : rowAt (w.alloc (.cells #[.bool a] t)) w.heap.size [a] := fnews_one w _ t

theorem wpList_gath {ops : Array Oper} {rest : List Oper} {o : Oper} {a : Act} {Q : Exit → Act → World → Prop} {W : World} (hgd : o.guard = none) (s x : Operand)
    (ho : o.op = .call { callee := .builtin .append, args := #[s, x], argTypes := #[105, 105] }) {B : Nat} {w : World} {v : Value} {l : List Bool} (hs : a.eval s = v) (hg : gath B w v l W)
    (g m c : Nat) (news : List Bool) (hx : a.eval x = .slice (some ⟨g, 0, none⟩) m c) (hl : news.length = m) (hn : rowAt W g news) (hsz : l.length + m ≤ 1000)
    (h : ∀ v' w', gath B w v' (l ++ news) w' → wpList Tryz.prog ops Q rest (a.put o.dst v') w') : wpList Tryz.prog ops Q (o :: rest) a W := by
  obtain ⟨i0, hi, hz0, hz1, hz2⟩ := info_parts info_bool
  refine wpList_append_own _ hgd s x 105 ho B 4 i0 (.bool false) 1 1 Tryz.underlying105 hi hz0 hz1 hz2 rfl (by decide) v l.length (boolRow l) hs hg.1 ⟨g, 0, none⟩ m c (boolRow news) hx (by simp [boolRow, hl]) hn (fun u hu => ?_) ?_ ?_ hg.2.2 ?_
  · unfold boolRow at hu
    obtain ⟨b, _, rfl⟩ := List.mem_map.1 hu
    rfl
  · unfold maxLen; omega
  · omega
  · intro v' w' hown hgr _
    refine h v' w' ⟨?_, hg.2.1.grown hgr hg.2.2 ?_, Nat.le_trans hg.2.2 hgr.size⟩
    · rw [List.length_append, hl, boolRow_app]; exact hown
    · intro k hk
      rcases hg.1.2 with ⟨rfl, _⟩ | ⟨g, cap, cur, rfl, hgg, _⟩
      · cases hk
      · cases hk; exact hgg

theorem rbits11 (n : Int) (w : World) (h0 : 0 ≤ n) (h1 : n ≤ 536870911) : Calls Tryz.prog 87 #[.int .i64 n, .int .i64 11] w (BitsPost n 11 w) := rbits_any n 11 w h0 h1 (by decide)
theorem rbits18 (n : Int) (w : World) (h0 : 0 ≤ n) (h1 : n ≤ 536870911) : Calls Tryz.prog 87 #[.int .i64 n, .int .i64 18] w (BitsPost n 18 w) := rbits_any n 18 w h0 h1 (by decide)

def KbPost (l : List Bool) (w : World) (e : Ending) (w' : World) : Prop := ∃ v, e = .returned v ∧ gath w.heap.size w v l w'
theorem gath.base {w w' : World} {o : Obj} {v : Value} {l : List Bool} (h : gath (w.alloc o).heap.size (w.alloc o) v l w') : gath w.heap.size w v l w' := by
  obtain ⟨h1, h2, h3⟩ := h
  refine ⟨⟨h1.1, ?_⟩, fbelow_a _ h2, Nat.le_trans (by simp) h3⟩
  rcases h1.2 with h0 | ⟨g, cap, cur, hv, hg, r⟩
  · exact .inl h0
  · exact .inr ⟨g, cap, cur, hv, Nat.le_trans (by simp) hg, r⟩
theorem gath.fix {w w' : World} {o : Obj} {v : Value} {l : List Bool} (h : gath (w.heap.size + 1) (w.alloc o) v l w') : gath (w.alloc o).heap.size (w.alloc o) v l w' := by rw [World.size_alloc]; exact h
def wideL (i : Int) (r dd : Bool) : List Bool := ((((([] ++ bitsL (i / 262144) 11 11) ++ [true, true]) ++ bitsL (i % 262144) 18 18) ++ [r]) ++ [dd])
def narrowL (i : Int) (r dd : Bool) (k : Nat) : List Bool := ((([] ++ bitsL i 11 11) ++ [r, false]) ++ List.replicate k false)

set_option maxHeartbeats 4000000 in
theorem kb_wide {i n l : Int} {d : ByteArray} {r dd : Bool} (i0 : 0 ≤ i) (i1 : i ≤ 536870911) (n0 : 0 ≤ n) (n1 : n ≤ 63) (he : fE n = true) (hr : fR n = r) (hd : fD n = dd) (w : World) :
    Calls Tryz.prog 71 #[.agg #[.int .i64 i, .int .i64 n, .int .i64 l, .string d]] w (KbPost (wideL i r dd) w) := by
  have He := Lib.hid he
  have Hr := Lib.hid hr
  have Hd := Lib.hid hd
  have ia : 0 ≤ i / 262144 := by omega
  have ib : i / 262144 ≤ 536870911 := by omega
  have ic : 0 ≤ i % 262144 := by omega
  have id : i % 262144 ≤ 536870911 := by omega
  clear he hr hd
  have G0 := Lib.hid (gath.nil (B := (w.alloc (.cells #[.int .i64 i, .int .i64 n, .int .i64 l, .string d] 33)).heap.size) (w := w.alloc (.cells #[.int .i64 i, .int .i64 n, .int .i64 l, .string d] 33)) (wr := w.alloc (.cells #[.int .i64 i, .int .i64 n, .int .i64 l, .string d] 33)) (Below.refl _ _) (Nat.le_refl _))
  go_enter Tryz.func71, Tryz.ntmps71
  go_wp2_with fail
  refine (has1 He.out n0 n1 _ _ _ _).mono ?_
  rintro e w1 ⟨rfl, hb1⟩
  have G1 := Lib.hid (G0.out.below hb1)
  obtain ⟨hc1, hf1⟩ := fbcell G1.out.2.1
  go_wp2_with fail
  refine (rbits11 _ _ ia ib).mono ?_
  rintro e w2 ⟨v2, rfl, hg2⟩
  obtain ⟨g2, cap2, rfl, hr2⟩ := hg2.row (by rw [bitsL_len]; decide)
  have R2 := Lib.hid hr2
  have G2 := Lib.hid (G1.out.below hg2.2.1)
  obtain ⟨hc2, hf2⟩ := fbcell G2.out.2.1
  clear hr2 hg2
  have L3 : Hid ((bitsL (i / 262144) 11 11).length = 11) := Lib.hid (by rw [bitsL_len])
  have M3 : Hid ((([] : List Bool)).length + 11 ≤ 1000) := Lib.hid (by simp [])
  go_wp2_with (at_builtin; refine wpList_gath rfl _ _ rfl rfl (G2.out) g2 11 _ (bitsL (i / 262144) 11 11) rfl L3.out R2.out M3.out ?_)
  intro v3 w3 hg3
  have G3 := Lib.hid (gath.fix hg3)
  clear hg3
  obtain ⟨hc3, hf3⟩ := fbcell G3.out.2.1
  have L4 : Hid (([true, true]).length = 2) := Lib.hid (by rfl)
  have M4 : Hid (([] ++ bitsL (i / 262144) 11 11).length + 2 ≤ 1000) := Lib.hid (by simp [bitsL_len])
  go_wp2_with (at_builtin; refine wpList_gath rfl _ _ rfl rfl (G3.out.alloc _) w3.heap.size 2 _ ([true, true]) rfl L4.out (row_two _ _ _ _) M4.out ?_)
  intro v4 w4 hg4
  have G4 := Lib.hid (gath.fix hg4)
  clear hg4
  obtain ⟨hc4, hf4⟩ := fbcell G4.out.2.1
  go_wp2_with fail
  refine (rbits18 _ _ ic id).mono ?_
  rintro e w5 ⟨v5, rfl, hg5⟩
  obtain ⟨g5, cap5, rfl, hr5⟩ := hg5.row (by rw [bitsL_len]; decide)
  have R5 := Lib.hid hr5
  have G5 := Lib.hid (G4.out.below hg5.2.1)
  obtain ⟨hc5, hf5⟩ := fbcell G5.out.2.1
  clear hr5 hg5
  have L6 : Hid ((bitsL (i % 262144) 18 18).length = 18) := Lib.hid (by rw [bitsL_len])
  have M6 : Hid ((([] ++ bitsL (i / 262144) 11 11) ++ [true, true]).length + 18 ≤ 1000) := Lib.hid (by simp [bitsL_len])
  go_wp2_with (at_builtin; refine wpList_gath rfl _ _ rfl rfl (G5.out) g5 18 _ (bitsL (i % 262144) 18 18) rfl L6.out R5.out M6.out ?_)
  intro v6 w6 hg6
  have G6 := Lib.hid (gath.fix hg6)
  clear hg6
  obtain ⟨hc6, hf6⟩ := fbcell G6.out.2.1
  go_wp2_with fail
  refine (has2 Hr.out n0 n1 _ _ _ _).mono ?_
  rintro e w7 ⟨rfl, hb7⟩
  have G7 := Lib.hid (G6.out.below hb7)
  obtain ⟨hc7, hf7⟩ := fbcell G7.out.2.1
  have L8 : Hid (([r]).length = 1) := Lib.hid (by rfl)
  have M8 : Hid (((([] ++ bitsL (i / 262144) 11 11) ++ [true, true]) ++ bitsL (i % 262144) 18 18).length + 1 ≤ 1000) := Lib.hid (by simp [bitsL_len])
  go_wp2_with (at_builtin; refine wpList_gath rfl _ _ rfl rfl (G7.out.alloc _) w7.heap.size 1 _ ([r]) rfl L8.out (row_one _ _ _) M8.out ?_)
  intro v8 w8 hg8
  have G8 := Lib.hid (gath.fix hg8)
  clear hg8
  obtain ⟨hc8, hf8⟩ := fbcell G8.out.2.1
  go_wp2_with fail
  refine (has8 Hd.out n0 n1 _ _ _ _).mono ?_
  rintro e w9 ⟨rfl, hb9⟩
  have G9 := Lib.hid (G8.out.below hb9)
  obtain ⟨hc9, hf9⟩ := fbcell G9.out.2.1
  have L10 : Hid (([dd]).length = 1) := Lib.hid (by rfl)
  have M10 : Hid ((((([] ++ bitsL (i / 262144) 11 11) ++ [true, true]) ++ bitsL (i % 262144) 18 18) ++ [r]).length + 1 ≤ 1000) := Lib.hid (by simp [bitsL_len])
  go_wp2_with (at_builtin; refine wpList_gath rfl _ _ rfl rfl (G9.out.alloc _) w9.heap.size 1 _ ([dd]) rfl L10.out (row_one _ _ _) M10.out ?_)
  intro v10 w10 hg10
  have G10 := Lib.hid (gath.fix hg10)
  clear hg10
  obtain ⟨hc10, hf10⟩ := fbcell G10.out.2.1
  go_wp2
  go_ret
  exact ⟨_, rfl, G10.out.base⟩

end Go.Proofs.YtmmcjmejcngajaaGreatDoor

namespace Go.Proofs.YtmmcjmejcngajaaGreatDoor
open Go.RowKit
set_option linter.unusedVariables false

theorem narrowL_len (i : Int) (r dd : Bool) (k : Nat) : (narrowL i r dd k).length = 13 + k := by simp [narrowL, bitsL_len]; omega
theorem narrowL_succ (i : Int) (r dd : Bool) (k : Nat) : narrowL i r dd (k + 1) = narrowL i r dd k ++ [false] := by
  unfold narrowL; rw [List.replicate_succ']; simp
def narRel (W : World) (i : Int) (r dd : Bool) (v j : Value) (wr : World) : Prop := ∃ k : Nat, k ≤ 19 ∧ j = .int .i64 k ∧ gath W.heap.size W v (narrowL i r dd k) wr

set_option maxHeartbeats 4000000 in
theorem kb_narrow {i n l : Int} {d : ByteArray} {r dd : Bool} (i0 : 0 ≤ i) (i1 : i ≤ 536870911) (n0 : 0 ≤ n) (n1 : n ≤ 63) (he : fE n = false) (hr : fR n = r) (hd : fD n = dd) (w : World) :
    Calls Tryz.prog 71 #[.agg #[.int .i64 i, .int .i64 n, .int .i64 l, .string d]] w (KbPost (narrowL i r dd 19 ++ [dd]) w) := by
  have He := Lib.hid he
  have Hr := Lib.hid hr
  have Hd := Lib.hid hd
  clear he hr hd
  have G0 := Lib.hid (gath.nil (B := (w.alloc (.cells #[.int .i64 i, .int .i64 n, .int .i64 l, .string d] 33)).heap.size) (w := w.alloc (.cells #[.int .i64 i, .int .i64 n, .int .i64 l, .string d] 33)) (wr := w.alloc (.cells #[.int .i64 i, .int .i64 n, .int .i64 l, .string d] 33)) (Below.refl _ _) (Nat.le_refl _))
  go_enter Tryz.func71, Tryz.ntmps71
  go_wp2_with fail
  refine (has1 He.out n0 n1 _ _ _ _).mono ?_
  rintro e w1 ⟨rfl, hb1⟩
  have G1 := Lib.hid (G0.out.below hb1)
  obtain ⟨hc1, hf1⟩ := fbcell G1.out.2.1
  go_wp2_with fail
  refine (rbits11 _ _ i0 i1).mono ?_
  rintro e w2 ⟨v2, rfl, hg2⟩
  obtain ⟨g2, cap2, rfl, hr2⟩ := hg2.row (by rw [bitsL_len]; decide)
  have R2 := Lib.hid hr2
  have G2 := Lib.hid (G1.out.below hg2.2.1)
  obtain ⟨hc2, hf2⟩ := fbcell G2.out.2.1
  clear hr2 hg2
  have L3 : Hid ((bitsL i 11 11).length = 11) := Lib.hid (by rw [bitsL_len])
  have M3 : Hid ((([] : List Bool)).length + 11 ≤ 1000) := Lib.hid (by simp [])
  go_wp2_with (at_builtin; refine wpList_gath rfl _ _ rfl rfl (G2.out) g2 11 _ (bitsL i 11 11) rfl L3.out R2.out M3.out ?_)
  intro v3 w3 hg3
  have G3 := Lib.hid (gath.fix hg3)
  clear hg3
  obtain ⟨hc3, hf3⟩ := fbcell G3.out.2.1
  go_wp2_with fail
  refine (has2 Hr.out n0 n1 _ _ _ _).mono ?_
  rintro e w4 ⟨rfl, hb4⟩
  have G4 := Lib.hid (G3.out.below hb4)
  obtain ⟨hc4, hf4⟩ := fbcell G4.out.2.1
  have L5 : Hid (([r, false]).length = 2) := Lib.hid (by rfl)
  have M5 : Hid (([] ++ bitsL i 11 11).length + 2 ≤ 1000) := Lib.hid (by simp [bitsL_len])
  go_wp2_with (at_builtin; refine wpList_gath rfl _ _ rfl rfl (G4.out.alloc _) w4.heap.size 2 _ ([r, false]) rfl L5.out (row_two _ _ _ _) M5.out ?_)
  intro v5 w5 hg5
  have G5 := Lib.hid (gath.fix hg5)
  clear hg5
  obtain ⟨hc5, hf5⟩ := fbcell G5.out.2.1
  have G6 : Hid (gath (w.alloc (.cells #[.int .i64 i, .int .i64 n, .int .i64 l, .string d] 33)).heap.size (w.alloc (.cells #[.int .i64 i, .int .i64 n, .int .i64 l, .string d] 33)) v5 (narrowL i r dd 0) w5) := Lib.hid (by unfold narrowL; simpa using G5.out)
  clear hc1 hf1 hc2 hf2 hc3 hf3 hc4 hf4
  go_wp2_with fail
  go_loopw [3, 4] (fun v j wr => narRel (w.alloc (.cells #[.int .i64 i, .int .i64 n, .int .i64 l, .string d] 33)) i r dd v j wr) (fun _ j _ => 19 - (intOf j).toNat)
  case atStart => exact ⟨0, by omega, rfl, G6.out⟩
  case round =>
    obtain ⟨k, hk, rfl, hgk⟩ := hrel
    have GK := Lib.hid hgk
    have LK := Lib.hid (narrowL_len i r dd k)
    obtain ⟨hck, hfk⟩ := fbcell hgk.2.1
    clear hgk
    by_cases hp : k < 19
    · have M : Hid ((narrowL i r dd k).length + 1 ≤ 1000) := Lib.hid (by rw [LK.out]; omega)
      go_wp2_with (at_builtin; refine wpList_gath rfl _ _ rfl rfl (GK.out.alloc _) wr.heap.size 1 _ [false] rfl rfl (row_one _ _ _) M.out ?_)
      intro v' w' hg'
      have G' := Lib.hid (gath.fix hg')
      clear hg'
      go_wp2
      go_roundw
      case rel => exact ⟨k + 1, by omega, by go_num, by rw [narrowL_succ]; exact G'.out⟩
      case measure => simp [intOf]; omega
    · obtain rfl : k = 19 := by omega
      go_wp2_with fail
      refine (has8 Hd.out n0 n1 _ _ _ _).mono ?_
      rintro e w7 ⟨rfl, hb7⟩
      have G7 := Lib.hid (GK.out.below hb7)
      have M : Hid ((narrowL i r dd 19).length + 1 ≤ 1000) := Lib.hid (by rw [LK.out]; omega)
      go_wp2_with (at_builtin; refine wpList_gath rfl _ _ rfl rfl (G7.out.alloc _) w7.heap.size 1 _ [dd] rfl rfl (row_one _ _ _) M.out ?_)
      intro v' w' hg'
      have G' := Lib.hid (gath.fix hg')
      clear hg'
      go_wp2
      go_ret
      exact ⟨_, rfl, G'.out.base⟩

/-! ### the number of bits -/
def valL (l : List Bool) : Int := l.foldl (fun a b => 2 * a + b01 b) 0
theorem valL_snoc (l : List Bool) (b : Bool) : valL (l ++ [b]) = 2 * valL l + b01 b := by unfold valL; rw [List.foldl_append]; rfl
theorem snoc_ind {P : List Bool → Prop} (h0 : P []) (h1 : ∀ l b, P l → P (l ++ [b])) (l : List Bool) : P l := by
  rw [← List.reverse_reverse l]
  induction l.reverse with
  | nil => exact h0
  | cons a t ih => rw [List.reverse_cons]; exact h1 _ _ ih
theorem valL_bd (l : List Bool) : 0 ≤ valL l ∧ valL l < 2 ^ l.length := by
  refine snoc_ind (P := fun l => 0 ≤ valL l ∧ valL l < 2 ^ l.length) (by simp [valL]) (fun l b ih => ?_) l
  · show 0 ≤ valL (l ++ [b]) ∧ valL (l ++ [b]) < 2 ^ (l ++ [b]).length
    rw [valL_snoc, List.length_append]
    have := b01_bd b
    have e : (2 : Int) ^ (l.length + [b].length) = 2 * 2 ^ l.length := by rw [List.length_singleton, Int.pow_succ]; omega
    omega
theorem valL_app (a b : List Bool) : valL (a ++ b) = valL a * 2 ^ b.length + valL b := by
  refine snoc_ind (P := fun b => valL (a ++ b) = valL a * 2 ^ b.length + valL b) (by simp [valL]) (fun l x ih => ?_) b
  · show valL (a ++ (l ++ [x])) = valL a * 2 ^ (l ++ [x]).length + valL (l ++ [x])
    rw [← List.append_assoc, valL_snoc, valL_snoc, ih, List.length_append]
    have e : (2 : Int) ^ (l.length + [x].length) = 2 * 2 ^ l.length := by rw [List.length_singleton, Int.pow_succ]; omega
    rw [e, Int.mul_add]
    have e2 : 2 * (valL a * 2 ^ l.length) = valL a * (2 * 2 ^ l.length) := by rw [← Int.mul_assoc, ← Int.mul_assoc, Int.mul_comm 2 (valL a)]
    omega
theorem valL_bits (n : Int) (h0 : 0 ≤ n) (m : Nat) : ∀ k, k ≤ m → valL (bitsL n m k) = hv n (m - k) % 2 ^ k
  | 0, _ => by simp [bitsL, valL]
  | k + 1, hk => by
    have ih := valL_bits n h0 m k (by omega)
    rw [bitsL_succ, valL_snoc, ih]
    have e1 : m - k = (m - (k + 1)) + 1 := by omega
    rw [e1, hv_succ]
    unfold fbitB
    rw [show m - 1 - k = m - (k + 1) by omega]
    generalize hv n (m - (k + 1)) = x
    have e : (2 : Int) ^ (k + 1) = 2 ^ k * 2 := Int.pow_succ _ _
    have hp : (0 : Int) < 2 ^ k := Int.pow_pos (by decide)
    rw [e]
    have hx : x % 2 = 0 ∨ x % 2 = 1 := by omega
    have hdm : x = 2 * (x / 2) + x % 2 := by omega
    have h3 : x % (2 ^ k * 2) = 2 * (x / 2 % 2 ^ k) + x % 2 := by
      have hq := Int.mul_ediv_add_emod (x / 2) (2 ^ k)
      have hr0 := Int.emod_nonneg (x / 2) (Int.ne_of_gt hp)
      have hr1 := Int.emod_lt_of_pos (x / 2) hp
      have h4 : x = (2 * (x / 2 % 2 ^ k) + x % 2) + (2 ^ k * 2) * (x / 2 / 2 ^ k) := by
        have h5 : (2 ^ k * 2) * (x / 2 / 2 ^ k) = 2 * (2 ^ k * (x / 2 / 2 ^ k)) := by rw [Int.mul_comm (2 ^ k) 2, Int.mul_assoc]
        omega
      have h6 : x % (2 ^ k * 2) = ((2 * (x / 2 % 2 ^ k) + x % 2) + (2 ^ k * 2) * (x / 2 / 2 ^ k)) % (2 ^ k * 2) := congrArg (· % (2 ^ k * 2)) h4
      rw [h6, Int.add_mul_emod_self_left]
      exact Int.emod_eq_of_lt (by omega) (by omega)
    rw [h3]
    rcases hx with h | h <;> simp [h, b01]

end Go.Proofs.YtmmcjmejcngajaaGreatDoor

namespace Go.Proofs.YtmmcjmejcngajaaGreatDoor
open Go.RowKit
set_option linter.unusedVariables false

theorem valL_whole {n : Int} (h0 : 0 ≤ n) (m : Nat) (h1 : n < 2 ^ m) : valL (bitsL n m m) = n := by
  rw [valL_bits n h0 m m (Nat.le_refl _), Nat.sub_self, hv_zero]
  exact Int.emod_eq_of_lt h0 h1
theorem valL_two (a b : Bool) : valL [a, b] = 2 * b01 a + b01 b := by cases a <;> cases b <;> decide
theorem valL_one (a : Bool) : valL [a] = b01 a := by cases a <;> decide
theorem valL_zeros : ∀ k : Nat, valL (List.replicate k false) = 0
  | 0 => rfl
  | k + 1 => by rw [List.replicate_succ', valL_snoc, valL_zeros k]; rfl
theorem valL_wide {i : Int} (i0 : 0 ≤ i) (i1 : i ≤ 536870911) (r dd : Bool) : valL (wideL i r dd) = i / 262144 * 4194304 + 3145728 + i % 262144 * 4 + b01 r * 2 + b01 dd := by
  unfold wideL
  rw [valL_app, valL_app, valL_app, valL_app, valL_app, valL_whole (by omega) 11 (by omega), valL_whole (by omega) 18 (by omega), valL_two, valL_one, valL_one]
  simp [valL, b01, bitsL_len]
  omega
theorem valL_narrow {i : Int} (i0 : 0 ≤ i) (i1 : i ≤ 2047) (r dd : Bool) : valL (narrowL i r dd 19 ++ [dd]) = i * 4194304 + b01 r * 2097152 + b01 dd := by
  unfold narrowL
  rw [valL_app, valL_app, valL_app, valL_app, valL_zeros, valL_whole i0 11 (by omega), valL_two, valL_one, List.length_replicate]
  simp [valL, b01]
  omega
theorem wideL_len (i : Int) (r dd : Bool) : (wideL i r dd).length = 33 := by simp [wideL, bitsL_len]
theorem narrowL_len2 (i : Int) (r dd : Bool) : (narrowL i r dd 19 ++ [dd]).length = 33 := by simp [narrowL_len]

theorem rowAt.cell {w : World} {g : Nat} {l : List Bool} (h : rowAt w g l) (k : Nat) (hk : k < l.length) : w.cell? ⟨g, k, none⟩ = some (.bool l[k]) := by
  have := h k (.bool l[k]) (by simp [boolRow, hk])
  have e : (⟨g, 0, none⟩ : Addr).add k = ⟨g, k, none⟩ := by unfold Addr.add; split <;> simp_all
  rwa [e] at this
theorem valL_take {l : List Bool} {k : Nat} (hk : k < l.length) : valL (l.take (k + 1)) = 2 * valL (l.take k) + b01 l[k] := by
  rw [List.take_succ_eq_append_getElem hk, valL_snoc]
theorem valL_take_bd {l : List Bool} {k : Nat} (h33 : l.length = 33) : 0 ≤ valL (l.take k) ∧ valL (l.take k) ≤ 8589934592 := by
  have h := valL_bd (l.take k)
  have h2 : (2 : Int) ^ (l.take k).length ≤ 2 ^ 33 := by
    have h3 : 2 ^ (l.take k).length ≤ 2 ^ 33 := Nat.pow_le_pow_right (by decide) (by rw [List.length_take]; omega)
    exact_mod_cast h3
  omega

def keyRel (L : List Bool) (a i : Value) : Prop := ∃ k : Nat, k ≤ 33 ∧ i = .int .i64 k ∧ a = .int .i64 (valL (L.take k))

set_option maxHeartbeats 4000000 in
theorem rkey_no {i n l : Int} {d : ByteArray} (h : (okF i n l d.size && !fX n) = false) (w : World) :
    Calls Tryz.prog 50 #[.agg #[.int .i64 i, .int .i64 n, .int .i64 l, .string d]] w fun e w' => e = .returned (.int .i64 (-1)) ∧ Below w.heap.size w w' := by
  cases ho : okF i n l d.size
  · have H := Lib.hid ho
    clear h ho
    go_enter Tryz.func50, Tryz.ntmps50
    go_wp2_with fail
    refine (rright_v H.out _).mono ?_
    rintro e w1 ⟨rfl, hb⟩
    go_wp2
    go_ret
    exact ⟨rfl, fbelow_a _ hb⟩
  · have H := Lib.hid ho
    have g := good ho
    have n0 := g.n0
    have n1 := g.n1
    have hx : fX n = true := by rw [ho] at h; simpa using h
    have HX := Lib.hid hx
    clear h ho hx g
    go_enter Tryz.func50, Tryz.ntmps50
    go_wp2_with fail
    refine (rright_v H.out _).mono ?_
    rintro e w1 ⟨rfl, hb⟩
    obtain ⟨hc, hf⟩ := fbcell hb
    go_wp2_with fail
    refine (has4 HX.out n0 n1 _ _ _ _).mono ?_
    rintro e w2 ⟨rfl, hb2⟩
    go_wp2
    go_ret
    exact ⟨rfl, fbelow_t (fbelow_a _ hb) hb2⟩

set_option maxHeartbeats 4000000 in
theorem rkey_yes {i n l : Int} {d : ByteArray} {L : List Bool} (h : okF i n l d.size = true) (hx : fX n = false) (hL : L.length = 33)
    (hkb : ∀ w, Calls Tryz.prog 71 #[.agg #[.int .i64 i, .int .i64 n, .int .i64 l, .string d]] w (KbPost L w)) (w : World) :
    Calls Tryz.prog 50 #[.agg #[.int .i64 i, .int .i64 n, .int .i64 l, .string d]] w fun e w' => e = .returned (.int .i64 (valL L)) ∧ Below w.heap.size w w' := by
  have H := Lib.hid h
  have g := good h
  have n0 := g.n0
  have n1 := g.n1
  have HX := Lib.hid hx
  have HK := Lib.hid hkb
  have HL := Lib.hid hL
  clear h hx g hkb hL
  go_enter Tryz.func50, Tryz.ntmps50
  go_wp2_with fail
  refine (rright_v H.out _).mono ?_
  rintro e w1 ⟨rfl, hb1⟩
  obtain ⟨hc1, hf1⟩ := fbcell hb1
  have hz1 : w.heap.size < w1.heap.size := by have := hb1.size; simp only [World.size_alloc] at this; omega
  go_wp2_with fail
  refine (has4 HX.out n0 n1 _ _ _ _).mono ?_
  rintro e w2 ⟨rfl, hb2⟩
  obtain ⟨hc2, hf2⟩ := fbcell hb2
  go_wp2_with fail
  refine (HK.out _).mono ?_
  rintro e w3 ⟨v3, rfl, hg3⟩
  obtain ⟨g3, cap3, rfl, hr3⟩ := hg3.row (by rw [HL.out]; decide)
  rw [HL.out]
  have HR := Lib.hid hr3
  have hbb := fbelow_t (fbelow_t (fbelow_a _ hb1) hb2) hg3.2.1
  clear hr3 hg3 hc1 hf1 hc2 hf2
  go_wp2_with fail
  go_loop [3, 5] (fun a i => keyRel L a i) (fun _ i => 33 - (intOf i).toNat)
  case atStart => exact ⟨0, by omega, rfl, rfl⟩
  case round =>
    obtain ⟨k, hk, rfl, rfl⟩ := hrel
    by_cases hp : k < 33
    · have hpl : k < L.length := by rw [HL.out]; exact hp
      obtain ⟨q, hq⟩ : ∃ q, L[k]'hpl = q := ⟨_, rfl⟩
      have hcell := HR.out.cell k hpl
      obtain ⟨h0, h1⟩ := valL_take_bd (k := k) HL.out
      have hS := valL_take hpl
      rw [hq] at hcell hS
      have HS := Lib.hid hS
      clear hpl hS hq
      cases q
      · go_wp2
        go_round
        case rel => exact ⟨k + 1, by omega, by go_num, by rw [HS.out]; simp [b01]⟩
        case measure => simp [intOf]; omega
      · go_wp2
        go_round
        case rel => exact ⟨k + 1, by omega, by go_num, by rw [HS.out]; simp [b01]⟩
        case measure => simp [intOf]; omega
    · obtain rfl : k = 33 := by omega
      go_wp2
      go_ret
      exact ⟨fret_int (by rw [List.take_of_length_le (by rw [HL.out]; decide)]), hbb⟩

theorem rkey_any {i n l : Int} {d : ByteArray} (w : World) :
    Calls Tryz.prog 50 #[.agg #[.int .i64 i, .int .i64 n, .int .i64 l, .string d]] w fun e w' => e = .returned (.int .i64 (keyV i n l d.size)) ∧ Below w.heap.size w w' := by
  unfold keyV
  cases h : (okF i n l d.size && !fX n)
  · exact rkey_no h w
  · simp only [Bool.and_eq_true, Bool.not_eq_true'] at h
    have g := good h.1
    unfold keyN
    cases he : fE n
    · have i1 : i ≤ 2047 := by have := g.i1; rw [topN_v he h.2] at this; simpa using this
      refine (rkey_yes h.1 h.2 (narrowL_len2 i (fR n) (fD n)) (fun w => kb_narrow g.i0 g.top g.n0 g.n1 he rfl rfl w) w).mono fun e w' ⟨h1, h2⟩ => ⟨?_, h2⟩
      rw [h1, valL_narrow g.i0 i1]
      rfl
    · refine (rkey_yes h.1 h.2 (wideL_len i (fR n) (fD n)) (fun w => kb_wide g.i0 g.top g.n0 g.n1 he rfl rfl w) w).mono fun e w' ⟨h1, h2⟩ => ⟨?_, h2⟩
      rw [h1, valL_wide g.i0 g.top]
      rfl
theorem rkey_v {i n l v : Int} {d : ByteArray} (h : keyV i n l d.size = v) (w : World) :
    Calls Tryz.prog 50 #[.agg #[.int .i64 i, .int .i64 n, .int .i64 l, .string d]] w fun e w' => e = .returned (.int .i64 v) ∧ Below w.heap.size w w' := by
  rw [← h]; exact rkey_any w

end Go.Proofs.YtmmcjmejcngajaaGreatDoor

namespace Go.Proofs.YtmmcjmejcngajaaGreatDoor
open Go.RowKit
set_option linter.unusedVariables false

structure Cf where
  t : Int
  r : Int
  o : Bool
  d : Int
def Cf.ok (c : Cf) : Bool := decide (0 ≤ c.t) && decide (c.t ≤ 263) && decide (0 ≤ c.r) && decide (c.r ≤ 135) && decide (0 ≤ c.d) && (if c.o then decide (255 < c.t) else decide (c.t ≤ 255) && decide (c.d = 0))
def Cf.state (c : Cf) : Int := if c.ok then (if c.o then 3 else if 127 < c.t ∨ 127 < c.r then 2 else if 95 < c.t ∨ 95 < c.r then 1 else 0) else -1
abbrev cfV (c : Cf) : Value := .agg #[.int .i64 c.t, .int .i64 c.r, .bool c.o, .int .i64 c.d]

end Go.Proofs.YtmmcjmejcngajaaGreatDoor

namespace Go.Proofs.YtmmcjmejcngajaaGreatDoor
open Go.RowKit
set_option linter.unusedVariables false

def Cf.sent (c : Cf) : Cf := if 0 < c.t then ⟨c.t - 1, c.r, c.o, c.d⟩ else c
def Cf.heard (c : Cf) : Cf := if 127 < c.r then ⟨c.t, 119, c.o, c.d⟩ else if 0 < c.r then ⟨c.t, c.r - 1, c.o, c.d⟩ else c
def Cf.failed (c : Cf) : Cf := ⟨c.t + 8, c.r, c.o || decide (255 < c.t + 8), c.d⟩
def Cf.missed (c : Cf) : Cf := ⟨c.t, min (if c.state = 2 then c.r + 1 else c.r + 8) 135, c.o, c.d⟩
def Cf.idle (c : Cf) (back : Int) : Cf := if (if back < 1 then 1 else back) - 1 ≤ c.d then ⟨0, 0, false, 0⟩ else ⟨c.t, c.r, c.o, c.d + 1⟩
/-- what is known of a node behind whatever happens -/
def Cf.do_ (c : Cf) (what back : Int) : Cf :=
  if c.ok = false then c else if c.o then (if what = 4 then c.idle back else c)
  else if what = 0 then c.sent else if what = 1 then c.heard else if what = 2 then c.failed else if what = 3 then c.missed else c

theorem cfV_eq {a b c : Int} {o : Bool} {x : Cf} (h : (⟨a, b, o, c⟩ : Cf) = x) : Ending.returned (.agg #[.int .i64 a, .int .i64 b, .bool o, .int .i64 c]) = .returned (cfV x) := by subst h; rfl
theorem cf_done {w w1 : World} (h : Below w.heap.size w w1) (a b c e : Value) : Below w.heap.size w ((((w1.setCell ⟨w.heap.size + 1, 0, none⟩ a).setCell ⟨w.heap.size + 1, 1, none⟩ b).setCell ⟨w.heap.size + 1, 2, none⟩ c).setCell ⟨w.heap.size + 1, 3, none⟩ e) :=
  ((((h.setCell (p := ⟨w.heap.size + 1, 0, none⟩) (Nat.le_succ _) _).setCell (p := ⟨w.heap.size + 1, 1, none⟩) (Nat.le_succ _) _).setCell (p := ⟨w.heap.size + 1, 2, none⟩) (Nat.le_succ _) _).setCell (p := ⟨w.heap.size + 1, 3, none⟩) (Nat.le_succ _) _)

end Go.Proofs.YtmmcjmejcngajaaGreatDoor

namespace Go.Proofs.YtmmcjmejcngajaaGreatDoor
open Go.RowKit
set_option linter.unusedVariables false

theorem Cf.ok_iff (c : Cf) : c.ok = true ↔ 0 ≤ c.t ∧ c.t ≤ 263 ∧ 0 ≤ c.r ∧ c.r ≤ 135 ∧ 0 ≤ c.d ∧ (c.o = true → 255 < c.t) ∧ (c.o = false → c.t ≤ 255 ∧ c.d = 0) := by
  unfold Cf.ok
  cases h : c.o <;> simp <;> omega
def cf0 : Cf := ⟨0, 0, false, 0⟩
theorem cf0_ok : cf0.ok = true := rfl
theorem Cf.do_bad {c : Cf} (h : c.ok = false) (what back : Int) : c.do_ what back = c := by unfold Cf.do_; rw [if_pos h]
theorem Cf.do_off {c : Cf} (h : c.ok = true) (ho : c.o = true) (what back : Int) : c.do_ what back = if what = 4 then c.idle back else c := by
  unfold Cf.do_; rw [if_neg (by rw [h]; decide), if_pos ho]
theorem Cf.do_on {c : Cf} (h : c.ok = true) (ho : c.o = false) (what back : Int) : c.do_ what back = if what = 0 then c.sent else if what = 1 then c.heard else if what = 2 then c.failed else if what = 3 then c.missed else c := by
  unfold Cf.do_; rw [if_neg (by rw [h]; decide), if_neg (by rw [ho]; decide)]
theorem Cf.idle_eq (c : Cf) (back : Int) : c.idle back = if (if back < 1 then 1 else back) - 1 ≤ c.d then cf0 else ⟨c.t, c.r, c.o, c.d + 1⟩ := rfl
/-- what may be may be behind whatever happens -/
theorem Cf.do_ok {c : Cf} (h : c.ok = true) (what back : Int) : (c.do_ what back).ok = true := by
  have hb := c.ok_iff.1 h
  obtain ⟨t0, t1, r0, r1, d0, ho1, ho0⟩ := hb
  cases ho : c.o
  · rw [Cf.do_on h ho]
    have := ho0 ho
    split
    · rw [Cf.ok_iff]; unfold Cf.sent; split <;> simp [ho] <;> omega
    · split
      · rw [Cf.ok_iff]; unfold Cf.heard; split
        · simp [ho]; omega
        · split <;> simp [ho] <;> omega
      · split
        · rw [Cf.ok_iff]; unfold Cf.failed; simp [ho]; omega
        · split
          · rw [Cf.ok_iff]; unfold Cf.missed; simp [ho]; split <;> omega
          · exact h
  · rw [Cf.do_off h ho]
    split
    · rw [Cf.idle_eq]
      by_cases hb : (if back < 1 then 1 else back) - 1 ≤ c.d
      · rw [if_pos hb]; rfl
      · rw [if_neg hb, Cf.ok_iff]
        have := ho1 ho
        simp [ho]; omega
    · exact h
theorem Cf.do_same_ok (c : Cf) (what back : Int) : (c.do_ what back).ok = c.ok := by
  cases h : c.ok
  · rw [Cf.do_bad h, h]
  · exact Cf.do_ok h what back
/-- who gets off does so by Failed alone -/
theorem Cf.gets_off {c : Cf} {what back : Int} (h : c.ok = true) (ho : c.o = false) (ho' : (c.do_ what back).o = true) : what = 2 := by
  rw [Cf.do_on h ho] at ho'
  apply Classical.byContradiction
  intro hw
  rw [if_neg hw] at ho'
  unfold Cf.sent Cf.heard Cf.missed at ho'
  split at ho'
  · split at ho' <;> simp [ho] at ho'
  · split at ho'
    · split at ho'
      · simp [ho] at ho'
      · split at ho' <;> simp [ho] at ho'
    · split at ho' <;> simp [ho] at ho'
/-- who is off stays so, or is one idle slot further, or comes back -/
theorem Cf.was_off {c : Cf} (what back : Int) (h : c.ok = true) (ho : c.o = true) :
    (what ≠ 4 ∧ c.do_ what back = c) ∨ (what = 4 ∧ (if back < 1 then 1 else back) - 1 ≤ c.d ∧ c.do_ what back = cf0) ∨ (what = 4 ∧ c.d < (if back < 1 then 1 else back) - 1 ∧ c.do_ what back = ⟨c.t, c.r, true, c.d + 1⟩) := by
  rw [Cf.do_off h ho]
  by_cases hw : what = 4
  · rw [if_pos hw, Cf.idle_eq]
    by_cases hb : (if back < 1 then 1 else back) - 1 ≤ c.d
    · rw [if_pos hb]; exact .inr (.inl ⟨hw, hb, rfl⟩)
    · rw [if_neg hb, ho]; exact .inr (.inr ⟨hw, by omega, rfl⟩)
  · rw [if_neg hw]; exact .inl ⟨hw, rfl⟩
/-- the order of states -/
theorem Cf.state_ok {c : Cf} (h : c.ok = true) : c.state = if c.o then 3 else if 127 < c.t ∨ 127 < c.r then 2 else if 95 < c.t ∨ 95 < c.r then 1 else 0 := by unfold Cf.state; rw [if_pos h]
theorem Cf.state_le {c e : Cf} (h : c.ok = true) (h' : e.ok = true) (ho : c.o = true → e.o = true) (ht : c.t ≤ e.t) (hr : c.r ≤ e.r ∨ (c.r = 119 ∧ 127 < e.r)) : c.state ≤ e.state := by
  rw [Cf.state_ok h, Cf.state_ok h']
  cases hc : c.o <;> cases he : e.o
  · simp only [Bool.false_eq_true, if_false]
    split <;> split <;> (try split) <;> (try split) <;> omega
  · simp only [Bool.false_eq_true, if_false, if_true]
    split <;> (try split) <;> omega
  · rw [ho hc] at he; cases he
  · simp
theorem Cf.order (c : Cf) (back : Int) : (c.do_ 0 back).state ≤ c.state ∧ (c.do_ 1 back).state ≤ c.state ∧ c.state ≤ (c.do_ 2 back).state ∧ c.state ≤ (c.do_ 3 back).state := by
  cases h : c.ok
  · rw [Cf.do_bad h, Cf.do_bad h, Cf.do_bad h, Cf.do_bad h]; omega
  · obtain ⟨t0, t1, r0, r1, d0, ho1, ho0⟩ := c.ok_iff.1 h
    cases ho : c.o
    · refine ⟨Cf.state_le (Cf.do_ok h _ _) h ?_ ?_ ?_, Cf.state_le (Cf.do_ok h _ _) h ?_ ?_ ?_, Cf.state_le h (Cf.do_ok h _ _) ?_ ?_ ?_, Cf.state_le h (Cf.do_ok h _ _) ?_ ?_ ?_⟩ <;> rw [Cf.do_on h ho]
      · unfold Cf.sent; simp [ho]; split <;> simp [ho]
      · unfold Cf.sent; simp; split <;> simp; omega
      · unfold Cf.sent; simp; left; split <;> simp
      · unfold Cf.heard; simp; split <;> (try split) <;> simp [ho]
      · unfold Cf.heard; simp; split <;> (try split) <;> simp
      · unfold Cf.heard; simp
        split
        · right; simp; omega
        · left; split <;> simp; omega
      · simp [ho]
      · show c.t ≤ c.t + 8; omega
      · unfold Cf.failed; simp
      · simp [ho]
      · unfold Cf.missed; simp
      · unfold Cf.missed; simp; left; split <;> omega
    · rw [Cf.do_off h ho, Cf.do_off h ho, Cf.do_off h ho, Cf.do_off h ho]; simp
/-- failures again and again -/
def failN (k : Nat) : Cf := if k ≤ 31 then ⟨8 * k, 0, false, 0⟩ else ⟨256, 0, true, 0⟩
theorem failN_ok (k : Nat) : (failN k).ok = true := by
  unfold failN
  split
  · rw [Cf.ok_iff]; simp; omega
  · rfl
theorem failN_succ (k : Nat) (back : Int) : (failN k).do_ 2 back = failN (k + 1) := by
  have h := failN_ok k
  by_cases hk : k ≤ 31
  · have e : failN k = ⟨8 * k, 0, false, 0⟩ := by unfold failN; rw [if_pos hk]
    rw [Cf.do_on h (by rw [e]), e, if_neg (by decide), if_neg (by decide), if_pos rfl]
    unfold Cf.failed failN
    by_cases h31 : k = 31
    · subst h31; rfl
    · rw [if_pos (show k + 1 ≤ 31 by omega)]
      simp
      omega
  · have e : failN k = ⟨256, 0, true, 0⟩ := by unfold failN; rw [if_neg hk]
    rw [Cf.do_off h (by rw [e]), e, if_neg (by decide)]
    unfold failN
    rw [if_neg (show ¬ k + 1 ≤ 31 by omega)]
theorem failN_state (k : Nat) : (2 ≤ (failN k).state ↔ 16 ≤ k) := by
  rw [Cf.state_ok (failN_ok k)]
  unfold failN
  by_cases hk : k ≤ 31
  · rw [if_pos hk]
    simp
    split
    · omega
    · split <;> omega
  · rw [if_neg hk]
    simp
    omega
theorem failN_off (k : Nat) : (failN k).o = decide (32 ≤ k) := by
  unfold failN
  split
  · rw [decide_eq_false (by omega)]
  · rw [decide_eq_true (by omega)]
/-- and idle slots behind them -/
def idleN (k : Nat) (back i : Nat) : Cf := if k ≤ 31 then failN k else if i < back then ⟨256, 0, true, i⟩ else cf0
theorem idleN_zero (k back : Nat) (hb : 1 ≤ back) : idleN k back 0 = failN k := by
  unfold idleN failN
  by_cases hk : k ≤ 31
  · rw [if_pos hk, if_pos hk]
  · rw [if_neg hk, if_neg hk, if_pos (by omega)]; rfl
theorem idleN_ok (k back i : Nat) : (idleN k back i).ok = true := by
  unfold idleN
  split
  · exact failN_ok k
  · split
    · rw [Cf.ok_iff]; simp
    · rfl
theorem idleN_succ (k back i : Nat) (hi : i < back) : (idleN k back i).do_ 4 back = idleN k back (i + 1) := by
  have h := idleN_ok k back i
  by_cases hk : k ≤ 31
  · have e : idleN k back i = failN k := by unfold idleN; rw [if_pos hk]
    have e2 : idleN k back (i + 1) = failN k := by unfold idleN; rw [if_pos hk]
    rw [e2, Cf.do_on h (by rw [e, failN_off, decide_eq_false (by omega)]), e]
    simp
  · have e : idleN k back i = ⟨256, 0, true, i⟩ := by unfold idleN; rw [if_neg hk, if_pos hi]
    rw [Cf.do_off h (by rw [e]), e, if_pos rfl, Cf.idle_eq, if_neg (show ¬ ((back : Int) < 1) by omega)]
    unfold idleN
    rw [if_neg hk]
    by_cases h1 : i + 1 < back
    · rw [if_pos h1, if_neg (by simp; omega)]; simp
    · rw [if_neg h1, if_pos (by simp; omega)]
theorem idleN_off (k back i : Nat) : (idleN k back i).o = (decide (32 ≤ k) && decide (i < back)) := by
  unfold idleN
  by_cases hk : k ≤ 31
  · rw [if_pos hk, failN_off, decide_eq_false (by omega)]; rfl
  · rw [if_neg hk, decide_eq_true (show 32 ≤ k by omega)]
    by_cases h1 : i < back
    · rw [if_pos h1, decide_eq_true h1]; rfl
    · rw [if_neg h1, decide_eq_false h1]; rfl
end Go.Proofs.YtmmcjmejcngajaaGreatDoor

namespace Go.Proofs.YtmmcjmejcngajaaGreatDoor
open Go.RowKit
set_option linter.unusedVariables false

def strC (s : ByteArray) : List Value := [.string s]
def intC (n : Int) : List Value := [.int .i64 n]
theorem strC_len (s : ByteArray) : (strC s).length = 1 := rfl
theorem intC_len (n : Int) : (intC n).length = 1 := rfl
abbrev SlS (w : World) (v : Value) (L : List ByteArray) : Prop := SlG strC 1 w w.heap.size v L
abbrev SlI (w : World) (v : Value) (L : List Int) : Prop := SlG intC 1 w w.heap.size v L
abbrev GathI (B : Nat) (w0 : World) (v : Value) (L : List Int) (wr : World) : Prop := GathG 3 intC 1 B w0 v L wr
abbrev GathS (B : Nat) (w0 : World) (v : Value) (L : List ByteArray) (wr : World) : Prop := GathG 9 strC 1 B w0 v L wr
theorem SlG.at1 {α : Type} {c : α → List Value} {w : World} {B : Nat} {v : Value} {L : List α} (h : SlG c 1 w B v L) {k : Nat} (hk : k < L.length) {u : Value} (hu : c (L[k]'hk) = [u]) :
    ∃ x cap, v = .slice (some x) L.length cap ∧ x.block < B ∧ w.cell? (x.add k) = some u := by
  obtain ⟨x, cap, hv, hb, hc⟩ := h.at_ hk
  have := hc 0 u (by rw [hu]; rfl)
  rw [addr_add, Nat.mul_one, Nat.add_zero] at this
  exact ⟨x, cap, hv, hb, this⟩
theorem take_snoc {α : Type} {L : List α} {k : Nat} (h : k < L.length) : L.take (k + 1) = L.take k ++ [L[k]] := List.take_succ_eq_append_getElem h
theorem one_cell (w : World) (u : Value) (t : TypeId) : ∀ j x, [u][j]? = some x → (w.alloc (.cells #[u] t)).cell? ((⟨w.heap.size, 0, none⟩ : Addr).add j) = some x := by
  intro j x hj
  match j, hj with
  | 0, hj => simp at hj; subst hj; simp [Addr.add]

theorem info_int : (Tryz.prog.info? 3).map (fun i => (i.zero, i.size, i.bytes)) = some (some (.int .i64 0), 1, 8) := by kernel_rfl
theorem wpList_rowI {ops : Array Oper} {rest : List Oper} {o : Oper} {a : Act} {Q : Exit → Act → World → Prop} {W : World} (hgd : o.guard = none) (s x : Operand)
    (ho : o.op = .call { callee := .builtin .append, args := #[s, x], argTypes := #[45, 45] }) {B : Nat} {v : Value} {L : List Int} (hs : a.eval s = v) (hg : W.ownsRow B 3 1 v L.length (rowG intC L)) (hB : B ≤ W.heap.size)
    (g c : Nat) (e : Int) (hx : a.eval x = .slice (some ⟨g, 0, none⟩) 1 c) (hn : ∀ j u, (intC e)[j]? = some u → W.cell? ((⟨g, 0, none⟩ : Addr).add j) = some u) (hsz : L.length ≤ 1000000)
    (h : ∀ v' w', w'.ownsRow B 3 1 v' (L ++ [e]).length (rowG intC (L ++ [e])) → Below B W w' → wpList Tryz.prog ops Q rest (a.put o.dst v') w') : wpList Tryz.prog ops Q (o :: rest) a W := by
  obtain ⟨i0, hi, hz0, hz1, hz2⟩ := info_parts info_int
  refine wpList_append_own _ hgd s x 45 ho B 3 i0 _ 1 8 Tryz.underlying45 hi hz0 hz1 hz2 rfl (by decide) v L.length (rowG intC L) hs hg ⟨g, 0, none⟩ 1 c (intC e) hx rfl hn (fun u hu => ?_) ?_ ?_ hB ?_
  · simp only [intC, List.mem_cons, List.not_mem_nil, or_false] at hu
    subst hu; rfl
  · unfold maxLen; omega
  · omega
  · intro v' w' hown hgr _
    refine h v' w' ?_ ((Below.refl _ _).grown hgr hB ?_)
    · rw [List.length_append, rowG_app, rowG_one]; exact hown
    · intro k hk
      rcases hg.2 with ⟨rfl, _⟩ | ⟨g, cap, cur, rfl, hgg, _⟩
      · cases hk
      · cases hk; exact hgg
theorem info_str : (Tryz.prog.info? 9).map (fun i => (i.zero, i.size, i.bytes)) = some (some (.string (ByteArray.mk #[])), 1, 16) := by kernel_rfl
theorem GathG.slI {B : Nat} {w0 wr : World} {v : Value} {L : List Int} (h : GathI B w0 v L wr) (hm : L.length ≤ 1000000) : SlI wr v L := GathG.slice intC_len (by decide) h (by unfold maxLen; omega)
theorem GathG.slS {B : Nat} {w0 wr : World} {v : Value} {L : List ByteArray} (h : GathS B w0 v L wr) (hm : L.length ≤ 1000000) : SlS wr v L := GathG.slice strC_len (by decide) h (by unfold maxLen; omega)
def strOf : List Value → ByteArray
  | [.string s] => s
  | _ => ByteArray.mk #[]
theorem strOf_c (l : List Value) (h : FitsAll [.str] l) : strC (strOf l) = l := by
  obtain ⟨v0, l0, rfl, ⟨a0, rfl, _⟩, h0⟩ := FitsAll.cons h
  obtain rfl := FitsAll.nil h0
  rfl
def numOf : List Value → Int | [.int _ q] => q | _ => 0
theorem numOf_c (l : List Value) (h : FitsAll [.int .i64] l) : intC (numOf l) = l := by
  obtain ⟨v0, l0, rfl, ⟨a0, rfl, _⟩, h0⟩ := FitsAll.cons h
  obtain rfl := FitsAll.nil h0
  rfl
end Go.Proofs.YtmmcjmejcngajaaGreatDoor
