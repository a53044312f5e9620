/- Frame: the contracts of the document's KeyBits, Key. -/
import Derived.Test.YtellhnhkdbbngaaDoorFrmP
namespace Go.Proofs.YtellhnhkdbbngaaDoor
open Go.RowKit
set_option linter.unusedVariables false

theorem own_below {B : Nat} {e : TypeId} {s n : Nat} {v : Value} {xs : List Value} {w w1 : World} (h : w.ownsRow B e s v n xs) (hb : Below w.heap.size w w1) : w1.ownsRow B e s v n xs := by
  refine ⟨h.1, ?_⟩
  rcases h.2 with h0 | ⟨g, cap, cur, hv, hg, hh, r⟩
  · exact .inl h0
  · exact .inr ⟨g, cap, cur, hv, hg, by rw [hb.block _ (lt_of_heap hh)]; exact hh, r⟩
theorem gath.nil {B : Nat} {w wr : World} (h : Below B w wr) (hB : B ≤ wr.heap.size) : gath B w (.slice none 0 0) [] wr := ⟨World.ownsRow_nil _ _ _ _, h, hB⟩
theorem gath.below {B : Nat} {w wr w1 : World} {v : Value} {l : List Bool} (h : gath B w v l wr) (hb : Below wr.heap.size wr w1) : gath B w v l w1 :=
  ⟨own_below h.1 hb, h.2.1.trans (hb.mono h.2.2), Nat.le_trans h.2.2 hb.size⟩
theorem gath.alloc {B : Nat} {w wr : World} {v : Value} {l : List Bool} (h : gath B w v l wr) (o : Obj) : gath B w v l (wr.alloc o) := h.below ((Below.refl _ _).alloc (Nat.le_refl _) o)
theorem gath.drewN {B : Nat} {w wr : World} {v : Value} {l : List Bool} (h : gath B w v l wr) (n : Nat) : gath B w v l (wr.drewN n) := h.below (below_drewN (Below.refl _ _) n)
def rowAt (w : World) (g : Nat) (l : List Bool) : Prop := ∀ j u, (boolRow l)[j]? = some u → w.cell? ((⟨g, 0, none⟩ : Addr).add j) = some u
theorem gath.row {B : Nat} {w wr : World} {v : Value} {l : List Bool} (h : gath B w v l wr) (hl : 0 < l.length) : ∃ g cap, v = .slice (some ⟨g, 0, none⟩) l.length cap ∧ rowAt wr g l := by
  obtain ⟨h1, _, _⟩ := h
  rcases h1.2 with ⟨_, h0⟩ | ⟨g, cap, cur, hv, hg, hh, hc, hm, hs, ht⟩
  · omega
  · refine ⟨g, cap, hv, fun j u hj => ?_⟩
    have hjl : j < l.length := by
      have := (List.getElem?_eq_some_iff.1 hj).1
      simpa [boolRow] using this
    rw [← ht, List.getElem?_take_of_lt (by omega)] at hj
    have e : (⟨g, 0, none⟩ : Addr).add j = ⟨g, j, none⟩ := by unfold Addr.add; split <;> simp_all
    rw [e, cell_of_row _ _ _ _ _ _ hh]
    simpa using hj
theorem row_two (w : World) (a b : Bool) (t : TypeId) : rowAt (w.alloc (.cells #[.bool a, .bool b] t)) w.heap.size [a, b] := fnews_two w _ _ t
theorem row_one (w : World) (a : Bool) (t : TypeId) : rowAt (w.alloc (.cells #[.bool a] t)) w.heap.size [a] := fnews_one w _ t

theorem wpList_gath {ops : Array Oper} {rest : List Oper} {o : Oper} {a : Act} {Q : Exit → Act → World → Prop} {W : World} (hgd : o.guard = none) (s x : Operand)
    (ho : o.op = .call { callee := .builtin .append, args := #[s, x], argTypes := #[53, 53] }) {B : Nat} {w : World} {v : Value} {l : List Bool} (hs : a.eval s = v) (hg : gath B w v l W)
    (g m c : Nat) (news : List Bool) (hx : a.eval x = .slice (some ⟨g, 0, none⟩) m c) (hl : news.length = m) (hn : rowAt W g news) (hsz : l.length + m ≤ 1000)
    (h : ∀ v' w', gath B w v' (l ++ news) w' → wpList Tryd.prog ops Q rest (a.put o.dst v') w') : wpList Tryd.prog ops Q (o :: rest) a W := by
  obtain ⟨i0, hi, hz0, hz1, hz2⟩ := info_parts info_bool
  refine wpList_append_own _ hgd s x 53 ho B 4 i0 (.bool false) 1 1 Tryd.underlying53 hi hz0 hz1 hz2 rfl (by decide) v l.length (boolRow l) hs hg.1 ⟨g, 0, none⟩ m c (boolRow news) hx (by simp [boolRow, hl]) hn (fun u hu => ?_) ?_ ?_ hg.2.2 ?_
  · unfold boolRow at hu
    obtain ⟨b, _, rfl⟩ := List.mem_map.1 hu
    rfl
  · unfold maxLen; omega
  · omega
  · intro v' w' hown hgr _
    refine h v' w' ⟨?_, hg.2.1.grown hgr hg.2.2 ?_, Nat.le_trans hg.2.2 hgr.size⟩
    · rw [List.length_append, hl, boolRow_app]; exact hown
    · intro k hk
      rcases hg.1.2 with ⟨rfl, _⟩ | ⟨g, cap, cur, rfl, hgg, _⟩
      · cases hk
      · cases hk; exact hgg

theorem rbits11 (n : Int) (w : World) (h0 : 0 ≤ n) (h1 : n ≤ 536870911) : Calls Tryd.prog 36 #[.int .i64 n, .int .i64 11] w (BitsPost n 11 w) := rbits_any n 11 w h0 h1 (by decide)
theorem rbits18 (n : Int) (w : World) (h0 : 0 ≤ n) (h1 : n ≤ 536870911) : Calls Tryd.prog 36 #[.int .i64 n, .int .i64 18] w (BitsPost n 18 w) := rbits_any n 18 w h0 h1 (by decide)

def KbPost (l : List Bool) (w : World) (e : Ending) (w' : World) : Prop := ∃ v, e = .returned v ∧ gath w.heap.size w v l w'
theorem gath.base {w w' : World} {o : Obj} {v : Value} {l : List Bool} (h : gath (w.alloc o).heap.size (w.alloc o) v l w') : gath w.heap.size w v l w' := by
  obtain ⟨h1, h2, h3⟩ := h
  refine ⟨⟨h1.1, ?_⟩, fbelow_a _ h2, Nat.le_trans (by simp) h3⟩
  rcases h1.2 with h0 | ⟨g, cap, cur, hv, hg, r⟩
  · exact .inl h0
  · exact .inr ⟨g, cap, cur, hv, Nat.le_trans (by simp) hg, r⟩
theorem gath.fix {w w' : World} {o : Obj} {v : Value} {l : List Bool} (h : gath (w.heap.size + 1) (w.alloc o) v l w') : gath (w.alloc o).heap.size (w.alloc o) v l w' := by rw [World.size_alloc]; exact h
def wideL (i : Int) (r dd : Bool) : List Bool := ((((([] ++ bitsL (i / 262144) 11 11) ++ [true, true]) ++ bitsL (i % 262144) 18 18) ++ [r]) ++ [dd])
def narrowL (i : Int) (r dd : Bool) (k : Nat) : List Bool := ((([] ++ bitsL i 11 11) ++ [r, false]) ++ List.replicate k false)

set_option maxHeartbeats 4000000 in
theorem kb_wide {i n l : Int} {d : ByteArray} {r dd : Bool} (i0 : 0 ≤ i) (i1 : i ≤ 536870911) (n0 : 0 ≤ n) (n1 : n ≤ 63) (he : fE n = true) (hr : fR n = r) (hd : fD n = dd) (w : World) :
    Calls Tryd.prog 34 #[.agg #[.int .i64 i, .int .i64 n, .int .i64 l, .string d]] w (KbPost (wideL i r dd) w) := by
  have He := Lib.hid he
  have Hr := Lib.hid hr
  have Hd := Lib.hid hd
  have ia : 0 ≤ i / 262144 := by omega
  have ib : i / 262144 ≤ 536870911 := by omega
  have ic : 0 ≤ i % 262144 := by omega
  have id : i % 262144 ≤ 536870911 := by omega
  clear he hr hd
  have G0 := Lib.hid (gath.nil (B := (w.alloc (.cells #[.int .i64 i, .int .i64 n, .int .i64 l, .string d] 23)).heap.size) (w := w.alloc (.cells #[.int .i64 i, .int .i64 n, .int .i64 l, .string d] 23)) (wr := w.alloc (.cells #[.int .i64 i, .int .i64 n, .int .i64 l, .string d] 23)) (Below.refl _ _) (Nat.le_refl _))
  go_enter Tryd.func34, Tryd.ntmps34
  go_wp2_with fail
  refine (has1 He.out n0 n1 _ _ _ _).mono ?_
  rintro e w1 ⟨rfl, hb1⟩
  have G1 := Lib.hid (G0.out.below hb1)
  obtain ⟨hc1, hf1⟩ := fbcell G1.out.2.1
  go_wp2_with fail
  refine (rbits11 _ _ ia ib).mono ?_
  rintro e w2 ⟨v2, rfl, hg2⟩
  obtain ⟨g2, cap2, rfl, hr2⟩ := hg2.row (by rw [bitsL_len]; decide)
  have R2 := Lib.hid hr2
  have G2 := Lib.hid (G1.out.below hg2.2.1)
  obtain ⟨hc2, hf2⟩ := fbcell G2.out.2.1
  clear hr2 hg2
  have L3 : Hid ((bitsL (i / 262144) 11 11).length = 11) := Lib.hid (by rw [bitsL_len])
  have M3 : Hid ((([] : List Bool)).length + 11 ≤ 1000) := Lib.hid (by simp [bitsL_len])
  go_wp2_with (at_builtin; refine wpList_gath rfl _ _ rfl rfl (G2.out) g2 11 _ (bitsL (i / 262144) 11 11) rfl L3.out R2.out M3.out ?_)
  intro v3 w3 hg3
  have G3 := Lib.hid (gath.fix hg3)
  clear hg3
  obtain ⟨hc3, hf3⟩ := fbcell G3.out.2.1
  have L4 : Hid (([true, true]).length = 2) := Lib.hid (by rfl)
  have M4 : Hid (([] ++ bitsL (i / 262144) 11 11).length + 2 ≤ 1000) := Lib.hid (by simp [bitsL_len])
  go_wp2_with (at_builtin; refine wpList_gath rfl _ _ rfl rfl (G3.out.alloc _) w3.heap.size 2 _ ([true, true]) rfl L4.out (row_two _ _ _ _) M4.out ?_)
  intro v4 w4 hg4
  have G4 := Lib.hid (gath.fix hg4)
  clear hg4
  obtain ⟨hc4, hf4⟩ := fbcell G4.out.2.1
  go_wp2_with fail
  refine (rbits18 _ _ ic id).mono ?_
  rintro e w5 ⟨v5, rfl, hg5⟩
  obtain ⟨g5, cap5, rfl, hr5⟩ := hg5.row (by rw [bitsL_len]; decide)
  have R5 := Lib.hid hr5
  have G5 := Lib.hid (G4.out.below hg5.2.1)
  obtain ⟨hc5, hf5⟩ := fbcell G5.out.2.1
  clear hr5 hg5
  have L6 : Hid ((bitsL (i % 262144) 18 18).length = 18) := Lib.hid (by rw [bitsL_len])
  have M6 : Hid ((([] ++ bitsL (i / 262144) 11 11) ++ [true, true]).length + 18 ≤ 1000) := Lib.hid (by simp [bitsL_len])
  go_wp2_with (at_builtin; refine wpList_gath rfl _ _ rfl rfl (G5.out) g5 18 _ (bitsL (i % 262144) 18 18) rfl L6.out R5.out M6.out ?_)
  intro v6 w6 hg6
  have G6 := Lib.hid (gath.fix hg6)
  clear hg6
  obtain ⟨hc6, hf6⟩ := fbcell G6.out.2.1
  go_wp2_with fail
  refine (has2 Hr.out n0 n1 _ _ _ _).mono ?_
  rintro e w7 ⟨rfl, hb7⟩
  have G7 := Lib.hid (G6.out.below hb7)
  obtain ⟨hc7, hf7⟩ := fbcell G7.out.2.1
  have L8 : Hid (([r]).length = 1) := Lib.hid (by rfl)
  have M8 : Hid (((([] ++ bitsL (i / 262144) 11 11) ++ [true, true]) ++ bitsL (i % 262144) 18 18).length + 1 ≤ 1000) := Lib.hid (by simp [bitsL_len])
  go_wp2_with (at_builtin; refine wpList_gath rfl _ _ rfl rfl (G7.out.alloc _) w7.heap.size 1 _ ([r]) rfl L8.out (row_one _ _ _) M8.out ?_)
  intro v8 w8 hg8
  have G8 := Lib.hid (gath.fix hg8)
  clear hg8
  obtain ⟨hc8, hf8⟩ := fbcell G8.out.2.1
  go_wp2_with fail
  refine (has8 Hd.out n0 n1 _ _ _ _).mono ?_
  rintro e w9 ⟨rfl, hb9⟩
  have G9 := Lib.hid (G8.out.below hb9)
  obtain ⟨hc9, hf9⟩ := fbcell G9.out.2.1
  have L10 : Hid (([dd]).length = 1) := Lib.hid (by rfl)
  have M10 : Hid ((((([] ++ bitsL (i / 262144) 11 11) ++ [true, true]) ++ bitsL (i % 262144) 18 18) ++ [r]).length + 1 ≤ 1000) := Lib.hid (by simp [bitsL_len])
  go_wp2_with (at_builtin; refine wpList_gath rfl _ _ rfl rfl (G9.out.alloc _) w9.heap.size 1 _ ([dd]) rfl L10.out (row_one _ _ _) M10.out ?_)
  intro v10 w10 hg10
  have G10 := Lib.hid (gath.fix hg10)
  clear hg10
  obtain ⟨hc10, hf10⟩ := fbcell G10.out.2.1
  go_wp2
  go_ret
  exact ⟨_, rfl, G10.out.base⟩

end Go.Proofs.YtellhnhkdbbngaaDoor
