/- Arb: walk of ArbShown. Of no program: two rows of a call's own, of unlike elements, that grow in turns. Arb: the least key is left; walk of ArbKeys. Arb: walk of ArbKeys. -/
import Derived.Test.YtlfhomahbacmpaaDoorZan
import Derived.Test.YtlfhomahbacmpaaDoorZal
import Derived.Test.YtlfhomahbacmpaaDoorZai
namespace Go.Proofs.YtlfhomahbacmpaaDoor
open Go.RowKit
set_option linter.unusedVariables false

theorem whole_by (s : ByteArray) (n : Nat) : isBy (wholeL s n) := fun x hx => by
  unfold wholeL at hx
  obtain ⟨k, _, rfl⟩ := List.mem_map.1 hx
  unfold bitD
  split <;> decide
theorem level_by (L : List ByteArray) (n : Nat) : isBy (levelL L n) := fun x hx => by
  unfold levelL at hx
  obtain ⟨k, _, rfl⟩ := List.mem_map.1 hx
  unfold bitD
  split <;> decide
theorem whole_bt {s : ByteArray} {n i : Nat} (h : i < n) : bt (strOfNums (wholeL s n)) i = bitD (dom s i) := by
  rw [bt_nums _ (whole_by s n)]
  unfold wholeL
  rw [List.getD_eq_getElem?_getD, List.getElem?_map, List.getElem?_range h]
  rfl
theorem level_bt {L : List ByteArray} {n i : Nat} (h : i < n) : bt (strOfNums (levelL L n)) i = bitD (L.any fun s => dom s i) := by
  rw [bt_nums _ (level_by L n)]
  unfold levelL
  rw [List.getD_eq_getElem?_getD, List.getElem?_map, List.getElem?_range h]
  rfl
/-- where one shows 0, the bus does -/
theorem shows {L : List ByteArray} {s : ByteArray} (hs : s ∈ L) {n i : Nat} (h : i < n) (h0 : bt (strOfNums (wholeL s n)) i = 48) : bt (strOfNums (levelL L n)) i = 48 := by
  rw [whole_bt h] at h0
  rw [level_bt h]
  have hd : dom s i = true := by
    cases hd : dom s i
    · rw [hd] at h0; cases h0
    · rfl
  have : (L.any fun s => dom s i) = true := List.any_eq_true.2 ⟨s, hs, hd⟩
  rw [this]; rfl
theorem shown_cut {L : List ByteArray} {s t sh : ByteArray} (hs : s ∈ leftL L) (ht : strOfNums (wholeL s (longL L)) = t) (hsh : strOfNums (levelL (leftL L) (longL (leftL L))) = sh) : t.extract 0 sh.size = sh ∧ sh.size ≤ t.size := by
  have h1 : byL t = wholeL s (longL L) := by rw [← ht, byL_nums (whole_by _ _)]
  have h2 : byL sh = levelL (leftL L) (longL (leftL L)) := by rw [← hsh, byL_nums (level_by _ _)]
  have z1 : t.size = longL L := by rw [← byL_len, h1, wholeL_len]
  have z2 : sh.size = longL (leftL L) := by rw [← byL_len, h2, levelL_len]
  refine ⟨?_, by rw [z1, z2]; exact left_long L⟩
  apply byL_inj
  rw [byL_extract, List.drop_zero, h1, z2, shown_begins hs, h2]
set_option maxHeartbeats 8000000 in
theorem arbShown_walk (a : Option Addr) (len cap : Nat) (F : Nat → List Value) (w : World) (hr : IsRowOf w [.str] a len cap F) (hT : ATab w) :
    Calls Tryd.prog 6 #[.slice a len cap] w fun e w' => e = .returned (.bool true) ∧ Below w.heap.size w w' := by
  obtain ⟨L, hL, hlen, hf⟩ := slice_of_row hr strOf strOf_c rfl (by decide)
  have HT := Lib.hid hT
  have HV : Hid (SlS w (.slice a len cap) L) := Lib.hid hL
  have HX : Hid (∀ s ∈ L, s.size ≤ maxLen) := Lib.hid (fun s hs => str_fits (hf s hs))
  clear hr hT hf hL
  subst hlen
  cases hq : fewTB L
  · have HQ := Lib.hid hq
    clear hq
    go_enter Tryd.func6, Tryd.ntmps6
    go_wp2_with fail
    refine (sfew_v HQ.out _ HV.out HX.out).mono ?_
    rintro e w1 ⟨rfl, rfl⟩
    go_wp2_with fail
    refine (arbalive_any _ HT.out).mono ?_
    rintro e w1 ⟨rfl, hb1⟩
    go_wp2
    go_ret
    exact ⟨rfl, hb1⟩
  have HQ := Lib.hid hq
  have HM := Lib.hid (few_small hq)
  have hl20 := (fewT_parts hq).1
  have h800 := longL_le (fewT_parts hq).2
  clear hq
  obtain ⟨n, hn⟩ : ∃ n, longL L = n := ⟨_, rfl⟩
  rw [hn] at h800
  have HNN := Lib.hid hn
  obtain ⟨t, ht⟩ : ∃ t, strOfNums (levelL L n) = t := ⟨_, rfl⟩
  have HAL : Hid (strOfNums (levelL L (longL L)) = t) := Lib.hid (by rw [hn]; exact ht)
  have hts : t.size = n := by rw [← ht, strOfNums_size, levelL_len]
  have hts2 : ((t.size : Int) != (n : Int)) = false := by rw [hts]; simp
  have HAT := Lib.hid ht
  obtain ⟨R, hR⟩ : ∃ R, raceL L (longL L) L.length = R := ⟨_, rfl⟩
  have HR := Lib.hid hR
  have hRl : R.length ≤ 20 := by rw [← hR]; exact Nat.le_trans (raceL_len _ _ _) hl20
  have HRB : Hid (∀ x ∈ R, 0 ≤ x ∧ x < L.length) := Lib.hid (fun x hx => by rw [← hR] at hx; exact race_bd hx)
  have HRA : Hid (R.map (fun i => L.getD i.toNat emp0) = leftL L) := Lib.hid (by rw [← hR]; exact race_all L)
  clear hn ht hR
  go_enter Tryd.func6, Tryd.ntmps6
  go_wp2_with fail
  refine (sfew_v HQ.out _ HV.out HX.out).mono ?_
  rintro e w1 ⟨rfl, rfl⟩
  go_wp2_with fail
  refine (slong_v HNN.out (fun s hs => by have := HM.out.1 s hs; omega) _ HV.out).mono ?_
  rintro e w1 ⟨rfl, rfl⟩
  go_wp2_with fail
  refine (kalevel_v HAL.out HM.out.1 _ HV.out).mono ?_
  rintro e w2 ⟨rfl, hb2⟩
  have HV2 := Lib.hid (HV.out.later hb2)
  have HB2 := Lib.hid hb2
  clear hb2
  go_wp2_with fail
  refine (karace_v HM.out.1 HM.out.2 _ HV2.out).mono ?_
  rw [HR.out]
  rintro e w3 ⟨u3, rfl, hs3, hb3⟩
  have HS3 := Lib.hid hs3
  have HV3 := Lib.hid (HV2.out.later hb3)
  have HB3 := Lib.hid (fbelow_t HB2.out hb3)
  obtain ⟨A3, c3, rfl, -, -⟩ := hs3
  clear hb3 HV2 HB2
  go_wp2_with fail
  go_loopw [5, 28] (fun u i wr => ∃ j : Nat, j ≤ R.length ∧ i = .int .i64 j ∧ Hid (GathS w3.heap.size w3 u ((R.take j).map fun i => L.getD i.toNat emp0) wr)) (fun _ i _ => R.length - (intOf i).toNat)
  case atStart => exact ⟨0, Nat.zero_le _, rfl, Lib.hid (GathG.start _ _ _ _)⟩
  case round =>
    obtain ⟨j, hj, rfl, HI⟩ := hrel
    by_cases hlt : j < R.length
    · obtain ⟨y, c', hv', hyb, c0⟩ := (HS3.out.later HI.out.2.1).at1 hlt rfl
      injection hv' with hA _ hcap
      subst hA
      subst hcap
      obtain ⟨z0, z1⟩ := HRB.out R[j] (List.getElem_mem hlt)
      obtain ⟨z, hz⟩ := Int.eq_ofNat_of_zero_le z0
      have hzl : z < L.length := by omega
      have HR9 : Hid ((R.take (j + 1)).map (fun i => L.getD i.toNat emp0) = (R.take j).map (fun i => L.getD i.toNat emp0) ++ [L[z]]) := Lib.hid (by
        rw [take_snoc hlt, List.map_append, List.map_cons, List.map_nil, hz, Int.toNat_natCast, List.getD_eq_getElem?_getD, List.getElem?_eq_getElem hzl]; rfl)
      rw [hz] at c0
      have HLN : Hid (((R.take j).map fun i => L.getD i.toNat emp0).length ≤ 1000000) := Lib.hid (by rw [List.length_map, List.length_take]; omega)
      obtain ⟨x, c2, hv2, hxb, d0⟩ := (HV3.out.later HI.out.2.1).at1 hzl rfl
      injection hv2 with hA2 _ hcap2
      subst hA2
      subst hcap2
      generalize (R.take j).map (fun i => L.getD i.toNat emp0) = M at HI HR9 HLN
      generalize L[z] = s at d0 HR9
      have HI3 := Lib.hid (HI.out.alloc (.cells #[.string s] 9))
      have HNW := Lib.hid (one_cell wr (.string s) 9)
      have hz3 : ¬ (L.length : Int) ≤ (z : Int) := by omega
      clear hz z0 z1
      go_wp2_with (at_builtin; refine wpList_rowS rfl _ _ rfl rfl HI3.out.1 HI3.out.2.2 wr.heap.size _ s rfl HNW.out HLN.out ?_)
      intro v' w' hown hbel
      have HI4 : Hid (GathS w3.heap.size w3 v' (M ++ [s]) w') := Lib.hid ⟨by rw [List.length_append]; exact hown, HI3.out.2.1.trans hbel, Nat.le_trans HI3.out.2.2 hbel.size⟩
      clear hown hbel
      go_wp2
      go_roundw
      case rel => exact ⟨j + 1, by omega, by go_num, by rw [HR9.out]; exact HI4⟩
      case measure => simp [intOf]; omega
    · obtain rfl : j = R.length := by omega
      rw [List.take_length, HRA.out] at HI
      have hll : (leftL L).length ≤ 20 := by unfold leftL; exact Nat.le_trans (List.length_filter_le _ _) hl20
      have hsub : ∀ s ∈ leftL L, s ∈ L := fun s hs => (List.mem_filter.1 hs).1
      have HLL : Hid (leftL L = [] ↔ L = []) := Lib.hid left_none
      have HCUT : Hid (∀ s ∈ leftL L, s ∈ leftL L) := Lib.hid (fun s h => h)
      have HSUB := Lib.hid hsub
      have HG := Lib.hid (HI.out.slS (Nat.le_trans hll (by decide)))
      have HB4 := Lib.hid (HB3.out.trans (HI.out.2.1.mono HB3.out.size))
      obtain ⟨sh, hsh⟩ : ∃ sh, strOfNums (levelL (leftL L) (longL (leftL L))) = sh := ⟨_, rfl⟩
      have HSH := Lib.hid hsh
      have hshn : (sh.size : Int) ≤ n := by
        have := left_long L
        rw [HNN.out] at this
        rw [← hsh, strOfNums_size, levelL_len]
        omega
      have hshn2 : ¬ (n : Int) < (sh.size : Int) := by omega
      obtain ⟨A9, c9, hu9, -, -⟩ := HG.out
      subst hu9
      clear hsub hsh HI
      go_wp2_with fail
      refine (kalevel_v HSH.out (fun s hs => HM.out.1 s (HSUB.out s hs)) _ HG.out).mono ?_
      rintro e w5 ⟨rfl, hb5⟩
      have HG5 := Lib.hid (HG.out.later hb5)
      have HB5 := Lib.hid (fbelow_t HB4.out hb5)
      clear hb5 HG HB4
      go_wp2_with fail
      go_loop [56] (fun i => ∃ j : Nat, j ≤ (leftL L).length ∧ i = .int .i64 j) (fun i => (leftL L).length - (intOf i).toNat)
      case atStart => exact ⟨0, Nat.zero_le _, rfl⟩
      case round =>
        obtain ⟨j, hj, rfl⟩ := hrel
        by_cases hlt : j < (leftL L).length
        · obtain ⟨y, c', hv', hyb, c0⟩ := HG5.out.at1 hlt rfl
          injection hv' with hA _ hcap
          subst hA
          subst hcap
          have HMEM : Hid ((leftL L)[j] ∈ leftL L) := Lib.hid (List.getElem_mem hlt)
          generalize (leftL L)[j] = s at c0 HMEM
          obtain ⟨q, hq⟩ : ∃ q, strOfNums (wholeL s n) = q := ⟨_, rfl⟩
          have HQQ := Lib.hid hq
          obtain ⟨e1, e2⟩ := shown_cut HMEM.out (by rw [HNN.out, hq]) HSH.out
          have hcut := fun w => cut_head e2 w
          rw [e1] at hcut
          have HQ2 : Hid (strOfNums (wholeL sh n) = q) := Lib.hid (by
            have := shown_whole HMEM.out
            rw [HNN.out, HSH.out] at this
            rw [← this]; exact hq)
          have esh := seq_self sh
          have eq_ := seq_self q
          have hqs : q.size = n := by rw [← hq, strOfNums_size, wholeL_len]
          have HSHOW : Hid (∀ i, i < n → bt q i = 48 → bt t i = 48) := Lib.hid (fun i hi h0 => by
            rw [← HAT.out]
            rw [← hq] at h0
            exact shows (HSUB.out s HMEM.out) hi h0)
          have hd : decide (j < (leftL L).length) = true := decide_eq_true hlt
          clear hq e1
          go_wp2_with fail
          refine (swhole_v HQQ.out (by omega) _).mono ?_
          rintro e w6 ⟨rfl, rfl⟩
          go_wp2_with fail
          refine (swhole_v HQ2.out (by omega) _).mono ?_
          rintro e w6 ⟨rfl, rfl⟩
          go_wp2_with fail
          go_loop [77] (fun i => ∃ p : Nat, p ≤ n ∧ i = .int .i64 p) (fun i => n - (intOf i).toNat)
          case atStart => exact ⟨0, Nat.zero_le _, rfl⟩
          case round =>
            obtain ⟨p, hp, rfl⟩ := hrel
            by_cases hpn : p < n
            · have hix : ∀ w, (Instr.index 9 (.string q) (.int .i64 (p : Int))).run Tryd.prog w = .ok (.int .u8 (bt q p)) w := fun w => index_bt Tryd.underlying9 (by omega) w
              have hiy : ∀ w, (Instr.index 9 (.string t) (.int .i64 (p : Int))).run Tryd.prog w = .ok (.int .u8 (bt t p)) w := fun w => index_bt Tryd.underlying9 (by omega) w
              have hs48 := HSHOW.out p hpn
              generalize bt q p = x1 at hix hs48
              generalize bt t p = x2 at hiy hs48
              by_cases h0 : x1 = 48
              · have hx2 := hs48 h0
                subst h0; subst hx2
                clear hs48
                go_wp2
                go_round
                case rel => exact ⟨p + 1, by omega, by go_num⟩
                case measure => simp [intOf]; omega
              · have h0' : (x1 == 48) = false := by simpa using h0
                clear hs48
                go_wp2
                go_round
                case rel => exact ⟨p + 1, by omega, by go_num⟩
                case measure => simp [intOf]; omega
            · obtain rfl : p = n := by omega
              go_wp2
              go_round
              case rel => exact ⟨_, _, _, _, _, ⟨j + 1, by omega, rfl⟩, rfl, rfl, rfl, rfl, by go_num⟩
              case measure => simp [intOf]; omega
        · obtain rfl : j = (leftL L).length := by omega
          by_cases hz : L.length = 0
          · have hL0 : L = [] := List.eq_nil_of_length_eq_zero hz
            have ez1 : ((L.length : Int) == 0) = true := by rw [hz]; rfl
            have ez2 : (((leftL L).length : Int) == 0) = true := by rw [HLL.out.2 hL0]; rfl
            clear hz hL0
            go_wp2_with fail
            refine (arbalive_any _ (HT.out.below HB5.out)).mono ?_
            rintro e w0 ⟨rfl, hb0⟩
            go_wp2
            go_ret
            exact ⟨rfl, fbelow_t HB5.out hb0⟩
          · have ez1 : ((L.length : Int) == 0) = false := by simpa using hz
            have ez2 : (((leftL L).length : Int) == 0) = false := by
              have : leftL L ≠ [] := fun h => hz (by rw [HLL.out.1 h]; rfl)
              have : (leftL L).length ≠ 0 := fun h => this (List.eq_nil_of_length_eq_zero h)
              simpa using this
            clear hz
            go_wp2_with fail
            refine (arbalive_any _ (HT.out.below HB5.out)).mono ?_
            rintro e w0 ⟨rfl, hb0⟩
            go_wp2
            go_ret
            exact ⟨rfl, fbelow_t HB5.out hb0⟩
end Go.Proofs.YtlfhomahbacmpaaDoor

namespace Go.Proofs.YtlfhomahbacmpaaDoor
open Go.RowKit
set_option linter.unusedVariables false

/-- rows of other elements stay -/
def RowsStay (E : TypeId) (W w' : World) : Prop := ∀ (B : Nat) (e : TypeId) (k : Nat) (u : Value) (n : Nat) (xs : List Value), e ≠ E → W.ownsRow B e k u n xs → w'.ownsRow B e k u n xs
theorem rows_stay {W w' : World} {B : Nat} {E : TypeId} {k n : Nat} {v : Value} {xs : List Value} (hg : W.ownsRow B E k v n xs) (hgr : W.grownBy w' v.ownBlock) : RowsStay E W w' := by
  intro B' e k' u n' ys he h
  refine h.kept hgr ?_
  rcases h.2 with ⟨rfl, _⟩ | ⟨g, cap, cur, rfl, hbg, hh, rest⟩
  · exact .inl rfl
  · right
    rcases hg.2 with ⟨rfl, _⟩ | ⟨g', cap', cur', rfl, _, hh', _⟩
    · intro h0; cases h0
    · intro h0
      injection h0 with h0
      have h0' : g = g' := h0
      subst h0'
      rw [hh] at hh'
      injection hh' with hh'
      injection hh' with _ h1 _
      exact he h1
theorem RowsStay.gath {α : Type} {c : α → List Value} {k B : Nat} {E e : TypeId} {w0 W w' : World} {v : Value} {L : List α} (h : RowsStay E W w') (he : e ≠ E) (hg : GathG e c k B w0 v L W) (hb : Below B W w') (hs : W.heap.size ≤ w'.heap.size) : GathG e c k B w0 v L w' :=
  ⟨h B e k v L.length (rowG c L) he hg.1, hg.2.1.trans hb, Nat.le_trans hg.2.2 hs⟩
theorem wpList_rowI2 {ops : Array Oper} {rest : List Oper} {o : Oper} {a : Act} {Q : Exit → Act → World → Prop} {W : World} (hgd : o.guard = none) (s x : Operand)
    (ho : o.op = .call { callee := .builtin .append, args := #[s, x], argTypes := #[28, 28] }) {B : Nat} {v : Value} {L : List Int} (hs : a.eval s = v) (hg : W.ownsRow B 3 1 v L.length (rowG intC L)) (hB : B ≤ W.heap.size)
    (g c : Nat) (e : Int) (hx : a.eval x = .slice (some ⟨g, 0, none⟩) 1 c) (hn : ∀ j u, (intC e)[j]? = some u → W.cell? ((⟨g, 0, none⟩ : Addr).add j) = some u) (hsz : L.length ≤ 1000000)
    (h : ∀ v' w', w'.ownsRow B 3 1 v' (L ++ [e]).length (rowG intC (L ++ [e])) → Below B W w' → RowsStay 3 W w' → wpList Tryd.prog ops Q rest (a.put o.dst v') w') : wpList Tryd.prog ops Q (o :: rest) a W := by
  obtain ⟨i0, hi, hz0, hz1, hz2⟩ := info_parts info_int
  refine wpList_append_own _ hgd s x 28 ho B 3 i0 _ 1 8 Tryd.underlying28 hi hz0 hz1 hz2 rfl (by decide) v L.length (rowG intC L) hs hg ⟨g, 0, none⟩ 1 c (intC e) hx rfl hn (fun u hu => ?_) ?_ ?_ hB ?_
  · simp only [intC, List.mem_cons, List.not_mem_nil, or_false] at hu
    subst hu; rfl
  · unfold maxLen; omega
  · omega
  · intro v' w' hown hgr _
    refine h v' w' ?_ ((Below.refl _ _).grown hgr hB ?_) (rows_stay hg hgr)
    · rw [List.length_append, rowG_app, rowG_one]; exact hown
    · intro k hk
      rcases hg.2 with ⟨rfl, _⟩ | ⟨g, cap, cur, rfl, hgg, _⟩
      · cases hk
      · cases hk; exact hgg
theorem wpList_rowS2 {ops : Array Oper} {rest : List Oper} {o : Oper} {a : Act} {Q : Exit → Act → World → Prop} {W : World} (hgd : o.guard = none) (s x : Operand)
    (ho : o.op = .call { callee := .builtin .append, args := #[s, x], argTypes := #[22, 22] }) {B : Nat} {v : Value} {L : List ByteArray} (hs : a.eval s = v) (hg : W.ownsRow B 9 1 v L.length (rowG strC L)) (hB : B ≤ W.heap.size)
    (g c : Nat) (e : ByteArray) (hx : a.eval x = .slice (some ⟨g, 0, none⟩) 1 c) (hn : ∀ j u, (strC e)[j]? = some u → W.cell? ((⟨g, 0, none⟩ : Addr).add j) = some u) (hsz : L.length ≤ 1000000)
    (h : ∀ v' w', w'.ownsRow B 9 1 v' (L ++ [e]).length (rowG strC (L ++ [e])) → Below B W w' → RowsStay 9 W w' → wpList Tryd.prog ops Q rest (a.put o.dst v') w') : wpList Tryd.prog ops Q (o :: rest) a W := by
  obtain ⟨i0, hi, hz0, hz1, hz2⟩ := info_parts info_str
  refine wpList_append_own _ hgd s x 22 ho B 9 i0 _ 1 16 Tryd.underlying22 hi hz0 hz1 hz2 rfl (by decide) v L.length (rowG strC L) hs hg ⟨g, 0, none⟩ 1 c (strC e) hx rfl hn (fun u hu => ?_) ?_ ?_ hB ?_
  · simp only [strC, List.mem_cons, List.not_mem_nil, or_false] at hu
    subst hu; rfl
  · unfold maxLen; omega
  · omega
  · intro v' w' hown hgr _
    refine h v' w' ?_ ((Below.refl _ _).grown hgr hB ?_) (rows_stay hg hgr)
    · rw [List.length_append, rowG_app, rowG_one]; exact hown
    · intro k hk
      rcases hg.2 with ⟨rfl, _⟩ | ⟨g, cap, cur, rfl, hgg, _⟩
      · cases hk
      · cases hk; exact hgg
end Go.Proofs.YtlfhomahbacmpaaDoor

namespace Go.Proofs.YtlfhomahbacmpaaDoor
open Go.RowKit
set_option linter.unusedVariables false

/-! ### plain -/
def keysL (L : List Fr) : List Int := (L.map keyF).filter fun k => decide (0 ≤ k)
def fieldsL (L : List Fr) : List ByteArray := (keysL L).map fun k => strOfNums (fieldL k)
theorem keysL_app (A B : List Fr) : keysL (A ++ B) = keysL A ++ keysL B := by unfold keysL; rw [List.map_append, List.filter_append]
theorem keysL_one (f : Fr) : keysL [f] = if 0 ≤ keyF f then [keyF f] else [] := by unfold keysL; simp [List.filter_cons]
theorem fieldsL_app (A B : List Fr) : fieldsL (A ++ B) = fieldsL A ++ fieldsL B := by unfold fieldsL; rw [keysL_app, List.map_append]
theorem keysL_len (L : List Fr) : (keysL L).length ≤ L.length := by
  unfold keysL
  exact Nat.le_trans (List.length_filter_le _ _) (by simp)
theorem fieldsL_len (L : List Fr) : (fieldsL L).length = (keysL L).length := by unfold fieldsL; simp
theorem keysL_mem {L : List Fr} {k : Int} : k ∈ keysL L ↔ ∃ f ∈ L, keyF f = k ∧ 0 ≤ k := by
  unfold keysL
  rw [List.mem_filter, List.mem_map]
  simp only [decide_eq_true_eq]
  exact ⟨fun ⟨⟨f, h1, h2⟩, h3⟩ => ⟨f, h1, h2, h3⟩, fun ⟨f, h1, h2, h3⟩ => ⟨⟨f, h1, h2⟩, h3⟩⟩
theorem field_size {k : Int} (h : 0 ≤ k) : (strOfNums (fieldL k)).size = 33 := by
  unfold fieldL
  rw [if_neg (by omega), numsz, bitsI_len]
theorem fields_size {L : List Fr} {s : ByteArray} (h : s ∈ fieldsL L) : s.size = 33 := by
  unfold fieldsL at h
  obtain ⟨k, hk, rfl⟩ := List.mem_map.1 h
  obtain ⟨f, _, _, h0⟩ := keysL_mem.1 hk
  exact field_size h0
theorem fields_long {L : List Fr} (h : keysL L ≠ []) : longL (fieldsL L) = 33 := by
  have h1 : longL (fieldsL L) ≤ 33 := longL_le fun s hs => by rw [fields_size hs]; exact Nat.le_refl _
  obtain ⟨k, hk⟩ := List.exists_mem_of_ne_nil _ h
  have hm : strOfNums (fieldL k) ∈ fieldsL L := List.mem_map.2 ⟨k, hk, rfl⟩
  have h2 := longL_ge hm
  rw [fields_size hm] at h2
  omega
theorem lle_fields {a b : Int} (ha : 0 ≤ a) (ha2 : a < 8589934592) (hb : 0 ≤ b) (hb2 : b < 8589934592) : lle (domL (strOfNums (fieldL a)) 33) (domL (strOfNums (fieldL b)) 33) = decide (a ≤ b) := by
  unfold fieldL
  rw [if_neg (by omega), if_neg (by omega), lle_keys (by omega) (by omega)]
  rw [decide_eq_decide]
  omega
theorem key_in {L : List Fr} {k : Int} (h : k ∈ keysL L) : 0 ≤ k ∧ k < 8589934592 := by
  obtain ⟨f, _, rfl, h0⟩ := keysL_mem.1 h
  exact ⟨h0, key_bd f⟩
/-- just those are left whose key is the least -/
theorem left_least {L : List Fr} {i : Nat} (hi : i < (keysL L).length) {m : Int} (hm : m ∈ keysL L) (hl : ∀ k ∈ keysL L, m ≤ k) :
    (raceL (fieldsL L) (longL (fieldsL L)) (fieldsL L).length).contains (i : Int) = ((keysL L)[i] == m) := by
  have hi2 : i < (fieldsL L).length := by rw [fieldsL_len]; exact hi
  rw [race_contains hi2, fields_long (List.ne_nil_of_mem hm)]
  have e : (fieldsL L).getD i emp0 = strOfNums (fieldL ((keysL L)[i])) := by
    rw [List.getD_eq_getElem?_getD, List.getElem?_eq_getElem hi2]
    simp [fieldsL]
  have hk := List.getElem_mem hi
  rw [e, Bool.eq_iff_iff, least_iff, beq_iff_eq]
  obtain ⟨a0, a1⟩ := key_in hk
  constructor
  · intro h
    have := h (strOfNums (fieldL m)) (List.mem_map.2 ⟨m, hm, rfl⟩)
    obtain ⟨b0, b1⟩ := key_in hm
    rw [lle_fields a0 a1 b0 b1, decide_eq_true_eq] at this
    have := hl _ hk
    omega
  · intro h u hu
    obtain ⟨k, hk', rfl⟩ := List.mem_map.1 hu
    obtain ⟨b0, b1⟩ := key_in hk'
    rw [lle_fields a0 a1 b0 b1, decide_eq_true_eq, h]
    exact hl k hk'
/-- the least of a row -/
def mnL (a : Int) (K : List Int) : Int := K.foldl min a
theorem mnL_snoc (a : Int) (K : List Int) (x : Int) : mnL a (K ++ [x]) = min (mnL a K) x := by unfold mnL; rw [List.foldl_append]; rfl
theorem mnL_le : ∀ (K : List Int) (a : Int), mnL a K ≤ a ∧ ∀ k ∈ K, mnL a K ≤ k
  | [], a => ⟨Int.le_refl _, fun k h => by cases h⟩
  | x :: K, a => by
    obtain ⟨h1, h2⟩ := mnL_le K (min a x)
    refine ⟨?_, fun k hk => ?_⟩
    · show mnL (min a x) K ≤ a; omega
    · show mnL (min a x) K ≤ k
      rcases List.mem_cons.1 hk with rfl | hk
      · omega
      · exact h2 k hk
theorem mnL_mem : ∀ (K : List Int) (a : Int), mnL a K = a ∨ mnL a K ∈ K
  | [], a => .inl rfl
  | x :: K, a => by
    show mnL (min a x) K = a ∨ mnL (min a x) K ∈ x :: K
    rcases mnL_mem K (min a x) with h | h
    · rw [h]
      by_cases hx : a ≤ x
      · left; omega
      · right; rw [show min a x = x by omega]; exact List.mem_cons_self ..
    · exact .inr (List.mem_cons_of_mem _ h)
theorem first_ix (p : Nat → Bool) : ∀ n, (∃ i, i < n ∧ p i = true) → ∃ i, i < n ∧ p i = true ∧ ∀ j, j < i → p j = false
  | 0, h => by obtain ⟨i, hi, _⟩ := h; omega
  | n + 1, h => by
    by_cases hx : ∃ i, i < n ∧ p i = true
    · obtain ⟨i, h1, h2, h3⟩ := first_ix p n hx
      exact ⟨i, by omega, h2, h3⟩
    · obtain ⟨i, hi, hp⟩ := h
      refine ⟨i, hi, hp, fun j hj => ?_⟩
      cases hpj : p j
      · rfl
      · exact absurd ⟨j, by omega, hpj⟩ hx
theorem keyAt_mem {L : List Fr} {k : Nat} (hk : k < L.length) (h0 : 0 ≤ keyAt L k) : keyAt L k ∈ keysL L := by
  refine keysL_mem.2 ⟨L[k], List.getElem_mem hk, ?_, h0⟩
  unfold keyAt
  rw [List.getD_eq_getElem?_getD, List.getElem?_eq_getElem hk]; rfl
theorem least_found {L : List Fr} {m : Int} (hm : m ∈ keysL L) (hl : ∀ k ∈ keysL L, m ≤ k) : ∃ n, leastIx L L.length = some n ∧ n < L.length ∧ keyAt L n = m := by
  have hex : ∃ i, i < L.length ∧ (keyAt L i == m) = true := by
    obtain ⟨f, hf, h1, _⟩ := keysL_mem.1 hm
    obtain ⟨i, hi, rfl⟩ := List.getElem_of_mem hf
    refine ⟨i, hi, ?_⟩
    unfold keyAt
    rw [List.getD_eq_getElem?_getD, List.getElem?_eq_getElem hi]
    simpa using h1
  obtain ⟨i, hi, hp, hfirst⟩ := first_ix (fun i => keyAt L i == m) L.length hex
  have hki : keyAt L i = m := by simpa using hp
  have hm0 := (key_in hm).1
  have hls : lsB L i L.length = true := by
    unfold lsB
    rw [Bool.and_eq_true, decide_eq_true_eq, List.all_eq_true]
    refine ⟨by omega, fun k hk => ?_⟩
    rw [List.mem_range] at hk
    unfold aheadB
    simp only [Bool.or_eq_true, Bool.and_eq_true, decide_eq_true_eq, beq_iff_eq]
    by_cases h0 : keyAt L k < 0
    · exact .inl (.inl h0)
    · have := hl _ (keyAt_mem hk (by omega))
      by_cases he : keyAt L k = m
      · refine .inr ⟨by omega, ?_⟩
        rcases Nat.lt_or_ge k i with h1 | h1
        · have := hfirst k h1
          simp at this
          exact absurd he this
        · exact h1
      · exact .inl (.inr (by omega))
  cases ho : leastIx L L.length
  · unfold leastIx at ho
    rw [List.find?_eq_none] at ho
    exact absurd hls (ho i (List.mem_range.2 hi))
  · rename_i n
    refine ⟨n, rfl, ?_, ?_⟩
    · unfold leastIx at ho
      exact List.mem_range.1 (List.mem_of_find?_eq_some ho)
    · have hn : n < L.length := by unfold leastIx at ho; exact List.mem_range.1 (List.mem_of_find?_eq_some ho)
      unfold leastIx at ho
      have h1 := List.find?_some ho
      unfold lsB at h1
      rw [Bool.and_eq_true, decide_eq_true_eq, List.all_eq_true] at h1
      have h2 := h1.2 i (List.mem_range.2 hi)
      unfold aheadB at h2
      simp only [Bool.or_eq_true, Bool.and_eq_true, decide_eq_true_eq, beq_iff_eq] at h2
      have := hl _ (keyAt_mem hn h1.1)
      omega
theorem least_none {L : List Fr} (h : keysL L = []) : leastIx L L.length = none := by
  unfold leastIx
  rw [List.find?_eq_none]
  intro i hi hl
  rw [List.mem_range] at hi
  unfold lsB at hl
  rw [Bool.and_eq_true, decide_eq_true_eq] at hl
  have := keyAt_mem hi hl.1
  rw [h] at this
  cases this
end Go.Proofs.YtlfhomahbacmpaaDoor

namespace Go.Proofs.YtlfhomahbacmpaaDoor
open Go.RowKit
set_option linter.unusedVariables false

set_option maxHeartbeats 8000000 in
theorem arbKeys_walk (a : Option Addr) (len cap : Nat) (F : Nat → List Value) (w : World) (hr : IsRowOf w [.int .i64, .int .i64, .int .i64, .str] a len cap F) (hT : ATab w) :
    Calls Tryd.prog 5 #[.slice a len cap] w fun e w' => e = .returned (.bool true) ∧ Below w.heap.size w w' := by
  obtain ⟨L, hL, hlen, hf⟩ := slice_of_row hr frOf frOf_c rfl (by decide)
  have HT := Lib.hid hT
  have HV : Hid (SlF w w.heap.size (.slice a len cap) L) := Lib.hid hL
  have HX : Hid (∀ f ∈ L, f.fits) := Lib.hid (fun f h => fr_fits (hf f h))
  clear hr hT hf hL
  subst hlen
  by_cases h20 : (20 : Int) < (L.length : Int)
  · go_enter Tryd.func5, Tryd.ntmps5
    go_wp2_with fail
    refine (arbalive_any _ HT.out).mono ?_
    rintro e w1 ⟨rfl, hb1⟩
    go_wp2
    go_ret
    exact ⟨rfl, hb1⟩
  have hl2 : L.length ≤ 20 := by omega
  clear h20
  have hl3 : ¬ (20 : Int) < (L.length : Int) := by omega
  go_enter Tryd.func5, Tryd.ntmps5
  go_wp2_with fail
  go_loopw [3, 4, 22] (fun u v i wr => ∃ k : Nat, k ≤ L.length ∧ i = .int .i64 k ∧ Hid (GathS w.heap.size w u (fieldsL (L.take k)) wr ∧ GathI w.heap.size w v (keysL (L.take k)) wr)) (fun _ _ i _ => L.length - (intOf i).toNat)
  case atStart => exact ⟨0, Nat.zero_le _, rfl, Lib.hid ⟨GathG.start _ _ _ _, GathG.start _ _ _ _⟩⟩
  case round =>
    obtain ⟨k, hk, rfl, HI⟩ := hrel
    by_cases hlt : k < L.length
    · obtain ⟨x, c', hv', hxb, hc⟩ := SlF.facts (HV.out.later HI.out.1.2.1) hlt
      injection hv' with hA _ hcap
      subst hA
      subst hcap
      obtain ⟨c0, c1, c2, c3⟩ := hc ⟨wr, Below.refl _ _⟩
      clear hc
      have HFL : Hid (fieldsL (L.take (k + 1)) = fieldsL (L.take k) ++ fieldsL [L[k]]) := Lib.hid (by rw [List.take_succ_eq_append_getElem hlt, fieldsL_app])
      have HKL : Hid (keysL (L.take (k + 1)) = keysL (L.take k) ++ keysL [L[k]]) := Lib.hid (by rw [List.take_succ_eq_append_getElem hlt, keysL_app])
      have HLK : Hid ((keysL (L.take k)).length ≤ 20) := Lib.hid (by have := keysL_len (L.take k); rw [List.length_take] at this; omega)
      have HLF : Hid ((fieldsL (L.take k)).length ≤ 1000000) := Lib.hid (by rw [fieldsL_len]; have := HLK.out; omega)
      generalize fieldsL (L.take k) = FS at HI HFL HLF
      generalize keysL (L.take k) = KS at HI HKL HLK
      have HNF : Hid ((Lit.int .i64 (L[k]).n).wf = true) := Lib.hid (HX.out _ (List.getElem_mem hlt)).2.1
      generalize L[k] = f at c0 c1 c2 c3 HFL HKL HNF
      obtain ⟨v, hv⟩ : ∃ v, keyF f = v := ⟨_, rfl⟩
      have HKV : Hid (keyV f.i f.n f.l f.d.size = v) := Lib.hid hv
      have HF := Lib.hid (BoxF.made wr f.i f.n f.l f.d)
      have hbz := (Below.refl wr.heap.size wr).alloc (Nat.le_refl _) (.cells #[.int .i64 f.i, .int .i64 f.n, .int .i64 f.l, .string f.d] 33)
      have HI1 := Lib.hid (And.intro (HI.out.1.later hbz) (HI.out.2.later hbz))
      clear hbz
      go_wp2_with fail
      generalize wr.alloc (.cells #[.int .i64 f.i, .int .i64 f.n, .int .i64 f.l, .string f.d] 33) = w2 at HF HI1 ⊢
      refine (rkey_v HKV.out _).mono ?_
      rintro e w3 ⟨rfl, hb3⟩
      have HF3 := Lib.hid (HF.out.later hb3)
      have HI3 := Lib.hid (And.intro (HI1.out.1.later hb3) (HI1.out.2.later hb3))
      clear hb3 HF HI1 c0 c1 c2 c3
      obtain ⟨d0, d1, d2, d3⟩ := HF3.out.cells
      by_cases h0 : 0 ≤ v
      · have hk1 : keysL [f] = [v] := by rw [keysL_one, hv, if_pos h0]
        obtain ⟨t, ht⟩ : ∃ t, strOfNums (fieldL v) = t := ⟨_, rfl⟩
        have hf1 : fieldsL [f] = [t] := by unfold fieldsL; rw [hk1, ← ht]; rfl
        have HTT := Lib.hid ht
        rw [hk1] at HKL
        rw [hf1] at HFL
        clear hk1 hf1 ht hv
        go_wp2_with fail
        refine (kafield_v HKV.out HTT.out _ (HT.out.below HI3.out.1.2.1) HNF.out).mono ?_
        rintro e w4 ⟨rfl, hb4⟩
        have HI4 := Lib.hid (And.intro (HI3.out.1.later hb4) (HI3.out.2.later hb4))
        clear hb4 HI3 HF3 d0 d1 d2 d3
        have HNW := Lib.hid (one_cell w4 (.string t) 9)
        have HI5 := Lib.hid (And.intro (HI4.out.1.alloc (.cells #[.string t] 9)) (HI4.out.2.alloc (.cells #[.string t] 9)))
        go_wp2_with (at_builtin; refine wpList_rowS2 rfl _ _ rfl rfl HI5.out.1.1 HI5.out.1.2.2 w4.heap.size _ t rfl HNW.out HLF.out ?_)
        intro v5 w5 hown hbel hst
        have HI6 : Hid (GathS w.heap.size w v5 (FS ++ [t]) w5 ∧ GathI w.heap.size w u4 KS w5) := Lib.hid ⟨⟨by rw [List.length_append]; exact hown, HI5.out.1.2.1.trans hbel, Nat.le_trans HI5.out.1.2.2 hbel.size⟩, hst.gath (by decide) HI5.out.2 hbel hbel.size⟩
        clear hown hbel hst HI5 HNW
        have HNW := Lib.hid (one_cell w5 (.int .i64 v) 3)
        have HI7 := Lib.hid (And.intro (HI6.out.1.alloc (.cells #[.int .i64 v] 3)) (HI6.out.2.alloc (.cells #[.int .i64 v] 3)))
        go_wp2_with (at_builtin; refine wpList_rowI2 rfl _ _ rfl rfl HI7.out.2.1 HI7.out.2.2.2 w5.heap.size _ v rfl HNW.out (Nat.le_trans HLK.out (by decide)) ?_)
        intro v8 w8 hown hbel hst
        have HI8 : Hid (GathS w.heap.size w v5 (FS ++ [t]) w8 ∧ GathI w.heap.size w v8 (KS ++ [v]) w8) := Lib.hid ⟨hst.gath (by decide) HI7.out.1 hbel hbel.size, ⟨by rw [List.length_append]; exact hown, HI7.out.2.2.1.trans hbel, Nat.le_trans HI7.out.2.2.2 hbel.size⟩⟩
        clear hown hbel hst HI7 HNW HI6
        go_wp2
        go_roundw
        case rel => exact ⟨k + 1, by omega, by go_num, by rw [HFL.out, HKL.out]; exact HI8⟩
        case measure => simp [intOf]; omega
      · have hk1 : keysL [f] = [] := by rw [keysL_one, hv, if_neg h0]
        have hf1 : fieldsL [f] = [] := by unfold fieldsL; rw [hk1]; rfl
        rw [hk1, List.append_nil] at HKL
        rw [hf1, List.append_nil] at HFL
        clear hk1 hf1 hv
        go_wp2
        go_roundw
        case rel => exact ⟨k + 1, by omega, by go_num, by rw [HFL.out, HKL.out]; exact HI3⟩
        case measure => simp [intOf]; omega
    · obtain rfl : k = L.length := by omega
      rw [List.take_length] at HI
      have HS := Lib.hid (HI.out.1.slS (by rw [fieldsL_len]; have := keysL_len L; omega))
      have HK := Lib.hid (HI.out.2.slI (by have := keysL_len L; omega))
      have HBr := Lib.hid HI.out.1.2.1
      have HVr := Lib.hid (SlG.later HV.out HI.out.1.2.1)
      have hkl : (keysL L).length ≤ 20 := Nat.le_trans (keysL_len L) hl2
      have HFM : Hid ((∀ s ∈ fieldsL L, s.size ≤ 1000000) ∧ (fieldsL L).length ≤ 1000000) := Lib.hid ⟨fun s hs => by rw [fields_size hs]; decide, by rw [fieldsL_len]; omega⟩
      clear HI
      obtain ⟨A3, b3, hu3, -, -⟩ := HS.out
      obtain ⟨A4, b4, hu4, -, -⟩ := HK.out
      subst hu3
      subst hu4
      go_wp2_with fail
      refine (karace_v HFM.out.1 HFM.out.2 _ HS.out).mono ?_
      rintro e w5 ⟨u5, rfl, hs5, hb5⟩
      have HS5 := Lib.hid hs5
      have HK5 := Lib.hid (HK.out.later hb5)
      have HV5 := Lib.hid (SlG.later HVr.out hb5)
      have HB5 := Lib.hid (fbelow_t HBr.out hb5)
      obtain ⟨A5, b5, rfl, -, -⟩ := hs5
      clear hb5 HK HVr HBr HS
      go_wp2_with fail
      refine (kaleast_v _ HV5.out HX.out (HT.out.below HB5.out)).mono ?_
      rintro e w6 ⟨h1, hb6⟩
      have HS6 := Lib.hid (HS5.out.later hb6)
      have HK6 := Lib.hid (HK5.out.later hb6)
      have HV6 := Lib.hid (SlG.later HV5.out hb6)
      have HB6 := Lib.hid (fbelow_t HB5.out hb6)
      clear hb6 HS5 HK5 HV5 HB5
      by_cases hnil : keysL L = []
      · rw [least_none hnil] at h1
        subst h1
        have ek : (((keysL L).length : Int) == 0) = true := by rw [hnil]; rfl
        have er : (((raceL (fieldsL L) (longL (fieldsL L)) (fieldsL L).length).length : Int) == 0) = true := by
          have : (fieldsL L).length = 0 := by rw [fieldsL_len, hnil]; rfl
          rw [this]; rfl
        clear hnil
        go_wp2_with fail
        refine (arbalive_any _ (HT.out.below HB6.out)).mono ?_
        rintro e w0 ⟨rfl, hb0⟩
        go_wp2
        go_ret
        exact ⟨rfl, fbelow_t HB6.out hb0⟩
      · have hpos : 0 < (keysL L).length := Nat.pos_of_ne_zero (fun h => hnil (List.eq_nil_of_length_eq_zero h))
        have ek : (((keysL L).length : Int) == 0) = false := by simp; omega
        obtain ⟨y, b', hy, hyb, k0⟩ := HK6.out.at1 hpos rfl
        injection hy with hA _ hcap
        subst hA
        subst hcap
        obtain ⟨z, hz⟩ : ∃ z, (keysL L)[0] = z := ⟨_, rfl⟩
        have hzm : z ∈ keysL L := by rw [← hz]; exact List.getElem_mem hpos
        rw [hz] at k0
        have k0' : w6.cell? y = some (.int .i64 z) := by simpa [Addr.add] using k0
        clear k0
        obtain ⟨m, hm⟩ : ∃ m, mnL z (keysL L) = m := ⟨_, rfl⟩
        have HMM := Lib.hid hm
        have hml : ∀ k ∈ keysL L, m ≤ k := by rw [← hm]; exact (mnL_le (keysL L) z).2
        have hmm : m ∈ keysL L := by
          rw [← hm]
          rcases mnL_mem (keysL L) z with h | h
          · rw [h]; exact hzm
          · exact h
        obtain ⟨n, hn1, hn2, hn3⟩ := least_found hmm hml
        have HLM := Lib.hid hml
        have HMI := Lib.hid hmm
        rw [hn1] at h1
        subst h1
        have HN3 : Hid (keyF L[n] = m) := Lib.hid (by
          rw [← hn3]
          unfold keyAt
          rw [List.getD_eq_getElem?_getD, List.getElem?_eq_getElem hn2]; rfl)
        clear hnil hz hzm hm hml hmm hn1 hn3
        go_wp2_with fail
        go_loop [11, 69] (fun c i => ∃ j : Nat, j ≤ (keysL L).length ∧ i = .int .i64 j ∧ c = .int .i64 (mnL z ((keysL L).take j))) (fun _ i => (keysL L).length - (intOf i).toNat)
        case atStart => exact ⟨0, Nat.zero_le _, rfl, rfl⟩
        case round =>
          obtain ⟨j, hj, rfl, rfl⟩ := hrel
          by_cases hlt2 : j < (keysL L).length
          · obtain ⟨y', b', hy', hyb', c0⟩ := HK6.out.at1 hlt2 rfl
            injection hy' with hA _ hcap
            injection hA with hA
            subst hA
            subst hcap
            have HMN : Hid (mnL z ((keysL L).take (j + 1)) = min (mnL z ((keysL L).take j)) (keysL L)[j]) := Lib.hid (by rw [take_snoc hlt2, mnL_snoc])
            generalize (keysL L)[j] = q at c0 HMN
            generalize mnL z ((keysL L).take j) = p at HMN
            go_wp2
            go_round
            case rel => exact ⟨j + 1, by omega, by go_num, by rw [HMN.out]; try (congr 1; split <;> omega)⟩
            case measure => simp [intOf]; omega
          · obtain rfl : j = (keysL L).length := by omega
            rw [List.take_length, HMM.out]
            go_wp2_with fail
            go_loop [79] (fun i => ∃ j : Nat, j ≤ (keysL L).length ∧ i = .int .i64 j) (fun i => (keysL L).length - (intOf i).toNat)
            case atStart => exact ⟨0, Nat.zero_le _, rfl⟩
            case round =>
              obtain ⟨j, hj, rfl⟩ := hrel
              by_cases hlt2 : j < (keysL L).length
              · obtain ⟨y', b', hy', hyb', c0⟩ := HK6.out.at1 hlt2 rfl
                injection hy' with hA _ hcap
                injection hA with hA
                subst hA
                subst hcap
                obtain ⟨q, hq⟩ : ∃ q, ((keysL L)[j] == m) = q := ⟨_, rfl⟩
                have HIN : Hid ((raceL (fieldsL L) (longL (fieldsL L)) (fieldsL L).length).contains (j : Int) = q) := Lib.hid (by rw [← hq]; exact left_least hlt2 HMI.out HLM.out)
                generalize (keysL L)[j] = p at c0 hq
                have hqq : (q != q) = false := by simp
                go_wp2_with fail
                refine (sin_v HIN.out _ HS6.out).mono ?_
                rintro e w7 ⟨rfl, rfl⟩
                go_wp2
                go_round
                case rel => exact ⟨j + 1, by omega, by go_num⟩
                case measure => simp [intOf]; omega
              · obtain rfl : j = (keysL L).length := by omega
                obtain ⟨x, c', hv', hxb, hc⟩ := SlF.facts HV6.out hn2
                injection hv' with hA _ hcap
                subst hA
                subst hcap
                obtain ⟨d0, d1, d2, d3⟩ := hc ⟨w6, Below.refl _ _⟩
                clear hc
                have HKV : Hid (keyV (L[n]).i (L[n]).n (L[n]).l (L[n]).d.size = m) := Lib.hid HN3.out
                generalize L[n] = f at d0 d1 d2 d3 HKV
                have hn9 : (n : Int) < (L.length : Int) := by omega
                have em : (m == m) = true := by simp
                go_wp2_with fail
                refine (rkey_v HKV.out _).mono ?_
                rintro e w7 ⟨rfl, hb7⟩
                have HB7 := Lib.hid (fbelow_t HB6.out hb7)
                clear hb7
                go_wp2_with fail
                refine (arbalive_any _ (HT.out.below HB7.out)).mono ?_
                rintro e w0 ⟨rfl, hb0⟩
                go_wp2
                go_ret
                exact ⟨rfl, fbelow_t HB7.out hb0⟩
end Go.Proofs.YtlfhomahbacmpaaDoor
