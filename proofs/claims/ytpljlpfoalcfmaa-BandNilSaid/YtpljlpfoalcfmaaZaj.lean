/- Band, the code: what a queue is in memory (a map of rows); what is stored into it. Rows of rows of frames: a slice of slices of the call's own, each with a block of its own; a row of them appended to, in a region that draws. Band, the code: New, Put, Stop, Wake, Stopped, Len, Flush. -/
import Derived.Test.YtpljlpfoalcfmaaZae
import Derived.Test.YtpljlpfoalcfmaaZai
import Derived.Test.YtpljlpfoalcfmaaZag
import Derived.Test.YtpljlpfoalcfmaaZaf
namespace Go.Proofs.Ytpljlpfoalcfmaa
open Go.RowKit
open Go.Maps (Keyed)
set_option linter.unusedVariables false

theorem lawJ : Keyed Try.prog 3 := Maps.int_keyed Try.underlying3
theorem keyJ {i : Int} (h : -9223372036854775808 ≤ i ∧ i ≤ 9223372036854775807) : keyOf Try.prog 3 (.int .i64 i) = some (.int .i64 i) :=
  Maps.keyOf_int_mk Try.underlying3 (by simp [Lit.wf, IntKind.min, IntKind.max, IntKind.signed, IntKind.bits]; omega)
theorem zeroPs (w : World) : (zeroValue 47).run Try.prog w = .ok (.slice none 0 0) w := by kernel_rfl
abbrev nilP : Value := .slice none 0 0
/-- a row for each band (nil where none stands) -/
def rowOf (V : Nat → Value) (i : Nat) (v : Value) : Nat → Value := fun j => if j = i then v else V j
theorem rowOf_same (V : Nat → Value) (i : Nat) (v : Value) : rowOf V i v i = v := if_pos rfl
theorem rowOf_other (V : Nat → Value) {i j : Nat} (h : j ≠ i) (v : Value) : rowOf V i v j = V j := if_neg h
/-- a queue; n: what its count's cell holds -/
structure BdM (w : World) (b gm : Nat) (D : DataW Value) (V : Nat → Value) (s : Bq) (n : Int) : Prop where
  box : w.heap[b]? = some (.cells #[.map (some gm), .int .i64 s.bands, .int .i64 s.room, .int .i64 n, .bool s.st] 58 (0, 0))
  map : MapH Try.prog 3 w gm D
  size : SzN 1000 D
  here : ∀ i : Nat, AtM nilP D i (V i)
  row : ∀ i : Nat, RowQ pkC 7 w (V i) (bandF s.L i)
  h1 : b ≠ gm
  f1 : ∀ i : Nat, ¬ OwnO (V i) b ∧ ¬ OwnO (V i) gm
  f2 : ∀ i j : Nat, i ≠ j → Apart (OwnO (V i)) (OwnO (V j))
def bdO (b gm : Nat) (V : Nat → Value) : Nat → Prop := fun k => k = b ∨ k = gm ∨ ∃ i, OwnO (V i) k
def BdD (w : World) (v : Value) (s : Bq) (O : Nat → Prop) : Prop := ∃ b gm D V, v = .pointer (some ⟨b, 0, none⟩) ∧ O = bdO b gm V ∧ BdM w b gm D V s s.L.length
section
variable {w w' : World} {b gm : Nat} {D : DataW Value} {V : Nat → Value} {s : Bq} {n : Int}
theorem BdM.lt (h : BdM w b gm D V s n) : ∀ k, bdO b gm V k → k < w.heap.size := by
  rintro k (rfl | rfl | ⟨i, hk⟩)
  · exact heap_some_lt h.box
  · exact h.map.lt
  · exact (h.row i).lt k hk
theorem BdM.stay (h : BdM w b gm D V s n) (hs : ∀ k, bdO b gm V k → w'.heap[k]? = w.heap[k]?) : BdM w' b gm D V s n := by
  have key : ∀ k, bdO b gm V k → k < w'.heap.size := fun k hk => by
    have h1 := h.lt k hk
    have h2 := hs k hk
    rw [Array.getElem?_eq_getElem h1] at h2
    exact heap_some_lt h2
  exact ⟨(hs b (.inl rfl)).trans h.box, h.map.stay (hs gm (.inr (.inl rfl))), h.size, h.here,
    fun i => (h.row i).stayL (fun g hg => hs g (.inr (.inr ⟨i, hg⟩))) (fun g hg => key g (.inr (.inr ⟨i, hg⟩))), h.h1, h.f1, h.f2⟩
theorem BdM.later (h : BdM w b gm D V s n) (hb : Below w.heap.size w w') : BdM w' b gm D V s n := h.stay (fun k hk => hb.block k (h.lt k hk))
theorem BdM.cells (h : BdM w b gm D V s n) :
    w.cell? ⟨b, 0, none⟩ = some (.map (some gm)) ∧ w.cell? ⟨b, 1, none⟩ = some (.int .i64 s.bands) ∧ w.cell? ⟨b, 2, none⟩ = some (.int .i64 s.room) ∧
    w.cell? ⟨b, 3, none⟩ = some (.int .i64 n) ∧ w.cell? ⟨b, 4, none⟩ = some (.bool s.st) := by
  have hb := h.box
  refine ⟨?_, ?_, ?_, ?_, ?_⟩ <;> (rw [Lib.cell_of_heap hb]; rfl)
theorem BdM.live (h : BdM w b gm D V s n) : ∀ j, w.frozen? ⟨b, j, none⟩ = false := fun j => Lib.frozen_of_heap h.box j
theorem BdM.look (h : BdM w b gm D V s n) (i : Nat) (hi : i < 1000) : (Instr.lookup 55 (.map (some gm)) (.int .i64 i) false).run Try.prog w = .ok (V i) w :=
  h.map.look lawJ Try.underlying55 (zeroPs w) (keyJ (by omega)) (h.here i)
/-- a cell of the box is stored: the count, or whether it is stopped -/
theorem BdM.setBox {q : Bool} {m : Int} (h : BdM w b gm D V s n) (j : Nat) (u : Value)
    (hc : (#[Value.map (some gm), .int .i64 s.bands, .int .i64 s.room, .int .i64 n, .bool s.st] : Array Value).setIfInBounds j u = #[.map (some gm), .int .i64 s.bands, .int .i64 s.room, .int .i64 m, .bool q]) :
    BdM (w.setCell ⟨b, j, none⟩ u) b gm D V { s with st := q } m := by
  have hz : w.heap.size ≤ (w.setCell ⟨b, j, none⟩ u).heap.size := by simp [World.setCell]
  have ho : ∀ k, k ≠ b → (w.setCell ⟨b, j, none⟩ u).heap[k]? = w.heap[k]? := fun k hk => Below.heap_setCell _ _ _ _ hk
  refine ⟨?_, h.map.stay (ho _ (fun e => h.h1 e.symm)), h.size, h.here, fun i => (h.row i).stay (fun g hg => ho g (fun e => (h.f1 i).1 (e ▸ hg))) hz, h.h1, h.f1, h.f2⟩
  rw [heap_setCell_same w b j _ _ _ h.box, ← hc]
theorem bdSet_kept {j : Nat} {u : Value} : Kept (bdO b gm V) w (w.setCell ⟨b, j, none⟩ u) := ⟨rfl, rfl, rfl, by simp [World.setCell], fun k _ hk => Below.heap_setCell _ _ _ _ (fun e => hk (.inl e))⟩
theorem BdM.setCount (h : BdM w b gm D V s n) (m : Int) : BdM (w.setCell ⟨b, 3, none⟩ (.int .i64 m)) b gm D V s m := h.setBox 3 _ rfl
theorem BdM.setStop (h : BdM w b gm D V s n) (q : Bool) : BdM (w.setCell ⟨b, 4, none⟩ (.bool q)) b gm D V { s with st := q } n := h.setBox 4 _ rfl
theorem bdO_set {i : Nat} {v' : Value} (hg : Grows (OwnO (V i)) w (OwnO v')) : Grows (bdO b gm V) w (bdO b gm (rowOf V i v')) := by
  rintro k (h | h | ⟨j, h⟩)
  · exact .inl (.inl h)
  · exact .inl (.inr (.inl h))
  · by_cases e : j = i
    · subst e
      rw [rowOf_same] at h
      rcases hg k h with h1 | h1
      · exact .inl (.inr (.inr ⟨j, h1⟩))
      · exact .inr h1
    · rw [rowOf_other _ e] at h
      exact .inl (.inr (.inr ⟨j, h⟩))
/-- a band's row is another one now -/
theorem BdM.setRow {w2 : World} {D' : DataW Value} {L' : List On} (h : BdM w b gm D V s n) {i : Nat} {v' : Value} (hq : RowQ pkC 7 w' v' (bandF L' i)) (hL : ∀ j, j ≠ i → bandF L' j = bandF s.L j) (hk : Kept (OwnO (V i)) w w') (hg : Grows (OwnO (V i)) w (OwnO v'))
    (hm : MapH Try.prog 3 w2 gm D') (hz' : SzN 1000 D') (ha : AtM nilP D' i v') (hn : ∀ (j : Nat) (x : Value), j ≠ i → AtM nilP D j x → AtM nilP D' j x) (ht : w'.mapTurned w2 gm) :
    BdM w2 b gm D' (rowOf V i v') { s with L := L' } n ∧ Kept (bdO b gm V) w w2 ∧ Grows (bdO b gm V) w (bdO b gm (rowOf V i v')) := by
  have kt := Kept.of_turned ht
  have hz := kt.size
  have hlt := h.lt
  obtain ⟨u1, u3⟩ := h.f1 i
  have nv : ∀ k, k < w.heap.size → ¬ OwnO (V i) k → ¬ OwnO v' k := fun k h1 h2 h3 => by rcases hg k h3 with h4 | h4; exact h2 h4; omega
  have lb := hlt b (.inl rfl)
  have lw := hlt gm (.inr (.inl rfl))
  have ho : ∀ k, k < w'.heap.size → k ≠ gm → w2.heap[k]? = w'.heap[k]? := fun k h1 hk => kt.block k h1 hk
  have l2 : ∀ k, k < w.heap.size → k < w'.heap.size := fun k h1 => Nat.lt_of_lt_of_le h1 hk.size
  have other : ∀ m, m ≠ i → Apart (OwnO v') (OwnO (V m)) := fun m hm k h1 h2 => nv k ((h.row m).lt k h2) (fun h3 => h.f2 i m (fun e => hm e.symm) k h3 h2) h1
  refine ⟨⟨?_, hm, hz', fun j => ?_, fun j => ?_, h.h1, fun j => ?_, fun j l hjl => ?_⟩, ?_, bdO_set hg⟩
  · rw [ho b (l2 b lb) h.h1, hk.block b lb u1]; exact h.box
  · by_cases e : j = i
    · subst e; rw [rowOf_same]; exact ha
    · rw [rowOf_other _ e]; exact hn j _ e (h.here j)
  · by_cases e : j = i
    · subst e
      rw [rowOf_same]
      exact hq.stay (fun g hg' => ho g (hq.lt g hg') (fun e => nv gm lw u3 (e ▸ hg'))) hz
    · rw [rowOf_other _ e]
      show RowQ pkC 7 w2 (V j) (bandF L' j)
      rw [hL j e]
      have h5 := h.row j
      exact (h5.stay (fun g hg' => hk.block g (h5.lt g hg') (fun h6 => h.f2 i j (fun e2 => e e2.symm) g h6 hg')) hk.size).stay (fun g hg' => ho g (l2 g (h5.lt g hg')) (fun e => (h.f1 j).2 (e ▸ hg'))) hz
  · by_cases e : j = i
    · subst e; rw [rowOf_same]; exact ⟨nv b lb u1, nv gm lw u3⟩
    · rw [rowOf_other _ e]; exact h.f1 j
  · by_cases e : j = i
    · subst e
      rw [rowOf_same, rowOf_other _ (fun e => hjl e.symm)]
      exact other l (fun e => hjl e.symm)
    · rw [rowOf_other _ e]
      by_cases e2 : l = i
      · subst e2; rw [rowOf_same]; exact (other j e).symm
      · rw [rowOf_other _ e2]; exact h.f2 j l hjl
  · refine ⟨kt.os.trans hk.os, kt.tape.trans hk.tape, kt.output.trans hk.output, Nat.le_trans hk.size hz, fun k h1 h2 => ?_⟩
    rw [ho k (l2 k h1) (fun e => h2 (.inr (.inl e)))]
    exact hk.block k h1 (fun h3 => h2 (.inr (.inr ⟨i, h3⟩)))
/-- all rows are gone -/
theorem BdM.clear {w2 : World} (h : BdM w b gm D V s n) (hm : MapH Try.prog 3 w2 gm (.map [])) (ht : w.mapTurned w2 gm) :
    BdM w2 b gm (.map []) (fun _ => nilP) { s with L := [] } n ∧ Kept (bdO b gm V) w w2 ∧ Grows (bdO b gm V) w (bdO b gm (fun _ => nilP)) := by
  have kt := Kept.of_turned ht
  have lb := h.lt b (.inl rfl)
  have nn : ∀ k, ¬ OwnO nilP k := fun k h => by cases h
  refine ⟨⟨(kt.block b lb h.h1).trans h.box, hm, SzN.empty _, fun i => AtM.empty _ _, fun i => RowQ.nil _, h.h1, fun i => ⟨nn _, nn _⟩, fun i j _ k h _ => (nn k h).elim⟩, ?_, ?_⟩
  · exact ⟨kt.os, kt.tape, kt.output, kt.size, fun k h1 h2 => kt.block k h1 (fun e => h2 (.inr (.inl e)))⟩
  · rintro k (h | h | ⟨j, h⟩)
    · exact .inl (.inl h)
    · exact .inl (.inr (.inl h))
    · exact (nn k h).elim
end
theorem isObj_bd : IsObj BdD where
  stay := by
    rintro w w' v s O ⟨b, gm, D, V, rfl, rfl, h⟩ hs
    exact ⟨b, gm, D, V, rfl, rfl, h.stay hs⟩
  lt := by
    rintro w v s O ⟨b, gm, D, V, rfl, rfl, h⟩
    exact h.lt
theorem BdM.stp {w w' : World} {b gm : Nat} {D : DataW Value} {V : Nat → Value} {s : Bq} (h : BdM w b gm D V s s.L.length) (hb : Below w.heap.size w w') : Stp BdD (.pointer (some ⟨b, 0, none⟩)) (bdO b gm V) w s w' :=
  ⟨_, ⟨b, gm, D, V, rfl, rfl, h.later hb⟩, .of_below hb, Grows.refl _ _⟩
/-! ### plain: bands -/
theorem bandF_put (L : List On) (x : On) (j : Nat) : bandF (L ++ [x]) j = bandF L j ++ (if x.b = (j : Int) then [x.p] else []) := by rw [bandF_app, bandF_one]
theorem bandF_len (L : List On) (j : Nat) : (bandF L j).length ≤ L.length := by
  unfold bandF
  rw [List.length_map]
  exact List.length_filter_le _ _
theorem bandF_erase {L : List On} {i : Nat} {x : On} (h : L[i]? = some x) (j : Nat) (hj : x.b ≠ (j : Int)) : bandF (L.eraseIdx i) j = bandF L j := by
  obtain ⟨e1, e2⟩ := split_at h
  rw [e2]
  conv => rhs; rw [e1]
  have e : L.take i ++ x :: L.drop (i + 1) = L.take i ++ ([x] ++ L.drop (i + 1)) := rfl
  rw [e, bandF_app, bandF_app, bandF_app, bandF_one, if_neg hj]
  rfl
/-- who is taken, as the code finds it: the least band that has one, and its first -/
structure TakeAt (s : Bq) (i c : Nat) (p : Pk) (M : List Pk) : Prop where
  lt : (c : Int) < s.bands
  least : ∀ j, j < c → bandF s.L j = []
  row : bandF s.L c = p :: M
  rest : bandF (s.L.eraseIdx i) c = M
  other : ∀ j, j ≠ c → bandF (s.L.eraseIdx i) j = bandF s.L j
  len : (s.L.eraseIdx i).length + 1 = s.L.length
  take : s.st = false → s.take = ({ s with L := s.L.eraseIdx i }, p, true)
theorem take_at {s : Bq} (hok : s.Ok) (hn : s.L ≠ []) : ∃ i c p M, TakeAt s i c p M := by
  obtain ⟨i, hi⟩ := Bq.first_some hn
  obtain ⟨h1, h2, h3⟩ := Bq.first_spec hi
  obtain ⟨x, hx⟩ : ∃ x, s.L[i]? = some x := ⟨_, List.getElem?_eq_getElem h1⟩
  obtain ⟨e1, e2⟩ := split_at hx
  have hb : ∀ j y, s.L[j]? = some y → s.bd j = y.b := fun j y hy => by unfold Bq.bd; rw [List.getD_eq_getElem?_getD, hy]; rfl
  have hxb := hb i x hx
  obtain ⟨r1, r2⟩ := hok.rng x (List.mem_of_getElem? hx)
  obtain ⟨c, hc⟩ := Int.eq_ofNat_of_zero_le r1
  have hall : ∀ o ∈ s.L, (c : Int) ≤ o.b := fun o ho => by
    obtain ⟨j, hj, rfl⟩ := List.getElem_of_mem ho
    have := h3 j hj
    rw [hb j _ (List.getElem?_eq_getElem hj), hxb] at this
    omega
  have hL1 : bandF (s.L.take i) c = [] := bandF_none (fun o ho e => by
    obtain ⟨j, hj, rfl⟩ := List.getElem_of_mem ho
    rw [List.length_take] at hj
    have hj2 : j < s.L.length := by omega
    rw [List.getElem_take] at e
    have := h2 j (by omega)
    rw [hb j _ (List.getElem?_eq_getElem hj2), hxb] at this
    omega)
  refine ⟨i, c, x.p, bandF (s.L.drop (i + 1)) c, by omega, fun j hj => bandF_none (fun o ho e => by have := hall o ho; omega), ?_, ?_, fun j hj => bandF_erase hx j (by omega), ?_, fun hs => ?_⟩
  · conv => lhs; rw [e1]
    have e : s.L.take i ++ x :: s.L.drop (i + 1) = s.L.take i ++ ([x] ++ s.L.drop (i + 1)) := rfl
    rw [e, bandF_app, bandF_app, bandF_one, if_pos hc, hL1]
    rfl
  · rw [e2, bandF_app, hL1]; rfl
  · rw [List.length_eraseIdx, if_pos h1]; omega
  · unfold Bq.take; rw [hi]; simp [hs, List.getD_eq_getElem?_getD, hx]
end Go.Proofs.Ytpljlpfoalcfmaa

namespace Go.Proofs.Ytpljlpfoalcfmaa
open Go.RowKit
set_option linter.unusedVariables false

def rwO (g : Nat) (ws : List Value) : Nat → Prop := fun k => k = g ∨ ∃ (i : Nat) (u : Value), ws[i]? = some u ∧ OwnO u k
theorem at_lt {α : Type} {l : List α} {i : Nat} {a : α} (h : l[i]? = some a) : i < l.length := by
  rcases Nat.lt_or_ge i l.length with h1 | h1
  · exact h1
  · rw [List.getElem?_eq_none h1] at h; cases h
/-! ### a row appended to, in a region that draws -/
section
variable {P : Program} {ops : Array Oper} {st : List Nat} {G : Nat → (Tmp → Option Value) → World → Prop} {sec : List Tmp} {Q : Act → Prop} {o : Oper} {rest : List Oper} {h : Act} {i : Nat}
theorem st_app {α : Type} {c : α → List Value} {kk bytes : Nat} {T E : TypeId} {L M : List α} {ts tx tr : Tmp} {v : Value} (hT : FlatE P T E kk bytes) (hkk : ∀ a, (c a).length = kk) (hone : ∀ a, ∀ u ∈ c a, u.oneCell' = true)
    (k : Nat) (hi : st[k]? = some i) (hw : Region.wanted o (yielded ops h.tmps) = true) (ho : o.op = .call { callee := .builtin .append, args := #[.tmp ts, .tmp tx], argTypes := #[T, T] }) (hd : o.dst = some tr)
    (hs1 : sec.contains tr = true) (hs2 : sec.contains tx = true) (hs3 : sec.contains ts = false) (hl1 : ts ∈ o.looksAt ops) (hl2 : tx ∈ o.looksAt ops) (hv : h.tmps.getD ts undef = v)
    (hrd : ∀ xs w x, G k xs w → xs tx = some x → RowQ c kk w v L ∧ RdA c kk w x M) (hsz : L.length + M.length ≤ 1000000)
    (hG : ∀ xs w v' w', G k xs w → RowQ c kk w' v' (L ++ M) → Kept (OwnO v) w w' → Grows (OwnO v) w (OwnO v') → G (k + 1) (fun t => if t = tr then some v' else xs t) w')
    (hk : wpSt P ops st G sec Q (i + 1) rest (h.put o.dst undef)) : wpSt P ops st G sec Q i (o :: rest) h := by
  unfold wpSt
  rw [if_pos hw]
  refine ⟨undef, fun j xs a w hj hjk hb hfr hlk => ?_, hk⟩
  obtain rfl := hjk k hi
  have h1 := hlk ts hl1
  have h2 := hlk tx hl2
  have s1 : tr ∈ sec := by simpa using hs1
  rw [if_neg (by simpa using hs3), hv] at h1
  rw [if_pos (by simpa using hs2)] at h2
  obtain ⟨x, hx⟩ : ∃ x, a.tmps.getD tx undef = x := ⟨_, rfl⟩
  rw [hx] at h2
  obtain ⟨r1, r2⟩ := hrd xs w _ hb h2
  obtain ⟨v', w', hrun, q1, q2, q3⟩ := r1.run hT hkk (RowQ.src r2 hkk hone hT.1) hsz o.type
  have e1 : a.eval (.tmp ts) = v := h1
  have e2 : a.eval (.tmp tx) = x := hx
  rw [if_pos (List.mem_of_getElem? hi)]
  simp [execOp, ho, resolve, invoke, builtin, e1, e2, hrun, Result.andThen, stUpon, hd]
  refine ⟨?_, .inl s1⟩
  have := hG xs w v' w' hb q1 q2 q3
  unfold hidPut
  simp only
  rw [if_pos s1]
  exact this
end
end Go.Proofs.Ytpljlpfoalcfmaa

namespace Go.Proofs.Ytpljlpfoalcfmaa
open Go.RowKit
open Go.Maps (Keyed IsMap Tidy)
set_option linter.unusedVariables false

/-! ### New -/
set_option maxHeartbeats 1000000 in
theorem kqwithin_v {n r : Int} (h : roomN n = r) (w : World) : Calls Try.prog 24 #[.int .i64 n] w fun e w' => e = .returned (.int .i64 r) ∧ w = w' := by
  have hmin : min (max n 1) 1000 = r := by
    rw [← h]
    unfold roomN
    split
    · omega
    · split <;> omega
  clear h
  go_enter Try.func24, Try.ntmps24
  go_wp2
  all_goals (go_ret; refine ⟨?_, rfl⟩; rw [← hmin]; exact fret_int (by omega))
theorem bdD_new {w w' : World} {bands room : Int} (e : w' = (w.alloc (.map #[] 0)).alloc (.cells #[.map (some w.heap.size), .int .i64 (roomN bands), .int .i64 (roomN room), .int .i64 0, .bool false] 58)) :
    ∃ O, BdD w' (.pointer (some ⟨w.heap.size + 1, 0, none⟩)) (bqNew bands room) O ∧ Below w.heap.size w w' ∧ ∀ k, O k → w.heap.size ≤ k := by
  subst e
  have m1 := MapH.made w Try.prog 3
  obtain ⟨w1, e1⟩ : ∃ w1, w.alloc (.map #[] 0) = w1 := ⟨_, rfl⟩
  have s1 : w1.heap.size = w.heap.size + 1 := by rw [← e1]; simp
  have hb1 : Below w.heap.size w w1 := by rw [← e1]; exact (Below.refl _ w).alloc (Nat.le_refl _) _
  rw [e1] at m1 ⊢
  have n2 := heap_alloc_new w1 (.cells #[.map (some w.heap.size), .int .i64 (roomN bands), .int .i64 (roomN room), .int .i64 0, .bool false] 58)
  have hb2 := (Below.refl _ w1).alloc (Nat.le_refl _) (.cells #[.map (some w.heap.size), .int .i64 (roomN bands), .int .i64 (roomN room), .int .i64 0, .bool false] 58)
  rw [s1] at n2
  have nn : ∀ k, ¬ OwnO nilP k := fun k h => by cases h
  refine ⟨_, ⟨_, _, .map [], fun _ => nilP, rfl, rfl, ⟨n2, m1.stay (hb2.block _ (by omega)), SzN.empty _, fun i => AtM.empty _ _, fun i => RowQ.nil _, by omega, fun i => ⟨nn _, nn _⟩, fun i j _ k h _ => (nn k h).elim⟩⟩, fbelow_t hb1 hb2, ?_⟩
  rintro k (rfl | rfl | ⟨i, hk⟩)
  · omega
  · exact Nat.le_refl _
  · exact (nn k hk).elim
set_option maxHeartbeats 2000000 in
theorem kqnew_v (bands room : Int) (w : World) : Calls Try.prog 9 #[.int .i64 bands, .int .i64 room] w fun e w' => ∃ v O, e = .returned v ∧ BdD w' v (bqNew bands room) O ∧ Below w.heap.size w w' ∧ ∀ k, O k → w.heap.size ≤ k := by
  have hmm := @run_makeMap Try.prog
  go_enter Try.func9, Try.ntmps9
  go_wp2_with fail
  refine (kqwithin_v rfl _).mono ?_
  rintro e w1 ⟨rfl, rfl⟩
  go_wp2_with fail
  refine (kqwithin_v rfl _).mono ?_
  rintro e w1 ⟨rfl, rfl⟩
  go_wp2
  go_ret
  obtain ⟨O, h⟩ := bdD_new (w := w) (bands := bands) (room := room) rfl
  exact ⟨_, O, rfl, h⟩
/-! ### the short ones -/
set_option maxHeartbeats 1000000 in
theorem kqstop_v {v : Value} {s : Bq} {O : Nat → Prop} (w : World) (h : BdD w v s O) : Calls Try.prog 15 #[v] w fun e w' => e = .returned (.tuple #[]) ∧ Stp BdD v O w { s with st := true } w' := by
  obtain ⟨b, gm, D, V, rfl, rfl, hm⟩ := h
  have HS := Lib.hid (hm.setStop true)
  obtain ⟨c0, c1, c2, c3, c4⟩ := hm.cells
  have f4 := hm.live 4
  clear hm
  go_enter Try.func15, Try.ntmps15
  go_wp2
  go_end0
  exact ⟨rfl, _, ⟨b, gm, D, V, rfl, rfl, HS.out⟩, bdSet_kept, Grows.refl _ _⟩
set_option maxHeartbeats 1000000 in
theorem kqwake_v {v : Value} {s : Bq} {O : Nat → Prop} (w : World) (h : BdD w v s O) : Calls Try.prog 16 #[v] w fun e w' => e = .returned (.tuple #[]) ∧ Stp BdD v O w { s with st := false } w' := by
  obtain ⟨b, gm, D, V, rfl, rfl, hm⟩ := h
  have HS := Lib.hid (hm.setStop false)
  obtain ⟨c0, c1, c2, c3, c4⟩ := hm.cells
  have f4 := hm.live 4
  clear hm
  go_enter Try.func16, Try.ntmps16
  go_wp2
  go_end0
  exact ⟨rfl, _, ⟨b, gm, D, V, rfl, rfl, HS.out⟩, bdSet_kept, Grows.refl _ _⟩
set_option maxHeartbeats 1000000 in
theorem kqstopped_v {v : Value} {s : Bq} {O : Nat → Prop} (w : World) (h : BdD w v s O) : Calls Try.prog 19 #[v] w fun e w' => e = .returned (.bool s.st) ∧ Below w.heap.size w w' := by
  obtain ⟨b, gm, D, V, rfl, rfl, hm⟩ := h
  obtain ⟨c0, c1, c2, c3, c4⟩ := hm.cells
  clear hm
  go_enter Try.func19, Try.ntmps19
  go_wp2
  go_ret
  exact ⟨rfl, Below.refl _ _⟩
set_option maxHeartbeats 1000000 in
theorem kqlen_v {v : Value} {s : Bq} {O : Nat → Prop} (w : World) (h : BdD w v s O) : Calls Try.prog 18 #[v] w fun e w' => e = .returned (.int .i64 (s.L.length : Nat)) ∧ Below w.heap.size w w' := by
  obtain ⟨b, gm, D, V, rfl, rfl, hm⟩ := h
  obtain ⟨c0, c1, c2, c3, c4⟩ := hm.cells
  clear hm
  go_enter Try.func18, Try.ntmps18
  go_wp2
  go_ret
  exact ⟨rfl, Below.refl _ _⟩
set_option maxHeartbeats 2000000 in
theorem kqflush_v {v : Value} {s : Bq} {O : Nat → Prop} (w : World) (h : BdD w v s O) : Calls Try.prog 17 #[v] w fun e w' => e = .returned (.int .i64 (s.L.length : Nat)) ∧ Stp BdD v O w { s with L := [] } w' := by
  obtain ⟨b, gm, D, V, rfl, rfl, hm⟩ := h
  have HM := Lib.hid hm
  obtain ⟨c0, c1, c2, c3, c4⟩ := hm.cells
  clear hm
  go_enter Try.func17, Try.ntmps17
  go_wp2_with (refine wpList_clearH _ rfl (.tmp 13) rfl Try.underlying55 rfl HM.out.map ?_; intro w3 hm3 ht3; obtain ⟨q1, q2, q3⟩ := HM.out.clear hm3 ht3; have HQ1 := Lib.hid q1; have HQ2 := Lib.hid q2; have HQ3 := Lib.hid q3; clear q1 q2 q3 hm3 ht3 c0 c1 c2 c3 c4; obtain ⟨c0, c1, c2, c3, c4⟩ := HQ1.out.cells; have f3 := HQ1.out.live 3)
  go_ret
  exact ⟨rfl, _, ⟨b, gm, _, _, rfl, rfl, HQ1.out.setCount 0⟩, HQ2.out.trans bdSet_kept HQ3.out, HQ3.out⟩
/-! ### Put -/
set_option maxHeartbeats 8000000 in
theorem kqput_v {v : Value} {s : Bq} {O : Nat → Prop} (w : World) (i : Int) (p : Pk) (h : BdD w v s O) (hok : s.Ok) :
    Calls Try.prog 11 #[v, .int .i64 i, pkV p] w fun e w' => e = .returned (.int .i64 (s.put i p).2) ∧ Stp BdD v O w (s.put i p).1 w' := by
  obtain ⟨b, gm, D, V, rfl, rfl, hm⟩ := h
  have HB0 := Lib.hid ((Below.refl w.heap.size w).alloc (Nat.le_refl _) (.cells #[.int .i64 p.f.i, .int .i64 p.f.n, .int .i64 p.f.l, .string p.f.d, .int .i64 p.fr, .int .i64 p.tag, .bool p.lp] 32))
  have HM := Lib.hid hm
  have HM0 := Lib.hid (hm.later HB0.out)
  obtain ⟨c0, c1, c2, c3, c4⟩ := HM0.out.cells
  by_cases hf : (s.L.length : Int) = s.room
  · have HE : Hid (s.put i p = (s, 5)) := Lib.hid (by unfold Bq.put; rw [if_pos hf])
    rw [HE.out]
    have hd : decide (s.room ≤ (s.L.length : Int)) = true := decide_eq_true (by omega)
    clear hf hm hok
    go_enter Try.func11, Try.ntmps11
    go_wp2
    go_quiet (fail)
    go_wp2
    go_ret
    exact ⟨rfl, HM.out.stp (below_drewN HB0.out _)⟩
  · have HE : Hid (s.put i p = ({ s with L := s.L ++ [⟨s.at_ i, p⟩] }, 0)) := Lib.hid (by unfold Bq.put; rw [if_neg hf])
    have HLL : Hid (s.L.length < 1000) := Lib.hid (by have := hok.room; have := hok.len; omega)
    obtain ⟨a1, a2⟩ := hok.at_ i
    obtain ⟨j, hj⟩ := Int.eq_ofNat_of_zero_le a1
    have hbd := hok.bands
    have HJ : Hid (j < 1000) := Lib.hid (by omega)
    obtain ⟨m, hmax⟩ : ∃ m : Nat, (if i < 0 then 0 else i) = (m : Int) := by
      split
      · exact ⟨0, rfl⟩
      · exact ⟨i.toNat, by omega⟩
    have hmin : (if s.bands - 1 < (m : Int) then s.bands - 1 else (m : Int)) = (j : Int) := by
      rw [← hj, ← hmax]
      unfold Bq.at_
      split <;> split <;> (try split) <;> omega
    rw [hj] at HE
    have hd : decide (s.room ≤ (s.L.length : Int)) = false := decide_eq_false (by have := hok.len; omega)
    rw [HE.out]
    obtain ⟨b1, b2⟩ := hbd
    clear hf hm hok a1 a2 hj
    have HP0 : Hid (BoxP (w.alloc (.cells #[.int .i64 p.f.i, .int .i64 p.f.n, .int .i64 p.f.l, .string p.f.d, .int .i64 p.fr, .int .i64 p.tag, .bool p.lp] 32)) w.heap.size p) := Lib.hid (BoxP.made w p)
    go_enter Try.func11, Try.ntmps11
    go_wp2
    go_quiet (fail)
    generalize hwd : (w.alloc _).drewN _ = wd
    have HBD : Hid (Below w.heap.size w wd) := Lib.hid (by rw [← hwd]; exact below_drewN HB0.out _)
    have HPD : Hid (BoxP wd w.heap.size p) := Lib.hid (by rw [← hwd]; exact HP0.out)
    clear hwd hd c0 c1 c2 c3 c4
    have HMD := Lib.hid (HM.out.later HBD.out)
    obtain ⟨c0, c1, c2, c3, c4⟩ := HMD.out.cells
    obtain ⟨d0, d1, d2, d3, d4, d5, d6⟩ := HPD.out.cells
    have hzb : b < wd.heap.size := HMD.out.lt b (.inl rfl)
    have hzf : w.heap.size < wd.heap.size := HPD.out.lt
    obtain ⟨u, hu⟩ : ∃ u, V j = u := ⟨_, rfl⟩
    have HU := Lib.hid hu
    obtain ⟨R, hR⟩ : ∃ R, bandF s.L j = R := ⟨_, rfl⟩
    have HR := Lib.hid hR
    have hrow := HMD.out.row j
    rw [hu, hR] at hrow
    obtain ⟨A5, cap5, rfl⟩ := hrow.shape
    have HRQ := Lib.hid hrow
    have hnb : ¬ OwnO (Value.slice A5 R.length cap5) b := by rw [← hu]; exact (HMD.out.f1 j).1
    have hnf : ¬ OwnO (Value.slice A5 R.length cap5) w.heap.size := fun h => by rw [← hu] at h; exact absurd (HM.out.lt _ (.inr (.inr ⟨j, h⟩))) (Nat.lt_irrefl _)
    have HNM : Hid (¬ OwnO (Value.slice A5 R.length cap5) gm) := Lib.hid (by rw [← hu]; exact (HMD.out.f1 j).2)
    have HLK : Hid (∀ w', Kept (OwnO (.slice A5 R.length cap5)) wd w' → (Instr.lookup 55 (.map (some gm)) (.int .i64 j) false).run Try.prog w' = .ok (.slice A5 R.length cap5) w') := Lib.hid (fun w' hk => by
      have := MapH.look (HMD.out.map.stay (hk.block gm HMD.out.map.lt HNM.out)) lawJ Try.underlying55 (zeroPs w') (keyJ (by have := HJ.out; omega)) (HMD.out.here j)
      rw [HU.out] at this
      exact this)
    have HRL : Hid (R.length < 1000) := Lib.hid (by rw [← hR]; exact Nat.lt_of_le_of_lt (bandF_len _ _) HLL.out)
    clear hu hR hrow
    go_upto_region 8 with fail
    have hcb : ∀ (q : KLater (OwnO (.slice A5 R.length cap5)) wd) (o : Nat), q.w.cell? ⟨b, o, none⟩ = wd.cell? ⟨b, o, none⟩ := fun q o => q.cell b o hzb hnb
    have hcf : ∀ (q : KLater (OwnO (.slice A5 R.length cap5)) wd) (o : Nat), q.w.cell? ⟨w.heap.size, o, none⟩ = wd.cell? ⟨w.heap.size, o, none⟩ := fun q o => q.cell w.heap.size o hzf hnf
    refine wp_region_st 14 [13] (AppQ pkC 7 (.slice A5 R.length cap5) [p] R wd 40 41) [40, 41] (AppQ.start HRQ.out) (by kernel_rfl) (by kernel_rfl) (by kernel_rfl) (by kernel_rfl) (by kernel_rfl) (by kernel_rfl) (by kernel_rfl) ?_
    simp only [List.take_succ_cons, List.take_zero, List.drop_succ_cons, List.drop_zero]
    repeat (refine st_plain (fun h => h.1) (by rfl) (by rfl) (by rfl) (by rfl) (by rfl) ?_; intro K hK; go_big_quiet_op; go_big_quiet_on)
    refine st_nil (fun h => h.1) (by rfl) (by rfl) (by rfl) (by rfl) (by rfl) (by rfl) ?_; intro K hK; go_big_quiet_op; go_big_quiet_on
    repeat (refine st_plain (fun h => h.1) (by rfl) (by rfl) (by rfl) (by rfl) (by rfl) ?_; intro K hK; go_big_quiet_op; go_big_quiet_on)
    refine st_nil (fun h => h.1) (by rfl) (by rfl) (by rfl) (by rfl) (by rfl) (by rfl) ?_; intro K hK; go_big_quiet_op; go_big_quiet_on
    repeat (refine st_plain (fun h => h.1) (by rfl) (by rfl) (by rfl) (by rfl) (by rfl) ?_; intro K hK; go_big_quiet_op; go_big_quiet_on)
    refine st_look (.tmp 36) (.tmp 37) (.slice A5 R.length cap5) (by rfl) (by rfl) (by rfl) (by rfl) (by rfl) (.map (some gm)) (.int .i64 j) (by rfl) (by rfl) (fun j xs w3 hG => HLK.out w3 hG.1) ?_
    simp only [Act.put, List.setIfInBounds_toArray, List.set_cons_succ, List.set_cons_zero]
    repeat (refine st_plain (fun h => h.1) (by rfl) (by rfl) (by rfl) (by rfl) (by rfl) ?_; intro K hK; go_big_quiet_op; go_big_quiet_on)
    refine st_new (s := 40) (mk := fun w => .slice (some ⟨w.heap.size, 0, none⟩) 1 1) (ob := fun _ => .cells (pkC p).toArray 32) (by rfl) (by rfl) (by rfl) (by rfl) (by rfl) (by rfl) (fun _ => by kernel_rfl) (AppQ.one pkC_len (by decide)) ?_
    simp only [Act.put, List.setIfInBounds_toArray, List.set_cons_succ, List.set_cons_zero]
    refine st_app (ts := 38) (tx := 40) (tr := 41) (L := R) (M := [p]) flat_pk pkC_len pkC_one 0 (by rfl) (by rfl) (by rfl) (by rfl) (by rfl) (by rfl) (by rfl) (by decide) (by decide) (by rfl) AppQ.rd (by have := HRL.out; simp; omega) (fun xs w v' w' hG => AppQ.app xs w v' w' hG) ?_
    simp only [Act.put, List.setIfInBounds_toArray, List.set_cons_succ, List.set_cons_zero]
    intro ys xs w2 hF h2
    have e41 := hF 41 (by simp)
    obtain ⟨k1, k2, k3⟩ := AppQ.out h2 e41
    simp only [secFill]
    simp only [Act.put, List.setIfInBounds_toArray, List.set_cons_succ, List.set_cons_zero]
    have hmap : MapH Try.prog 3 w2 gm D := HMD.out.map.stay (k1.block gm HMD.out.map.lt HNM.out)
    have htd := hmap.tidy lawJ
    have hj3 := HJ.out
    refine wpList_storeH _ rfl (.tmp 31) (.tmp 32) (.tmp 41) rfl lawJ Try.underlying55 (j : Int) (ys 41) rfl hmap (by have := HMD.out.size.le; unfold maxLen; omega) rfl rfl (keyJ (by omega)) ?_
    intro w3 hm3 ht3
    have hq0 : RowQ pkC 7 w2 (ys 41) (bandF (s.L ++ [⟨(j : Int), p⟩]) j) := by rw [bandF_put, if_pos rfl, HR.out]; exact k2
    rw [← HU.out] at k1 k3
    obtain ⟨q1, q2, q3⟩ := HMD.out.setRow hq0 (fun l hl => by rw [bandF_put, if_neg (fun e => hl (by have e : (j : Int) = (l : Int) := e; omega)), List.append_nil]) k1 k3 hm3 (HMD.out.size.put htd hj3 _) (AtM.put_same htd _ _ _) (fun m x hne hx => hx.put_other (by omega) _) ht3
    have HQ1 := Lib.hid q1
    have HQ2 := Lib.hid ((Kept.of_below (O := bdO b gm V) HBD.out).trans q2 (Grows.refl _ _))
    have HQ3 : Hid (Grows (bdO b gm V) w (bdO b gm (rowOf V j (ys 41)))) := Lib.hid (fun k hk => (q3 k hk).imp id (fun h => Nat.le_trans HBD.out.size h))
    clear q1 q2 q3 hm3 ht3 hmap htd hj3 k1 k2 k3 h2 hF e41 hcb hcf hq0 c0 c1 c2 c3 c4 hmax hmin
    obtain ⟨c0, c1, c2, c3, c4⟩ := HQ1.out.cells
    have f3 := HQ1.out.live 3
    have hll := HLL.out
    go_wp2
    go_ret
    refine ⟨rfl, _, ⟨b, gm, D.put (.int .i64 j) (.held (ys 41)), rowOf V j (ys 41), rfl, rfl, ?_⟩, HQ2.out.trans bdSet_kept HQ3.out, HQ3.out⟩
    have hc := HQ1.out.setCount ((s.L ++ [(⟨(j : Int), p⟩ : On)]).length : Nat)
    simp only [List.length_append, List.length_singleton, Int.natCast_add, Int.natCast_one] at hc ⊢
    exact hc
end Go.Proofs.Ytpljlpfoalcfmaa
