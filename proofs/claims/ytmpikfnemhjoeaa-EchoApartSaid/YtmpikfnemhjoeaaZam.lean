/- Of no program: 'append(append([]T{}, d...), e)' in a region that draws: two appends as a chain, the second to what the first answers. Echo, the code: each over whatever function value; Len, Flush. The document's Room, of layer 14 and of those behind it. Band, the document's side: what a queue is in memory; what is stored into it. Of no program: a row in a block of its own as what another reads; an empty one. Band, the document's side: Put. Band, the document's side: first. Band, the document's side: Take. Band, the document's side: All. -/
import Derived.Test.YtmpikfnemhjoeaaZae
import Derived.Test.YtmpikfnemhjoeaaZal
import Derived.Test.YtmpikfnemhjoeaaZak
import Derived.Test.YtmpikfnemhjoeaaZad
import Derived.Test.YtmpikfnemhjoeaaZaf
import Derived.BigQuiet
import Derived.Deep.Cut
namespace Go.Proofs.Ytmpikfnemhjoeaa
open Go.RowKit
set_option linter.unusedVariables false

section
variable {P : Program} {ops : Array Oper} {st : List Nat} {G : Nat → (Tmp → Option Value) → World → Prop} {sec : List Tmp} {Q : Act → Prop} {o : Oper} {rest : List Oper} {h : Act} {i : Nat}
/-- an append as a step of the chain; what it reads may be hidden -/
theorem st_appG {α : Type} {c : α → List Value} {kk bytes : Nat} {T E : TypeId} {L M : List α} {ts tx tr : Tmp} (hT : FlatE P T E kk bytes) (hkk : ∀ a, (c a).length = kk) (hone : ∀ a, ∀ u ∈ c a, u.oneCell' = true)
    (k : Nat) (hi : st[k]? = some i) (hw : Region.wanted o (yielded ops h.tmps) = true) (ho : o.op = .call { callee := .builtin .append, args := #[.tmp ts, .tmp tx], argTypes := #[T, T] }) (hd : o.dst = some tr)
    (hs1 : sec.contains tr = true) (hsz : L.length + M.length ≤ 1000000)
    (hrd : ∀ xs a w, G k xs w → stLooks ops sec xs o h a → ∃ v x, a.tmps.getD ts undef = v ∧ a.tmps.getD tx undef = x ∧ RowQ c kk w v L ∧ RdA c kk w x M ∧
      ∀ v' w', RowQ c kk w' v' (L ++ M) → Kept (OwnO v) w w' → Grows (OwnO v) w (OwnO v') → G (k + 1) (fun t => if t = tr then some v' else xs t) w')
    (hk : wpSt P ops st G sec Q (i + 1) rest (h.put o.dst undef)) : wpSt P ops st G sec Q i (o :: rest) h := by
  unfold wpSt
  rw [if_pos hw]
  refine ⟨undef, fun j xs a w hj hjk hb hfr hlk => ?_, hk⟩
  obtain rfl := hjk k hi
  have s1 : tr ∈ sec := by simpa using hs1
  obtain ⟨v, x, h1, h2, r1, r2, hG⟩ := hrd xs a w hb hlk
  obtain ⟨v', w', hrun, q1, q2, q3⟩ := r1.run hT hkk (RowQ.src r2 hkk hone hT.1) hsz o.type
  have e1 : a.eval (.tmp ts) = v := h1
  have e2 : a.eval (.tmp tx) = x := h2
  rw [if_pos (List.mem_of_getElem? hi)]
  simp [execOp, ho, resolve, invoke, builtin, e1, e2, hrun, Result.andThen, stUpon, hd]
  refine ⟨?_, .inl s1⟩
  have := hG v' w' q1 q2 q3
  unfold hidPut
  simp only
  rw [if_pos s1]
  exact this
end
theorem RdA.ofHeap {α : Type} {c : α → List Value} {k : Nat} (hk : ∀ a, (c a).length = k) {w : World} {b : α} {t : TypeId} {g : Nat} (h : w.heap[g]? = some (.cells (c b).toArray t (0, 0))) : RdA c k w (.slice (some ⟨g, 0, none⟩) 1 1) [b] := by
  refine ⟨⟨_, _, rfl, by unfold maxLen; simp, fun i a ha => ?_⟩, .inr ⟨_, _, rfl, Nat.le_refl _⟩⟩
  have hi : i = 0 := by
    rcases Nat.lt_or_ge i 1 with h | h
    · omega
    · rw [List.getElem?_eq_none (by simpa using h)] at ha; cases ha
  subst hi
  simp at ha
  subst ha
  refine ⟨_, rfl, (Array.getElem?_eq_some_iff.1 h).1, fun j u hu => ?_⟩
  rw [Nat.zero_mul, Nat.zero_add, qaddr, Nat.zero_add, Lib.cell_of_heap h]
  simpa using hu
/-- the states: a: the empty row, b: the first append's answer, e: the one thing, r: the second's answer -/
structure A2 {α : Type} (c : α → List Value) (kk : Nat) (t : TypeId) (a b e r : Tmp) (L : List α) (x : α) (W : World) (k : Nat) (xs : Tmp → Option Value) (w : World) : Prop where
  below : Below W.heap.size W w
  one : ∀ u, xs e = some u → ∃ g, u = .slice (some ⟨g, 0, none⟩) 1 1 ∧ W.heap.size ≤ g ∧ w.heap[g]? = some (.cells (c x).toArray t (0, 0))
  k0 : k = 0 → xs b = none ∧ xs r = none ∧ ∀ u, xs a = some u → ∃ g, u = .slice (some ⟨g, 0, none⟩) 0 0 ∧ W.heap.size ≤ g ∧ g < w.heap.size ∧ xs e ≠ some (.slice (some ⟨g, 0, none⟩) 1 1)
  k1 : k = 1 → xs r = none ∧ ∃ u, xs b = some u ∧ RowQ c kk w u L ∧ ∀ g, OwnO u g → W.heap.size ≤ g ∧ xs e ≠ some (.slice (some ⟨g, 0, none⟩) 1 1)
  k2 : k = 2 → ∃ u, xs r = some u ∧ RowQ c kk w u (L ++ [x]) ∧ ∀ g, OwnO u g → W.heap.size ≤ g
section
variable {α : Type} {c : α → List Value} {kk : Nat} {t : TypeId} {a b e r : Tmp} {L : List α} {x : α} {W w w' : World} {k : Nat} {xs : Tmp → Option Value}
theorem A2.start : A2 c kk t a b e r L x W 0 (fun _ => none) W.drew :=
  ⟨(Below.refl _ _).drew, fun u h => (by cases h), fun _ => ⟨rfl, rfl, fun u h => (by cases h)⟩, fun h => (by omega), fun h => (by omega)⟩
theorem A2.kept (h : A2 c kk t a b e r L x W k xs w) : Kept (fun _ => False) W w := .of_below h.below
theorem A2.newA (h : A2 c kk t a b e r L x W k xs w) (hab : b ≠ a) (har : r ≠ a) (hae : e ≠ a) (o : Obj) : A2 c kk t a b e r L x W k (fun s => if s = a then some (.slice (some ⟨w.heap.size, 0, none⟩) 0 0) else xs s) (w.alloc o) := by
  have hb : Below w.heap.size w (w.alloc o) := (Below.refl _ _).alloc (Nat.le_refl _) _
  have hs := h.below.size
  refine ⟨h.below.trans (hb.mono hs), fun u hu => ?_, fun hk => ?_, fun hk => ?_, fun hk => ?_⟩
  · simp only [if_neg hae] at hu
    obtain ⟨g, h1, h2, h3⟩ := h.one u hu
    exact ⟨g, h1, h2, (hb.block g (Array.getElem?_eq_some_iff.1 h3).1).trans h3⟩
  · obtain ⟨h1, h2, h3⟩ := h.k0 hk
    refine ⟨by simp only [if_neg hab]; exact h1, by simp only [if_neg har]; exact h2, fun u hu => ?_⟩
    simp at hu
    refine ⟨w.heap.size, hu.symm, hs, by simp, ?_⟩
    simp only [if_neg hae]
    intro he
    obtain ⟨g, g1, _, g3⟩ := h.one _ he
    injection g1 with g1 _ _
    injection g1 with g1
    injection g1 with g1
    have := (Array.getElem?_eq_some_iff.1 g3).1
    omega
  · obtain ⟨h1, u, h2, h3, h4⟩ := h.k1 hk
    exact ⟨by simp only [if_neg har]; exact h1, u, by simp only [if_neg hab]; exact h2, h3.later hb, fun g hg => ⟨(h4 g hg).1, by simp only [if_neg hae]; exact (h4 g hg).2⟩⟩
  · obtain ⟨u, h2, h3, h4⟩ := h.k2 hk
    exact ⟨u, by simp only [if_neg har]; exact h2, h3.later hb, h4⟩
theorem A2.newE (h : A2 c kk t a b e r L x W k xs w) (heb : b ≠ e) (her : r ≠ e) (hea : a ≠ e) : A2 c kk t a b e r L x W k (fun s => if s = e then some (.slice (some ⟨w.heap.size, 0, none⟩) 1 1) else xs s) (w.alloc (.cells (c x).toArray t)) := by
  have hb : Below w.heap.size w (w.alloc (.cells (c x).toArray t)) := (Below.refl _ _).alloc (Nat.le_refl _) _
  have hs := h.below.size
  refine ⟨h.below.trans (hb.mono hs), fun u hu => ?_, fun hk => ?_, fun hk => ?_, fun hk => ?_⟩
  · simp at hu
    exact ⟨w.heap.size, hu.symm, hs, heap_alloc_new _ _⟩
  · obtain ⟨h1, h2, h3⟩ := h.k0 hk
    refine ⟨by simp only [if_neg heb]; exact h1, by simp only [if_neg her]; exact h2, fun u hu => ?_⟩
    simp only [if_neg hea] at hu
    obtain ⟨g, g1, g2, g3, _⟩ := h3 u hu
    refine ⟨g, g1, g2, Nat.lt_of_lt_of_le g3 hb.size, ?_⟩
    simp only [if_true]
    intro he
    injection he with he
    injection he with he _ _
    injection he with he
    injection he with he
    omega
  · obtain ⟨h1, u, h2, h3, h4⟩ := h.k1 hk
    refine ⟨by simp only [if_neg her]; exact h1, u, by simp only [if_neg heb]; exact h2, h3.later hb, fun g hg => ⟨(h4 g hg).1, ?_⟩⟩
    simp only [if_true]
    intro he
    injection he with he
    injection he with he _ _
    injection he with he
    injection he with he
    have := h3.lt g hg
    omega
  · obtain ⟨u, h2, h3, h4⟩ := h.k2 hk
    exact ⟨u, by simp only [if_neg her]; exact h2, h3.later hb, h4⟩
theorem A2.first (h : A2 c kk t a b e r L x W 0 xs w) (hbe : e ≠ b) (hbr : r ≠ b) {u : Value} (hu : xs a = some u) : RowQ c kk w u ([] : List α) ∧ ∀ v' w', RowQ c kk w' v' ([] ++ L) → Kept (OwnO u) w w' → Grows (OwnO u) w (OwnO v') → A2 c kk t a b e r L x W 1 (fun s => if s = b then some v' else xs s) w' := by
  obtain ⟨h1, h2, h3⟩ := h.k0 rfl
  obtain ⟨g, rfl, g2, g3, g4⟩ := h3 u hu
  refine ⟨.inr ⟨g, 0, 0, rfl, Nat.le_refl _, Nat.zero_le _, g3, fun j u hu => by simp [rowG] at hu, fun j hj => by omega⟩, fun v' w' hq hk hg => ?_⟩
  have own : ∀ k, OwnO (.slice (some ⟨g, 0, none⟩) 0 0) k → k = g := fun k hk => by injection hk with hk; exact hk.symm
  refine ⟨hk.below h.below h.below.size (fun k hk' => by rw [own k hk']; exact g2), fun y hy => ?_, fun hh => (by omega), fun _ => ⟨by simp only [if_neg hbr]; exact h2, v', by simp, hq, fun k hk' => ?_⟩, fun hh => (by omega)⟩
  · simp only [if_neg hbe] at hy
    obtain ⟨ge, e1, e2, e3⟩ := h.one y hy
    refine ⟨ge, e1, e2, (hk.block ge (Array.getElem?_eq_some_iff.1 e3).1 (fun ho => g4 ?_)).trans e3⟩
    rw [← own ge ho, hy, e1]
  · rcases hg k hk' with h4 | h4
    · rw [own k h4]
      exact ⟨g2, by simp only [if_neg hbe]; exact g4⟩
    · refine ⟨Nat.le_trans h.below.size h4, ?_⟩
      simp only [if_neg hbe]
      intro he
      obtain ⟨ge, e1, _, e3⟩ := h.one _ he
      injection e1 with e1 _ _
      injection e1 with e1
      injection e1 with e1
      have := (Array.getElem?_eq_some_iff.1 e3).1
      omega
theorem A2.second (hkk : ∀ a, (c a).length = kk) (h : A2 c kk t a b e r L x W 1 xs w) {u y : Value} (hu : xs b = some u) (hy : xs e = some y) (hre : e ≠ r) : RowQ c kk w u L ∧ RdA c kk w y [x] ∧ ∀ v' w', RowQ c kk w' v' (L ++ [x]) → Kept (OwnO u) w w' → Grows (OwnO u) w (OwnO v') → A2 c kk t a b e r L x W 2 (fun s => if s = r then some v' else xs s) w' := by
  obtain ⟨h1, u1, h2, h3, h4⟩ := h.k1 rfl
  rw [hu] at h2
  injection h2 with h2
  subst h2
  obtain ⟨g, e1, e2, e3⟩ := h.one y hy
  refine ⟨h3, by rw [e1]; exact RdA.ofHeap hkk e3, fun v' w' hq hk hg => ?_⟩
  refine ⟨hk.below h.below h.below.size (fun k hk' => (h4 k hk').1), fun y' hy' => ?_, fun hh => (by omega), fun hh => (by omega), fun _ => ⟨v', by simp, hq, fun k hk' => ?_⟩⟩
  · simp only [if_neg hre] at hy'
    rw [hy] at hy'
    injection hy' with hy'
    subst hy'
    exact ⟨g, e1, e2, (hk.block g (Array.getElem?_eq_some_iff.1 e3).1 (fun ho => (h4 g ho).2 (by rw [hy, e1]))).trans e3⟩
  · rcases hg k hk' with h5 | h5
    · exact (h4 k h5).1
    · exact Nat.le_trans h.below.size h5
theorem A2.out (h : A2 c kk t a b e r L x W 2 xs w) {u : Value} (hu : xs r = some u) : Below W.heap.size W w ∧ RowQ c kk w u (L ++ [x]) ∧ ∀ g, OwnO u g → W.heap.size ≤ g := by
  obtain ⟨u1, h2, h3, h4⟩ := h.k2 rfl
  rw [hu] at h2
  injection h2 with h2
  subst h2
  exact ⟨h.below, h3, h4⟩
end
end Go.Proofs.Ytmpikfnemhjoeaa

namespace Go.Proofs.Ytmpikfnemhjoeaa
open Go.RowKit
set_option linter.unusedVariables false

/-! ### each -/
def EkAt (w : World) (b k N : Nat) (o : Option Nat) : Prop := ∃ m R s, EkM w b m R s ∧ R.length = N ∧ R[k]? = some o
def EkLen (w : World) (b N : Nat) : Prop := ∃ m R s, EkM w b m R s ∧ R.length = N
theorem EkLen.at_ {w : World} {b k N : Nat} (h : EkLen w b N) (hk : k < N) : ∃ o m, EkAt w b k N o ∧ w.cell? ⟨b, 0, none⟩ = some (.slice (some ⟨m, 0, none⟩) N N) ∧ w.cell? ⟨m, k, none⟩ = some (ptV o) := by
  obtain ⟨m, R, s, h1, h2⟩ := h
  subst h2
  obtain ⟨o, ho⟩ : ∃ o, R[k]? = some o := ⟨_, List.getElem?_eq_getElem hk⟩
  exact ⟨o, m, ⟨m, R, s, h1, rfl, ho⟩, h1.cells, (h1.at_ ho).1⟩
structure EkInv (g : Nat) (lb : Array Value) (b N : Nat) (Inv : Nat → World → Prop) : Prop where
  obj : ∀ k w, k ≤ N → Inv k w → EkLen w b N
  no : ∀ k w, k < N → Inv k w → EkAt w b k N none → Inv (k + 1) w
  yes : ∀ k w z, k < N → Inv k w → EkAt w b k N (some z) → Calls Try.prog g (#[.int .i64 k] ++ lb) w fun e w' => e = .returned (.tuple #[]) ∧ Inv (k + 1) w'
set_option maxHeartbeats 2000000 in
theorem keach_v (g : Nat) (lb : Array Value) (eg : ∀ args w, (callFunc g args).run Try.prog w = .ok (.enter g args) w) {b N : Nat} {Inv : Nat → World → Prop} (hI : EkInv g lb b N Inv) (hN : N ≤ 1000) (w : World) (h0 : Inv 0 w) :
    Calls Try.prog 18 #[.pointer (some ⟨b, 0, none⟩), .func (.func g) #[] lb] w fun e w' => e = .returned (.tuple #[]) ∧ Inv N w' := by
  have HI := Lib.hid hI
  have H0 := Lib.hid h0
  have hc0 : ∃ m, w.cell? ⟨b, 0, none⟩ = some (.slice (some ⟨m, 0, none⟩) N N) := by
    obtain ⟨m, R, s, h1, h2⟩ := hI.obj 0 w (Nat.zero_le _) h0
    subst h2
    exact ⟨m, h1.cells⟩
  obtain ⟨m0, c0⟩ := hc0
  clear hI h0
  go_enter Try.func18, Try.ntmps18
  go_wp2
  go_loopw [12] (fun x wr => ∃ k : Nat, k ≤ N ∧ x = .int .i64 k ∧ Hid (Inv k wr)) (fun x _ => N - (intOf x).toNat)
  case atStart => exact ⟨0, Nat.zero_le _, rfl, H0⟩
  case round =>
    obtain ⟨k, hk, rfl, HR⟩ := hrel
    clear c0
    by_cases hlt : k < N
    · have hd : decide (k < N) = true := decide_eq_true hlt
      obtain ⟨o, m, HA, c0, c1⟩ := (HI.out.obj k wr hk HR.out).at_ hlt
      cases o with
      | none =>
        rw [ptV_none] at c1
        have HS := Lib.hid (HI.out.no k wr hlt HR.out HA)
        clear HA
        go_wp2
        go_roundw
        case rel => exact ⟨k + 1, by omega, by go_num, HS⟩
        case measure => simp [intOf]; omega
      | some z =>
        rw [ptV_some] at c1
        have CS := Lib.hid (HI.out.yes k wr z hlt HR.out HA)
        clear HA
        go_wp2_with fail
        refine CS.out.mono ?_
        rintro e W' ⟨rfl, hI⟩
        have HS := Lib.hid hI
        clear hI c0 c1
        go_wp2
        go_roundw
        case rel => exact ⟨k + 1, by omega, by go_num, HS⟩
        case measure => simp [intOf]; omega
    · have hd : decide (k < N) = false := decide_eq_false hlt
      obtain rfl : k = N := by omega
      go_wp2
      go_end0
      exact ⟨rfl, HR.out⟩
/-! ### Len -/
def cntK (F : List Bool) (k : Nat) : Nat := ((F.take k).filter id).length
theorem cntK_succ {F : List Bool} {k : Nat} {b : Bool} (h : F[k]? = some b) : cntK F (k + 1) = cntK F k + if b then 1 else 0 := by
  unfold cntK
  rw [List.take_add_one, h, List.filter_append, List.length_append]
  cases b <;> rfl
theorem cntK_le (F : List Bool) (k : Nat) : cntK F k ≤ F.length := by
  unfold cntK
  exact Nat.le_trans (List.length_filter_le _ _) (by rw [List.length_take]; omega)
theorem cntK_all (F : List Bool) : cntK F F.length = (F.filter id).length := by unfold cntK; rw [List.take_length]
structure LenI (w : World) (b m z : Nat) (R : List (Option Nat)) (s : Ec) (k : Nat) (wr : World) : Prop where
  tab : EkM wr b m R s
  cnt : Bx1 wr z (.int .i64 (cntK s.F k : Nat)) 3
  below : Below w.heap.size w wr
theorem EkM.flag {w : World} {b m k : Nat} {R : List (Option Nat)} {s : Ec} {o : Option Nat} (h : EkM w b m R s) (ho : R[k]? = some o) : s.F[k]? = some o.isSome := by rw [h.full, List.getElem?_map, ho]; rfl
theorem EkAt.get {w : World} {b k N m : Nat} {o : Option Nat} {R : List (Option Nat)} {s : Ec} (h : EkAt w b k N o) (hm : EkM w b m R s) : R[k]? = some o := by
  obtain ⟨m', R', s', h1, h2, h3⟩ := h
  have e := h1.box.symm.trans hm.box
  injection e with e
  injection e with e
  have e : (Value.slice (some ⟨m', 0, none⟩) R'.length R'.length) = (Value.slice (some ⟨m, 0, none⟩) R.length R.length) := by simpa using e
  injection e with e
  injection e with e
  injection e with e
  subst e
  have e2 := h1.row.symm.trans hm.row
  injection e2 with e2
  injection e2 with e2
  have e2 : R'.map ptV = R.map ptV := by simpa using e2
  have hi : ∀ a b : Option Nat, ptV a = ptV b → a = b := fun a b h => by
    cases a <;> cases b <;> simp [ptV] at h ⊢
    exact h
  have : R' = R := List.map_inj_right (fun a b h => hi a b h) |>.1 e2
  rw [← this]; exact h3
set_option maxHeartbeats 1000000 in
theorem lenClos {w : World} {z : Nat} {n : Nat} (k : Int) (h : Bx1 w z (.int .i64 (n : Nat)) 3) (hn : n ≤ 1000) :
    Calls Try.prog 20 #[.int .i64 k, .pointer (some ⟨z, 0, none⟩)] w fun e w' => e = .returned (.tuple #[]) ∧ w' = w.setCell ⟨z, 0, none⟩ (.int .i64 ((n + 1 : Nat) : Int)) := by
  have c0 := h.cell
  have f0 := h.live
  clear h
  go_enter Try.func20, Try.ntmps20
  go_wp2
  go_end0
  exact ⟨rfl, by simp⟩
theorem lenInv {w : World} {b m z N : Nat} {R : List (Option Nat)} {s : Ec} (hz : w.heap.size ≤ z) (hn : ¬ ekO b m R z) (hN : R.length = N) (hl : N ≤ 1000) : EkInv 20 #[.pointer (some ⟨z, 0, none⟩)] b N (LenI w b m z R s) where
  obj := fun k wr _ h => ⟨m, R, s, h.tab, hN⟩
  no := fun k wr hk h ha => by
    have := cntK_succ (h.tab.flag (ha.get h.tab))
    exact ⟨h.tab, by rw [this]; exact h.cnt, h.below⟩
  yes := fun k wr y hk h ha => by
    have hs := cntK_succ (h.tab.flag (ha.get h.tab))
    have hs : cntK s.F (k + 1) = cntK s.F k + 1 := hs
    refine (lenClos k h.cnt (by have := cntK_le s.F k; have := h.tab.len; omega)).mono ?_
    rintro e w' ⟨rfl, rfl⟩
    refine ⟨rfl, h.tab.stay (fun j hj => Below.heap_setCell _ _ _ _ (fun e => hn (by have e : j = z := e; exact e ▸ hj))), ?_, h.below.setCell hz _⟩
    rw [hs]
    exact h.cnt.set _
set_option maxHeartbeats 1000000 in
theorem kelen_v {v : Value} {s : Ec} {O : Nat → Prop} (w : World) (h : EkD w v s O) (ok : s.Ok) :
    Calls Try.prog 14 #[v] w fun e w' => e = .returned (.int .i64 (s.len : Nat)) ∧ Below w.heap.size w w' := by
  obtain ⟨b, m, R, rfl, rfl, hm⟩ := h
  have hl := hm.len
  have hb := (Below.refl w.heap.size w).alloc (Nat.le_refl _) (.cells #[.int .i64 0] 3)
  have hI : LenI w b m w.heap.size R s 0 (w.alloc (.cells #[.int .i64 0] 3)) := ⟨hm.later hb, Bx1.made w _ _ rfl, hb⟩
  have HC := Lib.hid (keach_v 20 #[.pointer (some ⟨w.heap.size, 0, none⟩)] (fun _ _ => by kernel_rfl) (lenInv (s := s) (Nat.le_refl _) (fun hc => absurd (hm.lt _ hc) (Nat.lt_irrefl _)) rfl (by have := ok.n2; omega)) (by have := ok.n2; omega) _ hI)
  have HL : Hid (cntK s.F R.length = s.len) := Lib.hid (by rw [← hl, cntK_all]; rfl)
  clear hm hl hb hI ok
  go_enter Try.func14, Try.ntmps14
  go_wp2_with fail
  refine HC.out.mono ?_
  rintro e w1 ⟨rfl, hI1⟩
  have c0 := hI1.cnt.cell
  rw [HL.out] at c0
  have HB := Lib.hid hI1.below
  clear hI1
  go_wp2
  go_ret
  exact ⟨rfl, HB.out⟩
end Go.Proofs.Ytmpikfnemhjoeaa

namespace Go.Proofs.Ytmpikfnemhjoeaa
open Go.RowKit
set_option linter.unusedVariables false

def roomN (n : Int) : Int := if n < 1 then 1 else if 1000 < n then 1000 else n
theorem roomN_rng (n : Int) : 1 ≤ roomN n ∧ roomN n ≤ 1000 := by unfold roomN; split <;> (try split) <;> omega
set_option maxHeartbeats 1000000 in
theorem xroom_v {n r : Int} (h : roomN n = r) (w : World) : Calls Try.prog 8 #[.int .i64 n] w fun e w' => e = .returned (.int .i64 r) ∧ w = w' := by
  unfold roomN at h
  by_cases h1 : n < 1
  · rw [if_pos h1] at h
    subst h
    have hd : decide (n < 1) = true := decide_eq_true h1
    go_enter Try.func8, Try.ntmps8
    go_wp2
    go_ret
    exact ⟨rfl, rfl⟩
  · rw [if_neg h1] at h
    have hd : decide (n < 1) = false := decide_eq_false h1
    by_cases h2 : 1000 < n
    · rw [if_pos h2] at h
      subst h
      have hd2 : decide (1000 < n) = true := decide_eq_true h2
      clear h1 h2
      go_enter Try.func8, Try.ntmps8
      go_wp2
      go_ret
      exact ⟨rfl, rfl⟩
    · rw [if_neg h2] at h
      subst h
      have hd2 : decide (1000 < n) = false := decide_eq_false h2
      clear h1 h2
      go_enter Try.func8, Try.ntmps8
      go_wp2
      go_ret
      exact ⟨rfl, rfl⟩
end Go.Proofs.Ytmpikfnemhjoeaa

namespace Go.Proofs.Ytmpikfnemhjoeaa
open Go.RowKit
set_option linter.unusedVariables false

/-- a packet, and its band -/
structure On where
  b : Int
  p : Pk
def onC (o : On) : List Value := .int .i64 o.b :: pkC o.p
theorem onC_len (o : On) : (onC o).length = 8 := rfl
structure Bq where
  L : List On
  bands : Int
  room : Int
  st : Bool
def bqO (b : Nat) (vl : Value) : Nat → Prop := fun k => k = b ∨ OwnO vl k
/-! ### New -/
def bqNew (bands room : Int) : Bq := ⟨[], roomN bands, roomN room, false⟩
/-! ### plain -/
def Bq.at_ (s : Bq) (b : Int) : Int := if b < 0 then 0 else if s.bands ≤ b then s.bands - 1 else b
def Bq.put (s : Bq) (b : Int) (p : Pk) : Bq × Int := if (s.L.length : Int) = s.room then (s, 5) else ({ s with L := s.L ++ [⟨s.at_ b, p⟩] }, 0)
/-- of the first k the first one of the least band -/
def Bq.first (s : Bq) : Nat → Option Nat
  | 0 => none
  | k + 1 => match s.first k with
    | none => some k
    | some i => if (s.L.getD k ⟨0, pk0⟩).b < (s.L.getD i ⟨0, pk0⟩).b then some k else some i
theorem Bq.first_lt {s : Bq} {i : Nat} : ∀ {k}, s.first k = some i → i < k
  | 0, h => by cases h
  | k + 1, h => by
    unfold Bq.first at h
    cases hk : s.first k with
    | none => rw [hk] at h; injection h with h; omega
    | some j =>
      rw [hk] at h
      simp only at h
      have := Bq.first_lt hk
      split at h <;> (injection h with h; omega)
theorem Bq.first_none {s : Bq} : ∀ {k}, s.first k = none → k = 0
  | 0, _ => rfl
  | k + 1, h => by
    unfold Bq.first at h
    cases hk : s.first k with
    | none => rw [hk] at h; cases h
    | some j => rw [hk] at h; simp only at h; split at h <;> cases h
def Bq.take (s : Bq) : Bq × Pk × Bool := match s.first s.L.length with
  | none => (s, pk0, false)
  | some i => if s.st then (s, pk0, false) else ({ s with L := s.L.eraseIdx i }, (s.L.getD i ⟨0, pk0⟩).p, true)
/-- what may be of a queue -/
structure Bq.Ok (s : Bq) : Prop where
  bands : 1 ≤ s.bands ∧ s.bands ≤ 1000
  room : 1 ≤ s.room ∧ s.room ≤ 1000
  len : (s.L.length : Int) ≤ s.room
  rng : ∀ o ∈ s.L, 0 ≤ o.b ∧ o.b < s.bands
theorem Bq.Ok.new (bands room : Int) : (bqNew bands room).Ok := ⟨roomN_rng _, roomN_rng _, by have := roomN_rng room; show ((([] : List On).length : Nat) : Int) ≤ roomN room; simp; omega, nofun⟩
theorem Bq.Ok.at_ {s : Bq} (h : s.Ok) (b : Int) : 0 ≤ s.at_ b ∧ s.at_ b < s.bands := by
  have := h.bands
  unfold Bq.at_
  split
  · omega
  · split <;> omega
theorem Bq.Ok.put {s : Bq} (h : s.Ok) (b : Int) (p : Pk) : (s.put b p).1.Ok := by
  unfold Bq.put
  split
  · exact h
  · rename_i hn
    refine ⟨h.bands, h.room, by show (((s.L ++ [_]).length : Nat) : Int) ≤ s.room; have := h.len; simp; omega, fun o ho => ?_⟩
    simp only [List.mem_append, List.mem_singleton] at ho
    rcases ho with ho | rfl
    · exact h.rng o ho
    · exact h.at_ b
theorem Bq.Ok.take {s : Bq} (h : s.Ok) : s.take.1.Ok := by
  unfold Bq.take
  split
  · exact h
  · split
    · exact h
    · rename_i i _ _
      refine ⟨h.bands, h.room, ?_, fun o ho => h.rng o (List.mem_of_mem_eraseIdx ho)⟩
      have h1 := h.len
      have h2 : (s.L.eraseIdx i).length ≤ s.L.length := by rw [List.length_eraseIdx]; split <;> omega
      show (((s.L.eraseIdx i).length : Nat) : Int) ≤ s.room
      omega
theorem Bq.Ok.stop {s : Bq} (h : s.Ok) (q : Bool) : ({ s with st := q } : Bq).Ok := ⟨h.bands, h.room, h.len, h.rng⟩
theorem Bq.Ok.flush {s : Bq} (h : s.Ok) : ({ s with L := [] } : Bq).Ok := ⟨h.bands, h.room, by have := h.room; show ((([] : List On).length : Nat) : Int) ≤ s.room; simp; omega, nofun⟩
/-- those of band k among the first j -/
def Bq.inBand (s : Bq) (k j : Nat) : List Pk := ((s.L.take j).filter fun o => o.b == (k : Int)).map fun o => o.p
def Bq.allTo (s : Bq) (k : Nat) : List Pk := (List.range k).flatMap fun b => s.inBand b s.L.length
/-- all, as they would be taken -/
def Bq.all (s : Bq) : List Pk := s.allTo s.bands.toNat
end Go.Proofs.Ytmpikfnemhjoeaa

namespace Go.Proofs.Ytmpikfnemhjoeaa
open Go.RowKit
set_option linter.unusedVariables false

theorem RowQ.rda {α : Type} {c : α → List Value} {k : Nat} {w : World} {v : Value} {L : List α} (h : RowQ c k w v L) (hk : ∀ a, (c a).length = k) (hm : L.length ≤ maxLen) : RdA c k w v L := by
  refine ⟨h.sl hk hm, ?_⟩
  rcases h with ⟨h, _⟩ | ⟨g, o, cap, hv, h1, _⟩
  · exact .inl h
  · exact .inr ⟨_, cap, hv, h1⟩
/-- an empty row in a block of its own -/
theorem RowQ.empty {α : Type} {c : α → List Value} {k : Nat} (w : World) (o : Obj) : RowQ c k (w.alloc o) (.slice (some ⟨w.heap.size, 0, none⟩) 0 0) ([] : List α) :=
  .inr ⟨_, 0, 0, rfl, Nat.le_refl _, Nat.zero_le _, by simp, fun j u h => by simp [rowG] at h, fun j hj => by omega⟩
section
variable {α : Type} {c : α → List Value} {k : Nat} {w : World} {g o n cap j : Nat} {L : List α}
/-- the first of a row -/
theorem RdA.cutHead (h : RdA c k w (.slice (some ⟨g, o, none⟩) n cap) L) (hj : j ≤ L.length) (hc : L.length ≤ cap) : RdA c k w (.slice (some ⟨g, o, none⟩) j cap) (L.take j) := by
  obtain ⟨⟨A, cap', hv, hm, hcell⟩, _⟩ := h
  injection hv with hA _ hcap
  subst hA; subst hcap
  refine ⟨⟨_, cap, by rw [List.length_take, Nat.min_eq_left hj], by rw [List.length_take]; omega, fun i a ha => ?_⟩, .inr ⟨_, cap, by rw [List.length_take, Nat.min_eq_left hj], by rw [List.length_take]; omega⟩⟩
  have hi : i < j := by
    rcases Nat.lt_or_ge i j with h1 | h1
    · exact h1
    · rw [List.getElem?_eq_none (by rw [List.length_take]; omega)] at ha; cases ha
  rw [List.getElem?_take_of_lt hi] at ha
  exact hcell i a ha
/-- the rest of a row -/
theorem RdA.cutTail (h : RdA c k w (.slice (some ⟨g, o, none⟩) n cap) L) (hj : j ≤ L.length) (hc : L.length ≤ cap) : RdA c k w (.slice (some ⟨g, if cap = j then o else o + j * k, none⟩) (n - j) (cap - j)) (L.drop j) := by
  obtain ⟨⟨A, cap', hv, hm, hcell⟩, _⟩ := h
  injection hv with hA hn hcap
  subst hA; subst hcap; subst hn
  refine ⟨⟨_, _, by rw [List.length_drop], by rw [List.length_drop]; omega, fun i a ha => ?_⟩, .inr ⟨_, _, by rw [List.length_drop], by rw [List.length_drop]; omega⟩⟩
  rw [List.getElem?_drop] at ha
  obtain ⟨x', hx', hb, hq⟩ := hcell (j + i) a ha
  injection hx' with hx'
  subst hx'
  have hlt : j + i < L.length := by
    rcases Nat.lt_or_ge (j + i) L.length with h | h
    · exact h
    · rw [List.getElem?_eq_none h] at ha; cases ha
  refine ⟨_, rfl, hb, fun t u hu => ?_⟩
  have := hq t u hu
  rw [if_neg (by omega), qaddr]
  rw [qaddr] at this
  rw [show o + j * k + (i * k + t) = o + ((j + i) * k + t) by rw [Nat.add_mul]; omega]
  exact this
end
end Go.Proofs.Ytmpikfnemhjoeaa

namespace Go.Proofs.Ytmpikfnemhjoeaa
open Go.RowKit
set_option linter.unusedVariables false

theorem onC_one : ∀ f : On, ∀ u ∈ onC f, u.oneCell' = true := fun f u hu => by
  simp only [onC, pkC, List.mem_cons, List.not_mem_nil, or_false] at hu
  rcases hu with rfl | rfl | rfl | rfl | rfl | rfl | rfl | rfl <;> rfl
end Go.Proofs.Ytmpikfnemhjoeaa

namespace Go.Proofs.Ytmpikfnemhjoeaa
open Go.RowKit
set_option linter.unusedVariables false

def fI : Option Nat → Int
  | none => -1
  | some i => i
theorem Bq.first_step_none {s : Bq} {k : Nat} (h : s.first k = none) : s.first (k + 1) = some k := by unfold Bq.first; rw [h]
theorem Bq.first_step_lt {s : Bq} {k i : Nat} (h : s.first k = some i) (hl : (s.L.getD k ⟨0, pk0⟩).b < (s.L.getD i ⟨0, pk0⟩).b) : s.first (k + 1) = some k := by unfold Bq.first; rw [h]; exact if_pos hl
theorem Bq.first_step_ge {s : Bq} {k i : Nat} (h : s.first k = some i) (hl : ¬ (s.L.getD k ⟨0, pk0⟩).b < (s.L.getD i ⟨0, pk0⟩).b) : s.first (k + 1) = some i := by unfold Bq.first; rw [h]; exact if_neg hl
end Go.Proofs.Ytmpikfnemhjoeaa

namespace Go.Proofs.Ytmpikfnemhjoeaa
open Go.RowKit
set_option linter.unusedVariables false

theorem Bq.erase_eq (L : List On) (i : Nat) : L.take i ++ L.drop (i + 1) = L.eraseIdx i := (List.eraseIdx_eq_take_drop_succ L i).symm
end Go.Proofs.Ytmpikfnemhjoeaa

namespace Go.Proofs.Ytmpikfnemhjoeaa
open Go.RowKit
set_option linter.unusedVariables false

theorem info_pkt : (Try.prog.info? 32).map (fun i => (i.zero, i.size, i.bytes)) = some (some (.agg #[.int .i64 0, .int .i64 0, .int .i64 0, .string (ByteArray.mk #[]), .int .i64 0, .int .i64 0, .bool false]), 7, 64) := by kernel_rfl
theorem flat_pk : FlatE Try.prog 27 32 7 64 := by
  obtain ⟨i0, hi, hz0, hz1, hz2⟩ := info_parts info_pkt
  exact ⟨Try.underlying27, i0, _, hi, hz0, hz1, hz2, rfl, by decide, by decide⟩
theorem pkC_one : ∀ p : Pk, ∀ u ∈ pkC p, u.oneCell' = true := fun f u hu => by
  simp only [pkC, List.mem_cons, List.not_mem_nil, or_false] at hu
  rcases hu with rfl | rfl | rfl | rfl | rfl | rfl | rfl <;> rfl
theorem Bq.allTo_succ (s : Bq) (k : Nat) : s.allTo (k + 1) = s.allTo k ++ s.inBand k s.L.length := by
  unfold Bq.allTo
  rw [List.range_succ, List.flatMap_append]
  simp
theorem Bq.inBand_zero (s : Bq) (k : Nat) : s.inBand k 0 = [] := by unfold Bq.inBand; simp
theorem Bq.inBand_succ {s : Bq} {k j : Nat} {o : On} (h : s.L[j]? = some o) : s.inBand k (j + 1) = s.inBand k j ++ (if o.b = (k : Int) then [o.p] else []) := by
  unfold Bq.inBand
  rw [List.take_add_one, h]
  simp only [Option.toList_some, List.filter_append, List.map_append]
  by_cases hb : o.b = (k : Int) <;> simp [hb]
theorem Bq.inBand_len (s : Bq) (k j : Nat) : (s.inBand k j).length ≤ j := by
  unfold Bq.inBand
  rw [List.length_map]
  exact Nat.le_trans (List.length_filter_le _ _) (by rw [List.length_take]; omega)
theorem Bq.allTo_len (s : Bq) : ∀ k, (s.allTo k).length ≤ k * s.L.length
  | 0 => by simp [Bq.allTo]
  | k + 1 => by
    rw [Bq.allTo_succ, List.length_append, Nat.add_mul, Nat.one_mul]
    exact Nat.add_le_add (s.allTo_len k) (s.inBand_len k _)
/-- (behind a name) what is gathered ahead of place j of band k -/
structure AllR (s : Bq) (w : World) (k j : Nat) (u : Value) (wr : World) : Prop where
  row : RowQ pkC 7 wr u (s.allTo k ++ s.inBand k j)
  below : Below w.heap.size w wr
  own : ∀ g, OwnO u g → w.heap.size ≤ g
theorem AllR.start (s : Bq) (w : World) : AllR s w 0 0 (.slice none 0 0) w := ⟨by simp only [Bq.allTo, Bq.inBand]; exact RowQ.nil _, Below.refl _ _, fun g h => by cases h⟩
theorem AllR.next {s : Bq} {w wr : World} {k : Nat} {u : Value} (h : AllR s w k s.L.length u wr) : AllR s w (k + 1) 0 u wr := ⟨by rw [Bq.allTo_succ, Bq.inBand_zero, List.append_nil]; exact h.row, h.below, h.own⟩
theorem AllR.skip {s : Bq} {w wr : World} {k j : Nat} {u : Value} {o : On} (h : AllR s w k j u wr) (ho : s.L[j]? = some o) (hb : ¬ o.b = (k : Int)) : AllR s w k (j + 1) u wr := ⟨by rw [Bq.inBand_succ ho, if_neg hb, List.append_nil]; exact h.row, h.below, h.own⟩
theorem AllR.more {s : Bq} {w wr w' : World} {ob : Obj} {k j : Nat} {u u' : Value} {o : On} (h : AllR s w k j u wr) (ho : s.L[j]? = some o) (hb : o.b = (k : Int)) (hq : RowQ pkC 7 w' u' ((s.allTo k ++ s.inBand k j) ++ [o.p])) (hk : Kept (OwnO u) (wr.alloc ob) w') (hg : Grows (OwnO u) (wr.alloc ob) (OwnO u')) :
    AllR s w k (j + 1) u' w' := by
  obtain ⟨h1, h2⟩ := own_app h.below h.own hk hg
  exact ⟨by rw [Bq.inBand_succ ho, if_pos hb, ← List.append_assoc]; exact hq, h1, h2⟩
theorem AllR.size {s : Bq} {k j : Nat} (hk : (k : Int) < s.bands) (hj : j < s.L.length) (hok : s.Ok) : (s.allTo k ++ s.inBand k j).length + 1 ≤ 1000000 := by
  have h1 := s.allTo_len k
  have h2 := s.inBand_len k j
  have h3 : s.L.length ≤ 1000 := by have := hok.room; have := hok.len; omega
  have h4 : k + 1 ≤ 1000 := by have := hok.bands; omega
  have h5 : (k + 1) * s.L.length ≤ 1000 * 1000 := Nat.mul_le_mul h4 h3
  rw [Nat.add_mul, Nat.one_mul] at h5
  rw [List.length_append]
  omega
end Go.Proofs.Ytmpikfnemhjoeaa
