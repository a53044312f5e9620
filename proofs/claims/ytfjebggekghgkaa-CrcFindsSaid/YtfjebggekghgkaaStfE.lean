/- Stuff: boxes that closures write; contracts of other, runs and what it makes, and of walk, over whatever function value. -/
import Derived.Test.YtfjebggekghgkaaStfD
import Derived.Test.YtfjebggekghgkaaBld
import Derived.Lib.OthersKept
import Derived.Lib.Walk
import Derived.Lib.TrimU
import Derived.Deep.LoopGhost
import Derived.BigCall
import Derived.Laws.EntriesVeiled
namespace Go.Proofs.Ytfjebggekghgkaa
open Go.RowKit
set_option linter.unusedVariables false

/-! ### boxes -/
def Box (w : World) (k : Nat) (v : Value) (t : TypeId) : Prop := w.heap[k]? = some (.cells #[v] t (0, 0))
theorem Box.cell {w : World} {k : Nat} {v : Value} {t : TypeId} (h : Box w k v t) : w.cell? ⟨k, 0, none⟩ = some v := by rw [Lib.cell_of_heap h]; rfl
theorem Box.live {w : World} {k : Nat} {v : Value} {t : TypeId} (h : Box w k v t) : w.frozen? ⟨k, 0, none⟩ = false := Lib.frozen_of_heap h 0
theorem Box.lt {w : World} {k : Nat} {v : Value} {t : TypeId} (h : Box w k v t) : k < w.heap.size := (Array.getElem?_eq_some_iff.1 h).1
theorem Box.ne {w : World} {k l : Nat} {v u : Value} {t r : TypeId} (h : Box w k v t) (h' : Box w l u r) (ht : t ≠ r) : k ≠ l := by
  intro e
  subst e
  unfold Box at h h'
  rw [h] at h'
  cases h'
  exact ht rfl
theorem Box.set {w : World} {k : Nat} {v : Value} {t : TypeId} (h : Box w k v t) (u : Value) : Box (w.setCell ⟨k, 0, none⟩ u) k u t := by
  unfold Box
  rw [heap_setCell_same w k 0 #[v] t u h]
  rfl
theorem Box.other {w : World} {k : Nat} {v : Value} {t : TypeId} (h : Box w k v t) {l : Nat} (hl : k ≠ l) (u : Value) : Box (w.setCell ⟨l, 0, none⟩ u) k v t := by
  unfold Box
  rw [Below.heap_setCell _ _ _ _ hl]
  exact h
theorem Box.below {w w' : World} {k B : Nat} {v : Value} {t : TypeId} (h : Box w k v t) (hb : Below B w w') (hk : k < B) : Box w' k v t := (hb.block k hk).trans h
theorem Box.made (w : World) (v : Value) (t : TypeId) {k : Nat} (hk : w.heap.size = k) : Box (w.alloc (.cells #[v] t)) k v t := by
  subst hk
  unfold Box World.alloc
  simp
theorem Box.iterAt {w : World} {k i p q : Nat} {s : ByteArray} {v : Value} {t : TypeId} (h : Box w k v t) (hi : w.heap[i]? = some (.stringIter s p)) : Box (w.iterAt i s q) k v t := by
  refine (Lib.iterAt_other w i k s q ?_).trans h
  intro e
  subst e
  unfold Box at h
  rw [h] at hi
  cases hi
theorem Box.kept {w w' : World} {k b : Nat} {v : Value} {t e : TypeId} (h : Box w k v t) (hk : Lib.OthersKept e (some b) w w') (hb : k ≠ b) (ht : t ≠ e) : Box w' k v t :=
  hk k _ h (fun e1 => hb (Option.some.inj e1)) (fun c fz e1 => by cases e1; exact ht rfl)

/-- a string's iterator in block k stays as it is -/
def KeepsI (k : Nat) (w w' : World) : Prop := ∀ s p, w.heap[k]? = some (.stringIter s p) → w'.heap[k]? = some (.stringIter s p)
theorem KeepsI.refl (k : Nat) (w : World) : KeepsI k w w := fun _ _ h => h
theorem KeepsI.trans {k : Nat} {a b c : World} (h : KeepsI k a b) (h' : KeepsI k b c) : KeepsI k a c := fun s p hp => h' s p (h s p hp)
theorem KeepsI.kept {k b : Nat} {e : TypeId} {w w' : World} {o : Obj} (h : Lib.OthersKept e (some b) w w') (hb : w.heap[b]? = some o) (ho : ∀ s p, o ≠ .stringIter s p) : KeepsI k w w' := fun s p hp =>
  h.iter hp (by rintro rfl; rw [hb] at hp; exact ho s p (Option.some.inj hp))

/-- of two boxes and of nothing else the world may have turned -/
structure Upd (l m : Nat) (w w' : World) : Prop where
  os : w'.os = w.os
  tape : w'.tape = w.tape
  output : w'.output = w.output
  size : w'.heap.size = w.heap.size
  block : ∀ k, k ≠ l → k ≠ m → w'.heap[k]? = w.heap[k]?
theorem Upd.refl (l m : Nat) (w : World) : Upd l m w w := ⟨rfl, rfl, rfl, rfl, fun _ _ _ => rfl⟩
theorem Upd.trans {l m : Nat} {a b c : World} (h : Upd l m a b) (k : Upd l m b c) : Upd l m a c :=
  ⟨k.os.trans h.os, k.tape.trans h.tape, k.output.trans h.output, k.size.trans h.size, fun i hi hj => (k.block i hi hj).trans (h.block i hi hj)⟩
theorem Upd.setL (l m : Nat) (w : World) (u : Value) : Upd l m w (w.setCell ⟨l, 0, none⟩ u) :=
  ⟨rfl, rfl, rfl, by simp [World.setCell], fun k hk _ => Below.heap_setCell _ _ _ _ hk⟩
theorem Upd.setM (l m : Nat) (w : World) (u : Value) : Upd l m w (w.setCell ⟨m, 0, none⟩ u) :=
  ⟨rfl, rfl, rfl, by simp [World.setCell], fun k _ hk => Below.heap_setCell _ _ _ _ hk⟩
theorem Upd.below {l m B : Nat} {a w w' : World} (h : Below B a w) (u : Upd l m w w') (hl : B ≤ l) (hm : B ≤ m) : Below B a w' :=
  h.trans ⟨u.os, u.tape, u.output, by rw [u.size]; exact Nat.le_refl _, fun k hk => u.block k (by omega) (by omega)⟩
theorem Upd.box {l m k : Nat} {w w' : World} {v : Value} {t : TypeId} (u : Upd l m w w') (h : Box w k v t) (hl : k ≠ l) (hm : k ≠ m) : Box w' k v t := (u.block k hl hm).trans h
theorem Upd.keepsI {l m : Nat} {w w' : World} {v v' : Value} {t t' : TypeId} (u : Upd l m w w') (hl : Box w l v t) (hm : Box w m v' t') (k : Nat) : KeepsI k w w' := by
  intro s p hp
  rw [u.block k (by rintro rfl; unfold Box at hl; rw [hl] at hp; cases hp) (by rintro rfl; unfold Box at hm; rw [hm] at hp; cases hp)]
  exact hp
/-- a builder stays one while boxes of other types are written -/
theorem Upd.builder {T e t t' : TypeId} {B b l m : Nat} {bs : List Value} {w w' : World} {v v' : Value} (u : Upd l m w w') (h : Lib.IsBuilderF T e B b bs w) (hl : Box w l v t) (hm : Box w m v' t')
    (h1 : t ≠ T) (h2 : t ≠ e) (h3 : t' ≠ T) (h4 : t' ≠ e) : Lib.IsBuilderF T e B b bs w' := by
  have key : ∀ {k : Nat} {c : Array Value} {ty : TypeId} {fz : Nat × Nat}, w.heap[k]? = some (.cells c ty fz) → t ≠ ty → t' ≠ ty → w'.heap[k]? = some (.cells c ty fz) := by
    intro k c ty fz hk ht ht'
    rw [u.block k (by rintro rfl; unfold Box at hl; rw [hl] at hk; cases hk; exact ht rfl) (by rintro rfl; unfold Box at hm; rw [hm] at hk; cases hk; exact ht' rfl)]
    exact hk
  have one : ∀ p, Lib.BuilderAtF T e B b p bs w → Lib.BuilderAtF T e B b p bs w' := by
    rintro p ⟨hB, v, hb, hown, hne⟩
    refine ⟨hB, v, key hb h1 h3, ⟨hown.1, ?_⟩, hne⟩
    rcases hown.2 with hn | ⟨g, cap, cur, fz, hv, hbg, hg, rest⟩
    · exact .inl hn
    · exact .inr ⟨g, cap, cur, fz, hv, hbg, key hg h2 h4, rest⟩
  exact h.elim (fun x => .inl (one _ x)) (fun x => .inr (one _ x))
theorem bld_heap {T e : TypeId} {B b : Nat} {bs : List Value} {w : World} (h : Lib.IsBuilderF T e B b bs w) : B ≤ b ∧ ∃ p v, w.heap[b]? = some (.cells #[p, v] T (0, 0)) := by
  rcases h with ⟨h1, v, h2, _⟩ | ⟨h1, v, h2, _⟩
  · exact ⟨h1, _, _, h2⟩
  · exact ⟨h1, _, _, h2⟩
theorem Box.ne_bld {T e t : TypeId} {B b k : Nat} {bs : List Value} {w : World} {v : Value} (h : Box w k v t) (hb : Lib.IsBuilderF T e B b bs w) : k ≠ b := by
  obtain ⟨_, p, u, h2⟩ := bld_heap hb
  rintro rfl
  unfold Box at h
  rw [h] at h2
  cases h2
theorem bld_keepsI {T e : TypeId} {B b : Nat} {bs : List Value} {w w' : World} (hb : Lib.IsBuilderF T e B b bs w) (h : Lib.OthersKept e (some b) w w') (k : Nat) : KeepsI k w w' := by
  obtain ⟨_, p, u, h2⟩ := bld_heap hb
  exact KeepsI.kept h h2 (fun _ _ e => by cases e)

/-! ### other -/
theorem cother_t {x y : Int} (hy : oth x = y) (hx : isBit x = true) (w : World) :
    Calls Try.prog 31 #[.int .i32 x] w fun e w' => e = .returned (.tuple #[.int .i32 y, .bool true]) ∧ w = w' := by
  subst hy
  rw [isBit_iff] at hx
  rcases hx with rfl | rfl
  · go_enter Try.func31, Try.ntmps31
    go_wp2
    go_ret2
    exact ⟨rfl, rfl⟩
  · go_enter Try.func31, Try.ntmps31
    go_wp2
    go_ret2
    exact ⟨rfl, rfl⟩
theorem cother_f {x : Int} (hx : isBit x = false) (w : World) :
    Calls Try.prog 31 #[.int .i32 x] w fun e w' => e = .returned (.tuple #[.int .i32 0, .bool false]) ∧ w = w' := by
  have h0 : (x == 48) = false := by unfold isBit at hx; simp at hx; simp [hx]
  have h1 : (x == 49) = false := by unfold isBit at hx; simp at hx; simp [hx]
  clear hx
  go_enter Try.func31, Try.ntmps31
  go_wp2
  go_ret2
  exact ⟨rfl, rfl⟩

/-! ### runs -/
/-! ### walk -/
def WalkPost (s : ByteArray) (Inv Fin : Nat → World → Prop) (e : Ending) (w : World) : Prop :=
  (e = .returned (.int .i64 (-1)) ∧ ∃ pos, ¬ pos < s.size ∧ Inv pos w) ∨ ∃ pos : Nat, pos < s.size ∧ e = .returned (.int .i64 pos) ∧ Fin pos w
def StepPost (k : Nat) (w1 : World) (Yes No : World → Prop) (e : Ending) (w2 : World) : Prop :=
  KeepsI k w1 w2 ∧ ((e = .returned (.bool true) ∧ Yes w2) ∨ (e = .returned (.bool false) ∧ No w2))

set_option maxHeartbeats 2000000 in
theorem walk_v (g : Nat) (lb : Array Value) (eg : ∀ args w, (callFunc g args).run Try.prog w = .ok (.enter g args) w) {s : ByteArray} (Inv Fin : Nat → World → Prop) (w : World)
    (h0 : Inv 0 (w.iter s 0)) (hit : ∀ pos q w1, Inv pos w1 → w1.heap[w.heap.size]? = some (.stringIter s pos) → Inv pos (w1.iterAt w.heap.size s q))
    (hdo : ∀ pos w1, pos < s.size → Inv pos w1 → Calls Try.prog g (#[.int .i32 ((Utf8.decode s pos).1 : Int)] ++ lb) w1 (StepPost w.heap.size w1 (Inv (pos + (Utf8.decode s pos).2)) (Fin pos))) :
    Calls Try.prog 29 #[.string s, .func (.func g) #[] lb] w (WalkPost s Inv Fin) := by
  have H0 := Lib.hid h0
  have HIT := Lib.hid hit
  have HDO := Lib.hid hdo
  clear h0 hit hdo
  go_enter Try.func29, Try.ntmps29
  go_wp2
  go_loopg [] s.size (fun gf wx => ∃ pos : Nat, wx.heap[w.heap.size]? = some (.stringIter s pos) ∧ Hid (Inv pos wx) ∧ s.size ≤ pos + gf)
  case atStart => exact ⟨0, World.iter_heap w s 0, H0, by omega⟩
  case round =>
    obtain ⟨pos, hit, HI, hfu⟩ := hrel
    by_cases hps : pos < s.size
    · obtain ⟨g', rfl⟩ : ∃ g', gk = g' + 1 := ⟨gk - 1, by omega⟩
      have hnx : ∀ ty, (Instr.next (.pointer (some ⟨w.heap.size, 0, none⟩)) true ty).run Try.prog wr = _ := fun ty => Lib.run_next_any_at wr w.heap.size s pos ty hit hps
      have hwd := Lib.width_pos s pos
      have cS := HDO.out pos _ hps (HIT.out pos (pos + (Utf8.decode s pos).2) _ HI.out hit)
      have hit2 := Lib.iterAt_heap wr w.heap.size s pos (pos + (Utf8.decode s pos).2) hit
      generalize (Utf8.decode s pos).1 = R at hnx cS
      generalize (Utf8.decode s pos).2 = K at hnx hwd cS hit2
      generalize wr.iterAt w.heap.size s (pos + K) = W at hnx hit2 cS
      have CS := Lib.hid cS
      clear cS
      go_wp2_with (go_at_fn g; refine CS.out.mono ?_; rintro e W' ⟨hkeep, (⟨rfl, hI⟩ | ⟨rfl, hF⟩)⟩)
      · go_roundg g'
        case measure => omega
        case rel => exact ⟨pos + K, hkeep _ _ hit2, Lib.hid hI, by omega⟩
      · go_ret
        exact .inr ⟨pos, hps, rfl, hF⟩
    · have hnx : ∀ ty, (Instr.next (.pointer (some ⟨w.heap.size, 0, none⟩)) true ty).run Try.prog wr = _ := fun ty => Lib.run_next_end_at wr w.heap.size s pos ty hit hps
      go_wp2
      go_ret
      exact .inl ⟨rfl, pos, hps, HI.out⟩

end Go.Proofs.Ytfjebggekghgkaa
