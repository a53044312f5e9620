/- Echo, the code: Flush; of nil; the interface. -/
import Derived.Test.YtmpikfnemhjoeaaZam
namespace Go.Proofs.Ytmpikfnemhjoeaa
open Go.RowKit
set_option linter.unusedVariables false

/-! ### plain: flags that are gone, what is gathered -/
def flK (F : List Bool) (k : Nat) : List Bool := List.replicate k false ++ F.drop k
def gatK (s : Ec) (k : Nat) : List Pk := allE (s.H.take k) (s.F.take k)
theorem flK_zero (F : List Bool) : flK F 0 = F := rfl
theorem flK_all (F : List Bool) : flK F F.length = List.replicate F.length false := by unfold flK; rw [List.drop_length, List.append_nil]
theorem flK_at {F : List Bool} {k : Nat} {b : Bool} (h : (flK F k)[k]? = some b) : F[k]? = some b := by
  unfold flK at h
  rw [List.getElem?_append_right (by simp), List.length_replicate, Nat.sub_self, List.getElem?_drop, Nat.add_zero] at h
  exact h
theorem flK_set {F : List Bool} {k : Nat} {b : Bool} (h : F[k]? = some b) : (flK F k).set k false = flK F (k + 1) := by
  have hk : k < F.length := by
    rcases Nat.lt_or_ge k F.length with h1 | h1
    · exact h1
    · rw [List.getElem?_eq_none h1] at h; cases h
  unfold flK
  rw [List.set_append_right _ _ (by simp), List.length_replicate, Nat.sub_self, List.drop_eq_getElem_cons hk, List.set_cons_zero, List.replicate_succ', List.append_assoc]
  rfl
theorem flK_skip {F : List Bool} {k : Nat} (h : F[k]? = some false) : flK F k = flK F (k + 1) := by
  rw [← flK_set h]
  have hk : k < F.length := by
    rcases Nat.lt_or_ge k F.length with h1 | h1
    · exact h1
    · rw [List.getElem?_eq_none h1] at h; cases h
  refine (List.ext_getElem? fun j => ?_)
  rw [List.getElem?_set]
  split
  · rename_i e
    subst e
    have hl : k < (flK F k).length := by unfold flK; simp; omega
    rw [if_pos hl]
    unfold flK
    rw [List.getElem?_append_right (by simp), List.length_replicate, Nat.sub_self, List.getElem?_drop, Nat.add_zero, h]
  · rfl
theorem allE_app : ∀ (H H' : List Pk) (F F' : List Bool), H.length = F.length → allE (H ++ H') (F ++ F') = allE H F ++ allE H' F'
  | [], _, [], _, _ => rfl
  | [], _, _ :: _, _, h => by cases h
  | _ :: _, _, [], _, h => by cases h
  | p :: H, H', f :: F, F', h => by
    have ih := allE_app H H' F F' (by simpa using h)
    simp only [List.cons_append, allE]
    split
    · rw [ih]; rfl
    · exact ih
theorem gatK_succ {s : Ec} {k : Nat} {b : Bool} (hl : s.H.length = s.F.length) (h : s.F[k]? = some b) : gatK s (k + 1) = gatK s k ++ if b then [s.H.getD k pk0] else [] := by
  have hk : k < s.F.length := by
    rcases Nat.lt_or_ge k s.F.length with h1 | h1
    · exact h1
    · rw [List.getElem?_eq_none h1] at h; cases h
  have hp : s.H[k]? = some (s.H.getD k pk0) := by rw [List.getD_eq_getElem?_getD, List.getElem?_eq_getElem (by omega)]; rfl
  unfold gatK
  rw [List.take_add_one, List.take_add_one, hp, h]
  rw [allE_app _ _ _ _ (by rw [List.length_take, List.length_take, hl])]
  cases b <;> simp [allE]
theorem gatK_len (s : Ec) (k : Nat) : (gatK s k).length ≤ k := by
  unfold gatK
  exact Nat.le_trans (allE_len _ _) (by rw [List.length_take]; omega)
theorem gatK_all (s : Ec) (hl : s.H.length = s.F.length) : gatK s s.F.length = s.all := by
  unfold gatK Ec.all
  rw [List.take_length, ← hl, List.take_length]
/-! ### what the loop holds -/
structure FlI (w : World) (b m : Nat) (R : List (Option Nat)) (s : Ec) (k : Nat) (u : Value) (Rk : List (Option Nat)) (wr : World) : Prop where
  tab : EkM wr b m Rk ⟨s.H, flK s.F k⟩
  len : Rk.length = R.length
  sub : ∀ j, ekO b m Rk j → ekO b m R j
  kept : Kept (ekO b m R) w wr
  bt : Bx1 wr w.heap.size (.pointer (some ⟨b, 0, none⟩)) 24
  bs : Bx1 wr (w.heap.size + 1) u 27
  row : RowQ pkC 7 wr u (gatK s k)
  own : ∀ g, OwnO u g → w.heap.size + 2 ≤ g
def FlJ (w : World) (b m : Nat) (R : List (Option Nat)) (s : Ec) (k : Nat) (wr : World) : Prop := ∃ u Rk, FlI w b m R s k u Rk wr
/-- in the midst of the closure's region -/
structure FlG (b m : Nat) (R R' : List (Option Nat)) (s s' : Ec) (u : Value) (p : Pk) (L : List Pk) (W : World) (j : Nat) (xs : Tmp → Option Value) (w : World) : Prop where
  kept : Kept (fun k => ekO b m R k ∨ OwnO u k) W w
  tab : EkM w b m (if j = 0 then R else R') (if j = 0 then s else s')
  row : RowS pkC 7 u p 32 L W 8 9 xs w
section
variable {b m j : Nat} {R R' : List (Option Nat)} {s s' : Ec} {u v' : Value} {p : Pk} {L : List Pk} {W w w' : World} {xs : Tmp → Option Value}
theorem FlG.start (h : EkM W b m R s) (hq : RowQ pkC 7 W u L) : FlG b m R R' s s' u p L W 0 (fun _ => none) W.drew := ⟨.of_below (Below.refl _ _).drew, h.later (Below.refl _ _).drew, RowS.start hq⟩
theorem FlG.one (h : FlG b m R R' s s' u p L W j xs w) : FlG b m R R' s s' u p L W j (fun r => if r = 8 then some (.slice (some ⟨w.heap.size, 0, none⟩) 1 1) else xs r) (w.alloc (.cells (pkC p).toArray 32)) := by
  have hb : Below w.heap.size w (w.alloc (.cells (pkC p).toArray 32)) := (Below.refl _ _).alloc (Nat.le_refl _) _
  exact ⟨h.kept.trans (.of_below (O := fun k => ekO b m R k ∨ OwnO u k) hb) (Grows.refl _ _), h.tab.later hb, h.row.one (by decide) h.kept.size⟩
theorem FlG.app (h : FlG b m R R' s s' u p L W j xs w) (hlt : ∀ k, OwnO u k → k < W.heap.size) (hap : Apart (ekO b m R) (OwnO u)) (hsub : ∀ k, ekO b m R' k → ekO b m R k) (hq : RowQ pkC 7 w' v' (L ++ [p])) (hk : Kept (OwnO u) w w') (hg : Grows (OwnO u) w (OwnO v')) : FlG b m R R' s s' u p L W j (fun r => if r = 9 then some v' else xs r) w' := by
  refine ⟨h.kept.trans (kept_to hk fun k h => .inr h) (Grows.refl _ _), h.tab.stay (fun k hk' => hk.block k (h.tab.lt k hk') (fun ho => hap k ?_ ho)), RowS.app hq hg h.kept.size⟩
  split at hk'
  · exact hk'
  · exact hsub k hk'
theorem FlG.lift (h : FlG b m R R' s s' u p L W 0 xs w) (hltR : ∀ k, ekO b m R k → k < W.heap.size) (hap : Apart (ekO b m R) (OwnO u)) (hm : EkM w' b m R' s') (hk : Kept (ekO b m R) w w') : FlG b m R R' s s' u p L W 1 xs w' :=
  ⟨h.kept.trans (kept_to hk fun k h => .inl h) (Grows.refl _ _), hm, h.row.keep hk h.kept.size (fun k hk' => ⟨hltR k hk', fun ho => hap k hk' ho⟩)⟩
end
set_option maxHeartbeats 4000000 in
theorem flushClos {w wr : World} {b m y : Nat} {R Rk : List (Option Nat)} {s : Ec} {k : Nat} {u : Value} (hltR : ∀ j, ekO b m R j → j < w.heap.size) (hlen : s.H.length = s.F.length) (hn : s.F.length ≤ 1000) (h : FlI w b m R s k u Rk wr) (hy : Rk[k]? = some (some y)) :
    Calls Try.prog 19 #[.int .i64 k, .pointer (some ⟨w.heap.size + 1, 0, none⟩), .pointer (some ⟨w.heap.size, 0, none⟩)] wr fun e w' => e = .returned (.tuple #[]) ∧ FlJ w b m R s (k + 1) w' := by
  have H := Lib.hid h
  have HY := Lib.hid hy
  have hf : s.F[k]? = some true := flK_at (h.tab.flag hy)
  obtain ⟨p, hp⟩ : ∃ p, s.H.getD k pk0 = p := ⟨_, rfl⟩
  have HP := Lib.hid hp
  have HG : Hid (gatK s (k + 1) = gatK s k ++ [p]) := Lib.hid (by rw [gatK_succ hlen hf, hp]; rfl)
  have HS : Hid ((flK s.F k).set k false = flK s.F (k + 1)) := Lib.hid (flK_set hf)
  have HK : Hid (k < 1000) := Lib.hid (by
    rcases Nat.lt_or_ge k s.F.length with h1 | h1
    · omega
    · rw [List.getElem?_eq_none h1] at hf; cases hf)
  have c0 := h.bt.cell
  have c1 := h.bs.cell
  have f1 := h.bs.live
  have HLT := Lib.hid hltR
  have hap : Apart (ekO b m Rk) (OwnO u) := fun j hj ho => by have := hltR j (h.sub j hj); have := h.own j ho; omega
  have HAP := Lib.hid hap
  have HUL := Lib.hid h.row.lt
  obtain ⟨A, cap, rfl⟩ := h.row.shape
  have HRow := Lib.hid h.row
  have hz0 := h.bt.lt
  have hz1 := h.bs.lt
  have n0 : ¬ (ekO b m Rk w.heap.size ∨ OwnO (.slice A (gatK s k).length cap) w.heap.size) := by
    rintro (h1 | h1)
    · have := hltR _ (h.sub _ h1); omega
    · have := h.own _ h1; omega
  have n1 : ¬ (ekO b m Rk (w.heap.size + 1) ∨ OwnO (.slice A (gatK s k).length cap) (w.heap.size + 1)) := by
    rintro (h1 | h1)
    · have := hltR _ (h.sub _ h1); omega
    · have := h.own _ h1; omega
  generalize hL : gatK s k = L at *
  clear h hy hf hp hap hltR
  go_enter Try.func19, Try.ntmps19
  have hc0 : ∀ (q : KLater (fun j => ekO b m Rk j ∨ OwnO (.slice A L.length cap) j) wr) (o : Nat), q.w.cell? ⟨w.heap.size, o, none⟩ = wr.cell? ⟨w.heap.size, o, none⟩ := fun q o => q.cell w.heap.size o hz0 n0
  have hc1 : ∀ (q : KLater (fun j => ekO b m Rk j ∨ OwnO (.slice A L.length cap) j) wr) (o : Nat), q.w.cell? ⟨w.heap.size + 1, o, none⟩ = wr.cell? ⟨w.heap.size + 1, o, none⟩ := fun q o => q.cell (w.heap.size + 1) o hz1 n1
  refine wp_region_st 6 [3] (FlG b m Rk (Rk.set k none) ⟨s.H, flK s.F k⟩ ⟨s.H, (flK s.F k).set k false⟩ (.slice A L.length cap) p L wr) [8, 9] (FlG.start H.out.tab HRow.out) (by kernel_rfl) (by kernel_rfl) (by kernel_rfl) (by kernel_rfl) (by kernel_rfl) (by kernel_rfl) (by kernel_rfl) ?_
  simp only [List.take_succ_cons, List.take_zero, List.drop_succ_cons, List.drop_zero]
  iterate 3 (refine st_plain (fun h => h.kept) (by rfl) (by rfl) (by rfl) (by rfl) (by rfl) ?_; intro K hK; go_big_quiet_op; go_big_quiet_on)
  refine st_step (f := 17) (args := #[.pointer (some ⟨b, 0, none⟩), .int .i64 k]) (v := pkV p) 0 (by rfl) (by rfl) (by rfl) (by rfl) (by rfl) (fun w => by simp [go_sem]) (fun xs9 w9 h9 => ?_) ?_
  · have g1 : EkM w9 b m Rk ⟨s.H, flK s.F k⟩ := h9.tab
    refine (kelift_v g1 HY.out HP.out).mono ?_
    rintro e w' ⟨he, hm', hk'⟩
    exact ⟨he, h9.lift (fun j hj => Nat.lt_of_lt_of_le (HLT.out j (H.out.sub j hj)) H.out.kept.size) HAP.out hm' hk'⟩
  simp only [Act.put, List.setIfInBounds_toArray, List.set_cons_succ, List.set_cons_zero]
  refine st_new (s := 8) (mk := fun w => .slice (some ⟨w.heap.size, 0, none⟩) 1 1) (ob := fun _ => .cells (pkC p).toArray 32) (by rfl) (by rfl) (by rfl) (by rfl) (by rfl) (by rfl) (fun _ => by kernel_rfl) (fun j xs w h => h.one) ?_
  simp only [Act.put, List.setIfInBounds_toArray, List.set_cons_succ, List.set_cons_zero]
  refine st_appF (ts := 4) (tx := 8) (tr := 9) (L := L) (M := [p]) flat_pk pkC_len pkC_one (by rfl) (by rfl) (by rfl) (by rfl) (by rfl) (by rfl) (by rfl) (by decide) (by decide) (by rfl) (fun j xs w x hG h0 hx => hG.row.rd pkC_len h0 hx) (by rw [← hL]; have := gatK_len s k; have := HK.out; simp; omega) (fun j xs w v' w' hG h1 h2 h3 => hG.app HUL.out HAP.out (ekO_sub k) h1 h2 h3) ?_
  simp only [Act.put, List.setIfInBounds_toArray, List.set_cons_succ, List.set_cons_zero]
  intro ys xs w2 hF h2
  have e9 := hF 9 (by simp)
  obtain ⟨hq9, hg9⟩ := h2.row.out e9
  have ht2 : EkM w2 b m (Rk.set k none) ⟨s.H, (flK s.F k).set k false⟩ := h2.tab
  rw [HS.out] at ht2
  have HT2 := Lib.hid ht2
  have HK2 := Lib.hid h2.kept
  have HQ9 := Lib.hid hq9
  have HG9 := Lib.hid hg9
  have HB2 := Lib.hid (H.out.bt.kept h2.kept n0)
  have HBS2 := Lib.hid (H.out.bs.kept h2.kept n1)
  have c9 := HBS2.out.cell
  have f9 := HBS2.out.live
  simp only [secFill]
  simp only [Act.put, List.setIfInBounds_toArray, List.set_cons_succ, List.set_cons_zero]
  generalize ys 9 = u9 at *
  obtain ⟨A9, cap9, hv9⟩ := HQ9.out.shape
  rw [List.length_append, List.length_singleton] at hv9
  subst hv9
  clear hF h2 e9 hc0 hc1 ht2 hq9 hg9 c0 c1 f1
  go_wp2
  go_end0
  have hge : ∀ g, OwnO (.slice A9 (L.length + 1) cap9) g → w.heap.size + 2 ≤ g := fun g hg => by
    rcases HG9.out g hg with h | h
    · exact H.out.own g h
    · omega
  have hne : ∀ g, g ≠ w.heap.size + 1 → (w2.setCell ⟨w.heap.size + 1, 0, none⟩ (.slice A9 (L.length + 1) cap9)).heap[g]? = w2.heap[g]? := fun g hg => Below.heap_setCell _ _ _ _ hg
  have hsz : w2.heap.size ≤ (w2.setCell ⟨w.heap.size + 1, 0, none⟩ (.slice A9 (L.length + 1) cap9)).heap.size := by simp [World.setCell]
  have hkr : Kept (ekO b m R) w w2 := ⟨HK2.out.os.trans H.out.kept.os, HK2.out.tape.trans H.out.kept.tape, HK2.out.output.trans H.out.kept.output, Nat.le_trans H.out.kept.size HK2.out.size, fun j h1 h2 => by
    rw [HK2.out.block j (Nat.lt_of_lt_of_le h1 H.out.kept.size) (by
      rintro (h3 | h3)
      · exact h2 (H.out.sub j h3)
      · have := H.out.own j h3; omega)]
    exact H.out.kept.block j h1 h2⟩
  refine ⟨rfl, .slice A9 (L.length + 1) cap9, Rk.set k none, HT2.out.stay (fun j hj => hne j (fun e => ?_)), by rw [List.length_set]; exact H.out.len, fun j hj => H.out.sub j (ekO_sub k j hj), ⟨hkr.os, hkr.tape, hkr.output, Nat.le_trans hkr.size hsz, fun j h1 h2 => (hne j (by omega)).trans (hkr.block j h1 h2)⟩, HB2.out.other (by omega) _, HBS2.out.set _, ?_, hge⟩
  · have := HLT.out j (H.out.sub j (ekO_sub k j hj)); omega
  · rw [HG.out]
    exact HQ9.out.stay (fun g hg => hne g (by have := hge g hg; omega)) hsz
/-! ### Flush -/
theorem flInv {w : World} {b m N : Nat} {R : List (Option Nat)} {s : Ec} (hltR : ∀ j, ekO b m R j → j < w.heap.size) (hlen : s.H.length = s.F.length) (hR : s.F.length = N) (hN : N ≤ 1000) (hRl : R.length = N) :
    EkInv 19 #[.pointer (some ⟨w.heap.size + 1, 0, none⟩), .pointer (some ⟨w.heap.size, 0, none⟩)] b N (FlJ w b m R s) where
  obj := fun k wr _ ⟨u, Rk, h⟩ => ⟨m, Rk, _, h.tab, h.len.trans hRl⟩
  no := fun k wr hk ⟨u, Rk, h⟩ ha => by
    have hf := flK_at (h.tab.flag (ha.get h.tab))
    have hf : s.F[k]? = some false := hf
    have hg : gatK s (k + 1) = gatK s k := by rw [gatK_succ hlen hf]; simp
    exact ⟨u, Rk, by rw [← flK_skip hf]; exact h.tab, h.len, h.sub, h.kept, h.bt, h.bs, by rw [hg]; exact h.row, h.own⟩
  yes := fun k wr y hk ⟨u, Rk, h⟩ ha => flushClos hltR hlen (by omega) h (ha.get h.tab)
set_option maxHeartbeats 2000000 in
theorem keflush_v {v : Value} {s : Ec} {O : Nat → Prop} (w : World) (h : EkD w v s O) (ok : s.Ok) :
    Calls Try.prog 13 #[v] w fun e w' => ∃ u, e = .returned u ∧ SlG pkC 7 w' w'.heap.size u s.all ∧ Stp EkD v O w s.flush w' := by
  obtain ⟨b, m, R, rfl, rfl, hm⟩ := h
  have hl := hm.len
  have hn2 := ok.n2
  have hb1 := (Below.refl w.heap.size w).alloc (Nat.le_refl _) (.cells #[.pointer (some ⟨b, 0, none⟩)] 24)
  obtain ⟨w1, hw1⟩ : ∃ w1, w.alloc (.cells #[.pointer (some ⟨b, 0, none⟩)] 24) = w1 := ⟨_, rfl⟩
  have x1 : Bx1 w1 w.heap.size (.pointer (some ⟨b, 0, none⟩)) 24 := by rw [← hw1]; exact Bx1.made w _ _ rfl
  have s1 : w1.heap.size = w.heap.size + 1 := by rw [← hw1]; simp
  rw [hw1] at hb1
  have hb2 := (Below.refl w1.heap.size w1).alloc (Nat.le_refl _) (.cells #[.slice none 0 0] 27)
  obtain ⟨w2, hw2⟩ : ∃ w2, w1.alloc (.cells #[.slice none 0 0] 27) = w2 := ⟨_, rfl⟩
  have x2 : Bx1 w2 (w.heap.size + 1) (.slice none 0 0) 27 := by rw [← hw2]; exact Bx1.made w1 _ _ s1
  rw [hw2] at hb2
  have hb := fbelow_t hb1 hb2
  have hI : FlJ w b m R s 0 w2 := ⟨.slice none 0 0, R, by rw [flK_zero]; exact hm.later hb, rfl, fun j h => h, .of_below hb, x1.later hb2, x2, by rw [show gatK s 0 = [] by unfold gatK; rw [List.take_zero]; rfl]; exact RowQ.nil _, fun g hg => by cases hg⟩
  have HC := Lib.hid (keach_v 19 #[.pointer (some ⟨w.heap.size + 1, 0, none⟩), .pointer (some ⟨w.heap.size, 0, none⟩)] (fun _ _ => by kernel_rfl) (flInv hm.lt ok.len hl (by omega) rfl) (by omega) _ hI)
  have HG : Hid (gatK s R.length = s.all) := Lib.hid (by rw [← hl]; exact gatK_all s ok.len)
  have HF : Hid ((⟨s.H, flK s.F R.length⟩ : Ec) = s.flush) := Lib.hid (by rw [← hl, flK_all]; rfl)
  have c0 := (x1.later hb2).cell
  have HN : Hid (s.all.length ≤ maxLen) := Lib.hid (by have := allE_len s.H s.F; unfold Ec.all maxLen; omega)
  clear hm hl hb hI ok hn2 hb1 hb2 x1 x2
  go_enter Try.func13, Try.ntmps13
  go_wp2_with fail
  refine HC.out.mono ?_
  rintro e w3 ⟨rfl, u, Rk, hJ⟩
  have c3 := hJ.bs.cell
  have HJ := Lib.hid hJ
  have hrow := hJ.row
  rw [HG.out] at hrow
  obtain ⟨A3, cap3, rfl⟩ := hrow.shape
  have HR := Lib.hid hrow
  clear hJ hrow c0
  go_wp2
  go_ret
  refine ⟨_, rfl, HR.out.sl pkC_len HN.out, _, ⟨b, m, Rk, rfl, rfl, ?_⟩, HJ.out.kept, fun k hk => .inl (HJ.out.sub k hk)⟩
  rw [← HF.out]; exact HJ.out.tab
/-! ### of nil -/
set_option maxHeartbeats 2000000 in
theorem keach_nil (f : Value) (w : World) : Calls Try.prog 18 #[.pointer none, f] w fun e w' => e = .returned (.tuple #[]) ∧ w = w' := by
  go_enter Try.func18, Try.ntmps18
  go_wp2
  refine bodyPost_ret (results_none rfl _ _ _) rfl ?_
  exact ⟨rfl, rfl⟩
set_option maxHeartbeats 4000000 in
theorem kenil : EchoNo where
  put := fun i p w => by
    have HB := Lib.hid ((Below.refl w.heap.size w).alloc (Nat.le_refl _) (.cells #[.int .i64 p.f.i, .int .i64 p.f.n, .int .i64 p.f.l, .string p.f.d, .int .i64 p.fr, .int .i64 p.tag, .bool p.lp] 32))
    go_enter Try.func9, Try.ntmps9
    go_wp2
    go_ret
    exact ⟨rfl, HB.out⟩
  get := fun i w => by
    have hzr := zeroPk
    have hb0 := (Below.refl w.heap.size w).alloc (Nat.le_refl _) (.cells #[.int .i64 0, .int .i64 0, .int .i64 0, .string (ByteArray.mk #[]), .int .i64 0, .int .i64 0, .bool false] 32)
    have HZ0 := Lib.hid (BoxP.made w pk0)
    obtain ⟨w1, hw1⟩ : ∃ w1, w.alloc (.cells #[.int .i64 0, .int .i64 0, .int .i64 0, .string (ByteArray.mk #[]), .int .i64 0, .int .i64 0, .bool false] 32) = w1 := ⟨_, rfl⟩
    rw [hw1] at hb0
    have HZ1 : Hid (BoxP w1 w.heap.size pk0) := Lib.hid (by rw [← hw1]; exact HZ0.out)
    obtain ⟨d0, d1, d2, d3, d4, d5, d6⟩ := HZ1.out.cells
    have fl : ∀ j, w1.frozen? ⟨w.heap.size, j, none⟩ = false := fun j => Lib.frozen_of_heap HZ1.out j
    have HD := Lib.hid (putB_below pk0 hb0 (Nat.le_refl _))
    have HPR := Lib.hid (HZ1.out.put pk0)
    obtain ⟨r0, r1, r2, r3, r4, r5, r6⟩ := HPR.out.cells
    unfold putB pk0 at r0 r1 r2 r3 r4 r5 r6
    unfold putB pk0 at HD
    clear HZ0 hb0
    go_enter Try.func11, Try.ntmps11
    go_wp2_with fail
    refine bodyPost_ret (v := .tuple #[pkV pk0, .int .i64 1]) ?_ rfl ⟨rfl, HD.out⟩
    simp [results, Try.results11, go_sem, pk0, r0, r1, r2, r3, r4, r5, r6]
  peek := fun i w => by
    have hzr := zeroPk
    have hb0 := (Below.refl w.heap.size w).alloc (Nat.le_refl _) (.cells #[.int .i64 0, .int .i64 0, .int .i64 0, .string (ByteArray.mk #[]), .int .i64 0, .int .i64 0, .bool false] 32)
    have HZ0 := Lib.hid (BoxP.made w pk0)
    obtain ⟨w1, hw1⟩ : ∃ w1, w.alloc (.cells #[.int .i64 0, .int .i64 0, .int .i64 0, .string (ByteArray.mk #[]), .int .i64 0, .int .i64 0, .bool false] 32) = w1 := ⟨_, rfl⟩
    rw [hw1] at hb0
    have HZ1 : Hid (BoxP w1 w.heap.size pk0) := Lib.hid (by rw [← hw1]; exact HZ0.out)
    obtain ⟨d0, d1, d2, d3, d4, d5, d6⟩ := HZ1.out.cells
    have fl : ∀ j, w1.frozen? ⟨w.heap.size, j, none⟩ = false := fun j => Lib.frozen_of_heap HZ1.out j
    have HD := Lib.hid (putB_below pk0 hb0 (Nat.le_refl _))
    have HPR := Lib.hid (HZ1.out.put pk0)
    obtain ⟨r0, r1, r2, r3, r4, r5, r6⟩ := HPR.out.cells
    unfold putB pk0 at r0 r1 r2 r3 r4 r5 r6
    unfold putB pk0 at HD
    clear HZ0 hb0
    go_enter Try.func10, Try.ntmps10
    go_wp2_with fail
    refine bodyPost_ret (v := .tuple #[pkV pk0, .bool false]) ?_ rfl ⟨rfl, HD.out⟩
    simp [results, Try.results10, go_sem, pk0, r0, r1, r2, r3, r4, r5, r6]
  len := fun w => by
    have hb := Lib.hid ((Below.refl w.heap.size w).alloc (Nat.le_refl _) (.cells #[.int .i64 0] 3))
    have c0 := (Bx1.made w (.int .i64 0) 3 rfl).cell
    go_enter Try.func14, Try.ntmps14
    go_wp2_with fail
    refine (keach_nil _ _).mono ?_
    rintro e w1 ⟨rfl, rfl⟩
    go_wp2
    go_ret
    exact ⟨rfl, hb.out⟩
  flush := fun w => by
    have hb1 := (Below.refl w.heap.size w).alloc (Nat.le_refl _) (.cells #[.pointer none] 24)
    obtain ⟨w1, hw1⟩ : ∃ w1, w.alloc (.cells #[.pointer none] 24) = w1 := ⟨_, rfl⟩
    have x1 : Bx1 w1 w.heap.size (.pointer none) 24 := by rw [← hw1]; exact Bx1.made w _ _ rfl
    have s1 : w1.heap.size = w.heap.size + 1 := by rw [← hw1]; simp
    rw [hw1] at hb1
    have hb2 := (Below.refl w1.heap.size w1).alloc (Nat.le_refl _) (.cells #[.slice none 0 0] 27)
    obtain ⟨w2, hw2⟩ : ∃ w2, w1.alloc (.cells #[.slice none 0 0] 27) = w2 := ⟨_, rfl⟩
    have x2 : Bx1 w2 (w.heap.size + 1) (.slice none 0 0) 27 := by rw [← hw2]; exact Bx1.made w1 _ _ s1
    rw [hw2] at hb2
    have HB := Lib.hid (fbelow_t hb1 hb2)
    have c1 := (x1.later hb2).cell
    have c2 := x2.cell
    clear x1 x2 hb1 hb2
    go_enter Try.func13, Try.ntmps13
    go_wp2_with fail
    refine (keach_nil _ _).mono ?_
    rintro e w3 ⟨rfl, rfl⟩
    go_wp2
    go_ret
    exact ⟨_, _, rfl, HB.out⟩
/-! ### the interface -/
theorem echoReal : EchoI EkD where
  obj := isObj_ek
  ptr := by
    rintro w v s O ⟨b, m, R, rfl, _⟩
    exact ⟨_, rfl⟩
  new := kenew_v
  put := fun i p h hok => keput_v _ i p h hok
  get := fun i h hok => keget_v _ i h hok
  peek := fun i h hok => kepeek_v _ i h hok
  len := fun h hok => kelen_v _ h hok
  flush := fun h hok => keflush_v _ h hok
end Go.Proofs.Ytmpikfnemhjoeaa
