/- Wire: contract of the document's Encode. -/
import Derived.Test.YtimlaopmhcipmaaDoorWirP
namespace Go.Proofs.YtimlaopmhcipmaaDoor
open Go.RowKit
set_option linter.unusedVariables false

theorem conv1 (w : World) (a : Int) :
    (convert 51 9 (.slice (some ⟨w.heap.size, 0, none⟩) 1 1)).run Tryd.prog (w.alloc (.cells #[.int .u8 a] 5)) = .ok (.string (strOfNums [a])) (w.alloc (.cells #[.int .u8 a] 5)) :=
  isBytes_string (P := Tryd.prog) Tryd.underlying51 Tryd.underlying5 Tryd.underlying9 (isBytes_new w 5 [a])
def zeroS (c : Nat) : ByteArray := ByteArray.mk (Lib.repeatL (ByteArray.mk #[0]).data.toList c).toArray
theorem zeroS_size (c : Nat) : (zeroS c).size = c := repeat_size c
theorem zeroS_bt (c k : Nat) : bt (zeroS c) k = 0 := repeat_bt c k
theorem zeroS_0 (s : ByteArray) : s ++ zeroS 0 = s := by
  refine bt_ext (by rw [ByteArray.size_append, zeroS_size]; rfl) fun k hk => ?_
  rw [ByteArray.size_append, zeroS_size] at hk
  rw [bt_app, if_pos (by omega)]
theorem zeroS_succ (s : ByteArray) (c : Nat) : s ++ zeroS c ++ strOfNums [0] = s ++ zeroS (c + 1) := by
  refine bt_ext (by simp only [ByteArray.size_append, zeroS_size, strOfNums_size]; rfl) fun k hk => ?_
  simp only [ByteArray.size_append, zeroS_size, strOfNums_size, List.length_cons, List.length_nil] at hk
  rw [bt_app, bt_app, bt_app, ByteArray.size_append, zeroS_size, zeroS_bt, zeroS_bt, bt_nums _ (by simp)]
  split
  · rfl
  · have e : k - (s.size + c) = 0 := by omega
    rw [e]
    split
    · omega
    · rfl

theorem mark_parts {i n l : Int} {sz : Nat} (h : okF i n l sz = true) : (fD n = false → fB n = false ∧ fS n = false) := by
  intro hd
  have g := good h
  have h1 := g.fl
  rw [okFl_parts g.n0 g.n1, hd] at h1
  revert h1
  cases fB n <;> cases fS n <;> cases fX n <;> cases fE n <;> cases fR n <;> decide

set_option maxHeartbeats 4000000 in
theorem renc_000 {i n l : Int} {d : ByteArray} (h : okF i n l d.size = true) (hb : fB n = false) (hs : fS n = false) (hd : fD n = false) (w : World) :
    Calls Tryd.prog 12 #[.agg #[.int .i64 i, .int .i64 n, .int .i64 l, .string d]] w fun e w' => e = .returned (.string (encS ⟨i, n, l, d⟩)) ∧ Below w.heap.size w w' := by
  have H := Lib.hid h
  have hfo : (⟨i, n, l, d⟩ : Fr).ok = true := h
  have hl := Fr.len hfo
  have ht := totN_le n
  have l0 : 0 ≤ l := hl.1
  have l1 : l ≤ 64 := by have := hl.2.1; simp only at this; omega
  have hw := Fr.word hfo
  simp only at hw
  obtain ⟨hw0, hw1⟩ := hw
  have n0 := (good h).n0
  have n1 := (good h).n1
  obtain ⟨c, hcc⟩ := rest_of hfo
  have HE : Hid (headS i n l ++ d ++ zeroS c = encS ⟨i, n, l, d⟩) := Lib.hid (enc_parts hfo hcc)
  have hds : d.size ≤ 64 := by simp only at hcc; omega
  have hcs : c ≤ 64 := by simp only at hcc; omega
  have hcv := conv1
  have HB := Lib.hid hb
  have HS := Lib.hid hs
  have HD := Lib.hid hd
  have hmk : markN n = 0 := mark_eq hb hs hd
  simp only at hcc
  have hT : totN n = 16 := by unfold totN; rw [hd]; rfl
  clear hb hs hd h hfo hl ht
  rw [hT] at hcc
  have HC := Lib.hid hcc
  unfold headS at HE
  rw [hmk] at HE
  clear hmk hT hcc
  go_enter Tryd.func12, Tryd.ntmps12
  go_wp2_with fail
  refine (has16 HB.out n0 n1 _ _ _ _).mono ?_
  rintro e w1 ⟨rfl, hb1⟩
  obtain ⟨hc1, hf1⟩ := fbcell hb1
  have hz1 : w.heap.size < w1.heap.size := by have := hb1.size; simp only [World.size_alloc] at this; omega
  go_wp2_with fail
  refine (has32 HS.out n0 n1 _ _ _ _).mono ?_
  rintro e w2 ⟨rfl, hb2⟩
  obtain ⟨hc2, hf2⟩ := fbcell hb2
  have hz2 : w.heap.size < w2.heap.size := Nat.lt_of_lt_of_le hz1 hb2.size
  go_wp2_with fail
  refine (has8 HD.out n0 n1 _ _ _ _).mono ?_
  rintro e w3 ⟨rfl, hb3⟩
  obtain ⟨hc3, hf3⟩ := fbcell hb3
  have hz3 : w.heap.size < w3.heap.size := Nat.lt_of_lt_of_le hz2 hb3.size
  have HB3 := Lib.hid (fbelow_t (fbelow_a _ hb1) (fbelow_t hb2 hb3))
  have q1 : ¬ 9223372036854775807 < (strOfNums [wordN i n % 256, wordN i n / 256 % 256, wordN i n / 65536 % 256, wordN i n / 16777216]).size + (strOfNums [l, 0, 0, 0]).size := by rw [strOfNums_size, strOfNums_size]; simp
  have q2 : ¬ 9223372036854775807 < (strOfNums [wordN i n % 256, wordN i n / 256 % 256, wordN i n / 65536 % 256, wordN i n / 16777216] ++ strOfNums [l, 0, 0, 0]).size + d.size := by rw [ByteArray.size_append, strOfNums_size, strOfNums_size]; simp; omega
  go_wp2_with fail
  have hcl : ∀ (n : Later w3) (b o : Nat), b < w3.heap.size → n.w.cell? ⟨b, o, none⟩ = w3.cell? ⟨b, o, none⟩ := later_cells w3
  refine wp_region_sec 14 [27] (fun _ v w' => isBytes 5 [l, 0, 0, 0] v w') (fun _ _ _ _ h hb => isBytes_later h hb) (by kernel_rfl) (by kernel_rfl) (by kernel_rfl) (by kernel_rfl) (by kernel_rfl) ?_
  simp only [List.take_succ_cons, List.take_zero, List.drop_succ_cons, List.drop_zero]
  refine sec_plain (by rfl) (by rfl) (by rfl) (by rfl) ?_
  intro K hK
  go_big_quiet_op
  go_big_quiet_on
  refine sec_call (v := .int .u32 (wordN i n)) (by rfl) (by rfl) (by rfl) (by rfl) (by rfl) ?_ ?_
  · intro m K hK
    go_big_quiet_op
    exact ⟨_, fun q => Later.call (rword_t H.out _), hK⟩
  simp only [Act.put, List.setIfInBounds_toArray, List.set_cons_succ, List.set_cons_zero]
  refine sec_call (v := .string (strOfNums [wordN i n % 256, wordN i n / 256 % 256, wordN i n / 65536 % 256, wordN i n / 16777216])) (by rfl) (by rfl) (by rfl) (by rfl) (by rfl) ?_ ?_
  · intro m K hK
    go_big_quiet_op
    exact ⟨_, fun q => Later.call (rput_any _ _ hw0 (by omega)), hK⟩
  simp only [Act.put, List.setIfInBounds_toArray, List.set_cons_succ, List.set_cons_zero]
  refine sec_plain (by rfl) (by rfl) (by rfl) (by rfl) ?_
  intro K hK
  go_big_quiet_op
  go_big_quiet_on
  refine sec_plain (by rfl) (by rfl) (by rfl) (by rfl) ?_
  intro K hK
  go_big_quiet_op
  go_big_quiet_on
  refine sec_plain (by rfl) (by rfl) (by rfl) (by rfl) ?_
  intro K hK
  go_big_quiet_op
  go_big_quiet_on
  refine sec_plain (by rfl) (by rfl) (by rfl) (by rfl) ?_
  intro K hK
  go_big_quiet_op
  go_big_quiet_on
  refine sec_plain (by rfl) (by rfl) (by rfl) (by rfl) ?_
  intro K hK
  go_big_quiet_op
  go_big_quiet_on
  refine sec_new (s := 27) (mk := fun w => .slice (some ⟨w.heap.size, 0, none⟩) 4 4) (ob := fun w => .cells #[.int .u8 l, .int .u8 0, .int .u8 0, .int .u8 0] 5) (by rfl) (by rfl) (by rfl) (by rfl) (by rfl) (fun _ => by kernel_rfl) (fun w => isBytes_new w 5 [l, 0, 0, 0]) ?_
  simp only [Act.put, List.setIfInBounds_toArray, List.set_cons_succ, List.set_cons_zero]
  refine sec_read (v := .string (strOfNums [l, 0, 0, 0])) (by rfl) (by rfl) (fun a w hb hl => ?_) ?_
  · have h18 := hl 27 (by decide)
    rw [if_pos (by decide)] at h18
    have := isBytes_string (P := Tryd.prog) Tryd.underlying51 Tryd.underlying5 Tryd.underlying9 h18
    show (do pure (.value (← convert 51 9 (a.tmps.getD 27 undef))) : Sem Next).run Tryd.prog w = _
    rw [Sem.run_bind, this]
    rfl
  simp only [Act.put, List.setIfInBounds_toArray, List.set_cons_succ, List.set_cons_zero]
  refine sec_plain (by rfl) (by rfl) (by rfl) (by rfl) ?_
  intro K hK
  go_big_quiet_op
  go_big_quiet_on
  refine sec_plain (by rfl) (by rfl) (by rfl) (by rfl) ?_
  intro K hK
  go_big_quiet_op
  go_big_quiet_on
  refine sec_plain (by rfl) (by rfl) (by rfl) (by rfl) ?_
  intro K hK
  go_big_quiet_op
  go_big_quiet_on
  refine sec_plain (by rfl) (by rfl) (by rfl) (by rfl) ?_
  intro K hK
  go_big_quiet_op
  go_big_quiet_on
  intro xs m hF
  simp only [secFill, Act.put, List.setIfInBounds_toArray, List.set_cons_succ, List.set_cons_zero]
  generalize xs 27 = v27
  clear hF xs q1 q2
  have hh8 : (strOfNums [wordN i n % 256, wordN i n / 256 % 256, wordN i n / 65536 % 256, wordN i n / 16777216] ++ strOfNums [l, 0, 0, 0] ++ d).size = 8 + d.size := by rw [ByteArray.size_append, ByteArray.size_append, strOfNums_size, strOfNums_size]; rfl
  generalize strOfNums [wordN i n % 256, wordN i n / 256 % 256, wordN i n / 65536 % 256, wordN i n / 16777216] ++ strOfNums [l, 0, 0, 0] ++ d = H8 at HE hh8 ⊢
  have HBm := Lib.hid (fbelow_t HB3.out m.h)
  obtain ⟨mw, mh⟩ := m
  simp only at HBm ⊢
  have HH := Lib.hid hh8
  clear mh hcl hc1 hc2 hc3 hf1 hf2 hf3 hz1 hz2 hz3 HB3 hh8 hb1 hb2 hb3 HB HS HD H
  go_wp2_with fail
  go_loopw [5, 6] (fun s i wr => ∃ k : Nat, k ≤ c ∧ i = .int .i64 k ∧ s = .string (H8 ++ zeroS k) ∧ Below w.heap.size w wr) (fun _ i _ => c - (intOf i).toNat)
  case atStart => exact ⟨0, by omega, rfl, by rw [zeroS_0], HBm.out⟩
  case round =>
    obtain ⟨k, hk, rfl, rfl, hbw⟩ := hrel
    have HBW := Lib.hid hbw
    clear hbw HBm
    have hsz : (H8 ++ zeroS k).size = 8 + d.size + k := by rw [ByteArray.size_append, zeroS_size, HH.out]
    have HST := Lib.hid (zeroS_succ H8 k)
    by_cases hlt : k < c
    · have h1 : ((H8 ++ zeroS k).size : Int) < 16 := by have := HC.out; omega
      have q1 : ¬ 9223372036854775807 < (H8 ++ zeroS k).size + (strOfNums [0]).size := by rw [hsz, strOfNums_size]; simp; omega
      clear hsz
      generalize H8 ++ zeroS k = S at h1 q1 HST ⊢
      go_wp2
      go_roundw
      case rel => exact ⟨k + 1, by omega, by go_num, by rw [HST.out], HBW.out.alloc HBW.out.size _⟩
      case measure => simp [intOf]; omega
    · obtain rfl : k = c := by omega
      have h1 : (16 : Int) ≤ ((H8 ++ zeroS k).size : Int) := by have := HC.out; omega
      clear hsz HST
      generalize H8 ++ zeroS k = S at h1 HE ⊢
      go_wp2
      go_ret
      exact ⟨by rw [← HE.out]; rfl, HBW.out⟩

set_option maxHeartbeats 4000000 in
theorem renc_001 {i n l : Int} {d : ByteArray} (h : okF i n l d.size = true) (hb : fB n = false) (hs : fS n = false) (hd : fD n = true) (w : World) :
    Calls Tryd.prog 12 #[.agg #[.int .i64 i, .int .i64 n, .int .i64 l, .string d]] w fun e w' => e = .returned (.string (encS ⟨i, n, l, d⟩)) ∧ Below w.heap.size w w' := by
  have H := Lib.hid h
  have hfo : (⟨i, n, l, d⟩ : Fr).ok = true := h
  have hl := Fr.len hfo
  have ht := totN_le n
  have l0 : 0 ≤ l := hl.1
  have l1 : l ≤ 64 := by have := hl.2.1; simp only at this; omega
  have hw := Fr.word hfo
  simp only at hw
  obtain ⟨hw0, hw1⟩ := hw
  have n0 := (good h).n0
  have n1 := (good h).n1
  obtain ⟨c, hcc⟩ := rest_of hfo
  have HE : Hid (headS i n l ++ d ++ zeroS c = encS ⟨i, n, l, d⟩) := Lib.hid (enc_parts hfo hcc)
  have hds : d.size ≤ 64 := by simp only at hcc; omega
  have hcs : c ≤ 64 := by simp only at hcc; omega
  have hcv := conv1
  have HB := Lib.hid hb
  have HS := Lib.hid hs
  have HD := Lib.hid hd
  have hmk : markN n = 4 := mark_eq hb hs hd
  simp only at hcc
  have hT : totN n = 72 := by unfold totN; rw [hd]; rfl
  clear hb hs hd h hfo hl ht
  rw [hT] at hcc
  have HC := Lib.hid hcc
  unfold headS at HE
  rw [hmk] at HE
  clear hmk hT hcc
  go_enter Tryd.func12, Tryd.ntmps12
  go_wp2_with fail
  refine (has16 HB.out n0 n1 _ _ _ _).mono ?_
  rintro e w1 ⟨rfl, hb1⟩
  obtain ⟨hc1, hf1⟩ := fbcell hb1
  have hz1 : w.heap.size < w1.heap.size := by have := hb1.size; simp only [World.size_alloc] at this; omega
  go_wp2_with fail
  refine (has32 HS.out n0 n1 _ _ _ _).mono ?_
  rintro e w2 ⟨rfl, hb2⟩
  obtain ⟨hc2, hf2⟩ := fbcell hb2
  have hz2 : w.heap.size < w2.heap.size := Nat.lt_of_lt_of_le hz1 hb2.size
  go_wp2_with fail
  refine (has8 HD.out n0 n1 _ _ _ _).mono ?_
  rintro e w3 ⟨rfl, hb3⟩
  obtain ⟨hc3, hf3⟩ := fbcell hb3
  have hz3 : w.heap.size < w3.heap.size := Nat.lt_of_lt_of_le hz2 hb3.size
  have HB3 := Lib.hid (fbelow_t (fbelow_a _ hb1) (fbelow_t hb2 hb3))
  have q1 : ¬ 9223372036854775807 < (strOfNums [wordN i n % 256, wordN i n / 256 % 256, wordN i n / 65536 % 256, wordN i n / 16777216]).size + (strOfNums [l, 4, 0, 0]).size := by rw [strOfNums_size, strOfNums_size]; simp
  have q2 : ¬ 9223372036854775807 < (strOfNums [wordN i n % 256, wordN i n / 256 % 256, wordN i n / 65536 % 256, wordN i n / 16777216] ++ strOfNums [l, 4, 0, 0]).size + d.size := by rw [ByteArray.size_append, strOfNums_size, strOfNums_size]; simp; omega
  go_wp2_with fail
  have hcl : ∀ (n : Later w3) (b o : Nat), b < w3.heap.size → n.w.cell? ⟨b, o, none⟩ = w3.cell? ⟨b, o, none⟩ := later_cells w3
  refine wp_region_sec 14 [27] (fun _ v w' => isBytes 5 [l, 4, 0, 0] v w') (fun _ _ _ _ h hb => isBytes_later h hb) (by kernel_rfl) (by kernel_rfl) (by kernel_rfl) (by kernel_rfl) (by kernel_rfl) ?_
  simp only [List.take_succ_cons, List.take_zero, List.drop_succ_cons, List.drop_zero]
  refine sec_plain (by rfl) (by rfl) (by rfl) (by rfl) ?_
  intro K hK
  go_big_quiet_op
  go_big_quiet_on
  refine sec_call (v := .int .u32 (wordN i n)) (by rfl) (by rfl) (by rfl) (by rfl) (by rfl) ?_ ?_
  · intro m K hK
    go_big_quiet_op
    exact ⟨_, fun q => Later.call (rword_t H.out _), hK⟩
  simp only [Act.put, List.setIfInBounds_toArray, List.set_cons_succ, List.set_cons_zero]
  refine sec_call (v := .string (strOfNums [wordN i n % 256, wordN i n / 256 % 256, wordN i n / 65536 % 256, wordN i n / 16777216])) (by rfl) (by rfl) (by rfl) (by rfl) (by rfl) ?_ ?_
  · intro m K hK
    go_big_quiet_op
    exact ⟨_, fun q => Later.call (rput_any _ _ hw0 (by omega)), hK⟩
  simp only [Act.put, List.setIfInBounds_toArray, List.set_cons_succ, List.set_cons_zero]
  refine sec_plain (by rfl) (by rfl) (by rfl) (by rfl) ?_
  intro K hK
  go_big_quiet_op
  go_big_quiet_on
  refine sec_plain (by rfl) (by rfl) (by rfl) (by rfl) ?_
  intro K hK
  go_big_quiet_op
  go_big_quiet_on
  refine sec_plain (by rfl) (by rfl) (by rfl) (by rfl) ?_
  intro K hK
  go_big_quiet_op
  go_big_quiet_on
  refine sec_plain (by rfl) (by rfl) (by rfl) (by rfl) ?_
  intro K hK
  go_big_quiet_op
  go_big_quiet_on
  refine sec_plain (by rfl) (by rfl) (by rfl) (by rfl) ?_
  intro K hK
  go_big_quiet_op
  go_big_quiet_on
  refine sec_new (s := 27) (mk := fun w => .slice (some ⟨w.heap.size, 0, none⟩) 4 4) (ob := fun w => .cells #[.int .u8 l, .int .u8 4, .int .u8 0, .int .u8 0] 5) (by rfl) (by rfl) (by rfl) (by rfl) (by rfl) (fun _ => by kernel_rfl) (fun w => isBytes_new w 5 [l, 4, 0, 0]) ?_
  simp only [Act.put, List.setIfInBounds_toArray, List.set_cons_succ, List.set_cons_zero]
  refine sec_read (v := .string (strOfNums [l, 4, 0, 0])) (by rfl) (by rfl) (fun a w hb hl => ?_) ?_
  · have h18 := hl 27 (by decide)
    rw [if_pos (by decide)] at h18
    have := isBytes_string (P := Tryd.prog) Tryd.underlying51 Tryd.underlying5 Tryd.underlying9 h18
    show (do pure (.value (← convert 51 9 (a.tmps.getD 27 undef))) : Sem Next).run Tryd.prog w = _
    rw [Sem.run_bind, this]
    rfl
  simp only [Act.put, List.setIfInBounds_toArray, List.set_cons_succ, List.set_cons_zero]
  refine sec_plain (by rfl) (by rfl) (by rfl) (by rfl) ?_
  intro K hK
  go_big_quiet_op
  go_big_quiet_on
  refine sec_plain (by rfl) (by rfl) (by rfl) (by rfl) ?_
  intro K hK
  go_big_quiet_op
  go_big_quiet_on
  refine sec_plain (by rfl) (by rfl) (by rfl) (by rfl) ?_
  intro K hK
  go_big_quiet_op
  go_big_quiet_on
  refine sec_plain (by rfl) (by rfl) (by rfl) (by rfl) ?_
  intro K hK
  go_big_quiet_op
  go_big_quiet_on
  intro xs m hF
  simp only [secFill, Act.put, List.setIfInBounds_toArray, List.set_cons_succ, List.set_cons_zero]
  generalize xs 27 = v27
  clear hF xs q1 q2
  have hh8 : (strOfNums [wordN i n % 256, wordN i n / 256 % 256, wordN i n / 65536 % 256, wordN i n / 16777216] ++ strOfNums [l, 4, 0, 0] ++ d).size = 8 + d.size := by rw [ByteArray.size_append, ByteArray.size_append, strOfNums_size, strOfNums_size]; rfl
  generalize strOfNums [wordN i n % 256, wordN i n / 256 % 256, wordN i n / 65536 % 256, wordN i n / 16777216] ++ strOfNums [l, 4, 0, 0] ++ d = H8 at HE hh8 ⊢
  have HBm := Lib.hid (fbelow_t HB3.out m.h)
  obtain ⟨mw, mh⟩ := m
  simp only at HBm ⊢
  have HH := Lib.hid hh8
  clear mh hcl hc1 hc2 hc3 hf1 hf2 hf3 hz1 hz2 hz3 HB3 hh8 hb1 hb2 hb3 HB HS HD H
  go_wp2_with fail
  go_loopw [5, 6] (fun s i wr => ∃ k : Nat, k ≤ c ∧ i = .int .i64 k ∧ s = .string (H8 ++ zeroS k) ∧ Below w.heap.size w wr) (fun _ i _ => c - (intOf i).toNat)
  case atStart => exact ⟨0, by omega, rfl, by rw [zeroS_0], HBm.out⟩
  case round =>
    obtain ⟨k, hk, rfl, rfl, hbw⟩ := hrel
    have HBW := Lib.hid hbw
    clear hbw HBm
    have hsz : (H8 ++ zeroS k).size = 8 + d.size + k := by rw [ByteArray.size_append, zeroS_size, HH.out]
    have HST := Lib.hid (zeroS_succ H8 k)
    by_cases hlt : k < c
    · have h1 : ((H8 ++ zeroS k).size : Int) < 72 := by have := HC.out; omega
      have q1 : ¬ 9223372036854775807 < (H8 ++ zeroS k).size + (strOfNums [0]).size := by rw [hsz, strOfNums_size]; simp; omega
      clear hsz
      generalize H8 ++ zeroS k = S at h1 q1 HST ⊢
      go_wp2
      go_roundw
      case rel => exact ⟨k + 1, by omega, by go_num, by rw [HST.out], HBW.out.alloc HBW.out.size _⟩
      case measure => simp [intOf]; omega
    · obtain rfl : k = c := by omega
      have h1 : (72 : Int) ≤ ((H8 ++ zeroS k).size : Int) := by have := HC.out; omega
      clear hsz HST
      generalize H8 ++ zeroS k = S at h1 HE ⊢
      go_wp2
      go_ret
      exact ⟨by rw [← HE.out]; rfl, HBW.out⟩

set_option maxHeartbeats 4000000 in
theorem renc_011 {i n l : Int} {d : ByteArray} (h : okF i n l d.size = true) (hb : fB n = false) (hs : fS n = true) (hd : fD n = true) (w : World) :
    Calls Tryd.prog 12 #[.agg #[.int .i64 i, .int .i64 n, .int .i64 l, .string d]] w fun e w' => e = .returned (.string (encS ⟨i, n, l, d⟩)) ∧ Below w.heap.size w w' := by
  have H := Lib.hid h
  have hfo : (⟨i, n, l, d⟩ : Fr).ok = true := h
  have hl := Fr.len hfo
  have ht := totN_le n
  have l0 : 0 ≤ l := hl.1
  have l1 : l ≤ 64 := by have := hl.2.1; simp only at this; omega
  have hw := Fr.word hfo
  simp only at hw
  obtain ⟨hw0, hw1⟩ := hw
  have n0 := (good h).n0
  have n1 := (good h).n1
  obtain ⟨c, hcc⟩ := rest_of hfo
  have HE : Hid (headS i n l ++ d ++ zeroS c = encS ⟨i, n, l, d⟩) := Lib.hid (enc_parts hfo hcc)
  have hds : d.size ≤ 64 := by simp only at hcc; omega
  have hcs : c ≤ 64 := by simp only at hcc; omega
  have hcv := conv1
  have HB := Lib.hid hb
  have HS := Lib.hid hs
  have HD := Lib.hid hd
  have hmk : markN n = 6 := mark_eq hb hs hd
  simp only at hcc
  have hT : totN n = 72 := by unfold totN; rw [hd]; rfl
  clear hb hs hd h hfo hl ht
  rw [hT] at hcc
  have HC := Lib.hid hcc
  unfold headS at HE
  rw [hmk] at HE
  clear hmk hT hcc
  go_enter Tryd.func12, Tryd.ntmps12
  go_wp2_with fail
  refine (has16 HB.out n0 n1 _ _ _ _).mono ?_
  rintro e w1 ⟨rfl, hb1⟩
  obtain ⟨hc1, hf1⟩ := fbcell hb1
  have hz1 : w.heap.size < w1.heap.size := by have := hb1.size; simp only [World.size_alloc] at this; omega
  go_wp2_with fail
  refine (has32 HS.out n0 n1 _ _ _ _).mono ?_
  rintro e w2 ⟨rfl, hb2⟩
  obtain ⟨hc2, hf2⟩ := fbcell hb2
  have hz2 : w.heap.size < w2.heap.size := Nat.lt_of_lt_of_le hz1 hb2.size
  go_wp2_with fail
  refine (has8 HD.out n0 n1 _ _ _ _).mono ?_
  rintro e w3 ⟨rfl, hb3⟩
  obtain ⟨hc3, hf3⟩ := fbcell hb3
  have hz3 : w.heap.size < w3.heap.size := Nat.lt_of_lt_of_le hz2 hb3.size
  have HB3 := Lib.hid (fbelow_t (fbelow_a _ hb1) (fbelow_t hb2 hb3))
  have q1 : ¬ 9223372036854775807 < (strOfNums [wordN i n % 256, wordN i n / 256 % 256, wordN i n / 65536 % 256, wordN i n / 16777216]).size + (strOfNums [l, 6, 0, 0]).size := by rw [strOfNums_size, strOfNums_size]; simp
  have q2 : ¬ 9223372036854775807 < (strOfNums [wordN i n % 256, wordN i n / 256 % 256, wordN i n / 65536 % 256, wordN i n / 16777216] ++ strOfNums [l, 6, 0, 0]).size + d.size := by rw [ByteArray.size_append, strOfNums_size, strOfNums_size]; simp; omega
  go_wp2_with fail
  have hcl : ∀ (n : Later w3) (b o : Nat), b < w3.heap.size → n.w.cell? ⟨b, o, none⟩ = w3.cell? ⟨b, o, none⟩ := later_cells w3
  refine wp_region_sec 14 [27] (fun _ v w' => isBytes 5 [l, 6, 0, 0] v w') (fun _ _ _ _ h hb => isBytes_later h hb) (by kernel_rfl) (by kernel_rfl) (by kernel_rfl) (by kernel_rfl) (by kernel_rfl) ?_
  simp only [List.take_succ_cons, List.take_zero, List.drop_succ_cons, List.drop_zero]
  refine sec_plain (by rfl) (by rfl) (by rfl) (by rfl) ?_
  intro K hK
  go_big_quiet_op
  go_big_quiet_on
  refine sec_call (v := .int .u32 (wordN i n)) (by rfl) (by rfl) (by rfl) (by rfl) (by rfl) ?_ ?_
  · intro m K hK
    go_big_quiet_op
    exact ⟨_, fun q => Later.call (rword_t H.out _), hK⟩
  simp only [Act.put, List.setIfInBounds_toArray, List.set_cons_succ, List.set_cons_zero]
  refine sec_call (v := .string (strOfNums [wordN i n % 256, wordN i n / 256 % 256, wordN i n / 65536 % 256, wordN i n / 16777216])) (by rfl) (by rfl) (by rfl) (by rfl) (by rfl) ?_ ?_
  · intro m K hK
    go_big_quiet_op
    exact ⟨_, fun q => Later.call (rput_any _ _ hw0 (by omega)), hK⟩
  simp only [Act.put, List.setIfInBounds_toArray, List.set_cons_succ, List.set_cons_zero]
  refine sec_plain (by rfl) (by rfl) (by rfl) (by rfl) ?_
  intro K hK
  go_big_quiet_op
  go_big_quiet_on
  refine sec_plain (by rfl) (by rfl) (by rfl) (by rfl) ?_
  intro K hK
  go_big_quiet_op
  go_big_quiet_on
  refine sec_plain (by rfl) (by rfl) (by rfl) (by rfl) ?_
  intro K hK
  go_big_quiet_op
  go_big_quiet_on
  refine sec_plain (by rfl) (by rfl) (by rfl) (by rfl) ?_
  intro K hK
  go_big_quiet_op
  go_big_quiet_on
  refine sec_plain (by rfl) (by rfl) (by rfl) (by rfl) ?_
  intro K hK
  go_big_quiet_op
  go_big_quiet_on
  refine sec_new (s := 27) (mk := fun w => .slice (some ⟨w.heap.size, 0, none⟩) 4 4) (ob := fun w => .cells #[.int .u8 l, .int .u8 6, .int .u8 0, .int .u8 0] 5) (by rfl) (by rfl) (by rfl) (by rfl) (by rfl) (fun _ => by kernel_rfl) (fun w => isBytes_new w 5 [l, 6, 0, 0]) ?_
  simp only [Act.put, List.setIfInBounds_toArray, List.set_cons_succ, List.set_cons_zero]
  refine sec_read (v := .string (strOfNums [l, 6, 0, 0])) (by rfl) (by rfl) (fun a w hb hl => ?_) ?_
  · have h18 := hl 27 (by decide)
    rw [if_pos (by decide)] at h18
    have := isBytes_string (P := Tryd.prog) Tryd.underlying51 Tryd.underlying5 Tryd.underlying9 h18
    show (do pure (.value (← convert 51 9 (a.tmps.getD 27 undef))) : Sem Next).run Tryd.prog w = _
    rw [Sem.run_bind, this]
    rfl
  simp only [Act.put, List.setIfInBounds_toArray, List.set_cons_succ, List.set_cons_zero]
  refine sec_plain (by rfl) (by rfl) (by rfl) (by rfl) ?_
  intro K hK
  go_big_quiet_op
  go_big_quiet_on
  refine sec_plain (by rfl) (by rfl) (by rfl) (by rfl) ?_
  intro K hK
  go_big_quiet_op
  go_big_quiet_on
  refine sec_plain (by rfl) (by rfl) (by rfl) (by rfl) ?_
  intro K hK
  go_big_quiet_op
  go_big_quiet_on
  refine sec_plain (by rfl) (by rfl) (by rfl) (by rfl) ?_
  intro K hK
  go_big_quiet_op
  go_big_quiet_on
  intro xs m hF
  simp only [secFill, Act.put, List.setIfInBounds_toArray, List.set_cons_succ, List.set_cons_zero]
  generalize xs 27 = v27
  clear hF xs q1 q2
  have hh8 : (strOfNums [wordN i n % 256, wordN i n / 256 % 256, wordN i n / 65536 % 256, wordN i n / 16777216] ++ strOfNums [l, 6, 0, 0] ++ d).size = 8 + d.size := by rw [ByteArray.size_append, ByteArray.size_append, strOfNums_size, strOfNums_size]; rfl
  generalize strOfNums [wordN i n % 256, wordN i n / 256 % 256, wordN i n / 65536 % 256, wordN i n / 16777216] ++ strOfNums [l, 6, 0, 0] ++ d = H8 at HE hh8 ⊢
  have HBm := Lib.hid (fbelow_t HB3.out m.h)
  obtain ⟨mw, mh⟩ := m
  simp only at HBm ⊢
  have HH := Lib.hid hh8
  clear mh hcl hc1 hc2 hc3 hf1 hf2 hf3 hz1 hz2 hz3 HB3 hh8 hb1 hb2 hb3 HB HS HD H
  go_wp2_with fail
  go_loopw [5, 6] (fun s i wr => ∃ k : Nat, k ≤ c ∧ i = .int .i64 k ∧ s = .string (H8 ++ zeroS k) ∧ Below w.heap.size w wr) (fun _ i _ => c - (intOf i).toNat)
  case atStart => exact ⟨0, by omega, rfl, by rw [zeroS_0], HBm.out⟩
  case round =>
    obtain ⟨k, hk, rfl, rfl, hbw⟩ := hrel
    have HBW := Lib.hid hbw
    clear hbw HBm
    have hsz : (H8 ++ zeroS k).size = 8 + d.size + k := by rw [ByteArray.size_append, zeroS_size, HH.out]
    have HST := Lib.hid (zeroS_succ H8 k)
    by_cases hlt : k < c
    · have h1 : ((H8 ++ zeroS k).size : Int) < 72 := by have := HC.out; omega
      have q1 : ¬ 9223372036854775807 < (H8 ++ zeroS k).size + (strOfNums [0]).size := by rw [hsz, strOfNums_size]; simp; omega
      clear hsz
      generalize H8 ++ zeroS k = S at h1 q1 HST ⊢
      go_wp2
      go_roundw
      case rel => exact ⟨k + 1, by omega, by go_num, by rw [HST.out], HBW.out.alloc HBW.out.size _⟩
      case measure => simp [intOf]; omega
    · obtain rfl : k = c := by omega
      have h1 : (72 : Int) ≤ ((H8 ++ zeroS k).size : Int) := by have := HC.out; omega
      clear hsz HST
      generalize H8 ++ zeroS k = S at h1 HE ⊢
      go_wp2
      go_ret
      exact ⟨by rw [← HE.out]; rfl, HBW.out⟩

set_option maxHeartbeats 4000000 in
theorem renc_101 {i n l : Int} {d : ByteArray} (h : okF i n l d.size = true) (hb : fB n = true) (hs : fS n = false) (hd : fD n = true) (w : World) :
    Calls Tryd.prog 12 #[.agg #[.int .i64 i, .int .i64 n, .int .i64 l, .string d]] w fun e w' => e = .returned (.string (encS ⟨i, n, l, d⟩)) ∧ Below w.heap.size w w' := by
  have H := Lib.hid h
  have hfo : (⟨i, n, l, d⟩ : Fr).ok = true := h
  have hl := Fr.len hfo
  have ht := totN_le n
  have l0 : 0 ≤ l := hl.1
  have l1 : l ≤ 64 := by have := hl.2.1; simp only at this; omega
  have hw := Fr.word hfo
  simp only at hw
  obtain ⟨hw0, hw1⟩ := hw
  have n0 := (good h).n0
  have n1 := (good h).n1
  obtain ⟨c, hcc⟩ := rest_of hfo
  have HE : Hid (headS i n l ++ d ++ zeroS c = encS ⟨i, n, l, d⟩) := Lib.hid (enc_parts hfo hcc)
  have hds : d.size ≤ 64 := by simp only at hcc; omega
  have hcs : c ≤ 64 := by simp only at hcc; omega
  have hcv := conv1
  have HB := Lib.hid hb
  have HS := Lib.hid hs
  have HD := Lib.hid hd
  have hmk : markN n = 5 := mark_eq hb hs hd
  simp only at hcc
  have hT : totN n = 72 := by unfold totN; rw [hd]; rfl
  clear hb hs hd h hfo hl ht
  rw [hT] at hcc
  have HC := Lib.hid hcc
  unfold headS at HE
  rw [hmk] at HE
  clear hmk hT hcc
  go_enter Tryd.func12, Tryd.ntmps12
  go_wp2_with fail
  refine (has16 HB.out n0 n1 _ _ _ _).mono ?_
  rintro e w1 ⟨rfl, hb1⟩
  obtain ⟨hc1, hf1⟩ := fbcell hb1
  have hz1 : w.heap.size < w1.heap.size := by have := hb1.size; simp only [World.size_alloc] at this; omega
  go_wp2_with fail
  refine (has32 HS.out n0 n1 _ _ _ _).mono ?_
  rintro e w2 ⟨rfl, hb2⟩
  obtain ⟨hc2, hf2⟩ := fbcell hb2
  have hz2 : w.heap.size < w2.heap.size := Nat.lt_of_lt_of_le hz1 hb2.size
  go_wp2_with fail
  refine (has8 HD.out n0 n1 _ _ _ _).mono ?_
  rintro e w3 ⟨rfl, hb3⟩
  obtain ⟨hc3, hf3⟩ := fbcell hb3
  have hz3 : w.heap.size < w3.heap.size := Nat.lt_of_lt_of_le hz2 hb3.size
  have HB3 := Lib.hid (fbelow_t (fbelow_a _ hb1) (fbelow_t hb2 hb3))
  have q1 : ¬ 9223372036854775807 < (strOfNums [wordN i n % 256, wordN i n / 256 % 256, wordN i n / 65536 % 256, wordN i n / 16777216]).size + (strOfNums [l, 5, 0, 0]).size := by rw [strOfNums_size, strOfNums_size]; simp
  have q2 : ¬ 9223372036854775807 < (strOfNums [wordN i n % 256, wordN i n / 256 % 256, wordN i n / 65536 % 256, wordN i n / 16777216] ++ strOfNums [l, 5, 0, 0]).size + d.size := by rw [ByteArray.size_append, strOfNums_size, strOfNums_size]; simp; omega
  go_wp2_with fail
  have hcl : ∀ (n : Later w3) (b o : Nat), b < w3.heap.size → n.w.cell? ⟨b, o, none⟩ = w3.cell? ⟨b, o, none⟩ := later_cells w3
  refine wp_region_sec 14 [27] (fun _ v w' => isBytes 5 [l, 5, 0, 0] v w') (fun _ _ _ _ h hb => isBytes_later h hb) (by kernel_rfl) (by kernel_rfl) (by kernel_rfl) (by kernel_rfl) (by kernel_rfl) ?_
  simp only [List.take_succ_cons, List.take_zero, List.drop_succ_cons, List.drop_zero]
  refine sec_plain (by rfl) (by rfl) (by rfl) (by rfl) ?_
  intro K hK
  go_big_quiet_op
  go_big_quiet_on
  refine sec_call (v := .int .u32 (wordN i n)) (by rfl) (by rfl) (by rfl) (by rfl) (by rfl) ?_ ?_
  · intro m K hK
    go_big_quiet_op
    exact ⟨_, fun q => Later.call (rword_t H.out _), hK⟩
  simp only [Act.put, List.setIfInBounds_toArray, List.set_cons_succ, List.set_cons_zero]
  refine sec_call (v := .string (strOfNums [wordN i n % 256, wordN i n / 256 % 256, wordN i n / 65536 % 256, wordN i n / 16777216])) (by rfl) (by rfl) (by rfl) (by rfl) (by rfl) ?_ ?_
  · intro m K hK
    go_big_quiet_op
    exact ⟨_, fun q => Later.call (rput_any _ _ hw0 (by omega)), hK⟩
  simp only [Act.put, List.setIfInBounds_toArray, List.set_cons_succ, List.set_cons_zero]
  refine sec_plain (by rfl) (by rfl) (by rfl) (by rfl) ?_
  intro K hK
  go_big_quiet_op
  go_big_quiet_on
  refine sec_plain (by rfl) (by rfl) (by rfl) (by rfl) ?_
  intro K hK
  go_big_quiet_op
  go_big_quiet_on
  refine sec_plain (by rfl) (by rfl) (by rfl) (by rfl) ?_
  intro K hK
  go_big_quiet_op
  go_big_quiet_on
  refine sec_plain (by rfl) (by rfl) (by rfl) (by rfl) ?_
  intro K hK
  go_big_quiet_op
  go_big_quiet_on
  refine sec_plain (by rfl) (by rfl) (by rfl) (by rfl) ?_
  intro K hK
  go_big_quiet_op
  go_big_quiet_on
  refine sec_new (s := 27) (mk := fun w => .slice (some ⟨w.heap.size, 0, none⟩) 4 4) (ob := fun w => .cells #[.int .u8 l, .int .u8 5, .int .u8 0, .int .u8 0] 5) (by rfl) (by rfl) (by rfl) (by rfl) (by rfl) (fun _ => by kernel_rfl) (fun w => isBytes_new w 5 [l, 5, 0, 0]) ?_
  simp only [Act.put, List.setIfInBounds_toArray, List.set_cons_succ, List.set_cons_zero]
  refine sec_read (v := .string (strOfNums [l, 5, 0, 0])) (by rfl) (by rfl) (fun a w hb hl => ?_) ?_
  · have h18 := hl 27 (by decide)
    rw [if_pos (by decide)] at h18
    have := isBytes_string (P := Tryd.prog) Tryd.underlying51 Tryd.underlying5 Tryd.underlying9 h18
    show (do pure (.value (← convert 51 9 (a.tmps.getD 27 undef))) : Sem Next).run Tryd.prog w = _
    rw [Sem.run_bind, this]
    rfl
  simp only [Act.put, List.setIfInBounds_toArray, List.set_cons_succ, List.set_cons_zero]
  refine sec_plain (by rfl) (by rfl) (by rfl) (by rfl) ?_
  intro K hK
  go_big_quiet_op
  go_big_quiet_on
  refine sec_plain (by rfl) (by rfl) (by rfl) (by rfl) ?_
  intro K hK
  go_big_quiet_op
  go_big_quiet_on
  refine sec_plain (by rfl) (by rfl) (by rfl) (by rfl) ?_
  intro K hK
  go_big_quiet_op
  go_big_quiet_on
  refine sec_plain (by rfl) (by rfl) (by rfl) (by rfl) ?_
  intro K hK
  go_big_quiet_op
  go_big_quiet_on
  intro xs m hF
  simp only [secFill, Act.put, List.setIfInBounds_toArray, List.set_cons_succ, List.set_cons_zero]
  generalize xs 27 = v27
  clear hF xs q1 q2
  have hh8 : (strOfNums [wordN i n % 256, wordN i n / 256 % 256, wordN i n / 65536 % 256, wordN i n / 16777216] ++ strOfNums [l, 5, 0, 0] ++ d).size = 8 + d.size := by rw [ByteArray.size_append, ByteArray.size_append, strOfNums_size, strOfNums_size]; rfl
  generalize strOfNums [wordN i n % 256, wordN i n / 256 % 256, wordN i n / 65536 % 256, wordN i n / 16777216] ++ strOfNums [l, 5, 0, 0] ++ d = H8 at HE hh8 ⊢
  have HBm := Lib.hid (fbelow_t HB3.out m.h)
  obtain ⟨mw, mh⟩ := m
  simp only at HBm ⊢
  have HH := Lib.hid hh8
  clear mh hcl hc1 hc2 hc3 hf1 hf2 hf3 hz1 hz2 hz3 HB3 hh8 hb1 hb2 hb3 HB HS HD H
  go_wp2_with fail
  go_loopw [5, 6] (fun s i wr => ∃ k : Nat, k ≤ c ∧ i = .int .i64 k ∧ s = .string (H8 ++ zeroS k) ∧ Below w.heap.size w wr) (fun _ i _ => c - (intOf i).toNat)
  case atStart => exact ⟨0, by omega, rfl, by rw [zeroS_0], HBm.out⟩
  case round =>
    obtain ⟨k, hk, rfl, rfl, hbw⟩ := hrel
    have HBW := Lib.hid hbw
    clear hbw HBm
    have hsz : (H8 ++ zeroS k).size = 8 + d.size + k := by rw [ByteArray.size_append, zeroS_size, HH.out]
    have HST := Lib.hid (zeroS_succ H8 k)
    by_cases hlt : k < c
    · have h1 : ((H8 ++ zeroS k).size : Int) < 72 := by have := HC.out; omega
      have q1 : ¬ 9223372036854775807 < (H8 ++ zeroS k).size + (strOfNums [0]).size := by rw [hsz, strOfNums_size]; simp; omega
      clear hsz
      generalize H8 ++ zeroS k = S at h1 q1 HST ⊢
      go_wp2
      go_roundw
      case rel => exact ⟨k + 1, by omega, by go_num, by rw [HST.out], HBW.out.alloc HBW.out.size _⟩
      case measure => simp [intOf]; omega
    · obtain rfl : k = c := by omega
      have h1 : (72 : Int) ≤ ((H8 ++ zeroS k).size : Int) := by have := HC.out; omega
      clear hsz HST
      generalize H8 ++ zeroS k = S at h1 HE ⊢
      go_wp2
      go_ret
      exact ⟨by rw [← HE.out]; rfl, HBW.out⟩

set_option maxHeartbeats 4000000 in
theorem renc_111 {i n l : Int} {d : ByteArray} (h : okF i n l d.size = true) (hb : fB n = true) (hs : fS n = true) (hd : fD n = true) (w : World) :
    Calls Tryd.prog 12 #[.agg #[.int .i64 i, .int .i64 n, .int .i64 l, .string d]] w fun e w' => e = .returned (.string (encS ⟨i, n, l, d⟩)) ∧ Below w.heap.size w w' := by
  have H := Lib.hid h
  have hfo : (⟨i, n, l, d⟩ : Fr).ok = true := h
  have hl := Fr.len hfo
  have ht := totN_le n
  have l0 : 0 ≤ l := hl.1
  have l1 : l ≤ 64 := by have := hl.2.1; simp only at this; omega
  have hw := Fr.word hfo
  simp only at hw
  obtain ⟨hw0, hw1⟩ := hw
  have n0 := (good h).n0
  have n1 := (good h).n1
  obtain ⟨c, hcc⟩ := rest_of hfo
  have HE : Hid (headS i n l ++ d ++ zeroS c = encS ⟨i, n, l, d⟩) := Lib.hid (enc_parts hfo hcc)
  have hds : d.size ≤ 64 := by simp only at hcc; omega
  have hcs : c ≤ 64 := by simp only at hcc; omega
  have hcv := conv1
  have HB := Lib.hid hb
  have HS := Lib.hid hs
  have HD := Lib.hid hd
  have hmk : markN n = 7 := mark_eq hb hs hd
  simp only at hcc
  have hT : totN n = 72 := by unfold totN; rw [hd]; rfl
  clear hb hs hd h hfo hl ht
  rw [hT] at hcc
  have HC := Lib.hid hcc
  unfold headS at HE
  rw [hmk] at HE
  clear hmk hT hcc
  go_enter Tryd.func12, Tryd.ntmps12
  go_wp2_with fail
  refine (has16 HB.out n0 n1 _ _ _ _).mono ?_
  rintro e w1 ⟨rfl, hb1⟩
  obtain ⟨hc1, hf1⟩ := fbcell hb1
  have hz1 : w.heap.size < w1.heap.size := by have := hb1.size; simp only [World.size_alloc] at this; omega
  go_wp2_with fail
  refine (has32 HS.out n0 n1 _ _ _ _).mono ?_
  rintro e w2 ⟨rfl, hb2⟩
  obtain ⟨hc2, hf2⟩ := fbcell hb2
  have hz2 : w.heap.size < w2.heap.size := Nat.lt_of_lt_of_le hz1 hb2.size
  go_wp2_with fail
  refine (has8 HD.out n0 n1 _ _ _ _).mono ?_
  rintro e w3 ⟨rfl, hb3⟩
  obtain ⟨hc3, hf3⟩ := fbcell hb3
  have hz3 : w.heap.size < w3.heap.size := Nat.lt_of_lt_of_le hz2 hb3.size
  have HB3 := Lib.hid (fbelow_t (fbelow_a _ hb1) (fbelow_t hb2 hb3))
  have q1 : ¬ 9223372036854775807 < (strOfNums [wordN i n % 256, wordN i n / 256 % 256, wordN i n / 65536 % 256, wordN i n / 16777216]).size + (strOfNums [l, 7, 0, 0]).size := by rw [strOfNums_size, strOfNums_size]; simp
  have q2 : ¬ 9223372036854775807 < (strOfNums [wordN i n % 256, wordN i n / 256 % 256, wordN i n / 65536 % 256, wordN i n / 16777216] ++ strOfNums [l, 7, 0, 0]).size + d.size := by rw [ByteArray.size_append, strOfNums_size, strOfNums_size]; simp; omega
  go_wp2_with fail
  have hcl : ∀ (n : Later w3) (b o : Nat), b < w3.heap.size → n.w.cell? ⟨b, o, none⟩ = w3.cell? ⟨b, o, none⟩ := later_cells w3
  refine wp_region_sec 14 [27] (fun _ v w' => isBytes 5 [l, 7, 0, 0] v w') (fun _ _ _ _ h hb => isBytes_later h hb) (by kernel_rfl) (by kernel_rfl) (by kernel_rfl) (by kernel_rfl) (by kernel_rfl) ?_
  simp only [List.take_succ_cons, List.take_zero, List.drop_succ_cons, List.drop_zero]
  refine sec_plain (by rfl) (by rfl) (by rfl) (by rfl) ?_
  intro K hK
  go_big_quiet_op
  go_big_quiet_on
  refine sec_call (v := .int .u32 (wordN i n)) (by rfl) (by rfl) (by rfl) (by rfl) (by rfl) ?_ ?_
  · intro m K hK
    go_big_quiet_op
    exact ⟨_, fun q => Later.call (rword_t H.out _), hK⟩
  simp only [Act.put, List.setIfInBounds_toArray, List.set_cons_succ, List.set_cons_zero]
  refine sec_call (v := .string (strOfNums [wordN i n % 256, wordN i n / 256 % 256, wordN i n / 65536 % 256, wordN i n / 16777216])) (by rfl) (by rfl) (by rfl) (by rfl) (by rfl) ?_ ?_
  · intro m K hK
    go_big_quiet_op
    exact ⟨_, fun q => Later.call (rput_any _ _ hw0 (by omega)), hK⟩
  simp only [Act.put, List.setIfInBounds_toArray, List.set_cons_succ, List.set_cons_zero]
  refine sec_plain (by rfl) (by rfl) (by rfl) (by rfl) ?_
  intro K hK
  go_big_quiet_op
  go_big_quiet_on
  refine sec_plain (by rfl) (by rfl) (by rfl) (by rfl) ?_
  intro K hK
  go_big_quiet_op
  go_big_quiet_on
  refine sec_plain (by rfl) (by rfl) (by rfl) (by rfl) ?_
  intro K hK
  go_big_quiet_op
  go_big_quiet_on
  refine sec_plain (by rfl) (by rfl) (by rfl) (by rfl) ?_
  intro K hK
  go_big_quiet_op
  go_big_quiet_on
  refine sec_plain (by rfl) (by rfl) (by rfl) (by rfl) ?_
  intro K hK
  go_big_quiet_op
  go_big_quiet_on
  refine sec_new (s := 27) (mk := fun w => .slice (some ⟨w.heap.size, 0, none⟩) 4 4) (ob := fun w => .cells #[.int .u8 l, .int .u8 7, .int .u8 0, .int .u8 0] 5) (by rfl) (by rfl) (by rfl) (by rfl) (by rfl) (fun _ => by kernel_rfl) (fun w => isBytes_new w 5 [l, 7, 0, 0]) ?_
  simp only [Act.put, List.setIfInBounds_toArray, List.set_cons_succ, List.set_cons_zero]
  refine sec_read (v := .string (strOfNums [l, 7, 0, 0])) (by rfl) (by rfl) (fun a w hb hl => ?_) ?_
  · have h18 := hl 27 (by decide)
    rw [if_pos (by decide)] at h18
    have := isBytes_string (P := Tryd.prog) Tryd.underlying51 Tryd.underlying5 Tryd.underlying9 h18
    show (do pure (.value (← convert 51 9 (a.tmps.getD 27 undef))) : Sem Next).run Tryd.prog w = _
    rw [Sem.run_bind, this]
    rfl
  simp only [Act.put, List.setIfInBounds_toArray, List.set_cons_succ, List.set_cons_zero]
  refine sec_plain (by rfl) (by rfl) (by rfl) (by rfl) ?_
  intro K hK
  go_big_quiet_op
  go_big_quiet_on
  refine sec_plain (by rfl) (by rfl) (by rfl) (by rfl) ?_
  intro K hK
  go_big_quiet_op
  go_big_quiet_on
  refine sec_plain (by rfl) (by rfl) (by rfl) (by rfl) ?_
  intro K hK
  go_big_quiet_op
  go_big_quiet_on
  refine sec_plain (by rfl) (by rfl) (by rfl) (by rfl) ?_
  intro K hK
  go_big_quiet_op
  go_big_quiet_on
  intro xs m hF
  simp only [secFill, Act.put, List.setIfInBounds_toArray, List.set_cons_succ, List.set_cons_zero]
  generalize xs 27 = v27
  clear hF xs q1 q2
  have hh8 : (strOfNums [wordN i n % 256, wordN i n / 256 % 256, wordN i n / 65536 % 256, wordN i n / 16777216] ++ strOfNums [l, 7, 0, 0] ++ d).size = 8 + d.size := by rw [ByteArray.size_append, ByteArray.size_append, strOfNums_size, strOfNums_size]; rfl
  generalize strOfNums [wordN i n % 256, wordN i n / 256 % 256, wordN i n / 65536 % 256, wordN i n / 16777216] ++ strOfNums [l, 7, 0, 0] ++ d = H8 at HE hh8 ⊢
  have HBm := Lib.hid (fbelow_t HB3.out m.h)
  obtain ⟨mw, mh⟩ := m
  simp only at HBm ⊢
  have HH := Lib.hid hh8
  clear mh hcl hc1 hc2 hc3 hf1 hf2 hf3 hz1 hz2 hz3 HB3 hh8 hb1 hb2 hb3 HB HS HD H
  go_wp2_with fail
  go_loopw [5, 6] (fun s i wr => ∃ k : Nat, k ≤ c ∧ i = .int .i64 k ∧ s = .string (H8 ++ zeroS k) ∧ Below w.heap.size w wr) (fun _ i _ => c - (intOf i).toNat)
  case atStart => exact ⟨0, by omega, rfl, by rw [zeroS_0], HBm.out⟩
  case round =>
    obtain ⟨k, hk, rfl, rfl, hbw⟩ := hrel
    have HBW := Lib.hid hbw
    clear hbw HBm
    have hsz : (H8 ++ zeroS k).size = 8 + d.size + k := by rw [ByteArray.size_append, zeroS_size, HH.out]
    have HST := Lib.hid (zeroS_succ H8 k)
    by_cases hlt : k < c
    · have h1 : ((H8 ++ zeroS k).size : Int) < 72 := by have := HC.out; omega
      have q1 : ¬ 9223372036854775807 < (H8 ++ zeroS k).size + (strOfNums [0]).size := by rw [hsz, strOfNums_size]; simp; omega
      clear hsz
      generalize H8 ++ zeroS k = S at h1 q1 HST ⊢
      go_wp2
      go_roundw
      case rel => exact ⟨k + 1, by omega, by go_num, by rw [HST.out], HBW.out.alloc HBW.out.size _⟩
      case measure => simp [intOf]; omega
    · obtain rfl : k = c := by omega
      have h1 : (72 : Int) ≤ ((H8 ++ zeroS k).size : Int) := by have := HC.out; omega
      clear hsz HST
      generalize H8 ++ zeroS k = S at h1 HE ⊢
      go_wp2
      go_ret
      exact ⟨by rw [← HE.out]; rfl, HBW.out⟩

theorem renc_t {f : Fr} (h : f.ok = true) (w : World) :
    Calls Tryd.prog 12 #[.agg #[.int .i64 f.i, .int .i64 f.n, .int .i64 f.l, .string f.d]] w fun e w' => e = .returned (.string (encS f)) ∧ Below w.heap.size w w' := by
  obtain ⟨i, n, l, d⟩ := f
  have hp := mark_parts h
  simp only
  cases hd : fD n
  · obtain ⟨hb, hs⟩ := hp hd
    exact renc_000 h hb hs hd w
  · cases hb : fB n <;> cases hs : fS n
    · exact renc_001 h hb hs hd w
    · exact renc_011 h hb hs hd w
    · exact renc_101 h hb hs hd w
    · exact renc_111 h hb hs hd w

end Go.Proofs.YtimlaopmhcipmaaDoor
