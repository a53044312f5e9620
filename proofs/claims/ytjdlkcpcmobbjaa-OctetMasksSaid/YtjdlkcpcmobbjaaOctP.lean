/- Octet: the walks of OctetTwice and OctetSame. -/
import Derived.Test.YtjdlkcpcmobbjaaOctN
namespace Go.Proofs.Ytjdlkcpcmobbjaa
open Go.RowKit
set_option linter.unusedVariables false

/-- what mask a leaves of s -/
def M (s a : ByteArray) : ByteArray := strOfNums (mlist s a)
theorem M_size (s a : ByteArray) : (M s a).size = s.size := by unfold M; rw [strOfNums_size]; simp [mlist]
theorem bt_M (s a : ByteArray) (k : Nat) : bt (M s a) k = mb s a k := by
  by_cases h : k < s.size
  · unfold M
    rw [bt_ofNums _ k (fun x hx => by
      unfold mlist at hx
      rw [List.mem_map] at hx
      obtain ⟨i, _, rfl⟩ := hx
      exact mb_lt s a i) (by simpa [mlist] using h)]
    simp [mlist, List.getD, h]
  · rw [bt_past _ k (by rw [M_size]; omega)]
    unfold mb
    rw [bt_past s k (by omega)]
    simp
theorem M_eq {s a t b : ByteArray} (hs : s.size = t.size) (h : ∀ k, mb s a k = mb t b k) : M s a = M t b := by
  unfold M mlist
  rw [hs]
  congr 1
  apply List.map_congr_left
  intro i _
  exact h i
theorem mb_M (s a b : ByteArray) (k : Nat) : mb (M s a) b k = (((bt s k).toNat &&& (bt a k).toNat &&& (bt b k).toNat : Nat) : Int) := by
  unfold mb
  rw [bt_M]
  simp [mb]
theorem M_again (s a : ByteArray) : M (M s a) a = M s a := by
  apply M_eq (M_size s a)
  intro k
  rw [mb_M]
  unfold mb
  rw [Nat.and_assoc, Nat.and_self]
theorem M_both (s a b : ByteArray) : M s (M a b) = M (M s a) b := by
  apply M_eq (M_size s a).symm
  intro k
  rw [mb_M]
  unfold mb
  rw [bt_M]
  simp [mb, Nat.and_assoc]
theorem M_turn (s a b : ByteArray) : M (M s b) a = M (M s a) b := by
  apply M_eq (by rw [M_size, M_size])
  intro k
  rw [mb_M, mb_M]
  rw [Nat.and_assoc, Nat.and_comm (bt b k).toNat, ← Nat.and_assoc]
theorem bitB_M (s a : ByteArray) (k j : Nat) : bitB (M s a) k j = (bitB s k j && bitB a k j) := by
  unfold bitB
  rw [bt_M]
  unfold mb
  rw [Int.toNat_natCast, Nat.testBit_and]
theorem cnt_M (s a : ByteArray) (k : Nat) : ∀ j, cnt (M s a) k j ≤ cnt s k j
  | 0 => Int.le_refl _
  | j + 1 => by
    have ih := cnt_M s a k j
    simp only [cnt, bitB_M]
    cases bitB s k j <;> cases bitB a k j <;> simp <;> omega
theorem ones_M (s a : ByteArray) : ∀ n, ones (M s a) n ≤ ones s n
  | 0 => Int.le_refl _
  | n + 1 => by
    have ih := ones_M s a n
    have h := cnt_M s a n 8
    rw [cnt_8, cnt_8] at h
    simp only [ones]
    omega

theorem mask_M (s a : ByteArray) (w : World) (hs : s.size ≤ 100000000) (ha : a.size ≤ 100000000) :
    Calls Try.prog 21 #[.string s, .string a] w fun e w' => e = .returned (.string (M s a)) ∧ Below w.heap.size w w' := mask_any s a w hs ha
theorem mask_again (s a : ByteArray) (w : World) (hs : s.size ≤ 100000000) (ha : a.size ≤ 100000000) :
    Calls Try.prog 21 #[.string (M s a), .string a] w fun e w' => e = .returned (.string (M s a)) ∧ Below w.heap.size w w' := by
  have := mask_M (M s a) a w (by rw [M_size]; exact hs) ha
  rw [M_again] at this
  exact this
theorem mask_second (s a b : ByteArray) (w : World) (hs : s.size ≤ 100000000) (hb : b.size ≤ 100000000) :
    Calls Try.prog 21 #[.string (M s a), .string b] w fun e w' => e = .returned (.string (M (M s a) b)) ∧ Below w.heap.size w w' :=
  mask_M (M s a) b w (by rw [M_size]; exact hs) hb
theorem mask_both (s a b : ByteArray) (w : World) (hs : s.size ≤ 100000000) (ha : a.size ≤ 100000000) :
    Calls Try.prog 21 #[.string s, .string (M a b)] w fun e w' => e = .returned (.string (M (M s a) b)) ∧ Below w.heap.size w w' := by
  have := mask_M s (M a b) w hs (by rw [M_size]; exact ha)
  rw [M_both] at this
  exact this
theorem mask_turn (s a b : ByteArray) (w : World) (hs : s.size ≤ 100000000) (ha : a.size ≤ 100000000) :
    Calls Try.prog 21 #[.string (M s b), .string a] w fun e w' => e = .returned (.string (M (M s a) b)) ∧ Below w.heap.size w w' := by
  have := mask_M (M s b) a w (by rw [M_size]; exact hs) ha
  rw [M_turn] at this
  exact this
theorem ones_mask (s a : ByteArray) (w : World) (hs : s.size ≤ 100000000) :
    Calls Try.prog 25 #[.string (M s a)] w fun e w' => e = .returned (.int .i64 (ones (M s a) s.size)) ∧ w = w' := by
  have := ones_any (M s a) w (by rw [M_size]; exact hs)
  rw [M_size] at this
  exact this

set_option maxHeartbeats 1000000 in
theorem octetTwice_walk (s a b : ByteArray) (_w0 : s.size ≤ maxLen) (_w1 : a.size ≤ maxLen) (_w2 : b.size ≤ maxLen) (w : World) :
    Calls Try.prog 8 #[.string s, .string a, .string b] w fun e w' => e = .returned (.bool true) ∧ Below w.heap.size w w' := by
  clear _w0 _w1 _w2
  by_cases h1 : (500 : Int) < s.size
  · go_enter Try.func8, Try.ntmps8
    go_wp2_with fail
    refine (alive_any _).mono ?_
    rintro e w5 ⟨rfl, hb5⟩
    go_wp2
    go_ret
    exact ⟨rfl, hb5⟩
  by_cases h2 : (500 : Int) < a.size
  · go_enter Try.func8, Try.ntmps8
    go_wp2_with fail
    refine (alive_any _).mono ?_
    rintro e w5 ⟨rfl, hb5⟩
    go_wp2
    go_ret
    exact ⟨rfl, hb5⟩
  by_cases h3 : (500 : Int) < b.size
  · go_enter Try.func8, Try.ntmps8
    go_wp2_with fail
    refine (alive_any _).mono ?_
    rintro e w5 ⟨rfl, hb5⟩
    go_wp2
    go_ret
    exact ⟨rfl, hb5⟩
  · have hs : s.size ≤ 100000000 := by omega
    have ha : a.size ≤ 100000000 := by omega
    have hb : b.size ≤ 100000000 := by omega
    have ho := ones_M s a s.size
    have hz : ((M s a).size : Int) = (s.size : Int) := by rw [M_size]
    go_enter Try.func8, Try.ntmps8
    go_wp2_with fail
    refine (mask_M s a _ hs ha).mono ?_
    rintro e w1 ⟨rfl, hb1⟩
    go_wp2_with fail
    refine (mask_again s a _ hs ha).mono ?_
    rintro e w2 ⟨rfl, hb2⟩
    go_wp2_with fail
    refine (mask_second s a b _ hs hb).mono ?_
    rintro e w3 ⟨rfl, hb3⟩
    go_wp2_with fail
    refine (mask_M a b _ ha hb).mono ?_
    rintro e w4 ⟨rfl, hb4⟩
    go_wp2_with fail
    refine (mask_both s a b _ hs ha).mono ?_
    rintro e w5 ⟨rfl, hb5⟩
    go_wp2_with fail
    refine (mask_second s a b _ hs hb).mono ?_
    rintro e w6 ⟨rfl, hb6⟩
    go_wp2_with fail
    refine (mask_M s b _ hs hb).mono ?_
    rintro e w7 ⟨rfl, hb7⟩
    go_wp2_with fail
    refine (mask_turn s a b _ hs ha).mono ?_
    rintro e w8 ⟨rfl, hb8⟩
    go_wp2_with fail
    refine (ones_mask s a _ hs).mono ?_
    rintro e w9 ⟨rfl, rfl⟩
    go_wp2_with fail
    refine (ones_any s _ hs).mono ?_
    rintro e w9 ⟨rfl, rfl⟩
    go_wp2_with fail
    refine (alive_any _).mono ?_
    rintro e w9 ⟨rfl, hb9⟩
    go_wp2
    go_ret
    exact ⟨rfl, below_t2 (below_t2 (below_t2 (below_t2 (below_t2 (below_t2 (below_t2 (below_t2 hb1 hb2) hb3) hb4) hb5) hb6) hb7) hb8) hb9⟩

/-! ### OctetSame -/

theorem difB_self (a m : ByteArray) : difB a a m = false := difB_no rfl fun _ _ => rfl
theorem difB_comm (a b m : ByteArray) : difB b a m = difB a b m := by
  cases h : difB a b m
  · obtain ⟨h1, h2⟩ := difB_of_no h
    exact difB_no h1.symm fun i hi => (h2 i (by omega)).symm
  · cases h' : difB b a m
    · obtain ⟨h1, h2⟩ := difB_of_no h'
      rw [difB_no h1.symm fun i hi => (h2 i (by omega)).symm] at h
      cases h
    · rfl
theorem difB_trans {a b c m : ByteArray} (h : difB a b m = false) (h' : difB b c m = false) : difB a c m = false := by
  obtain ⟨h1, h2⟩ := difB_of_no h
  obtain ⟨h3, h4⟩ := difB_of_no h'
  exact difB_no (h1.trans h3) fun i hi => (h2 i hi).trans (h4 i (by omega))
theorem mb_MM (s m o : ByteArray) (k : Nat) : mb s (M m o) k = (((mb s m k).toNat &&& (bt o k).toNat : Nat) : Int) := by
  unfold mb
  rw [bt_M]
  simp [mb, Nat.and_assoc]
theorem difB_less {a b m : ByteArray} (o : ByteArray) (h : difB a b m = false) : difB a b (M m o) = false := by
  obtain ⟨h1, h2⟩ := difB_of_no h
  exact difB_no h1 fun i hi => by rw [mb_MM, mb_MM, h2 i hi]

theorem differ_is (x : Bool) (a b m : ByteArray) (w : World) (ha : a.size ≤ 100000000) (hb : b.size ≤ 100000000) (hm : m.size ≤ 100000000) (hx : difB a b m = x) :
    Calls Try.prog 23 #[.string a, .string b, .string m] w fun e w' => e = .returned (.bool x) ∧ Below w.heap.size w w' := by
  have := differ_any a b m w ha hb hm
  rw [hx] at this
  exact this

theorem octetSame_long (a b c m o : ByteArray) (w : World) (h : (300 : Int) < a.size ∨ (300 : Int) < b.size ∨ (300 : Int) < c.size ∨ (300 : Int) < m.size ∨ (300 : Int) < o.size) :
    Calls Try.prog 9 #[.string a, .string b, .string c, .string m, .string o] w fun e w' => e = .returned (.bool true) ∧ Below w.heap.size w w' := by
  by_cases h1 : (300 : Int) < a.size
  · clear h
    go_enter Try.func9, Try.ntmps9
    go_wp2_with fail
    refine (alive_any _).mono ?_
    rintro e w5 ⟨rfl, hb5⟩
    go_wp2
    go_ret
    exact ⟨rfl, hb5⟩
  by_cases h2 : (300 : Int) < b.size
  · clear h
    go_enter Try.func9, Try.ntmps9
    go_wp2_with fail
    refine (alive_any _).mono ?_
    rintro e w5 ⟨rfl, hb5⟩
    go_wp2
    go_ret
    exact ⟨rfl, hb5⟩
  by_cases h3 : (300 : Int) < c.size
  · clear h
    go_enter Try.func9, Try.ntmps9
    go_wp2_with fail
    refine (alive_any _).mono ?_
    rintro e w5 ⟨rfl, hb5⟩
    go_wp2
    go_ret
    exact ⟨rfl, hb5⟩
  by_cases h4 : (300 : Int) < m.size
  · clear h
    go_enter Try.func9, Try.ntmps9
    go_wp2_with fail
    refine (alive_any _).mono ?_
    rintro e w5 ⟨rfl, hb5⟩
    go_wp2
    go_ret
    exact ⟨rfl, hb5⟩
  · have h5 : (300 : Int) < o.size := by omega
    clear h
    go_enter Try.func9, Try.ntmps9
    go_wp2_with fail
    refine (alive_any _).mono ?_
    rintro e w5 ⟨rfl, hb5⟩
    go_wp2
    go_ret
    exact ⟨rfl, hb5⟩

set_option maxHeartbeats 1000000 in
theorem octetSame_walk (a b c m o : ByteArray) (_w0 : a.size ≤ maxLen) (_w1 : b.size ≤ maxLen) (_w2 : c.size ≤ maxLen) (_w3 : m.size ≤ maxLen) (_w4 : o.size ≤ maxLen) (w : World) :
    Calls Try.prog 9 #[.string a, .string b, .string c, .string m, .string o] w fun e w' => e = .returned (.bool true) ∧ Below w.heap.size w w' := by
  clear _w0 _w1 _w2 _w3 _w4
  by_cases h : (300 : Int) < a.size ∨ (300 : Int) < b.size ∨ (300 : Int) < c.size ∨ (300 : Int) < m.size ∨ (300 : Int) < o.size
  · exact octetSame_long a b c m o w h
  · have ha : (a.size : Int) ≤ 300 := by omega
    have hb : (b.size : Int) ≤ 300 := by omega
    have hc : (c.size : Int) ≤ 300 := by omega
    have hm : (m.size : Int) ≤ 300 := by omega
    have ho : (o.size : Int) ≤ 300 := by omega
    clear h
    cases hx : difB a b m
    · cases hy : difB b c m
      · have Hz := Lib.hid (difB_trans hx hy)
        have Hl := Lib.hid (difB_less o hx)
        have Hx := Lib.hid hx
        have Hy := Lib.hid hy
        clear hx hy
        go_enter Try.func9, Try.ntmps9
        go_wp2_with fail
        refine (differ_is false a b m _ (by omega) (by omega) (by omega) Hx.out).mono ?_
        rintro e w1 ⟨rfl, hb1⟩
        go_wp2_with fail
        refine (differ_is false b c m _ (by omega) (by omega) (by omega) Hy.out).mono ?_
        rintro e w2 ⟨rfl, hb2⟩
        go_wp2_with fail
        refine (differ_is false a c m _ (by omega) (by omega) (by omega) Hz.out).mono ?_
        rintro e w3 ⟨rfl, hb3⟩
        go_wp2_with fail
        refine (differ_is false a a m _ (by omega) (by omega) (by omega) (difB_self a m)).mono ?_
        rintro e w4 ⟨rfl, hb4⟩
        go_wp2_with fail
        refine (differ_is false b a m _ (by omega) (by omega) (by omega) ((difB_comm a b m).trans Hx.out)).mono ?_
        rintro e w5 ⟨rfl, hb5⟩
        go_wp2_with fail
        refine (mask_M m o _ (by omega) (by omega)).mono ?_
        rintro e w6 ⟨rfl, hb6⟩
        go_wp2_with fail
        refine (differ_is false a b (M m o) _ (by omega) (by omega) (by rw [M_size]; omega) Hl.out).mono ?_
        rintro e w7 ⟨rfl, hb7⟩
        go_wp2_with fail
        refine (alive_any _).mono ?_
        rintro e w8 ⟨rfl, hb8⟩
        go_wp2
        go_ret
        exact ⟨rfl, below_t2 (below_t2 (below_t2 (below_t2 (below_t2 (below_t2 (below_t2 hb1 hb2) hb3) hb4) hb5) hb6) hb7) hb8⟩
      · have Hl := Lib.hid (difB_less o hx)
        have Hx := Lib.hid hx
        have Hy := Lib.hid hy
        clear hx hy
        go_enter Try.func9, Try.ntmps9
        go_wp2_with fail
        refine (differ_is false a b m _ (by omega) (by omega) (by omega) Hx.out).mono ?_
        rintro e w1 ⟨rfl, hb1⟩
        go_wp2_with fail
        refine (differ_is true b c m _ (by omega) (by omega) (by omega) Hy.out).mono ?_
        rintro e w2 ⟨rfl, hb2⟩
        go_wp2_with fail
        refine (differ_any a c m _ (by omega) (by omega) (by omega)).mono ?_
        rintro e w3 ⟨rfl, hb3⟩
        go_wp2_with fail
        refine (differ_is false a a m _ (by omega) (by omega) (by omega) (difB_self a m)).mono ?_
        rintro e w4 ⟨rfl, hb4⟩
        go_wp2_with fail
        refine (differ_is false b a m _ (by omega) (by omega) (by omega) ((difB_comm a b m).trans Hx.out)).mono ?_
        rintro e w5 ⟨rfl, hb5⟩
        go_wp2_with fail
        refine (mask_M m o _ (by omega) (by omega)).mono ?_
        rintro e w6 ⟨rfl, hb6⟩
        go_wp2_with fail
        refine (differ_is false a b (M m o) _ (by omega) (by omega) (by rw [M_size]; omega) Hl.out).mono ?_
        rintro e w7 ⟨rfl, hb7⟩
        go_wp2_with fail
        refine (alive_any _).mono ?_
        rintro e w8 ⟨rfl, hb8⟩
        go_wp2
        go_ret
        exact ⟨rfl, below_t2 (below_t2 (below_t2 (below_t2 (below_t2 (below_t2 (below_t2 hb1 hb2) hb3) hb4) hb5) hb6) hb7) hb8⟩
    · have Hx := Lib.hid hx
      clear hx
      go_enter Try.func9, Try.ntmps9
      go_wp2_with fail
      refine (differ_is true a b m _ (by omega) (by omega) (by omega) Hx.out).mono ?_
      rintro e w1 ⟨rfl, hb1⟩
      go_wp2_with fail
      refine (differ_any b c m _ (by omega) (by omega) (by omega)).mono ?_
      rintro e w2 ⟨rfl, hb2⟩
      go_wp2_with fail
      refine (differ_any a c m _ (by omega) (by omega) (by omega)).mono ?_
      rintro e w3 ⟨rfl, hb3⟩
      go_wp2_with fail
      refine (differ_is false a a m _ (by omega) (by omega) (by omega) (difB_self a m)).mono ?_
      rintro e w4 ⟨rfl, hb4⟩
      go_wp2_with fail
      refine (differ_is true b a m _ (by omega) (by omega) (by omega) ((difB_comm a b m).trans Hx.out)).mono ?_
      rintro e w5 ⟨rfl, hb5⟩
      go_wp2_with fail
      refine (alive_any _).mono ?_
      rintro e w8 ⟨rfl, hb8⟩
      go_wp2
      go_ret
      exact ⟨rfl, below_t2 (below_t2 (below_t2 (below_t2 (below_t2 hb1 hb2) hb3) hb4) hb5) hb8⟩

end Go.Proofs.Ytjdlkcpcmobbjaa
