/- Serial, the code: read. Serial, the code: read. Serial, the code: read. Serial, the code: what read answers; strings.TrimSuffix; hear. -/
import Derived.Test.YtfooigckcjbegaaDoorZao
import Derived.RegionDies
namespace Go.Proofs.YtfooigckcjbegaaDoor
open Go.RowKit
set_option linter.unusedVariables false

set_option maxHeartbeats 4000000 in
theorem kread_nd {b : ByteArray} {I A1 W L : Int} (hb : bitsB (byL b) = true) (hI : numAt (byL b) 1 11 = I) (hA1 : numAt (byL b) 12 1 = A1) (hW : numAt (byL b) 13 1 = W) (hL : numAt (byL b) 15 4 = L) (hw : (W == 1) = false) (ha : (A1 == 1) = false) (w : World) :
    Calls Tryd.prog 43 #[.string b] w (ReadPost b I 0 L (strOfNums (datR (byL b) 19 L.toNat)) (19 + 8 * L.toNat) w) := by
  have HBB := Lib.hid hb
  have HI := Lib.hid hI
  have HA1 := Lib.hid hA1
  have HW := Lib.hid hW
  have HL := Lib.hid hL
  have BI := Lib.hid (numAt_bd (b := byL b) (k := 1) (m := 11) (by decide))
  rw [hI] at BI
  have BA1 := Lib.hid (numAt_bd (b := byL b) (k := 12) (m := 1) (by decide))
  rw [hA1] at BA1
  have BW := Lib.hid (numAt_bd (b := byL b) (k := 13) (m := 1) (by decide))
  rw [hW] at BW
  have BL := Lib.hid (numAt_bd (b := byL b) (k := 15) (m := 4) (by decide))
  rw [hL] at BL
  clear hb hI hA1 hW hL
  go_enter Tryd.func43, Tryd.ntmps43
  go_wp2_with fail
  refine (reader_v b _).mono ?_
  rintro e w1 ⟨rfl, hb1, hr1, hz1⟩
  have hq := BoxF.made w 0 0 0 (ByteArray.mk #[])
  have HR := Lib.hid (R0.mk (w0 := w) (fbelow_a _ hb1) hr1 (hq.later hb1) (by simp) (Nat.le_refl _))
  clear hb1 hr1 hz1 hq
  unfold readV
  generalize hk : (w.alloc (Obj.cells #[Value.int IntKind.i64 0, Value.int IntKind.i64 0, Value.int IntKind.i64 0, Value.string (ByteArray.mk #[])] 23)).heap.size = k at HR ⊢
  have hk2 := Lib.hid hk
  clear hk
  go_wp2_with fail
  refine (take_v (b := b) (k := k) (p := 0) (m := 1) rfl rfl HBB.out (by decide) _ HR.out.rd).mono ?_
  rintro e v1 (⟨rfl, hsh, rfl⟩ | ⟨rfl, hlen, hu, hr⟩)
  · go_wp2
    exact ⟨rfl, .inl ⟨rfl, by omega, HR.out.below⟩⟩
  have HR1 := Lib.hid (HR.out.took hu hr)
  clear hu hr HR
  clear hlen
  go_wp2_with fail
  refine (take_v (b := b) (k := k) (p := 1) (m := 11) rfl HI.out HBB.out (by decide) _ HR1.out.rd).mono ?_
  rintro e v2 (⟨rfl, hsh, rfl⟩ | ⟨rfl, hlen, hu, hr⟩)
  · go_wp2
    exact ⟨rfl, .inl ⟨rfl, by omega, HR1.out.below⟩⟩
  have HR2 := Lib.hid (HR1.out.took hu hr)
  clear hu hr HR1
  have HS := Lib.hid (RS.made HR2.out I 0 0 (ByteArray.mk #[]))
  clear HR2 hlen
  have or1 : bits .or .i64 0 1 = 1 := by decide +kernel
  have or2 : bits .or .i64 0 2 = 2 := by decide +kernel
  have or3 : bits .or .i64 1 2 = 3 := by decide +kernel
  go_wp2_with fail
  refine (take_v (b := b) (k := k) (p := 12) (m := 1) rfl HA1.out HBB.out (by decide) _ HS.out.rd).mono ?_
  rintro e v3 (⟨rfl, hsh, rfl⟩ | ⟨rfl, hlen, hu, hr⟩)
  · go_wp2
    exact ⟨rfl, .inl ⟨rfl, by omega, HS.out.below⟩⟩
  have HR3 := Lib.hid (HS.out.took hu hr)
  clear hu hr HS
  clear hlen
  go_wp2_with fail
  refine (take_v (b := b) (k := k) (p := 13) (m := 1) rfl HW.out HBB.out (by decide) _ HR3.out.rd).mono ?_
  rintro e v4 (⟨rfl, hsh, rfl⟩ | ⟨rfl, hlen, hu, hr⟩)
  · go_wp2
    exact ⟨rfl, .inl ⟨rfl, by omega, HR3.out.below⟩⟩
  have HR4 := Lib.hid (HR3.out.took hu hr)
  clear hu hr HR3
  obtain ⟨c0, c1, c2, c3⟩ := HR4.out.box.cells
  have f0 := HR4.out.box.liveO 0
  have f1 := HR4.out.box.liveO 1
  have f2 := HR4.out.box.liveO 2
  have f3 := HR4.out.box.liveO 3
  clear hlen
  go_wp2_with fail
  refine (take_v (b := b) (k := k) (p := 14) (m := 1) rfl rfl HBB.out (by decide) _ HR4.out.rd).mono ?_
  rintro e v5 (⟨rfl, hsh, rfl⟩ | ⟨rfl, hlen, hu, hr⟩)
  · go_wp2
    exact ⟨rfl, .inl ⟨rfl, by omega, HR4.out.below⟩⟩
  have HR5 := Lib.hid (HR4.out.took hu hr)
  clear hu hr HR4 c0 c1 c2 c3 f0 f1 f2 f3
  clear hlen
  go_wp2_with fail
  refine (take_v (b := b) (k := k) (p := 15) (m := 4) rfl HL.out HBB.out (by decide) _ HR5.out.rd).mono ?_
  rintro e v6 (⟨rfl, hsh, rfl⟩ | ⟨rfl, hlen, hu, hr⟩)
  · go_wp2
    exact ⟨rfl, .inl ⟨rfl, by omega, HR5.out.below⟩⟩
  have HR6 := Lib.hid (HR5.out.took hu hr)
  clear hu hr HR5
  obtain ⟨c0, c1, c2, c3⟩ := HR6.out.box.cells
  have f0 := HR6.out.box.liveO 0
  have f1 := HR6.out.box.liveO 1
  have f2 := HR6.out.box.liveO 2
  have f3 := HR6.out.box.liveO 3
  have hL0 : 0 ≤ L := by rw [← HL.out]; exact numAt_nn (by rw [byL_len]; omega)
  clear hlen
  obtain ⟨z, rfl⟩ := Int.eq_ofNat_of_zero_le hL0
  have hzz : z ≤ 15 := by have := BL.out.2; omega
  have HQ := Lib.hid (HR6.out.set2 z)
  obtain ⟨q, hq⟩ : ∃ q, v6.heap.size = q := ⟨_, rfl⟩
  have HD := Lib.hid (DS.made HQ.out (q := q) (by rw [← hq]; simp [World.setCell]))
  clear HQ HR6
  obtain ⟨d0, d1, d2, d3⟩ := HD.out.rs.box.cells
  go_wp2_with fail
  go_loopw [50] (fun i wr => ∃ x : Nat, x ≤ z ∧ i = .int .i64 x ∧ Hid (DS b k (19 + 8 * x) w.heap.size v2.heap.size q I 0 z (datR (byL b) 19 x) w wr)) (fun i _ => z - (intOf i).toNat)
  case atStart => exact ⟨0, Nat.zero_le _, rfl, HD⟩
  case round =>
    clear c0 c1 c2 c3 f0 f1 f2 f3 d0 d1 d2 d3 HD
    obtain ⟨x, hx, rfl, HI⟩ := hrel
    by_cases hlt : x < z
    · obtain ⟨c, hc⟩ : ∃ c, numAt (byL b) (19 + 8 * x) 8 = c := ⟨_, rfl⟩
      have HC := Lib.hid hc
      have HT : Hid (datR (byL b) 19 (x + 1) = datR (byL b) 19 x ++ [c]) := Lib.hid (by rw [datR, hc])
      have hO := datR_len (byL b) 19 x
      have BC := (numAt_bd (b := byL b) (k := 19 + 8 * x) (m := 8) (by decide)).2
      rw [hc] at BC
      have hc1 : c < 256 := by simpa using BC
      clear hc BC
      generalize datR (byL b) 19 x = O at HI HT hO
      go_wp2_with fail
      refine (take_v (b := b) (k := k) (p := 19 + 8 * x) (m := 8) rfl HC.out HBB.out (by decide) _ HI.out.rs.rd).mono ?_
      rintro e y1 (⟨rfl, hsh, rfl⟩ | ⟨rfl, hlen, hu, hr⟩)
      · go_wp2
        exact ⟨rfl, .inl ⟨rfl, by rw [Int.toNat_natCast]; omega, HI.out.rs.below⟩⟩
      have hc0 : 0 ≤ c := by rw [← HC.out]; exact numAt_nn (by rw [byL_len]; exact hlen)
      have hp : 19 + 8 * x + 8 = 19 + 8 * (x + 1) := by omega
      rw [hp] at hr
      have HI2 := Lib.hid (HI.out.took hu hr)
      have hcc : c % 256 = c := by omega
      have HLN : Hid ((O.map (Value.int .u8)).length + 1 ≤ 140737488355328) := Lib.hid (by rw [List.length_map]; omega)
      clear hu hr hlen hp
      go_wp2_with fail
      refine (dwbyte_k q q _ c _ HI2.out.bld HLN.out HI2.out.le).mono ?_
      rintro e y2 ⟨rfl, hI, hb, -⟩
      have HI3 := Lib.hid (HI2.out.wrote (O' := O ++ [c]) (by rw [List.map_append]; exact hI) hb)
      clear hI hb
      go_wp2
      go_roundw
      case rel => exact ⟨x + 1, by omega, by go_num, by rw [HT.out]; exact HI3⟩
      case measure => simp [intOf]; omega
    · obtain rfl : x = z := by omega
      have HL2 : Hid (Lib.IsBuilderF 56 5 q q (Lib.byteCells (strOfNums (datR (byL b) 19 x)).data.toList) wr) := Lib.hid (by
        have h1 := HI.out.bld
        rw [bcells (datR_by (by rw [byL_len]; exact HI.out.rs.rd.1))] at h1
        exact h1)
      have hlen : 19 + 8 * x ≤ b.size := HI.out.rs.rd.1
      go_wp2_with fail
      refine (dstring_k _ _ _ _ HL2.out HI.out.le).mono ?_
      rintro e y3 ⟨rfl, _, hb, _⟩
      rw [str_list]
      have HS := Lib.hid (HI.out.told hb)
      clear hb HI HL2
      generalize hd : strOfNums (datR (byL b) 19 x) = d
      have HDD := Lib.hid hd
      clear hd
      obtain ⟨c0, c1, c2, c3⟩ := HS.out.box.cells
      have f0 := HS.out.box.liveO 0
      have f1 := HS.out.box.liveO 1
      have f2 := HS.out.box.liveO 2
      have f3 := HS.out.box.liveO 3

      obtain ⟨q0, q1, q2, q3⟩ := HS.out.res.cells
      have e0 := HS.out.res.liveO 0
      have e1 := HS.out.res.liveO 1
      have e2 := HS.out.res.liveO 2
      have e3 := HS.out.res.liveO 3
      have hne := HS.out.ne
      have hne2 := hne.symm
      go_wp2
      have HQ := Lib.hid (HS.out.set3 d)
      obtain ⟨r0, r1, r2, r3⟩ := (HQ.out.res.put (i' := I) (n' := 0) (l' := x) (d' := d)).cells
      exact bodyPost_ret (v := .agg #[.int .i64 I, .int .i64 0, .int .i64 x, .string d]) (by simp [results, Tryd.results43, go_sem, r0, r1, r2, r3]) rfl (.inr ⟨by rw [Int.toNat_natCast, HDD.out], by rw [Int.toNat_natCast]; exact hlen, HQ.out.put⟩)
end Go.Proofs.YtfooigckcjbegaaDoor

namespace Go.Proofs.YtfooigckcjbegaaDoor
open Go.RowKit
set_option linter.unusedVariables false

set_option maxHeartbeats 4000000 in
theorem kread_wr {b : ByteArray} {I A1 W I2 A L : Int} (hb : bitsB (byL b) = true) (hI : numAt (byL b) 1 11 = I) (hA1 : numAt (byL b) 12 1 = A1) (hW : numAt (byL b) 13 1 = W) (hI2 : numAt (byL b) 14 18 = I2) (hA : numAt (byL b) 32 1 = A) (hL : numAt (byL b) 35 4 = L) (hw : (W == 1) = true) (ha : (A == 1) = true) (w : World) :
    Calls Tryd.prog 43 #[.string b] w (ReadPost b (I * 262144 + I2) 3 L (ByteArray.mk #[]) (39) w) := by
  have HBB := Lib.hid hb
  have HI := Lib.hid hI
  have HA1 := Lib.hid hA1
  have HW := Lib.hid hW
  have HI2 := Lib.hid hI2
  have HA := Lib.hid hA
  have HL := Lib.hid hL
  have BI := Lib.hid (numAt_bd (b := byL b) (k := 1) (m := 11) (by decide))
  rw [hI] at BI
  have BA1 := Lib.hid (numAt_bd (b := byL b) (k := 12) (m := 1) (by decide))
  rw [hA1] at BA1
  have BW := Lib.hid (numAt_bd (b := byL b) (k := 13) (m := 1) (by decide))
  rw [hW] at BW
  have BI2 := Lib.hid (numAt_bd (b := byL b) (k := 14) (m := 18) (by decide))
  rw [hI2] at BI2
  have BA := Lib.hid (numAt_bd (b := byL b) (k := 32) (m := 1) (by decide))
  rw [hA] at BA
  have BL := Lib.hid (numAt_bd (b := byL b) (k := 35) (m := 4) (by decide))
  rw [hL] at BL
  clear hb hI hA1 hW hI2 hA hL
  go_enter Tryd.func43, Tryd.ntmps43
  go_wp2_with fail
  refine (reader_v b _).mono ?_
  rintro e w1 ⟨rfl, hb1, hr1, hz1⟩
  have hq := BoxF.made w 0 0 0 (ByteArray.mk #[])
  have HR := Lib.hid (R0.mk (w0 := w) (fbelow_a _ hb1) hr1 (hq.later hb1) (by simp) (Nat.le_refl _))
  clear hb1 hr1 hz1 hq
  unfold readV
  generalize hk : (w.alloc (Obj.cells #[Value.int IntKind.i64 0, Value.int IntKind.i64 0, Value.int IntKind.i64 0, Value.string (ByteArray.mk #[])] 23)).heap.size = k at HR ⊢
  have hk2 := Lib.hid hk
  clear hk
  go_wp2_with fail
  refine (take_v (b := b) (k := k) (p := 0) (m := 1) rfl rfl HBB.out (by decide) _ HR.out.rd).mono ?_
  rintro e v1 (⟨rfl, hsh, rfl⟩ | ⟨rfl, hlen, hu, hr⟩)
  · go_wp2
    exact ⟨rfl, .inl ⟨rfl, by omega, HR.out.below⟩⟩
  have HR1 := Lib.hid (HR.out.took hu hr)
  clear hu hr HR
  clear hlen
  go_wp2_with fail
  refine (take_v (b := b) (k := k) (p := 1) (m := 11) rfl HI.out HBB.out (by decide) _ HR1.out.rd).mono ?_
  rintro e v2 (⟨rfl, hsh, rfl⟩ | ⟨rfl, hlen, hu, hr⟩)
  · go_wp2
    exact ⟨rfl, .inl ⟨rfl, by omega, HR1.out.below⟩⟩
  have HR2 := Lib.hid (HR1.out.took hu hr)
  clear hu hr HR1
  have HS := Lib.hid (RS.made HR2.out I 0 0 (ByteArray.mk #[]))
  clear HR2 hlen
  have or1 : bits .or .i64 0 1 = 1 := by decide +kernel
  have or2 : bits .or .i64 0 2 = 2 := by decide +kernel
  have or3 : bits .or .i64 1 2 = 3 := by decide +kernel
  go_wp2_with fail
  refine (take_v (b := b) (k := k) (p := 12) (m := 1) rfl HA1.out HBB.out (by decide) _ HS.out.rd).mono ?_
  rintro e v3 (⟨rfl, hsh, rfl⟩ | ⟨rfl, hlen, hu, hr⟩)
  · go_wp2
    exact ⟨rfl, .inl ⟨rfl, by omega, HS.out.below⟩⟩
  have HR3 := Lib.hid (HS.out.took hu hr)
  clear hu hr HS
  clear hlen
  go_wp2_with fail
  refine (take_v (b := b) (k := k) (p := 13) (m := 1) rfl HW.out HBB.out (by decide) _ HR3.out.rd).mono ?_
  rintro e v4 (⟨rfl, hsh, rfl⟩ | ⟨rfl, hlen, hu, hr⟩)
  · go_wp2
    exact ⟨rfl, .inl ⟨rfl, by omega, HR3.out.below⟩⟩
  have HR4 := Lib.hid (HR3.out.took hu hr)
  clear hu hr HR3
  obtain ⟨c0, c1, c2, c3⟩ := HR4.out.box.cells
  have f0 := HR4.out.box.liveO 0
  have f1 := HR4.out.box.liveO 1
  have f2 := HR4.out.box.liveO 2
  have f3 := HR4.out.box.liveO 3
  clear hlen
  have hI0 : 0 ≤ I := by rw [← HI.out]; exact numAt_nn (by rw [byL_len]; have := HR4.out.rd.1; omega)
  have hI1 : I < 2048 := BI.out.2
  have HW1 := Lib.hid ((HR4.out.set1 1).drew)
  clear HR4
  go_wp2
  clear c0 c1 c2 c3 f0 f1 f2 f3
  obtain ⟨c0, c1, c2, c3⟩ := HW1.out.box.cells
  have f0 := HW1.out.box.liveO 0
  by_cases hlen : (b.size : Int) < (14 : Nat) + (18 : Int)
  · go_region_dies
    all_goals (go_at_call 72; refine (take_f (b := b) (k := k) (p := 14) hlen _ HW1.out.rd).mono ?_; rintro e v5 ⟨rfl, rfl⟩; exact ⟨rfl, .inl ⟨rfl, by omega, HW1.out.below⟩⟩)
  have hlen1 : 14 + 18 ≤ b.size := by omega
  have hJ0 : 0 ≤ I2 := by rw [← HI2.out]; exact numAt_nn (by rw [byL_len]; omega)
  have hwrap : IntKind.i64.wrap (I * 262144) = I * 262144 := by rw [IntKind.wrap_i64]; omega
  have hor : bits .or .i64 (I * 262144) I2 = I * 262144 + I2 := or_18 hI0 hI1 hJ0 BI2.out.2
  clear hlen
  go_region_with (go_at_call 72; refine (take_t (b := b) (k := k) (p := 14) (m := 18) HI2.out HBB.out (by decide) hlen1 _ HW1.out.rd).mono ?_; rintro e v5 ⟨rfl, hu, hr⟩; have HR5 := Lib.hid (HW1.out.took hu hr); clear hu hr c0 c1 c2 c3 f0; obtain ⟨c0, c1, c2, c3⟩ := HR5.out.box.cells; have f0 := HR5.out.box.liveO 0)
  all_goals (
    try rw [hwrap]
    try rw [hor]
    have HR5s := Lib.hid (HR5.out.set0 (I * 262144 + I2))
    clear HR5 c0 c1 c2 c3 f0 HW1 hwrap hor hJ0 hI0 hI1 hlen1 or1
    go_wp2_with fail
    refine (take_v (b := b) (k := k) (p := 32) (m := 1) rfl HA.out HBB.out (by decide) _ HR5s.out.rd).mono ?_
    rintro e v6 (⟨rfl, hsh, rfl⟩ | ⟨rfl, hlen, hu, hr⟩)
    · go_wp2
      exact ⟨rfl, .inl ⟨rfl, by omega, HR5s.out.below⟩⟩
    have HR6 := Lib.hid (HR5s.out.took hu hr)
    clear hu hr HR5s
    clear hlen
    go_wp2_with fail
    refine (take_v (b := b) (k := k) (p := 33) (m := 1) rfl rfl HBB.out (by decide) _ HR6.out.rd).mono ?_
    rintro e v7 (⟨rfl, hsh, rfl⟩ | ⟨rfl, hlen, hu, hr⟩)
    · go_wp2
      exact ⟨rfl, .inl ⟨rfl, by omega, HR6.out.below⟩⟩
    have HR7 := Lib.hid (HR6.out.took hu hr)
    clear hu hr HR6
    clear hlen
    go_wp2_with fail
    refine (take_v (b := b) (k := k) (p := 34) (m := 1) rfl rfl HBB.out (by decide) _ HR7.out.rd).mono ?_
    rintro e v8 (⟨rfl, hsh, rfl⟩ | ⟨rfl, hlen, hu, hr⟩)
    · go_wp2
      exact ⟨rfl, .inl ⟨rfl, by omega, HR7.out.below⟩⟩
    have HR8 := Lib.hid (HR7.out.took hu hr)
    clear hu hr HR7
    clear hlen
    go_wp2_with fail
    refine (take_v (b := b) (k := k) (p := 35) (m := 4) rfl HL.out HBB.out (by decide) _ HR8.out.rd).mono ?_
    rintro e v9 (⟨rfl, hsh, rfl⟩ | ⟨rfl, hlen, hu, hr⟩)
    · go_wp2
      exact ⟨rfl, .inl ⟨rfl, by omega, HR8.out.below⟩⟩
    have HR9 := Lib.hid (HR8.out.took hu hr)
    clear hu hr HR8
    obtain ⟨c0, c1, c2, c3⟩ := HR9.out.box.cells
    have f0 := HR9.out.box.liveO 0
    have f1 := HR9.out.box.liveO 1
    have f2 := HR9.out.box.liveO 2
    have f3 := HR9.out.box.liveO 3
    obtain ⟨q0, q1, q2, q3⟩ := HR9.out.res.cells
    have e0 := HR9.out.res.liveO 0
    have e1 := HR9.out.res.liveO 1
    have e2 := HR9.out.res.liveO 2
    have e3 := HR9.out.res.liveO 3
    have hne := HR9.out.ne
    have hne2 := hne.symm
    go_wp2
    have HQ := Lib.hid ((HR9.out.set2 L).set1 3)
    obtain ⟨r0, r1, r2, r3⟩ := (HQ.out.res.put (i' := (I * 262144 + I2)) (n' := 3) (l' := L) (d' := ByteArray.mk #[])).cells
    exact bodyPost_ret (v := .agg #[.int .i64 (I * 262144 + I2), .int .i64 3, .int .i64 L, .string (ByteArray.mk #[])]) (by simp [results, Tryd.results43, go_sem, r0, r1, r2, r3]) rfl (.inr ⟨rfl, hlen, HQ.out.put⟩))
end Go.Proofs.YtfooigckcjbegaaDoor

namespace Go.Proofs.YtfooigckcjbegaaDoor
open Go.RowKit
set_option linter.unusedVariables false

set_option maxHeartbeats 4000000 in
theorem kread_wd {b : ByteArray} {I A1 W I2 A L : Int} (hb : bitsB (byL b) = true) (hI : numAt (byL b) 1 11 = I) (hA1 : numAt (byL b) 12 1 = A1) (hW : numAt (byL b) 13 1 = W) (hI2 : numAt (byL b) 14 18 = I2) (hA : numAt (byL b) 32 1 = A) (hL : numAt (byL b) 35 4 = L) (hw : (W == 1) = true) (ha : (A == 1) = false) (w : World) :
    Calls Tryd.prog 43 #[.string b] w (ReadPost b (I * 262144 + I2) 1 L (strOfNums (datR (byL b) 39 L.toNat)) (39 + 8 * L.toNat) w) := by
  have HBB := Lib.hid hb
  have HI := Lib.hid hI
  have HA1 := Lib.hid hA1
  have HW := Lib.hid hW
  have HI2 := Lib.hid hI2
  have HA := Lib.hid hA
  have HL := Lib.hid hL
  have BI := Lib.hid (numAt_bd (b := byL b) (k := 1) (m := 11) (by decide))
  rw [hI] at BI
  have BA1 := Lib.hid (numAt_bd (b := byL b) (k := 12) (m := 1) (by decide))
  rw [hA1] at BA1
  have BW := Lib.hid (numAt_bd (b := byL b) (k := 13) (m := 1) (by decide))
  rw [hW] at BW
  have BI2 := Lib.hid (numAt_bd (b := byL b) (k := 14) (m := 18) (by decide))
  rw [hI2] at BI2
  have BA := Lib.hid (numAt_bd (b := byL b) (k := 32) (m := 1) (by decide))
  rw [hA] at BA
  have BL := Lib.hid (numAt_bd (b := byL b) (k := 35) (m := 4) (by decide))
  rw [hL] at BL
  clear hb hI hA1 hW hI2 hA hL
  go_enter Tryd.func43, Tryd.ntmps43
  go_wp2_with fail
  refine (reader_v b _).mono ?_
  rintro e w1 ⟨rfl, hb1, hr1, hz1⟩
  have hq := BoxF.made w 0 0 0 (ByteArray.mk #[])
  have HR := Lib.hid (R0.mk (w0 := w) (fbelow_a _ hb1) hr1 (hq.later hb1) (by simp) (Nat.le_refl _))
  clear hb1 hr1 hz1 hq
  unfold readV
  generalize hk : (w.alloc (Obj.cells #[Value.int IntKind.i64 0, Value.int IntKind.i64 0, Value.int IntKind.i64 0, Value.string (ByteArray.mk #[])] 23)).heap.size = k at HR ⊢
  have hk2 := Lib.hid hk
  clear hk
  go_wp2_with fail
  refine (take_v (b := b) (k := k) (p := 0) (m := 1) rfl rfl HBB.out (by decide) _ HR.out.rd).mono ?_
  rintro e v1 (⟨rfl, hsh, rfl⟩ | ⟨rfl, hlen, hu, hr⟩)
  · go_wp2
    exact ⟨rfl, .inl ⟨rfl, by omega, HR.out.below⟩⟩
  have HR1 := Lib.hid (HR.out.took hu hr)
  clear hu hr HR
  clear hlen
  go_wp2_with fail
  refine (take_v (b := b) (k := k) (p := 1) (m := 11) rfl HI.out HBB.out (by decide) _ HR1.out.rd).mono ?_
  rintro e v2 (⟨rfl, hsh, rfl⟩ | ⟨rfl, hlen, hu, hr⟩)
  · go_wp2
    exact ⟨rfl, .inl ⟨rfl, by omega, HR1.out.below⟩⟩
  have HR2 := Lib.hid (HR1.out.took hu hr)
  clear hu hr HR1
  have HS := Lib.hid (RS.made HR2.out I 0 0 (ByteArray.mk #[]))
  clear HR2 hlen
  have or1 : bits .or .i64 0 1 = 1 := by decide +kernel
  have or2 : bits .or .i64 0 2 = 2 := by decide +kernel
  have or3 : bits .or .i64 1 2 = 3 := by decide +kernel
  go_wp2_with fail
  refine (take_v (b := b) (k := k) (p := 12) (m := 1) rfl HA1.out HBB.out (by decide) _ HS.out.rd).mono ?_
  rintro e v3 (⟨rfl, hsh, rfl⟩ | ⟨rfl, hlen, hu, hr⟩)
  · go_wp2
    exact ⟨rfl, .inl ⟨rfl, by omega, HS.out.below⟩⟩
  have HR3 := Lib.hid (HS.out.took hu hr)
  clear hu hr HS
  clear hlen
  go_wp2_with fail
  refine (take_v (b := b) (k := k) (p := 13) (m := 1) rfl HW.out HBB.out (by decide) _ HR3.out.rd).mono ?_
  rintro e v4 (⟨rfl, hsh, rfl⟩ | ⟨rfl, hlen, hu, hr⟩)
  · go_wp2
    exact ⟨rfl, .inl ⟨rfl, by omega, HR3.out.below⟩⟩
  have HR4 := Lib.hid (HR3.out.took hu hr)
  clear hu hr HR3
  obtain ⟨c0, c1, c2, c3⟩ := HR4.out.box.cells
  have f0 := HR4.out.box.liveO 0
  have f1 := HR4.out.box.liveO 1
  have f2 := HR4.out.box.liveO 2
  have f3 := HR4.out.box.liveO 3
  clear hlen
  have hI0 : 0 ≤ I := by rw [← HI.out]; exact numAt_nn (by rw [byL_len]; have := HR4.out.rd.1; omega)
  have hI1 : I < 2048 := BI.out.2
  have HW1 := Lib.hid ((HR4.out.set1 1).drew)
  clear HR4
  go_wp2
  clear c0 c1 c2 c3 f0 f1 f2 f3
  obtain ⟨c0, c1, c2, c3⟩ := HW1.out.box.cells
  have f0 := HW1.out.box.liveO 0
  by_cases hlen : (b.size : Int) < (14 : Nat) + (18 : Int)
  · go_region_dies
    all_goals (go_at_call 72; refine (take_f (b := b) (k := k) (p := 14) hlen _ HW1.out.rd).mono ?_; rintro e v5 ⟨rfl, rfl⟩; exact ⟨rfl, .inl ⟨rfl, by omega, HW1.out.below⟩⟩)
  have hlen1 : 14 + 18 ≤ b.size := by omega
  have hJ0 : 0 ≤ I2 := by rw [← HI2.out]; exact numAt_nn (by rw [byL_len]; omega)
  have hwrap : IntKind.i64.wrap (I * 262144) = I * 262144 := by rw [IntKind.wrap_i64]; omega
  have hor : bits .or .i64 (I * 262144) I2 = I * 262144 + I2 := or_18 hI0 hI1 hJ0 BI2.out.2
  clear hlen
  go_region_with (go_at_call 72; refine (take_t (b := b) (k := k) (p := 14) (m := 18) HI2.out HBB.out (by decide) hlen1 _ HW1.out.rd).mono ?_; rintro e v5 ⟨rfl, hu, hr⟩; have HR5 := Lib.hid (HW1.out.took hu hr); clear hu hr c0 c1 c2 c3 f0; obtain ⟨c0, c1, c2, c3⟩ := HR5.out.box.cells; have f0 := HR5.out.box.liveO 0)
  all_goals (
    try rw [hwrap]
    try rw [hor]
    have HR5s := Lib.hid (HR5.out.set0 (I * 262144 + I2))
    clear HR5 c0 c1 c2 c3 f0 HW1 hwrap hor hJ0 hI0 hI1 hlen1 or1
    go_wp2_with fail
    refine (take_v (b := b) (k := k) (p := 32) (m := 1) rfl HA.out HBB.out (by decide) _ HR5s.out.rd).mono ?_
    rintro e v6 (⟨rfl, hsh, rfl⟩ | ⟨rfl, hlen, hu, hr⟩)
    · go_wp2
      exact ⟨rfl, .inl ⟨rfl, by omega, HR5s.out.below⟩⟩
    have HR6 := Lib.hid (HR5s.out.took hu hr)
    clear hu hr HR5s
    clear hlen
    go_wp2_with fail
    refine (take_v (b := b) (k := k) (p := 33) (m := 1) rfl rfl HBB.out (by decide) _ HR6.out.rd).mono ?_
    rintro e v7 (⟨rfl, hsh, rfl⟩ | ⟨rfl, hlen, hu, hr⟩)
    · go_wp2
      exact ⟨rfl, .inl ⟨rfl, by omega, HR6.out.below⟩⟩
    have HR7 := Lib.hid (HR6.out.took hu hr)
    clear hu hr HR6
    clear hlen
    go_wp2_with fail
    refine (take_v (b := b) (k := k) (p := 34) (m := 1) rfl rfl HBB.out (by decide) _ HR7.out.rd).mono ?_
    rintro e v8 (⟨rfl, hsh, rfl⟩ | ⟨rfl, hlen, hu, hr⟩)
    · go_wp2
      exact ⟨rfl, .inl ⟨rfl, by omega, HR7.out.below⟩⟩
    have HR8 := Lib.hid (HR7.out.took hu hr)
    clear hu hr HR7
    clear hlen
    go_wp2_with fail
    refine (take_v (b := b) (k := k) (p := 35) (m := 4) rfl HL.out HBB.out (by decide) _ HR8.out.rd).mono ?_
    rintro e v9 (⟨rfl, hsh, rfl⟩ | ⟨rfl, hlen, hu, hr⟩)
    · go_wp2
      exact ⟨rfl, .inl ⟨rfl, by omega, HR8.out.below⟩⟩
    have HR9 := Lib.hid (HR8.out.took hu hr)
    clear hu hr HR8
    obtain ⟨c0, c1, c2, c3⟩ := HR9.out.box.cells
    have f0 := HR9.out.box.liveO 0
    have f1 := HR9.out.box.liveO 1
    have f2 := HR9.out.box.liveO 2
    have f3 := HR9.out.box.liveO 3
    have hL0 : 0 ≤ L := by rw [← HL.out]; exact numAt_nn (by rw [byL_len]; omega)
    clear hlen
    obtain ⟨z, rfl⟩ := Int.eq_ofNat_of_zero_le hL0
    have hzz : z ≤ 15 := by have := BL.out.2; omega
    have HQ := Lib.hid (HR9.out.set2 z)
    obtain ⟨q, hq⟩ : ∃ q, v9.heap.size = q := ⟨_, rfl⟩
    have HD := Lib.hid (DS.made HQ.out (q := q) (by rw [← hq]; simp [World.setCell]))
    clear HQ HR9
    obtain ⟨d0, d1, d2, d3⟩ := HD.out.rs.box.cells
    go_wp2_with fail
    go_loopw [50] (fun i wr => ∃ x : Nat, x ≤ z ∧ i = .int .i64 x ∧ Hid (DS b k (39 + 8 * x) w.heap.size v2.heap.size q (I * 262144 + I2) 1 z (datR (byL b) 39 x) w wr)) (fun i _ => z - (intOf i).toNat)
    case atStart => exact ⟨0, Nat.zero_le _, rfl, HD⟩
    case round =>
      clear c0 c1 c2 c3 f0 f1 f2 f3 d0 d1 d2 d3 HD
      obtain ⟨x, hx, rfl, HI⟩ := hrel
      by_cases hlt : x < z
      · obtain ⟨c, hc⟩ : ∃ c, numAt (byL b) (39 + 8 * x) 8 = c := ⟨_, rfl⟩
        have HC := Lib.hid hc
        have HT : Hid (datR (byL b) 39 (x + 1) = datR (byL b) 39 x ++ [c]) := Lib.hid (by rw [datR, hc])
        have hO := datR_len (byL b) 39 x
        have BC := (numAt_bd (b := byL b) (k := 39 + 8 * x) (m := 8) (by decide)).2
        rw [hc] at BC
        have hc1 : c < 256 := by simpa using BC
        clear hc BC
        generalize datR (byL b) 39 x = O at HI HT hO
        go_wp2_with fail
        refine (take_v (b := b) (k := k) (p := 39 + 8 * x) (m := 8) rfl HC.out HBB.out (by decide) _ HI.out.rs.rd).mono ?_
        rintro e y1 (⟨rfl, hsh, rfl⟩ | ⟨rfl, hlen, hu, hr⟩)
        · go_wp2
          exact ⟨rfl, .inl ⟨rfl, by rw [Int.toNat_natCast]; omega, HI.out.rs.below⟩⟩
        have hc0 : 0 ≤ c := by rw [← HC.out]; exact numAt_nn (by rw [byL_len]; exact hlen)
        have hp : 39 + 8 * x + 8 = 39 + 8 * (x + 1) := by omega
        rw [hp] at hr
        have HI2 := Lib.hid (HI.out.took hu hr)
        have hcc : c % 256 = c := by omega
        have HLN : Hid ((O.map (Value.int .u8)).length + 1 ≤ 140737488355328) := Lib.hid (by rw [List.length_map]; omega)
        clear hu hr hlen hp
        go_wp2_with fail
        refine (dwbyte_k q q _ c _ HI2.out.bld HLN.out HI2.out.le).mono ?_
        rintro e y2 ⟨rfl, hI, hb, -⟩
        have HI3 := Lib.hid (HI2.out.wrote (O' := O ++ [c]) (by rw [List.map_append]; exact hI) hb)
        clear hI hb
        go_wp2
        go_roundw
        case rel => exact ⟨x + 1, by omega, by go_num, by rw [HT.out]; exact HI3⟩
        case measure => simp [intOf]; omega
      · obtain rfl : x = z := by omega
        have HL2 : Hid (Lib.IsBuilderF 56 5 q q (Lib.byteCells (strOfNums (datR (byL b) 39 x)).data.toList) wr) := Lib.hid (by
          have h1 := HI.out.bld
          rw [bcells (datR_by (by rw [byL_len]; exact HI.out.rs.rd.1))] at h1
          exact h1)
        have hlen : 39 + 8 * x ≤ b.size := HI.out.rs.rd.1
        go_wp2_with fail
        refine (dstring_k _ _ _ _ HL2.out HI.out.le).mono ?_
        rintro e y3 ⟨rfl, _, hb, _⟩
        rw [str_list]
        have HS := Lib.hid (HI.out.told hb)
        clear hb HI HL2
        generalize hd : strOfNums (datR (byL b) 39 x) = d
        have HDD := Lib.hid hd
        clear hd
        obtain ⟨c0, c1, c2, c3⟩ := HS.out.box.cells
        have f0 := HS.out.box.liveO 0
        have f1 := HS.out.box.liveO 1
        have f2 := HS.out.box.liveO 2
        have f3 := HS.out.box.liveO 3

        obtain ⟨q0, q1, q2, q3⟩ := HS.out.res.cells
        have e0 := HS.out.res.liveO 0
        have e1 := HS.out.res.liveO 1
        have e2 := HS.out.res.liveO 2
        have e3 := HS.out.res.liveO 3
        have hne := HS.out.ne
        have hne2 := hne.symm
        go_wp2
        have HQ := Lib.hid (HS.out.set3 d)
        obtain ⟨r0, r1, r2, r3⟩ := (HQ.out.res.put (i' := (I * 262144 + I2)) (n' := 1) (l' := x) (d' := d)).cells
        exact bodyPost_ret (v := .agg #[.int .i64 (I * 262144 + I2), .int .i64 1, .int .i64 x, .string d]) (by simp [results, Tryd.results43, go_sem, r0, r1, r2, r3]) rfl (.inr ⟨by rw [Int.toNat_natCast, HDD.out], by rw [Int.toNat_natCast]; exact hlen, HQ.out.put⟩))
end Go.Proofs.YtfooigckcjbegaaDoor

namespace Go.Proofs.YtfooigckcjbegaaDoor
open Go.RowKit
set_option linter.unusedVariables false

def ReadAny (w : World) (e : Ending) (w' : World) : Prop :=
  (e = .panicked [wrongE] ∧ Below w.heap.size w w') ∨ ∃ (i n l : Int) (d : ByteArray), e = .returned (.agg #[.int .i64 i, .int .i64 n, .int .i64 l, .string d]) ∧ 0 ≤ n ∧ n ≤ 3 ∧ Below w.heap.size w w'
theorem ReadPost.any {b : ByteArray} {i n l : Int} {d : ByteArray} {need : Nat} {w w' : World} {e : Ending} (h : ReadPost b i n l d need w e w') (h0 : 0 ≤ n) (h3 : n ≤ 3) : ReadAny w e w' := by
  rcases h with ⟨h1, _, h2⟩ | ⟨h1, _, h2⟩
  · exact .inl ⟨h1, h2⟩
  · exact .inr ⟨_, _, _, _, h1, h0, h3, h2⟩
theorem read_any {b : ByteArray} (hb : bitsB (byL b) = true) (w : World) : Calls Tryd.prog 43 #[.string b] w (ReadAny w) := by
  cases hw : (numAt (byL b) 13 1 == 1)
  · cases ha : (numAt (byL b) 12 1 == 1)
    · exact (kread_nd hb rfl rfl rfl rfl hw ha w).mono fun e w' h => h.any (by decide) (by decide)
    · exact (kread_nr hb rfl rfl rfl rfl hw ha w).mono fun e w' h => h.any (by decide) (by decide)
  · cases ha : (numAt (byL b) 32 1 == 1)
    · exact (kread_wd hb rfl rfl rfl rfl rfl rfl hw ha w).mono fun e w' h => h.any (by decide) (by decide)
    · exact (kread_wr hb rfl rfl rfl rfl rfl rfl hw ha w).mono fun e w' h => h.any (by decide) (by decide)
theorem flags_of {n : Int} (h0 : 0 ≤ n) (h4 : n < 4) : n = (if fE n then 1 else 0) + (if fR n then 2 else 0) := by
  unfold fE fR
  simp only [decide_eq_true_eq]
  split <;> split <;> omega
theorem no_bytes {d : ByteArray} (h : d.size = 0) : d = ByteArray.mk #[] := by
  have : byL d = [] := List.eq_nil_of_length_eq_zero (by rw [byL_len]; exact h)
  rw [← nums_byL d, this]
  rfl
theorem read_is {b d : ByteArray} {i n l : Int} {C : List Int} (hp : PlainP i n l d.size) (hb : byL b = headL i n l (byL d) ++ C) (hbb : bitsB (byL b) = true) (w : World) :
    Calls Tryd.prog 43 #[.string b] w fun e w' => e = .returned (.agg #[.int .i64 i, .int .i64 n, .int .i64 l, .string d]) ∧ Below w.heap.size w w' := by
  have hp2 : PlainP i n l (byL d).length := by rw [byL_len]; exact hp
  have hz : b.size = (if fE n then 39 else 19) + 8 * d.size + C.length := by rw [← byL_len b, hb, List.length_append, headL_len, byL_len]
  have hn := flags_of hp.n0 hp.n4
  have hl0 := hp.l0
  have hdat := datR_of (i := i) (n := n) (l := l) (C := C) (byL_by d) (x := (byL d).length) (Nat.le_refl _)
  rw [List.take_length] at hdat
  cases hE : fE n <;> cases hR : fR n <;> rw [hE, hR] at hn <;> rw [hE] at hz hdat <;> simp at hn hz hdat
  · obtain ⟨h1, h2, h3, h4⟩ := places_n (C := C) hp2 hE
    rw [← hb] at h1 h2 h3 h4 hdat
    rw [hR] at h2
    have hL := hp.dL hR
    refine (kread_nd hbb h1 h2 h3 h4 rfl rfl w).mono ?_
    rintro e w' (⟨_, h, _⟩ | ⟨h, _, hbw⟩)
    · omega
    · refine ⟨?_, hbw⟩
      rw [h, hn, show l.toNat = (byL d).length by rw [byL_len]; omega, hdat, nums_byL]
  · obtain ⟨h1, h2, h3, h4⟩ := places_n (C := C) hp2 hE
    rw [← hb] at h1 h2 h3 h4
    rw [hR] at h2
    have hD := no_bytes (hp.dR hR)
    refine (kread_nr hbb h1 h2 h3 h4 rfl rfl w).mono ?_
    rintro e w' (⟨_, h, _⟩ | ⟨h, _, hbw⟩)
    · omega
    · exact ⟨by rw [h, hn, hD], hbw⟩
  · obtain ⟨h1, h2, h3, h4, h5⟩ := places_w (C := C) hp2 hE
    rw [← hb] at h1 h2 h3 h4 h5 hdat
    rw [hR] at h4
    have hL := hp.dL hR
    refine (kread_wd (A1 := numAt (byL b) 12 1) hbb h1 rfl h2 h3 h4 h5 rfl rfl w).mono ?_
    rintro e w' (⟨_, h, _⟩ | ⟨h, _, hbw⟩)
    · omega
    · refine ⟨?_, hbw⟩
      rw [h, hn, show l.toNat = (byL d).length by rw [byL_len]; omega, hdat, nums_byL, show i / 262144 * 262144 + i % 262144 = i by omega]
  · obtain ⟨h1, h2, h3, h4, h5⟩ := places_w (C := C) hp2 hE
    rw [← hb] at h1 h2 h3 h4 h5
    rw [hR] at h4
    have hD := no_bytes (hp.dR hR)
    refine (kread_wr (A1 := numAt (byL b) 12 1) hbb h1 rfl h2 h3 h4 h5 rfl rfl w).mono ?_
    rintro e w' (⟨_, h, _⟩ | ⟨h, _, hbw⟩)
    · omega
    · exact ⟨by rw [h, hn, hD, show i / 262144 * 262144 + i % 262144 = i by omega], hbw⟩

/-! ### the end of a text -/
def trimS (s p : ByteArray) : ByteArray := if p.size ≤ s.size ∧ s.extract (s.size - p.size) s.size = p then s.extract 0 (s.size - p.size) else s
set_option maxHeartbeats 1000000 in
theorem trim_v {s p x : ByteArray} (h : trimS s p = x) (hs : s.size ≤ 1000000) (w : World) :
    Calls Tryd.prog 42 #[.string s, .string p] w fun e w' => e = .returned (.string x) ∧ w = w' := by
  have H := Lib.hid h
  clear h
  by_cases hl : s.size < p.size
  · have hd : ¬ (p.size : Int) ≤ (s.size : Int) := by omega
    have HX : Hid (s = x) := Lib.hid (by rw [← H.out]; unfold trimS; rw [if_neg (by omega)])
    clear hl H
    go_enter Tryd.func42, Tryd.ntmps42
    go_wp2
    go_ret
    exact ⟨fret_str HX.out, rfl⟩
  · have hd : (p.size : Int) ≤ (s.size : Int) := by omega
    obtain ⟨z, hz⟩ : ∃ z, s.size - p.size = z := ⟨_, rfl⟩
    have e1 : (s.size : Int) - (p.size : Int) = (z : Int) := by omega
    have e0 : wrap64 ((s.size : Int) - (p.size : Int)) = (z : Int) := by rw [e1]; unfold wrap64; omega
    have hzs : z ≤ s.size := by omega
    have k1 := fun w => cut_head hzs w
    have k2 := fun w => cut_tail hzs w
    obtain ⟨y, hy⟩ : ∃ y, s.extract z s.size = y := ⟨_, rfl⟩
    rw [hy] at k2
    have hq := seq_beq y p
    by_cases hyp : y = p
    · rw [decide_eq_true hyp] at hq
      have HX : Hid (s.extract 0 z = x) := Lib.hid (by rw [← H.out]; unfold trimS; rw [hz, hy, if_pos ⟨by omega, hyp⟩])
      generalize s.extract 0 z = v at k1 HX
      clear hyp hy H hl hz
      go_enter Tryd.func42, Tryd.ntmps42
      go_wp2
      go_ret
      exact ⟨fret_str HX.out, rfl⟩
    · rw [decide_eq_false hyp] at hq
      have HX : Hid (s = x) := Lib.hid (by rw [← H.out]; unfold trimS; rw [hz, hy, if_neg (fun h => hyp h.2)])
      clear hyp hy H hl hz k1
      go_enter Tryd.func42, Tryd.ntmps42
      go_wp2
      go_ret
      exact ⟨fret_str HX.out, rfl⟩
theorem trim_size (s p : ByteArray) : (trimS s p).size ≤ s.size := by
  unfold trimS
  split
  · rw [ByteArray.size_extract]; omega
  · exact Nat.le_refl _
def tailS : ByteArray := ByteArray.mk #[49, 48, 49, 49, 49, 49, 49, 49, 49, 49]
theorem tailS_by : byL tailS = tailL := by decide +kernel
theorem trim_tail {s : ByteArray} {A : List Int} (h : byL s = A ++ tailL) : byL (trimS s tailS) = A := by
  have hz : s.size = A.length + 10 := by rw [← byL_len, h, List.length_append]; rfl
  have hz2 : s.size - tailS.size = A.length := by rw [hz]; exact Nat.add_sub_cancel _ _
  have e : s.extract (s.size - tailS.size) s.size = tailS := by
    apply byL_inj
    rw [byL_extract, List.take_of_length_le (by rw [byL_len]; exact Nat.le_refl _), hz2, h, List.drop_left, tailS_by]
  unfold trimS
  rw [if_pos ⟨by rw [hz]; exact Nat.le_add_left _ _, e⟩, byL_extract, List.drop_zero, hz2, h, List.take_left]

/-! ### hear -/
theorem unA_bits : ∀ (L out : List Int) (p : Int × Nat) (i : Nat), bitsB out = true → bitsB (unA out p i L).1 = true
  | [], out, p, i, h => by
    simp only [unA]
    split
    · rfl
    · exact h
  | x :: L, out, p, i, h => by
    simp only [unA]
    split
    · rfl
    · rename_i hx
      split
      · split
        · rfl
        · exact unA_bits L out _ _ h
      · refine unA_bits L _ _ _ ?_
        rw [bitsB_app, h]
        cases hb : isBit x
        · exact absurd hb hx
        · unfold bitsB; simp [hb]
end Go.Proofs.YtfooigckcjbegaaDoor
