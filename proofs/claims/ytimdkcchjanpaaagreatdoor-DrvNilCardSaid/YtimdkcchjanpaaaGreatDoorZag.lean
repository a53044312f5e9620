/- Frame: contracts of Key, Less. Frame: alive. Frame: the walk of FrameRight. Frame: the contract of the document's Bits. Frame: the contracts of the document' .. -/
import Derived.Test.YtimdkcchjanpaaaGreatDoorZac
import Derived.OpenShut
import Derived.OwnWalk
import Derived.IntWalk
import Derived.Lib.OthersKept
import Derived.Test.YtimdkcchjanpaaaGreatDoorZaf
import Derived.Test.YtimdkcchjanpaaaGreatDoorZad
set_option maxHeartbeats 4000000
namespace Go.Proofs.YtimdkcchjanpaaaGreatDoor
open Go.RowKit
set_option linter.unusedVariables false
def keyV (i n l:Int) (sz:Nat):Int:=if okF i n l sz && !fX n then keyN i n else -1
theorem key_no {i n l:Int} {d:ByteArray} (h:(okF i n l d.size && !fX n) = false) (w:World) (hT:Tabs w) (hn1 : -9223372036854775808 ≤ n) (hn2:n ≤ 9223372036854775807) :
    Calls Tryz.prog 37 #[.agg #[.int .i64 i, .int .i64 n, .int .i64 l, .string d]] w fun e w' => e = .returned (.int .i64 (-1)) ∧ Below w.heap.size w w':=by
  have HT:=Lib.hid hT
  clear hT
  cases ho:okF i n l d.size
  · have H:=Lib.hid ho
    clear h ho
    go_enter Tryz.func37,Tryz.ntmps37
    go_wp2_with fail
    refine (right_f H.out _ (HT.out.alloc _) hn1 hn2).mono ?_
    rintro e w1 ⟨rfl,hb⟩
    go_wp2
    go_ret
    exact ⟨rfl,fbelow_a _ hb⟩
  · have H:=Lib.hid ho
    have hx:fX n = true:=by rw [ho] at h; simpa using h
    have a4:=and4_t hx
    clear h ho hx
    go_enter Tryz.func37,Tryz.ntmps37
    go_wp2_with fail
    refine (right_t H.out _ (HT.out.alloc _)).mono ?_
    rintro e w1 ⟨rfl,hb⟩
    obtain ⟨hc,hf⟩:=fbcell hb
    go_wp2
    go_ret
    exact ⟨rfl,fbelow_a _ hb⟩
theorem wraps_i64 (n:Int) (h₀:0 ≤ n) (h₁:n < 2 ^ 63):IntKind.i64.wrap n = n:=by rw [IntKind.wrap_i64]; omega
theorem or_join (x y:Int) (i:Nat) (hx₀:0 ≤ x) (hx:x % 2 ^ i = 0) (hx₁:x < 9223372036854775808) (hy₀:0 ≤ y) (hy:y < 2 ^ i) (hy₁:y < 9223372036854775808):bits .or .i64 x y = x + y :=
  bits_join .i64 63 (by decide) wraps_i64 i x y hx₀ hx (by omega) hy₀ hy (by omega)
theorem narrow_or (i R D:Int) (i0:0 ≤ i) (i1:i ≤ 2047) (r0:0 ≤ R) (r1:R ≤ 1) (d0:0 ≤ D) (d1:D ≤ 1) :
    bits .or .i64 (bits .or .i64 (i * 4194304) (R * 2097152)) D = i * 4194304 + R * 2097152 + D:=by
  rw [or_join (i * 4194304) (R * 2097152) 22 (by omega) (by omega) (by omega) (by omega) (by omega) (by omega)]
  exact or_join _ D 1 (by omega) (by omega) (by omega) d0 (by omega) (by omega)
theorem wide_or (a b R D:Int) (a0:0 ≤ a) (a1:a ≤ 2047) (b0:0 ≤ b) (b1:b < 262144) (r0:0 ≤ R) (r1:R ≤ 1) (d0:0 ≤ D) (d1:D ≤ 1) :
    bits .or .i64 (bits .or .i64 (bits .or .i64 (bits .or .i64 (a * 4194304) 3145728) (b * 4)) (R * 2)) D = a * 4194304 + 3145728 + b * 4 + R * 2 + D:=by
  rw [or_join (a * 4194304) 3145728 22 (by omega) (by omega) (by omega) (by omega) (by omega) (by omega)]
  rw [or_join (a * 4194304 + 3145728) (b * 4) 20 (by omega) (by omega) (by omega) (by omega) (by omega) (by omega)]
  rw [or_join (a * 4194304 + 3145728 + b * 4) (R * 2) 2 (by omega) (by omega) (by omega) (by omega) (by omega) (by omega)]
  exact or_join _ D 1 (by omega) (by omega) (by omega) d0 (by omega) (by omega)
theorem and18 (x:Int) (h0:0 ≤ x) (h1:x ≤ 536870911):bits .and .i64 x 262143 = x % 262144 :=
  bits_mask .i64 63 (by decide) wraps_i64 18 (by decide) x h0 (by omega)
theorem b01_bd (q:Bool):0 ≤ b01 q ∧ b01 q ≤ 1:=by cases q <;> decide
theorem one2_v {n R:Int} (h:b01 (fR n) = R) (w:World) :
    Calls Tryz.prog 76 #[.int .i64 n, .int .i64 2] w fun e w' => e = .returned (.int .i64 R) ∧ w' = w:=by rw [← h]; exact (one2_any n w).mono fun _ _ ⟨h1,h2⟩ => ⟨h1,h2.symm⟩
theorem one8_v {n R:Int} (h:b01 (fD n) = R) (w:World) :
    Calls Tryz.prog 76 #[.int .i64 n, .int .i64 8] w fun e w' => e = .returned (.int .i64 R) ∧ w' = w:=by rw [← h]; exact (one8_any n w).mono fun _ _ ⟨h1,h2⟩ => ⟨h1,h2.symm⟩
theorem key_n {i n l:Int} {d:ByteArray} (h:okF i n l d.size = true) (hx:fX n = false) (he:fE n = false) (w:World) (hT:Tabs w) :
    Calls Tryz.prog 37 #[.agg #[.int .i64 i, .int .i64 n, .int .i64 l, .string d]] w fun e w' => e = .returned (.int .i64 (i * 4194304 + b01 (fR n) * 2097152 + b01 (fD n))) ∧ Below w.heap.size w w':=by
  have HT:=Lib.hid hT
  have H:=Lib.hid h
  have g:=good h
  have i0:=g.i0
  have i1:i ≤ 2047:=by have:=g.i1; rw [topN_v he hx] at this; simpa using this
  have a4:=and4_f hx
  have a1:=and1_f he
  obtain ⟨R,hR⟩:∃ R,b01 (fR n) = R:=⟨_,rfl⟩
  obtain ⟨D,hD⟩:∃ D,b01 (fD n) = D:=⟨_,rfl⟩
  have r0:0 ≤ R:=by rw [← hR]; exact (b01_bd _).1
  have r1:R ≤ 1:=by rw [← hR]; exact (b01_bd _).2
  have d0:0 ≤ D:=by rw [← hD]; exact (b01_bd _).1
  have d1:D ≤ 1:=by rw [← hD]; exact (b01_bd _).2
  rw [hR,hD]
  have HR:=Lib.hid hR
  have HD:=Lib.hid hD
  clear hT h g hx he hR hD
  go_enter Tryz.func37,Tryz.ntmps37
  go_wp2_with fail
  refine (right_t H.out _ (HT.out.alloc _)).mono ?_
  rintro e w1 ⟨rfl,hb⟩
  obtain ⟨hc,hf⟩:=fbcell hb
  go_wp2_with fail
  refine wp_region_quiet_lit (by kernel_rfl) (by kernel_rfl) ?_
  repeat (go_big_quiet_step (fail))
  go_big_quiet_step (exact Calls.quiet_of_same (one2_v HR.out _))
  repeat (go_big_quiet_step (fail))
  go_big_quiet_step (exact Calls.quiet_of_same (one8_v HD.out _))
  repeat (go_big_quiet_step (fail))
  refine wpQuiet_nil ?_
  rintro _ ⟨nq,rfl⟩
  go_wp2
  go_ret
  exact ⟨fret_int (narrow_or i R D i0 i1 r0 r1 d0 d1),below_drewN (fbelow_a _ hb) _⟩
theorem key_w {i n l:Int} {d:ByteArray} (h:okF i n l d.size = true) (hx:fX n = false) (he:fE n = true) (w:World) (hT:Tabs w) :
    Calls Tryz.prog 37 #[.agg #[.int .i64 i, .int .i64 n, .int .i64 l, .string d]] w fun e w' => e = .returned (.int .i64 (i / 262144 * 4194304 + 3145728 + i % 262144 * 4 + b01 (fR n) * 2 + b01 (fD n))) ∧ Below w.heap.size w w':=by
  have HT:=Lib.hid hT
  have H:=Lib.hid h
  have g:=good h
  have i0:=g.i0
  have i1:=g.top
  have a18:=and18 i i0 i1
  have ia:0 ≤ i / 262144:=by omega
  have ib:i / 262144 ≤ 2047:=by omega
  have ic:0 ≤ i % 262144:=by omega
  have id:i % 262144 < 262144:=by omega
  have a4:=and4_f hx
  have a1:=and1_t he
  obtain ⟨R,hR⟩:∃ R,b01 (fR n) = R:=⟨_,rfl⟩
  obtain ⟨D,hD⟩:∃ D,b01 (fD n) = D:=⟨_,rfl⟩
  have r0:0 ≤ R:=by rw [← hR]; exact (b01_bd _).1
  have r1:R ≤ 1:=by rw [← hR]; exact (b01_bd _).2
  have d0:0 ≤ D:=by rw [← hD]; exact (b01_bd _).1
  have d1:D ≤ 1:=by rw [← hD]; exact (b01_bd _).2
  rw [hR,hD]
  have HR:=Lib.hid hR
  have HD:=Lib.hid hD
  clear hT h g hx he hR hD
  go_enter Tryz.func37,Tryz.ntmps37
  go_wp2_with fail
  refine (right_t H.out _ (HT.out.alloc _)).mono ?_
  rintro e w1 ⟨rfl,hb⟩
  obtain ⟨hc,hf⟩:=fbcell hb
  go_wp2_with fail
  refine wp_region_quiet_lit (by kernel_rfl) (by kernel_rfl) ?_
  repeat (go_big_quiet_step (fail))
  go_big_quiet_step (exact Calls.quiet_of_same (one2_v HR.out _))
  repeat (go_big_quiet_step (fail))
  go_big_quiet_step (exact Calls.quiet_of_same (one8_v HD.out _))
  repeat (go_big_quiet_step (fail))
  refine wpQuiet_nil ?_
  rintro _ ⟨nq,rfl⟩
  go_wp2_with fail
  go_quiet (fail)
  go_wp2
  go_ret
  exact ⟨fret_int (wide_or _ _ R D ia ib ic id r0 r1 d0 d1),below_drewN (fbelow_a _ hb) _⟩
theorem key_any {i n l:Int} {d:ByteArray} (w:World) (hT:Tabs w) (hn1 : -9223372036854775808 ≤ n) (hn2:n ≤ 9223372036854775807) :
    Calls Tryz.prog 37 #[.agg #[.int .i64 i, .int .i64 n, .int .i64 l, .string d]] w fun e w' => e = .returned (.int .i64 (keyV i n l d.size)) ∧ Below w.heap.size w w':=by
  unfold keyV
  cases h:(okF i n l d.size && !fX n)
  · exact key_no h w hT hn1 hn2
  · simp only [Bool.and_eq_true,Bool.not_eq_true'] at h
    unfold keyN
    cases he:fE n
    · exact key_n h.1 h.2 he w hT
    · exact key_w h.1 h.2 he w hT
theorem key_v {i n l v:Int} {d:ByteArray} (h:keyV i n l d.size = v) (w:World) (hT:Tabs w) (hn1 : -9223372036854775808 ≤ n) (hn2:n ≤ 9223372036854775807) :
    Calls Tryz.prog 37 #[.agg #[.int .i64 i, .int .i64 n, .int .i64 l, .string d]] w fun e w' => e = .returned (.int .i64 v) ∧ Below w.heap.size w w':=by
  rw [← h]; exact key_any w hT hn1 hn2
def lessB (a b:Int):Bool:=decide (0 ≤ a) && decide (a < b)
theorem less_v {i n l i' n' l' a b:Int} {d d':ByteArray} {q:Bool} (ha:keyV i n l d.size = a) (hb:keyV i' n' l' d'.size = b) (hq:lessB a b = q) (w:World) (hT:Tabs w)
    (hn1 : -9223372036854775808 ≤ n) (hn2:n ≤ 9223372036854775807) (hm1 : -9223372036854775808 ≤ n') (hm2:n' ≤ 9223372036854775807) :
    Calls Tryz.prog 168 #[.agg #[.int .i64 i, .int .i64 n, .int .i64 l, .string d], .agg #[.int .i64 i', .int .i64 n', .int .i64 l', .string d']] w fun e w' => e = .returned (.bool q) ∧ Below w.heap.size w w':=by
  have HT:=Lib.hid hT
  have HA:=Lib.hid ha
  have HB:=Lib.hid hb
  have HQ:=Lib.hid hq
  clear hT ha hb hq
  by_cases h0:0 ≤ a
  · go_enter Tryz.func168,Tryz.ntmps168
    go_wp2_with fail
    refine (key_v HA.out _ ((HT.out.alloc _).alloc _) hn1 hn2).mono ?_
    rintro e w1 ⟨rfl,hb1⟩
    obtain ⟨hc1,hf1⟩:=fbcell hb1
    go_wp2_with fail
    refine (key_v HB.out _ (((HT.out.alloc _).alloc _).below hb1) hm1 hm2).mono ?_
    rintro e w2 ⟨rfl,hb2⟩
    go_wp2
    go_ret
    exact ⟨fret_bool (by rw [← HQ.out]; unfold lessB; rw [decide_eq_true h0]; rfl),fbelow_t (fbelow_a _ (fbelow_a _ hb1)) hb2⟩
  · have t0:decide (0 ≤ a) = false:=by simp; omega
    go_enter Tryz.func168,Tryz.ntmps168
    go_wp2_with fail
    refine (key_v HA.out _ ((HT.out.alloc _).alloc _) hn1 hn2).mono ?_
    rintro e w1 ⟨rfl,hb1⟩
    go_wp2
    go_ret
    exact ⟨fret_bool (by rw [← HQ.out]; unfold lessB; rw [t0]; rfl),fbelow_a _ (fbelow_a _ hb1)⟩
end Go.Proofs.YtimdkcchjanpaaaGreatDoor
namespace Go.Proofs.YtimdkcchjanpaaaGreatDoor
open Go.RowKit
set_option linter.unusedVariables false
end Go.Proofs.YtimdkcchjanpaaaGreatDoor
namespace Go.Proofs.YtimdkcchjanpaaaGreatDoor
open Go.RowKit
set_option linter.unusedVariables false
theorem Later.tabs {W:World} (n:Later W) (h:Tabs W):Tabs n.w:=h.below n.h
end Go.Proofs.YtimdkcchjanpaaaGreatDoor
namespace Go.Proofs.YtimdkcchjanpaaaGreatDoor
open Go.RowKit
set_option linter.unusedVariables false
def hv (n:Int) (k:Nat):Int:=n / 2 ^ k
theorem hv_zero (n:Int):hv n 0 = n:=by unfold hv; simp
theorem hv_succ (n:Int) (k:Nat):hv n (k + 1) = hv n k / 2:=by
  unfold hv
  rw [Int.pow_succ,Int.ediv_ediv_of_nonneg (by exact Int.le_of_lt (Int.pow_pos (by decide)))]
theorem hv_bd {n:Int} (h:0 ≤ n) (k:Nat):0 ≤ hv n k ∧ hv n k ≤ n:=by
  unfold hv
  have hp:(0:Int) < 2 ^ k:=Int.pow_pos (by decide)
  exact ⟨Int.ediv_nonneg h (Int.le_of_lt hp),Int.ediv_le_self _ h⟩
def fbitB (n:Int) (m i:Nat):Bool:=decide (hv n (m - 1 - i) % 2 = 1)
def bitsL (n:Int) (m k:Nat):List Bool:=(List.range k).map (fbitB n m)
theorem bitsL_succ (n:Int) (m k:Nat):bitsL n m (k + 1) = bitsL n m k ++ [fbitB n m k]:=by unfold bitsL; rw [List.range_succ]; simp
theorem bitsL_len (n:Int) (m k:Nat):(bitsL n m k).length = k:=by simp [bitsL]
def boolRow (l:List Bool):List Value:=l.map Value.bool
theorem boolRow_app (a b:List Bool):boolRow (a ++ b) = boolRow a ++ boolRow b:=by simp [boolRow]
theorem info_bool:(Tryz.prog.info? 4).map (fun i => (i.zero,i.size,i.bytes)) = some (some (.bool false),1,1):=by kernel_rfl
theorem fnews_one (w:World) (v:Value) (t:TypeId):∀ j u, [v][j]? = some u → (w.alloc (.cells #[v] t)).cell? ((⟨w.heap.size,0,none⟩:Addr).add j) = some u:=by
  intro j u hj
  have:j = 0:=by
    rcases Nat.lt_or_ge j 1 with h | h
    · omega
    · rw [List.getElem?_eq_none (by simpa using h)] at hj; cases hj
  subst this
  simp only [List.getElem?_cons_zero,Option.some.injEq] at hj
  subst hj
  simp [Addr.add,World.cell?_alloc_at _ _ _ _ rfl]
theorem fnews_two (w:World) (v u:Value) (t:TypeId):∀ j x, [v,u][j]? = some x → (w.alloc (.cells #[v,u] t)).cell? ((⟨w.heap.size,0,none⟩:Addr).add j) = some x:=by
  intro j x hj
  rcases Nat.lt_or_ge j 2 with h | h
  · rcases (show j = 0 ∨ j = 1 by omega) with rfl | rfl
    · simp only [List.getElem?_cons_zero,Option.some.injEq] at hj
      subst hj
      simp [Addr.add,World.cell?_alloc_at _ _ _ _ rfl]
    · simp only [List.getElem?_cons_succ,List.getElem?_cons_zero,Option.some.injEq] at hj
      subst hj
      simp [Addr.add,World.cell?_alloc_at _ _ _ _ rfl]
  · rw [List.getElem?_eq_none (by simpa using h)] at hj; cases hj
def gath (B:Nat) (w:World) (v:Value) (l:List Bool) (wr:World):Prop :=
  wr.ownsRow B 4 1 v l.length (boolRow l) ∧ Below B w wr ∧ B ≤ wr.heap.size
def BitsPost (n:Int) (m:Nat) (w:World) (e:Ending) (w':World):Prop := ∃ v,e = .returned v ∧ gath w.heap.size w v (bitsL n m m) w'
def bitsRel (n:Int) (m:Nat) (w:World) (v i:Value) (wr:World):Prop := ∃ k:Nat,k ≤ m ∧ i = .int .i64 k ∧ gath w.heap.size w v (bitsL n m k) wr
def halfRel (n:Int) (q:Nat) (x k:Value):Prop := ∃ j:Nat,j ≤ q ∧ k = .int .i64 j ∧ x = .int .i64 (hv n j)
theorem gath_step {B:Nat} {w wr w1:World} {v v':Value} {l:List Bool} {b:Bool} {T:TypeId} (h:gath B w v l wr)
    (hown:w1.ownsRow B 4 1 v' (l.length + 1) (boolRow l ++ [.bool b])) (hgr:(wr.alloc (.cells #[.bool b] T)).grownBy w1 v.ownBlock):gath B w v' (l ++ [b]) w1:=by
  obtain ⟨h1,h2,h3⟩:=h
  refine ⟨by rw [List.length_append,boolRow_app]; exact hown,(h2.alloc h3 _).grown hgr (by simp; omega) ?_, ?_⟩
  · intro k hk
    rcases h1.2 with ⟨rfl,_⟩ | ⟨g,cap,cur,rfl,hg,_⟩
    · cases hk
    · cases hk; exact hg
  · have:=hgr.size; simp at this; omega
theorem rbits_any (n:Int) (m:Nat) (w:World) (h0:0 ≤ n) (h1:n ≤ 536870911) (hm:m ≤ 64) :
    Calls Tryz.prog 147 #[.int .i64 n, .int .i64 m] w (BitsPost n m w):=by
  obtain ⟨i0,hi,hz0,hz1,hz2⟩:=info_parts info_bool
  go_enter Tryz.func147,Tryz.ntmps147
  go_wp2
  go_loopw [5,6,7,8] (fun v i _ _ wr => bitsRel n m w v i wr) (fun _ i _ _ _ => m - (intOf i).toNat)
  case atStart => exact ⟨0,Nat.zero_le _,rfl,World.ownsRow_nil _ _ _ _,Below.refl _ _,Nat.le_refl _⟩
  case round =>
    obtain ⟨k,hk,rfl,hg⟩:=hrel
    by_cases hp:k < m
    · have HG:=Lib.hid hg
      clear hg
      obtain ⟨q,hq⟩:∃ q:Nat,q + 1 + k = m:=⟨m - 1 - k,by omega⟩
      have hq':(m:Int) - 1 - (k:Int) = (q:Int):=by omega
      have hbd:=fun j => hv_bd h0 j
      have HB:=Lib.hid hbd
      have hbb:(hv n q % 2 == 1) = fbitB n m k:=by
        unfold fbitB
        rw [show m - 1 - k = q by omega,Bool.eq_iff_iff]
        simp
      clear hbd
      go_wp2_with fail
      obtain ⟨wo,rfl⟩:∃ wo:World,wo = wr:=⟨_,rfl⟩
      go_loop [7,8] (fun x j => halfRel n q x j) (fun _ j => q - (intOf j).toNat)
      case atStart => exact ⟨0,Nat.zero_le _,rfl,by rw [hv_zero]⟩
      case round =>
        obtain ⟨j,hj,rfl,rfl⟩:=hrel
        have hb1:=(HB.out j).1
        have hb2:=(HB.out j).2
        by_cases hjq:j < q
        · go_wp2
          go_round
          case rel => exact ⟨j + 1,by omega,by go_num,by rw [hv_succ]⟩
          case measure => simp [intOf]; omega
        · obtain rfl:j = q:=by omega
          have C2:Hid (∀ u ∈ [Value.bool (fbitB n m k)],u.oneCell' = true):=Lib.hid (fun u hu => by simp at hu; subst hu; rfl)
          have C3:Hid ((bitsL n m k).length + 1 ≤ maxLen):=Lib.hid (by rw [bitsL_len]; unfold maxLen; omega)
          have C4:Hid (((bitsL n m k).length + 1) * 1 ≤ 140737488355328):=Lib.hid (by rw [bitsL_len]; omega)
          have C5:Hid (w.heap.size ≤ (wo.alloc (.cells #[.bool (fbitB n m k)] 4)).heap.size):=Lib.hid (by have:=HG.out.2.2; simp; omega)
          go_wp2_with (at_builtin; refine wpList_append_own _ rfl _ _ 33 rfl w.heap.size 4 i0 (.bool false) 1 1 Tryz.underlying33 hi hz0 hz1 hz2 rfl (by decide) _ (bitsL n m k).length (boolRow (bitsL n m k)) rfl (HG.out.1.alloc _) ⟨wo.heap.size,0,none⟩ 1 1 [.bool (fbitB n m k)] rfl rfl (fnews_one _ _ _) C2.out C3.out C4.out C5.out ?_)
          intro v' w1 hown hgr _
          have hst:=Lib.hid (gath_step HG.out hown hgr)
          clear hown hgr
          go_wp2
          go_roundw
          case rel => exact ⟨k + 1,by omega,by go_num,by rw [bitsL_succ]; exact hst.out⟩
          case measure => simp [intOf]; omega
    · obtain rfl:k = m:=by omega
      have HG:=Lib.hid hg
      clear hg
      go_wp2
      go_ret
      exact ⟨_,rfl,HG.out⟩
end Go.Proofs.YtimdkcchjanpaaaGreatDoor
namespace Go.Proofs.YtimdkcchjanpaaaGreatDoor
open Go.RowKit
set_option linter.unusedVariables false
theorem own_below {B:Nat} {e:TypeId} {s n:Nat} {v:Value} {xs:List Value} {w w1:World} (h:w.ownsRow B e s v n xs) (hb:Below w.heap.size w w1):w1.ownsRow B e s v n xs:=by
  refine ⟨h.1, ?_⟩
  rcases h.2 with h0 | ⟨g,cap,cur,hv,hg,hh,r⟩
  · exact .inl h0
  · exact .inr ⟨g,cap,cur,hv,hg,by rw [hb.block _ (lt_of_heap hh)]; exact hh,r⟩
theorem gath.nil {B:Nat} {w wr:World} (h:Below B w wr) (hB:B ≤ wr.heap.size):gath B w (.slice none 0 0) [] wr:=⟨World.ownsRow_nil _ _ _ _,h,hB⟩
theorem gath.below {B:Nat} {w wr w1:World} {v:Value} {l:List Bool} (h:gath B w v l wr) (hb:Below wr.heap.size wr w1):gath B w v l w1 :=
  ⟨own_below h.1 hb,h.2.1.trans (hb.mono h.2.2),Nat.le_trans h.2.2 hb.size⟩
theorem gath.alloc {B:Nat} {w wr:World} {v:Value} {l:List Bool} (h:gath B w v l wr) (o:Obj):gath B w v l (wr.alloc o):=h.below ((Below.refl _ _).alloc (Nat.le_refl _) o)
def rowAt (w:World) (g:Nat) (l:List Bool):Prop := ∀ j u,(boolRow l)[j]? = some u → w.cell? ((⟨g,0,none⟩:Addr).add j) = some u
theorem gath.row {B:Nat} {w wr:World} {v:Value} {l:List Bool} (h:gath B w v l wr) (hl:0 < l.length):∃ g cap,v = .slice (some ⟨g,0,none⟩) l.length cap ∧ rowAt wr g l:=by
  obtain ⟨h1,_,_⟩:=h
  rcases h1.2 with ⟨_,h0⟩ | ⟨g,cap,cur,hv,hg,hh,hc,hm,hs,ht⟩
  · omega
  · refine ⟨g,cap,hv,fun j u hj => ?_⟩
    have hjl:j < l.length:=by
      have:=(List.getElem?_eq_some_iff.1 hj).1
      simpa [boolRow] using this
    rw [← ht,List.getElem?_take_of_lt (by omega)] at hj
    have e:(⟨g,0,none⟩:Addr).add j = ⟨g,j,none⟩:=by unfold Addr.add; split <;> simp_all
    rw [e,cell_of_row _ _ _ _ _ _ hh]
    simpa using hj
theorem row_two (w:World) (a b:Bool) (t:TypeId):rowAt (w.alloc (.cells #[.bool a, .bool b] t)) w.heap.size [a,b]:=fnews_two w _ _ t
theorem row_one (w:World) (a:Bool) (t:TypeId):rowAt (w.alloc (.cells #[.bool a] t)) w.heap.size [a]:=fnews_one w _ t
theorem wpList_gath {ops:Array Oper} {rest:List Oper} {o:Oper} {a:Act} {Q:Exit → Act → World → Prop} {W:World} (hgd:o.guard = none) (s x:Operand)
    (ho:o.op = .call { callee := .builtin .append,args := #[s,x],argTypes := #[33,33] }) {B:Nat} {w:World} {v:Value} {l:List Bool} (hs:a.eval s = v) (hg:gath B w v l W)
    (g m c:Nat) (news:List Bool) (hx:a.eval x = .slice (some ⟨g,0,none⟩) m c) (hl:news.length = m) (hn:rowAt W g news) (hsz:l.length + m ≤ 1000)
    (h:∀ v' w',gath B w v' (l ++ news) w' → wpList Tryz.prog ops Q rest (a.put o.dst v') w'):wpList Tryz.prog ops Q (o :: rest) a W:=by
  obtain ⟨i0,hi,hz0,hz1,hz2⟩:=info_parts info_bool
  refine wpList_append_own _ hgd s x 33 ho B 4 i0 (.bool false) 1 1 Tryz.underlying33 hi hz0 hz1 hz2 rfl (by decide) v l.length (boolRow l) hs hg.1 ⟨g,0,none⟩ m c (boolRow news) hx (by simp [boolRow,hl]) hn (fun u hu => ?_) ?_ ?_ hg.2.2 ?_
  · unfold boolRow at hu
    obtain ⟨b,_,rfl⟩:=List.mem_map.1 hu
    rfl
  · unfold maxLen; omega
  · omega
  · intro v' w' hown hgr _
    refine h v' w' ⟨?_,hg.2.1.grown hgr hg.2.2 ?_,Nat.le_trans hg.2.2 hgr.size⟩
    · rw [List.length_append,hl,boolRow_app]; exact hown
    · intro k hk
      rcases hg.1.2 with ⟨rfl,_⟩ | ⟨g,cap,cur,rfl,hgg,_⟩
      · cases hk
      · cases hk; exact hgg
theorem rbits11 (n:Int) (w:World) (h0:0 ≤ n) (h1:n ≤ 536870911):Calls Tryz.prog 147 #[.int .i64 n, .int .i64 11] w (BitsPost n 11 w):=rbits_any n 11 w h0 h1 (by decide)
theorem rbits18 (n:Int) (w:World) (h0:0 ≤ n) (h1:n ≤ 536870911):Calls Tryz.prog 147 #[.int .i64 n, .int .i64 18] w (BitsPost n 18 w):=rbits_any n 18 w h0 h1 (by decide)
def KbPost (l:List Bool) (w:World) (e:Ending) (w':World):Prop := ∃ v,e = .returned v ∧ gath w.heap.size w v l w'
theorem gath.base {w w':World} {o:Obj} {v:Value} {l:List Bool} (h:gath (w.alloc o).heap.size (w.alloc o) v l w'):gath w.heap.size w v l w':=by
  obtain ⟨h1,h2,h3⟩:=h
  refine ⟨⟨h1.1, ?_⟩,fbelow_a _ h2,Nat.le_trans (by simp) h3⟩
  rcases h1.2 with h0 | ⟨g,cap,cur,hv,hg,r⟩
  · exact .inl h0
  · exact .inr ⟨g,cap,cur,hv,Nat.le_trans (by simp) hg,r⟩
theorem gath.fix {w w':World} {o:Obj} {v:Value} {l:List Bool} (h:gath (w.heap.size + 1) (w.alloc o) v l w'):gath (w.alloc o).heap.size (w.alloc o) v l w':=by rw [World.size_alloc]; exact h
def wideL (i:Int) (r dd:Bool):List Bool:=((((([] ++ bitsL (i / 262144) 11 11) ++ [true,true]) ++ bitsL (i % 262144) 18 18) ++ [r]) ++ [dd])
def narrowL (i:Int) (r dd:Bool) (k:Nat):List Bool:=((([] ++ bitsL i 11 11) ++ [r,false]) ++ List.replicate k false)
theorem kb_wide {i n l:Int} {d:ByteArray} {r dd:Bool} (i0:0 ≤ i) (i1:i ≤ 536870911) (n0:0 ≤ n) (n1:n ≤ 63) (he:fE n = true) (hr:fR n = r) (hd:fD n = dd) (w:World) :
    Calls Tryz.prog 127 #[.agg #[.int .i64 i, .int .i64 n, .int .i64 l, .string d]] w (KbPost (wideL i r dd) w):=by
  have He:=Lib.hid he
  have Hr:=Lib.hid hr
  have Hd:=Lib.hid hd
  have ia:0 ≤ i / 262144:=by omega
  have ib:i / 262144 ≤ 536870911:=by omega
  have ic:0 ≤ i % 262144:=by omega
  have id:i % 262144 ≤ 536870911:=by omega
  clear he hr hd
  have G0:=Lib.hid (gath.nil (B:=(w.alloc (.cells #[.int .i64 i, .int .i64 n, .int .i64 l, .string d] 35)).heap.size) (w:=w.alloc (.cells #[.int .i64 i, .int .i64 n, .int .i64 l, .string d] 35)) (wr:=w.alloc (.cells #[.int .i64 i, .int .i64 n, .int .i64 l, .string d] 35)) (Below.refl _ _) (Nat.le_refl _))
  go_enter Tryz.func127,Tryz.ntmps127
  go_wp2_with fail
  refine (has1 He.out n0 n1 _ _ _ _).mono ?_
  rintro e w1 ⟨rfl,hb1⟩
  have G1:=Lib.hid (G0.out.below hb1)
  obtain ⟨hc1,hf1⟩:=fbcell G1.out.2.1
  go_wp2_with fail
  refine (rbits11 _ _ ia ib).mono ?_
  rintro e w2 ⟨v2,rfl,hg2⟩
  obtain ⟨g2,cap2,rfl,hr2⟩:=hg2.row (by rw [bitsL_len]; decide)
  have R2:=Lib.hid hr2
  have G2:=Lib.hid (G1.out.below hg2.2.1)
  obtain ⟨hc2,hf2⟩:=fbcell G2.out.2.1
  clear hr2 hg2
  have L3:Hid ((bitsL (i / 262144) 11 11).length = 11):=Lib.hid (by rw [bitsL_len])
  have M3:Hid ((([]:List Bool)).length + 11 ≤ 1000):=Lib.hid (by simp [])
  go_wp2_with (at_builtin; refine wpList_gath rfl _ _ rfl rfl (G2.out) g2 11 _ (bitsL (i / 262144) 11 11) rfl L3.out R2.out M3.out ?_)
  intro v3 w3 hg3
  have G3:=Lib.hid (gath.fix hg3)
  clear hg3
  obtain ⟨hc3,hf3⟩:=fbcell G3.out.2.1
  have L4:Hid (([true,true]).length = 2):=Lib.hid (by rfl)
  have M4:Hid (([] ++ bitsL (i / 262144) 11 11).length + 2 ≤ 1000):=Lib.hid (by simp [bitsL_len])
  go_wp2_with (at_builtin; refine wpList_gath rfl _ _ rfl rfl (G3.out.alloc _) w3.heap.size 2 _ ([true,true]) rfl L4.out (row_two _ _ _ _) M4.out ?_)
  intro v4 w4 hg4
  have G4:=Lib.hid (gath.fix hg4)
  clear hg4
  obtain ⟨hc4,hf4⟩:=fbcell G4.out.2.1
  go_wp2_with fail
  refine (rbits18 _ _ ic id).mono ?_
  rintro e w5 ⟨v5,rfl,hg5⟩
  obtain ⟨g5,cap5,rfl,hr5⟩:=hg5.row (by rw [bitsL_len]; decide)
  have R5:=Lib.hid hr5
  have G5:=Lib.hid (G4.out.below hg5.2.1)
  obtain ⟨hc5,hf5⟩:=fbcell G5.out.2.1
  clear hr5 hg5
  have L6:Hid ((bitsL (i % 262144) 18 18).length = 18):=Lib.hid (by rw [bitsL_len])
  have M6:Hid ((([] ++ bitsL (i / 262144) 11 11) ++ [true,true]).length + 18 ≤ 1000):=Lib.hid (by simp [bitsL_len])
  go_wp2_with (at_builtin; refine wpList_gath rfl _ _ rfl rfl (G5.out) g5 18 _ (bitsL (i % 262144) 18 18) rfl L6.out R5.out M6.out ?_)
  intro v6 w6 hg6
  have G6:=Lib.hid (gath.fix hg6)
  clear hg6
  obtain ⟨hc6,hf6⟩:=fbcell G6.out.2.1
  go_wp2_with fail
  refine (has2 Hr.out n0 n1 _ _ _ _).mono ?_
  rintro e w7 ⟨rfl,hb7⟩
  have G7:=Lib.hid (G6.out.below hb7)
  obtain ⟨hc7,hf7⟩:=fbcell G7.out.2.1
  have L8:Hid (([r]).length = 1):=Lib.hid (by rfl)
  have M8:Hid (((([] ++ bitsL (i / 262144) 11 11) ++ [true,true]) ++ bitsL (i % 262144) 18 18).length + 1 ≤ 1000):=Lib.hid (by simp [bitsL_len])
  go_wp2_with (at_builtin; refine wpList_gath rfl _ _ rfl rfl (G7.out.alloc _) w7.heap.size 1 _ ([r]) rfl L8.out (row_one _ _ _) M8.out ?_)
  intro v8 w8 hg8
  have G8:=Lib.hid (gath.fix hg8)
  clear hg8
  obtain ⟨hc8,hf8⟩:=fbcell G8.out.2.1
  go_wp2_with fail
  refine (has8 Hd.out n0 n1 _ _ _ _).mono ?_
  rintro e w9 ⟨rfl,hb9⟩
  have G9:=Lib.hid (G8.out.below hb9)
  obtain ⟨hc9,hf9⟩:=fbcell G9.out.2.1
  have L10:Hid (([dd]).length = 1):=Lib.hid (by rfl)
  have M10:Hid ((((([] ++ bitsL (i / 262144) 11 11) ++ [true,true]) ++ bitsL (i % 262144) 18 18) ++ [r]).length + 1 ≤ 1000):=Lib.hid (by simp [bitsL_len])
  go_wp2_with (at_builtin; refine wpList_gath rfl _ _ rfl rfl (G9.out.alloc _) w9.heap.size 1 _ ([dd]) rfl L10.out (row_one _ _ _) M10.out ?_)
  intro v10 w10 hg10
  have G10:=Lib.hid (gath.fix hg10)
  clear hg10
  obtain ⟨hc10,hf10⟩:=fbcell G10.out.2.1
  go_wp2
  go_ret
  exact ⟨_,rfl,G10.out.base⟩
end Go.Proofs.YtimdkcchjanpaaaGreatDoor
namespace Go.Proofs.YtimdkcchjanpaaaGreatDoor
open Go.RowKit
set_option linter.unusedVariables false
theorem narrowL_len (i:Int) (r dd:Bool) (k:Nat):(narrowL i r dd k).length = 13 + k:=by simp [narrowL,bitsL_len]; omega
theorem narrowL_succ (i:Int) (r dd:Bool) (k:Nat):narrowL i r dd (k + 1) = narrowL i r dd k ++ [false]:=by
  unfold narrowL; rw [List.replicate_succ']; simp
def narRel (W:World) (i:Int) (r dd:Bool) (v j:Value) (wr:World):Prop := ∃ k:Nat,k ≤ 19 ∧ j = .int .i64 k ∧ gath W.heap.size W v (narrowL i r dd k) wr
theorem kb_narrow {i n l:Int} {d:ByteArray} {r dd:Bool} (i0:0 ≤ i) (i1:i ≤ 536870911) (n0:0 ≤ n) (n1:n ≤ 63) (he:fE n = false) (hr:fR n = r) (hd:fD n = dd) (w:World) :
    Calls Tryz.prog 127 #[.agg #[.int .i64 i, .int .i64 n, .int .i64 l, .string d]] w (KbPost (narrowL i r dd 19 ++ [dd]) w):=by
  have He:=Lib.hid he
  have Hr:=Lib.hid hr
  have Hd:=Lib.hid hd
  clear he hr hd
  have G0:=Lib.hid (gath.nil (B:=(w.alloc (.cells #[.int .i64 i, .int .i64 n, .int .i64 l, .string d] 35)).heap.size) (w:=w.alloc (.cells #[.int .i64 i, .int .i64 n, .int .i64 l, .string d] 35)) (wr:=w.alloc (.cells #[.int .i64 i, .int .i64 n, .int .i64 l, .string d] 35)) (Below.refl _ _) (Nat.le_refl _))
  go_enter Tryz.func127,Tryz.ntmps127
  go_wp2_with fail
  refine (has1 He.out n0 n1 _ _ _ _).mono ?_
  rintro e w1 ⟨rfl,hb1⟩
  have G1:=Lib.hid (G0.out.below hb1)
  obtain ⟨hc1,hf1⟩:=fbcell G1.out.2.1
  go_wp2_with fail
  refine (rbits11 _ _ i0 i1).mono ?_
  rintro e w2 ⟨v2,rfl,hg2⟩
  obtain ⟨g2,cap2,rfl,hr2⟩:=hg2.row (by rw [bitsL_len]; decide)
  have R2:=Lib.hid hr2
  have G2:=Lib.hid (G1.out.below hg2.2.1)
  obtain ⟨hc2,hf2⟩:=fbcell G2.out.2.1
  clear hr2 hg2
  have L3:Hid ((bitsL i 11 11).length = 11):=Lib.hid (by rw [bitsL_len])
  have M3:Hid ((([]:List Bool)).length + 11 ≤ 1000):=Lib.hid (by simp [])
  go_wp2_with (at_builtin; refine wpList_gath rfl _ _ rfl rfl (G2.out) g2 11 _ (bitsL i 11 11) rfl L3.out R2.out M3.out ?_)
  intro v3 w3 hg3
  have G3:=Lib.hid (gath.fix hg3)
  clear hg3
  obtain ⟨hc3,hf3⟩:=fbcell G3.out.2.1
  go_wp2_with fail
  refine (has2 Hr.out n0 n1 _ _ _ _).mono ?_
  rintro e w4 ⟨rfl,hb4⟩
  have G4:=Lib.hid (G3.out.below hb4)
  obtain ⟨hc4,hf4⟩:=fbcell G4.out.2.1
  have L5:Hid (([r,false]).length = 2):=Lib.hid (by rfl)
  have M5:Hid (([] ++ bitsL i 11 11).length + 2 ≤ 1000):=Lib.hid (by simp [bitsL_len])
  go_wp2_with (at_builtin; refine wpList_gath rfl _ _ rfl rfl (G4.out.alloc _) w4.heap.size 2 _ ([r,false]) rfl L5.out (row_two _ _ _ _) M5.out ?_)
  intro v5 w5 hg5
  have G5:=Lib.hid (gath.fix hg5)
  clear hg5
  obtain ⟨hc5,hf5⟩:=fbcell G5.out.2.1
  have G6:Hid (gath (w.alloc (.cells #[.int .i64 i, .int .i64 n, .int .i64 l, .string d] 35)).heap.size (w.alloc (.cells #[.int .i64 i, .int .i64 n, .int .i64 l, .string d] 35)) v5 (narrowL i r dd 0) w5):=Lib.hid (by unfold narrowL; simpa using G5.out)
  clear hc1 hf1 hc2 hf2 hc3 hf3 hc4 hf4
  go_wp2_with fail
  go_loopw [3,4] (fun v j wr => narRel (w.alloc (.cells #[.int .i64 i, .int .i64 n, .int .i64 l, .string d] 35)) i r dd v j wr) (fun _ j _ => 19 - (intOf j).toNat)
  case atStart => exact ⟨0,by omega,rfl,G6.out⟩
  case round =>
    obtain ⟨k,hk,rfl,hgk⟩:=hrel
    have GK:=Lib.hid hgk
    have LK:=Lib.hid (narrowL_len i r dd k)
    obtain ⟨hck,hfk⟩:=fbcell hgk.2.1
    clear hgk
    by_cases hp:k < 19
    · have M:Hid ((narrowL i r dd k).length + 1 ≤ 1000):=Lib.hid (by rw [LK.out]; omega)
      go_wp2_with (at_builtin; refine wpList_gath rfl _ _ rfl rfl (GK.out.alloc _) wr.heap.size 1 _ [false] rfl rfl (row_one _ _ _) M.out ?_)
      intro v' w' hg'
      have G':=Lib.hid (gath.fix hg')
      clear hg'
      go_wp2
      go_roundw
      case rel => exact ⟨k + 1,by omega,by go_num,by rw [narrowL_succ]; exact G'.out⟩
      case measure => simp [intOf]; omega
    · obtain rfl:k = 19:=by omega
      go_wp2_with fail
      refine (has8 Hd.out n0 n1 _ _ _ _).mono ?_
      rintro e w7 ⟨rfl,hb7⟩
      have G7:=Lib.hid (GK.out.below hb7)
      have M:Hid ((narrowL i r dd 19).length + 1 ≤ 1000):=Lib.hid (by rw [LK.out]; omega)
      go_wp2_with (at_builtin; refine wpList_gath rfl _ _ rfl rfl (G7.out.alloc _) w7.heap.size 1 _ [dd] rfl rfl (row_one _ _ _) M.out ?_)
      intro v' w' hg'
      have G':=Lib.hid (gath.fix hg')
      clear hg'
      go_wp2
      go_ret
      exact ⟨_,rfl,G'.out.base⟩
def valL (l:List Bool):Int:=l.foldl (fun a b => 2 * a + b01 b) 0
theorem valL_snoc (l:List Bool) (b:Bool):valL (l ++ [b]) = 2 * valL l + b01 b:=by unfold valL; rw [List.foldl_append]; rfl
theorem snoc_ind {P:List Bool → Prop} (h0:P []) (h1:∀ l b,P l → P (l ++ [b])) (l:List Bool):P l:=by
  rw [← List.reverse_reverse l]
  induction l.reverse with
  | nil => exact h0
  | cons a t ih => rw [List.reverse_cons]; exact h1 _ _ ih
theorem valL_bd (l:List Bool):0 ≤ valL l ∧ valL l < 2 ^ l.length:=by
  refine snoc_ind (P:=fun l => 0 ≤ valL l ∧ valL l < 2 ^ l.length) (by simp [valL]) (fun l b ih => ?_) l
  · show 0 ≤ valL (l ++ [b]) ∧ valL (l ++ [b]) < 2 ^ (l ++ [b]).length
    rw [valL_snoc,List.length_append]
    have:=b01_bd b
    have e:(2:Int) ^ (l.length + [b].length) = 2 * 2 ^ l.length:=by rw [List.length_singleton,Int.pow_succ]; omega
    omega
theorem valL_app (a b:List Bool):valL (a ++ b) = valL a * 2 ^ b.length + valL b:=by
  refine snoc_ind (P:=fun b => valL (a ++ b) = valL a * 2 ^ b.length + valL b) (by simp [valL]) (fun l x ih => ?_) b
  · show valL (a ++ (l ++ [x])) = valL a * 2 ^ (l ++ [x]).length + valL (l ++ [x])
    rw [← List.append_assoc,valL_snoc,valL_snoc,ih,List.length_append]
    have e:(2:Int) ^ (l.length + [x].length) = 2 * 2 ^ l.length:=by rw [List.length_singleton,Int.pow_succ]; omega
    rw [e,Int.mul_add]
    have e2:2 * (valL a * 2 ^ l.length) = valL a * (2 * 2 ^ l.length):=by rw [← Int.mul_assoc,← Int.mul_assoc,Int.mul_comm 2 (valL a)]
    omega
theorem valL_bits (n:Int) (h0:0 ≤ n) (m:Nat):∀ k,k ≤ m → valL (bitsL n m k) = hv n (m - k) % 2 ^ k
  | 0,_ => by simp [bitsL,valL]
  | k + 1,hk => by
    have ih:=valL_bits n h0 m k (by omega)
    rw [bitsL_succ,valL_snoc,ih]
    have e1:m - k = (m - (k + 1)) + 1:=by omega
    rw [e1,hv_succ]
    unfold fbitB
    rw [show m - 1 - k = m - (k + 1) by omega]
    generalize hv n (m - (k + 1)) = x
    have e:(2:Int) ^ (k + 1) = 2 ^ k * 2:=Int.pow_succ _ _
    have hp:(0:Int) < 2 ^ k:=Int.pow_pos (by decide)
    rw [e]
    have hx:x % 2 = 0 ∨ x % 2 = 1:=by omega
    have hdm:x = 2 * (x / 2) + x % 2:=by omega
    have h3:x % (2 ^ k * 2) = 2 * (x / 2 % 2 ^ k) + x % 2:=by
      have hq:=Int.mul_ediv_add_emod (x / 2) (2 ^ k)
      have hr0:=Int.emod_nonneg (x / 2) (Int.ne_of_gt hp)
      have hr1:=Int.emod_lt_of_pos (x / 2) hp
      have h4:x = (2 * (x / 2 % 2 ^ k) + x % 2) + (2 ^ k * 2) * (x / 2 / 2 ^ k):=by
        have h5:(2 ^ k * 2) * (x / 2 / 2 ^ k) = 2 * (2 ^ k * (x / 2 / 2 ^ k)):=by rw [Int.mul_comm (2 ^ k) 2,Int.mul_assoc]
        omega
      have h6:x % (2 ^ k * 2) = ((2 * (x / 2 % 2 ^ k) + x % 2) + (2 ^ k * 2) * (x / 2 / 2 ^ k)) % (2 ^ k * 2):=congrArg (· % (2 ^ k * 2)) h4
      rw [h6,Int.add_mul_emod_self_left]
      exact Int.emod_eq_of_lt (by omega) (by omega)
    rw [h3]
    rcases hx with h | h <;> simp [h,b01]
end Go.Proofs.YtimdkcchjanpaaaGreatDoor
namespace Go.Proofs.YtimdkcchjanpaaaGreatDoor
open Go.RowKit
set_option linter.unusedVariables false
theorem valL_whole {n:Int} (h0:0 ≤ n) (m:Nat) (h1:n < 2 ^ m):valL (bitsL n m m) = n:=by
  rw [valL_bits n h0 m m (Nat.le_refl _),Nat.sub_self,hv_zero]
  exact Int.emod_eq_of_lt h0 h1
theorem valL_two (a b:Bool):valL [a,b] = 2 * b01 a + b01 b:=by cases a <;> cases b <;> decide
theorem valL_one (a:Bool):valL [a] = b01 a:=by cases a <;> decide
theorem valL_zeros:∀ k:Nat,valL (List.replicate k false) = 0
  | 0 => rfl
  | k + 1 => by rw [List.replicate_succ',valL_snoc,valL_zeros k]; rfl
theorem valL_wide {i:Int} (i0:0 ≤ i) (i1:i ≤ 536870911) (r dd:Bool):valL (wideL i r dd) = i / 262144 * 4194304 + 3145728 + i % 262144 * 4 + b01 r * 2 + b01 dd:=by
  unfold wideL
  rw [valL_app,valL_app,valL_app,valL_app,valL_app,valL_whole (by omega) 11 (by omega),valL_whole (by omega) 18 (by omega),valL_two,valL_one,valL_one]
  simp [valL,b01,bitsL_len]
  omega
theorem valL_narrow {i:Int} (i0:0 ≤ i) (i1:i ≤ 2047) (r dd:Bool):valL (narrowL i r dd 19 ++ [dd]) = i * 4194304 + b01 r * 2097152 + b01 dd:=by
  unfold narrowL
  rw [valL_app,valL_app,valL_app,valL_app,valL_zeros,valL_whole i0 11 (by omega),valL_two,valL_one,List.length_replicate]
  simp [valL,b01]
  omega
theorem wideL_len (i:Int) (r dd:Bool):(wideL i r dd).length = 33:=by simp [wideL,bitsL_len]
theorem narrowL_len2 (i:Int) (r dd:Bool):(narrowL i r dd 19 ++ [dd]).length = 33:=by simp [narrowL_len]
theorem rowAt.cell {w:World} {g:Nat} {l:List Bool} (h:rowAt w g l) (k:Nat) (hk:k < l.length):w.cell? ⟨g,k,none⟩ = some (.bool l[k]):=by
  have:=h k (.bool l[k]) (by simp [boolRow,hk])
  have e:(⟨g,0,none⟩:Addr).add k = ⟨g,k,none⟩:=by unfold Addr.add; split <;> simp_all
  rwa [e] at this
theorem valL_take {l:List Bool} {k:Nat} (hk:k < l.length):valL (l.take (k + 1)) = 2 * valL (l.take k) + b01 l[k]:=by
  rw [List.take_succ_eq_append_getElem hk,valL_snoc]
theorem valL_take_bd {l:List Bool} {k:Nat} (h33:l.length = 33):0 ≤ valL (l.take k) ∧ valL (l.take k) ≤ 8589934592:=by
  have h:=valL_bd (l.take k)
  have h2:(2:Int) ^ (l.take k).length ≤ 2 ^ 33:=by
    have h3:2 ^ (l.take k).length ≤ 2 ^ 33:=Nat.pow_le_pow_right (by decide) (by rw [List.length_take]; omega)
    exact_mod_cast h3
  omega
def keyRel (L:List Bool) (a i:Value):Prop := ∃ k:Nat,k ≤ 33 ∧ i = .int .i64 k ∧ a = .int .i64 (valL (L.take k))
theorem rkey_no {i n l:Int} {d:ByteArray} (h:(okF i n l d.size && !fX n) = false) (w:World) :
    Calls Tryz.prog 84 #[.agg #[.int .i64 i, .int .i64 n, .int .i64 l, .string d]] w fun e w' => e = .returned (.int .i64 (-1)) ∧ Below w.heap.size w w':=by
  cases ho:okF i n l d.size
  · have H:=Lib.hid ho
    clear h ho
    go_enter Tryz.func84,Tryz.ntmps84
    go_wp2_with fail
    refine (rright_v H.out _).mono ?_
    rintro e w1 ⟨rfl,hb⟩
    go_wp2
    go_ret
    exact ⟨rfl,fbelow_a _ hb⟩
  · have H:=Lib.hid ho
    have g:=good ho
    have n0:=g.n0
    have n1:=g.n1
    have hx:fX n = true:=by rw [ho] at h; simpa using h
    have HX:=Lib.hid hx
    clear h ho hx g
    go_enter Tryz.func84,Tryz.ntmps84
    go_wp2_with fail
    refine (rright_v H.out _).mono ?_
    rintro e w1 ⟨rfl,hb⟩
    obtain ⟨hc,hf⟩:=fbcell hb
    go_wp2_with fail
    refine (has4 HX.out n0 n1 _ _ _ _).mono ?_
    rintro e w2 ⟨rfl,hb2⟩
    go_wp2
    go_ret
    exact ⟨rfl,fbelow_t (fbelow_a _ hb) hb2⟩
theorem rkey_yes {i n l:Int} {d:ByteArray} {L:List Bool} (h:okF i n l d.size = true) (hx:fX n = false) (hL:L.length = 33)
    (hkb:∀ w,Calls Tryz.prog 127 #[.agg #[.int .i64 i, .int .i64 n, .int .i64 l, .string d]] w (KbPost L w)) (w:World) :
    Calls Tryz.prog 84 #[.agg #[.int .i64 i, .int .i64 n, .int .i64 l, .string d]] w fun e w' => e = .returned (.int .i64 (valL L)) ∧ Below w.heap.size w w':=by
  have H:=Lib.hid h
  have g:=good h
  have n0:=g.n0
  have n1:=g.n1
  have HX:=Lib.hid hx
  have HK:=Lib.hid hkb
  have HL:=Lib.hid hL
  clear h hx g hkb hL
  go_enter Tryz.func84,Tryz.ntmps84
  go_wp2_with fail
  refine (rright_v H.out _).mono ?_
  rintro e w1 ⟨rfl,hb1⟩
  obtain ⟨hc1,hf1⟩:=fbcell hb1
  have hz1:w.heap.size < w1.heap.size:=by have:=hb1.size; simp only [World.size_alloc] at this; omega
  go_wp2_with fail
  refine (has4 HX.out n0 n1 _ _ _ _).mono ?_
  rintro e w2 ⟨rfl,hb2⟩
  obtain ⟨hc2,hf2⟩:=fbcell hb2
  go_wp2_with fail
  refine (HK.out _).mono ?_
  rintro e w3 ⟨v3,rfl,hg3⟩
  obtain ⟨g3,cap3,rfl,hr3⟩:=hg3.row (by rw [HL.out]; decide)
  rw [HL.out]
  have HR:=Lib.hid hr3
  have hbb:=fbelow_t (fbelow_t (fbelow_a _ hb1) hb2) hg3.2.1
  clear hr3 hg3 hc1 hf1 hc2 hf2
  go_wp2_with fail
  go_loop [3,5] (fun a i => keyRel L a i) (fun _ i => 33 - (intOf i).toNat)
  case atStart => exact ⟨0,by omega,rfl,rfl⟩
  case round =>
    obtain ⟨k,hk,rfl,rfl⟩:=hrel
    by_cases hp:k < 33
    · have hpl:k < L.length:=by rw [HL.out]; exact hp
      obtain ⟨q,hq⟩:∃ q,L[k]'hpl = q:=⟨_,rfl⟩
      have hcell:=HR.out.cell k hpl
      obtain ⟨h0,h1⟩:=valL_take_bd (k:=k) HL.out
      have hS:=valL_take hpl
      rw [hq] at hcell hS
      have HS:=Lib.hid hS
      clear hpl hS hq
      cases q
      · go_wp2
        go_round
        case rel => exact ⟨k + 1,by omega,by go_num,by rw [HS.out]; simp [b01]⟩
        case measure => simp [intOf]; omega
      · go_wp2
        go_round
        case rel => exact ⟨k + 1,by omega,by go_num,by rw [HS.out]; simp [b01]⟩
        case measure => simp [intOf]; omega
    · obtain rfl:k = 33:=by omega
      go_wp2
      go_ret
      exact ⟨fret_int (by rw [List.take_of_length_le (by rw [HL.out]; decide)]),hbb⟩
theorem rkey_any {i n l:Int} {d:ByteArray} (w:World) :
    Calls Tryz.prog 84 #[.agg #[.int .i64 i, .int .i64 n, .int .i64 l, .string d]] w fun e w' => e = .returned (.int .i64 (keyV i n l d.size)) ∧ Below w.heap.size w w':=by
  unfold keyV
  cases h:(okF i n l d.size && !fX n)
  · exact rkey_no h w
  · simp only [Bool.and_eq_true,Bool.not_eq_true'] at h
    have g:=good h.1
    unfold keyN
    cases he:fE n
    · have i1:i ≤ 2047:=by have:=g.i1; rw [topN_v he h.2] at this; simpa using this
      refine (rkey_yes h.1 h.2 (narrowL_len2 i (fR n) (fD n)) (fun w => kb_narrow g.i0 g.top g.n0 g.n1 he rfl rfl w) w).mono fun e w' ⟨h1,h2⟩ => ⟨?_,h2⟩
      rw [h1,valL_narrow g.i0 i1]
      rfl
    · refine (rkey_yes h.1 h.2 (wideL_len i (fR n) (fD n)) (fun w => kb_wide g.i0 g.top g.n0 g.n1 he rfl rfl w) w).mono fun e w' ⟨h1,h2⟩ => ⟨?_,h2⟩
      rw [h1,valL_wide g.i0 g.top]
      rfl
theorem rkey_v {i n l v:Int} {d:ByteArray} (h:keyV i n l d.size = v) (w:World) :
    Calls Tryz.prog 84 #[.agg #[.int .i64 i, .int .i64 n, .int .i64 l, .string d]] w fun e w' => e = .returned (.int .i64 v) ∧ Below w.heap.size w w':=by
  rw [← h]; exact rkey_any w
end Go.Proofs.YtimdkcchjanpaaaGreatDoor
namespace Go.Proofs.YtimdkcchjanpaaaGreatDoor
open Go.RowKit
set_option linter.unusedVariables false
def BoxF (w:World) (b:Nat) (i n l:Int) (d:ByteArray):Prop:=w.heap[b]? = some (.cells #[.int .i64 i, .int .i64 n, .int .i64 l, .string d] 35 (0,0))
theorem BoxF.made (w:World) (i n l:Int) (d:ByteArray):BoxF (w.alloc (.cells #[.int .i64 i, .int .i64 n, .int .i64 l, .string d] 35)) w.heap.size i n l d:=by unfold BoxF World.alloc; simp
theorem BoxF.lt {w:World} {b:Nat} {i n l:Int} {d:ByteArray} (h:BoxF w b i n l d):b < w.heap.size:=(Array.getElem?_eq_some_iff.1 h).1
theorem BoxF.below {w w':World} {b B:Nat} {i n l:Int} {d:ByteArray} (h:BoxF w b i n l d) (hb:Below B w w') (hB:b < B):BoxF w' b i n l d:=(hb.block b hB).trans h
theorem BoxF.later {w w':World} {b:Nat} {i n l:Int} {d:ByteArray} (h:BoxF w b i n l d) (hb:Below w.heap.size w w'):BoxF w' b i n l d:=h.below hb h.lt
theorem BoxF.cells {w:World} {b:Nat} {i n l:Int} {d:ByteArray} (h:BoxF w b i n l d):w.cell? ⟨b,0,none⟩ = some (.int .i64 i) ∧ w.cell? ⟨b,1,none⟩ = some (.int .i64 n) ∧ w.cell? ⟨b,2,none⟩ = some (.int .i64 l) ∧ w.cell? ⟨b,3,none⟩ = some (.string d):=by
  unfold BoxF at h
  refine ⟨?_, ?_, ?_, ?_⟩ <;> (rw [Lib.cell_of_heap h]; rfl)
theorem boxF_set {w:World} {b:Nat} {i n l i' n' l':Int} {d d':ByteArray} (h:BoxF w b i n l d):BoxF ((((w.setCell ⟨b,0,none⟩ (.int .i64 i')).setCell ⟨b,1,none⟩ (.int .i64 n')).setCell ⟨b,2,none⟩ (.int .i64 l')).setCell ⟨b,3,none⟩ (.string d')) b i' n' l' d':=by
  unfold BoxF at h
  have h0:=heap_setCell_same w b 0 _ _ (.int .i64 i') h
  have h1:=heap_setCell_same _ b 1 _ _ (.int .i64 n') h0
  have h2:=heap_setCell_same _ b 2 _ _ (.int .i64 l') h1
  exact heap_setCell_same _ b 3 _ _ (.string d') h2
theorem boxF_below {B a:Nat} {w w1:World} {x0 x1 x2 x3:Value} (h:Below B w w1) (hB:B ≤ a):Below B w ((((w1.setCell ⟨a,0,none⟩ x0).setCell ⟨a,1,none⟩ x1).setCell ⟨a,2,none⟩ x2).setCell ⟨a,3,none⟩ x3) :=
  (((h.setCell (p:=⟨a,0,none⟩) hB _).setCell (p:=⟨a,1,none⟩) hB _).setCell (p:=⟨a,2,none⟩) hB _).setCell (p:=⟨a,3,none⟩) hB _
end Go.Proofs.YtimdkcchjanpaaaGreatDoor
namespace Go.Proofs.YtimdkcchjanpaaaGreatDoor
open Go.RowKit
set_option linter.unusedVariables false
def keyG (f:Fr):Int:=keyV f.i f.n f.l f.d.size
theorem info_fr2:(Tryz.prog.info? 35).map (fun i => (i.zero,i.size,i.bytes)) = some (some (.agg #[.int .i64 0, .int .i64 0, .int .i64 0, .string (ByteArray.mk #[])]),4,40):=by kernel_rfl
theorem flat_fr:FlatE Tryz.prog 79 35 4 40:=by
  obtain ⟨i0,hi,hz0,hz1,hz2⟩:=info_parts info_fr2
  exact ⟨Tryz.underlying79,i0,_,hi,hz0,hz1,hz2,rfl,by decide,by decide⟩
theorem frC_one:∀ f:Fr, ∀ u ∈ frC f,u.oneCell' = true:=fun f u hu => by
  simp only [frC,List.mem_cons,List.not_mem_nil,or_false] at hu
  rcases hu with rfl | rfl | rfl | rfl <;> rfl
end Go.Proofs.YtimdkcchjanpaaaGreatDoor
namespace Go.Proofs.YtimdkcchjanpaaaGreatDoor
open Go.RowKit
set_option linter.unusedVariables false
def roomN (n:Int):Int:=if n < 1 then 1 else if 1000 < n then 1000 else n
theorem roomN_rng (n:Int):1 ≤ roomN n ∧ roomN n ≤ 1000:=by unfold roomN; split <;> (try split) <;> omega
theorem xroom_v {n r:Int} (h:roomN n = r) (w:World):Calls Tryz.prog 97 #[.int .i64 n] w fun e w' => e = .returned (.int .i64 r) ∧ w = w':=by
  unfold roomN at h
  by_cases h1:n < 1
  · rw [if_pos h1] at h
    subst h
    have hd:decide (n < 1) = true:=decide_eq_true h1
    go_enter Tryz.func97,Tryz.ntmps97
    go_wp2
    go_ret
    exact ⟨rfl,rfl⟩
  · rw [if_neg h1] at h
    have hd:decide (n < 1) = false:=decide_eq_false h1
    by_cases h2:1000 < n
    · rw [if_pos h2] at h
      subst h
      have hd2:decide (1000 < n) = true:=decide_eq_true h2
      clear h1 h2
      go_enter Tryz.func97,Tryz.ntmps97
      go_wp2
      go_ret
      exact ⟨rfl,rfl⟩
    · rw [if_neg h2] at h
      subst h
      have hd2:decide (1000 < n) = false:=decide_eq_false h2
      clear h1 h2
      go_enter Tryz.func97,Tryz.ntmps97
      go_wp2
      go_ret
      exact ⟨rfl,rfl⟩
end Go.Proofs.YtimdkcchjanpaaaGreatDoor
