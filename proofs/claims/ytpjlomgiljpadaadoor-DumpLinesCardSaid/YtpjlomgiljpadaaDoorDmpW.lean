/- Dump: the document's Read, whole. -/
import Derived.Test.YtpjlomgiljpadaaDoorDmpWa
import Derived.Test.YtpjlomgiljpadaaDoorDmpWb
import Derived.Test.YtpjlomgiljpadaaDoorDmpWc
namespace Go.Proofs.YtpjlomgiljpadaaDoor
open Go.RowKit
set_option linter.unusedVariables false

theorem headO_big {s : ByteArray} {a b : List Int} (hc : cutL 35 (byL s) = some (a, b)) (hl : a.length = 8) (hd : digs a = true) (h : 1073741824 ≤ numL a) : readO (byL s) = none := by
  cases hb : bodyO b with
  | none => exact readO_no hc (.inr hb)
  | some g =>
    have hh := headO_8 hl hd
    have nope : ∀ p : Int × Int, headO a = some p → 536870912 ≤ p.1 → readO (byL s) = none := by
      intro p hp h1
      rw [readO_of hc hp hb rfl]
      have : okF p.1 (g.n + p.2) g.l g.d.size = false := by
        cases ho : okF p.1 (g.n + p.2) g.l g.d.size
        · rfl
        · have := (good ho).top; omega
      rw [this]; rfl
    by_cases hx : numL a / 536870912 % 2 = 1
    · rw [if_pos hx] at hh
      exact nope _ hh (by simp only; omega)
    · rw [if_neg hx] at hh
      exact nope _ hh (by simp only; omega)
theorem rread_any {s : ByteArray} (hs : s.size ≤ 1000000) (w : World) :
    Calls Tryd.prog 13 #[.string s] w (rrPost s w) := by
  cases hc : cutL 35 (byL s) with
  | none => exact rread_none hs hc w
  | some p =>
    obtain ⟨a, b⟩ := p
    obtain ⟨p1, p2, p3, p4, p5, p6⟩ := cut_parts hc
    by_cases h3 : a.length = 3
    · rw [h3] at p4
      cases hd : digs a
      · exact rread_num3 hs hc h3 (.inl (headO_bad hd)) (.inl (by rw [numV_of p4, hd, if_neg (by decide)]; decide)) w
      · exact rread_a hs hc h3 hd w
    by_cases h8 : a.length = 8
    · rw [h8] at p4
      cases hd : digs a
      · exact rread_num8 hs hc h8 (.inl (headO_bad hd)) (.inl (by rw [numV_of p4, hd, if_neg (by decide)]; decide)) w
      · by_cases hx : 1073741824 ≤ numL a
        · exact rread_num8 hs hc h8 (.inr (headO_big hc h8 hd hx)) (.inr (by rw [numV_of p4, hd]; exact hx)) w
        · by_cases hy : 536870912 ≤ numL a
          · exact rread_b hs hc h8 hd hy (by omega) w
          · exact rread_c hs hc h8 hd (by omega) w
    · exact rread_len hs hc h3 h8 w
theorem rread_t {s : ByteArray} {f : Fr} (hs : s.size ≤ 1000000) (h : readO (byL s) = some f) (w : World) :
    Calls Tryd.prog 13 #[.string s] w fun e w' => e = .returned (.tuple #[.agg #[.int .i64 f.i, .int .i64 f.n, .int .i64 f.l, .string f.d], .bool true]) ∧ Below w.heap.size w w' :=
  (rread_any hs w).mono fun e w' hp => by unfold rrPost at hp; rw [h] at hp; exact hp
theorem rread_f {s : ByteArray} (hs : s.size ≤ 1000000) (h : readO (byL s) = none) (w : World) :
    Calls Tryd.prog 13 #[.string s] w fun e w' => e = .returned (.tuple #[.agg #[.int .i64 0, .int .i64 0, .int .i64 0, .string (ByteArray.mk #[])], .bool false]) ∧ Below w.heap.size w w' :=
  (rread_any hs w).mono fun e w' hp => by unfold rrPost at hp; rw [h] at hp; exact hp

end Go.Proofs.YtpjlomgiljpadaaDoor
