/- Wire: unpacking what was packed, packing what was unpacked. -/
import Derived.Test.YtimlaopmhcipmaaDoorWirAb
namespace Go.Proofs.YtimlaopmhcipmaaDoor
open Go.RowKit
set_option linter.unusedVariables false

theorem piece_list {s : ByteArray} {p : Nat} (hp : p ≤ s.size) : (pieceS s p).data.toList = (s.data.toList.drop p).take (stepN s p) := by
  have h : pieceS s p = s.extract p (p + stepN s p) := (piece_at (step_le s p hp)).symm
  rw [h]
  simp [ByteArray.data_extract]
theorem left_list (s : ByteArray) (p : Nat) : (leftS s p).data.toList = s.data.toList.drop p := by
  unfold leftS
  simp [ByteArray.data_extract]
  rw [List.take_of_length_le (by simp)]
theorem bytes_ext {s t : ByteArray} (h : s.data.toList = t.data.toList) : s = t := by
  apply ByteArray.ext
  exact Array.toList_inj.1 h
theorem size_list (s : ByteArray) : s.data.toList.length = s.size := by simp
theorem packS_list (L : List Fr) : (packS L).data.toList = packL L := by simp [packS]
theorem packS_size (L : List Fr) : (packS L).size = (packL L).length := by rw [← size_list, packS_list]
theorem packL_cons (f : Fr) (L : List Fr) : packL (f :: L) = (encS f).data.toList ++ packL L := by simp [packL]
theorem packL_app (a b : List Fr) : packL (a ++ b) = packL a ++ packL b := by simp [packL]
theorem packS_snoc (L : List Fr) (f : Fr) : packS (L ++ [f]) = packS L ++ encS f := by
  apply bytes_ext
  rw [packS_list, packL_snoc]
  simp [packS_list]

theorem unpF_packs {s : ByteArray} : ∀ (fuel p : Nat) (L0 L : List Fr) (q : Nat), p ≤ s.size → packL L0 = s.data.toList.take p → (∀ f ∈ L0, f.ok = true) → unpF s fuel p L0 = (L, q, true) → packL L = s.data.toList ∧ ∀ f ∈ L, f.ok = true
  | 0, p, L0, L, q, _, _, _, h => by simp [unpF] at h
  | fuel + 1, p, L0, L, q, hp, hpk, hok, h => by
    rw [unpF] at h
    by_cases he : p = s.size
    · rw [if_pos he] at h
      injection h with h1 h2
      subst h1
      rw [hpk, he, List.take_of_length_le (by simp)]
      exact ⟨rfl, hok⟩
    · rw [if_neg he] at h
      cases hd : decOk (pieceS s p)
      · rw [hd] at h
        simp at h
      · rw [if_pos hd] at h
        have hk := dec_ok hd
        have he2 := dec_enc hd
        have hpl := piece_list hp
        clear hd
        generalize pieceS s p = T at h hk he2 hpl
        generalize decF T = g at h hk he2
        refine unpF_packs fuel (p + stepN s p) _ L q (step_le s p hp) ?_ ?_ h
        · rw [packL_snoc, hpk, he2, hpl, ← List.take_add]
        · intro f hf
          rcases List.mem_append.1 hf with hf | hf
          · exact hok f hf
          · rw [List.mem_singleton.1 hf]
            exact hk
theorem unp_packs {s : ByteArray} {L : List Fr} {q : Nat} (h : unpR s = (L, q, true)) : packS L = s ∧ ∀ f ∈ L, f.ok = true := by
  obtain ⟨h1, h2⟩ := unpF_packs (s.size + 1) 0 [] L q (Nat.zero_le _) (by simp [packL]) (fun f hf => by cases hf) h
  exact ⟨bytes_ext (by rw [packS_list, h1]), h2⟩

theorem enc_long {f : Fr} (h : f.ok = true) {T : ByteArray} {R : List UInt8} (hT : T.data.toList = (encS f).data.toList ++ R) : longN T = (encS f).size ∧ (encS f).size ≤ T.size := by
  obtain ⟨h1, h2, h3, _⟩ := toldOk_parts (dec_told (enc_ok h)).1
  have hs : T.size = (encS f).size + R.length := by rw [← size_list, hT]; simp
  have h4 := encS_size f
  have h5 := totN_cases f.n
  refine ⟨?_, by omega⟩
  rw [h2]
  unfold longN
  have h6 : ¬ T.size < 6 := by omega
  have h7 : ¬ (encS f).size < 6 := by omega
  have hb : bt T 5 = bt (encS f) 5 := by
    unfold bt
    rw [hT, List.getElem?_append_left (by rw [size_list]; omega)]
  rw [if_neg h6, if_neg h7, hb]
theorem packL_ge : ∀ L : List Fr, L.length ≤ (packL L).length
  | [] => by simp [packL]
  | f :: L => by
    have := packL_ge L
    have h4 := encS_size f
    have h5 := totN_cases f.n
    rw [packL_cons, List.length_append, size_list, List.length_cons]
    omega
theorem unpF_pack {s : ByteArray} : ∀ (L1 L0 : List Fr) (fuel : Nat), (∀ f ∈ L1, f.ok = true) → L1.length < fuel → s.data.toList = packL (L0 ++ L1) → unpF s fuel (packL L0).length L0 = (L0 ++ L1, 0, true)
  | L1, L0, 0, _, h, _ => by omega
  | [], L0, fuel + 1, _, _, hs => by
    rw [unpF, if_pos (by rw [← size_list, hs]; simp)]
    simp
  | f :: L1, L0, fuel + 1, hok, hf, hs => by
    have hF := hok f List.mem_cons_self
    rw [packL_app, packL_cons] at hs
    have h4 := encS_size f
    have h5 := totN_cases f.n
    have hsz : s.size = (packL L0).length + ((encS f).size + (packL L1).length) := by rw [← size_list, hs]; simp
    have hl : (leftS s (packL L0).length).data.toList = (encS f).data.toList ++ packL L1 := by rw [left_list, hs, List.drop_left]
    obtain ⟨hg, hge⟩ := enc_long hF hl
    have hst : stepN s (packL L0).length = (encS f).size := by unfold stepN; rw [hg]; omega
    have hpc : pieceS s (packL L0).length = encS f := by
      apply bytes_ext
      rw [piece_list (by omega), hst, hs, List.drop_left, ← size_list, List.take_left]
    rw [unpF, if_neg (by omega), hpc, if_pos (enc_ok hF), enc_dec hF, hst]
    have h6 : (packL L0).length + (encS f).size = (packL (L0 ++ [f])).length := by rw [packL_snoc, List.length_append, size_list]
    rw [h6, unpF_pack L1 (L0 ++ [f]) fuel (fun g hg => hok g (List.mem_cons_of_mem _ hg)) (by simp at hf; omega) (by rw [hs]; simp [packL_app, packL_cons, packL])]
    simp
theorem unp_pack {L : List Fr} (hok : ∀ f ∈ L, f.ok = true) : unpR (packS L) = (L, 0, true) := by
  have h := unpF_pack (s := packS L) L [] ((packS L).size + 1) hok (by have := packL_ge L; rw [packS_size]; omega) (by rw [packS_list]; simp)
  unfold unpR
  simpa [packL] using h

end Go.Proofs.YtimlaopmhcipmaaDoor
