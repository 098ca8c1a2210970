
import Derived.Test.YtfbmplecmaebbacDoorSvM
namespace Go.Proofs.YtfbmplecmaebbacDoor
open Go.RowKit Go.Maps
set_option linter.unusedVariables false
set_option linter.unusedSimpArgs false

theorem pgs_append (a b : List (List UInt8)) : pgs (a ++ b) = pgs a + pgs b := by simp [pgs]
theorem framesL_append (k : Nat) (a b : List (List UInt8)) : framesL k (a ++ b) = framesL k a ++ framesL k b := by simp [framesL]
/-- Whole frames. -/
theorem frs_whole {s : ByteArray} {k : Nat} {Ps : List (List UInt8)} (hs : s.data.toList = framesL k Ps) (hk : kindOk (k : Int) = true) (hk2 : k < 256) (hP : ∀ P ∈ Ps, P.length ≤ 1048576) : frs s 0 = mkF k 0 Ps := by
  have hl : s.size = 64 * pgs Ps := by rw [← len_data, hs, framesL_len]
  have h := frs_frames (s := s) hk hk2 Ps [] [] 0 (by simpa using hs) rfl hP
  rw [h, frs_end (by omega), List.append_nil]
/-- Cut at a byte: the whole ones among them. -/
theorem rl_cut {s : ByteArray} {k c : Nat} {P1 P2 : List (List UInt8)} (hs : s.data.toList = (framesL k (P1 ++ P2)).take c) (hk : kindOk (k : Int) = true) (hk2 : k < 256) (hP : ∀ P ∈ P1 ++ P2, P.length ≤ 1048576)
    (h1 : 64 * pgs P1 ≤ c) (h2 : ∀ Q r, P2 = Q :: r → c < 64 * (pgs P1 + pagesN (8 + Q.length))) (h3 : c ≤ 64 * pgs (P1 ++ P2)) : rlL s k = mkF k 0 P1 := by
  have hf1 := framesL_len k P1
  rw [framesL_append, List.take_append, List.take_of_length_le (by omega), hf1] at hs
  have h := frs_frames (s := s) hk hk2 P1 [] ((framesL k P2).take (c - 64 * pgs P1)) 0 (by simpa using hs) rfl (fun P hp => hP P (by simp [hp]))
  rw [Nat.zero_add] at h
  refine rl_frames h ?_
  have hl : s.size = 64 * pgs P1 + ((framesL k P2).take (c - 64 * pgs P1)).length := by rw [← len_data, hs, List.length_append, hf1]
  by_cases he : pgs P1 * 64 < s.size
  · have hrf : rf s (pgs P1) = none := by
      cases P2 with
      | nil => simp [framesL] at hl; omega
      | cons Q r =>
        have hc := h2 Q r rfl
        refine rf_cut (A := framesL k P1) (P := Q) (k := k) (m := c - 64 * pgs P1) ?_ (by omega) (by omega) (hP Q (by simp))
        rw [hs, framesL_cons, List.take_append_of_le_length (by rw [frB_len]; omega)]
    rw [frs_more he, hrf]
    exact .inr ⟨_, rfl⟩
  · exact .inl (frs_end he)
/-- The first byte of one frame is zero. -/
theorem frs_hurt {s : ByteArray} {k : Nat} {P1 P2 : List (List UInt8)} {P : List UInt8} (hs : s.data.toList = framesL k P1 ++ ((0 :: (frB k P).drop 1) ++ framesL k P2)) (hk : kindOk (k : Int) = true) (hk2 : k < 256) (hP : ∀ Q ∈ P1 ++ P2, Q.length ≤ 1048576) :
    frs s 0 = mkF k 0 P1 ++ (List.replicate (pagesN (8 + P.length)) none ++ mkF k (pgs P1 + pagesN (8 + P.length)) P2) := by
  have hm := pages_pos P.length
  have hf1 := framesL_len k P1
  have hfl := frB_len k P
  have hhl : (0 :: (frB k P).drop 1).length = 64 * pagesN (8 + P.length) := by rw [List.length_cons, List.length_drop]; omega
  have hl : s.size = 64 * pgs P1 + 64 * pagesN (8 + P.length) + 64 * pgs P2 := by rw [← len_data, hs, List.length_append, List.length_append, hf1, framesL_len, hhl]; omega
  have h := frs_frames (s := s) hk hk2 P1 [] _ 0 (by simpa using hs) rfl (fun Q hq => hP Q (by simp [hq]))
  rw [Nat.zero_add] at h
  rw [h, frs_skip (pagesN (8 + P.length)) (pgs P1) ?_ (by omega)]
  · have h2 := frs_frames (s := s) hk hk2 P2 (framesL k P1 ++ (0 :: (frB k P).drop 1)) [] (pgs P1 + pagesN (8 + P.length)) (by rw [hs]; simp) (by rw [List.length_append, hf1, hhl]; omega) (fun Q hq => hP Q (by simp [hq]))
    rw [h2, frs_end (by omega), List.append_nil]
  · intro i hi
    by_cases h0 : i = 0
    · subst h0
      refine rf_nokind (x := 0) ?_ (by decide)
      rw [hs, Nat.add_zero, show pgs P1 * 64 = pgs P1 * 64 + 0 by omega, getD_skip _ _ (by omega)]
      rfl
    · refine rf_nokind (x := 99) ?_ (by decide)
      have hlie := (lies_of [] [] P k).hd i hi
      rw [if_neg h0, List.nil_append, List.append_nil, List.length_nil, Nat.zero_add] at hlie
      rw [hs, show (pgs P1 + i) * 64 = pgs P1 * 64 + i * 64 by omega, getD_skip _ _ (by omega), getD_left (by rw [hhl]; omega), ← hlie]
      obtain ⟨m, hme⟩ : ∃ m, i * 64 = m + 1 := ⟨i * 64 - 1, by omega⟩
      rw [hme]
      show ((frB k P).drop 1).getD m 0 = _
      simp only [List.getD, List.getElem?_drop]
      rw [Nat.add_comm 1 m]
theorem gd_none (k : Int) : gd k none = false := rfl
theorem sv_hurt {s : ByteArray} {k : Nat} {P1 P2 : List (List UInt8)} {P : List UInt8} (hs : s.data.toList = framesL k P1 ++ ((0 :: (frB k P).drop 1) ++ framesL k P2)) (hk : kindOk (k : Int) = true) (hk2 : k < 256) (hP : ∀ Q ∈ P1 ++ P2, Q.length ≤ 1048576) :
    svL s k = (P1 ++ P2).map (fun P => (⟨P.toArray⟩ : ByteArray)) ∧ rlL s k = mkF k 0 P1 := by
  have h := frs_hurt hs hk hk2 hP
  have hm := pages_pos P.length
  obtain ⟨m, hme⟩ : ∃ m, pagesN (8 + P.length) = m + 1 := ⟨pagesN (8 + P.length) - 1, by omega⟩
  constructor
  · unfold svL
    have f1 : (mkF k 0 P1).filter (gd (k : Int)) = mkF k 0 P1 := List.filter_eq_self.2 (mkF_gd k P1 0)
    have f2 : (mkF k (pgs P1 + pagesN (8 + P.length)) P2).filter (gd (k : Int)) = mkF k (pgs P1 + pagesN (8 + P.length)) P2 := List.filter_eq_self.2 (mkF_gd k P2 _)
    have f3 : (List.replicate (pagesN (8 + P.length)) (none : Fr)).filter (gd (k : Int)) = [] := by
      rw [List.filter_eq_nil_iff]
      intro x hx
      rw [(List.mem_replicate.1 hx).2, gd_none]
      simp
    rw [h, List.filter_append, List.filter_append, f1, f2, f3, List.nil_append, List.map_append, mkF_texts, mkF_texts, List.map_append]
  · refine rl_frames h (.inr ?_)
    rw [hme, List.replicate_succ]
    exact ⟨_, rfl⟩
end Go.Proofs.YtfbmplecmaebbacDoor
