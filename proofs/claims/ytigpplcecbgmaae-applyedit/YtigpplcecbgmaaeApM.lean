
import Derived.Test.YtigpplcecbgmaaeApL
namespace Go.Proofs.Ytigpplcecbgmaae
open Go.RowKit Go.Maps
set_option linter.unusedVariables false
set_option linter.unusedSimpArgs false

/-- The order of a version's tables, not strict. -/
abbrev LeT (a b : Tr) : Prop := rBef b a = false
theorem leT_iff (a b : Tr) : LeT a b ↔ a.lv < b.lv ∨ (a.lv = b.lv ∧ a.nu ≤ b.nu) := by
  unfold LeT rBef
  by_cases h : b.lv = a.lv
  · rw [if_neg (by simpa using h)]
    simp
    omega
  · rw [if_pos h]
    simp
    omega
theorem ordT_le (a b : Tr) : ordT a b ≤ 0 ↔ LeT a b := by
  have h := ordT_lt b a
  rw [leT_iff]
  unfold ordT orI cmpI
  by_cases h1 : a.lv < b.lv
  · simp [h1]
  · by_cases h2 : b.lv < a.lv
    · simp [h1, h2]
      omega
    · have e : a.lv = b.lv := by omega
      by_cases h3 : a.nu < b.nu
      · simp [e, h3]; omega
      · by_cases h4 : b.nu < a.nu
        · simp [e, h3, h4]
        · simp [e, h3, h4]; omega
theorem insT_sorted (t : Tr) : ∀ xs : List Tr, xs.Pairwise LeT → (insT t xs).Pairwise LeT
  | [], _ => by simp [insT]
  | x :: xs, h => by
    obtain ⟨h1, h2⟩ := List.pairwise_cons.1 h
    unfold insT
    by_cases hb : rBef t x = true
    · rw [if_pos hb]
      have htx : LeT t x := by
        rw [leT_iff]
        have hn : ¬ LeT x t := by unfold LeT; rw [hb]; simp
        rw [leT_iff] at hn
        omega
      refine List.pairwise_cons.2 ⟨fun y hy => ?_, h⟩
      rcases List.mem_cons.1 hy with rfl | hy
      · exact htx
      · have := h1 y hy
        rw [leT_iff] at htx this ⊢
        omega
    · rw [if_neg hb]
      have hxt : LeT x t := by unfold LeT; simpa using hb
      refine List.pairwise_cons.2 ⟨fun y hy => ?_, insT_sorted t xs h2⟩
      rcases List.mem_cons.1 ((insT_perm t xs).mem_iff.1 hy) with rfl | hy
      · exact hxt
      · exact h1 y hy
theorem insAll_sorted : ∀ (xs acc : List Tr), acc.Pairwise LeT → (insAll acc xs).Pairwise LeT
  | [], acc, h => h
  | x :: xs, acc, h => insAll_sorted xs (insT x acc) (insT_sorted x acc h)
theorem apS_sorted (ts : List Tr) (e : Ed) : (apS ts e).Pairwise LeT := insAll_sorted _ _ (insAll_sorted _ _ List.Pairwise.nil)
/-- A sorted permutation of what is there, its numbers being different, is the version's tables. -/
theorem apS_only (ts : List Tr) (e : Ed) (L : List Tr) (hp : L.Perm (leftT ts e.dl ++ e.ad)) (hs : L.Pairwise LeT) (hg : (leftT ts e.dl ++ e.ad).Pairwise GoodP) : L = apS ts e := by
  have hpp := hp.trans (apS_perm ts e).symm
  refine hpp.eq_of_pairwise (le := LeT) (fun a b ha hb h1 h2 => ?_) hs (apS_sorted ts e)
  have hga : L.Pairwise GoodP := (hp.pairwise_iff (fun h => goodP_symm h)).2 hg
  have hb' : b ∈ L := hpp.mem_iff.2 hb
  have hnu : a.nu = b.nu := by
    rw [leT_iff] at h1 h2
    omega
  obtain ⟨i, hi, rfl⟩ := List.mem_iff_getElem.1 ha
  obtain ⟨j, hj, rfl⟩ := List.mem_iff_getElem.1 hb'
  have hgood : ∀ i j (hi : i < L.length) (hj : j < L.length), i < j → L[i].nu ≠ L[j].nu := fun i j hi hj hij h => by
    have := List.pairwise_iff_getElem.1 hga i j hi hj hij
    unfold GoodP good2 at this
    simp [h] at this
  rcases Nat.lt_trichotomy i j with h | rfl | h
  · exact absurd hnu (hgood i j hi hj h)
  · rfl
  · exact absurd hnu.symm (hgood j i hj hi h)
end Go.Proofs.Ytigpplcecbgmaae
