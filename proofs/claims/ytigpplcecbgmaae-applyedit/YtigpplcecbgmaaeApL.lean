
import Derived.Test.YtigpplcecbgmaaeApK
namespace Go.Proofs.Ytigpplcecbgmaae
open Go.RowKit Go.Maps
set_option linter.unusedVariables false
set_option linter.unusedSimpArgs false

abbrev GoodP (a b : Tr) : Prop := good2 a b = true
theorem goodP_symm {a b : Tr} (h : GoodP a b) : GoodP b a := by
  show good2 b a = true
  rw [good2_symm]
  exact h
theorem okPut_iff (qs : List Tr) (t : Tr) : okPut qs t = true ↔ ∀ q ∈ qs, GoodP q t := by
  constructor
  · intro h q hq
    refine goodP_symm ?_
    show good2 t q = true
    rw [good2_coll]
    simp only [okPut, Bool.and_eq_true, Bool.not_eq_true'] at h
    obtain ⟨h1, h2⟩ := h
    have e1 : t.nu ≠ q.nu := fun e => by
      have : (qs.map Tr.nu).contains t.nu = true := by rw [e]; simp; exact ⟨q, hq, rfl⟩
      rw [h1] at this
      cases this
    have e2 : collT t q = false := by
      cases h' : collT t q with
      | false => rfl
      | true =>
        have : qs.any (fun q => collT t q) = true := List.any_eq_true.2 ⟨q, hq, h'⟩
        rw [h2] at this
        cases this
    simp [e1, e2]
  · intro h
    have hg : ∀ q ∈ qs, t.nu ≠ q.nu ∧ collT t q = false := fun q hq => by
      have := goodP_symm (h q hq)
      unfold GoodP at this
      rw [good2_coll] at this
      simpa using this
    refine okPut_yes ?_ ?_
    · cases h' : (qs.map Tr.nu).contains t.nu with
      | false => rfl
      | true =>
        have hm : t.nu ∈ qs.map Tr.nu := by simpa using h'
        obtain ⟨q, hq, e⟩ := List.mem_map.1 hm
        exact absurd e.symm (hg q hq).1
    · intro j hj
      exact (hg _ (by rw [show qs.getD j tr0 = qs[j] by simp [List.getD, hj]]; exact List.getElem_mem hj)).2
theorem pair_snoc (qs : List Tr) (t : Tr) : (qs ++ [t]).Pairwise GoodP ↔ qs.Pairwise GoodP ∧ ∀ q ∈ qs, GoodP q t := by
  rw [List.pairwise_append]
  simp
theorem okAll_iff : ∀ (xs qs : List Tr), (okAll qs xs = true ∧ qs.Pairwise GoodP) ↔ (qs ++ xs).Pairwise GoodP
  | [], qs => by simp [okAll]
  | x :: xs, qs => by
    have ih := okAll_iff xs (qs ++ [x])
    rw [List.append_assoc, List.singleton_append] at ih
    rw [← ih, pair_snoc]
    simp only [okAll, Bool.and_eq_true, okPut_iff]
    constructor
    · rintro ⟨⟨h1, h2⟩, h3⟩
      exact ⟨h2, h3, h1⟩
    · rintro ⟨h2, h3, h1⟩
      exact ⟨⟨h1, h2⟩, h3⟩
theorem inTo_iff (S : List Tr) (x : Tr) : ∀ m, m ≤ S.length → (inTo S x m = true ↔ ∀ q ∈ S.take m, GoodP q x)
  | 0, _ => by simp [inTo]
  | m + 1, h => by
    have ih := inTo_iff S x m (by omega)
    rw [takeT_snoc S m (by omega)]
    simp only [inTo, Bool.and_eq_true, ih]
    constructor
    · rintro ⟨h1, h2⟩ q hq
      rcases List.mem_append.1 hq with h' | h'
      · exact h1 q h'
      · rw [List.mem_singleton.1 h']; exact goodP_symm h2
    · intro h'
      exact ⟨fun q hq => h' q (List.mem_append.2 (.inl hq)), goodP_symm (h' _ (List.mem_append.2 (.inr (List.mem_singleton.2 rfl))))⟩
theorem pairTo_iff (S : List Tr) (nx : Int) : ∀ k, k ≤ S.length → (pairTo S nx k = true ↔ ((∀ q ∈ S.take k, q.nu < nx) ∧ (S.take k).Pairwise GoodP))
  | 0, _ => by simp [pairTo]
  | k + 1, h => by
    have ih := pairTo_iff S nx k (by omega)
    have hin := inTo_iff S (S.getD k tr0) k (by omega)
    rw [takeT_snoc S k (by omega), pair_snoc]
    simp only [pairTo, Bool.and_eq_true, decide_eq_true_eq, ih, hin]
    constructor
    · rintro ⟨⟨h1, h2⟩, h3, h4⟩
      refine ⟨fun q hq => ?_, h2, h4⟩
      rcases List.mem_append.1 hq with h' | h'
      · exact h1 q h'
      · rw [List.mem_singleton.1 h']; exact h3
    · rintro ⟨h1, h2, h4⟩
      exact ⟨⟨fun q hq => h1 q (List.mem_append.2 (.inl hq)), h2⟩, h1 _ (List.mem_append.2 (.inr (List.mem_singleton.2 rfl))), h4⟩
theorem apS_perm (ts : List Tr) (e : Ed) : (apS ts e).Perm (leftT ts e.dl ++ e.ad) := by
  have h := (insAll_perm e.ad (insAll [] (leftT ts e.dl))).trans ((insAll_perm (leftT ts e.dl) []).append_right e.ad)
  rwa [List.nil_append] at h
theorem apOk_prog (ts : List Tr) (e : Ed) (h1 : edOk e = true) (h2 : ts.length ≤ 1000) (h3 : delsOk ts e.dl = true) : apOk ts e = (okAll [] (leftT ts e.dl) && okAdd (leftT ts e.dl) e) := by
  have hp := apS_perm ts e
  have hpt := pairTo_iff (apS ts e) e.nx (apS ts e).length (Nat.le_refl _)
  rw [List.take_length] at hpt
  have ha := okAll_iff (leftT ts e.dl) []
  rw [List.nil_append] at ha
  have hb := okAll_iff e.ad (leftT ts e.dl)
  rw [Bool.eq_iff_iff, apOk_iff, hpt, hp.length_eq, hp.pairwise_iff (fun h => goodP_symm h)]
  simp only [okAdd, Bool.and_eq_true, decide_eq_true_eq, List.all_eq_true]
  constructor
  · rintro ⟨-, -, -, h4, h5, h6, h7⟩
    have hb' := hb.2 h7
    exact ⟨(ha.2 hb'.2).1, hb'.1, h5, fun q hq => h6 q (hp.mem_iff.2 hq), h4⟩
  · rintro ⟨k1, k2, h5, h6, h4⟩
    have hl := ha.1 ⟨k1, List.Pairwise.nil⟩
    exact ⟨h1, h2, h3, h4, h5, fun q hq => h6 q (hp.mem_iff.1 hq), hb.1 ⟨k2, hl⟩⟩
end Go.Proofs.Ytigpplcecbgmaae
