import Derived.Test.YtgkhjjnhikbdaaaNwV
namespace Go.Proofs.Ytgkhjjnhikbdaaa
open Go.RowKit Go.Maps
set_option linter.unusedVariables false
set_option linter.unusedSimpArgs false

/-- The entry that a source has in front. -/
def hdR (rem : List (List En)) (p : Nat) : En := (rem.getD p []).headD en0
/-- What is left of each source, and the places that stand in the heap. -/
structure MgP (rem : List (List En)) (ps : List Nat) : Prop where
  nd : ps.Nodup
  mem : ∀ p, p ∈ ps ↔ p < rem.length ∧ rem.getD p [] ≠ []
  st : ∀ p, Srtd befE (rem.getD p [])
theorem getD_setL (rem : List (List En)) (i j : Nat) (x : List En) (hi : i < rem.length) : (rem.set i x).getD j [] = if j = i then x else rem.getD j [] := by
  rw [List.getD_eq_getElem?_getD, List.getElem?_set, List.getD_eq_getElem?_getD]
  by_cases h : i = j
  · subst h; simp [hi]
  · rw [if_neg h, if_neg (fun e => h e.symm)]
theorem hdR_set {rem : List (List En)} {p q : Nat} (x : List En) (hp : p < rem.length) (hq : q ≠ p) : hdR (rem.set p x) q = hdR rem q := by
  unfold hdR; rw [getD_setL rem p q x hp, if_neg hq]
theorem get0_mem {ps : List Nat} (h : ps ≠ []) : ps.getD 0 0 ∈ ps := by
  cases ps with
  | nil => exact absurd rfl h
  | cons p r => simp
theorem mem_get0 {ps : List Nat} {p : Nat} (h : p ∈ ps) : ∃ i, i < ps.length ∧ ps.getD i 0 = p := by
  obtain ⟨i, hi, rfl⟩ := List.mem_iff_getElem.1 h
  exact ⟨i, hi, by simp [List.getD, hi]⟩
theorem flat_at (rem : List (List En)) (p : Nat) (hp : p < rem.length) (x : List En) : (rem.set p x).flatten = (rem.take p).flatten ++ x ++ (rem.drop (p + 1)).flatten := by
  rw [List.set_eq_take_append_cons_drop, if_pos hp]
  simp
theorem mem_take {rem : List (List En)} {p : Nat} {y : En} (h : y ∈ (rem.take p).flatten) : ∃ q, q < p ∧ q < rem.length ∧ y ∈ rem.getD q [] := by
  obtain ⟨r, hr, hy⟩ := List.mem_flatten.1 h
  obtain ⟨q, hq, rfl⟩ := List.mem_iff_getElem.1 hr
  rw [List.length_take] at hq
  refine ⟨q, by omega, by omega, ?_⟩
  rw [List.getElem_take] at hy
  have e : rem.getD q [] = rem[q]'(by omega) := by simp [List.getD, show q < rem.length by omega]
  rw [e]; exact hy
theorem mem_dropL {rem : List (List En)} {p : Nat} {y : En} (h : y ∈ (rem.drop (p + 1)).flatten) : ∃ q, p < q ∧ q < rem.length ∧ y ∈ rem.getD q [] := by
  obtain ⟨r, hr, hy⟩ := List.mem_flatten.1 h
  obtain ⟨q, hq, rfl⟩ := List.mem_iff_getElem.1 hr
  rw [List.length_drop] at hq
  refine ⟨p + 1 + q, by omega, by omega, ?_⟩
  rw [List.getElem_drop] at hy
  have e : rem.getD (p + 1 + q) [] = rem[p + 1 + q]'(by omega) := by simp [List.getD, show p + 1 + q < rem.length by omega]
  rw [e]; exact hy
theorem head_le {r : List En} (h : Srtd befE r) {y : En} (hy : y ∈ r) : befE y (r.headD en0) = false := by
  cases r with
  | nil => simp at hy
  | cons x t =>
    rcases List.mem_cons.1 hy with rfl | hy
    · exact befE_swo.irr _
    · exact (List.pairwise_cons.1 h).1 y hy
theorem srt_min {P Q : List En} {e : En} (h1 : ∀ y ∈ P, befE e y = true) (h2 : ∀ y ∈ Q, befE y e = false) : srt befE (P ++ e :: Q) = e :: srt befE (P ++ Q) := by
  obtain ⟨s1, s2⟩ := srt_ok befE_swo (P ++ Q)
  refine (srt_of befE_swo (List.pairwise_cons.2 ⟨fun y hy => ?_, s1⟩) ?_).symm
  · rcases List.mem_append.1 (s2.symm.mem befE_swo hy) with h | h
    · exact befE_swo.asy (h1 y h)
    · exact h2 y h
  · have k1 : Sm befE (P ++ [e]) ([e] ++ P) := Sm.blocks befE_swo (fun x hx y hy => by
      have : y = e := by simpa using hy
      subst this; exact h1 x hx)
    have k2 : Sm befE (P ++ [e] ++ Q) ([e] ++ P ++ Q) := Sm.app k1 (Sm.refl Q)
    have k3 : Sm befE (P ++ e :: Q) (e :: (P ++ Q)) := by simpa using k2
    exact k3.trans (s2.cons e)
/-- The first of the heap is the first in order. -/
theorem mg_take {rem : List (List En)} {ps : List Nat} (h : MgP rem ps) (hH : HpF (ltP (hdR rem)) ps 0) (hne : ps ≠ []) :
    srt befE rem.flatten = hdR rem (ps.getD 0 0) :: srt befE (rem.set (ps.getD 0 0) (rem.getD (ps.getD 0 0) []).tail).flatten := by
  have hmin := hH.min (ltP_swo _)
  obtain ⟨hp, hpn⟩ := (h.mem _).1 (get0_mem hne)
  generalize ps.getD 0 0 = p at *
  have hlt : ∀ q, q < rem.length → rem.getD q [] ≠ [] → ltP (hdR rem) q p = false := fun q hq hqn => by
    obtain ⟨i, hi, e⟩ := mem_get0 ((h.mem q).2 ⟨hq, hqn⟩)
    have := hmin i hi
    rw [e] at this
    exact this
  have hr : rem.getD p [] = hdR rem p :: (rem.getD p []).tail := by
    unfold hdR
    cases hx : rem.getD p [] with
    | nil => exact absurd hx hpn
    | cons x t => simp
  have hsp := h.st p
  have e0 : rem.set p (rem.getD p []) = rem := by
    have : rem.getD p [] = rem[p] := by simp [List.getD, hp]
    rw [this]; exact List.set_getElem_self hp
  have e1 := flat_at rem p hp (rem.getD p [])
  rw [e0, hr] at e1
  rw [e1, flat_at rem p hp]
  have e2 : (rem.take p).flatten ++ (hdR rem p :: (rem.getD p []).tail) ++ (rem.drop (p + 1)).flatten = (rem.take p).flatten ++ hdR rem p :: ((rem.getD p []).tail ++ (rem.drop (p + 1)).flatten) := by simp
  have e3 : (rem.take p).flatten ++ (rem.getD p []).tail ++ (rem.drop (p + 1)).flatten = (rem.take p).flatten ++ ((rem.getD p []).tail ++ (rem.drop (p + 1)).flatten) := by simp
  rw [e2, e3]
  refine srt_min (fun y hy => ?_) (fun y hy => ?_)
  · obtain ⟨q, hqp, hql, hyq⟩ := mem_take hy
    have hqn : rem.getD q [] ≠ [] := fun e => by rw [e] at hyq; simp at hyq
    have := hlt q hql hqn
    simp only [ltP, ltF, Bool.or_eq_false_iff, Bool.and_eq_false_iff, Bool.not_eq_false', decide_eq_false_iff_not] at this
    obtain ⟨f1, f2⟩ := this
    rcases f2 with f2 | f2
    · exact lt_of_lt_le f2 (head_le (h.st q) hyq)
    · omega
  · rcases List.mem_append.1 hy with hy | hy
    · rw [hr] at hsp
      exact (List.pairwise_cons.1 hsp).1 y hy
    · obtain ⟨q, hqp, hql, hyq⟩ := mem_dropL hy
      have hqn : rem.getD q [] ≠ [] := fun e => by rw [e] at hyq; simp at hyq
      have := hlt q hql hqn
      simp only [ltP, ltF, Bool.or_eq_false_iff] at this
      exact befE_swo.neg _ _ _ (head_le (h.st q) hyq) this.1
theorem mg_nil {rem : List (List En)} (h : MgP rem []) : rem.flatten = [] := by
  rw [List.flatten_eq_nil_iff]
  intro r hr
  obtain ⟨q, hq, rfl⟩ := List.mem_iff_getElem.1 hr
  have e : rem.getD q [] = rem[q] := by simp [List.getD, hq]
  rcases Decidable.em (rem[q] = []) with h0 | h0
  · exact h0
  · have := (h.mem q).2 ⟨hq, by rw [e]; exact h0⟩
    simp at this
theorem mg_perm {rem : List (List En)} {ps qs : List Nat} (h : MgP rem ps) (hp : qs.Perm ps) : MgP rem qs :=
  ⟨hp.nodup_iff.2 h.nd, fun p => hp.mem_iff.trans (h.mem p), h.st⟩
theorem nd_get {ps : List Nat} (h : ps.Nodup) {c : Nat} (h1 : 0 < c) (h2 : c < ps.length) : ps.getD c 0 ≠ ps.getD 0 0 := by
  have e1 : ps.getD c 0 = ps[c] := by simp [List.getD, h2]
  have e2 : ps.getD 0 0 = ps[0]'(by omega) := by simp [List.getD, show 0 < ps.length by omega]
  rw [e1, e2]
  exact fun e => List.pairwise_iff_getElem.1 h 0 c (by omega) h2 h1 e.symm
theorem ltP_set {rem : List (List En)} {p q r : Nat} (x : List En) (hp : p < rem.length) (hq : q ≠ p) (hr : r ≠ p) : ltP (hdR (rem.set p x)) q r = ltP (hdR rem) q r := by
  unfold ltP; rw [hdR_set x hp hq, hdR_set x hp hr]
theorem srtd_tail {r : List En} (h : Srtd befE r) : Srtd befE r.tail := by
  cases r with
  | nil => exact h
  | cons x t => exact (List.pairwise_cons.1 h).2
/-- The first front goes on to its source's next entry. -/
theorem mg_some {rem : List (List En)} {ps : List Nat} (h : MgP rem ps) (hH : HpF (ltP (hdR rem)) ps 0) (hne : ps ≠ []) (ht : (rem.getD (ps.getD 0 0) []).tail ≠ []) :
    MgP (rem.set (ps.getD 0 0) (rem.getD (ps.getD 0 0) []).tail) ps ∧ HpF (ltP (hdR (rem.set (ps.getD 0 0) (rem.getD (ps.getD 0 0) []).tail))) ps 1 := by
  obtain ⟨hp, hpn⟩ := (h.mem _).1 (get0_mem hne)
  refine ⟨⟨h.nd, fun q => ?_, fun q => ?_⟩, fun c h1 h2 h3 => ?_⟩
  · rw [List.length_set, getD_setL _ _ _ _ hp, h.mem q]
    by_cases hq : q = ps.getD 0 0
    · rw [if_pos hq, hq]; exact ⟨fun _ => ⟨hp, ht⟩, fun _ => ⟨hp, hpn⟩⟩
    · rw [if_neg hq]
  · rw [getD_setL _ _ _ _ hp]
    by_cases hq : q = ps.getD 0 0
    · rw [if_pos hq]; exact srtd_tail (h.st _)
    · rw [if_neg hq]; exact h.st q
  · rw [ltP_set _ hp (nd_get h.nd h1 h2) (nd_get h.nd (by omega) (by omega))]
    exact hH c h1 h2 (Nat.zero_le _)
def dropP (ps : List Nat) : List Nat := (ps.set 0 (ps.getD (ps.length - 1) 0)).take (ps.length - 1)
theorem dropP_length (ps : List Nat) : (dropP ps).length = ps.length - 1 := by unfold dropP; rw [List.length_take, List.length_set]; omega
theorem dropP_get (ps : List Nat) {c : Nat} (h0 : 0 < c) (h : c < ps.length - 1) : (dropP ps).getD c 0 = ps.getD c 0 := by
  unfold dropP
  rw [List.getD_eq_getElem?_getD, List.getElem?_take_of_lt h, ← List.getD_eq_getElem?_getD, getD_setN _ _ _ _ (by omega), if_neg (by omega)]
theorem dropP_eq (p : Nat) (mid : List Nat) (l : Nat) : dropP (p :: (mid ++ [l])) = l :: mid := by
  unfold dropP
  have e1 : (p :: (mid ++ [l])).length - 1 = mid.length + 1 := by simp
  rw [e1]
  have e2 : (p :: (mid ++ [l])).getD (mid.length + 1) 0 = l := by simp [List.getD]
  rw [e2]
  simp
theorem mg_none {rem : List (List En)} {ps : List Nat} (h : MgP rem ps) (hH : HpF (ltP (hdR rem)) ps 0) (hne : ps ≠ []) (ht : (rem.getD (ps.getD 0 0) []).tail = []) :
    MgP (rem.set (ps.getD 0 0) (rem.getD (ps.getD 0 0) []).tail) (dropP ps) ∧ HpF (ltP (hdR (rem.set (ps.getD 0 0) (rem.getD (ps.getD 0 0) []).tail))) (dropP ps) 1 := by
  obtain ⟨hp, hpn⟩ := (h.mem _).1 (get0_mem hne)
  have hmem : (dropP ps).Nodup ∧ ∀ q, q ∈ dropP ps ↔ q ∈ ps ∧ q ≠ ps.getD 0 0 := by
    match ps, hne, h with
    | p :: r, _, h =>
      rcases List.eq_nil_or_concat r with rfl | ⟨mid, l, rfl⟩
      · refine ⟨by simp [dropP], fun q => ?_⟩
        simp [dropP]
      · have e : p :: mid.concat l = p :: (mid ++ [l]) := by simp
        have hnd := h.nd
        rw [e] at hnd ⊢
        rw [dropP_eq]
        have hperm : (l :: mid).Perm (mid ++ [l]) := (List.perm_append_singleton l mid).symm
        obtain ⟨n1, n2⟩ := List.nodup_cons.1 hnd
        refine ⟨hperm.nodup_iff.2 n2, fun q => ?_⟩
        rw [hperm.mem_iff]
        have e2 : (p :: (mid ++ [l])).getD 0 0 = p := by simp
        rw [e2]
        constructor
        · intro hq; exact ⟨List.mem_cons_of_mem _ hq, fun e => n1 (e ▸ hq)⟩
        · rintro ⟨hq, hne⟩
          rcases List.mem_cons.1 hq with hq | hq
          · exact absurd hq hne
          · exact hq
  refine ⟨⟨hmem.1, fun q => ?_, fun q => ?_⟩, fun c h1 h2 h3 => ?_⟩
  · rw [hmem.2 q, List.length_set, getD_setL _ _ _ _ hp, h.mem q]
    by_cases hq : q = ps.getD 0 0
    · rw [if_pos hq, ht]; exact ⟨fun ⟨_, h2⟩ => absurd hq h2, fun ⟨_, h2⟩ => absurd rfl h2⟩
    · rw [if_neg hq]; exact ⟨fun ⟨h1, _⟩ => h1, fun h1 => ⟨h1, hq⟩⟩
  · rw [getD_setL _ _ _ _ hp]
    by_cases hq : q = ps.getD 0 0
    · rw [if_pos hq]; exact srtd_tail (h.st _)
    · rw [if_neg hq]; exact h.st q
  · rw [dropP_length] at h2
    rw [dropP_get ps h1 h2, dropP_get ps (by omega) (by omega), ltP_set _ hp (nd_get h.nd h1 (by omega)) (nd_get h.nd (by omega) (by omega))]
    exact hH c h1 (by omega) (Nat.zero_le _)
end Go.Proofs.Ytgkhjjnhikbdaaa
