import Derived.Test.YtigpplcecbgmaaeGreatDoorApZ
namespace Go.Proofs.YtigpplcecbgmaaeGreatDoor
open Go.RowKit Go.Maps
set_option linter.unusedVariables false
set_option linter.unusedSimpArgs false

abbrev GoodP (a b : Tr) : Prop := good2 a b = true
theorem goodP_symm {a b : Tr} (h : GoodP a b) : GoodP b a := by
  show good2 b a = true
  rw [good2_symm]
  exact h
theorem okPut_iff (qs : List Tr) (t : Tr) : okPut qs t = true ↔ ∀ q ∈ qs, GoodP q t := by
  constructor
  · intro h q hq
    refine goodP_symm ?_
    show good2 t q = true
    rw [good2_coll]
    simp only [okPut, Bool.and_eq_true, Bool.not_eq_true'] at h
    obtain ⟨h1, h2⟩ := h
    have e1 : t.nu ≠ q.nu := fun e => by
      have : (qs.map Tr.nu).contains t.nu = true := by rw [e]; simp; exact ⟨q, hq, rfl⟩
      rw [h1] at this
      cases this
    have e2 : collT t q = false := by
      cases h' : collT t q with
      | false => rfl
      | true =>
        have : qs.any (fun q => collT t q) = true := List.any_eq_true.2 ⟨q, hq, h'⟩
        rw [h2] at this
        cases this
    simp [e1, e2]
  · intro h
    have hg : ∀ q ∈ qs, t.nu ≠ q.nu ∧ collT t q = false := fun q hq => by
      have := goodP_symm (h q hq)
      unfold GoodP at this
      rw [good2_coll] at this
      simpa using this
    refine okPut_yes ?_ ?_
    · cases h' : (qs.map Tr.nu).contains t.nu with
      | false => rfl
      | true =>
        have hm : t.nu ∈ qs.map Tr.nu := by simpa using h'
        obtain ⟨q, hq, e⟩ := List.mem_map.1 hm
        exact absurd e.symm (hg q hq).1
    · intro j hj
      exact (hg _ (by rw [show qs.getD j tr0 = qs[j] by simp [List.getD, hj]]; exact List.getElem_mem hj)).2
theorem pair_snoc (qs : List Tr) (t : Tr) : (qs ++ [t]).Pairwise GoodP ↔ qs.Pairwise GoodP ∧ ∀ q ∈ qs, GoodP q t := by
  rw [List.pairwise_append]
  simp
theorem okAll_iff : ∀ (xs qs : List Tr), (okAll qs xs = true ∧ qs.Pairwise GoodP) ↔ (qs ++ xs).Pairwise GoodP
  | [], qs => by simp [okAll]
  | x :: xs, qs => by
    have ih := okAll_iff xs (qs ++ [x])
    rw [List.append_assoc, List.singleton_append] at ih
    rw [← ih, pair_snoc]
    simp only [okAll, Bool.and_eq_true, okPut_iff]
    constructor
    · rintro ⟨⟨h1, h2⟩, h3⟩
      exact ⟨h2, h3, h1⟩
    · rintro ⟨h2, h3, h1⟩
      exact ⟨⟨h1, h2⟩, h3⟩
theorem inTo_iff (S : List Tr) (x : Tr) : ∀ m, m ≤ S.length → (inTo S x m = true ↔ ∀ q ∈ S.take m, GoodP q x)
  | 0, _ => by simp [inTo]
  | m + 1, h => by
    have ih := inTo_iff S x m (by omega)
    rw [takeT_snoc S m (by omega)]
    simp only [inTo, Bool.and_eq_true, ih]
    constructor
    · rintro ⟨h1, h2⟩ q hq
      rcases List.mem_append.1 hq with h' | h'
      · exact h1 q h'
      · rw [List.mem_singleton.1 h']; exact goodP_symm h2
    · intro h'
      exact ⟨fun q hq => h' q (List.mem_append.2 (.inl hq)), goodP_symm (h' _ (List.mem_append.2 (.inr (List.mem_singleton.2 rfl))))⟩
theorem pairTo_iff (S : List Tr) (nx : Int) : ∀ k, k ≤ S.length → (pairTo S nx k = true ↔ ((∀ q ∈ S.take k, q.nu < nx) ∧ (S.take k).Pairwise GoodP))
  | 0, _ => by simp [pairTo]
  | k + 1, h => by
    have ih := pairTo_iff S nx k (by omega)
    have hin := inTo_iff S (S.getD k tr0) k (by omega)
    rw [takeT_snoc S k (by omega), pair_snoc]
    simp only [pairTo, Bool.and_eq_true, decide_eq_true_eq, ih, hin]
    constructor
    · rintro ⟨⟨h1, h2⟩, h3, h4⟩
      refine ⟨fun q hq => ?_, h2, h4⟩
      rcases List.mem_append.1 hq with h' | h'
      · exact h1 q h'
      · rw [List.mem_singleton.1 h']; exact h3
    · rintro ⟨h1, h2, h4⟩
      exact ⟨⟨fun q hq => h1 q (List.mem_append.2 (.inl hq)), h2⟩, h1 _ (List.mem_append.2 (.inr (List.mem_singleton.2 rfl))), h4⟩
theorem apS_perm (ts : List Tr) (e : Ed) : (apS ts e).Perm (leftT ts e.dl ++ e.ad) := by
  have h := (insAll_perm e.ad (insAll [] (leftT ts e.dl))).trans ((insAll_perm (leftT ts e.dl) []).append_right e.ad)
  rwa [List.nil_append] at h
theorem apOk_prog (ts : List Tr) (e : Ed) (h1 : edOk e = true) (h2 : ts.length ≤ 1000) (h3 : delsOk ts e.dl = true) : apOk ts e = (okAll [] (leftT ts e.dl) && okAdd (leftT ts e.dl) e) := by
  have hp := apS_perm ts e
  have hpt := pairTo_iff (apS ts e) e.nx (apS ts e).length (Nat.le_refl _)
  rw [List.take_length] at hpt
  have ha := okAll_iff (leftT ts e.dl) []
  rw [List.nil_append] at ha
  have hb := okAll_iff e.ad (leftT ts e.dl)
  rw [Bool.eq_iff_iff, apOk_iff, hpt, hp.length_eq, hp.pairwise_iff (fun h => goodP_symm h)]
  simp only [okAdd, Bool.and_eq_true, decide_eq_true_eq, List.all_eq_true]
  constructor
  · rintro ⟨-, -, -, h4, h5, h6, h7⟩
    have hb' := hb.2 h7
    exact ⟨(ha.2 hb'.2).1, hb'.1, h5, fun q hq => h6 q (hp.mem_iff.2 hq), h4⟩
  · rintro ⟨k1, k2, h5, h6, h4⟩
    have hl := ha.1 ⟨k1, List.Pairwise.nil⟩
    exact ⟨h1, h2, h3, h4, h5, fun q hq => h6 q (hp.mem_iff.1 hq), hb.1 ⟨k2, hl⟩⟩
end Go.Proofs.YtigpplcecbgmaaeGreatDoor
namespace Go.Proofs.YtigpplcecbgmaaeGreatDoor
open Go.RowKit Go.Maps
set_option linter.unusedVariables false
set_option linter.unusedSimpArgs false

/-- The order of a version's tables, not strict. -/
abbrev LeT (a b : Tr) : Prop := rBef b a = false
theorem leT_iff (a b : Tr) : LeT a b ↔ a.lv < b.lv ∨ (a.lv = b.lv ∧ a.nu ≤ b.nu) := by
  unfold LeT rBef
  by_cases h : b.lv = a.lv
  · rw [if_neg (by simpa using h)]
    simp
    omega
  · rw [if_pos h]
    simp
    omega
theorem ordT_le (a b : Tr) : ordT a b ≤ 0 ↔ LeT a b := by
  have h := ordT_lt b a
  rw [leT_iff]
  unfold ordT orI cmpI
  by_cases h1 : a.lv < b.lv
  · simp [h1]
  · by_cases h2 : b.lv < a.lv
    · simp [h1, h2]
      omega
    · have e : a.lv = b.lv := by omega
      by_cases h3 : a.nu < b.nu
      · simp [e, h3]; omega
      · by_cases h4 : b.nu < a.nu
        · simp [e, h3, h4]
        · simp [e, h3, h4]; omega
theorem insT_sorted (t : Tr) : ∀ xs : List Tr, xs.Pairwise LeT → (insT t xs).Pairwise LeT
  | [], _ => by simp [insT]
  | x :: xs, h => by
    obtain ⟨h1, h2⟩ := List.pairwise_cons.1 h
    unfold insT
    by_cases hb : rBef t x = true
    · rw [if_pos hb]
      have htx : LeT t x := by
        rw [leT_iff]
        have hn : ¬ LeT x t := by unfold LeT; rw [hb]; simp
        rw [leT_iff] at hn
        omega
      refine List.pairwise_cons.2 ⟨fun y hy => ?_, h⟩
      rcases List.mem_cons.1 hy with rfl | hy
      · exact htx
      · have := h1 y hy
        rw [leT_iff] at htx this ⊢
        omega
    · rw [if_neg hb]
      have hxt : LeT x t := by unfold LeT; simpa using hb
      refine List.pairwise_cons.2 ⟨fun y hy => ?_, insT_sorted t xs h2⟩
      rcases List.mem_cons.1 ((insT_perm t xs).mem_iff.1 hy) with rfl | hy
      · exact hxt
      · exact h1 y hy
theorem insAll_sorted : ∀ (xs acc : List Tr), acc.Pairwise LeT → (insAll acc xs).Pairwise LeT
  | [], acc, h => h
  | x :: xs, acc, h => insAll_sorted xs (insT x acc) (insT_sorted x acc h)
theorem apS_sorted (ts : List Tr) (e : Ed) : (apS ts e).Pairwise LeT := insAll_sorted _ _ (insAll_sorted _ _ List.Pairwise.nil)
/-- A sorted permutation of what is there, its numbers being different, is the version's tables. -/
theorem apS_only (ts : List Tr) (e : Ed) (L : List Tr) (hp : L.Perm (leftT ts e.dl ++ e.ad)) (hs : L.Pairwise LeT) (hg : (leftT ts e.dl ++ e.ad).Pairwise GoodP) : L = apS ts e := by
  have hpp := hp.trans (apS_perm ts e).symm
  refine hpp.eq_of_pairwise (le := LeT) (fun a b ha hb h1 h2 => ?_) hs (apS_sorted ts e)
  have hga : L.Pairwise GoodP := (hp.pairwise_iff (fun h => goodP_symm h)).2 hg
  have hb' : b ∈ L := hpp.mem_iff.2 hb
  have hnu : a.nu = b.nu := by
    rw [leT_iff] at h1 h2
    omega
  obtain ⟨i, hi, rfl⟩ := List.mem_iff_getElem.1 ha
  obtain ⟨j, hj, rfl⟩ := List.mem_iff_getElem.1 hb'
  have hgood : ∀ i j (hi : i < L.length) (hj : j < L.length), i < j → L[i].nu ≠ L[j].nu := fun i j hi hj hij h => by
    have := List.pairwise_iff_getElem.1 hga i j hi hj hij
    unfold GoodP good2 at this
    simp [h] at this
  rcases Nat.lt_trichotomy i j with h | rfl | h
  · exact absurd hnu (hgood i j hi hj h)
  · rfl
  · exact absurd hnu.symm (hgood j i hj hi h)
end Go.Proofs.YtigpplcecbgmaaeGreatDoor
namespace Go.Proofs.YtigpplcecbgmaaeGreatDoor
open Go.RowKit Go.Maps
set_option linter.unusedVariables false
set_option linter.unusedSimpArgs false

theorem delsOk_perm {qs ts : List Tr} (h : qs.Perm ts) (ks : List Int) : delsOk qs ks = delsOk ts ks := by
  unfold delsOk
  have hm := h.map Tr.nu
  congr 1
  funext d
  rw [Bool.eq_iff_iff]
  simp only [List.contains_iff_mem]
  exact hm.mem_iff
theorem leftT_perm {qs ts : List Tr} (h : qs.Perm ts) (ks : List Int) : (leftT qs ks).Perm (leftT ts ks) := h.filter _
theorem leftT_cons (qs : List Tr) (d : Int) (ks : List Int) : leftT (leftT qs [d]) ks = leftT qs (d :: ks) := by
  unfold leftT
  rw [List.filter_filter]
  congr 1
  funext t
  by_cases h1 : t.nu = d <;> by_cases h2 : ks.contains t.nu = true <;> simp_all
theorem leftT_skip {qs : List Tr} {d : Int} (h : (qs.map Tr.nu).contains d = false) (ks : List Int) : leftT qs (d :: ks) = leftT qs ks := by
  unfold leftT
  refine List.filter_congr fun t ht => ?_
  have hne : t.nu ≠ d := fun e => by
    have : (qs.map Tr.nu).contains d = true := by rw [← e]; simp; exact ⟨t, ht, rfl⟩
    rw [h] at this
    cases this
  simp [hne]
theorem leftT_nil (qs : List Tr) : leftT qs [] = qs := by simp [leftT]
/-- The last one put into the place of one that is taken: the others, in some order. -/
theorem swap_perm : ∀ (qs : List Tr) (i : Nat), i < qs.length → (qs.map Tr.nu).Nodup → ((qs.set i (qs.getD (qs.length - 1) tr0)).take (qs.length - 1)).Perm (leftT qs [(qs.getD i tr0).nu]) := by
  intro qs i hi hn
  obtain ⟨A, x, B, rfl, hA⟩ : ∃ A x B, qs = A ++ x :: B ∧ A.length = i := by
    refine ⟨qs.take i, qs[i], qs.drop (i + 1), ?_, by simp; omega⟩
    simp
  have hx : (A ++ x :: B).getD i tr0 = x := by subst hA; simp [List.getD]
  rw [hx]
  have hnA : ∀ t ∈ A, t.nu ≠ x.nu := fun t ht e => by
    rw [List.map_append, List.map_cons] at hn
    have := List.nodup_append.1 hn
    exact this.2.2 t.nu (List.mem_map.2 ⟨t, ht, rfl⟩) x.nu (by simp) e
  have hnB : ∀ t ∈ B, t.nu ≠ x.nu := fun t ht e => by
    rw [List.map_append, List.map_cons] at hn
    have := (List.nodup_append.1 hn).2.1
    have h2 := (List.nodup_cons.1 this).1
    exact h2 (List.mem_map.2 ⟨t, ht, e⟩)
  have hl : leftT (A ++ x :: B) [x.nu] = A ++ B := by
    unfold leftT
    rw [List.filter_append, List.filter_cons]
    have e1 : A.filter (fun t => !([x.nu] : List Int).contains t.nu) = A := List.filter_eq_self.2 fun t ht => by simp [hnA t ht]
    have e2 : B.filter (fun t => !([x.nu] : List Int).contains t.nu) = B := List.filter_eq_self.2 fun t ht => by simp [hnB t ht]
    rw [e1, e2]
    simp
  rw [hl]
  subst hA
  rcases List.eq_nil_or_concat B with rfl | ⟨B', y, rfl⟩
  · have : (A ++ [x]).getD ((A ++ [x]).length - 1) tr0 = x := by simp [List.getD]
    rw [this]
    have hs : (A ++ [x]).set A.length x = A ++ [x] := by simp
    rw [hs]
    simp
  · rw [List.concat_eq_append] at *
    have hy : (A ++ x :: (B' ++ [y])).getD ((A ++ x :: (B' ++ [y])).length - 1) tr0 = y := by
      have e : (A ++ x :: (B' ++ [y])).length - 1 = (A ++ x :: B').length := by simp
      rw [e, show A ++ x :: (B' ++ [y]) = (A ++ x :: B') ++ [y] by simp]
      simp [List.getD]
    rw [hy]
    have hs : (A ++ x :: (B' ++ [y])).set A.length y = (A ++ y :: B') ++ [y] := by simp
    have hlen : (A ++ x :: (B' ++ [y])).length - 1 = (A ++ y :: B').length := by simp
    rw [hs, hlen, List.take_left']
    · refine List.Perm.append_left A ?_
      have := (List.perm_append_singleton y B').symm
      exact this
    · rfl
theorem pair_perm {qs ts : List Tr} (h : qs.Perm ts) : qs.Pairwise GoodP ↔ ts.Pairwise GoodP := h.pairwise_iff (fun h => goodP_symm h)
theorem okAdd_perm {qs ts : List Tr} (h : qs.Perm ts) (hg : qs.Pairwise GoodP) (e : Ed) : okAdd qs e = okAdd ts e := by
  unfold okAdd
  have hp := h.append_right e.ad
  have h1 : okAll qs e.ad = okAll ts e.ad := by
    rw [Bool.eq_iff_iff]
    have a1 := okAll_iff e.ad qs
    have a2 := okAll_iff e.ad ts
    have hts := (pair_perm h).1 hg
    constructor
    · intro h'
      exact (a2.2 ((pair_perm hp).1 (a1.1 ⟨h', hg⟩))).1
    · intro h'
      exact (a1.2 ((pair_perm hp).2 (a2.1 ⟨h', hts⟩))).1
  have h2 : (qs ++ e.ad).length = (ts ++ e.ad).length := hp.length_eq
  have h3 : (qs ++ e.ad).all (fun t => decide (t.nu < e.nx)) = (ts ++ e.ad).all (fun t => decide (t.nu < e.nx)) := by
    rw [Bool.eq_iff_iff, List.all_eq_true, List.all_eq_true]
    exact ⟨fun h' t ht => h' t (hp.mem_iff.2 ht), fun h' t ht => h' t (hp.mem_iff.1 ht)⟩
  rw [h1, h2, h3]
theorem leftT_good {ts : List Tr} (h : ts.Pairwise GoodP) (ks : List Int) : (leftT ts ks).Pairwise GoodP := h.sublist List.filter_sublist
/-- What the model asks of an edit, as the program asks it of a catalog in any order. -/
theorem apOk_step {qs ts : List Tr} {e : Ed} (hp : qs.Perm ts) (hg : ts.Pairwise GoodP) (hl : ts.length ≤ 1000) (he : edOk e = true) : apOk ts e = (delsOk qs e.dl && okAdd (leftT qs e.dl) e) := by
  rw [delsOk_perm hp, okAdd_perm (leftT_perm hp e.dl) ((pair_perm (leftT_perm hp e.dl)).2 (leftT_good hg e.dl))]
  cases hd : delsOk ts e.dl with
  | false => simp [apOk, hd]
  | true =>
    rw [apOk_prog ts e he hl hd]
    have h1 : okAll [] (leftT ts e.dl) = true := ((okAll_iff (leftT ts e.dl) []).2 (by simpa using leftT_good hg e.dl)).1
    rw [h1]
/-- What the model has behind an edit. -/
theorem ap_next {ts : List Tr} {e : Ed} (hg : ts.Pairwise GoodP) (h : apOk ts e = true) : (apS ts e).Pairwise GoodP ∧ (apS ts e).length ≤ 1000 := by
  obtain ⟨h1, h2, h3, h4, h5, h6⟩ := (apOk_iff ts e).1 h
  have hs := apOk_prog ts e h1 h2 h3
  rw [h] at hs
  have hs' : okAll [] (leftT ts e.dl) = true ∧ okAdd (leftT ts e.dl) e = true := by simpa using hs.symm
  have h7 : okAll (leftT ts e.dl) e.ad = true := by
    have := hs'.2
    unfold okAdd at this
    rw [Bool.and_eq_true] at this
    exact this.1
  refine ⟨?_, h5⟩
  exact (pair_perm (apS_perm ts e)).2 ((okAll_iff e.ad (leftT ts e.dl)).1 ⟨h7, leftT_good hg e.dl⟩)
end Go.Proofs.YtigpplcecbgmaaeGreatDoor
namespace Go.Proofs.YtigpplcecbgmaaeGreatDoor
open Go.RowKit Go.Maps
set_option linter.unusedVariables false
set_option linter.unusedSimpArgs false

theorem getD_nu (qs : List Tr) (i : Nat) (hi : i < qs.length) : (qs.getD i tr0).nu = (qs.map Tr.nu)[i]'(by simpa using hi) := by simp [List.getD, hi]
theorem CIs.nodup {H : Type} {D : DataW H} {qs : List Tr} (h : CIs D qs) : (qs.map Tr.nu).Nodup := by
  refine List.pairwise_iff_getElem.2 fun i j hi hj hij e => ?_
  have hi' : i < qs.length := by simpa using hi
  have hj' : j < qs.length := by simpa using hj
  have h1 := h.2 i hi'
  have h2 := h.2 j hj'
  rw [getD_nu qs i hi'] at h1
  rw [getD_nu qs j hj', ← e, h1] at h2
  injection h2 with h2
  injection h2 with _ h2
  omega
theorem nodup_ne {qs : List Tr} (hn : (qs.map Tr.nu).Nodup) {i j : Nat} (hi : i < qs.length) (hj : j < qs.length) (hne : i ≠ j) : (qs.getD i tr0).nu ≠ (qs.getD j tr0).nu := by
  rw [getD_nu qs i hi, getD_nu qs j hj]
  intro e
  rcases Nat.lt_or_ge i j with h | h
  · exact List.pairwise_iff_getElem.1 hn i j (by simpa using hi) (by simpa using hj) h e
  · exact List.pairwise_iff_getElem.1 hn j i (by simpa using hj) (by simpa using hi) (by omega) e.symm
/-- The references behind one that is taken. -/
def swT (qs : List Tr) (i : Nat) : List Tr := (qs.set i (qs.getD (qs.length - 1) tr0)).take (qs.length - 1)
theorem swT_len (qs : List Tr) (i : Nat) : (swT qs i).length = qs.length - 1 := by simp [swT]
theorem swT_at (qs : List Tr) (i j : Nat) (hj : j < qs.length - 1) : (swT qs i).getD j tr0 = if i = j then qs.getD (qs.length - 1) tr0 else qs.getD j tr0 := by
  have hj' : j < qs.length := by omega
  unfold swT
  rw [List.getD_eq_getElem?_getD, List.getElem?_take_of_lt hj]
  by_cases e : i = j
  · subst e
    simp [hj']
  · simp [List.getElem?_set_ne e, e]
theorem swT_mem {qs : List Tr} (hn : (qs.map Tr.nu).Nodup) {i : Nat} (hi : i < qs.length) (y : Int) : ((swT qs i).map Tr.nu).contains y = ((qs.map Tr.nu).contains y && decide (y ≠ (qs.getD i tr0).nu)) := by
  have hp := (swap_perm qs i hi hn).map Tr.nu
  rw [Bool.eq_iff_iff, List.contains_iff_mem]
  show y ∈ (swT qs i).map Tr.nu ↔ _
  unfold swT
  rw [hp.mem_iff]
  simp only [leftT, List.mem_map, List.mem_filter, Bool.and_eq_true, List.contains_iff_mem, decide_eq_true_eq]
  constructor
  · rintro ⟨t, ⟨h1, h2⟩, rfl⟩
    exact ⟨⟨t, h1, rfl⟩, by simpa using h2⟩
  · rintro ⟨⟨t, h1, rfl⟩, h2⟩
    exact ⟨t, ⟨h1, by simpa using h2⟩, rfl⟩
theorem CIs.take {H : Type} {D : DataW H} {qs : List Tr} (h : CIs D qs) (hD : IsMap D) {i : Nat} (hi : i < qs.length) :
    CIs ((D.put (.int .i64 (qs.getD (qs.length - 1) tr0).nu) (.lit (.int .i64 (i : Int)))).del (.int .i64 (qs.getD i tr0).nu)) (swT qs i) := by
  have hn := h.nodup
  have hl : qs.length - 1 < qs.length := by omega
  refine ⟨fun y => ?_, fun j hj => ?_⟩
  · rw [swT_mem hn hi y]
    by_cases e : y = (qs.getD i tr0).nu
    · subst e
      rw [has_del_same]
      simp
    · rw [has_del_other (litI_ne e)]
      by_cases e2 : y = (qs.getD (qs.length - 1) tr0).nu
      · subst e2
        rw [has_put_same hD (keyLitI _)]
        have : (qs.map Tr.nu).contains (qs.getD (qs.length - 1) tr0).nu = true := by
          rw [List.contains_iff_mem, getD_nu qs _ hl]
          exact List.getElem_mem _
        rw [this]
        simp only [Bool.true_and]
        exact (decide_eq_true e).symm
      · rw [has_put_other (litI_ne e2), h.1 y]
        simp only [decide_eq_true e, Bool.and_true]
  · rw [swT_len] at hj
    have hj' : j < qs.length := by omega
    rw [swT_at qs i j hj]
    by_cases e : i = j
    · subst e
      rw [if_pos rfl, atKey_del_other (litI_ne (nodup_ne hn hl hi (by omega))), atKey_put_same hD (keyLitI _)]
    · rw [if_neg e, atKey_del_other (litI_ne (nodup_ne hn hj' hi (fun h => e h.symm))), atKey_put_other (litI_ne (nodup_ne hn hj' hl (by omega)))]
      exact h.2 j hj'
theorem owns_tight {H : Type} {w : World} {P : Program} {k : TypeId} {R : Value → Option (DataW H × List MemPlace)} {b n : Nat} {D : DataW H} (h : w.ownsMap P k R b n D) : w.ownsMap P k R b (Maps.size D) D := by
  obtain ⟨es, clock, hb, F, hs, rfl⟩ := h
  refine ⟨es, clock, hb, F, ?_, rfl⟩
  show es.size ≤ List.length _
  rw [length_sorted]
  simp
/-- A place put anew and a number deleted: one entry less. -/
theorem size_take {H : Type} {D : DataW H} (hT : Tidy D) {x d : Lit} {v : DataW H} (hk : WideAt.IsKeyLit x) (hx : has D x = true) (hd : has D d = true) : Maps.size ((D.put x v).del d) + 1 = Maps.size D := by
  have h1 := size_put (k := x) hT v
  rw [if_pos hx] at h1
  have h2 := size_del (k := d) (hT.put hk v)
  have h3 : has (D.put x v) d = true := by
    by_cases e : d = x
    · subst e
      exact has_put_same hT.isMap hk v
    · rw [has_put_other e]
      exact hd
  rw [if_pos h3] at h2
  omega
/-- Four cells of a row set: the row of a list with one reference set. -/
theorem row_set {qs : List Tr} {cur : Array Value} (i : Nat) (x : Tr) (hi : i < qs.length) (hc : ∀ j, j < qs.length * 4 → cur[j]? = (cellsT qs)[j]?) :
    ∀ j, j < qs.length * 4 → ((((cur.setIfInBounds (i * 4) (.int .i64 x.nu)).setIfInBounds (i * 4 + 1) (.int .i64 x.lv)).setIfInBounds (i * 4 + 2) (.string x.lo)).setIfInBounds (i * 4 + 3) (.string x.hi))[j]? = (cellsT (qs.set i x))[j]? := by
  intro j hj
  have hsz : ∀ j, j < qs.length * 4 → j < cur.size := fun j hj => by
    have h := hc j hj
    have hl : j < (cellsT qs).length := by rw [cellsT_len]; omega
    rw [List.getElem?_eq_getElem hl] at h
    by_cases hh : j < cur.size
    · exact hh
    · rw [Array.getElem?_eq_none (by omega)] at h
      cases h
  have h0 := hsz (i * 4) (by omega)
  have h1 := hsz (i * 4 + 1) (by omega)
  have h2 := hsz (i * 4 + 2) (by omega)
  have h3 := hsz (i * 4 + 3) (by omega)
  obtain ⟨q, r, hr, rfl⟩ : ∃ q r, r < 4 ∧ j = q * 4 + r := ⟨j / 4, j % 4, by omega, by omega⟩
  have hq : q < qs.length := by omega
  have hq' : q < (qs.set i x).length := by simpa using hq
  obtain ⟨a0, a1, a2, a3⟩ := cellsT_at (qs.set i x) q hq'
  by_cases e : i = q
  · subst e
    have hg : (qs.set i x).getD i tr0 = x := by simp [List.getD, hi]
    rw [hg] at a0 a1 a2 a3
    rcases r with _ | _ | _ | _ | r
    · rw [show i * 4 + 0 = i * 4 by omega, a0]
      simp [Array.getElem?_setIfInBounds, h0, h1, h2, h3]
    · rw [show i * 4 + (0 + 1) = i * 4 + 1 by omega, a1]
      simp [Array.getElem?_setIfInBounds, h0, h1, h2, h3]
    · rw [show i * 4 + (0 + 1 + 1) = i * 4 + 2 by omega, a2]
      simp [Array.getElem?_setIfInBounds, h0, h1, h2, h3]
    · rw [show i * 4 + (0 + 1 + 1 + 1) = i * 4 + 3 by omega, a3]
      simp [Array.getElem?_setIfInBounds, h0, h1, h2, h3]
    · omega
  · obtain ⟨b0, b1, b2, b3⟩ := cellsT_at qs q hq
    have hg : (qs.set i x).getD q tr0 = qs.getD q tr0 := by simp [List.getD, List.getElem?_set_ne e]
    rw [hg] at a0 a1 a2 a3
    rw [Array.getElem?_setIfInBounds_ne (by omega), Array.getElem?_setIfInBounds_ne (by omega), Array.getElem?_setIfInBounds_ne (by omega), Array.getElem?_setIfInBounds_ne (by omega), hc _ hj]
    rcases r with _ | _ | _ | _ | r
    · exact b0.trans a0.symm
    · exact b1.trans a1.symm
    · exact b2.trans a2.symm
    · exact b3.trans a3.symm
    · omega
end Go.Proofs.YtigpplcecbgmaaeGreatDoor
