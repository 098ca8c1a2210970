import Derived.Test.YtphikgobdfknkaaGreatDoorApZ
namespace Go.Proofs.YtphikgobdfknkaaGreatDoor
open Go.RowKit Go.Maps
set_option linter.unusedVariables false
set_option linter.unusedSimpArgs false

abbrev GoodP (a b : Tr) : Prop := good2 a b = true
theorem goodP_symm {a b : Tr} (h : GoodP a b) : GoodP b a := by
  show good2 b a = true
  rw [good2_symm]
  exact h
theorem okPut_iff (qs : List Tr) (t : Tr) : okPut qs t = true ↔ ∀ q ∈ qs, GoodP q t := by
  constructor
  · intro h q hq
    refine goodP_symm ?_
    show good2 t q = true
    rw [good2_coll]
    simp only [okPut, Bool.and_eq_true, Bool.not_eq_true'] at h
    obtain ⟨h1, h2⟩ := h
    have e1 : t.nu ≠ q.nu := fun e => by
      have : (qs.map Tr.nu).contains t.nu = true := by rw [e]; simp; exact ⟨q, hq, rfl⟩
      rw [h1] at this
      cases this
    have e2 : collT t q = false := by
      cases h' : collT t q with
      | false => rfl
      | true =>
        have : qs.any (fun q => collT t q) = true := List.any_eq_true.2 ⟨q, hq, h'⟩
        rw [h2] at this
        cases this
    simp [e1, e2]
  · intro h
    have hg : ∀ q ∈ qs, t.nu ≠ q.nu ∧ collT t q = false := fun q hq => by
      have := goodP_symm (h q hq)
      unfold GoodP at this
      rw [good2_coll] at this
      simpa using this
    refine okPut_yes ?_ ?_
    · cases h' : (qs.map Tr.nu).contains t.nu with
      | false => rfl
      | true =>
        have hm : t.nu ∈ qs.map Tr.nu := by simpa using h'
        obtain ⟨q, hq, e⟩ := List.mem_map.1 hm
        exact absurd e.symm (hg q hq).1
    · intro j hj
      exact (hg _ (by rw [show qs.getD j tr0 = qs[j] by simp [List.getD, hj]]; exact List.getElem_mem hj)).2
theorem pair_snoc (qs : List Tr) (t : Tr) : (qs ++ [t]).Pairwise GoodP ↔ qs.Pairwise GoodP ∧ ∀ q ∈ qs, GoodP q t := by
  rw [List.pairwise_append]
  simp
theorem okAll_iff : ∀ (xs qs : List Tr), (okAll qs xs = true ∧ qs.Pairwise GoodP) ↔ (qs ++ xs).Pairwise GoodP
  | [], qs => by simp [okAll]
  | x :: xs, qs => by
    have ih := okAll_iff xs (qs ++ [x])
    rw [List.append_assoc, List.singleton_append] at ih
    rw [← ih, pair_snoc]
    simp only [okAll, Bool.and_eq_true, okPut_iff]
    constructor
    · rintro ⟨⟨h1, h2⟩, h3⟩
      exact ⟨h2, h3, h1⟩
    · rintro ⟨h2, h3, h1⟩
      exact ⟨⟨h1, h2⟩, h3⟩
theorem inTo_iff (S : List Tr) (x : Tr) : ∀ m, m ≤ S.length → (inTo S x m = true ↔ ∀ q ∈ S.take m, GoodP q x)
  | 0, _ => by simp [inTo]
  | m + 1, h => by
    have ih := inTo_iff S x m (by omega)
    rw [takeT_snoc S m (by omega)]
    simp only [inTo, Bool.and_eq_true, ih]
    constructor
    · rintro ⟨h1, h2⟩ q hq
      rcases List.mem_append.1 hq with h' | h'
      · exact h1 q h'
      · rw [List.mem_singleton.1 h']; exact goodP_symm h2
    · intro h'
      exact ⟨fun q hq => h' q (List.mem_append.2 (.inl hq)), goodP_symm (h' _ (List.mem_append.2 (.inr (List.mem_singleton.2 rfl))))⟩
theorem pairTo_iff (S : List Tr) (nx : Int) : ∀ k, k ≤ S.length → (pairTo S nx k = true ↔ ((∀ q ∈ S.take k, q.nu < nx) ∧ (S.take k).Pairwise GoodP))
  | 0, _ => by simp [pairTo]
  | k + 1, h => by
    have ih := pairTo_iff S nx k (by omega)
    have hin := inTo_iff S (S.getD k tr0) k (by omega)
    rw [takeT_snoc S k (by omega), pair_snoc]
    simp only [pairTo, Bool.and_eq_true, decide_eq_true_eq, ih, hin]
    constructor
    · rintro ⟨⟨h1, h2⟩, h3, h4⟩
      refine ⟨fun q hq => ?_, h2, h4⟩
      rcases List.mem_append.1 hq with h' | h'
      · exact h1 q h'
      · rw [List.mem_singleton.1 h']; exact h3
    · rintro ⟨h1, h2, h4⟩
      exact ⟨⟨fun q hq => h1 q (List.mem_append.2 (.inl hq)), h2⟩, h1 _ (List.mem_append.2 (.inr (List.mem_singleton.2 rfl))), h4⟩
theorem apS_perm (ts : List Tr) (e : Ed) : (apS ts e).Perm (leftT ts e.dl ++ e.ad) := by
  have h := (insAll_perm e.ad (insAll [] (leftT ts e.dl))).trans ((insAll_perm (leftT ts e.dl) []).append_right e.ad)
  rwa [List.nil_append] at h
theorem apOk_prog (ts : List Tr) (e : Ed) (h1 : edOk e = true) (h2 : ts.length ≤ 1000) (h3 : delsOk ts e.dl = true) : apOk ts e = (okAll [] (leftT ts e.dl) && okAdd (leftT ts e.dl) e) := by
  have hp := apS_perm ts e
  have hpt := pairTo_iff (apS ts e) e.nx (apS ts e).length (Nat.le_refl _)
  rw [List.take_length] at hpt
  have ha := okAll_iff (leftT ts e.dl) []
  rw [List.nil_append] at ha
  have hb := okAll_iff e.ad (leftT ts e.dl)
  rw [Bool.eq_iff_iff, apOk_iff, hpt, hp.length_eq, hp.pairwise_iff (fun h => goodP_symm h)]
  simp only [okAdd, Bool.and_eq_true, decide_eq_true_eq, List.all_eq_true]
  constructor
  · rintro ⟨-, -, -, h4, h5, h6, h7⟩
    have hb' := hb.2 h7
    exact ⟨(ha.2 hb'.2).1, hb'.1, h5, fun q hq => h6 q (hp.mem_iff.2 hq), h4⟩
  · rintro ⟨k1, k2, h5, h6, h4⟩
    have hl := ha.1 ⟨k1, List.Pairwise.nil⟩
    exact ⟨h1, h2, h3, h4, h5, fun q hq => h6 q (hp.mem_iff.1 hq), hb.1 ⟨k2, hl⟩⟩
end Go.Proofs.YtphikgobdfknkaaGreatDoor
namespace Go.Proofs.YtphikgobdfknkaaGreatDoor
open Go.RowKit Go.Maps
set_option linter.unusedVariables false
set_option linter.unusedSimpArgs false

/-- The order of a version's tables, not strict. -/
abbrev LeT (a b : Tr) : Prop := rBef b a = false
theorem leT_iff (a b : Tr) : LeT a b ↔ a.lv < b.lv ∨ (a.lv = b.lv ∧ a.nu ≤ b.nu) := by
  unfold LeT rBef
  by_cases h : b.lv = a.lv
  · rw [if_neg (by simpa using h)]
    simp
    omega
  · rw [if_pos h]
    simp
    omega
theorem ordT_le (a b : Tr) : ordT a b ≤ 0 ↔ LeT a b := by
  have h := ordT_lt b a
  rw [leT_iff]
  unfold ordT orI cmpI
  by_cases h1 : a.lv < b.lv
  · simp [h1]
  · by_cases h2 : b.lv < a.lv
    · simp [h1, h2]
      omega
    · have e : a.lv = b.lv := by omega
      by_cases h3 : a.nu < b.nu
      · simp [e, h3]; omega
      · by_cases h4 : b.nu < a.nu
        · simp [e, h3, h4]
        · simp [e, h3, h4]; omega
theorem insT_sorted (t : Tr) : ∀ xs : List Tr, xs.Pairwise LeT → (insT t xs).Pairwise LeT
  | [], _ => by simp [insT]
  | x :: xs, h => by
    obtain ⟨h1, h2⟩ := List.pairwise_cons.1 h
    unfold insT
    by_cases hb : rBef t x = true
    · rw [if_pos hb]
      have htx : LeT t x := by
        rw [leT_iff]
        have hn : ¬ LeT x t := by unfold LeT; rw [hb]; simp
        rw [leT_iff] at hn
        omega
      refine List.pairwise_cons.2 ⟨fun y hy => ?_, h⟩
      rcases List.mem_cons.1 hy with rfl | hy
      · exact htx
      · have := h1 y hy
        rw [leT_iff] at htx this ⊢
        omega
    · rw [if_neg hb]
      have hxt : LeT x t := by unfold LeT; simpa using hb
      refine List.pairwise_cons.2 ⟨fun y hy => ?_, insT_sorted t xs h2⟩
      rcases List.mem_cons.1 ((insT_perm t xs).mem_iff.1 hy) with rfl | hy
      · exact hxt
      · exact h1 y hy
theorem insAll_sorted : ∀ (xs acc : List Tr), acc.Pairwise LeT → (insAll acc xs).Pairwise LeT
  | [], acc, h => h
  | x :: xs, acc, h => insAll_sorted xs (insT x acc) (insT_sorted x acc h)
theorem apS_sorted (ts : List Tr) (e : Ed) : (apS ts e).Pairwise LeT := insAll_sorted _ _ (insAll_sorted _ _ List.Pairwise.nil)
/-- A sorted permutation of what is there, its numbers being different, is the version's tables. -/
theorem apS_only (ts : List Tr) (e : Ed) (L : List Tr) (hp : L.Perm (leftT ts e.dl ++ e.ad)) (hs : L.Pairwise LeT) (hg : (leftT ts e.dl ++ e.ad).Pairwise GoodP) : L = apS ts e := by
  have hpp := hp.trans (apS_perm ts e).symm
  refine hpp.eq_of_pairwise (le := LeT) (fun a b ha hb h1 h2 => ?_) hs (apS_sorted ts e)
  have hga : L.Pairwise GoodP := (hp.pairwise_iff (fun h => goodP_symm h)).2 hg
  have hb' : b ∈ L := hpp.mem_iff.2 hb
  have hnu : a.nu = b.nu := by
    rw [leT_iff] at h1 h2
    omega
  obtain ⟨i, hi, rfl⟩ := List.mem_iff_getElem.1 ha
  obtain ⟨j, hj, rfl⟩ := List.mem_iff_getElem.1 hb'
  have hgood : ∀ i j (hi : i < L.length) (hj : j < L.length), i < j → L[i].nu ≠ L[j].nu := fun i j hi hj hij h => by
    have := List.pairwise_iff_getElem.1 hga i j hi hj hij
    unfold GoodP good2 at this
    simp [h] at this
  rcases Nat.lt_trichotomy i j with h | rfl | h
  · exact absurd hnu (hgood i j hi hj h)
  · rfl
  · exact absurd hnu.symm (hgood j i hj hi h)
end Go.Proofs.YtphikgobdfknkaaGreatDoor
namespace Go.Proofs.YtphikgobdfknkaaGreatDoor
open Go.RowKit Go.Maps
set_option linter.unusedVariables false
set_option linter.unusedSimpArgs false

theorem delsOk_perm {qs ts : List Tr} (h : qs.Perm ts) (ks : List Int) : delsOk qs ks = delsOk ts ks := by
  unfold delsOk
  have hm := h.map Tr.nu
  congr 1
  funext d
  rw [Bool.eq_iff_iff]
  simp only [List.contains_iff_mem]
  exact hm.mem_iff
theorem leftT_perm {qs ts : List Tr} (h : qs.Perm ts) (ks : List Int) : (leftT qs ks).Perm (leftT ts ks) := h.filter _
theorem leftT_cons (qs : List Tr) (d : Int) (ks : List Int) : leftT (leftT qs [d]) ks = leftT qs (d :: ks) := by
  unfold leftT
  rw [List.filter_filter]
  congr 1
  funext t
  by_cases h1 : t.nu = d <;> by_cases h2 : ks.contains t.nu = true <;> simp_all
theorem leftT_skip {qs : List Tr} {d : Int} (h : (qs.map Tr.nu).contains d = false) (ks : List Int) : leftT qs (d :: ks) = leftT qs ks := by
  unfold leftT
  refine List.filter_congr fun t ht => ?_
  have hne : t.nu ≠ d := fun e => by
    have : (qs.map Tr.nu).contains d = true := by rw [← e]; simp; exact ⟨t, ht, rfl⟩
    rw [h] at this
    cases this
  simp [hne]
theorem leftT_nil (qs : List Tr) : leftT qs [] = qs := by simp [leftT]
/-- The last one put into the place of one that is taken: the others, in some order. -/
theorem swap_perm : ∀ (qs : List Tr) (i : Nat), i < qs.length → (qs.map Tr.nu).Nodup → ((qs.set i (qs.getD (qs.length - 1) tr0)).take (qs.length - 1)).Perm (leftT qs [(qs.getD i tr0).nu]) := by
  intro qs i hi hn
  obtain ⟨A, x, B, rfl, hA⟩ : ∃ A x B, qs = A ++ x :: B ∧ A.length = i := by
    refine ⟨qs.take i, qs[i], qs.drop (i + 1), ?_, by simp; omega⟩
    simp
  have hx : (A ++ x :: B).getD i tr0 = x := by subst hA; simp [List.getD]
  rw [hx]
  have hnA : ∀ t ∈ A, t.nu ≠ x.nu := fun t ht e => by
    rw [List.map_append, List.map_cons] at hn
    have := List.nodup_append.1 hn
    exact this.2.2 t.nu (List.mem_map.2 ⟨t, ht, rfl⟩) x.nu (by simp) e
  have hnB : ∀ t ∈ B, t.nu ≠ x.nu := fun t ht e => by
    rw [List.map_append, List.map_cons] at hn
    have := (List.nodup_append.1 hn).2.1
    have h2 := (List.nodup_cons.1 this).1
    exact h2 (List.mem_map.2 ⟨t, ht, e⟩)
  have hl : leftT (A ++ x :: B) [x.nu] = A ++ B := by
    unfold leftT
    rw [List.filter_append, List.filter_cons]
    have e1 : A.filter (fun t => !([x.nu] : List Int).contains t.nu) = A := List.filter_eq_self.2 fun t ht => by simp [hnA t ht]
    have e2 : B.filter (fun t => !([x.nu] : List Int).contains t.nu) = B := List.filter_eq_self.2 fun t ht => by simp [hnB t ht]
    rw [e1, e2]
    simp
  rw [hl]
  subst hA
  rcases List.eq_nil_or_concat B with rfl | ⟨B', y, rfl⟩
  · have : (A ++ [x]).getD ((A ++ [x]).length - 1) tr0 = x := by simp [List.getD]
    rw [this]
    have hs : (A ++ [x]).set A.length x = A ++ [x] := by simp
    rw [hs]
    simp
  · rw [List.concat_eq_append] at *
    have hy : (A ++ x :: (B' ++ [y])).getD ((A ++ x :: (B' ++ [y])).length - 1) tr0 = y := by
      have e : (A ++ x :: (B' ++ [y])).length - 1 = (A ++ x :: B').length := by simp
      rw [e, show A ++ x :: (B' ++ [y]) = (A ++ x :: B') ++ [y] by simp]
      simp [List.getD]
    rw [hy]
    have hs : (A ++ x :: (B' ++ [y])).set A.length y = (A ++ y :: B') ++ [y] := by simp
    have hlen : (A ++ x :: (B' ++ [y])).length - 1 = (A ++ y :: B').length := by simp
    rw [hs, hlen, List.take_left']
    · refine List.Perm.append_left A ?_
      have := (List.perm_append_singleton y B').symm
      exact this
    · rfl
theorem pair_perm {qs ts : List Tr} (h : qs.Perm ts) : qs.Pairwise GoodP ↔ ts.Pairwise GoodP := h.pairwise_iff (fun h => goodP_symm h)
theorem okAdd_perm {qs ts : List Tr} (h : qs.Perm ts) (hg : qs.Pairwise GoodP) (e : Ed) : okAdd qs e = okAdd ts e := by
  unfold okAdd
  have hp := h.append_right e.ad
  have h1 : okAll qs e.ad = okAll ts e.ad := by
    rw [Bool.eq_iff_iff]
    have a1 := okAll_iff e.ad qs
    have a2 := okAll_iff e.ad ts
    have hts := (pair_perm h).1 hg
    constructor
    · intro h'
      exact (a2.2 ((pair_perm hp).1 (a1.1 ⟨h', hg⟩))).1
    · intro h'
      exact (a1.2 ((pair_perm hp).2 (a2.1 ⟨h', hts⟩))).1
  have h2 : (qs ++ e.ad).length = (ts ++ e.ad).length := hp.length_eq
  have h3 : (qs ++ e.ad).all (fun t => decide (t.nu < e.nx)) = (ts ++ e.ad).all (fun t => decide (t.nu < e.nx)) := by
    rw [Bool.eq_iff_iff, List.all_eq_true, List.all_eq_true]
    exact ⟨fun h' t ht => h' t (hp.mem_iff.2 ht), fun h' t ht => h' t (hp.mem_iff.1 ht)⟩
  rw [h1, h2, h3]
theorem leftT_good {ts : List Tr} (h : ts.Pairwise GoodP) (ks : List Int) : (leftT ts ks).Pairwise GoodP := h.sublist List.filter_sublist
/-- What the model asks of an edit, as the program asks it of a catalog in any order. -/
theorem apOk_step {qs ts : List Tr} {e : Ed} (hp : qs.Perm ts) (hg : ts.Pairwise GoodP) (hl : ts.length ≤ 1000) (he : edOk e = true) : apOk ts e = (delsOk qs e.dl && okAdd (leftT qs e.dl) e) := by
  rw [delsOk_perm hp, okAdd_perm (leftT_perm hp e.dl) ((pair_perm (leftT_perm hp e.dl)).2 (leftT_good hg e.dl))]
  cases hd : delsOk ts e.dl with
  | false => simp [apOk, hd]
  | true =>
    rw [apOk_prog ts e he hl hd]
    have h1 : okAll [] (leftT ts e.dl) = true := ((okAll_iff (leftT ts e.dl) []).2 (by simpa using leftT_good hg e.dl)).1
    rw [h1]
/-- What the model has behind an edit. -/
theorem ap_next {ts : List Tr} {e : Ed} (hg : ts.Pairwise GoodP) (h : apOk ts e = true) : (apS ts e).Pairwise GoodP ∧ (apS ts e).length ≤ 1000 := by
  obtain ⟨h1, h2, h3, h4, h5, h6⟩ := (apOk_iff ts e).1 h
  have hs := apOk_prog ts e h1 h2 h3
  rw [h] at hs
  have hs' : okAll [] (leftT ts e.dl) = true ∧ okAdd (leftT ts e.dl) e = true := by simpa using hs.symm
  have h7 : okAll (leftT ts e.dl) e.ad = true := by
    have := hs'.2
    unfold okAdd at this
    rw [Bool.and_eq_true] at this
    exact this.1
  refine ⟨?_, h5⟩
  exact (pair_perm (apS_perm ts e)).2 ((okAll_iff e.ad (leftT ts e.dl)).1 ⟨h7, leftT_good hg e.dl⟩)
end Go.Proofs.YtphikgobdfknkaaGreatDoor
namespace Go.Proofs.YtphikgobdfknkaaGreatDoor
open Go.RowKit Go.Maps
set_option linter.unusedVariables false
set_option linter.unusedSimpArgs false

theorem getD_nu (qs : List Tr) (i : Nat) (hi : i < qs.length) : (qs.getD i tr0).nu = (qs.map Tr.nu)[i]'(by simpa using hi) := by simp [List.getD, hi]
theorem CIs.nodup {H : Type} {D : DataW H} {qs : List Tr} (h : CIs D qs) : (qs.map Tr.nu).Nodup := by
  refine List.pairwise_iff_getElem.2 fun i j hi hj hij e => ?_
  have hi' : i < qs.length := by simpa using hi
  have hj' : j < qs.length := by simpa using hj
  have h1 := h.2 i hi'
  have h2 := h.2 j hj'
  rw [getD_nu qs i hi'] at h1
  rw [getD_nu qs j hj', ← e, h1] at h2
  injection h2 with h2
  injection h2 with _ h2
  omega
theorem nodup_ne {qs : List Tr} (hn : (qs.map Tr.nu).Nodup) {i j : Nat} (hi : i < qs.length) (hj : j < qs.length) (hne : i ≠ j) : (qs.getD i tr0).nu ≠ (qs.getD j tr0).nu := by
  rw [getD_nu qs i hi, getD_nu qs j hj]
  intro e
  rcases Nat.lt_or_ge i j with h | h
  · exact List.pairwise_iff_getElem.1 hn i j (by simpa using hi) (by simpa using hj) h e
  · exact List.pairwise_iff_getElem.1 hn j i (by simpa using hj) (by simpa using hi) (by omega) e.symm
/-- The references behind one that is taken. -/
def swT (qs : List Tr) (i : Nat) : List Tr := (qs.set i (qs.getD (qs.length - 1) tr0)).take (qs.length - 1)
theorem swT_len (qs : List Tr) (i : Nat) : (swT qs i).length = qs.length - 1 := by simp [swT]
theorem swT_at (qs : List Tr) (i j : Nat) (hj : j < qs.length - 1) : (swT qs i).getD j tr0 = if i = j then qs.getD (qs.length - 1) tr0 else qs.getD j tr0 := by
  have hj' : j < qs.length := by omega
  unfold swT
  rw [List.getD_eq_getElem?_getD, List.getElem?_take_of_lt hj]
  by_cases e : i = j
  · subst e
    simp [hj']
  · simp [List.getElem?_set_ne e, e]
theorem swT_mem {qs : List Tr} (hn : (qs.map Tr.nu).Nodup) {i : Nat} (hi : i < qs.length) (y : Int) : ((swT qs i).map Tr.nu).contains y = ((qs.map Tr.nu).contains y && decide (y ≠ (qs.getD i tr0).nu)) := by
  have hp := (swap_perm qs i hi hn).map Tr.nu
  rw [Bool.eq_iff_iff, List.contains_iff_mem]
  show y ∈ (swT qs i).map Tr.nu ↔ _
  unfold swT
  rw [hp.mem_iff]
  simp only [leftT, List.mem_map, List.mem_filter, Bool.and_eq_true, List.contains_iff_mem, decide_eq_true_eq]
  constructor
  · rintro ⟨t, ⟨h1, h2⟩, rfl⟩
    exact ⟨⟨t, h1, rfl⟩, by simpa using h2⟩
  · rintro ⟨⟨t, h1, rfl⟩, h2⟩
    exact ⟨t, ⟨h1, by simpa using h2⟩, rfl⟩
theorem CIs.take {H : Type} {D : DataW H} {qs : List Tr} (h : CIs D qs) (hD : IsMap D) {i : Nat} (hi : i < qs.length) :
    CIs ((D.put (.int .i64 (qs.getD (qs.length - 1) tr0).nu) (.lit (.int .i64 (i : Int)))).del (.int .i64 (qs.getD i tr0).nu)) (swT qs i) := by
  have hn := h.nodup
  have hl : qs.length - 1 < qs.length := by omega
  refine ⟨fun y => ?_, fun j hj => ?_⟩
  · rw [swT_mem hn hi y]
    by_cases e : y = (qs.getD i tr0).nu
    · subst e
      rw [has_del_same]
      simp
    · rw [has_del_other (litI_ne e)]
      by_cases e2 : y = (qs.getD (qs.length - 1) tr0).nu
      · subst e2
        rw [has_put_same hD (keyLitI _)]
        have : (qs.map Tr.nu).contains (qs.getD (qs.length - 1) tr0).nu = true := by
          rw [List.contains_iff_mem, getD_nu qs _ hl]
          exact List.getElem_mem _
        rw [this]
        simp only [Bool.true_and]
        exact (decide_eq_true e).symm
      · rw [has_put_other (litI_ne e2), h.1 y]
        simp only [decide_eq_true e, Bool.and_true]
  · rw [swT_len] at hj
    have hj' : j < qs.length := by omega
    rw [swT_at qs i j hj]
    by_cases e : i = j
    · subst e
      rw [if_pos rfl, atKey_del_other (litI_ne (nodup_ne hn hl hi (by omega))), atKey_put_same hD (keyLitI _)]
    · rw [if_neg e, atKey_del_other (litI_ne (nodup_ne hn hj' hi (fun h => e h.symm))), atKey_put_other (litI_ne (nodup_ne hn hj' hl (by omega)))]
      exact h.2 j hj'
theorem owns_tight {H : Type} {w : World} {P : Program} {k : TypeId} {R : Value → Option (DataW H × List MemPlace)} {b n : Nat} {D : DataW H} (h : w.ownsMap P k R b n D) : w.ownsMap P k R b (Maps.size D) D := by
  obtain ⟨es, clock, hb, F, hs, rfl⟩ := h
  refine ⟨es, clock, hb, F, ?_, rfl⟩
  show es.size ≤ List.length _
  rw [length_sorted]
  simp
/-- A place put anew and a number deleted: one entry less. -/
theorem size_take {H : Type} {D : DataW H} (hT : Tidy D) {x d : Lit} {v : DataW H} (hk : WideAt.IsKeyLit x) (hx : has D x = true) (hd : has D d = true) : Maps.size ((D.put x v).del d) + 1 = Maps.size D := by
  have h1 := size_put (k := x) hT v
  rw [if_pos hx] at h1
  have h2 := size_del (k := d) (hT.put hk v)
  have h3 : has (D.put x v) d = true := by
    by_cases e : d = x
    · subst e
      exact has_put_same hT.isMap hk v
    · rw [has_put_other e]
      exact hd
  rw [if_pos h3] at h2
  omega
/-- Four cells of a row set: the row of a list with one reference set. -/
theorem row_set {qs : List Tr} {cur : Array Value} (i : Nat) (x : Tr) (hi : i < qs.length) (hc : ∀ j, j < qs.length * 4 → cur[j]? = (cellsT qs)[j]?) :
    ∀ j, j < qs.length * 4 → ((((cur.setIfInBounds (i * 4) (.int .i64 x.nu)).setIfInBounds (i * 4 + 1) (.int .i64 x.lv)).setIfInBounds (i * 4 + 2) (.string x.lo)).setIfInBounds (i * 4 + 3) (.string x.hi))[j]? = (cellsT (qs.set i x))[j]? := by
  intro j hj
  have hsz : ∀ j, j < qs.length * 4 → j < cur.size := fun j hj => by
    have h := hc j hj
    have hl : j < (cellsT qs).length := by rw [cellsT_len]; omega
    rw [List.getElem?_eq_getElem hl] at h
    by_cases hh : j < cur.size
    · exact hh
    · rw [Array.getElem?_eq_none (by omega)] at h
      cases h
  have h0 := hsz (i * 4) (by omega)
  have h1 := hsz (i * 4 + 1) (by omega)
  have h2 := hsz (i * 4 + 2) (by omega)
  have h3 := hsz (i * 4 + 3) (by omega)
  obtain ⟨q, r, hr, rfl⟩ : ∃ q r, r < 4 ∧ j = q * 4 + r := ⟨j / 4, j % 4, by omega, by omega⟩
  have hq : q < qs.length := by omega
  have hq' : q < (qs.set i x).length := by simpa using hq
  obtain ⟨a0, a1, a2, a3⟩ := cellsT_at (qs.set i x) q hq'
  by_cases e : i = q
  · subst e
    have hg : (qs.set i x).getD i tr0 = x := by simp [List.getD, hi]
    rw [hg] at a0 a1 a2 a3
    rcases r with _ | _ | _ | _ | r
    · rw [show i * 4 + 0 = i * 4 by omega, a0]
      simp [Array.getElem?_setIfInBounds, h0, h1, h2, h3]
    · rw [show i * 4 + (0 + 1) = i * 4 + 1 by omega, a1]
      simp [Array.getElem?_setIfInBounds, h0, h1, h2, h3]
    · rw [show i * 4 + (0 + 1 + 1) = i * 4 + 2 by omega, a2]
      simp [Array.getElem?_setIfInBounds, h0, h1, h2, h3]
    · rw [show i * 4 + (0 + 1 + 1 + 1) = i * 4 + 3 by omega, a3]
      simp [Array.getElem?_setIfInBounds, h0, h1, h2, h3]
    · omega
  · obtain ⟨b0, b1, b2, b3⟩ := cellsT_at qs q hq
    have hg : (qs.set i x).getD q tr0 = qs.getD q tr0 := by simp [List.getD, List.getElem?_set_ne e]
    rw [hg] at a0 a1 a2 a3
    rw [Array.getElem?_setIfInBounds_ne (by omega), Array.getElem?_setIfInBounds_ne (by omega), Array.getElem?_setIfInBounds_ne (by omega), Array.getElem?_setIfInBounds_ne (by omega), hc _ hj]
    rcases r with _ | _ | _ | _ | r
    · exact b0.trans a0.symm
    · exact b1.trans a1.symm
    · exact b2.trans a2.symm
    · exact b3.trans a3.symm
    · omega
end Go.Proofs.YtphikgobdfknkaaGreatDoor
namespace Go.Proofs.YtphikgobdfknkaaGreatDoor
open Go.RowKit Go.Maps
set_option linter.unusedVariables false
set_option linter.unusedSimpArgs false

theorem contains_at {qs : List Tr} {d : Int} (h : (qs.map Tr.nu).contains d = true) : ∃ i, i < qs.length ∧ (qs.getD i tr0).nu = d := by
  rw [List.contains_iff_mem] at h
  obtain ⟨i, hi, e⟩ := List.mem_iff_getElem.1 h
  have hi' : i < qs.length := by simpa using hi
  exact ⟨i, hi', by rw [getD_nu qs i hi']; exact e⟩
/-- Four stores into a row. -/
theorem stores4 {w : World} {rg i : Nat} {cur : Array Value} {t : TypeId} (hb : w.heap[rg]? = some (.cells cur t (0, 0))) (x0 x1 x2 x3 : Value) :
    ((((w.setCell ⟨rg, i * 4, none⟩ x0).setCell ⟨rg, i * 4 + 1, none⟩ x1).setCell ⟨rg, i * 4 + 2, none⟩ x2).setCell ⟨rg, i * 4 + 3, none⟩ x3).heap[rg]? = some (.cells ((((cur.setIfInBounds (i * 4) x0).setIfInBounds (i * 4 + 1) x1).setIfInBounds (i * 4 + 2) x2).setIfInBounds (i * 4 + 3) x3) t (0, 0)) := by
  have h1 := heap_setCell_same w rg (i * 4) _ _ x0 hb
  have h2 := heap_setCell_same _ rg (i * 4 + 1) _ _ x1 h1
  have h3 := heap_setCell_same _ rg (i * 4 + 2) _ _ x2 h2
  exact heap_setCell_same _ rg (i * 4 + 3) _ _ x3 h3

theorem owns_more {H : Type} {w : World} {P : Program} {k : TypeId} {R : Value → Option (DataW H × List MemPlace)} {b n n' : Nat} {D : DataW H} (h : w.ownsMap P k R b n D) (hn : n ≤ n') : w.ownsMap P k R b n' D := by
  obtain ⟨es, clock, hb, F, hs, rfl⟩ := h
  exact ⟨es, clock, hb, F, Nat.le_trans hs hn, rfl⟩
theorem cellsT_take : ∀ (xs : List Tr) (m : Nat), cellsT (xs.take m) = (cellsT xs).take (m * 4)
  | [], m => by simp [cellsT]
  | x :: xs, 0 => by simp [cellsT]
  | x :: xs, m + 1 => by
    have ih := cellsT_take xs m
    have e1 : cellsT (x :: xs) = [.int .i64 x.nu, .int .i64 x.lv, .string x.lo, .string x.hi] ++ cellsT xs := rfl
    have e2 : cellsT (x :: xs.take m) = [.int .i64 x.nu, .int .i64 x.lv, .string x.lo, .string x.hi] ++ cellsT (xs.take m) := rfl
    rw [List.take_succ_cons, e1, e2, ih, show (m + 1) * 4 = m * 4 + 4 by omega]
    simp
set_option maxRecDepth 100000 in
set_option maxHeartbeats 2000000 in
theorem takeC_any (B0 B g b N M : Nat) (qs : List Tr) (d : Int) (w : World) (hc : Cat w B g b N M qs) (h1 : B0 ≤ g) (h2 : B0 ≤ b) (h3 : g < B) (h4 : b < B) (hw : wfI d) (hwq : ∀ t ∈ qs, wfI t.nu) (hl : qs.length ≤ 2000) (hM : M ≤ w.heap.size) (hgN : g < N ∨ M ≤ g) (hbN : b < N ∨ M ≤ b) :
    Calls Tryz.prog 93 #[.pointer (some ⟨g, 0, none⟩), .int .i64 d] w fun e w' => e = .returned (.tuple #[]) ∧ Below B0 w w' ∧ KeepX g b w w' ∧ Kept N M w w' ∧ ∃ qs', qs'.Perm (leftT qs [d]) ∧ Cat w' B g b N M qs' := by
  obtain ⟨tv, D, hg, hown, hci, hrow, haw⟩ := hc
  have hgb : g ≠ b := fun e => by
    obtain ⟨es, cl, hm, -⟩ := hown
    rw [← e, hg] at hm
    cases hm
  obtain ⟨c0, c1, z0, z1⟩ := two_cells hg
  have HO := hd hown
  cases hcn : (qs.map Tr.nu).contains d with
  | false =>
    have hh := (hci.1 d).trans hcn
    have HC := hd (And.intro hg (And.intro hci hrow))
    clear hg hci hrow hown
    go_enter Tryz.func93, Tryz.ntmps93
    go_wp2_with (at_lookup; refine wpList_lookup_own_ok_int _ rfl _ _ 153 rfl 3 3 .i64 keyI Tryz.underlying153 Tryz.underlying3 (zeroI _) b qs.length D rfl HO.out _ _ rfl (keyI_mk hw) ?_; intro cc hcc hwc; rw [hh])
    refine bodyPost_ret (results_none rfl _ _ _) rfl ?_
    exact ⟨rfl, Below.refl _ _, KeepX.of_below (Below.refl _ _), Kept.refl _ _ _, qs, by rw [leftT_skip hcn, leftT_nil], ⟨tv, D, HC.out.1, HO.out, HC.out.2.1, HC.out.2.2, haw⟩⟩
  | true =>
    have hh := (hci.1 d).trans hcn
    obtain ⟨i, hi, hnu⟩ := contains_at hcn
    have HAt : Hid (D.atKey (.int .i64 d) (.lit (.int .i64 0)) = .lit (.int .i64 (i : Int))) := by show _ = _; rw [← hnu]; exact hci.2 i hi
    obtain ⟨m, hm⟩ : ∃ m, qs.length = m + 1 := ⟨qs.length - 1, by omega⟩
    rcases hrow.2 with ⟨rfl, h0⟩ | ⟨rg, cap, cur, rfl, hrB, hrb, hnc, hcm, hcs, htk⟩
    · omega
    have hcell : ∀ j, j < qs.length * 4 → cur[j]? = (cellsT qs)[j]? := fun j hj => by
      have e1 : (cur.toList.take (qs.length * 4))[j]? = (cellsT qs)[j]? := by rw [htk]
      rw [List.getElem?_take_of_lt hj] at e1
      simpa using e1
    have hcat := fun j (hj : j < qs.length) => cellsT_at qs j hj
    have hxd : qs.getD (qs.length - 1) tr0 = qs.getD m tr0 := by rw [hm]; rfl
    have hcell' : ∀ (W : World), W.heap[rg]? = some (.cells cur 45 (0, 0)) → ∀ j v, j < qs.length * 4 → (cellsT qs)[j]? = some v → W.cell? ⟨rg, j, none⟩ = some v ∧ W.frozen? ⟨rg, j, none⟩ = false := fun W hW j v hj hv => by
      constructor
      · simp [World.cell?, hW, hcell j hj, hv]
      · simp [World.frozen?, hW]
    obtain ⟨a0, a1, a2, a3⟩ := hcat m (by omega)
    obtain ⟨e0, e1, e2, e3⟩ := hcat i hi
    obtain ⟨m0, -⟩ := hcell' w hrb _ _ (by omega) a0
    obtain ⟨m1, -⟩ := hcell' w hrb _ _ (by omega) a1
    obtain ⟨m2, -⟩ := hcell' w hrb _ _ (by omega) a2
    obtain ⟨m3, -⟩ := hcell' w hrb _ _ (by omega) a3
    obtain ⟨i0, f0⟩ := hcell' w hrb _ _ (by omega) e0
    obtain ⟨i1, f1⟩ := hcell' w hrb _ _ (by omega) e1
    obtain ⟨i2, f2⟩ := hcell' w hrb _ _ (by omega) e2
    obtain ⟨i3, f3⟩ := hcell' w hrb _ _ (by omega) e3
    have HX := hd (row_set (qs := qs) (cur := cur) i (qs.getD m tr0) hi hcell)
    have HXn : Hid (wfI (qs.getD m tr0).nu) := hwq _ (by rw [show qs.getD m tr0 = qs[m] by simp [List.getD, hm]]; exact List.getElem_mem _)
    have HTk := hd (hci.take hown.isMap hi)
    have HSw : Hid (swT qs i = (qs.set i (qs.getD m tr0)).take m) := by show _ = _; unfold swT; rw [hxd, hm]; rfl
    have HPm : Hid ((swT qs i).Perm (leftT qs [d])) := by show List.Perm _ _; rw [← hnu]; exact swap_perm qs i hi hci.nodup
    have HHas : Hid (Maps.has D (.int .i64 (qs.getD m tr0).nu) = true) := by
      show _ = _
      rw [hci.1, List.contains_iff_mem, getD_nu qs m (by omega)]
      exact List.getElem_mem _
    rw [hxd] at HTk
    have hrl := heap_lt hrb
    have HAw : Hid (rg < N ∨ M ≤ rg) := haw rg rfl
    clear haw
    have hgl := heap_lt hg
    have hgr : g ≠ rg := by omega
    have hbr : b ≠ rg := by omega
    have HG := hd hg
    have HRb := hd hrb
    have hm1 : (qs.length : Int) - 1 = (m : Int) := by omega
    have hil : (i : Int) < (qs.length : Int) := by omega
    have hml : (m : Int) < (qs.length : Int) := by omega
    have hmc : m ≤ cap := by omega
    have HM := hd hm
    clear hm
    have h0i : (0 : Int) ≤ (i : Int) := by omega
    have h0m : (0 : Int) ≤ (m : Int) := by omega
    have hgr' : ¬ g = rg := hgr
    have hrg' : ¬ rg = g := fun h => hgr h.symm
    clear hci hrow hown hcell hcell' hcat a0 a1 a2 a3 e0 e1 e2 e3 hg hrb htk hwq hxd
    generalize hxx : qs.getD m tr0 = x at *
    obtain ⟨xn, xl, xlo, xhi⟩ := x
    dsimp only at *
    go_enter Tryz.func93, Tryz.ntmps93
    go_wp2_with (at_lookup; refine wpList_lookup_own_ok_int _ rfl _ _ 153 rfl 3 3 .i64 keyI Tryz.underlying153 Tryz.underlying3 (zeroI _) b qs.length D rfl HO.out _ _ rfl (keyI_mk hw) ?_; intro cc hcc hwc; rw [hh]; have hce := hcc.symm.trans HAt.out; injection hce with hce; injection hce with hce1 hce2; subst hce2)
    clear hcc hwc
    refine Code.wp_mono (Q := fun ex a' w' => ex = .normal ∧ w' = ((((w.setCell ⟨rg, i * 4, none⟩ (.int .i64 xn)).setCell ⟨rg, i * 4 + 1, none⟩ (.int .i64 xl)).setCell ⟨rg, i * 4 + 2, none⟩ (.string xlo)).setCell ⟨rg, i * 4 + 3, none⟩ (.string xhi)).drew ∧ a' = { tmps := #[Value.pointer (some { block := g, off := 0 }), Value.int IntKind.i64 d, undef, undef, Value.int IntKind.i64 ((i : Nat) : Int), Value.bool true, Value.int IntKind.i64 ((m : Nat) : Int), Value.tuple #[Value.int IntKind.i64 ((i : Nat) : Int), Value.bool true], Value.pointer (some { block := g, off := 0 }), Value.pointer (some { block := g, off := 0 }), Value.pointer (some { block := g, off := 1 }), Value.map (some b), Value.int IntKind.i64 d, Value.tuple #[Value.int IntKind.i64 ((i : Nat) : Int), Value.bool true], Value.int IntKind.i64 ((i : Nat) : Int), Value.bool true, Value.bool true, Value.bool false, Value.pointer (some { block := g, off := 0 }), Value.pointer (some { block := g, off := 0 }), Value.pointer (some { block := g, off := 0 }), Value.slice (some { block := rg, off := 0 }) qs.length cap, Value.int IntKind.i64 ((qs.length : Nat) : Int), Value.int IntKind.i64 ((m : Nat) : Int), Value.pointer (some { block := g, off := 0 }), Value.pointer (some { block := g, off := 0 }), Value.pointer (some { block := g, off := 0 }), Value.slice (some { block := rg, off := 0 }) qs.length cap, Value.int IntKind.i64 ((i : Nat) : Int), Value.pointer (some { block := g, off := 0 }), Value.pointer (some { block := g, off := 0 }), Value.pointer (some { block := g, off := 0 }), Value.slice (some { block := rg, off := 0 }) qs.length cap, Value.int IntKind.i64 ((m : Nat) : Int), Value.pointer (some { block := rg, off := m * 4 }), Value.agg #[Value.int IntKind.i64 xn, Value.int IntKind.i64 xl, Value.string xlo, Value.string xhi], Value.pointer (some { block := rg, off := i * 4 }), undef, undef, undef, undef, undef, undef, undef, undef, undef, undef, undef, undef, undef, undef, undef, undef, undef, undef, undef, undef, undef, undef, undef, undef, undef, undef, undef], defers := [] }) ?cont ?reg
    case reg =>
      by_cases hI : i = m
      · subst hI
        clear i0 i1 i2 i3
        go_region_held3 (fun w' => w'.cell? ⟨g, 0, none⟩ = some (.slice (some ⟨rg, 0, none⟩) qs.length cap) ∧ w'.cell? ⟨rg, i * 4, none⟩ = some (.int .i64 xn) ∧ w'.cell? ⟨rg, i * 4 + 1, none⟩ = some (.int .i64 xl) ∧ w'.cell? ⟨rg, i * 4 + 2, none⟩ = some (.string xlo) ∧ w'.cell? ⟨rg, i * 4 + 3, none⟩ = some (.string xhi)) (simp [go_sem, *]) (fail)
        all_goals exact ⟨rfl, rfl, rfl⟩
      · clear hxx
        have n00 : ¬ m * 4 = i * 4 := by omega
        have o00 : ¬ i * 4 = m * 4 := by omega
        have n01 : ¬ m * 4 + 1 = i * 4 := by omega
        have o01 : ¬ i * 4 = m * 4 + 1 := by omega
        have n02 : ¬ m * 4 + 2 = i * 4 := by omega
        have o02 : ¬ i * 4 = m * 4 + 2 := by omega
        have n03 : ¬ m * 4 + 3 = i * 4 := by omega
        have o03 : ¬ i * 4 = m * 4 + 3 := by omega
        have n10 : ¬ m * 4 = i * 4 + 1 := by omega
        have o10 : ¬ i * 4 + 1 = m * 4 := by omega
        have n11 : ¬ m * 4 + 1 = i * 4 + 1 := by omega
        have o11 : ¬ i * 4 + 1 = m * 4 + 1 := by omega
        have n12 : ¬ m * 4 + 2 = i * 4 + 1 := by omega
        have o12 : ¬ i * 4 + 1 = m * 4 + 2 := by omega
        have n13 : ¬ m * 4 + 3 = i * 4 + 1 := by omega
        have o13 : ¬ i * 4 + 1 = m * 4 + 3 := by omega
        have n20 : ¬ m * 4 = i * 4 + 2 := by omega
        have o20 : ¬ i * 4 + 2 = m * 4 := by omega
        have n21 : ¬ m * 4 + 1 = i * 4 + 2 := by omega
        have o21 : ¬ i * 4 + 2 = m * 4 + 1 := by omega
        have n22 : ¬ m * 4 + 2 = i * 4 + 2 := by omega
        have o22 : ¬ i * 4 + 2 = m * 4 + 2 := by omega
        have n23 : ¬ m * 4 + 3 = i * 4 + 2 := by omega
        have o23 : ¬ i * 4 + 2 = m * 4 + 3 := by omega
        have n30 : ¬ m * 4 = i * 4 + 3 := by omega
        have o30 : ¬ i * 4 + 3 = m * 4 := by omega
        have n31 : ¬ m * 4 + 1 = i * 4 + 3 := by omega
        have o31 : ¬ i * 4 + 3 = m * 4 + 1 := by omega
        have n32 : ¬ m * 4 + 2 = i * 4 + 3 := by omega
        have o32 : ¬ i * 4 + 3 = m * 4 + 2 := by omega
        have n33 : ¬ m * 4 + 3 = i * 4 + 3 := by omega
        have o33 : ¬ i * 4 + 3 = m * 4 + 3 := by omega
        go_region_held3 (fun w' => w'.cell? ⟨g, 0, none⟩ = some (.slice (some ⟨rg, 0, none⟩) qs.length cap) ∧ w'.cell? ⟨rg, m * 4, none⟩ = some (.int .i64 xn) ∧ w'.cell? ⟨rg, m * 4 + 1, none⟩ = some (.int .i64 xl) ∧ w'.cell? ⟨rg, m * 4 + 2, none⟩ = some (.string xlo) ∧ w'.cell? ⟨rg, m * 4 + 3, none⟩ = some (.string xhi)) (simp [go_sem, *]) (fail)
        all_goals exact ⟨rfl, rfl, rfl⟩
    case cont =>
      rintro ex a' w' ⟨rfl, rfl, rfl⟩
      dsimp only [Exit.then]
      have hst := stores4 (i := i) HRb.out (.int .i64 xn) (.int .i64 xl) (.string xlo) (.string xhi)
      have hoth : ∀ k, k ≠ rg → ((((w.setCell ⟨rg, i * 4, none⟩ (.int .i64 xn)).setCell ⟨rg, i * 4 + 1, none⟩ (.int .i64 xl)).setCell ⟨rg, i * 4 + 2, none⟩ (.string xlo)).setCell ⟨rg, i * 4 + 3, none⟩ (.string xhi)).drew.heap[k]? = w.heap[k]? := fun k hk => by
        show ((((w.setCell ⟨rg, i * 4, none⟩ (.int .i64 xn)).setCell ⟨rg, i * 4 + 1, none⟩ (.int .i64 xl)).setCell ⟨rg, i * 4 + 2, none⟩ (.string xlo)).setCell ⟨rg, i * 4 + 3, none⟩ (.string xhi)).heap[k]? = _
        rw [Below.heap_setCell _ _ _ _ (by simpa using hk), Below.heap_setCell _ _ _ _ (by simpa using hk), Below.heap_setCell _ _ _ _ (by simpa using hk), Below.heap_setCell _ _ _ _ (by simpa using hk)]
      have hsz3 : ((((w.setCell ⟨rg, i * 4, none⟩ (.int .i64 xn)).setCell ⟨rg, i * 4 + 1, none⟩ (.int .i64 xl)).setCell ⟨rg, i * 4 + 2, none⟩ (.string xlo)).setCell ⟨rg, i * 4 + 3, none⟩ (.string xhi)).drew.heap.size = w.heap.size := by simp [World.setCell]
      have hos : ((((w.setCell ⟨rg, i * 4, none⟩ (.int .i64 xn)).setCell ⟨rg, i * 4 + 1, none⟩ (.int .i64 xl)).setCell ⟨rg, i * 4 + 2, none⟩ (.string xlo)).setCell ⟨rg, i * 4 + 3, none⟩ (.string xhi)).drew.os = w.os ∧ ((((w.setCell ⟨rg, i * 4, none⟩ (.int .i64 xn)).setCell ⟨rg, i * 4 + 1, none⟩ (.int .i64 xl)).setCell ⟨rg, i * 4 + 2, none⟩ (.string xlo)).setCell ⟨rg, i * 4 + 3, none⟩ (.string xhi)).drew.tape = w.tape ∧ ((((w.setCell ⟨rg, i * 4, none⟩ (.int .i64 xn)).setCell ⟨rg, i * 4 + 1, none⟩ (.int .i64 xl)).setCell ⟨rg, i * 4 + 2, none⟩ (.string xlo)).setCell ⟨rg, i * 4 + 3, none⟩ (.string xhi)).drew.output = w.output := ⟨rfl, rfl, rfl⟩
      have hst' : ((((w.setCell ⟨rg, i * 4, none⟩ (.int .i64 xn)).setCell ⟨rg, i * 4 + 1, none⟩ (.int .i64 xl)).setCell ⟨rg, i * 4 + 2, none⟩ (.string xlo)).setCell ⟨rg, i * 4 + 3, none⟩ (.string xhi)).drew.heap[rg]? = some (.cells ((((cur.setIfInBounds (i * 4) (.int .i64 xn)).setIfInBounds (i * 4 + 1) (.int .i64 xl)).setIfInBounds (i * 4 + 2) (.string xlo)).setIfInBounds (i * 4 + 3) (.string xhi)) 45 (0, 0)) := hst
      generalize ((((w.setCell ⟨rg, i * 4, none⟩ (.int .i64 xn)).setCell ⟨rg, i * 4 + 1, none⟩ (.int .i64 xl)).setCell ⟨rg, i * 4 + 2, none⟩ (.string xlo)).setCell ⟨rg, i * 4 + 3, none⟩ (.string xhi)).drew = w3 at *
      clear hst
      have hX0 : w3.cell? ⟨rg, i * 4, none⟩ = some (.int .i64 xn) := by
        have hsz : i * 4 < cur.size := by have := HM.out; omega
        simp [World.cell?, hst', Array.getElem?_setIfInBounds, hsz]
      have hG3 := (hoth g hgr).trans HG.out
      have HO3 : Hid (w3.ownsMap Tryz.prog 3 (plainElem Tryz.prog 3) b qs.length D) := by
        obtain ⟨es, cl, hmb, r⟩ := HO.out
        exact ⟨es, cl, (hoth b hbr).trans hmb, r⟩
      obtain ⟨w4, hrun, hown4, hturn4⟩ := HO3.out.drew.store (t := 153) keyI Tryz.underlying153 (by unfold maxLen; omega) (keyI_mk HXn.out) (plainElem_int Tryz.underlying3 (wfN i (by omega)))
      have hgr4 := hturn4.grown
      have hbg4 : ∀ k, k < w3.heap.size → k ≠ b → w4.heap[k]? = w3.heap[k]? := fun k hk hne => hgr4.block k hk (fun e => hne (by injection e))
      have hgl3 : g < w3.heap.size := by omega
      have hrl3 : rg < w3.heap.size := by omega
      have hG4 := (hbg4 g hgl3 hgb).trans hG3
      clear c0 c1 z0 z1 m0 m1 m2 m3 i0 i1 i2 i3 f0 f1 f2 f3
      obtain ⟨c0, c1, z0, z1⟩ := two_cells hG3
      obtain ⟨y0, y1, v0, v1⟩ := two_cells hG4
      have hX4 : w4.cell? ⟨rg, i * 4, none⟩ = some (.int .i64 xn) := by
        have e : w4.cell? ⟨rg, i * 4, none⟩ = w3.cell? ⟨rg, i * 4, none⟩ := by simp only [World.cell?, hbg4 rg hrl3 (fun h => hbr h.symm)]
        rw [e]; exact hX0
      have HG4 := hd hG4
      have HO4 := hd hown4
      clear hG3 hown4
      go_wp2_with fail
      go_region_held3 (fun w' => w'.cell? ⟨g, 1, none⟩ = some (.map (some b)) ∧ w'.cell? ⟨g, 0, none⟩ = some (.slice (some ⟨rg, 0, none⟩) qs.length cap) ∧ w'.cell? ⟨rg, i * 4, none⟩ = some (.int .i64 xn)) (simp [go_sem, *]) (fail)
      have HO5 : Hid ((w4.setCell ⟨g, 0, none⟩ (.slice (some ⟨rg, 0, none⟩) m cap)).ownsMap Tryz.prog 3 (plainElem Tryz.prog 3) b (qs.length + 1) (D.put (.int .i64 xn) (.lit (.int .i64 (i : Int))))) := HO4.out.setCell (a := ⟨g, 0, none⟩) (fun e => hgb e.symm) _
      go_wp2_with (at_delete; refine wpList_delete_own _ rfl _ _ 153 3 rfl 3 keyI Tryz.underlying153 (plainElem Tryz.prog 3) b (qs.length + 1) _ rfl HO5.out _ _ rfl (keyI_mk hw) ?_; intro w6 hown6 hturn6)
      go_end0
      have hgr6 := hturn6.grown
      have hsz4 : w3.heap.size ≤ w4.heap.size := hgr4.size
      have hsz5 : (w4.setCell ⟨g, 0, none⟩ (.slice (some ⟨rg, 0, none⟩) m cap)).heap.size = w4.heap.size := by simp [World.setCell]
      have hsz6 : w4.heap.size ≤ w6.heap.size := by have := hgr6.size; omega
      have h64 : ∀ k, k < w.heap.size → k ≠ b → k ≠ g → w6.heap[k]? = w3.heap[k]? := fun k hk h1' h2' =>
        ((hgr6.block k (by omega) (fun e => h1' (by injection e))).trans (Below.heap_setCell _ _ _ _ (by simpa using h2'))).trans (hbg4 k (by omega) h1')
      have h60 : ∀ k, k < w.heap.size → k ≠ b → k ≠ g → k ≠ rg → w6.heap[k]? = w.heap[k]? := fun k hk h1' h2' h3' => (h64 k hk h1' h2').trans (hoth k h3')
      have hlen : (swT qs i).length = m := by rw [swT_len]; have := HM.out; omega
      have hG6 : w6.heap[g]? = some (.cells #[.slice (some ⟨rg, 0, none⟩) m cap, .map (some b)] 155 (0, 0)) := (hgr6.block g (by omega) (fun e => hgb (by injection e))).trans (setB HG4.out _)
      have hR6 := (h64 rg hrl (fun h => hbr h.symm) (fun h => hgr h.symm)).trans hst'
      refine ⟨rfl, ⟨(hgr6.os.trans hgr4.os).trans hos.1, (hgr6.tape.trans hgr4.tape).trans hos.2.1, (hgr6.output.trans hgr4.output).trans hos.2.2, by omega, fun k hk => h60 k (by omega) (by omega) (by omega) (by omega)⟩, fun k o ho h1' h2' h3' => ?_, fun k h1' h2' => h60 k (by omega) (by omega) (by omega) (by have := HAw.out; omega), swT qs i, HPm.out, .slice (some ⟨rg, 0, none⟩) m cap, (D.put (.int .i64 xn) (.lit (.int .i64 (i : Int)))).del (.int .i64 d), hG6, ?_, ?_, ?_, fun k h => by injection h with h; rw [← h]; exact HAw.out⟩
      · by_cases e : k = rg
        · subst e
          rw [HRb.out] at ho
          injection ho with ho
          exact absurd ho.symm (h3' _ _)
        · exact (h60 k (heap_lt ho) h2' h1' e).trans ho
      · rw [hlen]
        have hs1 := size_take (H := Unit) (D := D) (x := .int .i64 xn) (d := .int .i64 d) (v := .lit (.int .i64 (i : Int))) (HO.out.tidy keyI) (keyLitI _) HHas.out hh
        have hs2 := HO.out.size_le
        exact owns_more (owns_tight hown6) (by have := HM.out; omega)
      · have h := HTk.out
        rw [hnu] at h
        exact h
      · rw [hlen]
        have hL : (cellsT (swT qs i)).length = m * 4 := by rw [cellsT_len, hlen]
        refine ⟨hL, .inr ⟨rg, cap, _, rfl, hrB, hR6, hmc, hcm, by simp [hcs], ?_⟩⟩
        rw [HSw.out, cellsT_take]
        refine List.ext_getElem? fun j => ?_
        by_cases hj : j < m * 4
        · rw [List.getElem?_take_of_lt hj, List.getElem?_take_of_lt hj]
          have h := HX.out j (by have := HM.out; omega)
          rw [← h]
          exact Array.getElem?_toList ..
        · rw [List.getElem?_eq_none (by simp; omega), List.getElem?_eq_none (by simp; omega)]
end Go.Proofs.YtphikgobdfknkaaGreatDoor
