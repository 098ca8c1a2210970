import Derived.Test.YtgkhjjnhikbdaaaNaE

namespace Go.Proofs.Ytgkhjjnhikbdaaa
open Go.RowKit Go.Maps
set_option linter.unusedVariables false
set_option linter.unusedSimpArgs false

/-- The entries with a key. -/
def kf (k : ByteArray) (xs : List En) : List En := xs.filter fun e => decide (e.ky = k)
theorem kf_app (k : ByteArray) (xs ys : List En) : kf k (xs ++ ys) = kf k xs ++ kf k ys := by simp [kf]
theorem srt_kf (k : ByteArray) (xs : List En) : kf k (srt befE xs) = srt befE (kf k xs) := by
  obtain ⟨h1, h2⟩ := srt_ok befE_swo xs
  refine srt_of befE_swo (h1.filter _) (fun c => ?_)
  unfold kf
  rw [List.filter_filter, List.filter_filter]
  have e : ∀ ys : List En, ys.filter (fun a => eqv befE c a && decide (a.ky = k)) = (ys.filter (eqv befE c)).filter (fun e => decide (e.ky = k)) := fun ys => by
    rw [List.filter_filter]
    congr 1
    funext a
    rw [Bool.and_comm]
  rw [e xs, e (srt befE xs), h2 c]
theorem eqv_ky {c x : En} (h : eqv befE c x = true) : x.ky = c.ky := by
  simp only [eqv, Bool.and_eq_true, Bool.not_eq_true'] at h
  rcases Decidable.em (x.ky = c.ky) with e | e
  · exact e
  · obtain ⟨h1, h2⟩ := h
    unfold befE at h1 h2
    rw [if_neg (fun e' => e e'.symm)] at h1
    rw [if_neg e] at h2
    rcases lessB_totN e with h | h
    · rw [h] at h2; cases h2
    · rw [h] at h1; cases h1
/-- Two rows in order with the same entries of each key are the same. -/
theorem kf_uniq {xs ys : List En} (h1 : Srtd befE xs) (h2 : Srtd befE ys) (h : ∀ k, kf k xs = kf k ys) : xs = ys := by
  refine sm_uniq befE_swo h1 h2 (fun c => ?_)
  have e : ∀ zs : List En, zs.filter (eqv befE c) = (kf c.ky zs).filter (eqv befE c) := fun zs => by
    unfold kf
    rw [List.filter_filter]
    refine List.filter_congr (fun a ha => ?_)
    cases hq : eqv befE c a with
    | false => simp
    | true => simp [eqv_ky hq]
  rw [e xs, e ys, h]
theorem ky_between {a b c : En} (h1 : befE b a = false) (h2 : befE c b = false) (hk : a.ky = c.ky) : b.ky = a.ky := by
  rcases Decidable.em (b.ky = a.ky) with e | e
  · exact e
  · unfold befE at h1 h2
    rw [if_neg e] at h1
    rw [if_neg (fun e' => e (e'.symm.trans hk.symm))] at h2
    rcases lessB_totN e with h | h
    · rw [h] at h1; cases h1
    · rw [hk] at h; rw [h] at h2; cases h2
/-- Of each key the first. -/
theorem nwF_kf (k : ByteArray) : ∀ n (S : List En), S.length = n → Srtd befE S → kf k (nwF S) = ((kf k S).head?).toList ∧ (nwF S).Sublist S := by
  intro n
  induction n with
  | zero =>
    intro S hl _
    have : S = [] := List.length_eq_zero_iff.1 hl
    subst this
    exact ⟨rfl, List.Sublist.refl _⟩
  | succ n ih =>
    intro S hl hS
    rcases List.eq_nil_or_concat S with h0 | ⟨T, x, hT⟩
    · rw [h0] at hl; simp at hl
    · have hT' : S = T ++ [x] := by simpa using hT
      subst hT'
      obtain ⟨s1, -, s3⟩ := List.pairwise_append.1 hS
      obtain ⟨i1, i2⟩ := ih T (by simpa using hl) s1
      rw [nwF_snoc, kf_app]
      unfold nwA
      have hx1 : ∀ y ∈ T, befE x y = false := fun y hy => s3 y hy x (by simp)
      have hlast : ∀ y, (nwF T).getLast? = some y → ∃ z, T.getLast? = some z ∧ z.ky = y.ky := fun y hy => by
        have hne : T ≠ [] := fun e => by rw [e] at hy; simp [nwF] at hy
        obtain ⟨y', e1, e2⟩ := nwF_ne T hne
        rw [hy] at e1
        cases e1
        cases hz : T.getLast? with
        | none => rw [hz] at e2; simp at e2
        | some z => rw [hz] at e2; simp at e2; exact ⟨z, rfl, e2⟩
      by_cases hk : (nwF T).getLast?.map En.ky = some x.ky
      · rw [if_pos hk]
        refine ⟨?_, i2.trans (List.sublist_append_left _ _)⟩
        rw [i1]
        by_cases hxk : x.ky = k
        · cases hy : (nwF T).getLast? with
          | none => rw [hy] at hk; simp at hk
          | some y =>
            rw [hy] at hk
            simp at hk
            obtain ⟨z, hz1, hz2⟩ := hlast y hy
            have hzm : z ∈ kf k T := by
              unfold kf
              rw [List.mem_filter]
              exact ⟨List.mem_of_getLast? hz1, by simp [hz2, hk, hxk]⟩
            cases hh : kf k T with
            | nil => rw [hh] at hzm; simp at hzm
            | cons a r => simp
        · have : kf k [x] = [] := by simp [kf, hxk]
          rw [this, List.append_nil]
      · rw [if_neg hk]
        refine ⟨?_, List.Sublist.append i2 (List.Sublist.refl _)⟩
        rw [kf_app, i1]
        by_cases hxk : x.ky = k
        · have hone : kf k [x] = [x] := by simp [kf, hxk]
          rw [hone]
          cases hh : kf k T with
          | nil => simp
          | cons a r =>
            exfalso
            have ham : a ∈ kf k T := by rw [hh]; simp
            obtain ⟨ha1, ha2⟩ := List.mem_filter.1 ham
            simp at ha2
            have hne : T ≠ [] := fun e => by rw [e] at ha1; simp at ha1
            obtain ⟨y, e1, e2⟩ := nwF_ne T hne
            cases hz : T.getLast? with
            | none => rw [hz] at e2; simp at e2
            | some z =>
              rw [hz] at e2
              simp at e2
              have hzm := List.mem_of_getLast? hz
              have hza : befE z a = false := by
                obtain ⟨U, hU⟩ := List.getLast?_eq_some_iff.1 hz
                rw [hU] at s1 ha1
                rcases List.mem_append.1 ha1 with h | h
                · exact (List.pairwise_append.1 s1).2.2 a h z (by simp)
                · have : a = z := by simpa using h
                  rw [this]; exact befE_swo.irr _
              have := ky_between hza (hx1 z hzm) (by rw [ha2, hxk])
              apply hk
              rw [e1]
              simp
              rw [← e2, this, ha2, hxk]
        · have : kf k [x] = [] := by simp [kf, hxk]
          rw [this, List.append_nil, List.append_nil]
theorem newE_kf (k : ByteArray) (xs : List En) : kf k (newE xs) = ((srt befE (kf k xs)).head?).toList ∧ Srtd befE (newE xs) := by
  rw [← nwF_new]
  obtain ⟨h1, -⟩ := srt_ok befE_swo xs
  obtain ⟨e1, e2⟩ := nwF_kf k _ (srt befE xs) rfl h1
  exact ⟨by rw [e1, srt_kf], h1.sublist e2⟩
theorem mrg_head (a b : List En) : (mrg befE a b).head? = match a.head?, b.head? with
    | none, y => y
    | some x, none => some x
    | some x, some y => if befE y x = true then some y else some x := by
  cases a with
  | nil => simp [mrg]
  | cons x a =>
    cases b with
    | nil => simp [mrg]
    | cons y b =>
      unfold mrg
      cases h : befE y x <;> simp [h]
theorem srt_app_head (a b : List En) : (srt befE (a ++ b)).head? = match (srt befE a).head?, (srt befE b).head? with
    | none, y => y
    | some x, none => some x
    | some x, some y => if befE y x = true then some y else some x := by
  rw [← mrg_srt befE_swo, mrg_head]
theorem srt_opt (o : Option En) : (srt befE o.toList).head? = o := by
  cases o with
  | none => rfl
  | some x => simp [srt, insE]
/-- The newest of two parts' newest. -/
theorem newE_two (A B : List En) : newE (newE A ++ newE B) = newE (A ++ B) := by
  refine kf_uniq (newE_kf ByteArray.empty _).2 (newE_kf ByteArray.empty _).2 (fun k => ?_)
  rw [(newE_kf k _).1, (newE_kf k _).1, kf_app, kf_app, srt_app_head, srt_app_head, (newE_kf k A).1, (newE_kf k B).1, srt_opt, srt_opt]
end Go.Proofs.Ytgkhjjnhikbdaaa
