import Derived.Test.YtgkhjjnhikbdaaaNwS
namespace Go.Proofs.Ytgkhjjnhikbdaaa
open Go.RowKit Go.Maps
set_option linter.unusedVariables false
set_option linter.unusedSimpArgs false

theorem ordE_eq (a b : En) : ordE a b = 0 ↔ (befE a b = false ∧ befE b a = false) := by
  obtain ⟨h1, h2⟩ := compare_less a.ky.data.toList b.ky.data.toList
  constructor
  · intro h
    unfold ordE at h
    by_cases hz : Lib.compareBytes a.ky.data.toList b.ky.data.toList = 0
    · rw [if_neg (by rw [hz]; simp)] at h
      have he : a.ky = b.ky := ByteArray.ext (Array.toList_inj.1 (h2.1 hz))
      have hs : a.sq = b.sq := by
        unfold cmpI at h
        by_cases c1 : b.sq < a.sq
        · rw [if_pos c1] at h; omega
        · rw [if_neg c1] at h
          by_cases c2 : a.sq < b.sq
          · rw [if_pos c2] at h; omega
          · omega
      unfold befE
      rw [if_pos he, if_pos he.symm]
      simp [hs]
    · rw [if_pos hz] at h; exact absurd h hz
  · rintro ⟨f1, f2⟩
    have he : a.ky = b.ky := by
      rcases Decidable.em (a.ky = b.ky) with he | he
      · exact he
      · rcases lessB_totN he with h | h
        · unfold befE at f1; rw [if_neg he, h] at f1; cases f1
        · unfold befE at f2; rw [if_neg (fun e => he e.symm), h] at f2; cases f2
    have hz : Lib.compareBytes a.ky.data.toList b.ky.data.toList = 0 := h2.2 (by rw [he])
    unfold befE at f1 f2
    rw [if_pos he] at f1
    rw [if_pos he.symm] at f2
    unfold ordE
    rw [if_neg (by rw [hz]; simp)]
    unfold cmpI
    simp at f1 f2
    rw [if_neg (by omega), if_neg (by omega)]
/-- The order of the fronts: by their entries, then by their places. -/
def ltF (x : En) (p : Nat) (y : En) (q : Nat) : Bool := befE x y || (!befE y x && decide (p < q))
theorem ltF_or (x y : En) (p q : Nat) : decide (orI (ordE x y) (cmpI (p : Int) (q : Int)) < 0) = ltF x p y q := by
  have h1 := ordE_lt x y
  have h2 := ordE_eq x y
  unfold orI ltF
  by_cases hz : ordE x y = 0
  · obtain ⟨f1, f2⟩ := h2.1 hz
    rw [if_neg (by simp [hz]), f1, f2]
    unfold cmpI
    by_cases c1 : p < q
    · rw [if_pos (by omega)]; simp [c1]
    · rw [if_neg (by omega)]
      by_cases c2 : q < p
      · rw [if_pos (by omega)]; simp [c1]
      · rw [if_neg (by omega)]; simp [c1]
  · rw [if_pos hz]
    cases hb : befE x y with
    | true => rw [hb] at h1; simp at h1; simp; omega
    | false =>
      rw [hb] at h1
      simp at h1
      cases hc : befE y x with
      | true => simp; omega
      | false => exact absurd (h2.2 ⟨hb, hc⟩) hz
def ltP (hd : Nat → En) (p q : Nat) : Bool := ltF (hd p) p (hd q) q
theorem ltP_swo (hd : Nat → En) : Swo (ltP hd) := by
  refine ⟨fun a => ?_, fun a b c h1 h2 => ?_, fun a b c h1 h2 => ?_⟩
  · simp [ltP, ltF, befE_swo.irr]
  · simp only [ltP, ltF, Bool.or_eq_true, Bool.and_eq_true, Bool.not_eq_true', decide_eq_true_iff] at h1 h2 ⊢
    rcases h1 with h1 | ⟨h1, k1⟩ <;> rcases h2 with h2 | ⟨h2, k2⟩
    · exact .inl (befE_swo.tr _ _ _ h1 h2)
    · exact .inl (lt_of_lt_le h1 h2)
    · exact .inl (lt_of_le_lt h1 h2)
    · exact .inr ⟨befE_swo.neg _ _ _ h2 h1, by omega⟩
  · simp only [ltP, ltF, Bool.or_eq_false_iff, Bool.and_eq_false_iff, Bool.not_eq_false', decide_eq_false_iff_not] at h1 h2 ⊢
    obtain ⟨f1, g1⟩ := h1
    obtain ⟨f2, g2⟩ := h2
    refine ⟨befE_swo.neg _ _ _ f1 f2, ?_⟩
    rcases g1 with g1 | g1 <;> rcases g2 with g2 | g2
    · exact .inl (befE_swo.tr _ _ _ g2 g1)
    · exact .inl (lt_of_le_lt f2 g1)
    · exact .inl (lt_of_lt_le g2 f1)
    · cases hc : befE (hd c) (hd a) with
      | true => exact .inl rfl
      | false => exact .inr (by omega)
/-- From index i on each comes not before the one above it. -/
def HpF (lt : Nat → Nat → Bool) (ps : List Nat) (i : Nat) : Prop := ∀ c, 0 < c → c < ps.length → i ≤ (c - 1) / 2 → lt (ps.getD c 0) (ps.getD ((c - 1) / 2) 0) = false
/-- On the way down: all is in order but at index i. -/
structure SnkI (lt : Nat → Nat → Bool) (ps : List Nat) (i0 i : Nat) : Prop where
  le : i0 ≤ i
  ok : ∀ c, 0 < c → c < ps.length → i0 ≤ (c - 1) / 2 → (c - 1) / 2 ≠ i → lt (ps.getD c 0) (ps.getD ((c - 1) / 2) 0) = false
  up : i ≠ i0 → i0 ≤ (i - 1) / 2 ∧ ∀ c, 0 < c → c < ps.length → (c - 1) / 2 = i → lt (ps.getD c 0) (ps.getD ((i - 1) / 2) 0) = false
theorem SnkI.start {lt : Nat → Nat → Bool} {ps : List Nat} {i : Nat} (h : HpF lt ps (i + 1)) : SnkI lt ps i i :=
  ⟨Nat.le_refl _, fun c h1 h2 h3 h4 => h c h1 h2 (by omega), fun h => absurd rfl h⟩
/-- How far the search among the two below has come. -/
structure ChI (lt : Nat → Nat → Bool) (ps : List Nat) (i c l : Nat) : Prop where
  c1 : 2 * i + 1 ≤ c
  c2 : c ≤ 2 * i + 3
  l1 : l = i ∨ (2 * i + 1 ≤ l ∧ l < c ∧ l < ps.length ∧ lt (ps.getD l 0) (ps.getD i 0) = true)
  ok : ∀ d, 2 * i + 1 ≤ d → d < c → d < ps.length → lt (ps.getD d 0) (ps.getD l 0) = false
theorem ChI.start (lt : Nat → Nat → Bool) (ps : List Nat) (i : Nat) : ChI lt ps i (2 * i + 1) i := ⟨Nat.le_refl _, by omega, .inl rfl, fun d h1 h2 => by omega⟩
theorem ChI.take {lt : Nat → Nat → Bool} (hs : Swo lt) {ps : List Nat} {i c l : Nat} (h : ChI lt ps i c l) (hc : c ≤ 2 * i + 2) (hl : c < ps.length) (hlt : lt (ps.getD c 0) (ps.getD l 0) = true) : ChI lt ps i (c + 1) c := by
  refine ⟨by have := h.c1; omega, by omega, .inr ⟨h.c1, by omega, hl, ?_⟩, fun d h1 h2 h3 => ?_⟩
  · rcases h.l1 with rfl | ⟨_, _, _, h4⟩
    · exact hlt
    · exact hs.tr _ _ _ hlt h4
  · by_cases hd : d = c
    · subst hd; exact hs.irr _
    · have h4 := h.ok d h1 (by omega) h3
      cases hx : lt (ps.getD d 0) (ps.getD c 0) with
      | false => rfl
      | true => rw [hs.tr _ _ _ hx hlt] at h4; cases h4
theorem ChI.pass {lt : Nat → Nat → Bool} {ps : List Nat} {i c l : Nat} (h : ChI lt ps i c l) (hc : c ≤ 2 * i + 2) (hlt : lt (ps.getD c 0) (ps.getD l 0) = false) : ChI lt ps i (c + 1) l := by
  refine ⟨by have := h.c1; omega, by omega, ?_, fun d h1 h2 h3 => ?_⟩
  · rcases h.l1 with h1 | ⟨h1, h2, h3, h4⟩
    · exact .inl h1
    · exact .inr ⟨h1, by omega, h3, h4⟩
  · by_cases hd : d = c
    · subst hd; exact hlt
    · exact h.ok d h1 (by omega) h3
/-- Two of a row change places. -/
def swpP (ps : List Nat) (i j : Nat) : List Nat := (ps.set i (ps.getD j 0)).set j (ps.getD i 0)
theorem swpP_length (ps : List Nat) (i j : Nat) : (swpP ps i j).length = ps.length := by simp [swpP]
theorem swpP_get (ps : List Nat) {i j : Nat} (hi : i < ps.length) (hj : j < ps.length) (hij : i ≠ j) (k : Nat) : (swpP ps i j).getD k 0 = if k = j then ps.getD i 0 else if k = i then ps.getD j 0 else ps.getD k 0 := by
  unfold swpP
  rw [List.getD_eq_getElem?_getD, List.getElem?_set]
  by_cases h1 : j = k
  · subst h1; simp [hj]
  · rw [if_neg h1, if_neg (fun e => h1 e.symm), List.getElem?_set]
    by_cases h2 : i = k
    · subst h2; simp [hi]
    · rw [if_neg h2, if_neg (fun e => h2 e.symm), ← List.getD_eq_getElem?_getD]
theorem swpP_perm (ps : List Nat) {i j : Nat} (hi : i < ps.length) (hj : j < ps.length) (hij : i ≠ j) : (swpP ps i j).Perm ps := by
  unfold swpP
  have e1 : ps.getD j 0 = ps[j] := by simp [List.getD, hj]
  have e2 : ps.getD i 0 = ps[i] := by simp [List.getD, hi]
  rw [e1, e2]
  exact List.set_set_perm hi hj
theorem SnkI.done {lt : Nat → Nat → Bool} (hs : Swo lt) {ps : List Nat} {i0 i c : Nat} (h : SnkI lt ps i0 i) (k : ChI lt ps i c i) (hc : ¬ (c ≤ 2 * i + 2 ∧ c < ps.length)) : HpF lt ps i0 := fun d h1 h2 h3 => by
  by_cases hd : (d - 1) / 2 = i
  · rw [hd]
    exact k.ok d (by omega) (by have := k.c1; omega) h2
  · exact h.ok d h1 h2 h3 hd
theorem SnkI.step {lt : Nat → Nat → Bool} (hs : Swo lt) {ps : List Nat} {i0 i c l : Nat} (h : SnkI lt ps i0 i) (k : ChI lt ps i c l) (hc : ¬ (c ≤ 2 * i + 2 ∧ c < ps.length)) (hl : l ≠ i) :
    i < l ∧ l < ps.length ∧ SnkI lt (swpP ps i l) i0 l := by
  have hc1 := k.c1
  have hi0 := h.le
  rcases k.l1 with h1 | ⟨l1, l2, l3, l4⟩
  · exact absurd h1 hl
  have hil : i < ps.length := by omega
  have hil2 : i ≠ l := fun e => hl e.symm
  have hlc : (l - 1) / 2 = i := by have := k.c2; omega
  have g := fun x => swpP_get ps hil l3 hil2 x
  refine ⟨by omega, l3, by omega, fun d h1 h2 h3 h4 => ?_, fun _ => ⟨by omega, fun d h1 h2 h3 => ?_⟩⟩
  · rw [swpP_length] at h2
    rw [g d, g ((d - 1) / 2), if_neg h4]
    by_cases d1 : d = l
    · subst d1
      rw [if_pos rfl, if_pos hlc]
      exact hs.asy l4
    · rw [if_neg d1]
      by_cases d2 : d = i
      · subst d2
        have hdd : (d - 1) / 2 ≠ d := by omega
        rw [if_pos rfl, if_neg hdd]
        have hne : d ≠ i0 := by omega
        exact (h.up hne).2 l (by omega) l3 hlc
      · rw [if_neg d2]
        by_cases d3 : (d - 1) / 2 = i
        · rw [if_pos d3]
          exact k.ok d (by omega) (by omega) h2
        · rw [if_neg d3]
          exact h.ok d h1 h2 h3 d3
  · rw [swpP_length] at h2
    have d1 : d ≠ l := by omega
    have d2 : d ≠ i := by omega
    rw [g d, if_neg d1, if_neg d2, g ((l - 1) / 2), hlc, if_neg hil2, if_pos rfl]
    have := h.ok d h1 h2 (by omega) (by omega)
    rw [h3] at this
    exact this
/-- In a heap the first comes not behind any other. -/
theorem HpF.min {lt : Nat → Nat → Bool} (hs : Swo lt) {ps : List Nat} (h : HpF lt ps 0) : ∀ i, i < ps.length → lt (ps.getD i 0) (ps.getD 0 0) = false := by
  intro i
  induction i using Nat.strongRecOn with
  | _ i ih =>
    intro hi
    by_cases h0 : i = 0
    · subst h0; exact hs.irr _
    · exact hs.neg _ _ _ (h i (by omega) hi (Nat.zero_le _)) (ih ((i - 1) / 2) (by omega) (by omega))
end Go.Proofs.Ytgkhjjnhikbdaaa
