import Derived.Test.YtgkhjjnhikbdaaaNwE

namespace Go.Proofs.Ytgkhjjnhikbdaaa
open Go.RowKit Go.Maps
set_option linter.unusedVariables false
set_option linter.unusedSimpArgs false

theorem swp_get (xs : List En) (i j t : Nat) (hi : i < xs.length) (hj : j < xs.length) (hij : i < j) : (swp xs i j)[t]? = if t = i then xs[j]? else if t = j then xs[i]? else xs[t]? := by
  unfold swp
  have ei : xs[i]? = some (xs.getD i en0) := by rw [List.getElem?_eq_getElem hi]; simp [List.getD, hi]
  have ej : xs[j]? = some (xs.getD j en0) := by rw [List.getElem?_eq_getElem hj]; simp [List.getD, hj]
  rw [List.getElem?_set, List.getElem?_set, List.length_set, ei, ej]
  by_cases h1 : t = i
  · subst h1
    rw [if_neg (by omega), if_pos rfl, if_pos rfl, if_pos hi]
  · rw [if_neg h1]
    by_cases h2 : t = j
    · subst h2
      rw [if_pos rfl, if_pos rfl, if_pos hj]
    · rw [if_neg (fun e => h2 e.symm), if_neg (fun e => h1 e.symm), if_neg h2]
theorem swpN_get (xs : List En) (a b k : Nat) (h1 : a + k ≤ b) (h2 : b + k ≤ xs.length) : ∀ t, (swpN xs a b k)[t]? = if a ≤ t ∧ t < a + k then xs[b + (t - a)]? else if b ≤ t ∧ t < b + k then xs[a + (t - b)]? else xs[t]? := by
  induction k with
  | zero => intro t; rw [if_neg (by omega), if_neg (by omega)]; rfl
  | succ k ih =>
    intro t
    have ih' := ih (by omega) (by omega)
    rw [swpN, swp_get _ _ _ _ (by rw [swpN_length]; omega) (by rw [swpN_length]; omega) (by omega), ih' (b + k), ih' (a + k), ih' t]
    by_cases e1 : t = a + k
    · subst e1
      rw [if_pos rfl, if_neg (by omega), if_neg (by omega), if_pos (by omega)]
      congr 1; omega
    · rw [if_neg e1]
      by_cases e2 : t = b + k
      · subst e2
        rw [if_pos rfl, if_neg (by omega), if_neg (by omega), if_neg (by omega), if_pos (by omega)]
        congr 1; omega
      · rw [if_neg e2]
        by_cases c1 : a ≤ t ∧ t < a + k
        · rw [if_pos c1, if_pos (by omega)]
        · rw [if_neg c1, if_neg (c := a ≤ t ∧ t < a + (k + 1)) (by omega)]
          by_cases c2 : b ≤ t ∧ t < b + k
          · rw [if_pos c2, if_pos (by omega)]
          · rw [if_neg c2, if_neg (by omega)]
/-- Two blocks of one length change places. -/
theorem swpN_blocks (X P Q R Y : List En) (hk : P.length = R.length) : swpN (X ++ P ++ Q ++ R ++ Y) X.length (X.length + P.length + Q.length) P.length = X ++ R ++ Q ++ P ++ Y := by
  apply List.ext_getElem?
  intro t
  rw [swpN_get _ _ _ _ (by omega) (by simp; omega)]
  simp only [List.append_assoc]
  by_cases c1 : X.length ≤ t ∧ t < X.length + P.length
  · rw [if_pos c1]
    rw [List.getElem?_append_right (by omega), List.getElem?_append_right (by omega), List.getElem?_append_right (by omega), List.getElem?_append_left (by omega)]
    rw [List.getElem?_append_right (by omega), List.getElem?_append_left (by omega)]
    congr 1; omega
  · rw [if_neg c1]
    by_cases c2 : X.length + P.length + Q.length ≤ t ∧ t < X.length + P.length + Q.length + P.length
    · rw [if_pos c2]
      rw [List.getElem?_append_right (by omega), List.getElem?_append_left (by omega)]
      rw [List.getElem?_append_right (by omega), List.getElem?_append_right (by omega), List.getElem?_append_right (by omega), List.getElem?_append_left (by omega)]
      congr 1; omega
    · rw [if_neg c2]
      by_cases d1 : t < X.length
      · rw [List.getElem?_append_left d1, List.getElem?_append_left d1]
      · have l : (X ++ (P ++ (Q ++ (R ++ Y))))[t]? = (Q ++ (R ++ Y))[t - X.length - P.length]? := by rw [List.getElem?_append_right (by omega), List.getElem?_append_right (by omega)]
        have r : (X ++ (R ++ (Q ++ (P ++ Y))))[t]? = (Q ++ (P ++ Y))[t - X.length - R.length]? := by rw [List.getElem?_append_right (by omega), List.getElem?_append_right (by omega)]
        rw [l, r]
        by_cases d2 : t < X.length + P.length + Q.length
        · rw [List.getElem?_append_left (by omega), List.getElem?_append_left (by omega)]
          congr 1; omega
        · have l2 : (Q ++ (R ++ Y))[t - X.length - P.length]? = Y[t - X.length - P.length - Q.length - R.length]? := by rw [List.getElem?_append_right (by omega), List.getElem?_append_right (by omega)]
          have r2 : (Q ++ (P ++ Y))[t - X.length - R.length]? = Y[t - X.length - R.length - Q.length - P.length]? := by rw [List.getElem?_append_right (by omega), List.getElem?_append_right (by omega)]
          rw [l2, r2]
          congr 1; omega
end Go.Proofs.Ytgkhjjnhikbdaaa
