import Derived.Test.YtgkhjjnhikbdaaaNwP

import Derived.Sort.Walk0
import Derived.Deep.RegionLaw
namespace Go.Proofs.Ytgkhjjnhikbdaaa
open Go.RowKit Go.Maps
set_option linter.unusedVariables false
set_option linter.unusedSimpArgs false

theorem lessB_lt (a b : ByteArray) : lessB a b = decide (a.data.toList < b.data.toList) := by
  unfold lessB
  rw [bytesLess_eq, ByteArray.toList_eq, ByteArray.toList_eq]
theorem lessB_irrN (a : ByteArray) : lessB a a = false := by rw [lessB_lt]; simp
theorem lessB_trN {a b c : ByteArray} (h1 : lessB a b = true) (h2 : lessB b c = true) : lessB a c = true := by
  rw [lessB_lt] at *
  simp only [decide_eq_true_eq] at *
  exact List.lt_trans h1 h2
theorem less_totalN : ∀ (a b : List UInt8), (Op.bytesLess a b || a == b) = !Op.bytesLess b a
  | [], [] => by simp [Op.bytesLess]
  | [], y :: b => by simp [Op.bytesLess]
  | x :: a, [] => by simp [Op.bytesLess]
  | x :: a, y :: b => by
    have ih := less_totalN a b
    by_cases hxy : x = y
    · subst hxy
      have hlt : ¬ x < x := by simp
      simp [Op.bytesLess, hlt]
      simpa using ih
    · by_cases hlt : x < y
      · have hlt2 : ¬ y < x := fun h => by rw [UInt8.lt_iff_toNat_lt] at h hlt; omega
        simp [Op.bytesLess, hxy, hlt, hlt2, Ne.symm hxy]
      · have hlt2 : y < x := by
          have : x.toNat ≠ y.toNat := fun h => hxy (UInt8.toNat_inj.1 h)
          rw [UInt8.lt_iff_toNat_lt] at hlt ⊢
          omega
        simp [Op.bytesLess, hxy, hlt, hlt2, Ne.symm hxy]
theorem lessB_totN {a b : ByteArray} (hne : a ≠ b) : lessB a b = true ∨ lessB b a = true := by
  have hne2 : a.data.toList ≠ b.data.toList := fun e => hne (ByteArray.ext (Array.toList_inj.1 e))
  have h := less_totalN a.data.toList b.data.toList
  have e : (a.data.toList == b.data.toList) = false := by simpa using hne2
  unfold lessB
  rw [ByteArray.toList_eq, ByteArray.toList_eq]
  rw [e, Bool.or_false] at h
  cases hb : Op.bytesLess b.data.toList a.data.toList with
  | true => exact .inr rfl
  | false => rw [hb] at h; exact .inl h
theorem befE_swo : Swo befE := by
  refine ⟨fun a => ?_, fun a b c h1 h2 => ?_, fun a b c h1 h2 => ?_⟩
  · unfold befE; rw [if_pos rfl]; simp
  · unfold befE at *
    by_cases hab : a.ky = b.ky
    · rw [if_pos hab] at h1
      by_cases hbc : b.ky = c.ky
      · rw [if_pos hbc] at h2
        rw [if_pos (hab.trans hbc)]
        simp only [decide_eq_true_eq] at *
        omega
      · rw [if_neg hbc] at h2
        rw [if_neg (fun e => hbc (hab.symm.trans e)), hab]
        exact h2
    · rw [if_neg hab] at h1
      by_cases hbc : b.ky = c.ky
      · rw [if_neg (fun e => hab (e.trans hbc.symm)), ← hbc]
        exact h1
      · rw [if_neg hbc] at h2
        have h3 := lessB_trN h1 h2
        rw [if_neg (fun e => by rw [e, lessB_irrN] at h3; cases h3)]
        exact h3
  · cases hac : befE a c with
    | false => rfl
    | true =>
      exfalso
      unfold befE at *
      by_cases hab : a.ky = b.ky
      · rw [if_pos hab] at h1
        by_cases hbc : b.ky = c.ky
        · rw [if_pos hbc] at h2
          rw [if_pos (hab.trans hbc)] at hac
          simp only [decide_eq_false_iff_not, decide_eq_true_eq] at *
          omega
        · rw [if_neg hbc] at h2
          rw [if_neg (fun e => hbc (hab.symm.trans e)), hab, h2] at hac
          cases hac
      · rw [if_neg hab] at h1
        by_cases hbc : b.ky = c.ky
        · rw [if_neg (fun e => hab (e.trans hbc.symm)), ← hbc, h1] at hac
          cases hac
        · rw [if_neg hbc] at h2
          have hba : lessB b.ky a.ky = true := by
            rcases lessB_totN hab with h | h
            · rw [h] at h1; cases h1
            · exact h
          by_cases hac2 : a.ky = c.ky
          · rw [hac2, h2] at hba; cases hba
          · rw [if_neg hac2] at hac
            have := lessB_trN hba hac
            rw [h2] at this; cases this
end Go.Proofs.Ytgkhjjnhikbdaaa
