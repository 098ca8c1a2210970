import Derived.Test.YtohpfjpgihcmiaaGreatDoorVarM

import Derived.Test.YtohpfjpgihcmiaaGreatDoorProg
import Derived.Lib.ItoaNum
import Derived.Lib.ItoaMem
import Derived.Lib.AtoiAll
namespace Go.Proofs.YtohpfjpgihcmiaaGreatDoor
set_option linter.unusedVariables false
set_option linter.unusedSimpArgs false

/-- One byte is a digit. -/
def isD (c : UInt8) : Bool := decide (48 ≤ c.toNat) && decide (c.toNat ≤ 57)
/-- What digits spell. -/
def valD (l : List UInt8) : Nat := l.foldl (fun n c => n * 10 + (c.toNat - 48)) 0
theorem valD_snoc (l : List UInt8) (c : UInt8) : valD (l ++ [c]) = valD l * 10 + (c.toNat - 48) := by simp [valD]
theorem dig_nat {u : Nat} (h : u < 10) : (UInt8.ofNat (48 + u)).toNat = 48 + u := by
  rw [UInt8.toNat_ofNat_of_lt' (by show 48 + u < 256; omega)]
theorem isD_dig {u : Nat} (h : u < 10) : isD (UInt8.ofNat (48 + u)) = true := by
  unfold isD
  rw [dig_nat h]
  simp
  omega
theorem decD_cases (u : Nat) : (u < 10 ∧ Lib.decDigits u = [UInt8.ofNat (48 + u)]) ∨ (¬ u < 10 ∧ Lib.decDigits u = Lib.decDigits (u / 10) ++ [UInt8.ofNat (48 + u % 10)]) := by
  by_cases h : u < 10
  · exact .inl ⟨h, by rw [Lib.decDigits, dif_pos h]⟩
  · exact .inr ⟨h, by rw [Lib.decDigits, dif_neg h]⟩
theorem decD_all : ∀ (u : Nat), (Lib.decDigits u).all isD = true ∧ valD (Lib.decDigits u) = u ∧ Lib.decDigits u ≠ [] := by
  intro u
  induction u using Nat.strongRecOn with
  | _ u ih =>
    rcases decD_cases u with ⟨h, e⟩ | ⟨h, e⟩
    · rw [e]
      refine ⟨by simp only [List.all_cons, List.all_nil, Bool.and_true]; exact isD_dig h, ?_, by simp⟩
      simp only [valD, List.foldl_cons, List.foldl_nil]
      rw [dig_nat h]
      omega
    · obtain ⟨i1, i2, i3⟩ := ih (u / 10) (by omega)
      have hm : u % 10 < 10 := Nat.mod_lt _ (by omega)
      rw [e]
      refine ⟨by simp only [List.all_append, i1, List.all_cons, List.all_nil, Bool.and_true, Bool.true_and]; exact isD_dig hm, ?_, by simp⟩
      rw [valD_snoc, i2, dig_nat hm]
      omega
theorem fold_lt : ∀ (l : List UInt8) (acc : Nat), l.all isD = true → l.foldl (fun n c => n * 10 + (c.toNat - 48)) acc < (acc + 1) * 10 ^ l.length
  | [], acc, _ => by simp
  | c :: l, acc, h => by
    rw [List.all_cons, Bool.and_eq_true] at h
    have h2 := h.1
    unfold isD at h2
    simp only [Bool.and_eq_true, decide_eq_true_eq] at h2
    have ih := fold_lt l (acc * 10 + (c.toNat - 48)) h.2
    rw [List.foldl_cons, List.length_cons, Nat.pow_succ]
    refine Nat.lt_of_lt_of_le ih ?_
    have e : (acc + 1) * (10 ^ l.length * 10) = ((acc + 1) * 10) * 10 ^ l.length := by rw [Nat.mul_comm (10 ^ l.length) 10, ← Nat.mul_assoc]
    rw [e]
    exact Nat.mul_le_mul_right _ (by omega)
theorem valD_lt (l : List UInt8) (h : l.all isD = true) : valD l < 10 ^ l.length := by
  have := fold_lt l 0 h
  simpa [valD] using this
theorem parse_snoc : ∀ (l : List UInt8) (acc : Nat) (c : UInt8), Lib.parseUint10 acc (l ++ [c]) = match Lib.parseUint10 acc l with
    | .ok u => Lib.parseUint10 u [c]
    | .«syntax» => .«syntax»
    | .range => .range
  | [], acc, c => rfl
  | d :: l, acc, c => by
    rw [List.cons_append]
    simp only [Lib.parseUint10]
    split
    · split
      · rfl
      · split
        · rfl
        · exact parse_snoc l _ c
    · rfl
theorem parse_dec : ∀ (u : Nat), u < 18446744073709551616 → Lib.parseUint10 0 (Lib.decDigits u) = .ok u := by
  intro u
  induction u using Nat.strongRecOn with
  | _ u ih =>
    intro hu
    rcases decD_cases u with ⟨h, e⟩ | ⟨h, e⟩
    · rw [e]
      simp only [Lib.parseUint10]
      rw [dig_nat h, if_pos (by omega), if_neg (by omega), if_neg (by omega)]
      congr 1
      omega
    · have hm : u % 10 < 10 := Nat.mod_lt _ (by omega)
      rw [e, parse_snoc, ih (u / 10) (by omega) (by omega)]
      simp only [Lib.parseUint10]
      rw [dig_nat hm, if_pos (by omega), if_neg (by omega), if_neg (by omega)]
      congr 1
      omega
theorem dec_head (u : Nat) : ∃ c r, Lib.decDigits u = c :: r ∧ 48 ≤ c.toNat ∧ c.toNat ≤ 57 := by
  obtain ⟨h1, -, h3⟩ := decD_all u
  cases h : Lib.decDigits u with
  | nil => exact absurd h h3
  | cons c r =>
    rw [h] at h1
    simp only [List.all_cons, Bool.and_eq_true, isD, decide_eq_true_eq] at h1
    exact ⟨c, r, rfl, h1.1.1, h1.1.2⟩
theorem atoi_dec (u : Nat) (hu : u < 9223372036854775808) : Lib.atoiAll (Lib.decDigits u) = .ok (u : Int) := by
  obtain ⟨c, r, e, h1, h2⟩ := dec_head u
  have hp := parse_dec u (by omega)
  rw [e] at hp ⊢
  unfold Lib.atoiAll
  simp only
  rw [if_neg (by omega)]
  unfold Lib.parseMag
  rw [if_neg (by simp), hp]
  simp only
  rw [if_neg (by omega), if_neg (by omega)]
  first | (rw [if_neg (by omega)]) | skip
/-- The number that a part of a store name is, 0 if it is none. -/
def valN (l : List UInt8) : Nat := if 1 ≤ l.length ∧ l.length ≤ 9 ∧ l.all isD = true ∧ 1 ≤ valD l ∧ Lib.decDigits (valD l) = l then valD l else 0
theorem nDig_le : ∀ (k u : Nat), u < 10 ^ (k + 1) → Lib.nDigits u ≤ k + 1
  | 0, u, h => by rw [Lib.nDigits_small (by simpa using h)]; exact Nat.le_refl _
  | k + 1, u, h => by
    by_cases h1 : u < 10
    · rw [Lib.nDigits_small h1]; omega
    · rw [Lib.nDigits_big h1]
      rw [Nat.pow_succ] at h
      have := nDig_le k (u / 10) (by omega)
      omega
theorem valN_dec {n : Nat} (h1 : 1 ≤ n) (h2 : n ≤ 999999999) : valN (Lib.decDigits n) = n := by
  obtain ⟨i1, i2, i3⟩ := decD_all n
  have hl : 1 ≤ (Lib.decDigits n).length := List.length_pos_iff.2 i3
  have hl9 : (Lib.decDigits n).length ≤ 9 := by
    rw [Lib.decDigits_length]
    exact nDig_le 8 n (by omega)
  unfold valN
  rw [if_pos ⟨hl, hl9, i1, by rw [i2]; exact h1, by rw [i2]⟩, i2]
/-- It is a number as the program's reader takes it. -/
theorem valN_iff (l : List UInt8) : (∃ v : Int, Lib.atoiAll l = .ok v ∧ Lib.itoa v = l ∧ 1 ≤ v ∧ v ≤ 999999999) ↔ valN l ≠ 0 := by
  constructor
  · rintro ⟨v, -, h2, h3, h4⟩
    obtain ⟨n, rfl⟩ : ∃ n : Nat, v = n := ⟨v.toNat, by omega⟩
    rw [Lib.itoa_nonneg] at h2
    rw [← h2, valN_dec (by omega) (by omega)]
    omega
  · intro h
    unfold valN at h
    split at h
    · rename_i hh
      obtain ⟨a1, a2, a3, a4, a5⟩ := hh
      have hlt := valD_lt l a3
      have hp : 10 ^ l.length ≤ 10 ^ 9 := Nat.pow_le_pow_right (by omega) a2
      have e9 : (10 : Nat) ^ 9 = 1000000000 := by decide
      refine ⟨(valD l : Int), ?_, ?_, by omega, by omega⟩
      · have := atoi_dec (valD l) (by omega)
        rwa [a5] at this
      · rw [Lib.itoa_nonneg, a5]
    · exact absurd rfl h
end Go.Proofs.YtohpfjpgihcmiaaGreatDoor
