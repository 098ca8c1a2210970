import Derived.Test.YtibfoimapnnnkaeGreatDoorVarG

import Derived.Test.YtibfoimapnnnkaeGreatDoorRows
import Derived.WalkKit
import Derived.WalkSpells
import Derived.WalkLawsBesides
import Derived.Deep.QuietTactic
import Derived.BigQuiet
import Derived.Deep.RegionHeld3
import Derived.Below
import Derived.Laws.IdiomStrings
import Derived.Laws.Concat
import Derived.Laws.Bits128
import Derived.Laws.BitsAllLaws
import Derived.Laws.Unary
import Derived.Maps.AppendAt
namespace Go.Proofs.YtibfoimapnnnkaeGreatDoor
open Go.RowKit
set_option linter.unusedVariables false
set_option linter.unusedSimpArgs false

/-- One bit of the checksum. -/
def bitS (r : Nat) : Nat := r / 2 ^^^ (if r % 2 = 1 then 2197175160 else 0)
def bitN : Nat → Nat → Nat
  | 0, r => r
  | k + 1, r => bitN k (bitS r)
/-- The register behind some bytes. -/
def crcR (l : List UInt8) (r : Nat) : Nat := l.foldl (fun r b => bitN 8 (r ^^^ b.toNat)) r
/-- The checksum. -/
def crc (l : List UInt8) : Nat := crcR l 4294967295 ^^^ 4294967295
/-- What four bits add. -/
def nibT (l : Nat) : Nat := [0, 274646895, 549293790, 820201905, 1098587580, 1361435347, 1640403810, 1905808397, 2197175160, 2460548119, 2722870694, 2987750089, 3280807620, 3553878443, 3811616794, 4084100981].getD l 0

theorem xor_mod2 (a b : Nat) : (a ^^^ b) % 2 = (a % 2 + b % 2) % 2 := by
  have h := Nat.xor_mod_two_eq_one (a := a) (b := b)
  generalize a ^^^ b = c at h ⊢
  omega

theorem xor_add (k h l : Nat) (hl : l < 2 ^ k) : (2 ^ k * h) ^^^ l = 2 ^ k * h + l := by
  induction k generalizing l with
  | zero => obtain rfl : l = 0 := by simpa using hl
            simp
  | succ k ih =>
    have e : 2 ^ (k + 1) * h = 2 * (2 ^ k * h) := by rw [Nat.pow_succ, Nat.mul_comm (2 ^ k) 2, Nat.mul_assoc]
    have d : ((2 ^ (k + 1) * h) ^^^ l) / 2 = 2 ^ k * h + l / 2 := by
      rw [Nat.xor_div_two, e, Nat.mul_div_cancel_left _ (by decide), ih (l / 2) (by rw [Nat.pow_succ] at hl; omega)]
    have m := xor_mod2 (2 ^ (k + 1) * h) l
    rw [e] at d m ⊢
    omega

theorem bitS_lin (x y : Nat) : bitS (x ^^^ y) = bitS x ^^^ bitS y := by
  simp only [bitS, Nat.xor_div_two, xor_mod2]
  have h2 : x % 2 = 0 ∨ x % 2 = 1 := by omega
  have h3 : y % 2 = 0 ∨ y % 2 = 1 := by omega
  have ac : ∀ a b c : Nat, a ^^^ b ^^^ c = a ^^^ (b ^^^ c) := Nat.xor_assoc
  rcases h2 with h2 | h2 <;> rcases h3 with h3 | h3 <;> simp [h2, h3]
  · rw [Nat.xor_assoc]
  · rw [Nat.xor_assoc, Nat.xor_assoc, Nat.xor_comm (y / 2)]
  · rw [Nat.xor_assoc, Nat.xor_comm 2197175160, Nat.xor_assoc, Nat.xor_self, Nat.xor_zero]
theorem bitN_lin (k x y : Nat) : bitN k (x ^^^ y) = bitN k x ^^^ bitN k y := by
  induction k generalizing x y with
  | zero => rfl
  | succ k ih => simp only [bitN]; rw [bitS_lin, ih]
theorem bitN_add (j k r : Nat) : bitN (j + k) r = bitN k (bitN j r) := by
  induction j generalizing r with
  | zero => simp [bitN]
  | succ j ih => rw [Nat.add_right_comm]; simp only [bitN]; exact ih _
theorem bitN_succ (k r : Nat) : bitN (k + 1) r = bitS (bitN k r) := by rw [bitN_add k 1 r]; rfl
theorem bitS_dbl (h : Nat) : bitS (2 * h) = h := by
  have : ¬ (2 * h) % 2 = 1 := by omega
  simp [bitS, this]
theorem bitN4 (c : Nat) : bitN 4 c = nibT (c % 16) ^^^ c / 16 := by
  have h1 : c = (2 ^ 4 * (c / 16)) ^^^ (c % 16) := by rw [xor_add 4 _ _ (by omega)]; omega
  have h2 : bitN 4 (2 ^ 4 * (c / 16)) = c / 16 := by
    have e : 2 ^ 4 * (c / 16) = 2 * (2 * (2 * (2 * (c / 16)))) := by omega
    rw [e]
    simp only [bitN, bitS_dbl]
  have h3 : ∀ l, l < 16 → bitN 4 l = nibT l := by decide
  have h4 : bitN 4 c = bitN 4 (2 ^ 4 * (c / 16)) ^^^ bitN 4 (c % 16) := by rw [← bitN_lin, ← h1]
  rw [h4, h2, h3 _ (by omega), Nat.xor_comm]
theorem bitN8 (c : Nat) : bitN 8 c = nibT ((nibT (c % 16) ^^^ c / 16) % 16) ^^^ (nibT (c % 16) ^^^ c / 16) / 16 := by
  have := bitN_add 4 4 c
  rw [this, bitN4 c, bitN4]

theorem xor_lt {a b : Nat} (h1 : a < 4294967296) (h2 : b < 4294967296) : a ^^^ b < 4294967296 := Nat.xor_lt_two_pow (n := 32) h1 h2
theorem bitS_lt {r : Nat} (h : r < 4294967296) : bitS r < 4294967296 := by
  unfold bitS
  refine xor_lt (by omega) ?_
  split <;> omega
theorem bitN_lt {r : Nat} (k : Nat) (h : r < 4294967296) : bitN k r < 4294967296 := by
  induction k generalizing r with
  | zero => exact h
  | succ k ih => exact ih (bitS_lt h)
theorem crcR_snoc (l : List UInt8) (b : UInt8) (r : Nat) : crcR (l ++ [b]) r = bitN 8 (crcR l r ^^^ b.toNat) := by simp [crcR]
theorem crcR_lt (l : List UInt8) {r : Nat} (h : r < 4294967296) : crcR l r < 4294967296 := by
  induction l generalizing r with
  | nil => exact h
  | cons b l ih => exact ih (bitN_lt 8 (xor_lt h (by have := b.toNat_lt; omega)))
theorem crc_lt (l : List UInt8) : crc l < 4294967296 := xor_lt (crcR_lt l (by decide)) (by decide)
theorem nibT_lt (l : Nat) (h : l < 16) : nibT l < 4294967296 := (by decide : ∀ l, l < 16 → nibT l < 4294967296) l h
end Go.Proofs.YtibfoimapnnnkaeGreatDoor
