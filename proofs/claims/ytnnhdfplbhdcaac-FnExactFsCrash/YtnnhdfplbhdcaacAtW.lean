
import Derived.Test.YtnnhdfplbhdcaacWalkH
namespace Go.Proofs.Ytnnhdfplbhdcaac
open Go.RowKit Go.Maps
set_option linter.unusedVariables false
set_option linter.unusedSimpArgs false

theorem fm_at {xs : List Fl} (h : Rise xs) {i : Nat} (hi : i < xs.length) : fm xs (xs.getD i fl0).nm.data.toList = some ((xs.getD i fl0).dt, (xs.getD i fl0).sy) := by
  have key : ∀ k, i < k → k ≤ xs.length → fm (xs.take k) (xs.getD i fl0).nm.data.toList = some ((xs.getD i fl0).dt, (xs.getD i fl0).sy) := by
    intro k
    induction k with
    | zero => intro h0; omega
    | succ k ih =>
      intro h1 h2
      rw [take_snoc xs k (by omega), fm_snoc]
      unfold upd
      by_cases hik : i = k
      · subst hik
        rw [if_pos rfl]
      · rw [if_neg (h.ne (show i < k by omega) (by omega))]
        exact ih (by omega) (by omega)
  have := key xs.length hi (Nat.le_refl _)
  rwa [List.take_length] at this

theorem toList_ne {a b : ByteArray} (h : (a.toList == b.toList) = false) : a.data.toList ≠ b.data.toList := by
  rw [ByteArray.toList_eq, ByteArray.toList_eq] at h
  simpa using h
theorem toList_eq' {a b : ByteArray} (h : (a.toList == b.toList) = true) : a = b := by
  rw [ByteArray.toList_eq, ByteArray.toList_eq] at h
  exact ByteArray.ext (Array.toList_inj.1 (by simpa using h))

/-- r is the place of the file s in the list, -1 if there is none. -/
def AtRel (xs : List Fl) (s : ByteArray) (r : Int) : Prop :=
  (r = -1 ∧ ∀ i, i < xs.length → (xs.getD i fl0).nm.data.toList ≠ s.data.toList) ∨ (∃ i : Nat, i < xs.length ∧ r = i ∧ (xs.getD i fl0).nm = s)

end Go.Proofs.Ytnnhdfplbhdcaac
