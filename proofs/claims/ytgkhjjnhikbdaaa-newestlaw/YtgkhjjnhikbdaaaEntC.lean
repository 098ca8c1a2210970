import Derived.Test.YtgkhjjnhikbdaaaEntB

namespace Go.Proofs.Ytgkhjjnhikbdaaa
open Go.RowKit Go.Maps
set_option linter.unusedVariables false
set_option linter.unusedSimpArgs false

theorem toList_eq' {a b : ByteArray} (h : (a.toList == b.toList) = true) : a = b := by
  rw [ByteArray.toList_eq, ByteArray.toList_eq] at h
  exact ByteArray.ext (Array.toList_inj.1 (by simpa using h))

/-- Whether an entry is valid. -/
def entOk (e : En) : Bool := decide (1 ≤ e.ky.size ∧ e.ky.size ≤ 1000 ∧ 1 ≤ e.sq ∧ e.sq ≤ 72057594037927935) && (if e.kd = 1 then decide (e.vl.size ≤ 4000) else (decide (e.kd = 0) && decide (e.vl.size = 0)))

theorem entOk_iff (e : En) : entOk e = true ↔ (1 ≤ e.ky.size ∧ e.ky.size ≤ 1000 ∧ 1 ≤ e.sq ∧ e.sq ≤ 72057594037927935) ∧ ((e.kd = 1 ∧ e.vl.size ≤ 4000) ∨ (e.kd = 0 ∧ e.vl.size = 0)) := by
  unfold entOk
  rw [Bool.and_eq_true, decide_eq_true_eq]
  by_cases h : e.kd = 1
  · rw [if_pos h, decide_eq_true_eq]; omega
  · rw [if_neg h, Bool.and_eq_true, decide_eq_true_eq, decide_eq_true_eq]; omega
theorem ret_b {a b : Bool} (h : a = b) : Ending.returned (.bool a) = .returned (.bool b) := by rw [h]

theorem empty_iff (d : ByteArray) : d.toList.isEmpty = true ↔ d.size = 0 := by
  rw [ByteArray.toList_eq, List.isEmpty_iff, ← List.length_eq_zero_iff, Array.length_toList]
  exact Iff.rfl

/-- l2Put: a text behind bytes that the call owns. -/
theorem owns_lit (w : World) (B : Nat) (hB : B ≤ w.heap.size) : (w.alloc (.cells #[] 5)).ownsRow B 5 1 (.slice (some ⟨w.heap.size, 0, none⟩) 0 0) 0 (bc []) :=
  ⟨rfl, .inr ⟨w.heap.size, 0, #[], rfl, hB, World.heap_alloc_new _ _, Nat.le_refl _, Nat.zero_le _, rfl, rfl⟩⟩

theorem byteL_at (s : ByteArray) (k : Nat) (h : k < s.size) : s.data.toList.take (k + 1) = s.data.toList.take k ++ [s[k]] := by
  have h' : k < s.data.toList.length := by rw [Array.length_toList]; exact h
  rw [List.take_succ_eq_append_getElem h']
  rfl

end Go.Proofs.Ytgkhjjnhikbdaaa
