
import Derived.Test.YtibfoimapnnnkacDoorFrG

import Derived.Test.YtibfoimapnnnkacDoorEntB
namespace Go.Proofs.YtibfoimapnnnkacDoor
open Go.RowKit Go.Maps
set_option linter.unusedVariables false
set_option linter.unusedSimpArgs false

theorem toList_eq' {a b : ByteArray} (h : (a.toList == b.toList) = true) : a = b := by
  rw [ByteArray.toList_eq, ByteArray.toList_eq] at h
  exact ByteArray.ext (Array.toList_inj.1 (by simpa using h))

/-- Whether an entry is valid. -/
def entOk (e : En) : Bool := decide (1 ≤ e.ky.size ∧ e.ky.size ≤ 1000 ∧ 1 ≤ e.sq ∧ e.sq ≤ 72057594037927935) && (if e.kd = 1 then decide (e.vl.size ≤ 4000) else (decide (e.kd = 0) && decide (e.vl.size = 0)))

theorem entOk_iff (e : En) : entOk e = true ↔ (1 ≤ e.ky.size ∧ e.ky.size ≤ 1000 ∧ 1 ≤ e.sq ∧ e.sq ≤ 72057594037927935) ∧ ((e.kd = 1 ∧ e.vl.size ≤ 4000) ∨ (e.kd = 0 ∧ e.vl.size = 0)) := by
  unfold entOk
  rw [Bool.and_eq_true, decide_eq_true_eq]
  by_cases h : e.kd = 1
  · rw [if_pos h, decide_eq_true_eq]; omega
  · rw [if_neg h, Bool.and_eq_true, decide_eq_true_eq, decide_eq_true_eq]; omega
set_option maxRecDepth 100000 in
set_option maxHeartbeats 400000 in
theorem l2EntryOk_any (f : En) (w : World) (h1 : f.ky.size ≤ maxLen) (h2 : f.vl.size ≤ maxLen) :
    Calls Tryd.prog 21 #[f.agg] w fun e w' => e = .returned (.bool (entOk f)) ∧ Below w.heap.size w w' := by
  unfold maxLen at h1 h2
  obtain ⟨n, s, k, d⟩ := f
  generalize hE : entOk ⟨n, s, k, d⟩ = E
  have HE : Hid (entOk ⟨n, s, k, d⟩ = E) := hE
  clear hE
  simp only at h1 h2
  go_enter Tryd.func21, Tryd.ntmps21
  go_wp2_with fail
  all_goals go_ret
  all_goals refine ⟨?_, (Below.refl _ _).alloc (Nat.le_refl _) _⟩
  all_goals rw [← HE.out]
  all_goals first
    | (have hk := ‹(k == 1) = true›; rw [beq_iff_eq] at hk; refine ret_b (Bool.eq_iff_iff.2 ?_); rw [entOk_iff]; simp only [decide_eq_true_eq, beq_iff_eq, Bool.false_eq_true, false_iff, true_iff]; omega)
    | (have hk := ‹(k == 1) = false›; rw [beq_eq_false_iff_ne] at hk; refine ret_b (Bool.eq_iff_iff.2 ?_); rw [entOk_iff]; simp only [decide_eq_true_eq, beq_iff_eq, Bool.false_eq_true, false_iff, true_iff]; omega)
    | (refine ret_b (Bool.eq_iff_iff.2 ?_); rw [entOk_iff]; simp only [decide_eq_true_eq, beq_iff_eq, Bool.false_eq_true, false_iff, true_iff]; omega)

theorem empty_iff (d : ByteArray) : d.toList.isEmpty = true ↔ d.size = 0 := by
  rw [ByteArray.toList_eq, List.isEmpty_iff, ← List.length_eq_zero_iff, Array.length_toList]
  exact Iff.rfl

set_option maxRecDepth 100000 in
theorem validKey_any (s : ByteArray) (w : World) (h1 : s.size ≤ maxLen) :
    Calls Tryd.prog 82 #[.string s] w fun e w' => e = .returned (.bool (decide (1 ≤ s.size ∧ s.size ≤ 1000))) ∧ Below w.heap.size w w' := by
  unfold maxLen at h1
  go_enter Tryd.func82, Tryd.ntmps82
  go_wp2_with fail
  all_goals go_ret
  all_goals refine ⟨?_, Below.refl _ _⟩
  all_goals (refine ret_b (Bool.eq_iff_iff.2 ?_); simp only [Bool.and_eq_true, decide_eq_true_eq, Bool.false_eq_true, false_iff]; omega)

set_option maxRecDepth 100000 in
set_option maxHeartbeats 400000 in
theorem validEntry_any (f : En) (w : World) (h1 : f.ky.size ≤ maxLen) (h2 : f.vl.size ≤ maxLen) :
    Calls Tryd.prog 61 #[f.agg] w fun e w' => e = .returned (.bool (entOk f)) ∧ Below w.heap.size w w' := by
  obtain ⟨n, s, k, d⟩ := f
  have HK : Hid (∀ w, Calls Tryd.prog 82 #[.string n] w fun e w' => e = .returned (.bool (decide (1 ≤ n.size ∧ n.size ≤ 1000))) ∧ Below w.heap.size w w') := fun w => validKey_any n w h1
  unfold maxLen at h1 h2
  generalize hE : entOk ⟨n, s, k, d⟩ = E
  have HE : Hid (entOk ⟨n, s, k, d⟩ = E) := hE
  clear hE
  simp only at h1 h2
  have hP0 : (w.alloc (.cells #[.string n, .int .i64 s, .int .i64 k, .string d] 49)).heap[w.heap.size]? = some (.cells #[.string n, .int .i64 s, .int .i64 k, .string d] 49 (0, 0)) := World.heap_alloc_new _ _
  have hb0 : Below w.heap.size w (w.alloc (.cells #[.string n, .int .i64 s, .int .i64 k, .string d] 49)) := (Below.refl _ _).alloc (Nat.le_refl _) _
  go_enter Tryd.func61, Tryd.ntmps61
  go_wp2_with fail
  refine (HK.out _).mono ?_
  rintro e w1 ⟨rfl, hb1⟩
  have hP1 := (hb1.block w.heap.size (by simp)).trans hP0
  have hb : Below w.heap.size w w1 := hb0.trans (hb1.mono hb0.size)
  have x0 : w1.cell? ⟨w.heap.size, 0, none⟩ = some (.string n) := by simp [World.cell?, hP1]
  have x1 : w1.cell? ⟨w.heap.size, 1, none⟩ = some (.int .i64 s) := by simp [World.cell?, hP1]
  have x2 : w1.cell? ⟨w.heap.size, 2, none⟩ = some (.int .i64 k) := by simp [World.cell?, hP1]
  have x3 : w1.cell? ⟨w.heap.size, 3, none⟩ = some (.string d) := by simp [World.cell?, hP1]
  have hlt1 : w.heap.size < w1.heap.size := by have := hb1.size; simp at this; omega
  clear hP0 hb0 hP1 hb1 HK
  by_cases hkk : 1 ≤ n.size ∧ n.size ≤ 1000
  · rw [decide_eq_true hkk]
    go_wp2_with fail
    all_goals go_ret
    all_goals refine ⟨?_, hb⟩
    all_goals rw [← HE.out]
    all_goals first
      | (have hk := ‹(k == 1) = true›; rw [beq_iff_eq] at hk; refine ret_b (Bool.eq_iff_iff.2 ?_); rw [entOk_iff]; simp only [decide_eq_true_eq, beq_iff_eq, Bool.false_eq_true, false_iff, true_iff, empty_iff]; omega)
      | (have hk := ‹(k == 1) = false›; have hk2 := ‹(k == 0) = true›; rw [beq_eq_false_iff_ne] at hk; rw [beq_iff_eq] at hk2; refine ret_b (Bool.eq_iff_iff.2 ?_); rw [entOk_iff]; simp only [decide_eq_true_eq, beq_iff_eq, Bool.false_eq_true, false_iff, true_iff, empty_iff]; omega)
      | (have hk := ‹(k == 1) = false›; have hk2 := ‹(k == 0) = false›; rw [beq_eq_false_iff_ne] at hk hk2; refine ret_b (Bool.eq_iff_iff.2 ?_); rw [entOk_iff]; simp only [decide_eq_true_eq, beq_iff_eq, Bool.false_eq_true, false_iff, true_iff, empty_iff]; omega)
      | (refine ret_b (Bool.eq_iff_iff.2 ?_); rw [entOk_iff]; simp only [decide_eq_true_eq, beq_iff_eq, Bool.false_eq_true, false_iff, true_iff, empty_iff]; omega)
  · rw [decide_eq_false hkk]
    go_wp2_with fail
    go_ret
    refine ⟨?_, hb⟩
    rw [← HE.out]
    refine ret_b (Bool.eq_iff_iff.2 ?_)
    rw [entOk_iff]
    simp only [Bool.false_eq_true, false_iff]
    omega


theorem byteL_at (s : ByteArray) (k : Nat) (h : k < s.size) : s.data.toList.take (k + 1) = s.data.toList.take k ++ [s[k]] := by
  have h' : k < s.data.toList.length := by rw [Array.length_toList]; exact h
  rw [List.take_succ_eq_append_getElem h']
  rfl

set_option maxRecDepth 100000 in
set_option maxHeartbeats 1000000 in
theorem l2Put_any (B : Nat) (v : Value) (l : List UInt8) (s : ByteArray) (w : World) (ho : w.ownsRow B 5 1 v l.length (bc l)) (hB : B ≤ w.heap.size) (hs : l.length + s.size ≤ 70368744177664) :
    Calls Tryd.prog 23 #[v, .string s] w fun e w' => ∃ v', e = .returned v' ∧ w'.ownsRow B 5 1 v' (l ++ s.data.toList).length (bc (l ++ s.data.toList)) ∧ Below B w w' := by
  obtain ⟨i0, hi, hz0, hz1, hz2⟩ := info_parts u8_info
  go_enter Tryd.func23, Tryd.ntmps23
  go_wp2_with fail
  go_loopw [0, 5] (fun x y wr => ∃ k : Nat, y = .int .i64 k ∧ k ≤ s.size ∧ wr.ownsRow B 5 1 x (l ++ s.data.toList.take k).length (bc (l ++ s.data.toList.take k)) ∧ Below B w wr) (fun _ y _ => s.size - (intOf y).toNat)
  case atStart => exact ⟨0, rfl, by omega, by simpa using ho, Below.refl _ _⟩
  case round =>
    obtain ⟨k, rfl, hk, hown, hb⟩ := hrel
    have hbs := hb.size
    have hll : (l ++ s.data.toList.take k).length = l.length + k := by rw [List.length_append, List.length_take, Array.length_toList]; show _ + min k s.size = _; omega
    by_cases hlt : k < s.size
    · have HT : Hid (l ++ s.data.toList.take (k + 1) = l ++ s.data.toList.take k ++ [s[k]]) := by show _ = _; rw [byteL_at s k hlt, List.append_assoc]
      generalize l ++ s.data.toList.take k = m at *
      go_wp2_with (at_builtin; refine wpList_append_own _ rfl _ _ 29 rfl B 5 i0 (.int .u8 0) 1 1 Tryd.underlying29 hi hz0 hz1 hz2 rfl (by decide) _ _ _ rfl (hown.alloc _) ⟨wr.heap.size, 0, none⟩ 1 1 [.int .u8 (s[k].toNat : Int)] rfl rfl (cell_one_new _ _ _) (fun x hx => by simp at hx; subst hx; rfl) (by unfold maxLen; omega) (by omega) (by simp; omega) ?_; intro v' w4 hown' hgrow hnil)
      refine ⟨⟨k + 1, by simp, by omega, ?_, (hb.alloc (by omega) _).grown hgrow (by simp; omega) (owns_base hown)⟩, by simp only [intOf]; omega⟩
      rw [HT.out]
      have e : bc (m ++ [s[k]]) = bc m ++ [Value.int .u8 (s[k].toNat : Int)] := by simp [bc]
      rw [e, List.length_append]
      exact hown'
    · obtain rfl : k = s.size := by omega
      have e : s.data.toList.take s.size = s.data.toList := List.take_of_length_le (by rw [Array.length_toList]; exact Nat.le_refl _)
      rw [e] at hown
      go_wp2_with fail
      go_ret
      exact ⟨_, rfl, hown, hb⟩
end Go.Proofs.YtibfoimapnnnkacDoor
