
import Derived.Test.YtfbmplecmaebbacDoorRfF
namespace Go.Proofs.YtfbmplecmaebbacDoor
open Go.RowKit Go.Maps
set_option linter.unusedVariables false
set_option linter.unusedSimpArgs false

theorem pagesL_take (s : ByteArray) (F c : Nat) (h : c ≤ (s.size - F) / 64) : (pagesL s F).take c = (List.range c).map (pageAt s F) := by
  unfold pagesL
  rw [← List.map_take, List.take_range, Nat.min_eq_left h]
theorem page_data (s : ByteArray) (F k : Nat) (h : F + 64 * k + 64 ≤ s.size) : (pageAt s F k).1.data.toList = (s.data.toList.drop (F + 64 * k)).take 64 := by
  unfold pageAt
  rw [dif_pos h]
  exact ext_data s _ 64
theorem cont_range (s : ByteArray) (F c : Nat) (h : F + 64 * c ≤ s.size) : cont ((List.range c).map (pageAt s F)) = content s.data.toList F c := by
  induction c with
  | zero => rfl
  | succ c ih =>
    rw [List.range_succ, List.map_append, content_succ _ _ _ (by rw [len_data]; exact h), ← ih (by omega)]
    have e : (pageAt s F c).1.data.toList.drop 1 = (s.data.toList.drop (F + 64 * c + 1)).take 63 := by
      rw [page_data s F c (by omega), List.drop_take, List.drop_drop]
    simp only [cont, List.flatMap_append, List.map_cons, List.map_nil, List.flatMap_cons, List.flatMap_nil, List.append_nil, e]
theorem lead0_page (s : ByteArray) (F k : Nat) (h : F + 64 * k + 64 ≤ s.size) : lead0 (pageAt s F k) = s.data.toList.getD (F + k * 64) 0 := by
  unfold lead0
  rw [page_data s F k h]
  simp only [List.getD]
  rw [List.getElem?_take_of_lt (by omega), List.getElem?_drop, show F + 64 * k + 0 = F + k * 64 by omega]
theorem good_range (s : ByteArray) (F c : Nat) (h : F + 64 * c ≤ s.size) : good ((List.range c).map (pageAt s F)) ↔ marks s.data.toList F c = true := by
  rw [marks_iff]
  constructor
  · intro hg i h1 h2
    rw [← lead0_page s F i (by omega)]
    refine hg _ ?_
    rw [List.mem_iff_getElem]
    refine ⟨i - 1, by simp; omega, ?_⟩
    simp [Nat.sub_add_cancel h1]
  · intro hm x hx
    rw [List.mem_iff_getElem] at hx
    obtain ⟨i, hi, rfl⟩ := hx
    simp at hi
    simp only [List.getElem_drop, List.getElem_map, List.getElem_range]
    rw [lead0_page s F _ (by omega)]
    exact hm _ (by omega) (by omega)
theorem fcOut_iff (s : ByteArray) (F c : Nat) (hF : F ≤ s.size) : fcOut c (pagesL s F) ↔ (F + 64 * c ≤ s.size ∧ marks s.data.toList F c = true) := by
  have hl : (pagesL s F).length = (s.size - F) / 64 := by simp [pagesL]
  unfold fcOut
  rw [hl]
  constructor
  · rintro ⟨h1, h2⟩
    rw [pagesL_take s F c h1, good_range s F c (by omega)] at h2
    exact ⟨by omega, h2⟩
  · rintro ⟨h1, h2⟩
    refine ⟨by omega, ?_⟩
    rw [pagesL_take s F c (by omega), good_range s F c h1]
    exact h2
theorem fc_text (s : ByteArray) (F c : Nat) (h : F + 64 * c ≤ s.size) : cont ((pagesL s F).take c) = content s.data.toList F c := by
  rw [pagesL_take s F c (by omega), cont_range s F c h]
end Go.Proofs.YtfbmplecmaebbacDoor
