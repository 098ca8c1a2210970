import Derived.Test.YtlchoaofeaglhadLists
namespace Go.Proofs.Ytlchoaofeaglhad
open Go.RowKit Go.Maps
set_option linter.unusedVariables false
set_option linter.unusedSimpArgs false

/-- A file put in ahead of the first one with a greater name. -/
def ins : List Fl → Fl → List Fl
  | [], f => [f]
  | x :: r, f => if lessB f.nm x.nm = true then f :: x :: r else x :: ins r f
/-- The files with one put in its place, instead of any that has its name. -/
def wi (xs : List Fl) (f : Fl) : List Fl := ins (wo xs f.nm) f

theorem ins_length (xs : List Fl) (f : Fl) : (ins xs f).length = xs.length + 1 := by
  induction xs with
  | nil => rfl
  | cons x r ih => unfold ins; split <;> simp [ih]
theorem ins_mem {xs : List Fl} {f g : Fl} (h : g ∈ ins xs f) : g = f ∨ g ∈ xs := by
  induction xs with
  | nil => simp [ins] at h; exact .inl h
  | cons x r ih =>
    unfold ins at h
    split at h
    · simpa using h
    · rcases List.mem_cons.1 h with rfl | h
      · exact .inr (by simp)
      · rcases ih h with h | h
        · exact .inl h
        · exact .inr (by simp [h])
theorem less_total {a b : ByteArray} (hne : a.data.toList ≠ b.data.toList) (h : ¬ lessB a b = true) : lessB b a = true := by
  unfold lessB at *
  rw [ByteArray.toList_eq, ByteArray.toList_eq, less_lt] at *
  have h' := List.not_lt.1 h
  exact (List.le_iff_lt_or_eq.1 h').elim id fun e => absurd e.symm hne
theorem lessB_trans {a b c : ByteArray} (h1 : lessB a b = true) (h2 : lessB b c = true) : lessB a c = true := less_trans h1 h2
theorem ins_rise {xs : List Fl} {f : Fl} (h : RiseP xs) (hf : ∀ g ∈ xs, g.nm.data.toList ≠ f.nm.data.toList) : RiseP (ins xs f) := by
  induction xs with
  | nil => simp [ins, RiseP]
  | cons x r ih =>
    obtain ⟨h1, h2⟩ := List.pairwise_cons.1 h
    unfold ins
    split
    · rename_i hl
      refine List.pairwise_cons.2 ⟨fun g hg => ?_, h⟩
      rcases List.mem_cons.1 hg with rfl | hg
      · exact hl
      · exact lessB_trans hl (h1 g hg)
    · rename_i hl
      refine List.pairwise_cons.2 ⟨fun g hg => ?_, ih h2 (fun g hg => hf g (by simp [hg]))⟩
      rcases ins_mem hg with rfl | hg
      · exact less_total (fun e => hf x (by simp) e.symm) hl
      · exact h1 g hg
theorem fm_ins {xs : List Fl} {f : Fl} (hf : fm xs f.nm.data.toList = none) : fm (ins xs f) = upd (fm xs) f.nm.data.toList (f.dt, f.sy) := by
  funext l
  induction xs with
  | nil => simp [ins, fm, upd]
  | cons x r ih =>
    have hr : fm r f.nm.data.toList = none := by
      simp only [fm] at hf
      cases h : fm r f.nm.data.toList with
      | none => rfl
      | some y => rw [h] at hf; cases hf
    have ih' := ih hr
    unfold ins
    split
    · show (match fm (x :: r) l with | some y => some y | none => if l = f.nm.data.toList then some (f.dt, f.sy) else none) = upd (fm (x :: r)) f.nm.data.toList (f.dt, f.sy) l
      unfold upd
      by_cases hl : l = f.nm.data.toList
      · rw [if_pos hl, hl, hf]
        simp
      · rw [if_neg hl, if_neg hl]
        cases fm (x :: r) l <;> rfl
    · show (match fm (ins r f) l with | some y => some y | none => if l = x.nm.data.toList then some (x.dt, x.sy) else none) = upd (fm (x :: r)) f.nm.data.toList (f.dt, f.sy) l
      rw [ih']
      unfold upd
      by_cases hl : l = f.nm.data.toList
      · rw [if_pos hl, if_pos hl]
      · rw [if_neg hl, if_neg hl]
        rfl

theorem wo_mem {xs : List Fl} {s : ByteArray} {g : Fl} (h : g ∈ wo xs s) : g ∈ xs ∧ g.nm.data.toList ≠ s.data.toList := by
  obtain ⟨h1, h2⟩ := List.mem_filter.1 h
  rw [name_iff] at h2
  refine ⟨h1, fun e => ?_⟩
  simp [e] at h2
theorem wi_rise {xs : List Fl} {f : Fl} (h : Rise xs) : Rise (wi xs f) :=
  rise_iff.2 (ins_rise (rise_iff.1 (rise_filter h _)) fun g hg => (wo_mem hg).2)
theorem wi_fm (xs : List Fl) (f : Fl) : fm (wi xs f) = upd (fm xs) f.nm.data.toList (f.dt, f.sy) := by
  have h0 : fm (wo xs f.nm) f.nm.data.toList = none := by rw [fm_wo]; simp [del]
  unfold wi
  rw [fm_ins h0, fm_wo]
  funext l
  unfold upd del
  by_cases hl : l = f.nm.data.toList
  · rw [if_pos hl, if_pos hl]
  · rw [if_neg hl, if_neg hl, if_neg hl]
theorem wo_absent {xs : List Fl} {s : ByteArray} (hf : fm xs s.data.toList = none) : wo xs s = xs := by
  refine wo_none fun g hg e => ?_
  have : s.data.toList ∈ nms xs := by
    unfold nms
    exact List.mem_map.2 ⟨g, hg, e⟩
  rw [mem_fm, hf] at this
  cases this
theorem wi_length {xs : List Fl} {f : Fl} (h : Rise xs) : (wi xs f).length = if (fm xs f.nm.data.toList).isSome = true then xs.length else xs.length + 1 := by
  unfold wi
  rw [ins_length]
  cases hm : fm xs f.nm.data.toList with
  | none => rw [wo_absent hm]; rfl
  | some x =>
    have := wo_found h (s := f.nm) (by rw [hm]; rfl)
    have hpos : 0 < xs.length := by
      cases xs with
      | nil => simp [fm] at hm
      | cons y r => simp
    simp
    omega
theorem wi_le (xs : List Fl) (f : Fl) : (wi xs f).length ≤ xs.length + 1 := by
  unfold wi
  rw [ins_length]
  have := wo_length xs f.nm
  omega
theorem wi_fits {xs : List Fl} {f : Fl} (h : Fits xs) (h1 : f.nm.size ≤ maxLen) (h2 : f.dt.size ≤ maxLen) : Fits (wi xs f) := by
  intro g hg
  rcases ins_mem hg with rfl | hg
  · exact ⟨h1, h2⟩
  · exact h g (wo_mem hg).1

/-- The loop that puts a file in: what is out so far, and whether the file is. -/
def stp (f : Fl) (p : List Fl × Bool) (x : Fl) : List Fl × Bool := if p.2 = false ∧ lessB f.nm x.nm = true then (p.1 ++ [f] ++ [x], true) else (p.1 ++ [x], p.2)
def run (f : Fl) (xs : List Fl) : List Fl × Bool := xs.foldl (stp f) ([], false)
theorem run_snoc (f : Fl) (xs : List Fl) (x : Fl) : run f (xs ++ [x]) = stp f (run f xs) x := by simp [run]
theorem foldl_done (f : Fl) (xs : List Fl) : ∀ o, xs.foldl (stp f) (o, true) = (o ++ xs, true) := by
  induction xs with
  | nil => simp
  | cons x r ih => intro o; rw [List.foldl_cons]; simp [stp, ih]
theorem foldl_ins (f : Fl) (xs : List Fl) : ∀ o, (if (xs.foldl (stp f) (o, false)).2 = true then (xs.foldl (stp f) (o, false)).1 else (xs.foldl (stp f) (o, false)).1 ++ [f]) = o ++ ins xs f := by
  induction xs with
  | nil => intro o; simp [ins]
  | cons x r ih =>
    intro o
    rw [List.foldl_cons]
    by_cases hl : lessB f.nm x.nm = true
    · have e : stp f (o, false) x = (o ++ [f] ++ [x], true) := by simp [stp, hl]
      rw [e, foldl_done]
      simp [ins, hl]
    · have e : stp f (o, false) x = (o ++ [x], false) := by simp [stp, hl]
      rw [e, ih]
      simp [ins, hl]
theorem run_ins (f : Fl) (xs : List Fl) : (if (run f xs).2 = true then (run f xs).1 else (run f xs).1 ++ [f]) = ins xs f := by
  have := foldl_ins f xs []
  rw [List.nil_append] at this
  exact this
theorem run_length (f : Fl) (xs : List Fl) : (run f xs).1.length ≤ xs.length + 1 := by
  have h := congrArg List.length (run_ins f xs)
  rw [ins_length] at h
  split at h
  · omega
  · simp at h; omega
end Go.Proofs.Ytlchoaofeaglhad
