
import Derived.Test.YtnnhdfplbhdcaacWalkS
namespace Go.Proofs.Ytnnhdfplbhdcaac
open Go.RowKit Go.Maps
set_option linter.unusedVariables false
set_option linter.unusedSimpArgs false

theorem wo_none {xs : List Fl} {s : ByteArray} (h : ∀ f ∈ xs, f.nm.data.toList ≠ s.data.toList) : wo xs s = xs := by
  unfold wo
  rw [List.filter_eq_self]
  intro f hf
  rw [ByteArray.toList_eq, ByteArray.toList_eq]
  have := h f hf
  simpa using this
theorem ok_name {xs : List Fl} (h : ∀ j, j < xs.length → okAt xs j = true) : ∀ f ∈ xs, nmOk f.nm = true := by
  intro f hf
  obtain ⟨i, hi, rfl⟩ := List.getElem_of_mem hf
  have := h i hi
  unfold okAt at this
  simp only [Bool.and_eq_true] at this
  have e : xs.getD i fl0 = xs[i] := by simp [List.getD, hi]
  rw [e] at this
  exact this.1.1
theorem wo_empty {xs : List Fl} (h : ∀ j, j < xs.length → okAt xs j = true) : wo xs ⟨#[]⟩ = xs := by
  refine wo_none fun f hf e => ?_
  have := ok_name h f hf
  unfold nmOk at this
  simp only [Bool.and_eq_true, decide_eq_true_eq] at this
  have e2 : f.nm.data.toList.length = 0 := by rw [e]; rfl
  rw [Array.length_toList] at e2
  have : f.nm.size = f.nm.data.size := rfl
  omega

/-- What l1Begin answers: the code, and the fuel of the directory that goes with it. -/
def bCode (v : Bool) (fu : Int) : Int := if v = true then (if fu = 0 then 8 else 0) else 9

end Go.Proofs.Ytnnhdfplbhdcaac
