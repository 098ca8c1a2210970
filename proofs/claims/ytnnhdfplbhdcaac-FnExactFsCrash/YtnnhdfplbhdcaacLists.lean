
import Derived.Test.YtnnhdfplbhdcaacWalkT
namespace Go.Proofs.Ytnnhdfplbhdcaac
open Go.RowKit Go.Maps
set_option linter.unusedVariables false
set_option linter.unusedSimpArgs false

/-- The names rise, as a pairwise order. -/
def RiseP (xs : List Fl) : Prop := xs.Pairwise fun f g => lessB f.nm g.nm = true
theorem rise_iff {xs : List Fl} : Rise xs ↔ RiseP xs := by
  unfold Rise RiseP
  rw [List.pairwise_iff_getElem]
  constructor
  · intro h i j hi hj hij
    have := h i j hij hj
    simpa [List.getD, hi, hj] using this
  · intro h i j hij hj
    have := h i j (by omega) hj hij
    simpa [List.getD, hj, show i < xs.length by omega] using this

theorem rise_filter {xs : List Fl} (h : Rise xs) (p : Fl → Bool) : Rise (xs.filter p) := rise_iff.2 ((rise_iff.1 h).filter p)
theorem fits_filter {xs : List Fl} (h : Fits xs) (p : Fl → Bool) : Fits (xs.filter p) := fun f hf => h f (List.mem_filter.1 hf).1

theorem name_iff (f : Fl) (s : ByteArray) : (f.nm.toList == s.toList) = decide (s.data.toList = f.nm.data.toList) := by
  rw [ByteArray.toList_eq, ByteArray.toList_eq, Bool.eq_iff_iff, beq_iff_eq, decide_eq_true_eq]
  exact ⟨fun h => h.symm, fun h => h.symm⟩

theorem fm_wo (xs : List Fl) (s : ByteArray) : fm (wo xs s) = del (fm xs) s.data.toList := by
  funext l
  induction xs with
  | nil => simp [wo, fm, del]
  | cons f r ih =>
    have ih' : fm (wo r s) l = if l = s.data.toList then none else fm r l := ih
    have e : wo (f :: r) s = if s.data.toList = f.nm.data.toList then wo r s else f :: wo r s := by
      unfold wo
      rw [List.filter_cons, name_iff]
      by_cases h : s.data.toList = f.nm.data.toList <;> simp [h]
    rw [e]
    unfold del
    by_cases h : s.data.toList = f.nm.data.toList
    · rw [if_pos h, ih']
      by_cases hl : l = s.data.toList
      · simp [hl]
      · rw [if_neg hl, if_neg hl]
        simp only [fm]
        have : ¬ l = f.nm.data.toList := fun e => hl (e.trans h.symm)
        cases fm r l <;> simp [this]
    · rw [if_neg h]
      simp only [fm, ih']
      by_cases hl : l = s.data.toList
      · rw [if_pos hl, if_pos hl]
        have : ¬ l = f.nm.data.toList := fun e => h (hl.symm.trans e)
        simp [this]
      · rw [if_neg hl, if_neg hl]

theorem wo_found {xs : List Fl} {s : ByteArray} (h : Rise xs) (hf : (fm xs s.data.toList).isSome = true) : (wo xs s).length = xs.length - 1 := by
  have key : ∀ (xs : List Fl), RiseP xs → (fm xs s.data.toList).isSome = true → (wo xs s).length + 1 = xs.length := by
    intro xs
    induction xs with
    | nil => intro _ h; simp [fm] at h
    | cons f r ih =>
      intro hp hs
      obtain ⟨h1, h2⟩ := List.pairwise_cons.1 hp
      by_cases he : s.data.toList = f.nm.data.toList
      · have e1 : wo (f :: r) s = wo r s := by unfold wo; rw [List.filter_cons, name_iff]; simp [he]
        have e2 : wo r s = r := wo_none fun g hg e => by
          have := h1 g hg
          unfold lessB at this
          rw [ByteArray.toList_eq, ByteArray.toList_eq, e, he, less_irrefl] at this
          cases this
        rw [e1, e2]
        simp
      · have e1 : wo (f :: r) s = f :: wo r s := by unfold wo; rw [List.filter_cons, name_iff]; simp [he]
        have hs' : (fm r s.data.toList).isSome = true := by
          simp only [fm] at hs
          cases hr : fm r s.data.toList with
          | some x => rfl
          | none => rw [hr] at hs; simp [he] at hs
        rw [e1, List.length_cons, List.length_cons, ih h2 hs']
  have := key xs (rise_iff.1 h) hf
  omega
theorem cell_of_block1 {W : World} {b : Nat} {x : Value} {t : TypeId} (h : W.heap[b]? = some (.cells #[x] t (0, 0))) : W.cell? ⟨b, 0, none⟩ = some x := by
  unfold World.cell?
  simp only
  rw [h]
  rfl
end Go.Proofs.Ytnnhdfplbhdcaac
