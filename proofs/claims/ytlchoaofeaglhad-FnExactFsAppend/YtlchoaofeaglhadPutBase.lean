import Derived.Test.YtlchoaofeaglhadImplRemove
import Derived.Test.YtlchoaofeaglhadIns
namespace Go.Proofs.Ytlchoaofeaglhad
open Go.RowKit Go.Maps
set_option linter.unusedVariables false
set_option linter.unusedSimpArgs false

theorem fm_fits {xs : List Fl} (h : Fits xs) {l : List UInt8} {x : ByteArray × Int} (hx : fm xs l = some x) : x.1.size ≤ maxLen := by
  induction xs with
  | nil => cases hx
  | cons f r ih =>
    simp only [fm] at hx
    cases hr : fm r l with
    | some y =>
      rw [hr] at hx
      cases hx
      exact ih (fun g hg => h g (by simp [hg])) hr
    | none =>
      rw [hr] at hx
      dsimp only at hx
      split at hx
      · cases hx
        exact (h f (by simp)).2
      · cases hx
theorem vld_200 {xs : List Fl} {q fu : Int} (hv : vldB xs q fu = true) : xs.length ≤ 200 := by
  have := (vld_head hv).1
  simp [hdOk] at this
  omega
end Go.Proofs.Ytlchoaofeaglhad
