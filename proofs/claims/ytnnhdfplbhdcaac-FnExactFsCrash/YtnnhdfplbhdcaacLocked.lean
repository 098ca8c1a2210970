
import Derived.Test.YtnnhdfplbhdcaacWalkH
import Derived.Test.YtnnhdfplbhdcaacLocksW
import Derived.Conc.RwLone
namespace Go.Proofs.Ytnnhdfplbhdcaac
open Go.RowKit Go.Maps Go.RwLone
set_option linter.unusedVariables false
set_option linter.unusedSimpArgs false

theorem wrap_up : wrap32 ((0 : Int) + 1) = 1 := by decide +kernel
theorem wrap_down : wrap32 ((1 : Int) + -1) = 0 := by decide +kernel

/-- The reader's lock of a directory that nobody holds. -/
theorem rlock_dir (g mb : Nat) (q fu : Int) (w : World) (hobj : w.heap[g]? = some (.cells (dirC mb q fu) 70 (0, 0))) :
    Calls Try.prog 33 #[.pointer (some ⟨g, 0, none⟩)] w fun e w' => e = .returned (.tuple #[]) ∧ w' = w.setCell ⟨g, 4, none⟩ (.int .i32 1) := by
  have := rlock_open rwRLib g 0 0 (.int .i32 0) (.int .u32 0) w (by simp [World.cell?, hobj]) (by simp [World.cell?, hobj]) (by simp [World.cell?, hobj]) (by simp [World.frozen?, hobj]) (by rw [wrap_up]; decide)
  rw [wrap_up] at this
  exact this

/-- .. and let go by a deferred call. -/
theorem runlock_dir (g mb : Nat) (q fu : Int) (u : FrameMode) (w : World) (hobj : w.heap[g]? = some (.cells ((dirC mb q fu).setIfInBounds 4 (.int .i32 1)) 70 (0, 0))) :
    CallsD Try.prog 34 #[.pointer (some ⟨g, 0, none⟩)] u w fun e u' w' => u' = u ∧ (e = .returned (.tuple #[]) ∧ w' = w.setCell ⟨g, 4, none⟩ (.int .i32 0)) := by
  have := runlock_deferred rwRLib g 0 1 (.int .i32 0) (.int .u32 0) u w (by simp [World.cell?, hobj]) (by simp [World.cell?, hobj]) (by simp [World.cell?, hobj]) (by simp [World.frozen?, hobj]) (by rw [wrap_down]; decide)
  rw [wrap_down] at this
  exact this

/-- Locked, something made, and let go: of what was there nothing has turned. -/
theorem unlock_below {w w1 : World} {g i : Nat} {cs : Array Value} {t : TypeId} {v0 v1 : Value} (hobj : w.heap[g]? = some (.cells cs t (0, 0))) (h4 : cs[i]? = some v0) (hb : Below w.heap.size (w.setCell ⟨g, i, none⟩ v1) w1) :
    Below w.heap.size w (w1.setCell ⟨g, i, none⟩ v0) := by
  have hg : g < w.heap.size := by
    by_cases hg : g < w.heap.size
    · exact hg
    · rw [Array.getElem?_eq_none (by omega)] at hobj; cases hobj
  refine ⟨hb.os, hb.tape, hb.output, ?_, fun k hk => ?_⟩
  · have := hb.size
    simpa using this
  · by_cases hkg : k = g
    · subst hkg
      have e1 := heap_setCell_same w k i cs t v1 hobj
      have e2 := (hb.block k hk).trans e1
      have e3 := heap_setCell_same w1 k i _ t v0 e2
      rw [e3, hobj]
      have hlt : i < cs.size := by
        by_cases hlt : i < cs.size
        · exact hlt
        · rw [Array.getElem?_eq_none (by omega)] at h4; cases h4
      congr 2
      apply Array.ext_getElem?
      intro j
      by_cases hj : i = j
      · subst hj
        rw [h4, Array.getElem?_setIfInBounds]
        simp [hlt]
      · rw [Array.getElem?_setIfInBounds_ne hj, Array.getElem?_setIfInBounds_ne hj]
    · rw [Below.heap_setCell _ _ _ _ hkg, hb.block k hk, Below.heap_setCell _ _ _ _ hkg]

end Go.Proofs.Ytnnhdfplbhdcaac
