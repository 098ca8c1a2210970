import Derived.Test.YtgennghhneckeaaWkE
import Derived.Conc.RwLib
import Derived.Conc.MuData
import Derived.KernelRfl
import Derived.Conc.RwLone
namespace Go.Proofs.Ytgennghhneckeaa
abbrev muLink : Go.Conc.Locks.MuLink := { lock := 49, unlock := 58, ilock := 65, iunlock := 67, lockSlow := 72, unlockSlow := 73, disable := 48, enable := 52, acquire := 53, relMerge := 55, cas32 := 71, add32 := 66, tMutex := 70, tIMutex := 68, tPMutex := 94, tPIMutex := 109, tPI32 := 107, tUP := 93, tNoCopy := 65, tU32 := 66 }
theorem muLib : Go.Conc.Locks.MuLib Try.prog muLink :=
  ⟨Try.func49, Try.func58, Try.func65, Try.func67, Try.func48, Try.func52, Try.func53, Try.func55, Try.func71, Try.func66, Try.underlying68, Try.runUnderlying68, Try.sizeOf68, Try.isAgg68, Try.zeroValue68, Try.underlying70, Try.runUnderlying70, Try.sizeOf70, Try.isAgg70, Try.zeroValue70, Try.underlying94, Try.runUnderlying94, Try.sizeOf94, Try.isAgg94, Try.zeroValue94, Try.underlying109, Try.runUnderlying109, Try.sizeOf109, Try.isAgg109, Try.zeroValue109, Try.underlying107, Try.runUnderlying107, Try.sizeOf107, Try.isAgg107, Try.zeroValue107, Try.underlying93, Try.runUnderlying93, Try.sizeOf93, Try.isAgg93, Try.zeroValue93, Try.underlying65, Try.runUnderlying65, Try.sizeOf65, Try.isAgg65, Try.zeroValue65, Try.underlying21, Try.runUnderlying21, Try.sizeOf21, Try.isAgg21, Try.zeroValue21, (by kernel_rfl)⟩
abbrev rwLink : Go.Conc.Locks.RwLink := { lock := 49, unlock := 58, ilock := 65, iunlock := 67, lockSlow := 72, unlockSlow := 73, disable := 48, enable := 52, acquire := 53, relMerge := 55, cas32 := 71, add32 := 66, tMutex := 70, tIMutex := 68, tPMutex := 94, tPIMutex := 109, tPI32 := 107, tUP := 93, tNoCopy := 65, tU32 := 66, rlock := 44, runlock := 45, wlock := 35, wunlock := 36, i32add := 50, raceRead := 47, release := 54, rUnlockSlow := 64, semacqR := 63, semacqW := 51, semrel := 57, sfatal := 56, tRW := 75, tPRW := 91, tAI32 := 73, tPAI32 := 105, tPU32 := 97, tANoCopy := 71 }
theorem rwCore : Go.Conc.Locks.RwCore Try.prog rwLink :=
  ⟨Try.func50, Try.func47, Try.func48, Try.func52, Try.func53, Try.func55, Try.func66, Try.underlying75, Try.runUnderlying75, Try.sizeOf75, Try.isAgg75, Try.zeroValue75, Try.underlying73, Try.runUnderlying73, Try.sizeOf73, Try.isAgg73, Try.zeroValue73, Try.underlying91, Try.runUnderlying91, Try.sizeOf91, Try.isAgg91, Try.zeroValue91, Try.underlying105, Try.runUnderlying105, Try.sizeOf105, Try.isAgg105, Try.zeroValue105, Try.underlying97, Try.runUnderlying97, Try.sizeOf97, Try.isAgg97, Try.zeroValue97, Try.underlying71, Try.runUnderlying71, Try.sizeOf71, Try.isAgg71, Try.zeroValue71, Try.underlying66, Try.runUnderlying66, Try.sizeOf66, Try.isAgg66, Try.zeroValue66, Try.underlying70, Try.runUnderlying70, Try.sizeOf70, Try.isAgg70, Try.zeroValue70, Try.underlying94, Try.runUnderlying94, Try.sizeOf94, Try.isAgg94, Try.zeroValue94, Try.underlying107, Try.runUnderlying107, Try.sizeOf107, Try.isAgg107, Try.zeroValue107, Try.underlying93, Try.runUnderlying93, Try.sizeOf93, Try.isAgg93, Try.zeroValue93, Try.underlying21, Try.runUnderlying21, Try.sizeOf21, Try.isAgg21, Try.zeroValue21, (by kernel_rfl), (by kernel_rfl)⟩
theorem rwRLib : Go.Conc.Locks.RwRLib Try.prog rwLink := ⟨rwCore, Try.func44, Try.func45⟩
theorem rwWLib : Go.Conc.Locks.RwWLib Try.prog rwLink := ⟨rwCore, muLib, Try.func35, Try.func36, Try.func54, Try.underlying3, Try.runUnderlying3, Try.sizeOf3, Try.isAgg3, Try.zeroValue3⟩
end Go.Proofs.Ytgennghhneckeaa
namespace Go.Proofs.Ytgennghhneckeaa
open Go.RowKit Go.Maps Go.RwLone
set_option linter.unusedVariables false
set_option linter.unusedSimpArgs false

theorem wrap_up : wrap32 ((0 : Int) + 1) = 1 := by decide +kernel
theorem wrap_down : wrap32 ((1 : Int) + -1) = 0 := by decide +kernel

/-- The reader's lock of a directory that nobody holds. -/
theorem rlock_dir (g mb : Nat) (q fu : Int) (w : World) (hobj : w.heap[g]? = some (.cells (dirC mb q fu) 78 (0, 0))) :
    Calls Try.prog 44 #[.pointer (some ⟨g, 0, none⟩)] w fun e w' => e = .returned (.tuple #[]) ∧ w' = w.setCell ⟨g, 4, none⟩ (.int .i32 1) := by
  have := rlock_open rwRLib g 0 0 (.int .i32 0) (.int .u32 0) w (by simp [World.cell?, hobj]) (by simp [World.cell?, hobj]) (by simp [World.cell?, hobj]) (by simp [World.frozen?, hobj]) (by rw [wrap_up]; decide)
  rw [wrap_up] at this
  exact this

/-- .. and let go by a deferred call. -/
theorem runlock_dir (g mb : Nat) (q fu : Int) (u : FrameMode) (w : World) (hobj : w.heap[g]? = some (.cells ((dirC mb q fu).setIfInBounds 4 (.int .i32 1)) 78 (0, 0))) :
    CallsD Try.prog 45 #[.pointer (some ⟨g, 0, none⟩)] u w fun e u' w' => u' = u ∧ (e = .returned (.tuple #[]) ∧ w' = w.setCell ⟨g, 4, none⟩ (.int .i32 0)) := by
  have := runlock_deferred rwRLib g 0 1 (.int .i32 0) (.int .u32 0) u w (by simp [World.cell?, hobj]) (by simp [World.cell?, hobj]) (by simp [World.cell?, hobj]) (by simp [World.frozen?, hobj]) (by rw [wrap_down]; decide)
  rw [wrap_down] at this
  exact this

/-- Locked, something made, and let go: of what was there nothing has turned. -/
theorem unlock_below {w w1 : World} {g i : Nat} {cs : Array Value} {t : TypeId} {v0 v1 : Value} (hobj : w.heap[g]? = some (.cells cs t (0, 0))) (h4 : cs[i]? = some v0) (hb : Below w.heap.size (w.setCell ⟨g, i, none⟩ v1) w1) :
    Below w.heap.size w (w1.setCell ⟨g, i, none⟩ v0) := by
  have hg : g < w.heap.size := by
    by_cases hg : g < w.heap.size
    · exact hg
    · rw [Array.getElem?_eq_none (by omega)] at hobj; cases hobj
  refine ⟨hb.os, hb.tape, hb.output, ?_, fun k hk => ?_⟩
  · have := hb.size
    simpa using this
  · by_cases hkg : k = g
    · subst hkg
      have e1 := heap_setCell_same w k i cs t v1 hobj
      have e2 := (hb.block k hk).trans e1
      have e3 := heap_setCell_same w1 k i _ t v0 e2
      rw [e3, hobj]
      have hlt : i < cs.size := by
        by_cases hlt : i < cs.size
        · exact hlt
        · rw [Array.getElem?_eq_none (by omega)] at h4; cases h4
      congr 2
      apply Array.ext_getElem?
      intro j
      by_cases hj : i = j
      · subst hj
        rw [h4, Array.getElem?_setIfInBounds]
        simp [hlt]
      · rw [Array.getElem?_setIfInBounds_ne hj, Array.getElem?_setIfInBounds_ne hj]
    · rw [Below.heap_setCell _ _ _ _ hkg, hb.block k hk, Below.heap_setCell _ _ _ _ hkg]

end Go.Proofs.Ytgennghhneckeaa
namespace Go.Proofs.Ytgennghhneckeaa
open Go.RowKit Go.Maps Go.RwLone
set_option linter.unusedVariables false
set_option linter.unusedSimpArgs false

set_option maxHeartbeats 1000000 in
theorem find_any (g mb c : Nat) (q fu : Int) (m : List UInt8 → Option (ByteArray × Int)) (s : ByteArray) (w : World) (hs : s.size ≤ maxLen) (hobj : w.heap[g]? = some (.cells (dirC mb q fu) 78 (0, 0))) (hdir : Dir w mb c m) (hne : g ≠ mb) :
    Calls Try.prog 31 #[.pointer (some ⟨g, 0, none⟩), .string s] w fun e w' =>
      e = .returned (.tuple #[.string ((m s.data.toList).getD (ByteArray.empty, 0)).1, .bool (m s.data.toList).isSome]) ∧ Below w.heap.size w w' := by
  have c0 : w.cell? ⟨g, 0, none⟩ = some (.int .i32 0) := by simp [World.cell?, hobj]
  have c2 : w.cell? ⟨g, 2, none⟩ = some (.int .u32 0) := by simp [World.cell?, hobj]
  have c3 : w.cell? ⟨g, 3, none⟩ = some (.int .u32 0) := by simp [World.cell?, hobj]
  have c4 : w.cell? ⟨g, 4, none⟩ = some (.int .i32 0) := by simp [World.cell?, hobj]
  have c6 : w.cell? ⟨g, 6, none⟩ = some (.map (some mb)) := by simp [World.cell?, hobj]
  have z4 : w.frozen? ⟨g, 4, none⟩ = false := by simp [World.frozen?, hobj]
  have hgl : g < w.heap.size := World.block_lt_of_cell? w _ c0
  have hlk := (hdir.setCell (a := ⟨g, 4, none⟩) (v := .int .i32 1) (fun e => hne e.symm)).look hs
  generalize (m s.data.toList).getD (ByteArray.empty, 0) = x at *
  generalize (m s.data.toList).isSome = ok at *
  go_enter_defers Try.func31, Try.ntmps31
  go_wp2_with fail
  refine (rlock_dir g mb q fu _ hobj).mono ?_
  rintro e w' ⟨rfl, rfl⟩
  go_wp2
  refine leaves_cons (f := 45) (args := #[.pointer (some ⟨g, 0, none⟩)]) (by simp) (by simp [go_sem]) ?_
  refine (runlock_dir g mb q fu .returning _ ?_).mono ?_
  · rw [Below.heap_alloc _ _ _ (by simpa using hgl)]
    exact heap_setCell_same w g 4 _ _ (.int .i32 1) hobj
  rintro e u' w'' ⟨rfl, rfl, rfl⟩
  refine ⟨_, results_tmp2 rfl _ _ _, rfl, ?_⟩
  exact unlock_below hobj (by rfl) ((Below.refl _ _).alloc (by simp) _)
end Go.Proofs.Ytgennghhneckeaa
