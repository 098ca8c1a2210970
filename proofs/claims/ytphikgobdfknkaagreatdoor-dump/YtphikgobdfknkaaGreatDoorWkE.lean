import Derived.Test.YtphikgobdfknkaaGreatDoorWkD
import Derived.Conc.RwLib
import Derived.Conc.MuData
import Derived.KernelRfl
import Derived.Conc.RwLone
namespace Go.Proofs.YtphikgobdfknkaaGreatDoor
abbrev rwLink : Go.Conc.Locks.RwLink := { lock := 215, unlock := 0, ilock := 0, iunlock := 0, lockSlow := 0, unlockSlow := 0, disable := 53, enable := 56, acquire := 57, relMerge := 58, cas32 := 0, add32 := 80, tMutex := 81, tIMutex := 79, tPMutex := 122, tPIMutex := 0, tPI32 := 146, tUP := 121, tNoCopy := 76, tU32 := 77, rlock := 35, runlock := 36, wlock := 214, wunlock := 0, i32add := 54, raceRead := 52, release := 0, rUnlockSlow := 59, semacqR := 55, semacqW := 0, semrel := 82, sfatal := 81, tRW := 86, tPRW := 119, tAI32 := 84, tPAI32 := 144, tPU32 := 125, tANoCopy := 82 }
theorem rwCore : Go.Conc.Locks.RwCore Tryz.prog rwLink :=
  ⟨Tryz.func54, Tryz.func52, Tryz.func53, Tryz.func56, Tryz.func57, Tryz.func58, Tryz.func80, Tryz.underlying86, Tryz.runUnderlying86, Tryz.sizeOf86, Tryz.isAgg86, Tryz.zeroValue86, Tryz.underlying84, Tryz.runUnderlying84, Tryz.sizeOf84, Tryz.isAgg84, Tryz.zeroValue84, Tryz.underlying119, Tryz.runUnderlying119, Tryz.sizeOf119, Tryz.isAgg119, Tryz.zeroValue119, Tryz.underlying144, Tryz.runUnderlying144, Tryz.sizeOf144, Tryz.isAgg144, Tryz.zeroValue144, Tryz.underlying125, Tryz.runUnderlying125, Tryz.sizeOf125, Tryz.isAgg125, Tryz.zeroValue125, Tryz.underlying82, Tryz.runUnderlying82, Tryz.sizeOf82, Tryz.isAgg82, Tryz.zeroValue82, Tryz.underlying77, Tryz.runUnderlying77, Tryz.sizeOf77, Tryz.isAgg77, Tryz.zeroValue77, Tryz.underlying81, Tryz.runUnderlying81, Tryz.sizeOf81, Tryz.isAgg81, Tryz.zeroValue81, Tryz.underlying122, Tryz.runUnderlying122, Tryz.sizeOf122, Tryz.isAgg122, Tryz.zeroValue122, Tryz.underlying146, Tryz.runUnderlying146, Tryz.sizeOf146, Tryz.isAgg146, Tryz.zeroValue146, Tryz.underlying121, Tryz.runUnderlying121, Tryz.sizeOf121, Tryz.isAgg121, Tryz.zeroValue121, Tryz.underlying21, Tryz.runUnderlying21, Tryz.sizeOf21, Tryz.isAgg21, Tryz.zeroValue21, (by kernel_rfl), (by kernel_rfl)⟩
theorem rwRLib : Go.Conc.Locks.RwRLib Tryz.prog rwLink := ⟨rwCore, Tryz.func35, Tryz.func36⟩
end Go.Proofs.YtphikgobdfknkaaGreatDoor
namespace Go.Proofs.YtphikgobdfknkaaGreatDoor
open Go.RowKit Go.Maps Go.RwLone
set_option linter.unusedVariables false
set_option linter.unusedSimpArgs false

theorem wrap_up : wrap32 ((0 : Int) + 1) = 1 := by decide +kernel
theorem wrap_down : wrap32 ((1 : Int) + -1) = 0 := by decide +kernel

/-- The reader's lock of a directory that nobody holds. -/
theorem rlock_dir (g mb : Nat) (q fu : Int) (w : World) (hobj : w.heap[g]? = some (.cells (dirC mb q fu) 88 (0, 0))) :
    Calls Tryz.prog 35 #[.pointer (some ⟨g, 0, none⟩)] w fun e w' => e = .returned (.tuple #[]) ∧ w' = w.setCell ⟨g, 4, none⟩ (.int .i32 1) := by
  have := rlock_open rwRLib g 0 0 (.int .i32 0) (.int .u32 0) w (by simp [World.cell?, hobj]) (by simp [World.cell?, hobj]) (by simp [World.cell?, hobj]) (by simp [World.frozen?, hobj]) (by rw [wrap_up]; decide)
  rw [wrap_up] at this
  exact this

/-- .. and let go by a deferred call. -/
theorem runlock_dir (g mb : Nat) (q fu : Int) (u : FrameMode) (w : World) (hobj : w.heap[g]? = some (.cells ((dirC mb q fu).setIfInBounds 4 (.int .i32 1)) 88 (0, 0))) :
    CallsD Tryz.prog 36 #[.pointer (some ⟨g, 0, none⟩)] u w fun e u' w' => u' = u ∧ (e = .returned (.tuple #[]) ∧ w' = w.setCell ⟨g, 4, none⟩ (.int .i32 0)) := by
  have := runlock_deferred rwRLib g 0 1 (.int .i32 0) (.int .u32 0) u w (by simp [World.cell?, hobj]) (by simp [World.cell?, hobj]) (by simp [World.cell?, hobj]) (by simp [World.frozen?, hobj]) (by rw [wrap_down]; decide)
  rw [wrap_down] at this
  exact this

/-- Locked, something made, and let go: of what was there nothing has turned. -/
theorem unlock_below {w w1 : World} {g i : Nat} {cs : Array Value} {t : TypeId} {v0 v1 : Value} (hobj : w.heap[g]? = some (.cells cs t (0, 0))) (h4 : cs[i]? = some v0) (hb : Below w.heap.size (w.setCell ⟨g, i, none⟩ v1) w1) :
    Below w.heap.size w (w1.setCell ⟨g, i, none⟩ v0) := by
  have hg : g < w.heap.size := by
    by_cases hg : g < w.heap.size
    · exact hg
    · rw [Array.getElem?_eq_none (by omega)] at hobj; cases hobj
  refine ⟨hb.os, hb.tape, hb.output, ?_, fun k hk => ?_⟩
  · have := hb.size
    simpa using this
  · by_cases hkg : k = g
    · subst hkg
      have e1 := heap_setCell_same w k i cs t v1 hobj
      have e2 := (hb.block k hk).trans e1
      have e3 := heap_setCell_same w1 k i _ t v0 e2
      rw [e3, hobj]
      have hlt : i < cs.size := by
        by_cases hlt : i < cs.size
        · exact hlt
        · rw [Array.getElem?_eq_none (by omega)] at h4; cases h4
      congr 2
      apply Array.ext_getElem?
      intro j
      by_cases hj : i = j
      · subst hj
        rw [h4, Array.getElem?_setIfInBounds]
        simp [hlt]
      · rw [Array.getElem?_setIfInBounds_ne hj, Array.getElem?_setIfInBounds_ne hj]
    · rw [Below.heap_setCell _ _ _ _ hkg, hb.block k hk, Below.heap_setCell _ _ _ _ hkg]

end Go.Proofs.YtphikgobdfknkaaGreatDoor
namespace Go.Proofs.YtphikgobdfknkaaGreatDoor
open Go.RowKit Go.Maps Go.RwLone
set_option linter.unusedVariables false
set_option linter.unusedSimpArgs false

set_option maxHeartbeats 1000000 in
theorem find_any (g mb c : Nat) (q fu : Int) (m : List UInt8 → Option (ByteArray × Int)) (s : ByteArray) (w : World) (hs : s.size ≤ maxLen) (hobj : w.heap[g]? = some (.cells (dirC mb q fu) 88 (0, 0))) (hdir : Dir w mb c m) (hne : g ≠ mb) :
    Calls Tryz.prog 18 #[.pointer (some ⟨g, 0, none⟩), .string s] w fun e w' =>
      e = .returned (.tuple #[.string ((m s.data.toList).getD (ByteArray.empty, 0)).1, .bool (m s.data.toList).isSome]) ∧ Below w.heap.size w w' := by
  have c0 : w.cell? ⟨g, 0, none⟩ = some (.int .i32 0) := by simp [World.cell?, hobj]
  have c2 : w.cell? ⟨g, 2, none⟩ = some (.int .u32 0) := by simp [World.cell?, hobj]
  have c3 : w.cell? ⟨g, 3, none⟩ = some (.int .u32 0) := by simp [World.cell?, hobj]
  have c4 : w.cell? ⟨g, 4, none⟩ = some (.int .i32 0) := by simp [World.cell?, hobj]
  have c6 : w.cell? ⟨g, 6, none⟩ = some (.map (some mb)) := by simp [World.cell?, hobj]
  have z4 : w.frozen? ⟨g, 4, none⟩ = false := by simp [World.frozen?, hobj]
  have hgl : g < w.heap.size := World.block_lt_of_cell? w _ c0
  have hlk := (hdir.setCell (a := ⟨g, 4, none⟩) (v := .int .i32 1) (fun e => hne e.symm)).look hs
  generalize (m s.data.toList).getD (ByteArray.empty, 0) = x at *
  generalize (m s.data.toList).isSome = ok at *
  go_enter_defers Tryz.func18, Tryz.ntmps18
  go_wp2_with fail
  refine (rlock_dir g mb q fu _ hobj).mono ?_
  rintro e w' ⟨rfl, rfl⟩
  go_wp2
  refine leaves_cons (f := 36) (args := #[.pointer (some ⟨g, 0, none⟩)]) (by simp) (by simp [go_sem]) ?_
  refine (runlock_dir g mb q fu .returning _ ?_).mono ?_
  · rw [Below.heap_alloc _ _ _ (by simpa using hgl)]
    exact heap_setCell_same w g 4 _ _ (.int .i32 1) hobj
  rintro e u' w'' ⟨rfl, rfl, rfl⟩
  refine ⟨_, results_tmp2 rfl _ _ _, rfl, ?_⟩
  exact unlock_below hobj (by rfl) ((Below.refl _ _).alloc (by simp) _)
end Go.Proofs.YtphikgobdfknkaaGreatDoor
namespace Go.Proofs.YtphikgobdfknkaaGreatDoor
open Go.RowKit Go.Maps
set_option linter.unusedVariables false
set_option linter.unusedSimpArgs false

theorem fm_at {xs : List Fl} (h : Rise xs) {i : Nat} (hi : i < xs.length) : fm xs (xs.getD i fl0).nm.data.toList = some ((xs.getD i fl0).dt, (xs.getD i fl0).sy) := by
  have key : ∀ k, i < k → k ≤ xs.length → fm (xs.take k) (xs.getD i fl0).nm.data.toList = some ((xs.getD i fl0).dt, (xs.getD i fl0).sy) := by
    intro k
    induction k with
    | zero => intro h0; omega
    | succ k ih =>
      intro h1 h2
      rw [take_snoc xs k (by omega), fm_snoc]
      unfold upd
      by_cases hik : i = k
      · subst hik
        rw [if_pos rfl]
      · rw [if_neg (h.ne (show i < k by omega) (by omega))]
        exact ih (by omega) (by omega)
  have := key xs.length hi (Nat.le_refl _)
  rwa [List.take_length] at this

theorem toList_ne {a b : ByteArray} (h : (a.toList == b.toList) = false) : a.data.toList ≠ b.data.toList := by
  rw [ByteArray.toList_eq, ByteArray.toList_eq] at h
  simpa using h
theorem toList_eq' {a b : ByteArray} (h : (a.toList == b.toList) = true) : a = b := by
  rw [ByteArray.toList_eq, ByteArray.toList_eq] at h
  exact ByteArray.ext (Array.toList_inj.1 (by simpa using h))

/-- r is the place of the file s in the list, -1 if there is none. -/
def AtRel (xs : List Fl) (s : ByteArray) (r : Int) : Prop :=
  (r = -1 ∧ ∀ i, i < xs.length → (xs.getD i fl0).nm.data.toList ≠ s.data.toList) ∨ (∃ i : Nat, i < xs.length ∧ r = i ∧ (xs.getD i fl0).nm = s)

set_option maxHeartbeats 400000 in
theorem l1At_any (a : Option Addr) (cap : Nat) (xs : List Fl) (q fu : Int) (s : ByteArray) (w : World) (hx : Lie w a xs) (hlen : xs.length ≤ 1048576) :
    Calls Tryz.prog 26 #[.agg #[.slice a xs.length cap, .int .i64 q, .int .i64 fu], .string s] w fun e w' =>
      (∃ r : Int, e = .returned (.int .i64 r) ∧ AtRel xs s r) ∧ Below w.heap.size w w' := by
  have hb0 : Below w.heap.size w (w.alloc (.cells #[.slice a xs.length cap, .int .i64 q, .int .i64 fu] 29)) := (Below.refl _ _).alloc (Nat.le_refl _) _
  go_enter Tryz.func26, Tryz.ntmps26
  go_wp2
  go_loop [5] (fun i => ∃ k : Nat, k ≤ xs.length ∧ i = .int .i64 k ∧ Hid (∀ j, j < k → (xs.getD j fl0).nm.data.toList ≠ s.data.toList)) (fun i => xs.length - (intOf i).toNat)
  case atStart => exact ⟨0, Nat.zero_le _, rfl, fun j hj => absurd hj (Nat.not_lt_zero _)⟩
  case round =>
    obtain ⟨k, hk, rfl, HA⟩ := hrel
    by_cases hlt : k < xs.length
    · obtain ⟨b, off, rfl, hbl, c0, c1, c2⟩ := hx.at hlt
      have HK : Hid ((xs.getD k fl0).nm = (xs.getD k fl0).nm) := rfl
      generalize hf : xs.getD k fl0 = f at *
      have HF : Hid (xs.getD k fl0 = f) := hf
      clear hf HK
      cases he : (f.nm.toList == s.toList) with
      | true =>
        have HR : AtRel xs s k := .inr ⟨k, hlt, rfl, by rw [HF.out]; exact toList_eq' he⟩
        go_wp2
        go_ret
        exact ⟨⟨_, rfl, HR⟩, hb0⟩
      | false =>
        have HA' : Hid (∀ j, j < k + 1 → (xs.getD j fl0).nm.data.toList ≠ s.data.toList) := by
          intro j hj
          by_cases hjk : j = k
          · rw [hjk, HF.out]; exact toList_ne he
          · exact HA.out j (by omega)
        go_wp2
        exact ⟨⟨k + 1, by omega, by go_num, HA'⟩, by simp [intOf]; omega⟩
    · obtain rfl : k = xs.length := by omega
      have HR : AtRel xs s (-1) := .inl ⟨rfl, HA.out⟩
      go_wp2
      go_ret
      exact ⟨⟨-1, rfl, HR⟩, hb0⟩

end Go.Proofs.YtphikgobdfknkaaGreatDoor
namespace Go.Proofs.YtphikgobdfknkaaGreatDoor
open Go.RowKit Go.Maps
set_option linter.unusedVariables false
set_option linter.unusedSimpArgs false

set_option maxHeartbeats 400000 in
theorem l1Data_any (a : Option Addr) (cap : Nat) (xs : List Fl) (q fu : Int) (s : ByteArray) (w : World) (hx : Lie w a xs) (hlen : xs.length ≤ 1048576) (hr : Rise xs) :
    Calls Tryz.prog 11 #[.agg #[.slice a xs.length cap, .int .i64 q, .int .i64 fu], .string s] w fun e w' =>
      e = .returned (.tuple #[.string ((fm xs s.data.toList).getD (ByteArray.empty, 0)).1, .bool (fm xs s.data.toList).isSome]) ∧ Below w.heap.size w w' := by
  have hb0 : Below w.heap.size w (w.alloc (.cells #[.slice a xs.length cap, .int .i64 q, .int .i64 fu] 29)) := (Below.refl _ _).alloc (Nat.le_refl _) _
  generalize hfm : fm xs s.data.toList = o
  have HF : Hid (fm xs s.data.toList = o) := hfm
  clear hfm
  go_enter Tryz.func11, Tryz.ntmps11
  go_wp2_with fail
  refine (l1At_any a cap xs q fu s _ (hx.below hb0) hlen).mono ?_
  rintro e w1 ⟨⟨r, rfl, hr1⟩, hb1⟩
  have hbb := hb0.trans (hb1.mono hb0.size)
  rcases hr1 with ⟨rfl, hall⟩ | ⟨i, hi, rfl, hnm⟩
  · have HO : Hid (o = none) := HF.out.symm.trans (fm_none hall)
    clear hall
    go_wp2
    go_ret2
    rw [HO.out]
    exact ⟨rfl, hbb⟩
  · have hfm := fm_at hr hi
    rw [hnm] at hfm
    have HO : Hid (o = some ((xs.getD i fl0).dt, (xs.getD i fl0).sy)) := HF.out.symm.trans hfm
    clear hfm hnm
    obtain ⟨b, off, rfl, hbl, c0, c1, c2⟩ := (hx.below hbb).at hi
    have p0 : w1.cell? ⟨w.heap.size, 0, none⟩ = some (.slice (some ⟨b, off, none⟩) xs.length cap) := (hb1.cell (p := ⟨w.heap.size, 0, none⟩) (by simp)).trans (by simp)
    generalize xs.getD i fl0 = f at *
    go_wp2
    go_ret2
    rw [HO.out]
    exact ⟨rfl, hbb⟩

/-- What FsFind answers. -/
def findV (xs : List Fl) (q fu : Int) (s : ByteArray) : ByteArray × Bool :=
  if vldB xs q fu = true then (((fm xs s.data.toList).getD (ByteArray.empty, 0)).1, (fm xs s.data.toList).isSome) else (ByteArray.empty, false)

end Go.Proofs.YtphikgobdfknkaaGreatDoor
