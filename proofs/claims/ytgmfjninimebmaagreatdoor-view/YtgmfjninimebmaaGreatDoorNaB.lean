import Derived.Test.YtgmfjninimebmaaGreatDoorMgNwY

import Derived.RangeFuncNested
import Derived.RangeFuncBound
import Derived.RangeFuncCalls
import Derived.RangeFuncLeaves
import Derived.OwnWalkIn
import Derived.TacticsInMore
import Derived.LoopNIn
import Derived.LoopIn
import Derived.Maps.OwnIn
namespace Go.Proofs.YtgmfjninimebmaaGreatDoor
open Go.RowKit Go.Maps Go.Shelf
set_option linter.unusedVariables false
set_option linter.unusedSimpArgs false

theorem alloc_atM (W : World) (o : Obj) (k : Nat) (hk : k = W.heap.size) : (W.alloc o).heap[k]? = some o := by subst hk; exact World.heap_alloc_new _ _
theorem grown_of_belowM {w w' : World} (h : Below w.heap.size w w') (row : Option Nat) : w.grownBy w' row := ⟨h.os, h.tape, h.output, h.size, fun k hk _ => h.block k hk⟩
/-- A loop over an iterator that writes into memory of its own (It says what it may turn), whose body never leaves it and keeps that memory (Kp); the loop's variable is laid in a block of its own. -/
theorem loop_mine {α : Type} {n : Nat} {P : Program} {g : Operand} {ps : Array Tmp} {assign body : Code} {Q : Exit → Act → World → Prop} {a : Act} {w : World} {gf : Nat} {lb : Array Value}
    (hg : a.eval g = .func (.func gf) #[] lb) (eg : ∀ args w, (callFunc gf args).run P w = .ok (.enter gf args) w) (encs : α → Array Value) (hps : ∀ x, (encs x).size = ps.size) (Kp It : World → World → Prop) (S : List α → Prop) (N : Nat)
    (hKt : ∀ {A B C : World}, Kp A B → Kp B C → Kp A C) (hKb : ∀ (W : World) (r r' : Loop), W.heap[w.heap.size + 1]? = some (.loop r) → Kp W (W.putObj (w.heap.size + 1) (.loop r')))
    (hIo : ∀ (W W' : World) (k : Nat) (o : Obj), It W W' → w.heap.size ≤ k → W.heap[k]? = some o → o.isCells = false → W'.heap[k]? = some o)
    (hseq : ∀ (J : List α → World → Prop) (W1 : World), W1.heap.size = w.heap.size + 2 → Below w.heap.size w W1 → (∀ pre W W', J pre W → It W W' → J pre W') →
      (∀ pre x W, J pre W → pre.length < N → YieldAt Fence.wide (n - 1 - 1) P (w.heap.size + 1) (encs x) W fun e W' => e = .returned (.bool true) ∧ J (pre ++ [x]) W' ∧ Kp W W') → J [] W1 →
      CallsIn Fence.wide (n - 1) P gf (#[.func (.yield (w.heap.size + 1)) #[] #[]] ++ lb) W1 fun e W' => (∃ v, e = .returned v) ∧ ∃ xs, S xs ∧ J xs W')
    (I : List α → World → Prop) (hI : OwnFrom w.heap.size I) (hIt : ∀ pre W W', I pre W → It W W' → I pre W') (h0 : I [] w) (a₁ : α → World → Act) (asg : α → World → World) (Aft : α → World → World → Prop)
    (hassign : ∀ (x : α) (W : World) (K : Act → World → Prop), K (a₁ x W) (asg x W) → assign.wpIn (Fence.wide.inRound (w.heap.size + 1)) (n - 1 - 1) P (Exit.then K (fun _ _ _ => False)) { tmps := (ps.zip (encs x)).foldl (fun t (p, v) => t.setIfInBounds p v) a.tmps, defers := [] } W)
    (hasb : ∀ x W, Below W.heap.size W (asg x W)) (hKa : ∀ x W, w.heap.size ≤ W.heap.size → Kp W (asg x W)) (haft : ∀ x W (r r' : Loop), W.heap[w.heap.size + 1]? = some (.loop r) → Aft x W ((asg x W).putObj (w.heap.size + 1) (.loop r')))
    (hbody : ∀ (pre : List α) (x : α) (W W2 : World), I pre W2 → Aft x W W2 → pre.length < N → body.wpIn (Fence.wide.inRound (w.heap.size + 1)) (n - 1 - 1) P (fun e _ W' => e = .normal ∧ KeepsFrom w.heap.size W2 W' ∧ Kp W2 W' ∧ I (pre ++ [x]) W') (a₁ x W) W2)
    (hdone : ∀ (xs : List α) (W : World), S xs → I xs W → W.heap[w.heap.size]? = some (.deferred (some [])) → Q .normal { a with defers := { target := .collected w.heap.size, args := #[] } :: a.defers } W) :
    (Code.rangeFunc g ps assign body).wpIn Fence.wide n P Q a w := by
  refine wpIn_rangeFunc fun fn hfn => ?_
  let rc : LoopState → Loop := fun st => ⟨st, none, fn, a.tmps, ps, assign, body, w.heap.size⟩
  have hlay := run_enterLoop_outer (P := P) (w := w) fn a.tmps ps assign body
  have hz1 : ((w.alloc (.deferred (some []))).alloc (.loop (rc .ready))).heap.size = w.heap.size + 2 := by simp
  have hl1 : ((w.alloc (.deferred (some []))).alloc (.loop (rc .ready))).heap[w.heap.size + 1]? = some (.loop (rc .ready)) := alloc_atM _ _ _ (by simp)
  have hd1 : ((w.alloc (.deferred (some []))).alloc (.loop (rc .ready))).heap[w.heap.size]? = some (.deferred (some [])) := by
    rw [Below.heap_alloc _ _ _ (by simp)]
    exact alloc_atM _ _ _ rfl
  have hb1 : Below w.heap.size w ((w.alloc (.deferred (some []))).alloc (.loop (rc .ready))) := ((Below.refl _ _).alloc (Nat.le_refl _) _).alloc (by simp) _
  have hI1 : I [] ((w.alloc (.deferred (some []))).alloc (.loop (rc .ready))) := hI _ _ _ none (hI _ _ _ none h0 (World.grownBy_alloc _ _ none) (fun r e => by cases e)) (World.grownBy_alloc _ _ none) (fun r e => by cases e)
  have hput : ∀ (pre : List α) (W : World) (r r' : Loop), I pre W → W.heap[w.heap.size + 1]? = some (.loop r) → I pre (W.putObj (w.heap.size + 1) (.loop r')) := fun pre W r r' h hr =>
    hI pre W _ (some (w.heap.size + 1)) h (grownBy_putObj' W _ _) (fun k e => by cases e; exact ⟨Nat.le_succ _, _, hr, rfl⟩)
  refine ⟨w.heap.size + 1, [{ target := .collected w.heap.size, args := #[] }], _, { target := .fn (.func gf) lb, args := #[.func (.yield (w.heap.size + 1)) #[] #[]] }, (w.alloc (.deferred (some []))).alloc (.loop (rc .ready)), gf, #[.func (.yield (w.heap.size + 1)) #[] #[]] ++ lb, (w.alloc (.deferred (some []))).alloc (.loop (rc .ready)), hlay, ?_, fun _ _ => trivial, ?_, (fun h => by cases h), ?_⟩
  · simp only [resolve, hg]
    simp [go_sem]
    try rfl
  · simp [invoke, go_sem, eg]
  · refine (hseq (fun pre W => I pre W ∧ W.heap[w.heap.size + 1]? = some (.loop (rc .ready)) ∧ W.heap[w.heap.size]? = some (.deferred (some []))) _ hz1 hb1 ?_ ?_ ⟨hI1, hl1, hd1⟩).mono ?_
    · intro pre W W' hs hit
      exact ⟨hIt pre W W' hs.1 hit, hIo W W' _ _ hit (Nat.le_succ _) hs.2.1 rfl, hIo W W' _ _ hit (Nat.le_refl _) hs.2.2 rfl⟩
    · rintro pre x W ⟨hi, hl, hd⟩ hlen
      have hl' : (asg x W).heap[w.heap.size + 1]? = some (.loop (rc .ready)) := ((hasb x W).block _ (heap_lt hl)).trans hl
      have hd' : (asg x W).heap[w.heap.size]? = some (.deferred (some [])) := ((hasb x W).block _ (heap_lt hd)).trans hd
      have hi' : I pre (asg x W) := hI pre W _ none hi (grown_of_belowM (hasb x W) none) (fun r e => by cases e)
      refine ⟨fn, _, assign, body, run_yield hl (hps x), roundIn_of_wpIn trivial (hassign x W _ ⟨_, run_beginRound hl' rfl, ?_⟩)⟩
      have hl2 : ((asg x W).putObj (w.heap.size + 1) (.loop (rc .busy))).heap[w.heap.size + 1]? = some (.loop (rc .busy)) := World.putObj_heap_same (heap_lt hl')
      have hd2 : ((asg x W).putObj (w.heap.size + 1) (.loop (rc .busy))).heap[w.heap.size]? = some (.deferred (some [])) := (World.putObj_heap_other (by omega)).trans hd'
      refine wpIn_mono (hbody pre x W _ (hput pre _ _ (rc .busy) hi' hl') (haft x W _ (rc .busy) hl) hlen) ?_
      rintro e a3 W3 ⟨rfl, hkf, hkp, hi3⟩
      have hl3 := hkf.same _ _ (by omega) hl2 rfl
      have hd3 := hkf.same _ _ (Nat.le_refl _) hd2 rfl
      refine ⟨_, _, run_endRound none hl3, rfl, ⟨hput _ _ _ (rc .ready) hi3 hl3, World.putObj_heap_same (heap_lt hl3), (World.putObj_heap_other (by omega)).trans hd3⟩, hKt (hKt (hKt (hKa x W (by have := heap_lt hd; omega)) (hKb _ _ (rc .busy) hl')) hkp) (hKb W3 _ (rc .ready) hl3)⟩
    · rintro e W2 ⟨⟨v, rfl⟩, xs, hS, hi, hl, hd⟩
      refine ⟨none, _, run_endLoop hl (by simp [rc]), hdone xs _ hS (hput xs W2 _ ⟨.exhausted, none, fn, a.tmps, ps, assign, body, w.heap.size⟩ hi hl) ((World.putObj_heap_other (by omega)).trans hd)⟩
end Go.Proofs.YtgmfjninimebmaaGreatDoor
