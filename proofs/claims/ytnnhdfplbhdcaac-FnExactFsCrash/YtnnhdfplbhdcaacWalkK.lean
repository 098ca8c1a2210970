
import Derived.Test.YtnnhdfplbhdcaacLocked
import Derived.Conc.RwLoneW
namespace Go.Proofs.Ytnnhdfplbhdcaac
open Go.RowKit Go.Maps Go.RwLone
set_option linter.unusedVariables false
set_option linter.unusedSimpArgs false

/-- Below B the world is as it was, but for the blocks of a list. -/
structure But (ex : List Nat) (B : Nat) (w w' : World) : Prop where
  os : w'.os = w.os
  tape : w'.tape = w.tape
  output : w'.output = w.output
  size : w.heap.size ≤ w'.heap.size
  block : ∀ k, k < B → k ∉ ex → w'.heap[k]? = w.heap[k]?

theorem But.of {ex : List Nat} {B : Nat} {w w' : World} (h : Below B w w') : But ex B w w' := ⟨h.os, h.tape, h.output, h.size, fun k hk _ => h.block k hk⟩
theorem But.trans {ex : List Nat} {B : Nat} {a b c : World} (h : But ex B a b) (k : But ex B b c) : But ex B a c :=
  ⟨k.os.trans h.os, k.tape.trans h.tape, k.output.trans h.output, Nat.le_trans h.size k.size, fun i hi hn => (k.block i hi hn).trans (h.block i hi hn)⟩
theorem But.mono {ex : List Nat} {B B' : Nat} {w w' : World} (h : But ex B w w') (hB : B' ≤ B) : But ex B' w w' := ⟨h.os, h.tape, h.output, h.size, fun k hk => h.block k (Nat.lt_of_lt_of_le hk hB)⟩
theorem But.more {ex ex' : List Nat} {B : Nat} {w w' : World} (h : But ex B w w') (hs : ∀ k, k ∈ ex → k ∈ ex') : But ex' B w w' := ⟨h.os, h.tape, h.output, h.size, fun k hk hn => h.block k hk (fun e => hn (hs k e))⟩
theorem But.below {ex : List Nat} {B : Nat} {w w' : World} (h : But ex B w w') (hs : ∀ k, k ∈ ex → k < B → w'.heap[k]? = w.heap[k]?) : Below B w w' :=
  ⟨h.os, h.tape, h.output, h.size, fun k hk => by by_cases hn : k ∈ ex; exact hs k hn hk; exact h.block k hk hn⟩
theorem But.far {ex : List Nat} {B : Nat} {w w' : World} (h : But ex B w w') (hs : ∀ k, k ∈ ex → B ≤ k) : Below B w w' := h.below fun k hk hB => absurd (hs k hk) (by omega)
theorem But.setCell {ex : List Nat} {B : Nat} (w : World) {a : Addr} {v : Value} (ha : a.block ∈ ex) : But ex B w (w.setCell a v) :=
  ⟨rfl, rfl, rfl, by simp [World.setCell], fun k _ hn => Below.heap_setCell _ _ _ _ (fun e => hn (e ▸ ha))⟩
theorem But.turned {ex : List Nat} {B b : Nat} {w w' : World} (h : w.mapTurned w' b) (hb : b ∈ ex) : But ex B w w' := by
  obtain ⟨es, clock, es', clock', e, rfl⟩ := h
  refine ⟨rfl, rfl, rfl, by simp [Go.ChangeMaps.setBlock], fun k _ hn => ?_⟩
  have hne : b ≠ k := fun e' => hn (e' ▸ hb)
  simp [Go.ChangeMaps.setBlock, Array.getElem?_setIfInBounds_ne hne]

/-- The cells of a directory object: the lock's two numbers, the map, quota, fuel. -/
abbrev objC (l0 l4 : Int) (mb : Nat) (q fu : Int) : Array Value := #[.int .i32 l0, .int .u32 0, .int .u32 0, .int .u32 0, .int .i32 l4, .int .i32 0, .map (some mb), .int .i64 q, .int .i64 fu]
/-- A directory object lies at block g. -/
def Ob (w : World) (g : Nat) (l0 l4 : Int) (mb : Nat) (q fu : Int) : Prop := w.heap[g]? = some (.cells (objC l0 l4 mb q fu) 70 (0, 0))

theorem Ob.lt {w : World} {g mb : Nat} {l0 l4 q fu : Int} (h : Ob w g l0 l4 mb q fu) : g < w.heap.size := by
  by_cases hg : g < w.heap.size
  · exact hg
  · unfold Ob at h; rw [Array.getElem?_eq_none (by omega)] at h; cases h
theorem Ob.ne {w : World} {g mb c : Nat} {l0 l4 q fu : Int} {m : List UInt8 → Option (ByteArray × Int)} (h : Ob w g l0 l4 mb q fu) (hd : Dir w mb c m) : g ≠ mb := by
  rintro rfl
  obtain ⟨D, ⟨es, clock, e, _⟩, _⟩ := hd
  unfold Ob at h
  rw [h] at e
  cases e
theorem Ob.block {w w' : World} {g mb : Nat} {l0 l4 q fu : Int} (h : Ob w g l0 l4 mb q fu) (hb : w'.heap[g]? = w.heap[g]?) : Ob w' g l0 l4 mb q fu := hb.trans h
theorem Ob.below {w w' : World} {B g mb : Nat} {l0 l4 q fu : Int} (h : Ob w g l0 l4 mb q fu) (hb : Below B w w') (hg : g < B) : Ob w' g l0 l4 mb q fu := h.block (hb.block g hg)
theorem Ob.cells {w : World} {g mb : Nat} {l0 l4 q fu : Int} (h : Ob w g l0 l4 mb q fu) :
    w.cell? ⟨g, 6, none⟩ = some (.map (some mb)) ∧ w.cell? ⟨g, 7, none⟩ = some (.int .i64 q) ∧ w.cell? ⟨g, 8, none⟩ = some (.int .i64 fu) ∧ w.frozen? ⟨g, 8, none⟩ = false := by
  unfold Ob at h
  exact ⟨by simp [World.cell?, h], by simp [World.cell?, h], by simp [World.cell?, h], by simp [World.frozen?, h]⟩
theorem Ob.fuel {w : World} {g mb : Nat} {l0 l4 q fu : Int} (h : Ob w g l0 l4 mb q fu) (f : Int) : Ob (w.setCell ⟨g, 8, none⟩ (.int .i64 f)) g l0 l4 mb q f := by
  unfold Ob at *
  rw [heap_setCell_same w g 8 _ _ _ h]
  rfl

/-- The writer's lock of a directory that nobody holds. -/
theorem wlock_dir (g mb : Nat) (q fu : Int) (w : World) (h : Ob w g 0 0 mb q fu) :
    Calls Try.prog 29 #[.pointer (some ⟨g, 0, none⟩)] w fun e w' => e = .returned (.tuple #[]) ∧ Ob w' g 1 (-1073741824) mb q fu ∧ But [g] w.heap.size w w' ∧ w'.heap.size = w.heap.size := by
  have h' := h
  unfold Ob at h'
  refine (wlock_free rwWLib g 0 (.int .u32 0) (.int .u32 0) w (by simp [World.cell?, h']) (by simp [World.cell?, h']) (by simp [World.cell?, h']) (by simp [World.cell?, h']) (by simp [World.frozen?, h']) (by simp [World.frozen?, h'])).mono ?_
  rintro e w' ⟨rfl, rfl⟩
  refine ⟨rfl, ?_, (But.setCell w (by simp)).trans (But.setCell _ (by simp)), by simp⟩
  have e1 := heap_setCell_same w g 0 _ _ (.int .i32 1) h'
  exact heap_setCell_same _ g 4 _ _ (.int .i32 (-1073741824)) e1

/-- .. and let go by a deferred call. -/
theorem wunlock_dir (g mb : Nat) (q fu : Int) (u : FrameMode) (w : World) (h : Ob w g 1 (-1073741824) mb q fu) :
    CallsD Try.prog 30 #[.pointer (some ⟨g, 0, none⟩)] u w fun e u' w' => u' = u ∧ (e = .returned (.tuple #[]) ∧ Ob w' g 0 0 mb q fu ∧ But [g] w.heap.size w w' ∧ w'.heap.size = w.heap.size) := by
  have h' := h
  unfold Ob at h'
  refine (wunlock_deferred rwWLib g 0 (.int .u32 0) (.int .u32 0) u w (by simp [World.cell?, h']) (by simp [World.cell?, h']) (by simp [World.cell?, h']) (by simp [World.cell?, h']) (by simp [World.frozen?, h']) (by simp [World.frozen?, h'])).mono ?_
  rintro e u' w' ⟨rfl, rfl, rfl⟩
  refine ⟨rfl, rfl, ?_, (But.setCell w (by simp)).trans (But.setCell _ (by simp)), by simp⟩
  have e1 := heap_setCell_same w g 4 _ _ (.int .i32 0) h'
  exact heap_setCell_same _ g 0 _ _ (.int .i32 0) e1

/-- Texts lie one behind the other from ⟨b, off⟩ on. -/
def LieN (w : World) (a : Option Addr) (ns : List ByteArray) : Prop :=
  ns = [] ∨ ∃ b off, a = some ⟨b, off, none⟩ ∧ b < w.heap.size ∧ ∀ i, i < ns.length → w.cell? ⟨b, off + i, none⟩ = some (.string (ns.getD i ByteArray.empty))

theorem LieN.at {w : World} {a : Option Addr} {ns : List ByteArray} (h : LieN w a ns) {i : Nat} (hi : i < ns.length) :
    ∃ b off, a = some ⟨b, off, none⟩ ∧ b < w.heap.size ∧ w.cell? ⟨b, off + i, none⟩ = some (.string (ns.getD i ByteArray.empty)) := by
  rcases h with rfl | ⟨b, off, rfl, hlt, hc⟩
  · simp at hi
  · exact ⟨b, off, rfl, hlt, hc i hi⟩

/-- What begin answers, and the fuel behind it. -/
def bgn (fu : Int) (ok : Bool) : Int := if fu = 0 then 8 else if ok then 0 else 2
def fuel' (fu : Int) : Int := if 0 < fu then fu - 1 else fu

theorem all_names {ns : List ByteArray} {k : Nat} (h : ∀ j, j < k → nmOk (ns.getD j ByteArray.empty) = true) (hk : k < ns.length) (hb : nmOk (ns.getD k ByteArray.empty) = false) : ns.all nmOk = false := by
  rw [List.all_eq_false]
  refine ⟨ns[k], List.getElem_mem hk, ?_⟩
  have : ns.getD k ByteArray.empty = ns[k] := by simp [List.getD, hk]
  rw [← this, hb]
  simp
theorem all_names_full {ns : List ByteArray} (h : ∀ j, j < ns.length → nmOk (ns.getD j ByteArray.empty) = true) : ns.all nmOk = true := by
  rw [List.all_eq_true]
  intro s hs
  obtain ⟨i, hi, rfl⟩ := List.getElem_of_mem hs
  have := h i hi
  simpa [List.getD, hi] using this

end Go.Proofs.Ytnnhdfplbhdcaac
