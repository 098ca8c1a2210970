
import Derived.Test.YtnnhdfplbhdcaacWalkR
namespace Go.Proofs.Ytnnhdfplbhdcaac
open Go.RowKit Go.Maps
set_option linter.unusedVariables false
set_option linter.unusedSimpArgs false

theorem Res.sub {w w' : World} {base cap : Nat} {a : Option Addr} {xs : List Fl} (h : Res w base a cap xs) (P : Nat → Prop) (hP : ∀ k, base ≤ k → k < w.heap.size → P k) (hb : ∀ k, P k → w'.heap[k]? = w.heap[k]?) : Res w' base a cap xs :=
  h.kept fun k h1 h2 => hb k (hP k h1 h2)

theorem three_set {w : World} {p : Nat} {t : TypeId} {x0 x1 x2 v0 v1 v2 : Value} (h : w.heap[p]? = some (.cells #[x0, x1, x2] t (0, 0))) :
    (((w.setCell ⟨p, 0, none⟩ v0).setCell ⟨p, 1, none⟩ v1).setCell ⟨p, 2, none⟩ v2).heap[p]? = some (.cells #[v0, v1, v2] t (0, 0)) := by
  have e1 := heap_setCell_same w p 0 _ _ v0 h
  have e2 := heap_setCell_same _ p 1 _ _ v1 e1
  have e3 := heap_setCell_same _ p 2 _ _ v2 e2
  rw [e3]
  simp
theorem three_other (w : World) {p k : Nat} (v0 v1 v2 : Value) (h : k ≠ p) : (((w.setCell ⟨p, 0, none⟩ v0).setCell ⟨p, 1, none⟩ v1).setCell ⟨p, 2, none⟩ v2).heap[k]? = w.heap[k]? := by
  rw [Below.heap_setCell _ _ _ _ h, Below.heap_setCell _ _ _ _ h, Below.heap_setCell _ _ _ _ h]
theorem three_below {B p : Nat} (w : World) (v0 v1 v2 : Value) (h : B ≤ p) : Below B w (((w.setCell ⟨p, 0, none⟩ v0).setCell ⟨p, 1, none⟩ v1).setCell ⟨p, 2, none⟩ v2) :=
  (((Below.refl B w).setCell h v0).setCell h v1).setCell h v2
theorem three_cells {w : World} {p : Nat} {t : TypeId} {x0 x1 x2 : Value} (h : w.heap[p]? = some (.cells #[x0, x1, x2] t (0, 0))) :
    (w.cell? ⟨p, 0, none⟩ = some x0 ∧ w.cell? ⟨p, 1, none⟩ = some x1 ∧ w.cell? ⟨p, 2, none⟩ = some x2) ∧ w.frozen? ⟨p, 0, none⟩ = false ∧ w.frozen? ⟨p, 1, none⟩ = false ∧ w.frozen? ⟨p, 2, none⟩ = false := by
  refine ⟨⟨?_, ?_, ?_⟩, ?_, ?_, ?_⟩ <;> simp [World.cell?, World.frozen?, h]

theorem fuel_pos {st : Bool} {fu r : Int} (h : (if st = true then fuel' fu else fu) = r) (hs : st = true) (hp : 0 < fu) : r = fu - 1 := by rw [← h, if_pos hs]; simp [fuel', hp]
theorem fuel_npos {st : Bool} {fu r : Int} (h : (if st = true then fuel' fu else fu) = r) (hp : ¬ 0 < fu) : r = fu := by
  rw [← h]
  split
  · simp [fuel', hp]
  · rfl

end Go.Proofs.Ytnnhdfplbhdcaac
