
import Derived.Test.YtnnhdfplbhdcaacWalkP
namespace Go.Proofs.Ytnnhdfplbhdcaac
open Go.RowKit Go.Maps
set_option linter.unusedVariables false
set_option linter.unusedSimpArgs false

/-- The files but one. -/
def wo (xs : List Fl) (s : ByteArray) : List Fl := xs.filter fun f => !(f.nm.toList == s.toList)

theorem wo_length (xs : List Fl) (s : ByteArray) : (wo xs s).length ≤ xs.length := List.length_filter_le _ _
theorem wo_snoc (xs : List Fl) (s : ByteArray) (f : Fl) : wo (xs ++ [f]) s = if (f.nm.toList == s.toList) = true then wo xs s else wo xs s ++ [f] := by
  unfold wo
  rw [List.filter_append]
  cases h : (f.nm.toList == s.toList) <;> simp [List.filter_cons, h]

/-- A row that the call owns stays owned while nothing from its base on is touched. -/
theorem owns_lit0 (w : World) (t : TypeId) (B : Nat) (hB : B ≤ w.heap.size) : (w.alloc (.cells #[] t)).ownsRow B t 3 (.slice (some ⟨w.heap.size, 0, none⟩) 0 0) 0 (cellsF []) :=
  ⟨rfl, .inr ⟨w.heap.size, 0, #[], rfl, hB, World.heap_alloc_new _ _, Nat.le_refl _, Nat.zero_le _, rfl, rfl⟩⟩

theorem cell_first3 (w : World) (x y z : Value) (t : TypeId) : ∀ j u, [x, y, z][j]? = some u → (w.alloc (.cells #[x, y, z] t)).cell? ((⟨w.heap.size, 0, none⟩ : Addr).add j) = some u := by
  intro j u hj
  rw [Go.WideShapes.add_plain]
  have hb : (w.alloc (.cells #[x, y, z] t)).heap[w.heap.size]? = some (.cells #[x, y, z] t (0, 0)) := World.heap_alloc_new _ _
  simp only [World.cell?, hb]
  match j, hj with
  | 0, hj => simpa using hj
  | 1, hj => simpa using hj
  | 2, hj => simpa using hj

end Go.Proofs.Ytnnhdfplbhdcaac
