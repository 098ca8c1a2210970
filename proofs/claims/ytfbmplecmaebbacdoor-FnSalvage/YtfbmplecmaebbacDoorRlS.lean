
import Derived.Test.YtfbmplecmaebbacDoorRlM
namespace Go.Proofs.YtfbmplecmaebbacDoor
open Go.RowKit Go.Maps
set_option linter.unusedVariables false
set_option linter.unusedSimpArgs false

theorem cell_first1 (w : World) (x : Value) (t : TypeId) : ∀ j v, [x][j]? = some v → (w.alloc (.cells #[x] t)).cell? ((⟨w.heap.size, 0, none⟩ : Addr).add j) = some v := by
  intro j v hj
  rw [Go.WideShapes.add_plain]
  have hb : (w.alloc (.cells #[x] t)).heap[w.heap.size]? = some (.cells #[x] t (0, 0)) := World.heap_alloc_new _ _
  simp only [World.cell?, hb]
  match j, hj with
  | 0, hj => simpa using hj
theorem owns_lt {w : World} {B n size : Nat} {e : TypeId} {v : Value} {xs : List Value} (h : w.ownsRow B e size v n xs) : ∀ k, v.ownBlock = some k → k < w.heap.size := by
  obtain ⟨h1, h2⟩ := h
  intro k hk
  rcases h2 with ⟨rfl, -⟩ | ⟨g, cap, cur, rfl, hg, hb, hrest⟩
  · cases hk
  · cases hk
    exact heap_lt hb
theorem str_len (xs : List ByteArray) : (strL xs).length = xs.length := by simp [strL]

end Go.Proofs.YtfbmplecmaebbacDoor
