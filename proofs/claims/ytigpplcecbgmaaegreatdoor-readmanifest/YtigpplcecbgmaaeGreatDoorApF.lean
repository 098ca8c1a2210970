import Derived.Test.YtigpplcecbgmaaeGreatDoorApS

namespace Go.Proofs.YtigpplcecbgmaaeGreatDoor
open Go.RowKit Go.Maps
set_option linter.unusedVariables false
set_option linter.unusedSimpArgs false

theorem run_makeMap_hint (n : Int) (w : World) : (Instr.makeMap 130 (some (.int .i64 n))).run Tryz.prog w = .ok (.map (some w.heap.size)) (w.alloc (.map #[] 0)) := by
  simp [Instr.makeMap, run_underlying Tryz.underlying130, asInt, asIntOf, Result.andThen]
abbrev wfI (x : Int) : Prop := (Lit.int .i64 x).wf = true
theorem wfN (k : Nat) (h : k ≤ 1048576) : wfI (k : Int) := by
  unfold wfI
  have h1 : IntKind.min .i64 ≤ (k : Int) := by have : IntKind.min .i64 = -9223372036854775808 := by decide
                                               omega
  have h2 : (k : Int) ≤ IntKind.max .i64 := by have : IntKind.max .i64 = 9223372036854775807 := by decide
                                               omega
  show (decide (IntKind.min .i64 ≤ (k : Int)) && decide ((k : Int) ≤ IntKind.max .i64)) = true
  rw [decide_eq_true h1, decide_eq_true h2]
  rfl
theorem wfG : wfI (-1) := by decide
def wiL (ts : List Tr) (ks : List Int) : List Tr := if delsOk ts ks = true then leftT ts ks else []

theorem ownsT_lit (w : World) (B : Nat) (hB : B ≤ w.heap.size) : (w.alloc (.cells #[] 126)).ownsRow B 126 4 (.slice (some ⟨w.heap.size, 0, none⟩) 0 0) 0 (cellsT []) :=
  ⟨rfl, .inr ⟨w.heap.size, 0, #[], rfl, hB, World.heap_alloc_new _ _, Nat.le_refl _, Nat.zero_le _, rfl, rfl⟩⟩
theorem cell_new4 (w : World) (o : Obj) (x0 x1 x2 x3 : Value) (t : TypeId) : ∀ j u, [x0, x1, x2, x3][j]? = some u → ((w.alloc o).alloc (.cells #[x0, x1, x2, x3] t)).cell? ((⟨w.heap.size + 1, 0, none⟩ : Addr).add j) = some u := by
  intro j u hj
  have h := cell_first4 (w.alloc o) x0 x1 x2 x3 t j u hj
  rwa [show (w.alloc o).heap.size = w.heap.size + 1 by simp] at h
end Go.Proofs.YtigpplcecbgmaaeGreatDoor
