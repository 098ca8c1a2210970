
import Derived.Test.YtigpplcecbgmaaeApC
import Derived.Maps.OwnSet
namespace Go.Proofs.Ytigpplcecbgmaae
open Go.RowKit Go.Maps
set_option linter.unusedVariables false
set_option linter.unusedSimpArgs false

theorem keyI : Keyed Try.prog 3 := int_keyed Try.underlying3
theorem keyI_mk {x : Int} (h : (Lit.int .i64 x).wf = true) : keyOf Try.prog 3 (.int .i64 x) = some (.int .i64 x) := keyOf_int_mk Try.underlying3 h
theorem zeroI (w : World) : (zeroValue 3).run Try.prog w = .ok (.int .i64 0) w := by
  simp [zeroValue, go_sem]
  rfl
theorem two_cells {w : World} {p : Nat} {t : TypeId} {x0 x1 : Value} (h : w.heap[p]? = some (.cells #[x0, x1] t (0, 0))) : w.cell? ⟨p, 0, none⟩ = some x0 ∧ w.cell? ⟨p, 1, none⟩ = some x1 ∧ w.frozen? ⟨p, 0, none⟩ = false ∧ w.frozen? ⟨p, 1, none⟩ = false := by
  refine ⟨?_, ?_, ?_, ?_⟩ <;> simp [World.cell?, World.frozen?, h]
/-- A number of a catalog. -/
theorem has_any {H : Type} (g b n : Nat) (tv : Value) (t : TypeId) (D : DataW H) (x : Int) (w : World) (hx : (Lit.int .i64 x).wf = true) (hg : w.heap[g]? = some (.cells #[tv, .map (some b)] t (0, 0))) (hown : w.ownsMap Try.prog 3 (plainElem Try.prog 3) b n D) :
    Calls Try.prog 62 #[.pointer (some ⟨g, 0, none⟩), .int .i64 x] w fun e w' => e = .returned (.bool (Maps.has D (.int .i64 x))) ∧ w' = w := by
  obtain ⟨c0, c1, -, -⟩ := two_cells hg
  have hO := hd hown
  clear hown
  go_enter Try.func62, Try.ntmps62
  go_wp2_with (at_lookup; refine wpList_lookup_own_ok_int _ rfl _ _ 94 rfl 3 3 .i64 keyI Try.underlying94 Try.underlying3 (zeroI _) b n D rfl hO.out _ _ rfl (keyI_mk hx) ?_; intro c hc hwc)
  go_ret
  exact ⟨rfl, rfl⟩
end Go.Proofs.Ytigpplcecbgmaae
