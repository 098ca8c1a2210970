import Derived.Test.YtigpplcecbgmaaeGreatDoorApX
import Derived.Maps.OwnSet
namespace Go.Proofs.YtigpplcecbgmaaeGreatDoor
open Go.RowKit Go.Maps
set_option linter.unusedVariables false
set_option linter.unusedSimpArgs false

theorem keyI : Keyed Tryz.prog 3 := int_keyed Tryz.underlying3
theorem keyI_mk {x : Int} (h : (Lit.int .i64 x).wf = true) : keyOf Tryz.prog 3 (.int .i64 x) = some (.int .i64 x) := keyOf_int_mk Tryz.underlying3 h
theorem zeroI (w : World) : (zeroValue 3).run Tryz.prog w = .ok (.int .i64 0) w := by
  simp [zeroValue, go_sem]
  rfl
/-- A number of a catalog. -/
theorem has_any {H : Type} (g b n : Nat) (tv : Value) (t : TypeId) (D : DataW H) (x : Int) (w : World) (hx : (Lit.int .i64 x).wf = true) (hg : w.heap[g]? = some (.cells #[tv, .map (some b)] t (0, 0))) (hown : w.ownsMap Tryz.prog 3 (plainElem Tryz.prog 3) b n D) :
    Calls Tryz.prog 102 #[.pointer (some ⟨g, 0, none⟩), .int .i64 x] w fun e w' => e = .returned (.bool (Maps.has D (.int .i64 x))) ∧ w' = w := by
  obtain ⟨c0, c1, -, -⟩ := two_cells hg
  have hO := hd hown
  clear hown
  go_enter Tryz.func102, Tryz.ntmps102
  go_wp2_with (at_lookup; refine wpList_lookup_own_ok_int _ rfl _ _ 130 rfl 3 3 .i64 keyI Tryz.underlying130 Tryz.underlying3 (zeroI _) b n D rfl hO.out _ _ rfl (keyI_mk hx) ?_; intro c hc hwc)
  go_ret
  exact ⟨rfl, rfl⟩
end Go.Proofs.YtigpplcecbgmaaeGreatDoor
namespace Go.Proofs.YtigpplcecbgmaaeGreatDoor
open Go.RowKit Go.Maps
set_option linter.unusedVariables false
set_option linter.unusedSimpArgs false

/-- A map of numbers: those of ns are in it, and those of gs are marked as gone. -/
def MIs {H : Type} (D : DataW H) (ns gs : List Int) : Prop :=
  ∀ x, has D (.int .i64 x) = ns.contains x ∧ (ns.contains x = true → ∃ d : Int, D.atKey (.int .i64 x) (.lit (.int .i64 0)) = .lit (.int .i64 d) ∧ (d = -1 ↔ gs.contains x = true))
theorem keyLitI (x : Int) : WideAt.IsKeyLit (.int .i64 x) := by simp [WideAt.IsKeyLit]
theorem litI_ne {x y : Int} (h : x ≠ y) : (Lit.int .i64 x) ≠ Lit.int .i64 y := fun e => h (by injection e)
theorem MIs.add {H : Type} {D : DataW H} {ns : List Int} (h : MIs D ns []) (hD : IsMap D) (x i : Int) (hi : 0 ≤ i) : MIs (D.put (.int .i64 x) (.lit (.int .i64 i))) (ns ++ [x]) [] := by
  intro y
  by_cases e : y = x
  · subst e
    rw [has_put_same hD (keyLitI _)]
    refine ⟨by simp, fun _ => ⟨i, atKey_put_same hD (keyLitI _) _ _, ?_⟩⟩
    simp
    omega
  · rw [has_put_other (litI_ne e), atKey_put_other (litI_ne e)]
    have hc : (ns ++ [x]).contains y = ns.contains y := by
      rw [List.contains_append]
      have h0 : [x].contains y = false := by simp [e]
      rw [h0, Bool.or_false]
    rw [hc]
    exact h y
theorem MIs.gone {H : Type} {D : DataW H} {ns gs : List Int} (h : MIs D ns gs) (hD : IsMap D) (x : Int) (hx : ns.contains x = true) : MIs (D.put (.int .i64 x) (.lit (.int .i64 (-1)))) ns (gs ++ [x]) := by
  intro y
  by_cases e : y = x
  · subst e
    rw [has_put_same hD (keyLitI _), hx]
    refine ⟨rfl, fun _ => ⟨-1, atKey_put_same hD (keyLitI _) _ _, ?_⟩⟩
    simp
  · rw [has_put_other (litI_ne e), atKey_put_other (litI_ne e)]
    have hc : (gs ++ [x]).contains y = gs.contains y := by
      rw [List.contains_append]
      have h0 : [x].contains y = false := by simp [e]
      rw [h0, Bool.or_false]
    rw [hc]
    exact h y
theorem below_turned {B b : Nat} {a w w' : World} (h : Below B a w) (ht : w.mapTurned w' b) (hB : B ≤ w.heap.size) (hb : B ≤ b) : Below B a w' :=
  h.grown ht.grown hB (fun k e => by cases e; exact hb)
end Go.Proofs.YtigpplcecbgmaaeGreatDoor
