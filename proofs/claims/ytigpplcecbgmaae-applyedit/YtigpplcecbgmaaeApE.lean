
import Derived.Test.YtigpplcecbgmaaeApD
namespace Go.Proofs.Ytigpplcecbgmaae
open Go.RowKit Go.Maps
set_option linter.unusedVariables false
set_option linter.unusedSimpArgs false

/-- A map of numbers: those of ns are in it, and those of gs are marked as gone. -/
def MIs {H : Type} (D : DataW H) (ns gs : List Int) : Prop :=
  ∀ x, has D (.int .i64 x) = ns.contains x ∧ (ns.contains x = true → ∃ d : Int, D.atKey (.int .i64 x) (.lit (.int .i64 0)) = .lit (.int .i64 d) ∧ (d = -1 ↔ gs.contains x = true))
theorem keyLitI (x : Int) : WideAt.IsKeyLit (.int .i64 x) := by simp [WideAt.IsKeyLit]
theorem litI_ne {x y : Int} (h : x ≠ y) : (Lit.int .i64 x) ≠ Lit.int .i64 y := fun e => h (by injection e)
theorem MIs.add {H : Type} {D : DataW H} {ns : List Int} (h : MIs D ns []) (hD : IsMap D) (x i : Int) (hi : 0 ≤ i) : MIs (D.put (.int .i64 x) (.lit (.int .i64 i))) (ns ++ [x]) [] := by
  intro y
  by_cases e : y = x
  · subst e
    rw [has_put_same hD (keyLitI _)]
    refine ⟨by simp, fun _ => ⟨i, atKey_put_same hD (keyLitI _) _ _, ?_⟩⟩
    simp
    omega
  · rw [has_put_other (litI_ne e), atKey_put_other (litI_ne e)]
    have hc : (ns ++ [x]).contains y = ns.contains y := by
      rw [List.contains_append]
      have h0 : [x].contains y = false := by simp [e]
      rw [h0, Bool.or_false]
    rw [hc]
    exact h y
theorem MIs.gone {H : Type} {D : DataW H} {ns gs : List Int} (h : MIs D ns gs) (hD : IsMap D) (x : Int) (hx : ns.contains x = true) : MIs (D.put (.int .i64 x) (.lit (.int .i64 (-1)))) ns (gs ++ [x]) := by
  intro y
  by_cases e : y = x
  · subst e
    rw [has_put_same hD (keyLitI _), hx]
    refine ⟨rfl, fun _ => ⟨-1, atKey_put_same hD (keyLitI _) _ _, ?_⟩⟩
    simp
  · rw [has_put_other (litI_ne e), atKey_put_other (litI_ne e)]
    have hc : (gs ++ [x]).contains y = gs.contains y := by
      rw [List.contains_append]
      have h0 : [x].contains y = false := by simp [e]
      rw [h0, Bool.or_false]
    rw [hc]
    exact h y
theorem below_turned {B b : Nat} {a w w' : World} (h : Below B a w) (ht : w.mapTurned w' b) (hB : B ≤ w.heap.size) (hb : B ≤ b) : Below B a w' :=
  h.grown ht.grown hB (fun k e => by cases e; exact hb)
end Go.Proofs.Ytigpplcecbgmaae
