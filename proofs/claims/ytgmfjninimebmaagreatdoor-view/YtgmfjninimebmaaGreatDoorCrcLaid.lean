import Derived.Test.YtgmfjninimebmaaGreatDoorMgVwK

import Derived.Test.YtgmfjninimebmaaGreatDoorCards
import Derived.Test.YtgmfjninimebmaaGreatDoorTie
import Derived.ProofKit
import Derived.OpenShut
import Derived.ShutString
import Derived.ChangeOld
import Derived.Carry
import Derived.Lib.SmallJoins
import Derived.Deep.Slices
import Derived.Deep.Strs
import Derived.LaidMore
import Derived.Stop.Joined
import Derived.SevenTiedAt
namespace Go.Proofs.YtgmfjninimebmaaGreatDoor
open Go.ChangeShapes Go.WideShapes Go.ChangeAt Go.RowKit
open Go.ChangeMaps (open_string shut_string)
set_option linter.unusedVariables false
set_option linter.unusedSimpArgs false

theorem own : ownKnob Tryz.prog.godebug = none := by kernel_rfl
theorem laidOut : laidOutB Tryz.prog = true := by kernel_rfl
theorem gSteps : Tryz.prog.globalNamed "loop.example/s01733/impl.crcSteps" = some 0 := by kernel_rfl
theorem tSteps : (Tryz.prog.globals[0]?).map (·.type) = some 195 := by kernel_rfl

/-- The table's cells. -/
def tabCells : Array Value := #[.int .u32 0, .int .u32 274646895, .int .u32 549293790, .int .u32 820201905, .int .u32 1098587580, .int .u32 1361435347, .int .u32 1640403810, .int .u32 1905808397, .int .u32 2197175160, .int .u32 2460548119, .int .u32 2722870694, .int .u32 2987750089, .int .u32 3280807620, .int .u32 3553878443, .int .u32 3811616794, .int .u32 4084100981]
abbrev tabH {H : Type} : DataW H := .agg [.lit (.int .u32 0), .lit (.int .u32 274646895), .lit (.int .u32 549293790), .lit (.int .u32 820201905), .lit (.int .u32 1098587580), .lit (.int .u32 1361435347), .lit (.int .u32 1640403810), .lit (.int .u32 1905808397), .lit (.int .u32 2197175160), .lit (.int .u32 2460548119), .lit (.int .u32 2722870694), .lit (.int .u32 2987750089), .lit (.int .u32 3280807620), .lit (.int .u32 3553878443), .lit (.int .u32 3811616794), .lit (.int .u32 4084100981)]

theorem reads_tab {H : Type} (enc : TypeId × Value → H) (W : World) (sp : Nat → Bool) : DataW.trod enc Tryz.prog W 0 sp true 3 195 tabCells.toList = some (tabH, []) := by kernel_rfl

theorem tab_of_trod {enc : TypeId × Value → Unit} {W : World} {sp : Nat → Bool} {held : Bool} {fuel : Nat} {cs : Array Value} {p : List MemPlace}
    (hd : DataW.trod enc Tryz.prog W 0 sp held fuel 195 cs.toList = some (tabH, p)) : cs = tabCells := by
  obtain ⟨xs, m, rfl, hx, hlen, hn, hel⟩ := DataW.trod_array Tryz.underlying195 hd
  have c1 : Tryz.prog.cellsOf 83 = 1 := by kernel_rfl
  have c16 : Tryz.prog.cellsOf 195 = 16 := by kernel_rfl
  rw [c16] at hlen
  simp only [Prod.mk.injEq, DataW.agg.injEq] at hx
  have key : ∀ i, i < 16 → ∃ k, cs.toList[i]? = some (.int .u32 k) ∧ (xs.map (·.1))[i]? = some (.lit (.int .u32 k)) := fun i hi => by
    have h := hel i hi
    rw [c1, Nat.mul_one] at h
    obtain ⟨y, hy⟩ : ∃ y, xs[i]? = some y := ⟨xs[i]'(by omega), List.getElem?_eq_getElem (by omega)⟩
    rw [hy] at h
    obtain ⟨k, e1, e2, _⟩ := DataW.trod_int Tryz.underlying83 h
    refine ⟨k, ?_, by simp [hy, e2]⟩
    have e3 := congrArg (fun l => l[0]?) e1
    simp [List.getElem?_take] at e3
    simpa using e3
  apply Array.ext'
  apply List.ext_getElem?
  intro i
  rcases Nat.lt_or_ge i 16 with hi | hi
  · obtain ⟨k, e1, e2⟩ := key i hi
    rw [e1]
    rw [← hx.1] at e2
    have : i = 0 ∨ i = 1 ∨ i = 2 ∨ i = 3 ∨ i = 4 ∨ i = 5 ∨ i = 6 ∨ i = 7 ∨ i = 8 ∨ i = 9 ∨ i = 10 ∨ i = 11 ∨ i = 12 ∨ i = 13 ∨ i = 14 ∨ i = 15 := by omega
    rcases this with rfl | rfl | rfl | rfl | rfl | rfl | rfl | rfl | rfl | rfl | rfl | rfl | rfl | rfl | rfl | rfl <;> (simp at e2; subst e2; rfl)
  · rw [List.getElem?_eq_none (by omega), List.getElem?_eq_none (by show 16 ≤ i; omega)]

theorem var_lt {W : World} {cs : Array Value} (h : W.var? Tryz.prog "loop.example/s01733/impl.crcSteps" = some cs) : 0 < W.heap.size := by
  simp only [World.var?, gSteps, Option.bind_some] at h
  by_cases hlt : 0 < W.heap.size
  · exact hlt
  · rw [Array.getElem?_eq_none (by omega)] at h; cases h
theorem steps_of_var {W : World} (h : W.var? Tryz.prog "loop.example/s01733/impl.crcSteps" = some tabCells) : Steps W := by
  refine ⟨var_lt h, fun i hi => ?_⟩
  rw [World.var?_cell gSteps h i]
  have : i = 0 ∨ i = 1 ∨ i = 2 ∨ i = 3 ∨ i = 4 ∨ i = 5 ∨ i = 6 ∨ i = 7 ∨ i = 8 ∨ i = 9 ∨ i = 10 ∨ i = 11 ∨ i = 12 ∨ i = 13 ∨ i = 14 ∨ i = 15 := by omega
  rcases this with rfl | rfl | rfl | rfl | rfl | rfl | rfl | rfl | rfl | rfl | rfl | rfl | rfl | rfl | rfl | rfl <;> rfl
theorem var_below {W W' : World} {cs : Array Value} (h : W.var? Tryz.prog "loop.example/s01733/impl.crcSteps" = some cs) (hb : Below W.heap.size W W') : W'.var? Tryz.prog "loop.example/s01733/impl.crcSteps" = some cs := by
  have hlt := var_lt h
  simp only [World.var?, gSteps, Option.bind_some] at h ⊢
  rw [hb.block 0 hlt]
  exact h
/-- The variable reads behind the call as it read before. -/
theorem vars_below {H : Type} (enc : TypeId × Value → H) {W W' : World} (h : W.var? Tryz.prog "loop.example/s01733/impl.crcSteps" = some tabCells) (hb : Below W.heap.size W W') (sp : Nat → Bool) :
    DataW.TrodVars enc Tryz.prog W' sp ["loop.example/s01733/impl.crcSteps"] [tabH] (MemPlace.row ⟨0, 0, none⟩ tabCells.size ++ [] ++ []) :=
  ⟨0, 195, tabCells, 3, [], [], gSteps, tSteps, var_below h hb, reads_tab enc W' sp, rfl, rfl⟩
end Go.Proofs.YtgmfjninimebmaaGreatDoor
