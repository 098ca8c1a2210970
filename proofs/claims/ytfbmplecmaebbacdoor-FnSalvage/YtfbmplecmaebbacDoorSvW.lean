
import Derived.Test.YtfbmplecmaebbacDoorSvN
import Derived.Test.YtfbmplecmaebbacDoorRlQ
import Derived.Deep.DeepCutAuto
namespace Go.Proofs.YtfbmplecmaebbacDoor
open Go.RowKit Go.Maps
set_option linter.unusedVariables false
set_option linter.unusedSimpArgs false

/-- The texts xs lie at a, wherever. -/
def LieS (w : World) (a : Option Addr) (xs : List ByteArray) : Prop := xs = [] ∨ ∃ g, a = some ⟨g, 0, none⟩ ∧ g < w.heap.size ∧ ∀ i, i < xs.length → w.cell? ⟨g, i, none⟩ = some (.string (xs.getD i ByteArray.empty))
theorem ResS.lie {w : World} {base : Nat} {a : Option Addr} {xs : List ByteArray} (h : ResS w base a xs) : LieS w a xs := by
  rcases h with h | ⟨g, rfl, hg, hr⟩
  · exact .inl h
  · exact .inr ⟨g, rfl, hr.lt, fun i hi => hr.at hi⟩
theorem LieS.below {w w' : World} {a : Option Addr} {xs : List ByteArray} (h : LieS w a xs) (hb : Below w.heap.size w w') : LieS w' a xs := by
  rcases h with h | ⟨g, rfl, hg, hr⟩
  · exact .inl h
  · exact .inr ⟨g, rfl, Nat.lt_of_lt_of_le hg hb.size, fun i hi => (hb.cell (p := ⟨g, i, none⟩) hg).trans (hr i hi)⟩
theorem LieS.take {w : World} {a : Option Addr} {xs : List ByteArray} (h : LieS w a xs) (n : Nat) : LieS w a (xs.take n) := by
  rcases h with h | ⟨g, rfl, hg, hr⟩
  · exact .inl (by rw [h]; simp)
  · refine .inr ⟨g, rfl, hg, fun i hi => ?_⟩
    rw [List.length_take] at hi
    rw [hr i (by omega)]
    simp only [List.getD]
    rw [List.getElem?_take_of_lt (by omega)]

set_option maxRecDepth 100000 in
set_option maxHeartbeats 1000000 in
theorem wSameTexts_same (a b : Option Addr) (ca cb' : Nat) (xs : List ByteArray) (w : World) (hx : LieS w a xs) (hy : LieS w b xs) (hl : xs.length ≤ 2000000) :
    Calls Tryd.prog 18 #[.slice a xs.length ca, .slice b xs.length cb'] w fun e w' => e = .returned (.bool true) ∧ Below w.heap.size w w' := by
  go_enter Tryd.func18, Tryd.ntmps18
  go_wp2_with fail
  go_loopw [5] (fun i wr => ∃ j : Nat, j ≤ xs.length ∧ i = .int .i64 j ∧ Below w.heap.size w wr) (fun i _ => xs.length - (intOf i).toNat)
  case atStart => exact ⟨0, Nat.zero_le _, rfl, Below.refl _ _⟩
  case round =>
    obtain ⟨j, hj, rfl, hb⟩ := hrel
    by_cases hlt : j < xs.length
    · have hij : (j : Int) < (xs.length : Int) := by omega
      rcases hx.below hb with h | ⟨g, rfl, hgl, hc⟩
      · rw [h] at hlt; simp at hlt
      rcases hy.below hb with h | ⟨g2, rfl, hgl2, hc2⟩
      · rw [h] at hlt; simp at hlt
      have c0 := hc j hlt
      have c2 := hc2 j hlt
      clear hc hc2
      generalize xs.getD j ByteArray.empty = x at *
      go_wp2_with fail
      go_quiet (fail)
      go_wp2_with fail
      exact ⟨⟨j + 1, by omega, by go_num, ⟨hb.os, hb.tape, hb.output, hb.size, hb.block⟩⟩, by simp [intOf]; omega⟩
    · have hij : ¬ (j : Int) < (xs.length : Int) := by omega
      go_wp2_with fail
      go_ret
      exact ⟨rfl, hb⟩
end Go.Proofs.YtfbmplecmaebbacDoor
