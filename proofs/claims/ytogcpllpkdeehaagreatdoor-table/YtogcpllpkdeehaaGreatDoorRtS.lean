import Derived.Test.YtogcpllpkdeehaaGreatDoorTbD

namespace Go.Proofs.YtogcpllpkdeehaaGreatDoor
open Go.RowKit Go.Maps
set_option linter.unusedVariables false
set_option linter.unusedSimpArgs false

/-- The texts xs lie at a, wherever. -/
def LieS (w : World) (a : Option Addr) (xs : List ByteArray) : Prop := xs = [] ∨ ∃ g, a = some ⟨g, 0, none⟩ ∧ g < w.heap.size ∧ ∀ i, i < xs.length → w.cell? ⟨g, i, none⟩ = some (.string (xs.getD i ByteArray.empty))
theorem ResS.lie {w : World} {base : Nat} {a : Option Addr} {xs : List ByteArray} (h : ResS w base a xs) : LieS w a xs := by
  rcases h with h | ⟨g, rfl, hg, hr⟩
  · exact .inl h
  · exact .inr ⟨g, rfl, hr.lt, fun i hi => hr.at hi⟩
theorem LieS.below {w w' : World} {a : Option Addr} {xs : List ByteArray} {B : Nat} (h : LieS w a xs) (hb : Below w.heap.size w w') : LieS w' a xs := by
  rcases h with h | ⟨g, rfl, hg, hr⟩
  · exact .inl h
  · exact .inr ⟨g, rfl, Nat.lt_of_lt_of_le hg hb.size, fun i hi => (hb.cell (p := ⟨g, i, none⟩) hg).trans (hr i hi)⟩
theorem pl_size (s : ByteArray) (h : s.size ≤ 1048576) : ∀ p ∈ pl s, p.size ≤ 1048576 := by
  intro p hp
  unfold pl at hp
  obtain ⟨f, hf, rfl⟩ := List.mem_map.1 hp
  have h1 : f ∈ frs s 0 := (List.takeWhile_sublist (gd 66) (l := frs s 0)).subset hf
  have key : ∀ d q, s.size - q ≤ d → ∀ f ∈ frs s q, (rfB f).size ≤ s.size := by
    intro d
    induction d with
    | zero => intro q hq f hf; rw [frs_end (by omega)] at hf; cases hf
    | succ d ih =>
      intro q hq f hf
      by_cases hp : q * 64 < s.size
      · rw [frs_more hp] at hf
        rcases List.mem_cons.1 hf with rfl | hf
        · exact rf_size s q
        · exact ih (nx s q) (by have := nx_gt s q; omega) f hf
      · rw [frs_end hp] at hf; cases hf
  exact Nat.le_trans (key s.size 0 (by omega) f h1) h
theorem LieS.grown {w w' : World} {a : Option Addr} {xs : List ByteArray} {row : Option Nat} (h : LieS w a xs) (hg : w.grownBy w' row) (hne : 0 < xs.length → ∀ g, row = some g → a ≠ some ⟨g, 0, none⟩) : LieS w' a xs := by
  rcases h with rfl | ⟨b, rfl, hl, hc⟩
  · exact .inl rfl
  · by_cases h0 : 0 < xs.length
    · have hb := hg.block b hl (fun e => hne h0 b e.symm rfl)
      exact .inr ⟨b, rfl, Nat.lt_of_lt_of_le hl hg.size, fun i hi => by rw [show w'.cell? ⟨b, i, none⟩ = w.cell? ⟨b, i, none⟩ by simp only [World.cell?, hb]]; exact hc i hi⟩
    · exact .inl (List.length_eq_zero_iff.1 (by omega))
theorem takeB_snoc (xs : List ByteArray) (k : Nat) (h : k < xs.length) : xs.take (k + 1) = xs.take k ++ [xs.getD k ByteArray.empty] := by
  rw [List.take_succ_eq_append_getElem h]
  simp [List.getD, h]

end Go.Proofs.YtogcpllpkdeehaaGreatDoor
