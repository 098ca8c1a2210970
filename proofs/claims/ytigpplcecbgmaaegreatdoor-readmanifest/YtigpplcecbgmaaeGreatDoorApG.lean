import Derived.Test.YtigpplcecbgmaaeGreatDoorApF

namespace Go.Proofs.YtigpplcecbgmaaeGreatDoor
open Go.RowKit Go.Maps
set_option linter.unusedVariables false
set_option linter.unusedSimpArgs false

/-- The places of a catalog: the numbers of qs, each with its place. -/
def CIs {H : Type} (D : DataW H) (qs : List Tr) : Prop :=
  (∀ x, has D (.int .i64 x) = (qs.map Tr.nu).contains x) ∧ ∀ i, i < qs.length → D.atKey (.int .i64 (qs.getD i tr0).nu) (.lit (.int .i64 0)) = .lit (.int .i64 (i : Int))
theorem CIs.add {H : Type} {D : DataW H} {qs : List Tr} (h : CIs D qs) (hD : IsMap D) (t : Tr) (ht : (qs.map Tr.nu).contains t.nu = false) : CIs (D.put (.int .i64 t.nu) (.lit (.int .i64 (qs.length : Int)))) (qs ++ [t]) := by
  refine ⟨fun y => ?_, fun i hi => ?_⟩
  · rw [List.map_append, List.contains_append]
    by_cases e : y = t.nu
    · subst e
      rw [has_put_same hD (keyLitI _)]
      simp
    · rw [has_put_other (litI_ne e), h.1 y]
      have h0 : ([t].map Tr.nu).contains y = false := by simp [e]
      rw [h0, Bool.or_false]
  · rw [List.length_append] at hi
    by_cases e : i < qs.length
    · have hg : (qs ++ [t]).getD i tr0 = qs.getD i tr0 := by simp [List.getD, List.getElem?_append, e]
      have hm : qs.getD i tr0 ∈ qs := by rw [show qs.getD i tr0 = qs[i] by simp [List.getD, e]]; exact List.getElem_mem e
      have hne : (qs.getD i tr0).nu ≠ t.nu := fun h' => by
        have : (qs.map Tr.nu).contains t.nu = true := by rw [← h']; simp; exact ⟨_, hm, rfl⟩
        rw [ht] at this
        cases this
      rw [hg, atKey_put_other (litI_ne hne)]
      exact h.2 i e
    · obtain rfl : i = qs.length := by simp at hi; omega
      have hg : (qs ++ [t]).getD qs.length tr0 = t := by simp [List.getD]
      rw [hg]
      exact atKey_put_same hD (keyLitI _) _ _
/-- A catalog: its struct in block g, its map in block b, its row at B and above. -/
def Cat (w : World) (B g b N M : Nat) (qs : List Tr) : Prop :=
  ∃ (tv : Value) (D : DataW Unit), w.heap[g]? = some (.cells #[tv, .map (some b)] 132 (0, 0)) ∧ w.ownsMap Tryz.prog 3 (plainElem Tryz.prog 3) b qs.length D ∧ CIs D qs ∧ w.ownsRow B 126 4 tv qs.length (cellsT qs) ∧ (∀ k, tv.ownBlock = some k → k < N ∨ M ≤ k)
/-- The blocks from N on and below M stay. -/
def Kept (N M : Nat) (w w' : World) : Prop := ∀ i, N ≤ i → i < M → w'.heap[i]? = w.heap[i]?
theorem Kept.refl (N M : Nat) (w : World) : Kept N M w w := fun _ _ _ => rfl
theorem Kept.trans {N M : Nat} {a b c : World} (h : Kept N M a b) (k : Kept N M b c) : Kept N M a c := fun i h1 h2 => (k i h1 h2).trans (h i h1 h2)
theorem Kept.of {N M : Nat} {w w' : World} (h : Below w.heap.size w w') (hM : M ≤ w.heap.size) : Kept N M w w' := fun i _ h2 => h.block i (by omega)
theorem nil_owns (w : World) (B : Nat) : w.ownsRow B 126 4 (.slice none 0 0) 0 (cellsT []) := ⟨rfl, .inl ⟨rfl, rfl⟩⟩
set_option maxRecDepth 100000 in
theorem newCatalog_any (w : World) (N M : Nat) :
    Calls Tryz.prog 56 #[] w fun e w' => e = .returned (.pointer (some ⟨w.heap.size + 1, 0, none⟩)) ∧ Cat w' (w.heap.size + 2) (w.heap.size + 1) w.heap.size N M [] ∧ Below w.heap.size w w' ∧ w'.heap.size = w.heap.size + 2 := by
  have hmm := @run_makeMap Tryz.prog
  have hM := hd (World.ownsMap_made (H := Unit) w Tryz.prog 3 (plainElem Tryz.prog 3))
  go_enter Tryz.func56, Tryz.ntmps56
  go_wp2_with fail
  go_ret
  refine ⟨by simp, ⟨.slice none 0 0, .map [], ?_, hM.out.alloc _, ⟨fun x => rfl, fun i hi => absurd hi (Nat.not_lt_zero _)⟩, nil_owns _ _, fun k h => by cases h⟩, ((Below.refl _ _).alloc (Nat.le_refl _) _).alloc (by simp) _, by simp⟩
  have h := World.heap_alloc_new (w.alloc (.map #[] 0)) (.cells #[.slice none 0 0, .map (some w.heap.size)] 132)
  rwa [show (w.alloc (.map #[] 0)).heap.size = w.heap.size + 1 by simp] at h
end Go.Proofs.YtigpplcecbgmaaeGreatDoor
