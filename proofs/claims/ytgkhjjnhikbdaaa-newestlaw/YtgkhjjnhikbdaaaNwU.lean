import Derived.Test.YtgkhjjnhikbdaaaNwT
namespace Go.Proofs.Ytgkhjjnhikbdaaa
open Go.RowKit Go.Maps
set_option linter.unusedVariables false
set_option linter.unusedSimpArgs false

theorem fr_ne {w : World} {hb g n m cap : Nat} {cs : List SD} {hd : Nat → En} {ps : List Nat} (hB : FrB w hb g m cap) (hR : RowF w g n cs hd ps) : hb ≠ g := fun e => by
  subst e
  obtain ⟨arr, h1, -⟩ := hR
  rw [hB] at h1
  injection h1 with h1
  injection h1 with h2 h3
  exact absurd h3 (by decide)
def putF (w : World) (g i : Nat) (x : En) (p : Nat) (c : SD) : World := (((((w.setCell ⟨g, i * 6, none⟩ (.string x.ky)).setCell ⟨g, i * 6 + 1, none⟩ (.int .i64 x.sq)).setCell ⟨g, i * 6 + 2, none⟩ (.int .i64 x.kd)).setCell ⟨g, i * 6 + 3, none⟩ (.string x.vl)).setCell ⟨g, i * 6 + 4, none⟩ (.int .i64 (p : Int))).setCell ⟨g, i * 6 + 5, none⟩ c.fn
theorem putF_only (w : World) (g i : Nat) (x : En) (p : Nat) (c : SD) : OnlyG g w (putF w g i x p c) := (((((OnlyG.set _ _ _).trans (OnlyG.set _ _ _)).trans (OnlyG.set _ _ _)).trans (OnlyG.set _ _ _)).trans (OnlyG.set _ _ _)).trans (OnlyG.set _ _ _)
theorem getD_setN (ps : List Nat) (i j x : Nat) (hi : i < ps.length) : (ps.set i x).getD j 0 = if j = i then x else ps.getD j 0 := by
  rw [List.getD_eq_getElem?_getD, List.getElem?_set, List.getD_eq_getElem?_getD]
  by_cases h : i = j
  · subst h; simp [hi]
  · rw [if_neg h, if_neg (fun e => h e.symm)]
theorem RowF.put {w : World} {g n i : Nat} {cs : List SD} {hd : Nat → En} {ps : List Nat} (h : RowF w g n cs hd ps) (hi : i < ps.length) (p : Nat) : RowF (putF w g i (hd p) p (cs.getD p sd0)) g n cs hd (ps.set i p) := by
  obtain ⟨arr, h1, h2, h3, h4⟩ := h
  have e1 := heap_setCell_same w g (i * 6) _ _ (.string (hd p).ky) h1
  have e2 := heap_setCell_same _ g (i * 6 + 1) _ _ (.int .i64 (hd p).sq) e1
  have e3 := heap_setCell_same _ g (i * 6 + 2) _ _ (.int .i64 (hd p).kd) e2
  have e4 := heap_setCell_same _ g (i * 6 + 3) _ _ (.string (hd p).vl) e3
  have e5 := heap_setCell_same _ g (i * 6 + 4) _ _ (.int .i64 (p : Int)) e4
  have e6 := heap_setCell_same _ g (i * 6 + 5) _ _ (cs.getD p sd0).fn e5
  refine ⟨_, e6, by simpa using h2, by simpa using h3, fun j hj => ?_⟩
  rw [List.length_set] at hj
  rw [getD_setN ps i j p hi]
  by_cases hip : j = i
  · subst hip
    rw [if_pos rfl]
    refine ⟨?_, ?_, ?_, ?_, ?_, ?_⟩
    · simp [Array.getElem?_setIfInBounds]; omega
    · simp [Array.getElem?_setIfInBounds]; omega
    · simp [Array.getElem?_setIfInBounds]; omega
    · simp [Array.getElem?_setIfInBounds]; omega
    · simp [Array.getElem?_setIfInBounds]; omega
    · simp [Array.getElem?_setIfInBounds]; omega
  · rw [if_neg hip]
    obtain ⟨a0, a1, a2, a3, a4, a5⟩ := h4 j hj
    have key : ∀ o v, (∀ k, k < 6 → o ≠ i * 6 + k) → arr[o]? = some v → ((((((arr.setIfInBounds (i * 6) (.string (hd p).ky)).setIfInBounds (i * 6 + 1) (.int .i64 (hd p).sq)).setIfInBounds (i * 6 + 2) (.int .i64 (hd p).kd)).setIfInBounds (i * 6 + 3) (.string (hd p).vl)).setIfInBounds (i * 6 + 4) (.int .i64 (p : Int))).setIfInBounds (i * 6 + 5) (cs.getD p sd0).fn)[o]? = some v := fun o v ho hv => by
      rw [Array.getElem?_setIfInBounds_ne (fun e => ho 5 (by omega) e.symm), Array.getElem?_setIfInBounds_ne (fun e => ho 4 (by omega) e.symm), Array.getElem?_setIfInBounds_ne (fun e => ho 3 (by omega) e.symm), Array.getElem?_setIfInBounds_ne (fun e => ho 2 (by omega) e.symm), Array.getElem?_setIfInBounds_ne (fun e => ho 1 (by omega) e.symm), Array.getElem?_setIfInBounds_ne (fun e => ho 0 (by omega) (by omega))]
      exact hv
    exact ⟨key _ _ (by omega) a0, key _ _ (by omega) a1, key _ _ (by omega) a2, key _ _ (by omega) a3, key _ _ (by omega) a4, key _ _ (by omega) a5⟩
theorem RowF.swap {w : World} {g n i j : Nat} {cs : List SD} {hd : Nat → En} {ps : List Nat} (h : RowF w g n cs hd ps) (hi : i < ps.length) (hj : j < ps.length) :
    RowF (putF (putF w g i (hd (ps.getD j 0)) (ps.getD j 0) (cs.getD (ps.getD j 0) sd0)) g j (hd (ps.getD i 0)) (ps.getD i 0) (cs.getD (ps.getD i 0) sd0)) g n cs hd (swpP ps i j) :=
  (h.put hi _).put (by rw [List.length_set]; exact hj) _
theorem FrB.only {w w' : World} {hb g n cap : Nat} (h : FrB w hb g n cap) (hne : hb ≠ g) (ho : OnlyG g w w') : FrB w' hb g n cap := (ho.block hb (heap_lt h) hne).trans h
theorem FrB.below {w w' : World} {hb g n cap : Nat} (h : FrB w hb g n cap) (ho : Below w.heap.size w w') : FrB w' hb g n cap := (ho.block hb (heap_lt h)).trans h
end Go.Proofs.Ytgkhjjnhikbdaaa
