import Derived.Test.YtgkhjjnhikbdaaaNwY
import Derived.BigRegion
namespace Go.Proofs.Ytgkhjjnhikbdaaa
open Go.RowKit Go.Maps
set_option linter.unusedVariables false
set_option linter.unusedSimpArgs false

/-- A block of the heap of fronts. -/
def FrT (o : Option Obj) : Prop := ∃ arr t fr, o = some (.cells arr t fr) ∧ (t = 68 ∨ t = 70)
/-- What a step of the merge may change: the sources' places and the heap of fronts. -/
structure ItW (B0 : Nat) (cs : List SD) (w w' : World) : Prop where
  os : w'.os = w.os
  tape : w'.tape = w.tape
  output : w'.output = w.output
  size : w.heap.size ≤ w'.heap.size
  block : ∀ j, j < w.heap.size → (∀ p, p < cs.length → j ≠ (cs.getD p sd0).pa) → (j < B0 ∨ ¬ FrT w.heap[j]?) → w'.heap[j]? = w.heap[j]?
theorem ItW.refl (B0 : Nat) (cs : List SD) (w : World) : ItW B0 cs w w := ⟨rfl, rfl, rfl, Nat.le_refl _, fun _ _ _ _ => rfl⟩
theorem ItW.trans {B0 : Nat} {cs : List SD} {a b c : World} (h : ItW B0 cs a b) (k : ItW B0 cs b c) : ItW B0 cs a c :=
  ⟨k.os.trans h.os, k.tape.trans h.tape, k.output.trans h.output, Nat.le_trans h.size k.size, fun j hj hn hf => by
    have e := h.block j hj hn hf
    exact (k.block j (Nat.lt_of_lt_of_le hj h.size) hn (by rw [e]; exact hf)).trans e⟩
theorem ItW.of {B0 : Nat} {cs : List SD} {w w' : World} (h : OnlyS cs w w') : ItW B0 cs w w' := ⟨h.os, h.tape, h.output, h.size, fun j hj hn _ => h.block j hj hn⟩
theorem ItW.one {B0 : Nat} {cs : List SD} {w w' : World} {g : Nat} (h : OnlyG g w w') (hg : FrT w.heap[g]?) (hB : B0 ≤ g) : ItW B0 cs w w' := ⟨h.os, h.tape, h.output, h.size, fun j hj _ hf => h.block j hj (fun e => by
  subst e
  rcases hf with hf | hf
  · omega
  · exact hf hg)⟩
theorem RowF.frT {w : World} {g n : Nat} {cs : List SD} {hd : Nat → En} {ps : List Nat} (h : RowF w g n cs hd ps) : FrT w.heap[g]? := by
  obtain ⟨arr, h1, -⟩ := h
  exact ⟨arr, _, _, h1, .inr rfl⟩
theorem RowF.cong {w : World} {g n : Nat} {cs : List SD} {hd hd' : Nat → En} {ps : List Nat} (h : RowF w g n cs hd ps) (he : ∀ i, i < ps.length → hd (ps.getD i 0) = hd' (ps.getD i 0)) : RowF w g n cs hd' ps := by
  obtain ⟨arr, h1, h2, h3, h4⟩ := h
  exact ⟨arr, h1, h2, h3, fun i hi => by rw [← he i hi]; exact h4 i hi⟩
theorem RowF.take {w : World} {g n : Nat} {cs : List SD} {hd : Nat → En} {ps : List Nat} (h : RowF w g n cs hd ps) (m : Nat) : RowF w g n cs hd (ps.take m) := by
  obtain ⟨arr, h1, h2, h3, h4⟩ := h
  refine ⟨arr, h1, h2, by rw [List.length_take]; omega, fun i hi => ?_⟩
  rw [List.length_take] at hi
  have e : (ps.take m).getD i 0 = ps.getD i 0 := by rw [List.getD_eq_getElem?_getD, List.getElem?_take_of_lt (by omega), ← List.getD_eq_getElem?_getD]
  rw [e]
  exact h4 i (by omega)
def put4 (w : World) (g : Nat) (x : En) : World := (((w.setCell ⟨g, 0, none⟩ (.string x.ky)).setCell ⟨g, 1, none⟩ (.int .i64 x.sq)).setCell ⟨g, 2, none⟩ (.int .i64 x.kd)).setCell ⟨g, 3, none⟩ (.string x.vl)
theorem put4_only (w : World) (g : Nat) (x : En) : OnlyG g w (put4 w g x) := (((OnlyG.set _ _ _).trans (OnlyG.set _ _ _)).trans (OnlyG.set _ _ _)).trans (OnlyG.set _ _ _)
theorem RowF.head {w : World} {g n : Nat} {cs : List SD} {hd hd' : Nat → En} {ps : List Nat} (h : RowF w g n cs hd ps) (h0 : 0 < ps.length) (he : ∀ i, 0 < i → i < ps.length → hd (ps.getD i 0) = hd' (ps.getD i 0)) : RowF (put4 w g (hd' (ps.getD 0 0))) g n cs hd' ps := by
  obtain ⟨arr, h1, h2, h3, h4⟩ := h
  have e1 := heap_setCell_same w g 0 _ _ (.string (hd' (ps.getD 0 0)).ky) h1
  have e2 := heap_setCell_same _ g 1 _ _ (.int .i64 (hd' (ps.getD 0 0)).sq) e1
  have e3 := heap_setCell_same _ g 2 _ _ (.int .i64 (hd' (ps.getD 0 0)).kd) e2
  have e4 := heap_setCell_same _ g 3 _ _ (.string (hd' (ps.getD 0 0)).vl) e3
  refine ⟨_, e4, by simpa using h2, h3, fun i hi => ?_⟩
  have hs : 6 ≤ arr.size := by omega
  by_cases hi0 : i = 0
  · subst hi0
    obtain ⟨a0, a1, a2, a3, a4, a5⟩ := h4 0 hi
    refine ⟨?_, ?_, ?_, ?_, ?_, ?_⟩
    · simp [Array.getElem?_setIfInBounds]; intro h; rw [h] at hs; simp at hs
    · simp [Array.getElem?_setIfInBounds]; omega
    · simp [Array.getElem?_setIfInBounds]; omega
    · simp [Array.getElem?_setIfInBounds]; omega
    · rw [Array.getElem?_setIfInBounds_ne (by omega), Array.getElem?_setIfInBounds_ne (by omega), Array.getElem?_setIfInBounds_ne (by omega), Array.getElem?_setIfInBounds_ne (by omega)]; exact a4
    · rw [Array.getElem?_setIfInBounds_ne (by omega), Array.getElem?_setIfInBounds_ne (by omega), Array.getElem?_setIfInBounds_ne (by omega), Array.getElem?_setIfInBounds_ne (by omega)]; exact a5
  · rw [← he i (by omega) hi]
    obtain ⟨a0, a1, a2, a3, a4, a5⟩ := h4 i hi
    have key : ∀ o v, 6 ≤ o → arr[o]? = some v → ((((arr.setIfInBounds 0 (.string (hd' (ps.getD 0 0)).ky)).setIfInBounds 1 (.int .i64 (hd' (ps.getD 0 0)).sq)).setIfInBounds 2 (.int .i64 (hd' (ps.getD 0 0)).kd)).setIfInBounds 3 (.string (hd' (ps.getD 0 0)).vl))[o]? = some v := fun o v ho hv => by
      rw [Array.getElem?_setIfInBounds_ne (by omega), Array.getElem?_setIfInBounds_ne (by omega), Array.getElem?_setIfInBounds_ne (by omega), Array.getElem?_setIfInBounds_ne (by omega)]; exact hv
    exact ⟨key _ _ (by omega) a0, key _ _ (by omega) a1, key _ _ (by omega) a2, key _ _ (by omega) a3, key _ _ (by omega) a4, key _ _ (by omega) a5⟩
/-- How many entries a source has given, by what is left of it. -/
def posR (cs : List SD) (rem : List (List En)) (p : Nat) : Nat := (cs.getD p sd0).xs.length - ((rem.getD p []).length - 1)
/-- The whole of a merge under way. -/
structure Mg (w : World) (hb B0 : Nat) (cs : List SD) (rem : List (List En)) (ps : List Nat) : Prop where
  mp : MgP rem ps
  hp : HpF (ltP (hdR rem)) ps 0
  fr : FrO w hb (hb + 1) cs (hdR rem) ps
  src : SrcAll w cs (posR cs rem)
  len : cs.length = rem.length
  sfx : ∀ p, p < cs.length → ∃ t, (cs.getD p sd0).xs = t ++ rem.getD p []
  dis : PaD cs
  low : ∀ p, p < cs.length → SrcB B0 (cs.getD p sd0)
  lh : B0 ≤ hb
theorem posR_set {cs : List SD} {rem : List (List En)} {p : Nat} (x : List En) (hp : p < rem.length) (q : Nat) : posR cs (rem.set p x) q = if q = p then (cs.getD p sd0).xs.length - (x.length - 1) else posR cs rem q := by
  unfold posR
  rw [getD_setL rem p q x hp]
  by_cases h : q = p
  · rw [if_pos h, if_pos h, h]
  · rw [if_neg h, if_neg h]
theorem Mg.step {w w' : World} {hb B0 : Nat} {cs : List SD} {rem : List (List En)} {ps qs : List Nat} (h : Mg w hb B0 cs rem ps) {x : List En} {p : Nat} (hp : p < rem.length) (hx : x = (rem.getD p []).tail)
    (mp : MgP (rem.set p x) qs) (hH : HpF (ltP (hdR (rem.set p x))) qs 0) (fr : FrO w' hb (hb + 1) cs (hdR (rem.set p x)) qs) (src : SrcAll w' cs (posR cs (rem.set p x))) : Mg w' hb B0 cs (rem.set p x) qs := by
  refine ⟨mp, hH, fr, src, by rw [List.length_set]; exact h.len, fun q hq => ?_, h.dis, h.low, h.lh⟩
  rw [getD_setL rem p q x hp]
  by_cases hqp : q = p
  · rw [if_pos hqp, hqp]
    obtain ⟨t, ht⟩ := h.sfx p (by rw [h.len]; exact hp)
    rw [ht, hx]
    cases rem.getD p [] with
    | nil => exact ⟨t, by simp⟩
    | cons y r => exact ⟨t ++ [y], by simp⟩
  · rw [if_neg hqp]; exact h.sfx q hq
end Go.Proofs.Ytgkhjjnhikbdaaa
