import Derived.Test.YtgkhjjnhikbdaaaEdI

import Derived.Maps.AppendAt
namespace Go.Proofs.Ytgkhjjnhikbdaaa
open Go.RowKit Go.Maps
set_option linter.unusedVariables false
set_option linter.unusedSimpArgs false

theorem heap_lt {w : World} {g : Nat} {o : Obj} (h : w.heap[g]? = some o) : g < w.heap.size := by
  by_cases hlt : g < w.heap.size
  · exact hlt
  · rw [Array.getElem?_eq_none (by omega)] at h; cases h
theorem four_cells {w : World} {p : Nat} {t : TypeId} {x0 x1 x2 x3 : Value} (h : w.heap[p]? = some (.cells #[x0, x1, x2, x3] t (0, 0))) :
    (w.cell? ⟨p, 0, none⟩ = some x0 ∧ w.cell? ⟨p, 1, none⟩ = some x1 ∧ w.cell? ⟨p, 2, none⟩ = some x2 ∧ w.cell? ⟨p, 3, none⟩ = some x3) ∧ w.frozen? ⟨p, 0, none⟩ = false ∧ w.frozen? ⟨p, 1, none⟩ = false ∧ w.frozen? ⟨p, 2, none⟩ = false ∧ w.frozen? ⟨p, 3, none⟩ = false := by
  refine ⟨⟨?_, ?_, ?_, ?_⟩, ?_, ?_, ?_, ?_⟩ <;> simp [World.cell?, World.frozen?, h]
/-- Entries as cells. -/
def cellsE (xs : List En) : List Value := xs.flatMap fun e => [.string e.ky, .int .i64 e.sq, .int .i64 e.kd, .string e.vl]
theorem cellsE_snoc (xs : List En) (e : En) : cellsE (xs ++ [e]) = cellsE xs ++ [.string e.ky, .int .i64 e.sq, .int .i64 e.kd, .string e.vl] := by simp [cellsE]
theorem cellsE_len (xs : List En) : (cellsE xs).length = xs.length * 4 := by
  induction xs with
  | nil => rfl
  | cons x r ih => simp [cellsE] at *; omega
theorem cellsE_at (xs : List En) (i : Nat) (hi : i < xs.length) : (cellsE xs)[i * 4]? = some (.string (xs.getD i en0).ky) ∧ (cellsE xs)[i * 4 + 1]? = some (.int .i64 (xs.getD i en0).sq) ∧ (cellsE xs)[i * 4 + 2]? = some (.int .i64 (xs.getD i en0).kd) ∧ (cellsE xs)[i * 4 + 3]? = some (.string (xs.getD i en0).vl) := by
  induction xs generalizing i with
  | nil => simp at hi
  | cons x r ih =>
    cases i with
    | zero => exact ⟨rfl, rfl, rfl, rfl⟩
    | succ i =>
      have h := ih i (by simpa using hi)
      have e : cellsE (x :: r) = [.string x.ky, .int .i64 x.sq, .int .i64 x.kd, .string x.vl] ++ cellsE r := rfl
      have sh : ∀ j, (cellsE (x :: r))[4 + j]? = (cellsE r)[j]? := fun j => by rw [e, List.getElem?_append_right (by simp)]; simp
      have g : (x :: r).getD (i + 1) en0 = r.getD i en0 := rfl
      rw [g]
      refine ⟨?_, ?_, ?_, ?_⟩
      · rw [show (i + 1) * 4 = 4 + i * 4 by omega, sh]; exact h.1
      · rw [show (i + 1) * 4 + 1 = 4 + (i * 4 + 1) by omega, sh]; exact h.2.1
      · rw [show (i + 1) * 4 + 2 = 4 + (i * 4 + 2) by omega, sh]; exact h.2.2.1
      · rw [show (i + 1) * 4 + 3 = 4 + (i * 4 + 3) by omega, sh]; exact h.2.2.2
/-- A row of entries that the call owns lies in memory. -/
theorem lieE_of_owns {w : World} {B n : Nat} {v : Value} {xs : List En} (h : w.ownsRow B 40 4 v n (cellsE xs)) :
    n = xs.length ∧ ∃ a cap, v = .slice a xs.length cap ∧ LieE w a xs ∧ (xs ≠ [] → ∃ g, a = some ⟨g, 0, none⟩ ∧ B ≤ g ∧ g < w.heap.size ∧ ∀ o, o < xs.length * 4 → (∃ u, w.cell? ⟨g, o, none⟩ = some u) ∧ w.frozen? ⟨g, o, none⟩ = false) := by
  obtain ⟨h1, h2⟩ := h
  have hn : n = xs.length := by rw [cellsE_len] at h1; omega
  refine ⟨hn, ?_⟩
  subst hn
  rcases h2 with ⟨rfl, h0⟩ | ⟨g, cap, cur, rfl, hg, hb, hl, hm, hsz, htk⟩
  · have hx : xs = [] := List.length_eq_zero_iff.1 h0
    exact ⟨none, 0, by rw [h0], .inl hx, fun h => absurd hx h⟩
  · have hcell : ∀ j, j < xs.length * 4 → cur[j]? = (cellsE xs)[j]? := fun j hj => by
      have e1 : (cur.toList.take (xs.length * 4))[j]? = (cellsE xs)[j]? := by rw [htk]
      rw [List.getElem?_take_of_lt hj] at e1
      simpa using e1
    refine ⟨some ⟨g, 0, none⟩, cap, rfl, .inr ⟨g, 0, rfl, heap_lt hb, fun i hi => ?_⟩, fun _ => ⟨g, rfl, hg, heap_lt hb, fun o ho => ?_⟩⟩
    · obtain ⟨a0, a1, a2, a3⟩ := cellsE_at xs i hi
      refine ⟨?_, ?_, ?_, ?_⟩
      · simp only [World.cell?, hb, Nat.zero_add]; rw [hcell _ (by omega)]; exact a0
      · simp only [World.cell?, hb, Nat.zero_add]; rw [hcell _ (by omega)]; exact a1
      · simp only [World.cell?, hb, Nat.zero_add]; rw [hcell _ (by omega)]; exact a2
      · simp only [World.cell?, hb, Nat.zero_add]; rw [hcell _ (by omega)]; exact a3
    · refine ⟨?_, by simp [World.frozen?, hb]⟩
      have hol : o < (cellsE xs).length := by rw [cellsE_len]; exact ho
      exact ⟨(cellsE xs)[o], by simp only [World.cell?, hb]; rw [hcell o ho]; exact List.getElem?_eq_getElem hol⟩
theorem ownsE_lit (w : World) (B : Nat) (hB : B ≤ w.heap.size) : (w.alloc (.cells #[] 40)).ownsRow B 40 4 (.slice (some ⟨w.heap.size, 0, none⟩) 0 0) 0 (cellsE []) :=
  ⟨rfl, .inr ⟨w.heap.size, 0, #[], rfl, hB, World.heap_alloc_new _ _, Nat.le_refl _, Nat.zero_le _, rfl, rfl⟩⟩
/-- Block g has room for n entries, none of it frozen; the first k of the entries xs stand in it. -/
def RowE (w : World) (g n : Nat) (xs : List En) (k : Nat) : Prop :=
  ∃ cs : Array Value, w.heap[g]? = some (.cells cs 40 (0, 0)) ∧ n * 4 ≤ cs.size ∧
    ∀ i, i < k → cs[i * 4]? = some (.string (xs.getD i en0).ky) ∧ cs[i * 4 + 1]? = some (.int .i64 (xs.getD i en0).sq) ∧ cs[i * 4 + 2]? = some (.int .i64 (xs.getD i en0).kd) ∧ cs[i * 4 + 3]? = some (.string (xs.getD i en0).vl)
/-- A slice that the call made and that holds the entries xs. -/
def ResE (w : World) (base : Nat) (a : Option Addr) (xs : List En) : Prop := xs = [] ∨ ∃ g, a = some ⟨g, 0, none⟩ ∧ base ≤ g ∧ RowE w g xs.length xs xs.length
theorem RowE.block {w w' : World} {g n k : Nat} {xs : List En} (h : RowE w g n xs k) (hb : w'.heap[g]? = w.heap[g]?) : RowE w' g n xs k := by
  obtain ⟨cs, h1, h2, h3⟩ := h
  exact ⟨cs, hb.trans h1, h2, h3⟩
theorem RowE.lt {w : World} {g n k : Nat} {xs : List En} (h : RowE w g n xs k) : g < w.heap.size := by
  obtain ⟨cs, h1, _⟩ := h
  exact heap_lt h1
theorem ResE.kept {w w' : World} {base : Nat} {a : Option Addr} {xs : List En} (h : ResE w base a xs) (hb : ∀ k, base ≤ k → k < w.heap.size → w'.heap[k]? = w.heap[k]?) : ResE w' base a xs := by
  rcases h with h | ⟨g, rfl, hg, hr⟩
  · exact .inl h
  · exact .inr ⟨g, rfl, hg, hr.block (hb g hg hr.lt)⟩
theorem ResE.below {w w' : World} {base : Nat} {a : Option Addr} {xs : List En} (h : ResE w base a xs) (hb : Below w.heap.size w w') : ResE w' base a xs := h.kept (fun k _ hk => hb.block k hk)
theorem ResE.lie {w : World} {base : Nat} {a : Option Addr} {xs : List En} (h : ResE w base a xs) : LieE w a xs := by
  rcases h with h | ⟨g, rfl, hg, hr⟩
  · exact .inl h
  · have hlt := hr.lt
    obtain ⟨cs, h1, h2, h3⟩ := hr
    refine .inr ⟨g, 0, rfl, hlt, fun i hi => ?_⟩
    obtain ⟨a0, a1, a2, a3⟩ := h3 i hi
    exact ⟨by simpa [World.cell?, h1] using a0, by simpa [World.cell?, h1] using a1, by simpa [World.cell?, h1] using a2, by simpa [World.cell?, h1] using a3⟩
theorem resE_of_owns {w : World} {B n : Nat} {v : Value} {xs : List En} (h : w.ownsRow B 40 4 v n (cellsE xs)) :
    n = xs.length ∧ ∃ a cap, v = .slice a xs.length cap ∧ ResE w B a xs := by
  obtain ⟨h1, h2⟩ := h
  have hn : n = xs.length := by rw [cellsE_len] at h1; omega
  refine ⟨hn, ?_⟩
  subst hn
  rcases h2 with ⟨rfl, h0⟩ | ⟨g, cap, cur, rfl, hg, hb, hl, hm, hsz, htk⟩
  · exact ⟨none, 0, by rw [h0], .inl (List.length_eq_zero_iff.1 h0)⟩
  · have hcell : ∀ j, j < xs.length * 4 → cur[j]? = (cellsE xs)[j]? := fun j hj => by
      have e1 : (cur.toList.take (xs.length * 4))[j]? = (cellsE xs)[j]? := by rw [htk]
      rw [List.getElem?_take_of_lt hj] at e1
      simpa using e1
    refine ⟨some ⟨g, 0, none⟩, cap, rfl, .inr ⟨g, rfl, hg, cur, hb, by rw [hsz]; omega, fun i hi => ?_⟩⟩
    obtain ⟨a0, a1, a2, a3⟩ := cellsE_at xs i hi
    exact ⟨by rw [hcell _ (by omega)]; exact a0, by rw [hcell _ (by omega)]; exact a1, by rw [hcell _ (by omega)]; exact a2, by rw [hcell _ (by omega)]; exact a3⟩
theorem cell_first4 (w : World) (x y z u : Value) (t : TypeId) : ∀ j v, [x, y, z, u][j]? = some v → (w.alloc (.cells #[x, y, z, u] t)).cell? ((⟨w.heap.size, 0, none⟩ : Addr).add j) = some v := by
  intro j v hj
  rw [Go.WideShapes.add_plain]
  have hb : (w.alloc (.cells #[x, y, z, u] t)).heap[w.heap.size]? = some (.cells #[x, y, z, u] t (0, 0)) := World.heap_alloc_new _ _
  simp only [World.cell?, hb]
  match j, hj with
  | 0, hj => simpa using hj
  | 1, hj => simpa using hj
  | 2, hj => simpa using hj
  | 3, hj => simpa using hj
/-- Rows of numbers. -/
def RowI (w : World) (g n : Nat) (ks : List Int) (k : Nat) : Prop :=
  ∃ cs : Array Value, w.heap[g]? = some (.cells cs 3 (0, 0)) ∧ n ≤ cs.size ∧ ∀ i, i < k → cs[i]? = some (.int .i64 (ks.getD i 0))
def ResI (w : World) (base : Nat) (a : Option Addr) (ks : List Int) : Prop := ks = [] ∨ ∃ g, a = some ⟨g, 0, none⟩ ∧ base ≤ g ∧ RowI w g ks.length ks ks.length
theorem RowI.block {w w' : World} {g n k : Nat} {ks : List Int} (h : RowI w g n ks k) (hb : w'.heap[g]? = w.heap[g]?) : RowI w' g n ks k := by
  obtain ⟨cs, h1, h2, h3⟩ := h
  exact ⟨cs, hb.trans h1, h2, h3⟩
theorem RowI.lt {w : World} {g n k : Nat} {ks : List Int} (h : RowI w g n ks k) : g < w.heap.size := by
  obtain ⟨cs, h1, _⟩ := h
  exact heap_lt h1
theorem ResI.kept {w w' : World} {base : Nat} {a : Option Addr} {ks : List Int} (h : ResI w base a ks) (hb : ∀ k, base ≤ k → k < w.heap.size → w'.heap[k]? = w.heap[k]?) : ResI w' base a ks := by
  rcases h with h | ⟨g, rfl, hg, hr⟩
  · exact .inl h
  · exact .inr ⟨g, rfl, hg, hr.block (hb g hg hr.lt)⟩
theorem ResI.below {w w' : World} {base : Nat} {a : Option Addr} {ks : List Int} (h : ResI w base a ks) (hb : Below w.heap.size w w') : ResI w' base a ks := h.kept (fun k _ hk => hb.block k hk)
theorem ResI.lie {w : World} {base : Nat} {a : Option Addr} {ks : List Int} (h : ResI w base a ks) : LieI w a ks := by
  rcases h with h | ⟨g, rfl, hg, hr⟩
  · exact .inl h
  · have hlt := hr.lt
    obtain ⟨cs, h1, h2, h3⟩ := hr
    exact .inr ⟨g, 0, rfl, hlt, fun i hi => by simpa [World.cell?, h1] using h3 i hi⟩
/-- The cells of numbers. -/
def ic (ks : List Int) : List Value := ks.map fun k => .int .i64 k
theorem ic_snoc (ks : List Int) (x : Int) : ic (ks ++ [x]) = ic ks ++ [.int .i64 x] := by simp [ic]
theorem resI_of_owns {w : World} {B n : Nat} {v : Value} {ks : List Int} (h : w.ownsRow B 3 1 v n (ic ks)) :
    n = ks.length ∧ ∃ a cap, v = .slice a ks.length cap ∧ ResI w B a ks := by
  obtain ⟨h1, h2⟩ := h
  have hn : n = ks.length := by simp [ic] at h1; omega
  refine ⟨hn, ?_⟩
  subst hn
  rcases h2 with ⟨rfl, h0⟩ | ⟨g, cap, cur, rfl, hg, hb, hl, hm, hsz, htk⟩
  · exact ⟨none, 0, by rw [h0], .inl (List.length_eq_zero_iff.1 h0)⟩
  · refine ⟨some ⟨g, 0, none⟩, cap, rfl, .inr ⟨g, rfl, hg, cur, hb, by rw [hsz]; omega, fun i hi => ?_⟩⟩
    have hcell : cur[i]? = (ic ks)[i]? := by
      have e1 : (cur.toList.take (ks.length * 1))[i]? = (ic ks)[i]? := by rw [htk]
      rw [List.getElem?_take_of_lt (by omega)] at e1
      simpa using e1
    rw [hcell]
    simp [ic, List.getD, hi]
theorem ownsNil (w : World) (B : Nat) (t : TypeId) (size : Nat) : w.ownsRow B t size (.slice none 0 0) 0 [] := ⟨by simp, .inl ⟨rfl, rfl⟩⟩
theorem owns_below {w w' : World} {B n size : Nat} {e : TypeId} {v : Value} {xs : List Value} (h : w.ownsRow B e size v n xs) (hb : Below w.heap.size w w') : w'.ownsRow B e size v n xs := by
  obtain ⟨h1, h2⟩ := h
  refine ⟨h1, ?_⟩
  rcases h2 with h2 | ⟨g, cap, cur, rfl, hg, hbk, hrest⟩
  · exact .inl h2
  · exact .inr ⟨g, cap, cur, rfl, hg, (hb.block g (heap_lt hbk)).trans hbk, hrest⟩
theorem owns_blocks {w w' : World} {B n size : Nat} {e : TypeId} {v : Value} {xs : List Value} (h : w.ownsRow B e size v n xs) (hb : ∀ g, v.ownBlock = some g → w'.heap[g]? = w.heap[g]?) : w'.ownsRow B e size v n xs := by
  obtain ⟨h1, h2⟩ := h
  refine ⟨h1, ?_⟩
  rcases h2 with h2 | ⟨g, cap, cur, rfl, hg, hbk, hrest⟩
  · exact .inl h2
  · exact .inr ⟨g, cap, cur, rfl, hg, (hb g rfl).trans hbk, hrest⟩
theorem owns_set {w : World} {B n size p o : Nat} {e : TypeId} {v u : Value} {xs : List Value} (h : w.ownsRow B e size v n xs) (hp : p < B) : (w.setCell ⟨p, o, none⟩ u).ownsRow B e size v n xs :=
  owns_blocks h (fun g hg => Below.heap_setCell _ _ _ _ (by have := owns_base h g hg; dsimp only; omega))
theorem RowE.zero {w : World} {g n k : Nat} {xs : List En} (h : RowE w g n xs k) (ys : List En) : RowE w g n ys 0 := by
  obtain ⟨cs, h1, h2, _⟩ := h
  exact ⟨cs, h1, h2, fun i hi => absurd hi (Nat.not_lt_zero _)⟩
theorem rowE_step {W : World} {g n k : Nat} {xs : List En} {f : En} {cs : Array Value} (h1 : W.heap[g]? = some (.cells ((((cs.setIfInBounds (k * 4) (.string f.ky)).setIfInBounds (k * 4 + 1) (.int .i64 f.sq)).setIfInBounds (k * 4 + 2) (.int .i64 f.kd)).setIfInBounds (k * 4 + 3) (.string f.vl)) 40 (0, 0))) (h2 : n * 4 ≤ cs.size)
    (h3 : ∀ i, i < k → cs[i * 4]? = some (.string (xs.getD i en0).ky) ∧ cs[i * 4 + 1]? = some (.int .i64 (xs.getD i en0).sq) ∧ cs[i * 4 + 2]? = some (.int .i64 (xs.getD i en0).kd) ∧ cs[i * 4 + 3]? = some (.string (xs.getD i en0).vl)) (hk : k < n) (hf : xs.getD k en0 = f) : RowE W g n xs (k + 1) := by
  refine ⟨_, h1, by simpa using h2, fun i hi => ?_⟩
  by_cases hik : i = k
  · subst hik
    rw [hf]
    refine ⟨?_, ?_, ?_, ?_⟩
    · simp [Array.getElem?_setIfInBounds]; omega
    · simp [Array.getElem?_setIfInBounds]; omega
    · simp [Array.getElem?_setIfInBounds]; omega
    · simp [Array.getElem?_setIfInBounds]; omega
  · obtain ⟨a0, a1, a2, a3⟩ := h3 i (by omega)
    refine ⟨?_, ?_, ?_, ?_⟩
    · rw [Array.getElem?_setIfInBounds_ne (by omega), Array.getElem?_setIfInBounds_ne (by omega), Array.getElem?_setIfInBounds_ne (by omega), Array.getElem?_setIfInBounds_ne (by omega)]; exact a0
    · rw [Array.getElem?_setIfInBounds_ne (by omega), Array.getElem?_setIfInBounds_ne (by omega), Array.getElem?_setIfInBounds_ne (by omega), Array.getElem?_setIfInBounds_ne (by omega)]; exact a1
    · rw [Array.getElem?_setIfInBounds_ne (by omega), Array.getElem?_setIfInBounds_ne (by omega), Array.getElem?_setIfInBounds_ne (by omega), Array.getElem?_setIfInBounds_ne (by omega)]; exact a2
    · rw [Array.getElem?_setIfInBounds_ne (by omega), Array.getElem?_setIfInBounds_ne (by omega), Array.getElem?_setIfInBounds_ne (by omega), Array.getElem?_setIfInBounds_ne (by omega)]; exact a3
theorem row_cell {W : World} {g o : Nat} {cs : Array Value} {t : TypeId} (h : W.heap[g]? = some (.cells cs t (0, 0))) (ho : o < cs.size) : ∃ v, W.cell? ⟨g, o, none⟩ = some v := ⟨cs[o], by simp [World.cell?, h]⟩
def mkI (k0 n : Nat) : List Int := (List.range n).map fun i => ((k0 + i : Nat) : Int)
theorem mkI_length (k0 n : Nat) : (mkI k0 n).length = n := by simp [mkI]
theorem mkI_at (k0 n i : Nat) (h : i < n) : (mkI k0 n).getD i 0 = ((k0 + i : Nat) : Int) := by simp [mkI, List.getD, h]
theorem RowI.zero {w : World} {g n k : Nat} {xs : List Int} (h : RowI w g n xs k) (ys : List Int) : RowI w g n ys 0 := by
  obtain ⟨cs, h1, h2, _⟩ := h
  exact ⟨cs, h1, h2, fun i hi => absurd hi (Nat.not_lt_zero _)⟩
theorem RowI.step {w : World} {g n k : Nat} {ks : List Int} {x : Int} (h : RowI w g n ks k) (hk : k < n) (hx : ks.getD k 0 = x) : RowI (w.setCell ⟨g, k, none⟩ (.int .i64 x)) g n ks (k + 1) := by
  obtain ⟨cs, h1, h2, h3⟩ := h
  refine ⟨_, heap_setCell_same w g k cs _ (.int .i64 x) h1, by simpa using h2, fun i hi => ?_⟩
  by_cases hik : i = k
  · subst hik
    rw [hx]
    simp [Array.getElem?_setIfInBounds]; omega
  · rw [Array.getElem?_setIfInBounds_ne (by omega)]
    exact h3 i (by omega)
end Go.Proofs.Ytgkhjjnhikbdaaa
