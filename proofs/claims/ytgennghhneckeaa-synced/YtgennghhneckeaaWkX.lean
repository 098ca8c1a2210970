import Derived.Test.YtgennghhneckeaaWkS
namespace Go.Proofs.Ytgennghhneckeaa
open Go.RowKit Go.Maps
set_option linter.unusedVariables false
set_option linter.unusedSimpArgs false

/-- One byte as a text. -/
def d1 (n : Int) : ByteArray := ByteArray.empty.push (UInt8.ofNat n.toNat)
theorem d1_size (n : Int) : (d1 n).size = 1 := by simp [d1]

theorem conv1 (w : World) (n : Int) : (convert 22 9 (.slice (some ⟨w.heap.size, 0, none⟩) 1 1)).run Try.prog (w.alloc (.cells #[.int .u8 n] 5)) = .ok (.string (d1 n)) (w.alloc (.cells #[.int .u8 n] 5)) := by
  rw [run_convert_bytes_string _ 22 9 5 _ 1 1 Try.underlying22 Try.underlying5 Try.underlying9, run_bytesToString _ _ 1 1 [n] (by simp [loadCells, go_sem])]
  rfl

/-- The digits of k ahead of out. -/
def md : Nat → Nat → ByteArray → ByteArray
  | 0, _, out => out
  | n + 1, k, out => if k = 0 then out else md n (k / 10) (d1 (48 + (k : Int) % 10) ++ out)
theorem md_zero (n : Nat) (out : ByteArray) : md n 0 out = out := by cases n <;> simp [md]
theorem md_more : ∀ (n k : Nat) (out : ByteArray), k ≤ n → md (n + 1) k out = md n k out := by
  intro n
  induction n with
  | zero => intro k out h; have : k = 0 := by omega
            subst this; rw [md_zero, md_zero]
  | succ n ih =>
    intro k out h
    show (if k = 0 then out else md (n + 1) (k / 10) (d1 (48 + (k : Int) % 10) ++ out)) = (if k = 0 then out else md n (k / 10) (d1 (48 + (k : Int) % 10) ++ out))
    by_cases hk : k = 0
    · simp [hk]
    · rw [if_neg hk, if_neg hk, ih _ _ (by omega)]
theorem md_stable (n k : Nat) (out : ByteArray) (h : k ≤ n) : md n k out = md k k out := by
  induction n with
  | zero => have : k = 0 := by omega
            subst this; rfl
  | succ n ih =>
    by_cases hk : k = n + 1
    · rw [hk]
    · rw [md_more n k out (by omega)]; exact ih (by omega)
theorem md_step {k : Nat} (hk : 0 < k) (out : ByteArray) : md (k / 10) (k / 10) (d1 (48 + (k : Int) % 10) ++ out) = md k k out := by
  obtain ⟨n, rfl⟩ : ∃ n, k = n + 1 := ⟨k - 1, by omega⟩
  show _ = (if n + 1 = 0 then out else md n ((n + 1) / 10) (d1 (48 + ((n + 1 : Nat) : Int) % 10) ++ out))
  rw [if_neg (by omega), md_stable n _ _ (by omega)]

/-- The text of a mark. -/
def mt (k : Nat) : ByteArray := ⟨#[109]⟩ ++ md k k ByteArray.empty

/-- The marks from k on. -/
def mkL (k n : Nat) : List Fl := (List.range n).map fun i => ⟨mt (k + 3 * i), mt (k + 3 * i + 1), ((k + 3 * i + 2 : Nat) : Int)⟩
theorem mkL_length (k n : Nat) : (mkL k n).length = n := by simp [mkL]
theorem mkL_at (k n i : Nat) (h : i < n) : (mkL k n).getD i fl0 = ⟨mt (k + 3 * i), mt (k + 3 * i + 1), ((k + 3 * i + 2 : Nat) : Int)⟩ := by simp [mkL, List.getD, h]

theorem Part.zero {w : World} {g n k : Nat} {xs : List Fl} (h : Part w g n xs k) (ys : List Fl) : Part w g n ys 0 := by
  obtain ⟨cs, h1, h2, _⟩ := h
  exact ⟨cs, h1, h2, fun i hi => absurd hi (Nat.not_lt_zero _)⟩

theorem part_step {W : World} {g n k : Nat} {xs : List Fl} {f : Fl} {cs : Array Value} (h1 : W.heap[g]? = some (.cells (((cs.setIfInBounds (k * 3) (.string f.nm)).setIfInBounds (k * 3 + 1) (.string f.dt)).setIfInBounds (k * 3 + 2) (.int .i64 f.sy)) 31 (0, 0))) (h2 : cs.size = n * 3)
    (h3 : ∀ i, i < k → cs[i * 3]? = some (.string (xs.getD i fl0).nm) ∧ cs[i * 3 + 1]? = some (.string (xs.getD i fl0).dt) ∧ cs[i * 3 + 2]? = some (.int .i64 (xs.getD i fl0).sy)) (hk : k < n) (hf : xs.getD k fl0 = f) : Part W g n xs (k + 1) := by
  refine ⟨_, h1, by simp [h2], fun i hi => ?_⟩
  by_cases hik : i = k
  · subst hik
    rw [hf]
    refine ⟨?_, ?_, ?_⟩
    · simp [Array.getElem?_setIfInBounds]; omega
    · simp [Array.getElem?_setIfInBounds]; omega
    · simp [Array.getElem?_setIfInBounds]; omega
  · obtain ⟨a0, a1, a2⟩ := h3 i (by omega)
    refine ⟨?_, ?_, ?_⟩
    · rw [Array.getElem?_setIfInBounds_ne (by omega), Array.getElem?_setIfInBounds_ne (by omega), Array.getElem?_setIfInBounds_ne (by omega)]; exact a0
    · rw [Array.getElem?_setIfInBounds_ne (by omega), Array.getElem?_setIfInBounds_ne (by omega), Array.getElem?_setIfInBounds_ne (by omega)]; exact a1
    · rw [Array.getElem?_setIfInBounds_ne (by omega), Array.getElem?_setIfInBounds_ne (by omega), Array.getElem?_setIfInBounds_ne (by omega)]; exact a2

theorem row_cell {W : World} {g o : Nat} {cs : Array Value} {t : TypeId} (h : W.heap[g]? = some (.cells cs t (0, 0))) (ho : o < cs.size) : ∃ v, W.cell? ⟨g, o, none⟩ = some v := ⟨cs[o], by simp [World.cell?, h]⟩

end Go.Proofs.Ytgennghhneckeaa
namespace Go.Proofs.Ytgennghhneckeaa
open Go.RowKit
set_option linter.unusedVariables false
set_option linter.unusedSimpArgs false

theorem bne_self (n : ByteArray) : (n.toList != n.toList) = false := by simp

end Go.Proofs.Ytgennghhneckeaa
namespace Go.Proofs.Ytgennghhneckeaa
open Go.RowKit Go.Maps
set_option linter.unusedVariables false
set_option linter.unusedSimpArgs false

/-- A slice of files that was made between two sizes of the heap. -/
def RI (w : World) (lo hi : Nat) (a : Option Addr) (cap : Nat) (xs : List Fl) : Prop :=
  xs = [] ∨ ∃ g, a = some ⟨g, 0, none⟩ ∧ lo ≤ g ∧ g < hi ∧ Part w g cap xs xs.length

theorem Res.ri {w : World} {base cap : Nat} {a : Option Addr} {xs : List Fl} (h : Res w base a cap xs) : RI w base w.heap.size a cap xs := by
  rcases h with rfl | ⟨g, rfl, hg, hp⟩
  · exact .inl rfl
  · exact .inr ⟨g, rfl, hg, hp.lt, hp⟩
theorem RI.res {w : World} {lo hi cap : Nat} {a : Option Addr} {xs : List Fl} (h : RI w lo hi a cap xs) : Res w lo a cap xs := by
  rcases h with rfl | ⟨g, rfl, hg, _, hp⟩
  · exact .inl rfl
  · exact .inr ⟨g, rfl, hg, hp⟩
theorem RI.lie {w : World} {lo hi cap : Nat} {a : Option Addr} {xs : List Fl} (h : RI w lo hi a cap xs) : Lie w a xs := h.res.lie
theorem RI.but {w w' : World} {lo hi cap : Nat} {a : Option Addr} {xs : List Fl} {ex : List Nat} (h : RI w lo hi a cap xs) (hb : But ex w.heap.size w w') (he : ∀ g ∈ ex, g < lo ∨ hi ≤ g) : RI w' lo hi a cap xs := by
  rcases h with rfl | ⟨g, rfl, h1, h2, hp⟩
  · exact .inl rfl
  · refine .inr ⟨g, rfl, h1, h2, ?_⟩
    have hlt := hp.lt
    obtain ⟨cs, e1, e2⟩ := hp
    refine ⟨cs, (hb.block g hlt (fun hg => ?_)).trans e1, e2⟩
    rcases he g hg with h | h <;> omega
theorem RI.below {w w' : World} {lo hi cap : Nat} {a : Option Addr} {xs : List Fl} (h : RI w lo hi a cap xs) (hb : Below w.heap.size w w') : RI w' lo hi a cap xs := h.but (ex := []) (But.of hb) (fun g hg => absurd hg (by simp))
theorem RI.le {w : World} {lo hi cap : Nat} {a : Option Addr} {xs : List Fl} (h : RI w lo hi a cap xs) : xs.length ≤ cap ∨ xs = [] := by
  rcases h with rfl | ⟨g, rfl, h1, h2, cs, e1, e2, e3⟩
  · exact .inr rfl
  · by_cases h0 : xs.length = 0
    · exact .inl (by omega)
    · obtain ⟨-, -, h⟩ := e3 (xs.length - 1) (by omega)
      have hlt : (xs.length - 1) * 3 + 2 < cs.size := by
        by_cases hlt : (xs.length - 1) * 3 + 2 < cs.size
        · exact hlt
        · rw [Array.getElem?_eq_none (by omega)] at h; cases h
      exact .inl (by omega)
theorem Part.ri {w : World} {lo g : Nat} {xs : List Fl} (h : Part w g xs.length xs xs.length) (hg : lo ≤ g) : RI w lo w.heap.size (some ⟨g, 0, none⟩) xs.length xs := .inr ⟨g, rfl, hg, h.lt, h⟩

/-- A box of three cells. -/
def Box (w : World) (p : Nat) (t : TypeId) (x0 x1 x2 : Value) : Prop := w.heap[p]? = some (.cells #[x0, x1, x2] t (0, 0))
theorem Box.lt {w : World} {p : Nat} {t : TypeId} {x0 x1 x2 : Value} (h : Box w p t x0 x1 x2) : p < w.heap.size := by
  by_cases hg : p < w.heap.size
  · exact hg
  · unfold Box at h; rw [Array.getElem?_eq_none (by omega)] at h; cases h
theorem Box.but {w w' : World} {p : Nat} {t : TypeId} {x0 x1 x2 : Value} {ex : List Nat} (h : Box w p t x0 x1 x2) (hb : But ex w.heap.size w w') (he : p ∉ ex) : Box w' p t x0 x1 x2 := (hb.block p h.lt he).trans h
theorem Box.below {w w' : World} {p : Nat} {t : TypeId} {x0 x1 x2 : Value} (h : Box w p t x0 x1 x2) (hb : Below w.heap.size w w') : Box w' p t x0 x1 x2 := (hb.block p h.lt).trans h
theorem Box.cells {w : World} {p : Nat} {t : TypeId} {x0 x1 x2 : Value} (h : Box w p t x0 x1 x2) : w.cell? ⟨p, 0, none⟩ = some x0 ∧ w.cell? ⟨p, 1, none⟩ = some x1 ∧ w.cell? ⟨p, 2, none⟩ = some x2 := (three_cells h).1
theorem Box.new (w : World) (t : TypeId) (x0 x1 x2 : Value) : Box (w.alloc (.cells #[x0, x1, x2] t)) w.heap.size t x0 x1 x2 := World.heap_alloc_new _ _
theorem new_below (w : World) (o : Obj) : Below w.heap.size w (w.alloc o) := (Below.refl _ _).alloc (Nat.le_refl _) _

end Go.Proofs.Ytgennghhneckeaa
