import Derived.Test.YtphikgobdfknkaaGreatDoorVarX
import Derived.Maps.AppendAt
namespace Go.Proofs.YtphikgobdfknkaaGreatDoor
open Go.RowKit Go.Maps
set_option linter.unusedVariables false
set_option linter.unusedSimpArgs false

/-- An entry. -/
structure Tr where
  nu : Int
  lv : Int
  lo : ByteArray
  hi : ByteArray
def tr0 : Tr := ⟨0, 0, ByteArray.empty, ByteArray.empty⟩
abbrev Tr.agg (e : Tr) : Value := .agg #[.int .i64 e.nu, .int .i64 e.lv, .string e.lo, .string e.hi]

/-- The entries xs lie one behind the other behind a slice's address. -/
def LieT (w : World) (a : Option Addr) (xs : List Tr) : Prop :=
  xs = [] ∨ ∃ b off, a = some ⟨b, off, none⟩ ∧ b < w.heap.size ∧ ∀ i, i < xs.length → w.cell? ⟨b, off + i * 4, none⟩ = some (.int .i64 (xs.getD i tr0).nu) ∧
    w.cell? ⟨b, off + i * 4 + 1, none⟩ = some (.int .i64 (xs.getD i tr0).lv) ∧ w.cell? ⟨b, off + i * 4 + 2, none⟩ = some (.string (xs.getD i tr0).lo) ∧ w.cell? ⟨b, off + i * 4 + 3, none⟩ = some (.string (xs.getD i tr0).hi)
theorem LieT.below {w w' : World} {a : Option Addr} {xs : List Tr} (h : LieT w a xs) (hb : Below w.heap.size w w') : LieT w' a xs := by
  rcases h with rfl | ⟨b, off, rfl, hlt, hc⟩
  · exact .inl rfl
  · refine .inr ⟨b, off, rfl, Nat.lt_of_lt_of_le hlt hb.size, fun i hi => ?_⟩
    obtain ⟨h1, h2, h3, h4⟩ := hc i hi
    exact ⟨(hb.cell (p := ⟨b, _, none⟩) hlt).trans h1, (hb.cell (p := ⟨b, _, none⟩) hlt).trans h2, (hb.cell (p := ⟨b, _, none⟩) hlt).trans h3, (hb.cell (p := ⟨b, _, none⟩) hlt).trans h4⟩
theorem LieT.at {w : World} {a : Option Addr} {xs : List Tr} (h : LieT w a xs) {i : Nat} (hi : i < xs.length) :
    ∃ b off, a = some ⟨b, off, none⟩ ∧ b < w.heap.size ∧ w.cell? ⟨b, off + i * 4, none⟩ = some (.int .i64 (xs.getD i tr0).nu) ∧
      w.cell? ⟨b, off + i * 4 + 1, none⟩ = some (.int .i64 (xs.getD i tr0).lv) ∧ w.cell? ⟨b, off + i * 4 + 2, none⟩ = some (.string (xs.getD i tr0).lo) ∧ w.cell? ⟨b, off + i * 4 + 3, none⟩ = some (.string (xs.getD i tr0).hi) := by
  rcases h with rfl | ⟨b, off, rfl, hlt, hc⟩
  · simp at hi
  · obtain ⟨h1, h2, h3, h4⟩ := hc i hi
    exact ⟨b, off, rfl, hlt, h1, h2, h3, h4⟩
theorem bcell {W w1 : World} (hb : Below W.heap.size W w1) : (∀ b o, b < W.heap.size → w1.cell? ⟨b, o, none⟩ = W.cell? ⟨b, o, none⟩) ∧ (∀ b o, b < W.heap.size → w1.frozen? ⟨b, o, none⟩ = W.frozen? ⟨b, o, none⟩) :=
  ⟨fun b o h => hb.cell (p := ⟨b, o, none⟩) h, fun b o h => hb.frozen (p := ⟨b, o, none⟩) h⟩

/-- Every text of an entry fits into memory. -/
def FitsT (xs : List Tr) : Prop := ∀ e ∈ xs, e.lo.size ≤ maxLen ∧ e.hi.size ≤ maxLen
theorem FitsT.at {xs : List Tr} (h : FitsT xs) {i : Nat} (hi : i < xs.length) : (xs.getD i tr0).lo.size ≤ maxLen ∧ (xs.getD i tr0).hi.size ≤ maxLen := by
  have : xs.getD i tr0 = xs[i] := by simp [List.getD, hi]
  rw [this]
  exact h _ (List.getElem_mem hi)
/-- How many bytes the texts have together. -/
def bulkT (xs : List Tr) : Nat := (xs.map fun e => e.lo.size + e.hi.size).sum
theorem takeT_snoc (xs : List Tr) (k : Nat) (h : k < xs.length) : xs.take (k + 1) = xs.take k ++ [xs.getD k tr0] := by
  rw [List.take_succ_eq_append_getElem h]
  simp [List.getD, h]
theorem bulkT_snoc (xs : List Tr) (k : Nat) (h : k < xs.length) : bulkT (xs.take (k + 1)) = bulkT (xs.take k) + ((xs.getD k tr0).lo.size + (xs.getD k tr0).hi.size) := by
  rw [takeT_snoc xs k h]
  simp only [bulkT, List.map_append, List.sum_append, List.map_cons, List.map_nil, List.sum_cons, List.sum_nil]
  omega
theorem bulkT_take_le (xs : List Tr) (k : Nat) : bulkT (xs.take k) ≤ bulkT xs := by
  have : bulkT xs = bulkT (xs.take k) + bulkT (xs.drop k) := by
    unfold bulkT
    rw [← List.sum_append, ← List.map_append, List.take_append_drop]
  omega

end Go.Proofs.YtphikgobdfknkaaGreatDoor
namespace Go.Proofs.YtphikgobdfknkaaGreatDoor
open Go.RowKit Go.Maps
set_option linter.unusedVariables false
set_option linter.unusedSimpArgs false

/-- Block g of the world is n entries' room, none of it frozen; the first k of the entries xs stand in it. -/
def PartT (w : World) (g n : Nat) (xs : List Tr) (k : Nat) : Prop :=
  ∃ cs : Array Value, w.heap[g]? = some (.cells cs 45 (0, 0)) ∧ cs.size = n * 4 ∧
    ∀ i, i < k → cs[i * 4]? = some (.int .i64 (xs.getD i tr0).nu) ∧ cs[i * 4 + 1]? = some (.int .i64 (xs.getD i tr0).lv) ∧ cs[i * 4 + 2]? = some (.string (xs.getD i tr0).lo) ∧ cs[i * 4 + 3]? = some (.string (xs.getD i tr0).hi)
theorem PartT.below {w w' : World} {B g n k : Nat} {xs : List Tr} (h : PartT w g n xs k) (hb : Below B w w') (hg : g < B) : PartT w' g n xs k := by
  obtain ⟨cs, h1, h2, h3⟩ := h
  exact ⟨cs, (hb.block g hg).trans h1, h2, h3⟩
theorem PartT.cell {w : World} {g n k : Nat} {xs : List Tr} (h : PartT w g n xs k) (o : Nat) (ho : o < n * 4) : ∃ v, w.cell? ⟨g, o, none⟩ = some v := by
  obtain ⟨cs, h1, h2, _⟩ := h
  exact ⟨cs[o]'(by omega), by simp [World.cell?, h1]⟩
theorem PartT.frozen {w : World} {g n k : Nat} {xs : List Tr} (h : PartT w g n xs k) (o : Nat) : w.frozen? ⟨g, o, none⟩ = false := by
  obtain ⟨cs, h1, _⟩ := h
  simp [World.frozen?, h1]
theorem iRef_info : (Tryz.prog.info? 45).map (fun i => (i.zero, i.size, i.bytes)) = some (some (.agg #[.int .i64 0, .int .i64 0, .string ByteArray.empty, .string ByteArray.empty]), 4, 48) := by kernel_rfl
theorem make_refs (n : Nat) (h : n ≤ 1048576) (w : World) : (Instr.makeSlice 38 (.int .i64 (n : Int)) (.int .i64 (n : Int))).run Tryz.prog w = .ok (.slice (some ⟨w.heap.size, 0, none⟩) n n) (w.alloc (.cells (madeCells #[.int .i64 0, .int .i64 0, .string ByteArray.empty, .string ByteArray.empty] (n * 4)) 45)) := by
  have hi := iRef_info
  cases hj : Tryz.prog.info? 45 with
  | none => rw [hj] at hi; cases hi
  | some i =>
    rw [hj] at hi
    simp only [Option.map_some, Option.some.injEq, Prod.mk.injEq] at hi
    obtain ⟨hz, hs, hb⟩ := hi
    have := run_make (P := Tryz.prog) w 38 45 i _ Tryz.underlying38 hj hz .i64 .i64 (n : Int) (n : Int) (by omega) (Int.le_refl _) (by rw [hb]; omega) (by omega)
    rw [this, hs]
    simp [Value.cells]
theorem World.heap_alloc_new (w : World) (o : Obj) : (w.alloc o).heap[w.heap.size]? = some o := by
  show (w.heap.push o)[w.heap.size]? = _
  simp

/-- One entry more, stored cell by cell. -/
theorem PartT.step {w : World} {g n k : Nat} {xs : List Tr} (h : PartT w g n xs k) (hk : k < n) {f : Tr} (hf : xs.getD k tr0 = f) :
    PartT ((((w.setCell ⟨g, k * 4, none⟩ (.int .i64 f.nu)).setCell ⟨g, k * 4 + 1, none⟩ (.int .i64 f.lv)).setCell ⟨g, k * 4 + 2, none⟩ (.string f.lo)).setCell ⟨g, k * 4 + 3, none⟩ (.string f.hi)) g n xs (k + 1) := by
  obtain ⟨cs, h1, h2, h3⟩ := h
  have e1 := heap_setCell_same w g (k * 4) cs _ (.int .i64 f.nu) h1
  have e2 := heap_setCell_same _ g (k * 4 + 1) _ _ (.int .i64 f.lv) e1
  have e3 := heap_setCell_same _ g (k * 4 + 2) _ _ (.string f.lo) e2
  have e4 := heap_setCell_same _ g (k * 4 + 3) _ _ (.string f.hi) e3
  refine ⟨_, e4, by simp [h2], fun i hi => ?_⟩
  by_cases hik : i = k
  · subst hik
    rw [hf]
    refine ⟨?_, ?_, ?_, ?_⟩ <;> simp [Array.getElem?_setIfInBounds] <;> omega
  · obtain ⟨a0, a1, a2, a3⟩ := h3 i (by omega)
    refine ⟨?_, ?_, ?_, ?_⟩
    · rw [Array.getElem?_setIfInBounds_ne (by omega), Array.getElem?_setIfInBounds_ne (by omega), Array.getElem?_setIfInBounds_ne (by omega), Array.getElem?_setIfInBounds_ne (by omega)]; exact a0
    · rw [Array.getElem?_setIfInBounds_ne (by omega), Array.getElem?_setIfInBounds_ne (by omega), Array.getElem?_setIfInBounds_ne (by omega), Array.getElem?_setIfInBounds_ne (by omega)]; exact a1
    · rw [Array.getElem?_setIfInBounds_ne (by omega), Array.getElem?_setIfInBounds_ne (by omega), Array.getElem?_setIfInBounds_ne (by omega), Array.getElem?_setIfInBounds_ne (by omega)]; exact a2
    · rw [Array.getElem?_setIfInBounds_ne (by omega), Array.getElem?_setIfInBounds_ne (by omega), Array.getElem?_setIfInBounds_ne (by omega), Array.getElem?_setIfInBounds_ne (by omega)]; exact a3
theorem partT_made (w : World) (n : Nat) (xs : List Tr) (z : Array Value) : PartT (w.alloc (.cells (madeCells z (n * 4)) 45)) w.heap.size n xs 0 :=
  ⟨madeCells z (n * 4), World.heap_alloc_new _ _, by simp [madeCells], fun i hi => absurd hi (Nat.not_lt_zero _)⟩

theorem PartT.lie {w : World} {g : Nat} {xs : List Tr} (h : PartT w g xs.length xs xs.length) : LieT w (some ⟨g, 0, none⟩) xs := by
  obtain ⟨cs, h1, h2, h3⟩ := h
  refine .inr ⟨g, 0, rfl, ?_, fun i hi => ?_⟩
  · by_cases hg : g < w.heap.size
    · exact hg
    · rw [Array.getElem?_eq_none (by omega)] at h1; cases h1
  · obtain ⟨a0, a1, a2, a3⟩ := h3 i hi
    exact ⟨by simpa [World.cell?, h1] using a0, by simpa [World.cell?, h1] using a1, by simpa [World.cell?, h1] using a2, by simpa [World.cell?, h1] using a3⟩

end Go.Proofs.YtphikgobdfknkaaGreatDoor
