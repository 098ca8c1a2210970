import Derived.Test.YtgennghhneckeaaVarM
import Derived.Test.YtgennghhneckeaaRows
import Derived.WalkKit
import Derived.WalkSpells
import Derived.WalkLawsBesides
import Derived.Deep.QuietTactic
import Derived.BigQuiet
import Derived.Deep.RegionHeld3
import Derived.Below
namespace Go.Proofs.Ytgennghhneckeaa
open Go.RowKit
set_option linter.unusedVariables false
set_option linter.unusedSimpArgs false

/-- A file: its name, its data, how much of it is synced. -/
structure Fl where
  nm : ByteArray
  dt : ByteArray
  sy : Int
def fl0 : Fl := ⟨ByteArray.empty, ByteArray.empty, 0⟩

/-- A file as a value. -/
abbrev Fl.agg (f : Fl) : Value := .agg #[.string f.nm, .string f.dt, .int .i64 f.sy]

/-- The files xs lie one behind the other from ⟨b, off⟩ on. -/
def LieAt (w : World) (b off : Nat) (xs : List Fl) : Prop :=
  b < w.heap.size ∧ ∀ i, i < xs.length → w.cell? ⟨b, off + i * 3, none⟩ = some (.string (xs.getD i fl0).nm) ∧
    w.cell? ⟨b, off + i * 3 + 1, none⟩ = some (.string (xs.getD i fl0).dt) ∧ w.cell? ⟨b, off + i * 3 + 2, none⟩ = some (.int .i64 (xs.getD i fl0).sy)

/-- A slice's address behind which the files xs lie (nothing is asked where there is none). -/
def Lie (w : World) (a : Option Addr) (xs : List Fl) : Prop :=
  xs = [] ∨ ∃ b off, a = some ⟨b, off, none⟩ ∧ LieAt w b off xs

theorem Lie.below {w w' : World} {a : Option Addr} {xs : List Fl} (h : Lie w a xs) (hb : Below w.heap.size w w') : Lie w' a xs := by
  rcases h with rfl | ⟨b, off, rfl, hlt, hc⟩
  · exact .inl rfl
  · refine .inr ⟨b, off, rfl, Nat.lt_of_lt_of_le hlt hb.size, fun i hi => ?_⟩
    obtain ⟨h1, h2, h3⟩ := hc i hi
    exact ⟨(hb.cell (p := ⟨b, _, none⟩) hlt).trans h1, (hb.cell (p := ⟨b, _, none⟩) hlt).trans h2, (hb.cell (p := ⟨b, _, none⟩) hlt).trans h3⟩

theorem Lie.at {w : World} {a : Option Addr} {xs : List Fl} (h : Lie w a xs) {i : Nat} (hi : i < xs.length) :
    ∃ b off, a = some ⟨b, off, none⟩ ∧ b < w.heap.size ∧ w.cell? ⟨b, off + i * 3, none⟩ = some (.string (xs.getD i fl0).nm) ∧
      w.cell? ⟨b, off + i * 3 + 1, none⟩ = some (.string (xs.getD i fl0).dt) ∧ w.cell? ⟨b, off + i * 3 + 2, none⟩ = some (.int .i64 (xs.getD i fl0).sy) := by
  rcases h with rfl | ⟨b, off, rfl, hlt, hc⟩
  · simp at hi
  · obtain ⟨h1, h2, h3⟩ := hc i hi
    exact ⟨b, off, rfl, hlt, h1, h2, h3⟩

theorem bcell {W w1 : World} (hb : Below W.heap.size W w1) : (∀ b o, b < W.heap.size → w1.cell? ⟨b, o, none⟩ = W.cell? ⟨b, o, none⟩) ∧ (∀ b o, b < W.heap.size → w1.frozen? ⟨b, o, none⟩ = W.frozen? ⟨b, o, none⟩) :=
  ⟨fun b o h => hb.cell (p := ⟨b, o, none⟩) h, fun b o h => hb.frozen (p := ⟨b, o, none⟩) h⟩

/-- Every text of a file fits into memory. -/
def Fits (xs : List Fl) : Prop := ∀ f ∈ xs, f.nm.size ≤ maxLen ∧ f.dt.size ≤ maxLen

theorem Fits.at {xs : List Fl} (h : Fits xs) {i : Nat} (hi : i < xs.length) : (xs.getD i fl0).nm.size ≤ maxLen ∧ (xs.getD i fl0).dt.size ≤ maxLen := by
  have : xs.getD i fl0 = xs[i] := by simp [List.getD, hi]
  rw [this]
  exact h _ (List.getElem_mem hi)

/-- How many bytes names and data have together. -/
def bulk (xs : List Fl) : Nat := (xs.map fun f => f.nm.size + f.dt.size).sum
/-- How many bytes the data have together. -/
def datas (xs : List Fl) : Nat := (xs.map fun f => f.dt.size).sum

theorem take_snoc (xs : List Fl) (k : Nat) (h : k < xs.length) : xs.take (k + 1) = xs.take k ++ [xs.getD k fl0] := by
  rw [List.take_succ_eq_append_getElem h]
  simp [List.getD, h]

theorem bulk_snoc (xs : List Fl) (k : Nat) (h : k < xs.length) : bulk (xs.take (k + 1)) = bulk (xs.take k) + ((xs.getD k fl0).nm.size + (xs.getD k fl0).dt.size) := by
  rw [take_snoc xs k h]
  simp only [bulk, List.map_append, List.sum_append, List.map_cons, List.map_nil, List.sum_cons, List.sum_nil]
  omega

theorem datas_snoc (xs : List Fl) (k : Nat) (h : k < xs.length) : datas (xs.take (k + 1)) = datas (xs.take k) + (xs.getD k fl0).dt.size := by
  rw [take_snoc xs k h]
  simp [datas]

theorem datas_le_bulk (xs : List Fl) : datas xs ≤ bulk xs := by
  induction xs with
  | nil => simp [datas, bulk]
  | cons f r ih => simp only [datas, bulk, List.map_cons, List.sum_cons] at *; omega

theorem datas_take_le (xs : List Fl) (k : Nat) : datas (xs.take k) ≤ datas xs := by
  have : datas xs = datas (xs.take k) + datas (xs.drop k) := by
    unfold datas
    rw [← List.sum_append, ← List.map_append, List.take_append_drop]
  omega

theorem bulk_take_le (xs : List Fl) (k : Nat) : bulk (xs.take k) ≤ bulk xs := by
  have : bulk xs = bulk (xs.take k) + bulk (xs.drop k) := by
    unfold bulk
    rw [← List.sum_append, ← List.map_append, List.take_append_drop]
  omega

theorem ret_int {k : IntKind} {a b : Int} (h : a = b) : Ending.returned (.int k a) = .returned (.int k b) := by rw [h]
theorem ret_bool {a b : Bool} (h : a = b) : Ending.returned (.bool a) = .returned (.bool b) := by rw [h]
end Go.Proofs.Ytgennghhneckeaa
namespace Go.Proofs.Ytgennghhneckeaa
open Go.RowKit
set_option linter.unusedVariables false
set_option linter.unusedSimpArgs false

end Go.Proofs.Ytgennghhneckeaa
namespace Go.Proofs.Ytgennghhneckeaa
open Go.RowKit
set_option linter.unusedVariables false
set_option linter.unusedSimpArgs false

/-- Block g of the world is n files' room, none of it frozen; the first k of the files xs stand in it. -/
def Part (w : World) (g n : Nat) (xs : List Fl) (k : Nat) : Prop :=
  ∃ cs : Array Value, w.heap[g]? = some (.cells cs 31 (0, 0)) ∧ cs.size = n * 3 ∧
    ∀ i, i < k → cs[i * 3]? = some (.string (xs.getD i fl0).nm) ∧ cs[i * 3 + 1]? = some (.string (xs.getD i fl0).dt) ∧ cs[i * 3 + 2]? = some (.int .i64 (xs.getD i fl0).sy)

theorem Part.below {w w' : World} {B g n k : Nat} {xs : List Fl} (h : Part w g n xs k) (hb : Below B w w') (hg : g < B) : Part w' g n xs k := by
  obtain ⟨cs, h1, h2, h3⟩ := h
  exact ⟨cs, (hb.block g hg).trans h1, h2, h3⟩

theorem Part.cell {w : World} {g n k : Nat} {xs : List Fl} (h : Part w g n xs k) (o : Nat) (ho : o < n * 3) : ∃ v, w.cell? ⟨g, o, none⟩ = some v := by
  obtain ⟨cs, h1, h2, _⟩ := h
  exact ⟨cs[o]'(by omega), by simp [World.cell?, h1]⟩

theorem Part.frozen {w : World} {g n k : Nat} {xs : List Fl} (h : Part w g n xs k) (o : Nat) : w.frozen? ⟨g, o, none⟩ = false := by
  obtain ⟨cs, h1, _⟩ := h
  simp [World.frozen?, h1]

theorem iFile_info : (Try.prog.info? 31).map (fun i => (i.zero, i.size, i.bytes)) = some (some (.agg #[.string ByteArray.empty, .string ByteArray.empty, .int .i64 0]), 3, 40) := by kernel_rfl

theorem make_files (n : Nat) (h : n ≤ 1048576) (w : World) : (Instr.makeSlice 23 (.int .i64 (n : Int)) (.int .i64 (n : Int))).run Try.prog w = .ok (.slice (some ⟨w.heap.size, 0, none⟩) n n) (w.alloc (.cells (madeCells #[.string ByteArray.empty, .string ByteArray.empty, .int .i64 0] (n * 3)) 31)) := by
  have hi := iFile_info
  cases hj : Try.prog.info? 31 with
  | none => rw [hj] at hi; cases hi
  | some i =>
    rw [hj] at hi
    simp only [Option.map_some, Option.some.injEq, Prod.mk.injEq] at hi
    obtain ⟨hz, hs, hb⟩ := hi
    have := run_make (P := Try.prog) w 23 31 i _ Try.underlying23 hj hz .i64 .i64 (n : Int) (n : Int) (by omega) (Int.le_refl _) (by rw [hb]; omega) (by omega)
    rw [this, hs]
    simp [Value.cells]

theorem World.heap_alloc_new (w : World) (o : Obj) : (w.alloc o).heap[w.heap.size]? = some o := by
  show (w.heap.push o)[w.heap.size]? = _
  simp

/-- One file more, stored cell by cell. -/
theorem Part.step {w : World} {g n k : Nat} {xs : List Fl} (h : Part w g n xs k) (hk : k < n) {f : Fl} (hf : xs.getD k fl0 = f) :
    Part (((w.setCell ⟨g, k * 3, none⟩ (.string f.nm)).setCell ⟨g, k * 3 + 1, none⟩ (.string f.dt)).setCell ⟨g, k * 3 + 2, none⟩ (.int .i64 f.sy)) g n xs (k + 1) := by
  obtain ⟨cs, h1, h2, h3⟩ := h
  have e1 := heap_setCell_same w g (k * 3) cs _ (.string f.nm) h1
  have e2 := heap_setCell_same _ g (k * 3 + 1) _ _ (.string f.dt) e1
  have e3 := heap_setCell_same _ g (k * 3 + 2) _ _ (.int .i64 f.sy) e2
  refine ⟨_, e3, by simp [h2], fun i hi => ?_⟩
  by_cases hik : i = k
  · subst hik
    rw [hf]
    refine ⟨?_, ?_, ?_⟩
    · simp [Array.getElem?_setIfInBounds]; omega
    · simp [Array.getElem?_setIfInBounds]; omega
    · simp [Array.getElem?_setIfInBounds]; omega
  · obtain ⟨a0, a1, a2⟩ := h3 i (by omega)
    refine ⟨?_, ?_, ?_⟩
    · rw [Array.getElem?_setIfInBounds_ne (by omega), Array.getElem?_setIfInBounds_ne (by omega), Array.getElem?_setIfInBounds_ne (by omega)]; exact a0
    · rw [Array.getElem?_setIfInBounds_ne (by omega), Array.getElem?_setIfInBounds_ne (by omega), Array.getElem?_setIfInBounds_ne (by omega)]; exact a1
    · rw [Array.getElem?_setIfInBounds_ne (by omega), Array.getElem?_setIfInBounds_ne (by omega), Array.getElem?_setIfInBounds_ne (by omega)]; exact a2

theorem part_made (w : World) (n : Nat) (xs : List Fl) (z : Array Value) : Part (w.alloc (.cells (madeCells z (n * 3)) 31)) w.heap.size n xs 0 :=
  ⟨madeCells z (n * 3), World.heap_alloc_new _ _, by simp [madeCells], fun i hi => absurd hi (Nat.not_lt_zero _)⟩

theorem Part.lie {w : World} {g : Nat} {xs : List Fl} (h : Part w g xs.length xs xs.length) : Lie w (some ⟨g, 0, none⟩) xs := by
  obtain ⟨cs, h1, h2, h3⟩ := h
  refine .inr ⟨g, 0, rfl, ?_, fun i hi => ?_⟩
  · by_cases hg : g < w.heap.size
    · exact hg
    · rw [Array.getElem?_eq_none (by omega)] at h1; cases h1
  · obtain ⟨a0, a1, a2⟩ := h3 i hi
    exact ⟨by simpa [World.cell?, h1] using a0, by simpa [World.cell?, h1] using a1, by simpa [World.cell?, h1] using a2⟩

theorem Part.other {w : World} {g n k : Nat} {xs : List Fl} (h : Part w g n xs k) {a : Addr} {v : Value} (ha : g ≠ a.block) : Part (w.setCell a v) g n xs k := by
  obtain ⟨cs, h1, h2, h3⟩ := h
  exact ⟨cs, by rw [Below.heap_setCell _ _ _ _ ha]; exact h1, h2, h3⟩

theorem Part.lt {w : World} {g n k : Nat} {xs : List Fl} (h : Part w g n xs k) : g < w.heap.size := by
  obtain ⟨cs, h1, _⟩ := h
  by_cases hg : g < w.heap.size
  · exact hg
  · rw [Array.getElem?_eq_none (by omega)] at h1; cases h1

end Go.Proofs.Ytgennghhneckeaa
