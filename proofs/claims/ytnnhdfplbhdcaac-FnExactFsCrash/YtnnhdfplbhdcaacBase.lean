
import Derived.Test.YtnnhdfplbhdcaacRows
import Derived.WalkKit
import Derived.WalkSpells
import Derived.WalkLawsBesides
import Derived.Deep.QuietTactic
import Derived.BigQuiet
import Derived.Deep.RegionHeld3
import Derived.Below
namespace Go.Proofs.Ytnnhdfplbhdcaac
open Go.RowKit
set_option linter.unusedVariables false
set_option linter.unusedSimpArgs false

/-- A file: its name, its data, how much of it is synced. -/
structure Fl where
  nm : ByteArray
  dt : ByteArray
  sy : Int
def fl0 : Fl := ⟨ByteArray.empty, ByteArray.empty, 0⟩

/-- A file as a value. -/
abbrev Fl.agg (f : Fl) : Value := .agg #[.string f.nm, .string f.dt, .int .i64 f.sy]

/-- The files xs lie one behind the other from ⟨b, off⟩ on. -/
def LieAt (w : World) (b off : Nat) (xs : List Fl) : Prop :=
  b < w.heap.size ∧ ∀ i, i < xs.length → w.cell? ⟨b, off + i * 3, none⟩ = some (.string (xs.getD i fl0).nm) ∧
    w.cell? ⟨b, off + i * 3 + 1, none⟩ = some (.string (xs.getD i fl0).dt) ∧ w.cell? ⟨b, off + i * 3 + 2, none⟩ = some (.int .i64 (xs.getD i fl0).sy)

/-- A slice's address behind which the files xs lie (nothing is asked where there is none). -/
def Lie (w : World) (a : Option Addr) (xs : List Fl) : Prop :=
  xs = [] ∨ ∃ b off, a = some ⟨b, off, none⟩ ∧ LieAt w b off xs

theorem Lie.below {w w' : World} {a : Option Addr} {xs : List Fl} (h : Lie w a xs) (hb : Below w.heap.size w w') : Lie w' a xs := by
  rcases h with rfl | ⟨b, off, rfl, hlt, hc⟩
  · exact .inl rfl
  · refine .inr ⟨b, off, rfl, Nat.lt_of_lt_of_le hlt hb.size, fun i hi => ?_⟩
    obtain ⟨h1, h2, h3⟩ := hc i hi
    exact ⟨(hb.cell (p := ⟨b, _, none⟩) hlt).trans h1, (hb.cell (p := ⟨b, _, none⟩) hlt).trans h2, (hb.cell (p := ⟨b, _, none⟩) hlt).trans h3⟩

theorem Lie.at {w : World} {a : Option Addr} {xs : List Fl} (h : Lie w a xs) {i : Nat} (hi : i < xs.length) :
    ∃ b off, a = some ⟨b, off, none⟩ ∧ b < w.heap.size ∧ w.cell? ⟨b, off + i * 3, none⟩ = some (.string (xs.getD i fl0).nm) ∧
      w.cell? ⟨b, off + i * 3 + 1, none⟩ = some (.string (xs.getD i fl0).dt) ∧ w.cell? ⟨b, off + i * 3 + 2, none⟩ = some (.int .i64 (xs.getD i fl0).sy) := by
  rcases h with rfl | ⟨b, off, rfl, hlt, hc⟩
  · simp at hi
  · obtain ⟨h1, h2, h3⟩ := hc i hi
    exact ⟨b, off, rfl, hlt, h1, h2, h3⟩

theorem bcell {W w1 : World} (hb : Below W.heap.size W w1) : (∀ b o, b < W.heap.size → w1.cell? ⟨b, o, none⟩ = W.cell? ⟨b, o, none⟩) ∧ (∀ b o, b < W.heap.size → w1.frozen? ⟨b, o, none⟩ = W.frozen? ⟨b, o, none⟩) :=
  ⟨fun b o h => hb.cell (p := ⟨b, o, none⟩) h, fun b o h => hb.frozen (p := ⟨b, o, none⟩) h⟩

/-- Every text of a file fits into memory. -/
def Fits (xs : List Fl) : Prop := ∀ f ∈ xs, f.nm.size ≤ maxLen ∧ f.dt.size ≤ maxLen

theorem Fits.at {xs : List Fl} (h : Fits xs) {i : Nat} (hi : i < xs.length) : (xs.getD i fl0).nm.size ≤ maxLen ∧ (xs.getD i fl0).dt.size ≤ maxLen := by
  have : xs.getD i fl0 = xs[i] := by simp [List.getD, hi]
  rw [this]
  exact h _ (List.getElem_mem hi)

/-- How many bytes names and data have together. -/
def bulk (xs : List Fl) : Nat := (xs.map fun f => f.nm.size + f.dt.size).sum
/-- How many bytes the data have together. -/
def datas (xs : List Fl) : Nat := (xs.map fun f => f.dt.size).sum

theorem take_snoc (xs : List Fl) (k : Nat) (h : k < xs.length) : xs.take (k + 1) = xs.take k ++ [xs.getD k fl0] := by
  rw [List.take_succ_eq_append_getElem h]
  simp [List.getD, h]

theorem bulk_snoc (xs : List Fl) (k : Nat) (h : k < xs.length) : bulk (xs.take (k + 1)) = bulk (xs.take k) + ((xs.getD k fl0).nm.size + (xs.getD k fl0).dt.size) := by
  rw [take_snoc xs k h]
  simp only [bulk, List.map_append, List.sum_append, List.map_cons, List.map_nil, List.sum_cons, List.sum_nil]
  omega

theorem datas_snoc (xs : List Fl) (k : Nat) (h : k < xs.length) : datas (xs.take (k + 1)) = datas (xs.take k) + (xs.getD k fl0).dt.size := by
  rw [take_snoc xs k h]
  simp [datas]

theorem datas_le_bulk (xs : List Fl) : datas xs ≤ bulk xs := by
  induction xs with
  | nil => simp [datas, bulk]
  | cons f r ih => simp only [datas, bulk, List.map_cons, List.sum_cons] at *; omega

theorem datas_take_le (xs : List Fl) (k : Nat) : datas (xs.take k) ≤ datas xs := by
  have : datas xs = datas (xs.take k) + datas (xs.drop k) := by
    unfold datas
    rw [← List.sum_append, ← List.map_append, List.take_append_drop]
  omega

theorem bulk_take_le (xs : List Fl) (k : Nat) : bulk (xs.take k) ≤ bulk xs := by
  have : bulk xs = bulk (xs.take k) + bulk (xs.drop k) := by
    unfold bulk
    rw [← List.sum_append, ← List.map_append, List.take_append_drop]
  omega

theorem ret_int {k : IntKind} {a b : Int} (h : a = b) : Ending.returned (.int k a) = .returned (.int k b) := by rw [h]
theorem ret_bool {a b : Bool} (h : a = b) : Ending.returned (.bool a) = .returned (.bool b) := by rw [h]
end Go.Proofs.Ytnnhdfplbhdcaac
