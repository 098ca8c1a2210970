import Derived.Test.YtohpfjpgihcmiaaGreatDoorVarP

import Derived.Maps.AppendAt
namespace Go.Proofs.YtohpfjpgihcmiaaGreatDoor
open Go.RowKit Go.Maps
set_option linter.unusedVariables false
set_option linter.unusedSimpArgs false

/-- An entry. -/
structure En where
  ky : ByteArray
  sq : Int
  kd : Int
  vl : ByteArray
def en0 : En := ⟨ByteArray.empty, 0, 0, ByteArray.empty⟩
abbrev En.agg (e : En) : Value := .agg #[.string e.ky, .int .i64 e.sq, .int .i64 e.kd, .string e.vl]

/-- The entries xs lie one behind the other behind a slice's address. -/
def LieE (w : World) (a : Option Addr) (xs : List En) : Prop :=
  xs = [] ∨ ∃ b off, a = some ⟨b, off, none⟩ ∧ b < w.heap.size ∧ ∀ i, i < xs.length → w.cell? ⟨b, off + i * 4, none⟩ = some (.string (xs.getD i en0).ky) ∧
    w.cell? ⟨b, off + i * 4 + 1, none⟩ = some (.int .i64 (xs.getD i en0).sq) ∧ w.cell? ⟨b, off + i * 4 + 2, none⟩ = some (.int .i64 (xs.getD i en0).kd) ∧ w.cell? ⟨b, off + i * 4 + 3, none⟩ = some (.string (xs.getD i en0).vl)
theorem LieE.below {w w' : World} {a : Option Addr} {xs : List En} (h : LieE w a xs) (hb : Below w.heap.size w w') : LieE w' a xs := by
  rcases h with rfl | ⟨b, off, rfl, hlt, hc⟩
  · exact .inl rfl
  · refine .inr ⟨b, off, rfl, Nat.lt_of_lt_of_le hlt hb.size, fun i hi => ?_⟩
    obtain ⟨h1, h2, h3, h4⟩ := hc i hi
    exact ⟨(hb.cell (p := ⟨b, _, none⟩) hlt).trans h1, (hb.cell (p := ⟨b, _, none⟩) hlt).trans h2, (hb.cell (p := ⟨b, _, none⟩) hlt).trans h3, (hb.cell (p := ⟨b, _, none⟩) hlt).trans h4⟩
theorem LieE.at {w : World} {a : Option Addr} {xs : List En} (h : LieE w a xs) {i : Nat} (hi : i < xs.length) :
    ∃ b off, a = some ⟨b, off, none⟩ ∧ b < w.heap.size ∧ w.cell? ⟨b, off + i * 4, none⟩ = some (.string (xs.getD i en0).ky) ∧
      w.cell? ⟨b, off + i * 4 + 1, none⟩ = some (.int .i64 (xs.getD i en0).sq) ∧ w.cell? ⟨b, off + i * 4 + 2, none⟩ = some (.int .i64 (xs.getD i en0).kd) ∧ w.cell? ⟨b, off + i * 4 + 3, none⟩ = some (.string (xs.getD i en0).vl) := by
  rcases h with rfl | ⟨b, off, rfl, hlt, hc⟩
  · simp at hi
  · obtain ⟨h1, h2, h3, h4⟩ := hc i hi
    exact ⟨b, off, rfl, hlt, h1, h2, h3, h4⟩
theorem bcell {W w1 : World} (hb : Below W.heap.size W w1) : (∀ b o, b < W.heap.size → w1.cell? ⟨b, o, none⟩ = W.cell? ⟨b, o, none⟩) ∧ (∀ b o, b < W.heap.size → w1.frozen? ⟨b, o, none⟩ = W.frozen? ⟨b, o, none⟩) :=
  ⟨fun b o h => hb.cell (p := ⟨b, o, none⟩) h, fun b o h => hb.frozen (p := ⟨b, o, none⟩) h⟩

/-- Every text of an entry fits into memory. -/
def FitsE (xs : List En) : Prop := ∀ e ∈ xs, e.ky.size ≤ maxLen ∧ e.vl.size ≤ maxLen
theorem FitsE.at {xs : List En} (h : FitsE xs) {i : Nat} (hi : i < xs.length) : (xs.getD i en0).ky.size ≤ maxLen ∧ (xs.getD i en0).vl.size ≤ maxLen := by
  have : xs.getD i en0 = xs[i] := by simp [List.getD, hi]
  rw [this]
  exact h _ (List.getElem_mem hi)
/-- How many bytes the texts have together. -/
def bulkE (xs : List En) : Nat := (xs.map fun e => e.ky.size + e.vl.size).sum
theorem takeE_snoc (xs : List En) (k : Nat) (h : k < xs.length) : xs.take (k + 1) = xs.take k ++ [xs.getD k en0] := by
  rw [List.take_succ_eq_append_getElem h]
  simp [List.getD, h]
theorem bulkE_snoc (xs : List En) (k : Nat) (h : k < xs.length) : bulkE (xs.take (k + 1)) = bulkE (xs.take k) + ((xs.getD k en0).ky.size + (xs.getD k en0).vl.size) := by
  rw [takeE_snoc xs k h]
  simp only [bulkE, List.map_append, List.sum_append, List.map_cons, List.map_nil, List.sum_cons, List.sum_nil]
  omega
theorem bulkE_take_le (xs : List En) (k : Nat) : bulkE (xs.take k) ≤ bulkE xs := by
  have : bulkE xs = bulkE (xs.take k) + bulkE (xs.drop k) := by
    unfold bulkE
    rw [← List.sum_append, ← List.map_append, List.take_append_drop]
  omega

end Go.Proofs.YtohpfjpgihcmiaaGreatDoor
