import Derived.Test.YtphikgobdfknkaaGreatDoorBld

import Derived.Shelf.Strings.Repeat
namespace Go.Proofs.YtphikgobdfknkaaGreatDoor
open Go.RowKit Go.Maps
set_option linter.unusedVariables false
set_option linter.unusedSimpArgs false

/-- The text of a value. -/
def strOfV : Value → ByteArray
  | .string s => s
  | _ => ⟨#[]⟩

theorem repeat_zero (z : Nat) : Lib.repeatL [0] z = List.replicate z (0 : UInt8) := by
  induction z with
  | zero => rfl
  | succ z ih => simp [Lib.repeatL, List.replicate_succ] at *; try exact ih

theorem ext_take (c : ByteArray) (m : Nat) : (c.extract 0 m).data.toList = c.data.toList.take m := by
  simp [ByteArray.data_extract]
theorem ext_drop (c : ByteArray) (m : Nat) : (c.extract m c.size).data.toList = c.data.toList.drop m := by
  simp only [ByteArray.data_extract, Array.toList_extract, List.extract]
  rw [List.take_of_length_le]
  rw [List.length_drop, len_data]
  exact Nat.le_refl _

theorem at_below {T : TypeId} {B b : Nat} {p : Value} {bs : List Value} {w w' : World} (h : Lib.BuilderAtF T 5 B b p bs w) (hb : Below w.heap.size w w') : Lib.BuilderAtF T 5 B b p bs w' := by
  obtain ⟨hB, v, hbk, ⟨h1, h2⟩, hne⟩ := h
  have lt : ∀ {g : Nat} {o : Obj}, w.heap[g]? = some o → g < w.heap.size := fun {g o} h => by
    by_cases hlt : g < w.heap.size
    · exact hlt
    · rw [Array.getElem?_eq_none (by omega)] at h; cases h
  refine ⟨hB, v, (hb.block b (lt hbk)).trans hbk, ⟨h1, ?_⟩, hne⟩
  rcases h2 with h2 | ⟨g, cap, cur, fz, rfl, hg, hgk, hrest⟩
  · exact .inl h2
  · exact .inr ⟨g, cap, cur, fz, rfl, hg, (hb.block g (lt hgk)).trans hgk, hrest⟩
theorem Bld.below {B b : Nat} {l : List UInt8} {w w' : World} (h : Bld B b l w) (hb : Below w.heap.size w w') : Bld B b l w' :=
  h.elim (fun x => .inl (at_below x hb)) (fun x => .inr (at_below x hb))

set_option maxRecDepth 100000 in
set_option maxHeartbeats 1000000 in
theorem specFrame_any (k : Int) (p : ByteArray) (w : World) (hp : p.size ≤ maxLen) :
    Calls Tryz.prog 72 #[.int .i64 k, .string p] w fun e w' => e = .returned (.string (frT k p)) ∧ Below w.heap.size w w' := by
  by_cases h : kindOk k = true ∧ p.size ≤ 1048576
  · obtain ⟨n, rfl⟩ : ∃ n : Nat, k = n := ⟨k.toNat, by have := kindOk_cases h.1; omega⟩
    rw [frT_in h.1 h.2]
    exact specFrame_in n p w h.1 h.2
  · rw [frT_out h]
    unfold maxLen at hp
    cases hk : kindOk k with
    | false =>
      go_enter Tryz.func72, Tryz.ntmps72
      go_wp2_with fail
      refine (l2KindOk_any _ _).mono ?_
      rintro e w0 ⟨rfl, hw0⟩
      have hw1 := hw0.symm
      subst hw1
      rw [hk]
      go_wp2_with fail
      go_ret
      exact ⟨rfl, Below.refl _ _⟩
    | true =>
      have h2 : (1048576 : Int) < p.size := by rcases Nat.lt_or_ge 1048576 p.size with h' | h'
                                               · omega
                                               · exact absurd ⟨hk, h'⟩ h
      go_enter Tryz.func72, Tryz.ntmps72
      go_wp2_with fail
      refine (l2KindOk_any _ _).mono ?_
      rintro e w0 ⟨rfl, hw0⟩
      have hw1 := hw0.symm
      subst hw1
      rw [hk]
      go_wp2_with fail
      go_ret
      exact ⟨rfl, Below.refl _ _⟩
end Go.Proofs.YtphikgobdfknkaaGreatDoor
