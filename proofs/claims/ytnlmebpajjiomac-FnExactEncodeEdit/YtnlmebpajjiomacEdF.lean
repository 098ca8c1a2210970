
import Derived.Test.YtnlmebpajjiomacEdE
import Derived.Test.YtnlmebpajjiomacEdD
import Derived.Lib.SliceRun
import Derived.Deep.RegionLawGrows
import Derived.Deep.RegionHeldLaw
namespace Go.Proofs.Ytnlmebpajjiomac
open Go.RowKit Go.Maps
set_option linter.unusedVariables false
set_option linter.unusedSimpArgs false

theorem owns_below {w w' : World} {B n size : Nat} {e : TypeId} {v : Value} {xs : List Value} (h : w.ownsRow B e size v n xs) (hb : Below w.heap.size w w') : w'.ownsRow B e size v n xs := by
  obtain ⟨h1, h2⟩ := h
  refine ⟨h1, ?_⟩
  rcases h2 with h2 | ⟨g, cap, cur, rfl, hg, hbk, hrest⟩
  · exact .inl h2
  · exact .inr ⟨g, cap, cur, rfl, hg, (hb.block g (heap_lt hbk)).trans hbk, hrest⟩
/-- The cells of numbers. -/
def ic (ks : List Int) : List Value := ks.map fun k => .int .i64 k
theorem ownsI_lit (w : World) (B : Nat) (hB : B ≤ w.heap.size) : (w.alloc (.cells #[] 3)).ownsRow B 3 1 (.slice (some ⟨w.heap.size, 0, none⟩) 0 0) 0 (ic []) :=
  ⟨rfl, .inr ⟨w.heap.size, 0, #[], rfl, hB, World.heap_alloc_new _ _, Nat.le_refl _, Nat.zero_le _, rfl, rfl⟩⟩
theorem ic_at {w : World} {g off : Nat} {ks : List Int} (h : LieI w (some ⟨g, off, none⟩) ks) : ∀ j u, (ic ks)[j]? = some u → w.cell? ((⟨g, off, none⟩ : Addr).add j) = some u := by
  intro j u hu
  rw [ic, List.getElem?_map] at hu
  cases hj : ks[j]? with
  | none => rw [hj] at hu; cases hu
  | some x =>
    rw [hj] at hu
    cases hu
    have hlt : j < ks.length := by
      by_cases hlt : j < ks.length
      · exact hlt
      · rw [List.getElem?_eq_none (by omega)] at hj; cases hj
    obtain ⟨b, o, e, -, hc⟩ := h.at hlt
    cases e
    rw [show ks.getD j 0 = x by simp [List.getD, hj]] at hc
    rw [Go.WideShapes.add_plain]
    exact hc
theorem ownsI_lie {w : World} {B n : Nat} {v : Value} {ks : List Int} (h : w.ownsRow B 3 1 v n (ic ks)) (hn : n = ks.length) : ∃ a cap, v = .slice a ks.length cap ∧ LieI w a ks := by
  obtain ⟨h1, h2⟩ := h
  rcases h2 with ⟨rfl, h0⟩ | ⟨g, cap, cur, rfl, hg, hbk, hrest⟩
  · have hk : ks = [] := List.length_eq_zero_iff.1 (by omega)
    subst hk
    exact ⟨none, 0, rfl, .inl rfl⟩
  · obtain ⟨hl, hm, hsz, htk⟩ := hrest
    subst hn
    refine ⟨some ⟨g, 0, none⟩, cap, rfl, .inr ⟨g, 0, rfl, heap_lt hbk, fun i hi => ?_⟩⟩
    have hcell : cur[i]? = (ic ks)[i]? := by
      have e1 : (cur.toList.take (ks.length * 1))[i]? = (ic ks)[i]? := by rw [htk]
      rw [List.getElem?_take_of_lt (by omega)] at e1
      simpa using e1
    have hv : (ic ks)[i]? = some (.int .i64 (ks.getD i 0)) := by simp [ic, List.getD, hi]
    rw [hv] at hcell
    simpa [World.cell?, hbk] using hcell

set_option maxRecDepth 100000 in
set_option maxHeartbeats 1000000 in
theorem cloneI_any (g off cap : Nat) (ks : List Int) (w : World) (hx : LieI w (some ⟨g, off, none⟩) ks) (hlen : ks.length ≤ 1048576) :
    Calls Try.prog 49 #[.slice (some ⟨g, off, none⟩) ks.length cap] w fun e w' => ∃ v, e = .returned v ∧ w'.ownsRow w.heap.size 3 1 v ks.length (ic ks) ∧ Below w.heap.size w w' := by
  obtain ⟨i0, hi, hz0, hz1, hz2⟩ := info_parts int_info
  have ho := ownsI_lit w w.heap.size (Nat.le_refl _)
  have hb0 : Below w.heap.size w (w.alloc (.cells #[] 3)) := (Below.refl _ _).alloc (Nat.le_refl _) _
  have HC := hd (ic_at (hx.below hb0))
  have HS : Hid (w.heap.size ≤ (w.alloc (.cells #[] 3)).heap.size) := hb0.size
  have hnil : ∀ w, (binOp .eql 34 (.slice (some ⟨g, off, none⟩) ks.length cap) (.slice none 0 0)).run Try.prog w = .ok (.bool false) w := fun w => Lib.run_eql_slice_nil w 34 3 _ _ _ _ _ Try.underlying34
  go_enter Try.func49, Try.ntmps49
  go_wp2_with (at_builtin; refine wpList_append_own _ rfl _ _ 34 rfl w.heap.size 3 i0 _ 1 8 Try.underlying34 hi hz0 hz1 hz2 rfl (by decide) _ _ _ rfl ho ⟨g, off, none⟩ ks.length cap (ic ks) rfl (by simp [ic]) HC.out (fun x hx => by simp [ic] at hx; obtain ⟨k, _, rfl⟩ := hx; rfl) (by unfold maxLen; omega) (by omega) HS.out ?_; intro v' w8 hown8 hgrow _)
  go_ret
  rw [Nat.zero_add] at hown8
  exact ⟨_, rfl, hown8, hb0.grown hgrow hb0.size (owns_base ho)⟩
end Go.Proofs.Ytnlmebpajjiomac
