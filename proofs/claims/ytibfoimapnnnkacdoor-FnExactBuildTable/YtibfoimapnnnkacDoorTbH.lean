
import Derived.Test.YtibfoimapnnnkacDoorTbP
namespace Go.Proofs.YtibfoimapnnnkacDoor
open Go.RowKit Go.Maps
set_option linter.unusedVariables false
set_option linter.unusedSimpArgs false

theorem subE_fits {xs : List En} (h : FitsE xs) (k : Nat) : FitsE (subE xs k) :=
  fun e he => h e (List.mem_of_mem_drop (List.mem_of_mem_take he))
theorem LieE.sub {w : World} {b off : Nat} {xs : List En} (h : LieE w (some ⟨b, off, none⟩) xs) {k f : Nat} (hf : f = 8 * k) (hlt : f < xs.length) : LieE w (some ⟨b, off + f * 4, none⟩) (subE xs k) := by
  rcases h with rfl | ⟨b', off', e, hl, hc⟩
  · simp at hlt
  · cases e
    refine .inr ⟨b, off + f * 4, rfl, hl, fun i hi => ?_⟩
    have hi' : i < 8 ∧ 8 * k + i < xs.length := by rw [subE_len] at hi; omega
    rw [subE_at xs k i hi'.1 hi'.2]
    have := hc (8 * k + i) hi'.2
    rw [show off + f * 4 + i * 4 = off + (8 * k + i) * 4 by omega]
    exact this
theorem owns_sliceB {w : World} {B n size : Nat} {e : TypeId} {v : Value} {xs : List Value} (h : w.ownsRow B e size v n xs) : ∃ a cap, v = .slice a n cap := by
  rcases h.2 with ⟨rfl, h0⟩ | ⟨g, cap, cur, rfl, _⟩
  · exact ⟨none, 0, by rw [h0]⟩
  · exact ⟨_, _, rfl⟩
end Go.Proofs.YtibfoimapnnnkacDoor
