
import Derived.Test.YtnnhdfplbhdcaacCrLists
namespace Go.Proofs.Ytnnhdfplbhdcaac
open Go.RowKit Go.Maps
set_option linter.unusedVariables false
set_option linter.unusedSimpArgs false

/-- Numbers lie one behind the other. -/
def LieI (w : World) (a : Option Addr) (ks : List Int) : Prop :=
  ks = [] ∨ ∃ b off, a = some ⟨b, off, none⟩ ∧ b < w.heap.size ∧ ∀ i, i < ks.length → w.cell? ⟨b, off + i, none⟩ = some (.int .i64 (ks.getD i 0))
theorem LieI.at {w : World} {a : Option Addr} {ks : List Int} (h : LieI w a ks) {i : Nat} (hi : i < ks.length) :
    ∃ b off, a = some ⟨b, off, none⟩ ∧ b < w.heap.size ∧ w.cell? ⟨b, off + i, none⟩ = some (.int .i64 (ks.getD i 0)) := by
  rcases h with rfl | ⟨b, off, rfl, hlt, hc⟩
  · simp at hi
  · exact ⟨b, off, rfl, hlt, hc i hi⟩
theorem LieI.kept {w w' : World} {a : Option Addr} {ks : List Int} (h : LieI w a ks) (hs : w.heap.size ≤ w'.heap.size) (hb : ∀ b off, a = some ⟨b, off, none⟩ → ks ≠ [] → b < w.heap.size → w'.heap[b]? = w.heap[b]?) : LieI w' a ks := by
  by_cases h0 : ks = []
  · exact .inl h0
  rcases h with h | ⟨b, off, rfl, hlt, hc⟩
  · exact absurd h h0
  · exact .inr ⟨b, off, rfl, by omega, fun i hi => (World.cell?_of_block (hb b off rfl h0 hlt)).trans (hc i hi)⟩
theorem LieI.lt {w : World} {a : Option Addr} {ks : List Int} (h : LieI w a ks) : ∀ b off, a = some ⟨b, off, none⟩ → ks ≠ [] → b < w.heap.size := by
  intro b off e h0
  rcases h with h | ⟨b', off', rfl, hlt, hc⟩
  · exact absurd h h0
  · cases e
    exact hlt
theorem LieI.below {w w' : World} {a : Option Addr} {ks : List Int} (h : LieI w a ks) (hb : Below w.heap.size w w') : LieI w' a ks := h.kept hb.size (fun b off _ _ hl => hb.block b hl)

set_option maxRecDepth 100000 in
set_option maxHeartbeats 1000000 in
theorem kept_any (a : Option Addr) (cap i : Nat) (ks : List Int) (most : Int) (w : World) (hl : LieI w a ks) (hn : ks.length ≤ 1048576) (hi : i ≤ 1048576) :
    Calls Try.prog 32 #[.slice a ks.length cap, .int .i64 i, .int .i64 most] w fun e w' => e = .returned (.int .i64 (kb ks i most)) ∧ w' = w := by
  by_cases hlt : i < ks.length
  · obtain ⟨b, off, rfl, hbl, c0⟩ := hl.at hlt
    have HK : Hid (kb ks i most = max 0 (min (ks.getD i 0) most)) := by show _ = _; unfold kb; rw [if_pos hlt]
    generalize ks.getD i 0 = k at *
    have h1 : (i : Int) < (ks.length : Int) := by omega
    go_enter Try.func32, Try.ntmps32
    go_wp2
    go_ret
    exact ⟨ret_int HK.out.symm, rfl⟩
  · have HK : Hid (kb ks i most = 0) := by show _ = _; unfold kb; rw [if_neg hlt]
    have h1 : (ks.length : Int) ≤ (i : Int) := by omega
    go_enter Try.func32, Try.ntmps32
    go_wp2
    go_ret
    exact ⟨ret_int HK.out.symm, rfl⟩
end Go.Proofs.Ytnnhdfplbhdcaac
