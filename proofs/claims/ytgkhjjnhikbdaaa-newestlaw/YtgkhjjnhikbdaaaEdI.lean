import Derived.Test.YtgkhjjnhikbdaaaEntC

namespace Go.Proofs.Ytgkhjjnhikbdaaa
open Go.RowKit Go.Maps
set_option linter.unusedVariables false
set_option linter.unusedSimpArgs false

/-- The numbers ks lie one behind the other behind a slice's address. -/
def LieI (w : World) (a : Option Addr) (ks : List Int) : Prop :=
  ks = [] ∨ ∃ b off, a = some ⟨b, off, none⟩ ∧ b < w.heap.size ∧ ∀ i, i < ks.length → w.cell? ⟨b, off + i, none⟩ = some (.int .i64 (ks.getD i 0))
theorem LieI.at {w : World} {a : Option Addr} {ks : List Int} (h : LieI w a ks) {i : Nat} (hi : i < ks.length) :
    ∃ b off, a = some ⟨b, off, none⟩ ∧ b < w.heap.size ∧ w.cell? ⟨b, off + i, none⟩ = some (.int .i64 (ks.getD i 0)) := by
  rcases h with rfl | ⟨b, off, rfl, hlt, hc⟩
  · simp at hi
  · exact ⟨b, off, rfl, hlt, hc i hi⟩
theorem LieI.kept {w w' : World} {a : Option Addr} {ks : List Int} (h : LieI w a ks) (hs : w.heap.size ≤ w'.heap.size) (hb : ∀ b off, a = some ⟨b, off, none⟩ → ks ≠ [] → b < w.heap.size → w'.heap[b]? = w.heap[b]?) : LieI w' a ks := by
  by_cases h0 : ks = []
  · exact .inl h0
  rcases h with h | ⟨b, off, rfl, hlt, hc⟩
  · exact absurd h h0
  · exact .inr ⟨b, off, rfl, by omega, fun i hi => (World.cell?_of_block (hb b off rfl h0 hlt)).trans (hc i hi)⟩
theorem LieI.lt {w : World} {a : Option Addr} {ks : List Int} (h : LieI w a ks) : ∀ b off, a = some ⟨b, off, none⟩ → ks ≠ [] → b < w.heap.size := by
  intro b off e h0
  rcases h with h | ⟨b', off', rfl, hlt, hc⟩
  · exact absurd h h0
  · cases e
    exact hlt
theorem LieI.below {w w' : World} {a : Option Addr} {ks : List Int} (h : LieI w a ks) (hb : Below w.heap.size w w') : LieI w' a ks := h.kept hb.size (fun b off _ _ hl => hb.block b hl)

/-- Block g is room for n numbers; the first k of them stand in it. -/
def PartI (w : World) (g n : Nat) (ks : List Int) (k : Nat) : Prop :=
  ∃ cs : Array Value, w.heap[g]? = some (.cells cs 3 (0, 0)) ∧ cs.size = n ∧ ∀ i, i < k → cs[i]? = some (.int .i64 (ks.getD i 0))
theorem PartI.below {w w' : World} {B g n k : Nat} {ks : List Int} (h : PartI w g n ks k) (hb : Below B w w') (hg : g < B) : PartI w' g n ks k := by
  obtain ⟨cs, h1, h2, h3⟩ := h
  exact ⟨cs, (hb.block g hg).trans h1, h2, h3⟩
theorem PartI.lt {w : World} {g n k : Nat} {ks : List Int} (h : PartI w g n ks k) : g < w.heap.size := by
  obtain ⟨cs, h1, _⟩ := h
  by_cases hg : g < w.heap.size
  · exact hg
  · rw [Array.getElem?_eq_none (by omega)] at h1; cases h1
theorem PartI.cell {w : World} {g n k : Nat} {ks : List Int} (h : PartI w g n ks k) (o : Nat) (ho : o < n) : (∃ v, w.cell? ⟨g, o, none⟩ = some v) ∧ w.frozen? ⟨g, o, none⟩ = false := by
  obtain ⟨cs, h1, h2, _⟩ := h
  exact ⟨⟨cs[o]'(by omega), by simp [World.cell?, h1]⟩, by simp [World.frozen?, h1]⟩
theorem PartI.step {w : World} {g n k : Nat} {ks : List Int} (h : PartI w g n ks k) (hk : k < n) {x : Int} (hx : ks.getD k 0 = x) : PartI (w.setCell ⟨g, k, none⟩ (.int .i64 x)) g n ks (k + 1) := by
  obtain ⟨cs, h1, h2, h3⟩ := h
  have e1 := heap_setCell_same w g k cs _ (.int .i64 x) h1
  refine ⟨_, e1, by simp [h2], fun i hi => ?_⟩
  by_cases hik : i = k
  · subst hik
    rw [hx]
    simp [Array.getElem?_setIfInBounds]; omega
  · rw [Array.getElem?_setIfInBounds_ne (by omega)]
    exact h3 i (by omega)
theorem PartI.set {w : World} {g n k : Nat} {ks : List Int} (h : PartI w g n ks k) (o : Nat) (v : Value) : PartI (w.setCell ⟨g, o, none⟩ v) g n ks 0 := by
  obtain ⟨cs, h1, h2, h3⟩ := h
  exact ⟨_, heap_setCell_same w g o cs _ v h1, by simp [h2], fun i hi => absurd hi (Nat.not_lt_zero _)⟩
theorem PartI.lie {w : World} {g : Nat} {ks : List Int} (h : PartI w g ks.length ks ks.length) : LieI w (some ⟨g, 0, none⟩) ks := by
  have hg := h.lt
  obtain ⟨cs, h1, h2, h3⟩ := h
  exact .inr ⟨g, 0, rfl, hg, fun i hi => by simpa [World.cell?, h1] using h3 i hi⟩

theorem int_info : (Try.prog.info? 3).map (fun i => (i.zero, i.size, i.bytes)) = some (some (.int .i64 0), 1, 8) := by kernel_rfl
theorem make_ints (n : Nat) (h : n ≤ 1048576) (w : World) : (Instr.makeSlice 79 (.int .i64 (n : Int)) (.int .i64 (n : Int))).run Try.prog w = .ok (.slice (some ⟨w.heap.size, 0, none⟩) n n) (w.alloc (.cells (madeCells #[.int .i64 0] n) 3)) := by
  have hi := int_info
  cases hj : Try.prog.info? 3 with
  | none => rw [hj] at hi; cases hi
  | some i =>
    rw [hj] at hi
    simp only [Option.map_some, Option.some.injEq, Prod.mk.injEq] at hi
    obtain ⟨hz, hs, hb⟩ := hi
    have := run_make (P := Try.prog) w 79 3 i _ Try.underlying79 hj hz .i64 .i64 (n : Int) (n : Int) (by omega) (Int.le_refl _) (by rw [hb]; omega) (by omega)
    rw [this, hs]
    simp [Value.cells]

end Go.Proofs.Ytgkhjjnhikbdaaa
