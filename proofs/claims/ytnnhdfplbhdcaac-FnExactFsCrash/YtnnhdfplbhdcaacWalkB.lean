
import Derived.Test.YtnnhdfplbhdcaacWalkA
namespace Go.Proofs.Ytnnhdfplbhdcaac
open Go.RowKit
set_option linter.unusedVariables false
set_option linter.unusedSimpArgs false

/-- Block g of the world is n files' room, none of it frozen; the first k of the files xs stand in it. -/
def Part (w : World) (g n : Nat) (xs : List Fl) (k : Nat) : Prop :=
  ∃ cs : Array Value, w.heap[g]? = some (.cells cs 41 (0, 0)) ∧ cs.size = n * 3 ∧
    ∀ i, i < k → cs[i * 3]? = some (.string (xs.getD i fl0).nm) ∧ cs[i * 3 + 1]? = some (.string (xs.getD i fl0).dt) ∧ cs[i * 3 + 2]? = some (.int .i64 (xs.getD i fl0).sy)

theorem Part.below {w w' : World} {B g n k : Nat} {xs : List Fl} (h : Part w g n xs k) (hb : Below B w w') (hg : g < B) : Part w' g n xs k := by
  obtain ⟨cs, h1, h2, h3⟩ := h
  exact ⟨cs, (hb.block g hg).trans h1, h2, h3⟩

theorem Part.cell {w : World} {g n k : Nat} {xs : List Fl} (h : Part w g n xs k) (o : Nat) (ho : o < n * 3) : ∃ v, w.cell? ⟨g, o, none⟩ = some v := by
  obtain ⟨cs, h1, h2, _⟩ := h
  exact ⟨cs[o]'(by omega), by simp [World.cell?, h1]⟩

theorem Part.frozen {w : World} {g n k : Nat} {xs : List Fl} (h : Part w g n xs k) (o : Nat) : w.frozen? ⟨g, o, none⟩ = false := by
  obtain ⟨cs, h1, _⟩ := h
  simp [World.frozen?, h1]

theorem iFile_info : (Try.prog.info? 41).map (fun i => (i.zero, i.size, i.bytes)) = some (some (.agg #[.string ByteArray.empty, .string ByteArray.empty, .int .i64 0]), 3, 40) := by kernel_rfl

theorem make_files (n : Nat) (h : n ≤ 1048576) (w : World) : (Instr.makeSlice 27 (.int .i64 (n : Int)) (.int .i64 (n : Int))).run Try.prog w = .ok (.slice (some ⟨w.heap.size, 0, none⟩) n n) (w.alloc (.cells (madeCells #[.string ByteArray.empty, .string ByteArray.empty, .int .i64 0] (n * 3)) 41)) := by
  have hi := iFile_info
  cases hj : Try.prog.info? 41 with
  | none => rw [hj] at hi; cases hi
  | some i =>
    rw [hj] at hi
    simp only [Option.map_some, Option.some.injEq, Prod.mk.injEq] at hi
    obtain ⟨hz, hs, hb⟩ := hi
    have := run_make (P := Try.prog) w 27 41 i _ Try.underlying27 hj hz .i64 .i64 (n : Int) (n : Int) (by omega) (Int.le_refl _) (by rw [hb]; omega) (by omega)
    rw [this, hs]
    simp [Value.cells]

theorem World.heap_alloc_new (w : World) (o : Obj) : (w.alloc o).heap[w.heap.size]? = some o := by
  show (w.heap.push o)[w.heap.size]? = _
  simp

/-- One file more, stored cell by cell. -/
theorem Part.step {w : World} {g n k : Nat} {xs : List Fl} (h : Part w g n xs k) (hk : k < n) {f : Fl} (hf : xs.getD k fl0 = f) :
    Part (((w.setCell ⟨g, k * 3, none⟩ (.string f.nm)).setCell ⟨g, k * 3 + 1, none⟩ (.string f.dt)).setCell ⟨g, k * 3 + 2, none⟩ (.int .i64 f.sy)) g n xs (k + 1) := by
  obtain ⟨cs, h1, h2, h3⟩ := h
  have e1 := heap_setCell_same w g (k * 3) cs _ (.string f.nm) h1
  have e2 := heap_setCell_same _ g (k * 3 + 1) _ _ (.string f.dt) e1
  have e3 := heap_setCell_same _ g (k * 3 + 2) _ _ (.int .i64 f.sy) e2
  refine ⟨_, e3, by simp [h2], fun i hi => ?_⟩
  by_cases hik : i = k
  · subst hik
    rw [hf]
    refine ⟨?_, ?_, ?_⟩
    · simp [Array.getElem?_setIfInBounds]; omega
    · simp [Array.getElem?_setIfInBounds]; omega
    · simp [Array.getElem?_setIfInBounds]; omega
  · obtain ⟨a0, a1, a2⟩ := h3 i (by omega)
    refine ⟨?_, ?_, ?_⟩
    · rw [Array.getElem?_setIfInBounds_ne (by omega), Array.getElem?_setIfInBounds_ne (by omega), Array.getElem?_setIfInBounds_ne (by omega)]; exact a0
    · rw [Array.getElem?_setIfInBounds_ne (by omega), Array.getElem?_setIfInBounds_ne (by omega), Array.getElem?_setIfInBounds_ne (by omega)]; exact a1
    · rw [Array.getElem?_setIfInBounds_ne (by omega), Array.getElem?_setIfInBounds_ne (by omega), Array.getElem?_setIfInBounds_ne (by omega)]; exact a2

theorem part_made (w : World) (n : Nat) (xs : List Fl) (z : Array Value) : Part (w.alloc (.cells (madeCells z (n * 3)) 41)) w.heap.size n xs 0 :=
  ⟨madeCells z (n * 3), World.heap_alloc_new _ _, by simp [madeCells], fun i hi => absurd hi (Nat.not_lt_zero _)⟩

set_option maxHeartbeats 400000 in
theorem toFileS_any (a : Option Addr) (cap : Nat) (xs : List Fl) (w : World) (hx : Lie w a xs) (hlen : xs.length ≤ 1048576) :
    Calls Try.prog 16 #[.slice a xs.length cap] w fun e w' =>
      ∃ g, e = .returned (.slice (some ⟨g, 0, none⟩) xs.length xs.length) ∧ w.heap.size ≤ g ∧ Part w' g xs.length xs xs.length ∧ Below w.heap.size w w' := by
  have hmk := make_files xs.length hlen
  generalize hz : (#[.string ByteArray.empty, .string ByteArray.empty, .int .i64 0] : Array Value) = z at hmk
  go_enter Try.func16, Try.ntmps16
  go_wp2
  go_loopw [4] (fun i wr => ∃ k : Nat, k ≤ xs.length ∧ i = .int .i64 k ∧ Part wr w.heap.size xs.length xs k ∧ w.heap.size < wr.heap.size ∧ Below w.heap.size w wr) (fun i _ => xs.length - (intOf i).toNat)
  case atStart => exact ⟨0, Nat.zero_le _, rfl, part_made _ _ _ _, by simp, (Below.refl _ _).alloc (Nat.le_refl _) _⟩
  case round =>
    obtain ⟨k, hk, rfl, hp, hg, hb⟩ := hrel
    by_cases hlt : k < xs.length
    · obtain ⟨b, off, rfl, hbl, c0, c1, c2⟩ := (hx.below hb).at hlt
      clear hmk
      generalize hf : xs.getD k fl0 = f at *
      have HF : Hid (xs.getD k fl0 = f) := hf
      clear hf
      go_wp2_with fail
      refine (toFile_any f _).mono ?_
      rintro e w1 ⟨rfl, hb1⟩
      have hp1 := hp.below hb1 hg
      have hsz := hb1.size
      obtain ⟨v0, e0⟩ := hp1.cell (k * 3) (by omega)
      obtain ⟨v1, e1⟩ := hp1.cell (k * 3 + 1) (by omega)
      obtain ⟨v2, e2⟩ := hp1.cell (k * 3 + 2) (by omega)
      have z0 := hp1.frozen (k * 3)
      have z1 := hp1.frozen (k * 3 + 1)
      have z2 := hp1.frozen (k * 3 + 2)
      have hst := hp1.step hlt HF.out
      go_wp2
      exact ⟨⟨k + 1, by omega, by go_num, hst, by simp; omega, (((hb.trans (hb1.mono hb.size)).setCell (Nat.le_refl _) _).setCell (Nat.le_refl _) _).setCell (Nat.le_refl _) _⟩, by simp [intOf]; omega⟩
    · obtain rfl : k = xs.length := by omega
      go_wp2
      go_ret
      exact ⟨_, rfl, Nat.le_refl _, hp, hb⟩

theorem Part.lie {w : World} {g : Nat} {xs : List Fl} (h : Part w g xs.length xs xs.length) : Lie w (some ⟨g, 0, none⟩) xs := by
  obtain ⟨cs, h1, h2, h3⟩ := h
  refine .inr ⟨g, 0, rfl, ?_, fun i hi => ?_⟩
  · by_cases hg : g < w.heap.size
    · exact hg
    · rw [Array.getElem?_eq_none (by omega)] at h1; cases h1
  · obtain ⟨a0, a1, a2⟩ := h3 i hi
    exact ⟨by simpa [World.cell?, h1] using a0, by simpa [World.cell?, h1] using a1, by simpa [World.cell?, h1] using a2⟩

theorem Part.other {w : World} {g n k : Nat} {xs : List Fl} (h : Part w g n xs k) {a : Addr} {v : Value} (ha : g ≠ a.block) : Part (w.setCell a v) g n xs k := by
  obtain ⟨cs, h1, h2, h3⟩ := h
  exact ⟨cs, by rw [Below.heap_setCell _ _ _ _ ha]; exact h1, h2, h3⟩

theorem Part.lt {w : World} {g n k : Nat} {xs : List Fl} (h : Part w g n xs k) : g < w.heap.size := by
  obtain ⟨cs, h1, _⟩ := h
  by_cases hg : g < w.heap.size
  · exact hg
  · rw [Array.getElem?_eq_none (by omega)] at h1; cases h1

set_option maxHeartbeats 400000 in
theorem toFS_any (a : Option Addr) (cap : Nat) (xs : List Fl) (q fu : Int) (w : World) (hx : Lie w a xs) (hlen : xs.length ≤ 1048576) :
    Calls Try.prog 6 #[.agg #[.slice a xs.length cap, .int .i64 q, .int .i64 fu]] w fun e w' =>
      ∃ g, e = .returned (.agg #[.slice (some ⟨g, 0, none⟩) xs.length xs.length, .int .i64 q, .int .i64 fu]) ∧ w.heap.size ≤ g ∧ Part w' g xs.length xs xs.length ∧ Below w.heap.size w w' := by
  go_enter Try.func6, Try.ntmps6
  go_wp2_with fail
  have hb0 : Below w.heap.size w (((w.alloc (.cells #[.slice a xs.length cap, .int .i64 q, .int .i64 fu] 24)).alloc (.cells #[.slice none 0 0, .int .i64 0, .int .i64 0] 29)).alloc (.cells #[.slice none 0 0, .int .i64 0, .int .i64 0] 29)) :=
    (((Below.refl _ _).alloc (Nat.le_refl _) _).alloc (by simp) _).alloc (by simp; omega) _
  refine (toFileS_any a cap xs _ (hx.below hb0) hlen).mono ?_
  rintro e w1 ⟨g, rfl, hg, hp, hb1⟩
  have hg' : w.heap.size + 3 ≤ g := by simpa using hg
  obtain ⟨hc, hz⟩ := bcell hb1
  have hsz := hb1.size
  simp at hsz
  have hbb : Below w.heap.size w w1 := hb0.trans (hb1.mono hb0.size)
  clear hx hb1 hb0
  go_wp2
  refine bodyPost_ret (v := .agg #[.slice (some ⟨g, 0, none⟩) xs.length xs.length, .int .i64 q, .int .i64 fu]) (by simp [results, Try.results6, go_sem, hc]) rfl ⟨g, rfl, by omega, ?_, ?_⟩
  · exact (((((hp.other (by dsimp only; omega)).other (by dsimp only; omega)).other (by dsimp only; omega)).other (by dsimp only; omega)).other (by dsimp only; omega)).other (by dsimp only; omega)
  · exact (((((hbb.setCell (by dsimp only; omega) _).setCell (by dsimp only; omega) _).setCell (by dsimp only; omega) _).setCell (by dsimp only; omega) _).setCell (by dsimp only; omega) _).setCell (by dsimp only; omega) _
end Go.Proofs.Ytnnhdfplbhdcaac
