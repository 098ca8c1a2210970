
import Derived.Test.YtigpplcecbgmaaeApN
import Derived.Shelf.SlSortCmp.KitK
namespace Go.Proofs.Ytigpplcecbgmaae
open Go.RowKit Go.Maps Go.Shelf
set_option linter.unusedVariables false
set_option linter.unusedSimpArgs false

/-- A reference's four cells. -/
def encT (x : Tr) : List Value := [.int .i64 x.nu, .int .i64 x.lv, .string x.lo, .string x.hi]
theorem encT_at [Inhabited Tr] (d : Array Tr) (j : Nat) (hj : j < d.size * 4) : (cellsT d.toList)[j]? = some ((encT d[j / 4]!)[j % 4]!) := by
  obtain ⟨i, r, hr, rfl⟩ : ∃ i r, r < 4 ∧ j = i * 4 + r := ⟨j / 4, j % 4, by omega, by omega⟩
  have hi : i < d.size := by omega
  obtain ⟨a0, a1, a2, a3⟩ := cellsT_at d.toList i (by simpa using hi)
  have e1 : (i * 4 + r) / 4 = i := by omega
  have e2 : (i * 4 + r) % 4 = r := by omega
  have e3 : d[i]! = d.toList.getD i tr0 := by simp [List.getD, hi]
  rw [e1, e2, e3]
  rcases r with _ | _ | _ | _ | r
  · exact a0
  · exact a1
  · exact a2
  · exact a3
  · omega
theorem flat_at [Inhabited Tr] (d : Array Tr) (j : Nat) (hj : j < d.size * 4) : (cellsT d.toList)[j]? = some ((Go.Sort.flatK encT 4 d)[j]!) := by
  rw [Go.Sort.get_flatK _ _ _ _ hj]
  exact encT_at d j hj
/-- A row that is owned holds its cells, as the sort has it. -/
theorem holdsT [Inhabited Tr] {w : World} {g : Nat} {cur : Array Value} {t : TypeId} {d : Array Tr} (hb : w.heap[g]? = some (.cells cur t (0, 0))) (htk : cur.toList.take (d.size * 4) = cellsT d.toList) : Go.Sort.HoldsK encT 4 w g 0 d := by
  intro j hj
  rw [Go.Sort.size_flatK] at hj
  have h1 : cur[j]? = some ((Go.Sort.flatK encT 4 d)[j]!) := by
    rw [← flat_at d j hj, ← htk, List.getElem?_take_of_lt hj]
    simp
  constructor
  · simp [World.cell?, hb, h1]
  · simp [World.frozen?, hb]
theorem putT_owns [Inhabited Tr] {w : World} {B g cap n m : Nat} {cur : Array Value} {dk : Array Tr} {os : Array Obj} (hb : w.heap[g]? = some (.cells cur 54 (0, 0))) (hB : B ≤ g) (hn : dk.size = n) (h1 : n ≤ cap) (h2 : cap ≤ maxLen) (h3 : cur.size = cap * 4) :
    (sortWorldK encT 4 w g 0 m dk os).ownsRow B 54 4 (.slice (some ⟨g, 0, none⟩) n cap) n (cellsT dk.toList) ∧ Below B w (sortWorldK encT 4 w g 0 m dk os) := by
  have hlt := heap_lt hb
  have hsz : (sortWorldK encT 4 w g 0 m dk os).heap.size = w.heap.size + os.size := by
    simp [sortWorldK, Go.Sort.grow, Go.Sort.putRowK, Go.Sort.putRow, Go.Sort.mapBlock, Go.Sort.ahead]
  have hat : ∀ k, k < w.heap.size → (sortWorldK encT 4 w g 0 m dk os).heap[k]? = if g = k then (w.heap[k]?).map (Go.Sort.onCells (Go.Sort.putCells id 0 (Go.Sort.flatK encT 4 dk))) else w.heap[k]? := fun k hk => by
    show ((w.heap.modify g (Go.Sort.onCells (Go.Sort.putCells id 0 (Go.Sort.flatK encT 4 dk)))) ++ os)[k]? = _
    rw [Array.getElem?_append_left (by simpa using hk), Array.getElem?_modify]
  refine ⟨⟨?_, .inr ⟨g, cap, Go.Sort.putCells id 0 (Go.Sort.flatK encT 4 dk) cur, rfl, hB, ?_, h1, h2, ?_, ?_⟩⟩, ⟨rfl, rfl, rfl, by omega, fun k hk => ?_⟩⟩
  · rw [cellsT_len]
    simp [hn]
  · rw [hat g hlt, if_pos rfl, hb]
    rfl
  · simp [Go.Sort.putCells, h3]
  · refine List.ext_getElem? fun j => ?_
    by_cases hj : j < n * 4
    · rw [List.getElem?_take_of_lt hj]
      have hjc : j < cur.size := by rw [h3]; omega
      have hf := flat_at dk j (by rw [hn]; exact hj)
      rw [hf]
      simp [Go.Sort.putCells, hjc, hn, hj]
    · rw [List.getElem?_eq_none (by simp; omega), List.getElem?_eq_none (by rw [cellsT_len]; simp [hn]; omega)]
  · by_cases hk2 : k < w.heap.size
    · rw [hat k hk2, if_neg (by omega)]
    · omega

theorem grown_ofT {w w' : World} (h : Below w.heap.size w w') (hd : w.drawn ≤ w'.drawn) : ∃ q os, w' = Go.Sort.grow (w.drewN q) os := by
  refine ⟨w'.drawn - w.drawn, w'.heap.extract w.heap.size w'.heap.size, ?_⟩
  obtain ⟨h1, h2, h3, h4, h5⟩ := h
  have hh : w'.heap = w.heap ++ w'.heap.extract w.heap.size w'.heap.size := by
    refine Array.ext (by simp; omega) fun i hi1 hi2 => ?_
    by_cases hi : i < w.heap.size
    · have := h5 i hi
      rw [Array.getElem?_eq_getElem hi1, Array.getElem?_eq_getElem hi] at this
      rw [Array.getElem_append_left hi]
      exact Option.some.inj this
    · rw [Array.getElem_append_right (by omega)]
      simp [Array.getElem_extract, show w.heap.size + (i - w.heap.size) = i by omega]
  have hdr : w.drawn + (w'.drawn - w.drawn) = w'.drawn := by omega
  obtain ⟨hp, tp, dr, os, out⟩ := w
  obtain ⟨hp', tp', dr', os', out'⟩ := w'
  simp only [Go.Sort.grow, World.drewN] at *
  subst h1 h2 h3
  rw [hdr, ← hh]
theorem cmpT_lays [Inhabited Tr] (blk off size : Nat) (w : World) : CmpLays Try.prog 67 #[] encT 4 ordT blk off size w := fun m os dk _ x y =>
  (refOrder_any x y _).mono fun e w' ⟨he, hb, hd⟩ => ⟨he, grown_ofT hb hd⟩
theorem ltT (x y : Tr) : ltOf ordT x y = rBef x y := ordT_lt x y
theorem rBef_iff (x y : Tr) : rBef x y = true ↔ x.lv < y.lv ∨ (x.lv = y.lv ∧ x.nu < y.nu) := by
  unfold rBef
  by_cases h : x.lv = y.lv <;> simp [h] <;> omega
theorem swoT : Go.Sort.SWO (ltOf ordT) := ⟨fun x => by
    rw [ltT]
    cases h : rBef x x with
    | false => rfl
    | true => rw [rBef_iff] at h; omega, fun x y z h1 h2 => by
    rw [ltT, rBef_iff] at *
    omega, fun x y z h1 h2 => by
    rw [ltT] at *
    cases h : rBef x z with
    | false => rfl
    | true =>
      have h1' : ¬ rBef x y = true := by rw [h1]; simp
      have h2' : ¬ rBef y z = true := by rw [h2]; simp
      rw [rBef_iff] at h h1' h2'
      omega⟩
end Go.Proofs.Ytigpplcecbgmaae
