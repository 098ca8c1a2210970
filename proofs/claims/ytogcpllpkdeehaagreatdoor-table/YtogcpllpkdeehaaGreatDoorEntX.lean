import Derived.Test.YtogcpllpkdeehaaGreatDoorFrG
import Derived.Maps.AppendAt
namespace Go.Proofs.YtogcpllpkdeehaaGreatDoor
open Go.RowKit Go.Maps
set_option linter.unusedVariables false
set_option linter.unusedSimpArgs false

/-- An entry. -/
structure En where
  ky : ByteArray
  sq : Int
  kd : Int
  vl : ByteArray
def en0 : En := ⟨ByteArray.empty, 0, 0, ByteArray.empty⟩
abbrev En.agg (e : En) : Value := .agg #[.string e.ky, .int .i64 e.sq, .int .i64 e.kd, .string e.vl]

/-- The entries xs lie one behind the other behind a slice's address. -/
def LieE (w : World) (a : Option Addr) (xs : List En) : Prop :=
  xs = [] ∨ ∃ b off, a = some ⟨b, off, none⟩ ∧ b < w.heap.size ∧ ∀ i, i < xs.length → w.cell? ⟨b, off + i * 4, none⟩ = some (.string (xs.getD i en0).ky) ∧
    w.cell? ⟨b, off + i * 4 + 1, none⟩ = some (.int .i64 (xs.getD i en0).sq) ∧ w.cell? ⟨b, off + i * 4 + 2, none⟩ = some (.int .i64 (xs.getD i en0).kd) ∧ w.cell? ⟨b, off + i * 4 + 3, none⟩ = some (.string (xs.getD i en0).vl)
theorem LieE.below {w w' : World} {a : Option Addr} {xs : List En} (h : LieE w a xs) (hb : Below w.heap.size w w') : LieE w' a xs := by
  rcases h with rfl | ⟨b, off, rfl, hlt, hc⟩
  · exact .inl rfl
  · refine .inr ⟨b, off, rfl, Nat.lt_of_lt_of_le hlt hb.size, fun i hi => ?_⟩
    obtain ⟨h1, h2, h3, h4⟩ := hc i hi
    exact ⟨(hb.cell (p := ⟨b, _, none⟩) hlt).trans h1, (hb.cell (p := ⟨b, _, none⟩) hlt).trans h2, (hb.cell (p := ⟨b, _, none⟩) hlt).trans h3, (hb.cell (p := ⟨b, _, none⟩) hlt).trans h4⟩
theorem LieE.at {w : World} {a : Option Addr} {xs : List En} (h : LieE w a xs) {i : Nat} (hi : i < xs.length) :
    ∃ b off, a = some ⟨b, off, none⟩ ∧ b < w.heap.size ∧ w.cell? ⟨b, off + i * 4, none⟩ = some (.string (xs.getD i en0).ky) ∧
      w.cell? ⟨b, off + i * 4 + 1, none⟩ = some (.int .i64 (xs.getD i en0).sq) ∧ w.cell? ⟨b, off + i * 4 + 2, none⟩ = some (.int .i64 (xs.getD i en0).kd) ∧ w.cell? ⟨b, off + i * 4 + 3, none⟩ = some (.string (xs.getD i en0).vl) := by
  rcases h with rfl | ⟨b, off, rfl, hlt, hc⟩
  · simp at hi
  · obtain ⟨h1, h2, h3, h4⟩ := hc i hi
    exact ⟨b, off, rfl, hlt, h1, h2, h3, h4⟩
theorem bcell {W w1 : World} (hb : Below W.heap.size W w1) : (∀ b o, b < W.heap.size → w1.cell? ⟨b, o, none⟩ = W.cell? ⟨b, o, none⟩) ∧ (∀ b o, b < W.heap.size → w1.frozen? ⟨b, o, none⟩ = W.frozen? ⟨b, o, none⟩) :=
  ⟨fun b o h => hb.cell (p := ⟨b, o, none⟩) h, fun b o h => hb.frozen (p := ⟨b, o, none⟩) h⟩

/-- Every text of an entry fits into memory. -/
def FitsE (xs : List En) : Prop := ∀ e ∈ xs, e.ky.size ≤ maxLen ∧ e.vl.size ≤ maxLen
theorem FitsE.at {xs : List En} (h : FitsE xs) {i : Nat} (hi : i < xs.length) : (xs.getD i en0).ky.size ≤ maxLen ∧ (xs.getD i en0).vl.size ≤ maxLen := by
  have : xs.getD i en0 = xs[i] := by simp [List.getD, hi]
  rw [this]
  exact h _ (List.getElem_mem hi)
/-- How many bytes the texts have together. -/
def bulkE (xs : List En) : Nat := (xs.map fun e => e.ky.size + e.vl.size).sum
theorem takeE_snoc (xs : List En) (k : Nat) (h : k < xs.length) : xs.take (k + 1) = xs.take k ++ [xs.getD k en0] := by
  rw [List.take_succ_eq_append_getElem h]
  simp [List.getD, h]
theorem bulkE_snoc (xs : List En) (k : Nat) (h : k < xs.length) : bulkE (xs.take (k + 1)) = bulkE (xs.take k) + ((xs.getD k en0).ky.size + (xs.getD k en0).vl.size) := by
  rw [takeE_snoc xs k h]
  simp only [bulkE, List.map_append, List.sum_append, List.map_cons, List.map_nil, List.sum_cons, List.sum_nil]
  omega
theorem bulkE_take_le (xs : List En) (k : Nat) : bulkE (xs.take k) ≤ bulkE xs := by
  have : bulkE xs = bulkE (xs.take k) + bulkE (xs.drop k) := by
    unfold bulkE
    rw [← List.sum_append, ← List.map_append, List.take_append_drop]
  omega

end Go.Proofs.YtogcpllpkdeehaaGreatDoor
namespace Go.Proofs.YtogcpllpkdeehaaGreatDoor
open Go.RowKit Go.Maps
set_option linter.unusedVariables false
set_option linter.unusedSimpArgs false

/-- Block g of the world is n entries' room, none of it frozen; the first k of the entries xs stand in it. -/
def PartE (w : World) (g n : Nat) (xs : List En) (k : Nat) : Prop :=
  ∃ cs : Array Value, w.heap[g]? = some (.cells cs 39 (0, 0)) ∧ cs.size = n * 4 ∧
    ∀ i, i < k → cs[i * 4]? = some (.string (xs.getD i en0).ky) ∧ cs[i * 4 + 1]? = some (.int .i64 (xs.getD i en0).sq) ∧ cs[i * 4 + 2]? = some (.int .i64 (xs.getD i en0).kd) ∧ cs[i * 4 + 3]? = some (.string (xs.getD i en0).vl)
theorem PartE.below {w w' : World} {B g n k : Nat} {xs : List En} (h : PartE w g n xs k) (hb : Below B w w') (hg : g < B) : PartE w' g n xs k := by
  obtain ⟨cs, h1, h2, h3⟩ := h
  exact ⟨cs, (hb.block g hg).trans h1, h2, h3⟩
theorem PartE.cell {w : World} {g n k : Nat} {xs : List En} (h : PartE w g n xs k) (o : Nat) (ho : o < n * 4) : ∃ v, w.cell? ⟨g, o, none⟩ = some v := by
  obtain ⟨cs, h1, h2, _⟩ := h
  exact ⟨cs[o]'(by omega), by simp [World.cell?, h1]⟩
theorem PartE.frozen {w : World} {g n k : Nat} {xs : List En} (h : PartE w g n xs k) (o : Nat) : w.frozen? ⟨g, o, none⟩ = false := by
  obtain ⟨cs, h1, _⟩ := h
  simp [World.frozen?, h1]
theorem iEntry_info : (Tryz.prog.info? 39).map (fun i => (i.zero, i.size, i.bytes)) = some (some (.agg #[.string ByteArray.empty, .int .i64 0, .int .i64 0, .string ByteArray.empty]), 4, 48) := by kernel_rfl
theorem make_entries (n : Nat) (h : n ≤ 1048576) (w : World) : (Instr.makeSlice 23 (.int .i64 (n : Int)) (.int .i64 (n : Int))).run Tryz.prog w = .ok (.slice (some ⟨w.heap.size, 0, none⟩) n n) (w.alloc (.cells (madeCells #[.string ByteArray.empty, .int .i64 0, .int .i64 0, .string ByteArray.empty] (n * 4)) 39)) := by
  have hi := iEntry_info
  cases hj : Tryz.prog.info? 39 with
  | none => rw [hj] at hi; cases hi
  | some i =>
    rw [hj] at hi
    simp only [Option.map_some, Option.some.injEq, Prod.mk.injEq] at hi
    obtain ⟨hz, hs, hb⟩ := hi
    have := run_make (P := Tryz.prog) w 23 39 i _ Tryz.underlying23 hj hz .i64 .i64 (n : Int) (n : Int) (by omega) (Int.le_refl _) (by rw [hb]; omega) (by omega)
    rw [this, hs]
    simp [Value.cells]
/-- One entry more, stored cell by cell. -/
theorem PartE.step {w : World} {g n k : Nat} {xs : List En} (h : PartE w g n xs k) (hk : k < n) {f : En} (hf : xs.getD k en0 = f) :
    PartE ((((w.setCell ⟨g, k * 4, none⟩ (.string f.ky)).setCell ⟨g, k * 4 + 1, none⟩ (.int .i64 f.sq)).setCell ⟨g, k * 4 + 2, none⟩ (.int .i64 f.kd)).setCell ⟨g, k * 4 + 3, none⟩ (.string f.vl)) g n xs (k + 1) := by
  obtain ⟨cs, h1, h2, h3⟩ := h
  have e1 := heap_setCell_same w g (k * 4) cs _ (.string f.ky) h1
  have e2 := heap_setCell_same _ g (k * 4 + 1) _ _ (.int .i64 f.sq) e1
  have e3 := heap_setCell_same _ g (k * 4 + 2) _ _ (.int .i64 f.kd) e2
  have e4 := heap_setCell_same _ g (k * 4 + 3) _ _ (.string f.vl) e3
  refine ⟨_, e4, by simp [h2], fun i hi => ?_⟩
  by_cases hik : i = k
  · subst hik
    rw [hf]
    refine ⟨?_, ?_, ?_, ?_⟩ <;> simp [Array.getElem?_setIfInBounds] <;> omega
  · obtain ⟨a0, a1, a2, a3⟩ := h3 i (by omega)
    refine ⟨?_, ?_, ?_, ?_⟩
    · rw [Array.getElem?_setIfInBounds_ne (by omega), Array.getElem?_setIfInBounds_ne (by omega), Array.getElem?_setIfInBounds_ne (by omega), Array.getElem?_setIfInBounds_ne (by omega)]; exact a0
    · rw [Array.getElem?_setIfInBounds_ne (by omega), Array.getElem?_setIfInBounds_ne (by omega), Array.getElem?_setIfInBounds_ne (by omega), Array.getElem?_setIfInBounds_ne (by omega)]; exact a1
    · rw [Array.getElem?_setIfInBounds_ne (by omega), Array.getElem?_setIfInBounds_ne (by omega), Array.getElem?_setIfInBounds_ne (by omega), Array.getElem?_setIfInBounds_ne (by omega)]; exact a2
    · rw [Array.getElem?_setIfInBounds_ne (by omega), Array.getElem?_setIfInBounds_ne (by omega), Array.getElem?_setIfInBounds_ne (by omega), Array.getElem?_setIfInBounds_ne (by omega)]; exact a3
theorem partE_made (w : World) (n : Nat) (xs : List En) (z : Array Value) : PartE (w.alloc (.cells (madeCells z (n * 4)) 39)) w.heap.size n xs 0 :=
  ⟨madeCells z (n * 4), World.heap_alloc_new _ _, by simp [madeCells], fun i hi => absurd hi (Nat.not_lt_zero _)⟩

theorem PartE.lie {w : World} {g : Nat} {xs : List En} (h : PartE w g xs.length xs xs.length) : LieE w (some ⟨g, 0, none⟩) xs := by
  obtain ⟨cs, h1, h2, h3⟩ := h
  refine .inr ⟨g, 0, rfl, ?_, fun i hi => ?_⟩
  · by_cases hg : g < w.heap.size
    · exact hg
    · rw [Array.getElem?_eq_none (by omega)] at h1; cases h1
  · obtain ⟨a0, a1, a2, a3⟩ := h3 i hi
    exact ⟨by simpa [World.cell?, h1] using a0, by simpa [World.cell?, h1] using a1, by simpa [World.cell?, h1] using a2, by simpa [World.cell?, h1] using a3⟩

end Go.Proofs.YtogcpllpkdeehaaGreatDoor
namespace Go.Proofs.YtogcpllpkdeehaaGreatDoor
open Go.RowKit Go.Maps
set_option linter.unusedVariables false
set_option linter.unusedSimpArgs false

theorem toList_eq' {a b : ByteArray} (h : (a.toList == b.toList) = true) : a = b := by
  rw [ByteArray.toList_eq, ByteArray.toList_eq] at h
  exact ByteArray.ext (Array.toList_inj.1 (by simpa using h))

/-- Whether an entry is valid. -/
def entOk (e : En) : Bool := decide (1 ≤ e.ky.size ∧ e.ky.size ≤ 1000 ∧ 1 ≤ e.sq ∧ e.sq ≤ 72057594037927935) && (if e.kd = 1 then decide (e.vl.size ≤ 4000) else (decide (e.kd = 0) && decide (e.vl.size = 0)))

theorem entOk_iff (e : En) : entOk e = true ↔ (1 ≤ e.ky.size ∧ e.ky.size ≤ 1000 ∧ 1 ≤ e.sq ∧ e.sq ≤ 72057594037927935) ∧ ((e.kd = 1 ∧ e.vl.size ≤ 4000) ∨ (e.kd = 0 ∧ e.vl.size = 0)) := by
  unfold entOk
  rw [Bool.and_eq_true, decide_eq_true_eq]
  by_cases h : e.kd = 1
  · rw [if_pos h, decide_eq_true_eq]; omega
  · rw [if_neg h, Bool.and_eq_true, decide_eq_true_eq, decide_eq_true_eq]; omega
set_option maxRecDepth 100000 in
set_option maxHeartbeats 400000 in
theorem l2EntryOk_any (f : En) (w : World) (h1 : f.ky.size ≤ maxLen) (h2 : f.vl.size ≤ maxLen) :
    Calls Tryz.prog 25 #[f.agg] w fun e w' => e = .returned (.bool (entOk f)) ∧ Below w.heap.size w w' := by
  unfold maxLen at h1 h2
  obtain ⟨n, s, k, d⟩ := f
  generalize hE : entOk ⟨n, s, k, d⟩ = E
  have HE : Hid (entOk ⟨n, s, k, d⟩ = E) := hE
  clear hE
  simp only at h1 h2
  go_enter Tryz.func25, Tryz.ntmps25
  go_wp2_with fail
  all_goals go_ret
  all_goals refine ⟨?_, (Below.refl _ _).alloc (Nat.le_refl _) _⟩
  all_goals rw [← HE.out]
  all_goals first
    | (have hk := ‹(k == 1) = true›; rw [beq_iff_eq] at hk; refine ret_b (Bool.eq_iff_iff.2 ?_); rw [entOk_iff]; simp only [decide_eq_true_eq, beq_iff_eq, Bool.false_eq_true, false_iff, true_iff]; omega)
    | (have hk := ‹(k == 1) = false›; rw [beq_eq_false_iff_ne] at hk; refine ret_b (Bool.eq_iff_iff.2 ?_); rw [entOk_iff]; simp only [decide_eq_true_eq, beq_iff_eq, Bool.false_eq_true, false_iff, true_iff]; omega)
    | (refine ret_b (Bool.eq_iff_iff.2 ?_); rw [entOk_iff]; simp only [decide_eq_true_eq, beq_iff_eq, Bool.false_eq_true, false_iff, true_iff]; omega)

theorem empty_iff (d : ByteArray) : d.toList.isEmpty = true ↔ d.size = 0 := by
  rw [ByteArray.toList_eq, List.isEmpty_iff, ← List.length_eq_zero_iff, Array.length_toList]
  exact Iff.rfl

set_option maxRecDepth 100000 in
theorem validKey_any (s : ByteArray) (w : World) (h1 : s.size ≤ maxLen) :
    Calls Tryz.prog 63 #[.string s] w fun e w' => e = .returned (.bool (decide (1 ≤ s.size ∧ s.size ≤ 1000))) ∧ Below w.heap.size w w' := by
  unfold maxLen at h1
  go_enter Tryz.func63, Tryz.ntmps63
  go_wp2_with fail
  all_goals go_ret
  all_goals refine ⟨?_, Below.refl _ _⟩
  all_goals (refine ret_b (Bool.eq_iff_iff.2 ?_); simp only [Bool.and_eq_true, decide_eq_true_eq, Bool.false_eq_true, false_iff]; omega)

set_option maxRecDepth 100000 in
set_option maxHeartbeats 400000 in
theorem validEntry_any (f : En) (w : World) (h1 : f.ky.size ≤ maxLen) (h2 : f.vl.size ≤ maxLen) :
    Calls Tryz.prog 36 #[f.agg] w fun e w' => e = .returned (.bool (entOk f)) ∧ Below w.heap.size w w' := by
  obtain ⟨n, s, k, d⟩ := f
  have HK : Hid (∀ w, Calls Tryz.prog 63 #[.string n] w fun e w' => e = .returned (.bool (decide (1 ≤ n.size ∧ n.size ≤ 1000))) ∧ Below w.heap.size w w') := fun w => validKey_any n w h1
  unfold maxLen at h1 h2
  generalize hE : entOk ⟨n, s, k, d⟩ = E
  have HE : Hid (entOk ⟨n, s, k, d⟩ = E) := hE
  clear hE
  simp only at h1 h2
  have hP0 : (w.alloc (.cells #[.string n, .int .i64 s, .int .i64 k, .string d] 39)).heap[w.heap.size]? = some (.cells #[.string n, .int .i64 s, .int .i64 k, .string d] 39 (0, 0)) := World.heap_alloc_new _ _
  have hb0 : Below w.heap.size w (w.alloc (.cells #[.string n, .int .i64 s, .int .i64 k, .string d] 39)) := (Below.refl _ _).alloc (Nat.le_refl _) _
  go_enter Tryz.func36, Tryz.ntmps36
  go_wp2_with fail
  refine (HK.out _).mono ?_
  rintro e w1 ⟨rfl, hb1⟩
  have hP1 := (hb1.block w.heap.size (by simp)).trans hP0
  have hb : Below w.heap.size w w1 := hb0.trans (hb1.mono hb0.size)
  have x0 : w1.cell? ⟨w.heap.size, 0, none⟩ = some (.string n) := by simp [World.cell?, hP1]
  have x1 : w1.cell? ⟨w.heap.size, 1, none⟩ = some (.int .i64 s) := by simp [World.cell?, hP1]
  have x2 : w1.cell? ⟨w.heap.size, 2, none⟩ = some (.int .i64 k) := by simp [World.cell?, hP1]
  have x3 : w1.cell? ⟨w.heap.size, 3, none⟩ = some (.string d) := by simp [World.cell?, hP1]
  have hlt1 : w.heap.size < w1.heap.size := by have := hb1.size; simp at this; omega
  clear hP0 hb0 hP1 hb1 HK
  by_cases hkk : 1 ≤ n.size ∧ n.size ≤ 1000
  · rw [decide_eq_true hkk]
    go_wp2_with fail
    all_goals go_ret
    all_goals refine ⟨?_, hb⟩
    all_goals rw [← HE.out]
    all_goals first
      | (have hk := ‹(k == 1) = true›; rw [beq_iff_eq] at hk; refine ret_b (Bool.eq_iff_iff.2 ?_); rw [entOk_iff]; simp only [decide_eq_true_eq, beq_iff_eq, Bool.false_eq_true, false_iff, true_iff, empty_iff]; omega)
      | (have hk := ‹(k == 1) = false›; have hk2 := ‹(k == 0) = true›; rw [beq_eq_false_iff_ne] at hk; rw [beq_iff_eq] at hk2; refine ret_b (Bool.eq_iff_iff.2 ?_); rw [entOk_iff]; simp only [decide_eq_true_eq, beq_iff_eq, Bool.false_eq_true, false_iff, true_iff, empty_iff]; omega)
      | (have hk := ‹(k == 1) = false›; have hk2 := ‹(k == 0) = false›; rw [beq_eq_false_iff_ne] at hk hk2; refine ret_b (Bool.eq_iff_iff.2 ?_); rw [entOk_iff]; simp only [decide_eq_true_eq, beq_iff_eq, Bool.false_eq_true, false_iff, true_iff, empty_iff]; omega)
      | (refine ret_b (Bool.eq_iff_iff.2 ?_); rw [entOk_iff]; simp only [decide_eq_true_eq, beq_iff_eq, Bool.false_eq_true, false_iff, true_iff, empty_iff]; omega)
  · rw [decide_eq_false hkk]
    go_wp2_with fail
    go_ret
    refine ⟨?_, hb⟩
    rw [← HE.out]
    refine ret_b (Bool.eq_iff_iff.2 ?_)
    rw [entOk_iff]
    simp only [Bool.false_eq_true, false_iff]
    omega


theorem byteL_at (s : ByteArray) (k : Nat) (h : k < s.size) : s.data.toList.take (k + 1) = s.data.toList.take k ++ [s[k]] := by
  have h' : k < s.data.toList.length := by rw [Array.length_toList]; exact h
  rw [List.take_succ_eq_append_getElem h']
  rfl

set_option maxRecDepth 100000 in
set_option maxHeartbeats 1000000 in
theorem l2Put_any (B : Nat) (v : Value) (l : List UInt8) (s : ByteArray) (w : World) (ho : w.ownsRow B 5 1 v l.length (bc l)) (hB : B ≤ w.heap.size) (hs : l.length + s.size ≤ 70368744177664) :
    Calls Tryz.prog 27 #[v, .string s] w fun e w' => ∃ v', e = .returned v' ∧ w'.ownsRow B 5 1 v' (l ++ s.data.toList).length (bc (l ++ s.data.toList)) ∧ Below B w w' := by
  obtain ⟨i0, hi, hz0, hz1, hz2⟩ := info_parts u8_info
  go_enter Tryz.func27, Tryz.ntmps27
  go_wp2_with fail
  go_loopw [0, 5] (fun x y wr => ∃ k : Nat, y = .int .i64 k ∧ k ≤ s.size ∧ wr.ownsRow B 5 1 x (l ++ s.data.toList.take k).length (bc (l ++ s.data.toList.take k)) ∧ Below B w wr) (fun _ y _ => s.size - (intOf y).toNat)
  case atStart => exact ⟨0, rfl, by omega, by simpa using ho, Below.refl _ _⟩
  case round =>
    obtain ⟨k, rfl, hk, hown, hb⟩ := hrel
    have hbs := hb.size
    have hll : (l ++ s.data.toList.take k).length = l.length + k := by rw [List.length_append, List.length_take, Array.length_toList]; show _ + min k s.size = _; omega
    by_cases hlt : k < s.size
    · have HT : Hid (l ++ s.data.toList.take (k + 1) = l ++ s.data.toList.take k ++ [s[k]]) := by show _ = _; rw [byteL_at s k hlt, List.append_assoc]
      generalize l ++ s.data.toList.take k = m at *
      go_wp2_with (at_builtin; refine wpList_append_own _ rfl _ _ 22 rfl B 5 i0 (.int .u8 0) 1 1 Tryz.underlying22 hi hz0 hz1 hz2 rfl (by decide) _ _ _ rfl (hown.alloc _) ⟨wr.heap.size, 0, none⟩ 1 1 [.int .u8 (s[k].toNat : Int)] rfl rfl (cell_one_new _ _ _) (fun x hx => by simp at hx; subst hx; rfl) (by unfold maxLen; omega) (by omega) (by simp; omega) ?_; intro v' w4 hown' hgrow hnil)
      refine ⟨⟨k + 1, by simp, by omega, ?_, (hb.alloc (by omega) _).grown hgrow (by simp; omega) (owns_base hown)⟩, by simp only [intOf]; omega⟩
      rw [HT.out]
      have e : bc (m ++ [s[k]]) = bc m ++ [Value.int .u8 (s[k].toNat : Int)] := by simp [bc]
      rw [e, List.length_append]
      exact hown'
    · obtain rfl : k = s.size := by omega
      have e : s.data.toList.take s.size = s.data.toList := List.take_of_length_le (by rw [Array.length_toList]; exact Nat.le_refl _)
      rw [e] at hown
      go_wp2_with fail
      go_ret
      exact ⟨_, rfl, hown, hb⟩
end Go.Proofs.YtogcpllpkdeehaaGreatDoor
namespace Go.Proofs.YtogcpllpkdeehaaGreatDoor
open Go.RowKit Go.Maps
set_option linter.unusedVariables false
set_option linter.unusedSimpArgs false

/-- The bytes of an entry's first half, and of an entry. -/
def ebA (e : En) : List UInt8 := vb e.ky.size ++ e.ky.data.toList ++ vb e.sq.toNat ++ [UInt8.ofNat e.kd.toNat]
def ebB (e : En) : List UInt8 := vb e.vl.size ++ e.vl.data.toList
def eb (e : En) : List UInt8 := ebA e ++ ebB e
/-- The bytes of a list of entries, and its text. -/
def encB (n : Nat) (xs : List En) : List UInt8 := vb n ++ xs.flatMap eb
def encT (xs : List En) : ByteArray := if xs.length ≤ 1000 ∧ xs.all entOk = true then ⟨(encB xs.length xs).toArray⟩ else ⟨#[]⟩

theorem dataL (s : ByteArray) : s.data.toList.length = s.size := by rw [Array.length_toList]; rfl
theorem textL (l : List UInt8) : (⟨l.toArray⟩ : ByteArray).data.toList = l := rfl
theorem appL (a b : ByteArray) : (a ++ b).data.toList = a.data.toList ++ b.data.toList := by simp
theorem appS (a b : ByteArray) : (a ++ b).size = a.size + b.size := by simp
theorem vb_len (n : Nat) : (vb n).length ≤ 8 := vbf_length_le 7 n
theorem eb_len {e : En} (h : entOk e = true) : (eb e).length ≤ 5025 := by
  obtain ⟨h1, h2⟩ := (entOk_iff e).1 h
  have a := vb_len e.ky.size
  have b := vb_len e.sq.toNat
  have c := vb_len e.vl.size
  simp only [eb, ebA, ebB, List.length_append, dataL, List.length_singleton]
  omega
theorem encB_snoc (n : Nat) (xs : List En) (e : En) : encB n (xs ++ [e]) = encB n xs ++ ebA e ++ ebB e := by
  simp [encB, eb, List.flatMap_append]
theorem encB_len (n : Nat) (xs : List En) (h : xs.all entOk = true) : (encB n xs).length ≤ 8 + 5025 * xs.length := by
  have a := vb_len n
  have b : (xs.flatMap eb).length ≤ 5025 * xs.length := by
    induction xs with
    | nil => simp
    | cons x r ih =>
      simp only [List.all_cons, Bool.and_eq_true] at h
      have := ih h.2
      have := eb_len h.1
      simp only [List.flatMap_cons, List.length_append, List.length_cons]
      omega
  simp only [encB, List.length_append]
  omega
theorem encT_long (xs : List En) (h : 1000 < xs.length) : encT xs = ⟨#[]⟩ := by unfold encT; rw [if_neg (by omega)]
theorem encT_bad (xs : List En) (k : Nat) (hk : k < xs.length) (h : entOk (xs.getD k en0) = false) : encT xs = ⟨#[]⟩ := by
  unfold encT
  rw [if_neg]
  rintro ⟨-, h2⟩
  have e : xs.getD k en0 = xs[k] := by simp [List.getD, hk]
  rw [e] at h
  have := List.all_eq_true.1 h2 xs[k] (List.getElem_mem hk)
  rw [h] at this
  cases this
theorem encT_ok (xs : List En) (h1 : xs.length ≤ 1000) (h2 : xs.all entOk = true) : encT xs = ⟨(encB xs.length xs).toArray⟩ := by unfold encT; rw [if_pos ⟨h1, h2⟩]

theorem owns_below {w w' : World} {B n size : Nat} {e : TypeId} {v : Value} {xs : List Value} (h : w.ownsRow B e size v n xs) (hb : Below w.heap.size w w') : w'.ownsRow B e size v n xs := by
  obtain ⟨h1, h2⟩ := h
  refine ⟨h1, ?_⟩
  rcases h2 with h2 | ⟨g, cap, cur, rfl, hg, hbk, hrest⟩
  · exact .inl h2
  · have hlt : g < w.heap.size := by
      by_cases hlt : g < w.heap.size
      · exact hlt
      · rw [Array.getElem?_eq_none (by omega)] at hbk; cases hbk
    exact .inr ⟨g, cap, cur, rfl, hg, (hb.block g hlt).trans hbk, hrest⟩

set_option maxRecDepth 100000 in
set_option maxHeartbeats 2000000 in
theorem specEnc_any (a : Option Addr) (cap : Nat) (xs : List En) (w : World) (hx : LieE w a xs) (hf : FitsE xs) (hlen : xs.length ≤ 1048576) :
    Calls Tryz.prog 31 #[.slice a xs.length cap] w fun e w' => e = .returned (.string (encT xs)) ∧ Below w.heap.size w w' := by
  by_cases hlong : 1000 < xs.length
  · rw [encT_long xs hlong]
    have h' : (1000 : Int) < xs.length := by omega
    go_enter Tryz.func31, Tryz.ntmps31
    go_wp2_with fail
    go_ret
    exact ⟨rfl, Below.refl _ _⟩
  · have h' : ¬ (1000 : Int) < xs.length := by omega
    generalize hT : encT xs = T
    have HT : Hid (encT xs = T) := hT
    clear hT
    have HV : Hid ((vtext (xs.length : Int)).data.toList = vb xs.length) := by show _ = _; rw [vtext_in _ (by omega) (by omega)]; simp
    have HVS : Hid ((vtext (xs.length : Int)).size ≤ 8) := vtext_size _
    go_enter Tryz.func31, Tryz.ntmps31
    go_wp2_with fail
    refine (specPut_any _ _).mono ?_
    rintro e w1 ⟨rfl, hb1⟩
    have hb0 : Below w.heap.size w (w.alloc (.cells #[] 5)) := (Below.refl _ _).alloc (Nat.le_refl _) _
    have hbw1 : Below w.heap.size w w1 := hb0.trans (hb1.mono hb0.size)
    have hl1 : w1.ownsRow w.heap.size 5 1 (.slice (some ⟨w.heap.size, 0, none⟩) 0 0) ([] : List UInt8).length (bc []) := owns_below (owns_lit w w.heap.size (Nat.le_refl _)) hb1
    go_wp2_with fail
    refine (l2Put_any w.heap.size _ [] _ w1 hl1 hbw1.size (by have := HVS.out; simp; omega)).mono ?_
    rintro e w2 ⟨v2, rfl, hown2, hb2⟩
    rw [HV.out, List.nil_append] at hown2
    have hbw2 : Below w.heap.size w w2 := hbw1.trans hb2
    clear hl1 hb0 hb1 hb2 hbw1
    go_wp2_with fail
    go_loopw [3, 4] (fun x y wr => ∃ k : Nat, y = .int .i64 k ∧ k ≤ xs.length ∧ (xs.take k).all entOk = true ∧ wr.ownsRow w.heap.size 5 1 x (encB xs.length (xs.take k)).length (bc (encB xs.length (xs.take k))) ∧ Below w.heap.size w wr) (fun _ y _ => xs.length - (intOf y).toNat)
    case atStart => exact ⟨0, rfl, by omega, rfl, by simpa [encB] using hown2, hbw2⟩
    case round =>
      obtain ⟨k, rfl, hk, hall, hown, hb⟩ := hrel
      have hbs := hb.size
      by_cases hlt : k < xs.length
      · obtain ⟨b, off, rfl, hbl, c0, c1, c2, c3⟩ := (hx.below hb).at hlt
        have hbB : b < w.heap.size := by obtain ⟨b', off', e, h, _⟩ := hx.at hlt; cases e; exact h
        have hfk := hf.at hlt
        have hik : (k : Int) < (xs.length : Int) := by omega
        have HB : Hid (entOk (xs.getD k en0) = false → T = ⟨#[]⟩) := fun h => by rw [← HT.out]; exact encT_bad xs k hlt h
        have HS : Hid (encB xs.length (xs.take (k + 1)) = encB xs.length (xs.take k) ++ ebA (xs.getD k en0) ++ ebB (xs.getD k en0)) := by show _ = _; rw [takeE_snoc xs k hlt, encB_snoc]
        have HA : Hid (entOk (xs.getD k en0) = true → (xs.take (k + 1)).all entOk = true) := fun h => by rw [takeE_snoc xs k hlt, List.all_append, hall]; simpa using h
        have hbl2 : (encB xs.length (xs.take k)).length ≤ 5025008 := by have := encB_len xs.length (xs.take k) hall; rw [List.length_take] at this; omega
        generalize xs.getD k en0 = f at *
        generalize encB xs.length (xs.take k) = l at *
        go_wp2_with fail
        refine (l2EntryOk_any f _ hfk.1 hfk.2).mono ?_
        rintro e w3 ⟨rfl, hb3⟩
        have hbw3 : Below w.heap.size w w3 := hb.trans (hb3.mono hbs)
        cases hok : entOk f with
        | false =>
          have hTe := HB.out hok
          go_wp2_with fail
          go_ret
          exact ⟨by rw [hTe]; rfl, hbw3⟩
        | true =>
          obtain ⟨q1, q2⟩ := (entOk_iff f).1 hok
          have hown3 := owns_below hown hb3
          have d0 := (hb3.cell (p := ⟨b, _, none⟩) hbl).trans c0
          have d1 := (hb3.cell (p := ⟨b, _, none⟩) hbl).trans c1
          have d2 := (hb3.cell (p := ⟨b, _, none⟩) hbl).trans c2
          have d3 := (hb3.cell (p := ⟨b, _, none⟩) hbl).trans c3
          have hbl3 : b < w3.heap.size := Nat.lt_of_lt_of_le hbl hb3.size
          have hB3 := hbw3.size
          have hAll := HA.out hok
          have t1s : (vtext (f.ky.size : Int)).size ≤ 8 := vtext_size _
          have t2s : (vtext f.sq).size ≤ 8 := vtext_size _
          have t3s : (⟨#[UInt8.ofNat f.kd.toNat]⟩ : ByteArray).size = 1 := rfl
          have t4s : (vtext (f.vl.size : Int)).size ≤ 8 := vtext_size _
          have HA1 : Hid ((((vtext (f.ky.size : Int) ++ f.ky) ++ vtext f.sq) ++ ⟨#[UInt8.ofNat f.kd.toNat]⟩).data.toList = ebA f) := by
            show _ = _
            rw [appL, appL, appL, vtext_in _ (by omega) (by omega), vtext_in _ (by omega) (by omega)]
            simp [ebA]
          have HA2 : Hid ((vtext (f.vl.size : Int) ++ f.vl).data.toList = ebB f) := by
            show _ = _
            rw [appL, vtext_in _ (by omega) (by omega)]
            simp [ebB]
          have kd0 : 0 ≤ f.kd := by omega
          have hvl : f.vl.size ≤ 4000 := by omega
          have kd1 : f.kd < 256 := by omega
          clear HB HA hb3 c0 c1 c2 c3 hown hx hf hbw2 hown2 q2 hfk
          have HP1 := specPut_any (f.ky.size : Int)
          have HP2 := specPut_any f.sq
          have HP4 := specPut_any (f.vl.size : Int)
          generalize vtext (f.ky.size : Int) = t1 at *
          generalize vtext f.sq = t2 at *
          generalize vtext (f.vl.size : Int) = t4 at *
          go_wp2_with fail
          have g1 : ¬ 9223372036854775807 < t1.size + f.ky.size := by omega
          have g2 : ¬ 9223372036854775807 < t1.size + f.ky.size + t2.size := by omega
          have g3 : ¬ 9223372036854775807 < t1.size + f.ky.size + t2.size + (⟨#[UInt8.ofNat f.kd.toNat]⟩ : ByteArray).size := by omega
          have g5 : ¬ 9223372036854775807 < t1.size + f.ky.size + t2.size + 1 := by omega
          have g4 : ¬ 9223372036854775807 < t4.size + f.vl.size := by omega
          have HZ1 : Hid ((t1 ++ f.ky ++ t2 ++ ⟨#[UInt8.ofNat f.kd.toNat]⟩).size ≤ 1017) := by show _ ≤ _; rw [appS, appS, appS]; omega
          have HZ3 : Hid ((ebA f).length ≤ 1017) := by show _ ≤ _; rw [← HA1.out, dataL]; exact HZ1.out
          have HZ2 : Hid ((t4 ++ f.vl).size ≤ 4008) := by show _ ≤ _; rw [appS]; omega
          replace HP1 : Hid (∀ w, Calls Tryz.prog 28 #[.int .i64 (f.ky.size : Int)] w fun e w' => e = .returned (.string t1) ∧ Below w.heap.size w w') := HP1
          replace HP2 : Hid (∀ w, Calls Tryz.prog 28 #[.int .i64 f.sq] w fun e w' => e = .returned (.string t2) ∧ Below w.heap.size w w') := HP2
          replace HP4 : Hid (∀ w, Calls Tryz.prog 28 #[.int .i64 (f.vl.size : Int)] w fun e w' => e = .returned (.string t4) ∧ Below w.heap.size w w') := HP4
          go_region_held3 (fun w' => w'.cell? ⟨b, off + k * 4, none⟩ = some (.string f.ky) ∧ w'.cell? ⟨b, off + k * 4 + 1, none⟩ = some (.int .i64 f.sq) ∧ w'.cell? ⟨b, off + k * 4 + 2, none⟩ = some (.int .i64 f.kd) ∧ w'.cell? ⟨b, off + k * 4 + 3, none⟩ = some (.string f.vl)) (simp [go_sem, *])
            (first
              | (go_at_call 28; have _t := hb5; refine (HP2.out _).mono ?_; rintro e w6 ⟨rfl, hb6⟩; have m0 := (hb6.cell (p := ⟨b, _, none⟩) hbl5).trans k0; have m1 := (hb6.cell (p := ⟨b, _, none⟩) hbl5).trans k1; have m2 := (hb6.cell (p := ⟨b, _, none⟩) hbl5).trans k2; have m3 := (hb6.cell (p := ⟨b, _, none⟩) hbl5).trans k3; have hbl6 := Nat.lt_of_lt_of_le hbl5 hb6.size; have hown6 : Hid (w6.ownsRow w.heap.size 5 1 _ l.length (bc l)) := owns_below hown5.out hb6; have hbw6 : Hid (Below w.heap.size w w6) := hbw5.out.trans (hb6.mono hbw5.out.size); clear _t hb6)
              | (go_at_call 28; refine (HP1.out _).mono ?_; rintro e w5 ⟨rfl, hb5⟩; have k0 := (hb5.cell (p := ⟨b, _, none⟩) hbl3).trans d0; have k1 := (hb5.cell (p := ⟨b, _, none⟩) hbl3).trans d1; have k2 := (hb5.cell (p := ⟨b, _, none⟩) hbl3).trans d2; have k3 := (hb5.cell (p := ⟨b, _, none⟩) hbl3).trans d3; have hbl5 := Nat.lt_of_lt_of_le hbl3 hb5.size; have hown5 : Hid (w5.ownsRow w.heap.size 5 1 _ l.length (bc l)) := owns_below (w := w3.drew) hown3 hb5; have hbw5 : Hid (Below w.heap.size w w5) := hbw3.drew.trans (hb5.mono hB3))
              | (go_at_call 53; refine (l2Byte_any _ _ kd0 kd1).mono ?_; rintro e w7 ⟨rfl, hb7⟩; have n0 := (hb7.cell (p := ⟨b, _, none⟩) hbl6).trans m0; have n1 := (hb7.cell (p := ⟨b, _, none⟩) hbl6).trans m1; have n2 := (hb7.cell (p := ⟨b, _, none⟩) hbl6).trans m2; have n3 := (hb7.cell (p := ⟨b, _, none⟩) hbl6).trans m3; have hbl7 := Nat.lt_of_lt_of_le hbl6 hb7.size; have hown7 : Hid (w7.ownsRow w.heap.size 5 1 _ l.length (bc l)) := owns_below hown6.out hb7; have hbw7 : Hid (Below w.heap.size w w7) := hbw6.out.trans (hb7.mono hbw6.out.size); clear hb7)
              | (go_at_call 27; refine (l2Put_any w.heap.size _ l _ _ hown7.out hbw7.out.size (by have := HZ1.out; omega)).mono ?_; rintro e w8 ⟨v8, rfl, hown8, hb8⟩; have s0 := (hb8.cell (p := ⟨b, _, none⟩) hbB).trans n0; have s1 := (hb8.cell (p := ⟨b, _, none⟩) hbB).trans n1; have s2 := (hb8.cell (p := ⟨b, _, none⟩) hbB).trans n2; have s3 := (hb8.cell (p := ⟨b, _, none⟩) hbB).trans n3; rw [HA1.out] at hown8; have hbw8 : Below w.heap.size w w8 := hbw7.out.trans hb8; have hbl8 := Nat.lt_of_lt_of_le hbl7 (hb8.size); clear hb8))
          go_wp2_with fail
          go_region_held3 (fun w' => w'.cell? ⟨b, off + k * 4 + 3, none⟩ = some (.string f.vl)) (simp [go_sem, *])
            (first
              | (go_at_call 28; refine (HP4.out _).mono ?_; rintro e w9 ⟨rfl, hb9⟩; have k9 := (hb9.cell (p := ⟨b, _, none⟩) hbl8).trans s3; have hown9 : Hid (w9.ownsRow w.heap.size 5 1 _ (l ++ ebA f).length (bc (l ++ ebA f))) := owns_below (w := w8.drew) hown8 hb9; have hbw9 : Hid (Below w.heap.size w w9) := hbw8.drew.trans (hb9.mono hbw8.size))
              | (go_at_call 27; refine (l2Put_any w.heap.size _ (l ++ ebA f) _ _ hown9.out hbw9.out.size (by have := HZ2.out; have := HZ3.out; rw [List.length_append]; omega)).mono ?_; rintro e w10 ⟨v10, rfl, hown10, hb10⟩; have k10 := (hb10.cell (p := ⟨b, _, none⟩) hbB).trans k9; rw [HA2.out] at hown10; have hbw10 : Below w.heap.size w w10 := hbw9.out.trans hb10; clear hb10))
          all_goals go_wp2_with fail
          all_goals exact ⟨⟨k + 1, by simp, by omega, hAll, by rw [HS.out]; exact hown10, hbw10⟩, by simp only [intOf]; omega⟩
      · obtain rfl : k = xs.length := by omega
        rw [List.take_length] at hall hown
        have hTe := HT.out
        rw [encT_ok xs (by omega) hall] at hTe
        have hcv := conv_row hown (by intro h0; have := vbf_pos 7 xs.length; have e := congrArg List.length h0; simp [encB] at e; simp [e.1] at this)
        rw [hTe] at hcv
        clear hTe
        go_wp2_with fail
        go_ret
        exact ⟨rfl, hb⟩
end Go.Proofs.YtogcpllpkdeehaaGreatDoor
