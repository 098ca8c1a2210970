import Derived.Test.YtgmfjninimebmaaGreatDoorMgLocked
namespace Go.Proofs.YtgmfjninimebmaaGreatDoor
open Go.RowKit Go.Maps
set_option linter.unusedVariables false
set_option linter.unusedSimpArgs false

/-- Block g of the world is n entries' room, none of it frozen; the first k of the entries xs stand in it. -/
def PartE (w : World) (g n : Nat) (xs : List En) (k : Nat) : Prop :=
  ∃ cs : Array Value, w.heap[g]? = some (.cells cs 50 (0, 0)) ∧ cs.size = n * 4 ∧
    ∀ i, i < k → cs[i * 4]? = some (.string (xs.getD i en0).ky) ∧ cs[i * 4 + 1]? = some (.int .i64 (xs.getD i en0).sq) ∧ cs[i * 4 + 2]? = some (.int .i64 (xs.getD i en0).kd) ∧ cs[i * 4 + 3]? = some (.string (xs.getD i en0).vl)
theorem PartE.below {w w' : World} {B g n k : Nat} {xs : List En} (h : PartE w g n xs k) (hb : Below B w w') (hg : g < B) : PartE w' g n xs k := by
  obtain ⟨cs, h1, h2, h3⟩ := h
  exact ⟨cs, (hb.block g hg).trans h1, h2, h3⟩
theorem PartE.cell {w : World} {g n k : Nat} {xs : List En} (h : PartE w g n xs k) (o : Nat) (ho : o < n * 4) : ∃ v, w.cell? ⟨g, o, none⟩ = some v := by
  obtain ⟨cs, h1, h2, _⟩ := h
  exact ⟨cs[o]'(by omega), by simp [World.cell?, h1]⟩
theorem PartE.frozen {w : World} {g n k : Nat} {xs : List En} (h : PartE w g n xs k) (o : Nat) : w.frozen? ⟨g, o, none⟩ = false := by
  obtain ⟨cs, h1, _⟩ := h
  simp [World.frozen?, h1]
theorem iEntry_info : (Tryz.prog.info? 50).map (fun i => (i.zero, i.size, i.bytes)) = some (some (.agg #[.string ByteArray.empty, .int .i64 0, .int .i64 0, .string ByteArray.empty]), 4, 48) := by kernel_rfl
theorem make_entries (n : Nat) (h : n ≤ 1048576) (w : World) : (Instr.makeSlice 26 (.int .i64 (n : Int)) (.int .i64 (n : Int))).run Tryz.prog w = .ok (.slice (some ⟨w.heap.size, 0, none⟩) n n) (w.alloc (.cells (madeCells #[.string ByteArray.empty, .int .i64 0, .int .i64 0, .string ByteArray.empty] (n * 4)) 50)) := by
  have hi := iEntry_info
  cases hj : Tryz.prog.info? 50 with
  | none => rw [hj] at hi; cases hi
  | some i =>
    rw [hj] at hi
    simp only [Option.map_some, Option.some.injEq, Prod.mk.injEq] at hi
    obtain ⟨hz, hs, hb⟩ := hi
    have := run_make (P := Tryz.prog) w 26 50 i _ Tryz.underlying26 hj hz .i64 .i64 (n : Int) (n : Int) (by omega) (Int.le_refl _) (by rw [hb]; omega) (by omega)
    rw [this, hs]
    simp [Value.cells]
/-- One entry more, stored cell by cell. -/
theorem PartE.step {w : World} {g n k : Nat} {xs : List En} (h : PartE w g n xs k) (hk : k < n) {f : En} (hf : xs.getD k en0 = f) :
    PartE ((((w.setCell ⟨g, k * 4, none⟩ (.string f.ky)).setCell ⟨g, k * 4 + 1, none⟩ (.int .i64 f.sq)).setCell ⟨g, k * 4 + 2, none⟩ (.int .i64 f.kd)).setCell ⟨g, k * 4 + 3, none⟩ (.string f.vl)) g n xs (k + 1) := by
  obtain ⟨cs, h1, h2, h3⟩ := h
  have e1 := heap_setCell_same w g (k * 4) cs _ (.string f.ky) h1
  have e2 := heap_setCell_same _ g (k * 4 + 1) _ _ (.int .i64 f.sq) e1
  have e3 := heap_setCell_same _ g (k * 4 + 2) _ _ (.int .i64 f.kd) e2
  have e4 := heap_setCell_same _ g (k * 4 + 3) _ _ (.string f.vl) e3
  refine ⟨_, e4, by simp [h2], fun i hi => ?_⟩
  by_cases hik : i = k
  · subst hik
    rw [hf]
    refine ⟨?_, ?_, ?_, ?_⟩ <;> simp [Array.getElem?_setIfInBounds] <;> omega
  · obtain ⟨a0, a1, a2, a3⟩ := h3 i (by omega)
    refine ⟨?_, ?_, ?_, ?_⟩
    · rw [Array.getElem?_setIfInBounds_ne (by omega), Array.getElem?_setIfInBounds_ne (by omega), Array.getElem?_setIfInBounds_ne (by omega), Array.getElem?_setIfInBounds_ne (by omega)]; exact a0
    · rw [Array.getElem?_setIfInBounds_ne (by omega), Array.getElem?_setIfInBounds_ne (by omega), Array.getElem?_setIfInBounds_ne (by omega), Array.getElem?_setIfInBounds_ne (by omega)]; exact a1
    · rw [Array.getElem?_setIfInBounds_ne (by omega), Array.getElem?_setIfInBounds_ne (by omega), Array.getElem?_setIfInBounds_ne (by omega), Array.getElem?_setIfInBounds_ne (by omega)]; exact a2
    · rw [Array.getElem?_setIfInBounds_ne (by omega), Array.getElem?_setIfInBounds_ne (by omega), Array.getElem?_setIfInBounds_ne (by omega), Array.getElem?_setIfInBounds_ne (by omega)]; exact a3
theorem partE_made (w : World) (n : Nat) (xs : List En) (z : Array Value) : PartE (w.alloc (.cells (madeCells z (n * 4)) 50)) w.heap.size n xs 0 :=
  ⟨madeCells z (n * 4), World.heap_alloc_new _ _, by simp [madeCells], fun i hi => absurd hi (Nat.not_lt_zero _)⟩

theorem PartE.lie {w : World} {g : Nat} {xs : List En} (h : PartE w g xs.length xs xs.length) : LieE w (some ⟨g, 0, none⟩) xs := by
  obtain ⟨cs, h1, h2, h3⟩ := h
  refine .inr ⟨g, 0, rfl, ?_, fun i hi => ?_⟩
  · by_cases hg : g < w.heap.size
    · exact hg
    · rw [Array.getElem?_eq_none (by omega)] at h1; cases h1
  · obtain ⟨a0, a1, a2, a3⟩ := h3 i hi
    exact ⟨by simpa [World.cell?, h1] using a0, by simpa [World.cell?, h1] using a1, by simpa [World.cell?, h1] using a2, by simpa [World.cell?, h1] using a3⟩

set_option maxHeartbeats 400000 in
theorem eqEntry_same (f : En) (w : World) :
    Calls Tryz.prog 51 #[f.agg, f.agg] w fun e w' => e = .returned (.bool true) ∧ Below w.heap.size w w' := by
  obtain ⟨n, s, k, d⟩ := f
  go_enter Tryz.func51, Tryz.ntmps51
  go_wp2
  go_ret
  exact ⟨rfl, ((Below.refl _ _).alloc (Nat.le_refl _) _).alloc (by simp) _⟩

set_option maxHeartbeats 400000 in
theorem eqEntryS_same (a c : Option Addr) (cap cap' : Nat) (xs : List En) (w : World) (hx : LieE w a xs) (hy : LieE w c xs) (hlen : xs.length ≤ 1048576) :
    Calls Tryz.prog 24 #[.slice a xs.length cap, .slice c xs.length cap'] w fun e w' => e = .returned (.bool true) ∧ Below w.heap.size w w' := by
  go_enter Tryz.func24, Tryz.ntmps24
  go_wp2
  go_loopw [5] (fun i wr => ∃ k : Nat, k ≤ xs.length ∧ i = .int .i64 k ∧ Below w.heap.size w wr) (fun i _ => xs.length - (intOf i).toNat)
  case atStart => exact ⟨0, Nat.zero_le _, rfl, Below.refl _ _⟩
  case round =>
    obtain ⟨k, hk, rfl, hb⟩ := hrel
    by_cases hlt : k < xs.length
    · obtain ⟨b, off, rfl, hbl, c0, c1, c2, c3⟩ := (hx.below hb).at hlt
      obtain ⟨b', off', rfl, hbl', d0, d1, d2, d3⟩ := (hy.below hb).at hlt
      generalize xs.getD k en0 = f at *
      have i1 : (k : Int) < (xs.length : Int) := by omega
      go_wp2_with fail
      go_region_held3 (fun w' => w'.cell? ⟨b, off + k * 4, none⟩ = some (.string f.ky) ∧ w'.cell? ⟨b, off + k * 4 + 1, none⟩ = some (.int .i64 f.sq) ∧ w'.cell? ⟨b, off + k * 4 + 2, none⟩ = some (.int .i64 f.kd) ∧ w'.cell? ⟨b, off + k * 4 + 3, none⟩ = some (.string f.vl) ∧ w'.cell? ⟨b', off' + k * 4, none⟩ = some (.string f.ky) ∧ w'.cell? ⟨b', off' + k * 4 + 1, none⟩ = some (.int .i64 f.sq) ∧ w'.cell? ⟨b', off' + k * 4 + 2, none⟩ = some (.int .i64 f.kd) ∧ w'.cell? ⟨b', off' + k * 4 + 3, none⟩ = some (.string f.vl)) (simp [go_sem, *]) 
        (first | (go_at_call 51; refine (eqEntry_same f _).mono ?_; rintro e w' ⟨rfl, hb1⟩; have k0 := (hb1.cell (p := ⟨b, _, none⟩) hbl).trans c0; have k1 := (hb1.cell (p := ⟨b, _, none⟩) hbl).trans c1; have k2 := (hb1.cell (p := ⟨b, _, none⟩) hbl).trans c2; have k3 := (hb1.cell (p := ⟨b, _, none⟩) hbl).trans c3; have l0 := (hb1.cell (p := ⟨b', _, none⟩) hbl').trans d0; have l1 := (hb1.cell (p := ⟨b', _, none⟩) hbl').trans d1; have l2 := (hb1.cell (p := ⟨b', _, none⟩) hbl').trans d2; have l3 := (hb1.cell (p := ⟨b', _, none⟩) hbl').trans d3; have hb2 := hb.drew.trans (hb1.mono hb.drew.size)))
      all_goals go_wp2
      all_goals exact ⟨⟨k + 1, by omega, by go_num, hb2⟩, by simp [intOf]; omega⟩
    · go_wp2
      go_ret
      exact ⟨rfl, hb⟩
end Go.Proofs.YtgmfjninimebmaaGreatDoor
namespace Go.Proofs.YtgmfjninimebmaaGreatDoor
open Go.RowKit Go.Maps
set_option linter.unusedVariables false
set_option linter.unusedSimpArgs false

/-- Whether an entry is valid. -/
def entOk (e : En) : Bool := decide (1 ≤ e.ky.size ∧ e.ky.size ≤ 1000 ∧ 1 ≤ e.sq ∧ e.sq ≤ 72057594037927935) && (if e.kd = 1 then decide (e.vl.size ≤ 4000) else (decide (e.kd = 0) && decide (e.vl.size = 0)))

theorem entOk_iff (e : En) : entOk e = true ↔ (1 ≤ e.ky.size ∧ e.ky.size ≤ 1000 ∧ 1 ≤ e.sq ∧ e.sq ≤ 72057594037927935) ∧ ((e.kd = 1 ∧ e.vl.size ≤ 4000) ∨ (e.kd = 0 ∧ e.vl.size = 0)) := by
  unfold entOk
  rw [Bool.and_eq_true, decide_eq_true_eq]
  by_cases h : e.kd = 1
  · rw [if_pos h, decide_eq_true_eq]; omega
  · rw [if_neg h, Bool.and_eq_true, decide_eq_true_eq, decide_eq_true_eq]; omega
set_option maxRecDepth 100000 in
set_option maxHeartbeats 400000 in
theorem l2EntryOk_any (f : En) (w : World) (h1 : f.ky.size ≤ maxLen) (h2 : f.vl.size ≤ maxLen) :
    Calls Tryz.prog 58 #[f.agg] w fun e w' => e = .returned (.bool (entOk f)) ∧ Below w.heap.size w w' := by
  unfold maxLen at h1 h2
  obtain ⟨n, s, k, d⟩ := f
  generalize hE : entOk ⟨n, s, k, d⟩ = E
  have HE : Hid (entOk ⟨n, s, k, d⟩ = E) := hE
  clear hE
  simp only at h1 h2
  go_enter Tryz.func58, Tryz.ntmps58
  go_wp2_with fail
  all_goals go_ret
  all_goals refine ⟨?_, (Below.refl _ _).alloc (Nat.le_refl _) _⟩
  all_goals rw [← HE.out]
  all_goals first
    | (have hk := ‹(k == 1) = true›; rw [beq_iff_eq] at hk; refine ret_b (Bool.eq_iff_iff.2 ?_); rw [entOk_iff]; simp only [decide_eq_true_eq, beq_iff_eq, Bool.false_eq_true, false_iff, true_iff]; omega)
    | (have hk := ‹(k == 1) = false›; rw [beq_eq_false_iff_ne] at hk; refine ret_b (Bool.eq_iff_iff.2 ?_); rw [entOk_iff]; simp only [decide_eq_true_eq, beq_iff_eq, Bool.false_eq_true, false_iff, true_iff]; omega)
    | (refine ret_b (Bool.eq_iff_iff.2 ?_); rw [entOk_iff]; simp only [decide_eq_true_eq, beq_iff_eq, Bool.false_eq_true, false_iff, true_iff]; omega)

theorem empty_iff (d : ByteArray) : d.toList.isEmpty = true ↔ d.size = 0 := by
  rw [ByteArray.toList_eq, List.isEmpty_iff, ← List.length_eq_zero_iff, Array.length_toList]
  exact Iff.rfl

set_option maxRecDepth 100000 in
theorem validKey_any (s : ByteArray) (w : World) (h1 : s.size ≤ maxLen) :
    Calls Tryz.prog 151 #[.string s] w fun e w' => e = .returned (.bool (decide (1 ≤ s.size ∧ s.size ≤ 1000))) ∧ Below w.heap.size w w' := by
  unfold maxLen at h1
  go_enter Tryz.func151, Tryz.ntmps151
  go_wp2_with fail
  all_goals go_ret
  all_goals refine ⟨?_, Below.refl _ _⟩
  all_goals (refine ret_b (Bool.eq_iff_iff.2 ?_); simp only [Bool.and_eq_true, decide_eq_true_eq, Bool.false_eq_true, false_iff]; omega)

set_option maxRecDepth 100000 in
set_option maxHeartbeats 400000 in
theorem validEntry_any (f : En) (w : World) (h1 : f.ky.size ≤ maxLen) (h2 : f.vl.size ≤ maxLen) :
    Calls Tryz.prog 119 #[f.agg] w fun e w' => e = .returned (.bool (entOk f)) ∧ Below w.heap.size w w' := by
  obtain ⟨n, s, k, d⟩ := f
  have HK : Hid (∀ w, Calls Tryz.prog 151 #[.string n] w fun e w' => e = .returned (.bool (decide (1 ≤ n.size ∧ n.size ≤ 1000))) ∧ Below w.heap.size w w') := fun w => validKey_any n w h1
  unfold maxLen at h1 h2
  generalize hE : entOk ⟨n, s, k, d⟩ = E
  have HE : Hid (entOk ⟨n, s, k, d⟩ = E) := hE
  clear hE
  simp only at h1 h2
  have hP0 : (w.alloc (.cells #[.string n, .int .i64 s, .int .i64 k, .string d] 50)).heap[w.heap.size]? = some (.cells #[.string n, .int .i64 s, .int .i64 k, .string d] 50 (0, 0)) := World.heap_alloc_new _ _
  have hb0 : Below w.heap.size w (w.alloc (.cells #[.string n, .int .i64 s, .int .i64 k, .string d] 50)) := (Below.refl _ _).alloc (Nat.le_refl _) _
  go_enter Tryz.func119, Tryz.ntmps119
  go_wp2_with fail
  refine (HK.out _).mono ?_
  rintro e w1 ⟨rfl, hb1⟩
  have hP1 := (hb1.block w.heap.size (by simp)).trans hP0
  have hb : Below w.heap.size w w1 := hb0.trans (hb1.mono hb0.size)
  have x0 : w1.cell? ⟨w.heap.size, 0, none⟩ = some (.string n) := by simp [World.cell?, hP1]
  have x1 : w1.cell? ⟨w.heap.size, 1, none⟩ = some (.int .i64 s) := by simp [World.cell?, hP1]
  have x2 : w1.cell? ⟨w.heap.size, 2, none⟩ = some (.int .i64 k) := by simp [World.cell?, hP1]
  have x3 : w1.cell? ⟨w.heap.size, 3, none⟩ = some (.string d) := by simp [World.cell?, hP1]
  have hlt1 : w.heap.size < w1.heap.size := by have := hb1.size; simp at this; omega
  clear hP0 hb0 hP1 hb1 HK
  by_cases hkk : 1 ≤ n.size ∧ n.size ≤ 1000
  · rw [decide_eq_true hkk]
    go_wp2_with fail
    all_goals go_ret
    all_goals refine ⟨?_, hb⟩
    all_goals rw [← HE.out]
    all_goals first
      | (have hk := ‹(k == 1) = true›; rw [beq_iff_eq] at hk; refine ret_b (Bool.eq_iff_iff.2 ?_); rw [entOk_iff]; simp only [decide_eq_true_eq, beq_iff_eq, Bool.false_eq_true, false_iff, true_iff, empty_iff]; omega)
      | (have hk := ‹(k == 1) = false›; have hk2 := ‹(k == 0) = true›; rw [beq_eq_false_iff_ne] at hk; rw [beq_iff_eq] at hk2; refine ret_b (Bool.eq_iff_iff.2 ?_); rw [entOk_iff]; simp only [decide_eq_true_eq, beq_iff_eq, Bool.false_eq_true, false_iff, true_iff, empty_iff]; omega)
      | (have hk := ‹(k == 1) = false›; have hk2 := ‹(k == 0) = false›; rw [beq_eq_false_iff_ne] at hk hk2; refine ret_b (Bool.eq_iff_iff.2 ?_); rw [entOk_iff]; simp only [decide_eq_true_eq, beq_iff_eq, Bool.false_eq_true, false_iff, true_iff, empty_iff]; omega)
      | (refine ret_b (Bool.eq_iff_iff.2 ?_); rw [entOk_iff]; simp only [decide_eq_true_eq, beq_iff_eq, Bool.false_eq_true, false_iff, true_iff, empty_iff]; omega)
  · rw [decide_eq_false hkk]
    go_wp2_with fail
    go_ret
    refine ⟨?_, hb⟩
    rw [← HE.out]
    refine ret_b (Bool.eq_iff_iff.2 ?_)
    rw [entOk_iff]
    simp only [Bool.false_eq_true, false_iff]
    omega


theorem byteL_at (s : ByteArray) (k : Nat) (h : k < s.size) : s.data.toList.take (k + 1) = s.data.toList.take k ++ [s[k]] := by
  have h' : k < s.data.toList.length := by rw [Array.length_toList]; exact h
  rw [List.take_succ_eq_append_getElem h']
  rfl

set_option maxRecDepth 100000 in
set_option maxHeartbeats 1000000 in
theorem l2Put_any (B : Nat) (v : Value) (l : List UInt8) (s : ByteArray) (w : World) (ho : w.ownsRow B 5 1 v l.length (bc l)) (hB : B ≤ w.heap.size) (hs : l.length + s.size ≤ 70368744177664) :
    Calls Tryz.prog 60 #[v, .string s] w fun e w' => ∃ v', e = .returned v' ∧ w'.ownsRow B 5 1 v' (l ++ s.data.toList).length (bc (l ++ s.data.toList)) ∧ Below B w w' := by
  obtain ⟨i0, hi, hz0, hz1, hz2⟩ := info_parts u8_info
  go_enter Tryz.func60, Tryz.ntmps60
  go_wp2_with fail
  go_loopw [0, 5] (fun x y wr => ∃ k : Nat, y = .int .i64 k ∧ k ≤ s.size ∧ wr.ownsRow B 5 1 x (l ++ s.data.toList.take k).length (bc (l ++ s.data.toList.take k)) ∧ Below B w wr) (fun _ y _ => s.size - (intOf y).toNat)
  case atStart => exact ⟨0, rfl, by omega, by simpa using ho, Below.refl _ _⟩
  case round =>
    obtain ⟨k, rfl, hk, hown, hb⟩ := hrel
    have hbs := hb.size
    have hll : (l ++ s.data.toList.take k).length = l.length + k := by rw [List.length_append, List.length_take, Array.length_toList]; show _ + min k s.size = _; omega
    by_cases hlt : k < s.size
    · have HT : Hid (l ++ s.data.toList.take (k + 1) = l ++ s.data.toList.take k ++ [s[k]]) := by show _ = _; rw [byteL_at s k hlt, List.append_assoc]
      generalize l ++ s.data.toList.take k = m at *
      go_wp2_with (at_builtin; refine wpList_append_own _ rfl _ _ 111 rfl B 5 i0 (.int .u8 0) 1 1 Tryz.underlying111 hi hz0 hz1 hz2 rfl (by decide) _ _ _ rfl (hown.alloc _) ⟨wr.heap.size, 0, none⟩ 1 1 [.int .u8 (s[k].toNat : Int)] rfl rfl (cell_one_new _ _ _) (fun x hx => by simp at hx; subst hx; rfl) (by unfold maxLen; omega) (by omega) (by simp; omega) ?_; intro v' w4 hown' hgrow hnil)
      refine ⟨⟨k + 1, by simp, by omega, ?_, (hb.alloc (by omega) _).grown hgrow (by simp; omega) (owns_base hown)⟩, by simp only [intOf]; omega⟩
      rw [HT.out]
      have e : bc (m ++ [s[k]]) = bc m ++ [Value.int .u8 (s[k].toNat : Int)] := by simp [bc]
      rw [e, List.length_append]
      exact hown'
    · obtain rfl : k = s.size := by omega
      have e : s.data.toList.take s.size = s.data.toList := List.take_of_length_le (by rw [Array.length_toList]; exact Nat.le_refl _)
      rw [e] at hown
      go_wp2_with fail
      go_ret
      exact ⟨_, rfl, hown, hb⟩
end Go.Proofs.YtgmfjninimebmaaGreatDoor
namespace Go.Proofs.YtgmfjninimebmaaGreatDoor
open Go.RowKit Go.Maps
set_option linter.unusedVariables false
set_option linter.unusedSimpArgs false

/-- The bytes of an entry's first half, and of an entry. -/
def ebA (e : En) : List UInt8 := vb e.ky.size ++ e.ky.data.toList ++ vb e.sq.toNat ++ [UInt8.ofNat e.kd.toNat]
def ebB (e : En) : List UInt8 := vb e.vl.size ++ e.vl.data.toList
def eb (e : En) : List UInt8 := ebA e ++ ebB e
/-- The bytes of a list of entries, and its text. -/
def encB (n : Nat) (xs : List En) : List UInt8 := vb n ++ xs.flatMap eb
def encT (xs : List En) : ByteArray := if xs.length ≤ 1000 ∧ xs.all entOk = true then ⟨(encB xs.length xs).toArray⟩ else ⟨#[]⟩

theorem dataL (s : ByteArray) : s.data.toList.length = s.size := by rw [Array.length_toList]; rfl
theorem textL (l : List UInt8) : (⟨l.toArray⟩ : ByteArray).data.toList = l := rfl
theorem appL (a b : ByteArray) : (a ++ b).data.toList = a.data.toList ++ b.data.toList := by simp
theorem appS (a b : ByteArray) : (a ++ b).size = a.size + b.size := by simp
theorem vb_len (n : Nat) : (vb n).length ≤ 8 := vbf_length_le 7 n
theorem eb_len {e : En} (h : entOk e = true) : (eb e).length ≤ 5025 := by
  obtain ⟨h1, h2⟩ := (entOk_iff e).1 h
  have a := vb_len e.ky.size
  have b := vb_len e.sq.toNat
  have c := vb_len e.vl.size
  simp only [eb, ebA, ebB, List.length_append, dataL, List.length_singleton]
  omega
theorem encB_snoc (n : Nat) (xs : List En) (e : En) : encB n (xs ++ [e]) = encB n xs ++ ebA e ++ ebB e := by
  simp [encB, eb, List.flatMap_append]
theorem encB_len (n : Nat) (xs : List En) (h : xs.all entOk = true) : (encB n xs).length ≤ 8 + 5025 * xs.length := by
  have a := vb_len n
  have b : (xs.flatMap eb).length ≤ 5025 * xs.length := by
    induction xs with
    | nil => simp
    | cons x r ih =>
      simp only [List.all_cons, Bool.and_eq_true] at h
      have := ih h.2
      have := eb_len h.1
      simp only [List.flatMap_cons, List.length_append, List.length_cons]
      omega
  simp only [encB, List.length_append]
  omega
theorem encT_long (xs : List En) (h : 1000 < xs.length) : encT xs = ⟨#[]⟩ := by unfold encT; rw [if_neg (by omega)]
theorem encT_bad (xs : List En) (k : Nat) (hk : k < xs.length) (h : entOk (xs.getD k en0) = false) : encT xs = ⟨#[]⟩ := by
  unfold encT
  rw [if_neg]
  rintro ⟨-, h2⟩
  have e : xs.getD k en0 = xs[k] := by simp [List.getD, hk]
  rw [e] at h
  have := List.all_eq_true.1 h2 xs[k] (List.getElem_mem hk)
  rw [h] at this
  cases this
theorem encT_ok (xs : List En) (h1 : xs.length ≤ 1000) (h2 : xs.all entOk = true) : encT xs = ⟨(encB xs.length xs).toArray⟩ := by unfold encT; rw [if_pos ⟨h1, h2⟩]

theorem owns_below {w w' : World} {B n size : Nat} {e : TypeId} {v : Value} {xs : List Value} (h : w.ownsRow B e size v n xs) (hb : Below w.heap.size w w') : w'.ownsRow B e size v n xs := by
  obtain ⟨h1, h2⟩ := h
  refine ⟨h1, ?_⟩
  rcases h2 with h2 | ⟨g, cap, cur, rfl, hg, hbk, hrest⟩
  · exact .inl h2
  · have hlt : g < w.heap.size := by
      by_cases hlt : g < w.heap.size
      · exact hlt
      · rw [Array.getElem?_eq_none (by omega)] at hbk; cases hbk
    exact .inr ⟨g, cap, cur, rfl, hg, (hb.block g hlt).trans hbk, hrest⟩

set_option maxRecDepth 100000 in
set_option maxHeartbeats 2000000 in
theorem specEnc_any (a : Option Addr) (cap : Nat) (xs : List En) (w : World) (hx : LieE w a xs) (hf : FitsE xs) (hlen : xs.length ≤ 1048576) :
    Calls Tryz.prog 57 #[.slice a xs.length cap] w fun e w' => e = .returned (.string (encT xs)) ∧ Below w.heap.size w w' := by
  by_cases hlong : 1000 < xs.length
  · rw [encT_long xs hlong]
    have h' : (1000 : Int) < xs.length := by omega
    go_enter Tryz.func57, Tryz.ntmps57
    go_wp2_with fail
    go_ret
    exact ⟨rfl, Below.refl _ _⟩
  · have h' : ¬ (1000 : Int) < xs.length := by omega
    generalize hT : encT xs = T
    have HT : Hid (encT xs = T) := hT
    clear hT
    have HV : Hid ((vtext (xs.length : Int)).data.toList = vb xs.length) := by show _ = _; rw [vtext_in _ (by omega) (by omega)]; simp
    have HVS : Hid ((vtext (xs.length : Int)).size ≤ 8) := vtext_size _
    go_enter Tryz.func57, Tryz.ntmps57
    go_wp2_with fail
    refine (specPut_any _ _).mono ?_
    rintro e w1 ⟨rfl, hb1⟩
    have hb0 : Below w.heap.size w (w.alloc (.cells #[] 5)) := (Below.refl _ _).alloc (Nat.le_refl _) _
    have hbw1 : Below w.heap.size w w1 := hb0.trans (hb1.mono hb0.size)
    have hl1 : w1.ownsRow w.heap.size 5 1 (.slice (some ⟨w.heap.size, 0, none⟩) 0 0) ([] : List UInt8).length (bc []) := owns_below (owns_lit w w.heap.size (Nat.le_refl _)) hb1
    go_wp2_with fail
    refine (l2Put_any w.heap.size _ [] _ w1 hl1 hbw1.size (by have := HVS.out; simp; omega)).mono ?_
    rintro e w2 ⟨v2, rfl, hown2, hb2⟩
    rw [HV.out, List.nil_append] at hown2
    have hbw2 : Below w.heap.size w w2 := hbw1.trans hb2
    clear hl1 hb0 hb1 hb2 hbw1
    go_wp2_with fail
    go_loopw [3, 4] (fun x y wr => ∃ k : Nat, y = .int .i64 k ∧ k ≤ xs.length ∧ (xs.take k).all entOk = true ∧ wr.ownsRow w.heap.size 5 1 x (encB xs.length (xs.take k)).length (bc (encB xs.length (xs.take k))) ∧ Below w.heap.size w wr) (fun _ y _ => xs.length - (intOf y).toNat)
    case atStart => exact ⟨0, rfl, by omega, rfl, by simpa [encB] using hown2, hbw2⟩
    case round =>
      obtain ⟨k, rfl, hk, hall, hown, hb⟩ := hrel
      have hbs := hb.size
      by_cases hlt : k < xs.length
      · obtain ⟨b, off, rfl, hbl, c0, c1, c2, c3⟩ := (hx.below hb).at hlt
        have hbB : b < w.heap.size := by obtain ⟨b', off', e, h, _⟩ := hx.at hlt; cases e; exact h
        have hfk := hf.at hlt
        have hik : (k : Int) < (xs.length : Int) := by omega
        have HB : Hid (entOk (xs.getD k en0) = false → T = ⟨#[]⟩) := fun h => by rw [← HT.out]; exact encT_bad xs k hlt h
        have HS : Hid (encB xs.length (xs.take (k + 1)) = encB xs.length (xs.take k) ++ ebA (xs.getD k en0) ++ ebB (xs.getD k en0)) := by show _ = _; rw [takeE_snoc xs k hlt, encB_snoc]
        have HA : Hid (entOk (xs.getD k en0) = true → (xs.take (k + 1)).all entOk = true) := fun h => by rw [takeE_snoc xs k hlt, List.all_append, hall]; simpa using h
        have hbl2 : (encB xs.length (xs.take k)).length ≤ 5025008 := by have := encB_len xs.length (xs.take k) hall; rw [List.length_take] at this; omega
        generalize xs.getD k en0 = f at *
        generalize encB xs.length (xs.take k) = l at *
        go_wp2_with fail
        refine (l2EntryOk_any f _ hfk.1 hfk.2).mono ?_
        rintro e w3 ⟨rfl, hb3⟩
        have hbw3 : Below w.heap.size w w3 := hb.trans (hb3.mono hbs)
        cases hok : entOk f with
        | false =>
          have hTe := HB.out hok
          go_wp2_with fail
          go_ret
          exact ⟨by rw [hTe]; rfl, hbw3⟩
        | true =>
          obtain ⟨q1, q2⟩ := (entOk_iff f).1 hok
          have hown3 := owns_below hown hb3
          have d0 := (hb3.cell (p := ⟨b, _, none⟩) hbl).trans c0
          have d1 := (hb3.cell (p := ⟨b, _, none⟩) hbl).trans c1
          have d2 := (hb3.cell (p := ⟨b, _, none⟩) hbl).trans c2
          have d3 := (hb3.cell (p := ⟨b, _, none⟩) hbl).trans c3
          have hbl3 : b < w3.heap.size := Nat.lt_of_lt_of_le hbl hb3.size
          have hB3 := hbw3.size
          have hAll := HA.out hok
          have t1s : (vtext (f.ky.size : Int)).size ≤ 8 := vtext_size _
          have t2s : (vtext f.sq).size ≤ 8 := vtext_size _
          have t3s : (⟨#[UInt8.ofNat f.kd.toNat]⟩ : ByteArray).size = 1 := rfl
          have t4s : (vtext (f.vl.size : Int)).size ≤ 8 := vtext_size _
          have HA1 : Hid ((((vtext (f.ky.size : Int) ++ f.ky) ++ vtext f.sq) ++ ⟨#[UInt8.ofNat f.kd.toNat]⟩).data.toList = ebA f) := by
            show _ = _
            rw [appL, appL, appL, vtext_in _ (by omega) (by omega), vtext_in _ (by omega) (by omega)]
            simp [ebA]
          have HA2 : Hid ((vtext (f.vl.size : Int) ++ f.vl).data.toList = ebB f) := by
            show _ = _
            rw [appL, vtext_in _ (by omega) (by omega)]
            simp [ebB]
          have kd0 : 0 ≤ f.kd := by omega
          have hvl : f.vl.size ≤ 4000 := by omega
          have kd1 : f.kd < 256 := by omega
          clear HB HA hb3 c0 c1 c2 c3 hown hx hf hbw2 hown2 q2 hfk
          have HP1 := specPut_any (f.ky.size : Int)
          have HP2 := specPut_any f.sq
          have HP4 := specPut_any (f.vl.size : Int)
          generalize vtext (f.ky.size : Int) = t1 at *
          generalize vtext f.sq = t2 at *
          generalize vtext (f.vl.size : Int) = t4 at *
          go_wp2_with fail
          have g1 : ¬ 9223372036854775807 < t1.size + f.ky.size := by omega
          have g2 : ¬ 9223372036854775807 < t1.size + f.ky.size + t2.size := by omega
          have g3 : ¬ 9223372036854775807 < t1.size + f.ky.size + t2.size + (⟨#[UInt8.ofNat f.kd.toNat]⟩ : ByteArray).size := by omega
          have g5 : ¬ 9223372036854775807 < t1.size + f.ky.size + t2.size + 1 := by omega
          have g4 : ¬ 9223372036854775807 < t4.size + f.vl.size := by omega
          have HZ1 : Hid ((t1 ++ f.ky ++ t2 ++ ⟨#[UInt8.ofNat f.kd.toNat]⟩).size ≤ 1017) := by show _ ≤ _; rw [appS, appS, appS]; omega
          have HZ3 : Hid ((ebA f).length ≤ 1017) := by show _ ≤ _; rw [← HA1.out, dataL]; exact HZ1.out
          have HZ2 : Hid ((t4 ++ f.vl).size ≤ 4008) := by show _ ≤ _; rw [appS]; omega
          replace HP1 : Hid (∀ w, Calls Tryz.prog 61 #[.int .i64 (f.ky.size : Int)] w fun e w' => e = .returned (.string t1) ∧ Below w.heap.size w w') := HP1
          replace HP2 : Hid (∀ w, Calls Tryz.prog 61 #[.int .i64 f.sq] w fun e w' => e = .returned (.string t2) ∧ Below w.heap.size w w') := HP2
          replace HP4 : Hid (∀ w, Calls Tryz.prog 61 #[.int .i64 (f.vl.size : Int)] w fun e w' => e = .returned (.string t4) ∧ Below w.heap.size w w') := HP4
          go_region_held3 (fun w' => w'.cell? ⟨b, off + k * 4, none⟩ = some (.string f.ky) ∧ w'.cell? ⟨b, off + k * 4 + 1, none⟩ = some (.int .i64 f.sq) ∧ w'.cell? ⟨b, off + k * 4 + 2, none⟩ = some (.int .i64 f.kd) ∧ w'.cell? ⟨b, off + k * 4 + 3, none⟩ = some (.string f.vl)) (simp [go_sem, *])
            (first
              | (go_at_call 61; have _t := hb5; refine (HP2.out _).mono ?_; rintro e w6 ⟨rfl, hb6⟩; have m0 := (hb6.cell (p := ⟨b, _, none⟩) hbl5).trans k0; have m1 := (hb6.cell (p := ⟨b, _, none⟩) hbl5).trans k1; have m2 := (hb6.cell (p := ⟨b, _, none⟩) hbl5).trans k2; have m3 := (hb6.cell (p := ⟨b, _, none⟩) hbl5).trans k3; have hbl6 := Nat.lt_of_lt_of_le hbl5 hb6.size; have hown6 : Hid (w6.ownsRow w.heap.size 5 1 _ l.length (bc l)) := owns_below hown5.out hb6; have hbw6 : Hid (Below w.heap.size w w6) := hbw5.out.trans (hb6.mono hbw5.out.size); clear _t hb6)
              | (go_at_call 61; refine (HP1.out _).mono ?_; rintro e w5 ⟨rfl, hb5⟩; have k0 := (hb5.cell (p := ⟨b, _, none⟩) hbl3).trans d0; have k1 := (hb5.cell (p := ⟨b, _, none⟩) hbl3).trans d1; have k2 := (hb5.cell (p := ⟨b, _, none⟩) hbl3).trans d2; have k3 := (hb5.cell (p := ⟨b, _, none⟩) hbl3).trans d3; have hbl5 := Nat.lt_of_lt_of_le hbl3 hb5.size; have hown5 : Hid (w5.ownsRow w.heap.size 5 1 _ l.length (bc l)) := owns_below (w := w3.drew) hown3 hb5; have hbw5 : Hid (Below w.heap.size w w5) := hbw3.drew.trans (hb5.mono hB3))
              | (go_at_call 89; refine (l2Byte_any _ _ kd0 kd1).mono ?_; rintro e w7 ⟨rfl, hb7⟩; have n0 := (hb7.cell (p := ⟨b, _, none⟩) hbl6).trans m0; have n1 := (hb7.cell (p := ⟨b, _, none⟩) hbl6).trans m1; have n2 := (hb7.cell (p := ⟨b, _, none⟩) hbl6).trans m2; have n3 := (hb7.cell (p := ⟨b, _, none⟩) hbl6).trans m3; have hbl7 := Nat.lt_of_lt_of_le hbl6 hb7.size; have hown7 : Hid (w7.ownsRow w.heap.size 5 1 _ l.length (bc l)) := owns_below hown6.out hb7; have hbw7 : Hid (Below w.heap.size w w7) := hbw6.out.trans (hb7.mono hbw6.out.size); clear hb7)
              | (go_at_call 60; refine (l2Put_any w.heap.size _ l _ _ hown7.out hbw7.out.size (by have := HZ1.out; omega)).mono ?_; rintro e w8 ⟨v8, rfl, hown8, hb8⟩; have s0 := (hb8.cell (p := ⟨b, _, none⟩) hbB).trans n0; have s1 := (hb8.cell (p := ⟨b, _, none⟩) hbB).trans n1; have s2 := (hb8.cell (p := ⟨b, _, none⟩) hbB).trans n2; have s3 := (hb8.cell (p := ⟨b, _, none⟩) hbB).trans n3; rw [HA1.out] at hown8; have hbw8 : Below w.heap.size w w8 := hbw7.out.trans hb8; have hbl8 := Nat.lt_of_lt_of_le hbl7 (hb8.size); clear hb8))
          go_wp2_with fail
          go_region_held3 (fun w' => w'.cell? ⟨b, off + k * 4 + 3, none⟩ = some (.string f.vl)) (simp [go_sem, *])
            (first
              | (go_at_call 61; refine (HP4.out _).mono ?_; rintro e w9 ⟨rfl, hb9⟩; have k9 := (hb9.cell (p := ⟨b, _, none⟩) hbl8).trans s3; have hown9 : Hid (w9.ownsRow w.heap.size 5 1 _ (l ++ ebA f).length (bc (l ++ ebA f))) := owns_below (w := w8.drew) hown8 hb9; have hbw9 : Hid (Below w.heap.size w w9) := hbw8.drew.trans (hb9.mono hbw8.size))
              | (go_at_call 60; refine (l2Put_any w.heap.size _ (l ++ ebA f) _ _ hown9.out hbw9.out.size (by have := HZ2.out; have := HZ3.out; rw [List.length_append]; omega)).mono ?_; rintro e w10 ⟨v10, rfl, hown10, hb10⟩; have k10 := (hb10.cell (p := ⟨b, _, none⟩) hbB).trans k9; rw [HA2.out] at hown10; have hbw10 : Below w.heap.size w w10 := hbw9.out.trans hb10; clear hb10))
          all_goals go_wp2_with fail
          all_goals exact ⟨⟨k + 1, by simp, by omega, hAll, by rw [HS.out]; exact hown10, hbw10⟩, by simp only [intOf]; omega⟩
      · obtain rfl : k = xs.length := by omega
        rw [List.take_length] at hall hown
        have hTe := HT.out
        rw [encT_ok xs (by omega) hall] at hTe
        have hcv := conv_row hown (by intro h0; have := vbf_pos 7 xs.length; have e := congrArg List.length h0; simp [encB] at e; simp [e.1] at this)
        rw [hTe] at hcv
        clear hTe
        go_wp2_with fail
        go_ret
        exact ⟨rfl, hb⟩
end Go.Proofs.YtgmfjninimebmaaGreatDoor
namespace Go.Proofs.YtgmfjninimebmaaGreatDoor
open Go.RowKit
set_option linter.unusedVariables false
set_option linter.unusedSimpArgs false

/-- What was read stands there as it would be written. -/
theorem gvf_bytes : ∀ (f : Nat) (l : List UInt8) (i n0 n c : Nat), gvf f l i n0 = some (n, c) →
    ∃ m, n = n0 + m * 128 ^ i ∧ c = i + (vbf (f - 1) m).length ∧ l.take (vbf (f - 1) m).length = vbf (f - 1) m ∧ (0 < i → 0 < m) ∧ (vbf (f - 1) m).length ≤ l.length := by
  intro f
  induction f with
  | zero => intro l i n0 n c h; cases h
  | succ f ih =>
    intro l i n0 n c h
    cases l with
    | nil => cases h
    | cons b r =>
      have hb := b.toNat_lt
      simp only [gvf] at h
      by_cases h1 : b.toNat < 128
      · rw [if_pos h1] at h
        by_cases h2 : b.toNat = 0 ∧ 0 < i
        · rw [if_pos h2] at h; cases h
        · rw [if_neg h2] at h
          simp only [Option.some.injEq, Prod.mk.injEq] at h
          have e : vbf (f + 1 - 1) b.toNat = [b] := by rw [vbf_lt h1]; simp
          refine ⟨b.toNat, by rw [← h.1, Nat.mod_eq_of_lt h1], by rw [e]; exact h.2.symm, by rw [e]; rfl, fun hi => by omega, by rw [e]; simp⟩
      · rw [if_neg h1] at h
        obtain ⟨m, hn, hc, ht, hm, hl⟩ := ih r (i + 1) _ n c h
        have hm' := hm (by omega)
        have e : vbf (f + 1 - 1) (b.toNat % 128 + 128 * m) = b :: vbf (f - 1) m := by
          cases f with
          | zero => simp [gvf] at h
          | succ g =>
            have e1 : (b.toNat % 128 + 128 * m) % 128 + 128 = b.toNat := by omega
            have e2 : (b.toNat % 128 + 128 * m) / 128 = m := by omega
            show vbf (g + 1) _ = b :: vbf g m
            rw [vbf_ge (by omega), e1, e2]
            simp
        refine ⟨b.toNat % 128 + 128 * m, ?_, ?_, ?_, fun _ => by omega, ?_⟩
        · rw [hn, Nat.pow_succ, Nat.add_mul, Nat.add_assoc]
          congr 2
          rw [Nat.mul_comm (128 ^ i) 128, ← Nat.mul_assoc, Nat.mul_comm m 128]
        · rw [e, hc]; simp; omega
        · rw [e]; simp [ht]
        · rw [e]; simp; exact hl

theorem gvf_le : ∀ (f : Nat) (l : List UInt8) (i n0 n c : Nat), i + f = 8 → n0 < 128 ^ i → gvf f l i n0 = some (n, c) → n ≤ 72057594037927935 := by
  intro f
  induction f with
  | zero => intro l i n0 n c _ _ h; cases h
  | succ f ih =>
    intro l i n0 n c hif hn0 h
    cases l with
    | nil => cases h
    | cons b r =>
      simp only [gvf] at h
      have hs := step_lt b.toNat hn0
      by_cases h1 : b.toNat < 128
      · rw [if_pos h1] at h
        by_cases h2 : b.toNat = 0 ∧ 0 < i
        · rw [if_pos h2] at h; cases h
        · rw [if_neg h2] at h
          simp only [Option.some.injEq, Prod.mk.injEq] at h
          have := pow128_le (i := i + 1) (by omega)
          omega
      · rw [if_neg h1] at h
        exact ih r (i + 1) _ n c (by omega) hs h

/-- A number that was read. -/
theorem gv_some {s : ByteArray} {A n c : Nat} (h : gv s (A : Int) = some (n, c)) :
    s.data.toList.take (A + c) = s.data.toList.take A ++ vb n ∧ A + c ≤ s.size ∧ n ≤ 72057594037927935 ∧ 1 ≤ c := by
  unfold gv at h
  split at h
  · rename_i hA
    simp only [Int.toNat_natCast] at h
    have hle := gvf_le 8 _ 0 0 n c rfl (by simp) h
    obtain ⟨m, hn, hc, ht, -, hl⟩ := gvf_bytes 8 _ 0 0 n c h
    obtain rfl : n = m := by simpa using hn
    have hc' : c = (vb n).length := by simpa using hc
    rw [List.length_drop, dataL] at hl
    refine ⟨?_, ?_, hle, by rw [hc']; exact vbf_pos 7 n⟩
    · have ht' : (s.data.toList.drop A).take (vb n).length = vb n := ht
      rw [List.take_add, hc', ht']
    · rw [hc']
      have := vbf_pos 7 n
      show A + (vbf 7 n).length ≤ s.size
      have hl' : (vbf 7 n).length ≤ s.size - A := hl
      omega
  · cases h

/-- A piece of a text. -/
def cut (s : ByteArray) (a b : Nat) : ByteArray := s.extract a b
theorem cut_data (s : ByteArray) (a n : Nat) (h : a + n ≤ s.size) : (cut s a (a + n)).data.toList = (s.data.toList.drop a).take n := by
  simp only [cut, ByteArray.data_extract, Array.toList_extract, List.extract]
  congr 1
  omega
theorem cut_size (s : ByteArray) (a n : Nat) (h : a + n ≤ s.size) : (cut s a (a + n)).size = n := by
  simp only [cut, ByteArray.size_extract]
  omega
theorem take_cut (s : ByteArray) (a n : Nat) (h : a + n ≤ s.size) : s.data.toList.take (a + n) = s.data.toList.take a ++ (cut s a (a + n)).data.toList := by
  rw [cut_data s a n h, List.take_add]

/-- A text with its size ahead, at place A. -/
def pc (s : ByteArray) (A : Nat) : Option (ByteArray × Nat) :=
  match gv s (A : Int) with
  | none => none
  | some (n, c) => if n ≤ s.size - (A + c) then some (cut s (A + c) (A + c + n), A + c + n) else none
theorem pc_some {s : ByteArray} {A B : Nat} {t : ByteArray} (h : pc s A = some (t, B)) :
    s.data.toList.take B = s.data.toList.take A ++ (vb t.size ++ t.data.toList) ∧ A ≤ B ∧ B ≤ s.size ∧ t.size ≤ s.size := by
  unfold pc at h
  split at h
  · cases h
  · rename_i n c hg
    obtain ⟨h1, h2, h3, h4⟩ := gv_some hg
    split at h
    · rename_i hn
      simp only [Option.some.injEq, Prod.mk.injEq] at h
      obtain ⟨rfl, rfl⟩ := h
      have hb : A + c + n ≤ s.size := by omega
      rw [take_cut s (A + c) n hb, h1, cut_size s (A + c) n hb, List.append_assoc]
      exact ⟨rfl, by omega, hb, by omega⟩
    · cases h

/-- An entry at place A. -/
def pe (s : ByteArray) (A : Nat) : Option (En × Nat) :=
  match pc s A with
  | none => none
  | some (k, B) =>
    match gv s (B : Int) with
    | none => none
    | some (q, c) =>
      if h : B + c < s.size then
        match pc s (B + c + 1) with
        | none => none
        | some (v, E) => some (⟨k, q, s[B + c].toNat, v⟩, E)
      else none
theorem pe_some {s : ByteArray} {A E : Nat} {e : En} (h : pe s A = some (e, E)) :
    s.data.toList.take E = s.data.toList.take A ++ eb e ∧ A ≤ E ∧ E ≤ s.size ∧ e.ky.size ≤ s.size ∧ e.vl.size ≤ s.size := by
  unfold pe at h
  split at h
  · cases h
  · rename_i k B hk
    obtain ⟨k1, k2, k3, k4⟩ := pc_some hk
    split at h
    · cases h
    · rename_i q c hq
      obtain ⟨q1, q2, q3, q4⟩ := gv_some hq
      split at h
      · rename_i hlt
        split at h
        · cases h
        · rename_i v E' hv
          obtain ⟨v1, v2, v3, v4⟩ := pc_some hv
          simp only [Option.some.injEq, Prod.mk.injEq] at h
          obtain ⟨rfl, rfl⟩ := h
          have hb : s.data.toList.take (B + c + 1) = s.data.toList.take (B + c) ++ [s[B + c]] := by
            have h' : B + c < s.data.toList.length := by rw [dataL]; exact hlt
            rw [List.take_succ_eq_append_getElem h']
            rfl
          refine ⟨?_, by omega, v3, k4, v4⟩
          rw [v1, hb, q1, k1]
          simp [eb, ebA, ebB]
      · cases h
/-- k entries, one behind the other. -/
def ps (s : ByteArray) : Nat → Nat → Option (List En × Nat)
  | 0, A => some ([], A)
  | k + 1, A =>
    match ps s k A with
    | none => none
    | some (xs, B) =>
      match pe s B with
      | none => none
      | some (e, E) => some (xs ++ [e], E)
theorem ps_some {s : ByteArray} {k A E : Nat} {xs : List En} (hA : A ≤ s.size) (h : ps s k A = some (xs, E)) :
    s.data.toList.take E = s.data.toList.take A ++ xs.flatMap eb ∧ A ≤ E ∧ E ≤ s.size ∧ xs.length = k ∧ ∀ e ∈ xs, e.ky.size ≤ s.size ∧ e.vl.size ≤ s.size := by
  induction k generalizing E xs with
  | zero =>
    simp only [ps, Option.some.injEq, Prod.mk.injEq] at h
    obtain ⟨rfl, rfl⟩ := h
    exact ⟨by simp, Nat.le_refl _, hA, rfl, by simp⟩
  | succ k ih =>
    simp only [ps] at h
    split at h
    · cases h
    · rename_i ys B hy
      obtain ⟨y1, y2, y3, y4, y5⟩ := ih hy
      split at h
      · cases h
      · rename_i e E' he
        obtain ⟨e1, e2, e3, e4, e5⟩ := pe_some he
        simp only [Option.some.injEq, Prod.mk.injEq] at h
        obtain ⟨rfl, rfl⟩ := h
        refine ⟨by rw [e1, y1]; simp [List.flatMap_append], by omega, e3, by simp [y4], ?_⟩
        intro x hx
        rcases List.mem_append.1 hx with hx | hx
        · exact y5 x hx
        · simp at hx; subst hx; exact ⟨e4, e5⟩
theorem ps_none {s : ByteArray} {k A : Nat} (h : ps s k A = none) : ∀ j, k ≤ j → ps s j A = none := by
  intro j hj
  induction j with
  | zero => obtain rfl : k = 0 := by omega
            exact h
  | succ j ih =>
    rcases Nat.eq_or_lt_of_le hj with rfl | hlt
    · exact h
    · simp only [ps]; rw [ih (by omega)]
/-- The first k of them. -/
theorem ps_prefix {s : ByteArray} {k A B : Nat} {xs : List En} (h : ps s k A = some (xs, B)) : ∀ j, k ≤ j → ∀ ys E, ps s j A = some (ys, E) → ∃ zs, ys = xs ++ zs := by
  intro j hj
  induction j with
  | zero => intro ys E hy
            obtain rfl : k = 0 := by omega
            rw [h] at hy; simp at hy; exact ⟨[], by simp [hy.1]⟩
  | succ j ih =>
    intro ys E hy
    rcases Nat.eq_or_lt_of_le hj with rfl | hlt
    · rw [h] at hy; simp at hy; exact ⟨[], by simp [hy.1]⟩
    · simp only [ps] at hy
      split at hy
      · cases hy
      · rename_i ys' B' hy'
        obtain ⟨zs, rfl⟩ := ih (by omega) ys' B' hy'
        split at hy
        · cases hy
        · rename_i e E' he
          simp only [Option.some.injEq, Prod.mk.injEq] at hy
          exact ⟨zs ++ [e], by rw [← hy.1]; simp⟩

/-- What DecodeEntries gives. -/
def dec (s : ByteArray) : Option (List En) :=
  match gv s 0 with
  | none => none
  | some (n, c) => if n ≤ 1000 then (match ps s n c with
    | none => none
    | some (xs, _) => if encT xs = s then some xs else none) else none

theorem enc_of_ps {s : ByteArray} {n c E : Nat} {xs : List En} (hg : gv s 0 = some (n, c)) (hn : n ≤ 1000) (h : ps s n c = some (xs, E)) (hall : xs.all entOk = true) : encT xs = ⟨(s.data.toList.take E).toArray⟩ := by
  obtain ⟨g1, g2, g3, g4⟩ := gv_some (A := 0) hg
  obtain ⟨p1, p2, p3, p4, p5⟩ := ps_some (by omega) h
  rw [encT_ok xs (by omega) hall, p1, p4]
  congr 1
  have : s.data.toList.take c = vb n := by simpa using g1
  rw [this]
  rfl
theorem dec_end {s : ByteArray} {n c E : Nat} {xs : List En} (hg : gv s 0 = some (n, c)) (hn : n ≤ 1000) (h : ps s n c = some (xs, E)) (hall : xs.all entOk = true) : dec s = if E = s.size then some xs else none := by
  have he := enc_of_ps hg hn h hall
  obtain ⟨g1, g2, g3, g4⟩ := gv_some (A := 0) hg
  obtain ⟨p1, p2, p3, p4, p5⟩ := ps_some (by omega) h
  simp only [dec, hg, if_pos hn, h]
  by_cases hE : E = s.size
  · rw [if_pos hE, if_pos]
    rw [he, hE, List.take_of_length_le (by rw [dataL]; exact Nat.le_refl _)]
  · rw [if_neg hE, if_neg]
    intro e
    rw [e] at he
    have := congrArg ByteArray.size he
    have h2 : (⟨(s.data.toList.take E).toArray⟩ : ByteArray).size = E := by show ((s.data.toList.take E).toArray).size = E; simp [List.length_take, dataL]; omega
    omega
theorem dec_bad {s : ByteArray} {n c k B : Nat} {xs : List En} (hg : gv s 0 = some (n, c)) (h : ps s k c = some (xs, B)) (hk : k ≤ n) (hall : xs.all entOk = false) : dec s = none := by
  obtain ⟨g1, g2, g3, g4⟩ := gv_some (A := 0) hg
  simp only [dec, hg]
  split
  · rename_i hn
    split
    · rfl
    · rename_i ys E hy
      obtain ⟨zs, rfl⟩ := ps_prefix h n hk ys E hy
      rw [if_neg]
      intro e
      have : encT (xs ++ zs) = ⟨#[]⟩ := by unfold encT; rw [if_neg]; rintro ⟨-, h2⟩; rw [List.all_append, hall] at h2; cases h2
      rw [this] at e
      have := congrArg ByteArray.size e
      have h0 : (⟨#[]⟩ : ByteArray).size = 0 := rfl
      omega
  · rfl
theorem dec_none {s : ByteArray} {n c k : Nat} (hg : gv s 0 = some (n, c)) (h : ps s k c = none) (hk : k ≤ n) : dec s = none := by
  simp only [dec, hg, ps_none h n hk]
  split <;> rfl
theorem dec_none0 {s : ByteArray} (hg : gv s 0 = none) : dec s = none := by simp only [dec, hg]
theorem dec_long {s : ByteArray} {n c : Nat} (hg : gv s 0 = some (n, c)) (hn : ¬ n ≤ 1000) : dec s = none := by simp only [dec, hg, if_neg hn]
end Go.Proofs.YtgmfjninimebmaaGreatDoor
