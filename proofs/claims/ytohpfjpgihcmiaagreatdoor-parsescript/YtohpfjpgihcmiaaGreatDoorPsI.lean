import Derived.Test.YtohpfjpgihcmiaaGreatDoorPsH

namespace Go.Proofs.YtohpfjpgihcmiaaGreatDoor
open Go.RowKit Go.Maps
set_option linter.unusedVariables false
set_option linter.unusedSimpArgs false

/-- The first words of the lines, in their order. -/
def kN : List ByteArray := [⟨#[111, 112, 101, 110]⟩, ⟨#[112, 117, 116]⟩, ⟨#[100, 101, 108]⟩, ⟨#[98, 97, 116, 99, 104]⟩, ⟨#[115, 121, 110, 99]⟩, ⟨#[103, 101, 116]⟩, ⟨#[115, 99, 97, 110]⟩, ⟨#[102, 108, 117, 115, 104]⟩, ⟨#[99, 111, 109, 112, 97, 99, 116]⟩, ⟨#[99, 108, 111, 115, 101]⟩, ⟨#[99, 114, 97, 115, 104]⟩, ⟨#[102, 117, 101, 108]⟩, ⟨#[112, 111, 107, 101]⟩, ⟨#[99, 104, 101, 99, 107]⟩, ⟨#[114, 101, 112, 97, 105, 114]⟩, ⟨#[100, 117, 109, 112]⟩, ⟨#[108, 105, 115, 116]⟩]
/-- The readers, in the same order. -/
def kF : List Nat := [30, 31, 32, 33, 30, 32, 31, 30, 34, 30, 35, 34, 36, 30, 30, 30, 30]
/-- The program's table of kinds. -/
def KsL (w : World) (g : Nat) : Prop := g < w.heap.size ∧ ∀ i, i < 17 → w.cell? ⟨g, i * 3, none⟩ = some (.string (kN.getD i ByteArray.empty)) ∧ w.cell? ⟨g, i * 3 + 1, none⟩ = some (.int .i64 ((i : Int) + 1)) ∧ w.cell? ⟨g, i * 3 + 2, none⟩ = some (.func (.func (kF.getD i 0)) #[] #[])
theorem KsL.below {w w' : World} {g : Nat} (h : KsL w g) (hb : Below w.heap.size w w') : KsL w' g := by
  refine ⟨Nat.lt_of_lt_of_le h.1 hb.size, fun i hi => ?_⟩
  obtain ⟨a0, a1, a2⟩ := h.2 i hi
  exact ⟨(hb.cell (p := ⟨g, i * 3, none⟩) h.1).trans a0, (hb.cell (p := ⟨g, i * 3 + 1, none⟩) h.1).trans a1, (hb.cell (p := ⟨g, i * 3 + 2, none⟩) h.1).trans a2⟩
set_option maxRecDepth 100000 in
set_option maxHeartbeats 4000000 in
theorem lineKinds_any (w : World) : Calls Tryz.prog 15 #[] w fun e w' => ∃ g, e = .returned (.slice (some ⟨g, 0, none⟩) 17 17) ∧ w.heap.size ≤ g ∧ KsL w' g ∧ Below w.heap.size w w' := by
  go_enter Tryz.func15, Tryz.ntmps15
  go_wp2_with fail
  go_ret
  refine ⟨w.heap.size, rfl, Nat.le_refl _, ⟨by simp, fun i hi => ?_⟩, (Below.refl _ _).alloc (Nat.le_refl _) _⟩
  simp only [World.cell?, World.heap_alloc_new]
  match i, hi with
  | 0, _ => exact ⟨rfl, rfl, rfl⟩
  | 1, _ => exact ⟨rfl, rfl, rfl⟩
  | 2, _ => exact ⟨rfl, rfl, rfl⟩
  | 3, _ => exact ⟨rfl, rfl, rfl⟩
  | 4, _ => exact ⟨rfl, rfl, rfl⟩
  | 5, _ => exact ⟨rfl, rfl, rfl⟩
  | 6, _ => exact ⟨rfl, rfl, rfl⟩
  | 7, _ => exact ⟨rfl, rfl, rfl⟩
  | 8, _ => exact ⟨rfl, rfl, rfl⟩
  | 9, _ => exact ⟨rfl, rfl, rfl⟩
  | 10, _ => exact ⟨rfl, rfl, rfl⟩
  | 11, _ => exact ⟨rfl, rfl, rfl⟩
  | 12, _ => exact ⟨rfl, rfl, rfl⟩
  | 13, _ => exact ⟨rfl, rfl, rfl⟩
  | 14, _ => exact ⟨rfl, rfl, rfl⟩
  | 15, _ => exact ⟨rfl, rfl, rfl⟩
  | 16, _ => exact ⟨rfl, rfl, rfl⟩
  | i + 17, h => exact absurd h (by omega)
theorem eqB_dec (a x : ByteArray) : (a.toList == x.toList) = decide (a = x) := by
  cases h : (a.toList == x.toList) with
  | true =>
    rw [ByteArray.toList_eq, ByteArray.toList_eq] at h
    have e : a = x := ByteArray.ext (Array.toList_inj.1 (by simpa using h))
    exact (decide_eq_true e).symm
  | false =>
    refine (decide_eq_false fun e => ?_).symm
    subst e
    simp at h
/-- Which of the first words it is. -/
def kI (x : ByteArray) : Nat := kN.findIdx (fun y => decide (y = x))
theorem kI_le (x : ByteArray) : kI x ≤ 17 := List.findIdx_le_length
theorem kI_at (x : ByteArray) (i : Nat) (hi : i < 17) (h : kN.getD i ByteArray.empty = x) (hn : ∀ j, j < i → kN.getD j ByteArray.empty ≠ x) : kI x = i := by
  have hl : kN.length = 17 := rfl
  have hgd : ∀ j, (hj : j < kN.length) → kN.getD j ByteArray.empty = kN[j] := fun j hj => by simp [List.getD, hj]
  refine (List.findIdx_eq (by omega)).2 ⟨?_, fun j hj => ?_⟩
  · rw [← hgd i (by omega), h]; simp
  · have := hn j hj
    rw [hgd j (by omega)] at this
    simp [this]
theorem kI_no (x : ByteArray) (hn : ∀ j, j < 17 → kN.getD j ByteArray.empty ≠ x) : kI x = 17 := by
  have hl : kN.length = 17 := rfl
  have : kI x = kN.length := List.findIdx_eq_length.2 (fun y hy => by
    obtain ⟨j, hj, rfl⟩ := List.mem_iff_getElem.1 hy
    have := hn j (by omega)
    have e : kN.getD j ByteArray.empty = kN[j] := by simp [List.getD, hj]
    rw [e] at this
    simp [this])
  omega
set_option maxRecDepth 100000 in
set_option maxHeartbeats 1000000 in
theorem isWord_any (a x : ByteArray) (k : Int) (f : Value) (hf : f.oneCell' = true) (q : Nat) (w : World) (hq : q < w.heap.size) (hx : w.cell? ⟨q, 0, none⟩ = some (.string x)) :
    Calls Tryz.prog 38 #[.agg #[.string a, .int .i64 k, f], .pointer (some ⟨q, 0, none⟩)] w fun e w' => e = .returned (.bool (decide (a = x))) ∧ Below w.heap.size w w' := by
  have hne : ¬ q = w.heap.size := by omega
  go_enter Tryz.func38, Tryz.ntmps38
  go_wp2_with fail
  go_ret
  exact ⟨by rw [eqB_dec]; rfl, (Below.refl _ _).alloc (Nat.le_refl _) _⟩
def kR (x : ByteArray) : Int := if kI x < 17 then (kI x : Int) else -1
set_option maxRecDepth 100000 in
set_option maxHeartbeats 2000000 in
theorem findKind_any (x : ByteArray) (g q : Nat) (w : World) (hk : KsL w g) (hq : q < w.heap.size) (hx : w.cell? ⟨q, 0, none⟩ = some (.string x)) :
    Calls Tryz.prog 37 #[.slice (some ⟨g, 0, none⟩) 17 17, .func (.func 38) #[] #[.pointer (some ⟨q, 0, none⟩)]] w fun e w' => e = .returned (.int .i64 (kR x)) ∧ Below w.heap.size w w' := by
  go_enter Tryz.func37, Tryz.ntmps37
  go_wp2_with fail
  go_loopw [5, 8] (fun v5 v8 W => ∃ kk : Nat, v8 = .int .i64 (kk : Int) ∧ kk ≤ 17 ∧ Hid (Below w.heap.size w W) ∧ Hid (∀ j, j < kk → kN.getD j ByteArray.empty ≠ x)) (fun _ v8 _ => 17 - (intOf v8).toNat)
  case atStart => exact ⟨0, rfl, by omega, Below.refl _ _, fun j hj => absurd hj (Nat.not_lt_zero _)⟩
  case round =>
    obtain ⟨kk, rfl, hkk, HB, HA⟩ := hrel
    by_cases hlt : kk < 17
    · have hlt' : (kk : Int) < 17 := by omega
      have hkr := hk.below HB.out
      obtain ⟨a0, a1, a2⟩ := hkr.2 kk hlt
      have hgl := hkr.1
      have hx' : wr.cell? ⟨q, 0, none⟩ = some (.string x) := (HB.out.cell (p := ⟨q, 0, none⟩) hq).trans hx
      have HW := hdN (isWord_any (kN.getD kk ByteArray.empty) x ((kk : Int) + 1) (.func (.func (kF.getD kk 0)) #[] #[]) rfl q wr (Nat.lt_of_lt_of_le hq HB.out.size) hx')
      have HK : Hid (kN.getD kk ByteArray.empty = kN.getD kk ByteArray.empty) := rfl
      generalize hy : kN.getD kk ByteArray.empty = y at *
      generalize kF.getD kk 0 = fn at *
      have HY := hdN hy
      clear hy hkr hx' hx
      cases hq2 : decide (y = x) with
      | true =>
        rw [hq2] at HW
        go_wp2_with fail
        refine HW.out.mono ?_
        rintro e w' ⟨rfl, hb'⟩
        go_wp2_with fail
        go_ret
        refine ⟨?_, HB.out.trans (hb'.mono HB.out.size)⟩
        have e : kI x = kk := kI_at x kk hlt (HY.out.trans (of_decide_eq_true hq2)) HA.out
        unfold kR
        rw [e, if_pos hlt]
        rfl
      | false =>
        rw [hq2] at HW
        go_wp2_with fail
        refine HW.out.mono ?_
        rintro e w' ⟨rfl, hb'⟩
        go_wp2_with fail
        refine ⟨⟨kk + 1, by go_num, by omega, HB.out.trans (hb'.mono HB.out.size), fun j hj => ?_⟩, by simp only [intOf]; omega⟩
        by_cases hjk : j = kk
        · subst hjk
          rw [HY.out]
          exact of_decide_eq_false hq2
        · exact HA.out j (by omega)
    · have hlt' : ¬ (kk : Int) < 17 := by omega
      have hk17 : kk = 17 := by omega
      go_wp2_with fail
      go_ret
      refine ⟨?_, HB.out⟩
      have e : kI x = 17 := kI_no x (by rw [← hk17]; exact HA.out)
      unfold kR
      rw [e, if_neg (by omega)]
      rfl
end Go.Proofs.YtohpfjpgihcmiaaGreatDoor
