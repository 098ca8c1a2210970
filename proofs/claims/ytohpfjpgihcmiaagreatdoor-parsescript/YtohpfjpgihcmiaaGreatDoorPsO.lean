import Derived.Test.YtohpfjpgihcmiaaGreatDoorPsN

namespace Go.Proofs.YtohpfjpgihcmiaaGreatDoor
open Go.RowKit Go.Maps
set_option linter.unusedVariables false
set_option linter.unusedSimpArgs false

theorem pre_take (s h : ByteArray) (hl : h.size ≤ s.size) : h.data.toList.isPrefixOf s.data.toList = ((s.extract 0 h.size).toList == h.toList) := by
  have e1 : (s.extract 0 h.size).toList = s.data.toList.take h.size := by
    rw [ByteArray.toList_eq]
    simp
  have e2 : h.toList = h.data.toList := ByteArray.toList_eq _
  have e3 : h.data.toList.length = h.size := by rw [Array.length_toList]; rfl
  rw [e1, e2, Bool.eq_iff_iff, List.isPrefixOf_iff_prefix, beq_iff_eq, List.prefix_iff_eq_take, e3]
  exact eq_comm
set_option maxRecDepth 100000 in
set_option maxHeartbeats 1000000 in
theorem begins_any (s h : ByteArray) (w : World) (hs : s.size ≤ 1048576) (hh : h.size ≤ 1048576) :
    Calls Tryz.prog 10 #[.string s, .string h] w fun e w' => e = .returned (.bool (h.data.toList.isPrefixOf s.data.toList)) ∧ Below w.heap.size w w' := by
  by_cases hl : h.size ≤ s.size
  · rw [pre_take s h hl]
    have hl' : (h.size : Int) ≤ (s.size : Int) := by omega
    have h0 : (0 : Int) ≤ (h.size : Int) := by omega
    generalize hX : ((s.extract 0 h.size).toList == h.toList) = X
    go_enter Tryz.func10, Tryz.ntmps10
    go_wp2_with fail
    go_ret
    exact ⟨rfl, Below.refl _ _⟩
  · have hf : h.data.toList.isPrefixOf s.data.toList = false := by
      cases hp : h.data.toList.isPrefixOf s.data.toList with
      | false => rfl
      | true =>
        have := (List.isPrefixOf_iff_prefix.1 hp).length_le
        rw [Array.length_toList, Array.length_toList] at this
        exact absurd this hl
    rw [hf]
    have hl' : ¬ (h.size : Int) ≤ (s.size : Int) := by omega
    go_enter Tryz.func10, Tryz.ntmps10
    go_wp2_with fail
    go_ret
    exact ⟨rfl, Below.refl _ _⟩
set_option maxRecDepth 100000 in
set_option maxHeartbeats 1000000 in

def kM : List ByteArray := [⟨#[]⟩, ⟨#[111, 112, 101, 110]⟩, ⟨#[112, 117, 116]⟩, ⟨#[100, 101, 108]⟩, ⟨#[98, 97, 116, 99, 104]⟩, ⟨#[115, 121, 110, 99]⟩, ⟨#[103, 101, 116]⟩, ⟨#[115, 99, 97, 110]⟩, ⟨#[102, 108, 117, 115, 104]⟩, ⟨#[99, 111, 109, 112, 97, 99, 116]⟩, ⟨#[99, 108, 111, 115, 101]⟩, ⟨#[99, 114, 97, 115, 104]⟩, ⟨#[102, 117, 101, 108]⟩, ⟨#[112, 111, 107, 101]⟩, ⟨#[99, 104, 101, 99, 107]⟩, ⟨#[114, 101, 112, 97, 105, 114]⟩, ⟨#[100, 117, 109, 112]⟩, ⟨#[108, 105, 115, 116]⟩]
def kH : List ByteArray := [⟨#[]⟩, ⟨#[]⟩, ⟨#[119, 119]⟩, ⟨#[119]⟩, ⟨#[43]⟩, ⟨#[]⟩, ⟨#[119]⟩, ⟨#[119, 119]⟩, ⟨#[]⟩, ⟨#[110]⟩, ⟨#[]⟩, ⟨#[42]⟩, ⟨#[110]⟩, ⟨#[119, 110, 119]⟩, ⟨#[]⟩, ⟨#[]⟩, ⟨#[]⟩, ⟨#[]⟩]
/-- The model's word for what follows a first word. -/
def shB (n : Nat) : ByteArray := match n with
  | 1 => ⟨#[119]⟩
  | 2 => ⟨#[119, 119]⟩
  | 3 => ⟨#[110]⟩
  | 4 => ⟨#[119, 110, 119]⟩
  | 5 => ⟨#[42]⟩
  | 6 => ⟨#[43]⟩
  | _ => ⟨#[]⟩
theorem kM_succ (j : Nat) : kM.getD (j + 1) ByteArray.empty = kN.getD j ByteArray.empty := rfl
theorem kH_succ (j : Nat) (hj : j < 17) : kH.getD (j + 1) ByteArray.empty = shB (kS.getD j 0) := by
  match j, hj with
  | 0, _ => rfl
  | 1, _ => rfl
  | 2, _ => rfl
  | 3, _ => rfl
  | 4, _ => rfl
  | 5, _ => rfl
  | 6, _ => rfl
  | 7, _ => rfl
  | 8, _ => rfl
  | 9, _ => rfl
  | 10, _ => rfl
  | 11, _ => rfl
  | 12, _ => rfl
  | 13, _ => rfl
  | 14, _ => rfl
  | 15, _ => rfl
  | 16, _ => rfl
  | j + 17, h => exact absurd h (by omega)
def kdT (s : ByteArray) : Value := if kI s < 17 then .tuple #[.int .i64 ((kI s : Int) + 1), .string (shB (kS.getD (kI s) 0))] else .tuple #[.int .i64 0, .string ⟨#[]⟩]
theorem kdT_lt {s : ByteArray} (h : kI s < 17) : kdT s = .tuple #[.int .i64 ((kI s : Int) + 1), .string (shB (kS.getD (kI s) 0))] := if_pos h
theorem kdT_no {s : ByteArray} (h : ¬ kI s < 17) : kdT s = .tuple #[.int .i64 0, .string ⟨#[]⟩] := if_neg h
set_option maxRecDepth 100000 in
set_option maxHeartbeats 4000000 in
theorem l7Kind_any (s : ByteArray) (w : World) (hs : s.size ≤ 1048576) :
    Calls Tryz.prog 22 #[.string s] w fun e w' => e = .returned (kdT s) ∧ Below w.heap.size w w' := by
  obtain ⟨W1, hW1⟩ : ∃ W1, W1 = w.alloc (.cells ((kM.map Value.string).toArray) 9) := ⟨_, rfl⟩
  obtain ⟨W2, hW2⟩ : ∃ W2, W2 = W1.alloc (.cells ((kH.map Value.string).toArray) 9) := ⟨_, rfl⟩
  have hb1 : Below w.heap.size w W1 := by rw [hW1]; exact (Below.refl _ _).alloc (Nat.le_refl _) _
  have hb2 : Below W1.heap.size W1 W2 := by rw [hW2]; exact (Below.refl _ _).alloc (Nat.le_refl _) _
  have hl1 : LieP W1 (some ⟨w.heap.size, 0, none⟩) kM := by rw [hW1]; exact lieP_split w kM
  have hl2 : LieP W2 (some ⟨W1.heap.size, 0, none⟩) kH := by rw [hW2]; exact lieP_split W1 kH
  have hs1 : W1.heap.size = w.heap.size + 1 := by rw [hW1]; exact size_alloc _ _
  have hs2 : W2.heap.size = w.heap.size + 2 := by rw [hW2, size_alloc, hs1]
  have HM : Hid (∀ i, i < 18 → W2.cell? ⟨w.heap.size, i, none⟩ = some (.string (kM.getD i ByteArray.empty))) := fun i hi => by
    rcases hl1.below hb2 with h | ⟨b, off, e, hlt, hc⟩
    · cases h
    · cases e
      have := hc i hi
      rwa [Nat.zero_add] at this
  have HH : Hid (∀ i, i < 18 → W2.cell? ⟨w.heap.size + 1, i, none⟩ = some (.string (kH.getD i ByteArray.empty))) := fun i hi => by
    rcases hl2 with h | ⟨b, off, e, hlt, hc⟩
    · cases h
    · rw [hs1] at e
      cases e
      have := hc i hi
      rwa [Nat.zero_add] at this
  have HB : Hid (Below w.heap.size w W2) := hb1.trans (hb2.mono hb1.size)
  have HW : Hid (W2 = (w.alloc (.cells ((kM.map Value.string).toArray) 9)).alloc (.cells ((kH.map Value.string).toArray) 9)) := by show _ = _; rw [hW2, hW1]
  clear hb1 hb2 hl1 hl2 hW1 hW2 hs1
  go_enter Tryz.func22, Tryz.ntmps22
  go_wp2_with fail
  go_loopw [6] (fun v6 W => ∃ kk : Nat, v6 = .int .i64 ((kk : Int) + 1) ∧ kk ≤ 17 ∧ Hid (W = W2) ∧ Hid (∀ j, j < kk → kN.getD j ByteArray.empty ≠ s)) (fun v6 _ => 18 - (intOf v6).toNat)
  case atStart => exact ⟨0, rfl, by omega, HW.out.symm, fun j hj => absurd hj (Nat.not_lt_zero _)⟩
  case round =>
    obtain ⟨kk, rfl, hkk, HWW, HA⟩ := hrel
    have hww := HWW.out
    subst hww
    clear HWW HW
    by_cases hlt : kk < 17
    · have hlt' : (kk : Int) + 1 < 18 := by omega
      have c0 : (0 : Int) ≤ (kk : Int) + 1 := by omega
      have c1 : ((kk : Int) + 1).toNat = kk + 1 := by omega
      have m0 := HM.out (kk + 1) (by omega)
      have m1 := HH.out (kk + 1) (by omega)
      rw [kM_succ] at m0
      rw [kH_succ kk hlt] at m1
      have hsz : w.heap.size + 1 < wr.heap.size := by omega
      have hsz1 : w.heap.size < wr.heap.size := by omega
      have HE := hdN (eqB_dec (kN.getD kk ByteArray.empty) s)
      generalize hy : kN.getD kk ByteArray.empty = y at *
      have HY := hdN hy
      clear hy
      cases hq2 : decide (y = s) with
      | true =>
        have he : (y.toList == s.toList) = true := HE.out.trans hq2
        have hkI : kI s = kk := kI_at s kk hlt (HY.out.trans (of_decide_eq_true hq2)) HA.out
        have HKI := hdN hkI
        clear hkI
        obtain ⟨SH, hSH⟩ : ∃ SH, SH = shB (kS.getD kk 0) := ⟨_, rfl⟩
        rw [← hSH] at m1
        have HSH := hdN hSH
        clear HE hSH
        go_wp2_with fail
        go_region_law (fail)
        all_goals
          go_wp2_with fail
          go_ret2
          refine ⟨?_, HB.out.drew⟩
          rw [kdT_lt (by rw [HKI.out]; exact hlt), HKI.out, ← HSH.out]
          rfl
      | false =>
        have he : (y.toList == s.toList) = false := HE.out.trans hq2
        clear HE
        go_wp2_with fail
        refine ⟨⟨kk + 1, by go_num, by omega, trivial, fun j hj => ?_⟩, by simp only [intOf]; omega⟩
        by_cases hjk : j = kk
        · subst hjk
          rw [HY.out]
          exact of_decide_eq_false hq2
        · exact HA.out j (by omega)
    · have hlt' : ¬ (kk : Int) + 1 < 18 := by omega
      have hk17 : kk = 17 := by omega
      go_wp2_with fail
      go_ret2
      refine ⟨?_, HB.out⟩
      have e : kI s = 17 := kI_no s (by rw [← hk17]; exact HA.out)
      rw [kdT_no (by omega)]
      rfl
end Go.Proofs.YtohpfjpgihcmiaaGreatDoor
