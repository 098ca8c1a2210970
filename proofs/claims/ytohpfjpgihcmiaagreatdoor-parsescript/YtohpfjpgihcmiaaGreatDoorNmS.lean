import Derived.Test.YtohpfjpgihcmiaaGreatDoorNmP

import Derived.Deep.RegionHeld3
namespace Go.Proofs.YtohpfjpgihcmiaaGreatDoor
open Go.RowKit Go.Maps
set_option linter.unusedVariables false
set_option linter.unusedSimpArgs false

theorem hdN {p : Prop} (h : p) : Hid p := h
/-- A number as a text. -/
def itB (n : Int) : ByteArray := ⟨(Lib.itoa n).toArray⟩
def dgB (u : Nat) : ByteArray := ⟨(Lib.decDigits u).toArray⟩
theorem dig_cut : ∀ d, d < 10 → (⟨#[48, 49, 50, 51, 52, 53, 54, 55, 56, 57]⟩ : ByteArray).extract d (d + 1) = ⟨#[UInt8.ofNat (48 + d)]⟩ := by decide
theorem dgB_small {u : Nat} (h : u < 10) : dgB u = ⟨#[UInt8.ofNat (48 + u)]⟩ := by
  unfold dgB
  rw [Lib.decDigits_one h]
theorem dgB_big {u : Nat} (h : ¬ u < 10) : dgB u = dgB (u / 10) ++ ⟨#[UInt8.ofNat (48 + u % 10)]⟩ := by
  unfold dgB
  rw [Lib.decDigits, dif_neg h]
  apply ByteArray.ext
  simp
theorem dgB_size (u : Nat) (h : u < 18446744073709551616) : (dgB u).size ≤ 20 := by
  show (Lib.decDigits u).toArray.size ≤ 20
  rw [List.size_toArray, Lib.decDigits_length]
  exact nDig_le 19 u (by omega)
theorem itB_nat (u : Nat) : itB (u : Int) = dgB u := by unfold itB dgB; rw [Lib.itoa_nonneg]
set_option maxRecDepth 100000 in
set_option maxHeartbeats 1000000 in
theorem showDown_any (u : Nat) (hu : u ≤ 9223372036854775808) (w : World) :
    Calls Tryz.prog 45 #[.int .i64 (-(u : Int))] w fun e w' => e = .returned (.string (dgB u)) ∧ Below w.heap.size w w' := by
  induction u using Nat.strongRecOn generalizing w with
  | _ u ih =>
    have e1 : Int.tmod (-(u : Int)) 10 = -((u % 10 : Nat) : Int) := by rw [Int.neg_tmod]; rfl
    have e2 : Int.tdiv (-(u : Int)) 10 = -((u / 10 : Nat) : Int) := by rw [Int.neg_tdiv]; rfl
    have hd10 : u % 10 < 10 := Nat.mod_lt _ (by omega)
    have hc := dig_cut (u % 10) hd10
    by_cases h : u < 10
    · have hs := dgB_small h
      go_enter Tryz.func45, Tryz.ntmps45
      go_wp2_with fail
      go_ret
      refine ⟨?_, Below.refl _ _⟩
      rw [hc, hs, Nat.mod_eq_of_lt h]
      rfl
    · have hs := dgB_big h
      have HI := hdN (ih (u / 10) (by omega) (by omega))
      have hsz := dgB_size (u / 10) (by omega)
      have hne : ¬ -10 < -(u : Int) := by omega
      have u1 : ¬ 9223372036854775807 < (dgB (u / 10)).size + 1 := by omega
      have hv9 : u / 10 ≤ 922337203685477580 := by omega
      clear ih
      generalize u % 10 = d at *
      generalize u / 10 = v at *
      rw [hs]
      clear hs
      have hwv : IntKind.i64.wrap (-(v : Int)) = -(v : Int) := by rw [IntKind.wrap_i64]; omega
      have d0 : (0 : Int) ≤ (d : Int) := by omega
      have d3 : (d : Int) ≤ (d : Int) + 1 := by omega
      have d4 : IntKind.i64.wrap ((d : Int) + 1) = (d : Int) + 1 := by rw [IntKind.wrap_i64]; omega
      have d5 : ((d : Int) + 1).toNat = d + 1 := by omega
      have d1 : (d : Int) + 1 ≤ 10 := by omega
      have d2 : wrap64 ((d : Int) + 1) = (d : Int) + 1 := by unfold wrap64; omega
      go_enter Tryz.func45, Tryz.ntmps45
      go_wp2_with fail
      have hb0 : Below w.heap.size w w := Below.refl _ _
      go_region_held3 (fun w' => True) (trivial) ((go_at_call 45; (try rw [hwv]); refine (HI.out _).mono ?_; rintro e w1 ⟨rfl, hb1⟩; have HB1 := hdN ((hb0.drew).trans (hb1.mono hb0.drew.size)); clear hb1))
      all_goals go_wp2_with fail
      all_goals go_ret
      all_goals exact ⟨by rw [show UInt8.ofNat (48 + d) = 48 + UInt8.ofNat d from by simp]; rfl, HB1.out⟩
theorem show_any (n : Int) (h1 : -9223372036854775808 ≤ n) (h2 : n ≤ 9223372036854775807) (w : World) :
    Calls Tryz.prog 21 #[.int .i64 n] w fun e w' => e = .returned (.string (itB n)) ∧ Below w.heap.size w w' := by
  by_cases hn : n < 0
  · obtain ⟨u, rfl⟩ : ∃ u : Nat, n = -(u : Int) := ⟨n.natAbs, by omega⟩
    have HD := hdN (fun w => showDown_any u (by omega) w)
    have hsz := dgB_size u (by omega)
    have u1 : ¬ 9223372036854775807 < 1 + (dgB u).size := by omega
    have hit : itB (-(u : Int)) = ⟨#[45]⟩ ++ dgB u := by
      unfold itB dgB
      rw [Lib.itoa_neg u (by omega)]
      apply ByteArray.ext
      simp
    rw [hit]
    clear hit
    go_enter Tryz.func21, Tryz.ntmps21
    go_wp2_with fail
    refine (HD.out _).mono ?_
    rintro e w1 ⟨rfl, hb1⟩
    go_wp2_with fail
    go_ret
    exact ⟨rfl, hb1⟩
  · obtain ⟨u, rfl⟩ : ∃ u : Nat, n = (u : Int) := ⟨n.toNat, by omega⟩
    have HD := hdN (fun w => showDown_any u (by omega) w)
    rw [itB_nat]
    go_enter Tryz.func21, Tryz.ntmps21
    go_wp2_with fail
    refine (HD.out _).mono ?_
    rintro e w1 ⟨rfl, hb1⟩
    go_wp2_with fail
    go_ret
    exact ⟨rfl, hb1⟩
theorem toListN {a b : ByteArray} (h : (a.toList == b.toList) = true) : a = b := by
  rw [ByteArray.toList_eq, ByteArray.toList_eq] at h
  exact ByteArray.ext (Array.toList_inj.1 (by simpa using h))
theorem bget_data (s : ByteArray) (i : Nat) (h : i < s.size) : s[i]'h = s.data.toList.getD i 0 := by
  have h' : i < s.data.toList.length := by simpa using h
  rw [List.getD_eq_getElem?_getD, List.getElem?_eq_getElem h']
  simp
  rfl
end Go.Proofs.YtohpfjpgihcmiaaGreatDoor
