import Derived.Test.YtgkhjjnhikbdaaaSyA

import Derived.Laws.Concat
import Derived.Deep.Cut
import Derived.Deep.RegionWith
namespace Go.Proofs.Ytgkhjjnhikbdaaa
open Go.RowKit Go.Maps
set_option linter.unusedVariables false
set_option linter.unusedSimpArgs false

def digB (d : Nat) : ByteArray := (⟨#[48, 49, 50, 51, 52, 53, 54, 55, 56, 57]⟩ : ByteArray).extract d (d + 1)
theorem digB_size (d : Nat) : (digB d).size ≤ 1 := by
  unfold digB
  simp only [ByteArray.size_extract]
  omega
def padB (i : Nat) : ByteArray := digB (i / 100 % 10) ++ digB (i / 10 % 10) ++ digB (i % 10)
theorem padB_size (i : Nat) : (padB i).size ≤ 3 := by
  unfold padB
  have h1 := digB_size (i / 100 % 10)
  have h2 := digB_size (i / 10 % 10)
  have h3 := digB_size (i % 10)
  simp only [ByteArray.size_append]
  omega
set_option maxRecDepth 100000 in
set_option maxHeartbeats 1000000 in
theorem l1Pad_any (i : Nat) (hi : i ≤ 1000) (w : World) :
    Calls Try.prog 49 #[.int .i64 i] w fun e w' => e = .returned (.string (padB i)) ∧ Below w.heap.size w w' := by
  obtain ⟨R, hR⟩ : ∃ R, R = padB i := ⟨_, rfl⟩
  rw [← hR]
  replace hR := hd0 hR
  go_enter Try.func49, Try.ntmps49
  go_upto_region 5 with fail
  have e1 : (i : Int) / 100 % 10 = ((i / 100 % 10 : Nat) : Int) := by omega
  have e2 : (i : Int) / 10 % 10 = ((i / 10 % 10 : Nat) : Int) := by omega
  have e3 : (i : Int) % 10 = ((i % 10 : Nat) : Int) := by omega
  rw [e1, e2, e3]
  clear e1 e2 e3
  have l1 : i / 100 % 10 < 10 := by omega
  have l2 : i / 10 % 10 < 10 := by omega
  have l3 : i % 10 < 10 := by omega
  have HRR : Hid (R = (⟨#[48, 49, 50, 51, 52, 53, 54, 55, 56, 57]⟩ : ByteArray).extract (i / 100 % 10) (i / 100 % 10 + 1) ++ (⟨#[48, 49, 50, 51, 52, 53, 54, 55, 56, 57]⟩ : ByteArray).extract (i / 10 % 10) (i / 10 % 10 + 1) ++ (⟨#[48, 49, 50, 51, 52, 53, 54, 55, 56, 57]⟩ : ByteArray).extract (i % 10) (i % 10 + 1)) := hR.out
  clear hR
  generalize i / 100 % 10 = d1 at *
  generalize i / 10 % 10 = d2 at *
  generalize i % 10 = d3 at *
  have hL : (⟨#[48, 49, 50, 51, 52, 53, 54, 55, 56, 57]⟩ : ByteArray).size = 10 := rfl
  generalize (⟨#[48, 49, 50, 51, 52, 53, 54, 55, 56, 57]⟩ : ByteArray) = L at *
  have HS : Hid (∀ d, (L.extract d (d + 1)).size ≤ 1) := fun d => by rw [ByteArray.size_extract]; omega
  have w1 : IntKind.i64.wrap ((d1 : Int) + 1) = (d1 : Int) + 1 := by rw [IntKind.wrap_i64]; omega
  have w2 : IntKind.i64.wrap ((d2 : Int) + 1) = (d2 : Int) + 1 := by rw [IntKind.wrap_i64]; omega
  have w3 : IntKind.i64.wrap ((d3 : Int) + 1) = (d3 : Int) + 1 := by rw [IntKind.wrap_i64]; omega
  have b1 : (d1 : Int) + 1 ≤ (L.size : Int) := by omega
  have b2 : (d2 : Int) + 1 ≤ (L.size : Int) := by omega
  have b3 : (d3 : Int) + 1 ≤ (L.size : Int) := by omega
  have z1 : (0 : Int) ≤ (d1 : Int) + 1 := by omega
  have z2 : (0 : Int) ≤ (d2 : Int) + 1 := by omega
  have z3 : (0 : Int) ≤ (d3 : Int) + 1 := by omega
  have y1 : (d1 : Int) ≤ (d1 : Int) + 1 := by omega
  have y2 : (d2 : Int) ≤ (d2 : Int) + 1 := by omega
  have y3 : (d3 : Int) ≤ (d3 : Int) + 1 := by omega
  have t1 : ((d1 : Int) + 1).toNat = d1 + 1 := by omega
  have t2 : ((d2 : Int) + 1).toNat = d2 + 1 := by omega
  have t3 : ((d3 : Int) + 1).toNat = d3 + 1 := by omega
  have s1 : ¬ 9223372036854775807 < (L.extract d1 (d1 + 1)).size + (L.extract d2 (d2 + 1)).size := by
    have h1 := HS.out d1
    have h2 := HS.out d2
    omega
  have s2 : ¬ 9223372036854775807 < (L.extract d1 (d1 + 1) ++ L.extract d2 (d2 + 1)).size + (L.extract d3 (d3 + 1)).size := by
    have h1 := HS.out d1
    have h2 := HS.out d2
    have h3 := HS.out d3
    rw [ByteArray.size_append]
    omega
  clear hL
  go_region_with (fail)
  go_wp2_with fail

  go_ret
  exact ⟨by rw [HRR.out]; rfl, (Below.refl _ w).drew⟩
end Go.Proofs.Ytgkhjjnhikbdaaa
