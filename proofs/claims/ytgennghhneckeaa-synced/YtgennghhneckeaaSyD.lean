import Derived.Test.YtgennghhneckeaaSyC

import Derived.Laws.Concat
namespace Go.Proofs.Ytgennghhneckeaa
open Go.RowKit Go.Maps
set_option linter.unusedVariables false
set_option linter.unusedSimpArgs false

set_option maxRecDepth 100000 in
set_option maxHeartbeats 1000000 in
theorem without_own (a : Option Addr) (cap : Nat) (xs : List Fl) (s : ByteArray) (w : World) (hx : Lie w a xs) (hlen : xs.length ≤ 1048576) :
    Calls Try.prog 40 #[.slice a xs.length cap, .string s] w fun e w' =>
      ∃ v, e = .returned v ∧ w'.ownsRow w.heap.size 31 3 v (wo xs s).length (cellsF (wo xs s)) ∧ v ≠ .slice none 0 0 ∧ Below w.heap.size w w' := by
  obtain ⟨i0, hi, hz0, hz1, hz2⟩ := info_parts iFile_info
  go_enter Try.func40, Try.ntmps40
  go_wp2
  go_loopw [5, 6] (fun v i wr => ∃ k : Nat, k ≤ xs.length ∧ i = .int .i64 k ∧ wr.ownsRow w.heap.size 31 3 v (wo (xs.take k) s).length (cellsF (wo (xs.take k) s)) ∧ Hid (v ≠ .slice none 0 0) ∧ Below w.heap.size w wr) (fun _ i _ => xs.length - (intOf i).toNat)
  case atStart => exact ⟨0, Nat.zero_le _, rfl, owns_lit0 w _ _ (Nat.le_refl _), (show Hid _ from (by intro h; cases h)), (Below.refl _ _).alloc (Nat.le_refl _) _⟩
  case round =>
    obtain ⟨k, hk, rfl, hown, hvn, hb⟩ := hrel
    by_cases hlt : k < xs.length
    · obtain ⟨b, off, rfl, hbl, c0, c1, c2⟩ := (hx.below hb).at hlt
      have HS : Hid (wo (xs.take (k + 1)) s = if ((xs.getD k fl0).nm.toList == s.toList) = true then wo (xs.take k) s else wo (xs.take k) s ++ [xs.getD k fl0]) := by show _ = _; rw [take_snoc xs k hlt, wo_snoc]
      have hwl : (wo (xs.take k) s).length ≤ k := Nat.le_trans (wo_length _ _) (List.length_take_le _ _)
      generalize xs.getD k fl0 = f at *
      have hbs := hb.size
      cases he : (f.nm.toList == s.toList) with
      | true =>
        have HE : Hid (wo (xs.take (k + 1)) s = wo (xs.take k) s) := by show _ = _; rw [HS.out, if_pos he]
        clear HS
        go_wp2
        exact ⟨⟨k + 1, by omega, by go_num, by rw [HE.out]; exact hown, hvn, hb⟩, by simp [intOf]; omega⟩
      | false =>
        have HE : Hid (wo (xs.take (k + 1)) s = wo (xs.take k) s ++ [f]) := by show _ = _; rw [HS.out, if_neg (by simp [he])]
        clear HS
        go_wp2_with (at_builtin; refine wpList_append_own _ rfl _ _ 23 rfl w.heap.size 31 i0 _ 3 40 Try.underlying23 hi hz0 hz1 hz2 rfl (by decide) _ _ _ rfl (hown.alloc _) ⟨wr.heap.size, 0, none⟩ 1 1 [.string f.nm, .string f.dt, .int .i64 f.sy] rfl rfl (cell_first3 _ _ _ _ _) (fun x hx => by simp at hx; rcases hx with rfl | rfl | rfl <;> rfl) (by unfold maxLen; omega) (by omega) (by simp; omega) ?_; intro v' w4 hown' hgrow hnil)
        refine ⟨⟨k + 1, by omega, by go_num, ?_, (show Hid _ from fun h => hvn.out (hnil.1 h).1), ?_⟩, by simp [intOf]; omega⟩
        · rw [HE.out, cellsF_snoc, List.length_append]; exact hown'
        · exact (hb.alloc hbs _).grown hgrow (by simp; omega) (owns_base hown)
    · obtain rfl : k = xs.length := by omega
      rw [List.take_length] at hown
      go_wp2
      go_ret
      exact ⟨_, rfl, hown, hvn.out, hb⟩

def digB (d : Nat) : ByteArray := (⟨#[48, 49, 50, 51, 52, 53, 54, 55, 56, 57]⟩ : ByteArray).extract d (d + 1)
theorem digB_size (d : Nat) : (digB d).size ≤ 1 := by
  unfold digB
  simp only [ByteArray.size_extract]
  omega
def padB (i : Nat) : ByteArray := digB (i / 100 % 10) ++ digB (i / 10 % 10) ++ digB (i % 10)
theorem padB_size (i : Nat) : (padB i).size ≤ 3 := by
  unfold padB
  have h1 := digB_size (i / 100 % 10)
  have h2 := digB_size (i / 10 % 10)
  have h3 := digB_size (i % 10)
  simp only [ByteArray.size_append]
  omega
set_option maxRecDepth 100000 in
set_option maxHeartbeats 1000000 in
theorem l1Pad_any (i : Nat) (hi : i ≤ 1000) (w : World) :
    Calls Try.prog 46 #[.int .i64 i] w fun e w' => e = .returned (.string (padB i)) ∧ Below w.heap.size w w' := by
  obtain ⟨R, hR⟩ : ∃ R, R = padB i := ⟨_, rfl⟩
  rw [← hR]
  replace hR := hd0 hR
  go_enter Try.func46, Try.ntmps46
  go_upto_region 5 with fail
  have e1 : (i : Int) / 100 % 10 = ((i / 100 % 10 : Nat) : Int) := by omega
  have e2 : (i : Int) / 10 % 10 = ((i / 10 % 10 : Nat) : Int) := by omega
  have e3 : (i : Int) % 10 = ((i % 10 : Nat) : Int) := by omega
  rw [e1, e2, e3]
  clear e1 e2 e3
  have l1 : i / 100 % 10 < 10 := by omega
  have l2 : i / 10 % 10 < 10 := by omega
  have l3 : i % 10 < 10 := by omega
  have HRR : Hid (R = (⟨#[48, 49, 50, 51, 52, 53, 54, 55, 56, 57]⟩ : ByteArray).extract (i / 100 % 10) (i / 100 % 10 + 1) ++ (⟨#[48, 49, 50, 51, 52, 53, 54, 55, 56, 57]⟩ : ByteArray).extract (i / 10 % 10) (i / 10 % 10 + 1) ++ (⟨#[48, 49, 50, 51, 52, 53, 54, 55, 56, 57]⟩ : ByteArray).extract (i % 10) (i % 10 + 1)) := hR.out
  clear hR
  generalize i / 100 % 10 = d1 at *
  generalize i / 10 % 10 = d2 at *
  generalize i % 10 = d3 at *
  have hL : (⟨#[48, 49, 50, 51, 52, 53, 54, 55, 56, 57]⟩ : ByteArray).size = 10 := rfl
  generalize (⟨#[48, 49, 50, 51, 52, 53, 54, 55, 56, 57]⟩ : ByteArray) = L at *
  have HS : Hid (∀ d, (L.extract d (d + 1)).size ≤ 1) := fun d => by rw [ByteArray.size_extract]; omega
  have w1 : IntKind.i64.wrap ((d1 : Int) + 1) = (d1 : Int) + 1 := by rw [IntKind.wrap_i64]; omega
  have w2 : IntKind.i64.wrap ((d2 : Int) + 1) = (d2 : Int) + 1 := by rw [IntKind.wrap_i64]; omega
  have w3 : IntKind.i64.wrap ((d3 : Int) + 1) = (d3 : Int) + 1 := by rw [IntKind.wrap_i64]; omega
  have b1 : (d1 : Int) + 1 ≤ (L.size : Int) := by omega
  have b2 : (d2 : Int) + 1 ≤ (L.size : Int) := by omega
  have b3 : (d3 : Int) + 1 ≤ (L.size : Int) := by omega
  have z1 : (0 : Int) ≤ (d1 : Int) + 1 := by omega
  have z2 : (0 : Int) ≤ (d2 : Int) + 1 := by omega
  have z3 : (0 : Int) ≤ (d3 : Int) + 1 := by omega
  have y1 : (d1 : Int) ≤ (d1 : Int) + 1 := by omega
  have y2 : (d2 : Int) ≤ (d2 : Int) + 1 := by omega
  have y3 : (d3 : Int) ≤ (d3 : Int) + 1 := by omega
  have t1 : ((d1 : Int) + 1).toNat = d1 + 1 := by omega
  have t2 : ((d2 : Int) + 1).toNat = d2 + 1 := by omega
  have t3 : ((d3 : Int) + 1).toNat = d3 + 1 := by omega
  have s1 : ¬ 9223372036854775807 < (L.extract d1 (d1 + 1)).size + (L.extract d2 (d2 + 1)).size := by
    have h1 := HS.out d1
    have h2 := HS.out d2
    omega
  have s2 : ¬ 9223372036854775807 < (L.extract d1 (d1 + 1) ++ L.extract d2 (d2 + 1)).size + (L.extract d3 (d3 + 1)).size := by
    have h1 := HS.out d1
    have h2 := HS.out d2
    have h3 := HS.out d3
    rw [ByteArray.size_append]
    omega
  clear hL
  go_region_with (fail)
  go_wp2_with fail

  go_ret
  exact ⟨by rw [HRR.out]; rfl, (Below.refl _ w).drew⟩
end Go.Proofs.Ytgennghhneckeaa
