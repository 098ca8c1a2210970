import Derived.Test.YtogcpllpkdeehaaGreatDoorRfB

import Derived.RangeFuncNested
import Derived.RangeFuncBound
import Derived.RangeFuncCalls
import Derived.RangeFuncLeaves
import Derived.Shelf.Abstract
import Derived.Shelf.RegionOpen
import Derived.WalkKit
import Derived.OwnWalkIn
import Derived.TacticsInMore
import Derived.LoopNIn
import Derived.LoopIn
namespace Go.Proofs.YtogcpllpkdeehaaGreatDoor
open Go.RowKit Go.Maps Go.Shelf
attribute [local go_sem] Oper.semAt_some
set_option linter.unusedVariables false
set_option linter.unusedSimpArgs false

/-- A page. -/
abbrev Page := { x : ByteArray // x.size = 64 }
theorem ext_size (s : ByteArray) (a n : Nat) (h : a + n ≤ s.size) : (s.extract a (a + n)).size = n := by
  simp only [ByteArray.size_extract]
  omega
/-- Page k of the text from byte F on. -/
def pageAt (s : ByteArray) (F k : Nat) : Page := if h : F + 64 * k + 64 ≤ s.size then ⟨s.extract (F + 64 * k) (F + 64 * k + 64), ext_size s _ 64 h⟩ else ⟨⟨Array.replicate 64 0⟩, by simp [ByteArray.size]⟩
/-- The whole pages from byte F on. -/
def pagesL (s : ByteArray) (F : Nat) : List Page := (List.range ((s.size - F) / 64)).map (pageAt s F)

theorem ba_ext {a b : ByteArray} (h : a.data.toList = b.data.toList) : a = b := ByteArray.ext (Array.toList_inj.1 h)
theorem rest_data (s : ByteArray) (a : Nat) : (s.extract a s.size).data.toList = s.data.toList.drop a := by
  simp only [ByteArray.data_extract, Array.toList_extract, List.extract]
  rw [List.take_of_length_le]
  rw [List.length_drop, len_data]
  exact Nat.le_refl _
theorem page_rest (s : ByteArray) (F k : Nat) (h : F + 64 * k + 64 ≤ s.size) : (pageAt s F k).1 = (s.extract (F + 64 * k) s.size).extract 0 64 := by
  unfold pageAt
  rw [dif_pos h]
  apply ba_ext
  show (s.extract (F + 64 * k) (F + 64 * k + 64)).data.toList = ((s.extract (F + 64 * k) s.size).extract 0 (0 + 64)).data.toList
  rw [ext_data, ext_data, rest_data]
  try simp
theorem rest_rest (s : ByteArray) (F k : Nat) (h : F + 64 * k + 64 ≤ s.size) : (s.extract (F + 64 * k) s.size).extract 64 (s.extract (F + 64 * k) s.size).size = s.extract (F + 64 * (k + 1)) s.size := by
  apply ba_ext
  rw [rest_data, rest_data, rest_data, List.drop_drop]
  try congr 1
  try omega
theorem range_prefix (s : ByteArray) (F j : Nat) (h : j ≤ (s.size - F) / 64) : (List.range j).map (pageAt s F) <+: pagesL s F := by
  unfold pagesL
  obtain ⟨d, hd⟩ : ∃ d, (s.size - F) / 64 = j + d := ⟨(s.size - F) / 64 - j, by omega⟩
  rw [hd, List.range_add, List.map_append]
  exact List.prefix_append _ _

set_option maxRecDepth 100000 in
set_option maxHeartbeats 1000000 in
theorem pages1_in (F : Fence) (n : Nat) (h6 : F.fn 93) (hro : F.round = none) (hn : 1 ≤ n) (l bs bp n₀ : Nat) (s : ByteArray) (p : Nat) (hp : p * 64 + 64 ≤ s.size) (hs : s.size ≤ 1048576) (J Jx : List Page → World → Prop)
    (hY : ∀ pre (x : Page) W, J pre W → pre.length < (pagesL s (p * 64)).length → YieldAt F (n - 1) Tryz.prog l #[.string x.1] W fun e W' =>
      (e = .returned (.bool true) ∧ J (pre ++ [x]) W' ∧ Below n₀ W W') ∨ (e = .returned (.bool false) ∧ Jx (pre ++ [x]) W'))
    (W : World) (hbs : W.cell? ⟨bs, 0, none⟩ = some (.string s)) (hbp : W.cell? ⟨bp, 0, none⟩ = some (.int .i64 p)) (h0 : J [] W) :
    CallsIn F n Tryz.prog 93 #[.func (.yield l) #[] #[], .pointer (some ⟨bs, 0, none⟩), .pointer (some ⟨bp, 0, none⟩)] W fun e W' => (∃ v, e = .returned v) ∧
      ((∃ ys, ys = pagesL s (p * 64) ∧ J ys W') ∨ (∃ pre, pre <+: pagesL s (p * 64) ∧ Jx pre W')) := by
  have e1 : (0 : Int) ≤ (p : Int) * 64 := by omega
  have e2 : (p : Int) * 64 ≤ s.size := by omega
  refine callsIn_of_wp Tryz.func93 rfl h6 ?_ hro
  simp only [Tryz.ntmps93, List.size_toArray, List.length_cons, List.length_nil, Nat.reduceAdd, Nat.reduceSub, Array.replicate_succ, Array.replicate_zero, List.push_toArray, List.append_toArray, List.nil_append, List.cons_append]
  gi_wp2
  gi_loopw [4] (fun r wr => ∃ k : Nat, k ≤ (s.size - p * 64) / 64 ∧ r = .string (s.extract (p * 64 + 64 * k) s.size) ∧ J ((List.range k).map (pageAt s (p * 64))) wr) (fun r _ => (strOfV r).size)
  case atStart => exact ⟨0, Nat.zero_le _, rfl, h0⟩
  case round =>
    obtain ⟨k, hkm, rfl, hJ⟩ := hrel
    by_cases hk : k < (s.size - p * 64) / 64
    · have hpl : ((List.range k).map (pageAt s (p * 64))).length < (pagesL s (p * 64)).length := by simp only [pagesL, List.length_map, List.length_range]; exact hk
      have hx : (pageAt s (p * 64) k).1 = (s.extract (p * 64 + 64 * k) s.size).extract 0 64 := page_rest s (p * 64) k (by omega)
      have hnx : (s.extract (p * 64 + 64 * k) s.size).extract 64 (s.extract (p * 64 + 64 * k) s.size).size = s.extract (p * 64 + 64 * (k + 1)) s.size := rest_rest s (p * 64) k (by omega)
      have hrz : (s.extract (p * 64 + 64 * k) s.size).size = s.size - (p * 64 + 64 * k) := by simp only [ByteArray.size_extract]; omega
      have hz2 : (s.extract (p * 64 + 64 * (k + 1)) s.size).size = s.size - (p * 64 + 64 * (k + 1)) := by simp only [ByteArray.size_extract]; omega
      have hJn : Hid (((List.range k).map (pageAt s (p * 64))) ++ [pageAt s (p * 64) k] = (List.range (k + 1)).map (pageAt s (p * 64))) := by show _ = _; simp [List.range_succ]
      have hpf : Hid ((List.range (k + 1)).map (pageAt s (p * 64)) <+: pagesL s (p * 64)) := range_prefix _ _ _ (by omega)
      obtain ⟨fn, tmps, assign, body, hy, hR⟩ := hY _ (pageAt s (p * 64) k) wr hJ hpl
      rw [hx] at hy
      rw [hJn.out] at hR
      replace hx := hd hx
      replace hnx := hd hnx
      replace hz2 := hd hz2
      have hge : 64 ≤ (s.extract (p * 64 + 64 * k) s.size).size := by rw [hrz]; omega
      have hge' : (64 : Int) ≤ ((s.extract (p * 64 + 64 * k) s.size).size : Int) := by omega
      replace hrz := hd hrz
      generalize s.extract (p * 64 + 64 * k) s.size = r at *
      gi_wp2
      refine hR.mono ?_
      rintro e W3 (⟨rfl, hJ3, hk3⟩ | ⟨rfl, hJx3⟩)
      · gi_wp2
        go_roundw
        case rel => exact ⟨k + 1, by omega, by rw [← hnx.out], hJ3⟩
        case measure => simp only [strOfV]; have h1 := congrArg ByteArray.size hnx.out; rw [hz2.out] at h1; have h2 := hrz.out; omega
      · gi_wp2
        refine bodyPost_ret (results_none rfl _ _ _) rfl ?_
        exact ⟨⟨_, rfl⟩, .inr ⟨_, hpf.out, hJx3⟩⟩
    · obtain rfl : k = (s.size - p * 64) / 64 := by omega
      have hlt : (s.extract (p * 64 + 64 * ((s.size - p * 64) / 64)) s.size).size < 64 := by simp only [ByteArray.size_extract]; omega
      have hlt' : ((s.extract (p * 64 + 64 * ((s.size - p * 64) / 64)) s.size).size : Int) < 64 := by omega
      have hJ' : Hid (J (pagesL s (p * 64)) wr) := hJ
      clear hJ
      generalize s.extract (p * 64 + 64 * ((s.size - p * 64) / 64)) s.size = r at *
      gi_wp2
      go_end0
      exact ⟨⟨_, rfl⟩, .inl ⟨_, rfl, hJ'.out⟩⟩
end Go.Proofs.YtogcpllpkdeehaaGreatDoor
