import Derived.Test.YtigpplcecbgmaaeGreatDoorVarM

namespace Go.Proofs.YtigpplcecbgmaaeGreatDoor
open Go.RowKit Go.Maps
set_option linter.unusedVariables false
set_option linter.unusedSimpArgs false

theorem cons_textL (a : UInt8) (l : List UInt8) : (⟨#[a]⟩ : ByteArray) ++ ⟨l.toArray⟩ = ⟨(a :: l).toArray⟩ := by
  apply ByteArray.ext
  simp

theorem owns_base {w : World} {B n size : Nat} {e : TypeId} {v : Value} {xs : List Value} (h : w.ownsRow B e size v n xs) : ∀ k, v.ownBlock = some k → B ≤ k := by
  intro k hk
  rcases h.2 with ⟨rfl, _⟩ | ⟨g, cap, cur, rfl, hg, _⟩
  · cases hk
  · simp [Value.ownBlock] at hk
    omega

set_option maxRecDepth 100000 in
set_option maxHeartbeats 400000 in
theorem specPut_in (f : Nat) : ∀ (n : Nat) (w : World), n < 128 ^ (f + 1) → n ≤ 72057594037927935 → f ≤ 8 →
    Calls Tryz.prog 44 #[.int .i64 n] w fun e w' => e = .returned (.string ⟨(vbf f n).toArray⟩) ∧ Below w.heap.size w w' := by
  induction f with
  | zero =>
    intro n w h1 h2 hf
    have h3 : (n : Int) < 128 := by simp at h1; omega
    rw [vbf_lt (by omega)]
    go_enter Tryz.func44, Tryz.ntmps44
    go_wp2_with (go_at_call 84; refine (l2Byte_any _ _ (by omega) (by omega)).mono ?_; rintro e w1 ⟨rfl, hb1⟩)
    go_ret
    exact ⟨rfl, hb1⟩
  | succ f ih =>
    intro n w h1 h2 hf
    by_cases hn : n < 128
    · rw [vbf_lt hn]
      have h3 : (n : Int) < 128 := by omega
      go_enter Tryz.func44, Tryz.ntmps44
      go_wp2_with (go_at_call 84; refine (l2Byte_any _ _ (by omega) (by omega)).mono ?_; rintro e w1 ⟨rfl, hb1⟩)
      go_ret
      exact ⟨rfl, hb1⟩
    · have hd : n / 128 < 128 ^ (f + 1) := by rw [Nat.pow_succ] at h1; omega
      have hle : (vbf f (n / 128)).length ≤ f + 1 := vbf_length_le _ _
      rw [vbf_ge hn, ← cons_textL]
      have h3 : ¬ (n : Int) < 128 := by omega
      have IH : ∀ w, Calls Tryz.prog 44 #[.int .i64 ((n : Int) / 128)] w fun e w' => e = .returned (.string ⟨(vbf f (n / 128)).toArray⟩) ∧ Below w.heap.size w w' := fun w => ih (n / 128) w hd (by omega) (by omega)
      have hzs : (⟨(vbf f (n / 128)).toArray⟩ : ByteArray).size ≤ f + 1 := hle
      have hby : (UInt8.ofNat (n % 128 + 128)) = UInt8.ofNat ((n : Int) % 128 + 128).toNat := by congr 1
      rw [hby]
      generalize (⟨(vbf f (n / 128)).toArray⟩ : ByteArray) = z at IH hzs ⊢
      replace IH : Hid (∀ w, Calls Tryz.prog 44 #[.int .i64 ((n : Int) / 128)] w fun e w' => e = .returned (.string z) ∧ Below w.heap.size w w') := IH
      have hz1 : ¬ 9223372036854775807 < (⟨#[UInt8.ofNat ((n : Int) % 128 + 128).toNat]⟩ : ByteArray).size + z.size := by have : (⟨#[UInt8.ofNat ((n : Int) % 128 + 128).toNat]⟩ : ByteArray).size = 1 := rfl; omega
      go_enter Tryz.func44, Tryz.ntmps44
      go_wp2_with fail
      refine (l2Byte_any _ _ (by omega) (by omega)).mono ?_
      rintro e w1 ⟨rfl, hb1⟩
      go_wp2_with fail
      refine (IH.out w1).mono ?_
      rintro e w2 ⟨rfl, hb2⟩
      go_wp2_with fail
      go_ret
      exact ⟨rfl, hb1.trans (hb2.mono hb1.size)⟩

set_option maxRecDepth 100000 in
theorem specPut_any (n : Int) (w : World) :
    Calls Tryz.prog 44 #[.int .i64 n] w fun e w' => e = .returned (.string (vtext n)) ∧ Below w.heap.size w w' := by
  by_cases h : 0 ≤ n ∧ n ≤ 72057594037927935
  · obtain ⟨m, rfl⟩ : ∃ m : Nat, n = m := ⟨n.toNat, by omega⟩
    rw [vtext_in _ h.1 h.2]
    exact specPut_in 7 m w (by simp; omega) (by omega) (by omega)
  · rw [vtext_out n (by omega)]
    have h' : n < 0 ∨ 72057594037927935 < n := by omega
    rcases h' with h1 | h1
    · go_enter Tryz.func44, Tryz.ntmps44
      go_wp2_with fail
      go_ret
      exact ⟨rfl, Below.refl _ _⟩
    · have h2 : ¬ n < 0 := by omega
      go_enter Tryz.func44, Tryz.ntmps44
      go_wp2_with fail
      go_ret
      exact ⟨rfl, Below.refl _ _⟩

set_option maxRecDepth 100000 in
set_option maxHeartbeats 1000000 in
theorem implPut_in (n : Nat) (w : World) (hn : n ≤ 72057594037927935) :
    Calls Tryz.prog 34 #[.int .i64 n] w fun e w' => e = .returned (.string ⟨(vb n).toArray⟩) ∧ Below w.heap.size w w' := by
  obtain ⟨i0, hi, hz0, hz1, hz2⟩ := info_parts u8_info
  have h0 : ¬ (n : Int) < 0 := by omega
  generalize hT : vb n = T
  go_enter Tryz.func34, Tryz.ntmps34
  go_wp2_with fail
  go_loopw [0, 3] (fun x v wr => ∃ (m : Nat) (acc : List UInt8), x = .int .i64 m ∧ acc.length ≤ 7 ∧ m < 128 ^ (8 - acc.length) ∧ acc ++ vbf (7 - acc.length) m = T ∧ wr.ownsRow w.heap.size 5 1 v acc.length (bc acc) ∧ Below w.heap.size w wr) (fun x _ _ => (intOf x).toNat)
  case atStart => exact ⟨n, [], rfl, by simp, by simp; omega, by simpa using hT, World.ownsRow_nil _ _ _ _, Below.refl _ _⟩
  case round =>
    obtain ⟨m, acc, rfl, hl, hm, hacc, hown, hb⟩ := hrel
    have hbs := hb.size
    by_cases h : m < 128
    · have h' : ¬ (128 : Int) ≤ m := by omega
      have HA : Hid (acc ++ [UInt8.ofNat m] = T) := by show _ = _; rw [← hacc, vbf_lt h]
      have hcv : ∀ (v' : Value) (w4 : World), w4.ownsRow w.heap.size 5 1 v' (acc.length + 1) (bc acc ++ [.int .u8 (m : Int)]) → (convert 28 9 v').run Tryz.prog w4 = .ok (.string ⟨T.toArray⟩) w4 := fun v' w4 ho => by
        rw [← HA.out]
        refine conv_row (B := w.heap.size) ?_ (by simp)
        simp only [List.length_append, List.length_singleton, bc, List.map_append, List.map_cons, List.map_nil]
        rw [byte_cell m (by omega)]
        exact ho
      have HCV := (show Hid _ from hcv)
      clear hcv hacc
      go_wp2_with (at_builtin; refine wpList_append_own _ rfl _ _ 28 rfl w.heap.size 5 i0 (.int .u8 0) 1 1 Tryz.underlying28 hi hz0 hz1 hz2 rfl (by decide) _ _ _ rfl (hown.alloc _) ⟨wr.heap.size, 0, none⟩ 1 1 [.int .u8 (m : Int)] rfl rfl (cell_one_new _ _ _) (fun x hx => by simp at hx; subst hx; rfl) (by unfold maxLen; omega) (by omega) (by simp; omega) ?_; intro v' w4 hown' hgrow hnil; have hcv := HCV.out v' w4 hown')
      go_ret
      exact ⟨rfl, (hb.alloc hbs _).grown hgrow (by simp; omega) (owns_base hown)⟩
    · have h' : (128 : Int) ≤ m := by omega
      have hlen : acc.length ≤ 6 := by
        rcases Nat.lt_or_ge acc.length 7 with h7 | h7
        · omega
        · exfalso
          have : acc.length = 7 := by omega
          rw [this] at hm
          omega
      have HA : Hid ((acc ++ [UInt8.ofNat (m % 128 + 128)]) ++ vbf (7 - (acc.length + 1)) (m / 128) = T) := by
        show _ = _
        have e : 7 - acc.length = (7 - (acc.length + 1)) + 1 := by omega
        rw [← hacc, e, vbf_ge h, List.append_assoc]
        rfl
      have HM : Hid (m / 128 < 128 ^ (8 - (acc.length + 1))) := by
        show _ < _
        have e : 8 - acc.length = (8 - (acc.length + 1)) + 1 := by omega
        rw [e, Nat.pow_succ] at hm
        omega
      have hA : bits .and .i64 (m : Int) 127 = (m : Int) % 128 := i64_and127 _
      have hO : bits .or .i64 ((m : Int) % 128) 128 = (m : Int) % 128 + 128 := i64_or128 _ (by omega) (by omega)
      clear hacc hm
      go_wp2_with (at_builtin; refine wpList_append_own _ rfl _ _ 28 rfl w.heap.size 5 i0 (.int .u8 0) 1 1 Tryz.underlying28 hi hz0 hz1 hz2 rfl (by decide) _ _ _ rfl (hown.alloc _) ⟨wr.heap.size, 0, none⟩ 1 1 [.int .u8 ((m : Int) % 128 + 128)] rfl rfl (cell_one_new _ _ _) (fun x hx => by simp at hx; subst hx; rfl) (by unfold maxLen; omega) (by omega) (by simp; omega) ?_; intro v' w4 hown' hgrow hnil)
      refine ⟨⟨m / 128, acc ++ [UInt8.ofNat (m % 128 + 128)], by simp, by simp; omega, by rw [List.length_append]; exact HM.out, by rw [List.length_append]; exact HA.out, ?_, (hb.alloc hbs _).grown hgrow (by simp; omega) (owns_base hown)⟩, by simp only [intOf]; omega⟩
      have e : bc (acc ++ [UInt8.ofNat (m % 128 + 128)]) = bc acc ++ [Value.int .u8 ((m : Int) % 128 + 128)] := by
        simp only [bc, List.map_append, List.map_cons, List.map_nil]
        rw [byte_cell _ (by omega)]
        simp
      rw [e, List.length_append]
      exact hown'

set_option maxRecDepth 100000 in
theorem implPut_any (n : Int) (w : World) :
    Calls Tryz.prog 34 #[.int .i64 n] w fun e w' => e = .returned (.string (vtext n)) ∧ Below w.heap.size w w' := by
  by_cases h : 0 ≤ n ∧ n ≤ 72057594037927935
  · obtain ⟨m, rfl⟩ : ∃ m : Nat, n = m := ⟨n.toNat, by omega⟩
    rw [vtext_in _ h.1 h.2]
    exact implPut_in m w (by omega)
  · rw [vtext_out n (by omega)]
    have h' : n < 0 ∨ 72057594037927935 < n := by omega
    rcases h' with h1 | h1
    · go_enter Tryz.func34, Tryz.ntmps34
      go_wp2_with fail
      go_ret
      exact ⟨rfl, Below.refl _ _⟩
    · have h2 : ¬ n < 0 := by omega
      go_enter Tryz.func34, Tryz.ntmps34
      go_wp2_with fail
      go_ret
      exact ⟨rfl, Below.refl _ _⟩
end Go.Proofs.YtigpplcecbgmaaeGreatDoor
