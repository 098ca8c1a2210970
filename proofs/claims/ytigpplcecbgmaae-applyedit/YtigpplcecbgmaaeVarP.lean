
import Derived.Test.YtigpplcecbgmaaeVarM
namespace Go.Proofs.Ytigpplcecbgmaae
open Go.RowKit Go.Maps
set_option linter.unusedVariables false
set_option linter.unusedSimpArgs false

theorem cons_textL (a : UInt8) (l : List UInt8) : (⟨#[a]⟩ : ByteArray) ++ ⟨l.toArray⟩ = ⟨(a :: l).toArray⟩ := by
  apply ByteArray.ext
  simp

theorem owns_base {w : World} {B n size : Nat} {e : TypeId} {v : Value} {xs : List Value} (h : w.ownsRow B e size v n xs) : ∀ k, v.ownBlock = some k → B ≤ k := by
  intro k hk
  rcases h.2 with ⟨rfl, _⟩ | ⟨g, cap, cur, rfl, hg, _⟩
  · cases hk
  · simp [Value.ownBlock] at hk
    omega

set_option maxRecDepth 100000 in
set_option maxHeartbeats 400000 in
theorem specPut_in (f : Nat) : ∀ (n : Nat) (w : World), n < 128 ^ (f + 1) → n ≤ 72057594037927935 → f ≤ 8 →
    Calls Try.prog 47 #[.int .i64 n] w fun e w' => e = .returned (.string ⟨(vbf f n).toArray⟩) ∧ Below w.heap.size w w' := by
  induction f with
  | zero =>
    intro n w h1 h2 hf
    have h3 : (n : Int) < 128 := by simp at h1; omega
    rw [vbf_lt (by omega)]
    go_enter Try.func47, Try.ntmps47
    go_wp2_with (go_at_call 68; refine (l2Byte_any _ _ (by omega) (by omega)).mono ?_; rintro e w1 ⟨rfl, hb1⟩)
    go_ret
    exact ⟨rfl, hb1⟩
  | succ f ih =>
    intro n w h1 h2 hf
    by_cases hn : n < 128
    · rw [vbf_lt hn]
      have h3 : (n : Int) < 128 := by omega
      go_enter Try.func47, Try.ntmps47
      go_wp2_with (go_at_call 68; refine (l2Byte_any _ _ (by omega) (by omega)).mono ?_; rintro e w1 ⟨rfl, hb1⟩)
      go_ret
      exact ⟨rfl, hb1⟩
    · have hd : n / 128 < 128 ^ (f + 1) := by rw [Nat.pow_succ] at h1; omega
      have hle : (vbf f (n / 128)).length ≤ f + 1 := vbf_length_le _ _
      rw [vbf_ge hn, ← cons_textL]
      have h3 : ¬ (n : Int) < 128 := by omega
      have IH : ∀ w, Calls Try.prog 47 #[.int .i64 ((n : Int) / 128)] w fun e w' => e = .returned (.string ⟨(vbf f (n / 128)).toArray⟩) ∧ Below w.heap.size w w' := fun w => ih (n / 128) w hd (by omega) (by omega)
      have hzs : (⟨(vbf f (n / 128)).toArray⟩ : ByteArray).size ≤ f + 1 := hle
      have hby : (UInt8.ofNat (n % 128 + 128)) = UInt8.ofNat ((n : Int) % 128 + 128).toNat := by congr 1
      rw [hby]
      generalize (⟨(vbf f (n / 128)).toArray⟩ : ByteArray) = z at IH hzs ⊢
      replace IH : Hid (∀ w, Calls Try.prog 47 #[.int .i64 ((n : Int) / 128)] w fun e w' => e = .returned (.string z) ∧ Below w.heap.size w w') := IH
      have hz1 : ¬ 9223372036854775807 < (⟨#[UInt8.ofNat ((n : Int) % 128 + 128).toNat]⟩ : ByteArray).size + z.size := by have : (⟨#[UInt8.ofNat ((n : Int) % 128 + 128).toNat]⟩ : ByteArray).size = 1 := rfl; omega
      go_enter Try.func47, Try.ntmps47
      go_wp2_with fail
      refine (l2Byte_any _ _ (by omega) (by omega)).mono ?_
      rintro e w1 ⟨rfl, hb1⟩
      go_wp2_with fail
      refine (IH.out w1).mono ?_
      rintro e w2 ⟨rfl, hb2⟩
      go_wp2_with fail
      go_ret
      exact ⟨rfl, hb1.trans (hb2.mono hb1.size)⟩

set_option maxRecDepth 100000 in
theorem specPut_any (n : Int) (w : World) :
    Calls Try.prog 47 #[.int .i64 n] w fun e w' => e = .returned (.string (vtext n)) ∧ Below w.heap.size w w' := by
  by_cases h : 0 ≤ n ∧ n ≤ 72057594037927935
  · obtain ⟨m, rfl⟩ : ∃ m : Nat, n = m := ⟨n.toNat, by omega⟩
    rw [vtext_in _ h.1 h.2]
    exact specPut_in 7 m w (by simp; omega) (by omega) (by omega)
  · rw [vtext_out n (by omega)]
    have h' : n < 0 ∨ 72057594037927935 < n := by omega
    rcases h' with h1 | h1
    · go_enter Try.func47, Try.ntmps47
      go_wp2_with fail
      go_ret
      exact ⟨rfl, Below.refl _ _⟩
    · have h2 : ¬ n < 0 := by omega
      go_enter Try.func47, Try.ntmps47
      go_wp2_with fail
      go_ret
      exact ⟨rfl, Below.refl _ _⟩

end Go.Proofs.Ytigpplcecbgmaae
