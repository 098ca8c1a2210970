import Derived.Test.YtgkhjjnhikbdaaaTbC

namespace Go.Proofs.Ytgkhjjnhikbdaaa
open Go.RowKit Go.Maps
set_option linter.unusedVariables false
set_option linter.unusedSimpArgs false

/-- The order of numbers, and of entries, as the program has it. -/
def cmpI (x y : Int) : Int := if x < y then -1 else if y < x then 1 else 0
def ordE (a b : En) : Int := if Lib.compareBytes a.ky.data.toList b.ky.data.toList ≠ 0 then Lib.compareBytes a.ky.data.toList b.ky.data.toList else cmpI b.sq a.sq
theorem compare_less : ∀ (a b : List UInt8), (Lib.compareBytes a b < 0 ↔ Op.bytesLess a b = true) ∧ (Lib.compareBytes a b = 0 ↔ a = b)
  | [], [] => by simp [Lib.compareBytes, Op.bytesLess]
  | [], _ :: _ => by simp [Lib.compareBytes, Op.bytesLess]
  | _ :: _, [] => by simp [Lib.compareBytes, Op.bytesLess]
  | x :: a, y :: b => by
    obtain ⟨h1, h2⟩ := compare_less a b
    unfold Lib.compareBytes
    by_cases hlt : x < y
    · have hne : x ≠ y := fun h => by subst h; exact absurd hlt (by simp)
      rw [if_pos hlt]
      simp [Op.bytesLess, hlt, hne]
    · rw [if_neg hlt]
      by_cases hgt : y < x
      · have hne : x ≠ y := fun h => by subst h; exact absurd hgt (by simp)
        rw [if_pos hgt]
        simp [Op.bytesLess, hlt, hne]
      · have he : x = y := by
          rw [UInt8.lt_iff_toNat_lt] at hlt hgt
          exact UInt8.toNat_inj.1 (by omega)
        subst he
        rw [if_neg hgt]
        simp [Op.bytesLess, h1, h2]
theorem ordE_lt (a b : En) : decide (0 ≤ ordE a b) = !befE a b := by
  obtain ⟨h1, h2⟩ := compare_less a.ky.data.toList b.ky.data.toList
  have hb : lessB a.ky b.ky = Op.bytesLess a.ky.data.toList b.ky.data.toList := by unfold lessB; rw [ByteArray.toList_eq, ByteArray.toList_eq]
  unfold ordE befE
  by_cases he : a.ky = b.ky
  · have hz : Lib.compareBytes a.ky.data.toList b.ky.data.toList = 0 := h2.2 (by rw [he])
    rw [if_neg (by rw [hz]; simp), if_pos he]
    unfold cmpI
    by_cases h : b.sq < a.sq
    · simp [h]
    · by_cases h' : a.sq < b.sq
      · simp [h, h']
      · simp [h, h']
  · have hz : Lib.compareBytes a.ky.data.toList b.ky.data.toList ≠ 0 := fun h => he (ByteArray.ext (Array.toList_inj.1 (h2.1 h)))
    rw [if_pos hz, if_neg he, hb]
    cases hl : Op.bytesLess a.ky.data.toList b.ky.data.toList with
    | true =>
      have := h1.2 hl
      simp; omega
    | false =>
      have : ¬ Lib.compareBytes a.ky.data.toList b.ky.data.toList < 0 := fun h => by rw [h1.1 h] at hl; cases hl
      simp; omega

set_option maxRecDepth 100000 in
theorem isNaN_any (x : Int) (w : World) : Calls Try.prog 47 #[.int .i64 x] w fun e w' => e = .returned (.bool false) ∧ w' = w := by
  go_enter Try.func47, Try.ntmps47
  go_wp2_with fail
  go_ret
  exact ⟨rfl, rfl⟩
set_option maxRecDepth 100000 in
theorem cmpInt_any (x y : Int) (w : World) : Calls Try.prog 40 #[.int .i64 x, .int .i64 y] w fun e w' => e = .returned (.int .i64 (cmpI x y)) ∧ w' = w := by
  unfold cmpI
  by_cases h1 : x < y
  · rw [if_pos h1]
    go_enter Try.func40, Try.ntmps40
    go_wp2_with (go_at_call 47; refine (isNaN_any _ _).mono ?_; rintro e w' ⟨rfl, rfl⟩)
    go_ret
    exact ⟨rfl, rfl⟩
  · by_cases h2 : y < x
    · rw [if_neg h1, if_pos h2]
      go_enter Try.func40, Try.ntmps40
      go_wp2_with (go_at_call 47; refine (isNaN_any _ _).mono ?_; rintro e w' ⟨rfl, rfl⟩)
      go_ret
      exact ⟨rfl, rfl⟩
    · rw [if_neg h1, if_neg h2]
      go_enter Try.func40, Try.ntmps40
      go_wp2_with (go_at_call 47; refine (isNaN_any _ _).mono ?_; rintro e w' ⟨rfl, rfl⟩)
      go_ret
      exact ⟨rfl, rfl⟩
set_option maxRecDepth 100000 in
theorem cmpOr_any (g : Nat) (x y : Int) (w : World) (c0 : w.cell? ⟨g, 0, none⟩ = some (.int .i64 x)) (c1 : w.cell? ⟨g, 1, none⟩ = some (.int .i64 y)) :
    Calls Try.prog 38 #[.slice (some ⟨g, 0, none⟩) 2 2] w fun e w' => e = .returned (.int .i64 (if x ≠ 0 then x else y)) ∧ w' = w := by
  by_cases hx : x = 0
  · subst hx
    rw [if_neg (by simp)]
    by_cases hy : y = 0
    · subst hy
      go_enter Try.func38, Try.ntmps38
      go_wp2_with fail
      refine wp_loop_rounds 3 ?_
      rw [rounds_succ]
      go_wp2_with fail
      rw [rounds_succ]
      go_wp2_with fail
      rw [rounds_succ]
      go_wp2_with fail
      go_ret
      exact ⟨rfl, rfl⟩
    · have hy' : (y != 0) = true := by rw [bne_iff_ne]; exact hy
      go_enter Try.func38, Try.ntmps38
      go_wp2_with fail
      refine wp_loop_rounds 2 ?_
      rw [rounds_succ]
      go_wp2_with fail
      rw [rounds_succ]
      go_wp2_with fail
      go_ret
      exact ⟨rfl, rfl⟩
  · rw [if_pos hx]
    have hx' : (x != 0) = true := by rw [bne_iff_ne]; exact hx
    go_enter Try.func38, Try.ntmps38
    go_wp2_with fail
    refine wp_loop_rounds 1 ?_
    rw [rounds_succ]
    go_wp2_with fail
    go_ret
    exact ⟨rfl, rfl⟩
end Go.Proofs.Ytgkhjjnhikbdaaa
