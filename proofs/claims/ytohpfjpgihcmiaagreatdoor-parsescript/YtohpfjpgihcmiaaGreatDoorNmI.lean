import Derived.Test.YtohpfjpgihcmiaaGreatDoorShelf

import Derived.Lib.AtoiAllCases
import Derived.Lib.AppendIntMem
import Derived.Lib.AtoiErrMem
namespace Go.Proofs.YtohpfjpgihcmiaaGreatDoor
open Go.RowKit Go.Maps
set_option linter.unusedVariables false
set_option linter.unusedSimpArgs false

/-- What the reader of decimals takes. -/
def rd (l : List UInt8) : Option Int := match Lib.atoiAll l with
  | .ok v => if Lib.itoa v = l then some v else none
  | _ => none
/-- The variables of strconv that are read. -/
def VarsN (w : World) : Prop := Lib.TabIs Tryz.prog w "internal/strconv.uint64pow10" .u64 Lib.pow10Tab ∧ (∃ tp p, w.var? Tryz.prog "strconv.ErrSyntax" = some #[.iface tp p]) ∧ ∃ tp p, w.var? Tryz.prog "strconv.ErrRange" = some #[.iface tp p]
theorem var_below {n : String} {w w' : World} {cs : Array Value} (h : w.var? Tryz.prog n = some cs) (hb : Below w.heap.size w w') : w'.var? Tryz.prog n = some cs := by
  unfold World.var? at h ⊢
  cases hg : Tryz.prog.globalNamed n with
  | none => rw [hg] at h; cases h
  | some g =>
    rw [hg] at h
    simp only [Option.bind_some] at h ⊢
    have hlt : g < w.heap.size := by
      by_cases hlt : g < w.heap.size
      · exact hlt
      · rw [Array.getElem?_eq_none (by omega)] at h; cases h
    rw [hb.block g hlt]
    exact h
theorem VarsN.below {w w' : World} (h : VarsN w) (hb : Below w.heap.size w w') : VarsN w' := by
  obtain ⟨h1, ⟨t2, p2, h2⟩, t3, p3, h3⟩ := h
  exact ⟨var_below h1 hb, ⟨t2, p2, var_below h2 hb⟩, t3, p3, var_below h3 hb⟩
theorem itoaN (n : Int) (h1 : -9223372036854775808 ≤ n) (h2 : n ≤ 9223372036854775807) (w : World) (hv : VarsN w) :
    Calls Tryz.prog 57 #[.int .i64 n] w fun e w' => e = .returned (.string (itB n)) ∧ Below w.heap.size w w' :=
  (Tryz.strconv_Itoa n h1 h2 w hv.1).mono fun e w' ⟨he, k, os, hw⟩ => ⟨he, by rw [hw]; exact Lib.below_grow _ _ (Nat.le_refl _) _ _⟩
theorem atoiN (s : ByteArray) (hs : s.size ≤ 1048576) (w : World) (hv : VarsN w) :
    Calls Tryz.prog 56 #[.string s] w fun e w' => (∃ v, Lib.atoiAll s.data.toList = .ok v ∧ -9223372036854775808 ≤ v ∧ v ≤ 9223372036854775807 ∧ e = .returned (.tuple #[.int .i64 v, .nilIface]) ∧ Below w.heap.size w w') ∨ (rd s.data.toList = none ∧ ∃ v t p, e = .returned (.tuple #[.int .i64 v, .iface t p]) ∧ Below w.heap.size w w') := by
  cases h : Lib.atoiAll s.data.toList with
  | ok v =>
    obtain ⟨b1, b2⟩ := Lib.atoiAll_bounds h
    refine (Tryz.strconv_Atoi_ok s (by omega) v h w).mono fun e w' ⟨he, hw⟩ => .inl ⟨v, rfl, by omega, by omega, he, ?_⟩
    rcases hw with rfl | ⟨t, rfl⟩
    · exact Below.refl _ _
    · exact Lib.bytesWorld_below _ _ _
  | «syntax» =>
    obtain ⟨-, ⟨tp, p, h2⟩, -⟩ := hv
    refine (Tryz.strconv_Atoi_syntax_var s (by omega) h tp p w h2).mono fun e w' ⟨N, he, _, _, hb⟩ => .inr ⟨by simp [rd, h], _, _, _, he, hb⟩
  | range =>
    obtain ⟨-, -, tp, p, h2⟩ := hv
    refine (Tryz.strconv_Atoi_range_var s (by omega) h tp p w h2).mono fun e w' ⟨N, he, _, _, hb⟩ => .inr ⟨by simp [rd, h], _, _, _, he, hb⟩
set_option maxRecDepth 100000 in
set_option maxHeartbeats 1000000 in
theorem readDecimal_any (s : ByteArray) (hs : s.size ≤ 1048576) (w : World) (hv : VarsN w) :
    Calls Tryz.prog 48 #[.string s] w fun e w' => e = .returned (.tuple #[.int .i64 ((rd s.data.toList).getD 0), .bool (rd s.data.toList).isSome]) ∧ Below w.heap.size w w' := by
  have HA := hdN (atoiN s hs w hv)
  have HT := hdN (fun (n : Int) (h1 : -9223372036854775808 ≤ n) (h2 : n ≤ 9223372036854775807) (w' : World) (hb : Below w.heap.size w w') => itoaN n h1 h2 w' (hv.below hb))
  have HR : Hid (∀ v, Lib.atoiAll s.data.toList = .ok v → rd s.data.toList = if itB v = s then some v else none) := fun v h => by
    unfold rd
    rw [h]
    have e1 : (Lib.itoa v = s.data.toList) ↔ itB v = s := by
      unfold itB
      constructor
      · intro h
        rw [h]
      · intro h
        have h2 := congrArg (fun b => b.data.toList) h
        simpa using h2
    simp only [e1]
  generalize rd s.data.toList = R at *
  go_enter Tryz.func48, Tryz.ntmps48
  go_wp2_with fail
  refine HA.out.mono ?_
  rintro e w1 (⟨v, hok, h1, h2, rfl, hb1⟩ | ⟨hn, v, t, p, rfl, hb1⟩)
  · have hR := HR.out v hok
    go_wp2_with fail
    refine (HT.out v h1 h2 _ hb1).mono ?_
    rintro e w2 ⟨rfl, hb2⟩
    have hbb := hb1.trans (hb2.mono hb1.size)
    by_cases hq : itB v = s
    · have hR' : R = some v := by rw [hR, if_pos hq]
      subst hR'
      have hq' : ((itB v).toList == s.toList) = true := by rw [hq]; simp
      go_wp2_with fail
      go_ret2
      exact ⟨rfl, hbb⟩
    · have hR' : R = none := by rw [hR, if_neg hq]
      subst hR'
      have hq' : ((itB v).toList == s.toList) = false := by
        cases h : ((itB v).toList == s.toList) with
        | false => rfl
        | true => exact absurd (toListN h) hq
      go_wp2_with fail
      go_ret2
      exact ⟨rfl, hbb⟩
  · subst hn
    go_wp2_with fail
    go_ret2
    exact ⟨rfl, hb1⟩
theorem valN_rd (l : List UInt8) : valN l = match rd l with
    | some v => if 1 ≤ v ∧ v ≤ 999999999 then v.toNat else 0
    | none => 0 := by
  have key : valN l ≠ 0 → ∃ v : Int, rd l = some v ∧ 1 ≤ v ∧ v ≤ 999999999 := fun h => by
    obtain ⟨v, h1, h2, h3, h4⟩ := (valN_iff l).2 h
    exact ⟨v, by simp [rd, h1, h2], h3, h4⟩
  cases hr : rd l with
  | none =>
    simp only
    by_cases h : valN l = 0
    · exact h
    · obtain ⟨v, h1, -⟩ := key h
      rw [hr] at h1
      cases h1
  | some v =>
    simp only
    by_cases hv : 1 ≤ v ∧ v ≤ 999999999
    · rw [if_pos hv]
      have hl : Lib.itoa v = l := by
        unfold rd at hr
        split at hr
        · split at hr
          · rename_i h
            cases hr
            exact h
          · cases hr
        · cases hr
      obtain ⟨n, rfl⟩ : ∃ n : Nat, v = n := ⟨v.toNat, by omega⟩
      rw [Lib.itoa_nonneg] at hl
      rw [← hl, valN_dec (by omega) (by omega)]
      rfl
    · rw [if_neg hv]
      by_cases h : valN l = 0
      · exact h
      · obtain ⟨v', h1, h2⟩ := key h
        rw [hr] at h1
        cases h1
        exact absurd h2 hv
/-- The number between a stem and an end, 0 if there is none. -/
def numIn (l st en : List UInt8) : Nat := if Lib.hasPrefix l st = true ∧ Lib.hasSuffix (Lib.trimPrefix l st) en = true then valN (Lib.trimSuffix (Lib.trimPrefix l st) en) else 0
theorem trimP_len (l p : List UInt8) : (Lib.trimPrefix l p).length ≤ l.length := by
  unfold Lib.trimPrefix
  split <;> simp
theorem trimS_len (l p : List UInt8) : (Lib.trimSuffix l p).length ≤ l.length := by
  unfold Lib.trimSuffix
  split <;> simp
end Go.Proofs.YtohpfjpgihcmiaaGreatDoor
