
import Derived.Test.YtigpplcecbgmaaeEdA
import Derived.Test.YtigpplcecbgmaaeEdI
namespace Go.Proofs.Ytigpplcecbgmaae
open Go.RowKit Go.Maps
set_option linter.unusedVariables false
set_option linter.unusedSimpArgs false

/-- An edit, and its value over two rows in memory. -/
structure Ed where
  ad : List Tr
  dl : List Int
  lg : Int
  nx : Int
  la : Int
abbrev edV (a : Option Addr) (ca : Nat) (d : Option Addr) (cd : Nat) (e : Ed) : Value := .agg #[.slice a e.ad.length ca, .slice d e.dl.length cd, .int .i64 e.lg, .int .i64 e.nx, .int .i64 e.la]
def edOk (e : Ed) : Bool := decide (e.ad.length ≤ 1000) && (e.ad.all refOk && (decide (e.dl.length ≤ 1000) && (e.dl.all numOk && (numOk e.lg && (numOk e.nx && decide (0 ≤ e.la ∧ e.la ≤ 72057594037927935))))))
theorem edOk_iff (e : Ed) : edOk e = true ↔ e.ad.length ≤ 1000 ∧ e.ad.all refOk = true ∧ e.dl.length ≤ 1000 ∧ e.dl.all numOk = true ∧ numOk e.lg = true ∧ numOk e.nx = true ∧ (0 ≤ e.la ∧ e.la ≤ 72057594037927935) := by
  unfold edOk
  rw [Bool.and_eq_true, decide_eq_true_eq, Bool.and_eq_true, Bool.and_eq_true, decide_eq_true_eq, Bool.and_eq_true, Bool.and_eq_true, Bool.and_eq_true, decide_eq_true_eq]
theorem edOk_no {e : Ed} (h : ¬ (e.ad.length ≤ 1000 ∧ e.ad.all refOk = true ∧ e.dl.length ≤ 1000 ∧ e.dl.all numOk = true ∧ numOk e.lg = true ∧ numOk e.nx = true ∧ (0 ≤ e.la ∧ e.la ≤ 72057594037927935))) : edOk e = false := by
  cases hr : edOk e with
  | false => rfl
  | true => exact absurd ((edOk_iff e).1 hr) h
theorem all_at {xs : List Tr} {k : Nat} (hk : k < xs.length) (h : refOk (xs.getD k tr0) = false) : xs.all refOk = false := by
  cases hr : xs.all refOk with
  | false => rfl
  | true =>
    have e : xs.getD k tr0 = xs[k] := by simp [List.getD, hk]
    rw [e] at h
    have := List.all_eq_true.1 hr xs[k] (List.getElem_mem hk)
    rw [h] at this
    cases this
theorem allI_at {xs : List Int} {k : Nat} (hk : k < xs.length) (h : numOk (xs.getD k 0) = false) : xs.all numOk = false := by
  cases hr : xs.all numOk with
  | false => rfl
  | true =>
    have e : xs.getD k 0 = xs[k] := by simp [List.getD, hk]
    rw [e] at h
    have := List.all_eq_true.1 hr xs[k] (List.getElem_mem hk)
    rw [h] at this
    cases this
theorem takeI_snoc (xs : List Int) (k : Nat) (h : k < xs.length) : xs.take (k + 1) = xs.take k ++ [xs.getD k 0] := by
  rw [List.take_succ_eq_append_getElem h]
  simp [List.getD, h]
theorem five_cells {w : World} {p : Nat} {t : TypeId} {x0 x1 x2 x3 x4 : Value} (h : w.heap[p]? = some (.cells #[x0, x1, x2, x3, x4] t (0, 0))) :
    w.cell? ⟨p, 0, none⟩ = some x0 ∧ w.cell? ⟨p, 1, none⟩ = some x1 ∧ w.cell? ⟨p, 2, none⟩ = some x2 ∧ w.cell? ⟨p, 3, none⟩ = some x3 ∧ w.cell? ⟨p, 4, none⟩ = some x4 := by
  refine ⟨?_, ?_, ?_, ?_, ?_⟩ <;> simp [World.cell?, h]

set_option maxRecDepth 100000 in
set_option maxHeartbeats 1000000 in
theorem allRefs_any (a : Option Addr) (cap : Nat) (xs : List Tr) (w : World) (hx : LieT w a xs) (hf : FitsT xs) (hlen : xs.length ≤ 1048576) :
    Calls Try.prog 41 #[.slice a xs.length cap, .func (.func 52) #[] #[]] w fun e w' => e = .returned (.bool (xs.all refOk)) ∧ Below w.heap.size w w' := by
  generalize hT : xs.all refOk = T
  have HT : Hid (xs.all refOk = T) := hT
  clear hT
  go_enter Try.func41, Try.ntmps41
  go_wp2_with fail
  go_loopw [9] (fun y wr => ∃ k : Nat, y = .int .i64 k ∧ k ≤ xs.length ∧ (xs.take k).all refOk = true ∧ Below w.heap.size w wr) (fun y _ => xs.length - (intOf y).toNat)
  case atStart => exact ⟨0, rfl, by omega, rfl, Below.refl _ _⟩
  case round =>
    obtain ⟨k, rfl, hk, hall, hb⟩ := hrel
    have hbs := hb.size
    by_cases hlt : k < xs.length
    · obtain ⟨b, off, rfl, hbl, c0, c1, c2, c3⟩ := (hx.below hb).at hlt
      have hfk := hf.at hlt
      have hik : (k : Int) < (xs.length : Int) := by omega
      have HB := hd (fun h => all_at hlt h)
      have HA : Hid (refOk (xs.getD k tr0) = true → (xs.take (k + 1)).all refOk = true) := fun h => by rw [takeT_snoc xs k hlt, List.all_append, hall]; simpa using h
      generalize xs.getD k tr0 = f at *
      obtain ⟨n, l, lo, hi⟩ := f
      have hba : Below w.heap.size w (wr.alloc (.cells #[.int .i64 n, .int .i64 l, .string lo, .string hi] 54)) := hb.alloc hbs _
      have HR := hd (fun w => implRef_any ⟨n, l, lo, hi⟩ w hfk.1 hfk.2)
      go_wp2_with fail
      refine (HR.out _).mono ?_
      rintro e w3 ⟨rfl, hb3⟩
      have hbw3 : Below w.heap.size w w3 := hba.trans (hb3.mono hba.size)
      cases hok : refOk ⟨n, l, lo, hi⟩ with
      | false =>
        have hTe := (HB.out hok).symm.trans HT.out
        subst hTe
        go_wp2_with fail
        go_ret
        exact ⟨rfl, hbw3⟩
      | true =>
        have hAll := HA.out hok
        go_wp2_with fail
        exact ⟨⟨k + 1, by simp, by omega, hAll, hbw3⟩, by simp only [intOf]; omega⟩
    · obtain rfl : k = xs.length := by omega
      rw [List.take_length] at hall
      have hTe := hall.symm.trans HT.out
      subst hTe
      go_wp2_with fail
      go_ret
      exact ⟨rfl, hb⟩

set_option maxRecDepth 100000 in
set_option maxHeartbeats 1000000 in
theorem allNums_any (a : Option Addr) (cap : Nat) (xs : List Int) (w : World) (hx : LieI w a xs) (hlen : xs.length ≤ 1048576) :
    Calls Try.prog 53 #[.slice a xs.length cap, .func (.func 54) #[] #[]] w fun e w' => e = .returned (.bool (xs.all numOk)) ∧ Below w.heap.size w w' := by
  generalize hT : xs.all numOk = T
  have HT : Hid (xs.all numOk = T) := hT
  clear hT
  go_enter Try.func53, Try.ntmps53
  go_wp2_with fail
  go_loopw [9] (fun y wr => ∃ k : Nat, y = .int .i64 k ∧ k ≤ xs.length ∧ (xs.take k).all numOk = true ∧ Below w.heap.size w wr) (fun y _ => xs.length - (intOf y).toNat)
  case atStart => exact ⟨0, rfl, by omega, rfl, Below.refl _ _⟩
  case round =>
    obtain ⟨k, rfl, hk, hall, hb⟩ := hrel
    have hbs := hb.size
    by_cases hlt : k < xs.length
    · obtain ⟨b, off, rfl, hbl, c0⟩ := (hx.below hb).at hlt
      have hik : (k : Int) < (xs.length : Int) := by omega
      have HB := hd (fun h => allI_at hlt h)
      have HA : Hid (numOk (xs.getD k 0) = true → (xs.take (k + 1)).all numOk = true) := fun h => by rw [takeI_snoc xs k hlt, List.all_append, hall]; simpa using h
      generalize xs.getD k 0 = f at *
      go_wp2_with fail
      refine (implNum_any f _).mono ?_
      rintro e w3 ⟨rfl, hb3⟩
      have hbw3 : Below w.heap.size w w3 := hb.trans (hb3.mono hb.size)
      cases hok : numOk f with
      | false =>
        have hTe := (HB.out hok).symm.trans HT.out
        subst hTe
        go_wp2_with fail
        go_ret
        exact ⟨rfl, hbw3⟩
      | true =>
        have hAll := HA.out hok
        go_wp2_with fail
        exact ⟨⟨k + 1, by simp, by omega, hAll, hbw3⟩, by simp only [intOf]; omega⟩
    · obtain rfl : k = xs.length := by omega
      rw [List.take_length] at hall
      have hTe := hall.symm.trans HT.out
      subst hTe
      go_wp2_with fail
      go_ret
      exact ⟨rfl, hb⟩
end Go.Proofs.Ytigpplcecbgmaae
