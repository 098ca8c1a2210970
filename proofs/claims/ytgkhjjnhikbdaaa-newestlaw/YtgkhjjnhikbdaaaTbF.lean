import Derived.Test.YtgkhjjnhikbdaaaTbE

import Derived.Deep.RegionHeld3
namespace Go.Proofs.Ytgkhjjnhikbdaaa
open Go.RowKit Go.Maps
set_option linter.unusedVariables false
set_option linter.unusedSimpArgs false

theorem fourB {w : World} {p : Nat} {t : TypeId} {x0 x1 x2 x3 : Value} (h : w.heap[p]? = some (.cells #[x0, x1, x2, x3] t (0, 0))) :
    w.cell? ⟨p, 0, none⟩ = some x0 ∧ w.cell? ⟨p, 1, none⟩ = some x1 ∧ w.cell? ⟨p, 2, none⟩ = some x2 ∧ w.cell? ⟨p, 3, none⟩ = some x3 := by
  refine ⟨?_, ?_, ?_, ?_⟩ <;> simp [World.cell?, h]

def orI (x y : Int) : Int := if x ≠ 0 then x else y
theorem cmpOr_or (g : Nat) (x y : Int) (w : World) (c0 : w.cell? ⟨g, 0, none⟩ = some (.int .i64 x)) (c1 : w.cell? ⟨g, 1, none⟩ = some (.int .i64 y)) :
    Calls Try.prog 38 #[.slice (some ⟨g, 0, none⟩) 2 2] w fun e w' => e = .returned (.int .i64 (orI x y)) ∧ w' = w := cmpOr_any g x y w c0 c1

set_option maxRecDepth 100000 in
set_option maxHeartbeats 400000 in
theorem entryOrder_any (a b : En) (w : World) :
    Calls Try.prog 23 #[a.agg, b.agg] w fun e w' => e = .returned (.int .i64 (ordE a b)) ∧ Below w.heap.size w w' := by
  have HS := hdB (fun w => Try.strings_Compare a.ky b.ky w)
  have HI := hdB (fun w => cmpInt_any b.sq a.sq w)
  have HR : Hid (ordE a b = orI (Lib.compareBytes a.ky.data.toList b.ky.data.toList) (cmpI b.sq a.sq)) := rfl
  rw [HR.out]
  generalize Lib.compareBytes a.ky.data.toList b.ky.data.toList = c1 at *
  generalize cmpI b.sq a.sq = c2 at *
  obtain ⟨k1, s1, d1, v1⟩ := a
  obtain ⟨k2, s2, d2, v2⟩ := b
  dsimp only at *
  clear HR
  generalize hW0 : (w.alloc (.cells #[.string k1, .int .i64 s1, .int .i64 d1, .string v1] 40)).alloc (.cells #[.string k2, .int .i64 s2, .int .i64 d2, .string v2] 40) = W0
  have hA : W0.heap[w.heap.size]? = some (.cells #[.string k1, .int .i64 s1, .int .i64 d1, .string v1] 40 (0, 0)) := by rw [← hW0, Below.heap_alloc _ _ _ (by simp)]; exact World.heap_alloc_new _ _
  have hB : W0.heap[w.heap.size + 1]? = some (.cells #[.string k2, .int .i64 s2, .int .i64 d2, .string v2] 40 (0, 0)) := by
    rw [← hW0]
    have h := World.heap_alloc_new (w.alloc (.cells #[.string k1, .int .i64 s1, .int .i64 d1, .string v1] 40)) (.cells #[.string k2, .int .i64 s2, .int .i64 d2, .string v2] 40)
    rwa [show (w.alloc (.cells #[.string k1, .int .i64 s1, .int .i64 d1, .string v1] 40)).heap.size = w.heap.size + 1 by simp] at h
  have hb0 : Below w.heap.size w W0 := by rw [← hW0]; exact ((Below.refl _ _).alloc (Nat.le_refl _) _).alloc (by simp) _
  have hsz : W0.heap.size = w.heap.size + 2 := by rw [← hW0]; simp
  have hlA : w.heap.size < W0.heap.size := by omega
  have hlB : w.heap.size + 1 < W0.heap.size := by omega
  obtain ⟨x0, x1, -, -⟩ := fourB hA
  obtain ⟨y0, y1, -, -⟩ := fourB hB
  have HC := hdB (cmpOr_or)
  have HB := hdB hb0
  clear hb0 hA hB hsz
  go_enter Try.func23, Try.ntmps23
  go_wp2_with fail
  go_region_held3 (fun w' => w'.cell? ⟨w.heap.size, 0, none⟩ = some (.string k1) ∧ w'.cell? ⟨w.heap.size, 1, none⟩ = some (.int .i64 s1) ∧ w'.cell? ⟨w.heap.size + 1, 0, none⟩ = some (.string k2) ∧ w'.cell? ⟨w.heap.size + 1, 1, none⟩ = some (.int .i64 s2)) (simp [go_sem, *])
    (first
      | (go_at_call 39; refine (HS.out _).mono ?_; rintro e w1 ⟨rfl, rfl⟩)
      | (go_at_call 40; refine (HI.out _).mono ?_; rintro e w2 ⟨rfl, rfl⟩)
      | (go_at_call 38; refine (HC.out _ c1 c2 _ (by simp) (by simp)).mono ?_; rintro e w3 ⟨rfl, rfl⟩))
  all_goals go_wp2_with fail
  all_goals go_ret
  all_goals exact ⟨rfl, by first | exact (HB.out.alloc HB.out.size _).drew | exact HB.out.drew.alloc HB.out.size _⟩

/-- Whether the entries are in order, as the program has it. -/
def ordTo (xs : List En) : Nat → Bool
  | 0 => true
  | i + 1 => ordTo xs i && befE (xs.getD i en0) (xs.getD (i + 1) en0)
theorem ordTo_le {xs : List En} {i j : Nat} (h : ordTo xs j = true) (hij : i ≤ j) : ordTo xs i = true := by
  induction j with
  | zero => rw [show i = 0 by omega]; rfl
  | succ j ih =>
    by_cases he : i = j + 1
    · rw [he]; exact h
    · simp only [ordTo, Bool.and_eq_true] at h
      exact ih h.1 (by omega)
theorem ordTo_bad {xs : List En} {n k : Nat} (hk : k < n) (h : ordTo xs (k + 1) = false) : ordTo xs n = false := by
  cases hn : ordTo xs n with
  | false => rfl
  | true => rw [ordTo_le hn (by omega)] at h; cases h

end Go.Proofs.Ytgkhjjnhikbdaaa
