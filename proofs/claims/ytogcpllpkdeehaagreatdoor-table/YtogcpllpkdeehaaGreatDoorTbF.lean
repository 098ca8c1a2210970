import Derived.Test.YtogcpllpkdeehaaGreatDoorTbE

import Derived.Deep.RegionHeld3
namespace Go.Proofs.YtogcpllpkdeehaaGreatDoor
open Go.RowKit Go.Maps
set_option linter.unusedVariables false
set_option linter.unusedSimpArgs false

theorem fourB {w : World} {p : Nat} {t : TypeId} {x0 x1 x2 x3 : Value} (h : w.heap[p]? = some (.cells #[x0, x1, x2, x3] t (0, 0))) :
    w.cell? ⟨p, 0, none⟩ = some x0 ∧ w.cell? ⟨p, 1, none⟩ = some x1 ∧ w.cell? ⟨p, 2, none⟩ = some x2 ∧ w.cell? ⟨p, 3, none⟩ = some x3 := by
  refine ⟨?_, ?_, ?_, ?_⟩ <;> simp [World.cell?, h]

def orI (x y : Int) : Int := if x ≠ 0 then x else y
theorem cmpOr_or (g : Nat) (x y : Int) (w : World) (c0 : w.cell? ⟨g, 0, none⟩ = some (.int .i64 x)) (c1 : w.cell? ⟨g, 1, none⟩ = some (.int .i64 y)) :
    Calls Tryz.prog 65 #[.slice (some ⟨g, 0, none⟩) 2 2] w fun e w' => e = .returned (.int .i64 (orI x y)) ∧ w' = w := cmpOr_any g x y w c0 c1

set_option maxRecDepth 100000 in
set_option maxHeartbeats 400000 in
theorem entryOrder_any (a b : En) (w : World) :
    Calls Tryz.prog 41 #[a.agg, b.agg] w fun e w' => e = .returned (.int .i64 (ordE a b)) ∧ Below w.heap.size w w' := by
  have HS := hdB (fun w => Tryz.strings_Compare a.ky b.ky w)
  have HI := hdB (fun w => cmpInt_any b.sq a.sq w)
  have HR : Hid (ordE a b = orI (Lib.compareBytes a.ky.data.toList b.ky.data.toList) (cmpI b.sq a.sq)) := rfl
  rw [HR.out]
  generalize Lib.compareBytes a.ky.data.toList b.ky.data.toList = c1 at *
  generalize cmpI b.sq a.sq = c2 at *
  obtain ⟨k1, s1, d1, v1⟩ := a
  obtain ⟨k2, s2, d2, v2⟩ := b
  dsimp only at *
  clear HR
  generalize hW0 : (w.alloc (.cells #[.string k1, .int .i64 s1, .int .i64 d1, .string v1] 39)).alloc (.cells #[.string k2, .int .i64 s2, .int .i64 d2, .string v2] 39) = W0
  have hA : W0.heap[w.heap.size]? = some (.cells #[.string k1, .int .i64 s1, .int .i64 d1, .string v1] 39 (0, 0)) := by rw [← hW0, Below.heap_alloc _ _ _ (by simp)]; exact World.heap_alloc_new _ _
  have hB : W0.heap[w.heap.size + 1]? = some (.cells #[.string k2, .int .i64 s2, .int .i64 d2, .string v2] 39 (0, 0)) := by
    rw [← hW0]
    have h := World.heap_alloc_new (w.alloc (.cells #[.string k1, .int .i64 s1, .int .i64 d1, .string v1] 39)) (.cells #[.string k2, .int .i64 s2, .int .i64 d2, .string v2] 39)
    rwa [show (w.alloc (.cells #[.string k1, .int .i64 s1, .int .i64 d1, .string v1] 39)).heap.size = w.heap.size + 1 by simp] at h
  have hb0 : Below w.heap.size w W0 := by rw [← hW0]; exact ((Below.refl _ _).alloc (Nat.le_refl _) _).alloc (by simp) _
  have hsz : W0.heap.size = w.heap.size + 2 := by rw [← hW0]; simp
  have hlA : w.heap.size < W0.heap.size := by omega
  have hlB : w.heap.size + 1 < W0.heap.size := by omega
  obtain ⟨x0, x1, -, -⟩ := fourB hA
  obtain ⟨y0, y1, -, -⟩ := fourB hB
  have HC := hdB (cmpOr_or)
  have HB := hdB hb0
  clear hb0 hA hB hsz
  go_enter Tryz.func41, Tryz.ntmps41
  go_wp2_with fail
  go_region_held3 (fun w' => w'.cell? ⟨w.heap.size, 0, none⟩ = some (.string k1) ∧ w'.cell? ⟨w.heap.size, 1, none⟩ = some (.int .i64 s1) ∧ w'.cell? ⟨w.heap.size + 1, 0, none⟩ = some (.string k2) ∧ w'.cell? ⟨w.heap.size + 1, 1, none⟩ = some (.int .i64 s2)) (simp [go_sem, *])
    (first
      | (go_at_call 66; refine (HS.out _).mono ?_; rintro e w1 ⟨rfl, rfl⟩)
      | (go_at_call 67; refine (HI.out _).mono ?_; rintro e w2 ⟨rfl, rfl⟩)
      | (go_at_call 65; refine (HC.out _ c1 c2 _ (by simp) (by simp)).mono ?_; rintro e w3 ⟨rfl, rfl⟩))
  all_goals go_wp2_with fail
  all_goals go_ret
  all_goals exact ⟨rfl, by first | exact (HB.out.alloc HB.out.size _).drew | exact HB.out.drew.alloc HB.out.size _⟩

/-- Whether the entries are in order, as the program has it. -/
def ordTo (xs : List En) : Nat → Bool
  | 0 => true
  | i + 1 => ordTo xs i && befE (xs.getD i en0) (xs.getD (i + 1) en0)
theorem ordTo_le {xs : List En} {i j : Nat} (h : ordTo xs j = true) (hij : i ≤ j) : ordTo xs i = true := by
  induction j with
  | zero => rw [show i = 0 by omega]; rfl
  | succ j ih =>
    by_cases he : i = j + 1
    · rw [he]; exact h
    · simp only [ordTo, Bool.and_eq_true] at h
      exact ih h.1 (by omega)
theorem ordTo_bad {xs : List En} {n k : Nat} (hk : k < n) (h : ordTo xs (k + 1) = false) : ordTo xs n = false := by
  cases hn : ordTo xs n with
  | false => rfl
  | true => rw [ordTo_le hn (by omega)] at h; cases h

set_option maxRecDepth 100000 in
set_option maxHeartbeats 2000000 in
theorem inOrder_any (a : Option Addr) (cap : Nat) (xs : List En) (w : World) (hx : LieE w a xs) (hlen : xs.length ≤ 1048576) :
    Calls Tryz.prog 16 #[.slice a xs.length cap] w fun e w' => e = .returned (.bool (ordTo xs (xs.length - 1))) ∧ Below w.heap.size w w' := by
  have HBad : Hid (∀ k, k < xs.length - 1 → ordTo xs (k + 1) = false → ordTo xs (xs.length - 1) = false) := fun k hk h => ordTo_bad hk h
  generalize hT : ordTo xs (xs.length - 1) = T at *
  have HT := hdB hT
  clear hT
  go_enter Tryz.func16, Tryz.ntmps16
  go_wp2_with fail
  go_loopw [7] (fun y wr => ∃ k : Nat, y = .int .i64 k ∧ (k : Int) ≤ max 0 ((xs.length : Int) - 1) ∧ Hid (ordTo xs k = true) ∧ Below w.heap.size w wr) (fun y _ => xs.length - (intOf y).toNat)
  case atStart => exact ⟨0, rfl, by omega, rfl, Below.refl _ _⟩
  case round =>
    obtain ⟨k, rfl, hk, HAll, hb⟩ := hrel
    by_cases hlt : k + 1 < xs.length
    · obtain ⟨b, off, rfl, hbl, c0, c1, c2, c3⟩ := (hx.below hb).at (i := k) (by omega)
      obtain ⟨b', off', e, -, d0, d1, d2, d3⟩ := (hx.below hb).at (i := k + 1) hlt
      cases e
      have hik : (k : Int) < (xs.length : Int) - 1 := by omega
      have hik2 : (k : Int) + 1 < (xs.length : Int) := by omega
      have hik3 : (k : Int) < (xs.length : Int) := by omega
      have hwk : IntKind.i64.wrap ((k : Int) + 1) = (k : Int) + 1 := by rw [IntKind.wrap_i64]; omega
      have hpk : (0 : Int) ≤ (k : Int) + 1 := by omega
      have htk : ((k : Int) + 1).toNat = k + 1 := by omega
      have HStep : Hid (ordTo xs (k + 1) = befE (xs.getD k en0) (xs.getD (k + 1) en0)) := by show _ = _; simp only [ordTo, HAll.out, Bool.true_and]
      have HO := hdB (fun w => entryOrder_any (xs.getD k en0) (xs.getD (k + 1) en0) w)
      have HL := hdB (ordE_lt (xs.getD k en0) (xs.getD (k + 1) en0))
      have HBk := hdB (HBad.out k (by omega))
      have HB := hdB hb
      clear HAll hb
      generalize xs.getD k en0 = f at *
      generalize xs.getD (k + 1) en0 = f' at *
      obtain ⟨k1, s1, q1, v1⟩ := f
      obtain ⟨k2, s2, q2, v2⟩ := f'
      dsimp only at *
      cases hbe : befE ⟨k1, s1, q1, v1⟩ ⟨k2, s2, q2, v2⟩ with
      | false =>
        have hTe := HBk.out (by rw [HStep.out, hbe])
        have hge : (0 : Int) ≤ ordE ⟨k1, s1, q1, v1⟩ ⟨k2, s2, q2, v2⟩ := by have := HL.out; rw [hbe] at this; simpa using this
        clear HStep HL HBk
        subst hTe
        go_wp2_with fail
        go_region_held3 (fun w' => w'.cell? ⟨b, off + k * 4, none⟩ = some (.string k1) ∧ w'.cell? ⟨b, off + k * 4 + 1, none⟩ = some (.int .i64 s1) ∧ w'.cell? ⟨b, off + k * 4 + 2, none⟩ = some (.int .i64 q1) ∧ w'.cell? ⟨b, off + k * 4 + 3, none⟩ = some (.string v1) ∧ w'.cell? ⟨b, off + (k + 1) * 4, none⟩ = some (.string k2) ∧ w'.cell? ⟨b, off + (k + 1) * 4 + 1, none⟩ = some (.int .i64 s2) ∧ w'.cell? ⟨b, off + (k + 1) * 4 + 2, none⟩ = some (.int .i64 q2) ∧ w'.cell? ⟨b, off + (k + 1) * 4 + 3, none⟩ = some (.string v2)) (simp [go_sem, *])
          (first | (go_at_call 41; refine (HO.out _).mono ?_; rintro e w1 ⟨rfl, hb1⟩; have a0 := (hb1.cell (p := ⟨b, _, none⟩) hbl).trans c0; have a1 := (hb1.cell (p := ⟨b, _, none⟩) hbl).trans c1; have a2 := (hb1.cell (p := ⟨b, _, none⟩) hbl).trans c2; have a3 := (hb1.cell (p := ⟨b, _, none⟩) hbl).trans c3; have b0 := (hb1.cell (p := ⟨b, _, none⟩) hbl).trans d0; have b1 := (hb1.cell (p := ⟨b, _, none⟩) hbl).trans d1; have b2 := (hb1.cell (p := ⟨b, _, none⟩) hbl).trans d2; have b3 := (hb1.cell (p := ⟨b, _, none⟩) hbl).trans d3; have HB1 := hdB (HB.out.drew.trans (hb1.mono HB.out.size)); clear hb1))
        all_goals go_wp2_with fail
        all_goals go_ret
        all_goals exact ⟨rfl, HB1.out⟩
      | true =>
        have hA := hdB (HStep.out.trans hbe)
        have hge : ¬ (0 : Int) ≤ ordE ⟨k1, s1, q1, v1⟩ ⟨k2, s2, q2, v2⟩ := by have := HL.out; rw [hbe] at this; simpa using this
        clear HStep HL HBk
        go_wp2_with fail
        go_region_held3 (fun w' => w'.cell? ⟨b, off + k * 4, none⟩ = some (.string k1) ∧ w'.cell? ⟨b, off + k * 4 + 1, none⟩ = some (.int .i64 s1) ∧ w'.cell? ⟨b, off + k * 4 + 2, none⟩ = some (.int .i64 q1) ∧ w'.cell? ⟨b, off + k * 4 + 3, none⟩ = some (.string v1) ∧ w'.cell? ⟨b, off + (k + 1) * 4, none⟩ = some (.string k2) ∧ w'.cell? ⟨b, off + (k + 1) * 4 + 1, none⟩ = some (.int .i64 s2) ∧ w'.cell? ⟨b, off + (k + 1) * 4 + 2, none⟩ = some (.int .i64 q2) ∧ w'.cell? ⟨b, off + (k + 1) * 4 + 3, none⟩ = some (.string v2)) (simp [go_sem, *])
          (first | (go_at_call 41; refine (HO.out _).mono ?_; rintro e w1 ⟨rfl, hb1⟩; have a0 := (hb1.cell (p := ⟨b, _, none⟩) hbl).trans c0; have a1 := (hb1.cell (p := ⟨b, _, none⟩) hbl).trans c1; have a2 := (hb1.cell (p := ⟨b, _, none⟩) hbl).trans c2; have a3 := (hb1.cell (p := ⟨b, _, none⟩) hbl).trans c3; have b0 := (hb1.cell (p := ⟨b, _, none⟩) hbl).trans d0; have b1 := (hb1.cell (p := ⟨b, _, none⟩) hbl).trans d1; have b2 := (hb1.cell (p := ⟨b, _, none⟩) hbl).trans d2; have b3 := (hb1.cell (p := ⟨b, _, none⟩) hbl).trans d3; have HB1 := hdB (HB.out.drew.trans (hb1.mono HB.out.size)); clear hb1))
        all_goals go_wp2_with fail
        all_goals exact ⟨⟨k + 1, by simp, by omega, hA, HB1.out⟩, by simp only [intOf]; omega⟩
    · have hik : ¬ (k : Int) < (xs.length : Int) - 1 := by omega
      have hTe : T = true := by rw [← HT.out]; rw [show xs.length - 1 = k by omega]; exact HAll.out
      subst hTe
      go_wp2_with fail
      go_ret
      exact ⟨rfl, hb⟩
end Go.Proofs.YtogcpllpkdeehaaGreatDoor
