
import Derived.Test.YtigpplcecbgmaaeApI
namespace Go.Proofs.Ytigpplcecbgmaae
open Go.RowKit Go.Maps
set_option linter.unusedVariables false
set_option linter.unusedSimpArgs false

set_option maxRecDepth 100000 in
theorem belowNext_any (t : Tr) (p : Nat) (v0 v1 : Value) (lg nx la : Int) (w : World) (hp : w.heap[p]? = some (.cells #[v0, v1, .int .i64 lg, .int .i64 nx, .int .i64 la] 25 (0, 0))) :
    Calls Try.prog 64 #[t.agg, .pointer (some ⟨p, 0, none⟩)] w fun e w' => e = .returned (.bool (decide (t.nu < nx))) ∧ Below w.heap.size w w' := by
  obtain ⟨n0, l0, lo0, hi0⟩ := t
  dsimp only
  have hlt := heap_lt hp
  generalize hW0 : w.alloc (.cells #[.int .i64 n0, .int .i64 l0, .string lo0, .string hi0] 54) = W0
  have hA : W0.heap[w.heap.size]? = some (.cells #[.int .i64 n0, .int .i64 l0, .string lo0, .string hi0] 54 (0, 0)) := by rw [← hW0]; exact World.heap_alloc_new _ _
  have hb0 : Below w.heap.size w W0 := by rw [← hW0]; exact (Below.refl _ _).alloc (Nat.le_refl _) _
  have hp0 := (hb0.block p hlt).trans hp
  obtain ⟨x0, x1, x2, x3⟩ := four_cells hA
  obtain ⟨e0, e1, e2, e3, e4⟩ := five_cells hp0
  have HB := hd hb0
  clear hb0 hA hp0
  go_enter Try.func64, Try.ntmps64
  go_wp2_with fail
  go_ret
  exact ⟨rfl, HB.out⟩

set_option maxRecDepth 100000 in
set_option maxHeartbeats 1000000 in
theorem allBelow_any (xs : List Tr) (a : Option Addr) (c p : Nat) (v0 v1 : Value) (lg nx la : Int) (w : World) (hx : LieT w a xs) (hp : w.heap[p]? = some (.cells #[v0, v1, .int .i64 lg, .int .i64 nx, .int .i64 la] 25 (0, 0))) (hl : xs.length ≤ 2000) :
    Calls Try.prog 41 #[.slice a xs.length c, .func (.func 64) #[] #[.pointer (some ⟨p, 0, none⟩)]] w fun e w' => e = .returned (.bool (xs.all fun t => decide (t.nu < nx))) ∧ Below w.heap.size w w' := by
  have HT : Hid (xs.all (fun t => decide (t.nu < nx)) = (xs.drop 0).all (fun t => decide (t.nu < nx))) := rfl
  generalize xs.all (fun t => decide (t.nu < nx)) = R at *
  go_enter Try.func41, Try.ntmps41
  go_wp2_with fail
  go_loopw [9] (fun y wr => ∃ k : Nat, y = .int .i64 k ∧ k ≤ xs.length ∧ Hid (R = (xs.drop k).all (fun t => decide (t.nu < nx))) ∧ Below w.heap.size w wr) (fun y _ => xs.length - (intOf y).toNat)
  case atStart => exact ⟨0, rfl, by omega, HT, Below.refl _ _⟩
  case round =>
    obtain ⟨k, rfl, hk, HS, hb⟩ := hrel
    have hbs := hb.size
    by_cases hlt : k < xs.length
    · obtain ⟨tb, off, rfl, hbl, c0, c1, c2, c3⟩ := (hx.below hb).at hlt
      have hik : (k : Int) < (xs.length : Int) := by omega
      have HSk : Hid (R = (decide ((xs.getD k tr0).nu < nx) && (xs.drop (k + 1)).all (fun t => decide (t.nu < nx)))) := by show _ = _; rw [HS.out, dropT_cons xs k hlt]; rfl
      have hpr := (hb.block p (heap_lt hp)).trans hp
      have HP := hd (fun t w' h => belowNext_any t p v0 v1 lg nx la w' h)
      clear HS
      generalize xs.getD k tr0 = f at *
      obtain ⟨fn, fl, flo, fhi⟩ := f
      dsimp only at *
      have hba : Below w.heap.size w (wr.alloc (.cells #[.int .i64 fn, .int .i64 fl, .string flo, .string fhi] 54)) := hb.alloc hbs _
      have hpa := (Below.heap_alloc wr (.cells #[.int .i64 fn, .int .i64 fl, .string flo, .string fhi] 54) p (heap_lt hpr)).trans hpr
      have HPa := hd (HP.out ⟨fn, fl, flo, fhi⟩ _ hpa)
      have HBa := hd hba
      clear hpa hba hpr HP
      go_wp2_with fail
      refine HPa.out.mono ?_
      rintro e w3 ⟨rfl, hb3⟩
      have HB3 := hd (HBa.out.trans (hb3.mono HBa.out.size))
      dsimp only at *
      cases hok : decide (fn < nx) with
      | false =>
        have hR : R = false := by rw [HSk.out, hok]; rfl
        subst hR
        go_wp2_with fail
        go_ret
        exact ⟨rfl, HB3.out⟩
      | true =>
        have HS3 : Hid (R = (xs.drop (k + 1)).all (fun t => decide (t.nu < nx))) := by show _ = _; rw [HSk.out, hok]; rfl
        go_wp2_with fail
        exact ⟨⟨k + 1, by simp, by omega, HS3, HB3.out⟩, by simp only [intOf]; omega⟩
    · obtain rfl : k = xs.length := by omega
      have hik : ¬ (xs.length : Int) < (xs.length : Int) := by omega
      have hR : R = true := by rw [HS.out, List.drop_length]; rfl
      subst hR
      go_wp2_with fail
      go_ret
      exact ⟨rfl, hb⟩
end Go.Proofs.Ytigpplcecbgmaae
