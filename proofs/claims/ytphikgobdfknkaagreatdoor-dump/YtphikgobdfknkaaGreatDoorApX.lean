import Derived.Test.YtphikgobdfknkaaGreatDoorDeA
import Derived.Deep.RegionHeld3
import Derived.Maps.OwnSet
namespace Go.Proofs.YtphikgobdfknkaaGreatDoor
open Go.RowKit Go.Maps
set_option linter.unusedVariables false
set_option linter.unusedSimpArgs false

/-- The order of numbers, and of references, as the program has it. -/
def cmpI (x y : Int) : Int := if x < y then -1 else if y < x then 1 else 0
set_option maxRecDepth 100000 in
theorem isNaN_any (x : Int) (w : World) : Calls Tryz.prog 140 #[.int .i64 x] w fun e w' => e = .returned (.bool false) ∧ w' = w := by
  go_enter Tryz.func140, Tryz.ntmps140
  go_wp2_with fail
  go_ret
  exact ⟨rfl, rfl⟩
set_option maxRecDepth 100000 in
theorem cmpInt_any (x y : Int) (w : World) : Calls Tryz.prog 119 #[.int .i64 x, .int .i64 y] w fun e w' => e = .returned (.int .i64 (cmpI x y)) ∧ w' = w := by
  unfold cmpI
  by_cases h1 : x < y
  · rw [if_pos h1]
    go_enter Tryz.func119, Tryz.ntmps119
    go_wp2_with (go_at_call 140; refine (isNaN_any _ _).mono ?_; rintro e w' ⟨rfl, rfl⟩)
    go_ret
    exact ⟨rfl, rfl⟩
  · by_cases h2 : y < x
    · rw [if_neg h1, if_pos h2]
      go_enter Tryz.func119, Tryz.ntmps119
      go_wp2_with (go_at_call 140; refine (isNaN_any _ _).mono ?_; rintro e w' ⟨rfl, rfl⟩)
      go_ret
      exact ⟨rfl, rfl⟩
    · rw [if_neg h1, if_neg h2]
      go_enter Tryz.func119, Tryz.ntmps119
      go_wp2_with (go_at_call 140; refine (isNaN_any _ _).mono ?_; rintro e w' ⟨rfl, rfl⟩)
      go_ret
      exact ⟨rfl, rfl⟩
set_option maxRecDepth 100000 in
theorem cmpOr_any (g : Nat) (x y : Int) (w : World) (c0 : w.cell? ⟨g, 0, none⟩ = some (.int .i64 x)) (c1 : w.cell? ⟨g, 1, none⟩ = some (.int .i64 y)) :
    Calls Tryz.prog 118 #[.slice (some ⟨g, 0, none⟩) 2 2] w fun e w' => e = .returned (.int .i64 (if x ≠ 0 then x else y)) ∧ w' = w := by
  by_cases hx : x = 0
  · subst hx
    rw [if_neg (by simp)]
    by_cases hy : y = 0
    · subst hy
      go_enter Tryz.func118, Tryz.ntmps118
      go_wp2_with fail
      refine wp_loop_rounds 3 ?_
      rw [rounds_succ]
      go_wp2_with fail
      rw [rounds_succ]
      go_wp2_with fail
      rw [rounds_succ]
      go_wp2_with fail
      go_ret
      exact ⟨rfl, rfl⟩
    · have hy' : (y != 0) = true := by rw [bne_iff_ne]; exact hy
      go_enter Tryz.func118, Tryz.ntmps118
      go_wp2_with fail
      refine wp_loop_rounds 2 ?_
      rw [rounds_succ]
      go_wp2_with fail
      rw [rounds_succ]
      go_wp2_with fail
      go_ret
      exact ⟨rfl, rfl⟩
  · rw [if_pos hx]
    have hx' : (x != 0) = true := by rw [bne_iff_ne]; exact hx
    go_enter Tryz.func118, Tryz.ntmps118
    go_wp2_with fail
    refine wp_loop_rounds 1 ?_
    rw [rounds_succ]
    go_wp2_with fail
    go_ret
    exact ⟨rfl, rfl⟩
def orI (x y : Int) : Int := if x ≠ 0 then x else y
theorem cmpOr_or (g : Nat) (x y : Int) (w : World) (c0 : w.cell? ⟨g, 0, none⟩ = some (.int .i64 x)) (c1 : w.cell? ⟨g, 1, none⟩ = some (.int .i64 y)) :
    Calls Tryz.prog 118 #[.slice (some ⟨g, 0, none⟩) 2 2] w fun e w' => e = .returned (.int .i64 (orI x y)) ∧ w' = w := cmpOr_any g x y w c0 c1

def ordT (a b : Tr) : Int := orI (cmpI a.lv b.lv) (cmpI a.nu b.nu)
theorem ordT_lt (a b : Tr) : decide (ordT a b < 0) = rBef a b := by
  unfold ordT rBef orI cmpI
  by_cases h : a.lv = b.lv
  · rw [h]
    simp
    by_cases h1 : a.nu < b.nu
    · simp [h1]
    · by_cases h2 : b.nu < a.nu <;> simp [h1, h2]
  · by_cases h1 : a.lv < b.lv
    · simp [h, h1]
    · have h2 : b.lv < a.lv := by omega
      simp [h, h1, h2]
set_option maxRecDepth 100000 in
set_option maxHeartbeats 400000 in
theorem refOrder_any (a b : Tr) (w : World) :
    Calls Tryz.prog 99 #[a.agg, b.agg] w fun e w' => e = .returned (.int .i64 (ordT a b)) ∧ Below w.heap.size w w' ∧ w.drawn ≤ w'.drawn := by
  have HS := hd (fun w => cmpInt_any a.lv b.lv w)
  have HI := hd (fun w => cmpInt_any a.nu b.nu w)
  have HR : Hid (ordT a b = orI (cmpI a.lv b.lv) (cmpI a.nu b.nu)) := rfl
  rw [HR.out]
  generalize cmpI a.lv b.lv = c1 at *
  generalize cmpI a.nu b.nu = c2 at *
  obtain ⟨n1, l1, lo1, hi1⟩ := a
  obtain ⟨n2, l2, lo2, hi2⟩ := b
  dsimp only at *
  clear HR
  generalize hW0 : (w.alloc (.cells #[.int .i64 n1, .int .i64 l1, .string lo1, .string hi1] 45)).alloc (.cells #[.int .i64 n2, .int .i64 l2, .string lo2, .string hi2] 45) = W0
  have hA : W0.heap[w.heap.size]? = some (.cells #[.int .i64 n1, .int .i64 l1, .string lo1, .string hi1] 45 (0, 0)) := by rw [← hW0, Below.heap_alloc _ _ _ (by simp)]; exact World.heap_alloc_new _ _
  have hB : W0.heap[w.heap.size + 1]? = some (.cells #[.int .i64 n2, .int .i64 l2, .string lo2, .string hi2] 45 (0, 0)) := by
    rw [← hW0]
    have h := World.heap_alloc_new (w.alloc (.cells #[.int .i64 n1, .int .i64 l1, .string lo1, .string hi1] 45)) (.cells #[.int .i64 n2, .int .i64 l2, .string lo2, .string hi2] 45)
    rwa [show (w.alloc (.cells #[.int .i64 n1, .int .i64 l1, .string lo1, .string hi1] 45)).heap.size = w.heap.size + 1 by simp] at h
  have hb0 : Below w.heap.size w W0 := by rw [← hW0]; exact ((Below.refl _ _).alloc (Nat.le_refl _) _).alloc (by simp) _
  have hsz : W0.heap.size = w.heap.size + 2 := by rw [← hW0]; simp
  have HDr : Hid (W0.drawn = w.drawn) := by show _ = _; rw [← hW0]; rfl
  have hlA : w.heap.size < W0.heap.size := by omega
  have hlB : w.heap.size + 1 < W0.heap.size := by omega
  obtain ⟨x0, x1, x2, x3⟩ := four_cells hA
  obtain ⟨y0, y1, y2, y3⟩ := four_cells hB
  have HC := hd (cmpOr_or)
  have HB := hd hb0
  clear hb0 hA hB hsz
  go_enter Tryz.func99, Tryz.ntmps99
  go_wp2_with fail
  go_region_held3 (fun w' => w'.cell? ⟨w.heap.size, 0, none⟩ = some (.int .i64 n1) ∧ w'.cell? ⟨w.heap.size, 1, none⟩ = some (.int .i64 l1) ∧ w'.cell? ⟨w.heap.size + 1, 0, none⟩ = some (.int .i64 n2) ∧ w'.cell? ⟨w.heap.size + 1, 1, none⟩ = some (.int .i64 l2)) (simp [go_sem, *])
    (first
      | (go_at_call 119; with_reducible refine (HS.out _).mono ?_; rintro e w1 ⟨rfl, rfl⟩)
      | (go_at_call 119; with_reducible refine (HI.out _).mono ?_; rintro e w2 ⟨rfl, rfl⟩)
      | (go_at_call 118; refine (HC.out _ c1 c2 _ (by simp) (by simp)).mono ?_; rintro e w3 ⟨rfl, rfl⟩))
  all_goals go_wp2_with fail
  all_goals go_ret
  all_goals exact ⟨rfl, by first | exact (HB.out.alloc HB.out.size _).drew | exact HB.out.drew.alloc HB.out.size _, by rw [← HDr.out]; exact Nat.le_succ _⟩

/-- Whether two references keep each other out of one version. -/
def collT (a b : Tr) : Bool := decide (0 < a.lv) && (decide (a.lv = b.lv) && (!lessB a.hi b.lo && !lessB b.hi a.lo))
theorem good2_coll (a b : Tr) : good2 a b = (decide (a.nu ≠ b.nu) && !collT a b) := by
  unfold good2 apart2 collT
  by_cases h1 : 0 < a.lv <;> by_cases h2 : a.lv = b.lv <;> cases lessB a.hi b.lo <;> cases lessB b.hi a.lo <;> simp [h1, h2]
set_option maxRecDepth 100000 in
set_option maxHeartbeats 400000 in
theorem collide_any (a b : Tr) (w : World) :
    Calls Tryz.prog 114 #[a.agg, b.agg] w fun e w' => e = .returned (.bool (collT a b)) ∧ Below w.heap.size w w' := by
  obtain ⟨n1, l1, lo1, hi1⟩ := a
  obtain ⟨n2, l2, lo2, hi2⟩ := b
  have HR : Hid (collT ⟨n1, l1, lo1, hi1⟩ ⟨n2, l2, lo2, hi2⟩ = (decide (0 < l1) && (decide (l1 = l2) && (!lessB hi1 lo2 && !lessB hi2 lo1)))) := rfl
  rw [HR.out]
  clear HR
  generalize hW0 : (w.alloc (.cells #[.int .i64 n1, .int .i64 l1, .string lo1, .string hi1] 45)).alloc (.cells #[.int .i64 n2, .int .i64 l2, .string lo2, .string hi2] 45) = W0
  have hA : W0.heap[w.heap.size]? = some (.cells #[.int .i64 n1, .int .i64 l1, .string lo1, .string hi1] 45 (0, 0)) := by rw [← hW0, Below.heap_alloc _ _ _ (by simp)]; exact World.heap_alloc_new _ _
  have hB : W0.heap[w.heap.size + 1]? = some (.cells #[.int .i64 n2, .int .i64 l2, .string lo2, .string hi2] 45 (0, 0)) := by
    rw [← hW0]
    have h := World.heap_alloc_new (w.alloc (.cells #[.int .i64 n1, .int .i64 l1, .string lo1, .string hi1] 45)) (.cells #[.int .i64 n2, .int .i64 l2, .string lo2, .string hi2] 45)
    rwa [show (w.alloc (.cells #[.int .i64 n1, .int .i64 l1, .string lo1, .string hi1] 45)).heap.size = w.heap.size + 1 by simp] at h
  have hb0 : Below w.heap.size w W0 := by rw [← hW0]; exact ((Below.refl _ _).alloc (Nat.le_refl _) _).alloc (by simp) _
  have hsz : W0.heap.size = w.heap.size + 2 := by rw [← hW0]; simp
  have hlA : w.heap.size < W0.heap.size := by omega
  have hlB : w.heap.size + 1 < W0.heap.size := by omega
  obtain ⟨x0, x1, x2, x3⟩ := four_cells hA
  obtain ⟨y0, y1, y2, y3⟩ := four_cells hB
  have HB := hd hb0
  clear hb0 hA hB hsz
  by_cases h1 : 0 < l1
  · by_cases h2 : l1 = l2
    · have hql : (l1 == l2) = true := by rw [h2]; simp
      have h2' := hd h2
      clear h2
      cases hb1 : lessB hi1 lo2 with
      | true =>
        have hs1 : Op.bytesLess hi1.toList lo2.toList = true := hb1
        go_enter Tryz.func114, Tryz.ntmps114
        go_wp2_with fail
        go_ret
        exact ⟨by simp, HB.out⟩
      | false =>
        have hs1 : Op.bytesLess hi1.toList lo2.toList = false := hb1
        cases hb2 : lessB hi2 lo1 with
        | true =>
          have hs2 : Op.bytesLess hi2.toList lo1.toList = true := hb2
          go_enter Tryz.func114, Tryz.ntmps114
          go_wp2_with fail
          go_ret
          exact ⟨by simp, HB.out⟩
        | false =>
          have hs2 : Op.bytesLess hi2.toList lo1.toList = false := hb2
          go_enter Tryz.func114, Tryz.ntmps114
          go_wp2_with fail
          go_ret
          exact ⟨by have hz : 0 < l2 := (by have := h2'.out; omega); simp [h2'.out, hz], HB.out⟩
    · have hql : (l1 == l2) = false := by simpa using h2
      have h2' := hd h2
      clear h2
      go_enter Tryz.func114, Tryz.ntmps114
      go_wp2_with fail
      go_ret
      exact ⟨by simp [h2'.out], HB.out⟩
  · have hz1 := hd (decide_eq_false h1)
    go_enter Tryz.func114, Tryz.ntmps114
    go_wp2_with fail
    go_ret
    exact ⟨by rw [hz1.out]; rfl, HB.out⟩
end Go.Proofs.YtphikgobdfknkaaGreatDoor
namespace Go.Proofs.YtphikgobdfknkaaGreatDoor
open Go.RowKit Go.Maps
set_option linter.unusedVariables false
set_option linter.unusedSimpArgs false

theorem keyI : Keyed Tryz.prog 3 := int_keyed Tryz.underlying3
theorem keyI_mk {x : Int} (h : (Lit.int .i64 x).wf = true) : keyOf Tryz.prog 3 (.int .i64 x) = some (.int .i64 x) := keyOf_int_mk Tryz.underlying3 h
theorem zeroI (w : World) : (zeroValue 3).run Tryz.prog w = .ok (.int .i64 0) w := by
  simp [zeroValue, go_sem]
  rfl
/-- A number of a catalog. -/
theorem has_any {H : Type} (g b n : Nat) (tv : Value) (t : TypeId) (D : DataW H) (x : Int) (w : World) (hx : (Lit.int .i64 x).wf = true) (hg : w.heap[g]? = some (.cells #[tv, .map (some b)] t (0, 0))) (hown : w.ownsMap Tryz.prog 3 (plainElem Tryz.prog 3) b n D) :
    Calls Tryz.prog 92 #[.pointer (some ⟨g, 0, none⟩), .int .i64 x] w fun e w' => e = .returned (.bool (Maps.has D (.int .i64 x))) ∧ w' = w := by
  obtain ⟨c0, c1, -, -⟩ := two_cells hg
  have hO := hd hown
  clear hown
  go_enter Tryz.func92, Tryz.ntmps92
  go_wp2_with (at_lookup; refine wpList_lookup_own_ok_int _ rfl _ _ 153 rfl 3 3 .i64 keyI Tryz.underlying153 Tryz.underlying3 (zeroI _) b n D rfl hO.out _ _ rfl (keyI_mk hx) ?_; intro c hc hwc)
  go_ret
  exact ⟨rfl, rfl⟩
end Go.Proofs.YtphikgobdfknkaaGreatDoor
namespace Go.Proofs.YtphikgobdfknkaaGreatDoor
open Go.RowKit Go.Maps
set_option linter.unusedVariables false
set_option linter.unusedSimpArgs false

/-- A map of numbers: those of ns are in it, and those of gs are marked as gone. -/
def MIs {H : Type} (D : DataW H) (ns gs : List Int) : Prop :=
  ∀ x, has D (.int .i64 x) = ns.contains x ∧ (ns.contains x = true → ∃ d : Int, D.atKey (.int .i64 x) (.lit (.int .i64 0)) = .lit (.int .i64 d) ∧ (d = -1 ↔ gs.contains x = true))
theorem keyLitI (x : Int) : WideAt.IsKeyLit (.int .i64 x) := by simp [WideAt.IsKeyLit]
theorem litI_ne {x y : Int} (h : x ≠ y) : (Lit.int .i64 x) ≠ Lit.int .i64 y := fun e => h (by injection e)
theorem MIs.add {H : Type} {D : DataW H} {ns : List Int} (h : MIs D ns []) (hD : IsMap D) (x i : Int) (hi : 0 ≤ i) : MIs (D.put (.int .i64 x) (.lit (.int .i64 i))) (ns ++ [x]) [] := by
  intro y
  by_cases e : y = x
  · subst e
    rw [has_put_same hD (keyLitI _)]
    refine ⟨by simp, fun _ => ⟨i, atKey_put_same hD (keyLitI _) _ _, ?_⟩⟩
    simp
    omega
  · rw [has_put_other (litI_ne e), atKey_put_other (litI_ne e)]
    have hc : (ns ++ [x]).contains y = ns.contains y := by
      rw [List.contains_append]
      have h0 : [x].contains y = false := by simp [e]
      rw [h0, Bool.or_false]
    rw [hc]
    exact h y
theorem MIs.gone {H : Type} {D : DataW H} {ns gs : List Int} (h : MIs D ns gs) (hD : IsMap D) (x : Int) (hx : ns.contains x = true) : MIs (D.put (.int .i64 x) (.lit (.int .i64 (-1)))) ns (gs ++ [x]) := by
  intro y
  by_cases e : y = x
  · subst e
    rw [has_put_same hD (keyLitI _), hx]
    refine ⟨rfl, fun _ => ⟨-1, atKey_put_same hD (keyLitI _) _ _, ?_⟩⟩
    simp
  · rw [has_put_other (litI_ne e), atKey_put_other (litI_ne e)]
    have hc : (gs ++ [x]).contains y = gs.contains y := by
      rw [List.contains_append]
      have h0 : [x].contains y = false := by simp [e]
      rw [h0, Bool.or_false]
    rw [hc]
    exact h y
theorem below_turned {B b : Nat} {a w w' : World} (h : Below B a w) (ht : w.mapTurned w' b) (hB : B ≤ w.heap.size) (hb : B ≤ b) : Below B a w' :=
  h.grown ht.grown hB (fun k e => by cases e; exact hb)
end Go.Proofs.YtphikgobdfknkaaGreatDoor
