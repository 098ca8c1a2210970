import Derived.Test.YtigpplcecbgmaaeGreatDoorDeK
import Derived.Deep.RegionHeld3
namespace Go.Proofs.YtigpplcecbgmaaeGreatDoor
open Go.RowKit Go.Maps
set_option linter.unusedVariables false
set_option linter.unusedSimpArgs false

/-- The order of references. -/
def rBef (a b : Tr) : Bool := if a.lv ≠ b.lv then decide (a.lv < b.lv) else decide (a.nu < b.nu)
/-- A list with one reference more, ahead of the first that comes behind it. -/
def insT (t : Tr) : List Tr → List Tr
  | [] => [t]
  | x :: xs => if rBef t x = true then t :: x :: xs else x :: insT t xs
theorem insT_len (t : Tr) : ∀ xs, (insT t xs).length = xs.length + 1
  | [] => rfl
  | x :: xs => by
    unfold insT
    split
    · simp
    · simp [insT_len t xs]
def insAll (acc xs : List Tr) : List Tr := xs.foldl (fun acc t => insT t acc) acc
theorem insAll_snoc (acc xs : List Tr) (t : Tr) : insAll acc (xs ++ [t]) = insT t (insAll acc xs) := by simp [insAll]
theorem insAll_len (acc : List Tr) : ∀ xs, (insAll acc xs).length = acc.length + xs.length := by
  intro xs
  induction xs generalizing acc with
  | nil => simp [insAll]
  | cons x xs ih =>
    have h := ih (insT x acc)
    simp only [insAll, List.foldl_cons, insT_len, List.length_cons] at *
    omega
theorem insT_perm (t : Tr) : ∀ xs, (insT t xs).Perm (t :: xs)
  | [] => List.Perm.refl _
  | x :: xs => by
    unfold insT
    split
    · exact List.Perm.refl _
    · exact (List.Perm.cons x (insT_perm t xs)).trans (List.Perm.swap t x xs)
theorem insAll_perm : ∀ (xs acc : List Tr), (insAll acc xs).Perm (acc ++ xs)
  | [], acc => by simp [insAll]
  | x :: xs, acc => by
    have h := insAll_perm xs (insT x acc)
    refine (show insAll acc (x :: xs) = insAll (insT x acc) xs from rfl) ▸ h.trans ?_
    exact ((insT_perm x acc).append_right xs).trans (by simpa using (List.perm_middle (a := x) (l₁ := acc) (l₂ := xs)).symm)
/-- Two references that may stand in one version. -/
def apart2 (a b : Tr) : Bool := lessB a.hi b.lo || lessB b.hi a.lo
def good2 (a b : Tr) : Bool := decide (a.nu ≠ b.nu) && !(decide (a.lv = b.lv) && (decide (0 < a.lv) && !apart2 a b))
theorem good2_symm (a b : Tr) : good2 a b = good2 b a := by
  unfold good2 apart2
  have e1 : decide (a.nu ≠ b.nu) = decide (b.nu ≠ a.nu) := by
    by_cases h : a.nu = b.nu
    · simp [h]
    · have h' : b.nu ≠ a.nu := fun e => h e.symm
      simp [h, h']
  have e2 : decide (a.lv = b.lv) = decide (b.lv = a.lv) := by
    by_cases h : a.lv = b.lv
    · simp [h]
    · have h' : ¬ b.lv = a.lv := fun e => h e.symm
      simp [h, h']
  rw [e1, e2, Bool.or_comm (lessB a.hi b.lo)]
  by_cases h : b.lv = a.lv
  · rw [h]
  · simp [h]
/-- The first k references are below nx and go together. -/
def inTo (xs : List Tr) (x : Tr) : Nat → Bool
  | 0 => true
  | j + 1 => inTo xs x j && good2 x (xs.getD j tr0)
def pairTo (xs : List Tr) (nx : Int) : Nat → Bool
  | 0 => true
  | k + 1 => pairTo xs nx k && (decide ((xs.getD k tr0).nu < nx) && inTo xs (xs.getD k tr0) k)
theorem inTo_bad {xs : List Tr} {x : Tr} {j n : Nat} (hj : j < n) (h : inTo xs x (j + 1) = false) : inTo xs x n = false := by
  induction n with
  | zero => omega
  | succ n ih =>
    by_cases hn : j = n
    · subst hn; exact h
    · simp only [inTo]; rw [ih (by omega)]; rfl
theorem pairTo_bad {xs : List Tr} {nx : Int} {j n : Nat} (hj : j < n) (h : pairTo xs nx (j + 1) = false) : pairTo xs nx n = false := by
  induction n with
  | zero => omega
  | succ n ih =>
    by_cases hn : j = n
    · subst hn; exact h
    · simp only [pairTo]; rw [ih (by omega)]; rfl
/-- What stands of the tables, and whether every Del is that of one. -/
def leftT (ts : List Tr) (ds : List Int) : List Tr := ts.filter fun t => !ds.contains t.nu
def delsOk (ts : List Tr) (ds : List Int) : Bool := ds.all fun d => (ts.map Tr.nu).contains d
def apS (ts : List Tr) (e : Ed) : List Tr := insAll (insAll [] (leftT ts e.dl)) e.ad
/-- What ApplyEdit gives. -/
def apOk (ts : List Tr) (e : Ed) : Bool := edOk e && (decide (ts.length ≤ 1000) && (delsOk ts e.dl && (decide (e.lg < e.nx) && (decide ((apS ts e).length ≤ 1000) && pairTo (apS ts e) e.nx (apS ts e).length))))

set_option maxRecDepth 100000 in
set_option maxHeartbeats 400000 in
theorem refBefore_any (a b : Tr) (w : World) :
    Calls Tryz.prog 128 #[a.agg, b.agg] w fun e w' => e = .returned (.bool (rBef a b)) ∧ Below w.heap.size w w' := by
  obtain ⟨n1, l1, lo1, hi1⟩ := a
  obtain ⟨n2, l2, lo2, hi2⟩ := b
  have hbel : Below w.heap.size w ((w.alloc (.cells #[.int .i64 n1, .int .i64 l1, .string lo1, .string hi1] 126)).alloc (.cells #[.int .i64 n2, .int .i64 l2, .string lo2, .string hi2] 126)) := ((Below.refl _ _).alloc (Nat.le_refl _) _).alloc (by simp) _
  by_cases hl : l1 = l2
  · have hR : rBef ⟨n1, l1, lo1, hi1⟩ ⟨n2, l2, lo2, hi2⟩ = decide (n1 < n2) := by unfold rBef; simp [hl]
    rw [hR]
    subst hl
    go_enter Tryz.func128, Tryz.ntmps128
    go_wp2_with fail
    go_ret
    exact ⟨rfl, hbel⟩
  · have hR : rBef ⟨n1, l1, lo1, hi1⟩ ⟨n2, l2, lo2, hi2⟩ = decide (l1 < l2) := by unfold rBef; simp [hl]
    rw [hR]
    go_enter Tryz.func128, Tryz.ntmps128
    go_wp2_with fail
    go_ret
    exact ⟨rfl, hbel⟩
theorem contains_take {ks : List Int} {x : Int} {k : Nat} (hk : k < ks.length) (h : (ks.take k).contains x = false) : (ks.take (k + 1)).contains x = (ks.getD k 0 == x) := by
  rw [takeI_snoc ks k hk, List.contains_append, h]
  simp only [Bool.false_or, List.contains_cons, List.contains_nil, Bool.or_false]
  exact Bool.beq_comm
theorem contains_of_take {ks : List Int} {x : Int} {k : Nat} (h : (ks.take k).contains x = true) : ks.contains x = true := by
  rw [List.contains_iff_mem] at *
  exact List.mem_of_mem_take h

set_option maxRecDepth 100000 in
set_option maxHeartbeats 400000 in
theorem hasNum_any (a : Option Addr) (cap : Nat) (ks : List Int) (x : Int) (w : World) (hx : LieI w a ks) (hlen : ks.length ≤ 1048576) :
    Calls Tryz.prog 97 #[.slice a ks.length cap, .int .i64 x] w fun e w' => e = .returned (.bool (ks.contains x)) ∧ w' = w := by
  have HYes : Hid (∀ k, k < ks.length → ks.getD k 0 = x → ks.contains x = true) := fun k hk h => by
    rw [List.contains_iff_mem, ← h, show ks.getD k 0 = ks[k] by simp [List.getD, hk]]
    exact List.getElem_mem hk
  have HNo : Hid ((ks.take ks.length).contains x = false → ks.contains x = false) := fun h => by rwa [List.take_length] at h
  generalize ks.contains x = R at *
  go_enter Tryz.func97, Tryz.ntmps97
  go_wp2_with fail
  go_loop [5] (fun i => ∃ k : Nat, i = .int .i64 k ∧ k ≤ ks.length ∧ Hid ((ks.take k).contains x = false)) (fun i => ks.length - (intOf i).toNat)
  case atStart => exact ⟨0, rfl, Nat.zero_le _, rfl⟩
  case round =>
    obtain ⟨k, rfl, hk, HC⟩ := hrel
    by_cases hlt : k < ks.length
    · obtain ⟨b, off, rfl, hbl, c0⟩ := hx.at hlt
      have hik : (k : Int) < (ks.length : Int) := by omega
      have HCT := hd (contains_take (x := x) hlt HC.out)
      by_cases hq : ks.getD k 0 = x
      · have hR := HYes.out k hlt hq
        subst hR
        rw [hq] at c0
        clear HCT HC
        replace hq := hd hq
        go_wp2_with fail
        go_ret
        exact ⟨rfl, rfl⟩
      · have HC' : Hid ((ks.take (k + 1)).contains x = false) := by show _ = _; rw [HCT.out]; simpa using hq
        clear HCT HC
        generalize ks.getD k 0 = y at *
        go_wp2_with fail
        go_round
        case rel => exact ⟨k + 1, by simp, by omega, HC'⟩
        case measure => simp [intOf]; omega
    · obtain rfl : k = ks.length := by omega
      have hR := HNo.out HC.out
      subst hR
      go_wp2_with fail
      go_ret
      exact ⟨rfl, rfl⟩
end Go.Proofs.YtigpplcecbgmaaeGreatDoor
namespace Go.Proofs.YtigpplcecbgmaaeGreatDoor
open Go.RowKit Go.Maps
set_option linter.unusedVariables false
set_option linter.unusedSimpArgs false

/-- The order of numbers, and of references, as the program has it. -/
def cmpI (x y : Int) : Int := if x < y then -1 else if y < x then 1 else 0
set_option maxRecDepth 100000 in
theorem isNaN_any (x : Int) (w : World) : Calls Tryz.prog 145 #[.int .i64 x] w fun e w' => e = .returned (.bool false) ∧ w' = w := by
  go_enter Tryz.func145, Tryz.ntmps145
  go_wp2_with fail
  go_ret
  exact ⟨rfl, rfl⟩
set_option maxRecDepth 100000 in
theorem cmpInt_any (x y : Int) (w : World) : Calls Tryz.prog 118 #[.int .i64 x, .int .i64 y] w fun e w' => e = .returned (.int .i64 (cmpI x y)) ∧ w' = w := by
  unfold cmpI
  by_cases h1 : x < y
  · rw [if_pos h1]
    go_enter Tryz.func118, Tryz.ntmps118
    go_wp2_with (go_at_call 145; refine (isNaN_any _ _).mono ?_; rintro e w' ⟨rfl, rfl⟩)
    go_ret
    exact ⟨rfl, rfl⟩
  · by_cases h2 : y < x
    · rw [if_neg h1, if_pos h2]
      go_enter Tryz.func118, Tryz.ntmps118
      go_wp2_with (go_at_call 145; refine (isNaN_any _ _).mono ?_; rintro e w' ⟨rfl, rfl⟩)
      go_ret
      exact ⟨rfl, rfl⟩
    · rw [if_neg h1, if_neg h2]
      go_enter Tryz.func118, Tryz.ntmps118
      go_wp2_with (go_at_call 145; refine (isNaN_any _ _).mono ?_; rintro e w' ⟨rfl, rfl⟩)
      go_ret
      exact ⟨rfl, rfl⟩
set_option maxRecDepth 100000 in
theorem cmpOr_any (g : Nat) (x y : Int) (w : World) (c0 : w.cell? ⟨g, 0, none⟩ = some (.int .i64 x)) (c1 : w.cell? ⟨g, 1, none⟩ = some (.int .i64 y)) :
    Calls Tryz.prog 116 #[.slice (some ⟨g, 0, none⟩) 2 2] w fun e w' => e = .returned (.int .i64 (if x ≠ 0 then x else y)) ∧ w' = w := by
  by_cases hx : x = 0
  · subst hx
    rw [if_neg (by simp)]
    by_cases hy : y = 0
    · subst hy
      go_enter Tryz.func116, Tryz.ntmps116
      go_wp2_with fail
      refine wp_loop_rounds 3 ?_
      rw [rounds_succ]
      go_wp2_with fail
      rw [rounds_succ]
      go_wp2_with fail
      rw [rounds_succ]
      go_wp2_with fail
      go_ret
      exact ⟨rfl, rfl⟩
    · have hy' : (y != 0) = true := by rw [bne_iff_ne]; exact hy
      go_enter Tryz.func116, Tryz.ntmps116
      go_wp2_with fail
      refine wp_loop_rounds 2 ?_
      rw [rounds_succ]
      go_wp2_with fail
      rw [rounds_succ]
      go_wp2_with fail
      go_ret
      exact ⟨rfl, rfl⟩
  · rw [if_pos hx]
    have hx' : (x != 0) = true := by rw [bne_iff_ne]; exact hx
    go_enter Tryz.func116, Tryz.ntmps116
    go_wp2_with fail
    refine wp_loop_rounds 1 ?_
    rw [rounds_succ]
    go_wp2_with fail
    go_ret
    exact ⟨rfl, rfl⟩
def orI (x y : Int) : Int := if x ≠ 0 then x else y
theorem cmpOr_or (g : Nat) (x y : Int) (w : World) (c0 : w.cell? ⟨g, 0, none⟩ = some (.int .i64 x)) (c1 : w.cell? ⟨g, 1, none⟩ = some (.int .i64 y)) :
    Calls Tryz.prog 116 #[.slice (some ⟨g, 0, none⟩) 2 2] w fun e w' => e = .returned (.int .i64 (orI x y)) ∧ w' = w := cmpOr_any g x y w c0 c1

def ordT (a b : Tr) : Int := orI (cmpI a.lv b.lv) (cmpI a.nu b.nu)
theorem ordT_lt (a b : Tr) : decide (ordT a b < 0) = rBef a b := by
  unfold ordT rBef orI cmpI
  by_cases h : a.lv = b.lv
  · rw [h]
    simp
    by_cases h1 : a.nu < b.nu
    · simp [h1]
    · by_cases h2 : b.nu < a.nu <;> simp [h1, h2]
  · by_cases h1 : a.lv < b.lv
    · simp [h, h1]
    · have h2 : b.lv < a.lv := by omega
      simp [h, h1, h2]
set_option maxRecDepth 100000 in
set_option maxHeartbeats 400000 in
theorem refOrder_any (a b : Tr) (w : World) :
    Calls Tryz.prog 109 #[a.agg, b.agg] w fun e w' => e = .returned (.int .i64 (ordT a b)) ∧ Below w.heap.size w w' ∧ w.drawn ≤ w'.drawn := by
  have HS := hd (fun w => cmpInt_any a.lv b.lv w)
  have HI := hd (fun w => cmpInt_any a.nu b.nu w)
  have HR : Hid (ordT a b = orI (cmpI a.lv b.lv) (cmpI a.nu b.nu)) := rfl
  rw [HR.out]
  generalize cmpI a.lv b.lv = c1 at *
  generalize cmpI a.nu b.nu = c2 at *
  obtain ⟨n1, l1, lo1, hi1⟩ := a
  obtain ⟨n2, l2, lo2, hi2⟩ := b
  dsimp only at *
  clear HR
  generalize hW0 : (w.alloc (.cells #[.int .i64 n1, .int .i64 l1, .string lo1, .string hi1] 126)).alloc (.cells #[.int .i64 n2, .int .i64 l2, .string lo2, .string hi2] 126) = W0
  have hA : W0.heap[w.heap.size]? = some (.cells #[.int .i64 n1, .int .i64 l1, .string lo1, .string hi1] 126 (0, 0)) := by rw [← hW0, Below.heap_alloc _ _ _ (by simp)]; exact World.heap_alloc_new _ _
  have hB : W0.heap[w.heap.size + 1]? = some (.cells #[.int .i64 n2, .int .i64 l2, .string lo2, .string hi2] 126 (0, 0)) := by
    rw [← hW0]
    have h := World.heap_alloc_new (w.alloc (.cells #[.int .i64 n1, .int .i64 l1, .string lo1, .string hi1] 126)) (.cells #[.int .i64 n2, .int .i64 l2, .string lo2, .string hi2] 126)
    rwa [show (w.alloc (.cells #[.int .i64 n1, .int .i64 l1, .string lo1, .string hi1] 126)).heap.size = w.heap.size + 1 by simp] at h
  have hb0 : Below w.heap.size w W0 := by rw [← hW0]; exact ((Below.refl _ _).alloc (Nat.le_refl _) _).alloc (by simp) _
  have hsz : W0.heap.size = w.heap.size + 2 := by rw [← hW0]; simp
  have HDr : Hid (W0.drawn = w.drawn) := by show _ = _; rw [← hW0]; rfl
  have hlA : w.heap.size < W0.heap.size := by omega
  have hlB : w.heap.size + 1 < W0.heap.size := by omega
  obtain ⟨x0, x1, x2, x3⟩ := four_cells hA
  obtain ⟨y0, y1, y2, y3⟩ := four_cells hB
  have HC := hd (cmpOr_or)
  have HB := hd hb0
  clear hb0 hA hB hsz
  go_enter Tryz.func109, Tryz.ntmps109
  go_wp2_with fail
  go_region_held3 (fun w' => w'.cell? ⟨w.heap.size, 0, none⟩ = some (.int .i64 n1) ∧ w'.cell? ⟨w.heap.size, 1, none⟩ = some (.int .i64 l1) ∧ w'.cell? ⟨w.heap.size + 1, 0, none⟩ = some (.int .i64 n2) ∧ w'.cell? ⟨w.heap.size + 1, 1, none⟩ = some (.int .i64 l2)) (simp [go_sem, *])
    (first
      | (go_at_call 118; with_reducible refine (HS.out _).mono ?_; rintro e w1 ⟨rfl, rfl⟩)
      | (go_at_call 118; with_reducible refine (HI.out _).mono ?_; rintro e w2 ⟨rfl, rfl⟩)
      | (go_at_call 116; refine (HC.out _ c1 c2 _ (by simp) (by simp)).mono ?_; rintro e w3 ⟨rfl, rfl⟩))
  all_goals go_wp2_with fail
  all_goals go_ret
  all_goals exact ⟨rfl, by first | exact (HB.out.alloc HB.out.size _).drew | exact HB.out.drew.alloc HB.out.size _, by rw [← HDr.out]; exact Nat.le_succ _⟩

/-- Whether two references keep each other out of one version. -/
def collT (a b : Tr) : Bool := decide (0 < a.lv) && (decide (a.lv = b.lv) && (!lessB a.hi b.lo && !lessB b.hi a.lo))
theorem good2_coll (a b : Tr) : good2 a b = (decide (a.nu ≠ b.nu) && !collT a b) := by
  unfold good2 apart2 collT
  by_cases h1 : 0 < a.lv <;> by_cases h2 : a.lv = b.lv <;> cases lessB a.hi b.lo <;> cases lessB b.hi a.lo <;> simp [h1, h2]
set_option maxRecDepth 100000 in
set_option maxHeartbeats 400000 in
theorem collide_any (a b : Tr) (w : World) :
    Calls Tryz.prog 132 #[a.agg, b.agg] w fun e w' => e = .returned (.bool (collT a b)) ∧ Below w.heap.size w w' := by
  obtain ⟨n1, l1, lo1, hi1⟩ := a
  obtain ⟨n2, l2, lo2, hi2⟩ := b
  have HR : Hid (collT ⟨n1, l1, lo1, hi1⟩ ⟨n2, l2, lo2, hi2⟩ = (decide (0 < l1) && (decide (l1 = l2) && (!lessB hi1 lo2 && !lessB hi2 lo1)))) := rfl
  rw [HR.out]
  clear HR
  generalize hW0 : (w.alloc (.cells #[.int .i64 n1, .int .i64 l1, .string lo1, .string hi1] 126)).alloc (.cells #[.int .i64 n2, .int .i64 l2, .string lo2, .string hi2] 126) = W0
  have hA : W0.heap[w.heap.size]? = some (.cells #[.int .i64 n1, .int .i64 l1, .string lo1, .string hi1] 126 (0, 0)) := by rw [← hW0, Below.heap_alloc _ _ _ (by simp)]; exact World.heap_alloc_new _ _
  have hB : W0.heap[w.heap.size + 1]? = some (.cells #[.int .i64 n2, .int .i64 l2, .string lo2, .string hi2] 126 (0, 0)) := by
    rw [← hW0]
    have h := World.heap_alloc_new (w.alloc (.cells #[.int .i64 n1, .int .i64 l1, .string lo1, .string hi1] 126)) (.cells #[.int .i64 n2, .int .i64 l2, .string lo2, .string hi2] 126)
    rwa [show (w.alloc (.cells #[.int .i64 n1, .int .i64 l1, .string lo1, .string hi1] 126)).heap.size = w.heap.size + 1 by simp] at h
  have hb0 : Below w.heap.size w W0 := by rw [← hW0]; exact ((Below.refl _ _).alloc (Nat.le_refl _) _).alloc (by simp) _
  have hsz : W0.heap.size = w.heap.size + 2 := by rw [← hW0]; simp
  have hlA : w.heap.size < W0.heap.size := by omega
  have hlB : w.heap.size + 1 < W0.heap.size := by omega
  obtain ⟨x0, x1, x2, x3⟩ := four_cells hA
  obtain ⟨y0, y1, y2, y3⟩ := four_cells hB
  have HB := hd hb0
  clear hb0 hA hB hsz
  by_cases h1 : 0 < l1
  · by_cases h2 : l1 = l2
    · have hql : (l1 == l2) = true := by rw [h2]; simp
      have h2' := hd h2
      clear h2
      cases hb1 : lessB hi1 lo2 with
      | true =>
        have hs1 : Op.bytesLess hi1.toList lo2.toList = true := hb1
        go_enter Tryz.func132, Tryz.ntmps132
        go_wp2_with fail
        go_ret
        exact ⟨by simp, HB.out⟩
      | false =>
        have hs1 : Op.bytesLess hi1.toList lo2.toList = false := hb1
        cases hb2 : lessB hi2 lo1 with
        | true =>
          have hs2 : Op.bytesLess hi2.toList lo1.toList = true := hb2
          go_enter Tryz.func132, Tryz.ntmps132
          go_wp2_with fail
          go_ret
          exact ⟨by simp, HB.out⟩
        | false =>
          have hs2 : Op.bytesLess hi2.toList lo1.toList = false := hb2
          go_enter Tryz.func132, Tryz.ntmps132
          go_wp2_with fail
          go_ret
          exact ⟨by have hz : 0 < l2 := (by have := h2'.out; omega); simp [h2'.out, hz], HB.out⟩
    · have hql : (l1 == l2) = false := by simpa using h2
      have h2' := hd h2
      clear h2
      go_enter Tryz.func132, Tryz.ntmps132
      go_wp2_with fail
      go_ret
      exact ⟨by simp [h2'.out], HB.out⟩
  · have hz1 := hd (decide_eq_false h1)
    go_enter Tryz.func132, Tryz.ntmps132
    go_wp2_with fail
    go_ret
    exact ⟨by rw [hz1.out]; rfl, HB.out⟩
end Go.Proofs.YtigpplcecbgmaaeGreatDoor
