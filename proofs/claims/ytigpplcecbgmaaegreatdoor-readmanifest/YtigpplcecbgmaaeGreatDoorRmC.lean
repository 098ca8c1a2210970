import Derived.Test.YtigpplcecbgmaaeGreatDoorRmX

namespace Go.Proofs.YtigpplcecbgmaaeGreatDoor
open Go.RowKit Go.Maps
set_option linter.unusedVariables false
set_option linter.unusedSimpArgs false

theorem contains_at {qs : List Tr} {d : Int} (h : (qs.map Tr.nu).contains d = true) : ∃ i, i < qs.length ∧ (qs.getD i tr0).nu = d := by
  rw [List.contains_iff_mem] at h
  obtain ⟨i, hi, e⟩ := List.mem_iff_getElem.1 h
  have hi' : i < qs.length := by simpa using hi
  exact ⟨i, hi', by rw [getD_nu qs i hi']; exact e⟩
/-- Four stores into a row. -/
theorem stores4 {w : World} {rg i : Nat} {cur : Array Value} {t : TypeId} (hb : w.heap[rg]? = some (.cells cur t (0, 0))) (x0 x1 x2 x3 : Value) :
    ((((w.setCell ⟨rg, i * 4, none⟩ x0).setCell ⟨rg, i * 4 + 1, none⟩ x1).setCell ⟨rg, i * 4 + 2, none⟩ x2).setCell ⟨rg, i * 4 + 3, none⟩ x3).heap[rg]? = some (.cells ((((cur.setIfInBounds (i * 4) x0).setIfInBounds (i * 4 + 1) x1).setIfInBounds (i * 4 + 2) x2).setIfInBounds (i * 4 + 3) x3) t (0, 0)) := by
  have h1 := heap_setCell_same w rg (i * 4) _ _ x0 hb
  have h2 := heap_setCell_same _ rg (i * 4 + 1) _ _ x1 h1
  have h3 := heap_setCell_same _ rg (i * 4 + 2) _ _ x2 h2
  exact heap_setCell_same _ rg (i * 4 + 3) _ _ x3 h3

theorem owns_more {H : Type} {w : World} {P : Program} {k : TypeId} {R : Value → Option (DataW H × List MemPlace)} {b n n' : Nat} {D : DataW H} (h : w.ownsMap P k R b n D) (hn : n ≤ n') : w.ownsMap P k R b n' D := by
  obtain ⟨es, clock, hb, F, hs, rfl⟩ := h
  exact ⟨es, clock, hb, F, Nat.le_trans hs hn, rfl⟩
theorem cellsT_take : ∀ (xs : List Tr) (m : Nat), cellsT (xs.take m) = (cellsT xs).take (m * 4)
  | [], m => by simp [cellsT]
  | x :: xs, 0 => by simp [cellsT]
  | x :: xs, m + 1 => by
    have ih := cellsT_take xs m
    have e1 : cellsT (x :: xs) = [.int .i64 x.nu, .int .i64 x.lv, .string x.lo, .string x.hi] ++ cellsT xs := rfl
    have e2 : cellsT (x :: xs.take m) = [.int .i64 x.nu, .int .i64 x.lv, .string x.lo, .string x.hi] ++ cellsT (xs.take m) := rfl
    rw [List.take_succ_cons, e1, e2, ih, show (m + 1) * 4 = m * 4 + 4 by omega]
    simp
set_option maxRecDepth 100000 in
set_option maxHeartbeats 2000000 in
theorem takeC_any (B0 B g b N M : Nat) (qs : List Tr) (d : Int) (w : World) (hc : Cat w B g b N M qs) (h1 : B0 ≤ g) (h2 : B0 ≤ b) (h3 : g < B) (h4 : b < B) (hw : wfI d) (hwq : ∀ t ∈ qs, wfI t.nu) (hl : qs.length ≤ 2000) (hM : M ≤ w.heap.size) (hgN : g < N ∨ M ≤ g) (hbN : b < N ∨ M ≤ b) :
    Calls Tryz.prog 103 #[.pointer (some ⟨g, 0, none⟩), .int .i64 d] w fun e w' => e = .returned (.tuple #[]) ∧ Below B0 w w' ∧ KeepX g b w w' ∧ Kept N M w w' ∧ ∃ qs', qs'.Perm (leftT qs [d]) ∧ Cat w' B g b N M qs' := by
  obtain ⟨tv, D, hg, hown, hci, hrow, haw⟩ := hc
  have hgb : g ≠ b := fun e => by
    obtain ⟨es, cl, hm, -⟩ := hown
    rw [← e, hg] at hm
    cases hm
  obtain ⟨c0, c1, z0, z1⟩ := two_cells hg
  have HO := hd hown
  cases hcn : (qs.map Tr.nu).contains d with
  | false =>
    have hh := (hci.1 d).trans hcn
    have HC := hd (And.intro hg (And.intro hci hrow))
    clear hg hci hrow hown
    go_enter Tryz.func103, Tryz.ntmps103
    go_wp2_with (at_lookup; refine wpList_lookup_own_ok_int _ rfl _ _ 130 rfl 3 3 .i64 keyI Tryz.underlying130 Tryz.underlying3 (zeroI _) b qs.length D rfl HO.out _ _ rfl (keyI_mk hw) ?_; intro cc hcc hwc; rw [hh])
    refine bodyPost_ret (results_none rfl _ _ _) rfl ?_
    exact ⟨rfl, Below.refl _ _, KeepX.of_below (Below.refl _ _), Kept.refl _ _ _, qs, by rw [leftT_skip hcn, leftT_nil], ⟨tv, D, HC.out.1, HO.out, HC.out.2.1, HC.out.2.2, haw⟩⟩
  | true =>
    have hh := (hci.1 d).trans hcn
    obtain ⟨i, hi, hnu⟩ := contains_at hcn
    have HAt : Hid (D.atKey (.int .i64 d) (.lit (.int .i64 0)) = .lit (.int .i64 (i : Int))) := by show _ = _; rw [← hnu]; exact hci.2 i hi
    obtain ⟨m, hm⟩ : ∃ m, qs.length = m + 1 := ⟨qs.length - 1, by omega⟩
    rcases hrow.2 with ⟨rfl, h0⟩ | ⟨rg, cap, cur, rfl, hrB, hrb, hnc, hcm, hcs, htk⟩
    · omega
    have hcell : ∀ j, j < qs.length * 4 → cur[j]? = (cellsT qs)[j]? := fun j hj => by
      have e1 : (cur.toList.take (qs.length * 4))[j]? = (cellsT qs)[j]? := by rw [htk]
      rw [List.getElem?_take_of_lt hj] at e1
      simpa using e1
    have hcat := fun j (hj : j < qs.length) => cellsT_at qs j hj
    have hxd : qs.getD (qs.length - 1) tr0 = qs.getD m tr0 := by rw [hm]; rfl
    have hcell' : ∀ (W : World), W.heap[rg]? = some (.cells cur 126 (0, 0)) → ∀ j v, j < qs.length * 4 → (cellsT qs)[j]? = some v → W.cell? ⟨rg, j, none⟩ = some v ∧ W.frozen? ⟨rg, j, none⟩ = false := fun W hW j v hj hv => by
      constructor
      · simp [World.cell?, hW, hcell j hj, hv]
      · simp [World.frozen?, hW]
    obtain ⟨a0, a1, a2, a3⟩ := hcat m (by omega)
    obtain ⟨e0, e1, e2, e3⟩ := hcat i hi
    obtain ⟨m0, -⟩ := hcell' w hrb _ _ (by omega) a0
    obtain ⟨m1, -⟩ := hcell' w hrb _ _ (by omega) a1
    obtain ⟨m2, -⟩ := hcell' w hrb _ _ (by omega) a2
    obtain ⟨m3, -⟩ := hcell' w hrb _ _ (by omega) a3
    obtain ⟨i0, f0⟩ := hcell' w hrb _ _ (by omega) e0
    obtain ⟨i1, f1⟩ := hcell' w hrb _ _ (by omega) e1
    obtain ⟨i2, f2⟩ := hcell' w hrb _ _ (by omega) e2
    obtain ⟨i3, f3⟩ := hcell' w hrb _ _ (by omega) e3
    have HX := hd (row_set (qs := qs) (cur := cur) i (qs.getD m tr0) hi hcell)
    have HXn : Hid (wfI (qs.getD m tr0).nu) := hwq _ (by rw [show qs.getD m tr0 = qs[m] by simp [List.getD, hm]]; exact List.getElem_mem _)
    have HTk := hd (hci.take hown.isMap hi)
    have HSw : Hid (swT qs i = (qs.set i (qs.getD m tr0)).take m) := by show _ = _; unfold swT; rw [hxd, hm]; rfl
    have HPm : Hid ((swT qs i).Perm (leftT qs [d])) := by show List.Perm _ _; rw [← hnu]; exact swap_perm qs i hi hci.nodup
    have HHas : Hid (Maps.has D (.int .i64 (qs.getD m tr0).nu) = true) := by
      show _ = _
      rw [hci.1, List.contains_iff_mem, getD_nu qs m (by omega)]
      exact List.getElem_mem _
    rw [hxd] at HTk
    have hrl := heap_lt hrb
    have HAw : Hid (rg < N ∨ M ≤ rg) := haw rg rfl
    clear haw
    have hgl := heap_lt hg
    have hgr : g ≠ rg := by omega
    have hbr : b ≠ rg := by omega
    have HG := hd hg
    have HRb := hd hrb
    have hm1 : (qs.length : Int) - 1 = (m : Int) := by omega
    have hil : (i : Int) < (qs.length : Int) := by omega
    have hml : (m : Int) < (qs.length : Int) := by omega
    have hmc : m ≤ cap := by omega
    have HM := hd hm
    clear hm
    have h0i : (0 : Int) ≤ (i : Int) := by omega
    have h0m : (0 : Int) ≤ (m : Int) := by omega
    have hgr' : ¬ g = rg := hgr
    have hrg' : ¬ rg = g := fun h => hgr h.symm
    clear hci hrow hown hcell hcell' hcat a0 a1 a2 a3 e0 e1 e2 e3 hg hrb htk hwq hxd
    generalize hxx : qs.getD m tr0 = x at *
    obtain ⟨xn, xl, xlo, xhi⟩ := x
    dsimp only at *
    go_enter Tryz.func103, Tryz.ntmps103
    go_wp2_with (at_lookup; refine wpList_lookup_own_ok_int _ rfl _ _ 130 rfl 3 3 .i64 keyI Tryz.underlying130 Tryz.underlying3 (zeroI _) b qs.length D rfl HO.out _ _ rfl (keyI_mk hw) ?_; intro cc hcc hwc; rw [hh]; have hce := hcc.symm.trans HAt.out; injection hce with hce; injection hce with hce1 hce2; subst hce2)
    clear hcc hwc
    refine Code.wp_mono (Q := fun ex a' w' => ex = .normal ∧ w' = ((((w.setCell ⟨rg, i * 4, none⟩ (.int .i64 xn)).setCell ⟨rg, i * 4 + 1, none⟩ (.int .i64 xl)).setCell ⟨rg, i * 4 + 2, none⟩ (.string xlo)).setCell ⟨rg, i * 4 + 3, none⟩ (.string xhi)).drew ∧ a' = { tmps := #[Value.pointer (some { block := g, off := 0 }), Value.int IntKind.i64 d, undef, undef, Value.int IntKind.i64 ((i : Nat) : Int), Value.bool true, Value.int IntKind.i64 ((m : Nat) : Int), Value.tuple #[Value.int IntKind.i64 ((i : Nat) : Int), Value.bool true], Value.pointer (some { block := g, off := 0 }), Value.pointer (some { block := g, off := 0 }), Value.pointer (some { block := g, off := 1 }), Value.map (some b), Value.int IntKind.i64 d, Value.tuple #[Value.int IntKind.i64 ((i : Nat) : Int), Value.bool true], Value.int IntKind.i64 ((i : Nat) : Int), Value.bool true, Value.bool true, Value.bool false, Value.pointer (some { block := g, off := 0 }), Value.pointer (some { block := g, off := 0 }), Value.pointer (some { block := g, off := 0 }), Value.slice (some { block := rg, off := 0 }) qs.length cap, Value.int IntKind.i64 ((qs.length : Nat) : Int), Value.int IntKind.i64 ((m : Nat) : Int), Value.pointer (some { block := g, off := 0 }), Value.pointer (some { block := g, off := 0 }), Value.pointer (some { block := g, off := 0 }), Value.slice (some { block := rg, off := 0 }) qs.length cap, Value.int IntKind.i64 ((i : Nat) : Int), Value.pointer (some { block := g, off := 0 }), Value.pointer (some { block := g, off := 0 }), Value.pointer (some { block := g, off := 0 }), Value.slice (some { block := rg, off := 0 }) qs.length cap, Value.int IntKind.i64 ((m : Nat) : Int), Value.pointer (some { block := rg, off := m * 4 }), Value.agg #[Value.int IntKind.i64 xn, Value.int IntKind.i64 xl, Value.string xlo, Value.string xhi], Value.pointer (some { block := rg, off := i * 4 }), undef, undef, undef, undef, undef, undef, undef, undef, undef, undef, undef, undef, undef, undef, undef, undef, undef, undef, undef, undef, undef, undef, undef, undef, undef, undef, undef], defers := [] }) ?cont ?reg
    case reg =>
      by_cases hI : i = m
      · subst hI
        clear i0 i1 i2 i3
        go_region_held3 (fun w' => w'.cell? ⟨g, 0, none⟩ = some (.slice (some ⟨rg, 0, none⟩) qs.length cap) ∧ w'.cell? ⟨rg, i * 4, none⟩ = some (.int .i64 xn) ∧ w'.cell? ⟨rg, i * 4 + 1, none⟩ = some (.int .i64 xl) ∧ w'.cell? ⟨rg, i * 4 + 2, none⟩ = some (.string xlo) ∧ w'.cell? ⟨rg, i * 4 + 3, none⟩ = some (.string xhi)) (simp [go_sem, *]) (fail)
        all_goals exact ⟨rfl, rfl, rfl⟩
      · clear hxx
        have n00 : ¬ m * 4 = i * 4 := by omega
        have o00 : ¬ i * 4 = m * 4 := by omega
        have n01 : ¬ m * 4 + 1 = i * 4 := by omega
        have o01 : ¬ i * 4 = m * 4 + 1 := by omega
        have n02 : ¬ m * 4 + 2 = i * 4 := by omega
        have o02 : ¬ i * 4 = m * 4 + 2 := by omega
        have n03 : ¬ m * 4 + 3 = i * 4 := by omega
        have o03 : ¬ i * 4 = m * 4 + 3 := by omega
        have n10 : ¬ m * 4 = i * 4 + 1 := by omega
        have o10 : ¬ i * 4 + 1 = m * 4 := by omega
        have n11 : ¬ m * 4 + 1 = i * 4 + 1 := by omega
        have o11 : ¬ i * 4 + 1 = m * 4 + 1 := by omega
        have n12 : ¬ m * 4 + 2 = i * 4 + 1 := by omega
        have o12 : ¬ i * 4 + 1 = m * 4 + 2 := by omega
        have n13 : ¬ m * 4 + 3 = i * 4 + 1 := by omega
        have o13 : ¬ i * 4 + 1 = m * 4 + 3 := by omega
        have n20 : ¬ m * 4 = i * 4 + 2 := by omega
        have o20 : ¬ i * 4 + 2 = m * 4 := by omega
        have n21 : ¬ m * 4 + 1 = i * 4 + 2 := by omega
        have o21 : ¬ i * 4 + 2 = m * 4 + 1 := by omega
        have n22 : ¬ m * 4 + 2 = i * 4 + 2 := by omega
        have o22 : ¬ i * 4 + 2 = m * 4 + 2 := by omega
        have n23 : ¬ m * 4 + 3 = i * 4 + 2 := by omega
        have o23 : ¬ i * 4 + 2 = m * 4 + 3 := by omega
        have n30 : ¬ m * 4 = i * 4 + 3 := by omega
        have o30 : ¬ i * 4 + 3 = m * 4 := by omega
        have n31 : ¬ m * 4 + 1 = i * 4 + 3 := by omega
        have o31 : ¬ i * 4 + 3 = m * 4 + 1 := by omega
        have n32 : ¬ m * 4 + 2 = i * 4 + 3 := by omega
        have o32 : ¬ i * 4 + 3 = m * 4 + 2 := by omega
        have n33 : ¬ m * 4 + 3 = i * 4 + 3 := by omega
        have o33 : ¬ i * 4 + 3 = m * 4 + 3 := by omega
        go_region_held3 (fun w' => w'.cell? ⟨g, 0, none⟩ = some (.slice (some ⟨rg, 0, none⟩) qs.length cap) ∧ w'.cell? ⟨rg, m * 4, none⟩ = some (.int .i64 xn) ∧ w'.cell? ⟨rg, m * 4 + 1, none⟩ = some (.int .i64 xl) ∧ w'.cell? ⟨rg, m * 4 + 2, none⟩ = some (.string xlo) ∧ w'.cell? ⟨rg, m * 4 + 3, none⟩ = some (.string xhi)) (simp [go_sem, *]) (fail)
        all_goals exact ⟨rfl, rfl, rfl⟩
    case cont =>
      rintro ex a' w' ⟨rfl, rfl, rfl⟩
      dsimp only [Exit.then]
      have hst := stores4 (i := i) HRb.out (.int .i64 xn) (.int .i64 xl) (.string xlo) (.string xhi)
      have hoth : ∀ k, k ≠ rg → ((((w.setCell ⟨rg, i * 4, none⟩ (.int .i64 xn)).setCell ⟨rg, i * 4 + 1, none⟩ (.int .i64 xl)).setCell ⟨rg, i * 4 + 2, none⟩ (.string xlo)).setCell ⟨rg, i * 4 + 3, none⟩ (.string xhi)).drew.heap[k]? = w.heap[k]? := fun k hk => by
        show ((((w.setCell ⟨rg, i * 4, none⟩ (.int .i64 xn)).setCell ⟨rg, i * 4 + 1, none⟩ (.int .i64 xl)).setCell ⟨rg, i * 4 + 2, none⟩ (.string xlo)).setCell ⟨rg, i * 4 + 3, none⟩ (.string xhi)).heap[k]? = _
        rw [Below.heap_setCell _ _ _ _ (by simpa using hk), Below.heap_setCell _ _ _ _ (by simpa using hk), Below.heap_setCell _ _ _ _ (by simpa using hk), Below.heap_setCell _ _ _ _ (by simpa using hk)]
      have hsz3 : ((((w.setCell ⟨rg, i * 4, none⟩ (.int .i64 xn)).setCell ⟨rg, i * 4 + 1, none⟩ (.int .i64 xl)).setCell ⟨rg, i * 4 + 2, none⟩ (.string xlo)).setCell ⟨rg, i * 4 + 3, none⟩ (.string xhi)).drew.heap.size = w.heap.size := by simp [World.setCell]
      have hos : ((((w.setCell ⟨rg, i * 4, none⟩ (.int .i64 xn)).setCell ⟨rg, i * 4 + 1, none⟩ (.int .i64 xl)).setCell ⟨rg, i * 4 + 2, none⟩ (.string xlo)).setCell ⟨rg, i * 4 + 3, none⟩ (.string xhi)).drew.os = w.os ∧ ((((w.setCell ⟨rg, i * 4, none⟩ (.int .i64 xn)).setCell ⟨rg, i * 4 + 1, none⟩ (.int .i64 xl)).setCell ⟨rg, i * 4 + 2, none⟩ (.string xlo)).setCell ⟨rg, i * 4 + 3, none⟩ (.string xhi)).drew.tape = w.tape ∧ ((((w.setCell ⟨rg, i * 4, none⟩ (.int .i64 xn)).setCell ⟨rg, i * 4 + 1, none⟩ (.int .i64 xl)).setCell ⟨rg, i * 4 + 2, none⟩ (.string xlo)).setCell ⟨rg, i * 4 + 3, none⟩ (.string xhi)).drew.output = w.output := ⟨rfl, rfl, rfl⟩
      have hst' : ((((w.setCell ⟨rg, i * 4, none⟩ (.int .i64 xn)).setCell ⟨rg, i * 4 + 1, none⟩ (.int .i64 xl)).setCell ⟨rg, i * 4 + 2, none⟩ (.string xlo)).setCell ⟨rg, i * 4 + 3, none⟩ (.string xhi)).drew.heap[rg]? = some (.cells ((((cur.setIfInBounds (i * 4) (.int .i64 xn)).setIfInBounds (i * 4 + 1) (.int .i64 xl)).setIfInBounds (i * 4 + 2) (.string xlo)).setIfInBounds (i * 4 + 3) (.string xhi)) 126 (0, 0)) := hst
      generalize ((((w.setCell ⟨rg, i * 4, none⟩ (.int .i64 xn)).setCell ⟨rg, i * 4 + 1, none⟩ (.int .i64 xl)).setCell ⟨rg, i * 4 + 2, none⟩ (.string xlo)).setCell ⟨rg, i * 4 + 3, none⟩ (.string xhi)).drew = w3 at *
      clear hst
      have hX0 : w3.cell? ⟨rg, i * 4, none⟩ = some (.int .i64 xn) := by
        have hsz : i * 4 < cur.size := by have := HM.out; omega
        simp [World.cell?, hst', Array.getElem?_setIfInBounds, hsz]
      have hG3 := (hoth g hgr).trans HG.out
      have HO3 : Hid (w3.ownsMap Tryz.prog 3 (plainElem Tryz.prog 3) b qs.length D) := by
        obtain ⟨es, cl, hmb, r⟩ := HO.out
        exact ⟨es, cl, (hoth b hbr).trans hmb, r⟩
      obtain ⟨w4, hrun, hown4, hturn4⟩ := HO3.out.drew.store (t := 130) keyI Tryz.underlying130 (by unfold maxLen; omega) (keyI_mk HXn.out) (plainElem_int Tryz.underlying3 (wfN i (by omega)))
      have hgr4 := hturn4.grown
      have hbg4 : ∀ k, k < w3.heap.size → k ≠ b → w4.heap[k]? = w3.heap[k]? := fun k hk hne => hgr4.block k hk (fun e => hne (by injection e))
      have hgl3 : g < w3.heap.size := by omega
      have hrl3 : rg < w3.heap.size := by omega
      have hG4 := (hbg4 g hgl3 hgb).trans hG3
      clear c0 c1 z0 z1 m0 m1 m2 m3 i0 i1 i2 i3 f0 f1 f2 f3
      obtain ⟨c0, c1, z0, z1⟩ := two_cells hG3
      obtain ⟨y0, y1, v0, v1⟩ := two_cells hG4
      have hX4 : w4.cell? ⟨rg, i * 4, none⟩ = some (.int .i64 xn) := by
        have e : w4.cell? ⟨rg, i * 4, none⟩ = w3.cell? ⟨rg, i * 4, none⟩ := by simp only [World.cell?, hbg4 rg hrl3 (fun h => hbr h.symm)]
        rw [e]; exact hX0
      have HG4 := hd hG4
      have HO4 := hd hown4
      clear hG3 hown4
      go_wp2_with fail
      go_region_held3 (fun w' => w'.cell? ⟨g, 1, none⟩ = some (.map (some b)) ∧ w'.cell? ⟨g, 0, none⟩ = some (.slice (some ⟨rg, 0, none⟩) qs.length cap) ∧ w'.cell? ⟨rg, i * 4, none⟩ = some (.int .i64 xn)) (simp [go_sem, *]) (fail)
      have HO5 : Hid ((w4.setCell ⟨g, 0, none⟩ (.slice (some ⟨rg, 0, none⟩) m cap)).ownsMap Tryz.prog 3 (plainElem Tryz.prog 3) b (qs.length + 1) (D.put (.int .i64 xn) (.lit (.int .i64 (i : Int))))) := HO4.out.setCell (a := ⟨g, 0, none⟩) (fun e => hgb e.symm) _
      go_wp2_with (at_delete; refine wpList_delete_own _ rfl _ _ 130 3 rfl 3 keyI Tryz.underlying130 (plainElem Tryz.prog 3) b (qs.length + 1) _ rfl HO5.out _ _ rfl (keyI_mk hw) ?_; intro w6 hown6 hturn6)
      go_end0
      have hgr6 := hturn6.grown
      have hsz4 : w3.heap.size ≤ w4.heap.size := hgr4.size
      have hsz5 : (w4.setCell ⟨g, 0, none⟩ (.slice (some ⟨rg, 0, none⟩) m cap)).heap.size = w4.heap.size := by simp [World.setCell]
      have hsz6 : w4.heap.size ≤ w6.heap.size := by have := hgr6.size; omega
      have h64 : ∀ k, k < w.heap.size → k ≠ b → k ≠ g → w6.heap[k]? = w3.heap[k]? := fun k hk h1' h2' =>
        ((hgr6.block k (by omega) (fun e => h1' (by injection e))).trans (Below.heap_setCell _ _ _ _ (by simpa using h2'))).trans (hbg4 k (by omega) h1')
      have h60 : ∀ k, k < w.heap.size → k ≠ b → k ≠ g → k ≠ rg → w6.heap[k]? = w.heap[k]? := fun k hk h1' h2' h3' => (h64 k hk h1' h2').trans (hoth k h3')
      have hlen : (swT qs i).length = m := by rw [swT_len]; have := HM.out; omega
      have hG6 : w6.heap[g]? = some (.cells #[.slice (some ⟨rg, 0, none⟩) m cap, .map (some b)] 132 (0, 0)) := (hgr6.block g (by omega) (fun e => hgb (by injection e))).trans (setB HG4.out _)
      have hR6 := (h64 rg hrl (fun h => hbr h.symm) (fun h => hgr h.symm)).trans hst'
      refine ⟨rfl, ⟨(hgr6.os.trans hgr4.os).trans hos.1, (hgr6.tape.trans hgr4.tape).trans hos.2.1, (hgr6.output.trans hgr4.output).trans hos.2.2, by omega, fun k hk => h60 k (by omega) (by omega) (by omega) (by omega)⟩, fun k o ho h1' h2' h3' => ?_, fun k h1' h2' => h60 k (by omega) (by omega) (by omega) (by have := HAw.out; omega), swT qs i, HPm.out, .slice (some ⟨rg, 0, none⟩) m cap, (D.put (.int .i64 xn) (.lit (.int .i64 (i : Int)))).del (.int .i64 d), hG6, ?_, ?_, ?_, fun k h => by injection h with h; rw [← h]; exact HAw.out⟩
      · by_cases e : k = rg
        · subst e
          rw [HRb.out] at ho
          injection ho with ho
          exact absurd ho.symm (h3' _ _)
        · exact (h60 k (heap_lt ho) h2' h1' e).trans ho
      · rw [hlen]
        have hs1 := size_take (H := Unit) (D := D) (x := .int .i64 xn) (d := .int .i64 d) (v := .lit (.int .i64 (i : Int))) (HO.out.tidy keyI) (keyLitI _) HHas.out hh
        have hs2 := HO.out.size_le
        exact owns_more (owns_tight hown6) (by have := HM.out; omega)
      · have h := HTk.out
        rw [hnu] at h
        exact h
      · rw [hlen]
        have hL : (cellsT (swT qs i)).length = m * 4 := by rw [cellsT_len, hlen]
        refine ⟨hL, .inr ⟨rg, cap, _, rfl, hrB, hR6, hmc, hcm, by simp [hcs], ?_⟩⟩
        rw [HSw.out, cellsT_take]
        refine List.ext_getElem? fun j => ?_
        by_cases hj : j < m * 4
        · rw [List.getElem?_take_of_lt hj, List.getElem?_take_of_lt hj]
          have h := HX.out j (by have := HM.out; omega)
          rw [← h]
          exact Array.getElem?_toList ..
        · rw [List.getElem?_eq_none (by simp; omega), List.getElem?_eq_none (by simp; omega)]
end Go.Proofs.YtigpplcecbgmaaeGreatDoor
