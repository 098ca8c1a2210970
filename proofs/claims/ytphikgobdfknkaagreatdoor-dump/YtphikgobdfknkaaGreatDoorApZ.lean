import Derived.Test.YtphikgobdfknkaaGreatDoorApY
namespace Go.Proofs.YtphikgobdfknkaaGreatDoor
open Go.RowKit Go.Maps
set_option linter.unusedVariables false
set_option linter.unusedSimpArgs false

/-- Whether references may come one after the other. -/
def okAll (qs : List Tr) : List Tr → Bool
  | [] => true
  | x :: xs => okPut qs x && okAll (qs ++ [x]) xs
theorem Cat.alloc {w : World} {B g b N M : Nat} {qs : List Tr} (h : Cat w B g b N M qs) (o : Obj) : Cat (w.alloc o) B g b N M qs := by
  obtain ⟨tv, D, h1, h2, h3, h4, h5⟩ := h
  exact ⟨tv, D, (Below.heap_alloc _ _ _ (heap_lt h1)).trans h1, h2.alloc o, h3, h4.alloc o, h5⟩
theorem dropT_cons (xs : List Tr) (k : Nat) (h : k < xs.length) : xs.drop k = xs.getD k tr0 :: xs.drop (k + 1) := by
  rw [show xs.getD k tr0 = xs[k] by simp [List.getD, h]]
  exact List.drop_eq_getElem_cons h

set_option maxRecDepth 100000 in
set_option maxHeartbeats 1000000 in
theorem allPut_any (B0 B g b N M : Nat) (qs xs : List Tr) (a : Option Addr) (c : Nat) (w : World) (hL : ∀ wr, Below B0 w wr → Kept N M w wr → LieT wr a xs) (hc : Cat w B g b N M qs) (h1 : B0 ≤ g) (h2 : B0 ≤ b) (h3 : g < B) (h4 : b < B) (h5 : B ≤ w.heap.size) (hw : ∀ t ∈ xs, wfI t.nu) (hl : qs.length + xs.length ≤ 2000) (hM : M ≤ w.heap.size) (hgN : g < N ∨ M ≤ g) (hbN : b < N ∨ M ≤ b) :
    Calls Tryz.prog 95 #[.slice a xs.length c, .func (.func 96) #[.pointer (some ⟨g, 0, none⟩)] #[]] w fun e w' => e = .returned (.bool (okAll qs xs)) ∧ Below B0 w w' ∧ KeepX g b w w' ∧ Kept N M w w' ∧ (okAll qs xs = true → Cat w' B g b N M (qs ++ xs)) := by
  have HT : Hid (okAll qs xs = okAll (qs ++ xs.take 0) (xs.drop 0)) := by show _ = _; simp
  have HW := hd hw
  clear hw
  generalize okAll qs xs = R at *
  go_enter Tryz.func95, Tryz.ntmps95
  go_wp2_with fail
  go_loopw [9] (fun y wr => ∃ k : Nat, y = .int .i64 k ∧ k ≤ xs.length ∧ Hid (R = okAll (qs ++ xs.take k) (xs.drop k)) ∧ Cat wr B g b N M (qs ++ xs.take k) ∧ Below B0 w wr ∧ KeepX g b w wr ∧ Kept N M w wr) (fun y _ => xs.length - (intOf y).toNat)
  case atStart => exact ⟨0, rfl, by omega, HT, by simpa using hc, Below.refl _ _, KeepX.of_below (Below.refl _ _), Kept.refl _ _ _⟩
  case round =>
    obtain ⟨k, rfl, hk, HS, hcat, hb, hkx, hkp⟩ := hrel
    have hbs := hb.size
    by_cases hlt : k < xs.length
    · obtain ⟨tb, off, rfl, hbl, c0, c1, c2, c3⟩ := (hL wr hb hkp).at hlt
      have HL := hd hL
      have HKp := hd hkp
      have hik : (k : Int) < (xs.length : Int) := by omega
      have HX := hd (HW.out (xs.getD k tr0) (by rw [show xs.getD k tr0 = xs[k] by simp [List.getD, hlt]]; exact List.getElem_mem hlt))
      have HTk : Hid (qs ++ xs.take (k + 1) = (qs ++ xs.take k) ++ [xs.getD k tr0]) := by show _ = _; rw [takeT_snoc xs k hlt, List.append_assoc]
      have HSk : Hid (R = (okPut (qs ++ xs.take k) (xs.getD k tr0) && okAll (qs ++ xs.take (k + 1)) (xs.drop (k + 1)))) := by show _ = _; rw [HS.out, dropT_cons xs k hlt, HTk.out]; rfl
      have hql : (qs ++ xs.take k).length ≤ 2000 := by rw [List.length_append, List.length_take]; omega
      have HP := hd (fun w' hc' h5' hM' => put_any B0 B g b N M (qs ++ xs.take k) (xs.getD k tr0) w' hc' h1 h2 h3 h4 h5' HX.out hql hM' hgN hbN)
      have HC := hd hcat
      have HB := hd hb
      clear hcat hb HS hL hkp
      generalize qs ++ xs.take k = Q at *
      generalize xs.getD k tr0 = f at *
      obtain ⟨fn, fl, flo, fhi⟩ := f
      dsimp only at *
      go_wp2_with fail
      refine (HP.out _ (HC.out.alloc _) (by simp; omega) (by simp; omega)).mono ?_
      rintro e w3 ⟨rfl, hb3, hx3, hp3, hc3⟩
      have HKp3 := hd ((HKp.out.trans (Kept.of ((Below.refl _ _).alloc (Nat.le_refl _) _) (by omega))).trans hp3)
      clear hp3
      have HX3 := hd ((hkx.trans (KeepX.of_below ((Below.refl _ _).alloc (Nat.le_refl _) _))).trans hx3)
      clear hx3
      have HB3 := hd ((HB.out.alloc (by omega) _).trans hb3)
      cases hok : okPut Q ⟨fn, fl, flo, fhi⟩ with
      | false =>
        have hR : R = false := by rw [HSk.out, hok]; rfl
        subst hR
        go_wp2_with fail
        go_ret
        exact ⟨rfl, HB3.out, HX3.out, HKp3.out, fun h => by cases h⟩
      | true =>
        have HS3 : Hid (R = okAll (qs ++ xs.take (k + 1)) (xs.drop (k + 1))) := by show _ = _; rw [HSk.out, hok]; rfl
        have HC3 := hd (hc3 hok)
        clear hc3
        go_wp2_with fail
        exact ⟨⟨k + 1, by simp, by omega, HS3, by rw [HTk.out]; exact HC3.out, HB3.out, HX3.out, HKp3.out⟩, by simp only [intOf]; omega⟩
    · obtain rfl : k = xs.length := by omega
      have hik : ¬ (xs.length : Int) < (xs.length : Int) := by omega
      rw [List.take_length] at hcat
      have hR : R = true := by rw [HS.out, List.drop_length]; rfl
      subst hR
      go_wp2_with fail
      go_ret
      exact ⟨rfl, hb, hkx, hkp, hcat⟩
end Go.Proofs.YtphikgobdfknkaaGreatDoor
namespace Go.Proofs.YtphikgobdfknkaaGreatDoor
open Go.RowKit Go.Maps
set_option linter.unusedVariables false
set_option linter.unusedSimpArgs false

set_option maxRecDepth 100000 in
theorem belowNext_any (t : Tr) (p : Nat) (v0 v1 : Value) (lg nx la : Int) (w : World) (hp : w.heap[p]? = some (.cells #[v0, v1, .int .i64 lg, .int .i64 nx, .int .i64 la] 68 (0, 0))) :
    Calls Tryz.prog 94 #[t.agg, .pointer (some ⟨p, 0, none⟩)] w fun e w' => e = .returned (.bool (decide (t.nu < nx))) ∧ Below w.heap.size w w' := by
  obtain ⟨n0, l0, lo0, hi0⟩ := t
  dsimp only
  have hlt := heap_lt hp
  generalize hW0 : w.alloc (.cells #[.int .i64 n0, .int .i64 l0, .string lo0, .string hi0] 45) = W0
  have hA : W0.heap[w.heap.size]? = some (.cells #[.int .i64 n0, .int .i64 l0, .string lo0, .string hi0] 45 (0, 0)) := by rw [← hW0]; exact World.heap_alloc_new _ _
  have hb0 : Below w.heap.size w W0 := by rw [← hW0]; exact (Below.refl _ _).alloc (Nat.le_refl _) _
  have hp0 := (hb0.block p hlt).trans hp
  obtain ⟨x0, x1, x2, x3⟩ := four_cells hA
  obtain ⟨e0, e1, e2, e3, e4⟩ := five_cells hp0
  have HB := hd hb0
  clear hb0 hA hp0
  go_enter Tryz.func94, Tryz.ntmps94
  go_wp2_with fail
  go_ret
  exact ⟨rfl, HB.out⟩

set_option maxRecDepth 100000 in
set_option maxHeartbeats 1000000 in
theorem allBelow_any (xs : List Tr) (a : Option Addr) (c p : Nat) (v0 v1 : Value) (lg nx la : Int) (w : World) (hx : LieT w a xs) (hp : w.heap[p]? = some (.cells #[v0, v1, .int .i64 lg, .int .i64 nx, .int .i64 la] 68 (0, 0))) (hl : xs.length ≤ 2000) :
    Calls Tryz.prog 95 #[.slice a xs.length c, .func (.func 94) #[] #[.pointer (some ⟨p, 0, none⟩)]] w fun e w' => e = .returned (.bool (xs.all fun t => decide (t.nu < nx))) ∧ Below w.heap.size w w' := by
  have HT : Hid (xs.all (fun t => decide (t.nu < nx)) = (xs.drop 0).all (fun t => decide (t.nu < nx))) := rfl
  generalize xs.all (fun t => decide (t.nu < nx)) = R at *
  go_enter Tryz.func95, Tryz.ntmps95
  go_wp2_with fail
  go_loopw [9] (fun y wr => ∃ k : Nat, y = .int .i64 k ∧ k ≤ xs.length ∧ Hid (R = (xs.drop k).all (fun t => decide (t.nu < nx))) ∧ Below w.heap.size w wr) (fun y _ => xs.length - (intOf y).toNat)
  case atStart => exact ⟨0, rfl, by omega, HT, Below.refl _ _⟩
  case round =>
    obtain ⟨k, rfl, hk, HS, hb⟩ := hrel
    have hbs := hb.size
    by_cases hlt : k < xs.length
    · obtain ⟨tb, off, rfl, hbl, c0, c1, c2, c3⟩ := (hx.below hb).at hlt
      have hik : (k : Int) < (xs.length : Int) := by omega
      have HSk : Hid (R = (decide ((xs.getD k tr0).nu < nx) && (xs.drop (k + 1)).all (fun t => decide (t.nu < nx)))) := by show _ = _; rw [HS.out, dropT_cons xs k hlt]; rfl
      have hpr := (hb.block p (heap_lt hp)).trans hp
      have HP := hd (fun t w' h => belowNext_any t p v0 v1 lg nx la w' h)
      clear HS
      generalize xs.getD k tr0 = f at *
      obtain ⟨fn, fl, flo, fhi⟩ := f
      dsimp only at *
      have hba : Below w.heap.size w (wr.alloc (.cells #[.int .i64 fn, .int .i64 fl, .string flo, .string fhi] 45)) := hb.alloc hbs _
      have hpa := (Below.heap_alloc wr (.cells #[.int .i64 fn, .int .i64 fl, .string flo, .string fhi] 45) p (heap_lt hpr)).trans hpr
      have HPa := hd (HP.out ⟨fn, fl, flo, fhi⟩ _ hpa)
      have HBa := hd hba
      clear hpa hba hpr HP
      go_wp2_with fail
      refine HPa.out.mono ?_
      rintro e w3 ⟨rfl, hb3⟩
      have HB3 := hd (HBa.out.trans (hb3.mono HBa.out.size))
      dsimp only at *
      cases hok : decide (fn < nx) with
      | false =>
        have hR : R = false := by rw [HSk.out, hok]; rfl
        subst hR
        go_wp2_with fail
        go_ret
        exact ⟨rfl, HB3.out⟩
      | true =>
        have HS3 : Hid (R = (xs.drop (k + 1)).all (fun t => decide (t.nu < nx))) := by show _ = _; rw [HSk.out, hok]; rfl
        go_wp2_with fail
        exact ⟨⟨k + 1, by simp, by omega, HS3, HB3.out⟩, by simp only [intOf]; omega⟩
    · obtain rfl : k = xs.length := by omega
      have hik : ¬ (xs.length : Int) < (xs.length : Int) := by omega
      have hR : R = true := by rw [HS.out, List.drop_length]; rfl
      subst hR
      go_wp2_with fail
      go_ret
      exact ⟨rfl, hb⟩
end Go.Proofs.YtphikgobdfknkaaGreatDoor
namespace Go.Proofs.YtphikgobdfknkaaGreatDoor
open Go.RowKit Go.Maps
set_option linter.unusedVariables false
set_option linter.unusedSimpArgs false

/-- Whether the tables of an edit may come to those that are left. -/
def okAdd (qs : List Tr) (e : Ed) : Bool := okAll qs e.ad && (decide ((qs ++ e.ad).length ≤ 1000) && ((qs ++ e.ad).all (fun t => decide (t.nu < e.nx)) && decide (e.lg < e.nx)))

theorem Cat.below {w w' : World} {B g b N M : Nat} {qs : List Tr} (h : Cat w B g b N M qs) (hb : Below w.heap.size w w') : Cat w' B g b N M qs := by
  obtain ⟨tv, D, h1, h2, h3, h4, h5⟩ := h
  exact ⟨tv, D, (hb.block g (heap_lt h1)).trans h1, h2.kept (row := none) ⟨hb.os, hb.tape, hb.output, hb.size, fun i hi _ => hb.block i hi⟩ (by simp), h3, owns_below h4 hb, h5⟩
set_option maxRecDepth 100000 in
set_option maxHeartbeats 1000000 in
theorem addAll_any (B0 B g b N M : Nat) (qs : List Tr) (a : Option Addr) (ca : Nat) (d : Option Addr) (cd : Nat) (e : Ed) (w : World) (hL : ∀ wr, Below B0 w wr → Kept N M w wr → LieT wr a e.ad) (hc : Cat w B g b N M qs) (h1 : B0 ≤ g) (h2 : B0 ≤ b) (h3 : g < B) (h4 : b < B) (h5 : B ≤ w.heap.size) (hw : ∀ t ∈ e.ad, wfI t.nu) (hl : qs.length + e.ad.length ≤ 2000) (hM : M ≤ w.heap.size) (hgN : g < N ∨ M ≤ g) (hbN : b < N ∨ M ≤ b) :
    Calls Tryz.prog 65 #[.pointer (some ⟨g, 0, none⟩), edV a ca d cd e] w fun r w' => r = .returned (.bool (okAdd qs e)) ∧ Below B0 w w' ∧ KeepX g b w w' ∧ Kept N M w w' ∧ (okAdd qs e = true → Cat w' B g b N M (qs ++ e.ad)) := by
  obtain ⟨xs, ks, lg, nx, la⟩ := e
  dsimp only at *
  have HR : Hid (okAdd qs ⟨xs, ks, lg, nx, la⟩ = (okAll qs xs && (decide ((qs ++ xs).length ≤ 1000) && ((qs ++ xs).all (fun t => decide (t.nu < nx)) && decide (lg < nx))))) := rfl
  generalize okAdd qs ⟨xs, ks, lg, nx, la⟩ = R at *
  generalize hW0 : w.alloc (.cells #[.slice a xs.length ca, .slice d ks.length cd, .int .i64 lg, .int .i64 nx, .int .i64 la] 68) = W0
  have hA : W0.heap[w.heap.size]? = some (.cells #[.slice a xs.length ca, .slice d ks.length cd, .int .i64 lg, .int .i64 nx, .int .i64 la] 68 (0, 0)) := by rw [← hW0]; exact World.heap_alloc_new _ _
  have hbW : Below w.heap.size w W0 := by rw [← hW0]; exact (Below.refl _ _).alloc (Nat.le_refl _) _
  have hsW : W0.heap.size = w.heap.size + 1 := by rw [← hW0]; simp
  have hcW : Cat W0 B g b N M qs := by rw [← hW0]; exact hc.alloc _
  obtain ⟨e0, e1, e2, e3, e4⟩ := five_cells hA
  have HKW := hd (Kept.of (N := N) hbW hM)
  have HAP := hd (allPut_any B0 B g b N M qs xs a ca W0 (fun wr h1' h2' => hL wr ((hbW.mono (by omega)).trans h1') (HKW.out.trans h2')) hcW h1 h2 h3 h4 (by omega) hw hl (by omega) hgN hbN)
  have HA := hd hA
  have HBW := hd hbW
  clear hA hbW hcW hc hL
  go_enter Tryz.func65, Tryz.ntmps65
  cases hoa : okAll qs xs with
  | false =>
    have hR : R = false := by rw [HR.out, hoa]; rfl
    subst hR
    rw [hoa] at HAP
    go_wp2_with (go_at_call 95; refine HAP.out.mono ?_; rintro r w1 ⟨rfl, hb1, hx1, hp1, -⟩)
    go_ret
    exact ⟨rfl, (HBW.out.mono (by omega)).trans hb1, (KeepX.of_below HBW.out).trans hx1, HKW.out.trans hp1, fun h => by cases h⟩
  | true =>
    rw [hoa] at HAP
    have HLq : Hid ((qs ++ xs).length ≤ 2000) := by show _ ≤ _; rw [List.length_append]; omega
    rw [hoa, Bool.true_and] at HR
    generalize qs ++ xs = Q at *
    go_wp2_with fail
    refine HAP.out.mono ?_
    rintro r w1 ⟨rfl, hb1, hx1, hkp1, hc1⟩
    have hcat1 := hc1 (by trivial)
    obtain ⟨tv, D, hg1, hm1, hi1, hr1, -⟩ := hcat1
    obtain ⟨an, cn, rfl⟩ := owns_sliceT hr1
    obtain ⟨-, a9, c9, e9, hres⟩ := resT_of_owns hr1
    injection e9 with f1 f2 f3
    subst f1
    subst f3
    clear f2
    obtain ⟨g0, g1, -, -⟩ := two_cells hg1
    have hp1 := hx1 w.heap.size _ HA.out (by omega) (by omega) (fun cs fz h => by cases h)
    obtain ⟨q0, q1, q2, q3, q4⟩ := five_cells hp1
    have hs1 := hb1.size
    have HB1 := hd ((HBW.out.mono (by omega)).trans hb1)
    have HX1 := hd ((KeepX.of_below HBW.out).trans hx1)
    have HKp1 := hd (HKW.out.trans hkp1)
    have HC1 := hd (hc1 (by trivial))
    have HAB := hd (allBelow_any Q an cn w.heap.size _ _ lg nx la w1 hres.lie hp1 HLq.out)
    clear hb1 hx1 hc1 hkp1 hres hp1 hg1 hm1 hi1 hr1 e0 e1 e2 e3 e4
    by_cases hl1 : (Q.length : Int) ≤ 1000
    · cases hab : Q.all (fun t => decide (t.nu < nx)) with
      | false =>
        have hR : R = false := by rw [HR.out, hab]; simp
        subst hR
        rw [hab] at HAB
        go_wp2_with fail
        refine HAB.out.mono ?_
        rintro r w2 ⟨rfl, hb2⟩
        go_wp2_with fail
        go_ret
        first | exact ⟨rfl, HB1.out.trans (hb2.mono (by omega)), HX1.out.trans (KeepX.of_below hb2), HKp1.out.trans (Kept.of hb2 (by omega)), fun h => by cases h⟩ | exact ⟨rfl, HB1.out.trans (hb2.mono (by omega)), HX1.out.trans (KeepX.of_below hb2), HKp1.out.trans (Kept.of hb2 (by omega))⟩
      | true =>
        have hR : R = decide (lg < nx) := by
          have hz : decide (Q.length ≤ 1000) = true := decide_eq_true (by omega)
          rw [HR.out, hab, hz, Bool.true_and, Bool.true_and]
        subst hR
        rw [hab] at HAB
        go_wp2_with fail
        refine HAB.out.mono ?_
        rintro r w2 ⟨rfl, hb2⟩
        have hlw : w.heap.size < w1.heap.size := by omega
        have j2 := (hb2.cell (p := ⟨w.heap.size, 2, none⟩) hlw).trans q2
        have j3 := (hb2.cell (p := ⟨w.heap.size, 3, none⟩) hlw).trans q3
        go_wp2_with fail
        go_ret
        exact ⟨rfl, HB1.out.trans (hb2.mono (by omega)), HX1.out.trans (KeepX.of_below hb2), HKp1.out.trans (Kept.of hb2 (by omega)), fun _ => HC1.out.below hb2⟩
    · have hR : R = false := by
        have hz : decide (Q.length ≤ 1000) = false := decide_eq_false (by omega)
        rw [HR.out, hz]; rfl
      subst hR
      go_wp2_with fail
      go_ret
      first | exact ⟨rfl, HB1.out, HX1.out, HKp1.out, fun h => by cases h⟩ | exact ⟨rfl, HB1.out, HX1.out, HKp1.out⟩
end Go.Proofs.YtphikgobdfknkaaGreatDoor
