import Derived.Test.YtigpplcecbgmaaeGreatDoorRmI
namespace Go.Proofs.YtigpplcecbgmaaeGreatDoor
open Go.RowKit Go.Maps
set_option linter.unusedVariables false
set_option linter.unusedSimpArgs false

/-- A version as a value. -/
abbrev verV (a : Option Addr) (ca : Nat) (ts : List Tr) (lg nx la : Int) : Value := .agg #[.slice a ts.length ca, .int .i64 lg, .int .i64 nx, .int .i64 la]

set_option maxRecDepth 100000 in
set_option maxHeartbeats 1000000 in
theorem eqVersion_same (a : Option Addr) (ca : Nat) (a' : Option Addr) (ca' : Nat) (ts : List Tr) (lg nx la : Int) (w : World) (hx : LieT w a ts) (hx' : LieT w a' ts) (hl : ts.length ≤ 1048576) :
    Calls Tryz.prog 19 #[verV a ca ts lg nx la, verV a' ca' ts lg nx la] w fun r w' => r = .returned (.bool true) ∧ Below w.heap.size w w' := by
  have hP0 : ((w.alloc (.cells #[.slice a ts.length ca, .int .i64 lg, .int .i64 nx, .int .i64 la] 36)).alloc (.cells #[.slice a' ts.length ca', .int .i64 lg, .int .i64 nx, .int .i64 la] 36)).heap[w.heap.size]? = some (.cells #[.slice a ts.length ca, .int .i64 lg, .int .i64 nx, .int .i64 la] 36 (0, 0)) := by rw [alloc_old (by simp)]; exact World.heap_alloc_new _ _
  have hQ0 : ((w.alloc (.cells #[.slice a ts.length ca, .int .i64 lg, .int .i64 nx, .int .i64 la] 36)).alloc (.cells #[.slice a' ts.length ca', .int .i64 lg, .int .i64 nx, .int .i64 la] 36)).heap[w.heap.size + 1]? = some (.cells #[.slice a' ts.length ca', .int .i64 lg, .int .i64 nx, .int .i64 la] 36 (0, 0)) := by rw [← size_alloc]; exact World.heap_alloc_new _ _
  have hb0 : Below w.heap.size w ((w.alloc (.cells #[.slice a ts.length ca, .int .i64 lg, .int .i64 nx, .int .i64 la] 36)).alloc (.cells #[.slice a' ts.length ca', .int .i64 lg, .int .i64 nx, .int .i64 la] 36)) := ((Below.refl _ _).alloc (Nat.le_refl _) _).alloc (by simp) _
  go_enter Tryz.func19, Tryz.ntmps19
  go_wp2_with fail
  refine (eqTableRefS_same a a' ca ca' ts _ (hx.below hb0) (hx'.below hb0) hl).mono ?_
  rintro r w1 ⟨rfl, hb1⟩
  have hP1 := (hb1.block w.heap.size (by simp; omega)).trans hP0
  have hQ1 := (hb1.block (w.heap.size + 1) (by simp)).trans hQ0
  have hb : Below w.heap.size w w1 := hb0.trans (hb1.mono hb0.size)
  obtain ⟨x0, x1, x2, x3⟩ := four_cells hP1
  obtain ⟨y0, y1, y2, y3⟩ := four_cells hQ1
  have hlt1 := heap_lt hP1
  have hlt2 := heap_lt hQ1
  clear hP0 hQ0 hb0 hb1
  go_wp2_with fail
  go_ret
  exact ⟨rfl, hb⟩

set_option maxRecDepth 100000 in
set_option maxHeartbeats 4000000 in
/-- Marks from whatever number on: the row alone has changed. -/
theorem markRefs_only (g cap n k0 : Nat) (w : World) (hn2 : n ≤ 1048576) (h1k : 1 ≤ k0) (h2k : k0 ≤ 10000000) (hp : RowT w g n [] 0) :
    Calls Tryz.prog 62 #[.slice (some ⟨g, 0, none⟩) n cap, .int .i64 k0] w fun e w' => e = .returned (.int .i64 (k0 + 4 * n : Nat)) ∧ Only g w w' := by
  have hgl := hp.lt
  go_enter Tryz.func62, Tryz.ntmps62
  go_wp2_with fail
  go_loopw [1, 5] (fun kk i wr => ∃ j : Nat, j ≤ n ∧ i = .int .i64 j ∧ kk = .int .i64 (k0 + 4 * j : Nat) ∧ RowT wr g n [] 0 ∧ Only g w wr) (fun _ i _ => n - (intOf i).toNat)
  case atStart => exact ⟨0, Nat.zero_le _, rfl, by simp, hp, Only.refl _ _⟩
  case round =>
    obtain ⟨j, hj, rfl, rfl, hpj, hb⟩ := hrel
    by_cases hlt : j < n
    · obtain ⟨cs, h1, h2, -⟩ := hpj
      have hgr : g < wr.heap.size := Nat.lt_of_lt_of_le hgl hb.size
      obtain ⟨v0, c0⟩ := row_cell (o := j * 4) h1 (by omega)
      obtain ⟨v1, c1⟩ := row_cell (o := j * 4 + 1) h1 (by omega)
      have z0 : wr.frozen? ⟨g, j * 4, none⟩ = false := by simp [World.frozen?, h1]
      have z1 : wr.frozen? ⟨g, j * 4 + 1, none⟩ = false := by simp [World.frozen?, h1]
      have e2 := heap_setCell_same wr g (j * 4) _ _ (.int .i64 ((k0 + 4 * j : Nat) : Int)) h1
      have e3 := heap_setCell_same _ g (j * 4 + 1) _ _ (.int .i64 ((k0 + 4 * j + 1 : Nat) : Int)) e2
      have ho1 : Only g w ((wr.setCell ⟨g, j * 4, none⟩ (.int .i64 ((k0 + 4 * j : Nat) : Int))).setCell ⟨g, j * 4 + 1, none⟩ (.int .i64 ((k0 + 4 * j + 1 : Nat) : Int))) := (hb.trans (Only.set _ _ _)).trans (Only.set _ _ _)
      have hg2 : g < ((wr.setCell ⟨g, j * 4, none⟩ (.int .i64 ((k0 + 4 * j : Nat) : Int))).setCell ⟨g, j * 4 + 1, none⟩ (.int .i64 ((k0 + 4 * j + 1 : Nat) : Int))).heap.size := heap_lt e3
      have q0 : ((k0 + 4 * j : Nat) : Int) = (k0 : Int) + 4 * (j : Int) := by omega
      have q1 : ((k0 + 4 * j + 1 : Nat) : Int) = (k0 : Int) + 4 * (j : Int) + 1 := by omega
      rw [q0, q1] at e3 ho1 hg2
      clear e2 q0 q1
      go_wp2_with fail
      refine (markText_int _ (k0 + 4 * j + 2) (by omega) (by omega) (by omega) _).mono ?_
      rintro e w2 ⟨rfl, hb2⟩
      have e5 := (hb2.block g hg2).trans e3
      have hg3 := heap_lt e5
      obtain ⟨v2, c2⟩ := row_cell (o := j * 4 + 2) e5 (by simp; omega)
      have z2 : w2.frozen? ⟨g, j * 4 + 2, none⟩ = false := by simp [World.frozen?, e5]
      have e6 := heap_setCell_same w2 g (j * 4 + 2) _ _ (.string (mt (k0 + 4 * j + 2))) e5
      have ho2 : Only g w (w2.setCell ⟨g, j * 4 + 2, none⟩ (.string (mt (k0 + 4 * j + 2)))) := (ho1.trans (Only.of hb2)).trans (Only.set _ _ _)
      have hg4 : g < (w2.setCell ⟨g, j * 4 + 2, none⟩ (.string (mt (k0 + 4 * j + 2)))).heap.size := heap_lt e6
      clear e3 e5 ho1 hb2 c0 z0 c1 z1
      go_wp2_with fail
      refine (markText_int _ (k0 + 4 * j + 3) (by omega) (by omega) (by omega) _).mono ?_
      rintro e w3 ⟨rfl, hb3⟩
      have e7 := (hb3.block g hg4).trans e6
      obtain ⟨v3, c3⟩ := row_cell (o := j * 4 + 3) e7 (by simp; omega)
      have z3 : w3.frozen? ⟨g, j * 4 + 3, none⟩ = false := by simp [World.frozen?, e7]
      have e8 := heap_setCell_same w3 g (j * 4 + 3) _ _ (.string (mt (k0 + 4 * j + 3))) e7
      have hpart : RowT (w3.setCell ⟨g, j * 4 + 3, none⟩ (.string (mt (k0 + 4 * j + 3)))) g n [] 0 := ⟨_, e8, by simpa using h2, fun i hi => absurd hi (Nat.not_lt_zero _)⟩
      have ho3 : Only g w (w3.setCell ⟨g, j * 4 + 3, none⟩ (.string (mt (k0 + 4 * j + 3)))) := (ho2.trans (Only.of hb3)).trans (Only.set _ _ _)
      clear e6 e7 e8 h1 h2 ho2 hb3 c2 z2
      go_wp2_with fail
      exact ⟨⟨j + 1, by omega, by go_num, by go_num, hpart, ho3⟩, by simp [intOf]; omega⟩
    · obtain rfl : j = n := by omega
      go_wp2_with fail
      go_ret
      exact ⟨rfl, hb⟩

end Go.Proofs.YtigpplcecbgmaaeGreatDoor
namespace Go.Proofs.YtigpplcecbgmaaeGreatDoor
open Go.RowKit Go.Maps
set_option linter.unusedVariables false
set_option linter.unusedSimpArgs false

theorem PartT.row {w : World} {g n k : Nat} {xs : List Tr} (h : PartT w g n xs k) : RowT w g n [] 0 := by
  obtain ⟨cs, h1, h2, -⟩ := h
  exact ⟨cs, h1, by omega, fun i hi => absurd hi (Nat.not_lt_zero _)⟩
theorem PartI.row {w : World} {g n k : Nat} {xs : List Int} (h : PartI w g n xs k) : RowI w g n [] 0 := by
  obtain ⟨cs, h1, h2, -⟩ := h
  exact ⟨cs, h1, by omega, fun i hi => absurd hi (Nat.not_lt_zero _)⟩
theorem PartT.ltV {w : World} {g n k : Nat} {xs : List Tr} (h : PartT w g n xs k) : g < w.heap.size := by
  obtain ⟨cs, h1, -⟩ := h
  exact heap_lt h1
theorem PartI.ltV {w : World} {g n k : Nat} {xs : List Int} (h : PartI w g n xs k) : g < w.heap.size := by
  obtain ⟨cs, h1, -⟩ := h
  exact heap_lt h1
/-- Nothing old has changed but two blocks. -/
structure Only2 (p q : Nat) (w w' : World) : Prop where
  os : w'.os = w.os
  tape : w'.tape = w.tape
  output : w'.output = w.output
  size : w.heap.size ≤ w'.heap.size
  block : ∀ k, k < w.heap.size → k ≠ p → k ≠ q → w'.heap[k]? = w.heap[k]?
theorem Only2.below {p q B : Nat} {w w' : World} (h : Only2 p q w w') (hp : B ≤ p) (hq : B ≤ q) (hB : B ≤ w.heap.size) : Below B w w' :=
  ⟨h.os, h.tape, h.output, h.size, fun k hk => h.block k (by omega) (by omega) (by omega)⟩

set_option maxRecDepth 100000 in
set_option maxHeartbeats 1000000 in
theorem markVersion_only (g c : Nat) (ts : List Tr) (lg nx la : Int) (k0 : Nat) (w : World) (hn : ts.length ≤ 1048576) (h1k : 1 ≤ k0) (h2k : k0 ≤ 10000000) (hp : PartT w g ts.length ts ts.length) :
    Calls Tryz.prog 20 #[verV (some ⟨g, 0, none⟩) c ts lg nx la, .int .i64 k0] w fun r w' => r = .returned (.int .i64 (k0 + 4 * ts.length : Nat)) ∧ Only g w w' := by
  have hb0 : Below w.heap.size w (w.alloc (.cells #[.slice (some ⟨g, 0, none⟩) ts.length c, .int .i64 lg, .int .i64 nx, .int .i64 la] 36)) := (Below.refl _ _).alloc (Nat.le_refl _) _
  have HM := hd (markRefs_only g c ts.length k0 _ hn h1k h2k (hp.below hb0 hp.ltV).row)
  have HB := hd hb0
  clear hb0 hp
  go_enter Tryz.func20, Tryz.ntmps20
  go_wp2_with fail
  refine HM.out.mono ?_
  rintro r w1 ⟨rfl, ho⟩
  go_wp2_with fail
  go_ret
  exact ⟨rfl, (Only.of HB.out).trans ho⟩

set_option maxRecDepth 100000 in
set_option maxHeartbeats 1000000 in
theorem markVersion_any (a : Option Addr) (c base : Nat) (ts : List Tr) (lg nx la : Int) (w : World) (hr : ResT w base a ts) (hn : ts.length ≤ 1000) (hbase : base ≤ w.heap.size) :
    Calls Tryz.prog 20 #[verV a c ts lg nx la, .int .i64 1] w fun r w' => r = .returned (.int .i64 (1 + 4 * ts.length : Nat)) ∧ ResT w' base a (mkT ts.length) ∧ Below base w w' ∧ (∀ (k : Nat) (o : Obj), w.heap[k]? = some o → (∀ cs fz, o ≠ Obj.cells cs 126 fz) → w'.heap[k]? = some o) := by
  have hb0 : Below w.heap.size w (w.alloc (.cells #[.slice a ts.length c, .int .i64 lg, .int .i64 nx, .int .i64 la] 36)) := (Below.refl _ _).alloc (Nat.le_refl _) _
  have HM := hd (markRefs_any a c base ts _ (hr.below hb0) hn (by have := hb0.size; omega))
  have HB := hd hb0
  clear hb0 hr
  go_enter Tryz.func20, Tryz.ntmps20
  go_wp2_with fail
  refine HM.out.mono ?_
  rintro r w1 ⟨rfl, hr1, hb1, hk1⟩
  go_wp2_with fail
  go_ret
  exact ⟨rfl, hr1, (HB.out.mono hbase).trans hb1, fun k o h hne => hk1 k o ((HB.out.block k (heap_lt h)).trans h) hne⟩

set_option maxRecDepth 100000 in
set_option maxHeartbeats 1000000 in
theorem heldVersion_any (a : Option Addr) (c : Nat) (ts : List Tr) (lg nx la : Int) (w : World) (hx : LieT w a (mkT ts.length)) (hn : ts.length ≤ 1000) :
    Calls Tryz.prog 21 #[verV a c ts lg nx la, .int .i64 1] w fun r w' => r = .returned (.int .i64 (1 + 4 * ts.length : Nat)) ∧ Below w.heap.size w w' := by
  have hb0 : Below w.heap.size w (w.alloc (.cells #[.slice a ts.length c, .int .i64 lg, .int .i64 nx, .int .i64 la] 36)) := (Below.refl _ _).alloc (Nat.le_refl _) _
  have HM := hd (heldRefs_row a c ts.length _ hn (hx.below hb0))
  have HB := hd hb0
  have q1 : ¬ ((1 + 4 * ts.length : Nat) : Int) < 0 := by omega
  generalize ((1 + 4 * ts.length : Nat) : Int) = MM at *
  clear hb0 hx
  go_enter Tryz.func21, Tryz.ntmps21
  go_wp2_with fail
  refine HM.out.mono ?_
  rintro r w1 ⟨rfl, hb1⟩
  go_wp2_with fail
  go_ret
  exact ⟨rfl, HB.out.trans (hb1.mono HB.out.size)⟩
end Go.Proofs.YtigpplcecbgmaaeGreatDoor
