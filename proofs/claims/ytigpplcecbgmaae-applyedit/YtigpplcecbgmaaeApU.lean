
import Derived.Test.YtigpplcecbgmaaeApR
import Derived.Test.YtigpplcecbgmaaeDeK
namespace Go.Proofs.Ytigpplcecbgmaae
open Go.RowKit Go.Maps
set_option linter.unusedVariables false
set_option linter.unusedSimpArgs false

/-- A version as a value. -/
abbrev verV (a : Option Addr) (ca : Nat) (ts : List Tr) (lg nx la : Int) : Value := .agg #[.slice a ts.length ca, .int .i64 lg, .int .i64 nx, .int .i64 la]

set_option maxHeartbeats 1000000 in
theorem szVersion_any (a : Option Addr) (ca : Nat) (ts : List Tr) (lg nx la : Int) (l : Int) (w : World) (hx : LieT w a ts) (hf : FitsT ts) (hn : ts.length ≤ maxLen) (l0 : 0 ≤ l) (l1 : l ≤ 1048576) :
    Calls Try.prog 10 #[verV a ca ts lg nx la, .int .i64 l] w fun r w' => (∃ x : Int, r = .returned (.int .i64 x) ∧ (x = -1 ∨ (0 ≤ x ∧ x ≤ l ∧ ts.length ≤ 1048576))) ∧ Below w.heap.size w w' := by
  have hP0 : (w.alloc (.cells #[.slice a ts.length ca, .int .i64 lg, .int .i64 nx, .int .i64 la] 33)).heap[w.heap.size]? = some (.cells #[.slice a ts.length ca, .int .i64 lg, .int .i64 nx, .int .i64 la] 33 (0, 0)) := World.heap_alloc_new _ _
  have hb0 : Below w.heap.size w (w.alloc (.cells #[.slice a ts.length ca, .int .i64 lg, .int .i64 nx, .int .i64 la] 33)) := (Below.refl _ _).alloc (Nat.le_refl _) _
  go_enter Try.func10, Try.ntmps10
  go_wp2_with fail
  refine (szTableRefS_any a ca ts l _ (hx.below hb0) hf hn l0 l1).mono ?_
  rintro r w1 ⟨⟨x, rfl, hr1, hr2⟩, hb1⟩
  have hb : Below w.heap.size w w1 := hb0.trans (hb1.mono hb0.size)
  clear hP0 hb0 hb1
  rcases hr2 with rfl | ⟨hr0, hr⟩
  · go_wp2_with fail
    go_ret
    exact ⟨⟨-1, rfl, .inl rfl⟩, hb⟩
  · have hl1 : ts.length ≤ 1048576 := by omega
    clear hr
    go_wp2_with fail
    go_ret
    exact ⟨⟨x, rfl, .inr ⟨hr0, hr1, hl1⟩⟩, hb⟩

set_option maxRecDepth 100000 in
set_option maxHeartbeats 1000000 in
theorem eqVersion_same (a : Option Addr) (ca : Nat) (a' : Option Addr) (ca' : Nat) (ts : List Tr) (lg nx la : Int) (w : World) (hx : LieT w a ts) (hx' : LieT w a' ts) (hl : ts.length ≤ 1048576) :
    Calls Try.prog 16 #[verV a ca ts lg nx la, verV a' ca' ts lg nx la] w fun r w' => r = .returned (.bool true) ∧ Below w.heap.size w w' := by
  have hP0 : ((w.alloc (.cells #[.slice a ts.length ca, .int .i64 lg, .int .i64 nx, .int .i64 la] 39)).alloc (.cells #[.slice a' ts.length ca', .int .i64 lg, .int .i64 nx, .int .i64 la] 39)).heap[w.heap.size]? = some (.cells #[.slice a ts.length ca, .int .i64 lg, .int .i64 nx, .int .i64 la] 39 (0, 0)) := by rw [alloc_old (by simp)]; exact World.heap_alloc_new _ _
  have hQ0 : ((w.alloc (.cells #[.slice a ts.length ca, .int .i64 lg, .int .i64 nx, .int .i64 la] 39)).alloc (.cells #[.slice a' ts.length ca', .int .i64 lg, .int .i64 nx, .int .i64 la] 39)).heap[w.heap.size + 1]? = some (.cells #[.slice a' ts.length ca', .int .i64 lg, .int .i64 nx, .int .i64 la] 39 (0, 0)) := by rw [← size_alloc]; exact World.heap_alloc_new _ _
  have hb0 : Below w.heap.size w ((w.alloc (.cells #[.slice a ts.length ca, .int .i64 lg, .int .i64 nx, .int .i64 la] 39)).alloc (.cells #[.slice a' ts.length ca', .int .i64 lg, .int .i64 nx, .int .i64 la] 39)) := ((Below.refl _ _).alloc (Nat.le_refl _) _).alloc (by simp) _
  go_enter Try.func16, Try.ntmps16
  go_wp2_with fail
  refine (eqTableRefS_same a a' ca ca' ts _ (hx.below hb0) (hx'.below hb0) hl).mono ?_
  rintro r w1 ⟨rfl, hb1⟩
  have hP1 := (hb1.block w.heap.size (by simp; omega)).trans hP0
  have hQ1 := (hb1.block (w.heap.size + 1) (by simp)).trans hQ0
  have hb : Below w.heap.size w w1 := hb0.trans (hb1.mono hb0.size)
  obtain ⟨x0, x1, x2, x3⟩ := four_cells hP1
  obtain ⟨y0, y1, y2, y3⟩ := four_cells hQ1
  have hlt1 := heap_lt hP1
  have hlt2 := heap_lt hQ1
  clear hP0 hQ0 hb0 hb1
  go_wp2_with fail
  go_ret
  exact ⟨rfl, hb⟩

set_option maxRecDepth 100000 in
set_option maxHeartbeats 2000000 in
theorem toVersion_any (a : Option Addr) (ca : Nat) (ts : List Tr) (lg nx la : Int) (w : World) (hx : LieT w a ts) (hl : ts.length ≤ 1048576) :
    Calls Try.prog 13 #[verV a ca ts lg nx la] w fun r w' => ∃ g1, r = .returned (verV (some ⟨g1, 0, none⟩) ts.length ts lg nx la) ∧ w.heap.size ≤ g1 ∧ PartT w' g1 ts.length ts ts.length ∧ Below w.heap.size w w' := by
  generalize hW0 : (((w.alloc (.cells #[.slice a ts.length ca, .int .i64 lg, .int .i64 nx, .int .i64 la] 33)).alloc (.cells #[.slice none 0 0, .int .i64 0, .int .i64 0, .int .i64 0] 39)).alloc (.cells #[.slice none 0 0, .int .i64 0, .int .i64 0, .int .i64 0] 39)) = W0
  have hI0 : W0.heap[w.heap.size]? = some (.cells #[.slice a ts.length ca, .int .i64 lg, .int .i64 nx, .int .i64 la] 33 (0, 0)) := by rw [← hW0, alloc_old (by simp; omega), alloc_old (by simp)]; exact World.heap_alloc_new _ _
  have hR0 : W0.heap[w.heap.size + 1]? = some (.cells #[.slice none 0 0, .int .i64 0, .int .i64 0, .int .i64 0] 39 (0, 0)) := by rw [← hW0, alloc_old (by simp), ← size_alloc]; exact World.heap_alloc_new _ _
  have hO0 : W0.heap[w.heap.size + 1 + 1]? = some (.cells #[.slice none 0 0, .int .i64 0, .int .i64 0, .int .i64 0] 39 (0, 0)) := by
    rw [← hW0]
    have h := World.heap_alloc_new ((w.alloc (.cells #[.slice a ts.length ca, .int .i64 lg, .int .i64 nx, .int .i64 la] 33)).alloc (.cells #[.slice none 0 0, .int .i64 0, .int .i64 0, .int .i64 0] 39)) (.cells #[.slice none 0 0, .int .i64 0, .int .i64 0, .int .i64 0] 39)
    rwa [size_alloc, size_alloc] at h
  have hs0 : W0.heap.size = w.heap.size + 3 := by rw [← hW0, size_alloc, size_alloc, size_alloc]
  have hb0 : Below w.heap.size w W0 := by rw [← hW0]; exact (((Below.refl _ _).alloc (Nat.le_refl _) _).alloc (by simp) _).alloc (by simp; omega) _
  obtain ⟨c0, c1, c2, c3⟩ := four_cells hI0
  go_enter Try.func13, Try.ntmps13
  go_wp2_with fail
  clear hW0
  refine (toTableRefS_any a ca ts W0 (hx.below hb0) hl).mono ?_
  rintro r w1 ⟨g1, rfl, hg1, hp1, hb1⟩
  have hI1 := (hb1.block w.heap.size (by omega)).trans hI0
  have hR1 := (hb1.block (w.heap.size + 1) (by omega)).trans hR0
  have hO1 := (hb1.block (w.heap.size + 1 + 1) (by omega)).trans hO0
  have hs1 := hb1.size
  have hbw1 := hb0.trans (hb1.mono hb0.size)
  clear hI0 hR0 hO0 hb1 hb0 c0 c1 c2 c3
  obtain ⟨x0, x1, x2, x3⟩ := four_cells hI1
  obtain ⟨y0, y1, y2, y3⟩ := four_cells hO1
  obtain ⟨z0, z1, z2, z3⟩ := four_freeN hO1
  obtain ⟨u0, u1, u2, u3⟩ := four_cells hR1
  obtain ⟨v0, v1, v2, v3⟩ := four_freeN hR1
  have hl1' := heap_lt hI1
  have HH := hd (And.intro hp1 hbw1)
  clear hp1 hbw1 hI1 hR1 hO1
  go_wp2_with fail
  refine bodyPost_ret (v := verV (some ⟨g1, 0, none⟩) ts.length ts lg nx la) (by simp [results, Try.results13, go_sem, x0, x1, x2, x3, y0, y1, y2, y3, u0, u1, u2, u3]) rfl ⟨g1, rfl, by omega, ?_, ?_⟩
  · repeat refine PartT.other (by omega) ?_
    exact HH.out.1
  · repeat refine below_set (by omega) ?_
    exact HH.out.2

set_option maxRecDepth 100000 in
set_option maxHeartbeats 4000000 in
/-- Marks from whatever number on: the row alone has changed. -/
theorem markRefs_only (g cap n k0 : Nat) (w : World) (hn2 : n ≤ 1048576) (h1k : 1 ≤ k0) (h2k : k0 ≤ 10000000) (hp : RowT w g n [] 0) :
    Calls Try.prog 27 #[.slice (some ⟨g, 0, none⟩) n cap, .int .i64 k0] w fun e w' => e = .returned (.int .i64 (k0 + 4 * n : Nat)) ∧ Only g w w' := by
  have hgl := hp.lt
  go_enter Try.func27, Try.ntmps27
  go_wp2_with fail
  go_loopw [1, 5] (fun kk i wr => ∃ j : Nat, j ≤ n ∧ i = .int .i64 j ∧ kk = .int .i64 (k0 + 4 * j : Nat) ∧ RowT wr g n [] 0 ∧ Only g w wr) (fun _ i _ => n - (intOf i).toNat)
  case atStart => exact ⟨0, Nat.zero_le _, rfl, by simp, hp, Only.refl _ _⟩
  case round =>
    obtain ⟨j, hj, rfl, rfl, hpj, hb⟩ := hrel
    by_cases hlt : j < n
    · obtain ⟨cs, h1, h2, -⟩ := hpj
      have hgr : g < wr.heap.size := Nat.lt_of_lt_of_le hgl hb.size
      obtain ⟨v0, c0⟩ := row_cell (o := j * 4) h1 (by omega)
      obtain ⟨v1, c1⟩ := row_cell (o := j * 4 + 1) h1 (by omega)
      have z0 : wr.frozen? ⟨g, j * 4, none⟩ = false := by simp [World.frozen?, h1]
      have z1 : wr.frozen? ⟨g, j * 4 + 1, none⟩ = false := by simp [World.frozen?, h1]
      have e2 := heap_setCell_same wr g (j * 4) _ _ (.int .i64 ((k0 + 4 * j : Nat) : Int)) h1
      have e3 := heap_setCell_same _ g (j * 4 + 1) _ _ (.int .i64 ((k0 + 4 * j + 1 : Nat) : Int)) e2
      have ho1 : Only g w ((wr.setCell ⟨g, j * 4, none⟩ (.int .i64 ((k0 + 4 * j : Nat) : Int))).setCell ⟨g, j * 4 + 1, none⟩ (.int .i64 ((k0 + 4 * j + 1 : Nat) : Int))) := (hb.trans (Only.set _ _ _)).trans (Only.set _ _ _)
      have hg2 : g < ((wr.setCell ⟨g, j * 4, none⟩ (.int .i64 ((k0 + 4 * j : Nat) : Int))).setCell ⟨g, j * 4 + 1, none⟩ (.int .i64 ((k0 + 4 * j + 1 : Nat) : Int))).heap.size := heap_lt e3
      have q0 : ((k0 + 4 * j : Nat) : Int) = (k0 : Int) + 4 * (j : Int) := by omega
      have q1 : ((k0 + 4 * j + 1 : Nat) : Int) = (k0 : Int) + 4 * (j : Int) + 1 := by omega
      rw [q0, q1] at e3 ho1 hg2
      clear e2 q0 q1
      go_wp2_with fail
      refine (markText_int _ (k0 + 4 * j + 2) (by omega) (by omega) (by omega) _).mono ?_
      rintro e w2 ⟨rfl, hb2⟩
      have e5 := (hb2.block g hg2).trans e3
      have hg3 := heap_lt e5
      obtain ⟨v2, c2⟩ := row_cell (o := j * 4 + 2) e5 (by simp; omega)
      have z2 : w2.frozen? ⟨g, j * 4 + 2, none⟩ = false := by simp [World.frozen?, e5]
      have e6 := heap_setCell_same w2 g (j * 4 + 2) _ _ (.string (mt (k0 + 4 * j + 2))) e5
      have ho2 : Only g w (w2.setCell ⟨g, j * 4 + 2, none⟩ (.string (mt (k0 + 4 * j + 2)))) := (ho1.trans (Only.of hb2)).trans (Only.set _ _ _)
      have hg4 : g < (w2.setCell ⟨g, j * 4 + 2, none⟩ (.string (mt (k0 + 4 * j + 2)))).heap.size := heap_lt e6
      clear e3 e5 ho1 hb2 c0 z0 c1 z1
      go_wp2_with fail
      refine (markText_int _ (k0 + 4 * j + 3) (by omega) (by omega) (by omega) _).mono ?_
      rintro e w3 ⟨rfl, hb3⟩
      have e7 := (hb3.block g hg4).trans e6
      obtain ⟨v3, c3⟩ := row_cell (o := j * 4 + 3) e7 (by simp; omega)
      have z3 : w3.frozen? ⟨g, j * 4 + 3, none⟩ = false := by simp [World.frozen?, e7]
      have e8 := heap_setCell_same w3 g (j * 4 + 3) _ _ (.string (mt (k0 + 4 * j + 3))) e7
      have hpart : RowT (w3.setCell ⟨g, j * 4 + 3, none⟩ (.string (mt (k0 + 4 * j + 3)))) g n [] 0 := ⟨_, e8, by simpa using h2, fun i hi => absurd hi (Nat.not_lt_zero _)⟩
      have ho3 : Only g w (w3.setCell ⟨g, j * 4 + 3, none⟩ (.string (mt (k0 + 4 * j + 3)))) := (ho2.trans (Only.of hb3)).trans (Only.set _ _ _)
      clear e6 e7 e8 h1 h2 ho2 hb3 c2 z2
      go_wp2_with fail
      exact ⟨⟨j + 1, by omega, by go_num, by go_num, hpart, ho3⟩, by simp [intOf]; omega⟩
    · obtain rfl : j = n := by omega
      go_wp2_with fail
      go_ret
      exact ⟨rfl, hb⟩

set_option maxHeartbeats 1000000 in
theorem markInts_only (g cap n k0 : Nat) (w : World) (hn2 : n ≤ 1048576) (hk0 : k0 ≤ 20000000) (hp : RowI w g n [] 0) :
    Calls Try.prog 28 #[.slice (some ⟨g, 0, none⟩) n cap, .int .i64 k0] w fun e w' => e = .returned (.int .i64 (k0 + n : Nat)) ∧ Only g w w' := by
  have hgl := hp.lt
  go_enter Try.func28, Try.ntmps28
  go_wp2_with fail
  go_loopw [1, 5] (fun kk i wr => ∃ j : Nat, j ≤ n ∧ i = .int .i64 j ∧ kk = .int .i64 (k0 + j : Nat) ∧ RowI wr g n [] 0 ∧ Only g w wr) (fun _ i _ => n - (intOf i).toNat)
  case atStart => exact ⟨0, Nat.zero_le _, rfl, by simp, hp, Only.refl _ _⟩
  case round =>
    obtain ⟨j, hj, rfl, rfl, hpj, hb⟩ := hrel
    by_cases hlt : j < n
    · obtain ⟨cs, h1, h2, -⟩ := hpj
      have hgr : g < wr.heap.size := Nat.lt_of_lt_of_le hgl hb.size
      obtain ⟨v0, c0⟩ := row_cell (o := j) h1 (by omega)
      have z0 : wr.frozen? ⟨g, j, none⟩ = false := by simp [World.frozen?, h1]
      have e2 := heap_setCell_same wr g j _ _ (.int .i64 ((k0 + j : Nat) : Int)) h1
      have hst : RowI (wr.setCell ⟨g, j, none⟩ (.int .i64 ((k0 + j : Nat) : Int))) g n [] 0 := ⟨_, e2, by simpa using h2, fun i hi => absurd hi (Nat.not_lt_zero _)⟩
      have ho1 : Only g w (wr.setCell ⟨g, j, none⟩ (.int .i64 ((k0 + j : Nat) : Int))) := hb.trans (Only.set _ _ _)
      have q0 : ((k0 + j : Nat) : Int) = k0 + (j : Int) := by omega
      rw [q0] at hst ho1
      have HST := hd hst
      have HO1 := hd ho1
      clear hst ho1 q0 h1 h2 hb e2
      have i1 : (j : Int) < (n : Int) := by omega
      go_wp2_with fail
      exact ⟨⟨j + 1, by omega, by go_num, by go_num, HST.out, HO1.out⟩, by simp [intOf]; omega⟩
    · obtain rfl : j = n := by omega
      go_wp2_with fail
      go_ret
      exact ⟨rfl, hb⟩
end Go.Proofs.Ytigpplcecbgmaae
