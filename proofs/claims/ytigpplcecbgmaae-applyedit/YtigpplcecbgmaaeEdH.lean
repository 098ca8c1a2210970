
import Derived.Test.YtigpplcecbgmaaeEdB
namespace Go.Proofs.Ytigpplcecbgmaae
open Go.RowKit Go.Maps
set_option linter.unusedVariables false
set_option linter.unusedSimpArgs false

theorem PartT.other {w : World} {g n k p o : Nat} {xs : List Tr} {v : Value} (hne : g ≠ p) (h : PartT w g n xs k) : PartT (w.setCell ⟨p, o, none⟩ v) g n xs k := by
  obtain ⟨cs, h1, h2⟩ := h
  exact ⟨cs, (Below.heap_setCell _ _ _ _ (by simpa using hne)).trans h1, h2⟩
theorem PartI.other {w : World} {g n k p o : Nat} {xs : List Int} {v : Value} (hne : g ≠ p) (h : PartI w g n xs k) : PartI (w.setCell ⟨p, o, none⟩ v) g n xs k := by
  obtain ⟨cs, h1, h2⟩ := h
  exact ⟨cs, (Below.heap_setCell _ _ _ _ (by simpa using hne)).trans h1, h2⟩
theorem below_set {B p o : Nat} {w w' : World} {v : Value} (h : B ≤ p) (hb : Below B w w') : Below B w (w'.setCell ⟨p, o, none⟩ v) := hb.setCell h _
theorem five_free {w : World} {p : Nat} {t : TypeId} {x0 x1 x2 x3 x4 : Value} (h : w.heap[p]? = some (.cells #[x0, x1, x2, x3, x4] t (0, 0))) :
    w.frozen? ⟨p, 0, none⟩ = false ∧ w.frozen? ⟨p, 1, none⟩ = false ∧ w.frozen? ⟨p, 2, none⟩ = false ∧ w.frozen? ⟨p, 3, none⟩ = false ∧ w.frozen? ⟨p, 4, none⟩ = false := by
  refine ⟨?_, ?_, ?_, ?_, ?_⟩ <;> simp [World.frozen?, h]
theorem alloc_old {w : World} {o : Obj} {k : Nat} (h : k < w.heap.size) : (w.alloc o).heap[k]? = w.heap[k]? := Below.heap_alloc _ _ _ h
theorem size_alloc (w : World) (o : Obj) : (w.alloc o).heap.size = w.heap.size + 1 := by simp

set_option maxHeartbeats 1000000 in
theorem szEdit_any (a : Option Addr) (ca : Nat) (d : Option Addr) (cd : Nat) (e : Ed) (l : Int) (w : World) (hx : LieT w a e.ad) (hf : FitsT e.ad) (hn1 : e.ad.length ≤ maxLen) (hn2 : e.dl.length ≤ maxLen) (l0 : 0 ≤ l) (l1 : l ≤ 1048576) :
    Calls Try.prog 11 #[edV a ca d cd e, .int .i64 l] w fun r w' => (∃ x : Int, r = .returned (.int .i64 x) ∧ (x = -1 ∨ (0 ≤ x ∧ e.ad.length ≤ 1048576 ∧ e.dl.length ≤ 1048576))) ∧ Below w.heap.size w w' := by
  obtain ⟨xs, ks, lg, nx, la⟩ := e
  dsimp only at *
  have hP0 : (w.alloc (.cells #[.slice a xs.length ca, .slice d ks.length cd, .int .i64 lg, .int .i64 nx, .int .i64 la] 35)).heap[w.heap.size]? = some (.cells #[.slice a xs.length ca, .slice d ks.length cd, .int .i64 lg, .int .i64 nx, .int .i64 la] 35 (0, 0)) := World.heap_alloc_new _ _
  have hb0 : Below w.heap.size w (w.alloc (.cells #[.slice a xs.length ca, .slice d ks.length cd, .int .i64 lg, .int .i64 nx, .int .i64 la] 35)) := (Below.refl _ _).alloc (Nat.le_refl _) _
  go_enter Try.func11, Try.ntmps11
  go_wp2_with fail
  refine (szTableRefS_any a ca xs l _ (hx.below hb0) hf hn1 l0 l1).mono ?_
  rintro r w1 ⟨⟨x, rfl, hr1, hr2⟩, hb1⟩
  have hP1 := (hb1.block w.heap.size (by simp)).trans hP0
  have hb : Below w.heap.size w w1 := hb0.trans (hb1.mono hb0.size)
  obtain ⟨x0, x1, x2, x3, x4⟩ := five_cells hP1
  have hlt1 := heap_lt hP1
  clear hP0 hb0 hb1
  rcases hr2 with rfl | ⟨hr0, hr⟩
  · go_wp2_with fail
    go_ret
    exact ⟨⟨-1, rfl, .inl rfl⟩, hb⟩
  · have hl1 : xs.length ≤ 1048576 := by omega
    clear hr
    go_wp2_with fail
    refine (szIntS_any d cd ks x _ hn2 hr0 (by omega)).mono ?_
    rintro r w2 ⟨⟨y, rfl, hs1, hs2⟩, hb2⟩
    have hbw := hb.trans (hb2.mono hb.size)
    rcases hs2 with rfl | ⟨hs0, hs⟩
    · go_wp2_with fail
      go_ret
      exact ⟨⟨-1, rfl, .inl rfl⟩, hbw⟩
    · have hl2 : ks.length ≤ 1048576 := by omega
      clear hs
      go_wp2_with fail
      go_ret
      exact ⟨⟨y, rfl, .inr ⟨hs0, hl1, hl2⟩⟩, hbw⟩

set_option maxRecDepth 100000 in
set_option maxHeartbeats 1000000 in
theorem eqEdit_same (a : Option Addr) (ca : Nat) (d : Option Addr) (cd : Nat) (a' : Option Addr) (ca' : Nat) (d' : Option Addr) (cd' : Nat) (e : Ed) (w : World) (hx : LieT w a e.ad) (hy : LieI w d e.dl) (hx' : LieT w a' e.ad) (hy' : LieI w d' e.dl) (hl1 : e.ad.length ≤ 1048576) (hl2 : e.dl.length ≤ 1048576) :
    Calls Try.prog 7 #[edV a ca d cd e, edV a' ca' d' cd' e] w fun r w' => r = .returned (.bool true) ∧ Below w.heap.size w w' := by
  obtain ⟨xs, ks, lg, nx, la⟩ := e
  dsimp only at *
  have hP0 : ((w.alloc (.cells #[.slice a xs.length ca, .slice d ks.length cd, .int .i64 lg, .int .i64 nx, .int .i64 la] 25)).alloc (.cells #[.slice a' xs.length ca', .slice d' ks.length cd', .int .i64 lg, .int .i64 nx, .int .i64 la] 25)).heap[w.heap.size]? = some (.cells #[.slice a xs.length ca, .slice d ks.length cd, .int .i64 lg, .int .i64 nx, .int .i64 la] 25 (0, 0)) := by rw [alloc_old (by simp)]; exact World.heap_alloc_new _ _
  have hQ0 : ((w.alloc (.cells #[.slice a xs.length ca, .slice d ks.length cd, .int .i64 lg, .int .i64 nx, .int .i64 la] 25)).alloc (.cells #[.slice a' xs.length ca', .slice d' ks.length cd', .int .i64 lg, .int .i64 nx, .int .i64 la] 25)).heap[w.heap.size + 1]? = some (.cells #[.slice a' xs.length ca', .slice d' ks.length cd', .int .i64 lg, .int .i64 nx, .int .i64 la] 25 (0, 0)) := by rw [← size_alloc]; exact World.heap_alloc_new _ _
  have hb0 : Below w.heap.size w ((w.alloc (.cells #[.slice a xs.length ca, .slice d ks.length cd, .int .i64 lg, .int .i64 nx, .int .i64 la] 25)).alloc (.cells #[.slice a' xs.length ca', .slice d' ks.length cd', .int .i64 lg, .int .i64 nx, .int .i64 la] 25)) := ((Below.refl _ _).alloc (Nat.le_refl _) _).alloc (by simp) _
  go_enter Try.func7, Try.ntmps7
  go_wp2_with fail
  refine (eqTableRefS_same a a' ca ca' xs _ (hx.below hb0) (hx'.below hb0) hl1).mono ?_
  rintro r w1 ⟨rfl, hb1⟩
  have hP1 := (hb1.block w.heap.size (by simp; omega)).trans hP0
  have hQ1 := (hb1.block (w.heap.size + 1) (by simp)).trans hQ0
  have hb : Below w.heap.size w w1 := hb0.trans (hb1.mono hb0.size)
  obtain ⟨x0, x1, x2, x3, x4⟩ := five_cells hP1
  obtain ⟨y0, y1, y2, y3, y4⟩ := five_cells hQ1
  have hlt1 := heap_lt hP1
  have hlt2 := heap_lt hQ1
  clear hP0 hQ0 hb0 hb1
  go_wp2_with fail
  refine (eqIntS_same d d' cd cd' ks _ (hy.below hb) (hy'.below hb) hl2).mono ?_
  rintro r w2 ⟨rfl, hb2⟩
  have hbw := hb.trans (hb2.mono hb.size)
  have hP2 := (hb2.block w.heap.size hlt1).trans hP1
  have hQ2 := (hb2.block (w.heap.size + 1) hlt2).trans hQ1
  clear x0 x1 x2 x3 x4 y0 y1 y2 y3 y4 hP1 hQ1
  obtain ⟨x0, x1, x2, x3, x4⟩ := five_cells hP2
  obtain ⟨y0, y1, y2, y3, y4⟩ := five_cells hQ2
  go_wp2_with fail
  go_ret
  exact ⟨rfl, hbw⟩

set_option maxRecDepth 100000 in
set_option maxHeartbeats 2000000 in
theorem toEdit_any (a : Option Addr) (ca : Nat) (d : Option Addr) (cd : Nat) (e : Ed) (w : World) (hx : LieT w a e.ad) (hy : LieI w d e.dl) (hl1 : e.ad.length ≤ 1048576) (hl2 : e.dl.length ≤ 1048576) :
    Calls Try.prog 14 #[edV a ca d cd e] w fun r w' => ∃ g1 g2, r = .returned (edV (some ⟨g1, 0, none⟩) e.ad.length (some ⟨g2, 0, none⟩) e.dl.length e) ∧ w.heap.size ≤ g1 ∧ w.heap.size ≤ g2 ∧ PartT w' g1 e.ad.length e.ad e.ad.length ∧ PartI w' g2 e.dl.length e.dl e.dl.length ∧ Below w.heap.size w w' := by
  obtain ⟨xs, ks, lg, nx, la⟩ := e
  dsimp only at *
  generalize hW0 : (((w.alloc (.cells #[.slice a xs.length ca, .slice d ks.length cd, .int .i64 lg, .int .i64 nx, .int .i64 la] 35)).alloc (.cells #[.slice none 0 0, .slice none 0 0, .int .i64 0, .int .i64 0, .int .i64 0] 25)).alloc (.cells #[.slice none 0 0, .slice none 0 0, .int .i64 0, .int .i64 0, .int .i64 0] 25)) = W0
  have hI0 : W0.heap[w.heap.size]? = some (.cells #[.slice a xs.length ca, .slice d ks.length cd, .int .i64 lg, .int .i64 nx, .int .i64 la] 35 (0, 0)) := by rw [← hW0, alloc_old (by simp; omega), alloc_old (by simp)]; exact World.heap_alloc_new _ _
  have hR0 : W0.heap[w.heap.size + 1]? = some (.cells #[.slice none 0 0, .slice none 0 0, .int .i64 0, .int .i64 0, .int .i64 0] 25 (0, 0)) := by rw [← hW0, alloc_old (by simp), ← size_alloc]; exact World.heap_alloc_new _ _
  have hO0 : W0.heap[w.heap.size + 1 + 1]? = some (.cells #[.slice none 0 0, .slice none 0 0, .int .i64 0, .int .i64 0, .int .i64 0] 25 (0, 0)) := by
    rw [← hW0]
    have h := World.heap_alloc_new ((w.alloc (.cells #[.slice a xs.length ca, .slice d ks.length cd, .int .i64 lg, .int .i64 nx, .int .i64 la] 35)).alloc (.cells #[.slice none 0 0, .slice none 0 0, .int .i64 0, .int .i64 0, .int .i64 0] 25)) (.cells #[.slice none 0 0, .slice none 0 0, .int .i64 0, .int .i64 0, .int .i64 0] 25)
    rwa [size_alloc, size_alloc] at h
  have hs0 : W0.heap.size = w.heap.size + 3 := by rw [← hW0, size_alloc, size_alloc, size_alloc]
  have hb0 : Below w.heap.size w W0 := by rw [← hW0]; exact (((Below.refl _ _).alloc (Nat.le_refl _) _).alloc (by simp) _).alloc (by simp; omega) _
  obtain ⟨c0, c1, c2, c3, c4⟩ := five_cells hI0
  go_enter Try.func14, Try.ntmps14
  go_wp2_with fail
  clear hW0
  refine (toTableRefS_any a ca xs W0 (hx.below hb0) hl1).mono ?_
  rintro r w1 ⟨g1, rfl, hg1, hp1, hb1⟩
  have hI1 := (hb1.block w.heap.size (by omega)).trans hI0
  have hR1 := (hb1.block (w.heap.size + 1) (by omega)).trans hR0
  have hO1 := (hb1.block (w.heap.size + 1 + 1) (by omega)).trans hO0
  have hs1 := hb1.size
  have hbw1 := hb0.trans (hb1.mono hb0.size)
  clear hI0 hR0 hO0 hb1 hb0 c0 c1 c2 c3 c4
  obtain ⟨x0, x1, x2, x3, x4⟩ := five_cells hI1
  obtain ⟨z0, -, -, -, -⟩ := five_free hO1
  obtain ⟨y0, -, -, -, -⟩ := five_cells hO1
  have hl1' := heap_lt hI1
  have hO2 : (w1.setCell ⟨w.heap.size + 1 + 1, 0, none⟩ (.slice (some ⟨g1, 0, none⟩) xs.length xs.length)).heap[w.heap.size + 1 + 1]? = some (.cells #[.slice (some ⟨g1, 0, none⟩) xs.length xs.length, .slice none 0 0, .int .i64 0, .int .i64 0, .int .i64 0] 25 (0, 0)) := by rw [heap_setCell_same _ _ _ _ _ _ hO1]; rfl
  have hI2 : (w1.setCell ⟨w.heap.size + 1 + 1, 0, none⟩ (.slice (some ⟨g1, 0, none⟩) xs.length xs.length)).heap[w.heap.size]? = some (.cells #[.slice a xs.length ca, .slice d ks.length cd, .int .i64 lg, .int .i64 nx, .int .i64 la] 35 (0, 0)) := (Below.heap_setCell _ _ _ _ (by dsimp only; omega)).trans hI1
  have hR2 : (w1.setCell ⟨w.heap.size + 1 + 1, 0, none⟩ (.slice (some ⟨g1, 0, none⟩) xs.length xs.length)).heap[w.heap.size + 1]? = some (.cells #[.slice none 0 0, .slice none 0 0, .int .i64 0, .int .i64 0, .int .i64 0] 25 (0, 0)) := (Below.heap_setCell _ _ _ _ (by dsimp only; omega)).trans hR1
  have hbw2 : Below w.heap.size w (w1.setCell ⟨w.heap.size + 1 + 1, 0, none⟩ (.slice (some ⟨g1, 0, none⟩) xs.length xs.length)) := below_set (by omega) hbw1
  have hp2 := hp1.other (p := w.heap.size + 1 + 1) (o := 0) (v := (.slice (some ⟨g1, 0, none⟩) xs.length xs.length)) (by omega)
  have hs2 : (w1.setCell ⟨w.heap.size + 1 + 1, 0, none⟩ (.slice (some ⟨g1, 0, none⟩) xs.length xs.length)).heap.size = w1.heap.size := by simp [World.setCell]
  have hg1' : g1 < w1.heap.size := by obtain ⟨cs, h, _⟩ := hp1; exact heap_lt h
  clear hI1 hR1 hO1 hp1 hbw1
  go_wp2_with fail
  generalize w1.setCell ⟨w.heap.size + 1 + 1, 0, none⟩ (.slice (some ⟨g1, 0, none⟩) xs.length xs.length) = W2 at *
  clear x0 x1 x2 x3 x4 y0 z0
  refine (toIntS_any d cd ks W2 (hy.below hbw2) hl2).mono ?_
  rintro r w3 ⟨g2, rfl, hg2, hp3, hb3⟩
  have hI3 := (hb3.block w.heap.size (by omega)).trans hI2
  have hR3 := (hb3.block (w.heap.size + 1) (by omega)).trans hR2
  have hO3 := (hb3.block (w.heap.size + 1 + 1) (by omega)).trans hO2
  have hq3 := hp2.below hb3 (by omega)
  have hs3 := hb3.size
  have hbw3 := hbw2.trans (hb3.mono hbw2.size)
  clear hI2 hR2 hO2 hb3 hbw2 hp2
  obtain ⟨x0, x1, x2, x3, x4⟩ := five_cells hI3
  obtain ⟨y0, y1, y2, y3, y4⟩ := five_cells hO3
  obtain ⟨z0, z1, z2, z3, z4⟩ := five_free hO3
  obtain ⟨u0, u1, u2, u3, u4⟩ := five_cells hR3
  obtain ⟨v0, v1, v2, v3, v4⟩ := five_free hR3
  have hl3 := heap_lt hI3
  have HH := hd (And.intro hp3 (And.intro hq3 hbw3))
  clear hp3 hq3 hbw3 hI3 hR3 hO3
  go_wp2_with fail
  refine bodyPost_ret (v := edV (some ⟨g1, 0, none⟩) xs.length (some ⟨g2, 0, none⟩) ks.length ⟨xs, ks, lg, nx, la⟩) (by simp [results, Try.results14, go_sem, x0, x1, x2, x3, x4, y0, y1, y2, y3, y4, u0, u1, u2, u3, u4]) rfl ⟨g1, g2, rfl, by omega, by omega, ?_, ?_, ?_⟩
  · repeat refine PartT.other (by omega) ?_
    exact HH.out.2.1
  · repeat refine PartI.other (by omega) ?_
    exact HH.out.1
  · repeat refine below_set (by omega) ?_
    exact HH.out.2.2
end Go.Proofs.Ytigpplcecbgmaae
