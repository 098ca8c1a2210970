
import Derived.Test.YtigpplcecbgmaaeApU
namespace Go.Proofs.Ytigpplcecbgmaae
open Go.RowKit Go.Maps
set_option linter.unusedVariables false
set_option linter.unusedSimpArgs false

theorem PartT.row {w : World} {g n k : Nat} {xs : List Tr} (h : PartT w g n xs k) : RowT w g n [] 0 := by
  obtain ⟨cs, h1, h2, -⟩ := h
  exact ⟨cs, h1, by omega, fun i hi => absurd hi (Nat.not_lt_zero _)⟩
theorem PartI.row {w : World} {g n k : Nat} {xs : List Int} (h : PartI w g n xs k) : RowI w g n [] 0 := by
  obtain ⟨cs, h1, h2, -⟩ := h
  exact ⟨cs, h1, by omega, fun i hi => absurd hi (Nat.not_lt_zero _)⟩
theorem PartT.ltV {w : World} {g n k : Nat} {xs : List Tr} (h : PartT w g n xs k) : g < w.heap.size := by
  obtain ⟨cs, h1, -⟩ := h
  exact heap_lt h1
theorem PartI.ltV {w : World} {g n k : Nat} {xs : List Int} (h : PartI w g n xs k) : g < w.heap.size := by
  obtain ⟨cs, h1, -⟩ := h
  exact heap_lt h1
/-- Nothing old has changed but two blocks. -/
structure Only2 (p q : Nat) (w w' : World) : Prop where
  os : w'.os = w.os
  tape : w'.tape = w.tape
  output : w'.output = w.output
  size : w.heap.size ≤ w'.heap.size
  block : ∀ k, k < w.heap.size → k ≠ p → k ≠ q → w'.heap[k]? = w.heap[k]?
theorem Only2.below {p q B : Nat} {w w' : World} (h : Only2 p q w w') (hp : B ≤ p) (hq : B ≤ q) (hB : B ≤ w.heap.size) : Below B w w' :=
  ⟨h.os, h.tape, h.output, h.size, fun k hk => h.block k (by omega) (by omega) (by omega)⟩

set_option maxRecDepth 100000 in
set_option maxHeartbeats 1000000 in
theorem markVersion_only (g c : Nat) (ts : List Tr) (lg nx la : Int) (k0 : Nat) (w : World) (hn : ts.length ≤ 1048576) (h1k : 1 ≤ k0) (h2k : k0 ≤ 10000000) (hp : PartT w g ts.length ts ts.length) :
    Calls Try.prog 17 #[verV (some ⟨g, 0, none⟩) c ts lg nx la, .int .i64 k0] w fun r w' => r = .returned (.int .i64 (k0 + 4 * ts.length : Nat)) ∧ Only g w w' := by
  have hb0 : Below w.heap.size w (w.alloc (.cells #[.slice (some ⟨g, 0, none⟩) ts.length c, .int .i64 lg, .int .i64 nx, .int .i64 la] 39)) := (Below.refl _ _).alloc (Nat.le_refl _) _
  have HM := hd (markRefs_only g c ts.length k0 _ hn h1k h2k (hp.below hb0 hp.ltV).row)
  have HB := hd hb0
  clear hb0 hp
  go_enter Try.func17, Try.ntmps17
  go_wp2_with fail
  refine HM.out.mono ?_
  rintro r w1 ⟨rfl, ho⟩
  go_wp2_with fail
  go_ret
  exact ⟨rfl, (Only.of HB.out).trans ho⟩

set_option maxRecDepth 100000 in
set_option maxHeartbeats 1000000 in
theorem markEdit_only (g1 c1 g2 c2 : Nat) (e : Ed) (k0 : Nat) (w : World) (hn1 : e.ad.length ≤ 1048576) (hn2 : e.dl.length ≤ 1048576) (h1k : 1 ≤ k0) (h2k : k0 ≤ 10000000) (hp : PartT w g1 e.ad.length e.ad e.ad.length) (hq : PartI w g2 e.dl.length e.dl e.dl.length) :
    Calls Try.prog 8 #[edV (some ⟨g1, 0, none⟩) c1 (some ⟨g2, 0, none⟩) c2 e, .int .i64 k0] w fun r w' => r = .returned (.int .i64 (k0 + 4 * e.ad.length + e.dl.length : Nat)) ∧ Only2 g1 g2 w w' := by
  obtain ⟨xs, ks, lg, nx, la⟩ := e
  dsimp only at *
  have hg1 := hp.ltV
  have hg2 := hq.ltV
  have hne : g1 ≠ g2 := fun h => by
    subst h
    obtain ⟨cs, h1, -⟩ := hp
    obtain ⟨cs', h2, -⟩ := hq
    rw [h1] at h2
    injection h2 with h2
    injection h2 with _ h2 _
    exact absurd h2 (by decide)
  generalize hW0 : w.alloc (.cells #[.slice (some ⟨g1, 0, none⟩) xs.length c1, .slice (some ⟨g2, 0, none⟩) ks.length c2, .int .i64 lg, .int .i64 nx, .int .i64 la] 25) = W0
  have hP0 : W0.heap[w.heap.size]? = some (.cells #[.slice (some ⟨g1, 0, none⟩) xs.length c1, .slice (some ⟨g2, 0, none⟩) ks.length c2, .int .i64 lg, .int .i64 nx, .int .i64 la] 25 (0, 0)) := by rw [← hW0]; exact World.heap_alloc_new _ _
  have hb0 : Below w.heap.size w W0 := by rw [← hW0]; exact (Below.refl _ _).alloc (Nat.le_refl _) _
  have hs0 : W0.heap.size = w.heap.size + 1 := by rw [← hW0]; simp
  have HM := hd (markRefs_only g1 c1 xs.length k0 W0 hn1 h1k h2k (hp.below hb0 hg1).row)
  have HQ := hd (hq.below hb0 hg2)
  obtain ⟨p0, p1, p2, p3, p4⟩ := five_cells hP0
  have HB := hd hb0
  clear hb0 hp hq
  go_enter Try.func8, Try.ntmps8
  go_wp2_with fail
  refine HM.out.mono ?_
  rintro r w1 ⟨rfl, ho1⟩
  have hs1 := ho1.size
  have hP1 := (ho1.block w.heap.size (by omega) (by omega)).trans hP0
  have hQ1 : RowI w1 g2 ks.length [] 0 := by
    obtain ⟨cs, h1, h2, -⟩ := HQ.out
    exact ⟨cs, (ho1.block g2 (by omega) (fun h => hne h.symm)).trans h1, by omega, fun i hi => absurd hi (Nat.not_lt_zero _)⟩
  have HM2 := hd (markInts_only g2 c2 ks.length (k0 + 4 * xs.length) w1 hn2 (by omega) hQ1)
  have q0 : ((k0 + 4 * xs.length : Nat) : Int) = (k0 : Int) + 4 * (xs.length : Int) := by omega
  rw [q0] at HM2 ⊢
  clear p0 p1 p2 p3 p4 hQ1
  obtain ⟨p0, p1, p2, p3, p4⟩ := five_cells hP1
  have hl := heap_lt hP1
  have HO := hd ho1
  clear ho1 hP1 hP0
  go_wp2_with fail
  refine HM2.out.mono ?_
  rintro r w2 ⟨rfl, ho2⟩
  go_wp2_with fail
  go_ret
  refine ⟨rfl, ⟨(ho2.os.trans HO.out.os).trans HB.out.os, (ho2.tape.trans HO.out.tape).trans HB.out.tape, (ho2.output.trans HO.out.output).trans HB.out.output, by have := ho2.size; omega, fun k hk h1 h2 => ?_⟩⟩
  exact ((ho2.block k (by omega) h2).trans (HO.out.block k (by omega) h1)).trans (HB.out.block k hk)

set_option maxRecDepth 100000 in
set_option maxHeartbeats 1000000 in
theorem markVersion_any (a : Option Addr) (c base : Nat) (ts : List Tr) (lg nx la : Int) (w : World) (hr : ResT w base a ts) (hn : ts.length ≤ 1000) (hbase : base ≤ w.heap.size) :
    Calls Try.prog 17 #[verV a c ts lg nx la, .int .i64 1] w fun r w' => r = .returned (.int .i64 (1 + 4 * ts.length : Nat)) ∧ ResT w' base a (mkT ts.length) ∧ Below base w w' ∧ (∀ (k : Nat) (o : Obj), w.heap[k]? = some o → (∀ cs fz, o ≠ Obj.cells cs 54 fz) → w'.heap[k]? = some o) := by
  have hb0 : Below w.heap.size w (w.alloc (.cells #[.slice a ts.length c, .int .i64 lg, .int .i64 nx, .int .i64 la] 39)) := (Below.refl _ _).alloc (Nat.le_refl _) _
  have HM := hd (markRefs_any a c base ts _ (hr.below hb0) hn (by have := hb0.size; omega))
  have HB := hd hb0
  clear hb0 hr
  go_enter Try.func17, Try.ntmps17
  go_wp2_with fail
  refine HM.out.mono ?_
  rintro r w1 ⟨rfl, hr1, hb1, hk1⟩
  go_wp2_with fail
  go_ret
  exact ⟨rfl, hr1, (HB.out.mono hbase).trans hb1, fun k o h hne => hk1 k o ((HB.out.block k (heap_lt h)).trans h) hne⟩

set_option maxRecDepth 100000 in
set_option maxHeartbeats 1000000 in
theorem heldVersion_any (a : Option Addr) (c : Nat) (ts : List Tr) (lg nx la : Int) (w : World) (hx : LieT w a (mkT ts.length)) (hn : ts.length ≤ 1000) :
    Calls Try.prog 18 #[verV a c ts lg nx la, .int .i64 1] w fun r w' => r = .returned (.int .i64 (1 + 4 * ts.length : Nat)) ∧ Below w.heap.size w w' := by
  have hb0 : Below w.heap.size w (w.alloc (.cells #[.slice a ts.length c, .int .i64 lg, .int .i64 nx, .int .i64 la] 39)) := (Below.refl _ _).alloc (Nat.le_refl _) _
  have HM := hd (heldRefs_row a c ts.length _ hn (hx.below hb0))
  have HB := hd hb0
  have q1 : ¬ ((1 + 4 * ts.length : Nat) : Int) < 0 := by omega
  generalize ((1 + 4 * ts.length : Nat) : Int) = MM at *
  clear hb0 hx
  go_enter Try.func18, Try.ntmps18
  go_wp2_with fail
  refine HM.out.mono ?_
  rintro r w1 ⟨rfl, hb1⟩
  go_wp2_with fail
  go_ret
  exact ⟨rfl, HB.out.trans (hb1.mono HB.out.size)⟩
end Go.Proofs.Ytigpplcecbgmaae
