
import Derived.Test.YtigpplcecbgmaaeApV
import Derived.Deep.RegionHeld3
namespace Go.Proofs.Ytigpplcecbgmaae
open Go.RowKit Go.Maps
set_option linter.unusedVariables false
set_option linter.unusedSimpArgs false

/-- Four stores into a box. -/
theorem store4 {W : World} {B : Nat} {z0 z1 z2 z3 : Value} {t : TypeId} (h : W.heap[B]? = some (.cells #[z0, z1, z2, z3] t (0, 0))) (x0 x1 x2 x3 : Value) : ((((W.setCell ⟨B, 0, none⟩ x0).setCell ⟨B, 1, none⟩ x1).setCell ⟨B, 2, none⟩ x2).setCell ⟨B, 3, none⟩ x3).heap[B]? = some (.cells #[x0, x1, x2, x3] t (0, 0)) := by
  have h1 := heap_setCell_same W B 0 _ _ x0 h
  have h2 := heap_setCell_same _ B 1 _ _ x1 h1
  have h3 := heap_setCell_same _ B 2 _ _ x2 h2
  have h4 := heap_setCell_same _ B 3 _ _ x3 h3
  rw [h4]
  rfl
theorem ResT.set1 {W : World} {B base o : Nat} {a : Option Addr} {xs : List Tr} (h : ResT W base a xs) {cs : Array Value} {t : TypeId} (hb : W.heap[B]? = some (.cells cs t (0, 0))) (ht : t ≠ 54) (v : Value) : ResT (W.setCell ⟨B, o, none⟩ v) base a xs := by
  rcases h with h | ⟨g, rfl, hg, hr⟩
  · exact .inl h
  · refine .inr ⟨g, rfl, hg, hr.block ?_⟩
    refine Below.heap_setCell _ _ _ _ fun e => ?_
    obtain ⟨cs', h1, -⟩ := hr
    dsimp only at e
    subst e
    rw [hb] at h1
    injection h1 with h1
    injection h1 with _ h1 _
    exact ht h1
theorem ResT.set4 {W : World} {B base : Nat} {a : Option Addr} {xs : List Tr} (h : ResT W base a xs) {z0 z1 z2 z3 : Value} {t : TypeId} (hb : W.heap[B]? = some (.cells #[z0, z1, z2, z3] t (0, 0))) (ht : t ≠ 54) (x0 x1 x2 x3 : Value) : ResT ((((W.setCell ⟨B, 0, none⟩ x0).setCell ⟨B, 1, none⟩ x1).setCell ⟨B, 2, none⟩ x2).setCell ⟨B, 3, none⟩ x3) base a xs := by
  have h1 := heap_setCell_same W B 0 _ _ x0 hb
  have h2 := heap_setCell_same _ B 1 _ _ x1 h1
  have h3 := heap_setCell_same _ B 2 _ _ x2 h2
  exact (((h.set1 hb ht x0).set1 h1 ht x1).set1 h2 ht x2).set1 h3 ht x3

set_option maxRecDepth 100000 in
set_option maxHeartbeats 8000000 in
theorem lawAp_any (a : Option Addr) (ca : Nat) (ts : List Tr) (lg0 nx0 la0 : Int) (b : Option Addr) (cb : Nat) (d : Option Addr) (cd : Nat) (e : Ed) (w : World) (ht : LieT w a ts) (hft : FitsT ts) (hx : LieT w b e.ad) (hf : FitsT e.ad) (hy : LieI w d e.dl) (hwt : ∀ t ∈ ts, wfI t.nu) (hwk : ∀ x ∈ e.dl, wfI x) (hwa : ∀ t ∈ e.ad, wfI t.nu) (hn0 : ts.length ≤ maxLen) (hn1 : e.ad.length ≤ maxLen) (hn2 : e.dl.length ≤ maxLen) :
    Calls Try.prog 4 #[verV a ca ts lg0 nx0 la0, edV b cb d cd e] w fun r w' => r = .returned (.bool true) ∧ Below w.heap.size w w' := by
  have HSV := hd (fun (w : World) (h : LieT w a ts) => szVersion_any a ca ts lg0 nx0 la0 1048576 w h hft hn0 (by omega) (by omega))
  have HSE := hd (fun (l : Int) (w : World) (h : LieT w b e.ad) (l0 : 0 ≤ l) (l1 : l ≤ 1048576) => szEdit_any b cb d cd e l w h hf hn1 hn2 l0 l1)
  have HTV := hd (fun (w : World) (h : LieT w a ts) (hl : ts.length ≤ 1048576) => toVersion_any a ca ts lg0 nx0 la0 w h hl)
  have HTE := hd (fun (w : World) (h : LieT w b e.ad) (h' : LieI w d e.dl) (h1 : e.ad.length ≤ 1048576) (h2 : e.dl.length ≤ 1048576) => toEdit_any b cb d cd e w h h' h1 h2)
  have HSP := hd (fun (g g1 g2 : Nat) (w : World) (h0 : LieT w (some ⟨g, 0, none⟩) ts) (h1 : LieT w (some ⟨g1, 0, none⟩) e.ad) (h2 : LieI w (some ⟨g2, 0, none⟩) e.dl) (l0 : ts.length ≤ 1048576) (l1 : e.ad.length ≤ 1048576) (l2 : e.dl.length ≤ 1048576) => specAp_any (some ⟨g, 0, none⟩) ts.length ts lg0 nx0 la0 (some ⟨g1, 0, none⟩) e.ad.length (some ⟨g2, 0, none⟩) e.dl.length e w h0 hft h1 hf h2 l0 l1 l2)
  have HIM := hd (fun (g g1 g2 : Nat) (w : World) (h0 : LieT w (some ⟨g, 0, none⟩) ts) (h1 : LieT w (some ⟨g1, 0, none⟩) e.ad) (h2 : LieI w (some ⟨g2, 0, none⟩) e.dl) (l0 : ts.length ≤ 1048576) (l1 : e.ad.length ≤ 1048576) (l2 : e.dl.length ≤ 1048576) => implAp_any (some ⟨g, 0, none⟩) ts.length ts lg0 nx0 la0 (some ⟨g1, 0, none⟩) e.ad.length (some ⟨g2, 0, none⟩) e.dl.length e w h0 hft h1 hf h2 hwt hwk hwa l0 l1 l2)
  have HLn : Hid ((apL ts e).length ≤ 1000) := by
    show _ ≤ _
    unfold apL
    by_cases h : apOk ts e = true
    · rw [if_pos h]; exact ((apOk_iff ts e).1 h).2.2.2.2.1
    · rw [if_neg h]; exact Nat.zero_le _
  generalize apL ts e = RL at *
  generalize apOk ts e = R at *
  generalize apI ts e e.lg = R2 at *
  generalize apI ts e e.nx = R3 at *
  generalize apI ts e e.la = R4 at *
  generalize hW0 : (w.alloc (.cells #[.slice a ts.length ca, .int .i64 lg0, .int .i64 nx0, .int .i64 la0] 33)).alloc (.cells #[.slice b e.ad.length cb, .slice d e.dl.length cd, .int .i64 e.lg, .int .i64 e.nx, .int .i64 e.la] 35) = W0
  have hP0 : W0.heap[w.heap.size]? = some (.cells #[.slice a ts.length ca, .int .i64 lg0, .int .i64 nx0, .int .i64 la0] 33 (0, 0)) := by rw [← hW0, Below.heap_alloc _ _ _ (by simp)]; exact World.heap_alloc_new _ _
  have hE0 : W0.heap[w.heap.size + 1]? = some (.cells #[.slice b e.ad.length cb, .slice d e.dl.length cd, .int .i64 e.lg, .int .i64 e.nx, .int .i64 e.la] 35 (0, 0)) := by
    rw [← hW0]
    have h := World.heap_alloc_new (w.alloc (.cells #[.slice a ts.length ca, .int .i64 lg0, .int .i64 nx0, .int .i64 la0] 33)) (.cells #[.slice b e.ad.length cb, .slice d e.dl.length cd, .int .i64 e.lg, .int .i64 e.nx, .int .i64 e.la] 35)
    rwa [size_alloc] at h
  have hb0 : Below w.heap.size w W0 := by rw [← hW0]; exact ((Below.refl _ _).alloc (Nat.le_refl _) _).alloc (by simp) _
  have hs0 : W0.heap.size = w.heap.size + 2 := by rw [← hW0]; simp
  obtain ⟨p0, p1, p2, p3⟩ := four_cells hP0
  obtain ⟨q0, q1, q2, q3, q4⟩ := five_cells hE0
  go_enter Try.func4, Try.ntmps4
  go_wp2_with fail
  clear hW0
  refine (HSV.out _ (ht.below hb0)).mono ?_
  rintro r w1 ⟨⟨x, rfl, hr2⟩, hb1⟩
  have hs1 := hb1.size
  have hP1 := (hb1.block w.heap.size (by omega)).trans hP0
  have hE1 := (hb1.block (w.heap.size + 1) (by omega)).trans hE0
  have hbw1 := hb0.trans (hb1.mono hb0.size)
  clear p0 p1 p2 p3 q0 q1 q2 q3 q4 hP0 hE0 hb1 hb0
  obtain ⟨p0, p1, p2, p3⟩ := four_cells hP1
  obtain ⟨q0, q1, q2, q3, q4⟩ := five_cells hE1
  have hlp := heap_lt hP1
  have hle := heap_lt hE1
  rcases hr2 with rfl | ⟨hx0, hx1, hl0⟩
  · go_wp2_with fail
    go_ret
    exact ⟨rfl, hbw1⟩
  · have hxn : ¬ x < 0 := by omega
    go_wp2_with fail
    refine (HSE.out x _ (hx.below hbw1) hx0 hx1).mono ?_
    rintro r w2 ⟨⟨y, rfl, hr2⟩, hb2⟩
    have hs2 := hb2.size
    have hP2 := (hb2.block w.heap.size (by omega)).trans hP1
    have hE2 := (hb2.block (w.heap.size + 1) (by omega)).trans hE1
    have hbw2 := hbw1.trans (hb2.mono hbw1.size)
    clear p0 p1 p2 p3 q0 q1 q2 q3 q4 hP1 hE1 hb2 hbw1 hlp hle
    obtain ⟨p0, p1, p2, p3⟩ := four_cells hP2
    obtain ⟨q0, q1, q2, q3, q4⟩ := five_cells hE2
    have hlp := heap_lt hP2
    have hle := heap_lt hE2
    rcases hr2 with rfl | ⟨hy0, hl1, hl2⟩
    · go_wp2_with fail
      go_ret
      exact ⟨rfl, hbw2⟩
    · have hyn : ¬ y < 0 := by omega
      have HBs8 := hd hbw2
      have HPs8 := hd hP2
      have HEs8 := hd hE2
      clear hbw2 hP2 hE2
      go_wp2_with fail
      refine Code.wp_mono (Q := fun ex a' w' => ex = .normal ∧ ∃ (g0 g1 g2 B5 : Nat) (a5 : Option Addr) (c5 : Nat), Below w2.heap.size w2 w' ∧ w2.heap.size ≤ B5 ∧ w'.heap[B5]? = some (.cells #[.slice a5 RL.length c5, .int .i64 R2, .int .i64 R3, .int .i64 R4] 39 (0, 0)) ∧ ResT w' w2.heap.size a5 RL ∧ a' = { tmps := #[verV a ca ts lg0 nx0 la0, edV b cb d cd e, .pointer (some ⟨w.heap.size, 0, none⟩), .pointer (some ⟨w.heap.size + 1, 0, none⟩), .bool false, .int .i64 y, .pointer (some ⟨B5, 0, none⟩), .bool R, undef, undef, undef, undef, undef, undef, undef, undef, undef, .agg #[.slice a ts.length ca, .int .i64 lg0, .int .i64 nx0, .int .i64 la0], .int .i64 1048576, .int .i64 x, .int .i64 x, .bool (decide (x < 0)), .agg #[.slice b e.ad.length cb, .slice d e.dl.length cd, .int .i64 e.lg, .int .i64 e.nx, .int .i64 e.la], .int .i64 x, .int .i64 y, .int .i64 y, .bool (decide (y < 0)), .tuple #[.agg #[.slice a5 RL.length c5, .int .i64 R2, .int .i64 R3, .int .i64 R4], .bool R], .agg #[.slice a ts.length ca, .int .i64 lg0, .int .i64 nx0, .int .i64 la0], verV (some ⟨g0, 0, none⟩) ts.length ts lg0 nx0 la0, .agg #[.slice b e.ad.length cb, .slice d e.dl.length cd, .int .i64 e.lg, .int .i64 e.nx, .int .i64 e.la], edV (some ⟨g1, 0, none⟩) e.ad.length (some ⟨g2, 0, none⟩) e.dl.length e, .tuple #[.agg #[.slice a5 RL.length c5, .int .i64 R2, .int .i64 R3, .int .i64 R4], .bool R], .agg #[.slice a5 RL.length c5, .int .i64 R2, .int .i64 R3, .int .i64 R4], .bool R, undef, undef, undef, undef, undef, undef, undef, undef, undef, undef, undef, undef, undef, undef, undef, undef, undef, undef, undef, undef, undef, undef, undef, undef, undef, undef, undef, undef, undef, undef, undef, undef, undef, undef, undef, undef, undef, undef, undef, undef, undef, undef, undef, undef, undef, undef, undef, undef, undef, undef, undef, undef, undef, undef, undef, undef, undef, undef, undef, undef, undef, undef, undef, undef, undef, undef, undef, undef, undef, undef, undef, undef, undef, undef, undef, undef], defers := [] }) ?cont ?reg
      case reg =>
        go_region_held3 (fun w' => w'.cell? ⟨w.heap.size, 0, none⟩ = some (.slice a ts.length ca) ∧ w'.cell? ⟨w.heap.size, 1, none⟩ = some (.int .i64 lg0) ∧ w'.cell? ⟨w.heap.size, 2, none⟩ = some (.int .i64 nx0) ∧ w'.cell? ⟨w.heap.size, 3, none⟩ = some (.int .i64 la0) ∧ w'.cell? ⟨w.heap.size + 1, 0, none⟩ = some (.slice b e.ad.length cb) ∧ w'.cell? ⟨w.heap.size + 1, 1, none⟩ = some (.slice d e.dl.length cd) ∧ w'.cell? ⟨w.heap.size + 1, 2, none⟩ = some (.int .i64 e.lg) ∧ w'.cell? ⟨w.heap.size + 1, 3, none⟩ = some (.int .i64 e.nx) ∧ w'.cell? ⟨w.heap.size + 1, 4, none⟩ = some (.int .i64 e.la)) (simp [go_sem, *])
          (first
            | (go_at_call 13
               refine (HTV.out _ (ht.below (by first | exact HBs8.out.drew | exact HBs8.out.drew.alloc HBs8.out.size _)) hl0).mono ?_
               rintro r w3 ⟨g0, rfl, hg0, hp3, hb3⟩
               have HB3 : Hid (Below w2.heap.size w2 w3) := by
                 show Below _ _ _
                 first | exact (Below.refl w2.heap.size w2).drew.trans hb3 | exact ((Below.refl w2.heap.size w2).drew.alloc (Nat.le_refl _) _).trans (hb3.mono (by simp))
               first
                 | (have HZ : Hid (w3.heap[w2.heap.size]? = some (.cells #[.slice none 0 0, .int .i64 0, .int .i64 0, .int .i64 0] 39 (0, 0))) := by
                      exact (hb3.block w2.heap.size (by simp)).trans (World.heap_alloc_new w2.drew _)
                    obtain ⟨zc0, zc1, zc2, zc3⟩ := four_cells HZ.out
                    obtain ⟨zf0, zf1, zf2, zf3⟩ := four_freeN HZ.out
                    have hzl := heap_lt HZ.out)
                 | skip
               have HG3 := hd hp3
               obtain ⟨k0, k1, k2, k3⟩ := four_cells ((HB3.out.block w.heap.size hlp).trans HPs8.out)
               obtain ⟨m0, m1, m2, m3, m4⟩ := five_cells ((HB3.out.block (w.heap.size + 1) hle).trans HEs8.out)
               have hlp3 := Nat.lt_of_lt_of_le hlp HB3.out.size
               have hle3 := Nat.lt_of_lt_of_le hle HB3.out.size
               have hs3 := HB3.out.size
               clear hp3 hb3)
            | (go_at_call 14
               refine (HTE.out _ (by first | exact hx.below (HBs8.out.trans (HB3.out.mono HBs8.out.size)) | exact hx.below ((HBs8.out.trans (HB3.out.mono HBs8.out.size)).alloc (Nat.le_trans HBs8.out.size HB3.out.size) _)) (by first | exact hy.below (HBs8.out.trans (HB3.out.mono HBs8.out.size)) | exact hy.below ((HBs8.out.trans (HB3.out.mono HBs8.out.size)).alloc (Nat.le_trans HBs8.out.size HB3.out.size) _)) hl1 hl2).mono ?_
               rintro r w4 ⟨g1, g2, rfl, hg1, hg2, hp4, hq4, hb4⟩
               have HB34 : Hid (Below w3.heap.size w3 w4) := by
                 show Below _ _ _
                 first | exact hb4 | exact ((Below.refl w3.heap.size w3).alloc (Nat.le_refl _) _).trans (hb4.mono (by simp))
               have HB4 : Hid (Below w2.heap.size w2 w4) := HB3.out.trans (HB34.out.mono hs3)
               first
                 | (have HZ4 := hd ((HB34.out.block w2.heap.size hzl).trans HZ.out)
                    obtain ⟨yc0, yc1, yc2, yc3⟩ := four_cells HZ4.out
                    obtain ⟨yf0, yf1, yf2, yf3⟩ := four_freeN HZ4.out
                    have hyl := heap_lt HZ4.out)
                 | (have HY : Hid (w4.heap[w3.heap.size]? = some (.cells #[.slice none 0 0, .int .i64 0, .int .i64 0, .int .i64 0] 39 (0, 0))) := by
                      exact (hb4.block w3.heap.size (by simp)).trans (World.heap_alloc_new w3 _)
                    obtain ⟨yc0, yc1, yc2, yc3⟩ := four_cells HY.out
                    obtain ⟨yf0, yf1, yf2, yf3⟩ := four_freeN HY.out
                    have hyl := heap_lt HY.out)
                 | skip
               have HG4 := hd (HG3.out.below HB34.out HG3.out.ltV)
               have HH4 := hd hp4
               have HI4 := hd hq4
               obtain ⟨i0, i1, i2, i3⟩ := four_cells ((HB4.out.block w.heap.size hlp).trans HPs8.out)
               obtain ⟨j0, j1, j2, j3, j4⟩ := five_cells ((HB4.out.block (w.heap.size + 1) hle).trans HEs8.out)
               have hlp4 := Nat.lt_of_lt_of_le hlp HB4.out.size
               have hle4 := Nat.lt_of_lt_of_le hle HB4.out.size
               have hs4 := HB4.out.size
               have hs34 := HB34.out.size
               clear hp4 hq4 hb4)
            | (go_at_call 12
               refine (HSP.out g0 g1 g2 _ (by first | exact HG4.out.lie | exact HG4.out.lie.below ((Below.refl _ _).alloc (Nat.le_refl _) _)) (by first | exact HH4.out.lie | exact HH4.out.lie.below ((Below.refl _ _).alloc (Nat.le_refl _) _)) (by first | exact HI4.out.lie | exact HI4.out.lie.below ((Below.refl _ _).alloc (Nat.le_refl _) _)) hl0 hl1 hl2).mono ?_
               rintro r w5 ⟨a5, c5, rfl, hr5, hb5⟩
               have HB45 : Hid (Below w4.heap.size w4 w5) := by
                 show Below _ _ _
                 first | exact hb5 | exact ((Below.refl w4.heap.size w4).alloc (Nat.le_refl _) _).trans (hb5.mono (by simp))
               have HB5 : Hid (Below w2.heap.size w2 w5) := HB4.out.trans (HB45.out.mono hs4)
               have HR5 : Hid (ResT w5 w2.heap.size a5 RL) := by
                 show ResT _ _ _ _
                 exact hr5.wideN (by first | exact hs4 | (simp; omega))
               first
                 | (have HZ5 := hd ((HB45.out.block w2.heap.size hyl).trans HZ4.out)
                    obtain ⟨xc0, xc1, xc2, xc3⟩ := four_cells HZ5.out
                    obtain ⟨xf0, xf1, xf2, xf3⟩ := four_freeN HZ5.out)
                 | (have HZ5 := hd ((HB45.out.block w3.heap.size hyl).trans HY.out)
                    obtain ⟨xc0, xc1, xc2, xc3⟩ := four_cells HZ5.out
                    obtain ⟨xf0, xf1, xf2, xf3⟩ := four_freeN HZ5.out)
                 | (have HZ5 : Hid (w5.heap[w4.heap.size]? = some (.cells #[.slice none 0 0, .int .i64 0, .int .i64 0, .int .i64 0] 39 (0, 0))) := by
                      exact (hb5.block w4.heap.size (by simp)).trans (World.heap_alloc_new w4 _)
                    obtain ⟨xc0, xc1, xc2, xc3⟩ := four_cells HZ5.out
                    obtain ⟨xf0, xf1, xf2, xf3⟩ := four_freeN HZ5.out)
                 | skip
               obtain ⟨s0, s1, s2, s3⟩ := four_cells ((HB5.out.block w.heap.size hlp).trans HPs8.out)
               obtain ⟨t0, t1, t2, t3, t4⟩ := five_cells ((HB5.out.block (w.heap.size + 1) hle).trans HEs8.out)
               have hlp5 := Nat.lt_of_lt_of_le hlp HB5.out.size
               have hle5 := Nat.lt_of_lt_of_le hle HB5.out.size
               have hs5 := HB5.out.size
               clear hr5 hb5))
        all_goals first
          | exact ⟨rfl, g0, g1, g2, w5.heap.size, a5, c5, HB5.out.alloc hs5 _, hs5, World.heap_alloc_new _ _, HR5.out.below ((Below.refl _ _).alloc (Nat.le_refl _) _), rfl⟩
          | exact ⟨rfl, g0, g1, g2, _, a5, c5, below_setN hs3 (below_setN hs3 (below_setN hs3 (below_setN hs3 HB5.out))), hs3, store4 HZ5.out _ _ _ _, ResT.set4 HR5.out HZ5.out (by decide) _ _ _ _, rfl⟩
          | exact ⟨rfl, g0, g1, g2, _, a5, c5, below_setN hs4 (below_setN hs4 (below_setN hs4 (below_setN hs4 HB5.out))), hs4, store4 HZ5.out _ _ _ _, ResT.set4 HR5.out HZ5.out (by decide) _ _ _ _, rfl⟩
          | exact ⟨rfl, g0, g1, g2, _, a5, c5, below_setN (Nat.le_refl _) (below_setN (Nat.le_refl _) (below_setN (Nat.le_refl _) (below_setN (Nat.le_refl _) HB5.out))), Nat.le_refl _, store4 HZ5.out _ _ _ _, ResT.set4 HR5.out HZ5.out (by decide) _ _ _ _, rfl⟩
      case cont =>
        rintro ex a' w6 ⟨rfl, g0, g1, g2, B6, a5, c5, hb6, hB6, hX6, hr6, rfl⟩
        dsimp only [Exit.then]
        have hs6 := hb6.size
        have HP6 := hd ((hb6.block w.heap.size hlp).trans HPs8.out)
        have HE6 := hd ((hb6.block (w.heap.size + 1) hle).trans HEs8.out)
        have HB6 := hd (HBs8.out.trans (hb6.mono HBs8.out.size))
        have HX6 := hd hX6
        have HR6 := hd hr6
        have hB6l := heap_lt hX6
        have hlw6 := HB6.out.size
        clear hb6 hX6 hr6 HPs8 HEs8 HBs8 p0 p1 p2 p3 q0 q1 q2 q3 q4 HSV HSE HSP
        obtain ⟨p0, p1, p2, p3⟩ := four_cells HP6.out
        have hlp6 := heap_lt HP6.out
        have hle6 := heap_lt HE6.out
        go_wp2_with fail
        refine (HTV.out _ (ht.below HB6.out) hl0).mono ?_
        rintro r w7 ⟨g3, rfl, hg3, hp7, hb7⟩
        have hs7 := hb7.size
        have hg3l := hp7.ltV
        have hA7 : Below w7.heap.size w7 (w7.alloc (.cells #[.slice (some ⟨g3, 0, none⟩) ts.length ts.length, .int .i64 lg0, .int .i64 nx0, .int .i64 la0] 39)) := (Below.refl _ _).alloc (Nat.le_refl _) _
        have hX8 : (w7.alloc (.cells #[.slice (some ⟨g3, 0, none⟩) ts.length ts.length, .int .i64 lg0, .int .i64 nx0, .int .i64 la0] 39)).heap[w7.heap.size]? = some (.cells #[.slice (some ⟨g3, 0, none⟩) ts.length ts.length, .int .i64 lg0, .int .i64 nx0, .int .i64 la0] 39 (0, 0)) := World.heap_alloc_new _ _
        have hs8 : (w7.alloc (.cells #[.slice (some ⟨g3, 0, none⟩) ts.length ts.length, .int .i64 lg0, .int .i64 nx0, .int .i64 la0] 39)).heap.size = w7.heap.size + 1 := by simp
        have hE7 := hd ((hb7.block (w.heap.size + 1) hle6).trans HE6.out)
        clear p0 p1 p2 p3
        obtain ⟨q0, q1, q2, q3, q4⟩ := five_cells hE7.out
        have hle7 := heap_lt hE7.out
        have HB67 := hd hb7
        have HG7 := hd hp7
        have HA7 := hd hA7
        have HX8 := hd hX8
        clear hb7 hp7 hA7 hX8
        go_wp2_with fail
        generalize w7.alloc (.cells #[.slice (some ⟨g3, 0, none⟩) ts.length ts.length, .int .i64 lg0, .int .i64 nx0, .int .i64 la0] 39) = w8 at *
        have hb68 : Below w6.heap.size w6 w8 := HB67.out.trans (HA7.out.mono hs7)
        have hbw8 : Below w.heap.size w w8 := HB6.out.trans (hb68.mono hlw6)
        refine (HTE.out _ (hx.below hbw8) (hy.below hbw8) hl1 hl2).mono ?_
        rintro r w9 ⟨g4, g5, rfl, hg4, hg5, hp9, hq9, hb9⟩
        have hs9 := hb9.size
        have hg4l := hp9.ltV
        have hg5l := hq9.ltV
        have hX9 := hd ((hb9.block w7.heap.size (by omega)).trans HX8.out)
        have HB69 := hd (hb68.trans (hb9.mono (by omega)))
        have HG9 := hd ((HG7.out.below HA7.out hg3l).below hb9 (by omega))
        have HH9 := hd hp9
        have HI9 := hd hq9
        have hA9 : Below w9.heap.size w9 (w9.alloc (.cells #[.slice (some ⟨g4, 0, none⟩) e.ad.length e.ad.length, .slice (some ⟨g5, 0, none⟩) e.dl.length e.dl.length, .int .i64 e.lg, .int .i64 e.nx, .int .i64 e.la] 25)) := (Below.refl _ _).alloc (Nat.le_refl _) _
        have hX10 : (w9.alloc (.cells #[.slice (some ⟨g4, 0, none⟩) e.ad.length e.ad.length, .slice (some ⟨g5, 0, none⟩) e.dl.length e.dl.length, .int .i64 e.lg, .int .i64 e.nx, .int .i64 e.la] 25)).heap[w9.heap.size]? = some (.cells #[.slice (some ⟨g4, 0, none⟩) e.ad.length e.ad.length, .slice (some ⟨g5, 0, none⟩) e.dl.length e.dl.length, .int .i64 e.lg, .int .i64 e.nx, .int .i64 e.la] 25 (0, 0)) := World.heap_alloc_new _ _
        have hs10 : (w9.alloc (.cells #[.slice (some ⟨g4, 0, none⟩) e.ad.length e.ad.length, .slice (some ⟨g5, 0, none⟩) e.dl.length e.dl.length, .int .i64 e.lg, .int .i64 e.nx, .int .i64 e.la] 25)).heap.size = w9.heap.size + 1 := by simp
        have HA9 := hd hA9
        have HX10 := hd hX10
        have hl79 : w7.heap.size < w9.heap.size := by omega
        clear q0 q1 q2 q3 q4 hp9 hq9 hb9 hb68 hbw8 hA9 hX10 HB67 HG7 HA7 HX8
        obtain ⟨p0, p1, p2, p3⟩ := four_cells hX9.out
        go_wp2_with fail
        generalize w9.alloc (.cells #[.slice (some ⟨g4, 0, none⟩) e.ad.length e.ad.length, .slice (some ⟨g5, 0, none⟩) e.dl.length e.dl.length, .int .i64 e.lg, .int .i64 e.nx, .int .i64 e.la] 25) = w10 at *
        have HB610 := hd (HB69.out.trans (HA9.out.mono (by omega)))
        have HX8' := hd ((HA9.out.block w7.heap.size hl79).trans hX9.out)
        have HG10 := hd (HG9.out.below HA9.out (by omega))
        have HH10 := hd (HH9.out.below HA9.out hg4l)
        have HI10 := hd (HI9.out.below HA9.out hg5l)
        refine (HIM.out g3 g4 g5 _ HG10.out.lie HH10.out.lie HI10.out.lie hl0 hl1 hl2).mono ?_
        rintro r w11 ⟨a6, c6, rfl, hr11, hb11⟩
        have hs11 := hb11.size
        have HB11 := hd hb11
        have HR11 := hd hr11
        have HB611 := hd (HB610.out.trans (hb11.mono (by omega)))
        have hX6 := hd ((HB611.out.block B6 hB6l).trans HX6.out)
        have hA11 : Below w11.heap.size w11 (w11.alloc (.cells #[.slice a6 RL.length c6, .int .i64 R2, .int .i64 R3, .int .i64 R4] 39)) := (Below.refl _ _).alloc (Nat.le_refl _) _
        have hX12 : (w11.alloc (.cells #[.slice a6 RL.length c6, .int .i64 R2, .int .i64 R3, .int .i64 R4] 39)).heap[w11.heap.size]? = some (.cells #[.slice a6 RL.length c6, .int .i64 R2, .int .i64 R3, .int .i64 R4] 39 (0, 0)) := World.heap_alloc_new _ _
        have hs12 : (w11.alloc (.cells #[.slice a6 RL.length c6, .int .i64 R2, .int .i64 R3, .int .i64 R4] 39)).heap.size = w11.heap.size + 1 := by simp
        have HA11 := hd hA11
        have HX12 := hd hX12
        have hlB6 : B6 < w11.heap.size := by omega
        clear p0 p1 p2 p3 hb11 hr11 hA11 hX12 HB69 hX9 HG9 HH9 HI9 HA9
        obtain ⟨p0, p1, p2, p3⟩ := four_cells hX6.out
        have hRR : (R != R) = false := by simp
        go_wp2_with fail
        generalize w11.alloc (.cells #[.slice a6 RL.length c6, .int .i64 R2, .int .i64 R3, .int .i64 R4] 39) = w12 at *
        have HB612 := hd (HB611.out.trans (HA11.out.mono (by omega)))
        refine (eqVersion_same a6 c6 a5 c5 RL R2 R3 R4 w12 (HR11.out.below HA11.out).lie (HR6.out.below HB612.out).lie (by have := HLn.out; omega)).mono ?_
        rintro r w13 ⟨rfl, hb13⟩
        have hs13 := hb13.size
        have HB1213 := hd hb13
        clear hb13 p0 p1 p2 p3
        go_wp2_with fail
        have HB613 := hd (HB612.out.trans (HB1213.out.mono (by omega)))
        have HB1013 := hd ((HB11.out.trans (HA11.out.mono (by omega))).trans (HB1213.out.mono (by omega)))
        have HP13 := hd ((HB613.out.block w.heap.size hlp6).trans HP6.out)
        have HE13 := hd ((HB613.out.block (w.heap.size + 1) hle6).trans HE6.out)
        have HX813 := hd ((HB1013.out.block w7.heap.size (by omega)).trans HX8'.out)
        have HX1013 := hd ((HB1013.out.block w9.heap.size (by omega)).trans HX10.out)
        have HX1213 := hd ((HB1213.out.block w11.heap.size (by omega)).trans HX12.out)
        have HX613 := hd ((HB613.out.block B6 hB6l).trans HX6.out)
        have HBw13 := hd (HB6.out.trans (HB613.out.mono hlw6))
        have HR11_13 := hd ((HR11.out.below HA11.out).below HB1213.out)
        have HG13 := hd (HG10.out.below HB1013.out (by omega))
        have HH13 := hd (HH10.out.below HB1013.out (by omega))
        have HI13 := hd (HI10.out.below HB1013.out (by omega))
        have hlp13 := heap_lt HP13.out
        have hle13 := heap_lt HE13.out
        have hl813 := heap_lt HX813.out
        have hl1013 := heap_lt HX1013.out
        have hl1213 := heap_lt HX1213.out
        have hl613 := heap_lt HX613.out
        clear HP6 HE6 HX6 HX8' HX10 HX12 HR11 HG10 HH10 HI10 hX6 hE7
        refine Code.wp_mono (Q := fun ex a' w' => ex = .normal ∧ ∃ (g6 : Nat), Below w13.heap.size w13 w' ∧ a' = { tmps := #[verV a ca ts lg0 nx0 la0, edV b cb d cd e, Value.pointer (some { block := w.heap.size, off := 0 }), Value.pointer (some { block := w.heap.size + 1, off := 0 }), Value.bool false, Value.int IntKind.i64 y, Value.pointer (some { block := B6, off := 0 }), Value.bool R, Value.pointer (some { block := w7.heap.size, off := 0 }), Value.pointer (some { block := w9.heap.size, off := 0 }), Value.pointer (some { block := w11.heap.size, off := 0 }), Value.bool R, undef, undef, undef, undef, undef, Value.agg #[Value.slice a ts.length ca, Value.int IntKind.i64 lg0, Value.int IntKind.i64 nx0, Value.int IntKind.i64 la0], Value.int IntKind.i64 1048576, Value.int IntKind.i64 x, Value.int IntKind.i64 x, Value.bool (decide (x < 0)), Value.agg #[Value.slice b e.ad.length cb, Value.slice d e.dl.length cd, Value.int IntKind.i64 e.lg, Value.int IntKind.i64 e.nx, Value.int IntKind.i64 e.la], Value.int IntKind.i64 x, Value.int IntKind.i64 y, Value.int IntKind.i64 y, Value.bool (decide (y < 0)), Value.tuple #[Value.agg #[Value.slice a5 RL.length c5, Value.int IntKind.i64 R2, Value.int IntKind.i64 R3, Value.int IntKind.i64 R4], Value.bool R], Value.agg #[Value.slice a ts.length ca, Value.int IntKind.i64 lg0, Value.int IntKind.i64 nx0, Value.int IntKind.i64 la0], verV (some { block := g0, off := 0 }) ts.length ts lg0 nx0 la0, Value.agg #[Value.slice b e.ad.length cb, Value.slice d e.dl.length cd, Value.int IntKind.i64 e.lg, Value.int IntKind.i64 e.nx, Value.int IntKind.i64 e.la], edV (some { block := g1, off := 0 }) e.ad.length (some { block := g2, off := 0 }) e.dl.length e, Value.tuple #[Value.agg #[Value.slice a5 RL.length c5, Value.int IntKind.i64 R2, Value.int IntKind.i64 R3, Value.int IntKind.i64 R4], Value.bool R], Value.agg #[Value.slice a5 RL.length c5, Value.int IntKind.i64 R2, Value.int IntKind.i64 R3, Value.int IntKind.i64 R4], Value.bool R, Value.agg #[Value.slice a ts.length ca, Value.int IntKind.i64 lg0, Value.int IntKind.i64 nx0, Value.int IntKind.i64 la0], verV (some { block := g3, off := 0 }) ts.length ts lg0 nx0 la0, Value.agg #[Value.slice b e.ad.length cb, Value.slice d e.dl.length cd, Value.int IntKind.i64 e.lg, Value.int IntKind.i64 e.nx, Value.int IntKind.i64 e.la], edV (some { block := g4, off := 0 }) e.ad.length (some { block := g5, off := 0 }) e.dl.length e, Value.tuple #[Value.agg #[Value.slice a6 RL.length c6, Value.int IntKind.i64 R2, Value.int IntKind.i64 R3, Value.int IntKind.i64 R4], Value.bool R], Value.agg #[Value.slice (some { block := g3, off := 0 }) ts.length ts.length, Value.int IntKind.i64 lg0, Value.int IntKind.i64 nx0, Value.int IntKind.i64 la0], Value.agg #[Value.slice (some { block := g4, off := 0 }) e.ad.length e.ad.length, Value.slice (some { block := g5, off := 0 }) e.dl.length e.dl.length, Value.int IntKind.i64 e.lg, Value.int IntKind.i64 e.nx, Value.int IntKind.i64 e.la], Value.tuple #[Value.agg #[Value.slice a6 RL.length c6, Value.int IntKind.i64 R2, Value.int IntKind.i64 R3, Value.int IntKind.i64 R4], Value.bool R], Value.agg #[Value.slice a6 RL.length c6, Value.int IntKind.i64 R2, Value.int IntKind.i64 R3, Value.int IntKind.i64 R4], Value.bool R, Value.agg #[Value.slice a6 RL.length c6, Value.int IntKind.i64 R2, Value.int IntKind.i64 R3, Value.int IntKind.i64 R4], Value.agg #[Value.slice a5 RL.length c5, Value.int IntKind.i64 R2, Value.int IntKind.i64 R3, Value.int IntKind.i64 R4], Value.bool true, Value.bool false, Value.bool false, Value.bool R, Value.bool R, Value.bool false, Value.bool false, .agg #[.slice (some ⟨g3, 0, none⟩) ts.length ts.length, .int .i64 lg0, .int .i64 nx0, .int .i64 la0], .agg #[.slice a ts.length ca, .int .i64 lg0, .int .i64 nx0, .int .i64 la0], verV (some ⟨g6, 0, none⟩) ts.length ts lg0 nx0 la0, .bool true, .bool false, undef, undef, undef, undef, undef, undef, undef, undef, undef, undef, undef, undef, undef, undef, undef, undef, undef, undef, undef, undef, undef, undef, undef, undef, undef, undef, undef, undef, undef, undef, undef, undef, undef, undef, undef, undef, undef, undef, undef, undef, undef, undef, undef, undef, undef, undef, undef, undef, undef, undef, undef, undef], defers := [] }) ?cont14 ?reg14
        case reg14 =>
          obtain ⟨p0, p1, p2, p3⟩ := four_cells HP13.out
          obtain ⟨y0, y1, y2, y3⟩ := four_cells HX813.out
          go_region_held3 (fun w' => w'.cell? ⟨w.heap.size, 0, none⟩ = some (.slice a ts.length ca) ∧ w'.cell? ⟨w.heap.size, 1, none⟩ = some (.int .i64 lg0) ∧ w'.cell? ⟨w.heap.size, 2, none⟩ = some (.int .i64 nx0) ∧ w'.cell? ⟨w.heap.size, 3, none⟩ = some (.int .i64 la0) ∧ w'.cell? ⟨w7.heap.size, 0, none⟩ = some (.slice (some ⟨g3, 0, none⟩) ts.length ts.length) ∧ w'.cell? ⟨w7.heap.size, 1, none⟩ = some (.int .i64 lg0) ∧ w'.cell? ⟨w7.heap.size, 2, none⟩ = some (.int .i64 nx0) ∧ w'.cell? ⟨w7.heap.size, 3, none⟩ = some (.int .i64 la0)) (simp [go_sem, *])
            (first
              | (go_at_call 13
                 refine (HTV.out _ (ht.below HBw13.out.drew) hl0).mono ?_
                 rintro r w14 ⟨g6, rfl, hg6, hp14, hb14⟩
                 have HB14 : Hid (Below w13.heap.size w13 w14) := (Below.refl w13.heap.size w13).drew.trans hb14
                 have HU14 := hd hp14.lie
                 obtain ⟨k0, k1, k2, k3⟩ := four_cells ((HB14.out.block w.heap.size hlp13).trans HP13.out)
                 obtain ⟨m0, m1, m2, m3⟩ := four_cells ((HB14.out.block w7.heap.size hl813).trans HX813.out)
                 have hlp14 := Nat.lt_of_lt_of_le hlp13 HB14.out.size
                 have hl814 := Nat.lt_of_lt_of_le hl813 HB14.out.size
                 have hs14 := HB14.out.size
                 clear hp14 hb14)
              | (go_at_call 16
                 refine (eqVersion_same (some ⟨g3, 0, none⟩) ts.length (some ⟨g6, 0, none⟩) ts.length ts lg0 nx0 la0 _ (HG13.out.below HB14.out (by omega)).lie HU14.out hl0).mono ?_
                 rintro r w15 ⟨rfl, hb15⟩
                 have HB15 := hd (HB14.out.trans (hb15.mono hs14))
                 obtain ⟨i0, i1, i2, i3⟩ := four_cells ((HB15.out.block w.heap.size hlp13).trans HP13.out)
                 obtain ⟨j0, j1, j2, j3⟩ := four_cells ((HB15.out.block w7.heap.size hl813).trans HX813.out)
                 have hlp15 := Nat.lt_of_lt_of_le hlp13 HB15.out.size
                 have hl815 := Nat.lt_of_lt_of_le hl813 HB15.out.size
                 clear hb15))
          all_goals exact ⟨rfl, g6, HB15.out, rfl⟩
        case cont14 =>
          rintro ex a' w15 ⟨rfl, g6, hb15, rfl⟩
          dsimp only [Exit.then]
          go_wp2_with fail
          have HB15 := hd hb15
          have hs15 := hb15.size
          have HE15 := hd ((hb15.block (w.heap.size + 1) hle13).trans HE13.out)
          have HX1015 := hd ((hb15.block w9.heap.size hl1013).trans HX1013.out)
          have HBw15 := hd (HBw13.out.trans (hb15.mono HBw13.out.size))
          have HH15 := hd (HH13.out.below hb15 (by omega))
          have HI15 := hd (HI13.out.below hb15 (by omega))
          have hle15 := heap_lt HE15.out
          have hl1015 := heap_lt HX1015.out
          clear hb15
          refine Code.wp_mono (Q := fun ex a' w' => ex = .normal ∧ ∃ (g7 g8 : Nat), Below w15.heap.size w15 w' ∧ a' = { tmps := #[verV a ca ts lg0 nx0 la0, edV b cb d cd e, Value.pointer (some { block := w.heap.size, off := 0 }), Value.pointer (some { block := w.heap.size + 1, off := 0 }), Value.bool false, Value.int IntKind.i64 y, Value.pointer (some { block := B6, off := 0 }), Value.bool R, Value.pointer (some { block := w7.heap.size, off := 0 }), Value.pointer (some { block := w9.heap.size, off := 0 }), Value.pointer (some { block := w11.heap.size, off := 0 }), Value.bool R, undef, undef, undef, undef, undef, Value.agg #[Value.slice a ts.length ca, Value.int IntKind.i64 lg0, Value.int IntKind.i64 nx0, Value.int IntKind.i64 la0], Value.int IntKind.i64 1048576, Value.int IntKind.i64 x, Value.int IntKind.i64 x, Value.bool (decide (x < 0)), Value.agg #[Value.slice b e.ad.length cb, Value.slice d e.dl.length cd, Value.int IntKind.i64 e.lg, Value.int IntKind.i64 e.nx, Value.int IntKind.i64 e.la], Value.int IntKind.i64 x, Value.int IntKind.i64 y, Value.int IntKind.i64 y, Value.bool (decide (y < 0)), Value.tuple #[Value.agg #[Value.slice a5 RL.length c5, Value.int IntKind.i64 R2, Value.int IntKind.i64 R3, Value.int IntKind.i64 R4], Value.bool R], Value.agg #[Value.slice a ts.length ca, Value.int IntKind.i64 lg0, Value.int IntKind.i64 nx0, Value.int IntKind.i64 la0], verV (some { block := g0, off := 0 }) ts.length ts lg0 nx0 la0, Value.agg #[Value.slice b e.ad.length cb, Value.slice d e.dl.length cd, Value.int IntKind.i64 e.lg, Value.int IntKind.i64 e.nx, Value.int IntKind.i64 e.la], edV (some { block := g1, off := 0 }) e.ad.length (some { block := g2, off := 0 }) e.dl.length e, Value.tuple #[Value.agg #[Value.slice a5 RL.length c5, Value.int IntKind.i64 R2, Value.int IntKind.i64 R3, Value.int IntKind.i64 R4], Value.bool R], Value.agg #[Value.slice a5 RL.length c5, Value.int IntKind.i64 R2, Value.int IntKind.i64 R3, Value.int IntKind.i64 R4], Value.bool R, Value.agg #[Value.slice a ts.length ca, Value.int IntKind.i64 lg0, Value.int IntKind.i64 nx0, Value.int IntKind.i64 la0], verV (some { block := g3, off := 0 }) ts.length ts lg0 nx0 la0, Value.agg #[Value.slice b e.ad.length cb, Value.slice d e.dl.length cd, Value.int IntKind.i64 e.lg, Value.int IntKind.i64 e.nx, Value.int IntKind.i64 e.la], edV (some { block := g4, off := 0 }) e.ad.length (some { block := g5, off := 0 }) e.dl.length e, Value.tuple #[Value.agg #[Value.slice a6 RL.length c6, Value.int IntKind.i64 R2, Value.int IntKind.i64 R3, Value.int IntKind.i64 R4], Value.bool R], Value.agg #[Value.slice (some { block := g3, off := 0 }) ts.length ts.length, Value.int IntKind.i64 lg0, Value.int IntKind.i64 nx0, Value.int IntKind.i64 la0], Value.agg #[Value.slice (some { block := g4, off := 0 }) e.ad.length e.ad.length, Value.slice (some { block := g5, off := 0 }) e.dl.length e.dl.length, Value.int IntKind.i64 e.lg, Value.int IntKind.i64 e.nx, Value.int IntKind.i64 e.la], Value.tuple #[Value.agg #[Value.slice a6 RL.length c6, Value.int IntKind.i64 R2, Value.int IntKind.i64 R3, Value.int IntKind.i64 R4], Value.bool R], Value.agg #[Value.slice a6 RL.length c6, Value.int IntKind.i64 R2, Value.int IntKind.i64 R3, Value.int IntKind.i64 R4], Value.bool R, Value.agg #[Value.slice a6 RL.length c6, Value.int IntKind.i64 R2, Value.int IntKind.i64 R3, Value.int IntKind.i64 R4], Value.agg #[Value.slice a5 RL.length c5, Value.int IntKind.i64 R2, Value.int IntKind.i64 R3, Value.int IntKind.i64 R4], Value.bool true, Value.bool false, Value.bool false, Value.bool R, Value.bool R, Value.bool false, Value.bool false, Value.agg #[Value.slice (some { block := g3, off := 0 }) ts.length ts.length, Value.int IntKind.i64 lg0, Value.int IntKind.i64 nx0, Value.int IntKind.i64 la0], Value.agg #[Value.slice a ts.length ca, Value.int IntKind.i64 lg0, Value.int IntKind.i64 nx0, Value.int IntKind.i64 la0], verV (some { block := g6, off := 0 }) ts.length ts lg0 nx0 la0, Value.bool true, Value.bool false, .agg #[.slice (some ⟨g4, 0, none⟩) e.ad.length e.ad.length, .slice (some ⟨g5, 0, none⟩) e.dl.length e.dl.length, .int .i64 e.lg, .int .i64 e.nx, .int .i64 e.la], .agg #[.slice b e.ad.length cb, .slice d e.dl.length cd, .int .i64 e.lg, .int .i64 e.nx, .int .i64 e.la], edV (some ⟨g7, 0, none⟩) e.ad.length (some ⟨g8, 0, none⟩) e.dl.length e, .bool true, .bool false, undef, undef, undef, undef, undef, undef, undef, undef, undef, undef, undef, undef, undef, undef, undef, undef, undef, undef, undef, undef, undef, undef, undef, undef, undef, undef, undef, undef, undef, undef, undef, undef, undef, undef, undef, undef, undef, undef, undef, undef, undef, undef, undef, undef, undef, undef, undef], defers := [] }) ?cont16 ?reg16
          case reg16 =>
            obtain ⟨p0, p1, p2, p3, p4⟩ := five_cells HE15.out
            obtain ⟨y0, y1, y2, y3, y4⟩ := five_cells HX1015.out
            go_region_held3 (fun w' => w'.cell? ⟨w.heap.size + 1, 0, none⟩ = some (.slice b e.ad.length cb) ∧ w'.cell? ⟨w.heap.size + 1, 1, none⟩ = some (.slice d e.dl.length cd) ∧ w'.cell? ⟨w.heap.size + 1, 2, none⟩ = some (.int .i64 e.lg) ∧ w'.cell? ⟨w.heap.size + 1, 3, none⟩ = some (.int .i64 e.nx) ∧ w'.cell? ⟨w.heap.size + 1, 4, none⟩ = some (.int .i64 e.la) ∧ w'.cell? ⟨w9.heap.size, 0, none⟩ = some (.slice (some ⟨g4, 0, none⟩) e.ad.length e.ad.length) ∧ w'.cell? ⟨w9.heap.size, 1, none⟩ = some (.slice (some ⟨g5, 0, none⟩) e.dl.length e.dl.length) ∧ w'.cell? ⟨w9.heap.size, 2, none⟩ = some (.int .i64 e.lg) ∧ w'.cell? ⟨w9.heap.size, 3, none⟩ = some (.int .i64 e.nx) ∧ w'.cell? ⟨w9.heap.size, 4, none⟩ = some (.int .i64 e.la)) (simp [go_sem, *])
              (first
                | (go_at_call 14
                   refine (HTE.out _ (hx.below HBw15.out.drew) (hy.below HBw15.out.drew) hl1 hl2).mono ?_
                   rintro r w16 ⟨g7, g8, rfl, hg7, hg8, hp16, hq16, hb16⟩
                   have HB16 : Hid (Below w15.heap.size w15 w16) := (Below.refl w15.heap.size w15).drew.trans hb16
                   have HU16 := hd hp16.lie
                   have HV16 := hd hq16.lie
                   obtain ⟨k0, k1, k2, k3, k4⟩ := five_cells ((HB16.out.block (w.heap.size + 1) hle15).trans HE15.out)
                   obtain ⟨m0, m1, m2, m3, m4⟩ := five_cells ((HB16.out.block w9.heap.size hl1015).trans HX1015.out)
                   have hle16 := Nat.lt_of_lt_of_le hle15 HB16.out.size
                   have hl1016 := Nat.lt_of_lt_of_le hl1015 HB16.out.size
                   have hs16 := HB16.out.size
                   clear hp16 hq16 hb16)
                | (go_at_call 7
                   refine (eqEdit_same (some ⟨g4, 0, none⟩) e.ad.length (some ⟨g5, 0, none⟩) e.dl.length (some ⟨g7, 0, none⟩) e.ad.length (some ⟨g8, 0, none⟩) e.dl.length e _ (HH15.out.below HB16.out (by omega)).lie (HI15.out.below HB16.out (by omega)).lie HU16.out HV16.out hl1 hl2).mono ?_
                   rintro r w17 ⟨rfl, hb17⟩
                   have HB17 := hd (HB16.out.trans (hb17.mono hs16))
                   obtain ⟨i0, i1, i2, i3, i4⟩ := five_cells ((HB17.out.block (w.heap.size + 1) hle15).trans HE15.out)
                   obtain ⟨j0, j1, j2, j3, j4⟩ := five_cells ((HB17.out.block w9.heap.size hl1015).trans HX1015.out)
                   have hle17 := Nat.lt_of_lt_of_le hle15 HB17.out.size
                   have hl1017 := Nat.lt_of_lt_of_le hl1015 HB17.out.size
                   clear hb17))
            all_goals exact ⟨rfl, g7, g8, HB17.out, rfl⟩
          case cont16 =>
            rintro ex a' w17 ⟨rfl, g7, g8, hb17, rfl⟩
            dsimp only [Exit.then]
            have hs17 := hb17.size
            have HB17 := hd (HB15.out.trans (hb17.mono hs15))
            have HX817 := hd ((HB17.out.block w7.heap.size hl813).trans HX813.out)
            have HX1017 := hd ((HB17.out.block w9.heap.size hl1013).trans HX1013.out)
            have HX1217 := hd ((HB17.out.block w11.heap.size hl1213).trans HX1213.out)
            have HX617 := hd ((HB17.out.block B6 hl613).trans HX613.out)
            have HP17 := hd ((HB17.out.block w.heap.size hlp13).trans HP13.out)
            have HE17 := hd ((HB17.out.block (w.heap.size + 1) hle13).trans HE13.out)
            have HG17 := hd (HG13.out.below HB17.out (by omega))
            have HH17 := hd (HH13.out.below HB17.out (by omega))
            have HI17 := hd (HI13.out.below HB17.out (by omega))
            have HR17 := hd (HR11_13.out.below HB17.out)
            have HB617 := hd (HB613.out.trans (HB17.out.mono (by omega)))
            clear hb17 HX813 HX1013 HX1213 HX613 HP13 HE13 HG13 HH13 HI13 HR11_13 HE15 HX1015 HBw15 HH15 HI15 HBw13
            obtain ⟨K1, hK1⟩ : ∃ K1 : Nat, K1 = 1 + 4 * ts.length := ⟨_, rfl⟩
            have HM1 := hd (markVersion_only g3 ts.length ts lg0 nx0 la0 1 w17 hl0 (Nat.le_refl _) (by omega) HG17.out)
            rw [← hK1, show ((1 : Nat) : Int) = 1 from rfl] at HM1
            have hK1a : 1 ≤ K1 := by omega
            have hK1b : K1 ≤ 4194305 := by omega
            clear hK1
            obtain ⟨p0, p1, p2, p3⟩ := four_cells HX817.out
            have hl817 := heap_lt HX817.out
            go_wp2_with fail
            refine HM1.out.mono ?_
            rintro r w18 ⟨rfl, ho18⟩
            have hs18 := ho18.size
            have HO18 := hd ho18
            have HX1018 := hd ((ho18.block w9.heap.size (heap_lt HX1017.out) (by omega)).trans HX1017.out)
            have HH18 : Hid (PartT w18 g4 e.ad.length e.ad e.ad.length) := by
              obtain ⟨cs, h1, h2⟩ := HH17.out
              exact ⟨cs, (ho18.block g4 (heap_lt h1) (by omega)).trans h1, h2⟩
            have HI18 : Hid (PartI w18 g5 e.dl.length e.dl e.dl.length) := by
              obtain ⟨cs, h1, h2⟩ := HI17.out
              exact ⟨cs, (ho18.block g5 (heap_lt h1) (by omega)).trans h1, h2⟩
            obtain ⟨K2, hK2⟩ : ∃ K2 : Nat, K2 = K1 + 4 * e.ad.length + e.dl.length := ⟨_, rfl⟩
            have HM2 := hd (markEdit_only g4 e.ad.length g5 e.dl.length e K1 w18 hl1 hl2 (by omega) (by omega) HH18.out HI18.out)
            rw [← hK2] at HM2
            clear hK2
            clear p0 p1 p2 p3 ho18
            obtain ⟨p0, p1, p2, p3, p4⟩ := five_cells HX1018.out
            have hl1018 := heap_lt HX1018.out
            go_wp2_with fail
            refine HM2.out.mono ?_
            rintro r w19 ⟨rfl, ho19⟩
            have hs19 := ho19.size
            have HK : Hid (∀ k, k < w17.heap.size → k ≠ g3 → k ≠ g4 → k ≠ g5 → w19.heap[k]? = w17.heap[k]?) := fun k h1 h2 h3 h4 => (ho19.block k (by omega) h3 h4).trans (HO18.out.block k h1 h2)
            have HX1219 := hd ((HK.out w11.heap.size (heap_lt HX1217.out) (by omega) (by omega) (by omega)).trans HX1217.out)
            have HX619 := hd ((HK.out B6 (heap_lt HX617.out) (by omega) (by omega) (by omega)).trans HX617.out)
            have HP19 := hd ((HK.out w.heap.size (heap_lt HP17.out) (by omega) (by omega) (by omega)).trans HP17.out)
            have HE19 := hd ((HK.out (w.heap.size + 1) (heap_lt HE17.out) (by omega) (by omega) (by omega)).trans HE17.out)
            have HR19 := hd (HR17.out.kept (fun k h1 h2 => HK.out k h2 (by omega) (by omega) (by omega)))
            have HB619 := hd ((HB617.out.trans (HO18.out.below (B := w6.heap.size) (by omega) (by omega))).trans (ho19.below (B := w6.heap.size) (by omega) (by omega) (by omega)))
            have HR6_19 := hd (HR6.out.below HB619.out)
            have hK2n : ¬ ((K2 : Nat) : Int) < 0 := by omega
            clear p0 p1 p2 p3 p4 ho19 HM1 HM2 HX1018 HH18 HI18 HX817 HX1017 HX1217 HX617 HP17 HE17 HG17 HH17 HI17 HR17 HO18 HK
            obtain ⟨p0, p1, p2, p3⟩ := four_cells HX1219.out
            obtain ⟨y0, y1, y2, y3⟩ := four_cells HX619.out
            have hl1219 := heap_lt HX1219.out
            have hl619 := heap_lt HX619.out
            have hln := HLn.out
            go_wp2_with fail
            refine (eqVersion_same a6 c6 a5 c5 RL R2 R3 R4 w19 HR19.out.lie HR6_19.out.lie (by omega)).mono ?_
            rintro r w20 ⟨rfl, hb20⟩
            have hs20 := hb20.size
            have HB20 := hd hb20
            have HX1220 := hd ((hb20.block w11.heap.size hl1219).trans HX1219.out)
            have HR20 := hd (HR19.out.below hb20)
            obtain ⟨M, hM⟩ : ∃ M : Nat, M = 1 + 4 * RL.length := ⟨_, rfl⟩
            have HMV := hd (markVersion_any a6 c6 w10.heap.size RL R2 R3 R4 w20 HR20.out hln (by omega))
            rw [← hM] at HMV
            have HMd := hd hM
            clear hM
            clear p0 p1 p2 p3 y0 y1 y2 y3 hb20 HR19 HR6_19
            obtain ⟨p0, p1, p2, p3⟩ := four_cells HX1220.out
            have hl1220 := heap_lt HX1220.out
            go_wp2_with fail
            refine HMV.out.mono ?_
            rintro r w21 ⟨rfl, hr21, hb21, hk21⟩
            have hs21 := hb21.size
            have HX1221 := hd (hk21 _ _ HX1220.out (fun cs fz h => by simp at h))
            have HB21 := hd hb21
            have HHV := hd (heldVersion_any a6 c6 RL R2 R3 R4 w21 hr21.lie hln)
            rw [← HMd.out] at HHV
            clear p0 p1 p2 p3 hr21 hb21 hk21 HX1220 HR20
            obtain ⟨p0, p1, p2, p3⟩ := four_cells HX1221.out
            have hl1221 := heap_lt HX1221.out
            have hMn : ¬ ((M : Nat) : Int) < 0 := by omega
            have hMM : (((M : Nat) : Int) != ((M : Nat) : Int)) = false := by simp
            go_wp2_with fail
            refine HHV.out.mono ?_
            rintro r w22 ⟨rfl, hb22⟩
            have hs22 := hb22.size
            have HB2022 := hd (HB21.out.trans (hb22.mono (by omega)))
            clear p0 p1 p2 p3 hb22
            go_wp2_with fail
            have HB622 := hd ((HB619.out.trans (HB20.out.mono (by omega))).trans (HB2022.out.mono (by omega)))
            have HPs31 := hd ((HB2022.out.block w.heap.size (by omega)).trans ((HB20.out.block w.heap.size (by omega)).trans HP19.out))
            have HEs31 := hd ((HB2022.out.block (w.heap.size + 1) (by omega)).trans ((HB20.out.block (w.heap.size + 1) (by omega)).trans HE19.out))
            have HX622 := hd ((HB2022.out.block B6 (by omega)).trans ((HB20.out.block B6 (by omega)).trans HX619.out))
            have HBs31 := hd (HB6.out.trans (HB622.out.mono hlw6))
            have HR22 := hd (HR6.out.below HB622.out)
            have hl622 := heap_lt HX622.out
            clear hlp hle
            have hlp := heap_lt HPs31.out
            have hle := heap_lt HEs31.out
            clear HB619 HB20 HB2022 HP19 HE19 HX619 HX1219 HX1221 HB21 HMV HHV HB617 HB17 HB15 HB613 HB1013 HB1213 HB612 HB611 HB610 HA11 HB11 hlp6 hle6 hle7 hlp13 hle13 hl813 hl1013 hl1213 hl613 hle15 hl1015 hl817 hl1018 hl1219 hl619 hl1220 hl1221 hB6 hg3 hg3l hg4 hg5 hg4l hg5l hs0 hs1 hs2 hs7 hs8 hs9 hs10 hs11 hs12 hs13 hs15 hs17 hs18 hs19 hs20 hs21 hs22
            obtain ⟨p0, p1, p2, p3⟩ := four_cells HPs31.out
            obtain ⟨q0, q1, q2, q3, q4⟩ := five_cells HEs31.out
            refine Code.wp_mono (Q := fun ex a' w' => ex = .normal ∧ ∃ (g0x g1x g2x B5x : Nat) (a5x : Option Addr) (c5x : Nat), Below w22.heap.size w22 w' ∧ w22.heap.size ≤ B5x ∧ w'.heap[B5x]? = some (.cells #[.slice a5x RL.length c5x, .int .i64 R2, .int .i64 R3, .int .i64 R4] 39 (0, 0)) ∧ ResT w' w22.heap.size a5x RL ∧ a' = { tmps := #[verV a ca ts lg0 nx0 la0, edV b cb d cd e, Value.pointer (some { block := w.heap.size, off := 0 }), Value.pointer (some { block := w.heap.size + 1, off := 0 }), Value.bool false, Value.int IntKind.i64 y, Value.pointer (some { block := B6, off := 0 }), Value.bool R, Value.pointer (some { block := w7.heap.size, off := 0 }), Value.pointer (some { block := w9.heap.size, off := 0 }), Value.pointer (some { block := w11.heap.size, off := 0 }), Value.bool R, Value.int IntKind.i64 ((K2 : Nat) : Int), Value.int IntKind.i64 ((M : Nat) : Int), Value.int IntKind.i64 ((M : Nat) : Int), .pointer (some ⟨B5x, 0, none⟩), .bool R, Value.agg #[Value.slice a ts.length ca, Value.int IntKind.i64 lg0, Value.int IntKind.i64 nx0, Value.int IntKind.i64 la0], Value.int IntKind.i64 1048576, Value.int IntKind.i64 x, Value.int IntKind.i64 x, Value.bool (decide (x < 0)), Value.agg #[Value.slice b e.ad.length cb, Value.slice d e.dl.length cd, Value.int IntKind.i64 e.lg, Value.int IntKind.i64 e.nx, Value.int IntKind.i64 e.la], Value.int IntKind.i64 x, Value.int IntKind.i64 y, Value.int IntKind.i64 y, Value.bool (decide (y < 0)), Value.tuple #[Value.agg #[Value.slice a5 RL.length c5, Value.int IntKind.i64 R2, Value.int IntKind.i64 R3, Value.int IntKind.i64 R4], Value.bool R], Value.agg #[Value.slice a ts.length ca, Value.int IntKind.i64 lg0, Value.int IntKind.i64 nx0, Value.int IntKind.i64 la0], verV (some { block := g0, off := 0 }) ts.length ts lg0 nx0 la0, Value.agg #[Value.slice b e.ad.length cb, Value.slice d e.dl.length cd, Value.int IntKind.i64 e.lg, Value.int IntKind.i64 e.nx, Value.int IntKind.i64 e.la], edV (some { block := g1, off := 0 }) e.ad.length (some { block := g2, off := 0 }) e.dl.length e, Value.tuple #[Value.agg #[Value.slice a5 RL.length c5, Value.int IntKind.i64 R2, Value.int IntKind.i64 R3, Value.int IntKind.i64 R4], Value.bool R], Value.agg #[Value.slice a5 RL.length c5, Value.int IntKind.i64 R2, Value.int IntKind.i64 R3, Value.int IntKind.i64 R4], Value.bool R, Value.agg #[Value.slice a ts.length ca, Value.int IntKind.i64 lg0, Value.int IntKind.i64 nx0, Value.int IntKind.i64 la0], verV (some { block := g3, off := 0 }) ts.length ts lg0 nx0 la0, Value.agg #[Value.slice b e.ad.length cb, Value.slice d e.dl.length cd, Value.int IntKind.i64 e.lg, Value.int IntKind.i64 e.nx, Value.int IntKind.i64 e.la], edV (some { block := g4, off := 0 }) e.ad.length (some { block := g5, off := 0 }) e.dl.length e, Value.tuple #[Value.agg #[Value.slice a6 RL.length c6, Value.int IntKind.i64 R2, Value.int IntKind.i64 R3, Value.int IntKind.i64 R4], Value.bool R], Value.agg #[Value.slice (some { block := g3, off := 0 }) ts.length ts.length, Value.int IntKind.i64 lg0, Value.int IntKind.i64 nx0, Value.int IntKind.i64 la0], Value.agg #[Value.slice (some { block := g4, off := 0 }) e.ad.length e.ad.length, Value.slice (some { block := g5, off := 0 }) e.dl.length e.dl.length, Value.int IntKind.i64 e.lg, Value.int IntKind.i64 e.nx, Value.int IntKind.i64 e.la], Value.tuple #[Value.agg #[Value.slice a6 RL.length c6, Value.int IntKind.i64 R2, Value.int IntKind.i64 R3, Value.int IntKind.i64 R4], Value.bool R], Value.agg #[Value.slice a6 RL.length c6, Value.int IntKind.i64 R2, Value.int IntKind.i64 R3, Value.int IntKind.i64 R4], Value.bool R, Value.agg #[Value.slice a6 RL.length c6, Value.int IntKind.i64 R2, Value.int IntKind.i64 R3, Value.int IntKind.i64 R4], Value.agg #[Value.slice a5 RL.length c5, Value.int IntKind.i64 R2, Value.int IntKind.i64 R3, Value.int IntKind.i64 R4], Value.bool true, Value.bool false, Value.bool false, Value.bool R, Value.bool R, Value.bool false, Value.bool false, Value.agg #[Value.slice (some { block := g3, off := 0 }) ts.length ts.length, Value.int IntKind.i64 lg0, Value.int IntKind.i64 nx0, Value.int IntKind.i64 la0], Value.agg #[Value.slice a ts.length ca, Value.int IntKind.i64 lg0, Value.int IntKind.i64 nx0, Value.int IntKind.i64 la0], verV (some { block := g6, off := 0 }) ts.length ts lg0 nx0 la0, Value.bool true, Value.bool false, Value.agg #[Value.slice (some { block := g4, off := 0 }) e.ad.length e.ad.length, Value.slice (some { block := g5, off := 0 }) e.dl.length e.dl.length, Value.int IntKind.i64 e.lg, Value.int IntKind.i64 e.nx, Value.int IntKind.i64 e.la], Value.agg #[Value.slice b e.ad.length cb, Value.slice d e.dl.length cd, Value.int IntKind.i64 e.lg, Value.int IntKind.i64 e.nx, Value.int IntKind.i64 e.la], edV (some { block := g7, off := 0 }) e.ad.length (some { block := g8, off := 0 }) e.dl.length e, Value.bool true, Value.bool false, Value.agg #[Value.slice (some { block := g3, off := 0 }) ts.length ts.length, Value.int IntKind.i64 lg0, Value.int IntKind.i64 nx0, Value.int IntKind.i64 la0], Value.int IntKind.i64 1, Value.int IntKind.i64 ((K1 : Nat) : Int), Value.agg #[Value.slice (some { block := g4, off := 0 }) e.ad.length e.ad.length, Value.slice (some { block := g5, off := 0 }) e.dl.length e.dl.length, Value.int IntKind.i64 e.lg, Value.int IntKind.i64 e.nx, Value.int IntKind.i64 e.la], Value.int IntKind.i64 ((K1 : Nat) : Int), Value.int IntKind.i64 ((K2 : Nat) : Int), Value.int IntKind.i64 ((K2 : Nat) : Int), Value.bool (decide (((K2 : Nat) : Int) < 0)), Value.bool (decide (((K2 : Nat) : Int) < 0)), Value.agg #[Value.slice a6 RL.length c6, Value.int IntKind.i64 R2, Value.int IntKind.i64 R3, Value.int IntKind.i64 R4], Value.agg #[Value.slice a5 RL.length c5, Value.int IntKind.i64 R2, Value.int IntKind.i64 R3, Value.int IntKind.i64 R4], Value.bool true, Value.bool false, Value.bool (decide (((K2 : Nat) : Int) < 0)), Value.bool (decide (((K2 : Nat) : Int) < 0)), Value.bool R, Value.bool R, Value.bool false, Value.bool (decide (((K2 : Nat) : Int) < 0)), Value.agg #[Value.slice a6 RL.length c6, Value.int IntKind.i64 R2, Value.int IntKind.i64 R3, Value.int IntKind.i64 R4], Value.int IntKind.i64 1, Value.int IntKind.i64 ((M : Nat) : Int), Value.agg #[Value.slice a6 RL.length c6, Value.int IntKind.i64 R2, Value.int IntKind.i64 R3, Value.int IntKind.i64 R4], Value.int IntKind.i64 1, Value.int IntKind.i64 ((M : Nat) : Int), Value.int IntKind.i64 ((M : Nat) : Int), Value.bool (decide (((M : Nat) : Int) < 0)), Value.int IntKind.i64 ((M : Nat) : Int), Value.int IntKind.i64 ((M : Nat) : Int), Value.bool false, .tuple #[.agg #[.slice a5x RL.length c5x, .int .i64 R2, .int .i64 R3, .int .i64 R4], .bool R], .agg #[.slice a ts.length ca, .int .i64 lg0, .int .i64 nx0, .int .i64 la0], verV (some ⟨g0x, 0, none⟩) ts.length ts lg0 nx0 la0, .agg #[.slice b e.ad.length cb, .slice d e.dl.length cd, .int .i64 e.lg, .int .i64 e.nx, .int .i64 e.la], edV (some ⟨g1x, 0, none⟩) e.ad.length (some ⟨g2x, 0, none⟩) e.dl.length e, .tuple #[.agg #[.slice a5x RL.length c5x, .int .i64 R2, .int .i64 R3, .int .i64 R4], .bool R], .agg #[.slice a5x RL.length c5x, .int .i64 R2, .int .i64 R3, .int .i64 R4], .bool R, undef, undef, undef, undef, undef, undef, undef, undef, undef], defers := [] }) ?cont31 ?reg31
            case reg31 =>
              go_region_held3 (fun w' => w'.cell? ⟨w.heap.size, 0, none⟩ = some (.slice a ts.length ca) ∧ w'.cell? ⟨w.heap.size, 1, none⟩ = some (.int .i64 lg0) ∧ w'.cell? ⟨w.heap.size, 2, none⟩ = some (.int .i64 nx0) ∧ w'.cell? ⟨w.heap.size, 3, none⟩ = some (.int .i64 la0) ∧ w'.cell? ⟨w.heap.size + 1, 0, none⟩ = some (.slice b e.ad.length cb) ∧ w'.cell? ⟨w.heap.size + 1, 1, none⟩ = some (.slice d e.dl.length cd) ∧ w'.cell? ⟨w.heap.size + 1, 2, none⟩ = some (.int .i64 e.lg) ∧ w'.cell? ⟨w.heap.size + 1, 3, none⟩ = some (.int .i64 e.nx) ∧ w'.cell? ⟨w.heap.size + 1, 4, none⟩ = some (.int .i64 e.la)) (simp [go_sem, *])
                (first
                  | (go_at_call 13
                     refine (HTV.out _ (ht.below (by first | exact HBs31.out.drew | exact HBs31.out.drew.alloc HBs31.out.size _)) hl0).mono ?_
                     rintro r w3 ⟨g0x, rfl, hg0, hp3, hb3⟩
                     have HB3 : Hid (Below w22.heap.size w22 w3) := by
                       show Below _ _ _
                       first | exact (Below.refl w22.heap.size w22).drew.trans hb3 | exact ((Below.refl w22.heap.size w22).drew.alloc (Nat.le_refl _) _).trans (hb3.mono (by simp))
                     first
                       | (have HZ : Hid (w3.heap[w22.heap.size]? = some (.cells #[.slice none 0 0, .int .i64 0, .int .i64 0, .int .i64 0] 39 (0, 0))) := by
                            exact (hb3.block w22.heap.size (by simp)).trans (World.heap_alloc_new w22.drew _)
                          obtain ⟨zc0, zc1, zc2, zc3⟩ := four_cells HZ.out
                          obtain ⟨zf0, zf1, zf2, zf3⟩ := four_freeN HZ.out
                          have hzl := heap_lt HZ.out)
                       | skip
                     have HG3 := hd hp3
                     obtain ⟨k0, k1, k2, k3⟩ := four_cells ((HB3.out.block w.heap.size hlp).trans HPs31.out)
                     obtain ⟨m0, m1, m2, m3, m4⟩ := five_cells ((HB3.out.block (w.heap.size + 1) hle).trans HEs31.out)
                     have hlp3 := Nat.lt_of_lt_of_le hlp HB3.out.size
                     have hle3 := Nat.lt_of_lt_of_le hle HB3.out.size
                     have hs3 := HB3.out.size
                     clear hp3 hb3)
                  | (go_at_call 14
                     refine (HTE.out _ (by first | exact hx.below (HBs31.out.trans (HB3.out.mono HBs31.out.size)) | exact hx.below ((HBs31.out.trans (HB3.out.mono HBs31.out.size)).alloc (Nat.le_trans HBs31.out.size HB3.out.size) _)) (by first | exact hy.below (HBs31.out.trans (HB3.out.mono HBs31.out.size)) | exact hy.below ((HBs31.out.trans (HB3.out.mono HBs31.out.size)).alloc (Nat.le_trans HBs31.out.size HB3.out.size) _)) hl1 hl2).mono ?_
                     rintro r w4 ⟨g1x, g2x, rfl, hg1, hg2, hp4, hq4, hb4⟩
                     have HB34 : Hid (Below w3.heap.size w3 w4) := by
                       show Below _ _ _
                       first | exact hb4 | exact ((Below.refl w3.heap.size w3).alloc (Nat.le_refl _) _).trans (hb4.mono (by simp))
                     have HB4 : Hid (Below w22.heap.size w22 w4) := HB3.out.trans (HB34.out.mono hs3)
                     first
                       | (have HZ4 := hd ((HB34.out.block w22.heap.size hzl).trans HZ.out)
                          obtain ⟨yc0, yc1, yc2, yc3⟩ := four_cells HZ4.out
                          obtain ⟨yf0, yf1, yf2, yf3⟩ := four_freeN HZ4.out
                          have hyl := heap_lt HZ4.out)
                       | (have HY : Hid (w4.heap[w3.heap.size]? = some (.cells #[.slice none 0 0, .int .i64 0, .int .i64 0, .int .i64 0] 39 (0, 0))) := by
                            exact (hb4.block w3.heap.size (by simp)).trans (World.heap_alloc_new w3 _)
                          obtain ⟨yc0, yc1, yc2, yc3⟩ := four_cells HY.out
                          obtain ⟨yf0, yf1, yf2, yf3⟩ := four_freeN HY.out
                          have hyl := heap_lt HY.out)
                       | skip
                     have HG4 := hd (HG3.out.below HB34.out HG3.out.ltV)
                     have HH4 := hd hp4
                     have HI4 := hd hq4
                     obtain ⟨i0, i1, i2, i3⟩ := four_cells ((HB4.out.block w.heap.size hlp).trans HPs31.out)
                     obtain ⟨j0, j1, j2, j3, j4⟩ := five_cells ((HB4.out.block (w.heap.size + 1) hle).trans HEs31.out)
                     have hlp4 := Nat.lt_of_lt_of_le hlp HB4.out.size
                     have hle4 := Nat.lt_of_lt_of_le hle HB4.out.size
                     have hs4 := HB4.out.size
                     have hs34 := HB34.out.size
                     clear hp4 hq4 hb4)
                  | (go_at_call 15
                     refine (HIM.out g0x g1x g2x _ (by first | exact HG4.out.lie | exact HG4.out.lie.below ((Below.refl _ _).alloc (Nat.le_refl _) _)) (by first | exact HH4.out.lie | exact HH4.out.lie.below ((Below.refl _ _).alloc (Nat.le_refl _) _)) (by first | exact HI4.out.lie | exact HI4.out.lie.below ((Below.refl _ _).alloc (Nat.le_refl _) _)) hl0 hl1 hl2).mono ?_
                     rintro r w5 ⟨a5x, c5x, rfl, hr5, hb5⟩
                     have HB45 : Hid (Below w4.heap.size w4 w5) := by
                       show Below _ _ _
                       first | exact hb5 | exact ((Below.refl w4.heap.size w4).alloc (Nat.le_refl _) _).trans (hb5.mono (by simp))
                     have HB5 : Hid (Below w22.heap.size w22 w5) := HB4.out.trans (HB45.out.mono hs4)
                     have HR5 : Hid (ResT w5 w22.heap.size a5x RL) := by
                       show ResT _ _ _ _
                       exact hr5.wideN (by first | exact hs4 | (simp; omega))
                     first
                       | (have HZ5 := hd ((HB45.out.block w22.heap.size hyl).trans HZ4.out)
                          obtain ⟨xc0, xc1, xc2, xc3⟩ := four_cells HZ5.out
                          obtain ⟨xf0, xf1, xf2, xf3⟩ := four_freeN HZ5.out)
                       | (have HZ5 := hd ((HB45.out.block w3.heap.size hyl).trans HY.out)
                          obtain ⟨xc0, xc1, xc2, xc3⟩ := four_cells HZ5.out
                          obtain ⟨xf0, xf1, xf2, xf3⟩ := four_freeN HZ5.out)
                       | (have HZ5 : Hid (w5.heap[w4.heap.size]? = some (.cells #[.slice none 0 0, .int .i64 0, .int .i64 0, .int .i64 0] 39 (0, 0))) := by
                            exact (hb5.block w4.heap.size (by simp)).trans (World.heap_alloc_new w4 _)
                          obtain ⟨xc0, xc1, xc2, xc3⟩ := four_cells HZ5.out
                          obtain ⟨xf0, xf1, xf2, xf3⟩ := four_freeN HZ5.out)
                       | skip
                     obtain ⟨s0, s1, s2, s3⟩ := four_cells ((HB5.out.block w.heap.size hlp).trans HPs31.out)
                     obtain ⟨t0, t1, t2, t3, t4⟩ := five_cells ((HB5.out.block (w.heap.size + 1) hle).trans HEs31.out)
                     have hlp5 := Nat.lt_of_lt_of_le hlp HB5.out.size
                     have hle5 := Nat.lt_of_lt_of_le hle HB5.out.size
                     have hs5 := HB5.out.size
                     clear hr5 hb5))
              all_goals first
                | exact ⟨rfl, g0x, g1x, g2x, w5.heap.size, a5x, c5x, HB5.out.alloc hs5 _, hs5, World.heap_alloc_new _ _, HR5.out.below ((Below.refl _ _).alloc (Nat.le_refl _) _), rfl⟩
                | exact ⟨rfl, g0x, g1x, g2x, _, a5x, c5x, below_setN hs3 (below_setN hs3 (below_setN hs3 (below_setN hs3 HB5.out))), hs3, store4 HZ5.out _ _ _ _, ResT.set4 HR5.out HZ5.out (by decide) _ _ _ _, rfl⟩
                | exact ⟨rfl, g0x, g1x, g2x, _, a5x, c5x, below_setN hs4 (below_setN hs4 (below_setN hs4 (below_setN hs4 HB5.out))), hs4, store4 HZ5.out _ _ _ _, ResT.set4 HR5.out HZ5.out (by decide) _ _ _ _, rfl⟩
                | exact ⟨rfl, g0x, g1x, g2x, _, a5x, c5x, below_setN (Nat.le_refl _) (below_setN (Nat.le_refl _) (below_setN (Nat.le_refl _) (below_setN (Nat.le_refl _) HB5.out))), Nat.le_refl _, store4 HZ5.out _ _ _ _, ResT.set4 HR5.out HZ5.out (by decide) _ _ _ _, rfl⟩
            case cont31 =>
              rintro ex a' w23 ⟨rfl, g9, g10, g11, B7, a7, c7, hb23, hB7, hX23, hr23, rfl⟩
              dsimp only [Exit.then]
              have hs23 := hb23.size
              have HX623 := hd ((hb23.block B6 hl622).trans HX622.out)
              have HX723 := hd hX23
              have HB23 := hd (HBs31.out.trans (hb23.mono HBs31.out.size))
              have HR5_23 := hd (HR22.out.below hb23)
              have HR7_23 := hd hr23
              have hl623 := heap_lt HX623.out
              have hl723 := heap_lt HX723.out
              clear p0 p1 p2 p3 q0 q1 q2 q3 q4 hb23 hX23 hr23
              obtain ⟨p0, p1, p2, p3⟩ := four_cells HX723.out
              obtain ⟨y0, y1, y2, y3⟩ := four_cells HX623.out
              go_wp2_with fail
              refine (eqVersion_same a7 c7 a5 c5 RL R2 R3 R4 w23 HR7_23.out.lie HR5_23.out.lie (by have := HLn.out; omega)).mono ?_
              rintro r w24 ⟨rfl, hb24⟩
              have HB24 := hd (HB23.out.trans (hb24.mono HB23.out.size))
              clear hb24
              go_wp2_with fail
              go_ret
              exact ⟨rfl, HB24.out⟩
end Go.Proofs.Ytigpplcecbgmaae
