import Derived.Test.YtgennghhneckeaaWalkZ

namespace Go.Proofs.Ytgennghhneckeaa
open Go.RowKit Go.Maps
set_option linter.unusedVariables false
set_option linter.unusedSimpArgs false

set_option maxRecDepth 100000 in
set_option maxHeartbeats 1000000 in
theorem specAppend_bad (a : Option Addr) (cap : Nat) (xs : List Fl) (q fu : Int) (s ss : ByteArray) (w : World) (hx : Lie w a xs) (hf : Fits xs) (hlen : xs.length ≤ 1048576) (hd : datas xs ≤ 1048576) (hv : vldB xs q fu = false) :
    Calls Try.prog 9 #[fsV a xs.length cap q fu, .string s, .string ss] w fun e w' => e = .returned (.tuple #[fsZ, .int .i64 9]) ∧ Below w.heap.size w w' := by
  have hb0 : Below w.heap.size w ((w.alloc (.cells #[.slice a xs.length cap, .int .i64 q, .int .i64 fu] 25)).alloc (.cells #[.slice none 0 0, .int .i64 0, .int .i64 0] 25)) := ((Below.refl _ _).alloc (Nat.le_refl _) _).alloc (by simp) _
  go_enter Try.func9, Try.ntmps9
  go_wp2_with fail
  refine (specBegin_bad a cap xs q fu _ (hx.below hb0) hf hlen hd hv).mono ?_
  rintro e w1 ⟨rfl, hb1⟩
  have hbb := hb0.trans (hb1.mono hb0.size)
  obtain ⟨⟨r0, r1, r2⟩, s0, s1, s2⟩ := three_cells ((hb1.block _ (by simp)).trans (three_new _ _ _ _ _ _))
  have hsz : w.heap.size + 1 < w1.heap.size := by have := hb1.size; simp at this; omega
  clear hx hb1 hb0 hv
  go_wp2
  refine bodyPost_ret (v := .tuple #[fsZ, .int .i64 9]) (by simp [results, Try.results9, go_sem, r0, r1, r2, hsz]) rfl ⟨rfl, ?_⟩
  exact (hbb.trans (three_below w1 _ _ _ (by omega))).alloc (by simp; omega) _

set_option maxRecDepth 100000 in
set_option maxHeartbeats 1000000 in
theorem specAppend_ok (a : Option Addr) (cap : Nat) (xs ys : List Fl) (q fu cd : Int) (s ss : ByteArray) (w : World) (hx : Lie w a xs) (hf : Fits xs) (hlen : xs.length ≤ 1048576) (hd : datas xs ≤ 1048576) (hv : vldB xs q fu = true) (hhi : fu ≤ 9223372036854775807) (hs : s.size ≤ maxLen) (hss : ss.size ≤ maxLen) (hsm : ss.size ≤ 1048576)
    (HC : Hid (cd = apCode xs q fu s ss)) (HY : Hid (ys = if cd = 0 then wi xs (apF xs s ss) else xs)) :
    Calls Try.prog 9 #[fsV a xs.length cap q fu, .string s, .string ss] w fun e w' => ∃ a' cap', e = .returned (.tuple #[fsV a' ys.length cap' q (fuel' fu), .int .i64 cd]) ∧ Res w' w.heap.size a' cap' ys ∧ Below w.heap.size w w' := by
  have hb0 : Below w.heap.size w ((w.alloc (.cells #[.slice a xs.length cap, .int .i64 q, .int .i64 fu] 25)).alloc (.cells #[.slice none 0 0, .int .i64 0, .int .i64 0] 25)) := ((Below.refl _ _).alloc (Nat.le_refl _) _).alloc (by simp) _
  have hrise := rise_of_ok (vld_head hv).2.1
  go_enter Try.func9, Try.ntmps9
  go_wp2_with fail
  refine (specBegin_ok a cap xs q fu _ (hx.below hb0) hf hlen hd hv hhi _ rfl).mono ?_
  rintro e w1 ⟨a1, cap1, rfl, hres, hb1⟩
  have hbb := hb0.trans (hb1.mono hb0.size)
  have hR1 := (hb1.block (w.heap.size + 1) (by simp)).trans (three_new _ _ _ _ _ _)
  obtain ⟨⟨r0, r1, r2⟩, s0, s1, s2⟩ := three_cells hR1
  have hP1 := (hb1.block w.heap.size (by simp; omega)).trans (three_old _ _ _ _ _ _)
  obtain ⟨⟨p0, p1, p2⟩, -⟩ := three_cells hP1
  have hsz : w.heap.size + 1 < w1.heap.size := by have := hb1.size; simp at this; omega
  have hsz0 : w.heap.size < w1.heap.size := by omega
  have hxb := hx.below hbb
  simp at hres
  clear hx hb1 hb0 hv
  by_cases h0 : fu = 0
  · rw [if_pos h0]
    have HC8 : Hid (cd = 8) := by show _ = _; rw [HC.out]; simp [apCode, atCode, bgn, h0]
    have HYY : Hid (ys = xs) := by show _ = _; rw [HY.out, if_neg (by rw [HC8.out]; decide)]
    clear HC HY h0
    go_wp2
    refine bodyPost_ret (v := .tuple #[fsV a1 xs.length cap1 q (fuel' fu), .int .i64 8]) (by simp [results, Try.results9, go_sem, r0, r1, r2, hsz]) rfl ⟨a1, cap1, by rw [HC8.out, HYY.out], ?_, ?_⟩
    · rw [HYY.out]
      exact (hres.kept (fun k h1 h2 => (Below.heap_alloc _ _ _ (by simpa using h2)).trans (three_other w1 _ _ _ (by omega)))).base (by omega)
    · exact (hbb.trans (three_below w1 _ _ _ (by omega))).alloc (by simp; omega) _
  · rw [if_neg h0]
    cases hn : nmOk s with
    | false =>
      have HC2 : Hid (cd = 2) := by show _ = _; rw [HC.out]; simp [apCode, atCode, bgn, h0, hn]
      have HYY : Hid (ys = xs) := by show _ = _; rw [HY.out, if_neg (by rw [HC2.out]; decide)]
      clear HC HY h0
      go_wp2_with (go_at_call 17; refine (l1NameOk_any s _ hs).mono ?_; rintro e w' ⟨rfl, rfl⟩)
      refine bodyPost_ret (v := .tuple #[fsV a1 xs.length cap1 q (fuel' fu), .int .i64 2]) (by simp [results, Try.results9, go_sem, r0, r1, r2, hsz]) rfl ⟨a1, cap1, by rw [HC2.out, HYY.out], ?_, ?_⟩
      · rw [HYY.out]
        exact (hres.kept (fun k h1 h2 => (Below.heap_alloc _ _ _ (by simpa using h2)).trans (three_other w1 _ _ _ (by omega)))).base (by omega)
      · exact (hbb.trans (three_below w1 _ _ _ (by omega))).alloc (by simp; omega) _
    | true =>
      have HC1 : Hid (cd = if (fm xs s.data.toList).isSome = true then (if (1048576 : Int) < (datas xs : Int) + (ss.size : Int) then 4 else if ss.size ≠ 0 ∧ q < (datas xs : Int) + (ss.size : Int) then 3 else 0) else 1) := by
        show _ = _
        rw [HC.out]
        unfold apCode
        cases hx : (fm xs s.data.toList).isSome <;> simp [atCode, bgn, h0, hn, hx]
      clear HC h0
      go_wp2_with (go_at_call 17; refine (l1NameOk_any s _ hs).mono ?_; rintro e w' ⟨rfl, rfl⟩)
      have hb2a : Below w.heap.size w (w1.alloc (.cells #[.slice a1 xs.length cap1, .int .i64 q, .int .i64 (fuel' fu)] 25)) := hbb.alloc (by omega) _
      have hb1a : Below w1.heap.size w1 (w1.alloc (.cells #[.slice a1 xs.length cap1, .int .i64 q, .int .i64 (fuel' fu)] 25)) := (Below.refl _ _).alloc (Nat.le_refl _) _
      refine (l1At_any a cap xs q fu s _ (hxb.below hb1a) hlen).mono ?_
      rintro e w2 ⟨⟨r, rfl, hr⟩, hb2⟩
      have hb12 := hb1a.trans (hb2.mono hb1a.size)
      have hbw2 := hbb.trans (hb12.mono hbb.size)
      have hO2 : w2.heap[w1.heap.size]? = some (.cells #[.slice a1 xs.length cap1, .int .i64 q, .int .i64 (fuel' fu)] 25 (0, 0)) := (hb2.block _ (by simp)).trans (World.heap_alloc_new _ _)
      have hP2 := (hb12.block _ hsz0).trans hP1
      have hR2 := (hb12.block _ hsz).trans hR1
      have hres2 := hres.kept (w' := w2) (fun k _ h2 => hb12.block k h2)
      have hxb2 := hxb.below hb12
      have hw12 : w1.heap.size < w2.heap.size := by have := hb2.size; simp at this; omega
      clear p0 p1 p2 r0 r1 r2 s0 s1 s2 hb2 hb12 hb1a hb2a hP1 hR1 hxb hbb hres
      obtain ⟨⟨p0, p1, p2⟩, -⟩ := three_cells hP2
      obtain ⟨⟨r0, r1, r2⟩, s0, s1, s2⟩ := three_cells hR2
      obtain ⟨⟨o0, o1, o2⟩, t0, t1, t2⟩ := three_cells hO2
      have hsz0' : w.heap.size < w2.heap.size := by omega
      have hsz' : w.heap.size + 1 < w2.heap.size := by omega
      rcases hr with ⟨rfl, hall⟩ | ⟨i, hi, rfl, hnm⟩
      · have HC2 : Hid (cd = 1) := by show _ = _; rw [HC1.out, fm_none hall]; rfl
        have HYY : Hid (ys = xs) := by show _ = _; rw [HY.out, if_neg (by rw [HC2.out]; decide)]
        clear HC1 HY hall
        go_wp2
        refine bodyPost_ret (v := .tuple #[fsV a1 xs.length cap1 q (fuel' fu), .int .i64 1]) (by simp [results, Try.results9, go_sem, r0, r1, r2]) rfl ⟨a1, cap1, by rw [HC2.out, HYY.out], ?_, ?_⟩
        · rw [HYY.out]
          exact (hres2.kept (fun k h1 h2 => three_other w2 _ _ _ (by omega))).base (by omega)
        · exact hbw2.trans (three_below w2 _ _ _ (by omega))
      · have HC2 : Hid (cd = if (1048576 : Int) < (datas xs : Int) + (ss.size : Int) then 4 else if ss.size ≠ 0 ∧ q < (datas xs : Int) + (ss.size : Int) then 3 else 0) := by
          have := fm_at hrise hi
          rw [hnm] at this
          show _ = _
          rw [HC1.out, this]
          rfl
        have HYW : Hid (wi xs (apF xs s ss) = wi xs ⟨s, (xs.getD i fl0).dt ++ ss, (xs.getD i fl0).sy⟩) := by
          have := fm_at hrise hi
          rw [hnm] at this
          show _ = _
          unfold apF
          rw [this]
          rfl
        have HY' : Hid (ys = if cd = 0 then wi xs ⟨s, (xs.getD i fl0).dt ++ ss, (xs.getD i fl0).sy⟩ else xs) := by show _ = _; rw [HY.out, HYW.out]
        have hxs : (xs.getD i fl0).dt.size ≤ datas xs := by
          have := fm_at hrise hi
          exact fm_size this
        have hff := hf.at hi
        obtain ⟨b, off, hab, hbl, c0, c1, c2⟩ := hxb2.at hi
        have HAB : Hid (a = some ⟨b, off, none⟩) := hab
        generalize xs.getD i fl0 = x at *
        clear HC1 HY hnm HYW hab
        have hii : (i : Int) < (xs.length : Int) := by omega
        go_wp2_with fail
        refine (l1Total_any a cap xs q fu _ hxb2 hlen hd).mono ?_
        rintro e w3 ⟨rfl, hb3⟩
        have hbw3 := hbw2.trans (hb3.mono hbw2.size)
        have hP3 := (hb3.block _ hsz0').trans hP2
        have hR3 := (hb3.block _ hsz').trans hR2
        have hO3 := (hb3.block _ hw12).trans hO2
        have hres3 := hres2.kept (w' := w3) (fun k _ h2 => hb3.block k h2)
        have hxb3 := hxb2.below hb3
        have hle3 := hb3.size
        have y0 := (hb3.cell (p := ⟨b, _, none⟩) hbl).trans c0
        have y1 := (hb3.cell (p := ⟨b, _, none⟩) hbl).trans c1
        have y2 := (hb3.cell (p := ⟨b, _, none⟩) hbl).trans c2
        have hbl3 : b < w3.heap.size := by omega
        have u0 : w.heap.size < w3.heap.size := by omega
        have u1 : w.heap.size + 1 < w3.heap.size := by omega
        have u2 : w1.heap.size < w3.heap.size := by omega
        clear p0 p1 p2 r0 r1 r2 s0 s1 s2 o0 o1 o2 t0 t1 t2 c0 c1 c2 hb3 hres2 hxb2 hbw2 hP2 hR2 hO2 hbl hsz0' hsz'
        obtain ⟨⟨p0, p1, p2⟩, -⟩ := three_cells hP3
        obtain ⟨⟨r0, r1, r2⟩, s0, s1, s2⟩ := three_cells hR3
        obtain ⟨⟨o0, o1, o2⟩, t0, t1, t2⟩ := three_cells hO3
        by_cases hbig : (1048576 : Int) < (datas xs : Int) + (ss.size : Int)
        · have HCC : Hid (cd = 4) := by show _ = _; rw [HC2.out, if_pos hbig]
          have HYY : Hid (ys = xs) := by show _ = _; rw [HY'.out, if_neg (by rw [HCC.out]; decide)]
          clear HC2 HY'
          go_wp2
          refine bodyPost_ret (v := .tuple #[fsV a1 xs.length cap1 q (fuel' fu), .int .i64 4]) (by simp [results, Try.results9, go_sem, r0, r1, r2]) rfl ⟨a1, cap1, by rw [HCC.out, HYY.out], ?_, ?_⟩
          · rw [HYY.out]
            exact (hres3.kept (fun k h1 h2 => three_other _ _ _ _ (by omega))).base (by omega)
          · exact hbw3.trans (three_below _ _ _ _ (by omega))
        · have HC3 : Hid (cd = if ss.size ≠ 0 ∧ q < (datas xs : Int) + (ss.size : Int) then 3 else 0) := by show _ = _; rw [HC2.out, if_neg hbig]
          clear HC2
          by_cases hz : ss.size = 0
          · have HCC : Hid (cd = 0) := by show _ = _; rw [HC3.out, if_neg (fun h => h.1 hz)]
            have HYY : Hid (ys = wi xs ⟨s, x.dt ++ ss, x.sy⟩) := by show _ = _; rw [HY'.out, if_pos HCC.out]
            have hz' : (ss.size : Int) = 0 := by omega
            clear HC3 HY'
            go_wp2_with fail
            go_quiet (fail)
            have hb4 : Below w3.heap.size w3 (w3.drewN nq) := Below.drewN (Below.refl _ _) _
            generalize w3.drewN nq = w4 at *
            have hbw4 := hbw3.trans (hb4.mono hbw3.size)
            have hP4 := (hb4.block _ u0).trans hP3
            have hR4 := (hb4.block _ u1).trans hR3
            have hO4 := (hb4.block _ u2).trans hO3
            have hxb4 := hxb3.below hb4
            have hle4 := hb4.size
            have v0 := (hb4.cell (p := ⟨b, _, none⟩) hbl3).trans y0
            have v1 := (hb4.cell (p := ⟨b, _, none⟩) hbl3).trans y1
            have v2 := (hb4.cell (p := ⟨b, _, none⟩) hbl3).trans y2
            have hbl4 : b < w4.heap.size := by omega
            have w0' : w.heap.size < w4.heap.size := by omega
            have w1' : w.heap.size + 1 < w4.heap.size := by omega
            have w2' : w1.heap.size < w4.heap.size := by omega
            clear p0 p1 p2 r0 r1 r2 s0 s1 s2 o0 o1 o2 t0 t1 t2 y0 y1 y2 hb4 hres3 hxb3 hbw3 hP3 hR3 hO3 hbl3 u0 u1 u2
            obtain ⟨⟨p0, p1, p2⟩, -⟩ := three_cells hP4
            obtain ⟨⟨r0, r1, r2⟩, s0, s1, s2⟩ := three_cells hR4
            obtain ⟨⟨o0, o1, o2⟩, t0, t1, t2⟩ := three_cells hO4
            have hb4n : Below w4.heap.size w4 (w4.alloc (.cells #[.string x.nm, .string x.dt, .int .i64 x.sy] 31)) := (Below.refl _ _).alloc (Nat.le_refl _) _
            have hx4n := hxb4.below hb4n
            have hcat : ¬ 9223372036854775807 < x.dt.size + ss.size := by omega
            have hai := HAB.out
            subst hai
            go_wp2_with fail
            refine (with_any _ cap xs ⟨s, x.dt ++ ss, x.sy⟩ _ hx4n hf hs hlen).mono ?_
            rintro e w5 ⟨a5, cap5, rfl, hres5, hb5⟩
            have hb45 := hb4n.trans (hb5.mono hb4n.size)
            have hbw5 := hbw4.trans (hb45.mono hbw4.size)
            have hle5 := hb45.size
            have hR5 := (hb45.block _ w1').trans hR4
            have hO5 := (hb45.block _ w2').trans hO4
            replace hres5 := hres5.base (base' := w4.heap.size) (by simp)
            clear p0 p1 p2 r0 r1 r2 s0 s1 s2 o0 o1 o2 t0 t1 t2 hb5 hxb4 hbw4 hP4 hR4 hO4 hb45 hb4n hx4n v0 v1 v2 hbl4
            obtain ⟨⟨r0, r1, r2⟩, s0, s1, s2⟩ := three_cells hR5
            obtain ⟨⟨o0, o1, o2⟩, t0, t1, t2⟩ := three_cells hO5
            have hne1 : w.heap.size + 1 ≠ w1.heap.size := by omega
            have hne2 : w1.heap.size ≠ w.heap.size + 1 := by omega
            generalize wi xs ⟨s, x.dt ++ ss, x.sy⟩ = zs at *
            go_wp2
            refine bodyPost_ret (v := .tuple #[fsV a5 zs.length cap5 q (fuel' fu), .int .i64 0]) (by simp [results, Try.results9, go_sem, r0, r1, r2, hne1, hne2]) rfl ⟨a5, cap5, by rw [HCC.out, HYY.out], ?_, ?_⟩
            · rw [HYY.out]
              exact (hres5.kept (fun k h1 h2 => (three_other _ _ _ _ (by omega)).trans (Below.heap_setCell _ _ _ _ (by dsimp only; omega)))).base (by omega)
            · exact (hbw5.setCell (by dsimp only; omega) _).trans (three_below _ _ _ _ (by omega))
          · have hz1 : (0 : Int) < (ss.size : Int) := by omega
            have hz2 : 0 < ss.size := by omega
            by_cases hq : q < (datas xs : Int) + (ss.size : Int)
            · have HCC : Hid (cd = 3) := by show _ = _; rw [HC3.out, if_pos ⟨hz, hq⟩]
              have HYY : Hid (ys = xs) := by show _ = _; rw [HY'.out, if_neg (by rw [HCC.out]; decide)]
              clear HC3 HY'
              have hwrap : IntKind.i64.wrap ((datas xs : Int) + (ss.size : Int)) = (datas xs : Int) + (ss.size : Int) := by rw [IntKind.wrap_i64]; omega
              have hx3d := hxb3.below (Below.refl _ w3).drew
              go_wp2_with fail
              go_region_held3 (fun w' => w'.cell? ⟨w.heap.size, 0, none⟩ = some (.slice a xs.length cap) ∧ w'.cell? ⟨w.heap.size, 1, none⟩ = some (.int .i64 q) ∧ w'.cell? ⟨w.heap.size, 2, none⟩ = some (.int .i64 fu)) (simp [go_sem, *])
                (first | (go_at_call 19; refine (l1Total_any a cap xs q fu _ hx3d hlen hd).mono ?_; rintro e w4 ⟨rfl, hb4'⟩; have hb4 : Below w3.heap.size w3 w4 := (Below.refl _ w3).drew.trans hb4'; have k0 := (hb4'.cell (p := ⟨w.heap.size, 0, none⟩) u0).trans p0; have k1 := (hb4'.cell (p := ⟨w.heap.size, 1, none⟩) u0).trans p1; have k2 := (hb4'.cell (p := ⟨w.heap.size, 2, none⟩) u0).trans p2; clear hb4'))
              clear k0 k1 k2 hx3d
              have hbw4 := hbw3.trans (hb4.mono hbw3.size)
              have hR4 := (hb4.block _ u1).trans hR3
              have hO4 := (hb4.block _ u2).trans hO3
              have hres4 := hres3.kept (w' := w4) (fun k _ h2 => hb4.block k h2)
              have hle4 := hb4.size
              have w1' : w.heap.size + 1 < w4.heap.size := by omega
              have w2' : w1.heap.size < w4.heap.size := by omega
              clear p0 p1 p2 r0 r1 r2 s0 s1 s2 o0 o1 o2 t0 t1 t2 y0 y1 y2 hb4 hres3 hxb3 hbw3 hP3 hR3 hO3 hbl3 u0 u1 u2
              obtain ⟨⟨r0, r1, r2⟩, s0, s1, s2⟩ := three_cells hR4
              obtain ⟨⟨o0, o1, o2⟩, t0, t1, t2⟩ := three_cells hO4
              go_wp2
              refine bodyPost_ret (v := .tuple #[fsV a1 xs.length cap1 q (fuel' fu), .int .i64 3]) (by simp [results, Try.results9, go_sem, r0, r1, r2]) rfl ⟨a1, cap1, by rw [HCC.out, HYY.out], ?_, ?_⟩
              · rw [HYY.out]
                exact (hres4.kept (fun k h1 h2 => three_other _ _ _ _ (by omega))).base (by omega)
              · exact hbw4.trans (three_below _ _ _ _ (by omega))
            · have HCC : Hid (cd = 0) := by show _ = _; rw [HC3.out, if_neg (fun h => hq h.2)]
              have HYY : Hid (ys = wi xs ⟨s, x.dt ++ ss, x.sy⟩) := by show _ = _; rw [HY'.out, if_pos HCC.out]
              clear HC3 HY'
              have hwrap : IntKind.i64.wrap ((datas xs : Int) + (ss.size : Int)) = (datas xs : Int) + (ss.size : Int) := by rw [IntKind.wrap_i64]; omega
              have hx3d := hxb3.below (Below.refl _ w3).drew
              go_wp2_with fail
              go_region_held3 (fun w' => w'.cell? ⟨w.heap.size, 0, none⟩ = some (.slice a xs.length cap) ∧ w'.cell? ⟨w.heap.size, 1, none⟩ = some (.int .i64 q) ∧ w'.cell? ⟨w.heap.size, 2, none⟩ = some (.int .i64 fu)) (simp [go_sem, *])
                (first | (go_at_call 19; refine (l1Total_any a cap xs q fu _ hx3d hlen hd).mono ?_; rintro e w4 ⟨rfl, hb4'⟩; have hb4 : Below w3.heap.size w3 w4 := (Below.refl _ w3).drew.trans hb4'; have k0 := (hb4'.cell (p := ⟨w.heap.size, 0, none⟩) u0).trans p0; have k1 := (hb4'.cell (p := ⟨w.heap.size, 1, none⟩) u0).trans p1; have k2 := (hb4'.cell (p := ⟨w.heap.size, 2, none⟩) u0).trans p2; clear hb4'))
              clear k0 k1 k2 hx3d
              have hbw4 := hbw3.trans (hb4.mono hbw3.size)
              have hP4 := (hb4.block _ u0).trans hP3
              have hR4 := (hb4.block _ u1).trans hR3
              have hO4 := (hb4.block _ u2).trans hO3
              have hxb4 := hxb3.below hb4
              have hle4 := hb4.size
              have v0 := (hb4.cell (p := ⟨b, _, none⟩) hbl3).trans y0
              have v1 := (hb4.cell (p := ⟨b, _, none⟩) hbl3).trans y1
              have v2 := (hb4.cell (p := ⟨b, _, none⟩) hbl3).trans y2
              have hbl4 : b < w4.heap.size := by omega
              have w0' : w.heap.size < w4.heap.size := by omega
              have w1' : w.heap.size + 1 < w4.heap.size := by omega
              have w2' : w1.heap.size < w4.heap.size := by omega
              clear p0 p1 p2 r0 r1 r2 s0 s1 s2 o0 o1 o2 t0 t1 t2 y0 y1 y2 hb4 hres3 hxb3 hbw3 hP3 hR3 hO3 hbl3 u0 u1 u2
              obtain ⟨⟨p0, p1, p2⟩, -⟩ := three_cells hP4
              obtain ⟨⟨r0, r1, r2⟩, s0, s1, s2⟩ := three_cells hR4
              obtain ⟨⟨o0, o1, o2⟩, t0, t1, t2⟩ := three_cells hO4
              have hb4n : Below w4.heap.size w4 (w4.alloc (.cells #[.string x.nm, .string x.dt, .int .i64 x.sy] 31)) := (Below.refl _ _).alloc (Nat.le_refl _) _
              have hx4n := hxb4.below hb4n
              have hcat : ¬ 9223372036854775807 < x.dt.size + ss.size := by omega
              have hai := HAB.out
              subst hai
              go_wp2_with fail
              refine (with_any _ cap xs ⟨s, x.dt ++ ss, x.sy⟩ _ hx4n hf hs hlen).mono ?_
              rintro e w5 ⟨a5, cap5, rfl, hres5, hb5⟩
              have hb45 := hb4n.trans (hb5.mono hb4n.size)
              have hbw5 := hbw4.trans (hb45.mono hbw4.size)
              have hle5 := hb45.size
              have hR5 := (hb45.block _ w1').trans hR4
              have hO5 := (hb45.block _ w2').trans hO4
              replace hres5 := hres5.base (base' := w4.heap.size) (by simp)
              clear p0 p1 p2 r0 r1 r2 s0 s1 s2 o0 o1 o2 t0 t1 t2 hb5 hxb4 hbw4 hP4 hR4 hO4 hb45 hb4n hx4n v0 v1 v2 hbl4
              obtain ⟨⟨r0, r1, r2⟩, s0, s1, s2⟩ := three_cells hR5
              obtain ⟨⟨o0, o1, o2⟩, t0, t1, t2⟩ := three_cells hO5
              have hne1 : w.heap.size + 1 ≠ w1.heap.size := by omega
              have hne2 : w1.heap.size ≠ w.heap.size + 1 := by omega
              generalize wi xs ⟨s, x.dt ++ ss, x.sy⟩ = zs at *
              go_wp2
              refine bodyPost_ret (v := .tuple #[fsV a5 zs.length cap5 q (fuel' fu), .int .i64 0]) (by simp [results, Try.results9, go_sem, r0, r1, r2, hne1, hne2]) rfl ⟨a5, cap5, by rw [HCC.out, HYY.out], ?_, ?_⟩
              · rw [HYY.out]
                exact (hres5.kept (fun k h1 h2 => (three_other _ _ _ _ (by omega)).trans (Below.heap_setCell _ _ _ _ (by dsimp only; omega)))).base (by omega)
              · exact (hbw5.setCell (by dsimp only; omega) _).trans (three_below _ _ _ _ (by omega))
end Go.Proofs.Ytgennghhneckeaa
