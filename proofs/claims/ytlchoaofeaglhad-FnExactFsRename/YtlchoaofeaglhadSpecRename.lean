import Derived.Test.YtlchoaofeaglhadSpecRemove
import Derived.Test.YtlchoaofeaglhadWalkU
namespace Go.Proofs.Ytlchoaofeaglhad
open Go.RowKit Go.Maps
set_option linter.unusedVariables false
set_option linter.unusedSimpArgs false

/-- The file that a renaming leaves under the new name. -/
def rnF (xs : List Fl) (s ss : ByteArray) : Fl := ⟨ss, ((fm xs s.data.toList).getD (ByteArray.empty, 0)).1, ((fm xs s.data.toList).getD (ByteArray.empty, 0)).2⟩

set_option maxRecDepth 100000 in
set_option maxHeartbeats 1000000 in
theorem specRename_bad (a : Option Addr) (cap : Nat) (xs : List Fl) (q fu : Int) (s ss : ByteArray) (w : World) (hx : Lie w a xs) (hf : Fits xs) (hlen : xs.length ≤ 1048576) (hd : datas xs ≤ 1048576) (hv : vldB xs q fu = false) :
    Calls Try.prog 28 #[fsV a xs.length cap q fu, .string s, .string ss] w fun e w' => e = .returned (.tuple #[fsZ, .int .i64 9]) ∧ Below w.heap.size w w' := by
  have hb0 : Below w.heap.size w ((w.alloc (.cells #[.slice a xs.length cap, .int .i64 q, .int .i64 fu] 28)).alloc (.cells #[.slice none 0 0, .int .i64 0, .int .i64 0] 28)) := ((Below.refl _ _).alloc (Nat.le_refl _) _).alloc (by simp) _
  go_enter Try.func28, Try.ntmps28
  go_wp2_with fail
  refine (specBegin_bad a cap xs q fu _ (hx.below hb0) hf hlen hd hv).mono ?_
  rintro e w1 ⟨rfl, hb1⟩
  have hbb := hb0.trans (hb1.mono hb0.size)
  obtain ⟨⟨r0, r1, r2⟩, s0, s1, s2⟩ := three_cells ((hb1.block _ (by simp)).trans (three_new _ _ _ _ _ _))
  have hsz : w.heap.size + 1 < w1.heap.size := by have := hb1.size; simp at this; omega
  clear hx hb1 hb0 hv
  go_wp2
  refine bodyPost_ret (v := .tuple #[fsZ, .int .i64 9]) (by simp [results, Try.results28, go_sem, r0, r1, r2, hsz]) rfl ⟨rfl, ?_⟩
  exact (hbb.trans (three_below w1 _ _ _ (by omega))).alloc (by simp; omega) _

set_option maxRecDepth 100000 in
set_option maxHeartbeats 1000000 in
theorem specRename_ok (a : Option Addr) (cap : Nat) (xs ys : List Fl) (q fu cd : Int) (s ss : ByteArray) (w : World) (hx : Lie w a xs) (hf : Fits xs) (hlen : xs.length ≤ 1048576) (hd : datas xs ≤ 1048576) (hv : vldB xs q fu = true) (hhi : fu ≤ 9223372036854775807) (hs : s.size ≤ maxLen) (hss : ss.size ≤ maxLen)
    (HC : Hid (cd = atCode fu (nmOk ss && nmOk s) (fm xs s.data.toList))) (HY : Hid (ys = if cd = 0 then wi (wo xs s) (rnF xs s ss) else xs)) :
    Calls Try.prog 28 #[fsV a xs.length cap q fu, .string s, .string ss] w fun e w' => ∃ a' cap', e = .returned (.tuple #[fsV a' ys.length cap' q (fuel' fu), .int .i64 cd]) ∧ Res w' w.heap.size a' cap' ys ∧ Below w.heap.size w w' := by
  have hb0 : Below w.heap.size w ((w.alloc (.cells #[.slice a xs.length cap, .int .i64 q, .int .i64 fu] 28)).alloc (.cells #[.slice none 0 0, .int .i64 0, .int .i64 0] 28)) := ((Below.refl _ _).alloc (Nat.le_refl _) _).alloc (by simp) _
  have hrise := rise_of_ok (vld_head hv).2.1
  go_enter Try.func28, Try.ntmps28
  go_wp2_with fail
  refine (specBegin_ok a cap xs q fu _ (hx.below hb0) hf hlen hd hv hhi _ rfl).mono ?_
  rintro e w1 ⟨a1, cap1, rfl, hres, hb1⟩
  have hbb := hb0.trans (hb1.mono hb0.size)
  have hR1 := (hb1.block (w.heap.size + 1) (by simp)).trans (three_new _ _ _ _ _ _)
  obtain ⟨⟨r0, r1, r2⟩, s0, s1, s2⟩ := three_cells hR1
  have hP1 := (hb1.block w.heap.size (by simp; omega)).trans (three_old _ _ _ _ _ _)
  obtain ⟨⟨p0, p1, p2⟩, -⟩ := three_cells hP1
  have hsz : w.heap.size + 1 < w1.heap.size := by have := hb1.size; simp at this; omega
  have hsz0 : w.heap.size < w1.heap.size := by omega
  have hxb := hx.below hbb
  simp at hres
  clear hx hb1 hb0 hv
  by_cases h0 : fu = 0
  · rw [if_pos h0]
    have HC8 : Hid (cd = 8) := by show _ = _; rw [HC.out]; simp [atCode, bgn, h0]
    have HYY : Hid (ys = xs) := by show _ = _; rw [HY.out, if_neg (by rw [HC8.out]; decide)]
    clear HC HY h0
    go_wp2
    refine bodyPost_ret (v := .tuple #[fsV a1 xs.length cap1 q (fuel' fu), .int .i64 8]) (by simp [results, Try.results28, go_sem, r0, r1, r2, hsz]) rfl ⟨a1, cap1, by rw [HC8.out, HYY.out], ?_, ?_⟩
    · rw [HYY.out]
      exact (hres.kept (fun k h1 h2 => (Below.heap_alloc _ _ _ (by simpa using h2)).trans (three_other w1 _ _ _ (by omega)))).base (by omega)
    · exact (hbb.trans (three_below w1 _ _ _ (by omega))).alloc (by simp; omega) _
  · rw [if_neg h0]
    cases hn : nmOk s with
    | false =>
      have HC2 : Hid (cd = 2) := by show _ = _; rw [HC.out]; simp [atCode, bgn, h0, hn]
      have HYY : Hid (ys = xs) := by show _ = _; rw [HY.out, if_neg (by rw [HC2.out]; decide)]
      clear HC HY h0
      go_wp2_with (go_at_call 32; refine (l1NameOk_any s _ hs).mono ?_; rintro e w' ⟨rfl, rfl⟩)
      refine bodyPost_ret (v := .tuple #[fsV a1 xs.length cap1 q (fuel' fu), .int .i64 2]) (by simp [results, Try.results28, go_sem, r0, r1, r2, hsz]) rfl ⟨a1, cap1, by rw [HC2.out, HYY.out], ?_, ?_⟩
      · rw [HYY.out]
        exact (hres.kept (fun k h1 h2 => (Below.heap_alloc _ _ _ (by simpa using h2)).trans (three_other w1 _ _ _ (by omega)))).base (by omega)
      · exact (hbb.trans (three_below w1 _ _ _ (by omega))).alloc (by simp; omega) _
    | true =>
      cases hn2 : nmOk ss with
      | false =>
        have HC2 : Hid (cd = 2) := by show _ = _; rw [HC.out]; simp [atCode, bgn, h0, hn, hn2]
        have HYY : Hid (ys = xs) := by show _ = _; rw [HY.out, if_neg (by rw [HC2.out]; decide)]
        clear HC HY h0
        go_wp2_with fail
        refine (l1NameOk_any s _ hs).mono ?_
        rintro e w' ⟨rfl, rfl⟩
        rw [hn]
        go_wp2_with fail
        refine (l1NameOk_any ss _ hss).mono ?_
        rintro e w' ⟨rfl, rfl⟩
        rw [hn2]
        go_wp2
        refine bodyPost_ret (v := .tuple #[fsV a1 xs.length cap1 q (fuel' fu), .int .i64 2]) (by simp [results, Try.results28, go_sem, r0, r1, r2, hsz]) rfl ⟨a1, cap1, by rw [HC2.out, HYY.out], ?_, ?_⟩
        · rw [HYY.out]
          exact (hres.kept (fun k h1 h2 => (Below.heap_alloc _ _ _ (by simpa using h2)).trans (three_other w1 _ _ _ (by omega)))).base (by omega)
        · exact (hbb.trans (three_below w1 _ _ _ (by omega))).alloc (by simp; omega) _
      | true =>
        have HC1 : Hid (cd = if (fm xs s.data.toList).isSome then 0 else 1) := by show _ = _; rw [HC.out]; simp [atCode, bgn, h0, hn, hn2]
        clear HC h0
        go_wp2_with fail
        refine (l1NameOk_any s _ hs).mono ?_
        rintro e w' ⟨rfl, rfl⟩
        rw [hn]
        go_wp2_with fail
        refine (l1NameOk_any ss _ hss).mono ?_
        rintro e w' ⟨rfl, rfl⟩
        rw [hn2]
        go_wp2_with fail
        have hb2a : Below w.heap.size w (w1.alloc (.cells #[.slice a1 xs.length cap1, .int .i64 q, .int .i64 (fuel' fu)] 28)) := hbb.alloc (by omega) _
        have hb1a : Below w1.heap.size w1 (w1.alloc (.cells #[.slice a1 xs.length cap1, .int .i64 q, .int .i64 (fuel' fu)] 28)) := (Below.refl _ _).alloc (Nat.le_refl _) _
        refine (l1At_any a cap xs q fu s _ (hxb.below hb1a) hlen).mono ?_
        rintro e w2 ⟨⟨r, rfl, hr⟩, hb2⟩
        have hb12 := hb1a.trans (hb2.mono hb1a.size)
        have hbw2 := hbb.trans (hb12.mono hbb.size)
        have hO2 : w2.heap[w1.heap.size]? = some (.cells #[.slice a1 xs.length cap1, .int .i64 q, .int .i64 (fuel' fu)] 28 (0, 0)) := (hb2.block _ (by simp)).trans (World.heap_alloc_new _ _)
        have hP2 := (hb12.block _ hsz0).trans hP1
        have hR2 := (hb12.block _ hsz).trans hR1
        have hres2 := hres.kept (w' := w2) (fun k _ h2 => hb12.block k h2)
        have hxb2 := hxb.below hb12
        have hw12 : w1.heap.size < w2.heap.size := by have := hb2.size; simp at this; omega
        clear p0 p1 p2 r0 r1 r2 s0 s1 s2 hb2 hb12 hb1a hb2a hP1 hR1 hxb hbb hres
        obtain ⟨⟨p0, p1, p2⟩, -⟩ := three_cells hP2
        obtain ⟨⟨r0, r1, r2⟩, s0, s1, s2⟩ := three_cells hR2
        obtain ⟨⟨o0, o1, o2⟩, t0, t1, t2⟩ := three_cells hO2
        have hsz0' : w.heap.size < w2.heap.size := by omega
        have hsz' : w.heap.size + 1 < w2.heap.size := by omega
        rcases hr with ⟨rfl, hall⟩ | ⟨i, hi, rfl, hnm⟩
        · have HC2 : Hid (cd = 1) := by show _ = _; rw [HC1.out, fm_none hall]; rfl
          have HYY : Hid (ys = xs) := by show _ = _; rw [HY.out, if_neg (by rw [HC2.out]; decide)]
          clear HC1 HY hall
          go_wp2
          refine bodyPost_ret (v := .tuple #[fsV a1 xs.length cap1 q (fuel' fu), .int .i64 1]) (by simp [results, Try.results28, go_sem, r0, r1, r2]) rfl ⟨a1, cap1, by rw [HC2.out, HYY.out], ?_, ?_⟩
          · rw [HYY.out]
            exact (hres2.kept (fun k h1 h2 => three_other w2 _ _ _ (by omega))).base (by omega)
          · exact hbw2.trans (three_below w2 _ _ _ (by omega))
        · have HC2 : Hid (cd = 0) := by
            have := fm_at hrise hi
            rw [hnm] at this
            show _ = _
            rw [HC1.out, this]
            rfl
          have HYY : Hid (ys = wi (wo xs s) ⟨ss, (xs.getD i fl0).dt, (xs.getD i fl0).sy⟩) := by
            have := fm_at hrise hi
            rw [hnm] at this
            show _ = _
            rw [HY.out, if_pos HC2.out]
            unfold rnF
            rw [this]
            rfl
          have hff := hf.at hi
          obtain ⟨b, off, rfl, hbl, c0, c1, c2⟩ := hxb2.at hi
          generalize xs.getD i fl0 = x at *
          clear HC1 HY hnm
          have hii : (i : Int) < (xs.length : Int) := by omega
          have hb2n : Below w2.heap.size w2 (w2.alloc (.cells #[.string x.nm, .string x.dt, .int .i64 x.sy] 41)) := (Below.refl _ _).alloc (Nat.le_refl _) _
          have hx2n := hxb2.below hb2n
          have hfw : Fits (wo xs s) := fits_filter hf _
          have hlw : (wo xs s).length ≤ 1048576 := Nat.le_trans (wo_length _ _) hlen
          go_wp2_with fail
          have hF2 : (w2.alloc (.cells #[.string x.nm, .string x.dt, .int .i64 x.sy] 41)).heap[w2.heap.size]? = some (.cells #[.string x.nm, .string x.dt, .int .i64 x.sy] 41 (0, 0)) := World.heap_alloc_new _ _
          have hPW := (hb2n.block _ hsz0').trans hP2
          have hRW := (hb2n.block _ hsz').trans hR2
          have hOW := (hb2n.block _ hw12).trans hO2
          have hbwW := hbw2.trans (hb2n.mono hbw2.size)
          have hszW : w2.heap.size < (w2.alloc (.cells #[.string x.nm, .string x.dt, .int .i64 x.sy] 41)).heap.size := by simp
          generalize hW : w2.alloc (.cells #[.string x.nm, .string x.dt, .int .i64 x.sy] 41) = W at *
          clear hW p0 p1 p2 r0 r1 r2 s0 s1 s2 o0 o1 o2 t0 t1 t2 c0 c1 c2 hb2n hP2 hR2 hO2 hres2 hxb2 hbw2 hbl
          obtain ⟨⟨p0, p1, p2⟩, -⟩ := three_cells hPW
          obtain ⟨⟨-, f1, f2⟩, -⟩ := three_cells hF2
          have hxW := hx2n.below (Below.refl _ W).drew
          have u0 : w.heap.size < W.heap.size := by omega
          have u1 : w1.heap.size < W.heap.size := by omega
          have n1 : w.heap.size ≠ w1.heap.size := by omega
          have n2 : w2.heap.size ≠ w1.heap.size := by omega
          have n3 : w1.heap.size ≠ w.heap.size := by omega
          have n4 : w1.heap.size ≠ w2.heap.size := by omega
          have HOW : Hid _ := hOW
          have HRW : Hid _ := hRW
          clear hOW hRW hPW hF2 hx2n
          go_region_held3 (fun w' => w'.cell? ⟨w.heap.size, 0, none⟩ = some (.slice (some ⟨b, off, none⟩) xs.length cap) ∧ w'.cell? ⟨w2.heap.size, 1, none⟩ = some (.string x.dt) ∧ w'.cell? ⟨w2.heap.size, 2, none⟩ = some (.int .i64 x.sy)) (simp [go_sem, *])
            (first
              | (go_at_call 34; refine (without_any _ cap xs s _ hxW hlen).mono ?_; rintro e w4 ⟨a4, cap4, rfl, hres4, hb4⟩;
                 have k0 := (hb4.cell (p := ⟨w.heap.size, 0, none⟩) u0).trans p0; have k1 := (hb4.cell (p := ⟨w2.heap.size, 1, none⟩) hszW).trans f1; have k2 := (hb4.cell (p := ⟨w2.heap.size, 2, none⟩) hszW).trans f2;
                 have HB4 : Hid (Below W.heap.size W w4) := (Below.refl _ W).drew.trans hb4; have hl4 := hres4.lie;
                 have v0 := Nat.lt_of_lt_of_le u0 hb4.size; have v2 := Nat.lt_of_lt_of_le hszW hb4.size; clear hb4 hres4)
              | (go_at_call 52; refine (with_any _ cap4 (wo xs s) ⟨ss, x.dt, x.sy⟩ _ hl4 hfw hss hlw).mono ?_; rintro e w5 ⟨a5, cap5, rfl, hres5, hb5⟩;
                 have m0 := (hb5.cell (p := ⟨w.heap.size, 0, none⟩) v0).trans k0; have m1 := (hb5.cell (p := ⟨w2.heap.size, 1, none⟩) v2).trans k1; have m2 := (hb5.cell (p := ⟨w2.heap.size, 2, none⟩) v2).trans k2;
                 have HB5 : Hid (Below W.heap.size W w5) := HB4.out.trans (hb5.mono HB4.out.size);
                 have HR5 : Hid (Res w5 w4.heap.size a5 cap5 (wi (wo xs s) ⟨ss, x.dt, x.sy⟩)) := hres5; have hle5 := HB5.out.size; have hle4 := HB4.out.size;
                 obtain ⟨⟨o0, o1, o2⟩, t0, t1, t2⟩ := three_cells ((HB5.out.block _ u1).trans HOW.out); clear hb5 hres5))
          have hR5 := (HB5.out.block _ (show w.heap.size + 1 < W.heap.size by omega)).trans HRW.out
          have hbw5 := hbwW.trans (HB5.out.mono hbwW.size)
          clear p0 p1 p2 f1 f2 k0 k1 k2 m0 m1 m2 HOW HRW HB4 HB5 hl4 hxW hfw
          obtain ⟨⟨r0, r1, r2⟩, s0, s1, s2⟩ := three_cells hR5
          have hne1 : w.heap.size + 1 ≠ w1.heap.size := by omega
          have hne2 : w1.heap.size ≠ w.heap.size + 1 := by omega
          generalize wi (wo xs s) ⟨ss, x.dt, x.sy⟩ = zs at *
          go_wp2
          refine bodyPost_ret (v := .tuple #[fsV a5 zs.length cap5 q (fuel' fu), .int .i64 0]) (by simp [results, Try.results28, go_sem, r0, r1, r2, hne1, hne2]) rfl ⟨a5, cap5, by rw [HC2.out, HYY.out], ?_, ?_⟩
          · rw [HYY.out]
            exact (HR5.out.kept (fun k h1 h2 => (three_other _ _ _ _ (by omega)).trans (Below.heap_setCell _ _ _ _ (by dsimp only; omega)))).base (by omega)
          · exact (hbw5.setCell (by dsimp only; omega) _).trans (three_below _ _ _ _ (by omega))
end Go.Proofs.Ytlchoaofeaglhad
