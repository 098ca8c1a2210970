import Derived.Test.YtlchoaofeaglhadWalkT
import Derived.Test.YtlchoaofeaglhadWalkQ
namespace Go.Proofs.Ytlchoaofeaglhad
open Go.RowKit Go.Maps
set_option linter.unusedVariables false
set_option linter.unusedSimpArgs false

theorem three_new (w : World) (o : Obj) (x0 x1 x2 : Value) (t : TypeId) : ((w.alloc o).alloc (.cells #[x0, x1, x2] t)).heap[w.heap.size + 1]? = some (.cells #[x0, x1, x2] t (0, 0)) := by
  have := World.heap_alloc_new (w.alloc o) (.cells #[x0, x1, x2] t)
  have e : (w.alloc o).heap.size = w.heap.size + 1 := by simp
  rw [e] at this
  exact this
theorem three_old (w : World) (o : Obj) (x0 x1 x2 : Value) (t : TypeId) : ((w.alloc (.cells #[x0, x1, x2] t)).alloc o).heap[w.heap.size]? = some (.cells #[x0, x1, x2] t (0, 0)) :=
  (Below.heap_alloc _ _ _ (by simp)).trans (World.heap_alloc_new _ _)

set_option maxRecDepth 100000 in
set_option maxHeartbeats 1000000 in
theorem specRemove_bad (a : Option Addr) (cap : Nat) (xs : List Fl) (q fu : Int) (s : ByteArray) (w : World) (hx : Lie w a xs) (hf : Fits xs) (hlen : xs.length ≤ 1048576) (hd : datas xs ≤ 1048576) (hv : vldB xs q fu = false) :
    Calls Try.prog 10 #[fsV a xs.length cap q fu, .string s] w fun e w' => e = .returned (.tuple #[fsZ, .int .i64 9]) ∧ Below w.heap.size w w' := by
  have hb0 : Below w.heap.size w ((w.alloc (.cells #[.slice a xs.length cap, .int .i64 q, .int .i64 fu] 28)).alloc (.cells #[.slice none 0 0, .int .i64 0, .int .i64 0] 28)) := ((Below.refl _ _).alloc (Nat.le_refl _) _).alloc (by simp) _
  go_enter Try.func10, Try.ntmps10
  go_wp2_with fail
  refine (specBegin_bad a cap xs q fu _ (hx.below hb0) hf hlen hd hv).mono ?_
  rintro e w1 ⟨rfl, hb1⟩
  have hbb := hb0.trans (hb1.mono hb0.size)
  obtain ⟨⟨r0, r1, r2⟩, s0, s1, s2⟩ := three_cells ((hb1.block _ (by simp)).trans (three_new _ _ _ _ _ _))
  have hsz : w.heap.size + 1 < w1.heap.size := by have := hb1.size; simp at this; omega
  clear hx hb1 hb0 hv
  go_wp2
  refine bodyPost_ret (v := .tuple #[fsZ, .int .i64 9]) (by simp [results, Try.results10, go_sem, r0, r1, r2, hsz]) rfl ⟨rfl, ?_⟩
  exact (hbb.trans (three_below w1 _ _ _ (by omega))).alloc (by simp; omega) _

set_option maxRecDepth 100000 in
set_option maxHeartbeats 1000000 in
theorem specRemove_ok (a : Option Addr) (cap : Nat) (xs ys : List Fl) (q fu cd : Int) (s : ByteArray) (w : World) (hx : Lie w a xs) (hf : Fits xs) (hlen : xs.length ≤ 1048576) (hd : datas xs ≤ 1048576) (hv : vldB xs q fu = true) (hhi : fu ≤ 9223372036854775807) (hs : s.size ≤ maxLen)
    (HC : Hid (cd = atCode fu (nmOk s) (fm xs s.data.toList))) (HY : Hid (ys = if cd = 0 then wo xs s else xs)) :
    Calls Try.prog 10 #[fsV a xs.length cap q fu, .string s] w fun e w' => ∃ a' cap', e = .returned (.tuple #[fsV a' ys.length cap' q (fuel' fu), .int .i64 cd]) ∧ Res w' w.heap.size a' cap' ys ∧ Below w.heap.size w w' := by
  have hb0 : Below w.heap.size w ((w.alloc (.cells #[.slice a xs.length cap, .int .i64 q, .int .i64 fu] 28)).alloc (.cells #[.slice none 0 0, .int .i64 0, .int .i64 0] 28)) := ((Below.refl _ _).alloc (Nat.le_refl _) _).alloc (by simp) _
  have hrise := rise_of_ok (vld_head hv).2.1
  go_enter Try.func10, Try.ntmps10
  go_wp2_with fail
  refine (specBegin_ok a cap xs q fu _ (hx.below hb0) hf hlen hd hv hhi _ rfl).mono ?_
  rintro e w1 ⟨a1, cap1, rfl, hres, hb1⟩
  have hbb := hb0.trans (hb1.mono hb0.size)
  have hR1 := (hb1.block (w.heap.size + 1) (by simp)).trans (three_new _ _ _ _ _ _)
  obtain ⟨⟨r0, r1, r2⟩, s0, s1, s2⟩ := three_cells hR1
  have hP1 := (hb1.block w.heap.size (by simp; omega)).trans (three_old _ _ _ _ _ _)
  obtain ⟨⟨p0, p1, p2⟩, -⟩ := three_cells hP1
  have hsz : w.heap.size + 1 < w1.heap.size := by have := hb1.size; simp at this; omega
  have hsz0 : w.heap.size < w1.heap.size := by omega
  have hxb := hx.below hbb
  simp at hres
  clear hx hb1 hb0 hv
  by_cases h0 : fu = 0
  · rw [if_pos h0]
    have HC8 : Hid (cd = 8) := by show _ = _; rw [HC.out]; simp [atCode, bgn, h0]
    have HYY : Hid (ys = xs) := by show _ = _; rw [HY.out, if_neg (by rw [HC8.out]; decide)]
    clear HC HY h0
    go_wp2
    refine bodyPost_ret (v := .tuple #[fsV a1 xs.length cap1 q (fuel' fu), .int .i64 8]) (by simp [results, Try.results10, go_sem, r0, r1, r2, hsz]) rfl ⟨a1, cap1, by rw [HC8.out, HYY.out], ?_, ?_⟩
    · rw [HYY.out]
      exact (hres.kept (fun k h1 h2 => (Below.heap_alloc _ _ _ (by simpa using h2)).trans (three_other w1 _ _ _ (by omega)))).base (by omega)
    · exact (hbb.trans (three_below w1 _ _ _ (by omega))).alloc (by simp; omega) _
  · rw [if_neg h0]
    cases hn : nmOk s with
    | false =>
      have HC2 : Hid (cd = 2) := by show _ = _; rw [HC.out]; simp [atCode, bgn, h0, hn]
      have HYY : Hid (ys = xs) := by show _ = _; rw [HY.out, if_neg (by rw [HC2.out]; decide)]
      clear HC HY h0
      go_wp2_with (go_at_call 32; refine (l1NameOk_any s _ hs).mono ?_; rintro e w' ⟨rfl, rfl⟩)
      refine bodyPost_ret (v := .tuple #[fsV a1 xs.length cap1 q (fuel' fu), .int .i64 2]) (by simp [results, Try.results10, go_sem, r0, r1, r2, hsz]) rfl ⟨a1, cap1, by rw [HC2.out, HYY.out], ?_, ?_⟩
      · rw [HYY.out]
        exact (hres.kept (fun k h1 h2 => (Below.heap_alloc _ _ _ (by simpa using h2)).trans (three_other w1 _ _ _ (by omega)))).base (by omega)
      · exact (hbb.trans (three_below w1 _ _ _ (by omega))).alloc (by simp; omega) _
    | true =>
      have HC1 : Hid (cd = if (fm xs s.data.toList).isSome then 0 else 1) := by show _ = _; rw [HC.out]; simp [atCode, bgn, h0, hn]
      clear HC h0
      go_wp2_with (go_at_call 32; refine (l1NameOk_any s _ hs).mono ?_; rintro e w' ⟨rfl, rfl⟩)
      have hb2a : Below w.heap.size w (w1.alloc (.cells #[.slice a1 xs.length cap1, .int .i64 q, .int .i64 (fuel' fu)] 28)) := hbb.alloc (by omega) _
      have hb1a : Below w1.heap.size w1 (w1.alloc (.cells #[.slice a1 xs.length cap1, .int .i64 q, .int .i64 (fuel' fu)] 28)) := (Below.refl _ _).alloc (Nat.le_refl _) _
      refine (l1At_any a cap xs q fu s _ (hxb.below hb1a) hlen).mono ?_
      rintro e w2 ⟨⟨r, rfl, hr⟩, hb2⟩
      have hb12 := hb1a.trans (hb2.mono hb1a.size)
      have hbw2 := hbb.trans (hb12.mono hbb.size)
      have hO2 : w2.heap[w1.heap.size]? = some (.cells #[.slice a1 xs.length cap1, .int .i64 q, .int .i64 (fuel' fu)] 28 (0, 0)) := (hb2.block _ (by simp)).trans (World.heap_alloc_new _ _)
      have hP2 := (hb12.block _ hsz0).trans hP1
      have hR2 := (hb12.block _ hsz).trans hR1
      have hres2 := hres.kept (w' := w2) (fun k _ h2 => hb12.block k h2)
      have hxb2 := hxb.below hb12
      have hw12 : w1.heap.size < w2.heap.size := by have := hb2.size; simp at this; omega
      clear p0 p1 p2 r0 r1 r2 s0 s1 s2 hb2 hb12 hb1a hb2a hP1 hR1 hxb hbb hres
      obtain ⟨⟨p0, p1, p2⟩, -⟩ := three_cells hP2
      obtain ⟨⟨r0, r1, r2⟩, s0, s1, s2⟩ := three_cells hR2
      obtain ⟨⟨o0, o1, o2⟩, t0, t1, t2⟩ := three_cells hO2
      have hsz0' : w.heap.size < w2.heap.size := by omega
      have hsz' : w.heap.size + 1 < w2.heap.size := by omega
      rcases hr with ⟨rfl, hall⟩ | ⟨i, hi, rfl, hnm⟩
      · have HC2 : Hid (cd = 1) := by show _ = _; rw [HC1.out, fm_none hall]; rfl
        have HYY : Hid (ys = xs) := by show _ = _; rw [HY.out, if_neg (by rw [HC2.out]; decide)]
        clear HC1 HY hall
        go_wp2
        refine bodyPost_ret (v := .tuple #[fsV a1 xs.length cap1 q (fuel' fu), .int .i64 1]) (by simp [results, Try.results10, go_sem, r0, r1, r2]) rfl ⟨a1, cap1, by rw [HC2.out, HYY.out], ?_, ?_⟩
        · rw [HYY.out]
          exact (hres2.kept (fun k h1 h2 => three_other w2 _ _ _ (by omega))).base (by omega)
        · exact hbw2.trans (three_below w2 _ _ _ (by omega))
      · have HC2 : Hid (cd = 0) := by
          have := fm_at hrise hi
          rw [hnm] at this
          show _ = _
          rw [HC1.out, this]
          rfl
        have HYY : Hid (ys = wo xs s) := by show _ = _; rw [HY.out, if_pos HC2.out]
        clear HC1 HY hnm hi
        go_wp2_with fail
        refine (without_any a cap xs s _ hxb2 hlen).mono ?_
        rintro e w3 ⟨a3, cap3, rfl, hres3, hb3⟩
        have hbw3 := hbw2.trans (hb3.mono hbw2.size)
        have hle3 := hb3.size
        have hR3 := (hb3.block _ hsz').trans hR2
        have hO3 := (hb3.block _ hw12).trans hO2
        clear p0 p1 p2 r0 r1 r2 s0 s1 s2 o0 o1 o2 t0 t1 t2 hb3 hres2 hxb2 hbw2 hP2 hR2 hO2
        obtain ⟨⟨r0, r1, r2⟩, s0, s1, s2⟩ := three_cells hR3
        obtain ⟨⟨o0, o1, o2⟩, t0, t1, t2⟩ := three_cells hO3
        have hne1 : w.heap.size + 1 ≠ w1.heap.size := by omega
        have hne2 : w1.heap.size ≠ w.heap.size + 1 := by omega
        go_wp2
        refine bodyPost_ret (v := .tuple #[fsV a3 (wo xs s).length cap3 q (fuel' fu), .int .i64 0]) (by simp [results, Try.results10, go_sem, r0, r1, r2, hne1, hne2]) rfl ⟨a3, cap3, by rw [HC2.out, HYY.out], ?_, ?_⟩
        · rw [HYY.out]
          exact (hres3.kept (fun k h1 h2 => (three_other _ _ _ _ (by omega)).trans (Below.heap_setCell _ _ _ _ (by dsimp only; omega)))).base (by omega)
        · exact (hbw3.setCell (by dsimp only; omega) _).trans (three_below _ _ _ _ (by omega))
end Go.Proofs.Ytlchoaofeaglhad
