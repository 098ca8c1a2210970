import Derived.Test.YtgennghhneckeaaCrWalk

namespace Go.Proofs.Ytgennghhneckeaa
open Go.RowKit Go.Maps
set_option linter.unusedVariables false
set_option linter.unusedSimpArgs false

theorem sy_of_vld {xs : List Fl} {q fu : Int} (hv : vldB xs q fu = true) : ∀ i, i < xs.length → 0 ≤ (xs.getD i fl0).sy ∧ (xs.getD i fl0).sy ≤ (xs.getD i fl0).dt.size := by
  intro i hi
  have := (vld_head hv).2.1 i hi
  unfold okAt at this
  generalize xs.getD i fl0 = f at *
  simp at this
  omega
theorem crs_fits {xs : List Fl} (h : Fits xs) (hsy : ∀ i, i < xs.length → 0 ≤ (xs.getD i fl0).sy ∧ (xs.getD i fl0).sy ≤ (xs.getD i fl0).dt.size) (ks : List Int) (k : Nat) : Fits (crs xs ks k) := by
  intro f hf
  obtain ⟨j, hj, rfl⟩ := List.getElem_of_mem hf
  have hj' : j < xs.length := by rw [crs_length] at hj; exact hj
  have e : (crs xs ks k)[j] = (crs xs ks k).getD j fl0 := by simp [List.getD, hj]
  rw [e, crs_at xs ks k j hj']
  have hfj := h.at hj'
  split
  · refine ⟨hfj.1, ?_⟩
    show ((xs.getD j fl0).dt.extract 0 _).size ≤ maxLen
    rw [ByteArray.size_extract]
    have := hfj.2
    omega
  · exact hfj

set_option maxRecDepth 100000 in
set_option maxHeartbeats 1000000 in
theorem implCrash_bad (a : Option Addr) (cap : Nat) (xs : List Fl) (q fu : Int) (ak : Option Addr) (ck : Nat) (ks : List Int) (w : World) (hx : Lie w a xs) (hf : Fits xs) (hlen : xs.length ≤ 1048576) (hd : datas xs ≤ 1048576) (hv : vldB xs q fu = false) :
    Calls Try.prog 10 #[fsV a xs.length cap q fu, .slice ak ks.length ck] w fun e w' => e = .returned fsZ ∧ Below w.heap.size w w' := by
  have hb0 : Below w.heap.size w ((w.alloc (.cells #[.slice a xs.length cap, .int .i64 q, .int .i64 fu] 25)).alloc (.cells #[.slice none 0 0, .int .i64 0, .int .i64 0] 25)) := ((Below.refl _ _).alloc (Nat.le_refl _) _).alloc (by simp) _
  go_enter Try.func10, Try.ntmps10
  go_wp2_with fail
  refine (openDir_bad a cap xs q fu _ (hx.below hb0) hf hlen hd hv).mono ?_
  rintro e w1 ⟨rfl, hb1⟩
  have hbb := hb0.trans (hb1.mono hb0.size)
  obtain ⟨hc, hz⟩ := bcell hb1
  have hsz := hb1.size
  simp at hsz
  clear hx hb1 hb0
  go_wp2
  refine bodyPost_ret (v := fsZ) (by simp [results, Try.results10, go_sem, hc]) rfl ⟨rfl, ?_⟩
  exact hbb.trans (three_below w1 _ _ _ (by omega))

set_option maxRecDepth 100000 in
set_option maxHeartbeats 1000000 in
theorem implCrash_ok (a : Option Addr) (cap : Nat) (xs ys : List Fl) (q fu : Int) (ak : Option Addr) (ck : Nat) (ks : List Int) (w : World) (hx : Lie w a xs) (hf : Fits xs) (hlen : xs.length ≤ 1048576) (hd : datas xs ≤ 1048576) (hv : vldB xs q fu = true) (hl : LieI w ak ks) (hn : ks.length ≤ 1048576)
    (HY : Hid (ys = crs xs ks xs.length)) :
    Calls Try.prog 10 #[fsV a xs.length cap q fu, .slice ak ks.length ck] w fun e w' => ∃ a' cap', e = .returned (fsV a' ys.length cap' q (-1)) ∧ Res w' w.heap.size a' cap' ys ∧ Below w.heap.size w w' := by
  have hb0 : Below w.heap.size w ((w.alloc (.cells #[.slice a xs.length cap, .int .i64 q, .int .i64 fu] 25)).alloc (.cells #[.slice none 0 0, .int .i64 0, .int .i64 0] 25)) := ((Below.refl _ _).alloc (Nat.le_refl _) _).alloc (by simp) _
  have hrise := rise_of_ok (vld_head hv).2.1
  have hsy := sy_of_vld hv
  have hry : Rise ys := by rw [HY.out]; exact crs_rise hrise _ _
  have hfy : Fits ys := by rw [HY.out]; exact crs_fits hf hsy _ _
  have hyl : ys.length = xs.length := by rw [HY.out]; exact crs_length _ _ _
  have HYL : Hid (ys.length = xs.length) := hyl
  have hly : ys.length ≤ 1048576 := by omega
  replace hsy : Hid _ := hsy
  clear hyl
  go_enter Try.func10, Try.ntmps10
  go_wp2_with fail
  refine (openDir_ok a cap xs q fu _ (hx.below hb0) hf hlen hd hv).mono ?_
  rintro e w1 ⟨g, mb, rfl, hmb, hg, hne, hobj, hdir, hb1⟩
  have hbb := hb0.trans (hb1.mono hb0.size)
  simp at hmb hg
  have hp1 : w1.heap[w.heap.size + 1]? = some (.cells #[.slice none 0 0, .int .i64 0, .int .i64 0] 25 (0, 0)) := by
    rw [hb1.block _ (by simp)]
    have := World.heap_alloc_new (w.alloc (.cells #[.slice a xs.length cap, .int .i64 q, .int .i64 fu] 25)) (.cells #[.slice none 0 0, .int .i64 0, .int .i64 0] 25)
    have e : (w.alloc (.cells #[.slice a xs.length cap, .int .i64 q, .int .i64 fu] 25)).heap.size = w.heap.size + 1 := by simp
    rw [e] at this
    exact this
  have hs1 : w.heap.size + 1 < w1.heap.size := by have := hb1.size; simp at this; omega
  have hl1 := hl.below hbb
  have hga : ∀ b off, ak = some ⟨b, off, none⟩ → ks ≠ [] → b ≠ g ∧ b ≠ mb := fun b off e h0 => by have := hl.lt b off e h0; omega
  have HOB : Hid (Ob w1 g 0 0 mb q fu) := hobj
  replace hga : Hid _ := hga
  clear hx hb1 hb0 hv hl hobj
  go_wp2_with fail
  refine (crash_any g mb q fu xs ak ck ks w1 HOB.out hdir hrise hf hlen hl1 hn hsy.out hga.out).mono ?_
  rintro e w2 ⟨rfl, hob2, hdir2, hbut2⟩
  rw [← HY.out, ← HYL.out] at hdir2
  have hb2 : Below w.heap.size w w2 := hbb.trans ((hbut2.mono (by omega)).far (by simp; omega))
  have hp2 : w2.heap[w.heap.size + 1]? = some (.cells #[.slice none 0 0, .int .i64 0, .int .i64 0] 25 (0, 0)) := (hbut2.block _ (by omega) (by simp; omega)).trans hp1
  have hs2 : w.heap.size + 1 < w2.heap.size := Nat.lt_of_lt_of_le hs1 hbut2.size
  clear hdir hbut2 hp1 hs1 hbb hl1 hf HOB hga hsy HY HYL
  go_wp2_with fail
  refine (plain_any g mb q (-1) ys _ hob2 hdir2 hry hfy hly).mono ?_
  rintro e w3 ⟨a', cap', rfl, hres, hb3⟩
  have hbw3 := hb2.trans (hb3.mono hb2.size)
  obtain ⟨⟨x0, x1, x2⟩, f0, f1, f2⟩ := three_cells ((hb3.block _ hs2).trans hp2)
  have hle := hb3.size
  clear hob2 hdir2 hb3 hp2 hb2
  go_wp2
  refine bodyPost_ret (v := fsV a' ys.length cap' q (-1)) (by simp [results, Try.results10, go_sem, x0, x1, x2]) rfl ⟨a', cap', rfl, ?_, ?_⟩
  · exact (hres.kept (fun k h1 h2 => three_other w3 _ _ _ (by omega))).base (by omega)
  · exact hbw3.trans (three_below w3 _ _ _ (by omega))
end Go.Proofs.Ytgennghhneckeaa
