import Derived.Test.YtgennghhneckeaaCtX

namespace Go.Proofs.Ytgennghhneckeaa
open Go.RowKit Go.Maps
set_option linter.unusedVariables false
set_option linter.unusedSimpArgs false

theorem kb_range {ks : List Int} {i : Nat} {most : Int} (h : 0 ≤ most) : 0 ≤ kb ks i most ∧ kb ks i most ≤ most := by
  unfold kb
  split <;> omega

set_option maxRecDepth 100000 in
set_option maxHeartbeats 2000000 in
theorem crash_any (g mb : Nat) (q fu : Int) (xs : List Fl) (a : Option Addr) (cap : Nat) (ks : List Int) (w : World) (h : Ob w g 0 0 mb q fu) (hd : Dir w mb xs.length (fm xs)) (hr : Rise xs) (hf : Fits xs) (hlen : xs.length ≤ 1048576) (hl : LieI w a ks) (hn : ks.length ≤ 1048576)
    (hsy : ∀ i, i < xs.length → 0 ≤ (xs.getD i fl0).sy ∧ (xs.getD i fl0).sy ≤ (xs.getD i fl0).dt.size) (hga : ∀ b off, a = some ⟨b, off, none⟩ → ks ≠ [] → b ≠ g ∧ b ≠ mb) :
    Calls Try.prog 29 #[.pointer (some ⟨g, 0, none⟩), .slice a ks.length cap] w fun e w' =>
      e = .returned (.tuple #[]) ∧ Ob w' g 0 0 mb q (-1) ∧ Dir w' mb xs.length (fm (crs xs ks xs.length)) ∧ But [g, mb] w.heap.size w w' := by
  have hne := h.ne hd
  have hgl := h.lt
  have hml := hd.lt
  go_enter_defers Try.func29, Try.ntmps29
  go_wp2_with fail
  refine (wlock_dir g mb q fu _ h).mono ?_
  rintro e w1 ⟨rfl, hob1, hbut1, hsz1⟩
  have hd1 := dir_kept hd hbut1 hml (by simpa using hne.symm)
  have hs1 : w1.heap.size = w.heap.size := hsz1
  have hl1 : LieI w1 a ks := hl.kept (by omega) (fun b off e h0 hb => hbut1.block b hb (by simpa using (hga b off e h0).1))
  clear hsz1 h hd hl
  go_wp2_with fail
  refine (names_any g mb _ _ q fu xs _ hob1 hd1 hr hlen).mono ?_
  rintro e w3 ⟨an, cn, rfl, hlie, hbs, hb3⟩
  have hob3 := hob1.below hb3 hob1.lt
  have hd3 := hd1.below hb3 hd1.lt
  have hl3 : LieI w3 a ks := hl1.kept hb3.size (fun b off e _ hb => hb3.block b hb)
  have hbut3 : But [g] w.heap.size w w3 := hbut1.trans (But.of (hb3.mono (by omega)))
  have hle3 := hb3.size
  have HNB : Hid (∀ b off, an = some ⟨b, off, none⟩ → b ≠ mb) := fun b off e => by have := hbs b off e; omega
  have HGA : Hid _ := hga
  have HSY : Hid _ := hsy
  clear hob1 hd1 hl1 hb3 hbs hbut1 hga hsy
  go_wp2_with fail
  go_loopw [18] (fun i wr => ∃ k : Nat, k ≤ xs.length ∧ i = .int .i64 k ∧ Dir wr mb xs.length (fm (crs xs ks k)) ∧ But [mb] w3.heap.size w3 wr) (fun i _ => xs.length - (intOf i).toNat)
  case atStart => exact ⟨0, Nat.zero_le _, rfl, hd3, But.of (Below.refl _ _)⟩
  case round =>
    obtain ⟨k, hk, rfl, hdr, hb⟩ := hrel
    have hobr : Ob wr g 1 (-1073741824) mb q fu := hob3.block (hb.block g hob3.lt (by simpa using hne))
    obtain ⟨d6, d7, d8, y8⟩ := hobr.cells
    have hgr : g < wr.heap.size := hobr.lt
    have hmr : mb < wr.heap.size := hdr.lt
    have hbs := hb.size
    by_cases hlt : k < xs.length
    · have hlr := lieN_kept hlie (w' := wr) (fun b off e hbl => hb.block b hbl (by simpa using HNB.out b off e)) hbs
      obtain ⟨b, off, rfl, hbl, n0⟩ := hlr.at (i := k) (by simpa using hlt)
      have e0 : (xs.map Fl.nm).getD k ByteArray.empty = (xs.getD k fl0).nm := by simp [List.getD, hlt]
      rw [e0] at n0
      have hfk := hf.at hlt
      have hsk := HSY.out k hlt
      have hkr : LieI wr a ks := hl3.kept hbs (fun b off e h0 hbl => hb.block b hbl (by simpa using (HGA.out b off e h0).2))
      have hfa : fm (crs xs ks k) (xs.getD k fl0).nm.data.toList = some ((xs.getD k fl0).dt, (xs.getD k fl0).sy) := by
        have := fm_at (crs_rise hr ks k) (i := k) (by rw [crs_length]; exact hlt)
        rw [crs_same xs ks hlt] at this
        exact this
      have hlk := hdr.look0 hfk.1
      rw [hfa] at hlk
      simp only [Option.getD_some] at hlk
      have HF : Hid (fm (crs xs ks (k + 1)) = upd (fm (crs xs ks k)) (xs.getD k fl0).nm.data.toList ((xs.getD k fl0).dt.extract 0 (crN ks k (xs.getD k fl0)).toNat, crN ks k (xs.getD k fl0))) := crs_fm hr ks hlt
      have hN : crN ks k (xs.getD k fl0) = (xs.getD k fl0).sy + kb ks k (((xs.getD k fl0).dt.size : Int) - (xs.getD k fl0).sy) := rfl
      generalize xs.getD k fl0 = f at *
      have hkb := kb_range (ks := ks) (i := k) (most := (f.dt.size : Int) - f.sy) (by omega)
      have hdz := hfk.2
      unfold maxLen at hdz
      generalize hNN : crN ks k f = N at *
      have HK := fun W (hW : LieI W a ks) => kept_any a cap k ks ((f.dt.size : Int) - f.sy) W hW hn (by omega)
      generalize kb ks k ((f.dt.size : Int) - f.sy) = t at *
      replace HK : Hid _ := HK
      have hw1 : IntKind.i64.wrap ((f.dt.size : Int) - f.sy) = (f.dt.size : Int) - f.sy := by rw [IntKind.wrap_i64]; omega
      have hw2 : IntKind.i64.wrap (f.sy + t) = f.sy + t := by rw [IntKind.wrap_i64]; omega
      have hkA : LieI ((wr.alloc (.cells #[.string f.dt, .int .i64 f.sy] 80)).drew) a ks := hkr.kept (by simp) (fun b off e _ hbl => Below.heap_alloc _ _ _ hbl)
      clear e0 hNN
      go_wp2_with fail
      go_region_held3 (fun w' => w'.cell? ⟨wr.heap.size, 0, none⟩ = some (.string f.dt) ∧ w'.cell? ⟨wr.heap.size, 1, none⟩ = some (.int .i64 f.sy)) (simp [go_sem, *])
        (first | (go_at_call 43; refine (HK.out _ hkA).mono ?_; rintro e w5 ⟨rfl, rfl⟩))
      rw [← hN]
      have hN0 : 0 ≤ N := by omega
      have hN1 : N ≤ (f.dt.size : Int) := by omega
      clear hN hw1 hw2 HK hkA hkr hkb
      have hdA : Dir ((wr.alloc (.cells #[.string f.dt, .int .i64 f.sy] 80)).drew) mb xs.length (fm (crs xs ks k)) := (hdr.alloc _).block rfl
      obtain ⟨w5, hrun, hd5, hturn⟩ := (hdA.block rfl : Dir ((wr.alloc (.cells #[.string f.dt, .int .i64 f.sy] 80)).drew.drew) mb xs.length (fm (crs xs ks k))).store (by unfold maxLen; omega) hfk.1 (f.dt.extract 0 N.toNat) N
      rw [hfa] at hd5
      replace hd5 : Dir w5 mb xs.length (upd (fm (crs xs ks k)) f.nm.data.toList (f.dt.extract 0 N.toNat, N)) := hd5
      have r6 : w5.cell? ⟨g, 6, none⟩ = some (.map (some mb)) := (turned_cell hturn (p := ⟨g, 6, none⟩) (by simp; omega) hne).trans ((World.cell?_alloc_lt wr _ ⟨g, 6, none⟩ hgr).trans d6)
      have r0 : w5.cell? ⟨wr.heap.size, 0, none⟩ = some (.string f.dt) := (turned_cell hturn (p := ⟨wr.heap.size, 0, none⟩) (by simp) (by simp; omega)).trans (by simp)
      have hbut5 : But [mb] w3.heap.size w3 w5 := (hb.trans (But.of (((Below.refl _ _).alloc hbs _).drew).drew)).trans (But.turned hturn (by simp))
      go_wp2_with fail
      go_region_held3 (fun w' => w'.cell? ⟨g, 6, none⟩ = some (.map (some mb)) ∧ w'.cell? ⟨wr.heap.size, 0, none⟩ = some (.string f.dt)) (go_keep) (fail)
      all_goals go_wp2
      all_goals exact ⟨⟨k + 1, by omega, by go_num, by rw [HF.out]; exact hd5, hbut5⟩, by simp [intOf]; omega⟩
    · obtain rfl : k = xs.length := by omega
      have hobf := hobr.fuel (-1)
      have hdf := hdr.setCell (a := ⟨g, 8, none⟩) (v := .int .i64 (-1)) hne.symm
      go_wp2
      refine leaves_cons (f := 36) (args := #[.pointer (some ⟨g, 0, none⟩)]) (by simp) (by simp [go_sem]) ?_
      refine (wunlock_dir g mb q (-1) .returning _ hobf).mono ?_
      rintro e u' w4 ⟨rfl, rfl, hob4, hbut4, hsz4⟩
      have hbutA : But [g, mb] w.heap.size w wr := (hbut3.more (by simp)).trans ((hb.mono (by omega)).more (by simp))
      have hbutB : But [g, mb] w.heap.size w (wr.setCell ⟨g, 8, none⟩ (.int .i64 (-1))) := hbutA.trans (But.setCell _ (by simp))
      refine ⟨_, by simp [results, Try.results29], rfl, hob4, dir_kept hdf hbut4 hdf.lt (by simpa using hne.symm), hbutB.trans ((hbut4.mono (by simp; omega)).more (by simp))⟩
end Go.Proofs.Ytgennghhneckeaa
