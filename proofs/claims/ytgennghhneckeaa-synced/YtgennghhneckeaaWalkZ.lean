import Derived.Test.YtgennghhneckeaaWalkY

import Derived.Laws.Concat
namespace Go.Proofs.Ytgennghhneckeaa
open Go.RowKit Go.Maps
set_option linter.unusedVariables false
set_option linter.unusedSimpArgs false

/-- What an append answers. -/
def apCode (xs : List Fl) (q fu : Int) (s ss : ByteArray) : Int :=
  if atCode fu (nmOk s) (fm xs s.data.toList) ≠ 0 then atCode fu (nmOk s) (fm xs s.data.toList)
  else if (1048576 : Int) < (datas xs : Int) + (ss.size : Int) then 4
  else if ss.size ≠ 0 ∧ q < (datas xs : Int) + (ss.size : Int) then 3 else 0
/-- The file that an append leaves. -/
def apF (xs : List Fl) (s ss : ByteArray) : Fl := ⟨s, ((fm xs s.data.toList).getD (ByteArray.empty, 0)).1 ++ ss, ((fm xs s.data.toList).getD (ByteArray.empty, 0)).2⟩

theorem fm_size {xs : List Fl} {l : List UInt8} {x : ByteArray × Int} (hx : fm xs l = some x) : x.1.size ≤ datas xs := by
  induction xs with
  | nil => cases hx
  | cons f r ih =>
    have e : datas (f :: r) = f.dt.size + datas r := by simp [datas]
    simp only [fm] at hx
    cases hr : fm r l with
    | some y =>
      rw [hr] at hx
      cases hx
      have := ih hr
      omega
    | none =>
      rw [hr] at hx
      dsimp only at hx
      split at hx
      · cases hx
        simp only
        omega
      · cases hx
theorem isEmpty_size (ss : ByteArray) : ss.toList.isEmpty = decide (ss.size = 0) := by
  rw [ByteArray.toList_eq, Bool.eq_iff_iff, List.isEmpty_iff_length_eq_zero, decide_eq_true_eq]
  show ss.data.toList.length = 0 ↔ ss.data.size = 0
  simp

set_option maxRecDepth 100000 in
set_option maxHeartbeats 2000000 in
theorem append_any (g mb : Nat) (q fu : Int) (s ss : ByteArray) (xs : List Fl) (w : World) (h : Ob w g 0 0 mb q fu) (hd : Dir w mb xs.length (fm xs)) (hr : Rise xs) (hdt : datas xs ≤ 1048576) (hlen : xs.length ≤ 1048576) (hlo : -1 ≤ fu) (hhi : fu ≤ 9223372036854775807) (hs : s.size ≤ maxLen) (hss : ss.size ≤ 1048576)
    (cd : Int) (nm : List UInt8 → Option (ByteArray × Int)) (HC : Hid (cd = apCode xs q fu s ss))
    (HNM : Hid (nm = if cd = 0 then upd (fm xs) s.data.toList ((apF xs s ss).dt, (apF xs s ss).sy) else fm xs)) :
    Calls Try.prog 24 #[.pointer (some ⟨g, 0, none⟩), .string s, .string ss] w fun e w' =>
      e = .returned (.int .i64 cd) ∧ Ob w' g 0 0 mb q (fuel' fu) ∧ Dir w' mb xs.length nm ∧ But [g, mb] w.heap.size w w' := by
  have hne := h.ne hd
  have hgl := h.lt
  have hml := hd.lt
  have HX : Hid (∀ x, fm xs s.data.toList = some x → nm = if cd = 0 then upd (fm xs) s.data.toList (x.1 ++ ss, x.2) else fm xs) := fun x hx => by rw [HNM.out]; unfold apF; rw [hx]; rfl
  have HC' : Hid (cd = if atCode fu (nmOk s) (fm xs s.data.toList) ≠ 0 then atCode fu (nmOk s) (fm xs s.data.toList) else if (1048576 : Int) < (datas xs : Int) + (ss.size : Int) then 4 else if ss.size ≠ 0 ∧ q < (datas xs : Int) + (ss.size : Int) then 3 else 0) := HC.out
  have HAC : Hid (∀ c, atCode fu (nmOk s) (fm xs s.data.toList) = c → c = 0 → ∃ x, fm xs s.data.toList = some x ∧ atCont fu (nmOk s) (fm xs s.data.toList) = x) := fun c hc h0 => by
    obtain ⟨x, hx⟩ := atCode_some (hc.trans h0)
    exact ⟨x, hx, atCont_some (hc.trans h0) hx⟩
  have HN0 : Hid (¬ cd = 0 → nm = fm xs) := fun h0 => by rw [HNM.out, if_neg h0]
  clear HC HNM
  go_enter_defers Try.func24, Try.ntmps24
  go_wp2_with fail
  refine (wlock_dir g mb q fu _ h).mono ?_
  rintro e w1 ⟨rfl, hob1, hbut1, hsz1⟩
  have hd1 := dir_kept hd hbut1 hml (by simpa using hne.symm)
  have hs1 : w1.heap.size = w.heap.size := hsz1
  clear hsz1
  go_wp2_with fail
  refine (beginAt_nil g mb xs.length _ _ q fu s (fm xs) _ hob1 hd1 hlo hhi hs).mono ?_
  rintro e w2 ⟨rfl, hob2, hbut2⟩
  obtain ⟨c6, c7, c8, z8⟩ := hob2.cells
  have hd2 := dir_kept hd1 hbut2 hd1.lt (by simpa using hne.symm)
  have hbut : But [g] w.heap.size w w2 := hbut1.trans (hbut2.mono (by omega))
  have hg2 : g < w2.heap.size := hob2.lt
  have hm2 : mb < w2.heap.size := hd2.lt
  have hle : w.heap.size ≤ w2.heap.size := hbut.size
  generalize atCont fu (nmOk s) (fm xs s.data.toList) = ct at *
  generalize hac : atCode fu (nmOk s) (fm xs s.data.toList) = ac at *
  replace HAC := HAC.out ac rfl
  replace HAC : Hid _ := HAC
  clear hob1 hd1 hbut1 hbut2 hs1 h hd c7 c8 z8 hac
  by_cases h0 : ac = 0
  · subst h0
    obtain ⟨x, HF, rfl⟩ := HAC.out rfl
    replace HX := HX.out _ HF
    replace HX : Hid _ := HX
    replace HF : Hid _ := HF
    have HC2 : Hid (cd = if (1048576 : Int) < (datas xs : Int) + (ss.size : Int) then 4 else if ss.size ≠ 0 ∧ q < (datas xs : Int) + (ss.size : Int) then 3 else 0) := by show _ = _; rw [HC'.out, if_neg (by simp)]
    clear HAC HC'
    obtain ⟨x0, x1⟩ := ct
    dsimp only
    have hoba : Ob (w2.alloc (.cells #[.string x0, .int .i64 x1] 80)) g 1 (-1073741824) mb q (fuel' fu) := hob2.block (Below.heap_alloc _ _ _ hg2)
    have hda := hd2.alloc (.cells #[.string x0, .int .i64 x1] 80)
    go_wp2_with fail
    refine (total_any g mb _ _ q (fuel' fu) xs _ hoba hda hr hdt).mono ?_
    rintro e w3 ⟨rfl, hb3⟩
    have hob3 := hoba.below hb3 hoba.lt
    have hd3 := hda.below hb3 hda.lt
    have hbut3 : But [g] w.heap.size w w3 := (hbut.trans (But.of ((Below.refl _ _).alloc hle _))).trans (But.of (hb3.mono (by simp; omega)))
    have k0 : w3.cell? ⟨w2.heap.size, 0, none⟩ = some (.string x0) := (hb3.cell (p := ⟨w2.heap.size, 0, none⟩) (by simp)).trans (by simp)
    have k1 : w3.cell? ⟨w2.heap.size, 1, none⟩ = some (.int .i64 x1) := (hb3.cell (p := ⟨w2.heap.size, 1, none⟩) (by simp)).trans (by simp)
    have hsz3 : w2.heap.size < w3.heap.size := by have := hb3.size; simp at this; omega
    have hg3 : g < w3.heap.size := hob3.lt
    have hm3 : mb < w3.heap.size := hd3.lt
    have hmg : mb < w2.heap.size := hm2
    clear c6 hoba hda hb3 hob2 hd2 hbut
    obtain ⟨c6, c7, c8, z8⟩ := hob3.cells
    clear c8 z8
    have hw3 : w.heap.size ≤ w3.heap.size := by omega
    have hx0 := fm_size HF.out
    dsimp only at hx0
    have hcat : x0.size + ss.size ≤ 9223372036854775807 := by omega
    have hcat2 : ∀ W : World, (Op.stringOp .add x0 ss).run Try.prog W = .ok (.string (x0 ++ ss)) W := fun W => Go.run_string_add_sum _ _ _ hcat
    have hcat3 : ¬ 9223372036854775807 < x0.size + ss.size := by omega
    by_cases hbig : (1048576 : Int) < (datas xs : Int) + (ss.size : Int)
    · have HCC : Hid (cd = 4) := by show _ = _; rw [HC2.out, if_pos hbig]
      have HN : Hid (nm = fm xs) := HN0.out (by rw [HCC.out]; decide)
      clear HC2 HX HN0 HF
      go_wp2
      refine leaves_cons (f := 36) (args := #[.pointer (some ⟨g, 0, none⟩)]) (by simp) (by simp [go_sem]) ?_
      refine (wunlock_dir g mb q (fuel' fu) .returning _ hob3).mono ?_
      rintro e u' w4 ⟨rfl, rfl, hob4, hbut4, hsz4⟩
      refine ⟨_, results_tmp rfl _ _ _, by rw [HCC.out]; rfl, hob4, ?_, (hbut3.more (by simp)).trans ((hbut4.mono (by omega)).more (by simp))⟩
      rw [HN.out]
      exact dir_kept hd3 hbut4 hd3.lt (by simpa using hne.symm)
    · have HC3 : Hid (cd = if ss.size ≠ 0 ∧ q < (datas xs : Int) + (ss.size : Int) then 3 else 0) := by show _ = _; rw [HC2.out, if_neg hbig]
      clear HC2
      have hes := isEmpty_size ss
      cases he : ss.toList.isEmpty with
      | true =>
        rw [he] at hes
        have hz : ss.size = 0 := by simpa using hes.symm
        have HCC : Hid (cd = 0) := by show _ = _; rw [HC3.out, if_neg (fun h => h.1 hz)]
        clear hes hz
        have HN : Hid (nm = upd (fm xs) s.data.toList (x0 ++ ss, x1)) := by show _ = _; rw [HX.out, if_pos HCC.out]
        clear HX HC3 HN0
        obtain ⟨w5, hrun, hd5, hturn5⟩ := (hd3.block rfl : Dir w3.drew mb xs.length (fm xs)).store (by unfold maxLen; omega) hs (x0 ++ ss) x1
        rw [HF.out] at hd5
        replace hd5 : Dir w5 mb xs.length (upd (fm xs) s.data.toList (x0 ++ ss, x1)) := hd5
        have r6 : w5.cell? ⟨g, 6, none⟩ = some (.map (some mb)) := (turned_cell hturn5 (p := ⟨g, 6, none⟩) hg3 hne).trans c6
        have r0 : w5.cell? ⟨w2.heap.size, 0, none⟩ = some (.string x0) := (turned_cell hturn5 (p := ⟨w2.heap.size, 0, none⟩) hsz3 (by simp; omega)).trans k0
        have r1 : w5.cell? ⟨w2.heap.size, 1, none⟩ = some (.int .i64 x1) := (turned_cell hturn5 (p := ⟨w2.heap.size, 1, none⟩) hsz3 (by simp; omega)).trans k1
        have hob5 : Ob w5 g 1 (-1073741824) mb q (fuel' fu) := (hob3.block rfl : Ob w3.drew g 1 (-1073741824) mb q (fuel' fu)).block (turned_block hturn5 hg3 hne)
        have hbut5 : But [g, mb] w.heap.size w w5 := ((hbut3.more (by simp)).trans (But.of (Below.refl _ _).drew)).trans (But.turned hturn5 (by simp))
        have hsz5 : w.heap.size ≤ w5.heap.size := hbut5.size
        go_wp2_with fail
        go_region_held3 (fun w' => w'.cell? ⟨g, 6, none⟩ = some (.map (some mb)) ∧ w'.cell? ⟨w2.heap.size, 0, none⟩ = some (.string x0) ∧ w'.cell? ⟨w2.heap.size, 1, none⟩ = some (.int .i64 x1)) (go_keep) (fail)
        all_goals go_wp2
        all_goals
          refine leaves_cons (f := 36) (args := #[.pointer (some ⟨g, 0, none⟩)]) (by simp) (by simp [go_sem]) ?_
          refine (wunlock_dir g mb q (fuel' fu) .returning _ hob5).mono ?_
          rintro e u' w6 ⟨rfl, rfl, hob6, hbut6, hsz6⟩
          refine ⟨_, results_tmp rfl _ _ _, by rw [HCC.out]; rfl, hob6, ?_, hbut5.trans ((hbut6.mono hsz5).more (by simp))⟩
          rw [HN.out]
          exact dir_kept hd5 hbut6 hd5.lt (by simpa using hne.symm)
      | false =>
        rw [he] at hes
        have hz : ss.size ≠ 0 := by simpa using hes.symm
        clear hes
        by_cases hq : q < (datas xs : Int) + (ss.size : Int)
        · have HCC : Hid (cd = 3) := by show _ = _; rw [HC3.out, if_pos ⟨hz, hq⟩]
          have HN : Hid (nm = fm xs) := HN0.out (by rw [HCC.out]; decide)
          clear HC3 HX HN0 HF hz
          go_wp2
          refine leaves_cons (f := 36) (args := #[.pointer (some ⟨g, 0, none⟩)]) (by simp) (by simp [go_sem]) ?_
          refine (wunlock_dir g mb q (fuel' fu) .returning _ hob3).mono ?_
          rintro e u' w4 ⟨rfl, rfl, hob4, hbut4, hsz4⟩
          refine ⟨_, results_tmp rfl _ _ _, by rw [HCC.out]; rfl, hob4, ?_, (hbut3.more (by simp)).trans ((hbut4.mono (by omega)).more (by simp))⟩
          rw [HN.out]
          exact dir_kept hd3 hbut4 hd3.lt (by simpa using hne.symm)
        · have HCC : Hid (cd = 0) := by show _ = _; rw [HC3.out, if_neg (fun h => hq h.2)]
          clear hz
          have HN : Hid (nm = upd (fm xs) s.data.toList (x0 ++ ss, x1)) := by show _ = _; rw [HX.out, if_pos HCC.out]
          clear HX HC3 HN0
          obtain ⟨w5, hrun, hd5, hturn5⟩ := (hd3.block rfl : Dir w3.drew mb xs.length (fm xs)).store (by unfold maxLen; omega) hs (x0 ++ ss) x1
          rw [HF.out] at hd5
          replace hd5 : Dir w5 mb xs.length (upd (fm xs) s.data.toList (x0 ++ ss, x1)) := hd5
          have r6 : w5.cell? ⟨g, 6, none⟩ = some (.map (some mb)) := (turned_cell hturn5 (p := ⟨g, 6, none⟩) hg3 hne).trans c6
          have r0 : w5.cell? ⟨w2.heap.size, 0, none⟩ = some (.string x0) := (turned_cell hturn5 (p := ⟨w2.heap.size, 0, none⟩) hsz3 (by simp; omega)).trans k0
          have r1 : w5.cell? ⟨w2.heap.size, 1, none⟩ = some (.int .i64 x1) := (turned_cell hturn5 (p := ⟨w2.heap.size, 1, none⟩) hsz3 (by simp; omega)).trans k1
          have hob5 : Ob w5 g 1 (-1073741824) mb q (fuel' fu) := (hob3.block rfl : Ob w3.drew g 1 (-1073741824) mb q (fuel' fu)).block (turned_block hturn5 hg3 hne)
          have hbut5 : But [g, mb] w.heap.size w w5 := ((hbut3.more (by simp)).trans (But.of (Below.refl _ _).drew)).trans (But.turned hturn5 (by simp))
          have hsz5 : w.heap.size ≤ w5.heap.size := hbut5.size
          go_wp2_with fail
          go_region_held3 (fun w' => w'.cell? ⟨g, 6, none⟩ = some (.map (some mb)) ∧ w'.cell? ⟨w2.heap.size, 0, none⟩ = some (.string x0) ∧ w'.cell? ⟨w2.heap.size, 1, none⟩ = some (.int .i64 x1)) (go_keep) (fail)
          all_goals go_wp2
          all_goals
            refine leaves_cons (f := 36) (args := #[.pointer (some ⟨g, 0, none⟩)]) (by simp) (by simp [go_sem]) ?_
            refine (wunlock_dir g mb q (fuel' fu) .returning _ hob5).mono ?_
            rintro e u' w6 ⟨rfl, rfl, hob6, hbut6, hsz6⟩
            refine ⟨_, results_tmp rfl _ _ _, by rw [HCC.out]; rfl, hob6, ?_, hbut5.trans ((hbut6.mono hsz5).more (by simp))⟩
            rw [HN.out]
            exact dir_kept hd5 hbut6 hd5.lt (by simpa using hne.symm)
  · have h0' : (ac != 0) = true := by simpa using h0
    have HCC : Hid (cd = ac) := by show _ = _; rw [HC'.out, if_pos h0]
    have HN : Hid (nm = fm xs) := HN0.out (by rw [HCC.out]; exact h0)
    clear h0 HC' HAC HX HN0
    go_wp2
    refine leaves_cons (f := 36) (args := #[.pointer (some ⟨g, 0, none⟩)]) (by simp) (by simp [go_sem]) ?_
    refine (wunlock_dir g mb q (fuel' fu) .returning _ (hob2.block (Below.heap_alloc _ _ _ hg2))).mono ?_
    rintro e u' w4 ⟨rfl, rfl, hob4, hbut4, hsz4⟩
    refine ⟨_, results_tmp rfl _ _ _, by rw [HCC.out]; rfl, hob4, ?_, ((hbut.more (by simp)).trans (But.of ((Below.refl _ _).alloc hle _))).trans ((hbut4.mono (by simp; omega)).more (by simp))⟩
    rw [HN.out]
    exact dir_kept (hd2.alloc _) hbut4 (by simp; omega) (by simpa using hne.symm)
end Go.Proofs.Ytgennghhneckeaa
