import Derived.Test.YtgennghhneckeaaSpecSync
namespace Go.Proofs.Ytgennghhneckeaa
open Go.RowKit Go.Maps
set_option linter.unusedVariables false
set_option linter.unusedSimpArgs false

theorem fm_fits {xs : List Fl} (h : Fits xs) {l : List UInt8} {x : ByteArray × Int} (hx : fm xs l = some x) : x.1.size ≤ maxLen := by
  induction xs with
  | nil => cases hx
  | cons f r ih =>
    simp only [fm] at hx
    cases hr : fm r l with
    | some y =>
      rw [hr] at hx
      cases hx
      exact ih (fun g hg => h g (by simp [hg])) hr
    | none =>
      rw [hr] at hx
      dsimp only at hx
      split at hx
      · cases hx
        exact (h f (by simp)).2
      · cases hx
theorem vld_200 {xs : List Fl} {q fu : Int} (hv : vldB xs q fu = true) : xs.length ≤ 200 := by
  have := (vld_head hv).1
  simp [hdOk] at this
  omega
end Go.Proofs.Ytgennghhneckeaa
namespace Go.Proofs.Ytgennghhneckeaa
open Go.RowKit Go.Maps
set_option linter.unusedVariables false
set_option linter.unusedSimpArgs false

theorem atCont_some {fu : Int} {ok : Bool} {o : Option (ByteArray × Int)} {x : ByteArray × Int} (h : atCode fu ok o = 0) (hx : o = some x) : atCont fu ok o = x := by
  unfold atCont
  rw [if_pos h, hx]
  rfl

set_option maxRecDepth 100000 in
set_option maxHeartbeats 1000000 in
theorem sync_any (g mb c : Nat) (q fu : Int) (s : ByteArray) (m : List UInt8 → Option (ByteArray × Int)) (w : World) (h : Ob w g 0 0 mb q fu) (hd : Dir w mb c m) (hc : c < maxLen) (hlo : -1 ≤ fu) (hhi : fu ≤ 9223372036854775807) (hs : s.size ≤ maxLen) :
    Calls Try.prog 22 #[.pointer (some ⟨g, 0, none⟩), .string s] w fun e w' =>
      e = .returned (.int .i64 (atCode fu (nmOk s) (m s.data.toList))) ∧ Ob w' g 0 0 mb q (fuel' fu) ∧
      Dir w' mb c (if atCode fu (nmOk s) (m s.data.toList) = 0 then upd m s.data.toList (((m s.data.toList).getD (ByteArray.empty, 0)).1, ((m s.data.toList).getD (ByteArray.empty, 0)).1.size) else m) ∧ But [g, mb] w.heap.size w w' := by
  have hne := h.ne hd
  have hgl := h.lt
  have hml := hd.lt
  generalize hcd : atCode fu (nmOk s) (m s.data.toList) = cd
  have HC : Hid (atCode fu (nmOk s) (m s.data.toList) = cd) := hcd
  clear hcd
  go_enter_defers Try.func22, Try.ntmps22
  go_wp2_with fail
  refine (wlock_dir g mb q fu _ h).mono ?_
  rintro e w1 ⟨rfl, hob1, hbut1, hsz1⟩
  have hd1 := dir_kept hd hbut1 hml (by simpa using hne.symm)
  have hs1 : w1.heap.size = w.heap.size := hsz1
  clear hsz1
  go_wp2_with fail
  refine (beginAt_nil g mb c _ _ q fu s m _ hob1 hd1 hlo hhi hs).mono ?_
  rintro e w2 ⟨rfl, hob2, hbut2⟩
  rw [HC.out]
  obtain ⟨c6, c7, c8, z8⟩ := hob2.cells
  have hd2 := dir_kept hd1 hbut2 hd1.lt (by simpa using hne.symm)
  have hbut : But [g] w.heap.size w w2 := hbut1.trans (hbut2.mono (by omega))
  have hg2 : g < w2.heap.size := hob2.lt
  have hm2 : mb < w2.heap.size := hd2.lt
  have hle : w.heap.size ≤ w2.heap.size := hbut.size
  have HT : Hid (∀ x, cd = 0 → m s.data.toList = some x → atCont fu (nmOk s) (m s.data.toList) = x) := fun x h0 hx => atCont_some (HC.out.trans h0) hx
  generalize atCont fu (nmOk s) (m s.data.toList) = ct at *
  clear hob1 hd1 hbut1 hbut2 hs1 h hd c7 c8 z8
  by_cases h0 : cd = 0
  · subst h0
    obtain ⟨x, hx⟩ := atCode_some HC.out
    obtain rfl := HT.out x rfl hx
    have HX : Hid (m s.data.toList = some ct) := hx
    clear hx HC HT
    obtain ⟨x0, x1⟩ := ct
    dsimp only
    obtain ⟨w3, hrun, hd3, hturn⟩ := ((hd2.alloc (.cells #[.string x0, .int .i64 x1] 80)).block rfl : Dir ((w2.alloc (.cells #[.string x0, .int .i64 x1] 80)).drew) mb c m).store hc hs x0 x0.size
    rw [HX.out] at hd3
    have r0 : w3.cell? ⟨g, 6, none⟩ = some (.map (some mb)) := (turned_cell hturn (p := ⟨g, 6, none⟩) (by simp; omega) hne).trans ((World.cell?_alloc_lt w2 _ ⟨g, 6, none⟩ hg2).trans c6)
    have r1 : w3.cell? ⟨w2.heap.size, 0, none⟩ = some (.string x0) := (turned_cell hturn (p := ⟨w2.heap.size, 0, none⟩) (by simp) (by simp; omega)).trans (by simp)
    have hob3 : Ob w3 g 1 (-1073741824) mb q (fuel' fu) := hob2.block ((turned_block hturn (by simp; omega) hne).trans (Below.heap_alloc _ _ _ hg2))
    have hbut3 : But [g, mb] w.heap.size w w3 := ((hbut.more (by simp)).trans (But.of ((Below.refl _ _).alloc hle _).drew)).trans (But.turned hturn (by simp))
    have hsz3 : w2.heap.size < w3.heap.size := by have := hturn.grown.size; simp at this; omega
    go_wp2_with fail
    go_region_held3 (fun w' => w'.cell? ⟨g, 6, none⟩ = some (.map (some mb)) ∧ w'.cell? ⟨w2.heap.size, 0, none⟩ = some (.string x0)) (go_keep) (fail)
    all_goals go_wp2
    all_goals
      refine leaves_cons (f := 36) (args := #[.pointer (some ⟨g, 0, none⟩)]) (by simp) (by simp [go_sem]) ?_
      refine (wunlock_dir g mb q (fuel' fu) .returning _ hob3).mono ?_
      rintro e u' w4 ⟨rfl, rfl, hob4, hbut4, hsz4⟩
      refine ⟨_, results_tmp rfl _ _ _, rfl, hob4, ?_, hbut3.trans ((hbut4.mono (by omega)).more (by simp))⟩
      rw [HX.out]
      exact dir_kept hd3 hbut4 hd3.lt (by simpa using hne.symm)
  · have h0' : (cd != 0) = true := by simpa using h0
    have HN : Hid (¬ cd = 0) := h0
    clear h0
    go_wp2
    refine leaves_cons (f := 36) (args := #[.pointer (some ⟨g, 0, none⟩)]) (by simp) (by simp [go_sem]) ?_
    refine (wunlock_dir g mb q (fuel' fu) .returning _ (hob2.block (Below.heap_alloc _ _ _ hg2))).mono ?_
    rintro e u' w4 ⟨rfl, rfl, hob4, hbut4, hsz4⟩
    refine ⟨_, results_tmp rfl _ _ _, rfl, hob4, ?_, ((hbut.more (by simp)).trans (But.of ((Below.refl _ _).alloc hle _))).trans ((hbut4.mono (by simp; omega)).more (by simp))⟩
    exact dir_kept (hd2.alloc _) hbut4 (by simp; omega) (by simpa using hne.symm)
end Go.Proofs.Ytgennghhneckeaa
