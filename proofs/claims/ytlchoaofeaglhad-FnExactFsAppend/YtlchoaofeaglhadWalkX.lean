import Derived.Test.YtlchoaofeaglhadWalkV
import Derived.Test.YtlchoaofeaglhadWalkW
namespace Go.Proofs.Ytlchoaofeaglhad
open Go.RowKit Go.Maps
set_option linter.unusedVariables false
set_option linter.unusedSimpArgs false

theorem owns_lit1 (w : World) (s : ByteArray) (B : Nat) (hB : B ≤ w.heap.size) : (w.alloc (.cells #[.string s] 9)).ownsRow B 9 1 (.slice (some ⟨w.heap.size, 0, none⟩) 1 1) 1 [.string s] :=
  ⟨rfl, .inr ⟨w.heap.size, 1, #[.string s], rfl, hB, World.heap_alloc_new _ _, Nat.le_refl _, by decide, rfl, rfl⟩⟩

set_option maxRecDepth 100000 in
set_option maxHeartbeats 1000000 in
theorem rename_any (g mb c : Nat) (q fu : Int) (s s2 : ByteArray) (m : List UInt8 → Option (ByteArray × Int)) (w : World) (h : Ob w g 0 0 mb q fu) (hd : Dir w mb c m) (hc : c < maxLen) (hlo : -1 ≤ fu) (hhi : fu ≤ 9223372036854775807) (hs : s.size ≤ maxLen) (hs2 : s2.size ≤ maxLen)
    (cd : Int) (nc : Nat) (nm : List UInt8 → Option (ByteArray × Int)) (HC : Hid (cd = atCode fu (nmOk s2 && nmOk s) (m s.data.toList)))
    (HNC : Hid (nc = if cd = 0 then (if (del m s.data.toList s2.data.toList).isSome then c - 1 else c - 1 + 1) else c)) (HNM : Hid (nm = if cd = 0 then upd (del m s.data.toList) s2.data.toList ((m s.data.toList).getD (ByteArray.empty, 0)) else m)) :
    Calls Try.prog 60 #[.pointer (some ⟨g, 0, none⟩), .string s, .string s2] w fun e w' =>
      e = .returned (.int .i64 cd) ∧ Ob w' g 0 0 mb q (fuel' fu) ∧ Dir w' mb nc nm ∧ But [g, mb] w.heap.size w w' := by
  have hne := h.ne hd
  have hgl := h.lt
  have hml := hd.lt
  go_enter_defers Try.func60, Try.ntmps60
  go_wp2_with fail
  refine (wlock_dir g mb q fu _ h).mono ?_
  rintro e w1 ⟨rfl, hob1, hbut1, hsz1⟩
  have hd1 := dir_kept hd hbut1 hml (by simpa using hne.symm)
  have hs1 : w1.heap.size = w.heap.size := hsz1
  clear hsz1
  go_wp2_with fail
  have hrow := owns_lit1 w1 s2 w1.heap.size (Nat.le_refl _)
  rw [hs1] at hrow
  refine (beginAt_any g mb c w.heap.size _ _ q fu _ 1 [s2] s m _ (hob1.block (Below.heap_alloc _ _ _ hob1.lt)) (hd1.alloc _) hlo hhi hrow hgl hml (by simp; omega) (by simp; exact hs2) hs (by simp)).mono ?_
  rintro e w2 ⟨rfl, hob2, hbut2⟩
  have hall : ([s2] ++ [s]).all nmOk = (nmOk s2 && nmOk s) := by simp
  rw [hall, ← HC.out]
  have HT : Hid (∀ x, cd = 0 → m s.data.toList = some x → atCont fu (nmOk s2 && nmOk s) (m s.data.toList) = x) := fun x h0 hx => atCont_some (HC.out.symm.trans h0) hx
  generalize atCont fu (nmOk s2 && nmOk s) (m s.data.toList) = ct at *
  obtain ⟨c6, c7, c8, z8⟩ := hob2.cells
  have hd2 := dir_kept (hd1.alloc (.cells #[.string s2] 9)) hbut2 hml (by simpa using hne.symm)
  have hbut : But [g] w.heap.size w w2 := (hbut1.trans (But.of ((Below.refl _ _).alloc (by omega) _))).trans hbut2
  have hg2 : g < w2.heap.size := hob2.lt
  have hm2 : mb < w2.heap.size := hd2.lt
  have hle : w.heap.size ≤ w2.heap.size := hbut.size
  clear hob1 hd1 hbut1 hbut2 hs1 h hd c7 c8 z8 hrow hall
  by_cases h0 : cd = 0
  · subst h0
    obtain ⟨x, hx⟩ := atCode_some HC.out.symm
    obtain rfl := HT.out x rfl hx
    have HX : Hid (m s.data.toList = some ct) := hx
    clear hx HC HT
    obtain ⟨x0, x1⟩ := ct
    dsimp only
    have hda := hd2.alloc (.cells #[.string x0, .int .i64 x1] 96)
    go_wp2_with (at_delete; refine wpList_delete_dir _ rfl _ _ rfl rfl rfl hda hs ?_; intro w3 hd3 hturn)
    rw [HX.out] at hd3
    replace hd3 : Dir w3 mb (c - 1) (del m s.data.toList) := hd3
    have hg3 : g < w3.heap.size := by have := hturn.grown.size; simp at this; omega
    have hsz3 : w2.heap.size < w3.heap.size := by have := hturn.grown.size; simp at this; omega
    have k6 : w3.cell? ⟨g, 6, none⟩ = some (.map (some mb)) := (turned_cell hturn (p := ⟨g, 6, none⟩) (by simp; omega) hne).trans ((World.cell?_alloc_lt w2 _ ⟨g, 6, none⟩ hg2).trans c6)
    have k0 : w3.cell? ⟨w2.heap.size, 0, none⟩ = some (.string x0) := (turned_cell hturn (p := ⟨w2.heap.size, 0, none⟩) (by simp) (by simp; omega)).trans (by simp)
    have k1 : w3.cell? ⟨w2.heap.size, 1, none⟩ = some (.int .i64 x1) := (turned_cell hturn (p := ⟨w2.heap.size, 1, none⟩) (by simp) (by simp; omega)).trans (by simp)
    have hob3 : Ob w3 g 1 (-1073741824) mb q (fuel' fu) := hob2.block ((turned_block hturn (by simp; omega) hne).trans (Below.heap_alloc _ _ _ hg2))
    have hbut3 : But [g, mb] w.heap.size w w3 := ((hbut.more (by simp)).trans (But.of ((Below.refl _ _).alloc hle _))).trans (But.turned hturn (by simp))
    clear hturn hda hd2 hob2 hbut c6
    obtain ⟨w5, hrun, hd5, hturn5⟩ := (hd3.block rfl : Dir w3.drew mb (c - 1) (del m s.data.toList)).store (by omega) hs2 x0 x1
    have r6 : w5.cell? ⟨g, 6, none⟩ = some (.map (some mb)) := (turned_cell hturn5 (p := ⟨g, 6, none⟩) hg3 hne).trans k6
    have r0 : w5.cell? ⟨w2.heap.size, 0, none⟩ = some (.string x0) := (turned_cell hturn5 (p := ⟨w2.heap.size, 0, none⟩) hsz3 (by simp; omega)).trans k0
    have r1 : w5.cell? ⟨w2.heap.size, 1, none⟩ = some (.int .i64 x1) := (turned_cell hturn5 (p := ⟨w2.heap.size, 1, none⟩) hsz3 (by simp; omega)).trans k1
    have hob5 : Ob w5 g 1 (-1073741824) mb q (fuel' fu) := (hob3.block rfl : Ob w3.drew g 1 (-1073741824) mb q (fuel' fu)).block (turned_block hturn5 hg3 hne)
    have hbut5 : But [g, mb] w.heap.size w w5 := (hbut3.trans (But.of (Below.refl _ _).drew)).trans (But.turned hturn5 (by simp))
    have hsz5 : w.heap.size ≤ w5.heap.size := hbut5.size
    go_region_held3 (fun w' => w'.cell? ⟨g, 6, none⟩ = some (.map (some mb)) ∧ w'.cell? ⟨w2.heap.size, 0, none⟩ = some (.string x0) ∧ w'.cell? ⟨w2.heap.size, 1, none⟩ = some (.int .i64 x1)) (go_keep) (fail)
    all_goals go_wp2
    all_goals
      refine leaves_cons (f := 65) (args := #[.pointer (some ⟨g, 0, none⟩)]) (by simp) (by simp [go_sem]) ?_
      refine (wunlock_dir g mb q (fuel' fu) .returning _ hob5).mono ?_
      rintro e u' w6 ⟨rfl, rfl, hob6, hbut6, hsz6⟩
      refine ⟨_, results_tmp rfl _ _ _, rfl, hob6, ?_, hbut5.trans ((hbut6.mono hsz5).more (by simp))⟩
      rw [HNC.out, HNM.out, if_pos trivial, if_pos trivial, HX.out]
      exact dir_kept hd5 hbut6 hd5.lt (by simpa using hne.symm)
  · have h0' : (cd != 0) = true := by simpa using h0
    have HN : Hid (¬ cd = 0) := h0
    clear h0
    go_wp2
    refine leaves_cons (f := 65) (args := #[.pointer (some ⟨g, 0, none⟩)]) (by simp) (by simp [go_sem]) ?_
    refine (wunlock_dir g mb q (fuel' fu) .returning _ (hob2.block (Below.heap_alloc _ _ _ hg2))).mono ?_
    rintro e u' w4 ⟨rfl, rfl, hob4, hbut4, hsz4⟩
    refine ⟨_, results_tmp rfl _ _ _, rfl, hob4, ?_, ((hbut.more (by simp)).trans (But.of ((Below.refl _ _).alloc hle _))).trans ((hbut4.mono (by simp; omega)).more (by simp))⟩
    rw [HNC.out, HNM.out, if_neg HN.out, if_neg HN.out]
    exact dir_kept (hd2.alloc _) hbut4 (by simp; omega) (by simpa using hne.symm)
end Go.Proofs.Ytlchoaofeaglhad
