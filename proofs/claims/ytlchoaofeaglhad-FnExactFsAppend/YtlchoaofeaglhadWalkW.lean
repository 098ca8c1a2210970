import Derived.Test.YtlchoaofeaglhadWalkV
import Derived.Test.YtlchoaofeaglhadSpecCreate
namespace Go.Proofs.Ytlchoaofeaglhad
open Go.RowKit Go.Maps
set_option linter.unusedVariables false
set_option linter.unusedSimpArgs false

theorem lieN_one (w : World) (s : ByteArray) : LieN (w.alloc (.cells #[.string s] 9)) (some ⟨w.heap.size, 0, none⟩) [s] := by
  refine .inr ⟨w.heap.size, 0, rfl, by simp, fun i hi => ?_⟩
  obtain rfl : i = 0 := by simpa using hi
  simp

set_option maxRecDepth 100000 in
set_option maxHeartbeats 1000000 in
theorem create_any (g mb c : Nat) (q fu : Int) (s : ByteArray) (m : List UInt8 → Option (ByteArray × Int)) (w : World) (h : Ob w g 0 0 mb q fu) (hd : Dir w mb c m) (hc : c < maxLen) (hlo : -1 ≤ fu) (hhi : fu ≤ 9223372036854775807) (hs : s.size ≤ maxLen) :
    Calls Try.prog 58 #[.pointer (some ⟨g, 0, none⟩), .string s] w fun e w' =>
      e = .returned (.int .i64 (crCode fu (nmOk s) (m s.data.toList) c)) ∧ Ob w' g 0 0 mb q (fuel' fu) ∧
      Dir w' mb (if crCode fu (nmOk s) (m s.data.toList) c = 0 then (if (m s.data.toList).isSome then c else c + 1) else c) (if crCode fu (nmOk s) (m s.data.toList) c = 0 then upd m s.data.toList (⟨#[]⟩, 0) else m) ∧ But [g, mb] w.heap.size w w' := by
  have hne := h.ne hd
  have hgl := h.lt
  have hml := hd.lt
  generalize hcd : crCode fu (nmOk s) (m s.data.toList) c = cd
  have HC : Hid (crCode fu (nmOk s) (m s.data.toList) c = cd) := hcd
  clear hcd
  generalize hnc : (if cd = 0 then (if (m s.data.toList).isSome then c else c + 1) else c) = nc
  generalize hnm : (if cd = 0 then upd m s.data.toList (⟨#[]⟩, 0) else m) = nm
  have HNC : Hid ((if cd = 0 then (if (m s.data.toList).isSome then c else c + 1) else c) = nc) := hnc
  have HNM : Hid ((if cd = 0 then upd m s.data.toList (⟨#[]⟩, 0) else m) = nm) := hnm
  clear hnc hnm
  go_enter_defers Try.func58, Try.ntmps58
  go_wp2_with fail
  refine (wlock_dir g mb q fu _ h).mono ?_
  rintro e w1 ⟨rfl, hob1, hbut1, hsz1⟩
  have hd1 := dir_kept hd hbut1 hml (by simpa using hne.symm)
  have hs1 : w1.heap.size = w.heap.size := hsz1
  clear hsz1
  go_wp2_with fail
  have hln := lieN_one w1 s
  rw [hs1] at hln
  refine (begin_any g mb _ _ q fu _ 1 [s] _ (hob1.block (Below.heap_alloc _ _ _ hob1.lt)) hlo hhi hln (by simp; exact hs) (by simp) (fun b off e => by simp at e; omega)).mono ?_
  rintro e w2 ⟨rfl, hob2, hbut2, hsz2⟩
  have hall : [s].all nmOk = nmOk s := by simp
  rw [hall]
  obtain ⟨c6, c7, c8, z8⟩ := hob2.cells
  have hd2 := dir_kept (hd1.alloc _) hbut2 (by simp; omega) (by simpa using hne.symm)
  have hbut : But [g] w.heap.size w w2 := (hbut1.trans (But.of ((Below.refl _ _).alloc (by omega) _))).trans (hbut2.mono (by simp; omega))
  have hg2 : g < w2.heap.size := hob2.lt
  have hm2 : mb < w2.heap.size := hd2.lt
  have hle : w.heap.size ≤ w2.heap.size := hbut.size
  clear hob1 hd1 hbut1 hbut2 hs1 hsz2 h hd c7 c8 z8 hln hall
  have HB : Hid (cd = if bgn fu (nmOk s) ≠ 0 then bgn fu (nmOk s) else if (m s.data.toList).isSome = false ∧ 200 ≤ c then 4 else 0) := HC.out.symm
  clear HC
  generalize bgn fu (nmOk s) = bc at *
  by_cases hb0 : bc = 0
  · subst hb0
    have HB2 : Hid (cd = if (m s.data.toList).isSome = false ∧ 200 ≤ c then 4 else 0) := by show _ = _; rw [HB.out, if_neg (by simp)]
    clear HB
    have hlk := hd2.look hs
    generalize (m s.data.toList).getD (ByteArray.empty, 0) = ct at *
    obtain ⟨ct0, ct1⟩ := ct
    have hda := hd2.alloc (.cells #[.string ct0, .int .i64 ct1] 96)
    have hlen2 := hda.len 3
    obtain ⟨w3, hrun, hd3, hturn⟩ := hda.store hc hs ⟨#[]⟩ 0
    have hob3 : Ob w3 g 1 (-1073741824) mb q (fuel' fu) := hob2.block ((turned_block hturn (by simp; omega) hne).trans (Below.heap_alloc _ _ _ hg2))
    have hbut3 : But [g, mb] w.heap.size w w3 := ((hbut.more (by simp)).trans (But.of ((Below.refl _ _).alloc hle _))).trans (But.turned hturn (by simp))
    have hsz3 : w2.heap.size < w3.heap.size := by have := hturn.grown.size; simp at this; omega
    have HTH : Hid ((m s.data.toList).isSome = (m s.data.toList).isSome) := rfl
    generalize hth : (m s.data.toList).isSome = th at hlk HB2 hd3
    replace HTH : Hid ((m s.data.toList).isSome = th) := hth
    clear hth
    cases th with
    | true =>
      have HCC : Hid (cd = 0) := by show _ = _; rw [HB2.out, if_neg (by simp)]
      clear HB2
      go_wp2
      refine leaves_cons (f := 65) (args := #[.pointer (some ⟨g, 0, none⟩)]) (by simp) (by simp [go_sem]) ?_
      refine (wunlock_dir g mb q (fuel' fu) .returning _ hob3).mono ?_
      rintro e u' w4 ⟨rfl, rfl, hob4, hbut4, hsz4⟩
      refine ⟨_, results_tmp rfl _ _ _, by rw [HCC.out]; rfl, hob4, ?_, hbut3.trans ((hbut4.mono (by omega)).more (by simp))⟩
      rw [← HNC.out, ← HNM.out, HCC.out, if_pos rfl, if_pos rfl, HTH.out]
      exact dir_kept hd3 hbut4 hd3.lt (by simpa using hne.symm)
    | false =>
      by_cases hful : 200 ≤ c
      · have HCC : Hid (cd = 4) := by show _ = _; rw [HB2.out, if_pos ⟨rfl, hful⟩]
        have HN : Hid (¬ cd = 0) := by show ¬ _; rw [HCC.out]; decide
        have hful' : (200 : Int) ≤ (c : Int) := by omega
        clear HB2 hrun hd3 hturn hob3 hbut3 hsz3
        go_wp2
        refine leaves_cons (f := 65) (args := #[.pointer (some ⟨g, 0, none⟩)]) (by simp) (by simp [go_sem]) ?_
        refine (wunlock_dir g mb q (fuel' fu) .returning _ (hob2.block (Below.heap_alloc _ _ _ hg2))).mono ?_
        rintro e u' w4 ⟨rfl, rfl, hob4, hbut4, hsz4⟩
        refine ⟨_, results_tmp rfl _ _ _, by rw [HCC.out]; rfl, hob4, ?_, ((hbut.more (by simp)).trans (But.of ((Below.refl _ _).alloc hle _))).trans ((hbut4.mono (by simp; omega)).more (by simp))⟩
        rw [← HNC.out, ← HNM.out, if_neg HN.out, if_neg HN.out]
        exact dir_kept (hd2.alloc _) hbut4 (by simp; omega) (by simpa using hne.symm)
      · have HCC : Hid (cd = 0) := by show _ = _; rw [HB2.out, if_neg (fun h => hful h.2)]
        have hful' : ¬ (200 : Int) ≤ (c : Int) := by omega
        clear HB2
        go_wp2
        refine leaves_cons (f := 65) (args := #[.pointer (some ⟨g, 0, none⟩)]) (by simp) (by simp [go_sem]) ?_
        refine (wunlock_dir g mb q (fuel' fu) .returning _ hob3).mono ?_
        rintro e u' w4 ⟨rfl, rfl, hob4, hbut4, hsz4⟩
        refine ⟨_, results_tmp rfl _ _ _, by rw [HCC.out]; rfl, hob4, ?_, hbut3.trans ((hbut4.mono (by omega)).more (by simp))⟩
        rw [← HNC.out, ← HNM.out, HCC.out, if_pos rfl, if_pos rfl, HTH.out]
        exact dir_kept hd3 hbut4 hd3.lt (by simpa using hne.symm)
  · have h0' : (bc != 0) = true := by simpa using hb0
    have HCC : Hid (cd = bc) := by show _ = _; rw [HB.out, if_pos hb0]
    have HN : Hid (¬ cd = 0) := by show ¬ _; rw [HCC.out]; exact hb0
    clear hb0 HB
    go_wp2
    refine leaves_cons (f := 65) (args := #[.pointer (some ⟨g, 0, none⟩)]) (by simp) (by simp [go_sem]) ?_
    refine (wunlock_dir g mb q (fuel' fu) .returning _ hob2).mono ?_
    rintro e u' w4 ⟨rfl, rfl, hob4, hbut4, hsz4⟩
    refine ⟨_, results_tmp rfl _ _ _, by rw [HCC.out]; rfl, hob4, ?_, (hbut.more (by simp)).trans ((hbut4.mono (by omega)).more (by simp))⟩
    rw [← HNC.out, ← HNM.out, if_neg HN.out, if_neg HN.out]
    exact dir_kept hd2 hbut4 (by omega) (by simpa using hne.symm)
end Go.Proofs.Ytlchoaofeaglhad
