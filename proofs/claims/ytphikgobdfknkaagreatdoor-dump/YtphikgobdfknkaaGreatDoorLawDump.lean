import Derived.Test.YtphikgobdfknkaaGreatDoorDmS

namespace Go.Proofs.YtphikgobdfknkaaGreatDoor
open Go.RowKit Go.Maps
set_option linter.unusedVariables false
set_option linter.unusedSimpArgs false

set_option maxHeartbeats 1000000 in
theorem lawDump_any (a : Option Addr) (cap : Nat) (xs : List Fl) (q fu : Int) (w : World) (hx : Lie w a xs) (hf : Fits xs) (hlen : xs.length ≤ maxLen) (hv : VarsN w) (hst : Steps w) :
    Calls Tryz.prog 3 #[.agg #[.slice a xs.length cap, .int .i64 q, .int .i64 fu]] w fun e w' => e = .returned (.bool true) ∧ Below w.heap.size w w' := by
  have hb0 : Below w.heap.size w (w.alloc (.cells #[.slice a xs.length cap, .int .i64 q, .int .i64 fu] 24)) := (Below.refl _ _).alloc (Nat.le_refl _) _
  have hx0 := hx.below hb0
  go_enter Tryz.func3, Tryz.ntmps3
  go_wp2_with fail
  refine (szFS_any a cap xs q fu _ _ hx0 hf hlen (by decide) (by decide)).mono ?_
  rintro e w1 ⟨⟨r, rfl, hr1, hr2⟩, hb1⟩
  have hbw1 : Below w.heap.size w w1 := hb0.trans (hb1.mono hb0.size)
  rcases hr2 with rfl | ⟨hr0, hr⟩
  · go_wp2
    go_ret
    exact ⟨rfl, hbw1⟩
  · have hl : xs.length ≤ 1048576 := by omega
    have hd : datas xs ≤ 1048576 := by have := datas_le_bulk xs; omega
    clear hr hr1 hlen
    have p1 : w1.cell? ⟨w.heap.size, 0, none⟩ = some (.slice a xs.length cap) ∧ w1.cell? ⟨w.heap.size, 1, none⟩ = some (.int .i64 q) ∧ w1.cell? ⟨w.heap.size, 2, none⟩ = some (.int .i64 fu) :=
      ⟨(hb1.cell (p := ⟨w.heap.size, 0, none⟩) (by simp)).trans (by simp), (hb1.cell (p := ⟨w.heap.size, 1, none⟩) (by simp)).trans (by simp), (hb1.cell (p := ⟨w.heap.size, 2, none⟩) (by simp)).trans (by simp)⟩
    have s1 : w.heap.size < w1.heap.size := by have := hb1.size; simp at this; omega
    clear hb0 hb1
    obtain ⟨c0, c1, c2⟩ := p1
    go_wp2_with fail
    refine (toFS_any a cap xs q fu _ (hx.below hbw1) hl).mono ?_
    rintro e w2 ⟨g, rfl, hg, hp, hb2⟩
    have hbw2 := hbw1.trans (hb2.mono hbw1.size)
    replace c0 := (hb2.cell (p := ⟨w.heap.size, 0, none⟩) s1).trans c0
    replace c1 := (hb2.cell (p := ⟨w.heap.size, 1, none⟩) s1).trans c1
    replace c2 := (hb2.cell (p := ⟨w.heap.size, 2, none⟩) s1).trans c2
    replace s1 := Nat.lt_of_lt_of_le s1 hb2.size
    clear hb2 hbw1 hg
    go_wp2_with fail
    refine (specDump_any _ xs.length xs q fu _ hp.lie hf hl hd).mono ?_
    rintro e w3 ⟨rfl, hb3⟩
    have hbw3 := hbw2.trans (hb3.mono hbw2.size)
    replace c0 := (hb3.cell (p := ⟨w.heap.size, 0, none⟩) s1).trans c0
    replace c1 := (hb3.cell (p := ⟨w.heap.size, 1, none⟩) s1).trans c1
    replace c2 := (hb3.cell (p := ⟨w.heap.size, 2, none⟩) s1).trans c2
    replace s1 := Nat.lt_of_lt_of_le s1 hb3.size
    clear hb3 hbw2 hp
    have HDI := hdN (fun a' w' hy hv' hst' => implDump_any a' xs.length xs q fu w' hy hf hl hd hv' hst')
    generalize dumpT xs q fu = ra at *
    go_wp2_with fail
    refine (toFS_any a cap xs q fu _ (hx.below hbw3) hl).mono ?_
    rintro e w4 ⟨g, rfl, hg, hp, hb4⟩
    have hbw4 := hbw3.trans (hb4.mono hbw3.size)
    replace c0 := (hb4.cell (p := ⟨w.heap.size, 0, none⟩) s1).trans c0
    replace c1 := (hb4.cell (p := ⟨w.heap.size, 1, none⟩) s1).trans c1
    replace c2 := (hb4.cell (p := ⟨w.heap.size, 2, none⟩) s1).trans c2
    replace s1 := Nat.lt_of_lt_of_le s1 hb4.size
    have hy := hp.lie
    clear hb4 hbw3 hg hp
    go_wp2_with fail
    have hb5 : Below w4.heap.size w4 (w4.alloc (.cells #[.slice (some ⟨g, 0, none⟩) xs.length xs.length, .int .i64 q, .int .i64 fu] 29)) := (Below.refl _ _).alloc (Nat.le_refl _) _
    refine (HDI.out _ _ (hy.below hb5) (hv.below (hbw4.trans (hb5.mono hbw4.size))) (hst.below (hbw4.trans (hb5.mono hbw4.size)))).mono ?_
    rintro e w6 ⟨rfl, hb6⟩
    have hbw6 := hbw4.trans ((hb5.trans (hb6.mono hb5.size)).mono hbw4.size)
    have hb56 := hb5.trans (hb6.mono hb5.size)
    have hy6 := hy.below hb56
    replace c0 := (hb56.cell (p := ⟨w.heap.size, 0, none⟩) s1).trans c0
    replace c1 := (hb56.cell (p := ⟨w.heap.size, 1, none⟩) s1).trans c1
    replace c2 := (hb56.cell (p := ⟨w.heap.size, 2, none⟩) s1).trans c2
    have e0 : w6.cell? ⟨w4.heap.size, 0, none⟩ = some (.slice (some ⟨g, 0, none⟩) xs.length xs.length) := (hb6.cell (p := ⟨w4.heap.size, 0, none⟩) (by simp)).trans (by simp)
    have e1 : w6.cell? ⟨w4.heap.size, 1, none⟩ = some (.int .i64 q) := (hb6.cell (p := ⟨w4.heap.size, 1, none⟩) (by simp)).trans (by simp)
    have e2 : w6.cell? ⟨w4.heap.size, 2, none⟩ = some (.int .i64 fu) := (hb6.cell (p := ⟨w4.heap.size, 2, none⟩) (by simp)).trans (by simp)
    have s2 : w4.heap.size < w6.heap.size := by have := hb6.size; simp at this; omega
    have s3 : w.heap.size < w6.heap.size := by omega
    have hy6d : Lie w6.drew (some ⟨g, 0, none⟩) xs := hy6.below (Below.refl _ _).drew
    clear hb5 hb6 hb56 hbw4 hy hy6 HDI
    have hra : (ra.toList != ra.toList) = false := by simp
    have hra' : (!(ra.toList == ra.toList)) = false := by simp
    go_wp2_with fail
    go_region_held3 (fun w' => w'.cell? ⟨w.heap.size, 0, none⟩ = some (.slice a xs.length cap) ∧ w'.cell? ⟨w.heap.size, 1, none⟩ = some (.int .i64 q) ∧ w'.cell? ⟨w.heap.size, 2, none⟩ = some (.int .i64 fu) ∧ w'.cell? ⟨w4.heap.size, 0, none⟩ = some (.slice (some ⟨g, 0, none⟩) xs.length xs.length) ∧ w'.cell? ⟨w4.heap.size, 1, none⟩ = some (.int .i64 q) ∧ w'.cell? ⟨w4.heap.size, 2, none⟩ = some (.int .i64 fu)) (simp [go_sem, *])
      (first
        | (go_at_call 6; refine (toFS_any a cap xs q fu _ (hx.below hbw6.drew) hl).mono ?_; rintro e w7 ⟨g2, rfl, hg2, hp2, hb7⟩;
           have k0 := (hb7.cell (p := ⟨w.heap.size, 0, none⟩) s3).trans c0; have k1 := (hb7.cell (p := ⟨w.heap.size, 1, none⟩) s3).trans c1; have k2 := (hb7.cell (p := ⟨w.heap.size, 2, none⟩) s3).trans c2;
           have l0 := (hb7.cell (p := ⟨w4.heap.size, 0, none⟩) s2).trans e0; have l1 := (hb7.cell (p := ⟨w4.heap.size, 1, none⟩) s2).trans e1; have l2 := (hb7.cell (p := ⟨w4.heap.size, 2, none⟩) s2).trans e2;
           have hbw7 := hbw6.drew.trans (hb7.mono hbw6.drew.size); have hy7 := hy6d.below hb7; have hp3 := hp2.lie;
           have s4 := Nat.lt_of_lt_of_le s3 hb7.size; have s5 := Nat.lt_of_lt_of_le s2 hb7.size; clear hb7 hp2 hg2)
        | (go_at_call 8; refine (eqFS_same _ _ _ _ xs q fu _ hy7 hp3 hl).mono ?_; rintro e w8 ⟨rfl, hb8⟩;
           have m0 := (hb8.cell (p := ⟨w.heap.size, 0, none⟩) s4).trans k0; have m1 := (hb8.cell (p := ⟨w.heap.size, 1, none⟩) s4).trans k1; have m2 := (hb8.cell (p := ⟨w.heap.size, 2, none⟩) s4).trans k2;
           have n0 := (hb8.cell (p := ⟨w4.heap.size, 0, none⟩) s5).trans l0; have n1 := (hb8.cell (p := ⟨w4.heap.size, 1, none⟩) s5).trans l1; have n2 := (hb8.cell (p := ⟨w4.heap.size, 2, none⟩) s5).trans l2;
           have hbw8 := hbw7.trans (hb8.mono hbw7.size)))
    all_goals go_wp2
    all_goals go_ret
    all_goals exact ⟨rfl, hbw8⟩
end Go.Proofs.YtphikgobdfknkaaGreatDoor
