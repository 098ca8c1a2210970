import Derived.Test.YtohpfjpgihcmiaaGreatDoorLpG

namespace Go.Proofs.YtohpfjpgihcmiaaGreatDoor
open Go.RowKit Go.Maps
set_option linter.unusedVariables false
set_option linter.unusedSimpArgs false

theorem smO_of {os : List OpW} {s : ByteArray} (h : os.map (·.o) = (psV s).2.1) : (os.length ≤ 2000 ∧ ∀ x ∈ os, x.o.bt.length ≤ 80000 ∧ x.o.kp.length ≤ 80000) ∧ SmO (os.map (·.o)) := by
  obtain ⟨h1, h2⟩ := psV_len s
  rw [← h] at h1 h2
  refine ⟨⟨by simpa using h1, fun x hx => h2 x.o (List.mem_map.2 ⟨x, hx, rfl⟩)⟩, h1, fun o ho => ?_⟩
  have := h2 o ho
  omega
set_option maxRecDepth 100000 in
set_option maxHeartbeats 8000000 in
theorem lawPs_any (s : ByteArray) (w : World) (hv : VarsP w) :
    Calls Tryz.prog 3 #[.string s] w fun e w' => e = .returned (.bool true) ∧ Below w.heap.size w w' := by
  by_cases hbig : 1048576 < s.size
  · have hbig' : (1048576 : Int) < (s.size : Int) := by omega
    go_enter Tryz.func3, Tryz.ntmps3
    go_wp2_with fail
    go_ret
    exact ⟨rfl, Below.refl _ _⟩
  · have hbig' : ¬ (1048576 : Int) < (s.size : Int) := by omega
    have HS := hdN (specPs_any s w (by omega))
    have HI := hdN (fun (w' : World) (hb : Below w.heap.size w w') => implPs_any s w' (by omega) (hv.below hb))
    have HSM := hdN (fun (os : List OpW) (h : os.map (·.o) = (psV s).2.1) => smO_of h)
    generalize psV s = R at *
    go_enter Tryz.func3, Tryz.ntmps3
    go_wp2_with fail
    refine HS.out.mono ?_
    rintro e w1 ⟨q, v1, os1, c, rfl, hsc1, hR, hb1⟩
    subst hR
    obtain ⟨a1, cap1, rfl, hl1⟩ := lieO_of hsc1
    obtain ⟨W1, hW1⟩ : ∃ W1, W1 = w1.alloc (.cells #[.int .i64 q, .slice a1 os1.length cap1] 24) := ⟨_, rfl⟩
    have hbA : Below w1.heap.size w1 W1 := by rw [hW1]; exact (Below.refl _ _).alloc (Nat.le_refl _) _
    have hA : W1.heap[w1.heap.size]? = some (.cells #[.int .i64 q, .slice a1 os1.length cap1] 24 (0, 0)) := by rw [hW1]; exact World.heap_alloc_new _ _
    have hsA : w1.heap.size < W1.heap.size := heap_ltP hA
    have hbw1 : Below w.heap.size w W1 := hb1.trans (hbA.mono hb1.size)
    have hl1A := hl1.below hbA
    have hl1Z := hl1A
    clear HS hsc1 hb1 hbA hl1
    go_wp2_with fail
    rw [← hW1]
    refine (HI.out W1 hbw1).mono ?_
    rintro e w2 ⟨q2, v2, os2, c2, rfl, hsc2, hR2, hb2⟩
    obtain ⟨rfl, h2⟩ := Prod.mk.inj hR2
    obtain ⟨hm2, rfl⟩ := Prod.mk.inj h2
    clear hR2 h2 hW1
    obtain ⟨a2, cap2, rfl, hl2⟩ := lieO_of hsc2
    obtain ⟨W2, hW2⟩ : ∃ W2, W2 = w2.alloc (.cells #[.int .i64 q2, .slice a2 os2.length cap2] 24) := ⟨_, rfl⟩
    have hbB : Below w2.heap.size w2 W2 := by rw [hW2]; exact (Below.refl _ _).alloc (Nat.le_refl _) _
    have hB : W2.heap[w2.heap.size]? = some (.cells #[.int .i64 q2, .slice a2 os2.length cap2] 24 (0, 0)) := by rw [hW2]; exact World.heap_alloc_new _ _
    have hs2 := hb2.size
    have hbw2 : Below W1.heap.size W1 W2 := hb2.trans (hbB.mono hs2)
    have hA2 := (hbw2.block w1.heap.size hsA).trans hA
    have hsB : w2.heap.size < W2.heap.size := heap_ltP hB
    have hl1B := hl1A.below hbw2
    have hl2B := hl2.below hbB
    have hsc2B := hsc2.below hbB
    obtain ⟨⟨hsz, hsz2⟩, hsm⟩ := HSM.out os2 hm2
    have HEQ := hdN (eqScript_same q2 a2 a1 cap2 cap1 os2 os1 W2 hl2B hl1B hm2 hsm)
    obtain ⟨x0, x1, -⟩ := two_cellsP hA2
    obtain ⟨y0, y1, -⟩ := two_cellsP hB
    have hbwW2 : Below w.heap.size w W2 := hbw1.trans (hbw2.mono hbw1.size)
    go_upto_region 5 with fail
    rw [← hW2]
    clear hW2 hb2 hbB hA hl2 hl1A hsc2
    go_wp2_with fail
    refine HEQ.out.mono ?_
    rintro e w3 ⟨rfl, hb3⟩
    have hA3 := (hb3.block w1.heap.size (by omega)).trans hA2
    have hB3 := (hb3.block w2.heap.size hsB).trans hB
    have HMK := hdN (markScript_any q2 a2 os2.length cap2 W1.heap.size os2 w3 (hsc2B.below hb3) hsz hsz2 (by have := hb3.size; omega))
    have hbw3 : Below w.heap.size w w3 := hbwW2.trans (hb3.mono hbwW2.size)
    have hl1C := hl1B.below hb3
    clear x0 x1 y0 y1 HEQ
    obtain ⟨x0, x1, -⟩ := two_cellsP hA3
    obtain ⟨y0, y1, -⟩ := two_cellsP hB3
    go_wp2_with fail
    refine HMK.out.mono ?_
    rintro e w4 ⟨rfl, hb4, hkp4, hl4⟩
    have hA4 := hkp4 _ _ hA3
    have hB4 := hkp4 _ _ hB3
    have HHD := hdN (heldScript_any q2 a2 cap2 os2 w4 hl4 hsz hsz2)
    have hbw4 : Below w.heap.size w w4 := hbw3.trans (hb4.mono hbw1.size)
    have hbW4 : Below W1.heap.size W1 w4 := (hbw2.trans (hb3.mono hbw2.size)).trans hb4
    have hn : ¬ ((enK 1 os2 : Nat) : Int) < 0 := by omega
    generalize enK 1 os2 = K at *
    clear x0 x1 y0 y1 HMK
    obtain ⟨x0, x1, -⟩ := two_cellsP hA4
    obtain ⟨y0, y1, -⟩ := two_cellsP hB4
    go_wp2_with fail
    refine HHD.out.mono ?_
    rintro e w5 ⟨rfl, hb5⟩
    have hA5 := (hb5.block w1.heap.size (heap_ltP hA4)).trans hA4
    have hbw5 : Below w.heap.size w w5 := hbw4.trans (hb5.mono hbw4.size)
    have hbW5 : Below W1.heap.size W1 w5 := hbW4.trans (hb5.mono hbW4.size)
    clear x0 x1 y0 y1 HHD
    obtain ⟨x0, x1, -⟩ := two_cellsP hA5
    go_wp2_with fail
    refine (HI.out w5 hbw5).mono ?_
    rintro e w6 ⟨q6, v6, os6, c6, rfl, hsc6, hR6, hb6⟩
    obtain ⟨rfl, h6⟩ := Prod.mk.inj hR6
    obtain ⟨hm6, rfl⟩ := Prod.mk.inj h6
    clear hR6 h6
    obtain ⟨a6, cap6, rfl, hl6⟩ := lieO_of hsc6
    obtain ⟨W6, hW6⟩ : ∃ W6, W6 = w6.alloc (.cells #[.int .i64 q6, .slice a6 os6.length cap6] 24) := ⟨_, rfl⟩
    have hbC : Below w6.heap.size w6 W6 := by rw [hW6]; exact (Below.refl _ _).alloc (Nat.le_refl _) _
    have hC : W6.heap[w6.heap.size]? = some (.cells #[.int .i64 q6, .slice a6 os6.length cap6] 24 (0, 0)) := by rw [hW6]; exact World.heap_alloc_new _ _
    have hbw6 : Below w5.heap.size w5 W6 := hb6.trans (hbC.mono hb6.size)
    have hA6 := (hbw6.block w1.heap.size (heap_ltP hA5)).trans hA5
    have hsm6 := (HSM.out os6 hm6).2
    have hbW6 : Below W1.heap.size W1 W6 := hbW5.trans (hbw6.mono hbW5.size)
    have HEQ := hdN (eqScript_same q6 a6 a1 cap6 cap1 os6 os1 W6 (hl6.below hbC) (hl1Z.below hbW6) hm6 hsm6)
    have hbZ : Below w.heap.size w W6 := hbw5.trans (hbw6.mono hbw5.size)
    clear x0 x1
    obtain ⟨x0, x1, -⟩ := two_cellsP hA6
    obtain ⟨y0, y1, -⟩ := two_cellsP hC
    go_upto_region 16 with fail
    rw [← hW6]
    clear hW6
    go_wp2_with fail
    refine HEQ.out.mono ?_
    rintro e w7 ⟨rfl, hb7⟩
    go_wp2_with fail
    go_ret
    exact ⟨rfl, hbZ.trans (hb7.mono hbZ.size)⟩
end Go.Proofs.YtohpfjpgihcmiaaGreatDoor
