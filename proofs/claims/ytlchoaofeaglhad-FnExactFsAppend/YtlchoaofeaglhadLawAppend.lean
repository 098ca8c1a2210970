import Derived.Test.YtlchoaofeaglhadOutAppend
namespace Go.Proofs.Ytlchoaofeaglhad
open Go.RowKit Go.Maps
set_option linter.unusedVariables false
set_option linter.unusedSimpArgs false

set_option maxRecDepth 100000 in
set_option maxHeartbeats 4000000 in
theorem lawAppend_any (a : Option Addr) (cap : Nat) (xs : List Fl) (q fu : Int) (s ss : ByteArray) (w : World) (hx : Lie w a xs) (hf : Fits xs) (hlen : xs.length ≤ maxLen) (hhi : fu ≤ 9223372036854775807) (hs : s.size ≤ maxLen) (hss : ss.size ≤ maxLen) :
    Calls Try.prog 6 #[.agg #[.slice a xs.length cap, .int .i64 q, .int .i64 fu], .string s, .string ss] w fun e w' => e = .returned (.bool true) ∧ Below w.heap.size w w' := by
  have hb0 := new_below w (.cells #[.slice a xs.length cap, .int .i64 q, .int .i64 fu] 24)
  have hx0 := hx.below hb0
  have hbL := Box.new w 24 (.slice a xs.length cap) (.int .i64 q) (.int .i64 fu)
  have hs' := hs
  have hss' := hss
  unfold maxLen at hs' hss'
  by_cases hbig : (1048576 : Int) < (s.size : Int)
  · go_enter Try.func6, Try.ntmps6
    go_wp2
    go_ret
    exact ⟨rfl, hb0⟩
  by_cases hbig2 : (1048576 : Int) < (ss.size : Int)
  · go_enter Try.func6, Try.ntmps6
    go_wp2
    go_ret
    exact ⟨rfl, hb0⟩
  have hsm : ss.size ≤ 1048576 := by omega
  go_enter Try.func6, Try.ntmps6
  go_wp2_with fail
  refine (szFS_any a cap xs q fu _ _ hx0 hf hlen (by decide) (by decide)).mono ?_
  rintro e w1 ⟨⟨r, rfl, hr1, hr2⟩, hb1⟩
  have hbw1 : Below w.heap.size w w1 := hb0.trans (hb1.mono hb0.size)
  rcases hr2 with rfl | ⟨hr0, hr⟩
  · go_wp2
    go_ret
    exact ⟨rfl, hbw1⟩
  have hl : xs.length ≤ 1048576 := by omega
  have hd : datas xs ≤ 1048576 := by have := datas_le_bulk xs; omega
  clear hr hr1 hlen
  have hbL1 := hbL.below hb1
  obtain ⟨c0, c1, c2⟩ := hbL1.cells
  clear hb0 hb1 hbL hx0
  go_wp2_with fail
  refine (toFS_any a cap xs q fu _ (hx.below hbw1) hl).mono ?_
  rintro e w2 ⟨g1, rfl, hg1, hp1, hb2⟩
  have hbw2 := hbw1.trans (hb2.mono hbw1.size)
  have hbL2 := hbL1.below hb2
  clear c0 c1 c2 hbL1 hbw1 hb2
  obtain ⟨c0, c1, c2⟩ := hbL2.cells
  have hol := outAppend_len xs q fu s ss hl
  obtain ⟨o, ho⟩ : ∃ o, o = outAppend xs q fu s ss := ⟨_, rfl⟩
  rw [← ho] at hol
  have HO : Hid (o = outAppend xs q fu s ss) := ho
  clear ho
  go_wp2_with fail
  refine (specAppend_any _ xs.length xs q fu s ss _ hp1.lie hf hl hd hhi hs hss hsm o HO).mono ?_
  rintro e w3 ⟨a3, cap3, rfl, hres3, hb3⟩
  have hbw3 := hbw2.trans (hb3.mono hbw2.size)
  have hbL3 := hbL2.below hb3
  have hri3 := hres3.ri
  have hsz3 := hb3.size
  clear c0 c1 c2 hbL2 hbw2 hb3 hres3 hp1
  have hbA := new_below w3 (.cells #[.slice a3 o.ys.length cap3, .int .i64 o.q, .int .i64 o.fu] 28)
  have hbL4 := hbL3.below hbA
  have hri4 := hri3.below hbA
  have hb64 := Box.new w3 28 (.slice a3 o.ys.length cap3) (.int .i64 o.q) (.int .i64 o.fu)
  have hbw4 := hbw3.trans (hbA.mono hbw3.size)
  have hsz4 : w3.heap.size < (w3.alloc (.cells #[.slice a3 o.ys.length cap3, .int .i64 o.q, .int .i64 o.fu] 28)).heap.size := by simp
  obtain ⟨c0, c1, c2⟩ := hbL3.cells
  have hLlt := hbL3.lt
  go_wp2_with fail
  clear c0 c1 c2 hLlt hri3 hbL3 hbw3 hbA
  generalize hW4 : w3.alloc (.cells #[.slice a3 o.ys.length cap3, .int .i64 o.q, .int .i64 o.fu] 28) = w4 at *
  clear hW4
  refine (toFS_any a cap xs q fu _ (hx.below hbw4) hl).mono ?_
  rintro e w5 ⟨g2, rfl, hg2, hp2, hb5⟩
  have hbw5 := hbw4.trans (hb5.mono hbw4.size)
  have hbL5 := hbL4.below hb5
  have hri5 := hri4.below hb5
  have hb65 := hb64.below hb5
  have hx5 := hp2.ri hg2
  have hsz5 := hb5.size
  have hsL := hbL4.lt
  clear hbw4 hbL4 hri4 hb64 hb5 hp2 hg2
  have hbA := new_below w5 (.cells #[.slice (some ⟨g2, 0, none⟩) xs.length xs.length, .int .i64 q, .int .i64 fu] 28)
  have hbL6 := hbL5.below hbA
  have hri6 := hri5.below hbA
  have hb66 := hb65.below hbA
  have hx6 := hx5.below hbA
  have hb86 := Box.new w5 28 (.slice (some ⟨g2, 0, none⟩) xs.length xs.length) (.int .i64 q) (.int .i64 fu)
  have hbw6 := hbw5.trans (hbA.mono hbw5.size)
  have hsz6 : w5.heap.size < (w5.alloc (.cells #[.slice (some ⟨g2, 0, none⟩) xs.length xs.length, .int .i64 q, .int .i64 fu] 28)).heap.size := by simp
  go_wp2_with fail
  clear hbL5 hri5 hb65 hx5 hbw5 hbA
  generalize hW6 : w5.alloc (.cells #[.slice (some ⟨g2, 0, none⟩) xs.length xs.length, .int .i64 q, .int .i64 fu] 28) = w6 at *
  clear hW6
  refine (implAppend_any _ xs.length xs q fu s ss _ hx6.lie hf hl hd hhi hs hss hsm o HO).mono ?_
  rintro e w7 ⟨a7, cap7, rfl, hres7, hb7⟩
  have hbw7 := hbw6.trans (hb7.mono hbw6.size)
  have hbL7 := hbL6.below hb7
  have hri7 := hri6.below hb7
  have hb67 := hb66.below hb7
  have hb87 := hb86.below hb7
  have hx7 := hx6.below hb7
  have hgi7 := hres7.ri
  have hsz7 := hb7.size
  clear hbw6 hbL6 hri6 hb66 hb86 hx6 hb7 hres7
  have hbA := new_below w7 (.cells #[.slice a7 o.ys.length cap7, .int .i64 o.q, .int .i64 o.fu] 28)
  have hbL8 := hbL7.below hbA
  have hri8 := hri7.below hbA
  have hb68 := hb67.below hbA
  have hb88 := hb87.below hbA
  have hx8 := hx7.below hbA
  have hgi8 := hgi7.below hbA
  have hb98 := Box.new w7 28 (.slice a7 o.ys.length cap7) (.int .i64 o.q) (.int .i64 o.fu)
  have hbw8 := hbw7.trans (hbA.mono hbw7.size)
  have hsz8 : w7.heap.size < (w7.alloc (.cells #[.slice a7 o.ys.length cap7, .int .i64 o.q, .int .i64 o.fu] 28)).heap.size := by simp
  obtain ⟨d0, d1, d2⟩ := hb67.cells
  have h6lt := hb67.lt
  go_wp2_with fail
  clear d0 d1 d2 h6lt hbL7 hri7 hb67 hb87 hx7 hgi7 hbw7 hbA
  generalize hW8 : w7.alloc (.cells #[.slice a7 o.ys.length cap7, .int .i64 o.q, .int .i64 o.fu] 28) = w8 at *
  clear hW8
  refine (eqFS_same _ _ _ _ o.ys o.q o.fu _ hgi8.lie hri8.lie hol).mono ?_
  rintro e w9 ⟨rfl, hb9⟩
  have hbw9 := hbw8.trans (hb9.mono hbw8.size)
  have hbL9 := hbL8.below hb9
  have hri9 := hri8.below hb9
  have hb69 := hb68.below hb9
  have hb89 := hb88.below hb9
  have hb99 := hb98.below hb9
  have hx9 := hx8.below hb9
  have hgi9 := hgi8.below hb9
  have hsz9 := hb9.size
  clear hbw8 hbL8 hri8 hb68 hb88 hb98 hx8 hgi8 hb9
  have hcd : (o.cd != o.cd) = false := by simp
  obtain ⟨c0, c1, c2⟩ := hbL9.cells
  obtain ⟨e0, e1, e2⟩ := hb89.cells
  have s3 := hbL9.lt
  have s2 := hb89.lt
  have hx9l := hx9.lie.below (Below.refl _ w9).drew
  have hbw9d := hbw9.drew
  go_wp2_with fail
  go_region_held3 (fun w' => w'.cell? ⟨w.heap.size, 0, none⟩ = some (.slice a xs.length cap) ∧ w'.cell? ⟨w.heap.size, 1, none⟩ = some (.int .i64 q) ∧ w'.cell? ⟨w.heap.size, 2, none⟩ = some (.int .i64 fu) ∧ w'.cell? ⟨w5.heap.size, 0, none⟩ = some (.slice (some ⟨g2, 0, none⟩) xs.length xs.length) ∧ w'.cell? ⟨w5.heap.size, 1, none⟩ = some (.int .i64 q) ∧ w'.cell? ⟨w5.heap.size, 2, none⟩ = some (.int .i64 fu)) (simp [go_sem, *])
    (first
      | (go_at_call 11; refine (toFS_any a cap xs q fu _ (hx.below hbw9d) hl).mono ?_; rintro e w10 ⟨g4, rfl, hg4, hp4, hb10⟩;
         have k0 := (hb10.cell (p := ⟨w.heap.size, 0, none⟩) s3).trans c0; have k1 := (hb10.cell (p := ⟨w.heap.size, 1, none⟩) s3).trans c1; have k2 := (hb10.cell (p := ⟨w.heap.size, 2, none⟩) s3).trans c2;
         have l0 := (hb10.cell (p := ⟨w5.heap.size, 0, none⟩) s2).trans e0; have l1 := (hb10.cell (p := ⟨w5.heap.size, 1, none⟩) s2).trans e1; have l2 := (hb10.cell (p := ⟨w5.heap.size, 2, none⟩) s2).trans e2;
         have HB10 : Hid (Below w9.heap.size w9 w10) := (Below.refl _ w9).drew.trans hb10; have hy10 := hx9l.below hb10; have hp5 := hp4.lie;
         have s4 := Nat.lt_of_lt_of_le s3 hb10.size; have s5 := Nat.lt_of_lt_of_le s2 hb10.size; clear hb10 hp4 hg4)
      | (go_at_call 13; refine (eqFS_same _ _ _ _ xs q fu _ hy10 hp5 hl).mono ?_; rintro e w11 ⟨rfl, hb11⟩;
         have m0 := (hb11.cell (p := ⟨w.heap.size, 0, none⟩) s4).trans k0; have m1 := (hb11.cell (p := ⟨w.heap.size, 1, none⟩) s4).trans k1; have m2 := (hb11.cell (p := ⟨w.heap.size, 2, none⟩) s4).trans k2;
         have n0 := (hb11.cell (p := ⟨w5.heap.size, 0, none⟩) s5).trans l0; have n1 := (hb11.cell (p := ⟨w5.heap.size, 1, none⟩) s5).trans l1; have n2 := (hb11.cell (p := ⟨w5.heap.size, 2, none⟩) s5).trans l2;
         have HB11 : Hid (Below w9.heap.size w9 w11) := HB10.out.trans (hb11.mono HB10.out.size)))
  clear k0 k1 k2 l0 l1 l2 m0 m1 m2 n0 n1 n2 c0 c1 c2 e0 e1 e2 s2 s3 s4 s5 hx9l hbw9d hy10 hp5 HB10 hb11
  have hb11 := HB11.out
  have hbw11 := hbw9.trans (hb11.mono hbw9.size)
  have hbL11 := hbL9.below hb11
  have hri11 := hri9.below hb11
  have hb6y := hb69.below hb11
  have hb8y := hb89.below hb11
  have hb9y := hb99.below hb11
  have hx11 := hx9.below hb11
  have hgi11 := hgi9.below hb11
  clear HB11 hb11 hbw9 hbL9 hri9 hb69 hb89 hb99 hx9 hgi9
  obtain ⟨e0, e1, e2⟩ := hb8y.cells
  go_wp2_with fail
  refine (mark_any _ _ _ _ xs q fu 1 _ hx11 hl (by decide) (by decide)).mono ?_
  rintro e w12 ⟨rfl, hx12, ex, hex, hb12⟩
  have hbw12 := hbw11.trans ((hb12.mono hbw11.size).far (fun g hg => by have := hex g hg; omega))
  have hbL12 := hbL11.but hb12 (fun hg => by have := hex _ hg; omega)
  have hri12 := hri11.but hb12 (fun g hg => by have := hex g hg; omega)
  have hb6z := hb6y.but hb12 (fun hg => by have := hex _ hg; omega)
  have hb8z := hb8y.but hb12 (fun hg => by have := hex _ hg; omega)
  have hb9z := hb9y.but hb12 (fun hg => by have := hex _ hg; omega)
  have hgi12 := hgi11.but hb12 (fun g hg => by have := hex g hg; omega)
  clear hbw11 hbL11 hri11 hb6y hb8y hb9y hx11 hgi11 hex hb12 e0 e1 e2
  have hk0 : ¬ ((1 + 3 * xs.length : Nat) : Int) < 0 := by omega
  obtain ⟨e0, e1, e2⟩ := hb9z.cells
  obtain ⟨d0, d1, d2⟩ := hb6z.cells
  have s9 := hb9z.lt
  have s6 := hb6z.lt
  go_wp2_with fail
  refine (eqFS_same _ _ _ _ o.ys o.q o.fu _ hgi12.lie hri12.lie hol).mono ?_
  rintro e w13 ⟨rfl, hb13⟩
  have hbw13 := hbw12.trans (hb13.mono hbw12.size)
  have hbL13 := hbL12.below hb13
  have hri13 := hri12.below hb13
  have hb6a := hb6z.below hb13
  have hb9a := hb9z.below hb13
  have hgi13 := hgi12.below hb13
  clear hbw12 hbL12 hri12 hb6z hb8z hb9z hgi12 hx12 hb13 e0 e1 e2 d0 d1 d2 s9 s6 hk0
  obtain ⟨e0, e1, e2⟩ := hb9a.cells
  have s9 := hb9a.lt
  go_wp2_with fail
  refine (mark_any _ _ _ _ o.ys o.q o.fu 1 _ hgi13 hol (by decide) (by decide)).mono ?_
  rintro e w14 ⟨rfl, hgi14, ex, hex, hb14⟩
  have hbw14 := hbw13.trans ((hb14.mono hbw13.size).far (fun g hg => by have := hex g hg; omega))
  have hbL14 := hbL13.but hb14 (fun hg => by have := hex _ hg; omega)
  have hri14 := hri13.but hb14 (fun g hg => by have := hex g hg; omega)
  have hb6b := hb6a.but hb14 (fun hg => by have := hex _ hg; omega)
  have hb9b := hb9a.but hb14 (fun hg => by have := hex _ hg; omega)
  clear hbw13 hbL13 hri13 hb6a hb9a hgi13 hex hb14 e0 e1 e2 s9
  obtain ⟨e0, e1, e2⟩ := hb9b.cells
  have s9 := hb9b.lt
  go_wp2_with fail
  refine (heldFS_any _ _ o.ys.length o.q o.fu 1 _ hgi14.lie hol (by decide) (by decide)).mono ?_
  rintro e w15 ⟨rfl, hb15⟩
  have hbw15 := hbw14.trans (hb15.mono hbw14.size)
  have hbL15 := hbL14.below hb15
  have hri15 := hri14.below hb15
  have hb6c := hb6b.below hb15
  clear hbw14 hbL14 hri14 hb6b hb9b hgi14 hb15 e0 e1 e2 s9
  have hk0 : ¬ ((1 + 3 * o.ys.length : Nat) : Int) < 0 := by omega
  obtain ⟨c0, c1, c2⟩ := hbL15.cells
  have s3 := hbL15.lt
  go_wp2_with fail
  refine (toFS_any a cap xs q fu _ (hx.below hbw15) hl).mono ?_
  rintro e w16 ⟨g5, rfl, hg5, hp5, hb16⟩
  have hbw16 := hbw15.trans (hb16.mono hbw15.size)
  have hri16 := hri15.below hb16
  have hb6d := hb6c.below hb16
  clear hbw15 hbL15 hri15 hb6c hb16 c0 c1 c2 s3 hk0
  go_wp2_with fail
  refine (implAppend_any _ xs.length xs q fu s ss _ hp5.lie hf hl hd hhi hs hss hsm o HO).mono ?_
  rintro e w17 ⟨a17, cap17, rfl, hres17, hb17⟩
  have hbw17 := hbw16.trans (hb17.mono hbw16.size)
  have hri17 := hri16.below hb17
  have hb6e := hb6d.below hb17
  have hh17 := hres17.ri
  clear hbw16 hri16 hb6d hb17 hres17 hp5 hg5
  have hbA := new_below w17 (.cells #[.slice a17 o.ys.length cap17, .int .i64 o.q, .int .i64 o.fu] 28)
  have hri18 := hri17.below hbA
  have hh18 := hh17.below hbA
  have hbw18 := hbw17.trans (hbA.mono hbw17.size)
  obtain ⟨d0, d1, d2⟩ := hb6e.cells
  have s6 := hb6e.lt
  go_wp2_with fail
  clear d0 d1 d2 s6 hri17 hh17 hb6e hbw17 hbA
  generalize hW18 : w17.alloc (.cells #[.slice a17 o.ys.length cap17, .int .i64 o.q, .int .i64 o.fu] 28) = w18 at *
  clear hW18
  refine (eqFS_same _ _ _ _ o.ys o.q o.fu _ hh18.lie hri18.lie hol).mono ?_
  rintro e w19 ⟨rfl, hb19⟩
  have hbw19 := hbw18.trans (hb19.mono hbw18.size)
  clear hbw18 hri18 hh18 hb19
  go_wp2
  go_ret
  exact ⟨rfl, hbw19⟩
end Go.Proofs.Ytlchoaofeaglhad
