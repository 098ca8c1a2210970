
import Derived.Test.YtnnhdfplbhdcaacCrSpec
import Derived.Test.YtnnhdfplbhdcaacCrInts
import Derived.Test.YtnnhdfplbhdcaacLawBase
namespace Go.Proofs.Ytnnhdfplbhdcaac
open Go.RowKit Go.Maps
set_option linter.unusedVariables false
set_option linter.unusedSimpArgs false

/-- What a crash leaves. -/
structure OutC where
  ys : List Fl
  q : Int
  fu : Int
def outCrash (xs : List Fl) (q fu : Int) (ks : List Int) : OutC := if vldB xs q fu = true then ⟨crs xs ks xs.length, q, -1⟩ else ⟨[], 0, 0⟩
theorem outCrash_len (xs : List Fl) (q fu : Int) (ks : List Int) (h : xs.length ≤ 1048576) : (outCrash xs q fu ks).ys.length ≤ 1048576 := by
  unfold outCrash
  split
  · dsimp only; rw [crs_length]; exact h
  · simp
theorem specCrash_any (a : Option Addr) (cap : Nat) (xs : List Fl) (q fu : Int) (ak : Option Addr) (ck : Nat) (ks : List Int) (w : World) (hx : Lie w a xs) (hf : Fits xs) (hlen : xs.length ≤ 1048576) (hd : datas xs ≤ 1048576) (hl : LieI w ak ks) (hn : ks.length ≤ 1048576) (o : OutC) (HO : Hid (o = outCrash xs q fu ks)) :
    Calls Try.prog 5 #[.agg #[.slice a xs.length cap, .int .i64 q, .int .i64 fu], .slice ak ks.length ck] w fun e w' => ∃ a' cap', e = .returned (.agg #[.slice a' o.ys.length cap', .int .i64 o.q, .int .i64 o.fu]) ∧ Res w' w.heap.size a' cap' o.ys ∧ Below w.heap.size w w' := by
  cases hv : vldB xs q fu with
  | true =>
    have e : o = ⟨crs xs ks xs.length, q, -1⟩ := by rw [HO.out]; unfold outCrash; rw [if_pos hv]
    subst e
    exact specCrash_ok a cap xs _ q fu ak ck ks w hx hf hlen hd hv hl hn rfl
  | false =>
    have e : o = ⟨[], 0, 0⟩ := by rw [HO.out]; unfold outCrash; rw [if_neg (by simp [hv])]
    subst e
    refine (specCrash_bad a cap xs q fu ak ck ks w hx hf hlen hd hv).mono ?_
    rintro e w' ⟨rfl, hb⟩
    exact ⟨none, 0, rfl, .inl rfl, hb⟩
theorem implCrash_any (a : Option Addr) (cap : Nat) (xs : List Fl) (q fu : Int) (ak : Option Addr) (ck : Nat) (ks : List Int) (w : World) (hx : Lie w a xs) (hf : Fits xs) (hlen : xs.length ≤ 1048576) (hd : datas xs ≤ 1048576) (hl : LieI w ak ks) (hn : ks.length ≤ 1048576) (o : OutC) (HO : Hid (o = outCrash xs q fu ks)) :
    Calls Try.prog 8 #[.agg #[.slice a xs.length cap, .int .i64 q, .int .i64 fu], .slice ak ks.length ck] w fun e w' => ∃ a' cap', e = .returned (.agg #[.slice a' o.ys.length cap', .int .i64 o.q, .int .i64 o.fu]) ∧ Res w' w.heap.size a' cap' o.ys ∧ Below w.heap.size w w' := by
  cases hv : vldB xs q fu with
  | true =>
    have e : o = ⟨crs xs ks xs.length, q, -1⟩ := by rw [HO.out]; unfold outCrash; rw [if_pos hv]
    subst e
    exact implCrash_ok a cap xs _ q fu ak ck ks w hx hf hlen hd hv hl hn rfl
  | false =>
    have e : o = ⟨[], 0, 0⟩ := by rw [HO.out]; unfold outCrash; rw [if_neg (by simp [hv])]
    subst e
    refine (implCrash_bad a cap xs q fu ak ck ks w hx hf hlen hd hv).mono ?_
    rintro e w' ⟨rfl, hb⟩
    exact ⟨none, 0, rfl, .inl rfl, hb⟩

theorem heap_lt' {w : World} {g : Nat} {o : Obj} (h : w.heap[g]? = some o) : g < w.heap.size := by
  by_cases hlt : g < w.heap.size
  · exact hlt
  · rw [Array.getElem?_eq_none (by omega)] at h; cases h

set_option maxRecDepth 100000 in
set_option maxHeartbeats 4000000 in
theorem lawCrash_any (a : Option Addr) (cap : Nat) (xs : List Fl) (q fu : Int) (ak : Option Addr) (ck : Nat) (ks : List Int) (w : World) (hx : Lie w a xs) (hf : Fits xs) (hlen : xs.length ≤ maxLen) (hk : LieI w ak ks) (hkl : ks.length ≤ maxLen) :
    Calls Try.prog 3 #[.agg #[.slice a xs.length cap, .int .i64 q, .int .i64 fu], .slice ak ks.length ck] w fun e w' => e = .returned (.bool true) ∧ Below w.heap.size w w' := by
  have hb0 := new_below w (.cells #[.slice a xs.length cap, .int .i64 q, .int .i64 fu] 24)
  have hx0 := hx.below hb0
  have hbL := Box.new w 24 (.slice a xs.length cap) (.int .i64 q) (.int .i64 fu)
  unfold maxLen at hkl
  by_cases hbig : (1048576 : Int) < (ks.length : Int)
  · go_enter Try.func3, Try.ntmps3
    go_wp2
    go_ret
    exact ⟨rfl, hb0⟩
  go_enter Try.func3, Try.ntmps3
  go_wp2_with fail
  refine (szFS_any a cap xs q fu _ _ hx0 hf hlen (by decide) (by decide)).mono ?_
  rintro e w1 ⟨⟨r, rfl, hr1, hr2⟩, hb1⟩
  have hbw1 : Below w.heap.size w w1 := hb0.trans (hb1.mono hb0.size)
  rcases hr2 with rfl | ⟨hr0, hr⟩
  · go_wp2
    go_ret
    exact ⟨rfl, hbw1⟩
  have hl : xs.length ≤ 1048576 := by omega
  have hd : datas xs ≤ 1048576 := by have := datas_le_bulk xs; omega
  have hkn : ks.length ≤ 1048576 := by omega
  clear hr hr1 hlen
  have hbL1 := hbL.below hb1
  obtain ⟨c0, c1, c2⟩ := hbL1.cells
  clear hb0 hb1 hbL hx0
  go_wp2_with fail
  refine (toFS_any a cap xs q fu _ (hx.below hbw1) hl).mono ?_
  rintro e w2 ⟨g1, rfl, hg1, hp1, hb2⟩
  have hbw2 := hbw1.trans (hb2.mono hbw1.size)
  have hbL2 := hbL1.below hb2
  clear c0 c1 c2 hbL1 hbw1 hb2
  obtain ⟨c0, c1, c2⟩ := hbL2.cells
  have hol := outCrash_len xs q fu ks hl
  obtain ⟨o, ho⟩ : ∃ o, o = outCrash xs q fu ks := ⟨_, rfl⟩
  rw [← ho] at hol
  have HO : Hid (o = outCrash xs q fu ks) := ho
  clear ho
  go_wp2_with fail
  refine (toIntS_any ak ck ks _ (hk.below hbw2) hkn).mono ?_
  rintro e w2i ⟨gi1, rfl, hgi1, hq1, hb2i⟩
  have hbw2i := hbw2.trans (hb2i.mono hbw2.size)
  have hbL2i := hbL2.below hb2i
  have hp1i := hp1.lie.below hb2i
  go_wp2_with fail
  refine (specCrash_any _ xs.length xs q fu _ ks.length ks _ hp1i hf hl hd hq1.lie hkn o HO).mono ?_
  rintro e w3 ⟨a3, cap3, rfl, hres3, hb3⟩
  have hbw3 := hbw2i.trans (hb3.mono hbw2i.size)
  have hbL3 := hbL2i.below hb3
  have hri3 := hres3.ri
  have hsz3 := hb3.size
  clear c0 c1 c2 hbL2 hbw2 hb3 hres3 hp1 hb2i hbw2i hbL2i hp1i hq1 hgi1
  have hbA := new_below w3 (.cells #[.slice a3 o.ys.length cap3, .int .i64 o.q, .int .i64 o.fu] 29)
  have hbL4 := hbL3.below hbA
  have hri4 := hri3.below hbA
  have hb64 := Box.new w3 29 (.slice a3 o.ys.length cap3) (.int .i64 o.q) (.int .i64 o.fu)
  have hbw4 := hbw3.trans (hbA.mono hbw3.size)
  have hsz4 : w3.heap.size < (w3.alloc (.cells #[.slice a3 o.ys.length cap3, .int .i64 o.q, .int .i64 o.fu] 29)).heap.size := by simp
  obtain ⟨c0, c1, c2⟩ := hbL3.cells
  have hLlt := hbL3.lt
  go_wp2_with fail
  clear c0 c1 c2 hLlt hri3 hbL3 hbw3 hbA
  generalize hW4 : w3.alloc (.cells #[.slice a3 o.ys.length cap3, .int .i64 o.q, .int .i64 o.fu] 29) = w4 at *
  clear hW4
  refine (toFS_any a cap xs q fu _ (hx.below hbw4) hl).mono ?_
  rintro e w5 ⟨g2, rfl, hg2, hp2, hb5⟩
  have hbw5 := hbw4.trans (hb5.mono hbw4.size)
  have hbL5 := hbL4.below hb5
  have hri5 := hri4.below hb5
  have hb65 := hb64.below hb5
  have hx5 := hp2.ri hg2
  have hsz5 := hb5.size
  have hsL := hbL4.lt
  clear hbw4 hbL4 hri4 hb64 hb5 hp2 hg2
  have hbA := new_below w5 (.cells #[.slice (some ⟨g2, 0, none⟩) xs.length xs.length, .int .i64 q, .int .i64 fu] 29)
  have hbL6 := hbL5.below hbA
  have hri6 := hri5.below hbA
  have hb66 := hb65.below hbA
  have hx6 := hx5.below hbA
  have hb86 := Box.new w5 29 (.slice (some ⟨g2, 0, none⟩) xs.length xs.length) (.int .i64 q) (.int .i64 fu)
  have hbw6 := hbw5.trans (hbA.mono hbw5.size)
  have hsz6 : w5.heap.size < (w5.alloc (.cells #[.slice (some ⟨g2, 0, none⟩) xs.length xs.length, .int .i64 q, .int .i64 fu] 29)).heap.size := by simp
  go_wp2_with fail
  clear hbL5 hri5 hb65 hx5 hbw5 hbA
  generalize hW6 : w5.alloc (.cells #[.slice (some ⟨g2, 0, none⟩) xs.length xs.length, .int .i64 q, .int .i64 fu] 29) = w6 at *
  clear hW6
  refine (toIntS_any ak ck ks _ (hk.below hbw6) hkn).mono ?_
  rintro e w6i ⟨gi, rfl, hgi, hq6, hb6i⟩
  have hbw6i := hbw6.trans (hb6i.mono hbw6.size)
  have hbL6i := hbL6.below hb6i
  have hri6i := hri6.below hb6i
  have hb66i := hb66.below hb6i
  have hb86i := hb86.below hb6i
  have hx6i := hx6.below hb6i
  have hsz6i := hb6i.size
  have hgilt := hq6.lt
  clear hbw6 hbL6 hri6 hb66 hb86 hx6 hb6i
  obtain ⟨d0, d1, d2⟩ := hb86i.cells
  have h8lt := hb86i.lt
  go_wp2_with fail
  clear d0 d1 d2 h8lt
  refine (implCrash_any _ xs.length xs q fu _ ks.length ks _ hx6i.lie hf hl hd hq6.lie hkn o HO).mono ?_
  rintro e w7 ⟨a7, cap7, rfl, hres7, hb7⟩
  have hbw7 := hbw6i.trans (hb7.mono hbw6i.size)
  have hbL7 := hbL6i.below hb7
  have hri7 := hri6i.below hb7
  have hb67 := hb66i.below hb7
  have hb87 := hb86i.below hb7
  have hx7 := hx6i.below hb7
  have hq7 := hq6.below hb7 hgilt
  have hgi7 := hres7.ri
  have hsz7 := hb7.size
  clear hbw6i hbL6i hri6i hb66i hb86i hx6i hb7 hres7 hq6
  have hbA := new_below w7 (.cells #[.slice a7 o.ys.length cap7, .int .i64 o.q, .int .i64 o.fu] 29)
  have hbL8 := hbL7.below hbA
  have hri8 := hri7.below hbA
  have hb68 := hb67.below hbA
  have hb88 := hb87.below hbA
  have hx8 := hx7.below hbA
  have hgi8 := hgi7.below hbA
  have hq8 := hq7.below hbA (by omega)
  have hb98 := Box.new w7 29 (.slice a7 o.ys.length cap7) (.int .i64 o.q) (.int .i64 o.fu)
  have hbw8 := hbw7.trans (hbA.mono hbw7.size)
  have hsz8 : w7.heap.size < (w7.alloc (.cells #[.slice a7 o.ys.length cap7, .int .i64 o.q, .int .i64 o.fu] 29)).heap.size := by simp
  obtain ⟨d0, d1, d2⟩ := hb67.cells
  have h6lt := hb67.lt
  go_wp2_with fail
  clear d0 d1 d2 h6lt hbL7 hri7 hb67 hb87 hx7 hgi7 hbw7 hbA hq7
  generalize hW8 : w7.alloc (.cells #[.slice a7 o.ys.length cap7, .int .i64 o.q, .int .i64 o.fu] 29) = w8 at *
  clear hW8
  refine (eqFS_same _ _ _ _ o.ys o.q o.fu _ hgi8.lie hri8.lie hol).mono ?_
  rintro e w9 ⟨rfl, hb9⟩
  have hbw9 := hbw8.trans (hb9.mono hbw8.size)
  have hbL9 := hbL8.below hb9
  have hri9 := hri8.below hb9
  have hb69 := hb68.below hb9
  have hb89 := hb88.below hb9
  have hb99 := hb98.below hb9
  have hx9 := hx8.below hb9
  have hgi9 := hgi8.below hb9
  have hq9 := hq8.below hb9 (by omega)
  have hsz9 := hb9.size
  clear hbw8 hbL8 hri8 hb68 hb88 hb98 hx8 hgi8 hb9 hq8
  obtain ⟨c0, c1, c2⟩ := hbL9.cells
  obtain ⟨e0, e1, e2⟩ := hb89.cells
  have s3 := hbL9.lt
  have s2 := hb89.lt
  have hx9l := hx9.lie.below (Below.refl _ w9).drew
  have hbw9d := hbw9.drew
  go_wp2_with fail
  go_region_held3 (fun w' => w'.cell? ⟨w.heap.size, 0, none⟩ = some (.slice a xs.length cap) ∧ w'.cell? ⟨w.heap.size, 1, none⟩ = some (.int .i64 q) ∧ w'.cell? ⟨w.heap.size, 2, none⟩ = some (.int .i64 fu) ∧ w'.cell? ⟨w5.heap.size, 0, none⟩ = some (.slice (some ⟨g2, 0, none⟩) xs.length xs.length) ∧ w'.cell? ⟨w5.heap.size, 1, none⟩ = some (.int .i64 q) ∧ w'.cell? ⟨w5.heap.size, 2, none⟩ = some (.int .i64 fu)) (simp [go_sem, *])
    (first
      | (go_at_call 6; refine (toFS_any a cap xs q fu _ (hx.below hbw9d) hl).mono ?_; rintro e w10 ⟨g4, rfl, hg4, hp4, hb10⟩;
         have k0 := (hb10.cell (p := ⟨w.heap.size, 0, none⟩) s3).trans c0; have k1 := (hb10.cell (p := ⟨w.heap.size, 1, none⟩) s3).trans c1; have k2 := (hb10.cell (p := ⟨w.heap.size, 2, none⟩) s3).trans c2;
         have l0 := (hb10.cell (p := ⟨w5.heap.size, 0, none⟩) s2).trans e0; have l1 := (hb10.cell (p := ⟨w5.heap.size, 1, none⟩) s2).trans e1; have l2 := (hb10.cell (p := ⟨w5.heap.size, 2, none⟩) s2).trans e2;
         have HB10 : Hid (Below w9.heap.size w9 w10) := (Below.refl _ w9).drew.trans hb10; have hy10 := hx9l.below hb10; have hp5 := hp4.lie;
         have s4 := Nat.lt_of_lt_of_le s3 hb10.size; have s5 := Nat.lt_of_lt_of_le s2 hb10.size; clear hb10 hp4 hg4)
      | (go_at_call 9; refine (eqFS_same _ _ _ _ xs q fu _ hy10 hp5 hl).mono ?_; rintro e w11 ⟨rfl, hb11⟩;
         have m0 := (hb11.cell (p := ⟨w.heap.size, 0, none⟩) s4).trans k0; have m1 := (hb11.cell (p := ⟨w.heap.size, 1, none⟩) s4).trans k1; have m2 := (hb11.cell (p := ⟨w.heap.size, 2, none⟩) s4).trans k2;
         have n0 := (hb11.cell (p := ⟨w5.heap.size, 0, none⟩) s5).trans l0; have n1 := (hb11.cell (p := ⟨w5.heap.size, 1, none⟩) s5).trans l1; have n2 := (hb11.cell (p := ⟨w5.heap.size, 2, none⟩) s5).trans l2;
         have HB11 : Hid (Below w9.heap.size w9 w11) := HB10.out.trans (hb11.mono HB10.out.size)))
  clear k0 k1 k2 l0 l1 l2 m0 m1 m2 n0 n1 n2 c0 c1 c2 e0 e1 e2 s2 s3 s4 s5 hx9l hbw9d hy10 hp5 HB10 hb11
  have hb11 := HB11.out
  have hbw11 := hbw9.trans (hb11.mono hbw9.size)
  have hbL11 := hbL9.below hb11
  have hri11 := hri9.below hb11
  have hb6y := hb69.below hb11
  have hb8y := hb89.below hb11
  have hb9y := hb99.below hb11
  have hx11 := hx9.below hb11
  have hgi11 := hgi9.below hb11
  have hq11 := hq9.below hb11 (by omega)
  have hsz11 := hb11.size
  clear HB11 hb11 hbw9 hbL9 hri9 hb69 hb89 hb99 hx9 hgi9 hq9
  go_wp2_with fail
  refine (toIntS_any ak ck ks _ (hk.below hbw11) hkn).mono ?_
  rintro e w11a ⟨gj, rfl, hgj, hqj, hb11a⟩
  have hq11a := hq11.below hb11a (by omega)
  go_wp2_with fail
  refine (eqIntS_same _ _ _ _ ks _ hq11a.lie hqj.lie hkn).mono ?_
  rintro e w11b ⟨rfl, hb11b⟩
  have hbx := hb11a.trans (hb11b.mono hb11a.size)
  have hbw11' := hbw11.trans (hbx.mono hbw11.size)
  have hbL11' := hbL11.below hbx
  have hri11' := hri11.below hbx
  have hb6y' := hb6y.below hbx
  have hb8y' := hb8y.below hbx
  have hb9y' := hb9y.below hbx
  have hx11' := hx11.below hbx
  have hgi11' := hgi11.below hbx
  have hq11' := hq11.below hbx (by omega)
  clear hq11a hqj hb11a hb11b hbx hbw11 hbL11 hri11 hb6y hb8y hb9y hx11 hgi11 hq11 hgj
  have hbw11 := hbw11'
  obtain ⟨e0, e1, e2⟩ := hb8y'.cells
  go_wp2_with fail
  refine (mark_any _ _ _ _ xs q fu 1 _ hx11' hl (by decide) (by decide)).mono ?_
  rintro e w12 ⟨rfl, hx12, ex, hex, hb12⟩
  have hbw12 := hbw11.trans ((hb12.mono hbw11.size).far (fun g hg => by have := hex g hg; omega))
  have hbL12 := hbL11'.but hb12 (fun hg => by have := hex _ hg; omega)
  have hri12 := hri11'.but hb12 (fun g hg => by have := hex g hg; omega)
  have hb6z := hb6y'.but hb12 (fun hg => by have := hex _ hg; omega)
  have hb9z := hb9y'.but hb12 (fun hg => by have := hex _ hg; omega)
  have hgi12 := hgi11'.but hb12 (fun g hg => by have := hex g hg; omega)
  have hq12 : PartI w12 gi ks.length ks ks.length := by
    obtain ⟨cs, g1, g2, g3⟩ := hq11'
    exact ⟨cs, (hb12.block gi (heap_lt' g1) (fun hg => by have := hex _ hg; omega)).trans g1, g2, g3⟩
  clear hbw11 hbL11' hri11' hb6y' hb8y' hb9y' hx11' hgi11' hq11' hex hb12 e0 e1 e2
  go_wp2_with fail
  refine (markIntS_any gi (1 + 3 * xs.length) ks _ hq12 hkn (by omega)).mono ?_
  rintro e w12i ⟨rfl, hb12i⟩
  have hbw12i := hbw12.trans ((hb12i.mono hbw12.size).far (fun g hg => by simp at hg; subst hg; omega))
  have hbL12i := hbL12.but hb12i (fun hg => by simp at hg; omega)
  have hri12i := hri12.but hb12i (fun g hg => by simp at hg; subst hg; omega)
  have hb6zi := hb6z.but hb12i (fun hg => by simp at hg; omega)
  have hb9zi := hb9z.but hb12i (fun hg => by simp at hg; omega)
  have hgi12i := hgi12.but hb12i (fun g hg => by simp at hg; subst hg; omega)
  clear hbw12 hbL12 hri12 hb6z hb9z hgi12 hq12 hb12i
  have hk0 : ¬ ((1 + 3 * xs.length + ks.length : Nat) : Int) < 0 := by omega
  obtain ⟨e0, e1, e2⟩ := hb9zi.cells
  obtain ⟨d0, d1, d2⟩ := hb6zi.cells
  have s9 := hb9zi.lt
  have s6 := hb6zi.lt
  go_wp2_with fail
  refine (eqFS_same _ _ _ _ o.ys o.q o.fu _ hgi12i.lie hri12i.lie hol).mono ?_
  rintro e w13 ⟨rfl, hb13⟩
  have hbw13 := hbw12i.trans (hb13.mono hbw12i.size)
  have hbL13 := hbL12i.below hb13
  have hri13 := hri12i.below hb13
  have hb6a := hb6zi.below hb13
  have hb9a := hb9zi.below hb13
  have hgi13 := hgi12i.below hb13
  clear hbw12i hbL12i hri12i hb6zi hb9zi hgi12i hx12 hb13 e0 e1 e2 d0 d1 d2 s9 s6 hk0
  obtain ⟨e0, e1, e2⟩ := hb9a.cells
  have s9 := hb9a.lt
  go_wp2_with fail
  refine (mark_any _ _ _ _ o.ys o.q o.fu 1 _ hgi13 hol (by decide) (by decide)).mono ?_
  rintro e w14 ⟨rfl, hgi14, ex, hex, hb14⟩
  have hbw14 := hbw13.trans ((hb14.mono hbw13.size).far (fun g hg => by have := hex g hg; omega))
  have hbL14 := hbL13.but hb14 (fun hg => by have := hex _ hg; omega)
  have hri14 := hri13.but hb14 (fun g hg => by have := hex g hg; omega)
  have hb6b := hb6a.but hb14 (fun hg => by have := hex _ hg; omega)
  have hb9b := hb9a.but hb14 (fun hg => by have := hex _ hg; omega)
  clear hbw13 hbL13 hri13 hb6a hb9a hgi13 hex hb14 e0 e1 e2 s9
  obtain ⟨e0, e1, e2⟩ := hb9b.cells
  have s9 := hb9b.lt
  go_wp2_with fail
  refine (heldFS_any _ _ o.ys.length o.q o.fu 1 _ hgi14.lie hol (by decide) (by decide)).mono ?_
  rintro e w15 ⟨rfl, hb15⟩
  have hbw15 := hbw14.trans (hb15.mono hbw14.size)
  have hbL15 := hbL14.below hb15
  have hri15 := hri14.below hb15
  have hb6c := hb6b.below hb15
  clear hbw14 hbL14 hri14 hb6b hb9b hgi14 hb15 e0 e1 e2 s9
  have hk0 : ¬ ((1 + 3 * o.ys.length : Nat) : Int) < 0 := by omega
  obtain ⟨c0, c1, c2⟩ := hbL15.cells
  have s3 := hbL15.lt
  go_wp2_with fail
  refine (toFS_any a cap xs q fu _ (hx.below hbw15) hl).mono ?_
  rintro e w16 ⟨g5, rfl, hg5, hp5, hb16⟩
  have hbw16 := hbw15.trans (hb16.mono hbw15.size)
  have hri16 := hri15.below hb16
  have hb6d := hb6c.below hb16
  clear hbw15 hbL15 hri15 hb6c hb16 c0 c1 c2 s3 hk0
  go_wp2_with fail
  refine (toIntS_any ak ck ks _ (hk.below hbw16) hkn).mono ?_
  rintro e w16i ⟨gk, rfl, hgk, hqk, hb16i⟩
  have hbw16i := hbw16.trans (hb16i.mono hbw16.size)
  have hri16i := hri16.below hb16i
  have hb6di := hb6d.below hb16i
  have hp5i := hp5.lie.below hb16i
  go_wp2_with fail
  refine (implCrash_any _ xs.length xs q fu _ ks.length ks _ hp5i hf hl hd hqk.lie hkn o HO).mono ?_
  rintro e w17 ⟨a17, cap17, rfl, hres17, hb17⟩
  have hbw17 := hbw16i.trans (hb17.mono hbw16i.size)
  have hri17 := hri16i.below hb17
  have hb6e := hb6di.below hb17
  have hh17 := hres17.ri
  clear hbw16 hri16 hb6d hb17 hres17 hp5 hg5 hbw16i hri16i hb6di hp5i hqk hgk hb16i
  have hbA := new_below w17 (.cells #[.slice a17 o.ys.length cap17, .int .i64 o.q, .int .i64 o.fu] 29)
  have hri18 := hri17.below hbA
  have hh18 := hh17.below hbA
  have hbw18 := hbw17.trans (hbA.mono hbw17.size)
  obtain ⟨d0, d1, d2⟩ := hb6e.cells
  have s6 := hb6e.lt
  go_wp2_with fail
  clear d0 d1 d2 s6 hri17 hh17 hb6e hbw17 hbA
  generalize hW18 : w17.alloc (.cells #[.slice a17 o.ys.length cap17, .int .i64 o.q, .int .i64 o.fu] 29) = w18 at *
  clear hW18
  refine (eqFS_same _ _ _ _ o.ys o.q o.fu _ hh18.lie hri18.lie hol).mono ?_
  rintro e w19 ⟨rfl, hb19⟩
  have hbw19 := hbw18.trans (hb19.mono hbw18.size)
  clear hbw18 hri18 hh18 hb19
  go_wp2
  go_ret
  exact ⟨rfl, hbw19⟩
end Go.Proofs.Ytnnhdfplbhdcaac
