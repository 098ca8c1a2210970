
import Derived.Test.YtnlmebpajjiomacEdG
import Derived.Test.YtnlmebpajjiomacOpenEd
namespace Go.Proofs.Ytnlmebpajjiomac
open Go.ChangeShapes Go.WideShapes Go.ChangeAt Go.RowKit Go.Joins Go.Deep
set_option linter.unusedVariables false
set_option linter.unusedSimpArgs false

set_option maxRecDepth 100000 in
set_option maxHeartbeats 2000000 in
theorem lawEncEd_any (a : Option Addr) (ca : Nat) (d : Option Addr) (cd : Nat) (e : Ed) (w : World) (hx : LieT w a e.ad) (hf : FitsT e.ad) (hy : LieI w d e.dl) (hn1 : e.ad.length ≤ maxLen) (hn2 : e.dl.length ≤ maxLen) :
    Calls Try.prog 4 #[edV a ca d cd e] w fun r w' => r = .returned (.bool true) ∧ Below w.heap.size w w' := by
  have HSZ := hd (fun (w : World) (hx : LieT w a e.ad) => szEdit_any a ca d cd e 1048576 w hx hf hn1 hn2 (by omega) (by omega))
  have HTO := hd (fun (w : World) (hx : LieT w a e.ad) (hy : LieI w d e.dl) (h1 : e.ad.length ≤ 1048576) (h2 : e.dl.length ≤ 1048576) => toEdit_any a ca d cd e w hx hy h1 h2)
  have HSP := hd (fun (g1 g2 : Nat) (w : World) (hx : LieT w (some ⟨g1, 0, none⟩) e.ad) (hy : LieI w (some ⟨g2, 0, none⟩) e.dl) (h1 : e.ad.length ≤ 1048576) (h2 : e.dl.length ≤ 1048576) => specEncEd_any (some ⟨g1, 0, none⟩) e.ad.length (some ⟨g2, 0, none⟩) e.dl.length e w hx hf hy h1 h2)
  have HIM := hd (fun (g1 g2 : Nat) (w : World) (hx : LieT w (some ⟨g1, 0, none⟩) e.ad) (hy : LieI w (some ⟨g2, 0, none⟩) e.dl) (h1 : e.ad.length ≤ 1048576) (h2 : e.dl.length ≤ 1048576) => implEncEd_any (some ⟨g1, 0, none⟩) e.ad.length g2 0 e.dl.length e w hx hf hy h1 h2)
  have HEQ := hd (fun (g1 g2 g3 g4 : Nat) (w : World) (hx : LieT w (some ⟨g1, 0, none⟩) e.ad) (hy : LieI w (some ⟨g2, 0, none⟩) e.dl) (hx' : LieT w (some ⟨g3, 0, none⟩) e.ad) (hy' : LieI w (some ⟨g4, 0, none⟩) e.dl) (h1 : e.ad.length ≤ 1048576) (h2 : e.dl.length ≤ 1048576) => eqEdit_same (some ⟨g1, 0, none⟩) e.ad.length (some ⟨g2, 0, none⟩) e.dl.length (some ⟨g3, 0, none⟩) e.ad.length (some ⟨g4, 0, none⟩) e.dl.length e w hx hy hx' hy' h1 h2)
  generalize edT e = T at *
  obtain ⟨xs, ks, lg, nx, la⟩ := e
  dsimp only at *
  have hP0 : (w.alloc (.cells #[.slice a xs.length ca, .slice d ks.length cd, .int .i64 lg, .int .i64 nx, .int .i64 la] 36)).heap[w.heap.size]? = some (.cells #[.slice a xs.length ca, .slice d ks.length cd, .int .i64 lg, .int .i64 nx, .int .i64 la] 36 (0, 0)) := World.heap_alloc_new _ _
  have hb0 : Below w.heap.size w (w.alloc (.cells #[.slice a xs.length ca, .slice d ks.length cd, .int .i64 lg, .int .i64 nx, .int .i64 la] 36)) := (Below.refl _ _).alloc (Nat.le_refl _) _
  go_enter Try.func4, Try.ntmps4
  go_wp2_with fail
  refine (HSZ.out _ (hx.below hb0)).mono ?_
  rintro r w1 ⟨⟨x, rfl, hr2⟩, hb1⟩
  have hP1 := (hb1.block w.heap.size (by simp)).trans hP0
  have hb : Below w.heap.size w w1 := hb0.trans (hb1.mono hb0.size)
  obtain ⟨x0, x1, x2, x3, x4⟩ := five_cells hP1
  have hlt1 := heap_lt hP1
  clear hP0 hb0 hb1
  rcases hr2 with rfl | ⟨hr0, hl1, hl2⟩
  · go_wp2_with fail
    go_ret
    exact ⟨rfl, hb⟩
  · go_wp2_with fail
    refine (HTO.out _ (hx.below hb) (hy.below hb) hl1 hl2).mono ?_
    rintro r w2 ⟨g1, g2, rfl, hg1, hg2, hp, hq, hb2⟩
    have hP2 := (hb2.block w.heap.size hlt1).trans hP1
    have hbw2 := hb.trans (hb2.mono hb.size)
    clear x0 x1 x2 x3 x4 hP1 hb hb2 hlt1
    go_wp2_with fail
    refine (HSP.out g1 g2 _ hp.lie hq.lie hl1 hl2).mono ?_
    rintro r w3 ⟨rfl, hb3⟩
    have hlt2 := heap_lt hP2
    have hP3 := (hb3.block w.heap.size hlt2).trans hP2
    have hbw3 := hbw2.trans (hb3.mono hbw2.size)
    obtain ⟨x0, x1, x2, x3, x4⟩ := five_cells hP3
    have hlt3 := heap_lt hP3
    clear hP2 hbw2 hb3 hp hq hlt2
    go_wp2_with fail
    refine (HTO.out _ (hx.below hbw3) (hy.below hbw3) hl1 hl2).mono ?_
    rintro r w4 ⟨g3, g4, rfl, hg3, hg4, hp, hq, hb4⟩
    have hP4 := (hb4.block w.heap.size hlt3).trans hP3
    have hbw4 := hbw3.trans (hb4.mono hbw3.size)
    have hlt4 := heap_lt hP4
    have ha4 : Below w4.heap.size w4 (w4.alloc (.cells #[.slice (some ⟨g3, 0, none⟩) xs.length xs.length, .slice (some ⟨g4, 0, none⟩) ks.length ks.length, .int .i64 lg, .int .i64 nx, .int .i64 la] 41)) := (Below.refl _ _).alloc (Nat.le_refl _) _
    have hQ4 : (w4.alloc (.cells #[.slice (some ⟨g3, 0, none⟩) xs.length xs.length, .slice (some ⟨g4, 0, none⟩) ks.length ks.length, .int .i64 lg, .int .i64 nx, .int .i64 la] 41)).heap[w4.heap.size]? = some (.cells #[.slice (some ⟨g3, 0, none⟩) xs.length xs.length, .slice (some ⟨g4, 0, none⟩) ks.length ks.length, .int .i64 lg, .int .i64 nx, .int .i64 la] 41 (0, 0)) := World.heap_alloc_new _ _
    have hp5 := hp.lie.below ha4
    have hq5 := hq.lie.below ha4
    have hP5 := (ha4.block w.heap.size hlt4).trans hP4
    have hbw5 := hbw4.trans (ha4.mono hbw4.size)
    clear x0 x1 x2 x3 x4 hP3 hbw3 hb4 hlt3 hp hq hP4 hbw4
    go_wp2_with fail
    refine (HIM.out g3 g4 _ hp5 hq5 hl1 hl2).mono ?_
    rintro r w6 ⟨rfl, hb6⟩
    have hP6 := (hb6.block w.heap.size (by simp; omega)).trans hP5
    have hQ6 := (hb6.block w4.heap.size (by simp)).trans hQ4
    have hp6 := hp5.below hb6
    have hq6 := hq5.below hb6
    have hbw6 := hbw5.trans (hb6.mono hbw5.size)
    obtain ⟨x0, x1, x2, x3, x4⟩ := five_cells hP6
    obtain ⟨y0, y1, y2, y3, y4⟩ := five_cells hQ6
    have hltP := heap_lt hP6
    have hltQ := heap_lt hQ6
    clear hp5 hq5 hP5 hQ4 hbw5 hb6 ha4
    go_wp2_with fail
    have HB6 := hd hbw6
    have HX6 := hd hp6
    have HY6 := hd hq6
    clear hbw6 hp6 hq6
    go_region_held3 (fun w' => w'.cell? ⟨w.heap.size, 0, none⟩ = some (.slice a xs.length ca) ∧ w'.cell? ⟨w.heap.size, 1, none⟩ = some (.slice d ks.length cd) ∧ w'.cell? ⟨w.heap.size, 2, none⟩ = some (.int .i64 lg) ∧ w'.cell? ⟨w.heap.size, 3, none⟩ = some (.int .i64 nx) ∧ w'.cell? ⟨w.heap.size, 4, none⟩ = some (.int .i64 la) ∧ w'.cell? ⟨w4.heap.size, 0, none⟩ = some (.slice (some ⟨g3, 0, none⟩) xs.length xs.length) ∧ w'.cell? ⟨w4.heap.size, 1, none⟩ = some (.slice (some ⟨g4, 0, none⟩) ks.length ks.length) ∧ w'.cell? ⟨w4.heap.size, 2, none⟩ = some (.int .i64 lg) ∧ w'.cell? ⟨w4.heap.size, 3, none⟩ = some (.int .i64 nx) ∧ w'.cell? ⟨w4.heap.size, 4, none⟩ = some (.int .i64 la)) (simp [go_sem, *])
      (first
        | (go_at_call 17; refine (HTO.out _ (hx.below HB6.out.drew) (hy.below HB6.out.drew) hl1 hl2).mono ?_; rintro r w7 ⟨g5, g6, rfl, hg5, hg6, hp7, hq7, hb7⟩; have k0 := (hb7.cell (p := ⟨w.heap.size, _, none⟩) hltP).trans x0; have k1 := (hb7.cell (p := ⟨w.heap.size, _, none⟩) hltP).trans x1; have k2 := (hb7.cell (p := ⟨w.heap.size, _, none⟩) hltP).trans x2; have k3 := (hb7.cell (p := ⟨w.heap.size, _, none⟩) hltP).trans x3; have k4 := (hb7.cell (p := ⟨w.heap.size, _, none⟩) hltP).trans x4; have l0 := (hb7.cell (p := ⟨w4.heap.size, _, none⟩) hltQ).trans y0; have l1 := (hb7.cell (p := ⟨w4.heap.size, _, none⟩) hltQ).trans y1; have l2 := (hb7.cell (p := ⟨w4.heap.size, _, none⟩) hltQ).trans y2; have l3 := (hb7.cell (p := ⟨w4.heap.size, _, none⟩) hltQ).trans y3; have l4 := (hb7.cell (p := ⟨w4.heap.size, _, none⟩) hltQ).trans y4; have hm7 := Nat.lt_of_lt_of_le hltP hb7.size; have hn7 := Nat.lt_of_lt_of_le hltQ hb7.size; have HB7 := hd (HB6.out.drew.trans (hb7.mono HB6.out.size)); have HX7 := hd (LieT.below (w := w6.drew) HX6.out hb7); have HY7 := hd (LieI.below (w := w6.drew) HY6.out hb7); have HU7 := hd hp7.lie; have HV7 := hd hq7.lie; clear hp7 hq7 hb7)
        | (go_at_call 19; refine (HEQ.out g3 g4 g5 g6 _ HX7.out HY7.out HU7.out HV7.out hl1 hl2).mono ?_; rintro r w8 ⟨rfl, hb8⟩; have m0 := (hb8.cell (p := ⟨w.heap.size, _, none⟩) hm7).trans k0; have m1 := (hb8.cell (p := ⟨w.heap.size, _, none⟩) hm7).trans k1; have m2 := (hb8.cell (p := ⟨w.heap.size, _, none⟩) hm7).trans k2; have m3 := (hb8.cell (p := ⟨w.heap.size, _, none⟩) hm7).trans k3; have m4 := (hb8.cell (p := ⟨w.heap.size, _, none⟩) hm7).trans k4; have n0 := (hb8.cell (p := ⟨w4.heap.size, _, none⟩) hn7).trans l0; have n1 := (hb8.cell (p := ⟨w4.heap.size, _, none⟩) hn7).trans l1; have n2 := (hb8.cell (p := ⟨w4.heap.size, _, none⟩) hn7).trans l2; have n3 := (hb8.cell (p := ⟨w4.heap.size, _, none⟩) hn7).trans l3; have n4 := (hb8.cell (p := ⟨w4.heap.size, _, none⟩) hn7).trans l4; have HB8 := hd (HB7.out.trans (hb8.mono HB7.out.size)); clear hb8))
    all_goals go_wp2_with fail
    all_goals go_ret
    all_goals exact ⟨rfl, HB8.out⟩

set_option maxRecDepth 100000 in
theorem lifted (os : Os) (started : os.Started) (H : Type) (enc : TypeId × Value → H) :
    ReturnsInHanded {} Try.checked os 4 .any (Rows.fnExactEncodeEditSpec.pre6 enc Try.prog Try.f4 Rows.fnExactEncodeEditRow.domain false) (Rows.fnExactEncodeEditSpec.post enc Try.prog Try.f4 false true false false) := by
  refine returnsInHanded_of_change (C := Try.checked) own started (by kernel_rfl) Try.func4
    (ChangeSpec.witness6 (enc := enc) (C := Try.checked) false ⟨#[], #[.agg #[.slice none 0 0, .slice none 0 0, .int .i64 0, .int .i64 0, .int .i64 0]], []⟩ 8 (by kernel_rfl) (by kernel_rfl) (by kernel_rfl) (by kernel_rfl)) ?_
  intro W base args ds gs before hval0 hW hcnd _
  have hval : ∀ (j : Nat) t v, Try.f4.params[j]? = some t → args[j]? = some v → Value.okWide Try.prog W .any base t v := hval0
  have hW' := hW
  obtain ⟨p, q, hA0, hV, rfl, hfz, hnd⟩ := hW
  have hA : DataW.TrodAll enc Try.prog W 0 (fun _ => true) true Try.f4.params.toList args.toList ds p := hA0
  rw [Try.params4] at hA hval
  obtain ⟨v0, d0, rfl, rfl, h0⟩ := trodAll_one hA
  obtain ⟨rfl, rfl⟩ := trodVars_none hV
  have k0 := h0
  have lt0 : ∀ x ∈ p, x.block < W.heap.size := by obtain ⟨m, hm⟩ := k0; exact DataW.trod_lt m _ _ _ hm
  obtain ⟨a, ca, b, cb, e, rfl, hx, hf, hy, hn1, hn2⟩ := open_edit (hval 0 36 v0 rfl rfl) h0
  clear hA0 hval0
  refine (lawEncEd_any a ca b cb e W hx hf hy hn1 hn2).mono fun r W' ⟨he, bel⟩ => ?_
  subst he
  exact ⟨_, rfl, _, _, _, [], _, [], hW', trodAll_mk1 (shut_bool Try.underlying4 _), (trodAll_mk1 (Below.trod laidOut (by kernel_rfl) (of_decide_eq_true (by kernel_rfl)) k0 bel lt0)), rfl, bel.frame _, fun h => by cases h⟩

theorem over : Rows.fnExactEncodeEditRow.holds Try.pinned (OpenSpec.ofChange Rows.fnExactEncodeEditSpec) :=
  OpenClaim.holds_of_wide 4 Try.f4 rfl rfl rfl rfl rfl rfl rfl ⟨rfl, rfl, rfl, rfl, rfl⟩ rfl rfl rfl rfl rfl (by kernel_rfl) Try.func4 (by kernel_rfl)
    (of_decide_eq_true (by kernel_rfl)) (by unfold Func.isWrapper; first | (rw [if_pos (by decide +kernel)]; kernel_rfl) | (rw [if_neg (by decide +kernel)]; exact ⟨rfl, rfl⟩))
    (fun os started H enc _ => lifted os started H enc)

theorem fnExactEncodeEdit_holds : Rows.FnExactEncodeEditSaid := over
#print axioms fnExactEncodeEdit_holds
end Go.Proofs.Ytnlmebpajjiomac
