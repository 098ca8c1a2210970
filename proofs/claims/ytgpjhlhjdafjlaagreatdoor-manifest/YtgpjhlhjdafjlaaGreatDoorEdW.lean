import Derived.Test.YtgpjhlhjdafjlaaGreatDoorEdV
namespace Go.Proofs.YtgpjhlhjdafjlaaGreatDoor
open Go.RowKit Go.Maps
set_option linter.unusedVariables false
set_option linter.unusedSimpArgs false

theorem ownsI_blk {w : World} {B n : Nat} {v : Value} {ks : List Int} (h : w.ownsRow B 3 1 v n (ic ks)) (hn : n = ks.length) (h0 : ks ≠ []) :
    ∃ g cap cur, v = .slice (some ⟨g, 0, none⟩) ks.length cap ∧ B ≤ g ∧ w.heap[g]? = some (.cells cur 3 (0, 0)) ∧ ∀ i, i < ks.length → cur[i]? = some (.int .i64 (ks.getD i 0)) := by
  obtain ⟨h1, h2⟩ := h
  subst hn
  rcases h2 with ⟨rfl, h3⟩ | ⟨g, cap, cur, rfl, hg, hbk, hl, hm, hsz, htk⟩
  · exact absurd (List.length_eq_zero_iff.1 h3) h0
  · refine ⟨g, cap, cur, rfl, hg, hbk, fun i hi => ?_⟩
    have hcell : cur[i]? = (ic ks)[i]? := by
      have e1 : (cur.toList.take (ks.length * 1))[i]? = (ic ks)[i]? := by rw [htk]
      rw [List.getElem?_take_of_lt (by omega)] at e1
      simpa using e1
    rw [hcell]
    simp [ic, List.getD, hi]
theorem ownsI_app {w : World} {B : Nat} {v : Value} {ks : List Int} {lg nx la : Int} (h : w.ownsRow B 3 1 v (ks.length + 3) (ic ks ++ [.int .i64 lg, .int .i64 nx, .int .i64 la])) :
    ∃ g cap cur, v = .slice (some ⟨g, 0, none⟩) (ks.length + 3) cap ∧ B ≤ g ∧ w.heap[g]? = some (.cells cur 3 (0, 0)) ∧ ∀ i, i < ks.length + 3 → cur[i]? = some (.int .i64 ((ks ++ [lg, nx, la]).getD i 0)) := by
  have e : ic ks ++ [.int .i64 lg, .int .i64 nx, .int .i64 la] = ic (ks ++ [lg, nx, la]) := by simp [ic]
  rw [e] at h
  have := ownsI_blk h (by simp) (by simp)
  simpa using this
theorem three_at (w : World) (x y z : Value) (t : TypeId) : ∀ j v, [x, y, z][j]? = some v → (w.alloc (.cells #[x, y, z] t)).cell? ((⟨w.heap.size, 0, none⟩ : Addr).add j) = some v := by
  intro j v hj
  rw [Go.WideShapes.add_plain]
  match j, hj with
  | 0, hj => cases hj; simp
  | 1, hj => cases hj; simp
  | 2, hj => cases hj; simp
set_option maxRecDepth 100000 in
set_option maxHeartbeats 4000000 in
theorem implEncEd_any (a : Option Addr) (ca : Nat) (dg doff : Nat) (cd : Nat) (e : Ed) (w : World) (hx : LieT w a e.ad) (hf : FitsT e.ad) (hy : LieI w (some ⟨dg, doff, none⟩) e.dl) (hl1 : e.ad.length ≤ 1048576) (hl2 : e.dl.length ≤ 1048576) :
    Calls Tryz.prog 10 #[edV a ca (some ⟨dg, doff, none⟩) cd e] w fun r w' => r = .returned (.string (edT e)) ∧ Below w.heap.size w w' := by
  have HO := hd (fun (w : World) (hx : LieT w a e.ad) (hy : LieI w (some ⟨dg, doff, none⟩) e.dl) => implEdit_any a ca (some ⟨dg, doff, none⟩) cd e w hx hf hy hl1 hl2)
  have HT : Hid (edOk e = true → edT e = ⟨(edB e).toArray⟩) := fun h => by unfold edT; rw [if_pos h]
  have HF : Hid (edOk e = false → edT e = ⟨#[]⟩) := fun h => by unfold edT; rw [if_neg (by simp [h])]
  have HI := hd ((edOk_iff e).1)
  generalize edT e = T at *
  have HB : Hid (edB e = adB e.ad.length e.ad ++ vb e.dl.length ++ dlB e.dl ++ vb e.lg.toNat ++ vb e.nx.toNat ++ vb e.la.toNat) := rfl
  generalize edB e = EB at *
  obtain ⟨xs, ks, lg, nx, la⟩ := e
  dsimp only at *
  have hP0 : (w.alloc (.cells #[.slice a xs.length ca, .slice (some ⟨dg, doff, none⟩) ks.length cd, .int .i64 lg, .int .i64 nx, .int .i64 la] 35)).heap[w.heap.size]? = some (.cells #[.slice a xs.length ca, .slice (some ⟨dg, doff, none⟩) ks.length cd, .int .i64 lg, .int .i64 nx, .int .i64 la] 35 (0, 0)) := World.heap_alloc_new _ _
  have hb0 : Below w.heap.size w (w.alloc (.cells #[.slice a xs.length ca, .slice (some ⟨dg, doff, none⟩) ks.length cd, .int .i64 lg, .int .i64 nx, .int .i64 la] 35)) := (Below.refl _ _).alloc (Nat.le_refl _) _
  go_enter Tryz.func10, Tryz.ntmps10
  go_wp2_with fail
  refine (HO.out _ (hx.below hb0) (hy.below hb0)).mono ?_
  rintro r w1 ⟨rfl, hb1⟩
  have hP1 := (hb1.block w.heap.size (by simp)).trans hP0
  have hb : Below w.heap.size w w1 := hb0.trans (hb1.mono hb0.size)
  obtain ⟨x0, x1, x2, x3, x4⟩ := five_cells hP1
  have hlt1 := heap_lt hP1
  clear hP0 hb0 hb1 HO
  cases hok : edOk ⟨xs, ks, lg, nx, la⟩ with
  | false =>
    have hE := HF.out hok
    subst hE
    go_wp2_with fail
    go_ret
    exact ⟨rfl, hb⟩
  | true =>
    have hE := HT.out hok
    obtain ⟨q1, q2, q3, q4, q5, q6, q7⟩ := HI.out hok
    subst hE
    clear HT HF HI hok
    have HAll := hd q2
    have HAllI := hd q4
    have HLG := hd ((numOk_iff _).1 q5)
    have HNX := hd ((numOk_iff _).1 q6)
    have HV : Hid ((vtext (xs.length : Int)).data.toList = adB xs.length (xs.take 0)) := by show _ = _; rw [vtext_in _ (by omega) (by omega)]; simp [adB]
    have HVS : Hid ((vtext (xs.length : Int)).size ≤ 8) := vtext_size _
    have hB0 : Bld w1.heap.size w1.heap.size [] (w1.alloc (.cells #[.pointer none, .slice none 0 0] 71)) := Lib.IsBuilderF.of (Lib.fresh_isBuilder 71 5 w1)
    have hb0 : Below w1.heap.size w1 (w1.alloc (.cells #[.pointer none, .slice none 0 0] 71)) := (Below.refl _ _).alloc (Nat.le_refl _) _
    clear q2 q4 q5 q6
    go_wp2_with fail
    refine (implPut_any _ _).mono ?_
    rintro r w2 ⟨rfl, hb2⟩
    have hB1 := hB0.below hb2
    have hbw2 : Below w1.heap.size w1 w2 := hb0.trans (hb2.mono hb0.size)
    go_wp2_with fail
    refine (writeString_any _ _ _ _ w2 hB1 (by have := HVS.out; simp; omega) hbw2.size).mono ?_
    rintro e w3 ⟨rfl, hB2, hb3, -⟩
    rw [HV.out, List.nil_append] at hB2
    have hbw3 : Below w1.heap.size w1 w3 := hbw2.trans hb3
    obtain ⟨y0, y1, y2, y3, y4⟩ := five_cells ((hbw3.block w.heap.size hlt1).trans hP1)
    have hlt3 : w.heap.size < w3.heap.size := Nat.lt_of_lt_of_le hlt1 hbw3.size
    clear x0 x1 x2 x3 x4 hB0 hB1 hb0 hb2 hbw2 hb3 HV HVS
    go_wp2_with fail
    go_loopw [19] (fun y wr => ∃ k : Nat, y = .int .i64 k ∧ k ≤ xs.length ∧ Bld w1.heap.size w1.heap.size (adB xs.length (xs.take k)) wr ∧ Below w1.heap.size w1 wr) (fun y _ => xs.length - (intOf y).toNat)
    case atStart => exact ⟨0, rfl, by omega, hB2, hbw3⟩
    case round =>
      clear hB2 hbw3 y0 y1 y2 y3 y4 hlt3
      obtain ⟨k, rfl, hk, hB, hbr⟩ := hrel
      have hbs := hbr.size
      have hBlt := hB.lt
      obtain ⟨x0, x1, x2, x3, x4⟩ := five_cells ((hbr.block w.heap.size hlt1).trans hP1)
      have hltP : w.heap.size < wr.heap.size := by omega
      have hbw := hb.trans (hbr.mono hb.size)
      by_cases hlt : k < xs.length
      · obtain ⟨b, off, rfl, hbl, c0, c1, c2, c3⟩ := (hx.below hbw).at hlt
        have hik : (k : Int) < (xs.length : Int) := by omega
        have hok : refOk (xs.getD k tr0) = true := by
          have e : xs.getD k tr0 = xs[k] := by simp [List.getD, hlt]
          rw [e]
          exact List.all_eq_true.1 HAll.out _ (List.getElem_mem hlt)
        obtain ⟨p1, p2, p3, p4, -⟩ := (refOk_iff _).1 hok
        have HS : Hid (adB xs.length (xs.take (k + 1)) = adB xs.length (xs.take k) ++ vb (xs.getD k tr0).nu.toNat ++ vb (xs.getD k tr0).lv.toNat ++ (vb (xs.getD k tr0).lo.size ++ (xs.getD k tr0).lo.data.toList) ++ (vb (xs.getD k tr0).hi.size ++ (xs.getD k tr0).hi.data.toList)) := by
          show _ = _
          rw [takeT_snoc xs k hlt, adB_snoc]
          simp [kyB]
        have hsz : (adB xs.length (xs.take k)).length ≤ 2032008 := by
          have h2 : (xs.take k).all refOk = true := List.all_eq_true.2 fun x hx => List.all_eq_true.1 HAll.out x (List.mem_of_mem_take hx)
          have := adB_len xs.length (xs.take k) h2
          rw [List.length_take] at this
          omega
        generalize xs.getD k tr0 = f at *
        generalize adB xs.length (xs.take k) = l at *
        obtain ⟨nu, lv, lo, hi⟩ := f
        dsimp only at *
        have HV1 : Hid ((vtext nu).data.toList = vb nu.toNat) := by show _ = _; rw [vtext_in _ (by omega) (by omega)]
        have HV2 : Hid ((vtext lv).data.toList = vb lv.toNat) := by show _ = _; rw [vtext_in _ (by omega) (by omega)]
        have hv1 := vtext_size nu
        have hv2 := vtext_size lv
        have hw1 := vb_len nu.toNat
        have hw2 := vb_len lv.toNat
        have hw3 := vb_len lo.size
        have hdl := dataL lo
        have hA0 : (wr.alloc (.cells #[.int .i64 nu, .int .i64 lv, .string lo, .string hi] 58)).heap[wr.heap.size]? = some (.cells #[.int .i64 nu, .int .i64 lv, .string lo, .string hi] 58 (0, 0)) := World.heap_alloc_new _ _
        have hba : Below w1.heap.size w1 (wr.alloc (.cells #[.int .i64 nu, .int .i64 lv, .string lo, .string hi] 58)) := hbr.alloc hbs _
        have hBa : Bld w1.heap.size w1.heap.size l (wr.alloc (.cells #[.int .i64 nu, .int .i64 lv, .string lo, .string hi] 58)) := Lib.IsBuilderF.alloc hB _
        have hne : ∀ c fz, (Obj.cells #[.int .i64 nu, .int .i64 lv, .string lo, .string hi] 58 (0, 0)) ≠ .cells c 5 fz := fun c fz h => by simp at h
        clear hok hx hf hB hbr HAll HAllI hbw
        go_wp2_with fail
        refine (implPut_any _ _).mono ?_
        rintro e w4 ⟨rfl, hb4⟩
        have hA4 := (hb4.block wr.heap.size (by simp)).trans hA0
        have hB4 := hBa.below hb4
        have hbw4 := hba.trans (hb4.mono hba.size)
        clear hba hBa hA0 hb4
        obtain ⟨z0, z1, z2, z3⟩ := four_cells hA4
        have hl4 := heap_lt hA4
        go_wp2_with fail
        refine (writeString_any _ _ _ _ w4 hB4 (by omega) hbw4.size).mono ?_
        rintro e w5 ⟨rfl, hB5, hb5, hk5⟩
        rw [HV1.out] at hB5
        have hA5 := hk5 wr.heap.size _ hA4 (by simp; omega) hne
        have hbw5 := hbw4.trans hb5
        clear hB4 hb5 hk5 z0 z1 z2 z3 hA4 hl4 hbw4
        obtain ⟨z0, z1, z2, z3⟩ := four_cells hA5
        have hl5 := heap_lt hA5
        go_wp2_with fail
        refine (implPut_any _ _).mono ?_
        rintro e w6 ⟨rfl, hb6⟩
        have hA6 := (hb6.block wr.heap.size hl5).trans hA5
        have hB6 := hB5.below hb6
        have hbw6 := hbw5.trans (hb6.mono hbw5.size)
        clear z0 z1 z2 z3 hA5 hB5 hbw5 hb6
        obtain ⟨z0, z1, z2, z3⟩ := four_cells hA6
        have hl6 := heap_lt hA6
        go_wp2_with fail
        refine (writeString_any _ _ _ _ w6 hB6 (by simp only [List.length_append]; omega) hbw6.size).mono ?_
        rintro e w7 ⟨rfl, hB7, hb7, hk7⟩
        rw [HV2.out] at hB7
        have hA7 := hk7 wr.heap.size _ hA6 (by simp; omega) hne
        have hbw7 := hbw6.trans hb7
        clear hB6 hb7 hk7 z0 z1 z2 z3 hA6 hl6 hbw6
        obtain ⟨z0, z1, z2, z3⟩ := four_cells hA7
        have hl7 := heap_lt hA7
        go_wp2_with fail
        refine (putSized_any w1.heap.size w1.heap.size _ lo w7 hB7 (by omega) (by simp only [List.length_append]; omega) hbw7.size).mono ?_
        rintro e w8 ⟨rfl, hB8, hb8, hk8⟩
        have hA8 := hk8 wr.heap.size _ hA7 (by omega) hne
        have hbw8 := hbw7.trans hb8
        clear hB7 hb8 hk8 z0 z1 z2 z3 hA7 hl7 hbw7
        obtain ⟨z0, z1, z2, z3⟩ := four_cells hA8
        have hl8 := heap_lt hA8
        go_wp2_with fail
        refine (putSized_any w1.heap.size w1.heap.size _ hi w8 hB8 (by omega) (by simp only [List.length_append]; omega) hbw8.size).mono ?_
        rintro e w9 ⟨rfl, hB9, hb9, hk9⟩
        have hbw9 := hbw8.trans hb9
        go_wp2_with fail
        exact ⟨⟨k + 1, by simp, by omega, by rw [HS.out]; exact hB9, hbw9⟩, by simp only [intOf]; omega⟩
      · obtain rfl : k = xs.length := by omega
        rw [List.take_length] at hB
        have hsz : (adB xs.length xs).length ≤ 2032008 := by
          have := adB_len xs.length xs HAll.out
          omega
        have HV : Hid ((vtext (ks.length : Int)).data.toList = vb ks.length) := by show _ = _; rw [vtext_in _ (by omega) (by omega)]; simp
        have hvs := vtext_size (ks.length : Int)
        have hvl := vb_len ks.length
        generalize adB xs.length xs = l at *
        go_wp2_with fail
        refine (implPut_any _ _).mono ?_
        rintro r w4 ⟨rfl, hb4⟩
        have hB4 := hB.below hb4
        have hbw4 := hbr.trans (hb4.mono hbr.size)
        clear hB hb4 hbr
        go_wp2_with fail
        refine (writeString_any _ _ _ _ w4 hB4 (by omega) hbw4.size).mono ?_
        rintro e w5 ⟨rfl, hB5, hb5, -⟩
        rw [HV.out] at hB5
        have hbw5 := hbw4.trans hb5
        clear hB4 hb5 hbw4 x0 x1 x2 x3 x4 hbs hltP hbw HV hvs hBlt
        have hP5 := (hbw5.block w.heap.size hlt1).trans hP1
        obtain ⟨x0, x1, x2, x3, x4⟩ := five_cells hP5
        have hlt5 := heap_lt hP5
        have hy5 := hy.below (hb.trans (hbw5.mono hb.size))
        obtain ⟨i0, hi, hz0, hz1, hz2⟩ := info_parts int_info
        have hw15 : w1.heap.size < w5.heap.size := hB5.lt
        have HY5 := hd hy5
        have HB5 := hd hbw5
        have HL5 := hd hB5
        have HP5 := hd hP5
        have HBO : Hid (Below w5.heap.size w5 (w5.alloc (.cells #[.int .i64 lg, .int .i64 nx, .int .i64 la] 3)).drew) := ((Below.refl _ w5).alloc (Nat.le_refl _) _).drew
        have HCO : Hid (∀ j u, [Value.int .i64 lg, .int .i64 nx, .int .i64 la][j]? = some u → (w5.alloc (.cells #[.int .i64 lg, .int .i64 nx, .int .i64 la] 3)).drew.cell? ((⟨w5.heap.size, 0, none⟩ : Addr).add j) = some u) := three_at w5 _ _ _ _
        have HC3 := hd three_at
        clear hy5 hbw5 hB5 hP5
        go_wp2_with fail
        go_region_held3 (fun w' => w'.cell? ⟨w.heap.size, 1, none⟩ = some (.slice (some ⟨dg, doff, none⟩) ks.length cd) ∧ w'.cell? ⟨w.heap.size, 2, none⟩ = some (.int .i64 lg) ∧ w'.cell? ⟨w.heap.size, 3, none⟩ = some (.int .i64 nx) ∧ w'.cell? ⟨w.heap.size, 4, none⟩ = some (.int .i64 la)) (simp [go_sem, *])
          (first
            | (go_at_call 34; refine (cloneI_any dg doff cd ks w5.drew HY5.out hl2).mono ?_; rintro e w6 ⟨v6, rfl, hown6, hb6⟩; have hb56 : Below w5.heap.size w5 w6 := (Below.refl _ w5).drew.trans hb6; have k1 := (hb56.cell (p := ⟨w.heap.size, _, none⟩) hlt5).trans x1; have k2 := (hb56.cell (p := ⟨w.heap.size, _, none⟩) hlt5).trans x2; have k3 := (hb56.cell (p := ⟨w.heap.size, _, none⟩) hlt5).trans x3; have k4 := (hb56.cell (p := ⟨w.heap.size, _, none⟩) hlt5).trans x4; have hl6 := Nat.lt_of_lt_of_le hlt5 hb56.size; have HB56 := hd hb56; have HW6 := hd hown6; clear hown6 hb6 hb56)
            | (go_at_call 34; refine (cloneI_any dg doff cd ks (w5.alloc (.cells #[.int .i64 lg, .int .i64 nx, .int .i64 la] 3)).drew (HY5.out.below HBO.out) hl2).mono ?_; rintro e w7 ⟨v7, rfl, hown7, hb7⟩; have hb57 : Below w5.heap.size w5 w7 := HBO.out.trans (hb7.mono HBO.out.size); have k1 := (hb57.cell (p := ⟨w.heap.size, _, none⟩) hlt5).trans x1; have k2 := (hb57.cell (p := ⟨w.heap.size, _, none⟩) hlt5).trans x2; have k3 := (hb57.cell (p := ⟨w.heap.size, _, none⟩) hlt5).trans x3; have k4 := (hb57.cell (p := ⟨w.heap.size, _, none⟩) hlt5).trans x4; have hl7 := Nat.lt_of_lt_of_le hlt5 hb57.size; have hs7 : w5.heap.size + 1 ≤ w7.heap.size := by { have h := hb7.size; simp at h; omega }; have HB57 := hd hb57; have HW7 := hd hown7; have HC7 : Hid (∀ j u, [Value.int .i64 lg, .int .i64 nx, .int .i64 la][j]? = some u → w7.cell? ((⟨w5.heap.size, 0, none⟩ : Addr).add j) = some u) := fun j u hj => by { have h := HCO.out j u hj; rw [Go.WideShapes.add_plain] at h ⊢; exact (hb7.cell (p := ⟨w5.heap.size, _, none⟩) (by simp)).trans h }; clear hown7 hb7 hb57)
            | (refine step_append_own rfl (.tmp 45) (.tmp 52) 33 rfl w5.heap.size 3 i0 _ 1 8 Tryz.underlying33 hi hz0 hz1 hz2 rfl (by decide) v6 ks.length (ic ks) (by simp [Act.eval, Act.put]) (World.ownsRow.alloc HW6.out _) ⟨w6.heap.size, 0, none⟩ 3 3 [.int .i64 lg, .int .i64 nx, .int .i64 la] (by simp [Act.eval, Act.put]) rfl (HC3.out w6 _ _ _ _) (fun x hx => by simp at hx; rcases hx with rfl | rfl | rfl <;> rfl) (by unfold maxLen; omega) (by omega) (by have := HB56.out.size; simp; omega) ?_; intro v8 w8 hown8 hgrow8 hnil8; have hb58 : Below w5.heap.size w5 w8 := (HB56.out.alloc HB56.out.size _).grown hgrow8 (HB56.out.alloc HB56.out.size _).size (owns_base HW6.out); obtain ⟨g8, cap8, cur8, rfl, hg8, hbk8, hcl8⟩ := ownsI_app hown8; have m1 := (hb58.cell (p := ⟨w.heap.size, _, none⟩) hlt5).trans x1; have m2 := (hb58.cell (p := ⟨w.heap.size, _, none⟩) hlt5).trans x2; have m3 := (hb58.cell (p := ⟨w.heap.size, _, none⟩) hlt5).trans x3; have m4 := (hb58.cell (p := ⟨w.heap.size, _, none⟩) hlt5).trans x4; have HB8 := hd (HB5.out.trans (hb58.mono HB5.out.size)); have HL8 := hd (HL5.out.below hb58); have HK8 := hd hbk8; have HC8 := hd hcl8; clear hown8 hgrow8 hnil8 hb58 hbk8 hcl8)
            | (refine step_append_own rfl (.tmp 45) (.tmp 52) 33 rfl (w5.heap.size + 1) 3 i0 _ 1 8 Tryz.underlying33 hi hz0 hz1 hz2 rfl (by decide) v7 ks.length (ic ks) (by simp [Act.eval, Act.put]) (by have h := HW7.out; rwa [show (w5.alloc (.cells #[.int .i64 lg, .int .i64 nx, .int .i64 la] 3)).drew.heap.size = w5.heap.size + 1 by simp] at h) ⟨w5.heap.size, 0, none⟩ 3 3 [.int .i64 lg, .int .i64 nx, .int .i64 la] (by simp [Act.eval, Act.put]) rfl HC7.out (fun x hx => by simp at hx; rcases hx with rfl | rfl | rfl <;> rfl) (by unfold maxLen; omega) (by omega) hs7 ?_; intro v8 w8 hown8 hgrow8 hnil8; have hb58 : Below w5.heap.size w5 w8 := HB57.out.grown hgrow8 HB57.out.size (fun k hk => by have := owns_base HW7.out k hk; simp at this; omega); obtain ⟨g8, cap8, cur8, rfl, hg8, hbk8, hcl8⟩ := ownsI_app hown8; have m1 := (hb58.cell (p := ⟨w.heap.size, _, none⟩) hlt5).trans x1; have m2 := (hb58.cell (p := ⟨w.heap.size, _, none⟩) hlt5).trans x2; have m3 := (hb58.cell (p := ⟨w.heap.size, _, none⟩) hlt5).trans x3; have m4 := (hb58.cell (p := ⟨w.heap.size, _, none⟩) hlt5).trans x4; have HB8 := hd (HB5.out.trans (hb58.mono HB5.out.size)); have HL8 := hd (HL5.out.below hb58); have HK8 := hd hbk8; have HC8 := hd hcl8; clear hown8 hgrow8 hnil8 hb58 hbk8 hcl8))
        all_goals
          have HJ1 : Hid (∀ i, i < ks.length + 3 → 0 ≤ (ks ++ [lg, nx, la]).getD i 0 ∧ (ks ++ [lg, nx, la]).getD i 0 ≤ 72057594037927935) := fun i hi => by
            have e : (ks ++ [lg, nx, la]).getD i 0 = (ks ++ [lg, nx, la])[i]'(by simp; omega) := by simp [List.getD]; rw [List.getElem?_eq_getElem (by simp; omega)]; rfl
            have hm := List.getElem_mem (l := ks ++ [lg, nx, la]) (n := i) (by simp; omega)
            rw [e]
            have h1 := HLG.out
            have h2 := HNX.out
            rcases List.mem_append.1 hm with h | h
            · have := (numOk_iff _).1 (List.all_eq_true.1 HAllI.out _ h)
              omega
            · simp only [List.mem_cons, List.not_mem_nil, or_false] at h
              rcases h with h | h | h <;> rw [h] <;> omega
          have HJ2 : Hid (l ++ vb ks.length ++ dlB (ks ++ [lg, nx, la]) = EB) := by
            show _ = _
            rw [HB.out]
            simp [dlB, List.flatMap_append]
          have HJ3 : Hid (∀ k, k < ks.length + 3 → dlB ((ks ++ [lg, nx, la]).take (k + 1)) = dlB ((ks ++ [lg, nx, la]).take k) ++ vb ((ks ++ [lg, nx, la]).getD k 0).toNat) := fun k hk => by
            rw [takeI_snocM _ k (by simp; omega), dlB_snoc]
          have HJ4 : Hid (∀ k, (dlB ((ks ++ [lg, nx, la]).take k)).length ≤ 8 * (ks.length + 3)) := fun k => by
            have := dlB_len ((ks ++ [lg, nx, la]).take k)
            rw [List.length_take] at this
            simp only [List.length_append, List.length_cons, List.length_nil] at this
            omega
          have HJ5 : Hid ((ks ++ [lg, nx, la]).take (ks.length + 3) = ks ++ [lg, nx, la]) := by
            show _ = _
            rw [List.take_of_length_le (by simp)]
          have hne8 : ∀ c fz, (Obj.cells cur8 3 (0, 0)) ≠ .cells c 5 fz := fun c fz h => by simp at h
          generalize ks ++ [lg, nx, la] = js at *
          go_wp2_with fail
          go_loopw [55] (fun y wr => ∃ k : Nat, y = .int .i64 k ∧ k ≤ ks.length + 3 ∧ Bld w1.heap.size w1.heap.size (l ++ vb ks.length ++ dlB (js.take k)) wr ∧ Below w1.heap.size w1 wr ∧ wr.heap[g8]? = some (.cells cur8 3 (0, 0))) (fun y _ => ks.length + 3 - (intOf y).toNat)
          case atStart => exact ⟨0, rfl, by omega, by simpa [dlB] using HL8.out, HB8.out, HK8.out⟩
          case round =>
            obtain ⟨k, rfl, hk, hBr, hbr, hkr⟩ := hrel
            have hbs := hbr.size
            have hlg := heap_lt hkr
            by_cases hlt : k < ks.length + 3
            · have hik : (k : Int) < (ks.length : Int) + 3 := by omega
              have c0 : wr.cell? ⟨g8, k, none⟩ = some (.int .i64 (js.getD k 0)) := by
                have := HC8.out k hlt
                simpa [World.cell?, hkr] using this
              have hnum := HJ1.out k hlt
              have hl4 := HJ4.out k
              have HS := hd (HJ3.out k hlt)
              generalize js.getD k 0 = f at *
              have HV1 : Hid ((vtext f).data.toList = vb f.toNat) := by show _ = _; rw [vtext_in _ (by omega) (by omega)]
              have hv1 := vtext_size f
              go_wp2_with fail
              refine (implPut_any _ _).mono ?_
              rintro e w9 ⟨rfl, hb9⟩
              have hB9 := hBr.below hb9
              have hbw9 := hbr.trans (hb9.mono hbr.size)
              have hk9 := (hb9.block g8 hlg).trans hkr
              go_wp2_with fail
              refine (writeString_any _ _ _ _ w9 hB9 (by simp only [List.length_append]; omega) hbw9.size).mono ?_
              rintro e w10 ⟨rfl, hB10, hb10, hk10⟩
              rw [HV1.out] at hB10
              have hk11 := hk10 g8 _ hk9 (by simp; omega) hne8
              go_wp2_with fail
              exact ⟨⟨k + 1, by simp, by omega, by rw [HS.out, ← List.append_assoc]; exact hB10, hbw9.trans hb10, hk11⟩, by simp only [intOf]; omega⟩
            · obtain rfl : k = ks.length + 3 := by omega
              rw [HJ5.out, HJ2.out] at hBr
              go_wp2_with fail
              refine (Tryz.Builder_String_any_k w1.heap.size w1.heap.size _ _ hBr hbs).mono ?_
              rintro e w9 ⟨rfl, -, hb9, -⟩
              go_wp2_with fail
              go_ret
              exact ⟨rfl, hb.trans ((hbr.trans hb9).mono hb.size)⟩
end Go.Proofs.YtgpjhlhjdafjlaaGreatDoor
namespace Go.Proofs.YtgpjhlhjdafjlaaGreatDoor
open Go.RowKit Go.Maps
set_option linter.unusedVariables false
set_option linter.unusedSimpArgs false

set_option maxRecDepth 100000 in
set_option maxHeartbeats 1000000 in
theorem cloneI_wide (a : Option Addr) (cap : Nat) (ks : List Int) (w : World) (hx : LieI w a ks) (hlen : ks.length ≤ 1048576) :
    Calls Tryz.prog 34 #[.slice a ks.length cap] w fun e w' => ∃ v, e = .returned v ∧ w'.ownsRow w.heap.size 3 1 v ks.length (ic ks) ∧ Below w.heap.size w w' := by
  obtain ⟨i0, hi, hz0, hz1, hz2⟩ := info_parts int_info
  cases a with
  | none =>
    have hk : ks = [] := by
      rcases hx with h | ⟨b, off, h, -⟩
      · exact h
      · cases h
    subst hk
    have hnil : ∀ w, (binOp .eql 33 (.slice none 0 cap) (.slice none 0 0)).run Tryz.prog w = .ok (.bool true) w := fun w => Lib.run_eql_slice_nil w 33 3 _ _ _ _ _ Tryz.underlying33
    go_enter Tryz.func34, Tryz.ntmps34
    go_wp2_with fail
    go_ret
    exact ⟨_, rfl, ownsNil _ _ _ _, Below.refl _ _⟩
  | some ad =>
    have ho := ownsI_lit w w.heap.size (Nat.le_refl _)
    have hb0 : Below w.heap.size w (w.alloc (.cells #[] 3)) := (Below.refl _ _).alloc (Nat.le_refl _) _
    have HC : Hid (∀ j u, (ic ks)[j]? = some u → (w.alloc (.cells #[] 3)).cell? (ad.add j) = some u) := by
      show ∀ j u, _
      rcases hx with h | ⟨b, off, h, h2⟩
      · subst h
        intro j u hj
        simp [ic] at hj
      · cases h
        exact ic_at (LieI.below (.inr ⟨b, off, rfl, h2⟩) hb0)
    have HS : Hid (w.heap.size ≤ (w.alloc (.cells #[] 3)).heap.size) := hb0.size
    have hnil : ∀ w, (binOp .eql 33 (.slice (some ad) ks.length cap) (.slice none 0 0)).run Tryz.prog w = .ok (.bool false) w := fun w => Lib.run_eql_slice_nil w 33 3 _ _ _ _ _ Tryz.underlying33
    go_enter Tryz.func34, Tryz.ntmps34
    go_wp2_with (at_builtin; refine wpList_append_own _ rfl _ _ 33 rfl w.heap.size 3 i0 _ 1 8 Tryz.underlying33 hi hz0 hz1 hz2 rfl (by decide) _ _ _ rfl ho ad ks.length cap (ic ks) rfl (by simp [ic]) HC.out (fun x hx => by simp [ic] at hx; obtain ⟨k, _, rfl⟩ := hx; rfl) (by unfold maxLen; omega) (by omega) HS.out ?_; intro v' w8 hown8 hgrow _)
    go_ret
    rw [Nat.zero_add] at hown8
    exact ⟨_, rfl, hown8, hb0.grown hgrow hb0.size (owns_base ho)⟩

set_option maxRecDepth 100000 in
set_option maxHeartbeats 4000000 in
theorem implEncEd_wide (a : Option Addr) (ca : Nat) (d : Option Addr) (cd : Nat) (e : Ed) (w : World) (hx : LieT w a e.ad) (hf : FitsT e.ad) (hy : LieI w d e.dl) (hl1 : e.ad.length ≤ 1048576) (hl2 : e.dl.length ≤ 1048576) :
    Calls Tryz.prog 10 #[edV a ca d cd e] w fun r w' => r = .returned (.string (edT e)) ∧ Below w.heap.size w w' := by
  have HO := hd (fun (w : World) (hx : LieT w a e.ad) (hy : LieI w d e.dl) => implEdit_any a ca d cd e w hx hf hy hl1 hl2)
  have HT : Hid (edOk e = true → edT e = ⟨(edB e).toArray⟩) := fun h => by unfold edT; rw [if_pos h]
  have HF : Hid (edOk e = false → edT e = ⟨#[]⟩) := fun h => by unfold edT; rw [if_neg (by simp [h])]
  have HI := hd ((edOk_iff e).1)
  generalize edT e = T at *
  have HB : Hid (edB e = adB e.ad.length e.ad ++ vb e.dl.length ++ dlB e.dl ++ vb e.lg.toNat ++ vb e.nx.toNat ++ vb e.la.toNat) := rfl
  generalize edB e = EB at *
  obtain ⟨xs, ks, lg, nx, la⟩ := e
  dsimp only at *
  have hP0 : (w.alloc (.cells #[.slice a xs.length ca, .slice d ks.length cd, .int .i64 lg, .int .i64 nx, .int .i64 la] 35)).heap[w.heap.size]? = some (.cells #[.slice a xs.length ca, .slice d ks.length cd, .int .i64 lg, .int .i64 nx, .int .i64 la] 35 (0, 0)) := World.heap_alloc_new _ _
  have hb0 : Below w.heap.size w (w.alloc (.cells #[.slice a xs.length ca, .slice d ks.length cd, .int .i64 lg, .int .i64 nx, .int .i64 la] 35)) := (Below.refl _ _).alloc (Nat.le_refl _) _
  go_enter Tryz.func10, Tryz.ntmps10
  go_wp2_with fail
  refine (HO.out _ (hx.below hb0) (hy.below hb0)).mono ?_
  rintro r w1 ⟨rfl, hb1⟩
  have hP1 := (hb1.block w.heap.size (by simp)).trans hP0
  have hb : Below w.heap.size w w1 := hb0.trans (hb1.mono hb0.size)
  obtain ⟨x0, x1, x2, x3, x4⟩ := five_cells hP1
  have hlt1 := heap_lt hP1
  clear hP0 hb0 hb1 HO
  cases hok : edOk ⟨xs, ks, lg, nx, la⟩ with
  | false =>
    have hE := HF.out hok
    subst hE
    go_wp2_with fail
    go_ret
    exact ⟨rfl, hb⟩
  | true =>
    have hE := HT.out hok
    obtain ⟨q1, q2, q3, q4, q5, q6, q7⟩ := HI.out hok
    subst hE
    clear HT HF HI hok
    have HAll := hd q2
    have HAllI := hd q4
    have HLG := hd ((numOk_iff _).1 q5)
    have HNX := hd ((numOk_iff _).1 q6)
    have HV : Hid ((vtext (xs.length : Int)).data.toList = adB xs.length (xs.take 0)) := by show _ = _; rw [vtext_in _ (by omega) (by omega)]; simp [adB]
    have HVS : Hid ((vtext (xs.length : Int)).size ≤ 8) := vtext_size _
    have hB0 : Bld w1.heap.size w1.heap.size [] (w1.alloc (.cells #[.pointer none, .slice none 0 0] 71)) := Lib.IsBuilderF.of (Lib.fresh_isBuilder 71 5 w1)
    have hb0 : Below w1.heap.size w1 (w1.alloc (.cells #[.pointer none, .slice none 0 0] 71)) := (Below.refl _ _).alloc (Nat.le_refl _) _
    clear q2 q4 q5 q6
    go_wp2_with fail
    refine (implPut_any _ _).mono ?_
    rintro r w2 ⟨rfl, hb2⟩
    have hB1 := hB0.below hb2
    have hbw2 : Below w1.heap.size w1 w2 := hb0.trans (hb2.mono hb0.size)
    go_wp2_with fail
    refine (writeString_any _ _ _ _ w2 hB1 (by have := HVS.out; simp; omega) hbw2.size).mono ?_
    rintro e w3 ⟨rfl, hB2, hb3, -⟩
    rw [HV.out, List.nil_append] at hB2
    have hbw3 : Below w1.heap.size w1 w3 := hbw2.trans hb3
    obtain ⟨y0, y1, y2, y3, y4⟩ := five_cells ((hbw3.block w.heap.size hlt1).trans hP1)
    have hlt3 : w.heap.size < w3.heap.size := Nat.lt_of_lt_of_le hlt1 hbw3.size
    clear x0 x1 x2 x3 x4 hB0 hB1 hb0 hb2 hbw2 hb3 HV HVS
    go_wp2_with fail
    go_loopw [19] (fun y wr => ∃ k : Nat, y = .int .i64 k ∧ k ≤ xs.length ∧ Bld w1.heap.size w1.heap.size (adB xs.length (xs.take k)) wr ∧ Below w1.heap.size w1 wr) (fun y _ => xs.length - (intOf y).toNat)
    case atStart => exact ⟨0, rfl, by omega, hB2, hbw3⟩
    case round =>
      clear hB2 hbw3 y0 y1 y2 y3 y4 hlt3
      obtain ⟨k, rfl, hk, hB, hbr⟩ := hrel
      have hbs := hbr.size
      have hBlt := hB.lt
      obtain ⟨x0, x1, x2, x3, x4⟩ := five_cells ((hbr.block w.heap.size hlt1).trans hP1)
      have hltP : w.heap.size < wr.heap.size := by omega
      have hbw := hb.trans (hbr.mono hb.size)
      by_cases hlt : k < xs.length
      · obtain ⟨b, off, rfl, hbl, c0, c1, c2, c3⟩ := (hx.below hbw).at hlt
        have hik : (k : Int) < (xs.length : Int) := by omega
        have hok : refOk (xs.getD k tr0) = true := by
          have e : xs.getD k tr0 = xs[k] := by simp [List.getD, hlt]
          rw [e]
          exact List.all_eq_true.1 HAll.out _ (List.getElem_mem hlt)
        obtain ⟨p1, p2, p3, p4, -⟩ := (refOk_iff _).1 hok
        have HS : Hid (adB xs.length (xs.take (k + 1)) = adB xs.length (xs.take k) ++ vb (xs.getD k tr0).nu.toNat ++ vb (xs.getD k tr0).lv.toNat ++ (vb (xs.getD k tr0).lo.size ++ (xs.getD k tr0).lo.data.toList) ++ (vb (xs.getD k tr0).hi.size ++ (xs.getD k tr0).hi.data.toList)) := by
          show _ = _
          rw [takeT_snoc xs k hlt, adB_snoc]
          simp [kyB]
        have hsz : (adB xs.length (xs.take k)).length ≤ 2032008 := by
          have h2 : (xs.take k).all refOk = true := List.all_eq_true.2 fun x hx => List.all_eq_true.1 HAll.out x (List.mem_of_mem_take hx)
          have := adB_len xs.length (xs.take k) h2
          rw [List.length_take] at this
          omega
        generalize xs.getD k tr0 = f at *
        generalize adB xs.length (xs.take k) = l at *
        obtain ⟨nu, lv, lo, hi⟩ := f
        dsimp only at *
        have HV1 : Hid ((vtext nu).data.toList = vb nu.toNat) := by show _ = _; rw [vtext_in _ (by omega) (by omega)]
        have HV2 : Hid ((vtext lv).data.toList = vb lv.toNat) := by show _ = _; rw [vtext_in _ (by omega) (by omega)]
        have hv1 := vtext_size nu
        have hv2 := vtext_size lv
        have hw1 := vb_len nu.toNat
        have hw2 := vb_len lv.toNat
        have hw3 := vb_len lo.size
        have hdl := dataL lo
        have hA0 : (wr.alloc (.cells #[.int .i64 nu, .int .i64 lv, .string lo, .string hi] 58)).heap[wr.heap.size]? = some (.cells #[.int .i64 nu, .int .i64 lv, .string lo, .string hi] 58 (0, 0)) := World.heap_alloc_new _ _
        have hba : Below w1.heap.size w1 (wr.alloc (.cells #[.int .i64 nu, .int .i64 lv, .string lo, .string hi] 58)) := hbr.alloc hbs _
        have hBa : Bld w1.heap.size w1.heap.size l (wr.alloc (.cells #[.int .i64 nu, .int .i64 lv, .string lo, .string hi] 58)) := Lib.IsBuilderF.alloc hB _
        have hne : ∀ c fz, (Obj.cells #[.int .i64 nu, .int .i64 lv, .string lo, .string hi] 58 (0, 0)) ≠ .cells c 5 fz := fun c fz h => by simp at h
        clear hok hx hf hB hbr HAll HAllI hbw
        go_wp2_with fail
        refine (implPut_any _ _).mono ?_
        rintro e w4 ⟨rfl, hb4⟩
        have hA4 := (hb4.block wr.heap.size (by simp)).trans hA0
        have hB4 := hBa.below hb4
        have hbw4 := hba.trans (hb4.mono hba.size)
        clear hba hBa hA0 hb4
        obtain ⟨z0, z1, z2, z3⟩ := four_cells hA4
        have hl4 := heap_lt hA4
        go_wp2_with fail
        refine (writeString_any _ _ _ _ w4 hB4 (by omega) hbw4.size).mono ?_
        rintro e w5 ⟨rfl, hB5, hb5, hk5⟩
        rw [HV1.out] at hB5
        have hA5 := hk5 wr.heap.size _ hA4 (by simp; omega) hne
        have hbw5 := hbw4.trans hb5
        clear hB4 hb5 hk5 z0 z1 z2 z3 hA4 hl4 hbw4
        obtain ⟨z0, z1, z2, z3⟩ := four_cells hA5
        have hl5 := heap_lt hA5
        go_wp2_with fail
        refine (implPut_any _ _).mono ?_
        rintro e w6 ⟨rfl, hb6⟩
        have hA6 := (hb6.block wr.heap.size hl5).trans hA5
        have hB6 := hB5.below hb6
        have hbw6 := hbw5.trans (hb6.mono hbw5.size)
        clear z0 z1 z2 z3 hA5 hB5 hbw5 hb6
        obtain ⟨z0, z1, z2, z3⟩ := four_cells hA6
        have hl6 := heap_lt hA6
        go_wp2_with fail
        refine (writeString_any _ _ _ _ w6 hB6 (by simp only [List.length_append]; omega) hbw6.size).mono ?_
        rintro e w7 ⟨rfl, hB7, hb7, hk7⟩
        rw [HV2.out] at hB7
        have hA7 := hk7 wr.heap.size _ hA6 (by simp; omega) hne
        have hbw7 := hbw6.trans hb7
        clear hB6 hb7 hk7 z0 z1 z2 z3 hA6 hl6 hbw6
        obtain ⟨z0, z1, z2, z3⟩ := four_cells hA7
        have hl7 := heap_lt hA7
        go_wp2_with fail
        refine (putSized_any w1.heap.size w1.heap.size _ lo w7 hB7 (by omega) (by simp only [List.length_append]; omega) hbw7.size).mono ?_
        rintro e w8 ⟨rfl, hB8, hb8, hk8⟩
        have hA8 := hk8 wr.heap.size _ hA7 (by omega) hne
        have hbw8 := hbw7.trans hb8
        clear hB7 hb8 hk8 z0 z1 z2 z3 hA7 hl7 hbw7
        obtain ⟨z0, z1, z2, z3⟩ := four_cells hA8
        have hl8 := heap_lt hA8
        go_wp2_with fail
        refine (putSized_any w1.heap.size w1.heap.size _ hi w8 hB8 (by omega) (by simp only [List.length_append]; omega) hbw8.size).mono ?_
        rintro e w9 ⟨rfl, hB9, hb9, hk9⟩
        have hbw9 := hbw8.trans hb9
        go_wp2_with fail
        exact ⟨⟨k + 1, by simp, by omega, by rw [HS.out]; exact hB9, hbw9⟩, by simp only [intOf]; omega⟩
      · obtain rfl : k = xs.length := by omega
        rw [List.take_length] at hB
        have hsz : (adB xs.length xs).length ≤ 2032008 := by
          have := adB_len xs.length xs HAll.out
          omega
        have HV : Hid ((vtext (ks.length : Int)).data.toList = vb ks.length) := by show _ = _; rw [vtext_in _ (by omega) (by omega)]; simp
        have hvs := vtext_size (ks.length : Int)
        have hvl := vb_len ks.length
        generalize adB xs.length xs = l at *
        go_wp2_with fail
        refine (implPut_any _ _).mono ?_
        rintro r w4 ⟨rfl, hb4⟩
        have hB4 := hB.below hb4
        have hbw4 := hbr.trans (hb4.mono hbr.size)
        clear hB hb4 hbr
        go_wp2_with fail
        refine (writeString_any _ _ _ _ w4 hB4 (by omega) hbw4.size).mono ?_
        rintro e w5 ⟨rfl, hB5, hb5, -⟩
        rw [HV.out] at hB5
        have hbw5 := hbw4.trans hb5
        clear hB4 hb5 hbw4 x0 x1 x2 x3 x4 hbs hltP hbw HV hvs hBlt
        have hP5 := (hbw5.block w.heap.size hlt1).trans hP1
        obtain ⟨x0, x1, x2, x3, x4⟩ := five_cells hP5
        have hlt5 := heap_lt hP5
        have hy5 := hy.below (hb.trans (hbw5.mono hb.size))
        obtain ⟨i0, hi, hz0, hz1, hz2⟩ := info_parts int_info
        have hw15 : w1.heap.size < w5.heap.size := hB5.lt
        have HY5 := hd hy5
        have HB5 := hd hbw5
        have HL5 := hd hB5
        have HP5 := hd hP5
        have HBO : Hid (Below w5.heap.size w5 (w5.alloc (.cells #[.int .i64 lg, .int .i64 nx, .int .i64 la] 3)).drew) := ((Below.refl _ w5).alloc (Nat.le_refl _) _).drew
        have HCO : Hid (∀ j u, [Value.int .i64 lg, .int .i64 nx, .int .i64 la][j]? = some u → (w5.alloc (.cells #[.int .i64 lg, .int .i64 nx, .int .i64 la] 3)).drew.cell? ((⟨w5.heap.size, 0, none⟩ : Addr).add j) = some u) := three_at w5 _ _ _ _
        have HC3 := hd three_at
        clear hy5 hbw5 hB5 hP5
        go_wp2_with fail
        go_region_held3 (fun w' => w'.cell? ⟨w.heap.size, 1, none⟩ = some (.slice d ks.length cd) ∧ w'.cell? ⟨w.heap.size, 2, none⟩ = some (.int .i64 lg) ∧ w'.cell? ⟨w.heap.size, 3, none⟩ = some (.int .i64 nx) ∧ w'.cell? ⟨w.heap.size, 4, none⟩ = some (.int .i64 la)) (simp [go_sem, *])
          (first
            | (go_at_call 34; refine (cloneI_wide d cd ks w5.drew HY5.out hl2).mono ?_; rintro e w6 ⟨v6, rfl, hown6, hb6⟩; have hb56 : Below w5.heap.size w5 w6 := (Below.refl _ w5).drew.trans hb6; have k1 := (hb56.cell (p := ⟨w.heap.size, _, none⟩) hlt5).trans x1; have k2 := (hb56.cell (p := ⟨w.heap.size, _, none⟩) hlt5).trans x2; have k3 := (hb56.cell (p := ⟨w.heap.size, _, none⟩) hlt5).trans x3; have k4 := (hb56.cell (p := ⟨w.heap.size, _, none⟩) hlt5).trans x4; have hl6 := Nat.lt_of_lt_of_le hlt5 hb56.size; have HB56 := hd hb56; have HW6 := hd hown6; clear hown6 hb6 hb56)
            | (go_at_call 34; refine (cloneI_wide d cd ks (w5.alloc (.cells #[.int .i64 lg, .int .i64 nx, .int .i64 la] 3)).drew (HY5.out.below HBO.out) hl2).mono ?_; rintro e w7 ⟨v7, rfl, hown7, hb7⟩; have hb57 : Below w5.heap.size w5 w7 := HBO.out.trans (hb7.mono HBO.out.size); have k1 := (hb57.cell (p := ⟨w.heap.size, _, none⟩) hlt5).trans x1; have k2 := (hb57.cell (p := ⟨w.heap.size, _, none⟩) hlt5).trans x2; have k3 := (hb57.cell (p := ⟨w.heap.size, _, none⟩) hlt5).trans x3; have k4 := (hb57.cell (p := ⟨w.heap.size, _, none⟩) hlt5).trans x4; have hl7 := Nat.lt_of_lt_of_le hlt5 hb57.size; have hs7 : w5.heap.size + 1 ≤ w7.heap.size := by { have h := hb7.size; simp at h; omega }; have HB57 := hd hb57; have HW7 := hd hown7; have HC7 : Hid (∀ j u, [Value.int .i64 lg, .int .i64 nx, .int .i64 la][j]? = some u → w7.cell? ((⟨w5.heap.size, 0, none⟩ : Addr).add j) = some u) := fun j u hj => by { have h := HCO.out j u hj; rw [Go.WideShapes.add_plain] at h ⊢; exact (hb7.cell (p := ⟨w5.heap.size, _, none⟩) (by simp)).trans h }; clear hown7 hb7 hb57)
            | (refine step_append_own rfl (.tmp 45) (.tmp 52) 33 rfl w5.heap.size 3 i0 _ 1 8 Tryz.underlying33 hi hz0 hz1 hz2 rfl (by decide) v6 ks.length (ic ks) (by simp [Act.eval, Act.put]) (World.ownsRow.alloc HW6.out _) ⟨w6.heap.size, 0, none⟩ 3 3 [.int .i64 lg, .int .i64 nx, .int .i64 la] (by simp [Act.eval, Act.put]) rfl (HC3.out w6 _ _ _ _) (fun x hx => by simp at hx; rcases hx with rfl | rfl | rfl <;> rfl) (by unfold maxLen; omega) (by omega) (by have := HB56.out.size; simp; omega) ?_; intro v8 w8 hown8 hgrow8 hnil8; have hb58 : Below w5.heap.size w5 w8 := (HB56.out.alloc HB56.out.size _).grown hgrow8 (HB56.out.alloc HB56.out.size _).size (owns_base HW6.out); obtain ⟨g8, cap8, cur8, rfl, hg8, hbk8, hcl8⟩ := ownsI_app hown8; have m1 := (hb58.cell (p := ⟨w.heap.size, _, none⟩) hlt5).trans x1; have m2 := (hb58.cell (p := ⟨w.heap.size, _, none⟩) hlt5).trans x2; have m3 := (hb58.cell (p := ⟨w.heap.size, _, none⟩) hlt5).trans x3; have m4 := (hb58.cell (p := ⟨w.heap.size, _, none⟩) hlt5).trans x4; have HB8 := hd (HB5.out.trans (hb58.mono HB5.out.size)); have HL8 := hd (HL5.out.below hb58); have HK8 := hd hbk8; have HC8 := hd hcl8; clear hown8 hgrow8 hnil8 hb58 hbk8 hcl8)
            | (refine step_append_own rfl (.tmp 45) (.tmp 52) 33 rfl (w5.heap.size + 1) 3 i0 _ 1 8 Tryz.underlying33 hi hz0 hz1 hz2 rfl (by decide) v7 ks.length (ic ks) (by simp [Act.eval, Act.put]) (by have h := HW7.out; rwa [show (w5.alloc (.cells #[.int .i64 lg, .int .i64 nx, .int .i64 la] 3)).drew.heap.size = w5.heap.size + 1 by simp] at h) ⟨w5.heap.size, 0, none⟩ 3 3 [.int .i64 lg, .int .i64 nx, .int .i64 la] (by simp [Act.eval, Act.put]) rfl HC7.out (fun x hx => by simp at hx; rcases hx with rfl | rfl | rfl <;> rfl) (by unfold maxLen; omega) (by omega) hs7 ?_; intro v8 w8 hown8 hgrow8 hnil8; have hb58 : Below w5.heap.size w5 w8 := HB57.out.grown hgrow8 HB57.out.size (fun k hk => by have := owns_base HW7.out k hk; simp at this; omega); obtain ⟨g8, cap8, cur8, rfl, hg8, hbk8, hcl8⟩ := ownsI_app hown8; have m1 := (hb58.cell (p := ⟨w.heap.size, _, none⟩) hlt5).trans x1; have m2 := (hb58.cell (p := ⟨w.heap.size, _, none⟩) hlt5).trans x2; have m3 := (hb58.cell (p := ⟨w.heap.size, _, none⟩) hlt5).trans x3; have m4 := (hb58.cell (p := ⟨w.heap.size, _, none⟩) hlt5).trans x4; have HB8 := hd (HB5.out.trans (hb58.mono HB5.out.size)); have HL8 := hd (HL5.out.below hb58); have HK8 := hd hbk8; have HC8 := hd hcl8; clear hown8 hgrow8 hnil8 hb58 hbk8 hcl8))
        all_goals
          have HJ1 : Hid (∀ i, i < ks.length + 3 → 0 ≤ (ks ++ [lg, nx, la]).getD i 0 ∧ (ks ++ [lg, nx, la]).getD i 0 ≤ 72057594037927935) := fun i hi => by
            have e : (ks ++ [lg, nx, la]).getD i 0 = (ks ++ [lg, nx, la])[i]'(by simp; omega) := by simp [List.getD]; rw [List.getElem?_eq_getElem (by simp; omega)]; rfl
            have hm := List.getElem_mem (l := ks ++ [lg, nx, la]) (n := i) (by simp; omega)
            rw [e]
            have h1 := HLG.out
            have h2 := HNX.out
            rcases List.mem_append.1 hm with h | h
            · have := (numOk_iff _).1 (List.all_eq_true.1 HAllI.out _ h)
              omega
            · simp only [List.mem_cons, List.not_mem_nil, or_false] at h
              rcases h with h | h | h <;> rw [h] <;> omega
          have HJ2 : Hid (l ++ vb ks.length ++ dlB (ks ++ [lg, nx, la]) = EB) := by
            show _ = _
            rw [HB.out]
            simp [dlB, List.flatMap_append]
          have HJ3 : Hid (∀ k, k < ks.length + 3 → dlB ((ks ++ [lg, nx, la]).take (k + 1)) = dlB ((ks ++ [lg, nx, la]).take k) ++ vb ((ks ++ [lg, nx, la]).getD k 0).toNat) := fun k hk => by
            rw [takeI_snocM _ k (by simp; omega), dlB_snoc]
          have HJ4 : Hid (∀ k, (dlB ((ks ++ [lg, nx, la]).take k)).length ≤ 8 * (ks.length + 3)) := fun k => by
            have := dlB_len ((ks ++ [lg, nx, la]).take k)
            rw [List.length_take] at this
            simp only [List.length_append, List.length_cons, List.length_nil] at this
            omega
          have HJ5 : Hid ((ks ++ [lg, nx, la]).take (ks.length + 3) = ks ++ [lg, nx, la]) := by
            show _ = _
            rw [List.take_of_length_le (by simp)]
          have hne8 : ∀ c fz, (Obj.cells cur8 3 (0, 0)) ≠ .cells c 5 fz := fun c fz h => by simp at h
          generalize ks ++ [lg, nx, la] = js at *
          go_wp2_with fail
          go_loopw [55] (fun y wr => ∃ k : Nat, y = .int .i64 k ∧ k ≤ ks.length + 3 ∧ Bld w1.heap.size w1.heap.size (l ++ vb ks.length ++ dlB (js.take k)) wr ∧ Below w1.heap.size w1 wr ∧ wr.heap[g8]? = some (.cells cur8 3 (0, 0))) (fun y _ => ks.length + 3 - (intOf y).toNat)
          case atStart => exact ⟨0, rfl, by omega, by simpa [dlB] using HL8.out, HB8.out, HK8.out⟩
          case round =>
            obtain ⟨k, rfl, hk, hBr, hbr, hkr⟩ := hrel
            have hbs := hbr.size
            have hlg := heap_lt hkr
            by_cases hlt : k < ks.length + 3
            · have hik : (k : Int) < (ks.length : Int) + 3 := by omega
              have c0 : wr.cell? ⟨g8, k, none⟩ = some (.int .i64 (js.getD k 0)) := by
                have := HC8.out k hlt
                simpa [World.cell?, hkr] using this
              have hnum := HJ1.out k hlt
              have hl4 := HJ4.out k
              have HS := hd (HJ3.out k hlt)
              generalize js.getD k 0 = f at *
              have HV1 : Hid ((vtext f).data.toList = vb f.toNat) := by show _ = _; rw [vtext_in _ (by omega) (by omega)]
              have hv1 := vtext_size f
              go_wp2_with fail
              refine (implPut_any _ _).mono ?_
              rintro e w9 ⟨rfl, hb9⟩
              have hB9 := hBr.below hb9
              have hbw9 := hbr.trans (hb9.mono hbr.size)
              have hk9 := (hb9.block g8 hlg).trans hkr
              go_wp2_with fail
              refine (writeString_any _ _ _ _ w9 hB9 (by simp only [List.length_append]; omega) hbw9.size).mono ?_
              rintro e w10 ⟨rfl, hB10, hb10, hk10⟩
              rw [HV1.out] at hB10
              have hk11 := hk10 g8 _ hk9 (by simp; omega) hne8
              go_wp2_with fail
              exact ⟨⟨k + 1, by simp, by omega, by rw [HS.out, ← List.append_assoc]; exact hB10, hbw9.trans hb10, hk11⟩, by simp only [intOf]; omega⟩
            · obtain rfl : k = ks.length + 3 := by omega
              rw [HJ5.out, HJ2.out] at hBr
              go_wp2_with fail
              refine (Tryz.Builder_String_any_k w1.heap.size w1.heap.size _ _ hBr hbs).mono ?_
              rintro e w9 ⟨rfl, -, hb9, -⟩
              go_wp2_with fail
              go_ret
              exact ⟨rfl, hb.trans ((hbr.trans hb9).mono hb.size)⟩
end Go.Proofs.YtgpjhlhjdafjlaaGreatDoor
