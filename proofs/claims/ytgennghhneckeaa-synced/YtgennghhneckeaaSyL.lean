import Derived.Test.YtgennghhneckeaaSyK

namespace Go.Proofs.Ytgennghhneckeaa
open Go.RowKit Go.Maps
set_option linter.unusedVariables false
set_option linter.unusedSimpArgs false

set_option maxRecDepth 100000 in
set_option maxHeartbeats 8000000 in
theorem lawSynced_neg (a0 a1 : Option Addr) (c0 c1 : Nat) (bs ms : List UInt8) (w : World) (hx0 : LieB w a0 bs) (hx1 : LieB w a1 ms) (hl0 : bs.length ≤ maxLen) (hl1 : ms.length ≤ maxLen) (hcase : (anyO bs).2.2 < 0) :
    Calls Try.prog 3 #[.slice a0 bs.length c0, .slice a1 ms.length c1] w fun e w' => e = .returned (.bool true) ∧ Below w.heap.size w w' := by
  unfold maxLen at hl0 hl1
  by_cases hbig : (1048576 : Int) < (bs.length : Int)
  · go_enter Try.func3, Try.ntmps3
    go_wp2
    go_ret
    exact ⟨rfl, Below.refl _ _⟩
  by_cases hbig2 : (1048576 : Int) < (ms.length : Int)
  · go_enter Try.func3, Try.ntmps3
    go_wp2
    go_ret
    exact ⟨rfl, Below.refl _ _⟩
  have HD := hd0 (fun (w' : World) (hb : Below w.heap.size w w') => drawAppend_any a0 c0 bs w' (hx0.below hb) (by omega))
  have HW := hd0 (fun (w' : World) (i : Nat) (hb : Below w.heap.size w w') (hi : i ≤ 1000000) => wPick_any a1 c1 ms i w' (hx1.below hb) (by omega) hi)
  obtain ⟨hm1, hm2, hm3⟩ := anyO_mid bs
  have hfu5 := anyO_fu bs
  generalize anyO bs = O at *
  obtain ⟨xs, q, fu⟩ := O
  simp only at HD hm1 hm2 hm3 hfu5 hcase
  have i1 : ¬ (1048576 : Int) < (bs.length : Int) := hbig
  have i2 : ¬ (1048576 : Int) < (ms.length : Int) := hbig2
  generalize bs.length = len0 at *
  have HWP := hd0 (wp_le ms)
  generalize ms.length = len1 at *
  clear hx0 hx1 hl0 hl1 hbig hbig2
  go_enter Try.func3, Try.ntmps3
  go_wp2_with fail
  refine (HD.out _ (Below.refl _ _)).mono ?_
  rintro e w1 ⟨nm1, ss, a5, c5, rfl, hss, hX5, hb1⟩
  have hbn := new_below w1 (.cells #[.slice a5 xs.length c5, .int .i64 q, .int .i64 fu] 25)
  have bP5 := Box.new w1 25 (.slice a5 xs.length c5) (.int .i64 q) (.int .i64 fu)
  have hL5 := hX5.lie.below hbn
  have hb2 := hb1.trans (hbn.mono hb1.size)
  clear hX5 hb1 hbn
  go_upto_region 4 with fail
  generalize hW2 : w1.alloc (.cells #[.slice a5 xs.length c5, .int .i64 q, .int .i64 fu] 25) = w2 at *
  clear hW2
  go_wp2_with fail
  refine (HD.out _ hb2).mono ?_
  rintro e w3 ⟨nm3, ss3, a8, c8, rfl, -, hX8, hb3⟩
  have hbn := new_below w3 (.cells #[.slice a8 xs.length c8, .int .i64 q, .int .i64 fu] 25)
  have bP8 := Box.new w3 25 (.slice a8 xs.length c8) (.int .i64 q) (.int .i64 fu)
  have hL8 := hX8.lie.below hbn
  replace hL5 := (hL5.below hb3).below hbn
  replace bP5 := (bP5.below hb3).below hbn
  have hb4 := (hb2.trans (hb3.mono hb2.size)).trans (hbn.mono (Nat.le_trans hb2.size hb3.size))
  clear hX8 hb3 hbn hb2 HD
  go_upto_region 5 with fail
  generalize hW4 : w3.alloc (.cells #[.slice a8 xs.length c8, .int .i64 q, .int .i64 fu] 25) = w4 at *
  clear hW4
  generalize w1.heap.size = p5 at *
  generalize w3.heap.size = p8 at *
  have HV := hd0 (specValid_anyW a8 c8 xs q fu w4 hL8 hm2 (by omega) (by omega))
  obtain ⟨k0, k1, k2⟩ := bP8.cells
  have h8l := bP8.lt
  cases hv : vldB xs q fu with
  | false =>
    rw [hv] at HV
    go_wp2_with fail
    refine HV.out.mono ?_
    rintro e w5 ⟨rfl, hb5⟩
    go_wp2_with fail
    go_ret
    exact ⟨rfl, hb4.trans (hb5.mono hb4.size)⟩
  | true =>
    rw [hv] at HV
    obtain ⟨hh, -, hdx⟩ := vld_head hv
    have hf1 : -1 ≤ fu := by
      unfold hdOk at hh
      simp only [Bool.and_eq_true, decide_eq_true_eq] at hh
      exact hh.2
    clear hh
    by_cases hpos : xs.length = 0
    · have hxs : xs = [] := List.eq_nil_of_length_eq_zero hpos
      subst hxs
      go_wp2_with fail
      refine HV.out.mono ?_
      rintro e w5 ⟨rfl, hb5⟩
      obtain ⟨k0, k1, k2⟩ := (bP8.below hb5).cells
      have h8l := (bP8.below hb5).lt
      go_wp2_with fail
      go_ret
      exact ⟨rfl, hb4.trans (hb5.mono hb4.size)⟩
    · have hne : ¬ (xs.length : Int) = 0 := by omega
      go_wp2_with fail
      refine HV.out.mono ?_
      rintro e w5 ⟨rfl, hb5⟩
      have hb45 := hb4.trans (hb5.mono hb4.size)
      replace bP8 := bP8.below hb5
      replace bP5 := bP5.below hb5
      replace hL8 := hL8.below hb5
      replace hL5 := hL5.below hb5
      clear k0 k1 k2 h8l hb5 hb4 HV
      obtain ⟨k0, k1, k2⟩ := bP8.cells
      have h8l := bP8.lt
      by_cases hfu : fuelOk fu
      · have hfa : ¬ (0 : Int) ≤ fu := by omega
        have HFU := hd0 hfu
        clear hfu hcase
        go_upto_region 7 with fail
        have HW0 : Hid (Calls Try.prog 6 #[.slice a1 len1 c1, .int .i64 0] w5.drew fun e w' => e = .returned (.int .i64 (wp ms 0 : Nat)) ∧ Below w5.drew.heap.size w5.drew w') := HW.out w5.drew 0 hb45.drew (by omega)
        have hw0 := HWP.out 0
        generalize wp ms 0 = k at *
        have hlp : (0 : Int) < xs.length := by omega
        go_region_held3 (fun w' => w'.cell? ⟨p8, 0, none⟩ = some (.slice a8 xs.length c8)) (simp [go_sem, *])
          (first | (go_at_call 6; refine HW0.out.mono ?_; rintro e w6 ⟨rfl, hb6⟩; have k0' := (hb6.cell (p := ⟨p8, 0, none⟩) h8l).trans k0; have HB6 := hd0 ((Below.refl _ w5).drew.trans hb6); clear hb6))
        have hb46 := hb45.trans (HB6.out.mono hb45.size)
        replace bP8 := bP8.below HB6.out
        replace bP5 := bP5.below HB6.out
        replace hL8 := hL8.below HB6.out
        replace hL5 := hL5.below HB6.out
        clear k0 k1 k2 k0' h8l HB6 HW0 hb45
        rw [show (k : Int).tmod (xs.length : Int) = ((k % xs.length : Nat) : Int) from rfl]
        have hi : k % xs.length < xs.length := Nat.mod_lt _ (by omega)
        generalize k % xs.length = i at *
        clear hw0
        obtain ⟨k0, k1, k2⟩ := bP8.cells
        have h8l := bP8.lt
        have hi' : (i : Int) < xs.length := by omega
        obtain ⟨b, off, he8, hbl, t0, t1, t2⟩ := hL8.at hi
        have HSy := hd0 (sync_eq hv hi HFU.out)
        have HAc := hd0 (ap_code ss hv hi HFU.out)
        have HAe := hd0 (fun h => ap_eq (ss := ss) hv hi HFU.out h)
        have hnm := (hm2.at hi).1
        have HCf := hd0 (fun (ks : List Int) (h2 : vldB (xs2 xs i ss) q (fuel' (fuel' fu)) = true) (hk : i < ks.length) => crash_find ks hv hi h2 hk)
        have HX1 := hd0 (x1_vld hv hi HFU.out)
        have EF : Hid (xs.getD i fl0 = xs.getD i fl0) := rfl
        generalize hf : xs.getD i fl0 = f at *
        have hf' := hd0 hf
        clear hf EF
        subst he8
        go_upto_region 9 with fail
        have hbn := new_below w6 (.cells #[.string f.nm, .string f.dt, .int .i64 f.sy] 31)
        have bQ := Box.new w6 31 (.string f.nm) (.string f.dt) (.int .i64 f.sy)
        replace bP8 := bP8.below hbn
        replace bP5 := bP5.below hbn
        replace hL8 := hL8.below hbn
        replace hL5 := hL5.below hbn
        have hb47 := hb46.trans (hbn.mono hb46.size)
        generalize w6.alloc (.cells #[.string f.nm, .string f.dt, .int .i64 f.sy] 31) = w7 at *
        generalize w6.heap.size = pf at *
        clear k0 k1 k2 h8l hbn hbl t0 t1 t2 hb46
        obtain ⟨k0, k1, k2⟩ := bP5.cells
        obtain ⟨f0, f1, f2⟩ := bQ.cells
        have h5l := bP5.lt
        have hfl := bQ.lt
        go_wp2_with fail
        refine (implSync_any a5 c5 xs q fu f.nm w7 hL5 hm2 (by omega) hdx (by omega) hnm ⟨xs1 xs i, q, fuel' fu, 0⟩ (show Hid _ from HSy.out.symm)).mono ?_
        rintro e w8 ⟨a9, c9, rfl, hr9, hb8⟩
        dsimp only at hr9 ⊢
        have hfx1 := vld_fits HX1.out
        have hdx1 := (vld_head HX1.out).2.2
        have hlx1 : (xs1 xs i).length ≤ 201 := by rw [x1_len]; omega
        have hfu1 := fuel_le hfu5
        have HO2 := hd0 (out_cd (s := f.nm) (ss := ss) HX1.out)
        have HO3 := hd0 (out_cd (s := f.nm) (ss := ss) hv)
        rw [HAc.out] at HO2
        clear HAc HSy
        generalize xs1 xs i = y1 at *
        generalize fuel' fu = fu1 at *
        have hbn := new_below w8 (.cells #[.slice a9 y1.length c9, .int .i64 q, .int .i64 fu1] 25)
        have bA := Box.new w8 25 (.slice a9 y1.length c9) (.int .i64 q) (.int .i64 fu1)
        have hLA := hr9.lie.below hbn
        have hbb := hb8.trans (hbn.mono hb8.size)
        replace bP8 := bP8.below hbb
        replace hL8 := hL8.below hbb
        replace bQ := bQ.below hbb
        have hb49 := hb47.trans (hbb.mono hb47.size)
        clear hb8 hbb hbn hr9 bP5 hL5 k0 k1 k2 f0 f1 f2 h5l hfl hb47
        go_upto_region 10 with fail
        generalize w8.alloc (.cells #[.slice a9 y1.length c9, .int .i64 q, .int .i64 fu1] 25) = w9 at *
        generalize w8.heap.size = pa at *
        obtain ⟨k0, k1, k2⟩ := bA.cells
        obtain ⟨f0, f1, f2⟩ := bQ.cells
        have h5l := bA.lt
        have hfl := bQ.lt
        have hss' : ss.size ≤ 1048576 := by omega
        have hssm : ss.size ≤ maxLen := by unfold maxLen; omega
        obtain ⟨o2, ho2⟩ : ∃ o, o = outAppend y1 q fu1 f.nm ss := ⟨_, rfl⟩
        rw [← ho2] at HO2 HAe
        have HA2 := hd0 (implAppend_any a9 c9 y1 q fu1 f.nm ss w9 hLA hfx1 (by omega) hdx1 (by omega) hnm hssm hss' o2 ho2)
        clear ho2
        obtain ⟨o3, ho3⟩ : ∃ o, o = outAppend xs q fu f.nm ss := ⟨_, rfl⟩
        rw [← ho3] at HO3
        replace ho3 := hd0 ho3
        go_wp2_with fail
        refine HA2.out.mono ?_
        rintro e w10 ⟨a11, c11, rfl, hr11, hb10⟩
        obtain ⟨y2, q2, fu2, cd2⟩ := o2
        dsimp only at hr11 HO2 ⊢
        obtain rfl : cd2 = _ := HO2.out
        generalize apCode xs q fu f.nm ss = C at *
        clear HO2 HA2
        have hbn := new_below w10 (.cells #[.slice a11 y2.length c11, .int .i64 q2, .int .i64 fu2] 25)
        have bB := Box.new w10 25 (.slice a11 y2.length c11) (.int .i64 q2) (.int .i64 fu2)
        have hLB := hr11.lie.below hbn
        have hbb := hb10.trans (hbn.mono hb10.size)
        replace bP8 := bP8.below hbb
        replace hL8 := hL8.below hbb
        replace bQ := bQ.below hbb
        have hb411 := hb49.trans (hbb.mono hb49.size)
        clear hb10 hbb hbn hr11 bA hLA k0 k1 k2 f0 f1 f2 h5l hfl hb49 hfx1 hdx1
        go_upto_region 13 with fail
        generalize w10.alloc (.cells #[.slice a11 y2.length c11, .int .i64 q2, .int .i64 fu2] 25) = w11 at *
        generalize w10.heap.size = pb at *
        obtain ⟨k0, k1, k2⟩ := bP8.cells
        obtain ⟨f0, f1, f2⟩ := bQ.cells
        have h5l := bP8.lt
        have hfl := bQ.lt
        have HA3 := hd0 (specAppend_any _ c8 xs q fu f.nm ss w11 hL8 hm2 (by omega) hdx (by omega) hnm hssm hss' o3 ho3)
        go_wp2_with fail
        refine HA3.out.mono ?_
        rintro e w12 ⟨a13, c13, rfl, -, hb12⟩
        obtain ⟨y3, q3, fu3, cd3⟩ := o3
        dsimp only at HO3 ⊢
        obtain rfl : cd3 = _ := HO3.out
        have hCC : (cd3 != cd3) = false := by simp
        have hbn := new_below w12 (.cells #[.slice a13 y3.length c13, .int .i64 q3, .int .i64 fu3] 25)
        have hbb := hb12.trans (hbn.mono hb12.size)
        replace bP8 := bP8.below hbb
        replace hL8 := hL8.below hbb
        replace bQ := bQ.below hbb
        replace bB := bB.below hbb
        replace hLB := hLB.below hbb
        have hb413 := hb411.trans (hbb.mono hb411.size)
        clear hb12 hbb hbn k0 k1 k2 f0 f1 f2 h5l hfl hb411 HA3 ho3 HO3
        go_upto_region 14 with fail
        generalize w12.alloc (.cells #[.slice a13 y3.length c13, .int .i64 q3, .int .i64 fu3] 25) = w13 at *
        generalize w12.heap.size = pc at *
        by_cases hcd : cd3 = 0
        · subst hcd
          obtain ⟨he2, hv2⟩ := HAe.out rfl
          injection he2 with e1 e2 e3
          subst e1 e3
          replace e2 := e2.symm
          subst e2
          clear HAe
          have HYL := hd0 (x2_len xs i ss)
          have hY2 : (xs2 xs i ss).length ≤ 201 := by rw [x2_len]; omega
          have hfY := vld_fits hv2
          have hdY := (vld_head hv2).2.2
          generalize xs2 xs i ss = Y at *
          generalize fuel' fu1 = fu2 at *
          obtain ⟨i0, hii, hz0, hz1, hz2⟩ := info_parts int_infoS
          have hbl := new_below w13 (.cells #[] 3)
          obtain ⟨k0, k1, k2⟩ := (bP8.below hbl).cells
          have h8l := (bP8.below hbl).lt
          have h8l' := bP8.lt
          go_wp2_with fail
          go_loopw [19, 20] (fun v iv wr => ∃ k : Nat, k ≤ xs.length ∧ iv = .int .i64 k ∧ wr.ownsRow w13.heap.size 3 1 v k (cellsI (kL ms k)) ∧ Below w13.heap.size w13 wr) (fun _ iv _ => xs.length - (intOf iv).toNat)
          case atStart => exact ⟨0, Nat.zero_le _, rfl, ownsI_lit w13 _ (Nat.le_refl _), hbl⟩
          case round =>
            obtain ⟨k, hk, rfl, hown, hb⟩ := hrel
            have hbs := hb.size
            obtain ⟨k0, k1, k2⟩ := (bP8.below hb).cells
            have h8l := (bP8.below hb).lt
            by_cases hlt : k < xs.length
            · have hlt' : (k : Int) < xs.length := by omega
              have EM := hd0 (kL_succ ms k)
              have hbwr := hb413.trans (hb.mono hb413.size)
              have HW1 := hd0 (HW.out wr (1 + k) hbwr (by omega))
              have hwp := HWP.out (1 + k)
              generalize wp ms (1 + k) = t at *
              have ET : Hid ((t : Int) % 20 - 2 = ((t % 20 : Nat) : Int) - 2) := rfl
              have HOW := hd0 hown
              have HBw := hd0 hb
              clear hown hb hbwr
              go_wp2_with fail
              refine HW1.out.mono ?_
              rintro e w14 ⟨rfl, hb14⟩
              have HB14 := hd0 (HBw.out.trans (hb14.mono hbs))
              have HOW5 := hd0 (own_below HOW.out hb14)
              have hs14 := hb14.size
              clear hb14 HOW HW1 HBw
              go_wp2_with (at_builtin; refine wpList_append_own _ rfl _ _ 35 rfl w13.heap.size 3 i0 _ 1 8 Try.underlying35 hii hz0 hz1 hz2 rfl (by decide) _ _ _ rfl (HOW5.out.alloc _) ⟨w14.heap.size, 0, none⟩ 1 1 [.int .i64 ((t : Int) % 20 - 2)] rfl rfl (cell_firstS _ _ _) (fun x hx => by simp at hx; rcases hx with rfl <;> rfl) (by unfold maxLen; omega) (by omega) (by simp; omega) ?_; intro v' w15 hown4 hgrow hnil; replace hgrow := hd0 hgrow; replace hown4 := hd0 hown4; clear hnil)
              refine ⟨⟨k + 1, by omega, by go_num, ?_, ?_⟩, by simp [intOf]; omega⟩
              · rw [EM.out, cellsI_snoc]
                exact hown4.out
              · exact (HB14.out.alloc (by omega) _).grown hgrow.out (by simp; omega) (owns_base HOW5.out)
            · obtain rfl : k = xs.length := by omega
              have hlt' : ¬ ((xs.length : Nat) : Int) < xs.length := by omega
              have hbwr := hb413.trans (hb.mono hb413.size)
              obtain ⟨ak, ck, hv', hLI⟩ := lieI_of_owns hown
              subst hv'
              have hkl := kL_length ms xs.length
              have hka := kL_at ms xs.length i hi
              clear hown
              generalize kL ms xs.length = ks at *
              have hik : i < ks.length := by omega
              have hkn : ks.length ≤ 1048576 := by omega
              have hik' : (i : Int) < ks.length := by omega
              have HKl := hd0 hkl
              clear hkl
              obtain ⟨Z, hZ⟩ : ∃ Z, Z = crs Y ks Y.length := ⟨_, rfl⟩
              obtain ⟨hG, hJ⟩ := HCf.out ks hv2 hik
              have hvZ := crs_vld hv2 ks
              have hZl : Z.length = xs.length := by rw [hZ, crs_length, HYL.out]
              rw [← hZ] at hG hJ hvZ
              have hfZ := vld_fits hvZ
              have hdZ := (vld_head hvZ).2.2
              have hne24 : ((Z.length : Int) != (xs.length : Int)) = false := by rw [hZl]; simp
              have hZ2 : Z.length ≤ 201 := by omega
              have HCr := hd0 (implCrash_ok a11 c11 Y Z q fu2 ak ck ks wr (hLB.below hb) hfY (by omega) hdY hv2 hLI hkn hZ)
              replace hJ := hd0 hJ
              replace hG := hd0 hG
              clear HCf hZ hZl HYL hvZ
              replace hL8 := hL8.below hb
              replace bP8 := bP8.below hb
              replace bQ := bQ.below hb
              replace bB := bB.below hb
              clear hb413 hb
              obtain ⟨b0, b1, b2⟩ := bB.cells
              have hbl' := bB.lt
              go_wp2_with fail
              refine HCr.out.mono ?_
              rintro e w16 ⟨a17, c17, rfl, hr17, hb16⟩
              have hbn := new_below w16 (.cells #[.slice a17 Z.length c17, .int .i64 q, .int .i64 (-1)] 25)
              have bZ := Box.new w16 25 (.slice a17 Z.length c17) (.int .i64 q) (.int .i64 (-1))
              have hLZ := hr17.lie.below hbn
              have hbb := hb16.trans (hbn.mono hb16.size)
              replace bP8 := bP8.below hbb
              replace hL8 := hL8.below hbb
              replace bQ := bQ.below hbb
              replace hLI := hLI.below hbb
              have hb417 := hbwr.trans (hbb.mono hbwr.size)
              clear hb16 hbb hbn hr17 bB hLB b0 b1 b2 hbl' k0 k1 k2 h8l hbwr HCr
              unfold fsV
              go_upto_region 24 with fail
              generalize w16.alloc (.cells #[.slice a17 Z.length c17, .int .i64 q, .int .i64 (-1)] 25) = w17 at *
              generalize w16.heap.size = pz at *
              obtain ⟨k0, k1, k2⟩ := bZ.cells
              obtain ⟨m0, m1, m2⟩ := bP8.cells
              have h1l := bZ.lt
              have h2l := bP8.lt
              obtain ⟨bk, ok, hke, hkb, hkc⟩ := hLI.at hik
              subst hke
              generalize hkv : ks.getD i 0 = kv at *
              clear hkv
              go_upto_region 27 with fail
              clear k0 k1 k2 m0 m1 m2 h1l h2l hne24 hkc hkb
              have hnum : kv < 0 ∨ (0 ≤ kv ∧ kv ≤ ss.size) ∨ (0 ≤ kv ∧ ss.size < kv) := by omega
              have hfd : Hid (f.dt.size ≤ 1048576) := by
                have h := fm_size (fmAt (vld_rise hv) hi)
                rw [hf'.out] at h
                exact Nat.le_trans h hdx
              rcases hnum with hk | ⟨hk, hkk⟩ | ⟨hk, hkk⟩
              · have HG : Hid (findV Z q (-1) f.nm = (f.dt ++ ss.extract 0 0, true)) := by show _ = _; rw [hG.out, show (max 0 (min kv (ss.size : Int))).toNat = 0 by omega]
                have hk2 : ¬ (ss.size : Int) < 0 := by omega
                clear hG
                have h16l := bZ.lt
                obtain ⟨k0, k1, k2⟩ := bZ.cells
                obtain ⟨f0, f1, f2⟩ := bQ.cells
                have hfl := bQ.lt
                have HFd := hd0 (implFind_any a17 c17 Z q (-1) f.nm w17 hLZ hfZ (by omega) hdZ hnm)
                rw [HG.out] at HFd
                go_upto_region 31 with fail
                go_wp2_with fail
                refine HFd.out.mono ?_
                rintro e w18 ⟨rfl, hb18⟩
                have hb418 := hb417.trans (hb18.mono hb417.size)
                replace bP8 := bP8.below hb18
                replace hL8 := hL8.below hb18
                replace bZ := bZ.below hb18
                replace hLZ := hLZ.below hb18
                replace bQ := bQ.below hb18
                clear k0 k1 k2 f0 f1 f2 h16l hfl hb18 hb417 HFd HG
                obtain ⟨f0, f1, f2⟩ := bQ.cells
                have hfl := bQ.lt
                have hsz : ¬ 9223372036854775807 < f.dt.size + (ss.extract 0 0).size := by
                  have e1 : (ss.extract 0 0).size ≤ ss.size := by rw [ByteArray.size_extract]; omega
                  have e2 := hfd.out
                  omega
                have hsz2 : ¬ 9223372036854775807 < f.dt.size + min 0 ss.size := by have := hfd.out; omega
                have hsz3 : ¬ 9223372036854775807 < f.dt.size := by have := hfd.out; omega
                have hsz4 : ¬ 9223372036854775807 < f.dt.size + ss.size := by have := hfd.out; omega
                go_upto_region 32 with fail
                go_region_held3 (fun w' => w'.cell? ⟨pf, 1, none⟩ = some (.string f.dt)) (simp [go_sem, *]) (fail)
                go_upto_region 34 with fail
                clear hsz hsz2 hsz3 hsz4 f0 f1 f2 hfl
                have hd18 : Below w18.heap.size w18 w18.drew := (Below.refl _ w18).drew
                go_wp2_with fail
                go_loopw [25] (fun iv wr => ∃ j : Nat, j ≤ xs.length ∧ iv = .int .i64 j ∧ Below w18.heap.size w18 wr) (fun iv _ => xs.length - (intOf iv).toNat)
                case atStart => exact ⟨0, Nat.zero_le _, rfl, hd18⟩
                case round =>
                  obtain ⟨j, hj, rfl, hb⟩ := hrel
                  obtain ⟨m0, m1, m2⟩ := (bP8.below hb).cells
                  have hml := (bP8.below hb).lt
                  by_cases hlt : j < xs.length
                  · have hlt2 : (j : Int) < xs.length := by omega
                    obtain ⟨b', off', he, hbl2, g0, g1, g2⟩ := (hL8.below hb).at hlt
                    injection he with he
                    injection he with he1 he2
                    subst he1 he2
                    obtain ⟨d, hfd2, hs0, hs1, hs2, hs3, hs4⟩ := hJ.out j hlt
                    have hgn := (hm2.at hlt).1
                    generalize xs.getD j fl0 = g at *
                    obtain ⟨gn, gd, gs⟩ := g
                    dsimp only at g0 g1 g2 hfd2 hs0 hs1 hs2 hs4 hgn
                    obtain ⟨s, rfl⟩ : ∃ s : Nat, gs = s := ⟨gs.toNat, by omega⟩
                    have hs5 : ¬ (d.size : Int) < s := by omega
                    have hs6 : (s : Int) ≤ gd.size := hs1
                    have ez : (gd.extract 0 s).size = s := by rw [ByteArray.size_extract]; omega
                    have HBg := hd0 (fun (W : World) => wBegins_true d (gd.extract 0 s) W (by omega) (by omega) (by rw [ez]; simpa using hs4))
                    have hbn := new_below wr (.cells #[.string gn, .string gd, .int .i64 (s : Int)] 31)
                    have bG := Box.new wr 31 (.string gn) (.string gd) (.int .i64 (s : Int))
                    have hbb := hb.trans (hbn.mono hb.size)
                    go_upto_region 38 with fail
                    generalize wr.alloc (.cells #[.string gn, .string gd, .int .i64 (s : Int)] 31) = w20 at *
                    generalize wr.heap.size = pg at *
                    clear m0 m1 m2 hml hbn hb g0 g1 g2 hs0 hs1 hs2 hs4 ez
                    obtain ⟨m0, m1, m2⟩ := (bZ.below hbb).cells
                    have hml := (bZ.below hbb).lt
                    obtain ⟨g0, g1, g2⟩ := bG.cells
                    have hgl := bG.lt
                    have HF := hd0 (implFind_any a17 c17 Z q (-1) gn w20 (hLZ.below hbb) hfZ (by omega) hdZ hgn)
                    rw [hfd2] at HF
                    clear hfd2
                    go_wp2_with fail
                    refine HF.out.mono ?_
                    rintro e w21 ⟨rfl, hb21⟩
                    have hbb2 := hbb.trans (hb21.mono hbb.size)
                    replace bG := bG.below hb21
                    clear m0 m1 m2 hml g0 g1 g2 hgl HF hb21 hbb
                    obtain ⟨g0, g1, g2⟩ := bG.cells
                    have hgl := bG.lt
                    go_wp2_with fail
                    refine (HBg.out _).mono ?_
                    rintro e w22 ⟨rfl, hb22⟩
                    have hbb3 := hbb2.trans (hb22.mono hbb2.size)
                    go_wp2_with fail
                    exact ⟨⟨j + 1, by omega, by go_num, hbb3⟩, by simp [intOf]; omega⟩
                  · obtain rfl : j = xs.length := by omega
                    have hlt2 : ¬ ((xs.length : Nat) : Int) < xs.length := by omega
                    go_wp2_with fail
                    go_ret
                    exact ⟨rfl, hb418.trans (hb.mono hb418.size)⟩
              · obtain ⟨N, rfl⟩ : ∃ N : Nat, kv = N := ⟨kv.toNat, by omega⟩
                have HG : Hid (findV Z q (-1) f.nm = (f.dt ++ ss.extract 0 N, true)) := by show _ = _; rw [hG.out, show (max 0 (min (N : Int) (ss.size : Int))).toNat = N by omega]
                have hk1 : ¬ (N : Int) < 0 := by omega
                have hk2 : ¬ (ss.size : Int) < N := by omega
                have hk3 : (N : Int) ≤ ss.size := by omega
                clear hG hka
                have h16l := bZ.lt
                obtain ⟨k0, k1, k2⟩ := bZ.cells
                obtain ⟨f0, f1, f2⟩ := bQ.cells
                have hfl := bQ.lt
                have HFd := hd0 (implFind_any a17 c17 Z q (-1) f.nm w17 hLZ hfZ (by omega) hdZ hnm)
                rw [HG.out] at HFd
                go_upto_region 31 with fail
                go_wp2_with fail
                refine HFd.out.mono ?_
                rintro e w18 ⟨rfl, hb18⟩
                have hb418 := hb417.trans (hb18.mono hb417.size)
                replace bP8 := bP8.below hb18
                replace hL8 := hL8.below hb18
                replace bZ := bZ.below hb18
                replace hLZ := hLZ.below hb18
                replace bQ := bQ.below hb18
                clear k0 k1 k2 f0 f1 f2 h16l hfl hb18 hb417 HFd HG
                obtain ⟨f0, f1, f2⟩ := bQ.cells
                have hfl := bQ.lt
                have hsz : ¬ 9223372036854775807 < f.dt.size + (ss.extract 0 N).size := by
                  have e1 : (ss.extract 0 N).size ≤ ss.size := by rw [ByteArray.size_extract]; omega
                  have e2 := hfd.out
                  omega
                have hsz2 : ¬ 9223372036854775807 < f.dt.size + min N ss.size := by have := hfd.out; omega
                have hsz3 : ¬ 9223372036854775807 < f.dt.size := by have := hfd.out; omega
                have hsz4 : ¬ 9223372036854775807 < f.dt.size + ss.size := by have := hfd.out; omega
                go_upto_region 32 with fail
                go_region_held3 (fun w' => w'.cell? ⟨pf, 1, none⟩ = some (.string f.dt)) (simp [go_sem, *]) (fail)
                go_upto_region 34 with fail
                clear hsz hsz2 hsz3 hsz4 f0 f1 f2 hfl
                have hd18 : Below w18.heap.size w18 w18.drew := (Below.refl _ w18).drew
                go_wp2_with fail
                go_loopw [25] (fun iv wr => ∃ j : Nat, j ≤ xs.length ∧ iv = .int .i64 j ∧ Below w18.heap.size w18 wr) (fun iv _ => xs.length - (intOf iv).toNat)
                case atStart => exact ⟨0, Nat.zero_le _, rfl, hd18⟩
                case round =>
                  obtain ⟨j, hj, rfl, hb⟩ := hrel
                  obtain ⟨m0, m1, m2⟩ := (bP8.below hb).cells
                  have hml := (bP8.below hb).lt
                  by_cases hlt : j < xs.length
                  · have hlt2 : (j : Int) < xs.length := by omega
                    obtain ⟨b', off', he, hbl2, g0, g1, g2⟩ := (hL8.below hb).at hlt
                    injection he with he
                    injection he with he1 he2
                    subst he1 he2
                    obtain ⟨d, hfd2, hs0, hs1, hs2, hs3, hs4⟩ := hJ.out j hlt
                    have hgn := (hm2.at hlt).1
                    generalize xs.getD j fl0 = g at *
                    obtain ⟨gn, gd, gs⟩ := g
                    dsimp only at g0 g1 g2 hfd2 hs0 hs1 hs2 hs4 hgn
                    obtain ⟨s, rfl⟩ : ∃ s : Nat, gs = s := ⟨gs.toNat, by omega⟩
                    have hs5 : ¬ (d.size : Int) < s := by omega
                    have hs6 : (s : Int) ≤ gd.size := hs1
                    have ez : (gd.extract 0 s).size = s := by rw [ByteArray.size_extract]; omega
                    have HBg := hd0 (fun (W : World) => wBegins_true d (gd.extract 0 s) W (by omega) (by omega) (by rw [ez]; simpa using hs4))
                    have hbn := new_below wr (.cells #[.string gn, .string gd, .int .i64 (s : Int)] 31)
                    have bG := Box.new wr 31 (.string gn) (.string gd) (.int .i64 (s : Int))
                    have hbb := hb.trans (hbn.mono hb.size)
                    go_upto_region 38 with fail
                    generalize wr.alloc (.cells #[.string gn, .string gd, .int .i64 (s : Int)] 31) = w20 at *
                    generalize wr.heap.size = pg at *
                    clear m0 m1 m2 hml hbn hb g0 g1 g2 hs0 hs1 hs2 hs4 ez
                    obtain ⟨m0, m1, m2⟩ := (bZ.below hbb).cells
                    have hml := (bZ.below hbb).lt
                    obtain ⟨g0, g1, g2⟩ := bG.cells
                    have hgl := bG.lt
                    have HF := hd0 (implFind_any a17 c17 Z q (-1) gn w20 (hLZ.below hbb) hfZ (by omega) hdZ hgn)
                    rw [hfd2] at HF
                    clear hfd2
                    go_wp2_with fail
                    refine HF.out.mono ?_
                    rintro e w21 ⟨rfl, hb21⟩
                    have hbb2 := hbb.trans (hb21.mono hbb.size)
                    replace bG := bG.below hb21
                    clear m0 m1 m2 hml g0 g1 g2 hgl HF hb21 hbb
                    obtain ⟨g0, g1, g2⟩ := bG.cells
                    have hgl := bG.lt
                    go_wp2_with fail
                    refine (HBg.out _).mono ?_
                    rintro e w22 ⟨rfl, hb22⟩
                    have hbb3 := hbb2.trans (hb22.mono hbb2.size)
                    go_wp2_with fail
                    exact ⟨⟨j + 1, by omega, by go_num, hbb3⟩, by simp [intOf]; omega⟩
                  · obtain rfl : j = xs.length := by omega
                    have hlt2 : ¬ ((xs.length : Nat) : Int) < xs.length := by omega
                    go_wp2_with fail
                    go_ret
                    exact ⟨rfl, hb418.trans (hb.mono hb418.size)⟩
              · have HG : Hid (findV Z q (-1) f.nm = (f.dt ++ ss.extract 0 ss.size, true)) := by show _ = _; rw [hG.out, show (max 0 (min kv (ss.size : Int))).toNat = ss.size by omega]
                have hk1 : ¬ kv < 0 := by omega
                clear hG
                have h16l := bZ.lt
                obtain ⟨k0, k1, k2⟩ := bZ.cells
                obtain ⟨f0, f1, f2⟩ := bQ.cells
                have hfl := bQ.lt
                have HFd := hd0 (implFind_any a17 c17 Z q (-1) f.nm w17 hLZ hfZ (by omega) hdZ hnm)
                rw [HG.out] at HFd
                go_upto_region 31 with fail
                go_wp2_with fail
                refine HFd.out.mono ?_
                rintro e w18 ⟨rfl, hb18⟩
                have hb418 := hb417.trans (hb18.mono hb417.size)
                replace bP8 := bP8.below hb18
                replace hL8 := hL8.below hb18
                replace bZ := bZ.below hb18
                replace hLZ := hLZ.below hb18
                replace bQ := bQ.below hb18
                clear k0 k1 k2 f0 f1 f2 h16l hfl hb18 hb417 HFd HG
                obtain ⟨f0, f1, f2⟩ := bQ.cells
                have hfl := bQ.lt
                have hsz : ¬ 9223372036854775807 < f.dt.size + (ss.extract 0 ss.size).size := by
                  have e1 : (ss.extract 0 ss.size).size ≤ ss.size := by rw [ByteArray.size_extract]; omega
                  have e2 := hfd.out
                  omega
                have hsz2 : ¬ 9223372036854775807 < f.dt.size + min ss.size ss.size := by have := hfd.out; omega
                have hsz3 : ¬ 9223372036854775807 < f.dt.size := by have := hfd.out; omega
                have hsz4 : ¬ 9223372036854775807 < f.dt.size + ss.size := by have := hfd.out; omega
                go_upto_region 32 with fail
                go_region_held3 (fun w' => w'.cell? ⟨pf, 1, none⟩ = some (.string f.dt)) (simp [go_sem, *]) (fail)
                go_upto_region 34 with fail
                clear hsz hsz2 hsz3 hsz4 f0 f1 f2 hfl
                have hd18 : Below w18.heap.size w18 w18.drew := (Below.refl _ w18).drew
                go_wp2_with fail
                go_loopw [25] (fun iv wr => ∃ j : Nat, j ≤ xs.length ∧ iv = .int .i64 j ∧ Below w18.heap.size w18 wr) (fun iv _ => xs.length - (intOf iv).toNat)
                case atStart => exact ⟨0, Nat.zero_le _, rfl, hd18⟩
                case round =>
                  obtain ⟨j, hj, rfl, hb⟩ := hrel
                  obtain ⟨m0, m1, m2⟩ := (bP8.below hb).cells
                  have hml := (bP8.below hb).lt
                  by_cases hlt : j < xs.length
                  · have hlt2 : (j : Int) < xs.length := by omega
                    obtain ⟨b', off', he, hbl2, g0, g1, g2⟩ := (hL8.below hb).at hlt
                    injection he with he
                    injection he with he1 he2
                    subst he1 he2
                    obtain ⟨d, hfd2, hs0, hs1, hs2, hs3, hs4⟩ := hJ.out j hlt
                    have hgn := (hm2.at hlt).1
                    generalize xs.getD j fl0 = g at *
                    obtain ⟨gn, gd, gs⟩ := g
                    dsimp only at g0 g1 g2 hfd2 hs0 hs1 hs2 hs4 hgn
                    obtain ⟨s, rfl⟩ : ∃ s : Nat, gs = s := ⟨gs.toNat, by omega⟩
                    have hs5 : ¬ (d.size : Int) < s := by omega
                    have hs6 : (s : Int) ≤ gd.size := hs1
                    have ez : (gd.extract 0 s).size = s := by rw [ByteArray.size_extract]; omega
                    have HBg := hd0 (fun (W : World) => wBegins_true d (gd.extract 0 s) W (by omega) (by omega) (by rw [ez]; simpa using hs4))
                    have hbn := new_below wr (.cells #[.string gn, .string gd, .int .i64 (s : Int)] 31)
                    have bG := Box.new wr 31 (.string gn) (.string gd) (.int .i64 (s : Int))
                    have hbb := hb.trans (hbn.mono hb.size)
                    go_upto_region 38 with fail
                    generalize wr.alloc (.cells #[.string gn, .string gd, .int .i64 (s : Int)] 31) = w20 at *
                    generalize wr.heap.size = pg at *
                    clear m0 m1 m2 hml hbn hb g0 g1 g2 hs0 hs1 hs2 hs4 ez
                    obtain ⟨m0, m1, m2⟩ := (bZ.below hbb).cells
                    have hml := (bZ.below hbb).lt
                    obtain ⟨g0, g1, g2⟩ := bG.cells
                    have hgl := bG.lt
                    have HF := hd0 (implFind_any a17 c17 Z q (-1) gn w20 (hLZ.below hbb) hfZ (by omega) hdZ hgn)
                    rw [hfd2] at HF
                    clear hfd2
                    go_wp2_with fail
                    refine HF.out.mono ?_
                    rintro e w21 ⟨rfl, hb21⟩
                    have hbb2 := hbb.trans (hb21.mono hbb.size)
                    replace bG := bG.below hb21
                    clear m0 m1 m2 hml g0 g1 g2 hgl HF hb21 hbb
                    obtain ⟨g0, g1, g2⟩ := bG.cells
                    have hgl := bG.lt
                    go_wp2_with fail
                    refine (HBg.out _).mono ?_
                    rintro e w22 ⟨rfl, hb22⟩
                    have hbb3 := hbb2.trans (hb22.mono hbb2.size)
                    go_wp2_with fail
                    exact ⟨⟨j + 1, by omega, by go_num, hbb3⟩, by simp [intOf]; omega⟩
                  · obtain rfl : j = xs.length := by omega
                    have hlt2 : ¬ ((xs.length : Nat) : Int) < xs.length := by omega
                    go_wp2_with fail
                    go_ret
                    exact ⟨rfl, hb418.trans (hb.mono hb418.size)⟩
        · have hcd' : ¬ cd3 = 0 := hcd
          go_wp2_with fail
          go_ret
          exact ⟨rfl, hb413⟩
      · exfalso
        unfold fuelOk at hfu
        omega
end Go.Proofs.Ytgennghhneckeaa
