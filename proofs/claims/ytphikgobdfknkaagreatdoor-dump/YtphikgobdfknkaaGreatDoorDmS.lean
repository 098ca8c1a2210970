import Derived.Test.YtphikgobdfknkaaGreatDoorDmX

import Derived.Deep.RegionHeld3
namespace Go.Proofs.YtphikgobdfknkaaGreatDoor
open Go.RowKit Go.Maps
set_option linter.unusedVariables false
set_option linter.unusedSimpArgs false

theorem three_cellsS {w : World} {p : Nat} {t : TypeId} {x0 x1 x2 : Value} (h : w.heap[p]? = some (.cells #[x0, x1, x2] t (0, 0))) : w.cell? ⟨p, 0, none⟩ = some x0 ∧ w.cell? ⟨p, 1, none⟩ = some x1 ∧ w.cell? ⟨p, 2, none⟩ = some x2 := by
  refine ⟨?_, ?_, ?_⟩ <;> simp [World.cell?, h]
set_option maxRecDepth 100000 in
set_option maxHeartbeats 1000000 in
theorem specTn_any (n : Int) (h : I64 n) (w : World) :
    Calls Tryz.prog 15 #[.int .i64 n] w fun e w' => e = .returned (.string (tnB n)) ∧ Below w.heap.size w w' := by
  have HT := hdN (show_any n h.1 h.2 w)
  have hsz := itB_size h
  have u1 : ¬ 9223372036854775807 < (itB n).size + 4 := by omega
  go_enter Tryz.func15, Tryz.ntmps15
  go_wp2_with fail
  refine HT.out.mono ?_
  rintro e w1 ⟨rfl, hb1⟩
  go_wp2_with fail
  go_ret
  exact ⟨rfl, hb1⟩
set_option maxRecDepth 100000 in
set_option maxHeartbeats 8000000 in
theorem specDump_any (a : Option Addr) (cap : Nat) (xs : List Fl) (q fu : Int) (w : World) (hx : Lie w a xs) (hf : Fits xs) (hlen : xs.length ≤ 1048576) (hd : datas xs ≤ 1048576) :
    Calls Tryz.prog 5 #[.agg #[.slice a xs.length cap, .int .i64 q, .int .i64 fu]] w fun e w' => e = .returned (.string (dumpT xs q fu)) ∧ Below w.heap.size w w' := by
  have hm : ∀ l x, fm xs l = some x → x.1.size ≤ 1048576 := fun l x h => Nat.le_trans (fm_size xs l x h) hd
  have hb0 : Below w.heap.size w (w.alloc (.cells #[.slice a xs.length cap, .int .i64 q, .int .i64 fu] 29)) := (Below.refl _ _).alloc (Nat.le_refl _) _
  have HV := hdN (specValid_any a cap xs q fu _ (hx.below hb0) hf hlen hd)
  cases hvd : vldB xs q fu with
  | false =>
    have hT : dumpT xs q fu = ⟨#[105, 110, 118, 97, 108, 105, 100, 10]⟩ := by unfold dumpT; rw [if_neg (by simp [hvd])]
    rw [hT]
    rw [hvd] at HV
    go_enter Tryz.func5, Tryz.ntmps5
    go_wp2_with fail
    refine HV.out.mono ?_
    rintro e w1 ⟨rfl, hb1⟩
    go_wp2_with fail
    go_ret
    exact ⟨rfl, hb0.trans (hb1.mono hb0.size)⟩
  | true =>
    have hr : Rise xs := rise_of_ok (vld_head hvd).2.1
    rw [hvd] at HV
    have HL := hdN (fun (s : ByteArray) (w' : World) (hb : Below w.heap.size w w') => l1Data_any a cap xs q fu s w' (hx.below hb) hlen hr)
    have HT : Hid (dumpT xs q fu = match fm xs curB.data.toList with
      | none => ⟨#[110, 111, 32, 67, 85, 82, 82, 69, 78, 84, 10]⟩
      | some _ => match curM (fm xs) with
        | none => ⟨#[98, 97, 100, 32, 67, 85, 82, 82, 69, 78, 84, 10]⟩
        | some d => dmB (fm xs) d) := by show _ = _; unfold dumpT; rw [if_pos hvd]; rfl
    have HCM : Hid (curM (fm xs) = match fm xs ((fm xs curB.data.toList).getD (ByteArray.empty, 0)).1.data.toList with
      | some x => if manN ((fm xs curB.data.toList).getD (ByteArray.empty, 0)).1.data.toList ≠ 0 then some x.1 else none
      | none => none) := rfl
    generalize dumpT xs q fu = DT at *
    have hV0 : (w.alloc (.cells #[.slice a xs.length cap, .int .i64 q, .int .i64 fu] 29)).heap[w.heap.size]? = some (.cells #[.slice a xs.length cap, .int .i64 q, .int .i64 fu] 29 (0, 0)) := World.heap_alloc_new _ _
    go_enter Tryz.func5, Tryz.ntmps5
    go_wp2_with fail
    refine HV.out.mono ?_
    rintro e w1 ⟨rfl, hb1⟩
    have hV1 := (hb1.block w.heap.size (by simp)).trans hV0
    have hbw1 := hb0.trans (hb1.mono hb0.size)
    obtain ⟨x0, x1, x2⟩ := three_cellsS hV1
    clear hb1 hb0 hV0 HV
    go_wp2_with fail
    refine (HL.out curB _ hbw1).mono ?_
    rintro e w2 ⟨rfl, hb2⟩
    have hV2 := (hb2.block w.heap.size (heap_ltN hV1)).trans hV1
    have hbw2 := hbw1.trans (hb2.mono hbw1.size)
    clear x0 x1 x2 hb2 hbw1 hV1
    obtain ⟨x0, x1, x2⟩ := three_cellsS hV2
    cases hcur : fm xs curB.data.toList with
    | none =>
      rw [hcur] at HT
      have hDT : DT = ⟨#[110, 111, 32, 67, 85, 82, 82, 69, 78, 84, 10]⟩ := HT.out
      subst hDT
      go_wp2_with fail
      go_ret
      exact ⟨rfl, hbw2⟩
    | some cu =>
      rw [hcur] at HT HCM
      have hcz := hm _ _ hcur
      have HC2 : Hid (curM (fm xs) = match fm xs cu.1.data.toList with
        | some x => if manN cu.1.data.toList ≠ 0 then some x.1 else none
        | none => none) := HCM.out
      have HT2 : Hid (DT = match curM (fm xs) with
        | none => ⟨#[98, 97, 100, 32, 67, 85, 82, 82, 69, 78, 84, 10]⟩
        | some d => dmB (fm xs) d) := HT.out
      have HMn := hdN (fun w' => manNum_any cu.1 w' hcz)
      have HL2 := hdN (fun w' hb => HL.out cu.1 w' hb)
      have HMx : Hid (∀ y, fm xs cu.1.data.toList = some y → y.1.size ≤ 1048576) := fun y h => hm _ y h
      clear HT HCM hcur
      generalize curM (fm xs) = CM at *
      generalize fm xs cu.1.data.toList = fx at *
      generalize manN cu.1.data.toList = M at *
      go_wp2_with fail
      refine (HL2.out _ hbw2).mono ?_
      rintro e w3 ⟨rfl, hb3⟩
      have hV3 := (hb3.block w.heap.size (heap_ltN hV2)).trans hV2
      have hbw3 := hbw2.trans (hb3.mono hbw2.size)
      clear x0 x1 x2 hb3 hbw2 hV2
      go_wp2_with fail
      refine (HMn.out _).mono ?_
      rintro e w4 ⟨rfl, hb4⟩
      have hV4 := (hb4.block w.heap.size (heap_ltN hV3)).trans hV3
      have hbw4 := hbw3.trans (hb4.mono hbw3.size)
      clear hb4 hbw3 hV3
      by_cases hM : M = 0
      · subst hM
        have hCM : CM = none := by
          rw [HC2.out]
          cases fx <;> rfl
        subst hCM
        have hDT : DT = ⟨#[98, 97, 100, 32, 67, 85, 82, 82, 69, 78, 84, 10]⟩ := HT2.out
        subst hDT
        go_wp2_with fail
        go_ret
        exact ⟨rfl, hbw4⟩
      · have hM' : ((M : Nat) : Int) ≠ 0 := by omega
        have hMb : (((M : Nat) : Int) == 0) = false := by rw [beq_eq_false_iff_ne]; exact hM'
        cases fx with
        | none =>
          have hCM : CM = none := HC2.out
          subst hCM
          have hDT : DT = ⟨#[98, 97, 100, 32, 67, 85, 82, 82, 69, 78, 84, 10]⟩ := HT2.out
          subst hDT
          go_wp2_with fail
          go_ret
          exact ⟨rfl, hbw4⟩
        | some y =>
          have hCM : CM = some y.1 := HC2.out.trans (if_pos hM)
          subst hCM
          have hDT : DT = dmB (fm xs) y.1 := HT2.out
          have hyz := HMx.out y rfl
          have HRm := hdN (specRm_any y.1 w4 hyz)
          clear HC2 HT2 HMx
          cases hro : rmO y.1 with
          | none =>
            obtain ⟨-, -, -, r4⟩ := rm_none hro
            have hDT2 : DT = ⟨#[98, 97, 100, 32, 109, 97, 110, 105, 102, 101, 115, 116, 10]⟩ := by rw [hDT]; unfold dmB; rw [hro]
            clear hDT
            subst hDT2
            rw [r4] at HRm
            generalize rmT y.1 = RT at *
            generalize rmE y.1 = RE at *
            generalize rmP y.1 = RP at *
            clear r4 hro
            go_wp2_with fail
            refine HRm.out.mono ?_
            rintro r w5 ⟨a5, c5, rfl, hT5, hb5⟩
            go_wp2_with fail
            go_ret
            exact ⟨rfl, (hbw4.trans (hb5.mono hbw4.size)).alloc (Nat.le_trans hbw4.size hb5.size) _⟩
          | some tl =>
            obtain ⟨ts, l⟩ := tl
            obtain ⟨r1, r2, r3, r4⟩ := rm_some hro
            obtain ⟨hrefs, hel⟩ := rm_parts hro
            have hRP := rmP_le y.1
            have hts : ts.length ≤ 1000 := by
              have h := hro
              unfold rmO at h
              split at h
              · cases h
              · exact (foldM_goodD _ _ _ _ _ goodTs_nil h).len
            have HDT : Hid (DT = ⟨((hdB l).data.toList ++ lnsL (fm xs) ts ++ tornL (rmP y.1) y.1.size).toArray⟩) := by show _ = _; rw [hDT]; unfold dmB; rw [hro]
            rw [r1, r2, r4] at HRm
            generalize rmP y.1 = RP at *
            clear r1 r2 r3 r4 hDT hro
            obtain ⟨-, -, -, -, o1, o2, o3⟩ := (edOk_iff l).1 hel
            rw [numOk_iff] at o1 o2
            have hI1 : I64 l.lg := ⟨by omega, by omega⟩
            have hI2 : I64 l.nx := ⟨by omega, by omega⟩
            have hI3 : I64 l.la := ⟨by omega, by omega⟩
            have hz1 := itB_size hI1
            have hz2 := itB_size hI2
            have hz3 := itB_size hI3
            have HHd : Hid (hdB l = ⟨#[108, 111, 103, 32]⟩ ++ itB l.lg ++ ⟨#[32, 110, 101, 120, 116, 32]⟩ ++ itB l.nx ++ ⟨#[32, 108, 97, 115, 116, 32]⟩ ++ itB l.la ++ ⟨#[10]⟩) := rfl
            have hdz : (hdB l).size ≤ 90 := by rw [HHd.out]; simp only [ByteArray.size_append]; show 4 + (itB l.lg).size + 6 + (itB l.nx).size + 6 + (itB l.la).size + 1 ≤ 90; omega
            have hdl : (hdB l).data.toList.length = (hdB l).size := by rw [Array.length_toList]; rfl
            generalize hdB l = HB at *
            obtain ⟨ad, dl, lg, nx, la⟩ := l
            dsimp only at *
            have u1 : ¬ 9223372036854775807 < 4 + (itB lg).size := by omega
            have u2 : ¬ 9223372036854775807 < 4 + (itB lg).size + 6 := by omega
            have u3 : ¬ 9223372036854775807 < 4 + (itB lg).size + 6 + (itB nx).size := by omega
            have u4 : ¬ 9223372036854775807 < 4 + (itB lg).size + 6 + (itB nx).size + 6 := by omega
            have u5 : ¬ 9223372036854775807 < 4 + (itB lg).size + 6 + (itB nx).size + 6 + (itB la).size := by omega
            have u6 : ¬ 9223372036854775807 < 4 + (itB lg).size + 6 + (itB nx).size + 6 + (itB la).size + 1 := by omega
            have HRef := hdN hrefs
            have HM := hdN hm
            have HSh := hdN (fun (n : Int) (h : I64 n) (w' : World) => show_any n h.1 h.2 w')
            clear hrefs hm o1 o2 o3 hel
            go_wp2_with fail
            refine HRm.out.mono ?_
            rintro r w5 ⟨a5, c5, rfl, hT5, hb5⟩
            have hbw5 := hbw4.trans (hb5.mono hbw4.size)
            generalize hWa : w5.alloc (.cells #[.slice a5 ts.length c5, .int .i64 lg, .int .i64 nx, .int .i64 la] 40) = Wa
            have hXa : Wa.heap[w5.heap.size]? = some (.cells #[.slice a5 ts.length c5, .int .i64 lg, .int .i64 nx, .int .i64 la] 40 (0, 0)) := by rw [← hWa]; exact World.heap_alloc_new _ _
            have hba : Below w5.heap.size w5 Wa := by rw [← hWa]; exact (Below.refl _ _).alloc (Nat.le_refl _) _
            have HTa := hdN (hT5.below hba)
            have hbwa := hbw5.trans (hba.mono hbw5.size)
            have hVa := (hba.block w.heap.size (Nat.lt_of_lt_of_le (heap_ltN hV4) hb5.size)).trans ((hb5.block w.heap.size (heap_ltN hV4)).trans hV4)
            obtain ⟨z0, z1, z2, z3⟩ := four_cellsD hXa
            have hlb := heap_ltN hXa
            have HI1 := hdN (HSh.out lg hI1 Wa.drew)
            have HWa := hdN hWa
            have Hbwa := hdN hbwa
            have HVa := hdN hVa
            clear hWa hb5 hT5 hba HRm hbw4 hbw5 hV4 hbwa hVa
            go_wp2_with fail
            rw [HWa.out]
            clear HWa
            go_region_held3 (fun w' => w'.cell? ⟨w5.heap.size, 1, none⟩ = some (.int .i64 lg) ∧ w'.cell? ⟨w5.heap.size, 2, none⟩ = some (.int .i64 nx) ∧ w'.cell? ⟨w5.heap.size, 3, none⟩ = some (.int .i64 la)) (simp [go_sem, *])
              ((go_at_call 14; refine (HSh.out _ (by first | exact hI1 | exact hI2 | exact hI3) _).mono ?_; rintro r wn ⟨rfl, hbn⟩; first | (have hbb : Below Wa.heap.size Wa wn := Hbb7.out.trans (hbn.mono Hbb7.out.size); have n0 := (hbb.cell (p := ⟨w5.heap.size, _, none⟩) hlb).trans z0; have n1 := (hbb.cell (p := ⟨w5.heap.size, _, none⟩) hlb).trans z1; have n2 := (hbb.cell (p := ⟨w5.heap.size, _, none⟩) hlb).trans z2; have n3 := (hbb.cell (p := ⟨w5.heap.size, _, none⟩) hlb).trans z3; have Hbb8 := hdN hbb; clear hbn hbb) | (have hbb : Below Wa.heap.size Wa wn := Hbb6.out.trans (hbn.mono Hbb6.out.size); have m0 := (hbb.cell (p := ⟨w5.heap.size, _, none⟩) hlb).trans z0; have m1 := (hbb.cell (p := ⟨w5.heap.size, _, none⟩) hlb).trans z1; have m2 := (hbb.cell (p := ⟨w5.heap.size, _, none⟩) hlb).trans z2; have m3 := (hbb.cell (p := ⟨w5.heap.size, _, none⟩) hlb).trans z3; have Hbb7 := hdN hbb; clear hbn hbb) | (have hbb : Below Wa.heap.size Wa wn := ((Below.refl _ Wa).drew).trans hbn; have k0 := (hbb.cell (p := ⟨w5.heap.size, _, none⟩) hlb).trans z0; have k1 := (hbb.cell (p := ⟨w5.heap.size, _, none⟩) hlb).trans z1; have k2 := (hbb.cell (p := ⟨w5.heap.size, _, none⟩) hlb).trans z2; have k3 := (hbb.cell (p := ⟨w5.heap.size, _, none⟩) hlb).trans z3; have Hbb6 := hdN hbb; clear hbn hbb)))
            all_goals
              rw [← HHd.out]
              clear HHd u1 u2 u3 u4 u5 u6 k0 k1 k2 k3 m0 m1 m2 m3 n0 n1 n2 n3 z0 z1 z2 z3 Hbb6 Hbb7 HI1 hz1 hz2 hz3 hI1 hI2 hI3
              have HXa := hdN hXa
              clear hXa
              go_wp2_with fail
              go_loopw [10, 11] (fun vs vi wr => ∃ (k : Nat) (S : ByteArray), vs = .string S ∧ vi = .int .i64 (k : Int) ∧ k ≤ ts.length ∧ Hid (S.data.toList = HB.data.toList ++ lnsL (fm xs) (ts.take k)) ∧ Hid (Below Wa.heap.size Wa wr)) (fun _ vi _ => ts.length - (intOf vi).toNat)
              case atStart => exact ⟨0, HB, rfl, rfl, Nat.zero_le _, by show _ = _; simp [lnsL], Hbb8⟩
              case round =>
                clear Hbb8
                obtain ⟨k, S, rfl, rfl, hk, HSl, HBa⟩ := hrel
                have hXr := (HBa.out.block w5.heap.size hlb).trans HXa.out
                have hVr := (HBa.out.block w.heap.size (heap_ltN HVa.out)).trans HVa.out
                obtain ⟨v0, v1, v2, v3⟩ := four_cellsD hXr
                have hbwr := Hbwa.out.trans (HBa.out.mono Hbwa.out.size)
                have hSz : S.size ≤ 200000 := by
                  have e : S.data.toList.length = S.size := by rw [Array.length_toList]; rfl
                  rw [← e, HSl.out, List.length_append, hdl]
                  have h1 := lnsL_len HM.out (ts.take k) (fun t ht => HRef.out t (List.mem_of_mem_take ht))
                  rw [List.length_take] at h1
                  have := hts
                  omega
                by_cases hlt : k < ts.length
                · have hlt' : (k : Int) < (ts.length : Int) := by omega
                  obtain ⟨tb, off, rfl, htb, c0, c1, c2, c3⟩ := (HTa.out.below HBa.out).lie.at hlt
                  have hok : refOk (ts.getD k tr0) = true := by
                    have e : ts.getD k tr0 = ts[k] := by simp [List.getD, hlt]
                    rw [e]
                    exact HRef.out _ (List.getElem_mem hlt)
                  have HLn : Hid (lnsL (fm xs) (ts.take (k + 1)) = lnsL (fm xs) (ts.take k) ++ (lnB (fm xs) (ts.getD k tr0)).data.toList) := by show _ = _; rw [takeT_snoc ts k hlt, lnsL_snoc]
                  have HLb : Hid (lnB (fm xs) (ts.getD k tr0) = match fm xs (tnB (ts.getD k tr0).nu).data.toList with
                    | some x => lnA (ts.getD k tr0) ++ ⟨#[32, 115, 105, 122, 101, 32]⟩ ++ itB (x.1.size : Nat) ++ ⟨#[10]⟩
                    | none => lnA (ts.getD k tr0) ++ ⟨#[32, 109, 105, 115, 115, 105, 110, 103, 10]⟩) := rfl
                  have HLa : Hid (lnA (ts.getD k tr0) = ⟨#[116, 97, 98, 108, 101, 32]⟩ ++ itB (ts.getD k tr0).nu ++ ⟨#[32, 108, 101, 118, 101, 108, 32]⟩ ++ itB (ts.getD k tr0).lv) := rfl
                  obtain ⟨b1, b2, -⟩ := (refOk_iff _).1 hok
                  have hJ1 : I64 (ts.getD k tr0).nu := ⟨by omega, by omega⟩
                  have hJ2 : I64 (ts.getD k tr0).lv := ⟨by omega, by omega⟩
                  generalize lnB (fm xs) (ts.getD k tr0) = LB at *
                  generalize lnA (ts.getD k tr0) = LA at *
                  generalize lnsL (fm xs) (ts.take k) = LS at *
                  generalize ts.getD k tr0 = f at *
                  obtain ⟨nu, lv, lo, hi⟩ := f
                  dsimp only at *
                  have hy1 := itB_size hJ1
                  have hy2 := itB_size hJ2
                  have q1 : ¬ 9223372036854775807 < S.size + 6 := by omega
                  have q2 : ¬ 9223372036854775807 < S.size + 6 + (itB nu).size := by omega
                  have q3 : ¬ 9223372036854775807 < S.size + 6 + (itB nu).size + 7 := by omega
                  have q4 : ¬ 9223372036854775807 < S.size + 6 + (itB nu).size + 7 + (itB lv).size := by omega
                  have HTn := hdN (fun w' => specTn_any nu hJ1 w')
                  have HLd := hdN (fun w' hb => HL.out (tnB nu) w' hb)
                  have HGx : Hid (∀ z, fm xs (tnB nu).data.toList = some z → z.1.size ≤ 1048576) := fun z h => HM.out _ z h
                  generalize fm xs (tnB nu).data.toList = gx at *
                  generalize tnB nu = tn at *
                  generalize hWt : wr.alloc (.cells #[.int .i64 nu, .int .i64 lv, .string lo, .string hi] 45) = Wt
                  have hXt : Wt.heap[wr.heap.size]? = some (.cells #[.int .i64 nu, .int .i64 lv, .string lo, .string hi] 45 (0, 0)) := by rw [← hWt]; exact World.heap_alloc_new _ _
                  have hbt : Below wr.heap.size wr Wt := by rw [← hWt]; exact (Below.refl _ _).alloc (Nat.le_refl _) _
                  obtain ⟨y0, y1, y2, y3⟩ := four_cellsD hXt
                  have hlt2 := heap_ltN hXt
                  have HWt := hdN hWt
                  have Hbt := hdN hbt
                  clear hWt hbt
                  go_wp2_with fail
                  rw [HWt.out]
                  clear HWt
                  go_region_held3 (fun w' => w'.cell? ⟨wr.heap.size, 0, none⟩ = some (.int .i64 nu) ∧ w'.cell? ⟨wr.heap.size, 1, none⟩ = some (.int .i64 lv)) (simp [go_sem, *])
                    ((go_at_call 14; refine (HSh.out _ (by first | exact hJ1 | exact hJ2) _).mono ?_; rintro r wn ⟨rfl, hbn⟩; first | (have hbb : Below Wt.heap.size Wt wn := Hcc1.out.trans (hbn.mono Hcc1.out.size); have g0 := (hbb.cell (p := ⟨wr.heap.size, _, none⟩) hlt2).trans y0; have g1 := (hbb.cell (p := ⟨wr.heap.size, _, none⟩) hlt2).trans y1; have Hcc2 := hdN hbb; clear hbn hbb) | (have hbb : Below Wt.heap.size Wt wn := ((Below.refl _ Wt).drew).trans hbn; have f0 := (hbb.cell (p := ⟨wr.heap.size, _, none⟩) hlt2).trans y0; have f1 := (hbb.cell (p := ⟨wr.heap.size, _, none⟩) hlt2).trans y1; have Hcc1 := hdN hbb; clear hbn hbb)))
                  all_goals
                    generalize hS1 : S ++ ⟨#[116, 97, 98, 108, 101, 32]⟩ ++ itB nu ++ ⟨#[32, 108, 101, 118, 101, 108, 32]⟩ ++ itB lv = S1
                    have HS1 : Hid (S1.data.toList = S.data.toList ++ LA.data.toList) := by show _ = _; rw [← hS1, HLa.out]; simp
                    have hs1 : S1.size ≤ 200060 := by rw [← hS1]; simp only [ByteArray.size_append]; show S.size + 6 + (itB nu).size + 7 + (itB lv).size ≤ _; omega
                    clear hS1 HLa
                    have hVn := (Hcc2.out.block w.heap.size (Nat.lt_of_lt_of_le (heap_ltN hVr) Hbt.out.size)).trans ((Hbt.out.block w.heap.size (heap_ltN hVr)).trans hVr)
                    obtain ⟨e0, e1, e2⟩ := three_cellsS hVn
                    have Hbn := hdN (hbwr.trans ((Hbt.out.trans (Hcc2.out.mono Hbt.out.size)).mono hbwr.size))
                    clear f0 f1 y0 y1 y2 y3 q1 q2 q3 q4 c0 c1 c2 c3 v0 v1 v2 v3
                    have hlw := heap_ltN hVn
                    have hlr : wr.heap.size < wn.heap.size := Nat.lt_of_lt_of_le hlt2 Hcc2.out.size
                    go_wp2_with fail
                    go_region_held3 (fun w' => w'.cell? ⟨w.heap.size, 0, none⟩ = some (.slice a xs.length cap) ∧ w'.cell? ⟨w.heap.size, 1, none⟩ = some (.int .i64 q) ∧ w'.cell? ⟨w.heap.size, 2, none⟩ = some (.int .i64 fu) ∧ w'.cell? ⟨wr.heap.size, 0, none⟩ = some (.int .i64 nu)) (simp [go_sem, *])
                      (first
                        | (go_at_call 15; refine (HTn.out _).mono ?_; rintro r wp' ⟨rfl, hbp⟩; have hbb : Below wn.heap.size wn wp' := ((Below.refl _ wn).drew).trans hbp; have i0 := (hbb.cell (p := ⟨w.heap.size, _, none⟩) hlw).trans e0; have i1 := (hbb.cell (p := ⟨w.heap.size, _, none⟩) hlw).trans e1; have i2 := (hbb.cell (p := ⟨w.heap.size, _, none⟩) hlw).trans e2; have i3 := (hbb.cell (p := ⟨wr.heap.size, _, none⟩) hlr).trans g0; have Hdd1 := hdN hbb; have Hbp := hdN (Hbn.out.trans (hbb.mono Hbn.out.size)); clear hbp hbb)
                        | (go_at_call 11; refine (HLd.out _ Hbp.out).mono ?_; rintro r wq ⟨rfl, hbq⟩; have hbb : Below wn.heap.size wn wq := Hdd1.out.trans (hbq.mono Hdd1.out.size); have o0 := (hbb.cell (p := ⟨w.heap.size, _, none⟩) hlw).trans e0; have o1 := (hbb.cell (p := ⟨w.heap.size, _, none⟩) hlw).trans e1; have o2 := (hbb.cell (p := ⟨w.heap.size, _, none⟩) hlw).trans e2; have o3 := (hbb.cell (p := ⟨wr.heap.size, _, none⟩) hlr).trans g0; have Hdd2 := hdN hbb; have Hbq := hdN (Hbn.out.trans (hbb.mono Hbn.out.size)); clear hbq hbb))
                    all_goals
                      have HBq : Hid (Below Wa.heap.size Wa wq) := HBa.out.trans (((Hbt.out.trans (Hcc2.out.mono Hbt.out.size)).trans (Hdd2.out.mono (Nat.le_trans Hbt.out.size Hcc2.out.size))).mono HBa.out.size)
                      clear i0 i1 i2 i3 o0 o1 o2 o3 e0 e1 e2 g0 g1
                      cases gx with
                      | none =>
                        have hLB : LB = LA ++ ⟨#[32, 109, 105, 115, 115, 105, 110, 103, 10]⟩ := HLb.out
                        have u9 : ¬ 9223372036854775807 < S1.size + 9 := by omega
                        have HSn : Hid ((S1 ++ ⟨#[32, 109, 105, 115, 115, 105, 110, 103, 10]⟩).data.toList = HB.data.toList ++ (LS ++ LB.data.toList)) := by
                          show _ = _
                          rw [hLB, ← List.append_assoc, ← HSl.out]
                          simp [HS1.out]
                        clear hLB HLb HS1
                        go_wp2_with fail
                        exact ⟨⟨k + 1, S1 ++ ⟨#[32, 109, 105, 115, 115, 105, 110, 103, 10]⟩, rfl, by go_num, by omega, by show _ = _; rw [HLn.out]; exact HSn.out, HBq⟩, by simp only [intOf]; omega⟩
                      | some z =>
                        have hzz := HGx.out z rfl
                        have hLB : LB = LA ++ ⟨#[32, 115, 105, 122, 101, 32]⟩ ++ itB (z.1.size : Nat) ++ ⟨#[10]⟩ := HLb.out
                        have hIz : I64 ((z.1.size : Nat) : Int) := ⟨by omega, by omega⟩
                        have hzs := itB_size hIz
                        have u8 : ¬ 9223372036854775807 < S1.size + 6 := by omega
                        have u9 : ¬ 9223372036854775807 < S1.size + 6 + (itB ((z.1.size : Nat) : Int)).size := by omega
                        have u10 : ¬ 9223372036854775807 < S1.size + 6 + (itB ((z.1.size : Nat) : Int)).size + 1 := by omega
                        have HSn : Hid ((S1 ++ ⟨#[32, 115, 105, 122, 101, 32]⟩ ++ itB (z.1.size : Nat) ++ ⟨#[10]⟩).data.toList = HB.data.toList ++ (LS ++ LB.data.toList)) := by
                          show _ = _
                          rw [hLB, ← List.append_assoc, ← HSl.out]
                          simp [HS1.out]
                        clear hLB HLb HS1
                        go_wp2_with fail
                        refine (HSh.out _ hIz _).mono ?_
                        rintro r wz ⟨rfl, hbz⟩
                        have HBz := hdN (HBq.out.trans (hbz.mono HBq.out.size))
                        clear hbz
                        go_wp2_with fail
                        exact ⟨⟨k + 1, S1 ++ ⟨#[32, 115, 105, 122, 101, 32]⟩ ++ itB (z.1.size : Nat) ++ ⟨#[10]⟩, rfl, by go_num, by omega, by show _ = _; rw [HLn.out]; exact HSn.out, HBz⟩, by simp only [intOf]; omega⟩
                · obtain rfl : k = ts.length := by omega
                  have hik : ¬ (ts.length : Int) < (ts.length : Int) := by omega
                  rw [List.take_length] at HSl
                  by_cases hq : RP * 64 = y.1.size
                  · have hq' : (RP : Int) * 64 = (y.1.size : Int) := by omega
                    have ht : tornL RP y.1.size = [] := by unfold tornL; rw [if_pos hq]
                    rw [ht, List.append_nil, ← HSl.out] at HDT
                    have hDT : DT = S := HDT.out.trans (by apply ByteArray.ext; simp)
                    subst hDT
                    clear ht
                    go_wp2_with fail
                    go_ret
                    exact ⟨rfl, hbwr⟩
                  · have hq' : ((RP : Int) * 64 == (y.1.size : Int)) = false := by rw [beq_eq_false_iff_ne]; omega
                    have hq2 : ¬ (RP : Int) * 64 = (y.1.size : Int) := by omega
                    have ht : tornL RP y.1.size = [116, 111, 114, 110, 10] := by unfold tornL; rw [if_neg hq]
                    rw [ht, ← HSl.out] at HDT
                    have hDT : DT = S ++ ⟨#[116, 111, 114, 110, 10]⟩ := HDT.out.trans (by apply ByteArray.ext; simp)
                    subst hDT
                    have u7 : ¬ 9223372036854775807 < S.size + 5 := by omega
                    clear ht
                    go_wp2_with fail
                    go_ret
                    exact ⟨rfl, hbwr⟩
end Go.Proofs.YtphikgobdfknkaaGreatDoor
