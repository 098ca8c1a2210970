import Derived.Test.YtgpjhlhjdafjlaaGreatDoorMdX

import Derived.Deep.RegionHeld3
import Derived.Deep.DeepCutAuto
namespace Go.Proofs.YtgpjhlhjdafjlaaGreatDoor
open Go.RowKit Go.Maps
set_option linter.unusedVariables false
set_option linter.unusedSimpArgs false

theorem foldM_goodL : ∀ (ps : List ByteArray) (ts : List Tr) (l : Ed) (ts' : List Tr) (l' : Ed), GoodTs ts → foldM ts l ps = some (ts', l') → GoodTs ts'
  | [], ts, l, ts', l', h, e => by
    simp only [foldM, Option.some.injEq, Prod.mk.injEq] at e
    rw [← e.1]
    exact h
  | p :: ps, ts, l, ts', l', h, e => by
    cases hp : (decEd p).isSome with
    | false => rw [foldM_none hp] at e; cases e
    | true =>
      cases ha : apOk ts (edR p) with
      | false => rw [foldM_bad hp ha] at e; cases e
      | true =>
        rw [foldM_step hp ha] at e
        exact foldM_goodL ps _ _ ts' l' (goodTs_next h (edR_ok hp) ha) e
theorem rm_lenL (s : ByteArray) : (rmT s).length ≤ 1000 := by
  cases h : rmO s with
  | none => rw [(rm_none h).1]; exact Nat.zero_le _
  | some q =>
    obtain ⟨ts, l⟩ := q
    rw [(rm_some h).1]
    unfold rmO at h
    split at h
    · cases h
    · exact (foldM_goodL _ _ _ _ _ goodTs_nil h).len
/-- A step of the fold that ends well. -/
theorem foldM_on {ts : List Tr} {l : Ed} {p : ByteArray} {ps : List ByteArray} {o : Option (List Tr × Ed)} (h : o = foldM ts l (p :: ps)) (ho : o.isSome = true) : (decEd p).isSome = true ∧ apOk ts (edR p) = true ∧ o = foldM (apS ts (edR p)) (edR p) ps := by
  cases h1 : (decEd p).isSome with
  | false => rw [h, foldM_none h1] at ho; cases ho
  | true =>
    cases h2 : apOk ts (edR p) with
    | false => rw [h, foldM_bad h1 h2] at ho; cases ho
    | true => exact ⟨rfl, rfl, by rw [h, foldM_step h1 h2]⟩

set_option maxRecDepth 100000 in
set_option maxHeartbeats 16000000 in
theorem lawMan_any (a b : Option Addr) (ca cb' : Nat) (cs ms : List UInt8) (w : World) (hc : LieB w a cs) (hm : LieB w b ms) (hcl : cs.length ≤ maxLen) (hml : ms.length ≤ maxLen) (ht : Steps w) :
    Calls Tryz.prog 3 #[.slice a cs.length ca, .slice b ms.length cb'] w fun e w' => e = .returned (.bool true) ∧ Below w.heap.size w w' := by
  unfold maxLen at hcl hml
  by_cases hb1 : (1048576 : Int) < cs.length
  · go_enter Tryz.func3, Tryz.ntmps3
    go_wp2_with fail
    go_ret
    exact ⟨rfl, Below.refl _ _⟩
  by_cases hb2 : (1048576 : Int) < ms.length
  · go_enter Tryz.func3, Tryz.ntmps3
    go_wp2_with fail
    go_ret
    exact ⟨rfl, Below.refl _ _⟩
  have HD := hd (drawRm_any a ca cs w hc (by omega))
  have HP : Hid (∀ (w' : World) (i : Nat), Below w.heap.size w w' → i ≤ 1000000 → Calls Tryz.prog 12 #[.slice b ms.length cb', .int .i64 i] w' fun e w'' => e = .returned (.int .i64 (wp ms i : Nat)) ∧ Below w'.heap.size w' w'') := fun w' i hb h => wPick_any b cb' ms i w' (hm.below hb) (by omega) h
  have HST : Hid (∀ w' : World, Below w.heap.size w w' → Steps w') := fun w' hb => ht.below hb
  have HW := hd wSameRefs_same
  have hw0 := wp_le ms 0
  have hw1 := wp_le ms 1
  generalize cs.length = lc at *
  generalize ms.length = lm at *
  clear hc hm ht
  go_enter Tryz.func3, Tryz.ntmps3
  go_wp2_with fail
  refine HD.out.mono ?_
  rintro e w1 ⟨s0, rfl, hs0, hbw1⟩
  clear HD
  go_wp2_with fail
  go_loopw [5, 6] (fun vs vr wr => ∃ (s : ByteArray) (k : Nat), vs = .string s ∧ vr = .int .i64 (k : Int) ∧ k ≤ 2 ∧ s.size ≤ 100000 ∧ Below w.heap.size w wr) (fun _ vr _ => 2 - (intOf vr).toNat)
  case atStart => exact ⟨s0, 0, rfl, rfl, by omega, hs0, hbw1⟩
  case round =>
    clear hbw1 hs0
    obtain ⟨s, k, rfl, rfl, hk, hs, hbr⟩ := hrel
    by_cases hk2 : k < 2
    · have hk2' : (k : Int) < 2 := by omega
      have HSp := hd (specRm_any s wr (by omega))
      have HIm := hd (fun w' (h : Steps w') => implRm_any s w' (by omega) h)
      have HLg := hd (fun w' (h : Steps w') => implLog_any s 77 w' (by omega) h)
      have hlen := rm_lenL s
      have HSz := hd (pm_size s (by omega))
      have hpl := pm_len s
      have HPl : Hid ((rlL s 77).length = (pm s).length) := by show _ = _; unfold pm; rw [List.length_map]
      have HPm : Hid ((rlL s 77).map rfB = pm s) := rfl
      have HYes : Hid (∀ ts l, rmO s = some (ts, l) → rmT s = ts ∧ rmE s = l ∧ rmP s = lastN (rlL s 77) ∧ (rmO s).isSome = true) := fun ts l h => rm_some h
      have HF : Hid ((rmO s).isSome = true → rmO s = foldM [] ed0 (pm s)) := fun h => by
        by_cases h0 : (pm s).length = 0
        · rw [rmO, if_pos h0] at h; cases h
        · rw [rmO, if_neg h0]
      generalize lastN (rlL s 77) = LN at *
      rw [HPl.out, HPm.out] at HLg
      clear HPl HPm
      generalize pm s = ps at *
      generalize rmT s = RT at *
      generalize rmE s = RE at *
      generalize rmP s = RP at *
      generalize rmO s = RO at *
      have hRP : (((RP : Nat) : Int) != ((RP : Nat) : Int)) = false := by simp
      have hE1 : (RE.lg != RE.lg) = false := by simp
      have hE2 : (RE.nx != RE.nx) = false := by simp
      have hE3 : (RE.la != RE.la) = false := by simp
      obtain ⟨ok, hok⟩ : ∃ o, o = RO.isSome := ⟨_, rfl⟩
      rw [← hok] at HSp HIm
      have HOK := hd hok
      clear hok
      have hokk : (ok != ok) = false := by simp
      go_wp2_with fail
      refine HSp.out.mono ?_
      rintro r w1 ⟨a1, c1, rfl, hT1, hb1⟩
      have hbw1 := hbr.trans (hb1.mono hbr.size)
      have ha1 : Below w1.heap.size w1 (w1.alloc (.cells #[.slice a1 RT.length c1, .int .i64 RE.lg, .int .i64 RE.nx, .int .i64 RE.la] 26)) := (Below.refl _ _).alloc (Nat.le_refl _) _
      have hX1 : (w1.alloc (.cells #[.slice a1 RT.length c1, .int .i64 RE.lg, .int .i64 RE.nx, .int .i64 RE.la] 26)).heap[w1.heap.size]? = some (.cells #[.slice a1 RT.length c1, .int .i64 RE.lg, .int .i64 RE.nx, .int .i64 RE.la] 26 (0, 0)) := World.heap_alloc_new _ _
      have hbwA := hbw1.trans (ha1.mono hbw1.size)
      go_wp2_with fail
      refine (HIm.out _ (HST.out _ hbwA)).mono ?_
      rintro r w2 ⟨a2, c2, rfl, hT2, hb2⟩
      rw [size_alloc] at hT2
      have hs2 : w1.heap.size + 1 ≤ w2.heap.size := by have := hb2.size; rw [size_alloc] at this; exact this
      have hX2 := (hb2.block w1.heap.size (by simp)).trans hX1
      have hb12 : Below w1.heap.size w1 w2 := ha1.trans (hb2.mono ha1.size)
      have hbw2 := hbw1.trans (hb12.mono hbw1.size)
      have hT12 := hT1.below hb12
      have ha2 : Below w2.heap.size w2 (w2.alloc (.cells #[.slice a2 RT.length c2, .int .i64 RE.lg, .int .i64 RE.nx, .int .i64 RE.la] 26)) := (Below.refl _ _).alloc (Nat.le_refl _) _
      have hY2 : (w2.alloc (.cells #[.slice a2 RT.length c2, .int .i64 RE.lg, .int .i64 RE.nx, .int .i64 RE.la] 26)).heap[w2.heap.size]? = some (.cells #[.slice a2 RT.length c2, .int .i64 RE.lg, .int .i64 RE.nx, .int .i64 RE.la] 26 (0, 0)) := World.heap_alloc_new _ _
      have hXa := (ha2.block w1.heap.size (by omega)).trans hX2
      have hbwB := hbw2.trans (ha2.mono hbw2.size)
      have HTa := hd (hT2.below ha2).lie
      have HTb := hd (hT12.below ha2).lie
      clear hX1 ha1 hb2 hbwA hT12 hT2 hbr hb1 HSp HIm
      obtain ⟨x0, x1, x2, x3⟩ := four_cells hX2
      have hl12 : w1.heap.size < w2.heap.size := by omega
      go_wp2_with fail
      refine (HW.out a2 a1 c2 c1 RT _ HTa.out HTb.out (by omega)).mono ?_
      rintro r w3 ⟨rfl, hb3⟩
      have hbw3 := hbwB.trans (hb3.mono hbwB.size)
      have hs3 : w2.heap.size + 1 ≤ w3.heap.size := by have := hb3.size; rw [size_alloc] at this; exact this
      have HX3 := hd ((hb3.block w1.heap.size (by rw [size_alloc]; omega)).trans hXa)
      have hb13 : Below w1.heap.size w1 w3 := hb12.trans ((ha2.trans (hb3.mono ha2.size)).mono (by omega))
      have HT3 := hd (hT1.below hb13)
      obtain ⟨N, hN, hNs⟩ : ∃ N : Nat, (((wp ms 0 : Nat) : Int) * 256 + (wp ms 1 : Nat)) % ((s.size : Int) + 1) = (N : Int) ∧ N ≤ s.size := by
        have m0 : (0 : Int) ≤ (((wp ms 0 : Nat) : Int) * 256 + (wp ms 1 : Nat)) % ((s.size : Int) + 1) := Int.emod_nonneg _ (by omega)
        have m1 := Int.emod_lt_of_pos (((wp ms 0 : Nat) : Int) * 256 + (wp ms 1 : Nat)) (show (0 : Int) < (s.size : Int) + 1 by omega)
        exact ⟨((((wp ms 0 : Nat) : Int) * 256 + (wp ms 1 : Nat)) % ((s.size : Int) + 1)).toNat, by omega, by omega⟩
      have HN := hd hN
      clear hN
      clear hb3 hX2 hXa hY2 ha2 hbwB HTa HTb x0 x1 x2 x3 hb12 hb13 hT1
      cases ok with
      | false =>
        go_wp2_with fail
        refine (HP.out _ 0 hbw3 (by omega)).mono ?_
        rintro r w4 ⟨rfl, hb4⟩
        have hbw4 := hbw3.trans (hb4.mono hbw3.size)
        go_wp2_with fail
        refine (HP.out _ 1 hbw4 (by omega)).mono ?_
        rintro r w5 ⟨rfl, hb5⟩
        have hbw5 := hbw4.trans (hb5.mono hbw4.size)
        have hN := HN.out
        have hN1 : (N : Int) ≤ (s.size : Int) := by omega
        go_wp2_with fail
        exact ⟨⟨_, k + 1, rfl, by go_num, by omega, by simp only [ByteArray.size_extract]; omega, hbw5⟩, by simp only [intOf]; omega⟩
      | true =>
        go_wp2_with fail
        refine (HLg.out _ (HST.out _ hbw3)).mono ?_
        rintro r w4 ⟨al, cl, rfl, hr4, hb4⟩
        have hbw4 := hbw3.trans (hb4.mono hbw3.size)
        have hs4 := hb4.size
        have HX4 := hd ((hb4.block w1.heap.size (by omega)).trans HX3.out)
        have HT4 := hd (HT3.out.below hb4)
        have HR4 := hd hr4.lie
        have HRO := hd (HF.out HOK.out.symm)
        have hA4 : Below w4.heap.size w4 (w4.alloc (.cells #[.slice none 0 0, .int .i64 0, .int .i64 0, .int .i64 0] 26)) := (Below.refl _ _).alloc (Nat.le_refl _) _
        have hXX : (w4.alloc (.cells #[.slice none 0 0, .int .i64 0, .int .i64 0, .int .i64 0] 26)).heap[w4.heap.size]? = some (.cells #[.slice none 0 0, .int .i64 0, .int .i64 0, .int .i64 0] 26 (0, 0)) := World.heap_alloc_new _ _
        clear hr4 hb4 HX3 HT3 HF
        go_wp2_with fail
        go_loopw [16] (fun vi W => ∃ (j : Nat) (ts : List Tr) (l : Ed) (t : Option Addr) (ct : Nat), vi = .int .i64 (j : Int) ∧ j ≤ ps.length ∧ Hid (RO = foldM ts l (ps.drop j)) ∧ GoodTs ts ∧ Hid (W.heap[w4.heap.size]? = some (.cells #[.slice t ts.length ct, .int .i64 l.lg, .int .i64 l.nx, .int .i64 l.la] 26 (0, 0))) ∧ Hid (ResT W (w4.heap.size + 1) t ts) ∧ Hid (Below w4.heap.size w4 W)) (fun vi _ => ps.length - (intOf vi).toNat)
        case atStart => exact ⟨0, [], ed0, none, 0, rfl, Nat.zero_le _, HRO, goodTs_nil, hXX, .inl rfl, hA4⟩
        case round =>
          clear hA4 hXX HRO
          obtain ⟨j, ts, l, t, ct, rfl, hj, HS, hgt, HX, HR, HB⟩ := hrel
          have hbs := HB.out.size
          have hlX := heap_lt HX.out
          have HBw := hd (hbw4.trans (HB.out.mono hbw4.size))
          by_cases hlt : j < ps.length
          · obtain ⟨pg, rfl, hpg, cA⟩ := HR4.out.at hlt
            have c0 := (HB.out.cell (p := ⟨pg, j, none⟩) hpg).trans cA
            have hik : (j : Int) < (ps.length : Int) := by omega
            have hsz := HSz.out _ (getS_mem ps j hlt)
            have HD : Hid (ps.drop j = ps.getD j ByteArray.empty :: ps.drop (j + 1)) := dropS_cons ps j hlt
            rw [HD.out] at HS
            obtain ⟨d1, d2, d3⟩ := foldM_on HS.out HOK.out.symm
            have HDec := hd (implDecEd_any (ps.getD j ByteArray.empty) wr hsz)
            clear HD cA hsz HS
            generalize ps.getD j ByteArray.empty = p at *
            have heo := edR_ok d1
            have HDE := hd (dec_enc (edR_some d1))
            rw [d1] at HDec
            clear d1
            generalize edR p = e at *
            have HN3 := hd d3
            have HAP := hd d2
            obtain ⟨ef, ew, ek, el1, el2⟩ := ed_parts heo
            have HEF := hd ef
            have HEW := hd ew
            have HEK := hd ek
            clear d2 d3 ef ew ek
            go_wp2_with fail
            refine HDec.out.mono ?_
            rintro r w5 ⟨a5, c5, d5, cd5, rfl, hT5, hI5, hb5⟩
            have hs5 := hb5.size
            have hA5 : Below w5.heap.size w5 (w5.alloc (.cells #[.slice a5 e.ad.length c5, .slice d5 e.dl.length cd5, .int .i64 e.lg, .int .i64 e.nx, .int .i64 e.la] 35)) := (Below.refl _ _).alloc (Nat.le_refl _) _
            have hE5 : (w5.alloc (.cells #[.slice a5 e.ad.length c5, .slice d5 e.dl.length cd5, .int .i64 e.lg, .int .i64 e.nx, .int .i64 e.la] 35)).heap[w5.heap.size]? = some (.cells #[.slice a5 e.ad.length c5, .slice d5 e.dl.length cd5, .int .i64 e.lg, .int .i64 e.nx, .int .i64 e.la] 35 (0, 0)) := World.heap_alloc_new _ _
            have hpg5 : pg < w5.heap.size := by omega
            have hb56 : Below wr.heap.size wr (w5.alloc (.cells #[.slice a5 e.ad.length c5, .slice d5 e.dl.length cd5, .int .i64 e.lg, .int .i64 e.nx, .int .i64 e.la] 35)) := hb5.trans (hA5.mono hs5)
            have hs6 : w5.heap.size < (w5.alloc (.cells #[.slice a5 e.ad.length c5, .slice d5 e.dl.length cd5, .int .i64 e.lg, .int .i64 e.nx, .int .i64 e.la] 35)).heap.size := by simp
            have HX6 := hd ((hb56.block w4.heap.size hlX).trans HX.out)
            have HR6 := hd (HR.out.below hb56)
            have HT6 := hd (hT5.below hA5)
            have HI6 := hd (hI5.below hA5)
            have HB6 := hd (HB.out.trans (hb56.mono hbs))
            have c6 : (w5.alloc (.cells #[.slice a5 e.ad.length c5, .slice d5 e.dl.length cd5, .int .i64 e.lg, .int .i64 e.nx, .int .i64 e.la] 35)).cell? ⟨pg, j, none⟩ = some (.string p) := (hb56.cell (p := ⟨pg, j, none⟩) (Nat.lt_of_lt_of_le hpg hbs)).trans c0
            have HEn := hd (fun w' (h1 : LieT w' a5 e.ad) (h2 : LieI w' d5 e.dl) => implEncEd_wide a5 c5 d5 cd5 e w' h1 HEF.out h2 (by omega) (by omega))
            rw [HDE.out] at HEn
            obtain ⟨y0, y1, y2, y3, y4⟩ := five_cells hE5
            clear hA5 hb5 hb56 hT5 hI5 HX HR HB c0 HDec HBw
            go_upto_region 18 with fail
            generalize w5.alloc (.cells #[.slice a5 e.ad.length c5, .slice d5 e.dl.length cd5, .int .i64 e.lg, .int .i64 e.nx, .int .i64 e.la] 35) = w6 at *
            have HE6 := hd hE5
            clear hE5
            have hpg6 : pg < w6.heap.size := by omega
            have HT6d : Hid (LieT w6.drew a5 e.ad) := HT6.out.lie
            have HI6d : Hid (LieI w6.drew d5 e.dl) := HI6.out.lie
            go_region_held3 (fun w' => w'.cell? ⟨pg, j, none⟩ = some (.string p) ∧ w'.cell? ⟨w5.heap.size, 0, none⟩ = some (.slice a5 e.ad.length c5) ∧ w'.cell? ⟨w5.heap.size, 1, none⟩ = some (.slice d5 e.dl.length cd5) ∧ w'.cell? ⟨w5.heap.size, 2, none⟩ = some (.int .i64 e.lg) ∧ w'.cell? ⟨w5.heap.size, 3, none⟩ = some (.int .i64 e.nx) ∧ w'.cell? ⟨w5.heap.size, 4, none⟩ = some (.int .i64 e.la)) (simp [go_sem, *])
              (first | (go_at_call 10; refine (HEn.out _ HT6d.out HI6d.out).mono ?_; rintro r w7 ⟨rfl, hb7⟩; have hb67 : Below w6.heap.size w6 w7 := ((Below.refl _ w6).drew).trans hb7; have kc := (hb67.cell (p := ⟨pg, _, none⟩) hpg6).trans c6; have k0 := (hb67.cell (p := ⟨w5.heap.size, _, none⟩) hs6).trans y0; have k1 := (hb67.cell (p := ⟨w5.heap.size, _, none⟩) hs6).trans y1; have k2 := (hb67.cell (p := ⟨w5.heap.size, _, none⟩) hs6).trans y2; have k3 := (hb67.cell (p := ⟨w5.heap.size, _, none⟩) hs6).trans y3; have k4 := (hb67.cell (p := ⟨w5.heap.size, _, none⟩) hs6).trans y4; have HB67 := hd hb67; clear hb7 hb67))
            all_goals
              have HX7 := hd ((HB67.out.block w4.heap.size (heap_lt HX6.out)).trans HX6.out)
              have HE7 := hd ((HB67.out.block w5.heap.size hs6).trans HE6.out)
              have HR7 := hd (HR6.out.below HB67.out)
              have HT7 := hd (HT6.out.below HB67.out)
              have HI7 := hd (HI6.out.below HB67.out)
              have HB7 := hd (HB6.out.trans (HB67.out.mono HB6.out.size))
              have hs7 := HB67.out.size
              have HAp := hd (implAp_any t ct ts l.lg l.nx l.la a5 c5 d5 cd5 e w7 HR7.out.lie hgt.fits HT7.out.lie HEF.out HI7.out.lie hgt.wf HEK.out HEW.out (by have := hgt.len; omega) (by omega) (by omega))
              have hL : apL ts e = apS ts e ∧ apI ts e e.lg = e.lg ∧ apI ts e e.nx = e.nx ∧ apI ts e e.la = e.la := by simp [apL, apI, HAP.out]
              obtain ⟨l1, l2, l3, l4⟩ := hL
              rw [l1, l2, l3, l4, HAP.out] at HAp
              have HGn := hd (goodTs_next hgt heo HAP.out)
              obtain ⟨p0, p1, p2, p3⟩ := four_cells HX7.out
              obtain ⟨r0, r1, r2, r3, r4⟩ := five_cells HE7.out
              clear HX6 HE6 HR6 HT6 HI6 HB6 HB67 HT6d HI6d HEn c6 y0 y1 y2 y3 y4 kc k0 k1 k2 k3 k4 l1 l2 l3 l4
              go_wp2_with fail
              refine HAp.out.mono ?_
              rintro r w8 ⟨a8, c8, rfl, hr8, hb8⟩
              have hs8 := hb8.size
              have HX8 := hd ((hb8.block w4.heap.size (heap_lt HX7.out)).trans HX7.out)
              have HR8 := hd (hr8.wideN (B' := w4.heap.size + 1) (by have := heap_lt HX7.out; omega))
              have HB8 := hd (HB7.out.trans (hb8.mono HB7.out.size))
              obtain ⟨⟨s0', s1', s2', s3'⟩, g0, g1, g2, g3⟩ := fourS HX8.out
              have hl8 := heap_lt HX8.out
              have hN8 : (w8.alloc (.cells #[.slice a8 (apS ts e).length c8, .int .i64 e.lg, .int .i64 e.nx, .int .i64 e.la] 26)).heap[w8.heap.size]? = some (.cells #[.slice a8 (apS ts e).length c8, .int .i64 e.lg, .int .i64 e.nx, .int .i64 e.la] 26 (0, 0)) := World.heap_alloc_new _ _
              clear hr8 hb8 HX7 HE7 HR7 HT7 HI7 HB7 HAp p0 p1 p2 p3 r0 r1 r2 r3 r4 hN8
              go_wp2_with fail
            all_goals exact ⟨⟨j + 1, apS ts e, e, a8, c8, by go_num, by omega, HN3, HGn.out, (alloc_old (by simp [World.setCell]; omega)).trans (set4 HX8.out _ _ _ _), ResT.below (ResT.setN (by omega) (ResT.setN (by omega) (ResT.setN (by omega) (ResT.setN (by omega) HR8.out)))) ((Below.refl _ _).alloc (Nat.le_refl _) _), (below4 HB8.out (Nat.le_refl _) _ _ _ _).alloc (by simp [World.setCell]; omega) _⟩, by simp only [intOf]; omega⟩
          · obtain rfl : j = ps.length := by omega
            have hik : ¬ (ps.length : Int) < (ps.length : Int) := by omega
            have hro : RO = some (ts, l) := by rw [HS.out, List.drop_length]; rfl
            obtain ⟨hr1, hr2, hr3, -⟩ := HYes.out _ _ hro
            subst hr1 hr2 hr3
            obtain ⟨p0, p1, p2, p3⟩ := four_cells HX.out
            have HXw := hd ((HB.out.block w1.heap.size (by omega)).trans HX4.out)
            obtain ⟨r0, r1, r2, r3⟩ := four_cells HXw.out
            have HTw := hd (HT4.out.below HB.out).lie
            have HTx := hd HR.out.lie
            have hlw := heap_lt HXw.out
            clear HX HXw HB HR HS hro HYes
            go_wp2_with fail
            refine (HW.out t a1 ct c1 RT _ HTx.out HTw.out (by omega)).mono ?_
            rintro r w5 ⟨rfl, hb5⟩
            have hbw5 := HBw.out.trans (hb5.mono HBw.out.size)
            clear p0 p1 p2 p3 r0 r1 r2 r3 hb5
            go_wp2_with fail
            refine (HP.out _ 0 hbw5 (by omega)).mono ?_
            rintro r w6 ⟨rfl, hb6⟩
            have hbw6 := hbw5.trans (hb6.mono hbw5.size)
            go_wp2_with fail
            refine (HP.out _ 1 hbw6 (by omega)).mono ?_
            rintro r w7 ⟨rfl, hb7⟩
            have hbw7 := hbw6.trans (hb7.mono hbw6.size)
            have hN := HN.out
            have hN1 : (N : Int) ≤ (s.size : Int) := by omega
            go_wp2_with fail
            exact ⟨⟨_, k + 1, rfl, by go_num, by omega, by simp only [ByteArray.size_extract]; omega, hbw7⟩, by simp only [intOf]; omega⟩
    · obtain rfl : k = 2 := by omega
      go_wp2_with fail
      go_ret
      exact ⟨rfl, hbr⟩
end Go.Proofs.YtgpjhlhjdafjlaaGreatDoor
