import Derived.Test.YtphikgobdfknkaaGreatDoorRmY

namespace Go.Proofs.YtphikgobdfknkaaGreatDoor
open Go.RowKit Go.Maps
set_option linter.unusedVariables false
set_option linter.unusedSimpArgs false

set_option maxRecDepth 100000 in
set_option maxHeartbeats 4000000 in
theorem specRm_any (s : ByteArray) (w : World) (hs : s.size ≤ 1048576) :
    Calls Tryz.prog 13 #[.string s] w fun r w' => ∃ a c, r = .returned (.tuple #[.agg #[.slice a (rmT s).length c, .int .i64 (rmE s).lg, .int .i64 (rmE s).nx, .int .i64 (rmE s).la], .int .i64 (rmP s : Nat), .bool (rmO s).isSome]) ∧ ResT w' w.heap.size a (rmT s) ∧ Below w.heap.size w w' := by
  have HNo : Hid (rmO s = none → rmT s = [] ∧ rmE s = ed0 ∧ rmP s = 0 ∧ (rmO s).isSome = false) := rm_none
  have HYes : Hid (∀ ts l, rmO s = some (ts, l) → rmT s = ts ∧ rmE s = l ∧ rmP s = lastN (rlL s 77) ∧ (rmO s).isSome = true) := fun ts l h => rm_some h
  have HO : Hid (rmO s = if (pm s).length = 0 then none else foldM [] ed0 (pm s)) := rfl
  have HSz := hd (pm_size s hs)
  have hpl := pm_len s
  have HPl : Hid ((rlL s 77).length = (pm s).length) := by show _ = _; unfold pm; rw [List.length_map]
  have HLg := hd (specLog_any s 77 ((w.alloc (.cells #[.slice none 0 0, .int .i64 0, .int .i64 0, .int .i64 0] 40))) hs)
  have HPm : Hid ((rlL s 77).map rfB = pm s) := rfl
  rw [HPm.out, HPl.out] at HLg
  clear HPm HPl
  generalize lastN (rlL s 77) = LN at *
  generalize pm s = ps at *
  generalize rmP s = RP at *
  generalize rmT s = RT at *
  generalize rmE s = RE at *
  generalize rmO s = RO at *
  generalize RO.isSome = RB at *
  generalize hW0 : w.alloc (.cells #[.slice none 0 0, .int .i64 0, .int .i64 0, .int .i64 0] 40) = W0 at *
  have hV0 : W0.heap[w.heap.size]? = some (.cells #[.slice none 0 0, .int .i64 0, .int .i64 0, .int .i64 0] 40 (0, 0)) := by rw [← hW0]; exact World.heap_alloc_new _ _
  have hb0 : Below w.heap.size w W0 := by rw [← hW0]; exact (Below.refl _ _).alloc (Nat.le_refl _) _
  have hs0 : W0.heap.size = w.heap.size + 1 := by rw [← hW0]; simp
  go_enter Tryz.func13, Tryz.ntmps13
  go_wp2_with fail
  refine HLg.out.mono ?_
  rintro r w1 ⟨al, cl, rfl, hr1, hb1⟩
  have hs1 := hb1.size
  have HV1 := hd ((hb1.block w.heap.size (by omega)).trans hV0)
  have HB1 := hd (hb0.trans (hb1.mono hb0.size))
  have HR1 := hd hr1.lie
  have hlw1 := heap_lt HV1.out
  clear hb1 hb0 hV0 hr1
  by_cases hn : ps.length = 0
  · have hn' : ((ps.length : Nat) : Int) = 0 := by omega
    have hro : RO = none := by rw [HO.out, if_pos hn]
    obtain ⟨rfl, rfl, rfl, rfl⟩ := HNo.out hro
    obtain ⟨y0, y1, y2, y3⟩ := four_cells HV1.out
    obtain ⟨⟨-, -, -, -⟩, z0, z1, z2, z3⟩ := fourS HV1.out
    go_wp2_with fail
    refine bodyPost_ret (v := .tuple #[.agg #[.slice none 0 0, .int .i64 0, .int .i64 0, .int .i64 0], .int .i64 0, .bool false]) (by simp [results, Tryz.results13, go_sem, y0, y1, y2, y3]) rfl ⟨none, 0, rfl, .inl rfl, ?_⟩
    exact below4 HB1.out (Nat.le_refl _) _ _ _ _
  · have hn' : ¬ ((ps.length : Nat) : Int) = 0 := by omega
    have hnb : (((ps.length : Nat) : Int) == 0) = false := by simpa using hn'
    have HF : Hid (RO = foldM [] ed0 ps) := by show _ = _; rw [HO.out, if_neg hn]
    clear HO
    have hA1 : Below w1.heap.size w1 (w1.alloc (.cells #[.slice none 0 0, .int .i64 0, .int .i64 0, .int .i64 0] 40)) := (Below.refl _ _).alloc (Nat.le_refl _) _
    have hX7 : (w1.alloc (.cells #[.slice none 0 0, .int .i64 0, .int .i64 0, .int .i64 0] 40)).heap[w1.heap.size]? = some (.cells #[.slice none 0 0, .int .i64 0, .int .i64 0, .int .i64 0] 40 (0, 0)) := World.heap_alloc_new _ _
    go_wp2_with fail
    go_loopw [8] (fun y wr => ∃ (k : Nat) (ts : List Tr) (l : Ed) (a : Option Addr) (c : Nat), y = .int .i64 k ∧ k ≤ ps.length ∧ Hid (RO = foldM ts l (ps.drop k)) ∧ GoodTs ts ∧ wr.heap[w1.heap.size]? = some (.cells #[.slice a ts.length c, .int .i64 l.lg, .int .i64 l.nx, .int .i64 l.la] 40 (0, 0)) ∧ ResT wr (w1.heap.size + 1) a ts ∧ Below w1.heap.size w1 wr) (fun y _ => ps.length - (intOf y).toNat)
    case atStart => exact ⟨0, [], ed0, none, 0, rfl, Nat.zero_le _, by show _ = _; rw [List.drop_zero]; exact HF.out, goodTs_nil, hX7, .inl rfl, hA1⟩
    case round =>
      clear hA1 hX7 HF
      obtain ⟨k, ts, l, a, c, rfl, hk, HS, hgt, hX, hR, hb⟩ := hrel
      have hbs := hb.size
      have HVr := hd ((hb.block w.heap.size hlw1).trans HV1.out)
      have HBr := hd (HB1.out.trans (hb.mono HB1.out.size))
      have hlwr := heap_lt HVr.out
      have hlXr := heap_lt hX
      by_cases hlt : k < ps.length
      · obtain ⟨pg, rfl, hpg, cA⟩ := HR1.out.at hlt
        have c0 := (hb.cell (p := ⟨pg, k, none⟩) hpg).trans cA
        have hik : (k : Int) < (ps.length : Int) := by omega
        have hsz := HSz.out _ (getS_mem ps k hlt)
        have HD : Hid (ps.drop k = ps.getD k ByteArray.empty :: ps.drop (k + 1)) := dropS_cons ps k hlt
        rw [HD.out] at HS
        have HDec := hd (specDecEd_any (ps.getD k ByteArray.empty) wr hsz)
        clear HD cA hsz
        generalize ps.getD k ByteArray.empty = p at *
        have HNone : Hid ((decEd p).isSome = false → RO = none) := fun h => HS.out.trans (foldM_none h)
        have HBad : Hid ((decEd p).isSome = true → apOk ts (edR p) = false → RO = none) := fun h1 h2 => HS.out.trans (foldM_bad h1 h2)
        have HStep : Hid ((decEd p).isSome = true → apOk ts (edR p) = true → RO = foldM (apS ts (edR p)) (edR p) (ps.drop (k + 1))) := fun h1 h2 => HS.out.trans (foldM_step h1 h2)
        have HEok : Hid ((decEd p).isSome = true → edOk (edR p) = true) := edR_ok
        generalize edR p = e at *
        generalize (decEd p).isSome = ok at *
        have HX := hd hX
        have HR := hd hR
        have HB := hd hb
        have HG := hd hgt
        clear hX hR hb hgt HS
        go_wp2_with fail
        refine HDec.out.mono ?_
        rintro r w2 ⟨a2, c2, d2, cd2, rfl, hT2, hI2, hb2⟩
        have hs2 := hb2.size
        have HV2 := hd ((hb2.block w.heap.size hlwr).trans HVr.out)
        have HX2 := hd ((hb2.block w1.heap.size hlXr).trans HX.out)
        have HR2 := hd (HR.out.below hb2)
        have HB12 := hd (HB.out.trans (hb2.mono (by omega)))
        have HBw2 := hd (HBr.out.trans (hb2.mono HBr.out.size))
        have HT2 := hd hT2
        have HI2 := hd hI2
        have hA2 : Below w2.heap.size w2 (w2.alloc (.cells #[.slice a2 e.ad.length c2, .slice d2 e.dl.length cd2, .int .i64 e.lg, .int .i64 e.nx, .int .i64 e.la] 68)) := (Below.refl _ _).alloc (Nat.le_refl _) _
        have hX9 : (w2.alloc (.cells #[.slice a2 e.ad.length c2, .slice d2 e.dl.length cd2, .int .i64 e.lg, .int .i64 e.nx, .int .i64 e.la] 68)).heap[w2.heap.size]? = some (.cells #[.slice a2 e.ad.length c2, .slice d2 e.dl.length cd2, .int .i64 e.lg, .int .i64 e.nx, .int .i64 e.la] 68 (0, 0)) := World.heap_alloc_new _ _
        have hs3 : (w2.alloc (.cells #[.slice a2 e.ad.length c2, .slice d2 e.dl.length cd2, .int .i64 e.lg, .int .i64 e.nx, .int .i64 e.la] 68)).heap.size = w2.heap.size + 1 := by simp
        have hlw2 := heap_lt HV2.out
        have hlX2 := heap_lt HX2.out
        have HA2 := hd hA2
        have HX9 := hd hX9
        clear hb2 hT2 hI2 c0 hA2 hX9 HVr HX HR HDec HBr
        cases ok with
        | false =>
          have hro := HNone.out (by trivial)
          obtain ⟨rfl, rfl, rfl, rfl⟩ := HNo.out hro
          obtain ⟨⟨y0, y1, y2, y3⟩, z0, z1, z2, z3⟩ := fourS HV2.out
          go_wp2_with fail
          refine bodyPost_ret (v := .tuple #[.agg #[.slice none 0 0, .int .i64 0, .int .i64 0, .int .i64 0], .int .i64 0, .bool false]) (by simp [results, Tryz.results13, go_sem, y0, y1, y2, y3, hlw2]) rfl ⟨none, 0, rfl, .inl rfl, ?_⟩
          exact (below4 HBw2.out (Nat.le_refl _) _ _ _ _).alloc (by have := HBw2.out.size; simp [World.setCell]; omega) _
        | true =>
          have heo := HEok.out (by trivial)
          obtain ⟨ef, ew, ek, el1, el2⟩ := ed_parts heo
          have HAp := hd (fun w' (h0 : LieT w' a ts) (h1 : LieT w' a2 e.ad) (h2 : LieI w' d2 e.dl) => specAp_any a c ts l.lg l.nx l.la a2 c2 d2 cd2 e w' h0 HG.out.fits h1 ef h2 (by have := HG.out.len; omega) (by omega) (by omega))
          clear HNone HEok
          obtain ⟨p0, p1, p2, p3⟩ := four_cells HX2.out
          go_wp2_with fail
          generalize w2.alloc (.cells #[.slice a2 e.ad.length c2, .slice d2 e.dl.length cd2, .int .i64 e.lg, .int .i64 e.nx, .int .i64 e.la] 68) = w3 at *
          have HV3 := hd ((HA2.out.block w.heap.size hlw2).trans HV2.out)
          have HX3 := hd ((HA2.out.block w1.heap.size hlX2).trans HX2.out)
          have HB13 := hd (HB12.out.trans (HA2.out.mono (by omega)))
          have HBw3 := hd (HBw2.out.trans (HA2.out.mono HBw2.out.size))
          have HAp3 := hd (HAp.out w3 (HR2.out.below HA2.out).lie (HT2.out.below HA2.out).lie (HI2.out.below HA2.out).lie)
          clear HAp p0 p1 p2 p3 HV2 HX2 HB12 HBw2 HT2 HI2 HR2
          have hlw3 := heap_lt HV3.out
          have hlX3 := heap_lt HX3.out
          cases hap : apOk ts e with
          | false =>
            have hro := HBad.out (by trivial) hap
            obtain ⟨rfl, rfl, rfl, rfl⟩ := HNo.out hro
            refine HAp3.out.mono ?_
            rintro r w4 ⟨a4, c4, rfl, hr4, hb4⟩
            have hs4 := hb4.size
            have HBw4 := hd (HBw3.out.trans (hb4.mono HBw3.out.size))
            obtain ⟨⟨y0, y1, y2, y3⟩, z0, z1, z2, z3⟩ := fourS ((hb4.block w.heap.size hlw3).trans HV3.out)
            obtain ⟨⟨p0, p1, p2, p3⟩, f0, f1, f2, f3⟩ := fourS ((hb4.block w1.heap.size hlX3).trans HX3.out)
            have hne : ¬ w.heap.size = w1.heap.size := by omega
            have hne' : ¬ w1.heap.size = w.heap.size := by omega
            clear hr4 hb4 HAp3
            rw [hap]
            go_wp2_with fail
            refine bodyPost_ret (v := .tuple #[.agg #[.slice none 0 0, .int .i64 0, .int .i64 0, .int .i64 0], .int .i64 0, .bool false]) (by simp [results, Tryz.results13, go_sem, y0, y1, y2, y3]) rfl ⟨none, 0, rfl, .inl rfl, ?_⟩
            exact below4 (below4 HBw4.out (by omega) _ _ _ _) (Nat.le_refl _) _ _ _ _
          | true =>
            have hL : apL ts e = apS ts e ∧ apI ts e e.lg = e.lg ∧ apI ts e e.nx = e.nx ∧ apI ts e e.la = e.la := by simp [apL, apI, hap]
            obtain ⟨l1, l2, l3, l4⟩ := hL
            have HN := hd (HStep.out (by trivial) hap)
            have HGn := hd (goodTs_next HG.out heo hap)
            rw [l1, l2, l3, l4, hap] at HAp3
            refine HAp3.out.mono ?_
            rintro r w4 ⟨a4, c4, rfl, hr4, hb4⟩
            have hs4 := hb4.size
            have HB14 := hd (HB13.out.trans (hb4.mono (by omega)))
            have HX4 := hd ((hb4.block w1.heap.size hlX3).trans HX3.out)
            have HR4 := hd (hr4.wideN (B' := w1.heap.size + 1) (by omega))
            obtain ⟨⟨p0, p1, p2, p3⟩, f0, f1, f2, f3⟩ := fourS HX4.out
            clear hr4 hb4 HAp3
            go_wp2_with fail
            refine ⟨⟨k + 1, apS ts e, e, a4, c4, by simp, by omega, HN, HGn.out, set4 HX4.out _ _ _ _, ?_, below4 HB14.out (Nat.le_refl _) _ _ _ _⟩, by simp only [intOf]; omega⟩
            repeat refine ResT.setN (by omega) ?_
            exact HR4.out
      · obtain rfl : k = ps.length := by omega
        have hik : ¬ (ps.length : Int) < (ps.length : Int) := by omega
        have hro : RO = some (ts, l) := by rw [HS.out, List.drop_length]; rfl
        obtain ⟨rfl, rfl, rfl, rfl⟩ := HYes.out _ _ hro
        obtain ⟨⟨p0, p1, p2, p3⟩, -, -, -, -⟩ := fourS hX
        obtain ⟨⟨y0, y1, y2, y3⟩, z0, z1, z2, z3⟩ := fourS HVr.out
        have HR := hd hR
        clear hX hR hb
        go_wp2_with fail
        refine bodyPost_ret (v := .tuple #[.agg #[.slice a RT.length c, .int .i64 RE.lg, .int .i64 RE.nx, .int .i64 RE.la], .int .i64 (RP : Nat), .bool true]) (by simp [results, Tryz.results13, go_sem, y0, y1, y2, y3]) rfl ?_
        have hfin : ResT ((((wr.setCell ⟨w.heap.size, 0, none⟩ (.slice a RT.length c)).setCell ⟨w.heap.size, 1, none⟩ (.int .i64 RE.lg)).setCell ⟨w.heap.size, 2, none⟩ (.int .i64 RE.nx)).setCell ⟨w.heap.size, 3, none⟩ (.int .i64 RE.la)) w.heap.size a RT := by
          refine ResT.wideN (B := w1.heap.size + 1) ?_ (by omega)
          repeat refine ResT.setN (by omega) ?_
          exact HR.out
        first
          | exact ⟨a, c, rfl, hfin, below4 HBr.out (Nat.le_refl _) _ _ _ _⟩
          | exact ⟨a, ⟨c, rfl⟩, hfin, below4 HBr.out (Nat.le_refl _) _ _ _ _⟩
end Go.Proofs.YtphikgobdfknkaaGreatDoor
