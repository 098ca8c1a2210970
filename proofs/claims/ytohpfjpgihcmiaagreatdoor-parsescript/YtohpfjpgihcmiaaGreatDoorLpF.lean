import Derived.Test.YtohpfjpgihcmiaaGreatDoorLpE

namespace Go.Proofs.YtohpfjpgihcmiaaGreatDoor
open Go.RowKit Go.Maps
set_option linter.unusedVariables false
set_option linter.unusedSimpArgs false

theorem mks_at (k : Nat) (pre rest : List OpW) (x : OpW) : (mks k (pre ++ x :: rest)).getD pre.length ow0 = mkX x (enK k pre) := by
  induction pre generalizing k with
  | nil => rfl
  | cons y r ih =>
    show (mks (nxK y k) (r ++ x :: rest)).getD r.length ow0 = _
    rw [ih]; rfl
theorem heldE_any (a : Option Addr) (cap n : Nat) (w : World) (x : Int) (k : Nat) (hx : x = k) (hn : n ≤ 300000) (h1 : 1 ≤ k) (h2 : k ≤ 900000000) (hl : LieE w a (mkE k n)) :
    Calls Tryz.prog 43 #[.slice a n cap, .int .i64 x] w fun e w' => e = .returned (.int .i64 ((k + 4 * n : Nat) : Int)) ∧ Below w.heap.size w w' := by
  subst hx
  exact heldEntryS_row a cap n k w hn h1 h2 hl
theorem heldI_any (a : Option Addr) (cap n : Nat) (w : World) (x : Int) (k : Nat) (hx : x = k) (hn : n ≤ 300000) (h2 : k ≤ 1000000000) (hl : LieI w a (mkI k n)) :
    Calls Tryz.prog 44 #[.slice a n cap, .int .i64 x] w fun e w' => e = .returned (.int .i64 ((k + n : Nat) : Int)) ∧ Below w.heap.size w w' := by
  subst hx
  exact heldInts_row a cap n k w hn h2 hl
set_option maxRecDepth 100000 in
set_option maxHeartbeats 8000000 in
theorem heldOpS_row (a : Option Addr) (cap k0 : Nat) (os : List OpW) (w : World) (h : LieO w a (mks k0 os)) (hl : os.length ≤ 2000) (hsm : ∀ x ∈ os, x.o.bt.length ≤ 80000 ∧ x.o.kp.length ≤ 80000) (h01 : 1 ≤ k0) (hk0 : k0 ≤ 1000) :
    Calls Tryz.prog 19 #[.slice a os.length cap, .int .i64 k0] w fun e w' => e = .returned (.int .i64 ((enK k0 os : Nat) : Int)) ∧ Below w.heap.size w w' := by
  go_enter Tryz.func19, Tryz.ntmps19
  go_wp2_with fail
  go_loopw [1, 5] (fun v1 v5 W => ∃ (pre rest : List OpW) (i K : Nat), v5 = .int .i64 (i : Int) ∧ v1 = .int .i64 (K : Int) ∧ Hid (i = pre.length) ∧ Hid (K = enK k0 pre) ∧ Hid (os = pre ++ rest) ∧ Hid (Below w.heap.size w W)) (fun _ v5 _ => os.length - (intOf v5).toNat)
  case atStart => exact ⟨[], os, 0, k0, rfl, rfl, rfl, rfl, rfl, Below.refl _ _⟩
  case round =>
    obtain ⟨pre, rest, i, K, rfl, rfl, HIP, HK, HOS, HB⟩ := hrel
    have hlen : os.length = i + rest.length := by rw [HOS.out, List.length_append, HIP.out]
    cases rest with
    | nil =>
      have hil : ¬ (i : Int) < (os.length : Int) := by rw [hlen]; simp
      clear hlen
      go_wp2_with fail
      go_ret
      have e : os = pre := by have := HOS.out; rwa [List.append_nil] at this
      refine ⟨?_, HB.out⟩
      rw [e, ← HK.out]; rfl
    | cons x rest =>
      have hil : (i : Int) < (os.length : Int) := by rw [hlen]; simp; omega
      have hil2 : i < (mks k0 os).length := by rw [mks_length, hlen]; simp
      have HLEN := hdN hlen
      clear hlen
      have hxm : x.o.bt.length ≤ 80000 ∧ x.o.kp.length ≤ 80000 := hsm x (by rw [HOS.out]; simp)
      have hKb : K ≤ 850000000 ∧ 1 ≤ K := by
        have h1 := enK_le k0 pre (fun y hy => hsm y (by rw [HOS.out]; simp [hy]))
        have h2 : pre.length ≤ 2000 := by rw [← HIP.out]; have := HLEN.out; omega
        rw [HK.out]
        omega
      obtain ⟨hK1, hK2⟩ := hKb
      have hgx : (mks k0 os).getD i ow0 = mkX x K := by rw [HOS.out, HIP.out, mks_at, HK.out]
      obtain ⟨b, off, rfl, hbl, c0, c1, c2, c3, c4, c5⟩ := (h.below HB.out).at hil2
      obtain ⟨⟨c, ccap, hc, hrc⟩, ⟨d, dcap, hd, hrd⟩⟩ := (h.below HB.out).rows _ (getD_memO hil2)
      rw [hgx] at c0 c1 c2 c3 c4 c5 hc hd hrc hrd
      rw [hc] at c4
      rw [hd] at c5
      have e4 : (mkX x K).o.bt.length = x.o.bt.length := mkE_length _ _
      have e5 : (mkX x K).o.kp.length = x.o.kp.length := mkI_length _ _
      rw [e4] at c4
      rw [e5] at c5
      change wr.cell? _ = some (.int .i64 (K : Int)) at c0
      change wr.cell? _ = some (.string (mt (K + 1))) at c1
      change wr.cell? _ = some (.string (mt (K + 2))) at c2
      change wr.cell? _ = some (.int .i64 ((K + 3 : Nat) : Int)) at c3
      have q3 : ((K + 3 : Nat) : Int) = (K : Int) + 1 + 1 + 1 := by omega
      rw [q3] at c3
      change LieE wr c (mkE (K + 4) x.o.bt.length) at hrc
      change LieI wr d (mkI (K + 4 + 4 * x.o.bt.length) x.o.kp.length) at hrd
      have HRC := hdN hrc
      have HRD := hdN hrd
      have HT1 := hdN (markText_int ((K : Int) + 1) (K + 1) (by omega) (by omega) (by omega) wr.drew)
      clear hrc hrd hc hd e4 e5 q3 hgx
      generalize hnb : x.o.bt.length = nb at *
      generalize hnk : x.o.kp.length = nk at *
      have HNB := hdN hnb
      have HNK := hdN hnk
      clear hnb hnk
      go_wp2_with fail
      go_region_law (go_simp; go_at_call 40; refine HT1.out.mono ?_; rintro e w1 ⟨rfl, hb1⟩; have x1 := (hb1.cell (p := ⟨b, off + i * 6 + 1, none⟩) hbl).trans c1; have HB1 := hdN hb1; clear hb1)
      all_goals
        have hbl1 : b < w1.heap.size := Nat.lt_of_lt_of_le hbl HB1.out.size
        have x2 := (HB1.out.cell (p := ⟨b, off + i * 6 + 2, none⟩) hbl).trans c2
        have x3 := (HB1.out.cell (p := ⟨b, off + i * 6 + 3, none⟩) hbl).trans c3
        have x4 := (HB1.out.cell (p := ⟨b, off + i * 6 + 4, none⟩) hbl).trans c4
        have x5 := (HB1.out.cell (p := ⟨b, off + i * 6 + 5, none⟩) hbl).trans c5
        have hbd : Below wr.heap.size wr wr.drew := (Below.refl _ wr).drew
        have HB2 := hdN (hbd.trans (HB1.out.mono hbd.size))
        have HT2 := hdN (markText_int ((K : Int) + 1 + 1) (K + 2) (by omega) (by omega) (by omega) w1.drew)
        clear c0 c1 c2 c3 c4 c5 x1 HB1 hbd
        go_wp2_with fail
        go_region_law (go_simp; go_at_call 40; refine HT2.out.mono ?_; rintro e w2 ⟨rfl, hb2⟩; have y2 := (hb2.cell (p := ⟨b, off + i * 6 + 2, none⟩) hbl1).trans x2; have HB3 := hdN hb2; clear hb2)
        all_goals
          have hbl2 : b < w2.heap.size := Nat.lt_of_lt_of_le hbl1 HB3.out.size
          have y3 := (HB3.out.cell (p := ⟨b, off + i * 6 + 3, none⟩) hbl1).trans x3
          have y4 := (HB3.out.cell (p := ⟨b, off + i * 6 + 4, none⟩) hbl1).trans x4
          have y5 := (HB3.out.cell (p := ⟨b, off + i * 6 + 5, none⟩) hbl1).trans x5
          have hbd : Below w1.heap.size w1 w1.drew := (Below.refl _ w1).drew
          have HB4 := hdN (HB2.out.trans ((hbd.trans (HB3.out.mono hbd.size)).mono HB2.out.size))
          have HE := hdN (heldE_any c ccap nb w2 ((K : Int) + 1 + 1 + 1 + 1) (K + 4) (by omega) (by omega) (by omega) (by omega) (HRC.out.below HB4.out))
          clear x2 x3 x4 x5 y2 HB3 HB2 hbd
          go_wp2_with fail
          refine HE.out.mono ?_
          rintro e w3 ⟨rfl, hb3⟩
          have z5 := (hb3.cell (p := ⟨b, off + i * 6 + 5, none⟩) hbl2).trans y5
          have hbl3 : b < w3.heap.size := Nat.lt_of_lt_of_le hbl2 hb3.size
          have HB5 := hdN (HB4.out.trans (hb3.mono HB4.out.size))
          have n1 : ¬ (((K + 4 + 4 * nb : Nat) : Int) < 0) := by omega
          clear y3 y4 y5 hb3 HB4
          go_wp2_with fail
          refine (heldI_any d dcap nk w3 _ (K + 4 + 4 * nb) (by omega) (by omega) (by omega) (HRD.out.below HB5.out)).mono ?_
          rintro e w4 ⟨rfl, hb4⟩
          have n2 : ¬ (((K + 4 + 4 * nb + nk : Nat) : Int) < 0) := by omega
          have HB6 : Hid (Below w.heap.size w w4) := HB.out.trans ((HB5.out.trans (hb4.mono HB5.out.size)).mono HB.out.size)
          clear z5 hb4
          go_wp2_with fail
          refine ⟨⟨pre ++ [x], rest, i + 1, K + 4 + 4 * nb + nk, by go_num, by congr 1, ?_, ?_, ?_, HB6⟩, ?_⟩
          · show _ = _
            rw [List.length_append, HIP.out]; rfl
          · show _ = _
            rw [enK_snoc, ← HK.out, nxK, HNB.out, HNK.out]
          · show _ = _
            rw [HOS.out]; simp
          · simp only [intOf]
            have := HLEN.out
            simp only [List.length_cons] at this
            omega
end Go.Proofs.YtohpfjpgihcmiaaGreatDoor
