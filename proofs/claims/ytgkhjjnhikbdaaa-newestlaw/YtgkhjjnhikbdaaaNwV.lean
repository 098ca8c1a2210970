import Derived.Test.YtgkhjjnhikbdaaaNwU
import Derived.Deep.DeepCutAuto
import Derived.BigRegion
namespace Go.Proofs.Ytgkhjjnhikbdaaa
open Go.RowKit Go.Maps
set_option linter.unusedVariables false
set_option linter.unusedSimpArgs false

set_option maxRecDepth 100000 in
set_option maxHeartbeats 8000000 in
theorem sink_any (hb g n cap : Nat) (cs : List SD) (hd : Nat → En) (ps : List Nat) (i0 : Nat) (w : World) (hB : FrB w hb g ps.length cap) (hR : RowF w g n cs hd ps) (hn : n ≤ 1048576) (hi : i0 ≤ ps.length) (hH : HpF (ltP hd) ps (i0 + 1)) :
    Calls Try.prog 45 #[.pointer (some ⟨hb, 0, none⟩), .int .i64 i0] w fun e w' => (∃ v, e = .returned v) ∧ ∃ ps', ps'.Perm ps ∧ HpF (ltP hd) ps' i0 ∧ RowF w' g n cs hd ps' ∧ OnlyG g w w' := by
  have HR := hdN hR
  have HB := hdN hB
  have HS := hdN (SnkI.start hH)
  have hle : ps.length ≤ n := by obtain ⟨arr, -, -, h, -⟩ := hR; exact h
  have hne : hb ≠ g := fr_ne hB hR
  have HLs := hdN (ltP_swo hd)
  generalize hm : ps.length = m at *
  have HM := hdN hm
  clear hB hR hH hm
  go_enter Try.func45, Try.ntmps45
  go_wp2_with fail
  go_loopw [1] (fun v1 W => ∃ (i : Nat) (qs : List Nat), v1 = .int .i64 (i : Int) ∧ i ≤ m ∧ Hid (qs.Perm ps) ∧ Hid (qs.length = m) ∧ Hid (SnkI (ltP hd) qs i0 i) ∧ Hid (RowF W g n cs hd qs) ∧ Hid (FrB W hb g m cap) ∧ Hid (OnlyG g w W)) (fun v1 _ => m - (intOf v1).toNat)
  case atStart => exact ⟨i0, ps, rfl, hi, List.Perm.refl _, HM, HS, HR, HB, OnlyG.refl _ _⟩
  case round =>
    clear HS HR HB hi HM
    obtain ⟨i, qs, rfl, hi, HPm, HM, HS, HR, HB, HO⟩ := hrel
    obtain ⟨W0, hW0⟩ : ∃ W0, W0 = wr := ⟨_, rfl⟩
    subst hW0
    go_wp2_with fail
    go_loopw [4, 5] (fun v4 v5 W => ∃ (l c : Nat), v4 = .int .i64 (l : Int) ∧ v5 = .int .i64 (c : Int) ∧ c ≤ 2 * i + 3 ∧ l ≤ 2 * i + 3 ∧ Hid (ChI (ltP hd) qs i c l) ∧ Hid (Below W0.heap.size W0 W)) (fun _ v5 _ => 2 * i + 4 - (intOf v5).toNat)
    case atStart => exact ⟨i, 2 * i + 1, rfl, by first | rfl | go_num, by omega, by omega, ChI.start _ _ _, Below.refl _ _⟩
    case round =>
      obtain ⟨l, c, rfl, rfl, hc3, hl3, HCh, HBe⟩ := hrel
      obtain ⟨z0, z1⟩ := twoN (HB.out.below HBe.out)
      have hbl : hb < wr.heap.size := heap_lt (HB.out.below HBe.out)
      have k1 : IntKind.i64.wrap (2 * (i : Int)) = 2 * (i : Int) := by rw [IntKind.wrap_i64]; omega
      have k2 : IntKind.i64.wrap (2 * (i : Int) + 2) = 2 * (i : Int) + 2 := by rw [IntKind.wrap_i64]; omega
      by_cases hcc : c ≤ 2 * i + 2 ∧ c < m
      · obtain ⟨c1, c2⟩ := hcc
        have c1' : (c : Int) ≤ 2 * (i : Int) + 2 := by omega
        have c1d : decide ((c : Int) ≤ 2 * (i : Int) + 2) = true := by rw [decide_eq_true_iff]; exact c1'
        have c2' : (c : Int) < (m : Int) := by omega
        have c2d : decide ((c : Int) < (m : Int)) = true := by rw [decide_eq_true_iff]; exact c2'
        have hlm : l < m := by
          have h1 := HCh.out.l1
          rw [HM.out] at h1
          have h2 := HCh.out.c1
          omega
        have HBf := hdN (before_any hb g n cap cs hd qs c l wr (by rw [HM.out]; exact HB.out.below HBe.out) (HR.out.block (HBe.out.block g HR.out.lt)) (by rw [HM.out]; exact c2) (by rw [HM.out]; exact hlm) hn)
        cases hlt : ltP hd (qs.getD c 0) (qs.getD l 0) with
        | true =>
          have HN := hdN (HCh.out.take HLs.out c1 (by rw [HM.out]; exact c2) hlt)
          rw [hlt] at HBf
          clear hlt HCh
          go_wp2_with fail
          refine HBf.out.mono ?_
          rintro e w1 ⟨rfl, hb1⟩
          have HB1 := hdN (HBe.out.trans (hb1.mono HBe.out.size))
          clear hb1 HBe HBf z0 z1
          go_wp2_with fail
          exact ⟨⟨c, c + 1, rfl, by first | rfl | go_num, by omega, by omega, HN, HB1⟩, by simp only [intOf]; omega⟩
        | false =>
          have HN := hdN (HCh.out.pass c1 hlt)
          rw [hlt] at HBf
          clear hlt HCh
          go_wp2_with fail
          refine HBf.out.mono ?_
          rintro e w1 ⟨rfl, hb1⟩
          have HB1 := hdN (HBe.out.trans (hb1.mono HBe.out.size))
          clear hb1 HBe HBf z0 z1
          go_wp2_with fail
          exact ⟨⟨l, c + 1, rfl, by first | rfl | go_num, by omega, by omega, HN, HB1⟩, by simp only [intOf]; omega⟩
      · have HNC : Hid (¬ (c ≤ 2 * i + 2 ∧ c < qs.length)) := by rw [HM.out]; exact hcc
        go_upto_region 2 with fail
        go_cut [23] (fun v wx => v = .bool false ∧ wx = wr)
        case first =>
          by_cases c1 : c ≤ 2 * i + 2
          · have c1' : (c : Int) ≤ 2 * (i : Int) + 2 := by omega
            have c1d : decide ((c : Int) ≤ 2 * (i : Int) + 2) = true := by rw [decide_eq_true_iff]; exact c1'
            have c2' : ¬ (c : Int) < (m : Int) := by omega
            have c2d : decide ((c : Int) < (m : Int)) = false := by rw [decide_eq_false_iff_not]; exact c2'
            go_wp2_with fail
            go_meet
            exact ⟨rfl, rfl⟩
          · have c1' : ¬ (c : Int) ≤ 2 * (i : Int) + 2 := by omega
            have c1d : decide ((c : Int) ≤ 2 * (i : Int) + 2) = false := by rw [decide_eq_false_iff_not]; exact c1'
            go_wp2_with fail
            go_meet
            exact ⟨rfl, rfl⟩
        case rest =>
          obtain ⟨rfl, hwc⟩ := hcut
          replace hwc := hwc.symm
          subst hwc
          by_cases hli : l = i
          · subst hli
            have HD := hdN (HS.out.done HLs.out HCh.out HNC.out)
            go_wp2_with fail
            refine bodyPost_ret (results_none rfl _ _ _) rfl ?_
            exact ⟨⟨_, rfl⟩, qs, HPm.out, HD.out, HR.out.block (HBe.out.block g HR.out.lt), HO.out.trans (OnlyG.of HBe.out)⟩
          · obtain ⟨hil, hlm, HN⟩ := HS.out.step HLs.out HCh.out HNC.out hli
            rw [HM.out] at hlm
            have HN' := hdN HN
            have hli' : ¬ (l : Int) = (i : Int) := by omega
            have hli2 : ((l : Int) == (i : Int)) = false := by simp; omega
            have HR1 := hdN (HR.out.block (HBe.out.block g HR.out.lt))
            have hil' : (i : Int) < (m : Int) := by omega
            have hlm' : (l : Int) < (m : Int) := by omega
            obtain ⟨x0, x1, x2, x3, x4, x5⟩ := HR1.out.cells (i := i) (by rw [HM.out]; omega)
            obtain ⟨y0, y1, y2, y3, y4, y5⟩ := HR1.out.cells (i := l) (by rw [HM.out]; exact hlm)
            have hgl := HR1.out.lt
            have fz : ∀ o, wr.frozen? ⟨g, o, none⟩ = false := fun o => by
              obtain ⟨arr, q1, -⟩ := HR1.out
              simp [World.frozen?, q1]
            have HSw := hdN (HR1.out.swap (i := i) (j := l) (by rw [HM.out]; omega) (by rw [HM.out]; exact hlm))
            have HPm' := hdN ((swpP_perm qs (i := i) (j := l) (by rw [HM.out]; omega) (by rw [HM.out]; exact hlm) (fun e => hli e.symm)).trans HPm.out)
            have HM' : Hid ((swpP qs i l).length = m) := by show _ = _; rw [swpP_length]; exact HM.out
            have HB1 := hdN (HB.out.below HBe.out)
            have HO1 := hdN (HO.out.trans (OnlyG.of HBe.out))
            generalize swpP qs i l = qs' at *
            generalize qs.getD i 0 = p at *
            generalize qs.getD l 0 = q at *
            generalize cs.getD p sd0 = f1 at *
            generalize cs.getD q sd0 = f2 at *
            generalize hd p = x at *
            generalize hd q = y at *
            clear HN HS HR HB HO HCh HBe HNC hcc HPm HM
            go_wp2_with fail
            go_region
            have HOs : Hid (OnlyG g wr (putF (putF wr g i y q f2) g l x p f1).drew) := ((putF_only _ _ _ _ _ _).trans (putF_only _ _ _ _ _ _)).trans (OnlyG.of ((Below.refl _ _).drew))
            have HPx : Hid (RowF (putF (putF wr g i y q f2) g l x p f1).drew g n cs hd qs') := HSw.out.block (drew_heap _ _)
            have HBx : Hid (FrB (putF (putF wr g i y q f2) g l x p f1).drew hb g m cap) := HB1.out.only hne HOs.out
            have HOx : Hid (OnlyG g w (putF (putF wr g i y q f2) g l x p f1).drew) := HO1.out.trans HOs.out
            clear x0 x1 x2 x3 x4 x5 y0 y1 y2 y3 y4 y5 fz HSw HB1 HO1 HOs
            unfold putF at HPx HBx HOx
            go_wp2_with fail
            exact ⟨⟨l, qs', by first | rfl | go_num, by omega, HPm', HM', HN', HPx, HBx, HOx⟩, by simp only [intOf]; omega⟩
end Go.Proofs.Ytgkhjjnhikbdaaa
