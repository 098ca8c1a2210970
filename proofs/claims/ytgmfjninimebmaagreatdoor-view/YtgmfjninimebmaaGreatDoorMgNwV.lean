import Derived.Test.YtgmfjninimebmaaGreatDoorMgNwT
import Derived.Deep.DeepCutAuto
import Derived.BigRegion
namespace Go.Proofs.YtgmfjninimebmaaGreatDoor
open Go.RowKit Go.Maps
set_option linter.unusedVariables false
set_option linter.unusedSimpArgs false

set_option maxRecDepth 100000 in
set_option maxHeartbeats 8000000 in
theorem sink_any (hb g n cap : Nat) (cs : List SD) (hd : Nat → En) (ps : List Nat) (i0 : Nat) (w : World) (hB : FrB w hb g ps.length cap) (hR : RowF w g n cs hd ps) (hn : n ≤ 1048576) (hi : i0 ≤ ps.length) (hH : HpF (ltP hd) ps (i0 + 1)) :
    Calls Tryz.prog 155 #[.pointer (some ⟨hb, 0, none⟩), .int .i64 i0] w fun e w' => (∃ v, e = .returned v) ∧ ∃ ps', ps'.Perm ps ∧ HpF (ltP hd) ps' i0 ∧ RowF w' g n cs hd ps' ∧ OnlyG g w w' := by
  have HR := hdN hR
  have HB := hdN hB
  have HS := hdN (SnkI.start hH)
  have hle : ps.length ≤ n := by obtain ⟨arr, -, -, h, -⟩ := hR; exact h
  have hne : hb ≠ g := fr_ne hB hR
  have HLs := hdN (ltP_swo hd)
  generalize hm : ps.length = m at *
  have HM := hdN hm
  clear hB hR hH hm
  go_enter Tryz.func155, Tryz.ntmps155
  go_wp2_with fail
  go_loopw [1] (fun v1 W => ∃ (i : Nat) (qs : List Nat), v1 = .int .i64 (i : Int) ∧ i ≤ m ∧ Hid (qs.Perm ps) ∧ Hid (qs.length = m) ∧ Hid (SnkI (ltP hd) qs i0 i) ∧ Hid (RowF W g n cs hd qs) ∧ Hid (FrB W hb g m cap) ∧ Hid (OnlyG g w W)) (fun v1 _ => m - (intOf v1).toNat)
  case atStart => exact ⟨i0, ps, rfl, hi, List.Perm.refl _, HM, HS, HR, HB, OnlyG.refl _ _⟩
  case round =>
    clear HS HR HB hi HM
    obtain ⟨i, qs, rfl, hi, HPm, HM, HS, HR, HB, HO⟩ := hrel
    obtain ⟨W0, hW0⟩ : ∃ W0, W0 = wr := ⟨_, rfl⟩
    subst hW0
    go_wp2_with fail
    go_loopw [4, 5] (fun v4 v5 W => ∃ (l c : Nat), v4 = .int .i64 (l : Int) ∧ v5 = .int .i64 (c : Int) ∧ c ≤ 2 * i + 3 ∧ l ≤ 2 * i + 3 ∧ Hid (ChI (ltP hd) qs i c l) ∧ Hid (Below W0.heap.size W0 W)) (fun _ v5 _ => 2 * i + 4 - (intOf v5).toNat)
    case atStart => exact ⟨i, 2 * i + 1, rfl, by first | rfl | go_num, by omega, by omega, ChI.start _ _ _, Below.refl _ _⟩
    case round =>
      obtain ⟨l, c, rfl, rfl, hc3, hl3, HCh, HBe⟩ := hrel
      obtain ⟨z0, z1⟩ := twoN (HB.out.below HBe.out)
      have hbl : hb < wr.heap.size := heap_lt (HB.out.below HBe.out)
      have k1 : IntKind.i64.wrap (2 * (i : Int)) = 2 * (i : Int) := by rw [IntKind.wrap_i64]; omega
      have k2 : IntKind.i64.wrap (2 * (i : Int) + 2) = 2 * (i : Int) + 2 := by rw [IntKind.wrap_i64]; omega
      by_cases hcc : c ≤ 2 * i + 2 ∧ c < m
      · obtain ⟨c1, c2⟩ := hcc
        have c1' : (c : Int) ≤ 2 * (i : Int) + 2 := by omega
        have c1d : decide ((c : Int) ≤ 2 * (i : Int) + 2) = true := by rw [decide_eq_true_iff]; exact c1'
        have c2' : (c : Int) < (m : Int) := by omega
        have c2d : decide ((c : Int) < (m : Int)) = true := by rw [decide_eq_true_iff]; exact c2'
        have hlm : l < m := by
          have h1 := HCh.out.l1
          rw [HM.out] at h1
          have h2 := HCh.out.c1
          omega
        have HBf := hdN (before_any hb g n cap cs hd qs c l wr (by rw [HM.out]; exact HB.out.below HBe.out) (HR.out.block (HBe.out.block g HR.out.lt)) (by rw [HM.out]; exact c2) (by rw [HM.out]; exact hlm) hn)
        cases hlt : ltP hd (qs.getD c 0) (qs.getD l 0) with
        | true =>
          have HN := hdN (HCh.out.take HLs.out c1 (by rw [HM.out]; exact c2) hlt)
          rw [hlt] at HBf
          clear hlt HCh
          go_wp2_with fail
          refine HBf.out.mono ?_
          rintro e w1 ⟨rfl, hb1⟩
          have HB1 := hdN (HBe.out.trans (hb1.mono HBe.out.size))
          clear hb1 HBe HBf z0 z1
          go_wp2_with fail
          exact ⟨⟨c, c + 1, rfl, by first | rfl | go_num, by omega, by omega, HN, HB1⟩, by simp only [intOf]; omega⟩
        | false =>
          have HN := hdN (HCh.out.pass c1 hlt)
          rw [hlt] at HBf
          clear hlt HCh
          go_wp2_with fail
          refine HBf.out.mono ?_
          rintro e w1 ⟨rfl, hb1⟩
          have HB1 := hdN (HBe.out.trans (hb1.mono HBe.out.size))
          clear hb1 HBe HBf z0 z1
          go_wp2_with fail
          exact ⟨⟨l, c + 1, rfl, by first | rfl | go_num, by omega, by omega, HN, HB1⟩, by simp only [intOf]; omega⟩
      · have HNC : Hid (¬ (c ≤ 2 * i + 2 ∧ c < qs.length)) := by rw [HM.out]; exact hcc
        go_upto_region 2 with fail
        go_cut [23] (fun v wx => v = .bool false ∧ wx = wr)
        case first =>
          by_cases c1 : c ≤ 2 * i + 2
          · have c1' : (c : Int) ≤ 2 * (i : Int) + 2 := by omega
            have c1d : decide ((c : Int) ≤ 2 * (i : Int) + 2) = true := by rw [decide_eq_true_iff]; exact c1'
            have c2' : ¬ (c : Int) < (m : Int) := by omega
            have c2d : decide ((c : Int) < (m : Int)) = false := by rw [decide_eq_false_iff_not]; exact c2'
            go_wp2_with fail
            go_meet
            exact ⟨rfl, rfl⟩
          · have c1' : ¬ (c : Int) ≤ 2 * (i : Int) + 2 := by omega
            have c1d : decide ((c : Int) ≤ 2 * (i : Int) + 2) = false := by rw [decide_eq_false_iff_not]; exact c1'
            go_wp2_with fail
            go_meet
            exact ⟨rfl, rfl⟩
        case rest =>
          obtain ⟨rfl, hwc⟩ := hcut
          replace hwc := hwc.symm
          subst hwc
          by_cases hli : l = i
          · subst hli
            have HD := hdN (HS.out.done HLs.out HCh.out HNC.out)
            go_wp2_with fail
            refine bodyPost_ret (results_none rfl _ _ _) rfl ?_
            exact ⟨⟨_, rfl⟩, qs, HPm.out, HD.out, HR.out.block (HBe.out.block g HR.out.lt), HO.out.trans (OnlyG.of HBe.out)⟩
          · obtain ⟨hil, hlm, HN⟩ := HS.out.step HLs.out HCh.out HNC.out hli
            rw [HM.out] at hlm
            have HN' := hdN HN
            have hli' : ¬ (l : Int) = (i : Int) := by omega
            have hli2 : ((l : Int) == (i : Int)) = false := by simp; omega
            have HR1 := hdN (HR.out.block (HBe.out.block g HR.out.lt))
            have hil' : (i : Int) < (m : Int) := by omega
            have hlm' : (l : Int) < (m : Int) := by omega
            obtain ⟨x0, x1, x2, x3, x4, x5⟩ := HR1.out.cells (i := i) (by rw [HM.out]; omega)
            obtain ⟨y0, y1, y2, y3, y4, y5⟩ := HR1.out.cells (i := l) (by rw [HM.out]; exact hlm)
            have hgl := HR1.out.lt
            have fz : ∀ o, wr.frozen? ⟨g, o, none⟩ = false := fun o => by
              obtain ⟨arr, q1, -⟩ := HR1.out
              simp [World.frozen?, q1]
            have HSw := hdN (HR1.out.swap (i := i) (j := l) (by rw [HM.out]; omega) (by rw [HM.out]; exact hlm))
            have HPm' := hdN ((swpP_perm qs (i := i) (j := l) (by rw [HM.out]; omega) (by rw [HM.out]; exact hlm) (fun e => hli e.symm)).trans HPm.out)
            have HM' : Hid ((swpP qs i l).length = m) := by show _ = _; rw [swpP_length]; exact HM.out
            have HB1 := hdN (HB.out.below HBe.out)
            have HO1 := hdN (HO.out.trans (OnlyG.of HBe.out))
            generalize swpP qs i l = qs' at *
            generalize qs.getD i 0 = p at *
            generalize qs.getD l 0 = q at *
            generalize cs.getD p sd0 = f1 at *
            generalize cs.getD q sd0 = f2 at *
            generalize hd p = x at *
            generalize hd q = y at *
            clear HN HS HR HB HO HCh HBe HNC hcc HPm HM
            go_wp2_with fail
            go_region
            have HOs : Hid (OnlyG g wr (putF (putF wr g i y q f2) g l x p f1).drew) := ((putF_only _ _ _ _ _ _).trans (putF_only _ _ _ _ _ _)).trans (OnlyG.of ((Below.refl _ _).drew))
            have HPx : Hid (RowF (putF (putF wr g i y q f2) g l x p f1).drew g n cs hd qs') := HSw.out.block (drew_heap _ _)
            have HBx : Hid (FrB (putF (putF wr g i y q f2) g l x p f1).drew hb g m cap) := HB1.out.only hne HOs.out
            have HOx : Hid (OnlyG g w (putF (putF wr g i y q f2) g l x p f1).drew) := HO1.out.trans HOs.out
            clear x0 x1 x2 x3 x4 x5 y0 y1 y2 y3 y4 y5 fz HSw HB1 HO1 HOs
            unfold putF at HPx HBx HOx
            go_wp2_with fail
            exact ⟨⟨l, qs', by first | rfl | go_num, by omega, HPm', HM', HN', HPx, HBx, HOx⟩, by simp only [intOf]; omega⟩
end Go.Proofs.YtgmfjninimebmaaGreatDoor
namespace Go.Proofs.YtgmfjninimebmaaGreatDoor
open Go.RowKit Go.Maps
set_option linter.unusedVariables false
set_option linter.unusedSimpArgs false

/-- The entry that a source has in front. -/
def hdRE (rem : List (List En)) (p : Nat) : En := (rem.getD p []).headD en0
/-- What is left of each source, and the places that stand in the heap. -/
structure MgP (rem : List (List En)) (ps : List Nat) : Prop where
  nd : ps.Nodup
  mem : ∀ p, p ∈ ps ↔ p < rem.length ∧ rem.getD p [] ≠ []
  st : ∀ p, Srtd befE (rem.getD p [])
theorem getD_setL (rem : List (List En)) (i j : Nat) (x : List En) (hi : i < rem.length) : (rem.set i x).getD j [] = if j = i then x else rem.getD j [] := by
  rw [List.getD_eq_getElem?_getD, List.getElem?_set, List.getD_eq_getElem?_getD]
  by_cases h : i = j
  · subst h; simp [hi]
  · rw [if_neg h, if_neg (fun e => h e.symm)]
theorem hdR_set {rem : List (List En)} {p q : Nat} (x : List En) (hp : p < rem.length) (hq : q ≠ p) : hdRE (rem.set p x) q = hdRE rem q := by
  unfold hdRE; rw [getD_setL rem p q x hp, if_neg hq]
theorem get0_mem {ps : List Nat} (h : ps ≠ []) : ps.getD 0 0 ∈ ps := by
  cases ps with
  | nil => exact absurd rfl h
  | cons p r => simp
theorem mem_get0 {ps : List Nat} {p : Nat} (h : p ∈ ps) : ∃ i, i < ps.length ∧ ps.getD i 0 = p := by
  obtain ⟨i, hi, rfl⟩ := List.mem_iff_getElem.1 h
  exact ⟨i, hi, by simp [List.getD, hi]⟩
theorem flat_at (rem : List (List En)) (p : Nat) (hp : p < rem.length) (x : List En) : (rem.set p x).flatten = (rem.take p).flatten ++ x ++ (rem.drop (p + 1)).flatten := by
  rw [List.set_eq_take_append_cons_drop, if_pos hp]
  simp
theorem mem_take {rem : List (List En)} {p : Nat} {y : En} (h : y ∈ (rem.take p).flatten) : ∃ q, q < p ∧ q < rem.length ∧ y ∈ rem.getD q [] := by
  obtain ⟨r, hr, hy⟩ := List.mem_flatten.1 h
  obtain ⟨q, hq, rfl⟩ := List.mem_iff_getElem.1 hr
  rw [List.length_take] at hq
  refine ⟨q, by omega, by omega, ?_⟩
  rw [List.getElem_take] at hy
  have e : rem.getD q [] = rem[q]'(by omega) := by simp [List.getD, show q < rem.length by omega]
  rw [e]; exact hy
theorem mem_dropL {rem : List (List En)} {p : Nat} {y : En} (h : y ∈ (rem.drop (p + 1)).flatten) : ∃ q, p < q ∧ q < rem.length ∧ y ∈ rem.getD q [] := by
  obtain ⟨r, hr, hy⟩ := List.mem_flatten.1 h
  obtain ⟨q, hq, rfl⟩ := List.mem_iff_getElem.1 hr
  rw [List.length_drop] at hq
  refine ⟨p + 1 + q, by omega, by omega, ?_⟩
  rw [List.getElem_drop] at hy
  have e : rem.getD (p + 1 + q) [] = rem[p + 1 + q]'(by omega) := by simp [List.getD, show p + 1 + q < rem.length by omega]
  rw [e]; exact hy
theorem head_le {r : List En} (h : Srtd befE r) {y : En} (hy : y ∈ r) : befE y (r.headD en0) = false := by
  cases r with
  | nil => simp at hy
  | cons x t =>
    rcases List.mem_cons.1 hy with rfl | hy
    · exact befE_swo.irr _
    · exact (List.pairwise_cons.1 h).1 y hy
theorem srt_min {P Q : List En} {e : En} (h1 : ∀ y ∈ P, befE e y = true) (h2 : ∀ y ∈ Q, befE y e = false) : srt befE (P ++ e :: Q) = e :: srt befE (P ++ Q) := by
  obtain ⟨s1, s2⟩ := srt_ok befE_swo (P ++ Q)
  refine (srt_of befE_swo (List.pairwise_cons.2 ⟨fun y hy => ?_, s1⟩) ?_).symm
  · rcases List.mem_append.1 (s2.symm.mem befE_swo hy) with h | h
    · exact befE_swo.asy (h1 y h)
    · exact h2 y h
  · have k1 : Sm befE (P ++ [e]) ([e] ++ P) := Sm.blocks befE_swo (fun x hx y hy => by
      have : y = e := by simpa using hy
      subst this; exact h1 x hx)
    have k2 : Sm befE (P ++ [e] ++ Q) ([e] ++ P ++ Q) := Sm.app k1 (Sm.refl Q)
    have k3 : Sm befE (P ++ e :: Q) (e :: (P ++ Q)) := by simpa using k2
    exact k3.trans (s2.cons e)
/-- The first of the heap is the first in order. -/
theorem mg_take {rem : List (List En)} {ps : List Nat} (h : MgP rem ps) (hH : HpF (ltP (hdRE rem)) ps 0) (hne : ps ≠ []) :
    srt befE rem.flatten = hdRE rem (ps.getD 0 0) :: srt befE (rem.set (ps.getD 0 0) (rem.getD (ps.getD 0 0) []).tail).flatten := by
  have hmin := hH.min (ltP_swo _)
  obtain ⟨hp, hpn⟩ := (h.mem _).1 (get0_mem hne)
  generalize ps.getD 0 0 = p at *
  have hlt : ∀ q, q < rem.length → rem.getD q [] ≠ [] → ltP (hdRE rem) q p = false := fun q hq hqn => by
    obtain ⟨i, hi, e⟩ := mem_get0 ((h.mem q).2 ⟨hq, hqn⟩)
    have := hmin i hi
    rw [e] at this
    exact this
  have hr : rem.getD p [] = hdRE rem p :: (rem.getD p []).tail := by
    unfold hdRE
    cases hx : rem.getD p [] with
    | nil => exact absurd hx hpn
    | cons x t => simp
  have hsp := h.st p
  have e0 : rem.set p (rem.getD p []) = rem := by
    have : rem.getD p [] = rem[p] := by simp [List.getD, hp]
    rw [this]; exact List.set_getElem_self hp
  have e1 := flat_at rem p hp (rem.getD p [])
  rw [e0, hr] at e1
  rw [e1, flat_at rem p hp]
  have e2 : (rem.take p).flatten ++ (hdRE rem p :: (rem.getD p []).tail) ++ (rem.drop (p + 1)).flatten = (rem.take p).flatten ++ hdRE rem p :: ((rem.getD p []).tail ++ (rem.drop (p + 1)).flatten) := by simp
  have e3 : (rem.take p).flatten ++ (rem.getD p []).tail ++ (rem.drop (p + 1)).flatten = (rem.take p).flatten ++ ((rem.getD p []).tail ++ (rem.drop (p + 1)).flatten) := by simp
  rw [e2, e3]
  refine srt_min (fun y hy => ?_) (fun y hy => ?_)
  · obtain ⟨q, hqp, hql, hyq⟩ := mem_take hy
    have hqn : rem.getD q [] ≠ [] := fun e => by rw [e] at hyq; simp at hyq
    have := hlt q hql hqn
    simp only [ltP, ltF, Bool.or_eq_false_iff, Bool.and_eq_false_iff, Bool.not_eq_false', decide_eq_false_iff_not] at this
    obtain ⟨f1, f2⟩ := this
    rcases f2 with f2 | f2
    · exact lt_of_lt_le f2 (head_le (h.st q) hyq)
    · omega
  · rcases List.mem_append.1 hy with hy | hy
    · rw [hr] at hsp
      exact (List.pairwise_cons.1 hsp).1 y hy
    · obtain ⟨q, hqp, hql, hyq⟩ := mem_dropL hy
      have hqn : rem.getD q [] ≠ [] := fun e => by rw [e] at hyq; simp at hyq
      have := hlt q hql hqn
      simp only [ltP, ltF, Bool.or_eq_false_iff] at this
      exact befE_swo.neg _ _ _ (head_le (h.st q) hyq) this.1
theorem mg_nil {rem : List (List En)} (h : MgP rem []) : rem.flatten = [] := by
  rw [List.flatten_eq_nil_iff]
  intro r hr
  obtain ⟨q, hq, rfl⟩ := List.mem_iff_getElem.1 hr
  have e : rem.getD q [] = rem[q] := by simp [List.getD, hq]
  rcases Decidable.em (rem[q] = []) with h0 | h0
  · exact h0
  · have := (h.mem q).2 ⟨hq, by rw [e]; exact h0⟩
    simp at this
theorem mg_perm {rem : List (List En)} {ps qs : List Nat} (h : MgP rem ps) (hp : qs.Perm ps) : MgP rem qs :=
  ⟨hp.nodup_iff.2 h.nd, fun p => hp.mem_iff.trans (h.mem p), h.st⟩
theorem nd_get {ps : List Nat} (h : ps.Nodup) {c : Nat} (h1 : 0 < c) (h2 : c < ps.length) : ps.getD c 0 ≠ ps.getD 0 0 := by
  have e1 : ps.getD c 0 = ps[c] := by simp [List.getD, h2]
  have e2 : ps.getD 0 0 = ps[0]'(by omega) := by simp [List.getD, show 0 < ps.length by omega]
  rw [e1, e2]
  exact fun e => List.pairwise_iff_getElem.1 h 0 c (by omega) h2 h1 e.symm
theorem ltP_set {rem : List (List En)} {p q r : Nat} (x : List En) (hp : p < rem.length) (hq : q ≠ p) (hr : r ≠ p) : ltP (hdRE (rem.set p x)) q r = ltP (hdRE rem) q r := by
  unfold ltP; rw [hdR_set x hp hq, hdR_set x hp hr]
theorem srtd_tail {r : List En} (h : Srtd befE r) : Srtd befE r.tail := by
  cases r with
  | nil => exact h
  | cons x t => exact (List.pairwise_cons.1 h).2
/-- The first front goes on to its source's next entry. -/
theorem mg_some {rem : List (List En)} {ps : List Nat} (h : MgP rem ps) (hH : HpF (ltP (hdRE rem)) ps 0) (hne : ps ≠ []) (ht : (rem.getD (ps.getD 0 0) []).tail ≠ []) :
    MgP (rem.set (ps.getD 0 0) (rem.getD (ps.getD 0 0) []).tail) ps ∧ HpF (ltP (hdRE (rem.set (ps.getD 0 0) (rem.getD (ps.getD 0 0) []).tail))) ps 1 := by
  obtain ⟨hp, hpn⟩ := (h.mem _).1 (get0_mem hne)
  refine ⟨⟨h.nd, fun q => ?_, fun q => ?_⟩, fun c h1 h2 h3 => ?_⟩
  · rw [List.length_set, getD_setL _ _ _ _ hp, h.mem q]
    by_cases hq : q = ps.getD 0 0
    · rw [if_pos hq, hq]; exact ⟨fun _ => ⟨hp, ht⟩, fun _ => ⟨hp, hpn⟩⟩
    · rw [if_neg hq]
  · rw [getD_setL _ _ _ _ hp]
    by_cases hq : q = ps.getD 0 0
    · rw [if_pos hq]; exact srtd_tail (h.st _)
    · rw [if_neg hq]; exact h.st q
  · rw [ltP_set _ hp (nd_get h.nd h1 h2) (nd_get h.nd (by omega) (by omega))]
    exact hH c h1 h2 (Nat.zero_le _)
def dropP (ps : List Nat) : List Nat := (ps.set 0 (ps.getD (ps.length - 1) 0)).take (ps.length - 1)
theorem dropP_length (ps : List Nat) : (dropP ps).length = ps.length - 1 := by unfold dropP; rw [List.length_take, List.length_set]; omega
theorem dropP_get (ps : List Nat) {c : Nat} (h0 : 0 < c) (h : c < ps.length - 1) : (dropP ps).getD c 0 = ps.getD c 0 := by
  unfold dropP
  rw [List.getD_eq_getElem?_getD, List.getElem?_take_of_lt h, ← List.getD_eq_getElem?_getD, getD_setN _ _ _ _ (by omega), if_neg (by omega)]
theorem dropP_eq (p : Nat) (mid : List Nat) (l : Nat) : dropP (p :: (mid ++ [l])) = l :: mid := by
  unfold dropP
  have e1 : (p :: (mid ++ [l])).length - 1 = mid.length + 1 := by simp
  rw [e1]
  have e2 : (p :: (mid ++ [l])).getD (mid.length + 1) 0 = l := by simp [List.getD]
  rw [e2]
  simp
theorem mg_none {rem : List (List En)} {ps : List Nat} (h : MgP rem ps) (hH : HpF (ltP (hdRE rem)) ps 0) (hne : ps ≠ []) (ht : (rem.getD (ps.getD 0 0) []).tail = []) :
    MgP (rem.set (ps.getD 0 0) (rem.getD (ps.getD 0 0) []).tail) (dropP ps) ∧ HpF (ltP (hdRE (rem.set (ps.getD 0 0) (rem.getD (ps.getD 0 0) []).tail))) (dropP ps) 1 := by
  obtain ⟨hp, hpn⟩ := (h.mem _).1 (get0_mem hne)
  have hmem : (dropP ps).Nodup ∧ ∀ q, q ∈ dropP ps ↔ q ∈ ps ∧ q ≠ ps.getD 0 0 := by
    match ps, hne, h with
    | p :: r, _, h =>
      rcases List.eq_nil_or_concat r with rfl | ⟨mid, l, rfl⟩
      · refine ⟨by simp [dropP], fun q => ?_⟩
        simp [dropP]
      · have e : p :: mid.concat l = p :: (mid ++ [l]) := by simp
        have hnd := h.nd
        rw [e] at hnd ⊢
        rw [dropP_eq]
        have hperm : (l :: mid).Perm (mid ++ [l]) := (List.perm_append_singleton l mid).symm
        obtain ⟨n1, n2⟩ := List.nodup_cons.1 hnd
        refine ⟨hperm.nodup_iff.2 n2, fun q => ?_⟩
        rw [hperm.mem_iff]
        have e2 : (p :: (mid ++ [l])).getD 0 0 = p := by simp
        rw [e2]
        constructor
        · intro hq; exact ⟨List.mem_cons_of_mem _ hq, fun e => n1 (e ▸ hq)⟩
        · rintro ⟨hq, hne⟩
          rcases List.mem_cons.1 hq with hq | hq
          · exact absurd hq hne
          · exact hq
  refine ⟨⟨hmem.1, fun q => ?_, fun q => ?_⟩, fun c h1 h2 h3 => ?_⟩
  · rw [hmem.2 q, List.length_set, getD_setL _ _ _ _ hp, h.mem q]
    by_cases hq : q = ps.getD 0 0
    · rw [if_pos hq, ht]; exact ⟨fun ⟨_, h2⟩ => absurd hq h2, fun ⟨_, h2⟩ => absurd rfl h2⟩
    · rw [if_neg hq]; exact ⟨fun ⟨h1, _⟩ => h1, fun h1 => ⟨h1, hq⟩⟩
  · rw [getD_setL _ _ _ _ hp]
    by_cases hq : q = ps.getD 0 0
    · rw [if_pos hq]; exact srtd_tail (h.st _)
    · rw [if_neg hq]; exact h.st q
  · rw [dropP_length] at h2
    rw [dropP_get ps h1 h2, dropP_get ps (by omega) (by omega), ltP_set _ hp (nd_get h.nd h1 (by omega)) (nd_get h.nd (by omega) (by omega))]
    exact hH c h1 (by omega) (Nat.zero_le _)
end Go.Proofs.YtgmfjninimebmaaGreatDoor
namespace Go.Proofs.YtgmfjninimebmaaGreatDoor
open Go.RowKit Go.Maps
set_option linter.unusedVariables false
set_option linter.unusedSimpArgs false

/-- The cells of fronts. -/
def cellF (cs : List SD) (hd : Nat → En) (p : Nat) : List Value := [.string (hd p).ky, .int .i64 (hd p).sq, .int .i64 (hd p).kd, .string (hd p).vl, .int .i64 (p : Int), (cs.getD p sd0).fn]
def cellsF (cs : List SD) (hd : Nat → En) (ps : List Nat) : List Value := ps.flatMap (cellF cs hd)
theorem cellsF_snoc (cs : List SD) (hd : Nat → En) (ps : List Nat) (p : Nat) : cellsF cs hd (ps ++ [p]) = cellsF cs hd ps ++ cellF cs hd p := by simp [cellsF]
theorem cellsF_len (cs : List SD) (hd : Nat → En) (ps : List Nat) : (cellsF cs hd ps).length = ps.length * 6 := by
  induction ps with
  | nil => rfl
  | cons x r ih => simp [cellsF, cellF] at *; omega
theorem cellsF_at (cs : List SD) (hd : Nat → En) (ps : List Nat) (i : Nat) (hi : i < ps.length) : ∀ k, k < 6 → (cellsF cs hd ps)[i * 6 + k]? = (cellF cs hd (ps.getD i 0))[k]? := by
  induction ps generalizing i with
  | nil => simp at hi
  | cons x r ih =>
    intro k hk
    have e : cellsF cs hd (x :: r) = cellF cs hd x ++ cellsF cs hd r := rfl
    have l6 : (cellF cs hd x).length = 6 := rfl
    cases i with
    | zero => rw [e, Nat.zero_mul, Nat.zero_add, List.getElem?_append_left (by rw [l6]; exact hk)]; rfl
    | succ i =>
      have h := ih i (by simpa using hi) k hk
      have g : (x :: r).getD (i + 1) 0 = r.getD i 0 := rfl
      rw [g, ← h, e, List.getElem?_append_right (by rw [l6]; omega), l6]
      congr 1
      omega
theorem rowF_of_owns {w : World} {B n : Nat} {v : Value} {cs : List SD} {hd : Nat → En} {ps : List Nat} (h : w.ownsRow B 186 6 v n (cellsF cs hd ps)) :
    n = ps.length ∧ ∃ a cap, v = .slice a ps.length cap ∧ ps.length ≤ cap ∧ (ps = [] ∨ ∃ g, a = some ⟨g, 0, none⟩ ∧ B ≤ g ∧ RowF w g ps.length cs hd ps) := by
  obtain ⟨h1, h2⟩ := h
  have hn : n = ps.length := by rw [cellsF_len] at h1; omega
  refine ⟨hn, ?_⟩
  subst hn
  rcases h2 with ⟨rfl, h0⟩ | ⟨g, cap, cur, rfl, hg, hb, hl, hm, hsz, htk⟩
  · exact ⟨none, 0, by rw [h0], by omega, .inl (List.length_eq_zero_iff.1 h0)⟩
  · have hcell : ∀ j, j < ps.length * 6 → cur[j]? = (cellsF cs hd ps)[j]? := fun j hj => by
      have e1 : (cur.toList.take (ps.length * 6))[j]? = (cellsF cs hd ps)[j]? := by rw [htk]
      rw [List.getElem?_take_of_lt hj] at e1
      simpa using e1
    refine ⟨some ⟨g, 0, none⟩, cap, rfl, hl, .inr ⟨g, rfl, hg, cur, hb, by rw [hsz]; omega, Nat.le_refl _, fun i hi => ?_⟩⟩
    have key : ∀ k, k < 6 → cur[i * 6 + k]? = (cellF cs hd (ps.getD i 0))[k]? := fun k hk => by rw [hcell _ (by omega), cellsF_at cs hd ps i hi k hk]
    exact ⟨key 0 (by omega), key 1 (by omega), key 2 (by omega), key 3 (by omega), key 4 (by omega), key 5 (by omega)⟩
/-- A source whose memory lies below B. -/
def SrcB (B : Nat) (c : SD) : Prop := c.pa < B ∧ c.pl < B ∧ (c.xs = [] ∨ ∃ b off, c.a = some ⟨b, off, none⟩ ∧ b < B)
theorem SrcAt.low {w : World} {c : SD} {i : Nat} (h : SrcAt w c i) : SrcB w.heap.size c := by
  refine ⟨heap_lt h.at_, heap_lt h.li, ?_⟩
  rcases h.ls with h1 | ⟨b, off, h1, h2, -⟩
  · exact .inl h1
  · exact .inr ⟨b, off, h1, h2⟩
theorem SrcAt.keep {w w' : World} {c : SD} {i B : Nat} (h : SrcAt w c i) (hB : SrcB B c) (hk : ∀ j, j < B → w'.heap[j]? = w.heap[j]?) (hs : w.heap.size ≤ w'.heap.size) : SrcAt w' c i := by
  refine ⟨(hk _ hB.1).trans h.at_, (hk _ hB.2.1).trans h.li, ?_, h.le, h.ln⟩
  rcases hB.2.2 with h1 | ⟨b, off, h1, h2⟩
  · exact .inl h1
  · rcases h.ls with h3 | ⟨b', off', h3, h4, h5⟩
    · exact .inl h3
    · rw [h1] at h3
      cases h3
      refine .inr ⟨b, off, h1, Nat.lt_of_lt_of_le h4 hs, fun j hj => ?_⟩
      obtain ⟨a0, a1, a2, a3⟩ := h5 j hj
      have ke : ∀ o, w'.cell? ⟨b, o, none⟩ = w.cell? ⟨b, o, none⟩ := fun o => by simp only [World.cell?, hk b h2]
      exact ⟨(ke _).trans a0, (ke _).trans a1, (ke _).trans a2, (ke _).trans a3⟩
/-- Another source has been asked. -/
theorem SrcAt.other {w w' : World} {c d : SD} {i k : Nat} (h : SrcAt w c i) (hd : SrcAt w d k) (hne : c.pa ≠ d.pa) (ho : OnlyG d.pa w w') : SrcAt w' c i := by
  have hpl : c.pl ≠ d.pa := fun e => by
    have h1 := h.li
    rw [e, hd.at_] at h1
    injection h1 with h1
    injection h1 with h2 h3
    simp at h2
  exact ⟨(ho.block _ (heap_lt h.at_) hne).trans h.at_, (ho.block _ (heap_lt h.li) hpl).trans h.li, h.ls.setAt hd.at_ ho, h.le, h.ln⟩
/-- Only the sources' places have changed. -/
structure OnlyS (cs : List SD) (w w' : World) : Prop where
  os : w'.os = w.os
  tape : w'.tape = w.tape
  output : w'.output = w.output
  size : w.heap.size ≤ w'.heap.size
  block : ∀ j, j < w.heap.size → (∀ p, p < cs.length → j ≠ (cs.getD p sd0).pa) → w'.heap[j]? = w.heap[j]?
theorem OnlyS.trans {cs : List SD} {a b c : World} (h : OnlyS cs a b) (k : OnlyS cs b c) : OnlyS cs a c :=
  ⟨k.os.trans h.os, k.tape.trans h.tape, k.output.trans h.output, Nat.le_trans h.size k.size, fun j hj hn => (k.block j (Nat.lt_of_lt_of_le hj h.size) hn).trans (h.block j hj hn)⟩
theorem OnlyS.of {cs : List SD} {w w' : World} (h : Below w.heap.size w w') : OnlyS cs w w' := ⟨h.os, h.tape, h.output, h.size, fun j hj _ => h.block j hj⟩
theorem OnlyS.refl (cs : List SD) (w : World) : OnlyS cs w w := ⟨rfl, rfl, rfl, Nat.le_refl _, fun _ _ _ => rfl⟩
theorem OnlyS.then {cs : List SD} {w w1 w2 : World} {B : Nat} (h : OnlyS cs w w1) (hb : Below B w1 w2) (hB : w.heap.size ≤ B) : OnlyS cs w w2 :=
  ⟨hb.os.trans h.os, hb.tape.trans h.tape, hb.output.trans h.output, Nat.le_trans h.size hb.size, fun j hj hn => (hb.block j (by omega)).trans (h.block j hj hn)⟩
theorem OnlyS.one {cs : List SD} {w w' : World} {p : Nat} (hp : p < cs.length) (h : OnlyG (cs.getD p sd0).pa w w') : OnlyS cs w w' := ⟨h.os, h.tape, h.output, h.size, fun j hj hn => h.block j hj (hn p hp)⟩
/-- No two sources have their place in one block. -/
def PaD (cs : List SD) : Prop := ∀ p q, p < cs.length → q < cs.length → p ≠ q → (cs.getD p sd0).pa ≠ (cs.getD q sd0).pa
/-- Each source has given so many entries. -/
def SrcAll (w : World) (cs : List SD) (pos : Nat → Nat) : Prop := ∀ p, p < cs.length → SrcAt w (cs.getD p sd0) (pos p)
theorem SrcAll.ask {w w' : World} {cs : List SD} {pos : Nat → Nat} (h : SrcAll w cs pos) (hd : PaD cs) {p : Nat} (hp : p < cs.length) (ho : OnlyG (cs.getD p sd0).pa w w') (hn : SrcAt w' (cs.getD p sd0) (pos p + 1)) : SrcAll w' cs (fun q => if q = p then pos p + 1 else pos q) := fun q hq => by
  by_cases e : q = p
  · subst e; simp only [if_pos]; exact hn
  · simp only [if_neg e]
    exact (h q hq).other (h p hp) (hd q p hq hp e) ho
theorem SrcAll.below {w w' : World} {cs : List SD} {pos : Nat → Nat} (h : SrcAll w cs pos) (hb : Below w.heap.size w w') : SrcAll w' cs pos := fun p hp => (h p hp).below hb
theorem SrcAll.keep {w w' : World} {cs : List SD} {pos : Nat → Nat} {B : Nat} (h : SrcAll w cs pos) (hB : ∀ p, p < cs.length → SrcB B (cs.getD p sd0)) (hk : ∀ j, j < B → w'.heap[j]? = w.heap[j]?) (hs : w.heap.size ≤ w'.heap.size) : SrcAll w' cs pos := fun p hp => (h p hp).keep (hB p hp) hk hs
theorem SrcAll.cong {w : World} {cs : List SD} {pos pos' : Nat → Nat} (h : SrcAll w cs pos) (he : ∀ p, p < cs.length → pos p = pos' p) : SrcAll w cs pos' := fun p hp => by rw [← he p hp]; exact h p hp
/-- The functions of the sources lie one behind the other. -/
def LieSE (w : World) (a : Option Addr) (cs : List SD) : Prop := cs = [] ∨ ∃ b off, a = some ⟨b, off, none⟩ ∧ b < w.heap.size ∧ ∀ p, p < cs.length → w.cell? ⟨b, off + p, none⟩ = some (cs.getD p sd0).fn
theorem int_not_func {w : World} {g o : Nat} {z : Int} {f : Fn} {x y : Array Value} {t : TypeId} (h : w.heap[g]? = some (.cells #[.int .i64 z] t (0, 0))) (hc : w.cell? ⟨g, o, none⟩ = some (.func f x y)) : False := by
  simp [World.cell?, h] at hc
  match o, hc with
  | 0, hc => simp at hc
  | o + 1, hc => simp at hc
theorem LieSE.only {w w' : World} {a : Option Addr} {cs : List SD} {pos : Nat → Nat} (h : LieSE w a cs) (hs : SrcAll w cs pos) (ho : OnlyS cs w w') : LieSE w' a cs := by
  rcases h with h | ⟨b, off, rfl, hb, hc⟩
  · exact .inl h
  · by_cases hn : cs = []
    · exact .inl hn
    · have h0 : 0 < cs.length := List.length_pos_iff.2 hn
      have hk := ho.block b hb (fun p hp e => by
        have h1 := (hs p hp).at_
        rw [← e] at h1
        exact int_not_func h1 (hc 0 h0))
      exact .inr ⟨b, off, rfl, Nat.lt_of_lt_of_le hb ho.size, fun p hp => by have := hc p hp; simp only [World.cell?, hk] at this ⊢; exact this⟩
theorem LieSE.at {w : World} {a : Option Addr} {cs : List SD} (h : LieSE w a cs) {p : Nat} (hp : p < cs.length) : ∃ b off, a = some ⟨b, off, none⟩ ∧ b < w.heap.size ∧ w.cell? ⟨b, off + p, none⟩ = some (cs.getD p sd0).fn := by
  rcases h with rfl | ⟨b, off, h1, h2, h3⟩
  · simp at hp
  · exact ⟨b, off, h1, h2, h3 p hp⟩
/-- The places of the first k sources that have an entry. -/
def psK (cs : List SD) (k : Nat) : List Nat := (List.range k).filter fun p => !(cs.getD p sd0).xs.isEmpty
theorem psK_succ (cs : List SD) (k : Nat) : psK cs (k + 1) = psK cs k ++ (if (cs.getD k sd0).xs.isEmpty then [] else [k]) := by
  unfold psK
  rw [List.range_succ, List.filter_append]
  congr 1
  rw [List.filter_cons, List.filter_nil]
  cases h : (cs.getD k sd0).xs.isEmpty <;> rfl
theorem psK_len (cs : List SD) (k : Nat) : (psK cs k).length ≤ k := by
  unfold psK
  have := List.length_filter_le (fun p => !(cs.getD p sd0).xs.isEmpty) (List.range k)
  simpa using this
def hdC (cs : List SD) (p : Nat) : En := (cs.getD p sd0).xs.headD en0
theorem psK_mg (cs : List SD) (hs : ∀ p, Srtd befE (cs.getD p sd0).xs) : MgP (cs.map SD.xs) (psK cs cs.length) := by
  have e : ∀ p, (cs.map SD.xs).getD p [] = (cs.getD p sd0).xs := fun p => by
    rw [List.getD_eq_getElem?_getD, List.getElem?_map, List.getD_eq_getElem?_getD]
    cases cs[p]? <;> rfl
  refine ⟨List.Nodup.sublist List.filter_sublist List.nodup_range, fun p => ?_, fun p => by rw [e]; exact hs p⟩
  rw [e, List.length_map]
  unfold psK
  rw [List.mem_filter, List.mem_range]
  simp
theorem hdC_eq (cs : List SD) : hdC cs = hdRE (cs.map SD.xs) := by
  funext p
  unfold hdC hdRE
  have e : (cs.map SD.xs).getD p [] = (cs.getD p sd0).xs := by
    rw [List.getD_eq_getElem?_getD, List.getElem?_map, List.getD_eq_getElem?_getD]
    cases cs[p]? <;> rfl
  rw [e]
end Go.Proofs.YtgmfjninimebmaaGreatDoor
