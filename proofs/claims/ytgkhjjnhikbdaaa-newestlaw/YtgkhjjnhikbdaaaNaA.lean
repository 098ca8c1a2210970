import Derived.Test.YtgkhjjnhikbdaaaNwZ
import Derived.BigRegion
import Derived.Laws.EntriesVeiled
namespace Go.Proofs.Ytgkhjjnhikbdaaa
open Go.RowKit Go.Maps
set_option linter.unusedVariables false
set_option linter.unusedSimpArgs false

theorem adv_get {xs r : List En} {p : Nat} (t : List En) (hx : xs = t ++ r) (ht : r.tail ≠ []) : xs.length - (r.length - 1) < xs.length ∧ xs.getD (xs.length - (r.length - 1)) en0 = r.tail.headD en0 ∧ xs.length - (r.tail.length - 1) = xs.length - (r.length - 1) + 1 := by
  match r, ht with
  | e :: y :: r', _ =>
    subst hx
    have hl : (t ++ e :: y :: r').length = t.length + r'.length + 2 := by simp; omega
    have h1 : (t ++ e :: y :: r').length - ((e :: y :: r').length - 1) = t.length + 1 := by rw [hl]; simp; omega
    refine ⟨by rw [h1, hl]; omega, ?_, ?_⟩
    · rw [h1, List.getD_eq_getElem?_getD, List.getElem?_append_right (by omega)]
      have : t.length + 1 - t.length = 1 := by omega
      rw [this]; rfl
    · rw [h1, hl]; simp; omega
theorem adv_none {xs r : List En} (ht : r.tail = []) : xs.length - (r.length - 1) = xs.length := by
  match r, ht with
  | [], _ => simp
  | [e], _ => simp
  | e :: y :: r', ht => simp at ht
set_option maxRecDepth 100000 in
set_option maxHeartbeats 8000000 in
theorem advance_some (w : World) (hb B0 : Nat) (cs : List SD) (rem : List (List En)) (ps : List Nat) (h : Mg w hb B0 cs rem ps) (hne : ps ≠ []) (ht : (rem.getD (ps.getD 0 0) []).tail ≠ []) :
    Calls Try.prog 37 #[.pointer (some ⟨hb, 0, none⟩)] w fun e w' => (∃ v, e = .returned v) ∧ (∃ qs, Mg w' hb B0 cs (rem.set (ps.getD 0 0) (rem.getD (ps.getD 0 0) []).tail) qs) ∧ ItW B0 cs w w' := by
  obtain ⟨hp, hpn⟩ := (h.mp.mem _).1 (get0_mem hne)
  obtain ⟨m1, m2⟩ := mg_some h.mp h.hp hne ht
  obtain ⟨a, cap, hB, hcap, hr⟩ := h.fr
  rcases hr with hr | ⟨g, n, rfl, hg, hn, hR⟩
  · exact absurd hr hne
  have h0 : 0 < ps.length := List.length_pos_iff.2 hne
  obtain ⟨-, -, -, -, -, x5⟩ := hR.cells h0
  have hpc : ps.getD 0 0 < cs.length := by rw [h.len]; exact hp
  obtain ⟨t, htt⟩ := h.sfx _ hpc
  obtain ⟨q1, q2, q3⟩ := adv_get (p := 0) t htt ht
  have hsr := h.src _ hpc
  have HNX := hdN (next_some (cs.getD (ps.getD 0 0) sd0) _ w hsr q1)
  have hlow := h.low _ hpc
  have hpa := hlow.1
  have hlh := h.lh
  have HHD : Hid ((cs.getD (ps.getD 0 0) sd0).xs.getD (posR cs rem (ps.getD 0 0)) en0 = hdR (rem.set (ps.getD 0 0) (rem.getD (ps.getD 0 0) []).tail) (ps.getD 0 0)) := by
    show _ = _
    unfold posR hdR
    rw [getD_setL _ _ _ _ hp, if_pos rfl]
    exact q2
  rw [HHD.out] at HNX
  have HSrc : Hid (∀ (w1 : World), SrcAt w1 (cs.getD (ps.getD 0 0) sd0) (posR cs rem (ps.getD 0 0) + 1) → OnlyG (cs.getD (ps.getD 0 0) sd0).pa w w1 → SrcAll w1 cs (posR cs (rem.set (ps.getD 0 0) (rem.getD (ps.getD 0 0) []).tail))) := fun w1 h1 h2 => by
    refine (h.src.ask h.dis hpc h2 h1).cong (fun q hq => ?_)
    rw [posR_set _ hp]
    by_cases e : q = ps.getD 0 0
    · rw [if_pos e, if_pos e]; exact q3.symm
    · rw [if_neg e, if_neg e]
  have HRow : Hid (∀ w2 : World, RowF w2 g n cs (hdR rem) ps → RowF (put4 w2 g (hdR (rem.set (ps.getD 0 0) (rem.getD (ps.getD 0 0) []).tail) (ps.getD 0 0))) g n cs (hdR (rem.set (ps.getD 0 0) (rem.getD (ps.getD 0 0) []).tail)) ps) := fun w2 h2 => h2.head h0 (fun i h1 h2 => (hdR_set _ hp (nd_get h.mp.nd h1 h2)).symm)
  have HStep : Hid (∀ (w' : World) (qs : List Nat), MgP (rem.set (ps.getD 0 0) (rem.getD (ps.getD 0 0) []).tail) qs → HpF (ltP (hdR (rem.set (ps.getD 0 0) (rem.getD (ps.getD 0 0) []).tail))) qs 0 → FrO w' hb (hb + 1) cs (hdR (rem.set (ps.getD 0 0) (rem.getD (ps.getD 0 0) []).tail)) qs → SrcAll w' cs (posR cs (rem.set (ps.getD 0 0) (rem.getD (ps.getD 0 0) []).tail)) → Mg w' hb B0 cs (rem.set (ps.getD 0 0) (rem.getD (ps.getD 0 0) []).tail) qs) := fun w' qs k1 k2 k3 k4 => h.step hp rfl k1 k2 k3 k4
  have HM1 := hdN m1
  have HM2 := hdN m2
  have HLow := hdN h.low
  have HPc := hdN hpc
  generalize rem.set (ps.getD 0 0) (rem.getD (ps.getD 0 0) []).tail = rem' at *
  generalize posR cs rem (ps.getD 0 0) = i at *
  generalize hdR rem' (ps.getD 0 0) = x at *
  clear HHD q1 q2 q3 htt hsr h m1 m2 ht hpn hp
  have HB := hdN hB
  have HR := hdN hR
  obtain ⟨y0, y1⟩ := twoN hB
  have hbl := heap_lt hB
  have hgl := hR.lt
  have hmn : ps.length ≤ n := by obtain ⟨arr, -, -, h, -⟩ := hR; exact h
  have h0' : (0 : Int) < (ps.length : Int) := by omega
  have hbg : ¬ hb = g := by omega
  have hgb : ¬ g = hb := by omega
  have HSk := hdN (fun (w5 : World) (h1 : FrB w5 hb g ps.length cap) (h2 : RowF w5 g n cs (hdR rem') ps) => sink_any hb g n cap cs (hdR rem') ps 0 w5 h1 h2 hn (Nat.zero_le _) HM2.out)
  generalize hcc : cs.getD (ps.getD 0 0) sd0 = c at *
  have HCC := hdN hcc
  clear hB hR hcc
  simp only [Nat.zero_mul, Nat.zero_add] at x5
  generalize hm : ps.length = m at *
  have HM := hdN hm
  clear hm
  go_enter Try.func37, Try.ntmps37
  go_wp2_with fail
  refine HNX.out.mono ?_
  rintro e w1 ⟨rfl, hs1, ho1⟩
  have HS1 := hdN (HSrc.out w1 hs1 ho1)
  have HO1 := hdN ho1
  have HB1 : Hid (FrB w1 hb g m cap) := (ho1.block _ hbl (by omega)).trans HB.out
  have HR1 := hdN (HR.out.block (ho1.block g hgl (by omega)))
  clear hs1 ho1 HNX HSrc HB HR y0 y1 x5 hbl hgl
  go_upto_region 2 with fail
  generalize hw2 : w1.alloc (.cells #[.string x.ky, .int .i64 x.sq, .int .i64 x.kd, .string x.vl] 40) = w2 at *
  have hb2 : Below w1.heap.size w1 w2 := by rw [← hw2]; exact (Below.refl _ _).alloc (Nat.le_refl _) _
  have hvb : w2.heap[w1.heap.size]? = some (.cells #[.string x.ky, .int .i64 x.sq, .int .i64 x.kd, .string x.vl] 40 (0, 0)) := by rw [← hw2]; exact World.heap_alloc_new _ _
  obtain ⟨x0, x1, x2, x3⟩ := fourB hvb
  have hvl := heap_lt hvb
  have HB2 := hdN (HB1.out.below hb2)
  have HR2 := hdN (HR1.out.block (hb2.block g HR1.out.lt))
  have HS2 := hdN (HS1.out.below hb2)
  have HI2 : Hid (ItW B0 cs w w2) := (ItW.of (OnlyS.one HPc.out (by rw [HCC.out]; exact HO1.out))).trans (ItW.of (OnlyS.of hb2))
  obtain ⟨y0, y1⟩ := twoN HB2.out
  have hbl := heap_lt HB2.out
  have hgl := HR2.out.lt
  have hvg : ¬ w1.heap.size = g := by have := HR1.out.lt; omega
  obtain ⟨z0, z1, z2, z3, z4, z5⟩ := HR2.out.cells (i := 0) (by rw [HM.out]; omega)
  simp only [Nat.zero_mul, Nat.zero_add] at z0 z1 z2 z3 z4 z5
  have fz : ∀ o, w2.frozen? ⟨g, o, none⟩ = false := fun o => by
    obtain ⟨arr, q1, -⟩ := HR2.out
    simp [World.frozen?, q1]
  generalize hvn : w1.heap.size = vb at *
  clear hw2 hb2 hvb hvn HB1 HR1 HS1 HO1
  go_region
  have HO3 : Hid (OnlyG g w2 (put4 w2 g x).drew) := (put4_only _ _ _).trans (OnlyG.of ((Below.refl _ _).drew))
  have HR3 : Hid (RowF (put4 w2 g x).drew g n cs (hdR rem') ps) := (HRow.out w2 HR2.out).block (drew_heap _ _)
  have HB3 : Hid (FrB (put4 w2 g x).drew hb g m cap) := HB2.out.only hbg HO3.out
  have HS3 : Hid (SrcAll (put4 w2 g x).drew cs (posR cs rem')) := HS2.out.keep HLow.out (fun j hj => HO3.out.block j (by omega) (by omega)) HO3.out.size
  have HI3 : Hid (ItW B0 cs w (put4 w2 g x).drew) := HI2.out.trans (ItW.one HO3.out HR2.out.frT (by omega))
  clear HO3 HR2 HB2 HS2 HI2 HRow x0 x1 x2 x3 y0 y1 z0 z1 z2 z3 z4 z5 fz hbl hgl hvl
  unfold put4 at HR3 HB3 HS3 HI3
  generalize hW3 : ((((w2.setCell ⟨g, 0, none⟩ (.string x.ky)).setCell ⟨g, 1, none⟩ (.int .i64 x.sq)).setCell ⟨g, 2, none⟩ (.int .i64 x.kd)).setCell ⟨g, 3, none⟩ (.string x.vl)).drew = W3 at *
  clear hW3
  go_wp2_with fail
  refine (HSk.out W3 HB3.out HR3.out).mono ?_
  rintro e w5 ⟨⟨v5, rfl⟩, qs, hp5, hh5, hr5, ho5⟩
  have HX : Hid ((∃ qs, Mg w5 hb B0 cs rem' qs) ∧ ItW B0 cs w w5) := ⟨⟨qs, HStep.out w5 qs (mg_perm HM1.out hp5) hh5 ⟨some ⟨g, 0, none⟩, cap, by rw [hp5.length_eq, HM.out]; exact HB3.out.only hbg ho5, by rw [hp5.length_eq, HM.out]; exact hcap, .inr ⟨g, n, rfl, hg, hn, hr5⟩⟩ (HS3.out.keep HLow.out (fun j hj => ho5.block j (by have := heap_lt HB3.out; omega) (by omega)) ho5.size)⟩, HI3.out.trans (ItW.one ho5 HR3.out.frT (by omega))⟩
  clear hp5 hh5 hr5 ho5
  go_wp2_with fail
  go_end0
  exact ⟨⟨_, rfl⟩, HX.out.1, HX.out.2⟩
set_option maxRecDepth 100000 in
set_option maxHeartbeats 8000000 in
theorem advance_none (w : World) (hb B0 : Nat) (cs : List SD) (rem : List (List En)) (ps : List Nat) (h : Mg w hb B0 cs rem ps) (hne : ps ≠ []) (ht : (rem.getD (ps.getD 0 0) []).tail = []) :
    Calls Try.prog 37 #[.pointer (some ⟨hb, 0, none⟩)] w fun e w' => (∃ v, e = .returned v) ∧ (∃ qs, Mg w' hb B0 cs (rem.set (ps.getD 0 0) (rem.getD (ps.getD 0 0) []).tail) qs) ∧ ItW B0 cs w w' := by
  obtain ⟨hp, hpn⟩ := (h.mp.mem _).1 (get0_mem hne)
  obtain ⟨m1, m2⟩ := mg_none h.mp h.hp hne ht
  obtain ⟨a, cap, hB, hcap, hr⟩ := h.fr
  rcases hr with hr | ⟨g, n, rfl, hg, hn, hR⟩
  · exact absurd hr hne
  have h0 : 0 < ps.length := List.length_pos_iff.2 hne
  obtain ⟨-, -, -, -, -, x5⟩ := hR.cells h0
  have hpc : ps.getD 0 0 < cs.length := by rw [h.len]; exact hp
  have hsr := h.src _ hpc
  have e1 : posR cs rem (ps.getD 0 0) = (cs.getD (ps.getD 0 0) sd0).xs.length := adv_none ht
  rw [e1] at hsr
  have HNX := hdN (next_none (cs.getD (ps.getD 0 0) sd0) w hsr)
  have hlh := h.lh
  have HSrc : Hid (∀ w1 : World, SrcAll w1 cs (posR cs rem) → SrcAll w1 cs (posR cs (rem.set (ps.getD 0 0) (rem.getD (ps.getD 0 0) []).tail))) := fun w1 h1 => h1.cong (fun q hq => by
    rw [posR_set _ hp]
    by_cases e : q = ps.getD 0 0
    · rw [if_pos e, e, e1, ht]; simp
    · rw [if_neg e])
  have HRow : Hid (∀ w2 : World, RowF w2 g n cs (hdR rem) ps → RowF (putF w2 g 0 (hdR rem (ps.getD (ps.length - 1) 0)) (ps.getD (ps.length - 1) 0) (cs.getD (ps.getD (ps.length - 1) 0) sd0)) g n cs (hdR (rem.set (ps.getD 0 0) (rem.getD (ps.getD 0 0) []).tail)) (dropP ps)) := fun w2 h2 => by
    refine RowF.cong ((h2.put h0 (ps.getD (ps.length - 1) 0)).take (ps.length - 1)) (fun i hi => ?_)
    have hi' : i < (dropP ps).length := hi
    refine (hdR_set _ hp ?_).symm
    have hm : (dropP ps).getD i 0 ∈ dropP ps := by
      have e : (dropP ps).getD i 0 = (dropP ps)[i] := by simp [List.getD, hi']
      rw [e]; exact List.getElem_mem hi'
    have := (m1.mem _).1 hm
    intro e
    have e' : (dropP ps).getD i 0 = ps.getD 0 0 := e
    rw [e', getD_setL _ _ _ _ hp, if_pos rfl] at this
    exact this.2 ht
  have HStep : Hid (∀ (w' : World) (qs : List Nat), MgP (rem.set (ps.getD 0 0) (rem.getD (ps.getD 0 0) []).tail) qs → HpF (ltP (hdR (rem.set (ps.getD 0 0) (rem.getD (ps.getD 0 0) []).tail))) qs 0 → FrO w' hb (hb + 1) cs (hdR (rem.set (ps.getD 0 0) (rem.getD (ps.getD 0 0) []).tail)) qs → SrcAll w' cs (posR cs (rem.set (ps.getD 0 0) (rem.getD (ps.getD 0 0) []).tail)) → Mg w' hb B0 cs (rem.set (ps.getD 0 0) (rem.getD (ps.getD 0 0) []).tail) qs) := fun w' qs k1 k2 k3 k4 => h.step hp rfl k1 k2 k3 k4
  have HM1 := hdN m1
  have HM2 := hdN m2
  have HLow := hdN h.low
  have HSr0 := hdN h.src
  generalize rem.set (ps.getD 0 0) (rem.getD (ps.getD 0 0) []).tail = rem' at *
  clear h m1 m2 ht hpn hp hsr e1
  have HB := hdN hB
  have HR := hdN hR
  obtain ⟨y0, y1⟩ := twoN hB
  have hbl := heap_lt hB
  have hgl := hR.lt
  have hmn : ps.length ≤ n := by obtain ⟨arr, -, -, h, -⟩ := hR; exact h
  have h0' : (0 : Int) < (ps.length : Int) := by omega
  have hbg : ¬ hb = g := by omega
  have hgb : ¬ g = hb := by omega
  obtain ⟨l, hl⟩ : ∃ l, ps.length = l + 1 := ⟨ps.length - 1, by omega⟩
  have HML : Hid ((dropP ps).length = l) := by show _ = _; rw [dropP_length]; omega
  have HSk := hdN (fun (w5 : World) (h1 : FrB w5 hb g l cap) (h2 : RowF w5 g n cs (hdR rem') (dropP ps)) => sink_any hb g n cap cs (hdR rem') (dropP ps) 0 w5 (by rw [HML.out]; exact h1) h2 hn (Nat.zero_le _) HM2.out)
  have HLc := hdN (fun (w2 : World) (h2 : RowF w2 g n cs (hdR rem) ps) => h2.cells (i := l) (by omega))
  have e2 : ps.length - 1 = l := by omega
  rw [e2] at HRow
  generalize cs.getD (ps.getD 0 0) sd0 = c at *
  generalize hq : ps.getD l 0 = q at *
  generalize hx : hdR rem q = x at *
  generalize hc2 : cs.getD q sd0 = c2 at *
  clear hq hx hc2
  have hln : l ≤ 1048576 := by omega
  have hll : (l : Int) < ((l + 1 : Nat) : Int) := by omega
  have hlc : l ≤ cap := by omega
  have hlc' : (l : Int) ≤ (cap : Int) := by omega
  clear hcap
  have hl1 : ((l + 1 : Nat) : Int) - 1 = (l : Int) := by omega
  have HPL := hdN hl
  rw [hl] at hB y0
  have HB' : Hid (FrB w hb g (l + 1) cap) := hB
  clear hB hR HB hl e2 h0' hmn h0
  simp only [Nat.zero_mul, Nat.zero_add] at x5
  generalize hm : l + 1 = m at *
  have hml : l < m := by omega
  have hmi : (l : Int) < (m : Int) := by omega
  have hm0 : (0 : Int) < (m : Int) := by omega
  have HMx := hdN hm
  clear hm
  go_enter Try.func37, Try.ntmps37
  go_wp2_with fail
  refine HNX.out.mono ?_
  rintro e w1 ⟨rfl, hb1⟩
  have HS1 := hdN (HSrc.out w1 (HSr0.out.below hb1))
  have HB1 := hdN (HB'.out.below hb1)
  have HR1 := hdN (HR.out.block (hb1.block g hgl))
  have HI1 : Hid (ItW B0 cs w w1) := ItW.of (OnlyS.of hb1)
  clear hb1 HNX HSrc HB' HR y0 y1 x5 hbl hgl HSr0
  obtain ⟨y0, y1⟩ := twoN HB1.out
  have hbl := heap_lt HB1.out
  go_upto_region 4 with fail
  generalize hw2 : w1.alloc _ = w2 at *
  have hb2 : Below w1.heap.size w1 w2 := by rw [← hw2]; exact (Below.refl _ _).alloc (Nat.le_refl _) _
  clear hw2 y0 y1 hbl
  have HB2 := hdN (HB1.out.below hb2)
  have HR2 := hdN (HR1.out.block (hb2.block g HR1.out.lt))
  have HS2 := hdN (HS1.out.below hb2)
  have HI2 : Hid (ItW B0 cs w w2) := HI1.out.trans (ItW.of (OnlyS.of hb2))
  clear hb2 HB1 HR1 HS1 HI1
  obtain ⟨y0, y1⟩ := twoN HB2.out
  have hbl := heap_lt HB2.out
  have hgl := HR2.out.lt
  obtain ⟨z0, z1, z2, z3, z4, z5⟩ := HLc.out w2 HR2.out
  obtain ⟨t0, t1, t2, t3, t4, t5⟩ := HR2.out.cells (i := 0) (by have := HPL.out; omega)
  simp only [Nat.zero_mul, Nat.zero_add] at t0 t1 t2 t3 t4 t5
  have fz : ∀ o, w2.frozen? ⟨g, o, none⟩ = false := fun o => by
    obtain ⟨arr, q1, -⟩ := HR2.out
    simp [World.frozen?, q1]
  have HO3 : Hid (OnlyG g w2 (putF w2 g 0 x q c2).drew) := (putF_only _ _ _ _ _ _).trans (OnlyG.of ((Below.refl _ _).drew))
  have HR3 : Hid (RowF (putF w2 g 0 x q c2).drew g n cs (hdR rem') (dropP ps)) := (HRow.out w2 HR2.out).block (drew_heap _ _)
  have HB3 : Hid (FrB (putF w2 g 0 x q c2).drew hb g m cap) := HB2.out.only hbg HO3.out
  have HS3 : Hid (SrcAll (putF w2 g 0 x q c2).drew cs (posR cs rem')) := HS2.out.keep HLow.out (fun j hj => HO3.out.block j (by omega) (by omega)) HO3.out.size
  have HI3 : Hid (ItW B0 cs w (putF w2 g 0 x q c2).drew) := HI2.out.trans (ItW.one HO3.out HR2.out.frT (by omega))
  unfold putF at HR3 HB3 HS3 HI3
  simp only [Nat.zero_mul, Nat.zero_add] at HR3 HB3 HS3 HI3
  clear HO3 HR2 HB2 HS2 HI2 HRow HLc
  go_region
  clear z0 z1 z2 z3 z4 z5 t0 t1 t2 t3 t4 t5 y0 y1 fz hbl hgl
  generalize hW3 : ((((((w2.setCell ⟨g, 0, none⟩ (.string x.ky)).setCell ⟨g, 1, none⟩ (.int .i64 x.sq)).setCell ⟨g, 2, none⟩ (.int .i64 x.kd)).setCell ⟨g, 3, none⟩ (.string x.vl)).setCell ⟨g, 4, none⟩ (.int .i64 (q : Int))).setCell ⟨g, 5, none⟩ c2.fn).drew = W3 at *
  clear hW3
  obtain ⟨y0, y1⟩ := twoN HB3.out
  have yf := twoFz HB3.out
  have hbl := heap_lt HB3.out
  have HO4 : Hid (OnlyG hb W3 (W3.setCell ⟨hb, 0, none⟩ (.slice (some ⟨g, 0, none⟩) l cap))) := OnlyG.set _ _ _
  have HB4 : Hid (FrB (W3.setCell ⟨hb, 0, none⟩ (.slice (some ⟨g, 0, none⟩) l cap)) hb g l cap) := by
    have h1 := heap_setCell_same W3 hb 0 _ _ (.slice (some ⟨g, 0, none⟩) l cap) HB3.out
    show FrB _ _ _ _ _
    simpa [FrB] using h1
  have HR4 : Hid (RowF (W3.setCell ⟨hb, 0, none⟩ (.slice (some ⟨g, 0, none⟩) l cap)) g n cs (hdR rem') (dropP ps)) := HR3.out.block (HO4.out.block g HR3.out.lt hgb)
  have HS4 : Hid (SrcAll (W3.setCell ⟨hb, 0, none⟩ (.slice (some ⟨g, 0, none⟩) l cap)) cs (posR cs rem')) := HS3.out.keep HLow.out (fun j hj => HO4.out.block j (by omega) (by omega)) HO4.out.size
  have HI4 : Hid (ItW B0 cs w (W3.setCell ⟨hb, 0, none⟩ (.slice (some ⟨g, 0, none⟩) l cap))) := HI3.out.trans (ItW.one HO4.out ⟨_, _, _, HB3.out, .inl rfl⟩ hlh)
  clear HO4 HB3 HR3 HS3 HI3
  go_wp2_with fail
  refine (HSk.out _ HB4.out HR4.out).mono ?_
  rintro e w5 ⟨⟨v5, rfl⟩, qs, hp5, hh5, hr5, ho5⟩
  have HX : Hid ((∃ qs, Mg w5 hb B0 cs rem' qs) ∧ ItW B0 cs w w5) := ⟨⟨qs, HStep.out w5 qs (mg_perm HM1.out hp5) hh5 ⟨some ⟨g, 0, none⟩, cap, by rw [hp5.length_eq, HML.out]; exact HB4.out.only hbg ho5, by rw [hp5.length_eq, HML.out]; exact hlc, .inr ⟨g, n, rfl, hg, hn, hr5⟩⟩ (HS4.out.keep HLow.out (fun j hj => ho5.block j (by have := heap_lt HB4.out; omega) (by omega)) ho5.size)⟩, HI4.out.trans (ItW.one ho5 HR4.out.frT (by omega))⟩
  clear hp5 hh5 hr5 ho5
  go_wp2_with fail
  go_end0
  exact ⟨⟨_, rfl⟩, HX.out.1, HX.out.2⟩
theorem advance_any (w : World) (hb B0 : Nat) (cs : List SD) (rem : List (List En)) (ps : List Nat) (h : Mg w hb B0 cs rem ps) (hne : ps ≠ []) :
    Calls Try.prog 37 #[.pointer (some ⟨hb, 0, none⟩)] w fun e w' => (∃ v, e = .returned v) ∧ (∃ qs, Mg w' hb B0 cs (rem.set (ps.getD 0 0) (rem.getD (ps.getD 0 0) []).tail) qs) ∧ ItW B0 cs w w' := by
  by_cases ht : (rem.getD (ps.getD 0 0) []).tail = []
  · exact advance_none w hb B0 cs rem ps h hne ht
  · exact advance_some w hb B0 cs rem ps h hne ht
end Go.Proofs.Ytgkhjjnhikbdaaa
