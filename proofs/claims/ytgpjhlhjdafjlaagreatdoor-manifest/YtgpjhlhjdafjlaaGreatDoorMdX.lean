import Derived.Test.YtgpjhlhjdafjlaaGreatDoorMdF
namespace Go.Proofs.YtgpjhlhjdafjlaaGreatDoor
open Go.RowKit Go.Maps
set_option linter.unusedVariables false
set_option linter.unusedSimpArgs false

/-- What wPick gives. -/
def wp (bs : List UInt8) (i : Nat) : Nat := if bs = [] then i else (bs.getD (i % bs.length) 0).toNat
theorem wp_le (bs : List UInt8) (i : Nat) : wp bs i ≤ i + 255 := by
  unfold wp
  split
  · omega
  · have := (bs.getD (i % bs.length) 0).toNat_lt
    omega
set_option maxRecDepth 100000 in
theorem wPick_any (a : Option Addr) (cap : Nat) (bs : List UInt8) (i : Nat) (w : World) (hx : LieB w a bs) (hl : bs.length ≤ 1048576) (hi : i ≤ 1000000) :
    Calls Tryz.prog 12 #[.slice a bs.length cap, .int .i64 i] w fun e w' => e = .returned (.int .i64 (wp bs i : Nat)) ∧ Below w.heap.size w w' := by
  by_cases h0 : bs = []
  · have e : wp bs i = i := by unfold wp; rw [if_pos h0]
    rw [e]
    subst h0
    go_enter Tryz.func12, Tryz.ntmps12
    go_wp2_with fail
    go_ret
    exact ⟨rfl, Below.refl _ _⟩
  · have hpos : 0 < bs.length := List.length_pos_iff.2 h0
    rcases hx with h | ⟨b, off, rfl, hbl, hc⟩
    · exact absurd h h0
    have c0 := hc (i % bs.length) (Nat.mod_lt _ hpos)
    have e : wp bs i = (bs.getD (i % bs.length) 0).toNat := by unfold wp; rw [if_neg h0]
    have hb := (bs.getD (i % bs.length) 0).toNat_lt
    rw [e]
    generalize (bs.getD (i % bs.length) 0).toNat = x at *
    have hwx : wrap64 (x : Int) = x := by unfold wrap64; omega
    clear hc h0 e
    generalize bs.length = len at *
    have m0 : (0 : Int) ≤ (i : Int) % len := Int.emod_nonneg _ (by omega)
    have m1 : (i : Int) % len < len := Int.emod_lt_of_pos _ (by omega)
    go_enter Tryz.func12, Tryz.ntmps12
    go_wp2_with fail
    go_ret
    exact ⟨rfl, Below.refl _ _⟩

set_option maxRecDepth 100000 in
set_option maxHeartbeats 2000000 in
theorem wSameRefs_same (a c : Option Addr) (cap cap' : Nat) (xs : List Tr) (w : World) (hx : LieT w a xs) (hy : LieT w c xs) (hlen : xs.length ≤ 1048576) :
    Calls Tryz.prog 7 #[.slice a xs.length cap, .slice c xs.length cap'] w fun e w' => e = .returned (.bool true) ∧ Below w.heap.size w w' := by
  go_enter Tryz.func7, Tryz.ntmps7
  go_wp2
  go_loopw [5] (fun i wr => ∃ k : Nat, k ≤ xs.length ∧ i = .int .i64 k ∧ Below w.heap.size w wr) (fun i _ => xs.length - (intOf i).toNat)
  case atStart => exact ⟨0, Nat.zero_le _, rfl, Below.refl _ _⟩
  case round =>
    obtain ⟨k, hk, rfl, hb⟩ := hrel
    by_cases hlt : k < xs.length
    · obtain ⟨b, off, rfl, hbl, c0, c1, c2, c3⟩ := (hx.below hb).at hlt
      obtain ⟨b', off', rfl, hbl', d0, d1, d2, d3⟩ := (hy.below hb).at hlt
      generalize xs.getD k tr0 = f at *
      have i1 : (k : Int) < (xs.length : Int) := by omega
      go_wp2_with fail
      go_region_held3 (fun w' => w'.cell? ⟨b, off + k * 4, none⟩ = some (.int .i64 f.nu) ∧ w'.cell? ⟨b, off + k * 4 + 1, none⟩ = some (.int .i64 f.lv) ∧ w'.cell? ⟨b, off + k * 4 + 2, none⟩ = some (.string f.lo) ∧ w'.cell? ⟨b, off + k * 4 + 3, none⟩ = some (.string f.hi) ∧ w'.cell? ⟨b', off' + k * 4, none⟩ = some (.int .i64 f.nu) ∧ w'.cell? ⟨b', off' + k * 4 + 1, none⟩ = some (.int .i64 f.lv) ∧ w'.cell? ⟨b', off' + k * 4 + 2, none⟩ = some (.string f.lo) ∧ w'.cell? ⟨b', off' + k * 4 + 3, none⟩ = some (.string f.hi)) (simp [go_sem, *]) (fail)
      all_goals go_wp2
      all_goals exact ⟨⟨k + 1, by omega, by go_num, hb.drew⟩, by simp [intOf]; omega⟩
    · go_wp2
      go_ret
      exact ⟨rfl, hb⟩

set_option maxRecDepth 100000 in
set_option maxHeartbeats 1000000 in
theorem l1Count_8 (a : Option Addr) (cap len : Nat) (w : World) (hl : len ≤ 1048576) :
    Calls Tryz.prog 39 #[.slice a len cap, .int .i64 12, .int .i64 1, .int .i64 8] w fun e w' => ∃ n : Nat, n ≤ 8 ∧ e = .returned (.int .i64 n) ∧ Below w.heap.size w w' := by
  have e1 : wrap64 ((len : Int) / 12) = (len : Int) / 12 := by unfold wrap64; omega
  have e2 : wrap64 (1 + (len : Int) / 12) = 1 + (len : Int) / 12 := by unfold wrap64; omega
  by_cases h : (8 : Int) < 1 + (len : Int) / 12
  · go_enter Tryz.func39, Tryz.ntmps39
    go_wp2_with fail
    go_ret
    exact ⟨8, by omega, rfl, Below.refl _ _⟩
  · go_enter Tryz.func39, Tryz.ntmps39
    go_wp2_with fail
    go_ret
    exact ⟨1 + len / 12, by omega, by congr 2, Below.refl _ _⟩

theorem frB_lenW (k : Nat) (p : List UInt8) : (frB k p).length = 64 * pagesN (8 + p.length) := by
  unfold frB
  rw [fby_len, body_len]
  unfold pagesN
  omega
/-- The frame of a small edit. -/
theorem frE_size {e : Ed} (h : (edT e).size ≤ 6200) : (frT 77 (edT e)).size ≤ 6400 := by
  rw [frT_in rfl (by omega)]
  show (frB (77 : Int).toNat (edT e).data.toList).toArray.size ≤ _
  rw [List.size_toArray, frB_lenW, dataL]
  unfold pagesN
  omega
end Go.Proofs.YtgpjhlhjdafjlaaGreatDoor
namespace Go.Proofs.YtgpjhlhjdafjlaaGreatDoor
open Go.RowKit Go.Maps
set_option linter.unusedVariables false
set_option linter.unusedSimpArgs false

theorem sm2_fits {e : Ed} (h : Sm2 e) : FitsT e.ad := fun t ht => by
  obtain ⟨h1, h2, -⟩ := h.2.2 t ht
  unfold maxLen
  exact ⟨by omega, by omega⟩
theorem resT_own {W : World} {B k cb : Nat} {b : Option Addr} {xs : List Tr} (h : W.ownsRow B 58 4 (.slice b xs.length cb) k (cellsT xs)) : ResT W B b xs := by
  obtain ⟨-, a9, c9, en9, hr⟩ := resT_of_owns h
  injection en9 with f1 f2 f3
  subst f1
  exact hr
theorem resI_own {W : World} {B cb : Nat} {b : Option Addr} {ks : List Int} (h : W.ownsRow B 3 1 (.slice b ks.length cb) ks.length (ic ks)) : ResI W B b ks := by
  obtain ⟨-, a9, c9, en9, hr⟩ := resI_of_owns h
  injection en9 with f1 f2 f3
  subst f1
  exact hr
theorem ResI.setG {w : World} {B p o : Nat} {a : Option Addr} {xs : List Int} {v : Value} (hp : p < B) (h : ResI w B a xs) : ResI (w.setCell ⟨p, o, none⟩ v) B a xs :=
  h.kept (fun k hk _ => Below.heap_setCell _ _ _ _ (by dsimp only; omega))
theorem sm2_fr {e : Ed} (h : Sm2 e) : (edT e).size ≤ 6200 ∧ (frT 77 (edT e)).size ≤ 6400 := by
  have h1 := edT_small (e := e) (by have := h.1; omega) (by have := h.2.1; omega)
  exact ⟨h1, frE_size h1⟩
set_option maxRecDepth 100000 in
set_option maxHeartbeats 8000000 in
theorem l4DrawVersion_any (a : Option Addr) (cap : Nat) (bs : List UInt8) (p : Nat) (w : World) (hx : LieB w a bs) (hl : bs.length ≤ 1048576) (hp : p ≤ 1000) :
    Calls Tryz.prog 14 #[.slice a bs.length cap, .int .i64 p] w fun r w' => ∃ (t : Option Addr) (ct : Nat) (ts : List Tr) (lg nx la : Int) (s : ByteArray) (q : Nat), r = .returned (.tuple #[.agg #[.slice t ts.length ct, .int .i64 lg, .int .i64 nx, .int .i64 la], .string s, .int .i64 (q : Int)]) ∧ q ≤ p + 160 ∧ s.size ≤ 51200 ∧ GoodTs ts ∧ LieT w' t ts ∧ Below w.heap.size w w' := by
  have HE := hd0 (fun (w' : World) (q : Nat) (t : Option Addr) (ct : Nat) (ts : List Tr) (lg0 nx0 la0 : Int) (hb : Below w.heap.size w w') (hq : q ≤ 50000) (ht : LieT w' t ts) (hts : ts.length ≤ 2000) => l4DrawEdit_any a cap bs q t ct ts lg0 nx0 la0 w' (hx.below hb) hl hq ht hts)
  generalize hW0 : (w.alloc (.cells #[.slice none 0 0, .int .i64 0, .int .i64 0, .int .i64 0] 26)).alloc (.cells #[.slice none 0 0, .int .i64 0, .int .i64 0, .int .i64 0] 26) = W0
  have hV0 : W0.heap[w.heap.size]? = some (.cells #[.slice none 0 0, .int .i64 0, .int .i64 0, .int .i64 0] 26 (0, 0)) := by rw [← hW0, alloc_old (by simp)]; exact World.heap_alloc_new _ _
  have hX0 : W0.heap[w.heap.size + 1]? = some (.cells #[.slice none 0 0, .int .i64 0, .int .i64 0, .int .i64 0] 26 (0, 0)) := by rw [← hW0, ← size_alloc]; exact World.heap_alloc_new _ _
  have hb0 : Below w.heap.size w W0 := by rw [← hW0]; exact ((Below.refl _ _).alloc (Nat.le_refl _) _).alloc (by simp) _
  have hs0 : w.heap.size + 2 ≤ W0.heap.size := by rw [← hW0]; simp
  have HC := hd0 (fun (w' : World) => l1Count_8 a cap bs.length w' hl)
  generalize bs.length = len at *
  have HW0 := hd hW0
  clear hW0
  go_enter Tryz.func14, Tryz.ntmps14
  go_wp2_with fail
  rw [HW0.out]
  refine (HC.out _).mono ?_
  rintro r w1 ⟨n, hn, rfl, hb1⟩
  have hV1 := (hb1.block w.heap.size (by omega)).trans hV0
  have hX1 := (hb1.block (w.heap.size + 1) (by omega)).trans hX0
  have hbw1 := hb0.trans (hb1.mono hb0.size)
  have hs1 := Nat.le_trans hs0 hb1.size
  clear hb0 hb1 hV0 hX0 hs0 HW0
  go_wp2_with fail
  go_loopw [1, 8, 10] (fun vp vs vi wr => ∃ (k q : Nat) (s : ByteArray) (ts : List Tr) (l : Ed) (t : Option Addr) (ct : Nat), vp = .int .i64 (q : Int) ∧ vs = .string s ∧ vi = .int .i64 (k : Int) ∧ k ≤ n ∧ q ≤ p + 20 * k ∧ s.size ≤ 6400 * k ∧ GoodTs ts ∧ Hid (wr.heap[w.heap.size]? = some (.cells #[.slice none 0 0, .int .i64 0, .int .i64 0, .int .i64 0] 26 (0, 0))) ∧ Hid (wr.heap[w.heap.size + 1]? = some (.cells #[.slice t ts.length ct, .int .i64 l.lg, .int .i64 l.nx, .int .i64 l.la] 26 (0, 0))) ∧ Hid (ResT wr (w.heap.size + 2) t ts) ∧ Hid (Below w.heap.size w wr)) (fun _ _ vi _ => n - (intOf vi).toNat)
  case atStart => exact ⟨0, p, ⟨#[]⟩, [], ed0, none, 0, rfl, rfl, rfl, by omega, by omega, Nat.zero_le _, goodTs_nil, hV1, hX1, .inl rfl, hbw1⟩
  case round =>
    clear hV1 hX1 hbw1
    obtain ⟨k, q, s, ts, l, t, ct, rfl, rfl, rfl, hk, hq, hs, hg, HV, HX, HR, HB⟩ := hrel
    have hlX := heap_lt HX.out
    by_cases hkn : k < n
    · have hkn' : (k : Int) < (n : Int) := by omega
      obtain ⟨p0, p1, p2, p3⟩ := four_cells HX.out
      have hlen := hg.len
      go_wp2_with fail
      refine (HE.out wr q t ct ts l.lg l.nx l.la HB.out (by omega) HR.out.lie (by omega)).mono ?_
      rintro r w2 ⟨b2, cb2, d2, cd2, e, q2, rfl, hq2, hsm, hT2, hI2, hb2⟩
      have hs2 := hb2.size
      have HV2 := hd ((hb2.block w.heap.size (by omega)).trans HV.out)
      have HX2 := hd ((hb2.block (w.heap.size + 1) (by omega)).trans HX.out)
      have HR2 := hd (HR.out.below hb2)
      have HB2 := hd (HB.out.trans (hb2.mono HB.out.size))
      have HT2 := hd (resT_own hT2)
      have HI2 := hd (resI_own hI2)
      have hA2 : Below w2.heap.size w2 (w2.alloc (.cells #[.slice b2 e.ad.length cb2, .slice d2 e.dl.length cd2, .int .i64 e.lg, .int .i64 e.nx, .int .i64 e.la] 35)) := (Below.refl _ _).alloc (Nat.le_refl _) _
      have hE2 : (w2.alloc (.cells #[.slice b2 e.ad.length cb2, .slice d2 e.dl.length cd2, .int .i64 e.lg, .int .i64 e.nx, .int .i64 e.la] 35)).heap[w2.heap.size]? = some (.cells #[.slice b2 e.ad.length cb2, .slice d2 e.dl.length cd2, .int .i64 e.lg, .int .i64 e.nx, .int .i64 e.la] 35 (0, 0)) := World.heap_alloc_new _ _
      have hlX2 := heap_lt HX2.out
      have HA2 := hd hA2
      have HE2 := hd hE2
      have hff := sm2_fits hsm
      obtain ⟨hz1, hz2⟩ := sm2_fr hsm
      have hl1 := hsm.1
      have hl2 := hsm.2.1
      have HAp := hd (fun w' (h0 : LieT w' t ts) (h1 : LieT w' b2 e.ad) (h2 : LieI w' d2 e.dl) => specAp_any t ct ts l.lg l.nx l.la b2 cb2 d2 cd2 e w' h0 hg.fits h1 hff h2 (by omega) (by omega) (by omega))
      have HEn := hd (fun w' (h1 : LieT w' b2 e.ad) (h2 : LieI w' d2 e.dl) => specEncEd_any b2 cb2 d2 cd2 e w' h1 hff h2 (by omega) (by omega))
      have HFr := hd (fun w' => specFrame_any 77 (edT e) w' (by unfold maxLen; omega))
      clear hb2 hT2 hI2 hA2 hE2 HV HX HR HB p0 p1 p2 p3 HE HC
      obtain ⟨p0, p1, p2, p3⟩ := four_cells HX2.out
      go_wp2_with fail
      generalize w2.alloc (.cells #[.slice b2 e.ad.length cb2, .slice d2 e.dl.length cd2, .int .i64 e.lg, .int .i64 e.nx, .int .i64 e.la] 35) = w3 at *
      have HV3 := hd ((HA2.out.block w.heap.size (by omega)).trans HV2.out)
      have HX3 := hd ((HA2.out.block (w.heap.size + 1) hlX2).trans HX2.out)
      have HB3 := hd (HB2.out.trans (HA2.out.mono HB2.out.size))
      have HR3 := hd (HR2.out.below HA2.out)
      have HT3 := hd (HT2.out.below HA2.out)
      have HI3 := hd (HI2.out.below HA2.out)
      have HAp3 := hd (HAp.out w3 HR3.out.lie HT3.out.lie HI3.out.lie)
      have hlX3 := heap_lt HX3.out
      have hlE3 := heap_lt HE2.out
      clear HAp p0 p1 p2 p3 HV2 HX2 HB2 HT2 HI2 HR2 HA2
      cases hap : apOk ts e with
      | false =>
        rw [hap] at HAp3
        refine HAp3.out.mono ?_
        rintro r w4 ⟨a4, c4, rfl, hr4, hb4⟩
        have hs4 := hb4.size
        have hA4 : Below w3.heap.size w3 (w4.alloc (.cells #[.slice a4 (apL ts e).length c4, .int .i64 (apI ts e e.lg), .int .i64 (apI ts e e.nx), .int .i64 (apI ts e e.la)] 26)) := hb4.trans ((Below.refl w3.heap.size w4).alloc hs4 _)
        have HA4 := hd hA4
        clear hr4 hb4 HAp3 hA4
        go_wp2_with fail
        exact ⟨⟨k + 1, q2, s, ts, l, t, ct, rfl, rfl, by go_num, by omega, by omega, by omega, hg, (HA4.out.block _ (by omega)).trans HV3.out, (HA4.out.block _ hlX3).trans HX3.out, HR3.out.below HA4.out, HB3.out.trans (HA4.out.mono HB3.out.size)⟩, by simp only [intOf]; omega⟩
      | true =>
        have hL : apL ts e = apS ts e ∧ apI ts e e.lg = e.lg ∧ apI ts e e.nx = e.nx ∧ apI ts e e.la = e.la := by simp [apL, apI, hap]
        obtain ⟨l1, l2, l3, l4⟩ := hL
        have heo : edOk e = true := ((apOk_iff ts e).1 hap).1
        have HGn := hd (goodTs_next hg heo hap)
        rw [l1, l2, l3, l4, hap] at HAp3
        refine HAp3.out.mono ?_
        rintro r w4 ⟨a4, c4, rfl, hr4, hb4⟩
        have hs4 := hb4.size
        obtain ⟨⟨p0, p1, p2, p3⟩, f0, f1, f2, f3⟩ := fourS ((hb4.block (w.heap.size + 1) hlX3).trans HX3.out)
        obtain ⟨e0, e1, e2, e3, e4⟩ := five_cells ((hb4.block w2.heap.size hlE3).trans HE2.out)
        have hlX4 : w.heap.size + 1 < w4.heap.size := by omega
        have hlE4 : w2.heap.size < w4.heap.size := by omega
        have hne : ¬ w2.heap.size = w.heap.size + 1 := by omega
        have hne' : ¬ w.heap.size + 1 = w2.heap.size := by omega
        have HR4 := hd (hr4.wideN (B' := w.heap.size + 2) (by omega))
        have HX4 := hd ((hb4.block (w.heap.size + 1) hlX3).trans HX3.out)
        have HV4 := hd ((hb4.block w.heap.size (by omega)).trans HV3.out)
        have HT4 := hd (HT3.out.below hb4)
        have HI4 := hd (HI3.out.below hb4)
        have HB4 := hd (HB3.out.trans (hb4.mono HB3.out.size))
        clear hr4 hb4 HAp3 HV3 HX3 HB3 HR3 HT3 HI3
        go_wp2_with fail
        generalize hW4 : (((w4.setCell ⟨w.heap.size + 1, 0, none⟩ (.slice a4 (apS ts e).length c4)).setCell ⟨w.heap.size + 1, 1, none⟩ (.int .i64 e.lg)).setCell ⟨w.heap.size + 1, 2, none⟩ (.int .i64 e.nx)).setCell ⟨w.heap.size + 1, 3, none⟩ (.int .i64 e.la) = w5
        have hs5 : w5.heap.size = w4.heap.size := by rw [← hW4]; simp [World.setCell]
        have HX5 : Hid (w5.heap[w.heap.size + 1]? = some (.cells #[.slice a4 (apS ts e).length c4, .int .i64 e.lg, .int .i64 e.nx, .int .i64 e.la] 26 (0, 0))) := by
          rw [← hW4]
          exact set4 HX4.out _ _ _ _
        have HB45 : Hid (Below (w.heap.size + 1) w4 w5) := by
          rw [← hW4]
          exact below4 (Below.refl _ _) (Nat.le_refl _) _ _ _ _
        have HR5 : Hid (ResT w5 (w.heap.size + 2) a4 (apS ts e)) := by
          rw [← hW4]
          exact ResT.setN (by omega) (ResT.setN (by omega) (ResT.setN (by omega) (ResT.setN (by omega) HR4.out)))
        have HT5 : Hid (ResT w5 (wr.heap.size + 1) b2 e.ad) := by
          rw [← hW4]
          exact ResT.setN (by omega) (ResT.setN (by omega) (ResT.setN (by omega) (ResT.setN (by omega) HT4.out)))
        have HI5 : Hid (ResI w5 (wr.heap.size + 1) d2 e.dl) := by
          rw [← hW4]
          exact ResI.setG (by omega) (ResI.setG (by omega) (ResI.setG (by omega) (ResI.setG (by omega) HI4.out)))
        have HV5 := hd ((HB45.out.block w.heap.size (by omega)).trans HV4.out)
        have HB5 := hd (HB4.out.trans (HB45.out.mono (by omega)))
        have hA5 : Below w5.heap.size w5 (w5.alloc (.cells #[.slice a4 (apS ts e).length c4, .int .i64 e.lg, .int .i64 e.nx, .int .i64 e.la] 26)) := (Below.refl _ _).alloc (Nat.le_refl _) _
        clear hW4 HR4 HX4 HV4 HT4 HI4 HB4 HB45 p0 p1 p2 p3 f0 f1 f2 f3 e0 e1 e2 e3 e4
        refine (HEn.out _ (HT5.out.below hA5).lie (HI5.out.below hA5).lie).mono ?_
        rintro r w6 ⟨rfl, hb6⟩
        go_wp2_with fail
        refine (HFr.out _).mono ?_
        rintro r w7 ⟨rfl, hb7⟩
        have hb57 : Below w5.heap.size w5 w7 := (hA5.trans (hb6.mono hA5.size)).trans (hb7.mono (Nat.le_trans hA5.size hb6.size))
        have u1 : ¬ 9223372036854775807 < s.size + (frT 77 (edT e)).size := by omega
        have hsz : (s ++ frT 77 (edT e)).size ≤ 6400 * (k + 1) := by rw [ByteArray.size_append]; omega
        have hlX5 := heap_lt HX5.out
        go_wp2_with fail
        exact ⟨⟨k + 1, q2, s ++ frT 77 (edT e), apS ts e, e, a4, c4, rfl, rfl, by go_num, by omega, by omega, hsz, HGn.out, (hb57.block _ (by omega)).trans HV5.out, (hb57.block _ hlX5).trans HX5.out, HR5.out.below hb57, HB5.out.trans (hb57.mono HB5.out.size)⟩, by simp only [intOf]; omega⟩
    · obtain rfl : k = n := by omega
      have hik : ¬ (k : Int) < (k : Int) := by omega
      obtain ⟨⟨p0, p1, p2, p3⟩, -, -, -, -⟩ := fourS HX.out
      obtain ⟨⟨y0, y1, y2, y3⟩, z0, z1, z2, z3⟩ := fourS HV.out
      have hlV := heap_lt HV.out
      have hne : ¬ w.heap.size = w.heap.size + 1 := by omega
      have hne' : ¬ w.heap.size + 1 = w.heap.size := by omega
      go_wp2_with fail
      refine bodyPost_ret (v := .tuple #[.agg #[.slice t ts.length ct, .int .i64 l.lg, .int .i64 l.nx, .int .i64 l.la], .string s, .int .i64 (q : Int)]) (by simp [results, Tryz.results14, go_sem, y0, y1, y2, y3]) rfl ⟨t, ct, ts, l.lg, l.nx, l.la, s, q, rfl, by omega, by omega, hg, ?_, below4 HB.out (Nat.le_refl _) _ _ _ _⟩
      refine ResT.lie (base := w.heap.size + 2) ?_
      repeat refine ResT.setN (by omega) ?_
      exact HR.out
end Go.Proofs.YtgpjhlhjdafjlaaGreatDoor
namespace Go.Proofs.YtgpjhlhjdafjlaaGreatDoor
open Go.RowKit Go.Maps
set_option linter.unusedVariables false
set_option linter.unusedSimpArgs false

theorem smE_fr {e : Ed} (h : SmE e) : (edT e).size ≤ 6200 ∧ (frT 77 (edT e)).size ≤ 6400 := by
  have h1 := edT_small (e := e) h.1 h.2.1
  exact ⟨h1, frE_size h1⟩
set_option maxRecDepth 100000 in
set_option maxHeartbeats 4000000 in
theorem drawRm_any (a : Option Addr) (cap : Nat) (bs : List UInt8) (w : World) (hx : LieB w a bs) (hl : bs.length ≤ 1048576) :
    Calls Tryz.prog 4 #[.slice a bs.length cap] w fun r w' => ∃ s : ByteArray, r = .returned (.string s) ∧ s.size ≤ 100000 ∧ Below w.heap.size w w' := by
  have HT := hd0 (fun (w' : World) (q n : Nat) (hb : Below w.heap.size w w') (hq : q ≤ 1000000) (hn : 1 ≤ n) (hn2 : n ≤ 2000000) => l1Take_wide a cap bs q n w' (hx.below hb) hl hq hn hn2)
  have HV := hd0 (fun (w' : World) (q : Nat) (hb : Below w.heap.size w w') (hq : q ≤ 1000) => l4DrawVersion_any a cap bs q w' (hx.below hb) hl hq)
  have HE := hd0 (fun (w' : World) (q : Nat) (t : Option Addr) (ct : Nat) (ts : List Tr) (lg0 nx0 la0 : Int) (hb : Below w.heap.size w w') (hq : q ≤ 50000) (ht : LieT w' t ts) (hts : ts.length ≤ 2000) => l4DrawEdit_any a cap bs q t ct ts lg0 nx0 la0 w' (hx.below hb) hl hq ht hts)
  have HSE := hd0 (fun (p : Nat) (b : Option Addr) (cb : Nat) (d : Option Addr) (cd : Nat) (e : Ed) (B : Nat) (w' : World) (hb : Below w.heap.size w w') (hp : p ≤ 50000) (hB : B ≤ w'.heap.size) (h1 : w'.ownsRow B 58 4 (.slice b e.ad.length cb) e.ad.length (cellsT e.ad)) (h2 : w'.ownsRow B 3 1 (.slice d e.dl.length cd) e.dl.length (ic e.dl)) (h3 : Sm2 e) => l4SpoilEdit_any a cap bs p b cb d cd e B w' (hx.below hb) hl hp hB h1 h2 h3)
  have HST := hd0 (fun (p : Nat) (s : ByteArray) (w' : World) (hb : Below w.heap.size w w') (hp : p ≤ 100000) (hs : s.size ≤ 1000000) => l2SpoilText_any a cap bs p s w' (hx.below hb) hl hp hs)
  generalize bs.length = len at *
  clear hx
  go_enter Tryz.func4, Tryz.ntmps4
  go_wp2_with fail
  refine (HT.out _ 0 9 (Below.refl _ _) (by omega) (by omega) (by omega)).mono ?_
  rintro e w1 ⟨h, hh, rfl, hb1⟩
  go_wp2_with fail
  refine (HV.out _ (0 + 1) hb1 (by omega)).mono ?_
  rintro e w2 ⟨t, ct, ts, lg, nx, la, s, q, rfl, hq, hs, hg, ht, hb2⟩
  have hw2 := hb1.trans (hb2.mono hb1.size)
  have hA : Below w2.heap.size w2 (w2.alloc (.cells #[.slice t ts.length ct, .int .i64 lg, .int .i64 nx, .int .i64 la] 26)) := (Below.refl _ _).alloc (Nat.le_refl _) _
  have hX : (w2.alloc (.cells #[.slice t ts.length ct, .int .i64 lg, .int .i64 nx, .int .i64 la] 26)).heap[w2.heap.size]? = some (.cells #[.slice t ts.length ct, .int .i64 lg, .int .i64 nx, .int .i64 la] 26 (0, 0)) := World.heap_alloc_new _ _
  have hw3 := hw2.trans (hA.mono hw2.size)
  have ht3 := ht.below hA
  obtain ⟨x0, x1, x2, x3⟩ := four_cells hX
  have hlen := hg.len
  have h4 : h = 6 ∨ h = 7 ∨ h = 8 ∨ (¬ h = 6 ∧ ¬ h = 7 ∧ ¬ h = 8) := by omega
  rcases h4 with rfl | rfl | rfl | ⟨n6, n7, n8⟩
  · go_wp2_with fail
    refine (HE.out _ q t ct ts lg nx la hw3 (by omega) ht3 (by omega)).mono ?_
    rintro e w4 ⟨b, cb, d, cd, e, z, rfl, hz, hsm, hT4, hI4, hb4⟩
    have hw4 := hw3.trans (hb4.mono hw3.size)
    generalize hBB : (w2.alloc (.cells #[.slice t ts.length ct, .int .i64 lg, .int .i64 nx, .int .i64 la] 26)).heap.size + 1 = B at *
    have hBw : w.heap.size ≤ B := by have := hw3.size; omega
    have hB4 : B ≤ w4.heap.size + 1 := by have := hb4.size; omega
    have hA4 : Below w4.heap.size w4 (w4.alloc (.cells #[.slice b e.ad.length cb, .slice d e.dl.length cd, .int .i64 e.lg, .int .i64 e.nx, .int .i64 e.la] 35)) := (Below.refl _ _).alloc (Nat.le_refl _) _
    have hE4 : (w4.alloc (.cells #[.slice b e.ad.length cb, .slice d e.dl.length cd, .int .i64 e.lg, .int .i64 e.nx, .int .i64 e.la] 35)).heap[w4.heap.size]? = some (.cells #[.slice b e.ad.length cb, .slice d e.dl.length cd, .int .i64 e.lg, .int .i64 e.nx, .int .i64 e.la] 35 (0, 0)) := World.heap_alloc_new _ _
    have hw5 := hw4.trans (hA4.mono hw4.size)
    have hT5 := hT4.alloc (.cells #[.slice b e.ad.length cb, .slice d e.dl.length cd, .int .i64 e.lg, .int .i64 e.nx, .int .i64 e.la] 35)
    have hI5 := hI4.alloc (.cells #[.slice b e.ad.length cb, .slice d e.dl.length cd, .int .i64 e.lg, .int .i64 e.nx, .int .i64 e.la] 35)
    obtain ⟨e0, e1, e2, e3, e4⟩ := five_cells hE4
    have HSp := hd (HSE.out z b cb d cd e B _ hw5 (by omega) (by rw [size_alloc]; exact hB4) hT5 hI5 hsm)
    clear hT4 hI4 hb4 hA4 hE4 hT5 hI5 HSE HE HV HT HST hw4 hX hA ht ht3 x0 x1 x2 x3
    go_wp2_with fail
    refine HSp.out.mono ?_
    rintro r w6 ⟨b6, cb6, d6, cd6, e6, rfl, hsm6, hT6, hI6, hb6⟩
    have hw6 := hw5.trans (hb6.mono hBw)
    obtain ⟨z1, z2⟩ := smE_fr hsm6
    have hl1 := hsm6.1
    have hl2 := hsm6.2.1
    have HEn := hd (specEncEd_any b6 cb6 d6 cd6 e6 w6 hT6 hsm6.2.2 hI6 (by omega) (by omega))
    have HFr := hd (fun w' => specFrame_any 77 (edT e6) w' (by unfold maxLen; omega))
    go_wp2_with fail
    refine HEn.out.mono ?_
    rintro r w7 ⟨rfl, hb7⟩
    have hw7 := hw6.trans (hb7.mono hw6.size)
    go_wp2_with fail
    refine (HFr.out _).mono ?_
    rintro r w8 ⟨rfl, hb8⟩
    have hw8 := hw7.trans (hb8.mono hw7.size)
    have u1 : ¬ 9223372036854775807 < s.size + (frT 77 (edT e6)).size := by omega
    go_wp2_with fail
    go_ret
    refine ⟨_, rfl, ?_, hw8⟩
    rw [ByteArray.size_append]
    omega
  · go_wp2_with fail
    refine (HST.out q s _ hw3 (by omega) (by omega)).mono ?_
    rintro e w4 ⟨u, hu, rfl, hb4⟩
    go_wp2_with fail
    go_ret
    exact ⟨_, rfl, by omega, hw3.trans (hb4.mono hw3.size)⟩
  · have u1 : ¬ 9223372036854775807 < s.size + 4 := by omega
    go_wp2_with fail
    go_ret
    refine ⟨_, rfl, ?_, hw3⟩
    rw [ByteArray.size_append]
    show s.size + 4 ≤ _
    omega
  · have n6' : ((h : Int) == 6) = false := by simp; omega
    have n7' : ((h : Int) == 7) = false := by simp; omega
    have n8' : ((h : Int) == 8) = false := by simp; omega
    go_wp2_with fail
    go_ret
    exact ⟨_, rfl, by omega, hw3⟩
end Go.Proofs.YtgpjhlhjdafjlaaGreatDoor
