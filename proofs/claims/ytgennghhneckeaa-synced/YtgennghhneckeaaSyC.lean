import Derived.Test.YtgennghhneckeaaSyX

import Derived.Deep.RegionLaw
namespace Go.Proofs.Ytgennghhneckeaa
open Go.RowKit Go.Maps
set_option linter.unusedVariables false
set_option linter.unusedSimpArgs false

def xyzB (b : Nat) : ByteArray := (⟨#[120, 121, 122]⟩ : ByteArray).extract (b % 3) (b % 3 + 1)
theorem xyzB_size (b : Nat) : (xyzB b).size = 1 := by
  unfold xyzB
  simp only [ByteArray.size_extract]
  have : (⟨#[120, 121, 122]⟩ : ByteArray).size = 3 := rfl
  omega
/-- The file that is drawn at a place. -/
def dfO (bs : List UInt8) (p : Nat) : Fl := ⟨dnB (tk bs p 12), rep (tk bs (p + 1) 20) (xyzB (tk bs (p + 2) 20)), ((tk bs (p + 2) 20 % (tk bs (p + 1) 20 + 1) : Nat) : Int)⟩
def dfL (bs : List UInt8) (p : Nat) : Nat → List Fl
  | 0 => []
  | k + 1 => wi (dfL bs p k) (dfO bs (p + 3 * k))
/-- Few and small files. -/
def Sml (xs : List Fl) : Prop := ∀ f ∈ xs, f.nm.size ≤ 7 ∧ f.dt.size ≤ 19
theorem dfO_small (bs : List UInt8) (p : Nat) : (dfO bs p).nm.size ≤ 7 ∧ (dfO bs p).dt.size ≤ 19 := by
  refine ⟨dnB_size _, ?_⟩
  have := tk_lt bs (p + 1) 20 (by omega)
  simp only [dfO, rep_size _ _ (xyzB_size _)]
  omega
theorem wi_small {xs : List Fl} {f : Fl} (h : Sml xs) (hf : f.nm.size ≤ 7 ∧ f.dt.size ≤ 19) : Sml (wi xs f) := fun g hg => by
  rcases ins_mem hg with rfl | hg
  · exact hf
  · exact h g (wo_mem hg).1
theorem dfL_small (bs : List UInt8) (p k : Nat) : Sml (dfL bs p k) := by
  induction k with
  | zero => exact fun f hf => by cases hf
  | succ k ih => exact wi_small ih (dfO_small bs _)
theorem dfL_len (bs : List UInt8) (p k : Nat) : (dfL bs p k).length ≤ k := by
  induction k with
  | zero => exact Nat.le_refl _
  | succ k ih => exact Nat.le_trans (wi_le _ _) (by omega)
theorem Sml.fits {xs : List Fl} (h : Sml xs) : Fits xs := fun f hf => by
  have := h f hf
  unfold maxLen
  omega
theorem sml_datas : ∀ {xs : List Fl}, Sml xs → datas xs ≤ 19 * xs.length
  | [], _ => Nat.le_refl _
  | f :: r, h => by
    have h1 := h f (by simp)
    have h2 := sml_datas (xs := r) (fun g hg => h g (by simp [hg]))
    unfold datas at h2 ⊢
    simp only [List.map_cons, List.sum_cons, List.length_cons]
    omega

def dfN (bs : List UInt8) (p : Nat) : Nat := tk bs p 7
/-- The directory that is drawn. -/
def dfX (bs : List UInt8) (p : Nat) : List Fl := dfL bs (p + 1) (dfN bs p)
def dfA (bs : List UInt8) (p : Nat) : Nat := tk bs (p + 1 + 3 * dfN bs p) 8
def qOf (a : Nat) (d : Nat) : Int := if a < 3 then (d + a * 3 : Nat) else if a = 3 then (d / 2 : Nat) else 200
def fOf (a : Nat) : Int := if a = 4 then 0 else if a = 5 then 5 else -1

theorem RI.down {w : World} {lo lo' hi cap : Nat} {a : Option Addr} {xs : List Fl} (h : RI w lo hi a cap xs) (hl : lo' ≤ lo) : RI w lo' hi a cap xs := by
  rcases h with h | ⟨g, h0, h1, h2⟩
  · exact .inl h
  · exact .inr ⟨g, h0, by omega, h2⟩
theorem Res.down {w : World} {lo lo' cap : Nat} {a : Option Addr} {xs : List Fl} (h : Res w lo a cap xs) (hl : lo' ≤ lo) : Res w lo' a cap xs := by
  rcases h with h | ⟨g, h0, h1, h2⟩
  · exact .inl h
  · exact .inr ⟨g, h0, by omega, h2⟩
theorem Box.set0 {w : World} {p : Nat} {t : TypeId} {x0 x1 x2 : Value} (h : Box w p t x0 x1 x2) (v : Value) : Box (w.setCell ⟨p, 0, none⟩ v) p t v x1 x2 := by
  unfold Box at h ⊢
  rw [heap_setCell_same _ _ _ _ _ _ h]
  rfl
theorem Box.set1 {w : World} {p : Nat} {t : TypeId} {x0 x1 x2 : Value} (h : Box w p t x0 x1 x2) (v : Value) : Box (w.setCell ⟨p, 1, none⟩ v) p t x0 v x2 := by
  unfold Box at h ⊢
  rw [heap_setCell_same _ _ _ _ _ _ h]
  rfl
theorem Box.set2 {w : World} {p : Nat} {t : TypeId} {x0 x1 x2 : Value} (h : Box w p t x0 x1 x2) (v : Value) : Box (w.setCell ⟨p, 2, none⟩ v) p t x0 x1 v := by
  unfold Box at h ⊢
  rw [heap_setCell_same _ _ _ _ _ _ h]
  rfl
theorem Box.far {w : World} {p : Nat} {t : TypeId} {x0 x1 x2 : Value} (h : Box w p t x0 x1 x2) (g o : Nat) (v : Value) (hg : p ≠ g) : Box (w.setCell ⟨g, o, none⟩ v) p t x0 x1 x2 := h.but (ex := [g]) (But.setCell w (by simp)) (by simpa using hg)
theorem RI.far {w : World} {lo hi cap : Nat} {a : Option Addr} {xs : List Fl} (h : RI w lo hi a cap xs) (g o : Nat) (v : Value) (hg : g < lo) : RI (w.setCell ⟨g, o, none⟩ v) lo hi a cap xs := h.but (ex := [g]) (But.setCell w (by simp)) (fun k hk => .inl (by simp at hk; omega))
theorem set_size (w : World) (a : Addr) (v : Value) : (w.setCell a v).heap.size = w.heap.size := by simp

set_option maxRecDepth 100000 in
set_option maxHeartbeats 2000000 in
theorem l1DrawFS_df (a : Option Addr) (cap : Nat) (bs : List UInt8) (p : Nat) (w : World) (hx : LieB w a bs) (hl : bs.length ≤ 1048576) (hp : p ≤ 50000) :
    Calls Try.prog 32 #[.slice a bs.length cap, .int .i64 p] w fun e w' => ∃ a' cap', e = .returned (.tuple #[.agg #[.slice a' (dfX bs p).length cap', .int .i64 (qOf (dfA bs p) (datas (dfX bs p))), .int .i64 (fOf (dfA bs p))], .int .i64 ((p + 1 + 3 * dfN bs p + 1 : Nat) : Int)]) ∧ Res w' w.heap.size a' cap' (dfX bs p) ∧ Below w.heap.size w w' := by
  have HT := hd0 (fun (w' : World) (q n : Nat) (hb : Below w.heap.size w w') (h1 : q ≤ 1000000) (h2 : n ≤ 2000000) => l1Take_tk a cap bs q n w' (hx.below hb) hl h1 h2)
  have HN := hd0 (fun (w' : World) (q : Nat) (hb : Below w.heap.size w w') (h1 : q ≤ 100000) => l1DrawName_dn a cap bs q w' (hx.below hb) hl h1)
  have hn7 : dfN bs p < 7 := tk_lt bs p 7 (by omega)
  have EN : Hid (tk bs p 7 = dfN bs p) := rfl
  have EA : Hid (tk bs (p + 1 + 3 * dfN bs p) 8 = dfA bs p) := rfl
  have hA8 : Hid (dfA bs p < 8) := tk_lt bs _ 8 (by omega)
  have EX : Hid (dfL bs (p + 1) (dfN bs p) = dfX bs p) := rfl
  have HS := hd0 (dfL_small bs (p + 1))
  have HL := hd0 (dfL_len bs (p + 1))
  generalize dfX bs p = X at *
  generalize dfA bs p = A at *
  generalize dfN bs p = n at *
  generalize bs.length = len at *
  clear hx
  obtain ⟨QQ, hQ⟩ : ∃ QQ, QQ = qOf A (datas X) := ⟨_, rfl⟩
  obtain ⟨FF, hF⟩ : ∃ FF, FF = fOf A := ⟨_, rfl⟩
  rw [← hQ, ← hF]
  replace hQ := hd0 hQ
  replace hF := hd0 hF
  have hb0 : Below w.heap.size w (w.alloc (.cells #[.slice none 0 0, .int .i64 0, .int .i64 0] 25)) := (Below.refl _ _).alloc (Nat.le_refl _) _
  have hR0 := World.heap_alloc_new w (.cells #[.slice none 0 0, .int .i64 0, .int .i64 0] 25)
  go_enter Try.func32, Try.ntmps32
  go_wp2_with fail
  refine (HT.out _ p 7 hb0 (by omega) (by omega)).mono ?_
  rw [EN.out]
  rintro e w1 ⟨rfl, hb1⟩
  have hw1 := hb0.trans (hb1.mono hb0.size)
  have hR1 := (hb1.block w.heap.size (by simp)).trans hR0
  have hs1 : w.heap.size < w1.heap.size := by have := hb1.size; simp at this; omega
  clear hb0 hb1 hR0
  go_wp2_with fail
  have HSZ := hd0 (xyzB_size)
  have HLg := hd0 l1Long_rep
  go_loopw [1, 6, 7, 10] (fun pv av bv iv wr => ∃ (k : Nat) (af : Option Addr) (cf : Nat), k ≤ n ∧ pv = .int .i64 ((p + 1 + 3 * k : Nat) : Int) ∧ iv = .int .i64 k ∧ Box wr w.heap.size 25 (.slice none 0 0) (.int .i64 0) (.int .i64 0) ∧ Box wr w1.heap.size 25 (.slice af (dfL bs (p + 1) k).length cf) (.int .i64 0) (.int .i64 (-1)) ∧ RI wr (w1.heap.size + 1) wr.heap.size af cf (dfL bs (p + 1) k) ∧ Below w.heap.size w wr) (fun _ _ _ iv _ => n - (intOf iv).toNat)
  case atStart =>
    have hn := new_below w1 (.cells #[.slice none 0 0, .int .i64 0, .int .i64 (-1)] 25)
    exact ⟨0, none, 0, Nat.zero_le _, by simp, rfl, (hn.block _ hs1).trans hR1, Box.new _ _ _ _ _, .inl rfl, hw1.trans (hn.mono hw1.size)⟩
  case round =>
    obtain ⟨k, af, cf, hk, rfl, rfl, bR, bP, hri, hbw⟩ := hrel
    have hPl := bP.lt
    by_cases hlt : k < n
    · have hlt' : (k : Int) < n := by omega
      go_wp2_with fail
      refine (HN.out _ (p + 1 + 3 * k) hbw (by omega)).mono ?_
      rintro e w2 ⟨rfl, hb2⟩
      have hbw2 := hbw.trans (hb2.mono hbw.size)
      go_wp2_with fail
      refine (HT.out _ (p + 1 + 3 * k + 1) 20 hbw2 (by omega) (by omega)).mono ?_
      rintro e w3 ⟨rfl, hb3⟩
      have hb23 := hb2.trans (hb3.mono hb2.size)
      have hbw3 := hbw2.trans (hb3.mono hbw2.size)
      go_wp2_with fail
      refine (HT.out _ (p + 1 + 3 * k + 1 + 1) 20 hbw3 (by omega) (by omega)).mono ?_
      rintro e w4 ⟨rfl, hb4⟩
      have hb24 := hb23.trans (hb4.mono hb23.size)
      have hbw4 := hbw3.trans (hb4.mono hbw3.size)
      clear hb2 hb3 hb4 hb23 hbw2 hbw3
      have EO : Hid (dfL bs (p + 1) (k + 1) = wi (dfL bs (p + 1) k) ⟨dnB (tk bs (p + 1 + 3 * k) 12), rep (tk bs (p + 1 + 3 * k + 1) 20) (xyzB (tk bs (p + 1 + 3 * k + 1 + 1) 20)), ((tk bs (p + 1 + 3 * k + 1 + 1) 20 % (tk bs (p + 1 + 3 * k + 1) 20 + 1) : Nat) : Int)⟩) := rfl
      have hx1 := tk_lt bs (p + 1 + 3 * k + 1) 20 (by omega)
      have hx2 := tk_lt bs (p + 1 + 3 * k + 1 + 1) 20 (by omega)
      have hnm := dnB_size (tk bs (p + 1 + 3 * k) 12)
      generalize dnB (tk bs (p + 1 + 3 * k) 12) = nm at *
      generalize tk bs (p + 1 + 3 * k + 1) 20 = x1 at *
      generalize tk bs (p + 1 + 3 * k + 1 + 1) 20 = x2 at *
      have m0 : (0 : Int) ≤ (x2 : Int) % 3 := Int.emod_nonneg _ (by omega)
      have m1 : (x2 : Int) % 3 < 3 := Int.emod_lt_of_pos _ (by omega)
      have m2 : (x2 : Int) % 3 + 1 ≤ 3 := by omega
      go_wp2_with fail
      refine (HLg.out x1 (xyzB x2) w4 (HSZ.out _) (by omega)).mono ?_
      rintro e w5 ⟨rfl, hb5⟩
      have hb25 := hb24.trans (hb5.mono hb24.size)
      have hbw5 := hbw4.trans (hb5.mono hbw4.size)
      clear hb5 hb24 hbw4
      have hsz := HSZ.out x2
      have hdt := rep_size x1 (xyzB x2) hsz
      generalize rep x1 (xyzB x2) = dt at *
      clear m0 m1 m2 hsz
      have bP5 := bP.below hb25
      have bR5 := bR.below hb25
      have hri5 := hri.below hb25
      have hl5 := (hri5.lie).below (Below.refl _ w5).drew
      have hfz := (HS.out k).fits
      have hln := HL.out k
      generalize dfL bs (p + 1) k = zs at *
      have hfn : nm.size ≤ maxLen := by unfold maxLen; omega
      have hlz : zs.length ≤ 1048576 := by omega
      have hs5 := hb25.size
      have hPl5 : w1.heap.size < w5.heap.size := by omega
      obtain ⟨⟨c0, c1, c2⟩, z0, z1, z2⟩ := three_cells bP5
      have ESY : Hid ((x2 : Int).tmod ((x1 : Int) + 1) = ((x2 % (x1 + 1) : Nat) : Int)) := rfl
      have hne : ¬ ((x1 : Int) + 1 = 0) := by omega
      have hw64 : IntKind.i64.wrap ((x1 : Int) + 1) = (x1 : Int) + 1 := by rw [IntKind.wrap_i64]; omega
      replace bP := hd0 bP
      replace bR := hd0 bR
      have HB25 := hd0 hb25
      clear hb25
      clear hri bP5 bR5 hln hri5
      go_upto_region 12 with fail
      have HW6 := hd0 (with_any af cf zs ⟨nm, dt, (x2 : Int).tmod ((x1 : Int) + 1)⟩ w5.drew hl5 hfz hfn hlz)
      have H0 := hd0 hPl5
      have HC0 := hd0 (c0)
      have HZ0 := hd0 (z0)
      go_region_law (go_simp; go_at_call 27; refine HW6.out.mono ?_; rintro e w6 ⟨a6, c6, rfl, hres6, hb6⟩; have k0 := (hb6.cell (p := ⟨w1.heap.size, 0, none⟩) H0.out).trans HC0.out; have k1 := (hb6.frozen (p := ⟨w1.heap.size, 0, none⟩) H0.out).trans HZ0.out; replace hres6 := hd0 hres6; replace hb6 := hd0 hb6)
      obtain ⟨Z, hZ⟩ : ∃ Z, Z = wi zs ⟨nm, dt, (x2 : Int).tmod ((x1 : Int) + 1)⟩ := ⟨_, rfl⟩
      have HZ : Hid (Z = dfL bs (p + 1) (k + 1)) := by
        show _ = _
        rw [EO.out, hZ, ESY.out]
      rw [← hZ] at hres6 ⊢
      clear hZ EO ESY HW6 k0 k1 HC0 HZ0 c0 c1 c2 z0 z1 z2 hl5 hfz
      have hbd : Below w5.heap.size w5 w5.drew := (Below.refl _ w5).drew
      have b5 : Below w5.heap.size w5 w6 := hbd.trans (hb6.out.mono hbd.size)
      have bP6 := ((bP.out.below HB25.out).below b5).set0 (.slice a6 Z.length c6)
      have bR6 := ((bR.out.below HB25.out).below b5).far w1.heap.size 0 (.slice a6 Z.length c6) (by omega)
      have hri6 := ((hres6.out.ri).down (lo' := w1.heap.size + 1) (by show w1.heap.size + 1 ≤ w5.heap.size; omega)).far w1.heap.size 0 (.slice a6 Z.length c6) (by omega)
      have hbw6 : Below w.heap.size w (w6.setCell ⟨w1.heap.size, 0, none⟩ (.slice a6 Z.length c6)) := (hbw5.trans (b5.mono hbw5.size)).setCell (p := ⟨w1.heap.size, 0, none⟩) (Nat.le_of_lt hs1) _
      have hz6 := set_size w6 ⟨w1.heap.size, 0, none⟩ (.slice a6 Z.length c6)
      rw [← hz6] at hri6
      generalize w6.setCell ⟨w1.heap.size, 0, none⟩ (.slice a6 Z.length c6) = w7 at *
      clear hres6 hb6 hz6 b5 hbd
      go_wp2_with fail
      refine ⟨⟨k + 1, a6, c6, by omega, by congr 1, by go_num, bR6, by rw [← HZ.out]; exact bP6, by rw [← HZ.out]; exact hri6, hbw6⟩, by simp [intOf]; omega⟩
    · have hkn : k = n := by omega
      subst hkn
      have hlt' : ¬ (k : Int) < k := by omega
      go_wp2_with fail
      refine (HT.out _ (p + 1 + 3 * k) 8 hbw (by omega) (by omega)).mono ?_
      rw [EA.out]
      rintro e w2 ⟨rfl, hb2⟩
      have hbw2 := hbw.trans (hb2.mono hbw.size)
      have bP2 := bP.below hb2
      have bR2 := bR.below hb2
      have hri2 := hri.below hb2
      have hsm := HS.out k
      have hln := HL.out k
      rw [EX.out] at bP2 hri2 hsm hln
      have hdz := sml_datas hsm
      have hs2 := hb2.size
      have hP2 := bP2.lt
      clear bP bR hri hb2 hbw EX EN EA HT HN HLg HSZ HS HL hsm
      obtain ⟨⟨c0, c1, c2⟩, z0, z1, z2⟩ := three_cells bP2
      go_upto_region 15 with fail
      clear c0 c1 c2 z0 z1 z2
      have bP3 := bP2.set1 (.int .i64 200)
      have bR3 := bR2.far w1.heap.size 1 (.int .i64 200) (by omega)
      have hri3 := hri2.far w1.heap.size 1 (.int .i64 200) (by omega)
      have hbw3 : Below w.heap.size w (w2.setCell ⟨w1.heap.size, 1, none⟩ (.int .i64 200)) := hbw2.setCell (p := ⟨w1.heap.size, 1, none⟩) (Nat.le_of_lt hs1) _
      generalize w2.setCell ⟨w1.heap.size, 1, none⟩ (.int .i64 200) = w3 at *
      clear bP2 bR2 hri2 hbw2 hP2 hs2
      have hP3 := bP3.lt
      have hR3 := bR3.lt
      have n1 : w.heap.size ≠ w1.heap.size := by omega
      have n2 : w1.heap.size ≠ w.heap.size := by omega
      have HTot := hd0 (fun (q : Int) => l1Total_any af cf X q (-1) w3 hri3.lie (by omega) (by omega))
      obtain ⟨⟨c0, c1, c2⟩, z0, z1, z2⟩ := three_cells bP3
      obtain ⟨⟨r0, r1, r2⟩, y0, y1, y2⟩ := three_cells bR3
      have h8 : A = 0 ∨ A = 1 ∨ A = 2 ∨ A = 3 ∨ A = 4 ∨ A = 5 ∨ A = 6 ∨ A = 7 := by have := hA8.out; omega
      clear hA8
      rcases h8 with rfl | rfl | rfl | rfl | rfl | rfl | rfl | rfl
      · go_wp2_with fail
        refine (HTot.out 200).mono ?_
        rintro e w4 ⟨rfl, hb4⟩
        obtain ⟨⟨c0, c1, c2⟩, z0, z1, z2⟩ := three_cells (bP3.below hb4)
        obtain ⟨⟨r0, r1, r2⟩, y0, y1, y2⟩ := three_cells (bR3.below hb4)
        have hri4 := hri3.below hb4
        have hbw4 := hbw3.trans (hb4.mono hbw3.size)
        have hP4 := Nat.lt_of_lt_of_le hP3 hb4.size
        have hR4 := Nat.lt_of_lt_of_le hR3 hb4.size
        have hQ' : QQ = (datas X : Int) := by rw [hQ.out]; rfl
        have hF' : FF = -1 := hF.out
        subst hQ' hF'
        clear hQ hF HTot hb4 hri3 hbw3 bP3 bR3
        go_wp2_with fail
        refine bodyPost_ret (v := .tuple #[.agg #[.slice af X.length cf, .int .i64 (datas X : Int), .int .i64 (-1)], .int .i64 ((p + 1 + 3 * k + 1 : Nat) : Int)]) (by simp [results, Try.results32, go_sem, r0, r1, r2, c0, c1, c2, n1, n2]) rfl ⟨af, cf, rfl, ?_, ?_⟩
        · exact ((((hri4.far w1.heap.size 1 _ (by omega)).far w.heap.size 0 _ (by omega)).far w.heap.size 1 _ (by omega)).far w.heap.size 2 _ (by omega)).res.down (by omega)
        · exact (((hbw4.setCell (p := ⟨w1.heap.size, 1, none⟩) (Nat.le_of_lt hs1) _).setCell (p := ⟨w.heap.size, 0, none⟩) (Nat.le_refl _) _).setCell (p := ⟨w.heap.size, 1, none⟩) (Nat.le_refl _) _).setCell (p := ⟨w.heap.size, 2, none⟩) (Nat.le_refl _) _
      · go_wp2_with fail
        refine (HTot.out 200).mono ?_
        rintro e w4 ⟨rfl, hb4⟩
        obtain ⟨⟨c0, c1, c2⟩, z0, z1, z2⟩ := three_cells (bP3.below hb4)
        obtain ⟨⟨r0, r1, r2⟩, y0, y1, y2⟩ := three_cells (bR3.below hb4)
        have hri4 := hri3.below hb4
        have hbw4 := hbw3.trans (hb4.mono hbw3.size)
        have hP4 := Nat.lt_of_lt_of_le hP3 hb4.size
        have hR4 := Nat.lt_of_lt_of_le hR3 hb4.size
        have hQ' : QQ = (datas X : Int) + 3 := by rw [hQ.out]; rfl
        have hF' : FF = -1 := hF.out
        subst hQ' hF'
        clear hQ hF HTot hb4 hri3 hbw3 bP3 bR3
        go_wp2_with fail
        refine bodyPost_ret (v := .tuple #[.agg #[.slice af X.length cf, .int .i64 ((datas X : Int) + 3), .int .i64 (-1)], .int .i64 ((p + 1 + 3 * k + 1 : Nat) : Int)]) (by simp [results, Try.results32, go_sem, r0, r1, r2, c0, c1, c2, n1, n2]) rfl ⟨af, cf, rfl, ?_, ?_⟩
        · exact ((((hri4.far w1.heap.size 1 _ (by omega)).far w.heap.size 0 _ (by omega)).far w.heap.size 1 _ (by omega)).far w.heap.size 2 _ (by omega)).res.down (by omega)
        · exact (((hbw4.setCell (p := ⟨w1.heap.size, 1, none⟩) (Nat.le_of_lt hs1) _).setCell (p := ⟨w.heap.size, 0, none⟩) (Nat.le_refl _) _).setCell (p := ⟨w.heap.size, 1, none⟩) (Nat.le_refl _) _).setCell (p := ⟨w.heap.size, 2, none⟩) (Nat.le_refl _) _
      · go_wp2_with fail
        refine (HTot.out 200).mono ?_
        rintro e w4 ⟨rfl, hb4⟩
        obtain ⟨⟨c0, c1, c2⟩, z0, z1, z2⟩ := three_cells (bP3.below hb4)
        obtain ⟨⟨r0, r1, r2⟩, y0, y1, y2⟩ := three_cells (bR3.below hb4)
        have hri4 := hri3.below hb4
        have hbw4 := hbw3.trans (hb4.mono hbw3.size)
        have hP4 := Nat.lt_of_lt_of_le hP3 hb4.size
        have hR4 := Nat.lt_of_lt_of_le hR3 hb4.size
        have hQ' : QQ = (datas X : Int) + 6 := by rw [hQ.out]; rfl
        have hF' : FF = -1 := hF.out
        subst hQ' hF'
        clear hQ hF HTot hb4 hri3 hbw3 bP3 bR3
        go_wp2_with fail
        refine bodyPost_ret (v := .tuple #[.agg #[.slice af X.length cf, .int .i64 ((datas X : Int) + 6), .int .i64 (-1)], .int .i64 ((p + 1 + 3 * k + 1 : Nat) : Int)]) (by simp [results, Try.results32, go_sem, r0, r1, r2, c0, c1, c2, n1, n2]) rfl ⟨af, cf, rfl, ?_, ?_⟩
        · exact ((((hri4.far w1.heap.size 1 _ (by omega)).far w.heap.size 0 _ (by omega)).far w.heap.size 1 _ (by omega)).far w.heap.size 2 _ (by omega)).res.down (by omega)
        · exact (((hbw4.setCell (p := ⟨w1.heap.size, 1, none⟩) (Nat.le_of_lt hs1) _).setCell (p := ⟨w.heap.size, 0, none⟩) (Nat.le_refl _) _).setCell (p := ⟨w.heap.size, 1, none⟩) (Nat.le_refl _) _).setCell (p := ⟨w.heap.size, 2, none⟩) (Nat.le_refl _) _
      · go_wp2_with fail
        refine (HTot.out 200).mono ?_
        rintro e w4 ⟨rfl, hb4⟩
        obtain ⟨⟨c0, c1, c2⟩, z0, z1, z2⟩ := three_cells (bP3.below hb4)
        obtain ⟨⟨r0, r1, r2⟩, y0, y1, y2⟩ := three_cells (bR3.below hb4)
        have hri4 := hri3.below hb4
        have hbw4 := hbw3.trans (hb4.mono hbw3.size)
        have hP4 := Nat.lt_of_lt_of_le hP3 hb4.size
        have hR4 := Nat.lt_of_lt_of_le hR3 hb4.size
        have hQ' : QQ = (datas X : Int) / 2 := by rw [hQ.out]; rfl
        have hF' : FF = -1 := hF.out
        subst hQ' hF'
        clear hQ hF HTot hb4 hri3 hbw3 bP3 bR3
        go_wp2_with fail
        refine bodyPost_ret (v := .tuple #[.agg #[.slice af X.length cf, .int .i64 ((datas X : Int) / 2), .int .i64 (-1)], .int .i64 ((p + 1 + 3 * k + 1 : Nat) : Int)]) (by simp [results, Try.results32, go_sem, r0, r1, r2, c0, c1, c2, n1, n2]) rfl ⟨af, cf, rfl, ?_, ?_⟩
        · exact ((((hri4.far w1.heap.size 1 _ (by omega)).far w.heap.size 0 _ (by omega)).far w.heap.size 1 _ (by omega)).far w.heap.size 2 _ (by omega)).res.down (by omega)
        · exact (((hbw4.setCell (p := ⟨w1.heap.size, 1, none⟩) (Nat.le_of_lt hs1) _).setCell (p := ⟨w.heap.size, 0, none⟩) (Nat.le_refl _) _).setCell (p := ⟨w.heap.size, 1, none⟩) (Nat.le_refl _) _).setCell (p := ⟨w.heap.size, 2, none⟩) (Nat.le_refl _) _
      · have hQ' : QQ = 200 := hQ.out
        have hF' : FF = 0 := hF.out
        subst hQ' hF'
        clear hQ hF HTot bP3 bR3
        go_wp2_with fail
        refine bodyPost_ret (v := .tuple #[.agg #[.slice af X.length cf, .int .i64 200, .int .i64 0], .int .i64 ((p + 1 + 3 * k + 1 : Nat) : Int)]) (by simp [results, Try.results32, go_sem, r0, r1, r2, c0, c1, c2, n1, n2]) rfl ⟨af, cf, rfl, ?_, ?_⟩
        · exact ((((hri3.far w1.heap.size 2 _ (by omega)).far w.heap.size 0 _ (by omega)).far w.heap.size 1 _ (by omega)).far w.heap.size 2 _ (by omega)).res.down (by omega)
        · exact (((hbw3.setCell (p := ⟨w1.heap.size, 2, none⟩) (Nat.le_of_lt hs1) _).setCell (p := ⟨w.heap.size, 0, none⟩) (Nat.le_refl _) _).setCell (p := ⟨w.heap.size, 1, none⟩) (Nat.le_refl _) _).setCell (p := ⟨w.heap.size, 2, none⟩) (Nat.le_refl _) _
      · have hQ' : QQ = 200 := hQ.out
        have hF' : FF = 5 := hF.out
        subst hQ' hF'
        clear hQ hF HTot bP3 bR3
        go_wp2_with fail
        refine bodyPost_ret (v := .tuple #[.agg #[.slice af X.length cf, .int .i64 200, .int .i64 5], .int .i64 ((p + 1 + 3 * k + 1 : Nat) : Int)]) (by simp [results, Try.results32, go_sem, r0, r1, r2, c0, c1, c2, n1, n2]) rfl ⟨af, cf, rfl, ?_, ?_⟩
        · exact ((((hri3.far w1.heap.size 2 _ (by omega)).far w.heap.size 0 _ (by omega)).far w.heap.size 1 _ (by omega)).far w.heap.size 2 _ (by omega)).res.down (by omega)
        · exact (((hbw3.setCell (p := ⟨w1.heap.size, 2, none⟩) (Nat.le_of_lt hs1) _).setCell (p := ⟨w.heap.size, 0, none⟩) (Nat.le_refl _) _).setCell (p := ⟨w.heap.size, 1, none⟩) (Nat.le_refl _) _).setCell (p := ⟨w.heap.size, 2, none⟩) (Nat.le_refl _) _
      · have hQ' : QQ = 200 := hQ.out
        have hF' : FF = -1 := hF.out
        subst hQ' hF'
        clear hQ hF HTot bP3 bR3
        go_wp2_with fail
        refine bodyPost_ret (v := .tuple #[.agg #[.slice af X.length cf, .int .i64 200, .int .i64 (-1)], .int .i64 ((p + 1 + 3 * k + 1 : Nat) : Int)]) (by simp [results, Try.results32, go_sem, r0, r1, r2, c0, c1, c2, n1, n2]) rfl ⟨af, cf, rfl, ?_, ?_⟩
        · exact (((hri3.far w.heap.size 0 _ (by omega)).far w.heap.size 1 _ (by omega)).far w.heap.size 2 _ (by omega)).res.down (by omega)
        · exact ((hbw3.setCell (p := ⟨w.heap.size, 0, none⟩) (Nat.le_refl _) _).setCell (p := ⟨w.heap.size, 1, none⟩) (Nat.le_refl _) _).setCell (p := ⟨w.heap.size, 2, none⟩) (Nat.le_refl _) _
      · have hQ' : QQ = 200 := hQ.out
        have hF' : FF = -1 := hF.out
        subst hQ' hF'
        clear hQ hF HTot bP3 bR3
        go_wp2_with fail
        refine bodyPost_ret (v := .tuple #[.agg #[.slice af X.length cf, .int .i64 200, .int .i64 (-1)], .int .i64 ((p + 1 + 3 * k + 1 : Nat) : Int)]) (by simp [results, Try.results32, go_sem, r0, r1, r2, c0, c1, c2, n1, n2]) rfl ⟨af, cf, rfl, ?_, ?_⟩
        · exact (((hri3.far w.heap.size 0 _ (by omega)).far w.heap.size 1 _ (by omega)).far w.heap.size 2 _ (by omega)).res.down (by omega)
        · exact ((hbw3.setCell (p := ⟨w.heap.size, 0, none⟩) (Nat.le_refl _) _).setCell (p := ⟨w.heap.size, 1, none⟩) (Nat.le_refl _) _).setCell (p := ⟨w.heap.size, 2, none⟩) (Nat.le_refl _) _
end Go.Proofs.Ytgennghhneckeaa
