import Derived.Test.YtgennghhneckeaaSyE
namespace Go.Proofs.Ytgennghhneckeaa
open Go.RowKit Go.Maps
set_option linter.unusedVariables false
set_option linter.unusedSimpArgs false

def afP (bs : List UInt8) : Nat := 1 + 1 + 3 * dfN bs 1 + 1
/-- The directory that is drawn, spoilt or not. -/
def anyO (bs : List UInt8) : List Fl × Int × Int :=
  if 8 ≤ tk bs 0 10 then spo (tk bs (afP bs) 11) (tk bs (afP bs + 1) 2) (wo (dfX bs 1) ⟨#[]⟩) (qOf (dfA bs 1) (datas (dfX bs 1))) (fOf (dfA bs 1))
  else (dfX bs 1, qOf (dfA bs 1) (datas (dfX bs 1)), fOf (dfA bs 1))
/-- Sizes of what is drawn. -/
def Mid (xs : List Fl) : Prop := xs.length ≤ 201 ∧ Fits xs ∧ datas xs ≤ 1048577
theorem fits_app {xs ys : List Fl} (h1 : Fits xs) (h2 : Fits ys) : Fits (xs ++ ys) := fun f hf => by
  rcases List.mem_append.1 hf with h | h
  · exact h1 f h
  · exact h2 f h
theorem datas_app (xs ys : List Fl) : datas (xs ++ ys) = datas xs + datas ys := by simp [datas]
theorem datas_cons (f : Fl) (xs : List Fl) : datas (f :: xs) = f.dt.size + datas xs := by simp [datas]
theorem fits_one {f : Fl} (h1 : f.nm.size ≤ 1000000) (h2 : f.dt.size ≤ 2000000) : Fits [f] := fun g hg => by
  simp at hg
  subst hg
  unfold maxLen
  omega
theorem many_mid (n : Nat) (h : n ≤ 201) : Mid (many n) := by
  refine ⟨by simpa [many] using h, fun f hf => ?_, ?_⟩
  · simp only [many, List.mem_map] at hf
    obtain ⟨i, -, rfl⟩ := hf
    have := padB_size i
    simp only [fl1, ByteArray.size_append]
    have e1 : (⟨#[102]⟩ : ByteArray).size = 1 := rfl
    have e2 : ByteArray.empty.size = 0 := rfl
    unfold maxLen
    omega
  · have : datas (many n) = 0 := by
      have e : ∀ l : List Nat, ((l.map fun i => fl1 (⟨#[102]⟩ ++ padB i)).map fun f => f.dt.size).sum = 0 := by
        intro l
        induction l with
        | nil => rfl
        | cons i l ih =>
          simp only [List.map_cons, List.sum_cons, ih]
          rfl
      exact e _
    omega
theorem sml_mid {xs : List Fl} (h : Sml xs) (hl : xs.length ≤ 6) : Mid xs := ⟨by omega, h.fits, by have := sml_datas h; omega⟩
theorem spo_mid (A x : Nat) (xs : List Fl) (q fu : Int) (h : Sml xs) (hl : xs.length ≤ 6) (hx : x < 2) : Mid (spo A x xs q fu).1 := by
  have hm := sml_mid h hl
  have hd := sml_datas h
  unfold spo
  split
  · exact hm
  · exact hm
  · exact hm
  · exact ⟨by simp; omega, fits_app hm.2.1 (fits_one (by decide) (by decide)), by rw [datas_app]; simp only [datas, List.map_cons, List.map_nil, List.sum_cons, List.sum_nil] at hd ⊢; have e : (fl1 ⟨#[97]⟩).dt.size = 0 := rfl; omega⟩
  · cases xs with
    | nil => exact hm
    | cons f r =>
      refine ⟨hm.1, fun g hg => ?_, ?_⟩
      · simp only [hd4, List.mem_cons] at hg
        rcases hg with rfl | hg
        · exact hm.2.1 f (by simp)
        · exact hm.2.1 g (by simp [hg])
      · have := hm.2.2
        rw [datas_cons] at this
        show datas (hd4 x (f :: r)) ≤ _
        simp only [hd4]
        rw [datas_cons]
        exact this
  · cases xs with
    | nil => exact hm
    | cons f r =>
      refine ⟨hm.1, fun g hg => ?_, ?_⟩
      · simp only [hd5, List.mem_cons] at hg
        rcases hg with rfl | hg
        · exact hm.2.1 f (by simp)
        · exact hm.2.1 g (by simp [hg])
      · have := hm.2.2
        rw [datas_cons] at this
        show datas (hd5 (f :: r)) ≤ _
        simp only [hd5]
        rw [datas_cons]
        exact this
  · refine ⟨by simp; omega, fits_app (xs := [fl1 ⟨#[]⟩]) (fits_one (by decide) (by decide)) hm.2.1, ?_⟩
    show datas (fl1 ⟨#[]⟩ :: xs) ≤ _
    rw [datas_cons]
    have e : (fl1 ⟨#[]⟩).dt.size = 0 := rfl
    omega
  · have e1 : (⟨#[122]⟩ ++ rep (119 + x) ⟨#[122]⟩ : ByteArray).size = 1 + (119 + x) := by rw [ByteArray.size_append, rep_size _ _ rfl]; rfl
    refine ⟨by simp; omega, fits_app hm.2.1 (fits_one (by show (⟨#[122]⟩ ++ rep (119 + x) ⟨#[122]⟩ : ByteArray).size ≤ _; omega) (by show ByteArray.empty.size ≤ _; decide)), ?_⟩
    show datas (xs ++ [fl1 (⟨#[122]⟩ ++ rep (119 + x) ⟨#[122]⟩)]) ≤ _
    rw [datas_app, datas_cons]
    have e2 : (fl1 (⟨#[122]⟩ ++ rep (119 + x) ⟨#[122]⟩)).dt.size = 0 := rfl
    have e3 : datas [] = 0 := rfl
    omega
  · exact many_mid _ (by omega)
  · exact many_mid _ (by omega)
  · have e1 := rep_size (1048566 + x * 11) ⟨#[98]⟩ rfl
    refine ⟨by simp, fits_one (by show (⟨#[98, 105, 103]⟩ : ByteArray).size ≤ _; decide) (by show (rep (1048566 + x * 11) ⟨#[98]⟩).size ≤ _; omega), ?_⟩
    show datas [⟨⟨#[98, 105, 103]⟩, rep (1048566 + x * 11) ⟨#[98]⟩, 0⟩] ≤ _
    rw [datas_cons]
    have e3 : datas [] = 0 := rfl
    simp only
    omega
theorem dfX_small (bs : List UInt8) (p : Nat) : Sml (dfX bs p) ∧ (dfX bs p).length ≤ 6 := by
  refine ⟨dfL_small _ _ _, ?_⟩
  have h1 := dfL_len bs (p + 1) (dfN bs p)
  have h2 : dfN bs p < 7 := tk_lt bs p 7 (by omega)
  unfold dfX
  omega
theorem anyO_mid (bs : List UInt8) : Mid (anyO bs).1 := by
  obtain ⟨h1, h2⟩ := dfX_small bs 1
  unfold anyO
  split
  · exact spo_mid _ _ _ _ _ (fun f hf => h1 f (wo_mem hf).1) (Nat.le_trans (wo_length _ _) h2) (tk_lt _ _ _ (by omega))
  · exact sml_mid h1 h2

set_option maxRecDepth 100000 in
set_option maxHeartbeats 2000000 in
theorem l1AnyFS_any (a : Option Addr) (cap : Nat) (bs : List UInt8) (w : World) (hx : LieB w a bs) (hl : bs.length ≤ 1048576) :
    Calls Try.prog 13 #[.slice a bs.length cap, .int .i64 0] w fun e w' => ∃ (p' : Nat) (a' : Option Addr) (cap' : Nat), e = .returned (.tuple #[.agg #[.slice a' (anyO bs).1.length cap', .int .i64 (anyO bs).2.1, .int .i64 (anyO bs).2.2], .int .i64 p']) ∧ p' ≤ 100 ∧ Res w' w.heap.size a' cap' (anyO bs).1 ∧ Below w.heap.size w w' := by
  have HT := hd0 (fun (w' : World) (hb : Below w.heap.size w w') => l1Take_tk a cap bs 0 10 w' (hx.below hb) hl (by omega) (by omega))
  have HD := hd0 (fun (w' : World) (hb : Below w.heap.size w w') => l1DrawFS_df a cap bs 1 w' (hx.below hb) hl (by omega))
  have hn7 : dfN bs 1 < 7 := tk_lt bs 1 7 (by omega)
  have HSp := hd0 (fun (w' : World) (af : Option Addr) (cf : Nat) (hb : Below w.heap.size w w') (hX : Lie w' af (dfX bs 1)) => l1SpoilFS_sp a cap bs (afP bs) af cf (dfX bs 1) (qOf (dfA bs 1) (datas (dfX bs 1))) (fOf (dfA bs 1)) w' (hx.below hb) hl (by unfold afP; omega) hX (dfX_small bs 1).2 (dfX_small bs 1).1 _ rfl)
  have EAny : Hid (anyO bs = if 8 ≤ tk bs 0 10 then spo (tk bs (afP bs) 11) (tk bs (afP bs + 1) 2) (wo (dfX bs 1) ⟨#[]⟩) (qOf (dfA bs 1) (datas (dfX bs 1))) (fOf (dfA bs 1)) else (dfX bs 1, qOf (dfA bs 1) (datas (dfX bs 1)), fOf (dfA bs 1))) := rfl
  generalize spo (tk bs (afP bs) 11) (tk bs (afP bs + 1) 2) (wo (dfX bs 1) ⟨#[]⟩) (qOf (dfA bs 1) (datas (dfX bs 1))) (fOf (dfA bs 1)) = SP at *
  generalize qOf (dfA bs 1) (datas (dfX bs 1)) = QQ at *
  generalize fOf (dfA bs 1) = FF at *
  generalize dfX bs 1 = X at *
  have EP : Hid (afP bs = 1 + 1 + 3 * dfN bs 1 + 1) := rfl
  generalize afP bs = P at *
  generalize dfN bs 1 = n at *
  generalize anyO bs = O at *
  generalize tk bs 0 10 = h at *
  generalize bs.length = len at *
  clear hx
  have hb0 := new_below w (.cells #[.slice none 0 0, .int .i64 0, .int .i64 0] 25)
  have bR0 := Box.new w 25 (.slice none 0 0) (.int .i64 0) (.int .i64 0)
  go_enter Try.func13, Try.ntmps13
  go_wp2_with fail
  refine (HT.out _ hb0).mono ?_
  rintro e w1 ⟨rfl, hb1⟩
  have hbw1 := hb0.trans (hb1.mono hb0.size)
  have bR1 := bR0.below hb1
  clear hb0 hb1 bR0
  go_wp2_with fail
  refine (HD.out _ hbw1).mono ?_
  rintro e w2 ⟨a2, c2, rfl, hX2, hb2⟩
  have hri2 := hX2.ri
  have hbn := new_below w2 (.cells #[.slice a2 X.length c2, .int .i64 QQ, .int .i64 FF] 25)
  have hbw2 := (hbw1.trans (hb2.mono hbw1.size))
  have hbw3 := hbw2.trans (hbn.mono hbw2.size)
  have bR3 := (bR1.below hb2).below hbn
  have bP3 := Box.new w2 25 (.slice a2 X.length c2) (.int .i64 QQ) (.int .i64 FF)
  have hri3 := hri2.below hbn
  have hX3 := hri3.lie
  have hR2 := (bR1.below hb2).lt
  have hR1 := bR1.lt
  clear hbw1 bR1 hb2 hX2 hri2
  rw [← EP.out]
  go_upto_region 4 with fail
  generalize w2.alloc (.cells #[.slice a2 X.length c2, .int .i64 QQ, .int .i64 FF] 25) = w3 at *
  obtain ⟨⟨c0, c1, c2'⟩, z0, z1, z2⟩ := three_cells bP3
  obtain ⟨⟨r0, r1, r2⟩, y0, y1, y2⟩ := three_cells bR3
  have hP3 := bP3.lt
  have hR3 := bR3.lt
  have n1 : w.heap.size ≠ w2.heap.size := by omega
  have n2 : w2.heap.size ≠ w.heap.size := by omega
  have hPb : P ≤ 50 := by have := EP.out; omega
  by_cases h8 : 8 ≤ h
  · have h8' : (8 : Int) ≤ h := by omega
    have HOO : Hid (O = SP) := by show _ = _; rw [EAny.out, if_pos h8]
    obtain rfl : O = SP := HOO.out
    clear HOO EAny
    go_wp2_with fail
    refine (HSp.out _ a2 c2 hbw3 hX3).mono ?_
    rintro e w4 ⟨a4, c4, rfl, hX4, hb4⟩
    obtain ⟨⟨r0, r1, r2⟩, y0, y1, y2⟩ := three_cells (bR3.below hb4)
    have hR4 := (bR3.below hb4).lt
    have hbw4 := hbw3.trans (hb4.mono hbw3.size)
    clear hX3
    go_wp2_with fail
    have hri4 := hX4.ri
    refine bodyPost_ret (v := .tuple #[.agg #[.slice a4 O.1.length c4, .int .i64 O.2.1, .int .i64 O.2.2], .int .i64 ((P + 2 : Nat) : Int)]) (by simp [results, Try.results13, go_sem, r0, r1, r2, n1, n2]) rfl ⟨P + 2, a4, c4, rfl, by omega, ?_, ?_⟩
    · exact (((hri4.far w.heap.size 0 _ (by omega)).far w.heap.size 1 _ (by omega)).far w.heap.size 2 _ (by omega)).res.down (by omega)
    · exact ((hbw4.setCell (p := ⟨w.heap.size, 0, none⟩) (by exact Nat.le_refl _) _).setCell (p := ⟨w.heap.size, 1, none⟩) (by exact Nat.le_refl _) _).setCell (p := ⟨w.heap.size, 2, none⟩) (by exact Nat.le_refl _) _
  · have h8' : ¬ (8 : Int) ≤ h := by omega
    have HOO : Hid (O = (X, QQ, FF)) := by show _ = _; rw [EAny.out, if_neg h8]
    obtain rfl : O = (X, QQ, FF) := HOO.out
    clear HOO EAny
    go_wp2_with fail
    refine bodyPost_ret (v := .tuple #[.agg #[.slice a2 X.length c2, .int .i64 QQ, .int .i64 FF], .int .i64 (P : Int)]) (by simp [results, Try.results13, go_sem, r0, r1, r2, c0, c1, c2', n1, n2]) rfl ⟨P, a2, c2, rfl, by omega, ?_, ?_⟩
    · exact (((hri3.far w.heap.size 0 _ (by omega)).far w.heap.size 1 _ (by omega)).far w.heap.size 2 _ (by omega)).res.down (by omega)
    · exact ((hbw3.setCell (p := ⟨w.heap.size, 0, none⟩) (by exact Nat.le_refl _) _).setCell (p := ⟨w.heap.size, 1, none⟩) (by exact Nat.le_refl _) _).setCell (p := ⟨w.heap.size, 2, none⟩) (by exact Nat.le_refl _) _
end Go.Proofs.Ytgennghhneckeaa
namespace Go.Proofs.Ytgennghhneckeaa
open Go.RowKit Go.Maps
set_option linter.unusedVariables false
set_option linter.unusedSimpArgs false

set_option maxRecDepth 100000 in
set_option maxHeartbeats 2000000 in
theorem l1SomeName_any (a : Option Addr) (cap : Nat) (bs : List UInt8) (p : Nat) (af : Option Addr) (cf : Nat) (X : List Fl) (q fu : Int) (w : World) (hx : LieB w a bs) (hl : bs.length ≤ 1048576) (hp : p ≤ 50000) (hX : Lie w af X) (hlX : X.length ≤ 201) :
    Calls Try.prog 14 #[.slice a bs.length cap, .int .i64 p, .agg #[.slice af X.length cf, .int .i64 q, .int .i64 fu]] w fun e w' => ∃ (nm : ByteArray) (p' : Nat), e = .returned (.tuple #[.string nm, .int .i64 p']) ∧ p' ≤ p + 3 ∧ Below w.heap.size w w' := by
  have HT := hd0 (fun (w' : World) (q n : Nat) (hb : Below w.heap.size w w') (h1 : q ≤ 1000000) (h2 : n ≤ 2000000) => l1Take_tk a cap bs q n w' (hx.below hb) hl h1 h2)
  have HN := hd0 (fun (w' : World) (hb : Below w.heap.size w w') => l1DrawName_dn a cap bs (p + 1 + 1) w' (hx.below hb) hl (by omega))
  have hA := tk_lt bs p 10 (by omega)
  have hB : Hid (0 < X.length → tk bs (p + 1) X.length < X.length) := fun h => tk_lt bs (p + 1) X.length h
  have hb0 := new_below w (.cells #[.slice af X.length cf, .int .i64 q, .int .i64 fu] 25)
  have bP0 := Box.new w 25 (.slice af X.length cf) (.int .i64 q) (.int .i64 fu)
  generalize bs.length = len at *
  clear hx
  go_enter Try.func14, Try.ntmps14
  go_wp2_with fail
  refine (HT.out _ p 10 hb0 (by omega) (by omega)).mono ?_
  rintro e w1 ⟨rfl, hb1⟩
  have hbw1 := hb0.trans (hb1.mono hb0.size)
  have bP1 := bP0.below hb1
  clear hb0 hb1 bP0
  obtain ⟨c0, c1, c2⟩ := bP1.cells
  go_wp2_with fail
  refine (HT.out _ (p + 1) X.length hbw1 (by omega) (by omega)).mono ?_
  rintro e w2 ⟨rfl, hb2⟩
  have hbw2 := hbw1.trans (hb2.mono hbw1.size)
  have bP2 := bP1.below hb2
  have hX2 := hX.below hbw2
  clear hbw1 hb2 bP1 c0 c1 c2 HT hX
  obtain ⟨c0, c1, c2⟩ := bP2.cells
  generalize tk bs p 10 = A at *
  generalize tk bs (p + 1) X.length = B at *
  have hBb : (B : Int) ≤ 2000000 ∨ True := .inr trivial
  clear hBb
  by_cases hA7 : A < 7
  · have hA7' : (A : Int) < 7 := by omega
    by_cases hl0 : 0 < X.length
    · have hb := hB.out hl0
      have hl0' : (0 : Int) < X.length := by omega
      have hb' : (B : Int) < X.length := by omega
      obtain ⟨b, off, rfl, hbl, t0, t1, t2⟩ := hX2.at hb
      generalize X.getD B fl0 = f at *
      clear hB
      go_wp2_with fail
      go_ret2
      exact ⟨f.nm, p + 1 + 1, rfl, by omega, hbw2⟩
    · have hl0' : X.length = 0 := by omega
      have hXe : X = [] := List.eq_nil_of_length_eq_zero hl0'
      subst hXe
      have hne7 : ¬ (A : Int) = 7 := by omega
      have hne8 : ¬ (A : Int) = 8 := by omega
      clear hB
      go_wp2_with fail
      refine (HN.out _ hbw2).mono ?_
      rintro e w3 ⟨rfl, hb3⟩
      go_wp2_with fail
      go_ret2
      exact ⟨_, p + 1 + 1 + 1, rfl, by omega, hbw2.trans (hb3.mono hbw2.size)⟩
  · have h3 : A = 7 ∨ A = 8 ∨ A = 9 := by omega
    clear hA hA7
    rcases h3 with rfl | rfl | rfl
    · go_wp2_with fail
      go_ret2
      exact ⟨_, p + 1 + 1, rfl, by omega, hbw2⟩
    · have m0 : (0 : Int) ≤ (B : Int) % 2 := Int.emod_nonneg _ (by omega)
      have m1 : (B : Int) % 2 < 2 := Int.emod_lt_of_pos _ (by omega)
      have HLg := hd0 (l1Long_rep (120 + B % 2) ⟨#[113]⟩ w2 rfl (by omega))
      go_wp2_with fail
      refine HLg.out.mono ?_
      rintro e w3 ⟨rfl, hb3⟩
      go_wp2_with fail
      go_ret2
      exact ⟨_, p + 1 + 1, rfl, by omega, hbw2.trans (hb3.mono hbw2.size)⟩
    · go_wp2_with fail
      refine (HN.out _ hbw2).mono ?_
      rintro e w3 ⟨rfl, hb3⟩
      go_wp2_with fail
      go_ret2
      exact ⟨_, p + 1 + 1 + 1, rfl, by omega, hbw2.trans (hb3.mono hbw2.size)⟩

set_option maxRecDepth 100000 in
set_option maxHeartbeats 2000000 in
theorem drawAppend_any (a : Option Addr) (cap : Nat) (bs : List UInt8) (w : World) (hx : LieB w a bs) (hl : bs.length ≤ 1048576) :
    Calls Try.prog 4 #[.slice a bs.length cap] w fun e w' => ∃ (nm t : ByteArray) (a' : Option Addr) (cap' : Nat), e = .returned (.tuple #[.agg #[.slice a' (anyO bs).1.length cap', .int .i64 (anyO bs).2.1, .int .i64 (anyO bs).2.2], .string nm, .string t]) ∧ t.size < 16 ∧ Res w' w.heap.size a' cap' (anyO bs).1 ∧ Below w.heap.size w w' := by
  have HA := hd0 (fun (w' : World) (hb : Below w.heap.size w w') => l1AnyFS_any a cap bs w' (hx.below hb) hl)
  have hmid := (anyO_mid bs).1
  have HSn := hd0 (fun (w' : World) (p : Nat) (af : Option Addr) (cf : Nat) (hb : Below w.heap.size w w') (hp : p ≤ 50000) (hX : Lie w' af (anyO bs).1) => l1SomeName_any a cap bs p af cf (anyO bs).1 (anyO bs).2.1 (anyO bs).2.2 w' (hx.below hb) hl hp hX hmid)
  have HT := hd0 (fun (w' : World) (q : Nat) (hb : Below w.heap.size w w') (h1 : q ≤ 1000000) => l1Take_tk a cap bs q 16 w' (hx.below hb) hl h1 (by omega))
  have HTL := hd0 (fun q => tk_lt bs q 16 (by omega))
  have HLg := hd0 (fun (n : Nat) (w' : World) (h : n ≤ 2000000) => l1Long_rep n ⟨#[119]⟩ w' rfl h)
  have HRs := hd0 (fun n => rep_size n ⟨#[119]⟩ rfl)
  generalize anyO bs = O at *
  generalize bs.length = len at *
  clear hx
  have hb0 := new_below w (.cells #[.slice none 0 0, .int .i64 0, .int .i64 0] 25)
  have bR0 := Box.new w 25 (.slice none 0 0) (.int .i64 0) (.int .i64 0)
  go_enter Try.func4, Try.ntmps4
  go_wp2_with fail
  refine (HA.out _ hb0).mono ?_
  rintro e w2 ⟨p2, a2, c2, rfl, hp2, hX2, hb2⟩
  have hri2 := hX2.ri
  have hbw2 := hb0.trans (hb2.mono hb0.size)
  have bR2 := bR0.below hb2
  have hR2 := bR2.lt
  have hs2 := hb2.size
  have hs1 : w.heap.size < (w.alloc (.cells #[.slice none 0 0, .int .i64 0, .int .i64 0] 25)).heap.size := by simp
  have hbn := new_below w2 (.cells #[.slice a2 O.1.length c2, .int .i64 O.2.1, .int .i64 O.2.2] 25)
  have hbw3 := hbw2.trans (hbn.mono hbw2.size)
  have bR3 := bR2.below hbn
  have bP3 := Box.new w2 25 (.slice a2 O.1.length c2) (.int .i64 O.2.1) (.int .i64 O.2.2)
  have hri3 := (hri2.below hbn).down (lo' := w.heap.size + 1) (by omega)
  clear hb0 hb2 bR0 hX2 hri2 bR2 hbw2
  go_upto_region 2 with fail
  generalize w2.alloc (.cells #[.slice a2 O.1.length c2, .int .i64 O.2.1, .int .i64 O.2.2] 25) = w3 at *
  obtain ⟨c0, c1, c2'⟩ := bP3.cells
  go_wp2_with fail
  refine (HSn.out _ p2 a2 c2 hbw3 (by omega) hri3.lie).mono ?_
  rintro e w4 ⟨nm, p4, rfl, hp4, hb4⟩
  have hbw4 := hbw3.trans (hb4.mono hbw3.size)
  have bP4 := bP3.below hb4
  have bR4 := bR3.below hb4
  have hri4 := hri3.below hb4
  clear hb4 hbw3 bP3 bR3 hri3 c0 c1 c2' hbn
  go_wp2_with fail
  refine (HT.out _ p4 hbw4 (by omega)).mono ?_
  rintro e w5 ⟨rfl, hb5⟩
  have hbw5 := hbw4.trans (hb5.mono hbw4.size)
  have bP5 := bP4.below hb5
  have bR5 := bR4.below hb5
  have hri5 := hri4.below hb5
  have hn16 := HTL.out p4
  generalize tk bs p4 16 = n at *
  clear hb5 hbw4 bP4 bR4 hri4
  have hP5 := bP5.lt
  have hR5 := bR5.lt
  obtain ⟨⟨c0, c1, c2'⟩, -⟩ := three_cells bP5
  have HLn := hd0 (HLg.out n w5.drew (by omega))
  have hts := HRs.out n
  generalize rep n ⟨#[119]⟩ = t at *
  have n1 : w.heap.size ≠ w2.heap.size := by omega
  have n2 : w2.heap.size ≠ w.heap.size := by omega
  have BR := hd0 bR5
  clear bR5 bP5
  go_upto_region 4 with fail
  go_region_held3 (fun w' => w'.cell? ⟨w2.heap.size, 0, none⟩ = some (.slice a2 O.1.length c2) ∧ w'.cell? ⟨w2.heap.size, 1, none⟩ = some (.int .i64 O.2.1) ∧ w'.cell? ⟨w2.heap.size, 2, none⟩ = some (.int .i64 O.2.2)) (simp [go_sem, *])
    (first | (go_at_call 16; refine HLn.out.mono ?_; rintro e w6 ⟨rfl, hb6⟩; have k0 := (hb6.cell (p := ⟨w2.heap.size, 0, none⟩) hP5).trans c0; have k1 := (hb6.cell (p := ⟨w2.heap.size, 1, none⟩) hP5).trans c1; have k2 := (hb6.cell (p := ⟨w2.heap.size, 2, none⟩) hP5).trans c2'; obtain ⟨⟨r0, r1, r2⟩, y0, y1, y2⟩ := three_cells (BR.out.below ((Below.refl _ w5).drew.trans hb6)); have HB6 := hd0 ((Below.refl _ w5).drew.trans hb6); have hs6 := HB6.out.size; clear hb6))
  have hri6 := hri5.below HB6.out
  have hbw6 := hbw5.trans (HB6.out.mono hbw5.size)
  go_wp2_with fail
  refine bodyPost_ret (v := .tuple #[.agg #[.slice a2 O.1.length c2, .int .i64 O.2.1, .int .i64 O.2.2], .string nm, .string t]) (by simp [results, Try.results4, go_sem, r0, r1, r2, n1, n2]) rfl ⟨nm, t, a2, c2, rfl, by omega, ?_, ?_⟩
  · exact (((hri6.far w.heap.size 0 _ (by omega)).far w.heap.size 1 _ (by omega)).far w.heap.size 2 _ (by omega)).res.down (by omega)
  · exact ((hbw6.setCell (p := ⟨w.heap.size, 0, none⟩) (by exact Nat.le_refl _) _).setCell (p := ⟨w.heap.size, 1, none⟩) (by exact Nat.le_refl _) _).setCell (p := ⟨w.heap.size, 2, none⟩) (by exact Nat.le_refl _) _
end Go.Proofs.Ytgennghhneckeaa
