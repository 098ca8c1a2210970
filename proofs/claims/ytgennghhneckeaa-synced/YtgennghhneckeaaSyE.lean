import Derived.Test.YtgennghhneckeaaSyD

namespace Go.Proofs.Ytgennghhneckeaa
open Go.RowKit Go.Maps
set_option linter.unusedVariables false
set_option linter.unusedSimpArgs false

def fl1 (n : ByteArray) : Fl := ⟨n, ByteArray.empty, 0⟩
def many (n : Nat) : List Fl := (List.range n).map fun i => fl1 (⟨#[102]⟩ ++ padB i)
def hd4 (x : Nat) : List Fl → List Fl
  | [] => []
  | f :: r => ⟨f.nm, f.dt, (f.dt.size : Int) + x⟩ :: r
def hd5 : List Fl → List Fl
  | [] => []
  | f :: r => ⟨f.nm, f.dt, -1⟩ :: r
/-- What a spoilt directory has, by the number of the case. -/
def spo (A x : Nat) (xs : List Fl) (q fu : Int) : List Fl × Int × Int :=
  match A with
  | 0 => (xs, -1, fu)
  | 1 => (xs, 1048576 + x, fu)
  | 2 => (xs, q, -2)
  | 3 => (xs ++ [fl1 ⟨#[97]⟩], q, fu)
  | 4 => (hd4 x xs, q, fu)
  | 5 => (hd5 xs, q, fu)
  | 6 => (fl1 ⟨#[]⟩ :: xs, q, fu)
  | 7 => (xs ++ [fl1 (⟨#[122]⟩ ++ rep (119 + x) ⟨#[122]⟩)], q, fu)
  | 8 => (many (200 + x), q, fu)
  | 9 => (many 200, q, fu)
  | _ => ([⟨⟨#[98, 105, 103]⟩, rep (1048566 + x * 11) ⟨#[98]⟩, 0⟩], 1048576, fu)

theorem own_down {w : World} {B B' n size : Nat} {e : TypeId} {v : Value} {xs : List Value} (h : w.ownsRow B e size v n xs) (hB : B' ≤ B) : w.ownsRow B' e size v n xs := by
  obtain ⟨h1, h2⟩ := h
  refine ⟨h1, ?_⟩
  rcases h2 with h | ⟨g, cap, cur, hv, hg, r⟩
  · exact .inl h
  · exact .inr ⟨g, cap, cur, hv, by omega, r⟩
theorem own_below {w w' : World} {B n size : Nat} {e : TypeId} {v : Value} {xs : List Value} (h : w.ownsRow B e size v n xs) (hb : Below w.heap.size w w') : w'.ownsRow B e size v n xs := by
  obtain ⟨h1, h2⟩ := h
  refine ⟨h1, ?_⟩
  rcases h2 with h | ⟨g, cap, cur, hv, hg, hh, r⟩
  · exact .inl h
  · have hl : g < w.heap.size := by
      by_cases hl : g < w.heap.size
      · exact hl
      · rw [Array.getElem?_eq_none (by omega)] at hh; cases hh
    exact .inr ⟨g, cap, cur, hv, hg, (hb.block g hl).trans hh, r⟩
theorem ri_one (w : World) (f : Fl) (lo : Nat) (hl : lo ≤ w.heap.size) : RI (w.alloc (.cells #[.string f.nm, .string f.dt, .int .i64 f.sy] 31)) lo (w.heap.size + 1) (some ⟨w.heap.size, 0, none⟩) 1 [f] := by
  refine .inr ⟨w.heap.size, rfl, hl, Nat.lt_succ_self _, #[.string f.nm, .string f.dt, .int .i64 f.sy], World.heap_alloc_new _ _, rfl, fun i hi => ?_⟩
  obtain rfl : i = 0 := by simpa using hi
  exact ⟨rfl, rfl, rfl⟩
theorem many_succ (k : Nat) : many (k + 1) = many k ++ [fl1 (⟨#[102]⟩ ++ padB k)] := by
  unfold many
  rw [List.range_succ, List.map_append]
  rfl
theorem cellsF_one (xs : List Fl) : ∀ u ∈ cellsF xs, u.oneCell' = true := by
  intro u hu
  unfold cellsF at hu
  simp only [List.mem_flatMap] at hu
  obtain ⟨f, -, hf⟩ := hu
  simp at hf
  rcases hf with rfl | rfl | rfl <;> rfl
theorem frozen_of {w : World} {b : Nat} {cur : Array Value} {t : TypeId} (h : w.heap[b]? = some (.cells cur t (0, 0))) : w.frozen? ⟨b, 0, none⟩ = false ∧ w.frozen? ⟨b, 1, none⟩ = false ∧ w.frozen? ⟨b, 2, none⟩ = false := by
  refine ⟨?_, ?_, ?_⟩ <;> simp [World.frozen?, h]
theorem RI.set3 {w : World} {lo hi cap b : Nat} {f : Fl} {r : List Fl} (h : RI w lo hi (some ⟨b, 0, none⟩) cap (f :: r)) {n d : ByteArray} {s : Int} : RI (((w.setCell ⟨b, 0, none⟩ (.string n)).setCell ⟨b, 1, none⟩ (.string d)).setCell ⟨b, 2, none⟩ (.int .i64 s)) lo hi (some ⟨b, 0, none⟩) cap (⟨n, d, s⟩ :: r) := by
  rcases h with h | ⟨g, e, h1, h2, cs, e1, e2, e3⟩
  · cases h
  · injection e with e
    injection e with e
    subst e
    refine .inr ⟨b, rfl, h1, h2, ((cs.setIfInBounds 0 (.string n)).setIfInBounds 1 (.string d)).setIfInBounds 2 (.int .i64 s), ?_, by simpa using e2, fun i hi => ?_⟩
    · rw [heap_setCell_same _ _ _ _ _ _ (heap_setCell_same _ _ _ _ _ _ (heap_setCell_same _ _ _ _ _ _ e1))]
    · have hz := e3 0 (by simp)
      have hsz : 2 < cs.size := by
        by_cases hlt : 2 < cs.size
        · exact hlt
        · have := hz.2.2
          rw [Array.getElem?_eq_none (by omega)] at this
          cases this
      cases i with
      | zero => simp [Array.getElem?_setIfInBounds, show 0 < cs.size by omega, show 1 < cs.size by omega, hsz]
      | succ i =>
        have hq := e3 (i + 1) hi
        simp only [List.getD_cons_succ] at hq ⊢
        refine ⟨?_, ?_, ?_⟩
        · rw [Array.getElem?_setIfInBounds_ne (by omega), Array.getElem?_setIfInBounds_ne (by omega), Array.getElem?_setIfInBounds_ne (by omega)]; exact hq.1
        · rw [Array.getElem?_setIfInBounds_ne (by omega), Array.getElem?_setIfInBounds_ne (by omega), Array.getElem?_setIfInBounds_ne (by omega)]; exact hq.2.1
        · rw [Array.getElem?_setIfInBounds_ne (by omega), Array.getElem?_setIfInBounds_ne (by omega), Array.getElem?_setIfInBounds_ne (by omega)]; exact hq.2.2
theorem own_far {w : World} {B n size : Nat} {e : TypeId} {v : Value} {xs : List Value} (h : w.ownsRow B e size v n xs) (p o : Nat) (u : Value) (hp : p < B) : (w.setCell ⟨p, o, none⟩ u).ownsRow B e size v n xs := by
  obtain ⟨h1, h2⟩ := h
  refine ⟨h1, ?_⟩
  rcases h2 with h | ⟨g, cap, cur, hv, hg, hh, r⟩
  · exact .inl h
  · exact .inr ⟨g, cap, cur, hv, hg, (Below.heap_setCell _ _ _ _ (by dsimp only; omega)).trans hh, r⟩

set_option maxRecDepth 100000 in
set_option maxHeartbeats 4000000 in
theorem l1SpoilFS_sp (a : Option Addr) (cap : Nat) (bs : List UInt8) (p : Nat) (af : Option Addr) (cf : Nat) (X : List Fl) (q fu : Int) (w : World) (hx : LieB w a bs) (hl : bs.length ≤ 1048576) (hp : p ≤ 50000) (hX : Lie w af X) (hlX : X.length ≤ 6) (hsX : Sml X)
    (O : List Fl × Int × Int) (HO : Hid (O = spo (tk bs p 11) (tk bs (p + 1) 2) (wo X ⟨#[]⟩) q fu)) :
    Calls Try.prog 33 #[.slice a bs.length cap, .int .i64 p, .agg #[.slice af X.length cf, .int .i64 q, .int .i64 fu]] w fun e w' => ∃ a' cap', e = .returned (.agg #[.slice a' O.1.length cap', .int .i64 O.2.1, .int .i64 O.2.2]) ∧ Res w' w.heap.size a' cap' O.1 ∧ Below w.heap.size w w' := by
  have HT := hd0 (fun (w' : World) (q n : Nat) (hb : Below w.heap.size w w') (h1 : q ≤ 1000000) (h2 : n ≤ 2000000) => l1Take_tk a cap bs q n w' (hx.below hb) hl h1 h2)
  have hA11 := tk_lt bs p 11 (by omega)
  have hx2 := tk_lt bs (p + 1) 2 (by omega)
  have EA : Hid (tk bs p 11 = tk bs p 11) := rfl
  have hzl := wo_length X ⟨#[]⟩
  have hsm : Sml (wo X ⟨#[]⟩) := fun f hf => hsX f (wo_mem hf).1
  clear hsX
  generalize bs.length = len at *
  clear hx
  have hb0 : Below w.heap.size w ((w.alloc (.cells #[.slice af X.length cf, .int .i64 q, .int .i64 fu] 25)).alloc (.cells #[.slice none 0 0, .int .i64 0, .int .i64 0] 25)) := ((Below.refl _ _).alloc (Nat.le_refl _) _).alloc (by simp) _
  have bP0 : Box ((w.alloc (.cells #[.slice af X.length cf, .int .i64 q, .int .i64 fu] 25)).alloc (.cells #[.slice none 0 0, .int .i64 0, .int .i64 0] 25)) w.heap.size 25 (.slice af X.length cf) (.int .i64 q) (.int .i64 fu) := (Box.new w 25 _ _ _).below (new_below _ _)
  have bR0 : Box ((w.alloc (.cells #[.slice af X.length cf, .int .i64 q, .int .i64 fu] 25)).alloc (.cells #[.slice none 0 0, .int .i64 0, .int .i64 0] 25)) (w.heap.size + 1) 25 (.slice none 0 0) (.int .i64 0) (.int .i64 0) := by
    have h := Box.new (w.alloc (.cells #[.slice af X.length cf, .int .i64 q, .int .i64 fu] 25)) 25 (.slice none 0 0) (.int .i64 0) (.int .i64 0)
    have e : (w.alloc (.cells #[.slice af X.length cf, .int .i64 q, .int .i64 fu] 25)).heap.size = w.heap.size + 1 := by simp
    rw [e] at h
    exact h
  go_enter Try.func33, Try.ntmps33
  go_wp2_with fail
  refine (HT.out _ p 11 hb0 (by omega) (by omega)).mono ?_
  rintro e w1 ⟨rfl, hb1⟩
  have hbw1 := hb0.trans (hb1.mono hb0.size)
  have bP1 := bP0.below hb1
  have bR1 := bR0.below hb1
  clear hb0 hb1 bP0 bR0
  go_wp2_with fail
  refine (HT.out _ (p + 1) 2 hbw1 (by omega) (by omega)).mono ?_
  rintro e w2 ⟨rfl, hb2⟩
  have hbw2 := hbw1.trans (hb2.mono hbw1.size)
  have bP2 := bP1.below hb2
  have bR2 := bR1.below hb2
  clear hb2 bP1 bR1 hbw1 EA HT
  generalize tk bs p 11 = A at *
  generalize tk bs (p + 1) 2 = x at *
  obtain ⟨c0, c1, c2⟩ := bP2.cells
  go_wp2_with fail
  refine (without_own af cf X ⟨#[]⟩ _ (hX.below hbw2) (by omega)).mono ?_
  rintro e w3 ⟨v, rfl, hown, hvn, hb3⟩
  have hbw3 := hbw2.trans (hb3.mono hbw2.size)
  have bP3 := bP2.below hb3
  have bR3 := bR2.below hb3
  have hR2 := bR2.lt
  have hs3 := hb3.size
  clear hb3 bP2 bR2 hbw2 c0 c1 c2 hX
  generalize wo X ⟨#[]⟩ = Z at *
  obtain ⟨hZl, a3, c3, hv, hres⟩ := res_of_owns hown
  subst hv
  replace hvn := hd0 hvn
  have hri3 := (hres.ri).down (lo' := w.heap.size + 2) (by omega)
  have hown' := own_down hown (B' := w.heap.size + 2) (by omega)
  clear hown
  clear hres
  have hP3 := bP3.lt
  have hR3 := bR3.lt
  have n1 : w.heap.size ≠ w.heap.size + 1 := by omega
  have n2 : w.heap.size + 1 ≠ w.heap.size := by omega
  obtain ⟨⟨c0, c1, c2⟩, z0, z1, z2⟩ := three_cells bP3
  obtain ⟨⟨r0, r1, r2⟩, y0, y1, y2⟩ := three_cells bR3
  go_upto_region 5 with fail
  have h11 : A = 0 ∨ A = 1 ∨ A = 2 ∨ A = 3 ∨ A = 4 ∨ A = 5 ∨ A = 6 ∨ A = 7 ∨ A = 8 ∨ A = 9 ∨ A = 10 := by omega
  clear hA11
  have HOW := hd0 hown'
  clear hown'
  rcases h11 with rfl | rfl | rfl | rfl | rfl | rfl | rfl | rfl | rfl | rfl | rfl
  · obtain rfl : O = (Z, (-1), fu) := HO.out
    clear HO
    go_wp2_with fail
    refine bodyPost_ret (v := .agg #[.slice a3 Z.length c3, .int .i64 (-1), .int .i64 fu]) (by simp [results, Try.results33, go_sem, r0, r1, r2, c0, c1, c2, n1, n2]) rfl ⟨_, _, rfl, ?_, ?_⟩
    · exact (((((hri3.far w.heap.size 1 _ (by omega)).far w.heap.size 0 _ (by omega)).far (w.heap.size + 1) 0 _ (by omega)).far (w.heap.size + 1) 1 _ (by omega)).far (w.heap.size + 1) 2 _ (by omega)).res.down (by omega)
    · exact (((((hbw3.setCell (p := ⟨w.heap.size, 1, none⟩) (by exact Nat.le_refl _) _).setCell (p := ⟨w.heap.size, 0, none⟩) (by exact Nat.le_refl _) _).setCell (p := ⟨w.heap.size + 1, 0, none⟩) (by exact Nat.le_succ _) _).setCell (p := ⟨w.heap.size + 1, 1, none⟩) (by exact Nat.le_succ _) _).setCell (p := ⟨w.heap.size + 1, 2, none⟩) (by exact Nat.le_succ _) _)
  · obtain rfl : O = (Z, (1048576 + (x : Int)), fu) := HO.out
    clear HO
    go_wp2_with fail
    refine bodyPost_ret (v := .agg #[.slice a3 Z.length c3, .int .i64 (1048576 + (x : Int)), .int .i64 fu]) (by simp [results, Try.results33, go_sem, r0, r1, r2, c0, c1, c2, n1, n2]) rfl ⟨_, _, rfl, ?_, ?_⟩
    · exact (((((hri3.far w.heap.size 1 _ (by omega)).far w.heap.size 0 _ (by omega)).far (w.heap.size + 1) 0 _ (by omega)).far (w.heap.size + 1) 1 _ (by omega)).far (w.heap.size + 1) 2 _ (by omega)).res.down (by omega)
    · exact (((((hbw3.setCell (p := ⟨w.heap.size, 1, none⟩) (by exact Nat.le_refl _) _).setCell (p := ⟨w.heap.size, 0, none⟩) (by exact Nat.le_refl _) _).setCell (p := ⟨w.heap.size + 1, 0, none⟩) (by exact Nat.le_succ _) _).setCell (p := ⟨w.heap.size + 1, 1, none⟩) (by exact Nat.le_succ _) _).setCell (p := ⟨w.heap.size + 1, 2, none⟩) (by exact Nat.le_succ _) _)
  · obtain rfl : O = (Z, q, (-2)) := HO.out
    clear HO
    go_wp2_with fail
    refine bodyPost_ret (v := .agg #[.slice a3 Z.length c3, .int .i64 q, .int .i64 (-2)]) (by simp [results, Try.results33, go_sem, r0, r1, r2, c0, c1, c2, n1, n2]) rfl ⟨_, _, rfl, ?_, ?_⟩
    · exact (((((hri3.far w.heap.size 2 _ (by omega)).far w.heap.size 0 _ (by omega)).far (w.heap.size + 1) 0 _ (by omega)).far (w.heap.size + 1) 1 _ (by omega)).far (w.heap.size + 1) 2 _ (by omega)).res.down (by omega)
    · exact (((((hbw3.setCell (p := ⟨w.heap.size, 2, none⟩) (by exact Nat.le_refl _) _).setCell (p := ⟨w.heap.size, 0, none⟩) (by exact Nat.le_refl _) _).setCell (p := ⟨w.heap.size + 1, 0, none⟩) (by exact Nat.le_succ _) _).setCell (p := ⟨w.heap.size + 1, 1, none⟩) (by exact Nat.le_succ _) _).setCell (p := ⟨w.heap.size + 1, 2, none⟩) (by exact Nat.le_succ _) _)
  · obtain rfl : O = (Z ++ [fl1 ⟨#[97]⟩], q, fu) := HO.out
    clear HO
    obtain ⟨i0, hi, hz0, hz1, hz2⟩ := info_parts iFile_info
    have BP := hd0 bP3
    have BR := hd0 bR3
    go_wp2_with (at_builtin; refine wpList_append_own _ rfl _ _ 23 rfl (w.heap.size + 2) 31 i0 _ 3 40 Try.underlying23 hi hz0 hz1 hz2 rfl (by decide) _ _ _ rfl (HOW.out.alloc _) ⟨w3.heap.size, 0, none⟩ 1 1 [.string ⟨#[97]⟩, .string ByteArray.empty, .int .i64 0] rfl rfl (cell_first3 _ _ _ _ _) (fun x hx => by simp at hx; rcases hx with rfl | rfl | rfl <;> rfl) (by unfold maxLen; omega) (by omega) (by simp; omega) ?_; intro v' w4 hown4 hgrow hnil; have hB := hd0 (((Below.refl (w.heap.size + 2) w3).alloc (by omega) _).grown hgrow (by simp; omega) (owns_base HOW.out)); have hown5 : w4.ownsRow (w.heap.size + 2) 31 3 v' (Z.length + 1) (cellsF (Z ++ [fl1 ⟨#[97]⟩])) := (by rw [cellsF_snoc]; exact hown4); obtain ⟨-, a4, c4, hv, hres⟩ := res_of_owns hown5; subst hv; replace hres := hd0 hres; obtain ⟨⟨d0, d1, d2⟩, x0, x1, x2⟩ := three_cells ((hB.out.block w.heap.size (by omega)).trans BP.out); obtain ⟨⟨e0, e1, e2⟩, u0, u1, u2⟩ := three_cells ((hB.out.block (w.heap.size + 1) (by omega)).trans BR.out); have hP4 : w.heap.size < w4.heap.size := (by have := hB.out.size; omega); have hR4 : w.heap.size + 1 < w4.heap.size := (by have := hB.out.size; omega); clear hown4 hown5 hgrow hnil)
    have hri4 := (hres.out.ri)
    have hbw4 := hbw3.trans (hB.out.mono (by omega))
    refine bodyPost_ret (v := .agg #[.slice a4 (Z ++ [fl1 ⟨#[97]⟩]).length c4, .int .i64 q, .int .i64 fu]) (by simp [results, Try.results33, go_sem, e0, e1, e2, d0, d1, d2, n1, n2]) rfl ⟨a4, c4, by first | rfl | simp, ?_, ?_⟩
    · exact ((((hri4.far w.heap.size 0 _ (by omega)).far (w.heap.size + 1) 0 _ (by omega)).far (w.heap.size + 1) 1 _ (by omega)).far (w.heap.size + 1) 2 _ (by omega)).res.down (by omega)
    · exact ((((hbw4.setCell (p := ⟨w.heap.size, 0, none⟩) (by exact Nat.le_refl _) _).setCell (p := ⟨w.heap.size + 1, 0, none⟩) (by exact Nat.le_succ _) _).setCell (p := ⟨w.heap.size + 1, 1, none⟩) (by exact Nat.le_succ _) _).setCell (p := ⟨w.heap.size + 1, 2, none⟩) (by exact Nat.le_succ _) _)
  · obtain rfl : O = (hd4 x Z, q, fu) := HO.out
    clear HO
    cases Z with
    | nil =>
      go_wp2_with fail
      refine bodyPost_ret (v := .agg #[.slice a3 0 c3, .int .i64 q, .int .i64 fu]) (by simp [results, Try.results33, go_sem, r0, r1, r2, c0, c1, c2, n1, n2]) rfl ⟨a3, c3, by first | rfl | simp [hd4, hd5], ?_, ?_⟩
      · exact ((((hri3.far w.heap.size 0 _ (by omega)).far (w.heap.size + 1) 0 _ (by omega)).far (w.heap.size + 1) 1 _ (by omega)).far (w.heap.size + 1) 2 _ (by omega)).res.down (by omega)
      · exact ((((hbw3.setCell (p := ⟨w.heap.size, 0, none⟩) (by exact Nat.le_refl _) _).setCell (p := ⟨w.heap.size + 1, 0, none⟩) (by exact Nat.le_succ _) _).setCell (p := ⟨w.heap.size + 1, 1, none⟩) (by exact Nat.le_succ _) _).setCell (p := ⟨w.heap.size + 1, 2, none⟩) (by exact Nat.le_succ _) _)
    | cons f r =>
      obtain ⟨h1, h2⟩ := HOW.out
      rcases h2 with ⟨hv, -⟩ | ⟨g, cp, cur, hv, hg, hgh, -⟩
      · exact absurd hv hvn.out
      injection hv with ha hb hc
      subst ha hc
      clear hb hvn h1
      have HRI := hd0 hri3
      obtain ⟨b, off, hbo, hbl, t0, t1, t2⟩ := hri3.lie.at (i := 0) (by simp)
      injection hbo with hbo
      injection hbo with hbo1 hbo2
      subst hbo1 hbo2
      have F2 := frozen_of hgh
      obtain ⟨f0, f1, f2⟩ := F2
      have t0' : w3.cell? ⟨g, 0, none⟩ = some (.string f.nm) := t0
      have t1' : w3.cell? ⟨g, 1, none⟩ = some (.string f.dt) := t1
      have t2' : w3.cell? ⟨g, 2, none⟩ = some (.int .i64 f.sy) := t2
      clear t0 t1 t2 hri3 HOW
      have m1 : g ≠ w.heap.size := by omega
      have m2 : g ≠ w.heap.size + 1 := by omega
      have m3 : w.heap.size ≠ g := by omega
      have m4 : w.heap.size + 1 ≠ g := by omega
      have hfd : (f.dt.size : Int) ≤ 19 := by have := (hsm f (by simp)).2; omega
      have hw64 : IntKind.i64.wrap ((f.dt.size : Int) + x) = (f.dt.size : Int) + x := by rw [IntKind.wrap_i64]; omega
      go_upto_region 14 with fail
      go_region_held3 (fun w' => w'.cell? ⟨g, 0, none⟩ = some (.string f.nm) ∧ w'.cell? ⟨g, 1, none⟩ = some (.string f.dt)) (simp [go_sem, *]) (fail)
      have hri4 := (HRI.out.set3 (n := f.nm) (d := f.dt) (s := ((f.dt.size : Int) + x))).below (Below.refl _ _).drew
      have hbw4 : Below w.heap.size w ((((w3.setCell ⟨g, 0, none⟩ (.string f.nm)).setCell ⟨g, 1, none⟩ (.string f.dt)).setCell ⟨g, 2, none⟩ (.int .i64 ((f.dt.size : Int) + x))).drew) := (((hbw3.setCell (p := ⟨g, 0, none⟩) (by show w.heap.size ≤ g; omega) _).setCell (p := ⟨g, 1, none⟩) (by show w.heap.size ≤ g; omega) _).setCell (p := ⟨g, 2, none⟩) (by show w.heap.size ≤ g; omega) _).drew
      have bP4 : Box ((((w3.setCell ⟨g, 0, none⟩ (.string f.nm)).setCell ⟨g, 1, none⟩ (.string f.dt)).setCell ⟨g, 2, none⟩ (.int .i64 ((f.dt.size : Int) + x))).drew) w.heap.size 25 (.slice af X.length cf) (.int .i64 q) (.int .i64 fu) := ((bP3.far g 0 _ m3).far g 1 _ m3).far g 2 _ m3
      have bR4 : Box ((((w3.setCell ⟨g, 0, none⟩ (.string f.nm)).setCell ⟨g, 1, none⟩ (.string f.dt)).setCell ⟨g, 2, none⟩ (.int .i64 ((f.dt.size : Int) + x))).drew) (w.heap.size + 1) 25 (.slice none 0 0) (.int .i64 0) (.int .i64 0) := ((bR3.far g 0 _ m4).far g 1 _ m4).far g 2 _ m4
      generalize (((w3.setCell ⟨g, 0, none⟩ (.string f.nm)).setCell ⟨g, 1, none⟩ (.string f.dt)).setCell ⟨g, 2, none⟩ (.int .i64 ((f.dt.size : Int) + x))).drew = w4 at *
      obtain ⟨⟨d0, d1, d2⟩, x0, x1, x2⟩ := three_cells bP4
      obtain ⟨⟨e0, e1, e2⟩, u0, u1, u2⟩ := three_cells bR4
      have hP4 := bP4.lt
      have hR4 := bR4.lt
      clear HRI hbw3 bP3 bR3 c0 c1 c2 z0 z1 z2 r0 r1 r2 y0 y1 y2 t0' t1' t2' f0 f1 f2 hw64 m1 m2 m3 m4 hgh
      go_wp2_with fail
      refine bodyPost_ret (v := .agg #[.slice (some ⟨g, 0, none⟩) (r.length + 1) c3, .int .i64 q, .int .i64 fu]) (by simp [results, Try.results33, go_sem, e0, e1, e2, d0, d1, d2, n1, n2]) rfl ⟨some ⟨g, 0, none⟩, c3, by first | rfl | simp [hd4, hd5], ?_, ?_⟩
      · exact ((((hri4.far w.heap.size 0 _ (by omega)).far (w.heap.size + 1) 0 _ (by omega)).far (w.heap.size + 1) 1 _ (by omega)).far (w.heap.size + 1) 2 _ (by omega)).res.down (by omega)
      · exact ((((hbw4.setCell (p := ⟨w.heap.size, 0, none⟩) (by exact Nat.le_refl _) _).setCell (p := ⟨w.heap.size + 1, 0, none⟩) (by exact Nat.le_succ _) _).setCell (p := ⟨w.heap.size + 1, 1, none⟩) (by exact Nat.le_succ _) _).setCell (p := ⟨w.heap.size + 1, 2, none⟩) (by exact Nat.le_succ _) _)
  · obtain rfl : O = (hd5 Z, q, fu) := HO.out
    clear HO
    cases Z with
    | nil =>
      go_wp2_with fail
      refine bodyPost_ret (v := .agg #[.slice a3 0 c3, .int .i64 q, .int .i64 fu]) (by simp [results, Try.results33, go_sem, r0, r1, r2, c0, c1, c2, n1, n2]) rfl ⟨a3, c3, by first | rfl | simp [hd4, hd5], ?_, ?_⟩
      · exact ((((hri3.far w.heap.size 0 _ (by omega)).far (w.heap.size + 1) 0 _ (by omega)).far (w.heap.size + 1) 1 _ (by omega)).far (w.heap.size + 1) 2 _ (by omega)).res.down (by omega)
      · exact ((((hbw3.setCell (p := ⟨w.heap.size, 0, none⟩) (by exact Nat.le_refl _) _).setCell (p := ⟨w.heap.size + 1, 0, none⟩) (by exact Nat.le_succ _) _).setCell (p := ⟨w.heap.size + 1, 1, none⟩) (by exact Nat.le_succ _) _).setCell (p := ⟨w.heap.size + 1, 2, none⟩) (by exact Nat.le_succ _) _)
    | cons f r =>
      obtain ⟨h1, h2⟩ := HOW.out
      rcases h2 with ⟨hv, -⟩ | ⟨g, cp, cur, hv, hg, hgh, -⟩
      · exact absurd hv hvn.out
      injection hv with ha hb hc
      subst ha hc
      clear hb hvn h1
      have HRI := hd0 hri3
      obtain ⟨b, off, hbo, hbl, t0, t1, t2⟩ := hri3.lie.at (i := 0) (by simp)
      injection hbo with hbo
      injection hbo with hbo1 hbo2
      subst hbo1 hbo2
      have F2 := frozen_of hgh
      obtain ⟨f0, f1, f2⟩ := F2
      have t0' : w3.cell? ⟨g, 0, none⟩ = some (.string f.nm) := t0
      have t1' : w3.cell? ⟨g, 1, none⟩ = some (.string f.dt) := t1
      have t2' : w3.cell? ⟨g, 2, none⟩ = some (.int .i64 f.sy) := t2
      clear t0 t1 t2 hri3 HOW
      have m1 : g ≠ w.heap.size := by omega
      have m2 : g ≠ w.heap.size + 1 := by omega
      have m3 : w.heap.size ≠ g := by omega
      have m4 : w.heap.size + 1 ≠ g := by omega
      have hfd : (f.dt.size : Int) ≤ 19 := by have := (hsm f (by simp)).2; omega
      have hw64 : IntKind.i64.wrap ((f.dt.size : Int) + x) = (f.dt.size : Int) + x := by rw [IntKind.wrap_i64]; omega
      go_upto_region 16 with fail
      go_region_held3 (fun w' => w'.cell? ⟨g, 0, none⟩ = some (.string f.nm) ∧ w'.cell? ⟨g, 1, none⟩ = some (.string f.dt)) (simp [go_sem, *]) (fail)
      have hri4 := (HRI.out.set3 (n := f.nm) (d := f.dt) (s := (-1))).below (Below.refl _ _).drew
      have hbw4 : Below w.heap.size w ((((w3.setCell ⟨g, 0, none⟩ (.string f.nm)).setCell ⟨g, 1, none⟩ (.string f.dt)).setCell ⟨g, 2, none⟩ (.int .i64 (-1))).drew) := (((hbw3.setCell (p := ⟨g, 0, none⟩) (by show w.heap.size ≤ g; omega) _).setCell (p := ⟨g, 1, none⟩) (by show w.heap.size ≤ g; omega) _).setCell (p := ⟨g, 2, none⟩) (by show w.heap.size ≤ g; omega) _).drew
      have bP4 : Box ((((w3.setCell ⟨g, 0, none⟩ (.string f.nm)).setCell ⟨g, 1, none⟩ (.string f.dt)).setCell ⟨g, 2, none⟩ (.int .i64 (-1))).drew) w.heap.size 25 (.slice af X.length cf) (.int .i64 q) (.int .i64 fu) := ((bP3.far g 0 _ m3).far g 1 _ m3).far g 2 _ m3
      have bR4 : Box ((((w3.setCell ⟨g, 0, none⟩ (.string f.nm)).setCell ⟨g, 1, none⟩ (.string f.dt)).setCell ⟨g, 2, none⟩ (.int .i64 (-1))).drew) (w.heap.size + 1) 25 (.slice none 0 0) (.int .i64 0) (.int .i64 0) := ((bR3.far g 0 _ m4).far g 1 _ m4).far g 2 _ m4
      generalize (((w3.setCell ⟨g, 0, none⟩ (.string f.nm)).setCell ⟨g, 1, none⟩ (.string f.dt)).setCell ⟨g, 2, none⟩ (.int .i64 (-1))).drew = w4 at *
      obtain ⟨⟨d0, d1, d2⟩, x0, x1, x2⟩ := three_cells bP4
      obtain ⟨⟨e0, e1, e2⟩, u0, u1, u2⟩ := three_cells bR4
      have hP4 := bP4.lt
      have hR4 := bR4.lt
      clear HRI hbw3 bP3 bR3 c0 c1 c2 z0 z1 z2 r0 r1 r2 y0 y1 y2 t0' t1' t2' f0 f1 f2 hw64 m1 m2 m3 m4 hgh
      go_wp2_with fail
      refine bodyPost_ret (v := .agg #[.slice (some ⟨g, 0, none⟩) (r.length + 1) c3, .int .i64 q, .int .i64 fu]) (by simp [results, Try.results33, go_sem, e0, e1, e2, d0, d1, d2, n1, n2]) rfl ⟨some ⟨g, 0, none⟩, c3, by first | rfl | simp [hd4, hd5], ?_, ?_⟩
      · exact ((((hri4.far w.heap.size 0 _ (by omega)).far (w.heap.size + 1) 0 _ (by omega)).far (w.heap.size + 1) 1 _ (by omega)).far (w.heap.size + 1) 2 _ (by omega)).res.down (by omega)
      · exact ((((hbw4.setCell (p := ⟨w.heap.size, 0, none⟩) (by exact Nat.le_refl _) _).setCell (p := ⟨w.heap.size + 1, 0, none⟩) (by exact Nat.le_succ _) _).setCell (p := ⟨w.heap.size + 1, 1, none⟩) (by exact Nat.le_succ _) _).setCell (p := ⟨w.heap.size + 1, 2, none⟩) (by exact Nat.le_succ _) _)
  · obtain rfl : O = (fl1 ⟨#[]⟩ :: Z, q, fu) := HO.out
    clear HO
    obtain ⟨i0, hi, hz0, hz1, hz2⟩ := info_parts iFile_info
    have hH := HOW.out
    rcases hH.2 with ⟨hv, -⟩ | ⟨g, cp, cur, hv, -⟩
    · exact absurd hv hvn.out
    injection hv with ha hb hc
    subst ha hc
    clear hb hvn hH
    have HN := hd0 ((HOW.out.alloc (.cells #[.string ⟨#[]⟩, .string ⟨#[]⟩, .int .i64 0] 31)).cells (g := g) rfl)
    have HL : Hid ((w3.alloc (.cells #[.string ⟨#[]⟩, .string ⟨#[]⟩, .int .i64 0] 31)).ownsRow (w.heap.size + 2) 31 3 (.slice (some ⟨w3.heap.size, 0, none⟩) 1 1) 1 (cellsF [fl1 ⟨#[]⟩])) := ⟨rfl, .inr ⟨w3.heap.size, 1, #[.string ⟨#[]⟩, .string ⟨#[]⟩, .int .i64 0], rfl, by omega, World.heap_alloc_new _ _, Nat.le_refl _, by unfold maxLen; omega, rfl, rfl⟩⟩
    have BP := hd0 bP3
    have BR := hd0 bR3
    go_wp2_with (at_builtin; refine wpList_append_own _ rfl _ _ 23 rfl (w.heap.size + 2) 31 i0 _ 3 40 Try.underlying23 hi hz0 hz1 hz2 rfl (by decide) _ _ _ rfl HL.out ⟨g, 0, none⟩ Z.length c3 (cellsF Z) rfl (cellsF_length Z) HN.out (cellsF_one Z) (by unfold maxLen; omega) (by omega) (by simp; omega) ?_; intro v' w4 hown4 hgrow hnil; have hB := hd0 (((Below.refl (w.heap.size + 2) w3).alloc (by omega) _).grown hgrow (by simp; omega) (owns_base HL.out)); have hown5 : w4.ownsRow (w.heap.size + 2) 31 3 v' (1 + Z.length) (cellsF (fl1 ⟨#[]⟩ :: Z)) := hown4; obtain ⟨-, a4, c4, hv, hres⟩ := res_of_owns hown5; subst hv; replace hres := hd0 hres; obtain ⟨⟨d0, d1, d2⟩, x0, x1, x2⟩ := three_cells ((hB.out.block w.heap.size (by omega)).trans BP.out); obtain ⟨⟨e0, e1, e2⟩, u0, u1, u2⟩ := three_cells ((hB.out.block (w.heap.size + 1) (by omega)).trans BR.out); have hP4 : w.heap.size < w4.heap.size := (by have := hB.out.size; omega); have hR4 : w.heap.size + 1 < w4.heap.size := (by have := hB.out.size; omega); clear hown4 hown5 hgrow hnil)
    have hri4 := (hres.out.ri)
    have hbw4 := hbw3.trans (hB.out.mono (by omega))
    refine bodyPost_ret (v := .agg #[.slice a4 (fl1 ⟨#[]⟩ :: Z).length c4, .int .i64 q, .int .i64 fu]) (by simp [results, Try.results33, go_sem, e0, e1, e2, d0, d1, d2, n1, n2]) rfl ⟨a4, c4, by first | rfl | simp, ?_, ?_⟩
    · exact ((((hri4.far w.heap.size 0 _ (by omega)).far (w.heap.size + 1) 0 _ (by omega)).far (w.heap.size + 1) 1 _ (by omega)).far (w.heap.size + 1) 2 _ (by omega)).res.down (by omega)
    · exact ((((hbw4.setCell (p := ⟨w.heap.size, 0, none⟩) (by exact Nat.le_refl _) _).setCell (p := ⟨w.heap.size + 1, 0, none⟩) (by exact Nat.le_succ _) _).setCell (p := ⟨w.heap.size + 1, 1, none⟩) (by exact Nat.le_succ _) _).setCell (p := ⟨w.heap.size + 1, 2, none⟩) (by exact Nat.le_succ _) _)
  · obtain rfl : O = (Z ++ [fl1 (⟨#[122]⟩ ++ rep (119 + x) ⟨#[122]⟩)], q, fu) := HO.out
    clear HO
    obtain ⟨i0, hi, hz0, hz1, hz2⟩ := info_parts iFile_info
    have HLg := hd0 (l1Long_rep (119 + x) ⟨#[122]⟩ w3 rfl (by omega))
    have hts := rep_size (119 + x) ⟨#[122]⟩ rfl
    obtain ⟨t, htt⟩ : ∃ t, rep (119 + x) ⟨#[122]⟩ = t := ⟨_, rfl⟩
    rw [htt] at HLg hts
    have HTT := hd0 htt
    clear htt
    have hts' : t.size ≤ 200 := by omega
    clear hts
    go_wp2_with fail
    refine HLg.out.mono ?_
    rintro e w5 ⟨rfl, hb5⟩
    have bP5 := bP3.below hb5
    have bR5 := bR3.below hb5
    have hbw5 := hbw3.trans (hb5.mono hbw3.size)
    have HOW5 := hd0 (own_below HOW.out hb5)
    have hs5 := hb5.size
    clear hb5 HOW hbw3 bP3 bR3 HLg c0 c1 c2 z0 z1 z2 r0 r1 r2 y0 y1 y2
    have HOW := HOW5
    clear HOW5
    have BP := hd0 bP5
    have BR := hd0 bR5
    have hml : ((⟨#[122]⟩ : ByteArray).size : Int) + t.size ≤ 9223372036854775807 := by have : (⟨#[122]⟩ : ByteArray).size = 1 := rfl; omega
    go_wp2_with (at_builtin; refine wpList_append_own _ rfl _ _ 23 rfl (w.heap.size + 2) 31 i0 _ 3 40 Try.underlying23 hi hz0 hz1 hz2 rfl (by decide) _ _ _ rfl (HOW.out.alloc _) ⟨w5.heap.size, 0, none⟩ 1 1 [.string (⟨#[122]⟩ ++ t), .string ByteArray.empty, .int .i64 0] rfl rfl (cell_first3 _ _ _ _ _) (fun x hx => by simp at hx; rcases hx with rfl | rfl | rfl <;> rfl) (by unfold maxLen; omega) (by omega) (by simp; omega) ?_; intro v' w4 hown4 hgrow hnil; have hB := hd0 (((Below.refl (w.heap.size + 2) w5).alloc (by omega) _).grown hgrow (by simp; omega) (owns_base HOW.out)); have hown5 : w4.ownsRow (w.heap.size + 2) 31 3 v' (Z.length + 1) (cellsF (Z ++ [fl1 (⟨#[122]⟩ ++ t)])) := (by rw [cellsF_snoc]; exact hown4); obtain ⟨-, a4, c4, hv, hres⟩ := res_of_owns hown5; subst hv; replace hres := hd0 hres; obtain ⟨⟨d0, d1, d2⟩, x0, x1, x2⟩ := three_cells ((hB.out.block w.heap.size (by omega)).trans BP.out); obtain ⟨⟨e0, e1, e2⟩, u0, u1, u2⟩ := three_cells ((hB.out.block (w.heap.size + 1) (by omega)).trans BR.out); have hP4 : w.heap.size < w4.heap.size := (by have := hB.out.size; omega); have hR4 : w.heap.size + 1 < w4.heap.size := (by have := hB.out.size; omega); clear hown4 hown5 hgrow hnil)
    have hri4 := (hres.out.ri)
    have hbw4 := hbw5.trans (hB.out.mono (by omega))
    refine bodyPost_ret (v := .agg #[.slice a4 (Z ++ [fl1 (⟨#[122]⟩ ++ t)]).length c4, .int .i64 q, .int .i64 fu]) (by simp [results, Try.results33, go_sem, e0, e1, e2, d0, d1, d2, n1, n2]) rfl ⟨a4, c4, by first | rfl | simp, ?_, ?_⟩
    · rw [HTT.out]
      exact ((((hri4.far w.heap.size 0 _ (by omega)).far (w.heap.size + 1) 0 _ (by omega)).far (w.heap.size + 1) 1 _ (by omega)).far (w.heap.size + 1) 2 _ (by omega)).res.down (by omega)
    · exact ((((hbw4.setCell (p := ⟨w.heap.size, 0, none⟩) (by exact Nat.le_refl _) _).setCell (p := ⟨w.heap.size + 1, 0, none⟩) (by exact Nat.le_succ _) _).setCell (p := ⟨w.heap.size + 1, 1, none⟩) (by exact Nat.le_succ _) _).setCell (p := ⟨w.heap.size + 1, 2, none⟩) (by exact Nat.le_succ _) _)
  · obtain rfl : O = (many (200 + x), q, fu) := HO.out
    clear HO HOW hri3
    rw [show ((8 : Nat) : Int) = (8 : Int) from rfl]
    obtain ⟨i0, hi, hz0, hz1, hz2⟩ := info_parts iFile_info
    have hbn := new_below w3 (.cells #[] 31)
    go_wp2_with fail
    go_loopw [9, 10] (fun v iv wr => ∃ k : Nat, k ≤ 200 + x ∧ iv = .int .i64 k ∧ wr.ownsRow (w.heap.size + 2) 31 3 v k (cellsF (many k)) ∧ Below (w.heap.size + 2) w3 wr) (fun _ iv _ => 200 + x - (intOf iv).toNat)
    case atStart => exact ⟨0, Nat.zero_le _, rfl, owns_lit0 w3 _ _ (by omega), hbn.mono (by omega)⟩
    case round =>
      obtain ⟨k, hk, rfl, hown, hb⟩ := hrel
      have hbs := hb.size
      by_cases hlt : k < 200 + x
      · have hlt' : (k : Int) < 200 + (x : Int) := by omega
        have EM : Hid (many (k + 1) = many k ++ [fl1 (⟨#[102]⟩ ++ padB k)]) := many_succ k
        have HPd := hd0 (l1Pad_any k (by omega) wr)
        have hts := padB_size k
        generalize padB k = t at *
        have HOW := hd0 hown
        clear hown
        go_wp2_with fail
        refine HPd.out.mono ?_
        rintro e w5 ⟨rfl, hb5⟩
        have HB5 := hd0 (hb.trans (hb5.mono (by omega)))
        have HOW5 := hd0 (own_below HOW.out hb5)
        have hs5 := hb5.size
        have hml : ((⟨#[102]⟩ : ByteArray).size : Int) + t.size ≤ 9223372036854775807 := by have : (⟨#[102]⟩ : ByteArray).size = 1 := rfl; omega
        clear hb5 HOW HPd
        go_wp2_with (at_builtin; refine wpList_append_own _ rfl _ _ 23 rfl (w.heap.size + 2) 31 i0 _ 3 40 Try.underlying23 hi hz0 hz1 hz2 rfl (by decide) _ _ _ rfl (HOW5.out.alloc _) ⟨w5.heap.size, 0, none⟩ 1 1 [.string (⟨#[102]⟩ ++ t), .string ByteArray.empty, .int .i64 0] rfl rfl (cell_first3 _ _ _ _ _) (fun x hx => by simp at hx; rcases hx with rfl | rfl | rfl <;> rfl) (by unfold maxLen; omega) (by omega) (by simp; omega) ?_; intro v' w4 hown4 hgrow hnil; replace hgrow := hd0 hgrow; replace hown4 := hd0 hown4; clear hnil)
        refine ⟨⟨k + 1, by omega, by go_num, ?_, ?_⟩, by simp [intOf]; omega⟩
        · rw [EM.out, cellsF_snoc]
          exact hown4.out
        · exact (HB5.out.alloc (by omega) _).grown hgrow.out (by simp; omega) (owns_base HOW5.out)
      · obtain rfl : k = 200 + x := by omega
        have hlt' : ¬ ((200 + x : Nat) : Int) < 200 + (x : Int) := by omega
        obtain ⟨hml, a4, c4, hv, hres⟩ := res_of_owns hown
        subst hv
        have hri4 := hres.ri
        have hbw4 := hbw3.trans (hb.mono (by omega))
        obtain ⟨⟨d0, d1, d2⟩, x0, x1, x2⟩ := three_cells ((hb.block w.heap.size (by omega)).trans bP3)
        obtain ⟨⟨e0, e1, e2⟩, u0, u1, u2⟩ := three_cells ((hb.block (w.heap.size + 1) (by omega)).trans bR3)
        have hP4 : w.heap.size < wr.heap.size := by omega
        have hR4 : w.heap.size + 1 < wr.heap.size := by omega
        clear hown hml hres
        go_wp2_with fail
        refine bodyPost_ret (v := .agg #[.slice a4 (many (200 + x)).length c4, .int .i64 q, .int .i64 fu]) (by simp [results, Try.results33, go_sem, e0, e1, e2, d0, d1, d2, n1, n2]) rfl ⟨a4, c4, by first | rfl | simp, ?_, ?_⟩
        · exact ((((hri4.far w.heap.size 0 _ (by omega)).far (w.heap.size + 1) 0 _ (by omega)).far (w.heap.size + 1) 1 _ (by omega)).far (w.heap.size + 1) 2 _ (by omega)).res.down (by omega)
        · exact ((((hbw4.setCell (p := ⟨w.heap.size, 0, none⟩) (by exact Nat.le_refl _) _).setCell (p := ⟨w.heap.size + 1, 0, none⟩) (by exact Nat.le_succ _) _).setCell (p := ⟨w.heap.size + 1, 1, none⟩) (by exact Nat.le_succ _) _).setCell (p := ⟨w.heap.size + 1, 2, none⟩) (by exact Nat.le_succ _) _)
  · obtain rfl : O = (many (200), q, fu) := HO.out
    clear HO HOW hri3
    rw [show ((9 : Nat) : Int) = (9 : Int) from rfl]
    obtain ⟨i0, hi, hz0, hz1, hz2⟩ := info_parts iFile_info
    have hbn := new_below w3 (.cells #[] 31)
    go_wp2_with fail
    go_loopw [9, 10] (fun v iv wr => ∃ k : Nat, k ≤ 200 ∧ iv = .int .i64 k ∧ wr.ownsRow (w.heap.size + 2) 31 3 v k (cellsF (many k)) ∧ Below (w.heap.size + 2) w3 wr) (fun _ iv _ => 200 - (intOf iv).toNat)
    case atStart => exact ⟨0, Nat.zero_le _, rfl, owns_lit0 w3 _ _ (by omega), hbn.mono (by omega)⟩
    case round =>
      obtain ⟨k, hk, rfl, hown, hb⟩ := hrel
      have hbs := hb.size
      by_cases hlt : k < 200
      · have hlt' : (k : Int) < 200 := by omega
        have EM : Hid (many (k + 1) = many k ++ [fl1 (⟨#[102]⟩ ++ padB k)]) := many_succ k
        have HPd := hd0 (l1Pad_any k (by omega) wr)
        have hts := padB_size k
        generalize padB k = t at *
        have HOW := hd0 hown
        clear hown
        go_wp2_with fail
        refine HPd.out.mono ?_
        rintro e w5 ⟨rfl, hb5⟩
        have HB5 := hd0 (hb.trans (hb5.mono (by omega)))
        have HOW5 := hd0 (own_below HOW.out hb5)
        have hs5 := hb5.size
        have hml : ((⟨#[102]⟩ : ByteArray).size : Int) + t.size ≤ 9223372036854775807 := by have : (⟨#[102]⟩ : ByteArray).size = 1 := rfl; omega
        clear hb5 HOW HPd
        go_wp2_with (at_builtin; refine wpList_append_own _ rfl _ _ 23 rfl (w.heap.size + 2) 31 i0 _ 3 40 Try.underlying23 hi hz0 hz1 hz2 rfl (by decide) _ _ _ rfl (HOW5.out.alloc _) ⟨w5.heap.size, 0, none⟩ 1 1 [.string (⟨#[102]⟩ ++ t), .string ByteArray.empty, .int .i64 0] rfl rfl (cell_first3 _ _ _ _ _) (fun x hx => by simp at hx; rcases hx with rfl | rfl | rfl <;> rfl) (by unfold maxLen; omega) (by omega) (by simp; omega) ?_; intro v' w4 hown4 hgrow hnil; replace hgrow := hd0 hgrow; replace hown4 := hd0 hown4; clear hnil)
        refine ⟨⟨k + 1, by omega, by go_num, ?_, ?_⟩, by simp [intOf]; omega⟩
        · rw [EM.out, cellsF_snoc]
          exact hown4.out
        · exact (HB5.out.alloc (by omega) _).grown hgrow.out (by simp; omega) (owns_base HOW5.out)
      · obtain rfl : k = 200 := by omega
        have hlt' : ¬ ((200 : Nat) : Int) < 200 := by omega
        obtain ⟨hml, a4, c4, hv, hres⟩ := res_of_owns hown
        subst hv
        have hri4 := hres.ri
        have hbw4 := hbw3.trans (hb.mono (by omega))
        obtain ⟨⟨d0, d1, d2⟩, x0, x1, x2⟩ := three_cells ((hb.block w.heap.size (by omega)).trans bP3)
        obtain ⟨⟨e0, e1, e2⟩, u0, u1, u2⟩ := three_cells ((hb.block (w.heap.size + 1) (by omega)).trans bR3)
        have hP4 : w.heap.size < wr.heap.size := by omega
        have hR4 : w.heap.size + 1 < wr.heap.size := by omega
        clear hown hml hres
        go_wp2_with fail
        refine bodyPost_ret (v := .agg #[.slice a4 (many (200)).length c4, .int .i64 q, .int .i64 fu]) (by simp [results, Try.results33, go_sem, e0, e1, e2, d0, d1, d2, n1, n2]) rfl ⟨a4, c4, by first | rfl | simp, ?_, ?_⟩
        · exact ((((hri4.far w.heap.size 0 _ (by omega)).far (w.heap.size + 1) 0 _ (by omega)).far (w.heap.size + 1) 1 _ (by omega)).far (w.heap.size + 1) 2 _ (by omega)).res.down (by omega)
        · exact ((((hbw4.setCell (p := ⟨w.heap.size, 0, none⟩) (by exact Nat.le_refl _) _).setCell (p := ⟨w.heap.size + 1, 0, none⟩) (by exact Nat.le_succ _) _).setCell (p := ⟨w.heap.size + 1, 1, none⟩) (by exact Nat.le_succ _) _).setCell (p := ⟨w.heap.size + 1, 2, none⟩) (by exact Nat.le_succ _) _)
  · obtain rfl : O = ([⟨⟨#[98, 105, 103]⟩, rep (1048566 + x * 11) ⟨#[98]⟩, 0⟩], 1048576, fu) := HO.out
    clear HO
    have HLg := hd0 (l1Long_rep (1048566 + x * 11) ⟨#[98]⟩ w3 rfl (by omega))
    obtain ⟨t, htt⟩ : ∃ t, rep (1048566 + x * 11) ⟨#[98]⟩ = t := ⟨_, rfl⟩
    rw [htt] at HLg
    have HTT := hd0 htt
    clear htt
    go_wp2_with fail
    refine HLg.out.mono ?_
    rintro e w5 ⟨rfl, hb5⟩
    have bP5 := (bP3.below hb5).below (new_below w5 (.cells #[.string ⟨#[98, 105, 103]⟩, .string t, .int .i64 0] 31))
    have bR5 := (bR3.below hb5).below (new_below w5 (.cells #[.string ⟨#[98, 105, 103]⟩, .string t, .int .i64 0] 31))
    have hbw5 := (hbw3.trans (hb5.mono hbw3.size)).alloc (by have := hb5.size; omega) (.cells #[.string ⟨#[98, 105, 103]⟩, .string t, .int .i64 0] 31)
    have hri5 : RI (w5.alloc (.cells #[.string ⟨#[98, 105, 103]⟩, .string t, .int .i64 0] 31)) (w.heap.size + 2) (w5.heap.size + 1) (some ⟨w5.heap.size, 0, none⟩) 1 [⟨⟨#[98, 105, 103]⟩, t, 0⟩] := ri_one w5 ⟨⟨#[98, 105, 103]⟩, t, 0⟩ _ (by have := hb5.size; omega)
    have hs5 := hb5.size
    obtain ⟨⟨d0, d1, d2⟩, x0, x1, x2⟩ := three_cells bP5
    obtain ⟨⟨e0, e1, e2⟩, u0, u1, u2⟩ := three_cells bR5
    have hP5 := bP5.lt
    have hR5 := bR5.lt
    clear hb5 HOW hbw3 bP3 bR3 HLg c0 c1 c2 z0 z1 z2 r0 r1 r2 y0 y1 y2
    go_upto_region 29 with fail
    generalize w5.alloc (.cells #[.string ⟨#[98, 105, 103]⟩, .string t, .int .i64 0] 31) = w4 at *
    go_wp2_with fail
    refine bodyPost_ret (v := .agg #[.slice (some ⟨w5.heap.size, 0, none⟩) 1 1, .int .i64 1048576, .int .i64 fu]) (by simp [results, Try.results33, go_sem, e0, e1, e2, d0, d1, d2, n1, n2]) rfl ⟨some ⟨w5.heap.size, 0, none⟩, 1, by first | rfl | simp, ?_, ?_⟩
    · rw [HTT.out]; exact (((((hri5.far w.heap.size 1 _ (by omega)).far w.heap.size 0 _ (by omega)).far (w.heap.size + 1) 0 _ (by omega)).far (w.heap.size + 1) 1 _ (by omega)).far (w.heap.size + 1) 2 _ (by omega)).res.down (by omega)
    · exact (((((hbw5.setCell (p := ⟨w.heap.size, 1, none⟩) (by exact Nat.le_refl _) _).setCell (p := ⟨w.heap.size, 0, none⟩) (by exact Nat.le_refl _) _).setCell (p := ⟨w.heap.size + 1, 0, none⟩) (by exact Nat.le_succ _) _).setCell (p := ⟨w.heap.size + 1, 1, none⟩) (by exact Nat.le_succ _) _).setCell (p := ⟨w.heap.size + 1, 2, none⟩) (by exact Nat.le_succ _) _)
end Go.Proofs.Ytgennghhneckeaa
