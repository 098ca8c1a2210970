import Derived.Test.YtgpjhlhjdafjlaaGreatDoorEdW

import Derived.Deep.RegionLaw
import Derived.Deep.RegionHeld3
namespace Go.Proofs.YtgpjhlhjdafjlaaGreatDoor
open Go.RowKit Go.Maps
set_option linter.unusedVariables false
set_option linter.unusedSimpArgs false

theorem cell_one_newD (w : World) (x : Value) (t : TypeId) : ∀ j u, [x][j]? = some u → (w.alloc (.cells #[x] t)).cell? ((⟨w.heap.size, 0, none⟩ : Addr).add j) = some u := by
  intro j v hj
  rw [Go.WideShapes.add_plain]
  have hb : (w.alloc (.cells #[x] t)).heap[w.heap.size]? = some (.cells #[x] t (0, 0)) := World.heap_alloc_new _ _
  simp only [World.cell?, hb]
  match j, hj with
  | 0, hj => simpa using hj
theorem owns_ltD {w : World} {B n size : Nat} {e : TypeId} {v : Value} {xs : List Value} (h : w.ownsRow B e size v n xs) : ∀ g, v.ownBlock = some g → g < w.heap.size := by
  obtain ⟨-, h2⟩ := h
  rcases h2 with ⟨rfl, -⟩ | ⟨g, cap, cur, rfl, hg, hbk, -⟩
  · intro g hg
    cases hg
  · intro g' hg'
    cases hg'
    exact heap_lt hbk
theorem owns_neD {w : World} {B B' n n' z z' : Nat} {t t' : TypeId} {v v' : Value} {xs xs' : List Value} (h : w.ownsRow B t z v n xs) (h' : w.ownsRow B' t' z' v' n' xs') (ht : t ≠ t') : ∀ g, v.ownBlock = some g → v'.ownBlock ≠ some g := by
  intro g hg hg'
  rcases h.2 with ⟨rfl, _⟩ | ⟨b, cap, cur, rfl, _, hb, _⟩
  · cases hg
  · rcases h'.2 with ⟨rfl, _⟩ | ⟨b', cap', cur', rfl, _, hb', _⟩
    · cases hg'
    · simp [Value.ownBlock] at hg hg'
      subst hg hg'
      rw [hb] at hb'
      simp at hb'
      exact ht hb'.2
theorem lieT_own {W : World} {B k cb : Nat} {b : Option Addr} {xs : List Tr} (h : W.ownsRow B 58 4 (.slice b xs.length cb) k (cellsT xs)) : LieT W b xs := by
  obtain ⟨-, a9, c9, en9, hr⟩ := resT_of_owns h
  injection en9 with f1 f2 f3
  subst f1
  exact hr.lie
theorem lieI_own {W : World} {B cb : Nat} {b : Option Addr} {ks : List Int} (h : W.ownsRow B 3 1 (.slice b ks.length cb) ks.length (ic ks)) : LieI W b ks := by
  obtain ⟨-, a9, c9, en9, hr⟩ := resI_of_owns h
  injection en9 with f1 f2 f3
  subst f1
  exact hr.lie
theorem below_sets4' {B p : Nat} {w : World} (hp : B ≤ p) (x0 x1 x2 x3 : Value) :
    Below B w ((((w.setCell ⟨p, 0, none⟩ x0).setCell ⟨p, 1, none⟩ x1).setCell ⟨p, 2, none⟩ x2).setCell ⟨p, 3, none⟩ x3) := below_sets4 (Below.refl _ _) hp _ _ _ _
/-- A drawn edit: at most two parts of each kind, small texts. -/
def Sm2 (e : Ed) : Prop := e.ad.length ≤ 2 ∧ e.dl.length ≤ 2 ∧ ∀ t ∈ e.ad, SmT t
theorem rowLenD {W : World} {B B' n k : Nat} {e : TypeId} {size : Nat} {v : Value} {xs : List Value} (hk : n = k) (hB : B ≤ B') (h : W.ownsRow B' e size v k xs) : W.ownsRow B e size v n xs := by
  subst hk
  refine ⟨h.1, ?_⟩
  rcases h.2 with hn | ⟨g, cap, cur, hv, hb, rest⟩
  · exact .inl hn
  · exact .inr ⟨g, cap, cur, hv, Nat.le_trans hB hb, rest⟩
set_option maxRecDepth 100000 in
set_option maxHeartbeats 16000000 in
theorem l4DrawEdit_any (a : Option Addr) (cap : Nat) (bs : List UInt8) (p : Nat) (t : Option Addr) (ct : Nat) (ts : List Tr) (lg0 nx0 la0 : Int) (w : World) (hx : LieB w a bs) (hl : bs.length ≤ 1048576) (hp : p ≤ 50000) (ht : LieT w t ts) (hts : ts.length ≤ 2000) :
    Calls Tryz.prog 15 #[.slice a bs.length cap, .int .i64 p, .agg #[.slice t ts.length ct, .int .i64 lg0, .int .i64 nx0, .int .i64 la0]] w fun r w' => ∃ (b : Option Addr) (cb : Nat) (d : Option Addr) (cd : Nat) (e : Ed) (q : Nat), r = .returned (.tuple #[edV b cb d cd e, .int .i64 (q : Int)]) ∧ q ≤ p + 20 ∧ Sm2 e ∧ w'.ownsRow (w.heap.size + 1) 58 4 (.slice b e.ad.length cb) e.ad.length (cellsT e.ad) ∧ w'.ownsRow (w.heap.size + 1) 3 1 (.slice d e.dl.length cd) e.dl.length (ic e.dl) ∧ Below w.heap.size w w' := by
  obtain ⟨i0, hi, hz0, hz1, hz2⟩ := info_parts iRef_info
  obtain ⟨j0, ji, jz0, jz1, jz2⟩ := info_parts int_info
  have HT := hd0 (fun (w' : World) (q n : Nat) (hb : Below w.heap.size w w') (hq : q ≤ 1000000) (hn : 1 ≤ n) (hn2 : n ≤ 2000000) => l1Take_wide a cap bs q n w' (hx.below hb) hl hq hn hn2)
  have HR := hd0 (fun (w' : World) (q : Nat) (nu : Int) (hb : Below w.heap.size w w') (hq : q ≤ 90000) => l4DrawRef_any a cap bs q nu w' (hx.below hb) hl hq)
  have HTs := hd0 ht
  generalize bs.length = len at *
  clear hx ht
  generalize hW0 : (w.alloc (.cells #[.slice t ts.length ct, .int .i64 lg0, .int .i64 nx0, .int .i64 la0] 26)).alloc (.cells #[.slice none 0 0, .slice none 0 0, .int .i64 0, .int .i64 0, .int .i64 0] 35) = W0
  have hV0 : W0.heap[w.heap.size]? = some (.cells #[.slice t ts.length ct, .int .i64 lg0, .int .i64 nx0, .int .i64 la0] 26 (0, 0)) := by rw [← hW0, alloc_old (by simp)]; exact World.heap_alloc_new _ _
  have hR0 : W0.heap[w.heap.size + 1]? = some (.cells #[.slice none 0 0, .slice none 0 0, .int .i64 0, .int .i64 0, .int .i64 0] 35 (0, 0)) := by rw [← hW0, ← size_alloc]; exact World.heap_alloc_new _ _
  have hb0 : Below w.heap.size w W0 := by rw [← hW0]; exact ((Below.refl _ _).alloc (Nat.le_refl _) _).alloc (by simp) _
  have hs0 : w.heap.size + 2 ≤ W0.heap.size := by rw [← hW0]; simp
  have HW0 := hd hW0
  clear hW0
  go_enter Tryz.func15, Tryz.ntmps15
  go_wp2_with fail
  rw [HW0.out]
  refine (HT.out _ p 3 hb0 (by omega) (by omega) (by omega)).mono ?_
  rintro e w1 ⟨n, hn, rfl, hb1⟩
  have hw1 := hb0.trans (hb1.mono hb0.size)
  go_wp2_with fail
  refine (HT.out _ (p + 1) 3 hw1 (by omega) (by omega) (by omega)).mono ?_
  rintro e w2 ⟨d, hd2, rfl, hb2⟩
  have hw2 := hw1.trans (hb2.mono hw1.size)
  have hb02 : Below W0.heap.size W0 w2 := hb1.trans (hb2.mono hb1.size)
  have hV2 := (hb02.block _ (by omega)).trans hV0
  have hR2 := (hb02.block _ (by omega)).trans hR0
  have hs2 := Nat.le_trans hs0 hb02.size
  clear hb0 hb1 hb2 hw1 hb02 hV0 hR0 HW0 hs0
  obtain ⟨x0, x1, x2, x3⟩ := four_cells hV2
  generalize hW3 : w2.alloc (.cells #[.slice none 0 0, .slice none 0 0, .int .i64 0, .int .i64 0, .int .i64 0] 35) = W3
  have HD : Hid (Dw w W3 w2.heap.size t ts.length ct lg0 nx0 la0 (.slice none 0 0) (.slice none 0 0) 0 0 0) := by
    rw [← hW3]
    exact ⟨by rw [alloc_old (by omega)]; exact hV2, by rw [alloc_old (by omega)]; exact hR2, World.heap_alloc_new _ _, hw2.alloc (by omega) _, hs2, by simp⟩
  obtain ⟨y0, y1, y2, y3, y4⟩ := five_cells HD.out.hQ
  obtain ⟨z0, z1, z2, z3, z4⟩ := five_free HD.out.hQ
  have hP := hd0 hs2
  generalize hPP : w2.heap.size = P at *
  have HD1 := hd (((((HD.out.q0 (.slice none 0 0)).q1 (.slice none 0 0)).q2 0).q3 0).q4 0)
  clear hV2 hR2 hw2 hs2 HD
  by_cases hnx : nx0 < 1
  · go_wp2_with fail
    generalize ((((W3.setCell ⟨P, 0, none⟩ (.slice none 0 0)).setCell ⟨P, 1, none⟩ (.slice none 0 0)).setCell ⟨P, 2, none⟩ (.int .i64 0)).setCell ⟨P, 3, none⟩ (.int .i64 0)).setCell ⟨P, 4, none⟩ (.int .i64 0) = W4 at *
    clear y0 y1 y2 y3 y4 z0 z1 z2 z3 z4 hW3 hPP x0 x1 x2 x3
    go_loopw [1, 11, 13] (fun vp vn vi wr => ∃ (k q : Nat) (nx : Int) (xs : List Tr) (v : Value), vp = .int .i64 (q : Int) ∧ vn = .int .i64 nx ∧ vi = .int .i64 (k : Int) ∧ k ≤ n ∧ q ≤ p + 2 + 3 * k ∧ Hid (xs.length = k) ∧ Hid (∀ t ∈ xs, SmT t) ∧ Hid (Dw w wr P t ts.length ct lg0 nx0 la0 v (.slice none 0 0) 0 0 0) ∧ Hid (wr.ownsRow (P + 1) 58 4 v k (cellsT xs))) (fun _ _ vi _ => n - (intOf vi).toNat)
    case atStart => exact ⟨0, p + 2, 1, [], .slice none 0 0, by congr 1, rfl, rfl, by omega, by omega, rfl, (fun t ht => absurd ht (by simp)), HD1, ownsNil _ _ _ _⟩
    case round =>
      clear HD1
      obtain ⟨k, q, nx, xs, v, rfl, rfl, rfl, hk, hq, HL, HX, HDr, HO⟩ := hrel
      by_cases hkn : k < n
      · have hkn' : (k : Int) < (n : Int) := by omega
        have hsr := HDr.out.hs
        go_wp2_with fail
        have hbX := HDr.out.hb.alloc (o := .cells #[.int .i64 0, .int .i64 0, .string ⟨#[]⟩, .string ⟨#[]⟩] 58) (by have := HDr.out.h1; omega)
        refine (HR.out _ q nx hbX (by omega)).mono ?_
        rintro e w5 ⟨⟨nu, lv, lo, hi'⟩, rfl, hnu, hsm, hb5⟩
        dsimp only at hnu
        have hsX : (wr.alloc (.cells #[.int .i64 0, .int .i64 0, .string ⟨#[]⟩, .string ⟨#[]⟩] 58)).heap.size = wr.heap.size + 1 := size_alloc _ _
        have hT5 := (hb5.block wr.heap.size (by omega)).trans (World.heap_alloc_new wr (.cells #[.int .i64 0, .int .i64 0, .string ⟨#[]⟩, .string ⟨#[]⟩] 58))
        have hbr5 : Below wr.heap.size wr w5 := ((Below.refl _ _).alloc (Nat.le_refl _) _).trans (hb5.mono (by omega))
        have hO5 := owns_below HO.out hbr5
        have hlt5 := owns_ltD HO.out
        have hD5 := HDr.out.onto hbr5 hsr
        obtain ⟨a0, a1, a2, a3⟩ := four_cells hT5
        have f0 : w5.frozen? ⟨wr.heap.size, 0, none⟩ = false := by simp [World.frozen?, hT5]
        have f1 : w5.frozen? ⟨wr.heap.size, 1, none⟩ = false := by simp [World.frozen?, hT5]
        have f2 : w5.frozen? ⟨wr.heap.size, 2, none⟩ = false := by simp [World.frozen?, hT5]
        have f3 : w5.frozen? ⟨wr.heap.size, 3, none⟩ = false := by simp [World.frozen?, hT5]
        generalize hY : (((w5.setCell ⟨wr.heap.size, 0, none⟩ (.int .i64 nu)).setCell ⟨wr.heap.size, 1, none⟩ (.int .i64 lv)).setCell ⟨wr.heap.size, 2, none⟩ (.string lo)).setCell ⟨wr.heap.size, 3, none⟩ (.string hi') = Y
        have hTY : Y.heap[wr.heap.size]? = some (.cells #[.int .i64 nu, .int .i64 lv, .string lo, .string hi'] 58 (0, 0)) := by
          rw [← hY, heap_setCell_same _ _ _ _ _ _ (heap_setCell_same _ _ _ _ _ _ (heap_setCell_same _ _ _ _ _ _ (heap_setCell_same _ _ _ _ _ _ hT5)))]
          rfl
        have hbY : Below wr.heap.size w5 Y := by rw [← hY]; exact below_sets4' (Nat.le_refl _) _ _ _ _
        have hDY := hD5.onto hbY hsr
        have hOY : Y.ownsRow (P + 1) 58 4 v k (cellsT xs) := owns_blocks hO5 (fun g hg => hbY.block g (hlt5 g hg))
        obtain ⟨b0, b1, b2, b3⟩ := four_cells hTY
        obtain ⟨c0, -⟩ := five_cells hDY.hQ
        have HW := hd hOY
        have HDY := hd hDY
        have HZ := hd0 hDY.hs
        have HL' : Hid ((xs ++ [(⟨nu, lv, lo, hi'⟩ : Tr)]).length = k + 1) := by show _ = _; rw [List.length_append, HL.out]; rfl
        have HX' : Hid (∀ t ∈ xs ++ [(⟨nu, lv, lo, hi'⟩ : Tr)], SmT t) := fun t ht => by
          rcases List.mem_append.1 ht with ht | ht
          · exact HX.out t ht
          · simp only [List.mem_singleton] at ht
            subst ht
            exact hsm
        clear hT5 hbr5 hO5 hlt5 hD5 hb5 hbX hsX hTY hbY hDY hOY HDr HO hnu hsm
        go_wp2_with (at_builtin; refine wpList_append_own _ rfl _ _ 24 rfl (P + 1) 58 i0 _ 4 48 Tryz.underlying24 hi hz0 hz1 hz2 rfl (by decide) _ _ _ rfl (World.ownsRow.alloc HW.out _) ⟨Y.heap.size, 0, none⟩ 1 1 [.int .i64 nu, .int .i64 lv, .string lo, .string hi'] rfl rfl (cell_first4 _ _ _ _ _ _) (fun x hx => by simp at hx; rcases hx with rfl | rfl | rfl | rfl <;> rfl) (by unfold maxLen; omega) (by omega) (by have := HZ.out; rw [size_alloc]; omega) ?_; intro v8 w8 hown8 hgrow8 hnil8; obtain ⟨g8, cap8, rfl⟩ := owns_succD hown8; have hb8 : Below (P + 1) Y w8 := ((Below.refl (P + 1) Y).alloc HZ.out _).grown hgrow8 (by have := HZ.out; rw [size_alloc]; omega) (owns_base HW.out); have hd8 := HDY.out.onto hb8 (Nat.le_refl _); have t0 := (five_cells hd8.hQ).1; have u0 := (five_free hd8.hQ).1; have HD8 := hd hd8; have HW8 := hd hown8; clear hd8 hown8 hgrow8 hnil8 hb8)
        exact ⟨⟨k + 1, q + 3, _, xs ++ [⟨nu, lv, lo, hi'⟩], .slice (some ⟨g8, 0, none⟩) (k + 1) cap8, by congr 1, rfl, by go_num, by omega, by omega, HL', HX', HD8.out.q0 _, by show World.ownsRow _ _ _ _ _ _ _; rw [cellsT_snoc]; exact owns_set HW8.out (by omega)⟩, by simp [intOf]; omega⟩
      · obtain rfl : k = n := by omega
        have hkn' : ¬ (k : Int) < (k : Int) := by omega
        obtain ⟨-, b, cb, rfl, hres⟩ := resT_of_owns HO.out
        have HRs := hd hres
        clear hres
        go_wp2_with fail
        go_loopw [1, 15] (fun vp vi W => ∃ (m q2 : Nat) (ks : List Int) (u : Value), vp = .int .i64 (q2 : Int) ∧ vi = .int .i64 (m : Int) ∧ m ≤ d ∧ q2 ≤ q + m ∧ Hid (ks.length ≤ m) ∧ Hid (Dw w W P t ts.length ct lg0 nx0 la0 (.slice b xs.length cb) u 0 0 0) ∧ Hid (W.ownsRow (P + 1) 58 4 (.slice b xs.length cb) k (cellsT xs)) ∧ Hid (W.ownsRow (P + 1) 3 1 u ks.length (ic ks))) (fun _ vi _ => d - (intOf vi).toNat)
        case atStart => exact ⟨0, q, [], .slice none 0 0, rfl, rfl, by omega, by omega, Nat.le_refl _, HDr, HO, ownsNil _ _ _ _⟩
        case round =>
          clear HDr HO HRs
          obtain ⟨m, q2, ks, u, rfl, rfl, hm, hq2, HLk, HDr, HO, HOi⟩ := hrel
          obtain ⟨-, dd, cd, rfl, -⟩ := resI_of_owns HOi.out
          obtain ⟨x0, x1, x2, x3⟩ := four_cells HDr.out.hV
          have hsr := HDr.out.hs
          by_cases hg : m < d ∧ m < ts.length
          · obtain ⟨g1, g2⟩ := hg
            have g1' : (m : Int) < (d : Int) := by omega
            have g2' : (m : Int) < (ts.length : Int) := by omega
            go_wp2_with fail
            refine (HT.out _ q2 ts.length HDr.out.hb (by omega) (by omega) (by omega)).mono ?_
            rintro e w5 ⟨r, hr, rfl, hb5⟩
            have hD5 := HDr.out.onto hb5 hsr
            have hO5 := owns_below HO.out hb5
            have hI5 := owns_below HOi.out hb5
            obtain ⟨tb, off, rfl, htb, e0, -, -, -⟩ := (HTs.out.below hD5.hb).at hr
            generalize (ts.getD r tr0).nu = fn at *
            have hLi : LieI w5 dd ks := by
              obtain ⟨-, a9, c9, en9, hrI⟩ := resI_of_owns hI5
              injection en9 with f1 f2 f3
              subst f1
              exact hrI.lie
            have HH := hd0 (fun (w' : World) (h : LieI w' dd ks) => hasNum_any dd cd ks fn w' h (by have := HLk.out; omega))
            have HY5 : Hid (LieI w5.drew dd ks) := hLi
            clear x0 x1 x2 x3
            obtain ⟨x0, x1, x2, x3⟩ := four_cells hD5.hV
            obtain ⟨c0, c1, -⟩ := five_cells hD5.hQ
            have hr0 : (0 : Int) ≤ (r : Int) := by omega
            have hr1 : (r : Int) < (ts.length : Int) := by omega
            have HD5 := hd hD5
            have HO5 := hd hO5
            have HI5 := hd hI5
            have hs5 := hD5.hs
            have HLi := HLk
            clear hD5 hO5 hI5 hLi HDr HO HOi hb5
            go_wp2_with fail
            cases hcn : ks.contains fn with
            | true =>
              rw [hcn] at HH
              go_region_held3 (fun w' => w'.cell? ⟨P, 1, none⟩ = some (.slice dd ks.length cd) ∧ w'.cell? ⟨w.heap.size, 0, none⟩ = some (.slice (some ⟨tb, off, none⟩) ts.length ct) ∧ w'.cell? ⟨tb, off + r * 4, none⟩ = some (.int .i64 fn)) (simp [go_sem, *])
                (first | (go_at_call 41; refine (HH.out _ HY5.out).mono ?_; rintro e w9 ⟨rfl, hw9⟩; have hw9' := hw9.symm; subst hw9'; clear hw9))
              go_wp2_with fail
              exact ⟨⟨m + 1, q2 + 1, ks, .slice dd ks.length cd, by congr 1, by go_num, by omega, by omega, Nat.le_succ_of_le HLk.out, HD5.out.onto ((Below.refl _ _).drew) hs5, HO5.out, HI5.out⟩, by simp only [intOf]; omega⟩
            | false =>
              rw [hcn] at HH
              go_region_held3 (fun w' => w'.cell? ⟨P, 1, none⟩ = some (.slice dd ks.length cd) ∧ w'.cell? ⟨w.heap.size, 0, none⟩ = some (.slice (some ⟨tb, off, none⟩) ts.length ct) ∧ w'.cell? ⟨tb, off + r * 4, none⟩ = some (.int .i64 fn)) (simp [go_sem, *])
                (first | (go_at_call 41; refine (HH.out _ HY5.out).mono ?_; rintro e w9 ⟨rfl, hw9⟩; have hw9' := hw9.symm; subst hw9'; clear hw9))
              have HD6 : Hid (Dw w w5.drew P (some ⟨tb, off, none⟩) ts.length ct lg0 nx0 la0 (.slice b xs.length cb) (.slice dd ks.length cd) 0 0 0) := HD5.out.onto ((Below.refl _ _).drew) hs5
              have HO6 : Hid (w5.drew.ownsRow (P + 1) 58 4 (.slice b xs.length cb) k (cellsT xs)) := HO5.out
              have HI6 : Hid (w5.drew.ownsRow (P + 1) 3 1 (.slice dd ks.length cd) ks.length (ic ks)) := HI5.out
              have e6 : w5.drew.cell? ⟨tb, off + r * 4, none⟩ = some (.int .i64 fn) := e0
              have x6 : w5.drew.cell? ⟨w.heap.size, 0, none⟩ = some (.slice (some ⟨tb, off, none⟩) ts.length ct) := x0
              have c6 : w5.drew.cell? ⟨P, 1, none⟩ = some (.slice dd ks.length cd) := c1
              have s6 : P + 1 ≤ w5.drew.heap.size := hs5
              have t6 : tb < w5.drew.heap.size := htb
              have l6 : P < w5.drew.heap.size := hs5
              have m6 : w.heap.size < w5.drew.heap.size := by have := HD6.out.h1; omega
              go_wp2_with fail
              generalize w5.drew = w6 at *
              clear HD5 HO5 HI5 e0 x0 x1 x2 x3 c0 c1 hs5 HY5 HH
              go_region_law ((refine step_append_own rfl (.tmp 85) (.tmp 92) 33 rfl (P + 1) 3 j0 _ 1 8 Tryz.underlying33 ji jz0 jz1 jz2 rfl (by decide) _ _ _ (by simp [Act.eval, Act.put]) ((HI6.out.alloc (.cells #[.int .i64 fn] 3)).drew) ⟨w6.heap.size, 0, none⟩ 1 1 [.int .i64 fn] (by simp [Act.eval, Act.put]) rfl (cell_one_newD w6 _ _) (fun x hx => by simp at hx; subst hx; rfl) (by have := HLk.out; unfold maxLen; omega) (by have := HLk.out; omega) (by simp; omega) ?_; intro v8 w8 hown8 hgrow8 hnil8; obtain ⟨g8, cap8, rfl⟩ := owns_succD hown8; have hb8 : Below (P + 1) w6 w8 := (((Below.refl (P + 1) w6).alloc s6 _).drew).grown hgrow8 (by simp; omega) (owns_base HI6.out); have hd8 := HD6.out.onto hb8 (Nat.le_refl _); have t8 := (five_cells hd8.hQ).2.1; have u8 := (five_free hd8.hQ).2.1))
              all_goals
                have HD8 := hd hd8
                have HW8 := hd hown8
                have HV8 := hd (owns_blocks (World.ownsRow.alloc HO6.out (.cells #[.int .i64 fn] 3)) (fun g hg => hgrow8.block g (owns_ltD (World.ownsRow.alloc HO6.out _) g hg) (fun e => owns_neD HO6.out HI6.out (by decide) g hg e.symm)))
                clear hd8 hown8 hgrow8 hnil8 hb8
                go_wp2_with fail
                exact ⟨⟨m + 1, q2 + 1, ks ++ [fn], .slice (some ⟨g8, 0, none⟩) (ks.length + 1) cap8, by congr 1, by go_num, by omega, by omega, (by show _ ≤ _; rw [List.length_append]; exact Nat.succ_le_succ HLk.out), HD8.out.q1 _, owns_set HV8.out (by omega), (by show World.ownsRow _ _ _ _ _ _ _; rw [ic_snoc, List.length_append]; exact owns_set HW8.out (by omega))⟩, by simp only [intOf]; omega⟩
          · have hz : (¬ (m : Int) < d) ∨ ((m : Int) < d ∧ ¬ (m : Int) < ts.length) := by omega
            have HS1 : Hid (xs.length ≤ 2) := by have := HL.out; show _ ≤ _; omega
            have HS2 : Hid (ks.length ≤ 2) := by have := HLk.out; show _ ≤ _; omega
            clear hg
            rcases hz with g1 | ⟨g1, g2⟩
            all_goals
              go_wp2_with fail
              refine (HT.out _ q2 6 HDr.out.hb (by omega) (by omega) (by omega)).mono ?_
              rintro e w5 ⟨r, hr, rfl, hb5⟩
              have HD5 := hd (HDr.out.onto hb5 hsr)
              have HO5 := hd (owns_below HO.out hb5)
              have HI5 := hd (owns_below HOi.out hb5)
              clear HDr HO HOi hb5 x0 x1 x2 x3
              obtain ⟨x0, x1, x2, x3⟩ := four_cells HD5.out.hV
              obtain ⟨c0, c1, c2, c3, c4⟩ := five_cells HD5.out.hQ
              obtain ⟨f0, f1, f2, f3, f4⟩ := five_free HD5.out.hQ
              obtain ⟨d0, d1, d2, d3, d4⟩ := five_cells HD5.out.hR
              obtain ⟨e0, e1, e2, e3, e4⟩ := five_free HD5.out.hR
              have hP1 := HD5.out.h1
              have hP2 : w.heap.size + 1 ≤ P + 1 := by omega
              have n1 : ¬ P = w.heap.size := by omega
              have n2 : ¬ P = w.heap.size + 1 := by omega
              have n3 : ¬ w.heap.size = P := by omega
              have n4 : ¬ w.heap.size + 1 = P := by omega
              by_cases h2 : r < 2
              · have h2' : (r : Int) < 2 := by omega
                go_wp2_with fail
                refine bodyPost_ret (v := .tuple #[edV b cb dd cd ⟨xs, ks, nx, wrap64 (nx + 1), wrap64 (la0 + r)⟩, .int .i64 ((q2 + 1 : Nat) : Int)]) (by simp [results, Tryz.results15, go_sem, d0, d1, d2, d3, d4]) rfl ⟨b, cb, dd, cd, _, q2 + 1, rfl, by omega, ⟨HS1.out, HS2.out, HX.out⟩, ?_, ?_, ?_⟩
                · exact rowLenD HL.out hP2 (owns_set (owns_set (owns_set (owns_set (owns_set (owns_set (owns_set (owns_set (owns_set (HO5.out) (by omega)) (by omega)) (by omega)) (by omega)) (by omega)) (by omega)) (by omega)) (by omega)) (by omega))
                · exact rowLenD rfl hP2 (owns_set (owns_set (owns_set (owns_set (owns_set (owns_set (owns_set (owns_set (owns_set (HI5.out) (by omega)) (by omega)) (by omega)) (by omega)) (by omega)) (by omega)) (by omega)) (by omega)) (by omega))
                · exact below_set (by omega) (below_set (by omega) (below_set (by omega) (below_set (by omega) (below_set (by omega) (below_set (by omega) (below_set (by omega) (below_set (by omega) (below_set (by omega) (HD5.out.hb)))))))))
              · have h2' : ¬ (r : Int) < 2 := by omega
                by_cases h3 : lg0 < 1
                · go_wp2_with fail
                  refine bodyPost_ret (v := .tuple #[edV b cb dd cd ⟨xs, ks, nx, wrap64 (nx + 1), wrap64 (la0 + r)⟩, .int .i64 ((q2 + 1 : Nat) : Int)]) (by simp [results, Tryz.results15, go_sem, d0, d1, d2, d3, d4]) rfl ⟨b, cb, dd, cd, _, q2 + 1, rfl, by omega, ⟨HS1.out, HS2.out, HX.out⟩, ?_, ?_, ?_⟩
                  · exact rowLenD HL.out hP2 (owns_set (owns_set (owns_set (owns_set (owns_set (owns_set (owns_set (owns_set (owns_set (HO5.out) (by omega)) (by omega)) (by omega)) (by omega)) (by omega)) (by omega)) (by omega)) (by omega)) (by omega))
                  · exact rowLenD rfl hP2 (owns_set (owns_set (owns_set (owns_set (owns_set (owns_set (owns_set (owns_set (owns_set (HI5.out) (by omega)) (by omega)) (by omega)) (by omega)) (by omega)) (by omega)) (by omega)) (by omega)) (by omega))
                  · exact below_set (by omega) (below_set (by omega) (below_set (by omega) (below_set (by omega) (below_set (by omega) (below_set (by omega) (below_set (by omega) (below_set (by omega) (below_set (by omega) (HD5.out.hb)))))))))
                · go_wp2_with fail
                  refine bodyPost_ret (v := .tuple #[edV b cb dd cd ⟨xs, ks, lg0, nx, wrap64 (la0 + r)⟩, .int .i64 ((q2 + 1 : Nat) : Int)]) (by simp [results, Tryz.results15, go_sem, d0, d1, d2, d3, d4]) rfl ⟨b, cb, dd, cd, _, q2 + 1, rfl, by omega, ⟨HS1.out, HS2.out, HX.out⟩, ?_, ?_, ?_⟩
                  · exact rowLenD HL.out hP2 (owns_set (owns_set (owns_set (owns_set (owns_set (owns_set (owns_set (owns_set (HO5.out) (by omega)) (by omega)) (by omega)) (by omega)) (by omega)) (by omega)) (by omega)) (by omega))
                  · exact rowLenD rfl hP2 (owns_set (owns_set (owns_set (owns_set (owns_set (owns_set (owns_set (owns_set (HI5.out) (by omega)) (by omega)) (by omega)) (by omega)) (by omega)) (by omega)) (by omega)) (by omega))
                  · exact below_set (by omega) (below_set (by omega) (below_set (by omega) (below_set (by omega) (below_set (by omega) (below_set (by omega) (below_set (by omega) (below_set (by omega) (HD5.out.hb))))))))
  · go_wp2_with fail
    generalize ((((W3.setCell ⟨P, 0, none⟩ (.slice none 0 0)).setCell ⟨P, 1, none⟩ (.slice none 0 0)).setCell ⟨P, 2, none⟩ (.int .i64 0)).setCell ⟨P, 3, none⟩ (.int .i64 0)).setCell ⟨P, 4, none⟩ (.int .i64 0) = W4 at *
    clear y0 y1 y2 y3 y4 z0 z1 z2 z3 z4 hW3 hPP x0 x1 x2 x3
    go_loopw [1, 11, 13] (fun vp vn vi wr => ∃ (k q : Nat) (nx : Int) (xs : List Tr) (v : Value), vp = .int .i64 (q : Int) ∧ vn = .int .i64 nx ∧ vi = .int .i64 (k : Int) ∧ k ≤ n ∧ q ≤ p + 2 + 3 * k ∧ Hid (xs.length = k) ∧ Hid (∀ t ∈ xs, SmT t) ∧ Hid (Dw w wr P t ts.length ct lg0 nx0 la0 v (.slice none 0 0) 0 0 0) ∧ Hid (wr.ownsRow (P + 1) 58 4 v k (cellsT xs))) (fun _ _ vi _ => n - (intOf vi).toNat)
    case atStart => exact ⟨0, p + 2, nx0, [], .slice none 0 0, by congr 1, rfl, rfl, by omega, by omega, rfl, (fun t ht => absurd ht (by simp)), HD1, ownsNil _ _ _ _⟩
    case round =>
      clear HD1
      obtain ⟨k, q, nx, xs, v, rfl, rfl, rfl, hk, hq, HL, HX, HDr, HO⟩ := hrel
      by_cases hkn : k < n
      · have hkn' : (k : Int) < (n : Int) := by omega
        have hsr := HDr.out.hs
        go_wp2_with fail
        have hbX := HDr.out.hb.alloc (o := .cells #[.int .i64 0, .int .i64 0, .string ⟨#[]⟩, .string ⟨#[]⟩] 58) (by have := HDr.out.h1; omega)
        refine (HR.out _ q nx hbX (by omega)).mono ?_
        rintro e w5 ⟨⟨nu, lv, lo, hi'⟩, rfl, hnu, hsm, hb5⟩
        dsimp only at hnu
        have hsX : (wr.alloc (.cells #[.int .i64 0, .int .i64 0, .string ⟨#[]⟩, .string ⟨#[]⟩] 58)).heap.size = wr.heap.size + 1 := size_alloc _ _
        have hT5 := (hb5.block wr.heap.size (by omega)).trans (World.heap_alloc_new wr (.cells #[.int .i64 0, .int .i64 0, .string ⟨#[]⟩, .string ⟨#[]⟩] 58))
        have hbr5 : Below wr.heap.size wr w5 := ((Below.refl _ _).alloc (Nat.le_refl _) _).trans (hb5.mono (by omega))
        have hO5 := owns_below HO.out hbr5
        have hlt5 := owns_ltD HO.out
        have hD5 := HDr.out.onto hbr5 hsr
        obtain ⟨a0, a1, a2, a3⟩ := four_cells hT5
        have f0 : w5.frozen? ⟨wr.heap.size, 0, none⟩ = false := by simp [World.frozen?, hT5]
        have f1 : w5.frozen? ⟨wr.heap.size, 1, none⟩ = false := by simp [World.frozen?, hT5]
        have f2 : w5.frozen? ⟨wr.heap.size, 2, none⟩ = false := by simp [World.frozen?, hT5]
        have f3 : w5.frozen? ⟨wr.heap.size, 3, none⟩ = false := by simp [World.frozen?, hT5]
        generalize hY : (((w5.setCell ⟨wr.heap.size, 0, none⟩ (.int .i64 nu)).setCell ⟨wr.heap.size, 1, none⟩ (.int .i64 lv)).setCell ⟨wr.heap.size, 2, none⟩ (.string lo)).setCell ⟨wr.heap.size, 3, none⟩ (.string hi') = Y
        have hTY : Y.heap[wr.heap.size]? = some (.cells #[.int .i64 nu, .int .i64 lv, .string lo, .string hi'] 58 (0, 0)) := by
          rw [← hY, heap_setCell_same _ _ _ _ _ _ (heap_setCell_same _ _ _ _ _ _ (heap_setCell_same _ _ _ _ _ _ (heap_setCell_same _ _ _ _ _ _ hT5)))]
          rfl
        have hbY : Below wr.heap.size w5 Y := by rw [← hY]; exact below_sets4' (Nat.le_refl _) _ _ _ _
        have hDY := hD5.onto hbY hsr
        have hOY : Y.ownsRow (P + 1) 58 4 v k (cellsT xs) := owns_blocks hO5 (fun g hg => hbY.block g (hlt5 g hg))
        obtain ⟨b0, b1, b2, b3⟩ := four_cells hTY
        obtain ⟨c0, -⟩ := five_cells hDY.hQ
        have HW := hd hOY
        have HDY := hd hDY
        have HZ := hd0 hDY.hs
        have HL' : Hid ((xs ++ [(⟨nu, lv, lo, hi'⟩ : Tr)]).length = k + 1) := by show _ = _; rw [List.length_append, HL.out]; rfl
        have HX' : Hid (∀ t ∈ xs ++ [(⟨nu, lv, lo, hi'⟩ : Tr)], SmT t) := fun t ht => by
          rcases List.mem_append.1 ht with ht | ht
          · exact HX.out t ht
          · simp only [List.mem_singleton] at ht
            subst ht
            exact hsm
        clear hT5 hbr5 hO5 hlt5 hD5 hb5 hbX hsX hTY hbY hDY hOY HDr HO hnu hsm
        go_wp2_with (at_builtin; refine wpList_append_own _ rfl _ _ 24 rfl (P + 1) 58 i0 _ 4 48 Tryz.underlying24 hi hz0 hz1 hz2 rfl (by decide) _ _ _ rfl (World.ownsRow.alloc HW.out _) ⟨Y.heap.size, 0, none⟩ 1 1 [.int .i64 nu, .int .i64 lv, .string lo, .string hi'] rfl rfl (cell_first4 _ _ _ _ _ _) (fun x hx => by simp at hx; rcases hx with rfl | rfl | rfl | rfl <;> rfl) (by unfold maxLen; omega) (by omega) (by have := HZ.out; rw [size_alloc]; omega) ?_; intro v8 w8 hown8 hgrow8 hnil8; obtain ⟨g8, cap8, rfl⟩ := owns_succD hown8; have hb8 : Below (P + 1) Y w8 := ((Below.refl (P + 1) Y).alloc HZ.out _).grown hgrow8 (by have := HZ.out; rw [size_alloc]; omega) (owns_base HW.out); have hd8 := HDY.out.onto hb8 (Nat.le_refl _); have t0 := (five_cells hd8.hQ).1; have u0 := (five_free hd8.hQ).1; have HD8 := hd hd8; have HW8 := hd hown8; clear hd8 hown8 hgrow8 hnil8 hb8)
        exact ⟨⟨k + 1, q + 3, _, xs ++ [⟨nu, lv, lo, hi'⟩], .slice (some ⟨g8, 0, none⟩) (k + 1) cap8, by congr 1, rfl, by go_num, by omega, by omega, HL', HX', HD8.out.q0 _, by show World.ownsRow _ _ _ _ _ _ _; rw [cellsT_snoc]; exact owns_set HW8.out (by omega)⟩, by simp [intOf]; omega⟩
      · obtain rfl : k = n := by omega
        have hkn' : ¬ (k : Int) < (k : Int) := by omega
        obtain ⟨-, b, cb, rfl, hres⟩ := resT_of_owns HO.out
        have HRs := hd hres
        clear hres
        go_wp2_with fail
        go_loopw [1, 15] (fun vp vi W => ∃ (m q2 : Nat) (ks : List Int) (u : Value), vp = .int .i64 (q2 : Int) ∧ vi = .int .i64 (m : Int) ∧ m ≤ d ∧ q2 ≤ q + m ∧ Hid (ks.length ≤ m) ∧ Hid (Dw w W P t ts.length ct lg0 nx0 la0 (.slice b xs.length cb) u 0 0 0) ∧ Hid (W.ownsRow (P + 1) 58 4 (.slice b xs.length cb) k (cellsT xs)) ∧ Hid (W.ownsRow (P + 1) 3 1 u ks.length (ic ks))) (fun _ vi _ => d - (intOf vi).toNat)
        case atStart => exact ⟨0, q, [], .slice none 0 0, rfl, rfl, by omega, by omega, Nat.le_refl _, HDr, HO, ownsNil _ _ _ _⟩
        case round =>
          clear HDr HO HRs
          obtain ⟨m, q2, ks, u, rfl, rfl, hm, hq2, HLk, HDr, HO, HOi⟩ := hrel
          obtain ⟨-, dd, cd, rfl, -⟩ := resI_of_owns HOi.out
          obtain ⟨x0, x1, x2, x3⟩ := four_cells HDr.out.hV
          have hsr := HDr.out.hs
          by_cases hg : m < d ∧ m < ts.length
          · obtain ⟨g1, g2⟩ := hg
            have g1' : (m : Int) < (d : Int) := by omega
            have g2' : (m : Int) < (ts.length : Int) := by omega
            go_wp2_with fail
            refine (HT.out _ q2 ts.length HDr.out.hb (by omega) (by omega) (by omega)).mono ?_
            rintro e w5 ⟨r, hr, rfl, hb5⟩
            have hD5 := HDr.out.onto hb5 hsr
            have hO5 := owns_below HO.out hb5
            have hI5 := owns_below HOi.out hb5
            obtain ⟨tb, off, rfl, htb, e0, -, -, -⟩ := (HTs.out.below hD5.hb).at hr
            generalize (ts.getD r tr0).nu = fn at *
            have hLi : LieI w5 dd ks := by
              obtain ⟨-, a9, c9, en9, hrI⟩ := resI_of_owns hI5
              injection en9 with f1 f2 f3
              subst f1
              exact hrI.lie
            have HH := hd0 (fun (w' : World) (h : LieI w' dd ks) => hasNum_any dd cd ks fn w' h (by have := HLk.out; omega))
            have HY5 : Hid (LieI w5.drew dd ks) := hLi
            clear x0 x1 x2 x3
            obtain ⟨x0, x1, x2, x3⟩ := four_cells hD5.hV
            obtain ⟨c0, c1, -⟩ := five_cells hD5.hQ
            have hr0 : (0 : Int) ≤ (r : Int) := by omega
            have hr1 : (r : Int) < (ts.length : Int) := by omega
            have HD5 := hd hD5
            have HO5 := hd hO5
            have HI5 := hd hI5
            have hs5 := hD5.hs
            have HLi := HLk
            clear hD5 hO5 hI5 hLi HDr HO HOi hb5
            go_wp2_with fail
            cases hcn : ks.contains fn with
            | true =>
              rw [hcn] at HH
              go_region_held3 (fun w' => w'.cell? ⟨P, 1, none⟩ = some (.slice dd ks.length cd) ∧ w'.cell? ⟨w.heap.size, 0, none⟩ = some (.slice (some ⟨tb, off, none⟩) ts.length ct) ∧ w'.cell? ⟨tb, off + r * 4, none⟩ = some (.int .i64 fn)) (simp [go_sem, *])
                (first | (go_at_call 41; refine (HH.out _ HY5.out).mono ?_; rintro e w9 ⟨rfl, hw9⟩; have hw9' := hw9.symm; subst hw9'; clear hw9))
              go_wp2_with fail
              exact ⟨⟨m + 1, q2 + 1, ks, .slice dd ks.length cd, by congr 1, by go_num, by omega, by omega, Nat.le_succ_of_le HLk.out, HD5.out.onto ((Below.refl _ _).drew) hs5, HO5.out, HI5.out⟩, by simp only [intOf]; omega⟩
            | false =>
              rw [hcn] at HH
              go_region_held3 (fun w' => w'.cell? ⟨P, 1, none⟩ = some (.slice dd ks.length cd) ∧ w'.cell? ⟨w.heap.size, 0, none⟩ = some (.slice (some ⟨tb, off, none⟩) ts.length ct) ∧ w'.cell? ⟨tb, off + r * 4, none⟩ = some (.int .i64 fn)) (simp [go_sem, *])
                (first | (go_at_call 41; refine (HH.out _ HY5.out).mono ?_; rintro e w9 ⟨rfl, hw9⟩; have hw9' := hw9.symm; subst hw9'; clear hw9))
              have HD6 : Hid (Dw w w5.drew P (some ⟨tb, off, none⟩) ts.length ct lg0 nx0 la0 (.slice b xs.length cb) (.slice dd ks.length cd) 0 0 0) := HD5.out.onto ((Below.refl _ _).drew) hs5
              have HO6 : Hid (w5.drew.ownsRow (P + 1) 58 4 (.slice b xs.length cb) k (cellsT xs)) := HO5.out
              have HI6 : Hid (w5.drew.ownsRow (P + 1) 3 1 (.slice dd ks.length cd) ks.length (ic ks)) := HI5.out
              have e6 : w5.drew.cell? ⟨tb, off + r * 4, none⟩ = some (.int .i64 fn) := e0
              have x6 : w5.drew.cell? ⟨w.heap.size, 0, none⟩ = some (.slice (some ⟨tb, off, none⟩) ts.length ct) := x0
              have c6 : w5.drew.cell? ⟨P, 1, none⟩ = some (.slice dd ks.length cd) := c1
              have s6 : P + 1 ≤ w5.drew.heap.size := hs5
              have t6 : tb < w5.drew.heap.size := htb
              have l6 : P < w5.drew.heap.size := hs5
              have m6 : w.heap.size < w5.drew.heap.size := by have := HD6.out.h1; omega
              go_wp2_with fail
              generalize w5.drew = w6 at *
              clear HD5 HO5 HI5 e0 x0 x1 x2 x3 c0 c1 hs5 HY5 HH
              go_region_law ((refine step_append_own rfl (.tmp 85) (.tmp 92) 33 rfl (P + 1) 3 j0 _ 1 8 Tryz.underlying33 ji jz0 jz1 jz2 rfl (by decide) _ _ _ (by simp [Act.eval, Act.put]) ((HI6.out.alloc (.cells #[.int .i64 fn] 3)).drew) ⟨w6.heap.size, 0, none⟩ 1 1 [.int .i64 fn] (by simp [Act.eval, Act.put]) rfl (cell_one_newD w6 _ _) (fun x hx => by simp at hx; subst hx; rfl) (by have := HLk.out; unfold maxLen; omega) (by have := HLk.out; omega) (by simp; omega) ?_; intro v8 w8 hown8 hgrow8 hnil8; obtain ⟨g8, cap8, rfl⟩ := owns_succD hown8; have hb8 : Below (P + 1) w6 w8 := (((Below.refl (P + 1) w6).alloc s6 _).drew).grown hgrow8 (by simp; omega) (owns_base HI6.out); have hd8 := HD6.out.onto hb8 (Nat.le_refl _); have t8 := (five_cells hd8.hQ).2.1; have u8 := (five_free hd8.hQ).2.1))
              all_goals
                have HD8 := hd hd8
                have HW8 := hd hown8
                have HV8 := hd (owns_blocks (World.ownsRow.alloc HO6.out (.cells #[.int .i64 fn] 3)) (fun g hg => hgrow8.block g (owns_ltD (World.ownsRow.alloc HO6.out _) g hg) (fun e => owns_neD HO6.out HI6.out (by decide) g hg e.symm)))
                clear hd8 hown8 hgrow8 hnil8 hb8
                go_wp2_with fail
                exact ⟨⟨m + 1, q2 + 1, ks ++ [fn], .slice (some ⟨g8, 0, none⟩) (ks.length + 1) cap8, by congr 1, by go_num, by omega, by omega, (by show _ ≤ _; rw [List.length_append]; exact Nat.succ_le_succ HLk.out), HD8.out.q1 _, owns_set HV8.out (by omega), (by show World.ownsRow _ _ _ _ _ _ _; rw [ic_snoc, List.length_append]; exact owns_set HW8.out (by omega))⟩, by simp only [intOf]; omega⟩
          · have hz : (¬ (m : Int) < d) ∨ ((m : Int) < d ∧ ¬ (m : Int) < ts.length) := by omega
            have HS1 : Hid (xs.length ≤ 2) := by have := HL.out; show _ ≤ _; omega
            have HS2 : Hid (ks.length ≤ 2) := by have := HLk.out; show _ ≤ _; omega
            clear hg
            rcases hz with g1 | ⟨g1, g2⟩
            all_goals
              go_wp2_with fail
              refine (HT.out _ q2 6 HDr.out.hb (by omega) (by omega) (by omega)).mono ?_
              rintro e w5 ⟨r, hr, rfl, hb5⟩
              have HD5 := hd (HDr.out.onto hb5 hsr)
              have HO5 := hd (owns_below HO.out hb5)
              have HI5 := hd (owns_below HOi.out hb5)
              clear HDr HO HOi hb5 x0 x1 x2 x3
              obtain ⟨x0, x1, x2, x3⟩ := four_cells HD5.out.hV
              obtain ⟨c0, c1, c2, c3, c4⟩ := five_cells HD5.out.hQ
              obtain ⟨f0, f1, f2, f3, f4⟩ := five_free HD5.out.hQ
              obtain ⟨d0, d1, d2, d3, d4⟩ := five_cells HD5.out.hR
              obtain ⟨e0, e1, e2, e3, e4⟩ := five_free HD5.out.hR
              have hP1 := HD5.out.h1
              have hP2 : w.heap.size + 1 ≤ P + 1 := by omega
              have n1 : ¬ P = w.heap.size := by omega
              have n2 : ¬ P = w.heap.size + 1 := by omega
              have n3 : ¬ w.heap.size = P := by omega
              have n4 : ¬ w.heap.size + 1 = P := by omega
              by_cases h2 : r < 2
              · have h2' : (r : Int) < 2 := by omega
                go_wp2_with fail
                refine bodyPost_ret (v := .tuple #[edV b cb dd cd ⟨xs, ks, nx, wrap64 (nx + 1), wrap64 (la0 + r)⟩, .int .i64 ((q2 + 1 : Nat) : Int)]) (by simp [results, Tryz.results15, go_sem, d0, d1, d2, d3, d4]) rfl ⟨b, cb, dd, cd, _, q2 + 1, rfl, by omega, ⟨HS1.out, HS2.out, HX.out⟩, ?_, ?_, ?_⟩
                · exact rowLenD HL.out hP2 (owns_set (owns_set (owns_set (owns_set (owns_set (owns_set (owns_set (owns_set (owns_set (HO5.out) (by omega)) (by omega)) (by omega)) (by omega)) (by omega)) (by omega)) (by omega)) (by omega)) (by omega))
                · exact rowLenD rfl hP2 (owns_set (owns_set (owns_set (owns_set (owns_set (owns_set (owns_set (owns_set (owns_set (HI5.out) (by omega)) (by omega)) (by omega)) (by omega)) (by omega)) (by omega)) (by omega)) (by omega)) (by omega))
                · exact below_set (by omega) (below_set (by omega) (below_set (by omega) (below_set (by omega) (below_set (by omega) (below_set (by omega) (below_set (by omega) (below_set (by omega) (below_set (by omega) (HD5.out.hb)))))))))
              · have h2' : ¬ (r : Int) < 2 := by omega
                by_cases h3 : lg0 < 1
                · go_wp2_with fail
                  refine bodyPost_ret (v := .tuple #[edV b cb dd cd ⟨xs, ks, nx, wrap64 (nx + 1), wrap64 (la0 + r)⟩, .int .i64 ((q2 + 1 : Nat) : Int)]) (by simp [results, Tryz.results15, go_sem, d0, d1, d2, d3, d4]) rfl ⟨b, cb, dd, cd, _, q2 + 1, rfl, by omega, ⟨HS1.out, HS2.out, HX.out⟩, ?_, ?_, ?_⟩
                  · exact rowLenD HL.out hP2 (owns_set (owns_set (owns_set (owns_set (owns_set (owns_set (owns_set (owns_set (owns_set (HO5.out) (by omega)) (by omega)) (by omega)) (by omega)) (by omega)) (by omega)) (by omega)) (by omega)) (by omega))
                  · exact rowLenD rfl hP2 (owns_set (owns_set (owns_set (owns_set (owns_set (owns_set (owns_set (owns_set (owns_set (HI5.out) (by omega)) (by omega)) (by omega)) (by omega)) (by omega)) (by omega)) (by omega)) (by omega)) (by omega))
                  · exact below_set (by omega) (below_set (by omega) (below_set (by omega) (below_set (by omega) (below_set (by omega) (below_set (by omega) (below_set (by omega) (below_set (by omega) (below_set (by omega) (HD5.out.hb)))))))))
                · go_wp2_with fail
                  refine bodyPost_ret (v := .tuple #[edV b cb dd cd ⟨xs, ks, lg0, nx, wrap64 (la0 + r)⟩, .int .i64 ((q2 + 1 : Nat) : Int)]) (by simp [results, Tryz.results15, go_sem, d0, d1, d2, d3, d4]) rfl ⟨b, cb, dd, cd, _, q2 + 1, rfl, by omega, ⟨HS1.out, HS2.out, HX.out⟩, ?_, ?_, ?_⟩
                  · exact rowLenD HL.out hP2 (owns_set (owns_set (owns_set (owns_set (owns_set (owns_set (owns_set (owns_set (HO5.out) (by omega)) (by omega)) (by omega)) (by omega)) (by omega)) (by omega)) (by omega)) (by omega))
                  · exact rowLenD rfl hP2 (owns_set (owns_set (owns_set (owns_set (owns_set (owns_set (owns_set (owns_set (HI5.out) (by omega)) (by omega)) (by omega)) (by omega)) (by omega)) (by omega)) (by omega)) (by omega))
                  · exact below_set (by omega) (below_set (by omega) (below_set (by omega) (below_set (by omega) (below_set (by omega) (below_set (by omega) (below_set (by omega) (below_set (by omega) (HD5.out.hb))))))))
end Go.Proofs.YtgpjhlhjdafjlaaGreatDoor
