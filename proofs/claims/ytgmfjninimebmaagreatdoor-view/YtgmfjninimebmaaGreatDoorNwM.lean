import Derived.Test.YtgmfjninimebmaaGreatDoorMgNwJ

import Derived.Deep.DeepCutAuto
namespace Go.Proofs.YtgmfjninimebmaaGreatDoor
open Go.RowKit Go.Maps
set_option linter.unusedVariables false
set_option linter.unusedSimpArgs false

/-- Two sorted rows of no more than N entries are merged. -/
def SymP (N : Nat) : Prop := ∀ (g n cap : Nat) (X A B Y : List En) (w : World), A.length + B.length ≤ N → 0 < A.length → 0 < B.length → RowE w g n (X ++ A ++ B ++ Y) n → (X ++ A ++ B ++ Y).length = n → n ≤ 1048576 → Srtd befE A → Srtd befE B → ∀ a m b : Nat, a = X.length → m = X.length + A.length → b = X.length + A.length + B.length →
    Calls Tryz.prog 167 #[.slice (some ⟨g, 0, none⟩) n cap, .int .i64 a, .int .i64 m, .int .i64 b, .func (.func 86) #[] #[]] w fun ee w' => (∃ v, ee = .returned v) ∧ RowE w' g n (X ++ srt befE (A ++ B) ++ Y) n ∧ OnlyG g w w'
theorem sym_nums {a m b md st r : Nat} (h1 : a + 1 < m) (h2 : m + 1 < b) (hb : b ≤ 1048576) (emid : md = (a + b) / 2) (est : st = if md < m then md + m - b else a) (er : r = if md < m then md else m) :
    a ≤ st ∧ st ≤ r ∧ r ≤ m ∧ md < b ∧ a < md ∧ md + m - st ≤ b ∧ m ≤ md + m - r ∧ ((a : Int) + (b : Int)) / 2 = (md : Int) ∧ (md < m → ((md + m : Nat) : Int) - (b : Int) = (st : Int)) := by
  refine ⟨?_, ?_, ?_, ?_, ?_, ?_, ?_, ?_, ?_⟩
  · rw [est]; split <;> omega
  · rw [est, er]; split <;> omega
  · rw [er]; split <;> omega
  · omega
  · omega
  · rw [est]; split <;> omega
  · rw [er]; split <;> omega
  · omega
  · intro h; rw [est, if_pos h]; omega
set_option maxRecDepth 100000 in
set_option maxHeartbeats 8000000 in
theorem symRest (N : Nat) (ih : SymP N) (g n cap : Nat) (X A B Y : List En) (w : World) (hAB : A.length + B.length ≤ N + 1) (hp : RowE w g n (X ++ A ++ B ++ Y) n) (hl : (X ++ A ++ B ++ Y).length = n) (hn : n ≤ 1048576) (a m b : Nat) (ha : a = X.length) (hm : m = X.length + A.length) (hb : b = X.length + A.length + B.length) (hA : Srtd befE A) (hA2 : 1 < A.length) (hB : Srtd befE B) (hB2 : 1 < B.length) :
    Calls Tryz.prog 167 #[.slice (some ⟨g, 0, none⟩) n cap, .int .i64 a, .int .i64 m, .int .i64 b, .func (.func 86) #[] #[]] w fun ee w' => (∃ v, ee = .returned v) ∧ RowE w' g n (X ++ srt befE (A ++ B) ++ Y) n ∧ OnlyG g w w' := by
  have hlen : X.length + A.length + B.length + Y.length = n := by simp at hl; omega
  have HP := hdN hp
  have HIH := hdN ih
  have hbn : b ≤ n := by omega
  have ham : a + 1 < m := by omega
  have hmb : m + 1 < b := by omega
  have hwa : IntKind.i64.wrap ((m : Int) - (a : Int)) = (A.length : Int) := by rw [IntKind.wrap_i64]; omega
  have hma : (m : Int) - (a : Int) = (A.length : Int) := by omega
  have hma1 : ((A.length : Int) == 1) = false := by simp; omega
  have hma2 : ¬ (A.length : Int) = 1 := by omega
  have hma3 : ¬ A.length = 1 := by omega
  have hwb : IntKind.i64.wrap ((b : Int) - (m : Int)) = (B.length : Int) := by rw [IntKind.wrap_i64]; omega
  have hbm : (b : Int) - (m : Int) = (B.length : Int) := by omega
  have hbm1 : ((B.length : Int) == 1) = false := by simp; omega
  have hbm2 : ¬ (B.length : Int) = 1 := by omega
  have hbm3 : ¬ B.length = 1 := by omega
  obtain ⟨md, emid⟩ : ∃ md, md = (a + b) / 2 := ⟨_, rfl⟩
  obtain ⟨st, est⟩ : ∃ st, st = if md < m then md + m - b else a := ⟨_, rfl⟩
  obtain ⟨r, er⟩ : ∃ r, r = if md < m then md else m := ⟨_, rfl⟩
  have HS : Hid (Sym X A B Y a m b md st r) := ⟨ha, hm, hb, emid, est, er⟩
  obtain ⟨k1, k2, k3, k4, k5, k6, k7, hmd, hst⟩ := sym_nums ham hmb (by omega) emid est er
  obtain ⟨nn, hnn⟩ : ∃ nn, nn = md + m := ⟨_, rfl⟩
  have hnn' : (md : Int) + (m : Int) = (nn : Int) := by omega
  obtain ⟨p, hpp⟩ : ∃ p, p = nn - 1 := ⟨_, rfl⟩
  have hpp' : (nn : Int) - 1 = (p : Int) := by omega
  rw [← hnn] at k6 k7 hst
  have HEst := hdN est
  have HEr := hdN er
  have HEm := hdN emid
  obtain ⟨T, hT⟩ : ∃ T, T = X ++ srt befE (A ++ B) ++ Y := ⟨_, rfl⟩
  rw [← hT]
  obtain ⟨F, hF⟩ : ∃ F : Nat → Bool, F = f3 (X ++ A ++ B ++ Y) p := ⟨_, rfl⟩
  have hpe : p = md + m - 1 := by omega
  have HM : Hid (Mono F st r) := by rw [hF, hpe]; exact sym_mono HS.out hA hB (by omega) (by omega)
  have HOK : Hid (∀ s, BsI F st r s s → a ≤ s ∧ s ≤ m ∧ m ≤ nn - s ∧ nn - s ≤ b ∧ s ≤ md ∧ md ≤ nn - s ∧ ∃ A1 A2 B1 B2, A = A1 ++ A2 ∧ B = B1 ++ B2 ∧ s = X.length + A1.length ∧ md = X.length + A1.length + B1.length ∧ nn - s = X.length + A.length + B1.length ∧ Srtd befE A1 ∧ Srtd befE A2 ∧ Srtd befE B1 ∧ Srtd befE B2 ∧ srt befE (A1 ++ B1) ++ srt befE (A2 ++ B2) = srt befE (A ++ B)) := fun s h => by
    rw [hF, hpe] at h
    rw [hnn]
    exact sym_ok HS.out hA hB (by omega) (by omega) h
  have HF : Hid (∀ k, F k = !befE ((X ++ A ++ B ++ Y).getD (p - k) en0) ((X ++ A ++ B ++ Y).getD k en0)) := fun k => by rw [hF]; rfl
  have HLZ := hdN hl
  have HAx := hdN ha
  have HMx := hdN hm
  have HBx := hdN hb
  have hLN := hdN hlen
  have HTx := hdN hT
  have HABx := hdN hAB
  have HNN := hdN hnn
  generalize hZ : X ++ A ++ B ++ Y = Z at *
  generalize hAl : A.length = al at *
  generalize hBl : B.length = bl at *
  have HAl := hdN hAl
  have HBl := hdN hBl
  have HZ := hdN hZ
  clear hp hl hT ha hb hlen hF hA hB hm hZ hA2 hAl hB2 hBl ih hAB est er emid
  clear hnn hpe hpp
  go_enter Tryz.func167, Tryz.ntmps167
  go_upto_if 140 with fail
  go_cut [20, 21] (fun v20 v21 wx => v20 = .int .i64 (st : Int) ∧ v21 = .int .i64 (r : Int) ∧ wx = w)
  case first => as_aux_lemma =>
    by_cases hc : md < m
    · have hc' : (md : Int) < (m : Int) := by omega
      have hst' := hst hc
      have hr' : Hid (md = r) := by show _ = _; rw [HEr.out, if_pos hc]
      clear hst
      go_wp2_with fail
      go_meet
      exact ⟨rfl, by rw [hr'.out], rfl⟩
    · have hc' : ¬ (md : Int) < (m : Int) := by omega
      have hst' : Hid (a = st) := by show _ = _; rw [HEst.out, if_neg hc]
      have hr' : Hid (m = r) := by show _ = _; rw [HEr.out, if_neg hc]
      clear hst
      go_wp2_with fail
      go_meet
      exact ⟨by rw [hst'.out], by rw [hr'.out], rfl⟩
  case rest =>
  obtain ⟨rfl, rfl, hwc⟩ := hcut
  replace hwc := hwc.symm
  subst hwc
  clear hst
  go_wp2_with fail
  go_loopw [20, 21] (fun v20 v21 W => ∃ (i j : Nat), v20 = .int .i64 (i : Int) ∧ v21 = .int .i64 (j : Int) ∧ Hid (BsI F st r i j) ∧ Hid (RowE W g n Z n) ∧ Hid (OnlyG g w W)) (fun v20 v21 _ => (intOf v21).toNat - (intOf v20).toNat)
  case atStart => exact ⟨st, r, rfl, rfl, BsI.start _ k2, HP, ⟨rfl, rfl, rfl, Nat.le_refl _, fun _ _ _ => rfl⟩⟩
  case round =>
    clear HP
    obtain ⟨i, j, rfl, rfl, HI, HP, HO⟩ := hrel
    have hI1 := HI.out.a
    have hI2 := HI.out.b
    have hI3 := HI.out.c
    by_cases hij : i < j
    · have hij' : (i : Int) < (j : Int) := by omega
      obtain ⟨h, hh⟩ : ∃ h : Nat, h = (i + j) / 2 := ⟨_, rfl⟩
      have hh' : ((i : Int) + (j : Int)) / 2 = (h : Int) := by omega
      have hih : i ≤ h := by omega
      have hhj : h < j := by omega
      obtain ⟨q, hq⟩ : ∃ q, q = p - h := ⟨_, rfl⟩
      have hq' : (p : Int) - (h : Int) = (q : Int) := by omega
      have hqn : (q : Int) < (n : Int) := by omega
      have hqw2 : IntKind.i64.wrap (q : Int) = (q : Int) := by rw [IntKind.wrap_i64]; omega
      have hq0 : (0 : Int) ≤ (q : Int) := by omega
      have hqw : IntKind.i64.wrap ((p : Int) - (h : Int)) = (q : Int) := by rw [IntKind.wrap_i64]; omega
      have hhn : (h : Int) < (n : Int) := by omega
      clear hh
      have HFh := hdN (HF.out h)
      obtain ⟨cs, r1, r2, r3⟩ := HP.out
      obtain ⟨c0, c1, c2, c3⟩ := r3 q (by omega)
      obtain ⟨d0, d1, d2, d3⟩ := r3 h (by omega)
      have cell : ∀ o v, cs[o]? = some v → wr.cell? ⟨g, o, none⟩ = some v := fun o v h => by simp only [World.cell?, r1]; exact h
      have x0 := cell _ _ c0
      have x1 := cell _ _ c1
      have x2 := cell _ _ c2
      have x3 := cell _ _ c3
      have y0 := cell _ _ d0
      have y1 := cell _ _ d1
      have y2 := cell _ _ d2
      have y3 := cell _ _ d3
      have hgl := heap_lt r1
      clear c0 c1 c2 c3 d0 d1 d2 d3 cell r3 r1 r2
      rw [← hq] at HFh
      clear hq
      generalize Z.getD q en0 = x at *
      generalize Z.getD h en0 = y at *
      have HC := hdN (entryOrder_any x y wr.drew)
      have HL := hdN (ordE_lt x y)
      cases hbf : befE x y with
      | false => as_aux_lemma =>
        have hlt0 : ¬ ordE x y < 0 := by have := HL.out; rw [hbf] at this; simp at this; omega
        have HN : Hid (BsI F st r (h + 1) j) := BsI.up HM.out HI.out hih hhj (by rw [HFh.out, hbf]; rfl)
        clear hbf HL HFh
        generalize ordE x y = oi at *
        go_wp2_with fail
        go_region_held3 (fun w' => w'.cell? ⟨g, q * 4, none⟩ = some (.string x.ky) ∧ w'.cell? ⟨g, q * 4 + 1, none⟩ = some (.int .i64 x.sq) ∧ w'.cell? ⟨g, q * 4 + 2, none⟩ = some (.int .i64 x.kd) ∧ w'.cell? ⟨g, q * 4 + 3, none⟩ = some (.string x.vl) ∧ w'.cell? ⟨g, h * 4, none⟩ = some (.string y.ky) ∧ w'.cell? ⟨g, h * 4 + 1, none⟩ = some (.int .i64 y.sq) ∧ w'.cell? ⟨g, h * 4 + 2, none⟩ = some (.int .i64 y.kd) ∧ w'.cell? ⟨g, h * 4 + 3, none⟩ = some (.string y.vl)) (simp [go_sem, *])
          (first | (go_at_call 86; refine HC.out.mono ?_; rintro ee w6 ⟨rfl, hb6⟩; have HG6 := hdN ((Below.refl wr.heap.size wr).drew.trans hb6); have u0 := (HG6.out.cell (p := ⟨g, (q) * 4, none⟩) hgl).trans x0; have u1 := (HG6.out.cell (p := ⟨g, (q) * 4 + 1, none⟩) hgl).trans x1; have u2 := (HG6.out.cell (p := ⟨g, (q) * 4 + 2, none⟩) hgl).trans x2; have u3 := (HG6.out.cell (p := ⟨g, (q) * 4 + 3, none⟩) hgl).trans x3; have v0 := (HG6.out.cell (p := ⟨g, (h) * 4, none⟩) hgl).trans y0; have v1 := (HG6.out.cell (p := ⟨g, (h) * 4 + 1, none⟩) hgl).trans y1; have v2 := (HG6.out.cell (p := ⟨g, (h) * 4 + 2, none⟩) hgl).trans y2; have v3 := (HG6.out.cell (p := ⟨g, (h) * 4 + 3, none⟩) hgl).trans y3; clear hb6))
        have HP6 : Hid (RowE w6 g n Z n) := RowE.block HP.out (HG6.out.block g hgl)
        have HO6 := hdN (HO.out.trans (OnlyG.of HG6.out))
        clear x0 x1 x2 x3 y0 y1 y2 y3 HP HO HC HG6
        go_wp2_with fail
        all_goals first
          | exact ⟨⟨h + 1, j, by first | rfl | go_num, rfl, HN, HP6, HO6⟩, by simp only [intOf]; omega⟩
          | (exfalso; rename_i hx; simp at hx; omega)
      | true => as_aux_lemma =>
        have hlt0 : ordE x y < 0 := by have := HL.out; rw [hbf] at this; simp at this; omega
        have HN : Hid (BsI F st r i h) := BsI.down HM.out HI.out hih hhj (by rw [HFh.out, hbf]; rfl)
        clear hbf HL HFh
        generalize ordE x y = oi at *
        go_wp2_with fail
        go_region_held3 (fun w' => w'.cell? ⟨g, q * 4, none⟩ = some (.string x.ky) ∧ w'.cell? ⟨g, q * 4 + 1, none⟩ = some (.int .i64 x.sq) ∧ w'.cell? ⟨g, q * 4 + 2, none⟩ = some (.int .i64 x.kd) ∧ w'.cell? ⟨g, q * 4 + 3, none⟩ = some (.string x.vl) ∧ w'.cell? ⟨g, h * 4, none⟩ = some (.string y.ky) ∧ w'.cell? ⟨g, h * 4 + 1, none⟩ = some (.int .i64 y.sq) ∧ w'.cell? ⟨g, h * 4 + 2, none⟩ = some (.int .i64 y.kd) ∧ w'.cell? ⟨g, h * 4 + 3, none⟩ = some (.string y.vl)) (simp [go_sem, *])
          (first | (go_at_call 86; refine HC.out.mono ?_; rintro ee w6 ⟨rfl, hb6⟩; have HG6 := hdN ((Below.refl wr.heap.size wr).drew.trans hb6); have u0 := (HG6.out.cell (p := ⟨g, (q) * 4, none⟩) hgl).trans x0; have u1 := (HG6.out.cell (p := ⟨g, (q) * 4 + 1, none⟩) hgl).trans x1; have u2 := (HG6.out.cell (p := ⟨g, (q) * 4 + 2, none⟩) hgl).trans x2; have u3 := (HG6.out.cell (p := ⟨g, (q) * 4 + 3, none⟩) hgl).trans x3; have v0 := (HG6.out.cell (p := ⟨g, (h) * 4, none⟩) hgl).trans y0; have v1 := (HG6.out.cell (p := ⟨g, (h) * 4 + 1, none⟩) hgl).trans y1; have v2 := (HG6.out.cell (p := ⟨g, (h) * 4 + 2, none⟩) hgl).trans y2; have v3 := (HG6.out.cell (p := ⟨g, (h) * 4 + 3, none⟩) hgl).trans y3; clear hb6))
        have HP6 : Hid (RowE w6 g n Z n) := RowE.block HP.out (HG6.out.block g hgl)
        have HO6 := hdN (HO.out.trans (OnlyG.of HG6.out))
        clear x0 x1 x2 x3 y0 y1 y2 y3 HP HO HC HG6
        go_wp2_with fail
        all_goals first
          | exact ⟨⟨i, h, rfl, by first | rfl | go_num, HN, HP6, HO6⟩, by simp only [intOf]; omega⟩
          | (exfalso; rename_i hx; simp at hx; omega)
    · have hij' : ¬ (i : Int) < (j : Int) := by omega
      have hje : j = i := by omega
      subst hje
      obtain ⟨l1, l2, l3, l4, l5, l6, A1, A2, B1, B2, eA, eB, es, em, ee, sA1, sA2, sB1, sB2, eT⟩ := HOK.out _ HI.out
      obtain ⟨en, hen⟩ : ∃ en, en = nn - j := ⟨_, rfl⟩
      have hjn : j ≤ nn := by have := HNN.out; omega
      have hen' : (nn : Int) - (j : Int) = (en : Int) := by omega
      rw [← hen] at l3 l4 l6 ee
      have lA : al = A1.length + A2.length := by rw [← HAl.out, eA]; simp
      have lB : bl = B1.length + B2.length := by rw [← HBl.out, eB]; simp
      have e1 := HMx.out
      have e2 := HBx.out
      have e3 := HAx.out
      have HZ1 : Hid (Z = X ++ A1 ++ A2 ++ B1 ++ (B2 ++ Y)) := by show _ = _; rw [← HZ.out, eA, eB]; simp
      have HZl : Hid ((X ++ A1 ++ A2 ++ B1 ++ (B2 ++ Y)).length = n) := by show _ = _; rw [← HZ1.out]; exact HLZ.out
      have HZ2 : Hid ((X ++ A1 ++ B1 ++ A2 ++ (B2 ++ Y)).length = n) := by have h1 := HZl.out; show _ = _; simp at h1 ⊢; omega
      have HeT : Hid (X ++ srt befE (A1 ++ B1) ++ srt befE (A2 ++ B2) ++ Y = T) := by show _ = _; rw [HTx.out, ← eT]; simp
      have hA1l : j - a = A1.length := by omega
      have hA2l : m - j = A2.length := by omega
      have hB1l : en - m = B1.length := by omega
      have hB2l : b - en = B2.length := by omega
      have HP1 : Hid (RowE wr g n (X ++ A1 ++ A2 ++ B1 ++ (B2 ++ Y)) n) := by show RowE _ _ _ _ _; rw [← HZ1.out]; exact HP.out
      have HJ1 : Hid (j = (X ++ A1).length) := by show _ = _; simp; omega
      have HJ2 : Hid (m = (X ++ A1).length + A2.length) := by show _ = _; simp; omega
      have HJ3 : Hid (en = (X ++ A1).length + A2.length + B1.length) := by show _ = _; simp; omega
      have HK2 : Hid (md = X.length + A1.length + B1.length) := em
      have HQ1 : Hid (md = (X ++ srt befE (A1 ++ B1)).length) := by show _ = _; rw [List.length_append, srt_length]; simp; omega
      have hlS : A1.length + B1.length ≤ N ∧ A2.length + B2.length ≤ N := by have h1 := HABx.out; have h2 := HEm.out; omega
      have HSL := hdN hlS
      have hsS := hdN (And.intro sA1 (And.intro sA2 (And.intro sB1 sB2)))
      clear eA eB es em ee sA1 sA2 sB1 sB2 eT hlS lA lB e1 e2 e3 hen HP HI
      obtain ⟨bx, hbx⟩ : ∃ bx : Bool, bx = (decide (j < m) && decide (m < en)) := ⟨_, rfl⟩
      replace hbx := hdN hbx
      go_upto_region 39 with fail
      go_cut [185] (fun v wx => v = .bool bx ∧ wx = wr)
      case first => as_aux_lemma =>
        by_cases c1 : j < m
        · have c1' : (j : Int) < (m : Int) := by omega
          have c1d : decide ((j : Int) < (m : Int)) = true := by rw [decide_eq_true_iff]; exact c1'
          by_cases c2 : m < en
          · have c2' : (m : Int) < (en : Int) := by omega
            have c2d : decide ((m : Int) < (en : Int)) = true := by rw [decide_eq_true_iff]; exact c2'
            have q3 : bx = true := by rw [hbx.out]; simp [c1, c2]
            subst q3
            go_wp2_with fail
            go_meet
            exact ⟨rfl, rfl⟩
          · have c2' : ¬ (m : Int) < (en : Int) := by omega
            have c2d : decide ((m : Int) < (en : Int)) = false := by rw [decide_eq_false_iff_not]; exact c2'
            have q3 : bx = false := by rw [hbx.out]; simp [c1, c2]
            subst q3
            go_wp2_with fail
            go_meet
            exact ⟨rfl, rfl⟩
        · have c1' : ¬ (j : Int) < (m : Int) := by omega
          have c1d : decide ((j : Int) < (m : Int)) = false := by rw [decide_eq_false_iff_not]; exact c1'
          have q3 : bx = false := by rw [hbx.out]; simp [c1]
          subst q3
          go_wp2_with fail
          go_meet
          exact ⟨rfl, rfl⟩
      case rest =>
      obtain ⟨rfl, hwc⟩ := hcut
      replace hwc := hwc.symm
      subst hwc
      go_upto_if 185 with fail
      go_cut [24] (fun v wx => v = .int .i64 (en : Int) ∧ Hid (RowE wx g n (X ++ A1 ++ B1 ++ A2 ++ (B2 ++ Y)) n) ∧ Hid (OnlyG g w wx))
      case first => as_aux_lemma =>
        cases bx with
        | true =>
            have hbx' := hbx.out.symm
            simp at hbx'
            obtain ⟨c1, c2⟩ := hbx'
            go_wp2_with fail
            refine (rotate_any g n cap (X ++ A1) A2 B1 (B2 ++ Y) _ wr HP1.out HZl.out (by omega) (by omega) hn j m en HJ1.out HJ2.out HJ3.out).mono ?_
            rintro e w7 ⟨⟨v7, rfl⟩, HR7, HO7⟩
            have HR7' := hdN HR7
            have HO7' := hdN (HO.out.trans HO7)
            clear HR7 HO7
            go_wp2_with fail
            go_meet
            exact ⟨rfl, HR7', HO7'⟩
        | false =>
            have hbx' := hbx.out.symm
            have hn1 : A2 = [] ∨ B1 = [] := by
              by_cases c1 : j < m
              · exact Or.inr (List.length_eq_zero_iff.1 (by simp [c1] at hbx'; omega))
              · exact Or.inl (List.length_eq_zero_iff.1 (by omega))
            have HP1x : Hid (RowE wr g n (X ++ A1 ++ B1 ++ A2 ++ (B2 ++ Y)) n) := by
              show RowE _ _ _ _ _
              rcases hn1 with h | h
              · rw [h] at HP1 ⊢; simpa using HP1.out
              · rw [h] at HP1 ⊢; simpa using HP1.out
            clear hn1
            go_wp2_with fail
            go_meet
            exact ⟨rfl, HP1x, HO⟩
      case rest =>
        obtain ⟨rfl, HP2, HO2⟩ := hcut
        clear HP1 HO
        have HP2' : Hid (RowE wc g n (X ++ A1 ++ B1 ++ (A2 ++ B2 ++ Y)) n) := by show RowE _ _ _ _ _; simpa using HP2.out
        have HZ3 : Hid ((X ++ A1 ++ B1 ++ (A2 ++ B2 ++ Y)).length = n) := by show _ = _; simpa using HZ2.out
        obtain ⟨by_, hby_⟩ : ∃ by_ : Bool, by_ = (decide (a < j) && decide (j < md)) := ⟨_, rfl⟩
        replace hby_ := hdN hby_
        go_upto_region 41 with fail
        go_cut [199] (fun v wx => v = .bool by_ ∧ wx = wc)
        case first => as_aux_lemma =>
          by_cases c1 : a < j
          · have c1' : (a : Int) < (j : Int) := by omega
            have c1d : decide ((a : Int) < (j : Int)) = true := by rw [decide_eq_true_iff]; exact c1'
            by_cases c2 : j < md
            · have c2' : (j : Int) < (md : Int) := by omega
              have c2d : decide ((j : Int) < (md : Int)) = true := by rw [decide_eq_true_iff]; exact c2'
              have q3 : by_ = true := by rw [hby_.out]; simp [c1, c2]
              subst q3
              go_wp2_with fail
              go_meet
              exact ⟨rfl, rfl⟩
            · have c2' : ¬ (j : Int) < (md : Int) := by omega
              have c2d : decide ((j : Int) < (md : Int)) = false := by rw [decide_eq_false_iff_not]; exact c2'
              have q3 : by_ = false := by rw [hby_.out]; simp [c1, c2]
              subst q3
              go_wp2_with fail
              go_meet
              exact ⟨rfl, rfl⟩
          · have c1' : ¬ (a : Int) < (j : Int) := by omega
            have c1d : decide ((a : Int) < (j : Int)) = false := by rw [decide_eq_false_iff_not]; exact c1'
            have q3 : by_ = false := by rw [hby_.out]; simp [c1]
            subst q3
            go_wp2_with fail
            go_meet
            exact ⟨rfl, rfl⟩
        case rest =>
        obtain ⟨rfl, hwc⟩ := hcut
        replace hwc := hwc.symm
        subst hwc
        go_upto_if 199 with fail
        go_cut [24] (fun v wx => v = .int .i64 (en : Int) ∧ Hid (RowE wx g n (X ++ srt befE (A1 ++ B1) ++ (A2 ++ B2 ++ Y)) n) ∧ Hid (OnlyG g w wx))
        case first => as_aux_lemma =>
          cases by_ with
          | true =>
              have hbx' := hby_.out.symm
              simp at hbx'
              obtain ⟨c1, c2⟩ := hbx'
              go_wp2_with fail
              refine (HIH.out g n cap X A1 B1 (A2 ++ B2 ++ Y) wc HSL.out.1 (by omega) (by have := HK2.out; have := HJ1.out; simp at this; omega) HP2'.out HZ3.out hn hsS.out.1 hsS.out.2.2.1 a j md HAx.out (by have := HJ1.out; simpa using this) HK2.out).mono ?_
              rintro e w7 ⟨⟨v7, rfl⟩, HR7, HO7⟩
              have HR7' := hdN HR7
              have HO7' := hdN (HO2.out.trans HO7)
              clear HR7 HO7
              go_wp2_with fail
              go_meet
              exact ⟨rfl, HR7', HO7'⟩
          | false =>
              have hbx' := hby_.out.symm
              have hn1 : srt befE (A1 ++ B1) = A1 ++ B1 := by
                by_cases c1 : a < j
                · have hn1 : B1 = [] := List.length_eq_zero_iff.1 (by simp [c1] at hbx'; have := HK2.out; have := HJ1.out; simp at this; omega)
                  rw [hn1]; simpa using srt_self hsS.out.1
                · have hn1 : A1 = [] := List.length_eq_zero_iff.1 (by omega)
                  rw [hn1]; simpa using srt_self hsS.out.2.2.1
              have HP1x : Hid (RowE wc g n (X ++ srt befE (A1 ++ B1) ++ (A2 ++ B2 ++ Y)) n) := by
                show RowE _ _ _ _ _
                rw [hn1]
                simpa using HP2'.out
              clear hn1
              go_wp2_with fail
              go_meet
              exact ⟨rfl, HP1x, HO2⟩
        case rest =>
          obtain ⟨rfl, HP3, HO3⟩ := hcut
          clear HP2 HP2' HO2 HZ3
          have HP3' : Hid (RowE wc g n (X ++ srt befE (A1 ++ B1) ++ A2 ++ B2 ++ Y) n) := by show RowE _ _ _ _ _; simpa using HP3.out
          have HZ4 : Hid ((X ++ srt befE (A1 ++ B1) ++ A2 ++ B2 ++ Y).length = n) := by have h1 := HZ2.out; show _ = _; simp [srt_length] at h1 ⊢; omega
          have HJ4 : Hid (en = (X ++ srt befE (A1 ++ B1)).length + A2.length) := by show _ = _; have h1 := HJ3.out; rw [List.length_append, srt_length]; simp at h1 ⊢; omega
          have HJ5 : Hid (b = (X ++ srt befE (A1 ++ B1)).length + A2.length + B2.length) := by show _ = _; have h1 := HJ4.out; omega
          by_cases c1 : md < en
          · have c1' : (md : Int) < (en : Int) := by omega
            by_cases c2 : en < b
            · have c2' : (en : Int) < (b : Int) := by omega
              go_wp2_with fail
              refine (HIH.out g n cap (X ++ srt befE (A1 ++ B1)) A2 B2 Y wc HSL.out.2 (by have := HQ1.out; have := HJ4.out; omega) (by omega) HP3'.out HZ4.out hn hsS.out.2.1 hsS.out.2.2.2 md en b HQ1.out HJ4.out HJ5.out).mono ?_
              rintro e w7 ⟨⟨v7, rfl⟩, HR7, HO7⟩
              have HR7' := hdN HR7
              have HO7' := hdN (HO3.out.trans HO7)
              clear HR7 HO7
              go_wp2_with fail
              go_end0
              exact ⟨⟨_, rfl⟩, by rw [← HeT.out]; exact HR7'.out, HO7'.out⟩
            · have c2' : ¬ (en : Int) < (b : Int) := by omega
              have hn1 : B2 = [] := List.length_eq_zero_iff.1 (by omega)
              have hs1 : srt befE (A2 ++ B2) = A2 ++ B2 := by rw [hn1]; simpa using srt_self hsS.out.2.1
              go_wp2_with fail
              go_end0
              exact ⟨⟨_, rfl⟩, by rw [← HeT.out, hs1]; simpa using HP3'.out, HO3.out⟩
          · have c1' : ¬ (md : Int) < (en : Int) := by omega
            have hn1 : A2 = [] := List.length_eq_zero_iff.1 (by have := HQ1.out; have := HJ4.out; omega)
            have hs1 : srt befE (A2 ++ B2) = A2 ++ B2 := by rw [hn1]; simpa using srt_self hsS.out.2.2.2
            go_wp2_with fail
            go_end0
            exact ⟨⟨_, rfl⟩, by rw [← HeT.out, hs1]; simpa using HP3'.out, HO3.out⟩
theorem symMerge_any : ∀ N, SymP N
  | 0 => fun g n cap X A B Y w h hA hB => by omega
  | N + 1 => fun g n cap X A B Y w h hA hB hp hl hn sA sB a m b ha hm hb => by
    match A, hA, sA, hp, hl, hm, hb, h with
    | [e], _, _, hp, hl, hm, hb, h => exact symOne g n cap X B Y e w hp hl hn a m b ha hm hb sB
    | e :: f :: A', _, sA, hp, hl, hm, hb, h =>
      match B, hB, sB, hp, hl, hb, h with
      | [x], _, _, hp, hl, hb, h => exact symLast g n cap X (e :: f :: A') Y x w hp hl hn a m b ha hm hb sA (by simp)
      | x :: y :: B', _, sB, hp, hl, hb, h => exact symRest N (symMerge_any N) g n cap X (e :: f :: A') (x :: y :: B') Y w h hp hl hn a m b ha hm hb sA (by simp) sB (by simp)
end Go.Proofs.YtgmfjninimebmaaGreatDoor
