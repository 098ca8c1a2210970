import Derived.Test.YtgkhjjnhikbdaaaNwK

namespace Go.Proofs.Ytgkhjjnhikbdaaa
open Go.RowKit Go.Maps
set_option linter.unusedVariables false
set_option linter.unusedSimpArgs false

set_option maxRecDepth 100000 in
set_option maxHeartbeats 8000000 in
theorem symLast (g n cap : Nat) (X A Y : List En) (e : En) (w : World) (hp : RowE w g n (X ++ A ++ [e] ++ Y) n) (hl : (X ++ A ++ [e] ++ Y).length = n) (hn : n ≤ 1048576) (a m b : Nat) (ha : a = X.length) (hm : m = X.length + A.length) (hb : b = X.length + A.length + 1) (hA : Srtd befE A) (hA2 : 1 < A.length) :
    Calls Try.prog 52 #[.slice (some ⟨g, 0, none⟩) n cap, .int .i64 a, .int .i64 m, .int .i64 b, .func (.func 23) #[] #[]] w fun ee w' => (∃ v, ee = .returned v) ∧ RowE w' g n (X ++ srt befE (A ++ [e]) ++ Y) n ∧ OnlyG g w w' := by
  have hlen : X.length + A.length + 1 + Y.length = n := by simp at hl; omega
  have HP := hdN hp
  have hwa : IntKind.i64.wrap ((m : Int) - (a : Int)) = (A.length : Int) := by rw [IntKind.wrap_i64]; omega
  have hma : (m : Int) - (a : Int) = (A.length : Int) := by omega
  have hma1 : ((A.length : Int) == 1) = false := by simp; omega
  have hma2 : ¬ (A.length : Int) = 1 := by omega
  have hma3 : ¬ A.length = 1 := by omega
  have hwb : IntKind.i64.wrap ((b : Int) - (m : Int)) = 1 := by rw [IntKind.wrap_i64]; omega
  have hbm : (b : Int) - (m : Int) = 1 := by omega
  obtain ⟨T, hT⟩ : ∃ T, T = X ++ srt befE (A ++ [e]) ++ Y := ⟨_, rfl⟩
  rw [← hT]
  obtain ⟨F, hF⟩ : ∃ F : Nat → Bool, F = fun k => !befE e ((X ++ A ++ [e] ++ Y).getD k en0) := ⟨_, rfl⟩
  have HM : Hid (Mono F a m) := by rw [hF, ha, hm]; exact last_mono hA
  have HOK : Hid (∀ i, BsI F a m i i → ∃ P Q, A = P ++ Q ∧ i = a + P.length ∧ X ++ (P ++ e :: Q) ++ Y = T) := fun i h => by
    rw [hF, hm, ha] at h
    obtain ⟨P, Q, h1, h2, h3⟩ := last_ok hA h
    exact ⟨P, Q, h1, by omega, by rw [hT, h3]⟩
  have HF : Hid (∀ k, F k = !befE e ((X ++ A ++ [e] ++ Y).getD k en0)) := fun k => by rw [hF]
  have HZE : Hid ((X ++ A ++ [e] ++ Y).getD m en0 = e) := by
    show _ = _
    have h1 := getD_mid (X ++ A) [e] Y (k := m) (by simp; omega) (by simp; omega)
    have h2 : m - (X ++ A).length = 0 := by simp; omega
    rw [h2] at h1
    exact h1
  have HLZ := hdN hl
  have HAx := hdN ha
  have HMx := hdN hm
  have hLN := hdN hlen
  have hmn : m < n := by omega
  have ham : a ≤ m := by omega
  have HB := hdN hA
  generalize hZ : X ++ A ++ [e] ++ Y = Z at *
  generalize hAl : A.length = al at *
  have HAl := hdN hAl
  have HZ := hdN hZ
  clear hp hl hT ha hb hlen hF hA hm hZ hA2 hAl
  go_enter Try.func52, Try.ntmps52
  go_wp2_with fail
  go_loopw [14, 15] (fun v14 v15 W => ∃ (i j : Nat), v14 = .int .i64 (i : Int) ∧ v15 = .int .i64 (j : Int) ∧ Hid (BsI F a m i j) ∧ Hid (RowE W g n Z n) ∧ Hid (OnlyG g w W)) (fun v14 v15 _ => (intOf v15).toNat - (intOf v14).toNat)
  case atStart => exact ⟨a, m, rfl, rfl, BsI.start _ ham, HP, ⟨rfl, rfl, rfl, Nat.le_refl _, fun _ _ _ => rfl⟩⟩
  case round =>
    clear HP
    obtain ⟨i, j, rfl, rfl, HI, HP, HO⟩ := hrel
    have hI1 := HI.out.a
    have hI2 := HI.out.b
    have hI3 := HI.out.c
    by_cases hij : i < j
    · have hij' : (i : Int) < (j : Int) := by omega
      obtain ⟨h, hh⟩ : ∃ h : Nat, h = (i + j) / 2 := ⟨_, rfl⟩
      have hh' : ((i : Int) + (j : Int)) / 2 = (h : Int) := by omega
      have hih : i ≤ h := by omega
      have hhj : h < j := by omega
      have hhn : (h : Int) < (n : Int) := by omega
      have hmn' : (m : Int) < (n : Int) := by omega
      clear hh
      obtain ⟨cs, r1, r2, r3⟩ := HP.out
      obtain ⟨c0, c1, c2, c3⟩ := r3 m (by omega)
      obtain ⟨d0, d1, d2, d3⟩ := r3 h (by omega)
      have cell : ∀ o v, cs[o]? = some v → wr.cell? ⟨g, o, none⟩ = some v := fun o v h => by simp only [World.cell?, r1]; exact h
      have x0 := cell _ _ c0
      have x1 := cell _ _ c1
      have x2 := cell _ _ c2
      have x3 := cell _ _ c3
      have y0 := cell _ _ d0
      have y1 := cell _ _ d1
      have y2 := cell _ _ d2
      have y3 := cell _ _ d3
      have hgl := heap_lt r1
      clear c0 c1 c2 c3 d0 d1 d2 d3 cell r3 r1 r2
      rw [HZE.out] at x0 x1 x2 x3
      have HFh := hdN (HF.out h)
      generalize Z.getD h en0 = y at *
      have HC := hdN (entryOrder_any e y wr.drew)
      have HL := hdN (ordE_lt e y)
      cases hbf : befE e y with
      | false =>
        have hlt0 : ¬ ordE e y < 0 := by have := HL.out; rw [hbf] at this; simp at this; omega
        have HN : Hid (BsI F a m (h + 1) j) := BsI.up HM.out HI.out hih hhj (by rw [HFh.out, hbf]; rfl)
        clear hbf HL HFh
        generalize ordE e y = oi at *
        go_wp2_with fail
        go_region_held3 (fun w' => w'.cell? ⟨g, m * 4, none⟩ = some (.string e.ky) ∧ w'.cell? ⟨g, m * 4 + 1, none⟩ = some (.int .i64 e.sq) ∧ w'.cell? ⟨g, m * 4 + 2, none⟩ = some (.int .i64 e.kd) ∧ w'.cell? ⟨g, m * 4 + 3, none⟩ = some (.string e.vl) ∧ w'.cell? ⟨g, h * 4, none⟩ = some (.string y.ky) ∧ w'.cell? ⟨g, h * 4 + 1, none⟩ = some (.int .i64 y.sq) ∧ w'.cell? ⟨g, h * 4 + 2, none⟩ = some (.int .i64 y.kd) ∧ w'.cell? ⟨g, h * 4 + 3, none⟩ = some (.string y.vl)) (simp [go_sem, *])
          (first | (go_at_call 23; refine HC.out.mono ?_; rintro ee w6 ⟨rfl, hb6⟩; have HG6 := hdN ((Below.refl wr.heap.size wr).drew.trans hb6); have u0 := (HG6.out.cell (p := ⟨g, (m) * 4, none⟩) hgl).trans x0; have u1 := (HG6.out.cell (p := ⟨g, (m) * 4 + 1, none⟩) hgl).trans x1; have u2 := (HG6.out.cell (p := ⟨g, (m) * 4 + 2, none⟩) hgl).trans x2; have u3 := (HG6.out.cell (p := ⟨g, (m) * 4 + 3, none⟩) hgl).trans x3; have v0 := (HG6.out.cell (p := ⟨g, (h) * 4, none⟩) hgl).trans y0; have v1 := (HG6.out.cell (p := ⟨g, (h) * 4 + 1, none⟩) hgl).trans y1; have v2 := (HG6.out.cell (p := ⟨g, (h) * 4 + 2, none⟩) hgl).trans y2; have v3 := (HG6.out.cell (p := ⟨g, (h) * 4 + 3, none⟩) hgl).trans y3; clear hb6))
        have HP6 : Hid (RowE w6 g n Z n) := RowE.block HP.out (HG6.out.block g hgl)
        have HO6 := hdN (HO.out.trans (OnlyG.of HG6.out))
        clear x0 x1 x2 x3 y0 y1 y2 y3 HP HO HC HG6
        go_wp2_with fail
        all_goals first
          | exact ⟨⟨h + 1, j, by first | rfl | go_num, rfl, HN, HP6, HO6⟩, by simp only [intOf]; omega⟩
          | (exfalso; rename_i hx; simp at hx; omega)
      | true =>
        have hlt0 : ordE e y < 0 := by have := HL.out; rw [hbf] at this; simp at this; omega
        have HN : Hid (BsI F a m i h) := BsI.down HM.out HI.out hih hhj (by rw [HFh.out, hbf]; rfl)
        clear hbf HL HFh
        generalize ordE e y = oi at *
        go_wp2_with fail
        go_region_held3 (fun w' => w'.cell? ⟨g, m * 4, none⟩ = some (.string e.ky) ∧ w'.cell? ⟨g, m * 4 + 1, none⟩ = some (.int .i64 e.sq) ∧ w'.cell? ⟨g, m * 4 + 2, none⟩ = some (.int .i64 e.kd) ∧ w'.cell? ⟨g, m * 4 + 3, none⟩ = some (.string e.vl) ∧ w'.cell? ⟨g, h * 4, none⟩ = some (.string y.ky) ∧ w'.cell? ⟨g, h * 4 + 1, none⟩ = some (.int .i64 y.sq) ∧ w'.cell? ⟨g, h * 4 + 2, none⟩ = some (.int .i64 y.kd) ∧ w'.cell? ⟨g, h * 4 + 3, none⟩ = some (.string y.vl)) (simp [go_sem, *])
          (first | (go_at_call 23; refine HC.out.mono ?_; rintro ee w6 ⟨rfl, hb6⟩; have HG6 := hdN ((Below.refl wr.heap.size wr).drew.trans hb6); have u0 := (HG6.out.cell (p := ⟨g, (m) * 4, none⟩) hgl).trans x0; have u1 := (HG6.out.cell (p := ⟨g, (m) * 4 + 1, none⟩) hgl).trans x1; have u2 := (HG6.out.cell (p := ⟨g, (m) * 4 + 2, none⟩) hgl).trans x2; have u3 := (HG6.out.cell (p := ⟨g, (m) * 4 + 3, none⟩) hgl).trans x3; have v0 := (HG6.out.cell (p := ⟨g, (h) * 4, none⟩) hgl).trans y0; have v1 := (HG6.out.cell (p := ⟨g, (h) * 4 + 1, none⟩) hgl).trans y1; have v2 := (HG6.out.cell (p := ⟨g, (h) * 4 + 2, none⟩) hgl).trans y2; have v3 := (HG6.out.cell (p := ⟨g, (h) * 4 + 3, none⟩) hgl).trans y3; clear hb6))
        have HP6 : Hid (RowE w6 g n Z n) := RowE.block HP.out (HG6.out.block g hgl)
        have HO6 := hdN (HO.out.trans (OnlyG.of HG6.out))
        clear x0 x1 x2 x3 y0 y1 y2 y3 HP HO HC HG6
        go_wp2_with fail
        all_goals first
          | exact ⟨⟨i, h, rfl, by first | rfl | go_num, HN, HP6, HO6⟩, by simp only [intOf]; omega⟩
          | (exfalso; rename_i hx; simp at hx; omega)
    · have hij' : ¬ (i : Int) < (j : Int) := by omega
      have hje : j = i := by omega
      subst hje
      obtain ⟨P, Q, hPQ, hiP, hTT⟩ := HOK.out _ HI.out
      have HPQ := hdN hPQ
      have HiP := hdN hiP
      have HTT := hdN hTT
      clear hPQ hiP hTT
      go_wp2_with fail
      go_loopw [17] (fun v17 W => ∃ (k : Nat) (Q1 Q2 : List En), v17 = .int .i64 (k : Int) ∧ Hid (Q = Q1 ++ Q2 ∧ k = j + Q1.length) ∧ Hid (RowE W g n (X ++ P ++ Q1 ++ e :: (Q2 ++ Y)) n) ∧ Hid (OnlyG g w W)) (fun v17 _ => (intOf v17).toNat)
      case atStart =>
        refine ⟨m, Q, [], rfl, ⟨by simp, ?_⟩, ?_, HO⟩
        · have h1 := HAl.out
          rw [HPQ.out, List.length_append] at h1
          have h2 := HiP.out
          have h3 := HMx.out
          have h4 := HAx.out
          omega
        · rw [← HZ.out, HPQ.out] at HP; simpa using HP
      case round =>
        clear HP HO
        obtain ⟨k, Q1, Q2, rfl, HI2, HP, HO⟩ := hrel
        obtain ⟨hQ12, hk⟩ := HI2.out
        rcases List.eq_nil_or_concat Q1 with hQ1 | ⟨Q1', q, hQ1⟩
        · have hkj : ¬ (j : Int) < (k : Int) := by rw [hQ1] at hk; simp at hk; omega
          have HE : Hid (X ++ P ++ Q1 ++ e :: (Q2 ++ Y) = T) := by show _ = _; rw [← HTT.out, hQ12, hQ1]; simp
          clear hQ12 hk
          go_wp2_with fail
          refine bodyPost_ret (results_none rfl _ _ _) rfl ?_
          exact ⟨⟨_, rfl⟩, by rw [← HE.out]; exact HP.out, HO.out⟩
        · have hQ1' : Q1 = Q1' ++ [q] := by simpa using hQ1
          obtain ⟨l, hl⟩ : ∃ l, l = (X ++ P ++ Q1').length := ⟨_, rfl⟩
          have hkl : k = l + 1 := by rw [hQ1'] at hk; have h2 := HiP.out; have h4 := HAx.out; simp at hk hl; omega
          subst hkl
          have hjl : j ≤ l := by rw [hQ1'] at hk; simp at hk; omega
          have hkj : (j : Int) < (l : Int) + 1 := by omega
          obtain ⟨zs, hz⟩ : ∃ zs, zs = X ++ P ++ Q1 ++ e :: (Q2 ++ Y) := ⟨_, rfl⟩
          rw [← hz] at HP
          have hz2 : zs = (X ++ P ++ Q1') ++ q :: e :: (Q2 ++ Y) := by rw [hz, hQ1']; simp
          have hzl : zs.length = n := by have h1 := hLN.out; have h2 := HAl.out; rw [HPQ.out, hQ12, hQ1'] at h2; rw [hz2]; simp at *; omega
          have hkn : l + 1 < n := by rw [← hzl, hz2]; simp at hl ⊢; omega
          have gp : zs.getD l en0 = q := by rw [hz2, hl]; simp [List.getD]
          have ge : zs.getD (l + 1) en0 = e := by rw [hz2, hl]; exact getU1 _ _ _ _
          have HSET : Hid ((zs.set (l + 1) q).set l e = X ++ P ++ Q1' ++ e :: (([q] ++ Q2) ++ Y)) := by
            show _ = _
            rw [hz2, hl]
            have := set2 (X ++ P ++ Q1') (Q2 ++ Y) q e
            simpa using this
          have HN : Hid (Q = Q1' ++ ([q] ++ Q2) ∧ l = j + Q1'.length) := ⟨by rw [hQ12, hQ1']; simp, by rw [hQ1'] at hk; simp at hk; omega⟩
          obtain ⟨cs, r1, r2, r3⟩ := HP.out
          obtain ⟨c0, c1, c2, c3⟩ := r3 l (by omega)
          obtain ⟨d0, d1, d2, d3⟩ := r3 (l + 1) (by omega)
          have cell : ∀ o v, cs[o]? = some v → wr.cell? ⟨g, o, none⟩ = some v := fun o v h => by simp only [World.cell?, r1]; exact h
          have x0 := cell _ _ c0
          have x1 := cell _ _ c1
          have x2 := cell _ _ c2
          have x3 := cell _ _ c3
          have y0 := cell _ _ d0
          have y1 := cell _ _ d1
          have y2 := cell _ _ d2
          have y3 := cell _ _ d3
          have hgl := heap_lt r1
          clear c0 c1 c2 c3 d0 d1 d2 d3 cell r3 r1 r2
          rw [gp] at x0 x1 x2 x3
          rw [ge] at y0 y1 y2 y3
          have fz : ∀ o, wr.frozen? ⟨g, o, none⟩ = false := fun o => by
            obtain ⟨cs', q1, -⟩ := HP.out
            simp [World.frozen?, q1]
          have HPx : Hid (RowE (putE (putE wr g (l + 1) q) g l e).drew g n (X ++ P ++ Q1' ++ e :: (([q] ++ Q2) ++ Y)) n) := by
            show RowE _ _ _ _ _
            rw [← HSET.out]
            exact ((HP.out.put hzl hkn q).put (by rw [List.length_set]; exact hzl) (by omega) e).block (drew_heap _ _)
          have HOx : Hid (OnlyG g w (putE (putE wr g (l + 1) q) g l e).drew) := HO.out.trans (((putE_only _ _ _ _).trans (putE_only _ _ _ _)).trans (OnlyG.of ((Below.refl _ _).drew)))
          have k0 : (0 : Int) ≤ (l : Int) + 1 := by omega
          have k1 : (l : Int) + 1 < (n : Int) := by omega
          have k2 : (l : Int) < (n : Int) := by omega
          have k3 : IntKind.i64.wrap ((l : Int) + 1 - 1) = (l : Int) := by rw [IntKind.wrap_i64]; omega
          have k4 : IntKind.i64.wrap (l : Int) = (l : Int) := by rw [IntKind.wrap_i64]; omega
          have k5 : (l : Int) + 1 - 1 = (l : Int) := by omega
          have k6 : ((l : Int) + 1).toNat = l + 1 := by omega
          clear hz hz2 hQ12 hk hl gp ge hzl HP HO HI2 hQ1 hQ1'
          unfold putE at HPx HOx
          go_wp2_with fail
          go_region_law (fail)
          all_goals
            clear x0 x1 x2 x3 y0 y1 y2 y3 fz
            go_wp2_with fail
            exact ⟨⟨l, Q1', [q] ++ Q2, by first | rfl | go_num, HN, HPx, HOx⟩, by simp only [intOf]; omega⟩
end Go.Proofs.Ytgkhjjnhikbdaaa
