import Derived.Test.YtgkhjjnhikbdaaaNwJ

namespace Go.Proofs.Ytgkhjjnhikbdaaa
open Go.RowKit Go.Maps
set_option linter.unusedVariables false
set_option linter.unusedSimpArgs false

set_option maxRecDepth 100000 in
set_option maxHeartbeats 8000000 in
theorem symOne (g n cap : Nat) (X B Y : List En) (e : En) (w : World) (hp : RowE w g n (X ++ [e] ++ B ++ Y) n) (hl : (X ++ [e] ++ B ++ Y).length = n) (hn : n ≤ 1048576) (a m b : Nat) (ha : a = X.length) (hm : m = X.length + 1) (hb : b = X.length + 1 + B.length) (hB : Srtd befE B) :
    Calls Try.prog 52 #[.slice (some ⟨g, 0, none⟩) n cap, .int .i64 a, .int .i64 m, .int .i64 b, .func (.func 23) #[] #[]] w fun ee w' => (∃ v, ee = .returned v) ∧ RowE w' g n (X ++ srt befE ([e] ++ B) ++ Y) n ∧ OnlyG g w w' := by
  have hlen : X.length + 1 + B.length + Y.length = n := by simp at hl; omega
  have HP := hdN hp
  have hwa : IntKind.i64.wrap ((m : Int) - (a : Int)) = 1 := by rw [IntKind.wrap_i64]; omega
  have hma : (m : Int) - (a : Int) = 1 := by omega
  obtain ⟨T, hT⟩ : ∃ T, T = X ++ srt befE ([e] ++ B) ++ Y := ⟨_, rfl⟩
  rw [← hT]
  obtain ⟨F, hF⟩ : ∃ F : Nat → Bool, F = fun k => befE ((X ++ [e] ++ B ++ Y).getD k en0) e := ⟨_, rfl⟩
  have HM : Hid (Mono F m b) := by rw [hF, hm, hb]; exact one_mono hB
  have HOK : Hid (∀ i, BsI F m b i i → ∃ P Q, B = P ++ Q ∧ i = m + P.length ∧ X ++ (P ++ e :: Q) ++ Y = T) := fun i h => by
    rw [hF, hm, hb] at h
    obtain ⟨P, Q, h1, h2, h3⟩ := one_ok hB h
    exact ⟨P, Q, h1, by omega, by rw [hT, h3]⟩
  have HF : Hid (∀ k, F k = befE ((X ++ [e] ++ B ++ Y).getD k en0) e) := fun k => by rw [hF]
  have HZE : Hid ((X ++ [e] ++ B ++ Y).getD a en0 = e) := by show _ = _; rw [ha]; simp [List.getD]
  have HLZ := hdN hl
  have HA := hdN ha
  have HBb := hdN hb
  have hLN := hdN hlen
  have hbn : b ≤ n := by omega
  have hmb : m ≤ b := by omega
  have HAM : Hid (m = a + 1) := by show _ = _; omega
  have han : a < n := by omega
  have HB := hdN hB
  generalize hZ : X ++ [e] ++ B ++ Y = Z at *
  have HZ := hdN hZ
  clear hp hl hT ha hb hlen hF hB hm hZ
  go_enter Try.func52, Try.ntmps52
  go_wp2_with fail
  go_loopw [10, 11] (fun v10 v11 W => ∃ (i j : Nat), v10 = .int .i64 (i : Int) ∧ v11 = .int .i64 (j : Int) ∧ Hid (BsI F m b i j) ∧ Hid (RowE W g n Z n) ∧ Hid (OnlyG g w W)) (fun v10 v11 _ => (intOf v11).toNat - (intOf v10).toNat)
  case atStart => exact ⟨m, b, rfl, rfl, BsI.start _ hmb, HP, ⟨rfl, rfl, rfl, Nat.le_refl _, fun _ _ _ => rfl⟩⟩
  case round =>
    clear HP
    obtain ⟨i, j, rfl, rfl, HI, HP, HO⟩ := hrel
    have hI1 := HI.out.a
    have hI2 := HI.out.b
    have hI3 := HI.out.c
    by_cases hij : i < j
    · have hij' : (i : Int) < (j : Int) := by omega
      obtain ⟨h, hh⟩ : ∃ h : Nat, h = (i + j) / 2 := ⟨_, rfl⟩
      have hh' : ((i : Int) + (j : Int)) / 2 = (h : Int) := by omega
      have hih : i ≤ h := by omega
      have hhj : h < j := by omega
      have hhn : (h : Int) < (n : Int) := by omega
      have han' : (a : Int) < (n : Int) := by omega
      clear hh
      obtain ⟨cs, r1, r2, r3⟩ := HP.out
      obtain ⟨c0, c1, c2, c3⟩ := r3 h (by omega)
      obtain ⟨d0, d1, d2, d3⟩ := r3 a (by omega)
      have cell : ∀ o v, cs[o]? = some v → wr.cell? ⟨g, o, none⟩ = some v := fun o v h => by simp only [World.cell?, r1]; exact h
      have x0 := cell _ _ c0
      have x1 := cell _ _ c1
      have x2 := cell _ _ c2
      have x3 := cell _ _ c3
      have y0 := cell _ _ d0
      have y1 := cell _ _ d1
      have y2 := cell _ _ d2
      have y3 := cell _ _ d3
      have hgl := heap_lt r1
      clear c0 c1 c2 c3 d0 d1 d2 d3 cell r3 r1 r2
      rw [HZE.out] at y0 y1 y2 y3
      have HFh := hdN (HF.out h)
      generalize Z.getD h en0 = y at *
      have HC := hdN (entryOrder_any y e wr.drew)
      have HL := hdN (ordE_lt y e)
      cases hbf : befE y e with
      | true =>
        have hlt0 : ordE y e < 0 := by have := HL.out; rw [hbf] at this; simp at this; omega
        have HN : Hid (BsI F m b (h + 1) j) := BsI.up HM.out HI.out hih hhj (by rw [HFh.out]; exact hbf)
        clear hbf HL HFh
        generalize ordE y e = oi at *
        go_wp2_with fail
        go_region_held3 (fun w' => w'.cell? ⟨g, h * 4, none⟩ = some (.string y.ky) ∧ w'.cell? ⟨g, h * 4 + 1, none⟩ = some (.int .i64 y.sq) ∧ w'.cell? ⟨g, h * 4 + 2, none⟩ = some (.int .i64 y.kd) ∧ w'.cell? ⟨g, h * 4 + 3, none⟩ = some (.string y.vl) ∧ w'.cell? ⟨g, a * 4, none⟩ = some (.string e.ky) ∧ w'.cell? ⟨g, a * 4 + 1, none⟩ = some (.int .i64 e.sq) ∧ w'.cell? ⟨g, a * 4 + 2, none⟩ = some (.int .i64 e.kd) ∧ w'.cell? ⟨g, a * 4 + 3, none⟩ = some (.string e.vl)) (simp [go_sem, *])
          (first | (go_at_call 23; refine HC.out.mono ?_; rintro ee w6 ⟨rfl, hb6⟩; have HG6 := hdN ((Below.refl wr.heap.size wr).drew.trans hb6); have u0 := (HG6.out.cell (p := ⟨g, (h) * 4, none⟩) hgl).trans x0; have u1 := (HG6.out.cell (p := ⟨g, (h) * 4 + 1, none⟩) hgl).trans x1; have u2 := (HG6.out.cell (p := ⟨g, (h) * 4 + 2, none⟩) hgl).trans x2; have u3 := (HG6.out.cell (p := ⟨g, (h) * 4 + 3, none⟩) hgl).trans x3; have v0 := (HG6.out.cell (p := ⟨g, (a) * 4, none⟩) hgl).trans y0; have v1 := (HG6.out.cell (p := ⟨g, (a) * 4 + 1, none⟩) hgl).trans y1; have v2 := (HG6.out.cell (p := ⟨g, (a) * 4 + 2, none⟩) hgl).trans y2; have v3 := (HG6.out.cell (p := ⟨g, (a) * 4 + 3, none⟩) hgl).trans y3; clear hb6))
        have HP6 : Hid (RowE w6 g n Z n) := RowE.block HP.out (HG6.out.block g hgl)
        have HO6 := hdN (HO.out.trans (OnlyG.of HG6.out))
        clear x0 x1 x2 x3 y0 y1 y2 y3 HP HO HC HG6
        go_wp2_with fail
        exact ⟨⟨h + 1, j, by first | rfl | go_num, rfl, HN, HP6, HO6⟩, by simp only [intOf]; omega⟩
      | false =>
        have hlt0 : ¬ ordE y e < 0 := by have := HL.out; rw [hbf] at this; simp at this; omega
        have HN : Hid (BsI F m b i h) := BsI.down HM.out HI.out hih hhj (by rw [HFh.out]; exact hbf)
        clear hbf HL HFh
        generalize ordE y e = oi at *
        go_wp2_with fail
        go_region_held3 (fun w' => w'.cell? ⟨g, h * 4, none⟩ = some (.string y.ky) ∧ w'.cell? ⟨g, h * 4 + 1, none⟩ = some (.int .i64 y.sq) ∧ w'.cell? ⟨g, h * 4 + 2, none⟩ = some (.int .i64 y.kd) ∧ w'.cell? ⟨g, h * 4 + 3, none⟩ = some (.string y.vl) ∧ w'.cell? ⟨g, a * 4, none⟩ = some (.string e.ky) ∧ w'.cell? ⟨g, a * 4 + 1, none⟩ = some (.int .i64 e.sq) ∧ w'.cell? ⟨g, a * 4 + 2, none⟩ = some (.int .i64 e.kd) ∧ w'.cell? ⟨g, a * 4 + 3, none⟩ = some (.string e.vl)) (simp [go_sem, *])
          (first | (go_at_call 23; refine HC.out.mono ?_; rintro ee w6 ⟨rfl, hb6⟩; have HG6 := hdN ((Below.refl wr.heap.size wr).drew.trans hb6); have u0 := (HG6.out.cell (p := ⟨g, (h) * 4, none⟩) hgl).trans x0; have u1 := (HG6.out.cell (p := ⟨g, (h) * 4 + 1, none⟩) hgl).trans x1; have u2 := (HG6.out.cell (p := ⟨g, (h) * 4 + 2, none⟩) hgl).trans x2; have u3 := (HG6.out.cell (p := ⟨g, (h) * 4 + 3, none⟩) hgl).trans x3; have v0 := (HG6.out.cell (p := ⟨g, (a) * 4, none⟩) hgl).trans y0; have v1 := (HG6.out.cell (p := ⟨g, (a) * 4 + 1, none⟩) hgl).trans y1; have v2 := (HG6.out.cell (p := ⟨g, (a) * 4 + 2, none⟩) hgl).trans y2; have v3 := (HG6.out.cell (p := ⟨g, (a) * 4 + 3, none⟩) hgl).trans y3; clear hb6))
        have HP6 : Hid (RowE w6 g n Z n) := RowE.block HP.out (HG6.out.block g hgl)
        have HO6 := hdN (HO.out.trans (OnlyG.of HG6.out))
        clear x0 x1 x2 x3 y0 y1 y2 y3 HP HO HC HG6
        go_wp2_with fail
        exact ⟨⟨i, h, rfl, by first | rfl | go_num, HN, HP6, HO6⟩, by simp only [intOf]; omega⟩
    · have hij' : ¬ (i : Int) < (j : Int) := by omega
      have hje : j = i := by omega
      subst hje
      obtain ⟨P, Q, hPQ, hiP, hTT⟩ := HOK.out _ HI.out
      have HPQ := hdN hPQ
      have HiP := hdN hiP
      have HTT := hdN hTT
      have hi1 : IntKind.i64.wrap ((j : Int) - 1) = (j : Int) - 1 := by rw [IntKind.wrap_i64]; omega
      clear hPQ hiP hTT
      go_wp2_with fail
      go_loopw [13] (fun v13 W => ∃ (k : Nat) (P1 P2 : List En), v13 = .int .i64 (k : Int) ∧ Hid (P = P1 ++ P2 ∧ k = a + P1.length) ∧ Hid (RowE W g n (X ++ P1 ++ e :: (P2 ++ Q ++ Y)) n) ∧ Hid (OnlyG g w W)) (fun v13 _ => j - (intOf v13).toNat)
      case atStart => exact ⟨a, [], P, rfl, ⟨by simp, by simp⟩, by rw [← HZ.out, HPQ.out] at HP; simpa using HP, HO⟩
      case round =>
        clear HP HO
        obtain ⟨k, P1, P2, rfl, HI2, HP, HO⟩ := hrel
        obtain ⟨hP12, hk⟩ := HI2.out
        have hjk : j = k + 1 + P2.length := by have h1 := HiP.out; have h2 := HAM.out; rw [hP12, List.length_append] at h1; omega
        cases P2 with
        | nil =>
          have hkj : ¬ (k : Int) < (j : Int) - 1 := by simp at hjk; omega
          have HE : Hid (X ++ P1 ++ e :: ([] ++ Q ++ Y) = T) := by show _ = _; rw [← HTT.out, hP12]; simp
          clear hP12 hk hjk
          go_wp2_with fail
          refine bodyPost_ret (results_none rfl _ _ _) rfl ?_
          exact ⟨⟨_, rfl⟩, by rw [← HE.out]; exact HP.out, HO.out⟩
        | cons p P2 =>
          have hkj : (k : Int) < (j : Int) - 1 := by simp at hjk; omega
          have hl : k = (X ++ P1).length := by rw [List.length_append, ← HA.out]; exact hk
          obtain ⟨zs, hz⟩ : ∃ zs, zs = X ++ P1 ++ e :: (p :: P2 ++ Q ++ Y) := ⟨_, rfl⟩
          rw [← hz] at HP
          have hz2 : zs = (X ++ P1) ++ e :: p :: (P2 ++ Q ++ Y) := by rw [hz]; simp
          have hzl : zs.length = n := by have h1 := hLN.out; rw [HPQ.out, hP12] at h1; rw [hz2]; simp at *; omega
          have hkn : k + 1 < n := by omega
          have gp : zs.getD k en0 = e := by rw [hz2, hl]; simp [List.getD]
          have ge : zs.getD (k + 1) en0 = p := by rw [hz2, hl]; exact getU1 _ _ _ _
          have HSET : Hid ((zs.set k p).set (k + 1) e = X ++ (P1 ++ [p]) ++ e :: (P2 ++ Q ++ Y)) := by
            show _ = _
            rw [List.set_comm _ _ (by omega), hz2, hl]
            have := set2 (X ++ P1) (P2 ++ Q ++ Y) e p
            simpa using this
          have HN : Hid (P = (P1 ++ [p]) ++ P2 ∧ k + 1 = a + (P1 ++ [p]).length) := ⟨by rw [hP12]; simp, by simp; omega⟩
          obtain ⟨cs, r1, r2, r3⟩ := HP.out
          obtain ⟨c0, c1, c2, c3⟩ := r3 k (by omega)
          obtain ⟨d0, d1, d2, d3⟩ := r3 (k + 1) (by omega)
          have cell : ∀ o v, cs[o]? = some v → wr.cell? ⟨g, o, none⟩ = some v := fun o v h => by simp only [World.cell?, r1]; exact h
          have x0 := cell _ _ c0
          have x1 := cell _ _ c1
          have x2 := cell _ _ c2
          have x3 := cell _ _ c3
          have y0 := cell _ _ d0
          have y1 := cell _ _ d1
          have y2 := cell _ _ d2
          have y3 := cell _ _ d3
          have hgl := heap_lt r1
          clear c0 c1 c2 c3 d0 d1 d2 d3 cell r3 r1 r2
          rw [gp] at x0 x1 x2 x3
          rw [ge] at y0 y1 y2 y3
          have fz : ∀ o, wr.frozen? ⟨g, o, none⟩ = false := fun o => by
            obtain ⟨cs', q1, -⟩ := HP.out
            simp [World.frozen?, q1]
          have HPx : Hid (RowE (putE (putE wr g k p) g (k + 1) e).drew g n (X ++ (P1 ++ [p]) ++ e :: (P2 ++ Q ++ Y)) n) := by
            show RowE _ _ _ _ _
            rw [← HSET.out]
            exact ((HP.out.put hzl (by omega) p).put (by rw [List.length_set]; exact hzl) hkn e).block (drew_heap _ _)
          have HOx : Hid (OnlyG g w (putE (putE wr g k p) g (k + 1) e).drew) := HO.out.trans (((putE_only _ _ _ _).trans (putE_only _ _ _ _)).trans (OnlyG.of ((Below.refl _ _).drew)))
          have k1 : (k : Int) + 1 < (n : Int) := by omega
          have k2 : (k : Int) < (n : Int) := by omega
          have k3 : IntKind.i64.wrap ((k : Int) + 1) = (k : Int) + 1 := by rw [IntKind.wrap_i64]; omega
          have k6 : ((k : Int) + 1).toNat = k + 1 := by omega
          have k7 : (0 : Int) ≤ (k : Int) + 1 := by omega
          have hkj3 : k < j := by omega
          clear hz hz2 hP12 hk hl gp ge hzl HP HO HI2 hjk
          unfold putE at HPx HOx
          go_wp2_with fail
          go_region_law (fail)
          all_goals
            clear x0 x1 x2 x3 y0 y1 y2 y3 fz
            go_wp2_with fail
            exact ⟨⟨k + 1, P1 ++ [p], P2, by first | rfl | go_num, HN, HPx, HOx⟩, by simp only [intOf]; omega⟩
end Go.Proofs.Ytgkhjjnhikbdaaa
