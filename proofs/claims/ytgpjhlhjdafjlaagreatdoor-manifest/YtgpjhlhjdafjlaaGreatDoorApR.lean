import Derived.Test.YtgpjhlhjdafjlaaGreatDoorApQ

namespace Go.Proofs.YtgpjhlhjdafjlaaGreatDoor
open Go.RowKit Go.Maps
set_option linter.unusedVariables false
set_option linter.unusedSimpArgs false

theorem leftT_sub {ts : List Tr} {ds : List Int} {t : Tr} (h : t ∈ leftT ts ds) : t ∈ ts := (List.mem_filter.1 h).1
theorem keepX_block {g b : Nat} {w w' : World} (h : KeepX g b w w') {k : Nat} {cs : Array Value} {t : TypeId} {fz : Nat × Nat} (hk : w.heap[k]? = some (.cells cs t fz)) (h1 : k ≠ g) (h2 : k ≠ b) (ht : t ≠ 58) : w'.heap[k]? = some (.cells cs t fz) :=
  h k _ hk h1 h2 (fun cs' fz' e => by cases e; exact ht rfl)
set_option maxRecDepth 100000 in
set_option maxHeartbeats 4000000 in
theorem implAp_any (a : Option Addr) (c : Nat) (ts : List Tr) (lg0 nx0 la0 : Int) (b : Option Addr) (cb : Nat) (d : Option Addr) (cd : Nat) (e : Ed) (w : World) (ht : LieT w a ts) (hft : FitsT ts) (hx : LieT w b e.ad) (hf : FitsT e.ad) (hy : LieI w d e.dl) (hwt : ∀ t ∈ ts, wfI t.nu) (hwk : ∀ x ∈ e.dl, wfI x) (hwa : ∀ t ∈ e.ad, wfI t.nu) (hl0 : ts.length ≤ 1048576) (hl1 : e.ad.length ≤ 1048576) (hl2 : e.dl.length ≤ 1048576) :
    Calls Tryz.prog 11 #[.agg #[.slice a ts.length c, .int .i64 lg0, .int .i64 nx0, .int .i64 la0], edV b cb d cd e] w fun r w' => ∃ a' c', r = .returned (.tuple #[.agg #[.slice a' (apL ts e).length c', .int .i64 (apI ts e e.lg), .int .i64 (apI ts e e.nx), .int .i64 (apI ts e e.la)], .bool (apOk ts e)]) ∧ ResT w' w.heap.size a' (apL ts e) ∧ Below w.heap.size w w' := by
  have HLn : Hid (apOk ts e = false → apL ts e = [] ∧ apI ts e e.lg = 0 ∧ apI ts e e.nx = 0 ∧ apI ts e e.la = 0) := fun h => by simp [apL, apI, h]
  have HLy : Hid (apOk ts e = true → apL ts e = apS ts e ∧ apI ts e e.lg = e.lg ∧ apI ts e e.nx = e.nx ∧ apI ts e e.la = e.la) := fun h => by simp [apL, apI, h]
  have HN1 : Hid (edOk e = false → apOk ts e = false) := fun h => by simp [apOk, h]
  have HN2 : Hid (¬ ts.length ≤ 1000 → apOk ts e = false) := fun h => by simp [apOk, h]
  have HN3 : Hid (delsOk ts e.dl = false → apOk ts e = false) := fun h => by simp [apOk, h]
  have HPr := hd (apOk_prog ts e)
  have HOn : Hid (∀ L : List Tr, okAll [] (leftT ts e.dl) = true → okAll (leftT ts e.dl) e.ad = true → L.Perm (leftT ts e.dl ++ e.ad) → L.Pairwise LeT → L = apS ts e) := fun L h1 h2 hp hs =>
    apS_only ts e L hp hs ((okAll_iff e.ad (leftT ts e.dl)).1 ⟨h2, by simpa using (okAll_iff (leftT ts e.dl) []).1 ⟨h1, List.Pairwise.nil⟩⟩)
  have HEd : Hid (edOk e = true → e.ad.length ≤ 1000 ∧ e.dl.length ≤ 1000) := fun h => ⟨((edOk_iff e).1 h).1, ((edOk_iff e).1 h).2.2.1⟩
  have HWi : Hid (delsOk ts e.dl = true → wiL ts e.dl = leftT ts e.dl) := fun h => by unfold wiL; rw [if_pos h]
  have HOa : Hid (okAdd (leftT ts e.dl) e = true → okAll (leftT ts e.dl) e.ad = true) := fun h => by
    unfold okAdd at h
    rw [Bool.and_eq_true] at h
    exact h.1
  have HLl := hd (show (leftT ts e.dl).length ≤ ts.length from List.length_filter_le _ _)
  have HLw : Hid (∀ t ∈ leftT ts e.dl, wfI t.nu) := fun t h => hwt t (leftT_sub h)
  generalize apOk ts e = R at *
  generalize apL ts e = RL at *
  generalize apI ts e e.lg = R2 at *
  generalize apI ts e e.nx = R3 at *
  generalize apI ts e e.la = R4 at *
  generalize hW0 : ((w.alloc (.cells #[.slice a ts.length c, .int .i64 lg0, .int .i64 nx0, .int .i64 la0] 26)).alloc (.cells #[.slice b e.ad.length cb, .slice d e.dl.length cd, .int .i64 e.lg, .int .i64 e.nx, .int .i64 e.la] 35)).alloc (.cells #[.slice none 0 0, .int .i64 0, .int .i64 0, .int .i64 0] 26) = W0
  have hA : W0.heap[w.heap.size]? = some (.cells #[.slice a ts.length c, .int .i64 lg0, .int .i64 nx0, .int .i64 la0] 26 (0, 0)) := by
    rw [← hW0, Below.heap_alloc _ _ _ (by simp <;> omega), Below.heap_alloc _ _ _ (by simp)]
    exact World.heap_alloc_new _ _
  have hE : W0.heap[w.heap.size + 1]? = some (.cells #[.slice b e.ad.length cb, .slice d e.dl.length cd, .int .i64 e.lg, .int .i64 e.nx, .int .i64 e.la] 35 (0, 0)) := by
    rw [← hW0, Below.heap_alloc _ _ _ (by simp)]
    have h := World.heap_alloc_new (w.alloc (.cells #[.slice a ts.length c, .int .i64 lg0, .int .i64 nx0, .int .i64 la0] 26)) (.cells #[.slice b e.ad.length cb, .slice d e.dl.length cd, .int .i64 e.lg, .int .i64 e.nx, .int .i64 e.la] 35)
    rwa [show (w.alloc (.cells #[.slice a ts.length c, .int .i64 lg0, .int .i64 nx0, .int .i64 la0] 26)).heap.size = w.heap.size + 1 by simp] at h
  have hV : W0.heap[w.heap.size + 2]? = some (.cells #[.slice none 0 0, .int .i64 0, .int .i64 0, .int .i64 0] 26 (0, 0)) := by
    rw [← hW0]
    have h := World.heap_alloc_new ((w.alloc (.cells #[.slice a ts.length c, .int .i64 lg0, .int .i64 nx0, .int .i64 la0] 26)).alloc (.cells #[.slice b e.ad.length cb, .slice d e.dl.length cd, .int .i64 e.lg, .int .i64 e.nx, .int .i64 e.la] 35)) (.cells #[.slice none 0 0, .int .i64 0, .int .i64 0, .int .i64 0] 26)
    rwa [show ((w.alloc (.cells #[.slice a ts.length c, .int .i64 lg0, .int .i64 nx0, .int .i64 la0] 26)).alloc (.cells #[.slice b e.ad.length cb, .slice d e.dl.length cd, .int .i64 e.lg, .int .i64 e.nx, .int .i64 e.la] 35)).heap.size = w.heap.size + 2 by simp] at h
  have hb0 : Below w.heap.size w W0 := by rw [← hW0]; exact (((Below.refl _ _).alloc (Nat.le_refl _) _).alloc (by simp) _).alloc (by simp <;> omega) _
  have hsz : W0.heap.size = w.heap.size + 3 := by rw [← hW0]; simp
  have ht0 := hd (ht.below hb0)
  have hx0 := hd (hx.below hb0)
  have hy0 := hd (hy.below hb0)
  have HV1 := hd (implEdit_any b cb d cd e W0 hx0.out hf hy0.out hl1 hl2)
  obtain ⟨p0, p1, p2, p3⟩ := four_cells hA
  obtain ⟨q0, q1, q2, q3, q4⟩ := five_cells hE
  have HA := hd hA
  have HE := hd hE
  have HV := hd hV
  have HB := hd hb0
  clear hA hE hV hb0 ht hx hy
  go_enter Tryz.func11, Tryz.ntmps11
  cases hed : edOk e with
  | false =>
    rw [hed] at HV1
    have hR := HN1.out hed
    obtain ⟨rfl, rfl, rfl, rfl⟩ := HLn.out hR
    subst hR
    go_wp2_with fail
    refine HV1.out.mono ?_
    rintro r w1 ⟨rfl, hb1⟩
    obtain ⟨y0, y1, y2, y3⟩ := four_cells ((hb1.block (w.heap.size + 2) (by omega)).trans HV.out)
    obtain ⟨z0, z1, z2, z3⟩ := four_freeN ((hb1.block (w.heap.size + 2) (by omega)).trans HV.out)
    have HB1 := hd (HB.out.trans (hb1.mono (by omega)))
    clear hb1
    go_wp2_with fail
    refine bodyPost_ret (v := .tuple #[.agg #[.slice none 0 0, .int .i64 0, .int .i64 0, .int .i64 0], .bool false]) (by simp [results, Tryz.results11, go_sem, y0, y1, y2, y3]) rfl ⟨none, 0, rfl, .inl rfl, ?_⟩
    repeat refine below_setN (by omega) ?_
    exact HB1.out
  | true =>
    rw [hed] at HV1
    obtain ⟨ha1, hd1⟩ := HEd.out hed
    have HV1c := hd (fun w' (h : Below W0.heap.size W0 w') => (h.block w.heap.size (by omega)).trans HA.out)
    go_wp2_with fail
    refine HV1.out.mono ?_
    rintro r w1 ⟨rfl, hb1⟩
    have hs1 := hb1.size
    obtain ⟨p0', p1', p2', p3'⟩ := four_cells ((hb1.block w.heap.size (by omega)).trans HA.out)
    have hE1 := hd ((hb1.block (w.heap.size + 1) (by omega)).trans HE.out)
    obtain ⟨q0', q1', q2', q3', q4'⟩ := five_cells hE1.out
    have hVw := hd ((hb1.block (w.heap.size + 2) (by omega)).trans HV.out)
    have HB1 := hd (HB.out.trans (hb1.mono (by omega)))
    clear p0 p1 p2 p3 q0 q1 q2 q3 q4
    by_cases hlt : ts.length ≤ 1000
    · have hlt' : (ts.length : Int) ≤ 1000 := by omega
      have HWo := hd (without_any a c ts d cd e.dl w1 (ht0.out.below hb1) (hy0.out.below hb1) hft hwt hwk hlt hd1)
      have HXW := hd (hx0.out.below hb1)
      clear hb1
      go_wp2_with fail
      refine HWo.out.mono ?_
      rintro r w2 ⟨al, cl, rfl, hresL, hb2⟩
      have hs2 := hb2.size
      have hE2 := hd ((hb2.block (w.heap.size + 1) (by omega)).trans hE1.out)
      have hV2 := hd ((hb2.block (w.heap.size + 2) (by omega)).trans hVw.out)
      have HB2 := hd (HB1.out.trans (hb2.mono (by omega)))
      have HX2 := hd (HXW.out.below hb2)
      have HRL := hd hresL.lie
      have HNC := hd (newCatalog_any w2 0 0)
      clear hb2 hresL p0' p1' p2' p3' q0' q1' q2' q3' q4' hE1 hVw HXW HWo HV1
      go_wp2_with fail
      refine HNC.out.mono ?_
      rintro r w3 ⟨rfl, hcat3, hb3, hs3⟩
      have hE3 := hd ((hb3.block (w.heap.size + 1) (by omega)).trans hE2.out)
      have hV3 := hd ((hb3.block (w.heap.size + 2) (by omega)).trans hV2.out)
      have HB3 := hd (HB2.out.trans (hb3.mono (by omega)))
      cases hdel : delsOk ts e.dl with
      | false =>
        have hR := HN3.out hdel
        obtain ⟨rfl, rfl, rfl, rfl⟩ := HLn.out hR
        subst hR
        have hVW := hV3.out
        obtain ⟨y0, y1, y2, y3⟩ := four_cells hVW
        obtain ⟨z0, z1, z2, z3⟩ := four_freeN hVW
        clear hVW
        clear hb3 hcat3
        go_wp2_with fail
        refine bodyPost_ret (v := .tuple #[.agg #[.slice none 0 0, .int .i64 0, .int .i64 0, .int .i64 0], .bool false]) (by simp [results, Tryz.results11, go_sem, y0, y1, y2, y3]) rfl ⟨none, 0, rfl, .inl rfl, ?_⟩
        repeat refine below_setN (by omega) ?_
        exact HB3.out
      | true =>
        have hwi := HWi.out hdel
        rw [hwi] at HRL ⊢
        have HPr' := hd (HPr.out hed hlt hdel)
        clear HPr
        have HLL := hd (Nat.le_trans HLl.out hlt)
        generalize hLdef : leftT ts e.dl = L at *
        have HAP := hd (allPut_any w2.heap.size (w2.heap.size + 2) (w2.heap.size + 1) w2.heap.size 0 0 [] L al cl w3 (fun wr h _ => HRL.out.below (hb3.trans h)) hcat3 (by omega) (Nat.le_refl _) (by omega) (by omega) (by omega) HLw.out (by have := HLL.out; simp; omega) (Nat.zero_le _) (.inr (Nat.zero_le _)) (.inr (Nat.zero_le _)))
        have HC3 := hd hcat3
        have HBx3 := hd hb3
        clear hcat3 hb3
        cases hok : okAll [] L with
        | false =>
          rw [hok] at HAP
          have hR := (show R = false by rw [HPr'.out, hok]; rfl)
          obtain ⟨rfl, rfl, rfl, rfl⟩ := HLn.out hR
          subst hR
          go_wp2_with fail
          refine HAP.out.mono ?_
          rintro r w4 ⟨rfl, hb4, hx4, -, -⟩
          have hVW := keepX_block hx4 hV3.out (by omega) (by omega) (by decide)
          obtain ⟨y0, y1, y2, y3⟩ := four_cells hVW
          obtain ⟨z0, z1, z2, z3⟩ := four_freeN hVW
          clear hVW
          have HB4 := hd (HB3.out.trans (hb4.mono (by omega)))
          clear hb4 hx4
          go_wp2_with fail
          refine bodyPost_ret (v := .tuple #[.agg #[.slice none 0 0, .int .i64 0, .int .i64 0, .int .i64 0], .bool false]) (by simp [results, Tryz.results11, go_sem, y0, y1, y2, y3]) rfl ⟨none, 0, rfl, .inl rfl, ?_⟩
          repeat refine below_setN (by omega) ?_
          exact HB4.out
        | true =>
          rw [hok] at HAP
          go_wp2_with fail
          refine HAP.out.mono ?_
          rintro r w4 ⟨rfl, hb4, hx4, -, hc4⟩
          have hcat4 := hc4 (by trivial)
          rw [List.nil_append] at hcat4
          have hs4 := hb4.size
          have hE4 := hd (keepX_block hx4 hE3.out (by omega) (by omega) (by decide))
          have hV4 := hd (keepX_block hx4 hV3.out (by omega) (by omega) (by decide))
          have HB4 := hd (HB3.out.trans (hb4.mono (by omega)))
          obtain ⟨q0, q1, q2, q3, q4⟩ := five_cells hE4.out
          have HAD := hd (addAll_any w2.heap.size (w2.heap.size + 2) (w2.heap.size + 1) w2.heap.size 0 0 L b cb d cd e w4 (fun wr h _ => HX2.out.below ((HBx3.out.trans hb4).trans h)) hcat4 (by omega) (Nat.le_refl _) (by omega) (by omega) (by omega) hwa (by have := HLL.out; omega) (Nat.zero_le _) (.inr (Nat.zero_le _)) (.inr (Nat.zero_le _)))
          clear hb4 hx4 hc4 hcat4 HAP
          cases hoa : okAdd L e with
          | false =>
            rw [hoa] at HAD
            have hR := (show R = false by rw [HPr'.out, hok, hoa]; rfl)
            obtain ⟨rfl, rfl, rfl, rfl⟩ := HLn.out hR
            subst hR
            go_wp2_with fail
            refine HAD.out.mono ?_
            rintro r w5 ⟨rfl, hb5, hx5, -, -⟩
            have hVW := keepX_block hx5 hV4.out (by omega) (by omega) (by decide)
            obtain ⟨y0, y1, y2, y3⟩ := four_cells hVW
            obtain ⟨z0, z1, z2, z3⟩ := four_freeN hVW
            clear hVW
            have HB5 := hd (HB4.out.trans (hb5.mono (by omega)))
            clear hb5 hx5
            go_wp2_with fail
            refine bodyPost_ret (v := .tuple #[.agg #[.slice none 0 0, .int .i64 0, .int .i64 0, .int .i64 0], .bool false]) (by simp [results, Tryz.results11, go_sem, y0, y1, y2, y3]) rfl ⟨none, 0, rfl, .inl rfl, ?_⟩
            repeat refine below_setN (by omega) ?_
            exact HB5.out
          | true =>
            rw [hoa] at HAD
            have hR : R = true := by rw [HPr'.out, hok, hoa]; rfl
            obtain ⟨r1, r2, r3, r4⟩ := HLy.out hR
            have HOn' := hd (fun L' => HOn.out L' hok (HOa.out hoa))
            subst hR r1 r2 r3 r4
            go_wp2_with fail
            refine HAD.out.mono ?_
            rintro r w5 ⟨rfl, hb5, hx5, -, hc5⟩
            have hcat5 := hc5 (by trivial)
            have hs5 := hb5.size
            have hE5 := hd (keepX_block hx5 hE4.out (by omega) (by omega) (by decide))
            have hV5 := hd (keepX_block hx5 hV4.out (by omega) (by omega) (by decide))
            have HB5 := hd (HB4.out.trans (hb5.mono (by omega)))
            clear q0 q1 q2 q3 q4
            obtain ⟨q0, q1, q2, q3, q4⟩ := five_cells hE5.out
            have HVS := hd (version_any (w2.heap.size + 2) (w2.heap.size + 1) w2.heap.size 0 0 (L ++ e.ad) b cb d cd e w5 hcat5 (by have := HLL.out; simp; omega))
            clear hb5 hx5 hc5 hcat5 HAD
            go_wp2_with fail
            refine HVS.out.mono ?_
            rintro r w6 ⟨a', c', ys, rfl, hp, hs, hres6, hb6⟩
            have hys := HOn'.out ys hp hs
            subst hys
            have hs6 := hb6.size
            have hVW := (hb6.block (w.heap.size + 2) (by omega)).trans hV5.out
            obtain ⟨y0, y1, y2, y3⟩ := four_cells hVW
            obtain ⟨z0, z1, z2, z3⟩ := four_freeN hVW
            clear hVW
            have HB6 := hd (HB5.out.trans (hb6.mono (by omega)))
            have HR6 := hd (hres6.wideN (B' := w.heap.size + 3) (by omega))
            clear hb6 hres6
            go_wp2_with fail
            refine bodyPost_ret (v := .tuple #[.agg #[.slice a' (apS ts e).length c', .int .i64 e.lg, .int .i64 e.nx, .int .i64 e.la], .bool true]) (by simp [results, Tryz.results11, go_sem, y0, y1, y2, y3]) rfl ⟨a', c', rfl, ?_, ?_⟩
            · refine ResT.wideN (B := w.heap.size + 3) ?_ (by omega)
              repeat refine ResT.setN (by omega) ?_
              exact HR6.out
            · repeat refine below_setN (by omega) ?_
              exact HB6.out
    · have hlt' : ¬ (ts.length : Int) ≤ 1000 := by omega
      have hlt2 : (1000 : Int) < (ts.length : Int) := by omega
      clear hb1
      have hR := HN2.out hlt
      obtain ⟨rfl, rfl, rfl, rfl⟩ := HLn.out hR
      subst hR
      have hVW := hVw.out
      obtain ⟨y0, y1, y2, y3⟩ := four_cells hVW
      obtain ⟨z0, z1, z2, z3⟩ := four_freeN hVW
      clear hVW
      go_wp2_with fail
      refine bodyPost_ret (v := .tuple #[.agg #[.slice none 0 0, .int .i64 0, .int .i64 0, .int .i64 0], .bool false]) (by simp [results, Tryz.results11, go_sem, y0, y1, y2, y3]) rfl ⟨none, 0, rfl, .inl rfl, ?_⟩
      repeat refine below_setN (by omega) ?_
      exact HB1.out
end Go.Proofs.YtgpjhlhjdafjlaaGreatDoor
