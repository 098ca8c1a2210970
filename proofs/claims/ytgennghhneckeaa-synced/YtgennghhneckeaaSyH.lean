import Derived.Test.YtgennghhneckeaaSyP

namespace Go.Proofs.Ytgennghhneckeaa
open Go.RowKit Go.Maps
set_option linter.unusedVariables false
set_option linter.unusedSimpArgs false

set_option maxHeartbeats 400000 in
theorem l1Total_anyW (a : Option Addr) (cap : Nat) (xs : List Fl) (q fu : Int) (w : World) (hx : Lie w a xs) (hlen : xs.length ≤ 1048576) (hd : datas xs ≤ 1073741824) :
    Calls Try.prog 19 #[.agg #[.slice a xs.length cap, .int .i64 q, .int .i64 fu]] w fun e w' => e = .returned (.int .i64 (datas xs)) ∧ Below w.heap.size w w' := by
  have hb0 : Below w.heap.size w (w.alloc (.cells #[.slice a xs.length cap, .int .i64 q, .int .i64 fu] 25)) := (Below.refl _ _).alloc (Nat.le_refl _) _
  go_enter Try.func19, Try.ntmps19
  go_wp2
  go_loop [3, 4] (fun t i => ∃ k : Nat, k ≤ xs.length ∧ i = .int .i64 k ∧ t = .int .i64 (datas (xs.take k))) (fun _ i => xs.length - (intOf i).toNat)
  case atStart => exact ⟨0, Nat.zero_le _, rfl, by simp [datas]⟩
  case round =>
    obtain ⟨k, hk, rfl, rfl⟩ := hrel
    by_cases hlt : k < xs.length
    · obtain ⟨b, off, rfl, hbl, c0, c1, c2⟩ := hx.at hlt
      have HS : Hid (datas (xs.take (k + 1)) = datas (xs.take k) + (xs.getD k fl0).dt.size) := datas_snoc xs k hlt
      have hle := datas_take_le xs (k + 1)
      rw [HS.out] at hle
      generalize xs.getD k fl0 = f at *
      go_wp2
      exact ⟨⟨k + 1, by omega, by go_num, by rw [HS.out]; go_num⟩, by simp [intOf]; omega⟩
    · obtain rfl : k = xs.length := by omega
      rw [List.take_length]
      go_wp2
      go_ret
      exact ⟨rfl, hb0⟩


set_option maxHeartbeats 1000000 in
theorem specValid_bodyW (a : Option Addr) (cap : Nat) (xs : List Fl) (q fu : Int) (w : World) (hx : Lie w a xs) (hf : Fits xs) (hlen : xs.length ≤ 1048576) (hd : datas xs ≤ 1073741824) (hbg : ¬ datas xs ≤ 1048576) (hh : hdOk xs.length q fu = true) :
    Calls Try.prog 5 #[.agg #[.slice a xs.length cap, .int .i64 q, .int .i64 fu]] w fun e w' => e = .returned (.bool (vldB xs q fu)) ∧ Below w.heap.size w w' := by
  have HV : Hid (vldB xs q fu = false) := by show _ = _; unfold vldB; rw [decide_eq_false hbg, Bool.and_false]
  simp [hdOk] at hh
  obtain ⟨⟨⟨h1, h2⟩, h3⟩, h4⟩ := hh
  have i1 : ¬ (200 : Int) < (xs.length : Int) := by omega
  have i2 : ¬ q < 0 := by omega
  have i3 : ¬ 1048576 < q := by omega
  have i4 : ¬ fu < -1 := by omega
  have hb0 : Below w.heap.size w (w.alloc (.cells #[.slice a xs.length cap, .int .i64 q, .int .i64 fu] 25)) := (Below.refl _ _).alloc (Nat.le_refl _) _
  go_enter Try.func5, Try.ntmps5
  go_wp2
  go_loopw [3] (fun i wr => ∃ k : Nat, k ≤ xs.length ∧ i = .int .i64 k ∧ (∀ j, j < k → okAt xs j = true) ∧ Below (w.heap.size + 1) (w.alloc (.cells #[.slice a xs.length cap, .int .i64 q, .int .i64 fu] 25)) wr) (fun i _ => xs.length - (intOf i).toNat)
  case atStart => exact ⟨0, Nat.zero_le _, rfl, fun j hj => absurd hj (Nat.not_lt_zero _), Below.refl _ _⟩
  case round =>
    obtain ⟨k, hk, rfl, hall, hb⟩ := hrel
    have HA : Hid (∀ j, j < k → okAt xs j = true) := hall
    clear hall
    have hsz : w.heap.size < wr.heap.size := by have := hb.size; simp at this; omega
    have p0 : wr.cell? ⟨w.heap.size, 0, none⟩ = some (.slice a xs.length cap) := (hb.cell (p := ⟨w.heap.size, 0, none⟩) (by simp)).trans (by simp)
    have p1 : wr.cell? ⟨w.heap.size, 1, none⟩ = some (.int .i64 q) := (hb.cell (p := ⟨w.heap.size, 1, none⟩) (by simp)).trans (by simp)
    have p2 : wr.cell? ⟨w.heap.size, 2, none⟩ = some (.int .i64 fu) := (hb.cell (p := ⟨w.heap.size, 2, none⟩) (by simp)).trans (by simp)
    have hbw : Below w.heap.size w wr := hb0.trans (hb.mono (by omega))
    have hxr := hx.below hbw
    by_cases hlt : k < xs.length
    · have hfk := hf.at hlt
      obtain ⟨b, off, rfl, hbl, c0, c1, c2⟩ := hxr.at hlt
      have HK : Hid (okAt xs k = (nmOk (xs.getD k fl0).nm && (decide (0 ≤ (xs.getD k fl0).sy) && decide ((xs.getD k fl0).sy ≤ (xs.getD k fl0).dt.size)) && (k == 0 || lessB (xs.getD (k - 1) fl0).nm (xs.getD k fl0).nm))) := rfl
      have hst : ∀ o, Below (w.heap.size + 1) (w.alloc (.cells #[.slice (some ⟨b, off, none⟩) xs.length cap, .int .i64 q, .int .i64 fu] 25)) (wr.alloc o) := fun o => hb.alloc (by omega) o
      have hstw : ∀ o, Below w.heap.size w (wr.alloc o) := fun o => hbw.alloc (by omega) o
      have hpr : 0 < k → (xs.getD (k - 1) fl0).nm.size ≤ maxLen ∧ wr.cell? ⟨b, off + (k - 1) * 3, none⟩ = some (.string (xs.getD (k - 1) fl0).nm) := fun h0 => by
        obtain ⟨b', off', e', _, d0, _, _⟩ := hxr.at (show k - 1 < xs.length by omega)
        simp only [Option.some.injEq, Addr.mk.injEq, and_true] at e'
        obtain ⟨rfl, rfl⟩ := e'
        exact ⟨(hf.at (show k - 1 < xs.length by omega)).1, d0⟩
      generalize xs.getD (k - 1) fl0 = f' at *
      generalize xs.getD k fl0 = f at *
      have HVF : okAt xs k = false → Hid (vldB xs q fu = false) := fun _ => HV
      have HAS : okAt xs k = true → Hid (∀ j, j < k + 1 → okAt xs j = true) := fun h j hj => by
        by_cases e : j = k
        · rw [e]; exact h
        · exact HA.out j (by omega)
      cases hn : nmOk f.nm with
      | false =>
        have hV := HVF (by rw [HK.out, hn]; rfl)
        clear HVF HAS hpr
        go_wp2_with (go_at_call 17; refine (l1NameOk_any f.nm _ hfk.1).mono ?_; rintro e w' ⟨rfl, rfl⟩)
        go_ret
        exact ⟨ret_bool hV.out.symm, hstw _⟩
      | true =>
        by_cases hs0 : f.sy < 0
        · have hV := HVF (by rw [HK.out]; simp; intro _ _ h; omega)
          clear HVF HAS hpr
          go_wp2_with (go_at_call 17; refine (l1NameOk_any f.nm _ hfk.1).mono ?_; rintro e w' ⟨rfl, rfl⟩)
          go_ret
          exact ⟨ret_bool hV.out.symm, hstw _⟩
        · by_cases hs1 : (f.dt.size : Int) < f.sy
          · have hV := HVF (by rw [HK.out]; simp; intro _ _ h; omega)
            clear HVF HAS hpr
            go_wp2_with (go_at_call 17; refine (l1NameOk_any f.nm _ hfk.1).mono ?_; rintro e w' ⟨rfl, rfl⟩)
            go_ret
            exact ⟨ret_bool hV.out.symm, hstw _⟩
          · by_cases hk0 : k = 0
            · have hA := HAS (by rw [HK.out, hn]; simp [hk0]; omega)
              clear HVF HAS hpr
              have g0 : decide ((0 : Int) < (k : Int)) = false := by simp; omega
              have g1 : decide (0 < k) = false := by simp; omega
              clear hk0
              go_wp2_with (go_at_call 17; refine (l1NameOk_any f.nm _ hfk.1).mono ?_; rintro e w' ⟨rfl, rfl⟩)
              go_quiet (fail)
              go_wp2
              exact ⟨⟨k + 1, by omega, by go_num, hA.out, Below.drewN (hst _) _⟩, by simp [intOf]; omega⟩
            · obtain ⟨hs', d0⟩ := hpr (by omega)
              have g0 : (0 : Int) < (k : Int) := by omega
              have g1 : 0 < k := by omega
              cases hl : lessB f'.nm f.nm with
              | false =>
                have hV := HVF (by rw [HK.out, hl]; simp [hk0])
                clear HVF HAS hpr
                go_wp2_with (go_at_call 17; refine (l1NameOk_any f.nm _ hfk.1).mono ?_; rintro e w' ⟨rfl, rfl⟩)
                go_quiet ((go_at_call 18; exact Calls.quiet_of (l1Less_any f'.nm f.nm _ hs' hfk.1)))
                go_wp2
                go_ret
                exact ⟨ret_bool hV.out.symm, Below.drewN (hstw _) _⟩
              | true =>
                have hA := HAS (by rw [HK.out, hn, hl]; simp; omega)
                clear HVF HAS hpr
                go_wp2_with (go_at_call 17; refine (l1NameOk_any f.nm _ hfk.1).mono ?_; rintro e w' ⟨rfl, rfl⟩)
                go_quiet ((go_at_call 18; exact Calls.quiet_of (l1Less_any f'.nm f.nm _ hs' hfk.1)))
                go_wp2
                exact ⟨⟨k + 1, by omega, by go_num, hA.out, Below.drewN (hst _) _⟩, by simp [intOf]; omega⟩
    · obtain rfl : k = xs.length := by omega
      have hV := HV
      have hd' : ¬ (datas xs : Int) ≤ 1048576 := by omega
      go_wp2_with fail
      refine (l1Total_anyW a cap xs q fu _ hxr hlen hd).mono ?_
      rintro e w1 ⟨rfl, hb1⟩
      go_wp2
      go_ret
      exact ⟨ret_bool (by rw [hV.out]; first | rfl | exact decide_eq_false (by omega) | (simp; omega)), hbw.trans (hb1.mono hbw.size)⟩


theorem specValid_anyW (a : Option Addr) (cap : Nat) (xs : List Fl) (q fu : Int) (w : World) (hx : Lie w a xs) (hf : Fits xs) (hlen : xs.length ≤ 1048576) (hd : datas xs ≤ 1073741824) :
    Calls Try.prog 5 #[.agg #[.slice a xs.length cap, .int .i64 q, .int .i64 fu]] w fun e w' => e = .returned (.bool (vldB xs q fu)) ∧ Below w.heap.size w w' := by
  cases hh : hdOk xs.length q fu with
  | true =>
    by_cases hbg : datas xs ≤ 1048576
    · exact specValid_body a cap xs q fu w hx hf hlen hbg hh
    · exact specValid_bodyW a cap xs q fu w hx hf hlen hd hbg hh
  | false => have : vldB xs q fu = false := by simp [vldB, hh]
             rw [this]
             exact specValid_head a cap xs q fu w hlen hh

end Go.Proofs.Ytgennghhneckeaa
