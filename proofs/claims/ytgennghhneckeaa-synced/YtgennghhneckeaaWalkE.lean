import Derived.Test.YtgennghhneckeaaWalkD

namespace Go.Proofs.Ytgennghhneckeaa
open Go.RowKit
set_option linter.unusedVariables false
set_option linter.unusedSimpArgs false

set_option maxHeartbeats 1000000 in
/-- The head is not in order. -/
theorem implValid_head (a : Option Addr) (cap : Nat) (xs : List Fl) (q fu : Int) (w : World) (hlen : xs.length ≤ 1048576) (hh : hdOk xs.length q fu = false) :
    Calls Try.prog 41 #[.agg #[.slice a xs.length cap, .int .i64 q, .int .i64 fu]] w fun e w' => e = .returned (.bool false) ∧ Below w.heap.size w w' := by
  by_cases h1 : xs.length ≤ 200
  · have i1 : ¬ (200 : Int) < (xs.length : Int) := by omega
    by_cases h2 : q < 0
    · go_enter Try.func41, Try.ntmps41
      go_wp2
      go_ret
      exact ⟨rfl, (Below.refl _ _).alloc (Nat.le_refl _) _⟩
    · by_cases h3 : 1048576 < q
      · go_enter Try.func41, Try.ntmps41
        go_wp2
        go_ret
        exact ⟨rfl, (Below.refl _ _).alloc (Nat.le_refl _) _⟩
      · have h4 : fu < -1 := by
          simp [hdOk] at hh
          have := hh h1 (by omega) (by omega)
          omega
        clear hh
        go_enter Try.func41, Try.ntmps41
        go_wp2
        go_ret
        exact ⟨rfl, (Below.refl _ _).alloc (Nat.le_refl _) _⟩
  · have i1 : (200 : Int) < (xs.length : Int) := by omega
    go_enter Try.func41, Try.ntmps41
    go_wp2
    go_ret
    exact ⟨rfl, (Below.refl _ _).alloc (Nat.le_refl _) _⟩


/-- The name before file k: the empty text before the first. -/
def before (xs : List Fl) (k : Nat) : ByteArray := if k = 0 then ByteArray.empty else (xs.getD (k - 1) fl0).nm

theorem less_or {a b : List UInt8} : Op.bytesLess a b = !(Op.bytesLess b a || b == a) := by
  induction a generalizing b with
  | nil => cases b <;> simp [Op.bytesLess]
  | cons x a ih =>
    cases b with
    | nil => simp [Op.bytesLess]
    | cons y b =>
      simp only [Op.bytesLess, ih (b := b)]
      by_cases h1 : x < y
      · have h2 : ¬ y < x := by simp [UInt8.lt_iff_toNat_lt] at *; omega
        have h3 : x ≠ y := by rintro rfl; exact h2 h1
        simp [h1, h2, h3.symm]
      · by_cases h2 : y < x
        · have h3 : x ≠ y := by rintro rfl; exact h1 h2
          simp [h1, h2, h3]
        · have h3 : x = y := by
            apply UInt8.toNat_inj.1
            simp [UInt8.lt_iff_toNat_lt] at h1 h2
            omega
          subst h3
          simp [h1]

theorem less_empty (n : ByteArray) (h : nmOk n = true) : lessB ByteArray.empty n = true := by
  unfold lessB
  rw [ByteArray.toList_eq, ByteArray.toList_eq]
  simp [nmOk] at h
  have h1 : 1 ≤ n.data.toList.length := by simpa using h.1
  cases e : n.data.toList with
  | nil => rw [e] at h1; simp at h1
  | cons y b => rfl

theorem okAt_before (xs : List Fl) (k : Nat) :
    okAt xs k = (nmOk (xs.getD k fl0).nm && (decide (0 ≤ (xs.getD k fl0).sy) && decide ((xs.getD k fl0).sy ≤ (xs.getD k fl0).dt.size)) && lessB (before xs k) (xs.getD k fl0).nm) := by
  unfold okAt before
  generalize xs.getD k fl0 = f
  by_cases hk : k = 0
  · rw [if_pos hk, hk]
    cases hn : nmOk f.nm with
    | false => rfl
    | true => rw [less_empty f.nm hn]; rfl
  · have : (k == 0) = false := by simpa using hk
    rw [if_neg hk, this, Bool.false_or]

set_option maxHeartbeats 1000000 in
theorem implValid_body (a : Option Addr) (cap : Nat) (xs : List Fl) (q fu : Int) (w : World) (hx : Lie w a xs) (hf : Fits xs) (hlen : xs.length ≤ 1048576) (hd : datas xs ≤ 1048576) (hh : hdOk xs.length q fu = true) :
    Calls Try.prog 41 #[.agg #[.slice a xs.length cap, .int .i64 q, .int .i64 fu]] w fun e w' => e = .returned (.bool (vldB xs q fu)) ∧ Below w.heap.size w w' := by
  have HV : Hid (vldB xs q fu = (List.range xs.length).all (okAt xs)) := by show _ = _; simp [vldB, hh, hd]
  simp [hdOk] at hh
  obtain ⟨⟨⟨h1, h2⟩, h3⟩, h4⟩ := hh
  have i1 : ¬ (200 : Int) < (xs.length : Int) := by omega
  have i2 : ¬ q < 0 := by omega
  have i3 : ¬ 1048576 < q := by omega
  have i4 : ¬ fu < -1 := by omega
  have hb0 : Below w.heap.size w (w.alloc (.cells #[.slice a xs.length cap, .int .i64 q, .int .i64 fu] 25)) := (Below.refl _ _).alloc (Nat.le_refl _) _
  go_enter Try.func41, Try.ntmps41
  go_wp2
  go_loopw [3, 4, 29] (fun t s i wr => ∃ k : Nat, k ≤ xs.length ∧ i = .int .i64 k ∧ t = .int .i64 (datas (xs.take k)) ∧ s = .string (before xs k) ∧ (∀ j, j < k → okAt xs j = true) ∧ Below w.heap.size w wr ∧ w.heap.size < wr.heap.size) (fun _ _ i _ => xs.length - (intOf i).toNat)
  case atStart => exact ⟨0, Nat.zero_le _, rfl, by simp [datas], rfl, fun j hj => absurd hj (Nat.not_lt_zero _), hb0, by simp⟩
  case round =>
    obtain ⟨k, hk, rfl, rfl, rfl, hall, hbw, hsz⟩ := hrel
    have HA : Hid (∀ j, j < k → okAt xs j = true) := hall
    clear hall
    have hxr := hx.below hbw
    by_cases hlt : k < xs.length
    · have hfk := hf.at hlt
      obtain ⟨b, off, rfl, hbl, c0, c1, c2⟩ := hxr.at hlt
      have HK : Hid (okAt xs k = (nmOk (xs.getD k fl0).nm && (decide (0 ≤ (xs.getD k fl0).sy) && decide ((xs.getD k fl0).sy ≤ (xs.getD k fl0).dt.size)) && lessB (before xs k) (xs.getD k fl0).nm)) := okAt_before xs k
      have HS : Hid (datas (xs.take (k + 1)) = datas (xs.take k) + (xs.getD k fl0).dt.size) := datas_snoc xs k hlt
      have hle := datas_take_le xs (k + 1)
      rw [HS.out] at hle
      have HB : Hid (before xs (k + 1) = (xs.getD k fl0).nm) := by show _ = _; simp [before]
      have hstw : ∀ o, Below w.heap.size w (wr.alloc o) := fun o => hbw.alloc (by omega) o
      generalize before xs k = bf at *
      generalize datas (xs.take k) = tot at *
      generalize xs.getD k fl0 = f at *
      have HVF : okAt xs k = false → Hid (vldB xs q fu = false) := fun h => by show _ = _; rw [HV.out]; exact all_to HA.out hlt h
      have HAS : okAt xs k = true → Hid (∀ j, j < k + 1 → okAt xs j = true) := fun h j hj => by
        by_cases e : j = k
        · rw [e]; exact h
        · exact HA.out j (by omega)
      have HLB : Hid (lessB bf f.nm = !(Op.bytesLess f.nm.toList bf.toList || f.nm.toList == bf.toList)) := less_or
      cases hn : nmOk f.nm with
      | false =>
        have hV := HVF (by rw [HK.out, hn]; rfl)
        clear HVF HAS
        go_wp2_with (go_at_call 60; refine (goodFileName_any f.nm _ hfk.1).mono ?_; rintro e w' ⟨rfl, rfl⟩)
        go_ret
        exact ⟨ret_bool hV.out.symm, hstw _⟩
      | true =>
        cases hl : (Op.bytesLess f.nm.toList bf.toList || f.nm.toList == bf.toList) with
        | true =>
          have hV := HVF (by rw [HK.out, HLB.out, hl]; simp)
          clear HVF HAS
          go_wp2_with (go_at_call 60; refine (goodFileName_any f.nm _ hfk.1).mono ?_; rintro e w' ⟨rfl, rfl⟩)
          go_ret
          exact ⟨ret_bool hV.out.symm, hstw _⟩
        | false =>
          by_cases hs0 : f.sy < 0
          · have hV := HVF (by rw [HK.out]; simp; intro _ _ h; omega)
            clear HVF HAS
            go_wp2_with (go_at_call 60; refine (goodFileName_any f.nm _ hfk.1).mono ?_; rintro e w' ⟨rfl, rfl⟩)
            go_ret
            exact ⟨ret_bool hV.out.symm, hstw _⟩
          · by_cases hs1 : (f.dt.size : Int) < f.sy
            · have hV := HVF (by rw [HK.out]; simp; intro _ _ h; omega)
              clear HVF HAS
              go_wp2_with (go_at_call 60; refine (goodFileName_any f.nm _ hfk.1).mono ?_; rintro e w' ⟨rfl, rfl⟩)
              go_ret
              exact ⟨ret_bool hV.out.symm, hstw _⟩
            · have hA := HAS (by rw [HK.out, hn, HLB.out, hl]; simp; omega)
              clear HVF HAS
              go_wp2_with (go_at_call 60; refine (goodFileName_any f.nm _ hfk.1).mono ?_; rintro e w' ⟨rfl, rfl⟩)
              exact ⟨⟨k + 1, by omega, by go_num, by rw [HS.out]; go_num, by rw [HB.out], hA.out, hstw _, by simp; omega⟩, by simp [intOf]; omega⟩
    · obtain rfl : k = xs.length := by omega
      have hV : Hid (vldB xs q fu = true) := by show _ = _; rw [HV.out]; exact all_full HA.out
      have hd' : (datas xs : Int) ≤ 1048576 := by omega
      rw [List.take_length]
      go_wp2
      go_ret
      exact ⟨ret_bool (by rw [hV.out]), hbw⟩

theorem implValid_any (a : Option Addr) (cap : Nat) (xs : List Fl) (q fu : Int) (w : World) (hx : Lie w a xs) (hf : Fits xs) (hlen : xs.length ≤ 1048576) (hd : datas xs ≤ 1048576) :
    Calls Try.prog 41 #[.agg #[.slice a xs.length cap, .int .i64 q, .int .i64 fu]] w fun e w' => e = .returned (.bool (vldB xs q fu)) ∧ Below w.heap.size w w' := by
  cases hh : hdOk xs.length q fu with
  | true => exact implValid_body a cap xs q fu w hx hf hlen hd hh
  | false => have : vldB xs q fu = false := by simp [vldB, hh]
             rw [this]
             exact implValid_head a cap xs q fu w hlen hh
end Go.Proofs.Ytgennghhneckeaa
