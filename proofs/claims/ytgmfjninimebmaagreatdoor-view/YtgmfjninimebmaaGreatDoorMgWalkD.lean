import Derived.Test.YtgmfjninimebmaaGreatDoorMgFrG
namespace Go.Proofs.YtgmfjninimebmaaGreatDoor
open Go.RowKit
set_option linter.unusedVariables false
set_option linter.unusedSimpArgs false

/-- Is file k of the list in order: a good name, greater than the one before, as much synced as there is at most. -/
def okAt (xs : List Fl) (k : Nat) : Bool :=
  nmOk (xs.getD k fl0).nm && (decide (0 ≤ (xs.getD k fl0).sy) && decide ((xs.getD k fl0).sy ≤ (xs.getD k fl0).dt.size)) &&
    (k == 0 || lessB (xs.getD (k - 1) fl0).nm (xs.getD k fl0).nm)

/-- Is the head in order. -/
def hdOk (n : Nat) (q fu : Int) : Bool := decide (n ≤ 200) && decide (0 ≤ q) && decide (q ≤ 1048576) && decide (-1 ≤ fu)

/-- Is the directory valid. -/
def vldB (xs : List Fl) (q fu : Int) : Bool :=
  hdOk xs.length q fu && (List.range xs.length).all (okAt xs) && decide (datas xs ≤ 1048576)

theorem all_to {p : Nat → Bool} {n k : Nat} (h : ∀ j, j < k → p j = true) (hk : k < n) (hb : p k = false) : (List.range n).all p = false := by
  rw [List.all_eq_false]
  exact ⟨k, by simpa using hk, by simp [hb]⟩
theorem all_full {p : Nat → Bool} {n : Nat} (h : ∀ j, j < n → p j = true) : (List.range n).all p = true := by
  rw [List.all_eq_true]
  intro j hj
  exact h j (by simpa using hj)

theorem Below.drewN {B : Nat} {a w : World} (h : Below B a w) (n : Nat) : Below B a (w.drewN n) := h.trans ⟨rfl, rfl, rfl, Nat.le_refl _, fun _ _ => rfl⟩

set_option maxHeartbeats 1000000 in
/-- The head is not in order. -/
theorem specValid_head (a : Option Addr) (cap : Nat) (xs : List Fl) (q fu : Int) (w : World) (hlen : xs.length ≤ 1048576) (hh : hdOk xs.length q fu = false) :
    Calls Tryz.prog 14 #[.agg #[.slice a xs.length cap, .int .i64 q, .int .i64 fu]] w fun e w' => e = .returned (.bool false) ∧ Below w.heap.size w w' := by
  by_cases h1 : xs.length ≤ 200
  · have i1 : ¬ (200 : Int) < (xs.length : Int) := by omega
    by_cases h2 : q < 0
    · go_enter Tryz.func14, Tryz.ntmps14
      go_wp2
      go_ret
      exact ⟨rfl, (Below.refl _ _).alloc (Nat.le_refl _) _⟩
    · by_cases h3 : 1048576 < q
      · go_enter Tryz.func14, Tryz.ntmps14
        go_wp2
        go_ret
        exact ⟨rfl, (Below.refl _ _).alloc (Nat.le_refl _) _⟩
      · have h4 : fu < -1 := by
          simp [hdOk] at hh
          have := hh h1 (by omega) (by omega)
          omega
        clear hh
        go_enter Tryz.func14, Tryz.ntmps14
        go_wp2
        go_ret
        exact ⟨rfl, (Below.refl _ _).alloc (Nat.le_refl _) _⟩
  · have i1 : (200 : Int) < (xs.length : Int) := by omega
    go_enter Tryz.func14, Tryz.ntmps14
    go_wp2
    go_ret
    exact ⟨rfl, (Below.refl _ _).alloc (Nat.le_refl _) _⟩

set_option maxHeartbeats 1000000 in
theorem specValid_body (a : Option Addr) (cap : Nat) (xs : List Fl) (q fu : Int) (w : World) (hx : Lie w a xs) (hf : Fits xs) (hlen : xs.length ≤ 1048576) (hd : datas xs ≤ 1048576) (hh : hdOk xs.length q fu = true) :
    Calls Tryz.prog 14 #[.agg #[.slice a xs.length cap, .int .i64 q, .int .i64 fu]] w fun e w' => e = .returned (.bool (vldB xs q fu)) ∧ Below w.heap.size w w' := by
  have HV : Hid (vldB xs q fu = (List.range xs.length).all (okAt xs)) := by show _ = _; simp [vldB, hh, hd]
  simp [hdOk] at hh
  obtain ⟨⟨⟨h1, h2⟩, h3⟩, h4⟩ := hh
  have i1 : ¬ (200 : Int) < (xs.length : Int) := by omega
  have i2 : ¬ q < 0 := by omega
  have i3 : ¬ 1048576 < q := by omega
  have i4 : ¬ fu < -1 := by omega
  have hb0 : Below w.heap.size w (w.alloc (.cells #[.slice a xs.length cap, .int .i64 q, .int .i64 fu] 32)) := (Below.refl _ _).alloc (Nat.le_refl _) _
  go_enter Tryz.func14, Tryz.ntmps14
  go_wp2
  go_loopw [3] (fun i wr => ∃ k : Nat, k ≤ xs.length ∧ i = .int .i64 k ∧ (∀ j, j < k → okAt xs j = true) ∧ Below (w.heap.size + 1) (w.alloc (.cells #[.slice a xs.length cap, .int .i64 q, .int .i64 fu] 32)) wr) (fun i _ => xs.length - (intOf i).toNat)
  case atStart => exact ⟨0, Nat.zero_le _, rfl, fun j hj => absurd hj (Nat.not_lt_zero _), Below.refl _ _⟩
  case round =>
    obtain ⟨k, hk, rfl, hall, hb⟩ := hrel
    have HA : Hid (∀ j, j < k → okAt xs j = true) := hall
    clear hall
    have hsz : w.heap.size < wr.heap.size := by have := hb.size; simp at this; omega
    have p0 : wr.cell? ⟨w.heap.size, 0, none⟩ = some (.slice a xs.length cap) := (hb.cell (p := ⟨w.heap.size, 0, none⟩) (by simp)).trans (by simp)
    have p1 : wr.cell? ⟨w.heap.size, 1, none⟩ = some (.int .i64 q) := (hb.cell (p := ⟨w.heap.size, 1, none⟩) (by simp)).trans (by simp)
    have p2 : wr.cell? ⟨w.heap.size, 2, none⟩ = some (.int .i64 fu) := (hb.cell (p := ⟨w.heap.size, 2, none⟩) (by simp)).trans (by simp)
    have hbw : Below w.heap.size w wr := hb0.trans (hb.mono (by omega))
    have hxr := hx.below hbw
    by_cases hlt : k < xs.length
    · have hfk := hf.at hlt
      obtain ⟨b, off, rfl, hbl, c0, c1, c2⟩ := hxr.at hlt
      have HK : Hid (okAt xs k = (nmOk (xs.getD k fl0).nm && (decide (0 ≤ (xs.getD k fl0).sy) && decide ((xs.getD k fl0).sy ≤ (xs.getD k fl0).dt.size)) && (k == 0 || lessB (xs.getD (k - 1) fl0).nm (xs.getD k fl0).nm))) := rfl
      have hst : ∀ o, Below (w.heap.size + 1) (w.alloc (.cells #[.slice (some ⟨b, off, none⟩) xs.length cap, .int .i64 q, .int .i64 fu] 32)) (wr.alloc o) := fun o => hb.alloc (by omega) o
      have hstw : ∀ o, Below w.heap.size w (wr.alloc o) := fun o => hbw.alloc (by omega) o
      have hpr : 0 < k → (xs.getD (k - 1) fl0).nm.size ≤ maxLen ∧ wr.cell? ⟨b, off + (k - 1) * 3, none⟩ = some (.string (xs.getD (k - 1) fl0).nm) := fun h0 => by
        obtain ⟨b', off', e', _, d0, _, _⟩ := hxr.at (show k - 1 < xs.length by omega)
        simp only [Option.some.injEq, Addr.mk.injEq, and_true] at e'
        obtain ⟨rfl, rfl⟩ := e'
        exact ⟨(hf.at (show k - 1 < xs.length by omega)).1, d0⟩
      generalize xs.getD (k - 1) fl0 = f' at *
      generalize xs.getD k fl0 = f at *
      have HVF : okAt xs k = false → Hid (vldB xs q fu = false) := fun h => by show _ = _; rw [HV.out]; exact all_to HA.out hlt h
      have HAS : okAt xs k = true → Hid (∀ j, j < k + 1 → okAt xs j = true) := fun h j hj => by
        by_cases e : j = k
        · rw [e]; exact h
        · exact HA.out j (by omega)
      cases hn : nmOk f.nm with
      | false =>
        have hV := HVF (by rw [HK.out, hn]; rfl)
        clear HVF HAS hpr
        go_wp2_with (go_at_call 30; refine (l1NameOk_any f.nm _ hfk.1).mono ?_; rintro e w' ⟨rfl, rfl⟩)
        go_ret
        exact ⟨ret_bool hV.out.symm, hstw _⟩
      | true =>
        by_cases hs0 : f.sy < 0
        · have hV := HVF (by rw [HK.out]; simp; intro _ _ h; omega)
          clear HVF HAS hpr
          go_wp2_with (go_at_call 30; refine (l1NameOk_any f.nm _ hfk.1).mono ?_; rintro e w' ⟨rfl, rfl⟩)
          go_ret
          exact ⟨ret_bool hV.out.symm, hstw _⟩
        · by_cases hs1 : (f.dt.size : Int) < f.sy
          · have hV := HVF (by rw [HK.out]; simp; intro _ _ h; omega)
            clear HVF HAS hpr
            go_wp2_with (go_at_call 30; refine (l1NameOk_any f.nm _ hfk.1).mono ?_; rintro e w' ⟨rfl, rfl⟩)
            go_ret
            exact ⟨ret_bool hV.out.symm, hstw _⟩
          · by_cases hk0 : k = 0
            · have hA := HAS (by rw [HK.out, hn]; simp [hk0]; omega)
              clear HVF HAS hpr
              have g0 : decide ((0 : Int) < (k : Int)) = false := by simp; omega
              have g1 : decide (0 < k) = false := by simp; omega
              clear hk0
              go_wp2_with (go_at_call 30; refine (l1NameOk_any f.nm _ hfk.1).mono ?_; rintro e w' ⟨rfl, rfl⟩)
              go_quiet (fail)
              go_wp2
              exact ⟨⟨k + 1, by omega, by go_num, hA.out, Below.drewN (hst _) _⟩, by simp [intOf]; omega⟩
            · obtain ⟨hs', d0⟩ := hpr (by omega)
              have g0 : (0 : Int) < (k : Int) := by omega
              have g1 : 0 < k := by omega
              cases hl : lessB f'.nm f.nm with
              | false =>
                have hV := HVF (by rw [HK.out, hl]; simp [hk0])
                clear HVF HAS hpr
                go_wp2_with (go_at_call 30; refine (l1NameOk_any f.nm _ hfk.1).mono ?_; rintro e w' ⟨rfl, rfl⟩)
                go_quiet ((go_at_call 31; exact Calls.quiet_of (l1Less_any f'.nm f.nm _ hs' hfk.1)))
                go_wp2
                go_ret
                exact ⟨ret_bool hV.out.symm, Below.drewN (hstw _) _⟩
              | true =>
                have hA := HAS (by rw [HK.out, hn, hl]; simp; omega)
                clear HVF HAS hpr
                go_wp2_with (go_at_call 30; refine (l1NameOk_any f.nm _ hfk.1).mono ?_; rintro e w' ⟨rfl, rfl⟩)
                go_quiet ((go_at_call 31; exact Calls.quiet_of (l1Less_any f'.nm f.nm _ hs' hfk.1)))
                go_wp2
                exact ⟨⟨k + 1, by omega, by go_num, hA.out, Below.drewN (hst _) _⟩, by simp [intOf]; omega⟩
    · obtain rfl : k = xs.length := by omega
      have hV : Hid (vldB xs q fu = true) := by show _ = _; rw [HV.out]; exact all_full HA.out
      have hd' : (datas xs : Int) ≤ 1048576 := by omega
      go_wp2_with fail
      refine (l1Total_any a cap xs q fu _ hxr hlen hd).mono ?_
      rintro e w1 ⟨rfl, hb1⟩
      go_wp2
      go_ret
      exact ⟨ret_bool (by rw [hV.out]), hbw.trans (hb1.mono hbw.size)⟩

theorem specValid_any (a : Option Addr) (cap : Nat) (xs : List Fl) (q fu : Int) (w : World) (hx : Lie w a xs) (hf : Fits xs) (hlen : xs.length ≤ 1048576) (hd : datas xs ≤ 1048576) :
    Calls Tryz.prog 14 #[.agg #[.slice a xs.length cap, .int .i64 q, .int .i64 fu]] w fun e w' => e = .returned (.bool (vldB xs q fu)) ∧ Below w.heap.size w w' := by
  cases hh : hdOk xs.length q fu with
  | true => exact specValid_body a cap xs q fu w hx hf hlen hd hh
  | false => have : vldB xs q fu = false := by simp [vldB, hh]
             rw [this]
             exact specValid_head a cap xs q fu w hlen hh
end Go.Proofs.YtgmfjninimebmaaGreatDoor
namespace Go.Proofs.YtgmfjninimebmaaGreatDoor
open Go.RowKit
set_option linter.unusedVariables false
set_option linter.unusedSimpArgs false

set_option maxHeartbeats 1000000 in
/-- The head is not in order. -/
theorem implValid_head (a : Option Addr) (cap : Nat) (xs : List Fl) (q fu : Int) (w : World) (hlen : xs.length ≤ 1048576) (hh : hdOk xs.length q fu = false) :
    Calls Tryz.prog 42 #[.agg #[.slice a xs.length cap, .int .i64 q, .int .i64 fu]] w fun e w' => e = .returned (.bool false) ∧ Below w.heap.size w w' := by
  by_cases h1 : xs.length ≤ 200
  · have i1 : ¬ (200 : Int) < (xs.length : Int) := by omega
    by_cases h2 : q < 0
    · go_enter Tryz.func42, Tryz.ntmps42
      go_wp2
      go_ret
      exact ⟨rfl, (Below.refl _ _).alloc (Nat.le_refl _) _⟩
    · by_cases h3 : 1048576 < q
      · go_enter Tryz.func42, Tryz.ntmps42
        go_wp2
        go_ret
        exact ⟨rfl, (Below.refl _ _).alloc (Nat.le_refl _) _⟩
      · have h4 : fu < -1 := by
          simp [hdOk] at hh
          have := hh h1 (by omega) (by omega)
          omega
        clear hh
        go_enter Tryz.func42, Tryz.ntmps42
        go_wp2
        go_ret
        exact ⟨rfl, (Below.refl _ _).alloc (Nat.le_refl _) _⟩
  · have i1 : (200 : Int) < (xs.length : Int) := by omega
    go_enter Tryz.func42, Tryz.ntmps42
    go_wp2
    go_ret
    exact ⟨rfl, (Below.refl _ _).alloc (Nat.le_refl _) _⟩


/-- The name before file k: the empty text before the first. -/
def before (xs : List Fl) (k : Nat) : ByteArray := if k = 0 then ByteArray.empty else (xs.getD (k - 1) fl0).nm

theorem less_or {a b : List UInt8} : Op.bytesLess a b = !(Op.bytesLess b a || b == a) := by
  induction a generalizing b with
  | nil => cases b <;> simp [Op.bytesLess]
  | cons x a ih =>
    cases b with
    | nil => simp [Op.bytesLess]
    | cons y b =>
      simp only [Op.bytesLess, ih (b := b)]
      by_cases h1 : x < y
      · have h2 : ¬ y < x := by simp [UInt8.lt_iff_toNat_lt] at *; omega
        have h3 : x ≠ y := by rintro rfl; exact h2 h1
        simp [h1, h2, h3.symm]
      · by_cases h2 : y < x
        · have h3 : x ≠ y := by rintro rfl; exact h1 h2
          simp [h1, h2, h3]
        · have h3 : x = y := by
            apply UInt8.toNat_inj.1
            simp [UInt8.lt_iff_toNat_lt] at h1 h2
            omega
          subst h3
          simp [h1]

theorem less_empty (n : ByteArray) (h : nmOk n = true) : lessB ByteArray.empty n = true := by
  unfold lessB
  rw [ByteArray.toList_eq, ByteArray.toList_eq]
  simp [nmOk] at h
  have h1 : 1 ≤ n.data.toList.length := by simpa using h.1
  cases e : n.data.toList with
  | nil => rw [e] at h1; simp at h1
  | cons y b => rfl

theorem okAt_before (xs : List Fl) (k : Nat) :
    okAt xs k = (nmOk (xs.getD k fl0).nm && (decide (0 ≤ (xs.getD k fl0).sy) && decide ((xs.getD k fl0).sy ≤ (xs.getD k fl0).dt.size)) && lessB (before xs k) (xs.getD k fl0).nm) := by
  unfold okAt before
  generalize xs.getD k fl0 = f
  by_cases hk : k = 0
  · rw [if_pos hk, hk]
    cases hn : nmOk f.nm with
    | false => rfl
    | true => rw [less_empty f.nm hn]; rfl
  · have : (k == 0) = false := by simpa using hk
    rw [if_neg hk, this, Bool.false_or]

set_option maxHeartbeats 1000000 in
theorem implValid_body (a : Option Addr) (cap : Nat) (xs : List Fl) (q fu : Int) (w : World) (hx : Lie w a xs) (hf : Fits xs) (hlen : xs.length ≤ 1048576) (hd : datas xs ≤ 1048576) (hh : hdOk xs.length q fu = true) :
    Calls Tryz.prog 42 #[.agg #[.slice a xs.length cap, .int .i64 q, .int .i64 fu]] w fun e w' => e = .returned (.bool (vldB xs q fu)) ∧ Below w.heap.size w w' := by
  have HV : Hid (vldB xs q fu = (List.range xs.length).all (okAt xs)) := by show _ = _; simp [vldB, hh, hd]
  simp [hdOk] at hh
  obtain ⟨⟨⟨h1, h2⟩, h3⟩, h4⟩ := hh
  have i1 : ¬ (200 : Int) < (xs.length : Int) := by omega
  have i2 : ¬ q < 0 := by omega
  have i3 : ¬ 1048576 < q := by omega
  have i4 : ¬ fu < -1 := by omega
  have hb0 : Below w.heap.size w (w.alloc (.cells #[.slice a xs.length cap, .int .i64 q, .int .i64 fu] 32)) := (Below.refl _ _).alloc (Nat.le_refl _) _
  go_enter Tryz.func42, Tryz.ntmps42
  go_wp2
  go_loopw [3, 4, 29] (fun t s i wr => ∃ k : Nat, k ≤ xs.length ∧ i = .int .i64 k ∧ t = .int .i64 (datas (xs.take k)) ∧ s = .string (before xs k) ∧ (∀ j, j < k → okAt xs j = true) ∧ Below w.heap.size w wr ∧ w.heap.size < wr.heap.size) (fun _ _ i _ => xs.length - (intOf i).toNat)
  case atStart => exact ⟨0, Nat.zero_le _, rfl, by simp [datas], rfl, fun j hj => absurd hj (Nat.not_lt_zero _), hb0, by simp⟩
  case round =>
    obtain ⟨k, hk, rfl, rfl, rfl, hall, hbw, hsz⟩ := hrel
    have HA : Hid (∀ j, j < k → okAt xs j = true) := hall
    clear hall
    have hxr := hx.below hbw
    by_cases hlt : k < xs.length
    · have hfk := hf.at hlt
      obtain ⟨b, off, rfl, hbl, c0, c1, c2⟩ := hxr.at hlt
      have HK : Hid (okAt xs k = (nmOk (xs.getD k fl0).nm && (decide (0 ≤ (xs.getD k fl0).sy) && decide ((xs.getD k fl0).sy ≤ (xs.getD k fl0).dt.size)) && lessB (before xs k) (xs.getD k fl0).nm)) := okAt_before xs k
      have HS : Hid (datas (xs.take (k + 1)) = datas (xs.take k) + (xs.getD k fl0).dt.size) := datas_snoc xs k hlt
      have hle := datas_take_le xs (k + 1)
      rw [HS.out] at hle
      have HB : Hid (before xs (k + 1) = (xs.getD k fl0).nm) := by show _ = _; simp [before]
      have hstw : ∀ o, Below w.heap.size w (wr.alloc o) := fun o => hbw.alloc (by omega) o
      generalize before xs k = bf at *
      generalize datas (xs.take k) = tot at *
      generalize xs.getD k fl0 = f at *
      have HVF : okAt xs k = false → Hid (vldB xs q fu = false) := fun h => by show _ = _; rw [HV.out]; exact all_to HA.out hlt h
      have HAS : okAt xs k = true → Hid (∀ j, j < k + 1 → okAt xs j = true) := fun h j hj => by
        by_cases e : j = k
        · rw [e]; exact h
        · exact HA.out j (by omega)
      have HLB : Hid (lessB bf f.nm = !(Op.bytesLess f.nm.toList bf.toList || f.nm.toList == bf.toList)) := less_or
      cases hn : nmOk f.nm with
      | false =>
        have hV := HVF (by rw [HK.out, hn]; rfl)
        clear HVF HAS
        go_wp2_with (go_at_call 66; refine (goodFileName_any f.nm _ hfk.1).mono ?_; rintro e w' ⟨rfl, rfl⟩)
        go_ret
        exact ⟨ret_bool hV.out.symm, hstw _⟩
      | true =>
        cases hl : (Op.bytesLess f.nm.toList bf.toList || f.nm.toList == bf.toList) with
        | true =>
          have hV := HVF (by rw [HK.out, HLB.out, hl]; simp)
          clear HVF HAS
          go_wp2_with (go_at_call 66; refine (goodFileName_any f.nm _ hfk.1).mono ?_; rintro e w' ⟨rfl, rfl⟩)
          go_ret
          exact ⟨ret_bool hV.out.symm, hstw _⟩
        | false =>
          by_cases hs0 : f.sy < 0
          · have hV := HVF (by rw [HK.out]; simp; intro _ _ h; omega)
            clear HVF HAS
            go_wp2_with (go_at_call 66; refine (goodFileName_any f.nm _ hfk.1).mono ?_; rintro e w' ⟨rfl, rfl⟩)
            go_ret
            exact ⟨ret_bool hV.out.symm, hstw _⟩
          · by_cases hs1 : (f.dt.size : Int) < f.sy
            · have hV := HVF (by rw [HK.out]; simp; intro _ _ h; omega)
              clear HVF HAS
              go_wp2_with (go_at_call 66; refine (goodFileName_any f.nm _ hfk.1).mono ?_; rintro e w' ⟨rfl, rfl⟩)
              go_ret
              exact ⟨ret_bool hV.out.symm, hstw _⟩
            · have hA := HAS (by rw [HK.out, hn, HLB.out, hl]; simp; omega)
              clear HVF HAS
              go_wp2_with (go_at_call 66; refine (goodFileName_any f.nm _ hfk.1).mono ?_; rintro e w' ⟨rfl, rfl⟩)
              exact ⟨⟨k + 1, by omega, by go_num, by rw [HS.out]; go_num, by rw [HB.out], hA.out, hstw _, by simp; omega⟩, by simp [intOf]; omega⟩
    · obtain rfl : k = xs.length := by omega
      have hV : Hid (vldB xs q fu = true) := by show _ = _; rw [HV.out]; exact all_full HA.out
      have hd' : (datas xs : Int) ≤ 1048576 := by omega
      rw [List.take_length]
      go_wp2
      go_ret
      exact ⟨ret_bool (by rw [hV.out]), hbw⟩

theorem implValid_any (a : Option Addr) (cap : Nat) (xs : List Fl) (q fu : Int) (w : World) (hx : Lie w a xs) (hf : Fits xs) (hlen : xs.length ≤ 1048576) (hd : datas xs ≤ 1048576) :
    Calls Tryz.prog 42 #[.agg #[.slice a xs.length cap, .int .i64 q, .int .i64 fu]] w fun e w' => e = .returned (.bool (vldB xs q fu)) ∧ Below w.heap.size w w' := by
  cases hh : hdOk xs.length q fu with
  | true => exact implValid_body a cap xs q fu w hx hf hlen hd hh
  | false => have : vldB xs q fu = false := by simp [vldB, hh]
             rw [this]
             exact implValid_head a cap xs q fu w hlen hh
end Go.Proofs.YtgmfjninimebmaaGreatDoor
namespace Go.Proofs.YtgmfjninimebmaaGreatDoor
open Go.RowKit
set_option linter.unusedVariables false
set_option linter.unusedSimpArgs false

theorem bne_self (n : ByteArray) : (n.toList != n.toList) = false := by simp

set_option maxHeartbeats 400000 in
theorem eqFile_same (f : Fl) (w : World) :
    Calls Tryz.prog 52 #[f.agg, f.agg] w fun e w' => e = .returned (.bool true) ∧ Below w.heap.size w w' := by
  obtain ⟨n, d, s⟩ := f
  go_enter Tryz.func52, Tryz.ntmps52
  go_wp2
  go_ret
  exact ⟨rfl, ((Below.refl _ _).alloc (Nat.le_refl _) _).alloc (by simp) _⟩

set_option maxHeartbeats 400000 in
theorem eqFileS_same (a c : Option Addr) (cap cap' : Nat) (xs : List Fl) (w : World) (hx : Lie w a xs) (hy : Lie w c xs) (hlen : xs.length ≤ 1048576) :
    Calls Tryz.prog 25 #[.slice a xs.length cap, .slice c xs.length cap'] w fun e w' => e = .returned (.bool true) ∧ Below w.heap.size w w' := by
  go_enter Tryz.func25, Tryz.ntmps25
  go_wp2
  go_loopw [5] (fun i wr => ∃ k : Nat, k ≤ xs.length ∧ i = .int .i64 k ∧ Below w.heap.size w wr) (fun i _ => xs.length - (intOf i).toNat)
  case atStart => exact ⟨0, Nat.zero_le _, rfl, Below.refl _ _⟩
  case round =>
    obtain ⟨k, hk, rfl, hb⟩ := hrel
    by_cases hlt : k < xs.length
    · obtain ⟨b, off, rfl, hbl, c0, c1, c2⟩ := (hx.below hb).at hlt
      obtain ⟨b', off', rfl, hbl', d0, d1, d2⟩ := (hy.below hb).at hlt
      generalize xs.getD k fl0 = f at *
      have i1 : (k : Int) < (xs.length : Int) := by omega
      go_wp2_with fail
      go_region_held3 (fun w' => w'.cell? ⟨b, off + k * 3, none⟩ = some (.string f.nm) ∧ w'.cell? ⟨b, off + k * 3 + 1, none⟩ = some (.string f.dt) ∧ w'.cell? ⟨b, off + k * 3 + 2, none⟩ = some (.int .i64 f.sy) ∧ w'.cell? ⟨b', off' + k * 3, none⟩ = some (.string f.nm) ∧ w'.cell? ⟨b', off' + k * 3 + 1, none⟩ = some (.string f.dt) ∧ w'.cell? ⟨b', off' + k * 3 + 2, none⟩ = some (.int .i64 f.sy)) (simp [go_sem, *]) 
        (first | (go_at_call 52; refine (eqFile_same f _).mono ?_; rintro e w' ⟨rfl, hb1⟩; have k0 := (hb1.cell (p := ⟨b, _, none⟩) hbl).trans c0; have k1 := (hb1.cell (p := ⟨b, _, none⟩) hbl).trans c1; have k2 := (hb1.cell (p := ⟨b, _, none⟩) hbl).trans c2; have l0 := (hb1.cell (p := ⟨b', _, none⟩) hbl').trans d0; have l1 := (hb1.cell (p := ⟨b', _, none⟩) hbl').trans d1; have l2 := (hb1.cell (p := ⟨b', _, none⟩) hbl').trans d2; have hb2 := hb.drew.trans (hb1.mono hb.drew.size)))
      all_goals go_wp2
      all_goals exact ⟨⟨k + 1, by omega, by go_num, hb2⟩, by simp [intOf]; omega⟩
    · go_wp2
      go_ret
      exact ⟨rfl, hb⟩

set_option maxHeartbeats 400000 in
theorem eqFS_same (a c : Option Addr) (cap cap' : Nat) (xs : List Fl) (q fu : Int) (w : World) (hx : Lie w a xs) (hy : Lie w c xs) (hlen : xs.length ≤ 1048576) :
    Calls Tryz.prog 9 #[.agg #[.slice a xs.length cap, .int .i64 q, .int .i64 fu], .agg #[.slice c xs.length cap', .int .i64 q, .int .i64 fu]] w fun e w' => e = .returned (.bool true) ∧ Below w.heap.size w w' := by
  have hb0 : Below w.heap.size w ((w.alloc (.cells #[.slice a xs.length cap, .int .i64 q, .int .i64 fu] 32)).alloc (.cells #[.slice c xs.length cap', .int .i64 q, .int .i64 fu] 32)) := ((Below.refl _ _).alloc (Nat.le_refl _) _).alloc (by simp) _
  go_enter Tryz.func9, Tryz.ntmps9
  go_wp2_with fail
  refine (eqFileS_same a c cap cap' xs _ (hx.below hb0) (hy.below hb0) hlen).mono ?_
  rintro e w1 ⟨rfl, hb1⟩
  have hbb : Below w.heap.size w w1 := hb0.trans (hb1.mono hb0.size)
  obtain ⟨hc, hz⟩ := bcell hb1
  clear hx hy hb1 hb0
  go_wp2
  go_ret
  exact ⟨rfl, hbb⟩
end Go.Proofs.YtgmfjninimebmaaGreatDoor
