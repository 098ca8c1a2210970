import Derived.Test.YtphikgobdfknkaaGreatDoorWkA
namespace Go.Proofs.YtphikgobdfknkaaGreatDoor
open Go.RowKit
set_option linter.unusedVariables false
set_option linter.unusedSimpArgs false

/-- A good name. -/
def nmOk (n : ByteArray) : Bool := decide (1 ≤ n.size) && decide (n.size ≤ 120)

theorem l1NameOk_any (n : ByteArray) (w : World) (h : n.size ≤ maxLen) : Calls Tryz.prog 23 #[.string n] w fun e w' => e = .returned (.bool (nmOk n)) ∧ w' = w := by
  unfold maxLen at h
  by_cases h1 : 1 ≤ n.size
  · have h1' : (1 : Int) ≤ (n.size : Int) := by omega
    by_cases h2 : n.size ≤ 120
    · have h2' : (n.size : Int) ≤ 120 := by omega
      go_enter Tryz.func23, Tryz.ntmps23
      go_wp2
      go_ret
      exact ⟨ret_bool (by simp [nmOk, h1, h2]), rfl⟩
    · have h2' : ¬ (n.size : Int) ≤ 120 := by omega
      go_enter Tryz.func23, Tryz.ntmps23
      go_wp2
      go_ret
      exact ⟨ret_bool (by simp [nmOk, h1, h2]), rfl⟩
  · have h1' : ¬ (1 : Int) ≤ (n.size : Int) := by omega
    go_enter Tryz.func23, Tryz.ntmps23
    go_wp2
    go_ret
    exact ⟨ret_bool (by simp [nmOk, h1]), rfl⟩

theorem goodFileName_any (n : ByteArray) (w : World) (h : n.size ≤ maxLen) : Calls Tryz.prog 51 #[.string n] w fun e w' => e = .returned (.bool (nmOk n)) ∧ w' = w := by
  unfold maxLen at h
  by_cases h1 : 1 ≤ n.size
  · have h1' : (1 : Int) ≤ (n.size : Int) := by omega
    by_cases h2 : n.size ≤ 120
    · have h2' : (n.size : Int) ≤ 120 := by omega
      go_enter Tryz.func51, Tryz.ntmps51
      go_wp2
      go_ret
      exact ⟨ret_bool (by simp [nmOk, h1, h2]), rfl⟩
    · have h2' : ¬ (n.size : Int) ≤ 120 := by omega
      go_enter Tryz.func51, Tryz.ntmps51
      go_wp2
      go_ret
      exact ⟨ret_bool (by simp [nmOk, h1, h2]), rfl⟩
  · have h1' : ¬ (1 : Int) ≤ (n.size : Int) := by omega
    go_enter Tryz.func51, Tryz.ntmps51
    go_wp2
    go_ret
    exact ⟨ret_bool (by simp [nmOk, h1]), rfl⟩

set_option maxHeartbeats 400000 in
theorem l1Total_any (a : Option Addr) (cap : Nat) (xs : List Fl) (q fu : Int) (w : World) (hx : Lie w a xs) (hlen : xs.length ≤ 1048576) (hd : datas xs ≤ 1048576) :
    Calls Tryz.prog 25 #[.agg #[.slice a xs.length cap, .int .i64 q, .int .i64 fu]] w fun e w' => e = .returned (.int .i64 (datas xs)) ∧ Below w.heap.size w w' := by
  have hb0 : Below w.heap.size w (w.alloc (.cells #[.slice a xs.length cap, .int .i64 q, .int .i64 fu] 29)) := (Below.refl _ _).alloc (Nat.le_refl _) _
  go_enter Tryz.func25, Tryz.ntmps25
  go_wp2
  go_loop [3, 4] (fun t i => ∃ k : Nat, k ≤ xs.length ∧ i = .int .i64 k ∧ t = .int .i64 (datas (xs.take k))) (fun _ i => xs.length - (intOf i).toNat)
  case atStart => exact ⟨0, Nat.zero_le _, rfl, by simp [datas]⟩
  case round =>
    obtain ⟨k, hk, rfl, rfl⟩ := hrel
    by_cases hlt : k < xs.length
    · obtain ⟨b, off, rfl, hbl, c0, c1, c2⟩ := hx.at hlt
      have HS : Hid (datas (xs.take (k + 1)) = datas (xs.take k) + (xs.getD k fl0).dt.size) := datas_snoc xs k hlt
      have hle := datas_take_le xs (k + 1)
      rw [HS.out] at hle
      generalize xs.getD k fl0 = f at *
      go_wp2
      exact ⟨⟨k + 1, by omega, by go_num, by rw [HS.out]; go_num⟩, by simp [intOf]; omega⟩
    · obtain rfl : k = xs.length := by omega
      rw [List.take_length]
      go_wp2
      go_ret
      exact ⟨rfl, hb0⟩

theorem less_at : ∀ (k : Nat) (a b : List UInt8), (∀ j, j < k → a[j]? = b[j]?) → ∀ (ha : k < a.length) (hb : k < b.length), a[k] ≠ b[k] → Op.bytesLess a b = decide (a[k] < b[k])
  | 0, x :: a, y :: b, _, _, _, hne => by
    have hxy : x ≠ y := hne
    simp [Op.bytesLess, hxy]
  | k + 1, x :: a, y :: b, h, ha, hb, hne => by
    have h0 := h 0 (Nat.succ_pos _)
    simp at h0
    subst h0
    have hlt : ¬ x < x := by simp
    simp [Op.bytesLess, hlt]
    exact less_at k a b (fun j hj => by simpa using h (j + 1) (by omega)) (by simpa using ha) (by simpa using hb) (by simpa using hne)

theorem less_end : ∀ (a b : List UInt8), (∀ j, j < a.length → j < b.length → a[j]? = b[j]?) → Op.bytesLess a b = decide (a.length < b.length)
  | [], [], _ => by simp [Op.bytesLess]
  | [], y :: b, _ => by simp [Op.bytesLess]
  | x :: a, [], _ => by simp [Op.bytesLess]
  | x :: a, y :: b, h => by
    have h0 := h 0 (by simp) (by simp)
    simp at h0
    subst h0
    have hlt : ¬ x < x := by simp
    simp [Op.bytesLess, hlt]
    rw [less_end a b (fun j h1 h2 => by simpa using h (j + 1) (by simpa using h1) (by simpa using h2))]

/-- The order of texts. -/
def lessB (a b : ByteArray) : Bool := Op.bytesLess a.toList b.toList

theorem lessB_at (a b : ByteArray) (k : Nat) (h : ∀ j, j < k → a.data.toList[j]? = b.data.toList[j]?) (ha : k < a.size) (hb : k < b.size) (hne : a[k] ≠ b[k]) : lessB a b = decide (a[k] < b[k]) := by
  unfold lessB
  rw [ByteArray.toList_eq, ByteArray.toList_eq]
  exact less_at k a.data.toList b.data.toList h (by simpa using ha) (by simpa using hb) hne

theorem lessB_end (a b : ByteArray) (h : ∀ j, j < a.size → j < b.size → a.data.toList[j]? = b.data.toList[j]?) : lessB a b = decide (a.size < b.size) := by
  unfold lessB
  rw [ByteArray.toList_eq, ByteArray.toList_eq, less_end a.data.toList b.data.toList (fun j h1 h2 => h j (by simpa using h1) (by simpa using h2))]
  simp

set_option maxHeartbeats 400000 in
theorem l1Less_any (a b : ByteArray) (w : World) (ha : a.size ≤ maxLen) (hb : b.size ≤ maxLen) :
    Calls Tryz.prog 24 #[.string a, .string b] w fun e w' => e = .returned (.bool (lessB a b)) ∧ ∃ n, w' = w.drewN n := by
  unfold maxLen at ha hb
  go_enter Tryz.func24, Tryz.ntmps24
  go_wp2
  go_loopw [5] (fun i wr => ∃ k : Nat, k ≤ a.size ∧ k ≤ b.size ∧ i = .int .i64 k ∧ (∀ j, j < k → a.data.toList[j]? = b.data.toList[j]?) ∧ ∃ n, wr = w.drewN n) (fun i _ => a.size - (intOf i).toNat)
  case atStart => exact ⟨0, Nat.zero_le _, Nat.zero_le _, rfl, fun j hj => absurd hj (Nat.not_lt_zero _), 0, rfl⟩
  case round =>
    obtain ⟨k, hka, hkb, rfl, heq, n, rfl⟩ := hrel
    have HQ : Hid (∀ j, j < k → a.data.toList[j]? = b.data.toList[j]?) := heq
    clear heq
    by_cases h1 : k < a.size
    · by_cases h2 : k < b.size
      · have i1 : (k : Int) < (a.size : Int) := by omega
        have i2 : (k : Int) < (b.size : Int) := by omega
        by_cases hc : a[k] = b[k]
        · have hcb : ((a[k].toNat : Int) != (b[k].toNat : Int)) = false := by simp [hc]
          have HQ' : Hid (∀ j, j < k + 1 → a.data.toList[j]? = b.data.toList[j]?) := by
            intro j hj
            by_cases hjk : j < k
            · exact HQ.out j hjk
            · obtain rfl : j = k := by omega
              have e1 : a.data.toList[j]? = some a[j] := by simp [ByteArray.getElem_eq_getElem_data]
              have e2 : b.data.toList[j]? = some b[j] := by simp [ByteArray.getElem_eq_getElem_data]
              rw [e1, e2, hc]
          clear hc
          go_wp2_with fail
          go_quiet (fail)
          go_wp2_with fail
          exact ⟨⟨k + 1, by omega, by omega, by go_num, HQ'.out, _, rfl⟩, by simp [intOf]; omega⟩
        · have hne : a[k].toNat ≠ b[k].toNat := fun h => hc (UInt8.toNat_inj.1 h)
          have hcb : ((a[k].toNat : Int) != (b[k].toNat : Int)) = true := by simp; omega
          have HL : Hid (lessB a b = decide (a[k].toNat < b[k].toNat)) := by
            show _ = _
            rw [lessB_at a b k HQ.out h1 h2 hc]
            simp only [UInt8.lt_iff_toNat_lt]
          clear hc hne
          go_wp2_with fail
          go_quiet (fail)
          go_wp2_with fail
          go_quiet (fail)
          go_wp2_with fail
          go_ret
          exact ⟨ret_bool HL.out.symm, _, by rw [World.drewN_drewN, World.drewN_drewN]⟩
      · have i1 : (k : Int) < (a.size : Int) := by omega
        have i2 : ¬ (k : Int) < (b.size : Int) := by omega
        have HL : Hid (lessB a b = decide (a.size < b.size)) := by
          show _ = _
          rw [lessB_end a b (fun j _ hj => HQ.out j (by omega))]
        go_wp2_with fail
        go_ret
        exact ⟨ret_bool HL.out.symm, _, rfl⟩
    · have i1 : ¬ (k : Int) < (a.size : Int) := by omega
      have HL : Hid (lessB a b = decide (a.size < b.size)) := by
        show _ = _
        rw [lessB_end a b (fun j hj _ => HQ.out j (by omega))]
      go_wp2_with fail
      go_ret
      exact ⟨ret_bool HL.out.symm, _, rfl⟩
end Go.Proofs.YtphikgobdfknkaaGreatDoor
namespace Go.Proofs.YtphikgobdfknkaaGreatDoor
open Go.RowKit
set_option linter.unusedVariables false
set_option linter.unusedSimpArgs false

/-- Is file k of the list in order: a good name, greater than the one before, as much synced as there is at most. -/
def okAt (xs : List Fl) (k : Nat) : Bool :=
  nmOk (xs.getD k fl0).nm && (decide (0 ≤ (xs.getD k fl0).sy) && decide ((xs.getD k fl0).sy ≤ (xs.getD k fl0).dt.size)) &&
    (k == 0 || lessB (xs.getD (k - 1) fl0).nm (xs.getD k fl0).nm)

/-- Is the head in order. -/
def hdOk (n : Nat) (q fu : Int) : Bool := decide (n ≤ 200) && decide (0 ≤ q) && decide (q ≤ 1048576) && decide (-1 ≤ fu)

/-- Is the directory valid. -/
def vldB (xs : List Fl) (q fu : Int) : Bool :=
  hdOk xs.length q fu && (List.range xs.length).all (okAt xs) && decide (datas xs ≤ 1048576)

theorem all_to {p : Nat → Bool} {n k : Nat} (h : ∀ j, j < k → p j = true) (hk : k < n) (hb : p k = false) : (List.range n).all p = false := by
  rw [List.all_eq_false]
  exact ⟨k, by simpa using hk, by simp [hb]⟩
theorem all_full {p : Nat → Bool} {n : Nat} (h : ∀ j, j < n → p j = true) : (List.range n).all p = true := by
  rw [List.all_eq_true]
  intro j hj
  exact h j (by simpa using hj)

theorem Below.drewN {B : Nat} {a w : World} (h : Below B a w) (n : Nat) : Below B a (w.drewN n) := h.trans ⟨rfl, rfl, rfl, Nat.le_refl _, fun _ _ => rfl⟩

set_option maxHeartbeats 1000000 in
/-- The head is not in order. -/
theorem specValid_head (a : Option Addr) (cap : Nat) (xs : List Fl) (q fu : Int) (w : World) (hlen : xs.length ≤ 1048576) (hh : hdOk xs.length q fu = false) :
    Calls Tryz.prog 10 #[.agg #[.slice a xs.length cap, .int .i64 q, .int .i64 fu]] w fun e w' => e = .returned (.bool false) ∧ Below w.heap.size w w' := by
  by_cases h1 : xs.length ≤ 200
  · have i1 : ¬ (200 : Int) < (xs.length : Int) := by omega
    by_cases h2 : q < 0
    · go_enter Tryz.func10, Tryz.ntmps10
      go_wp2
      go_ret
      exact ⟨rfl, (Below.refl _ _).alloc (Nat.le_refl _) _⟩
    · by_cases h3 : 1048576 < q
      · go_enter Tryz.func10, Tryz.ntmps10
        go_wp2
        go_ret
        exact ⟨rfl, (Below.refl _ _).alloc (Nat.le_refl _) _⟩
      · have h4 : fu < -1 := by
          simp [hdOk] at hh
          have := hh h1 (by omega) (by omega)
          omega
        clear hh
        go_enter Tryz.func10, Tryz.ntmps10
        go_wp2
        go_ret
        exact ⟨rfl, (Below.refl _ _).alloc (Nat.le_refl _) _⟩
  · have i1 : (200 : Int) < (xs.length : Int) := by omega
    go_enter Tryz.func10, Tryz.ntmps10
    go_wp2
    go_ret
    exact ⟨rfl, (Below.refl _ _).alloc (Nat.le_refl _) _⟩

set_option maxHeartbeats 1000000 in
theorem specValid_body (a : Option Addr) (cap : Nat) (xs : List Fl) (q fu : Int) (w : World) (hx : Lie w a xs) (hf : Fits xs) (hlen : xs.length ≤ 1048576) (hd : datas xs ≤ 1048576) (hh : hdOk xs.length q fu = true) :
    Calls Tryz.prog 10 #[.agg #[.slice a xs.length cap, .int .i64 q, .int .i64 fu]] w fun e w' => e = .returned (.bool (vldB xs q fu)) ∧ Below w.heap.size w w' := by
  have HV : Hid (vldB xs q fu = (List.range xs.length).all (okAt xs)) := by show _ = _; simp [vldB, hh, hd]
  simp [hdOk] at hh
  obtain ⟨⟨⟨h1, h2⟩, h3⟩, h4⟩ := hh
  have i1 : ¬ (200 : Int) < (xs.length : Int) := by omega
  have i2 : ¬ q < 0 := by omega
  have i3 : ¬ 1048576 < q := by omega
  have i4 : ¬ fu < -1 := by omega
  have hb0 : Below w.heap.size w (w.alloc (.cells #[.slice a xs.length cap, .int .i64 q, .int .i64 fu] 29)) := (Below.refl _ _).alloc (Nat.le_refl _) _
  go_enter Tryz.func10, Tryz.ntmps10
  go_wp2
  go_loopw [3] (fun i wr => ∃ k : Nat, k ≤ xs.length ∧ i = .int .i64 k ∧ (∀ j, j < k → okAt xs j = true) ∧ Below (w.heap.size + 1) (w.alloc (.cells #[.slice a xs.length cap, .int .i64 q, .int .i64 fu] 29)) wr) (fun i _ => xs.length - (intOf i).toNat)
  case atStart => exact ⟨0, Nat.zero_le _, rfl, fun j hj => absurd hj (Nat.not_lt_zero _), Below.refl _ _⟩
  case round =>
    obtain ⟨k, hk, rfl, hall, hb⟩ := hrel
    have HA : Hid (∀ j, j < k → okAt xs j = true) := hall
    clear hall
    have hsz : w.heap.size < wr.heap.size := by have := hb.size; simp at this; omega
    have p0 : wr.cell? ⟨w.heap.size, 0, none⟩ = some (.slice a xs.length cap) := (hb.cell (p := ⟨w.heap.size, 0, none⟩) (by simp)).trans (by simp)
    have p1 : wr.cell? ⟨w.heap.size, 1, none⟩ = some (.int .i64 q) := (hb.cell (p := ⟨w.heap.size, 1, none⟩) (by simp)).trans (by simp)
    have p2 : wr.cell? ⟨w.heap.size, 2, none⟩ = some (.int .i64 fu) := (hb.cell (p := ⟨w.heap.size, 2, none⟩) (by simp)).trans (by simp)
    have hbw : Below w.heap.size w wr := hb0.trans (hb.mono (by omega))
    have hxr := hx.below hbw
    by_cases hlt : k < xs.length
    · have hfk := hf.at hlt
      obtain ⟨b, off, rfl, hbl, c0, c1, c2⟩ := hxr.at hlt
      have HK : Hid (okAt xs k = (nmOk (xs.getD k fl0).nm && (decide (0 ≤ (xs.getD k fl0).sy) && decide ((xs.getD k fl0).sy ≤ (xs.getD k fl0).dt.size)) && (k == 0 || lessB (xs.getD (k - 1) fl0).nm (xs.getD k fl0).nm))) := rfl
      have hst : ∀ o, Below (w.heap.size + 1) (w.alloc (.cells #[.slice (some ⟨b, off, none⟩) xs.length cap, .int .i64 q, .int .i64 fu] 29)) (wr.alloc o) := fun o => hb.alloc (by omega) o
      have hstw : ∀ o, Below w.heap.size w (wr.alloc o) := fun o => hbw.alloc (by omega) o
      have hpr : 0 < k → (xs.getD (k - 1) fl0).nm.size ≤ maxLen ∧ wr.cell? ⟨b, off + (k - 1) * 3, none⟩ = some (.string (xs.getD (k - 1) fl0).nm) := fun h0 => by
        obtain ⟨b', off', e', _, d0, _, _⟩ := hxr.at (show k - 1 < xs.length by omega)
        simp only [Option.some.injEq, Addr.mk.injEq, and_true] at e'
        obtain ⟨rfl, rfl⟩ := e'
        exact ⟨(hf.at (show k - 1 < xs.length by omega)).1, d0⟩
      generalize xs.getD (k - 1) fl0 = f' at *
      generalize xs.getD k fl0 = f at *
      have HVF : okAt xs k = false → Hid (vldB xs q fu = false) := fun h => by show _ = _; rw [HV.out]; exact all_to HA.out hlt h
      have HAS : okAt xs k = true → Hid (∀ j, j < k + 1 → okAt xs j = true) := fun h j hj => by
        by_cases e : j = k
        · rw [e]; exact h
        · exact HA.out j (by omega)
      cases hn : nmOk f.nm with
      | false =>
        have hV := HVF (by rw [HK.out, hn]; rfl)
        clear HVF HAS hpr
        go_wp2_with (go_at_call 23; refine (l1NameOk_any f.nm _ hfk.1).mono ?_; rintro e w' ⟨rfl, rfl⟩)
        go_ret
        exact ⟨ret_bool hV.out.symm, hstw _⟩
      | true =>
        by_cases hs0 : f.sy < 0
        · have hV := HVF (by rw [HK.out]; simp; intro _ _ h; omega)
          clear HVF HAS hpr
          go_wp2_with (go_at_call 23; refine (l1NameOk_any f.nm _ hfk.1).mono ?_; rintro e w' ⟨rfl, rfl⟩)
          go_ret
          exact ⟨ret_bool hV.out.symm, hstw _⟩
        · by_cases hs1 : (f.dt.size : Int) < f.sy
          · have hV := HVF (by rw [HK.out]; simp; intro _ _ h; omega)
            clear HVF HAS hpr
            go_wp2_with (go_at_call 23; refine (l1NameOk_any f.nm _ hfk.1).mono ?_; rintro e w' ⟨rfl, rfl⟩)
            go_ret
            exact ⟨ret_bool hV.out.symm, hstw _⟩
          · by_cases hk0 : k = 0
            · have hA := HAS (by rw [HK.out, hn]; simp [hk0]; omega)
              clear HVF HAS hpr
              have g0 : decide ((0 : Int) < (k : Int)) = false := by simp; omega
              have g1 : decide (0 < k) = false := by simp; omega
              clear hk0
              go_wp2_with (go_at_call 23; refine (l1NameOk_any f.nm _ hfk.1).mono ?_; rintro e w' ⟨rfl, rfl⟩)
              go_quiet (fail)
              go_wp2
              exact ⟨⟨k + 1, by omega, by go_num, hA.out, Below.drewN (hst _) _⟩, by simp [intOf]; omega⟩
            · obtain ⟨hs', d0⟩ := hpr (by omega)
              have g0 : (0 : Int) < (k : Int) := by omega
              have g1 : 0 < k := by omega
              cases hl : lessB f'.nm f.nm with
              | false =>
                have hV := HVF (by rw [HK.out, hl]; simp [hk0])
                clear HVF HAS hpr
                go_wp2_with (go_at_call 23; refine (l1NameOk_any f.nm _ hfk.1).mono ?_; rintro e w' ⟨rfl, rfl⟩)
                go_quiet ((go_at_call 24; exact Calls.quiet_of (l1Less_any f'.nm f.nm _ hs' hfk.1)))
                go_wp2
                go_ret
                exact ⟨ret_bool hV.out.symm, Below.drewN (hstw _) _⟩
              | true =>
                have hA := HAS (by rw [HK.out, hn, hl]; simp; omega)
                clear HVF HAS hpr
                go_wp2_with (go_at_call 23; refine (l1NameOk_any f.nm _ hfk.1).mono ?_; rintro e w' ⟨rfl, rfl⟩)
                go_quiet ((go_at_call 24; exact Calls.quiet_of (l1Less_any f'.nm f.nm _ hs' hfk.1)))
                go_wp2
                exact ⟨⟨k + 1, by omega, by go_num, hA.out, Below.drewN (hst _) _⟩, by simp [intOf]; omega⟩
    · obtain rfl : k = xs.length := by omega
      have hV : Hid (vldB xs q fu = true) := by show _ = _; rw [HV.out]; exact all_full HA.out
      have hd' : (datas xs : Int) ≤ 1048576 := by omega
      go_wp2_with fail
      refine (l1Total_any a cap xs q fu _ hxr hlen hd).mono ?_
      rintro e w1 ⟨rfl, hb1⟩
      go_wp2
      go_ret
      exact ⟨ret_bool (by rw [hV.out]), hbw.trans (hb1.mono hbw.size)⟩

theorem specValid_any (a : Option Addr) (cap : Nat) (xs : List Fl) (q fu : Int) (w : World) (hx : Lie w a xs) (hf : Fits xs) (hlen : xs.length ≤ 1048576) (hd : datas xs ≤ 1048576) :
    Calls Tryz.prog 10 #[.agg #[.slice a xs.length cap, .int .i64 q, .int .i64 fu]] w fun e w' => e = .returned (.bool (vldB xs q fu)) ∧ Below w.heap.size w w' := by
  cases hh : hdOk xs.length q fu with
  | true => exact specValid_body a cap xs q fu w hx hf hlen hd hh
  | false => have : vldB xs q fu = false := by simp [vldB, hh]
             rw [this]
             exact specValid_head a cap xs q fu w hlen hh
end Go.Proofs.YtphikgobdfknkaaGreatDoor
