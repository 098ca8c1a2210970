import Derived.Test.YtgennghhneckeaaWkA

namespace Go.Proofs.Ytgennghhneckeaa
open Go.RowKit
set_option linter.unusedVariables false
set_option linter.unusedSimpArgs false

/-- A good name. -/
def nmOk (n : ByteArray) : Bool := decide (1 ≤ n.size) && decide (n.size ≤ 120)

theorem l1NameOk_any (n : ByteArray) (w : World) (h : n.size ≤ maxLen) : Calls Try.prog 17 #[.string n] w fun e w' => e = .returned (.bool (nmOk n)) ∧ w' = w := by
  unfold maxLen at h
  by_cases h1 : 1 ≤ n.size
  · have h1' : (1 : Int) ≤ (n.size : Int) := by omega
    by_cases h2 : n.size ≤ 120
    · have h2' : (n.size : Int) ≤ 120 := by omega
      go_enter Try.func17, Try.ntmps17
      go_wp2
      go_ret
      exact ⟨ret_bool (by simp [nmOk, h1, h2]), rfl⟩
    · have h2' : ¬ (n.size : Int) ≤ 120 := by omega
      go_enter Try.func17, Try.ntmps17
      go_wp2
      go_ret
      exact ⟨ret_bool (by simp [nmOk, h1, h2]), rfl⟩
  · have h1' : ¬ (1 : Int) ≤ (n.size : Int) := by omega
    go_enter Try.func17, Try.ntmps17
    go_wp2
    go_ret
    exact ⟨ret_bool (by simp [nmOk, h1]), rfl⟩

theorem goodFileName_any (n : ByteArray) (w : World) (h : n.size ≤ maxLen) : Calls Try.prog 60 #[.string n] w fun e w' => e = .returned (.bool (nmOk n)) ∧ w' = w := by
  unfold maxLen at h
  by_cases h1 : 1 ≤ n.size
  · have h1' : (1 : Int) ≤ (n.size : Int) := by omega
    by_cases h2 : n.size ≤ 120
    · have h2' : (n.size : Int) ≤ 120 := by omega
      go_enter Try.func60, Try.ntmps60
      go_wp2
      go_ret
      exact ⟨ret_bool (by simp [nmOk, h1, h2]), rfl⟩
    · have h2' : ¬ (n.size : Int) ≤ 120 := by omega
      go_enter Try.func60, Try.ntmps60
      go_wp2
      go_ret
      exact ⟨ret_bool (by simp [nmOk, h1, h2]), rfl⟩
  · have h1' : ¬ (1 : Int) ≤ (n.size : Int) := by omega
    go_enter Try.func60, Try.ntmps60
    go_wp2
    go_ret
    exact ⟨ret_bool (by simp [nmOk, h1]), rfl⟩

set_option maxHeartbeats 400000 in
theorem l1Total_any (a : Option Addr) (cap : Nat) (xs : List Fl) (q fu : Int) (w : World) (hx : Lie w a xs) (hlen : xs.length ≤ 1048576) (hd : datas xs ≤ 1048576) :
    Calls Try.prog 19 #[.agg #[.slice a xs.length cap, .int .i64 q, .int .i64 fu]] w fun e w' => e = .returned (.int .i64 (datas xs)) ∧ Below w.heap.size w w' := by
  have hb0 : Below w.heap.size w (w.alloc (.cells #[.slice a xs.length cap, .int .i64 q, .int .i64 fu] 25)) := (Below.refl _ _).alloc (Nat.le_refl _) _
  go_enter Try.func19, Try.ntmps19
  go_wp2
  go_loop [3, 4] (fun t i => ∃ k : Nat, k ≤ xs.length ∧ i = .int .i64 k ∧ t = .int .i64 (datas (xs.take k))) (fun _ i => xs.length - (intOf i).toNat)
  case atStart => exact ⟨0, Nat.zero_le _, rfl, by simp [datas]⟩
  case round =>
    obtain ⟨k, hk, rfl, rfl⟩ := hrel
    by_cases hlt : k < xs.length
    · obtain ⟨b, off, rfl, hbl, c0, c1, c2⟩ := hx.at hlt
      have HS : Hid (datas (xs.take (k + 1)) = datas (xs.take k) + (xs.getD k fl0).dt.size) := datas_snoc xs k hlt
      have hle := datas_take_le xs (k + 1)
      rw [HS.out] at hle
      generalize xs.getD k fl0 = f at *
      go_wp2
      exact ⟨⟨k + 1, by omega, by go_num, by rw [HS.out]; go_num⟩, by simp [intOf]; omega⟩
    · obtain rfl : k = xs.length := by omega
      rw [List.take_length]
      go_wp2
      go_ret
      exact ⟨rfl, hb0⟩

theorem less_at : ∀ (k : Nat) (a b : List UInt8), (∀ j, j < k → a[j]? = b[j]?) → ∀ (ha : k < a.length) (hb : k < b.length), a[k] ≠ b[k] → Op.bytesLess a b = decide (a[k] < b[k])
  | 0, x :: a, y :: b, _, _, _, hne => by
    have hxy : x ≠ y := hne
    simp [Op.bytesLess, hxy]
  | k + 1, x :: a, y :: b, h, ha, hb, hne => by
    have h0 := h 0 (Nat.succ_pos _)
    simp at h0
    subst h0
    have hlt : ¬ x < x := by simp
    simp [Op.bytesLess, hlt]
    exact less_at k a b (fun j hj => by simpa using h (j + 1) (by omega)) (by simpa using ha) (by simpa using hb) (by simpa using hne)

theorem less_end : ∀ (a b : List UInt8), (∀ j, j < a.length → j < b.length → a[j]? = b[j]?) → Op.bytesLess a b = decide (a.length < b.length)
  | [], [], _ => by simp [Op.bytesLess]
  | [], y :: b, _ => by simp [Op.bytesLess]
  | x :: a, [], _ => by simp [Op.bytesLess]
  | x :: a, y :: b, h => by
    have h0 := h 0 (by simp) (by simp)
    simp at h0
    subst h0
    have hlt : ¬ x < x := by simp
    simp [Op.bytesLess, hlt]
    rw [less_end a b (fun j h1 h2 => by simpa using h (j + 1) (by simpa using h1) (by simpa using h2))]

/-- The order of texts. -/
def lessB (a b : ByteArray) : Bool := Op.bytesLess a.toList b.toList

theorem lessB_at (a b : ByteArray) (k : Nat) (h : ∀ j, j < k → a.data.toList[j]? = b.data.toList[j]?) (ha : k < a.size) (hb : k < b.size) (hne : a[k] ≠ b[k]) : lessB a b = decide (a[k] < b[k]) := by
  unfold lessB
  rw [ByteArray.toList_eq, ByteArray.toList_eq]
  exact less_at k a.data.toList b.data.toList h (by simpa using ha) (by simpa using hb) hne

theorem lessB_end (a b : ByteArray) (h : ∀ j, j < a.size → j < b.size → a.data.toList[j]? = b.data.toList[j]?) : lessB a b = decide (a.size < b.size) := by
  unfold lessB
  rw [ByteArray.toList_eq, ByteArray.toList_eq, less_end a.data.toList b.data.toList (fun j h1 h2 => h j (by simpa using h1) (by simpa using h2))]
  simp

set_option maxHeartbeats 400000 in
theorem l1Less_any (a b : ByteArray) (w : World) (ha : a.size ≤ maxLen) (hb : b.size ≤ maxLen) :
    Calls Try.prog 18 #[.string a, .string b] w fun e w' => e = .returned (.bool (lessB a b)) ∧ ∃ n, w' = w.drewN n := by
  unfold maxLen at ha hb
  go_enter Try.func18, Try.ntmps18
  go_wp2
  go_loopw [5] (fun i wr => ∃ k : Nat, k ≤ a.size ∧ k ≤ b.size ∧ i = .int .i64 k ∧ (∀ j, j < k → a.data.toList[j]? = b.data.toList[j]?) ∧ ∃ n, wr = w.drewN n) (fun i _ => a.size - (intOf i).toNat)
  case atStart => exact ⟨0, Nat.zero_le _, Nat.zero_le _, rfl, fun j hj => absurd hj (Nat.not_lt_zero _), 0, rfl⟩
  case round =>
    obtain ⟨k, hka, hkb, rfl, heq, n, rfl⟩ := hrel
    have HQ : Hid (∀ j, j < k → a.data.toList[j]? = b.data.toList[j]?) := heq
    clear heq
    by_cases h1 : k < a.size
    · by_cases h2 : k < b.size
      · have i1 : (k : Int) < (a.size : Int) := by omega
        have i2 : (k : Int) < (b.size : Int) := by omega
        by_cases hc : a[k] = b[k]
        · have hcb : ((a[k].toNat : Int) != (b[k].toNat : Int)) = false := by simp [hc]
          have HQ' : Hid (∀ j, j < k + 1 → a.data.toList[j]? = b.data.toList[j]?) := by
            intro j hj
            by_cases hjk : j < k
            · exact HQ.out j hjk
            · obtain rfl : j = k := by omega
              have e1 : a.data.toList[j]? = some a[j] := by simp [ByteArray.getElem_eq_getElem_data]
              have e2 : b.data.toList[j]? = some b[j] := by simp [ByteArray.getElem_eq_getElem_data]
              rw [e1, e2, hc]
          clear hc
          go_wp2_with fail
          go_quiet (fail)
          go_wp2_with fail
          exact ⟨⟨k + 1, by omega, by omega, by go_num, HQ'.out, _, rfl⟩, by simp [intOf]; omega⟩
        · have hne : a[k].toNat ≠ b[k].toNat := fun h => hc (UInt8.toNat_inj.1 h)
          have hcb : ((a[k].toNat : Int) != (b[k].toNat : Int)) = true := by simp; omega
          have HL : Hid (lessB a b = decide (a[k].toNat < b[k].toNat)) := by
            show _ = _
            rw [lessB_at a b k HQ.out h1 h2 hc]
            simp only [UInt8.lt_iff_toNat_lt]
          clear hc hne
          go_wp2_with fail
          go_quiet (fail)
          go_wp2_with fail
          go_quiet (fail)
          go_wp2_with fail
          go_ret
          exact ⟨ret_bool HL.out.symm, _, by rw [World.drewN_drewN, World.drewN_drewN]⟩
      · have i1 : (k : Int) < (a.size : Int) := by omega
        have i2 : ¬ (k : Int) < (b.size : Int) := by omega
        have HL : Hid (lessB a b = decide (a.size < b.size)) := by
          show _ = _
          rw [lessB_end a b (fun j _ hj => HQ.out j (by omega))]
        go_wp2_with fail
        go_ret
        exact ⟨ret_bool HL.out.symm, _, rfl⟩
    · have i1 : ¬ (k : Int) < (a.size : Int) := by omega
      have HL : Hid (lessB a b = decide (a.size < b.size)) := by
        show _ = _
        rw [lessB_end a b (fun j hj _ => HQ.out j (by omega))]
      go_wp2_with fail
      go_ret
      exact ⟨ret_bool HL.out.symm, _, rfl⟩
end Go.Proofs.Ytgennghhneckeaa
