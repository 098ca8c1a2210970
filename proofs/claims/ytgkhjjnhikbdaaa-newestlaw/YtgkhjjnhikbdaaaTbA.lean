import Derived.Test.YtgkhjjnhikbdaaaPsR

namespace Go.Proofs.Ytgkhjjnhikbdaaa
open Go.RowKit Go.Maps
set_option linter.unusedVariables false
set_option linter.unusedSimpArgs false

theorem ret_bool {a b : Bool} (h : a = b) : Ending.returned (.bool a) = .returned (.bool b) := by rw [h]
theorem less_at : ∀ (k : Nat) (a b : List UInt8), (∀ j, j < k → a[j]? = b[j]?) → ∀ (ha : k < a.length) (hb : k < b.length), a[k] ≠ b[k] → Op.bytesLess a b = decide (a[k] < b[k])
  | 0, x :: a, y :: b, _, _, _, hne => by
    have hxy : x ≠ y := hne
    simp [Op.bytesLess, hxy]
  | k + 1, x :: a, y :: b, h, ha, hb, hne => by
    have h0 := h 0 (Nat.succ_pos _)
    simp at h0
    subst h0
    have hlt : ¬ x < x := by simp
    simp [Op.bytesLess, hlt]
    exact less_at k a b (fun j hj => by simpa using h (j + 1) (by omega)) (by simpa using ha) (by simpa using hb) (by simpa using hne)

theorem less_end : ∀ (a b : List UInt8), (∀ j, j < a.length → j < b.length → a[j]? = b[j]?) → Op.bytesLess a b = decide (a.length < b.length)
  | [], [], _ => by simp [Op.bytesLess]
  | [], y :: b, _ => by simp [Op.bytesLess]
  | x :: a, [], _ => by simp [Op.bytesLess]
  | x :: a, y :: b, h => by
    have h0 := h 0 (by simp) (by simp)
    simp at h0
    subst h0
    have hlt : ¬ x < x := by simp
    simp [Op.bytesLess, hlt]
    rw [less_end a b (fun j h1 h2 => by simpa using h (j + 1) (by simpa using h1) (by simpa using h2))]

/-- The order of texts. -/
def lessB (a b : ByteArray) : Bool := Op.bytesLess a.toList b.toList

theorem lessB_at (a b : ByteArray) (k : Nat) (h : ∀ j, j < k → a.data.toList[j]? = b.data.toList[j]?) (ha : k < a.size) (hb : k < b.size) (hne : a[k] ≠ b[k]) : lessB a b = decide (a[k] < b[k]) := by
  unfold lessB
  rw [ByteArray.toList_eq, ByteArray.toList_eq]
  exact less_at k a.data.toList b.data.toList h (by simpa using ha) (by simpa using hb) hne

theorem lessB_end (a b : ByteArray) (h : ∀ j, j < a.size → j < b.size → a.data.toList[j]? = b.data.toList[j]?) : lessB a b = decide (a.size < b.size) := by
  unfold lessB
  rw [ByteArray.toList_eq, ByteArray.toList_eq, less_end a.data.toList b.data.toList (fun j h1 h2 => h j (by simpa using h1) (by simpa using h2))]
  simp

set_option maxHeartbeats 400000 in
theorem l1Less_any (a b : ByteArray) (w : World) (ha : a.size ≤ maxLen) (hb : b.size ≤ maxLen) :
    Calls Try.prog 50 #[.string a, .string b] w fun e w' => e = .returned (.bool (lessB a b)) ∧ ∃ n, w' = w.drewN n := by
  unfold maxLen at ha hb
  go_enter Try.func50, Try.ntmps50
  go_wp2
  go_loopw [5] (fun i wr => ∃ k : Nat, k ≤ a.size ∧ k ≤ b.size ∧ i = .int .i64 k ∧ (∀ j, j < k → a.data.toList[j]? = b.data.toList[j]?) ∧ ∃ n, wr = w.drewN n) (fun i _ => a.size - (intOf i).toNat)
  case atStart => exact ⟨0, Nat.zero_le _, Nat.zero_le _, rfl, fun j hj => absurd hj (Nat.not_lt_zero _), 0, rfl⟩
  case round =>
    obtain ⟨k, hka, hkb, rfl, heq, n, rfl⟩ := hrel
    have HQ : Hid (∀ j, j < k → a.data.toList[j]? = b.data.toList[j]?) := heq
    clear heq
    by_cases h1 : k < a.size
    · by_cases h2 : k < b.size
      · have i1 : (k : Int) < (a.size : Int) := by omega
        have i2 : (k : Int) < (b.size : Int) := by omega
        by_cases hc : a[k] = b[k]
        · have hcb : ((a[k].toNat : Int) != (b[k].toNat : Int)) = false := by simp [hc]
          have HQ' : Hid (∀ j, j < k + 1 → a.data.toList[j]? = b.data.toList[j]?) := by
            intro j hj
            by_cases hjk : j < k
            · exact HQ.out j hjk
            · obtain rfl : j = k := by omega
              have e1 : a.data.toList[j]? = some a[j] := by simp [ByteArray.getElem_eq_getElem_data]
              have e2 : b.data.toList[j]? = some b[j] := by simp [ByteArray.getElem_eq_getElem_data]
              rw [e1, e2, hc]
          clear hc
          go_wp2_with fail
          go_quiet (fail)
          go_wp2_with fail
          exact ⟨⟨k + 1, by omega, by omega, by go_num, HQ'.out, _, rfl⟩, by simp [intOf]; omega⟩
        · have hne : a[k].toNat ≠ b[k].toNat := fun h => hc (UInt8.toNat_inj.1 h)
          have hcb : ((a[k].toNat : Int) != (b[k].toNat : Int)) = true := by simp; omega
          have HL : Hid (lessB a b = decide (a[k].toNat < b[k].toNat)) := by
            show _ = _
            rw [lessB_at a b k HQ.out h1 h2 hc]
            simp only [UInt8.lt_iff_toNat_lt]
          clear hc hne
          go_wp2_with fail
          go_quiet (fail)
          go_wp2_with fail
          go_quiet (fail)
          go_wp2_with fail
          go_ret
          exact ⟨ret_bool HL.out.symm, _, by rw [World.drewN_drewN, World.drewN_drewN]⟩
      · have i1 : (k : Int) < (a.size : Int) := by omega
        have i2 : ¬ (k : Int) < (b.size : Int) := by omega
        have HL : Hid (lessB a b = decide (a.size < b.size)) := by
          show _ = _
          rw [lessB_end a b (fun j _ hj => HQ.out j (by omega))]
        go_wp2_with fail
        go_ret
        exact ⟨ret_bool HL.out.symm, _, rfl⟩
    · have i1 : ¬ (k : Int) < (a.size : Int) := by omega
      have HL : Hid (lessB a b = decide (a.size < b.size)) := by
        show _ = _
        rw [lessB_end a b (fun j hj _ => HQ.out j (by omega))]
      go_wp2_with fail
      go_ret
      exact ⟨ret_bool HL.out.symm, _, rfl⟩

/-- Whether an entry comes before another. -/
def befE (a b : En) : Bool := if a.ky = b.ky then decide (b.sq < a.sq) else lessB a.ky b.ky
set_option maxRecDepth 100000 in
set_option maxHeartbeats 1000000 in
theorem l3Before_any (a b : En) (w : World) (h1 : a.ky.size ≤ maxLen) (h2 : b.ky.size ≤ maxLen) :
    Calls Try.prog 43 #[a.agg, b.agg] w fun e w' => e = .returned (.bool (befE a b)) ∧ Below w.heap.size w w' := by
  have HL : Hid (∀ w, Calls Try.prog 50 #[.string a.ky, .string b.ky] w fun e w' => e = .returned (.bool (lessB a.ky b.ky)) ∧ ∃ n, w' = w.drewN n) := fun w => l1Less_any a.ky b.ky w h1 h2
  by_cases hk : a.ky = b.ky
  · have HB : Hid (befE a b = decide (b.sq < a.sq)) := by show _ = _; unfold befE; rw [if_pos hk]
    rw [HB.out]
    obtain ⟨k1, s1, d1, v1⟩ := a
    obtain ⟨k2, s2, d2, v2⟩ := b
    simp only at hk
    subst hk
    go_enter Try.func43, Try.ntmps43
    go_wp2_with fail
    go_ret
    exact ⟨rfl, ((Below.refl _ _).alloc (Nat.le_refl _) _).alloc (by simp) _⟩
  · have HB : Hid (befE a b = lessB a.ky b.ky) := by show _ = _; unfold befE; rw [if_neg hk]
    have hne : (!(a.ky.toList == b.ky.toList)) = true := by
      cases h : (a.ky.toList == b.ky.toList)
      · rfl
      · exact absurd (toList_eq' h) hk
    rw [HB.out]
    go_enter Try.func43, Try.ntmps43
    go_wp2_with fail
    refine (HL.out _).mono ?_
    rintro e w1 ⟨rfl, n, rfl⟩
    go_wp2_with fail
    go_ret
    exact ⟨rfl, ⟨rfl, rfl, rfl, by simp [World.drewN]; omega, fun k hk' => (((Below.refl w.heap.size w).alloc (Nat.le_refl _) _).alloc (by simp) _).block k hk'⟩⟩

/-- A text with its size in front. -/
def kyB (s : ByteArray) : List UInt8 := vb s.size ++ s.data.toList
/-- Whether a list is in order, each entry valid. -/
def okTo (xs : List En) : Nat → Bool
  | 0 => true
  | i + 1 => okTo xs i && (entOk (xs.getD i en0) && (decide (i = 0) || befE (xs.getD (i - 1) en0) (xs.getD i en0)))
theorem okTo_le {xs : List En} {i j : Nat} (h : okTo xs j = true) (hij : i ≤ j) : okTo xs i = true := by
  induction j with
  | zero => rw [show i = 0 by omega]; rfl
  | succ j ih =>
    by_cases he : i = j + 1
    · rw [he]; exact h
    · simp only [okTo, Bool.and_eq_true] at h
      exact ih h.1 (by omega)
end Go.Proofs.Ytgkhjjnhikbdaaa
