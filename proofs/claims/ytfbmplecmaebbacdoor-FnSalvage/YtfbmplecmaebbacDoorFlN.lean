
import Derived.Test.YtfbmplecmaebbacDoorFlM
namespace Go.Proofs.YtfbmplecmaebbacDoor
set_option linter.unusedVariables false
set_option linter.unusedSimpArgs false

theorem xor_cancel {a b c : Nat} (h : a ^^^ c = b ^^^ c) : a = b := by
  have := congrArg (· ^^^ c) h
  simpa [Nat.xor_assoc] using this
theorem bitS_inj {a b : Nat} (ha : a < 4294967296) (hb : b < 4294967296) (h : bitS a = bitS b) : a = b := by
  have ha2 : a / 2 < 2 ^ 31 := by omega
  have hb2 : b / 2 < 2 ^ 31 := by omega
  have key : ∀ x y : Nat, x < 2 ^ 31 → y < 2 ^ 31 → x ^^^ 2197175160 ≠ y := fun x y hx hy e => by
    have h1 : x ^^^ y < 2 ^ 31 := Nat.xor_lt_two_pow hx hy
    have h2 : x ^^^ y = 2197175160 := by rw [← e, ← Nat.xor_assoc, Nat.xor_self, Nat.zero_xor]
    omega
  unfold bitS at h
  by_cases h1 : a % 2 = 1
  · by_cases h2 : b % 2 = 1
    · rw [if_pos h1, if_pos h2] at h
      have := xor_cancel h
      omega
    · rw [if_pos h1, if_neg h2, Nat.xor_zero] at h
      exact absurd h (key _ _ ha2 hb2)
  · by_cases h2 : b % 2 = 1
    · rw [if_neg h1, if_pos h2, Nat.xor_zero] at h
      exact absurd h.symm (key _ _ hb2 ha2)
    · rw [if_neg h1, if_neg h2, Nat.xor_zero, Nat.xor_zero] at h
      omega
theorem bitN_inj : ∀ (k : Nat) {a b : Nat}, a < 4294967296 → b < 4294967296 → bitN k a = bitN k b → a = b := by
  intro k
  induction k with
  | zero => intro a b _ _ h; exact h
  | succ k ih => intro a b ha hb h; exact bitS_inj ha hb (ih (bitS_lt ha) (bitS_lt hb) h)
theorem byte_lt32 (x : UInt8) : x.toNat < 4294967296 := by have := x.toNat_lt; omega
theorem crcR_inj : ∀ (l : List UInt8) {a b : Nat}, a < 4294967296 → b < 4294967296 → crcR l a = crcR l b → a = b := by
  intro l
  induction l with
  | nil => intro a b _ _ h; exact h
  | cons x l ih =>
    intro a b ha hb h
    have e : ∀ r, crcR (x :: l) r = crcR l (bitN 8 (r ^^^ x.toNat)) := fun r => rfl
    rw [e, e] at h
    have h1 := ih (bitN_lt 8 (xor_lt ha (byte_lt32 x))) (bitN_lt 8 (xor_lt hb (byte_lt32 x))) h
    exact xor_cancel (bitN_inj 8 (xor_lt ha (byte_lt32 x)) (xor_lt hb (byte_lt32 x)) h1)
/-- One other byte gives another checksum. -/
theorem crc_ne (l1 l2 : List UInt8) {a b : UInt8} (h : a ≠ b) : crc (l1 ++ a :: l2) ≠ crc (l1 ++ b :: l2) := by
  intro e
  have e1 := xor_cancel e
  have e2 : ∀ c, crcR (l1 ++ c :: l2) 4294967295 = crcR l2 (bitN 8 (crcR l1 4294967295 ^^^ c.toNat)) := fun c => by simp [crcR]
  rw [e2, e2] at e1
  have hr := crcR_lt l1 (r := 4294967295) (by decide)
  have e3 := bitN_inj 8 (xor_lt hr (byte_lt32 a)) (xor_lt hr (byte_lt32 b)) (crcR_inj l2 (bitN_lt 8 (xor_lt hr (byte_lt32 a))) (bitN_lt 8 (xor_lt hr (byte_lt32 b))) e1)
  rw [Nat.xor_comm, Nat.xor_comm (crcR l1 4294967295)] at e3
  exact h (UInt8.toNat_inj.1 (xor_cancel e3))
theorem le4_inj {a b c d a' b' c' d' : UInt8} (h : le4 a b c d = le4 a' b' c' d') : a = a' ∧ b = b' ∧ c = c' ∧ d = d' := by
  have := congrArg four h
  rw [four_le4, four_le4] at this
  simpa using this

/-- With one byte other than it was, outside the size, a frame is none. -/
theorem rfAt_flip {L L' : List UInt8} {p k a : Nat} {P : List UInt8} {y : UInt8} (h : Lies L (p * 64) k P) (hP : P.length ≤ 1048576) (ha : a < 64 * pagesN (8 + P.length)) (hn : ¬ (1 ≤ a ∧ a ≤ 4)) (hy : y ≠ L.getD (p * 64 + a) 0)
    (hL : ∀ x, L'.getD (p * 64 + x) 0 = if x = a then y else L.getD (p * 64 + x) 0) : rfAt L' p = none := by
  have hp : 1 ≤ pagesN (8 + P.length) := by unfold pagesN; omega
  have hpg := pages_ge (8 + P.length)
  have h0 : L.getD (p * 64) 0 = UInt8.ofNat k := by have := h.hd 0 (by omega); simpa using this
  have hcb : ∀ i, cb L' (p * 64) i = if 1 + i / 63 * 64 + i % 63 = a then y else cb L (p * 64) i := fun i => by
    unfold cb
    rw [show p * 64 + 1 + i / 63 * 64 + i % 63 = p * 64 + (1 + i / 63 * 64 + i % 63) by omega, hL]
  have hcn : ∀ i, 1 + i / 63 * 64 + i % 63 ≠ a → cb L' (p * 64) i = cb L (p * 64) i := fun i hi => by rw [hcb, if_neg hi]
  have hw0 : word L' (p * 64) 0 = P.length := by
    rw [← h.word0 hP]
    unfold word
    rw [hcn 0 (by omega), hcn 1 (by omega), hcn 2 (by omega), hcn 3 (by omega)]
  unfold rfAt
  rw [hw0, if_neg]
  rintro ⟨-, -, -, h4, h5, h6⟩
  rw [marks_iff] at h4
  rw [zeros_iff] at h6
  have hL0 : L'.getD (p * 64) 0 = if 0 = a then y else UInt8.ofNat k := by have := hL 0; rw [Nat.add_zero, h0] at this; exact this
  by_cases hr : a % 64 = 0
  · by_cases ha0 : a = 0
    · have hpay : pay L' (p * 64) P.length = P := by
        refine pay_of fun i hi => ?_
        rw [hcn _ (by omega), h.cell _ (by omega), body_get, if_neg (by omega), if_neg (by omega), show 8 + i - 8 = i by omega]
      have hw4 : word L' (p * 64) 4 = crc (UInt8.ofNat k :: P) := by
        rw [← h.word4]
        unfold word
        rw [hcn 4 (by omega), hcn 5 (by omega), hcn 6 (by omega), hcn 7 (by omega)]
      rw [hw4, hL0, if_pos ha0.symm, hpay] at h5
      refine crc_ne [] P (a := UInt8.ofNat k) (b := y) (fun e => hy ?_) h5
      rw [ha0, Nat.add_zero, h0, e]
    · have e := h4 (a / 64) (by omega) (by omega)
      have e2 := h.hd (a / 64) (by omega)
      rw [if_neg (by omega), show a / 64 * 64 = a by omega] at e2
      rw [show a / 64 * 64 = a by omega, hL, if_pos rfl] at e
      exact hy (by rw [e, e2])
  · have ha0 : ¬ 0 = a := by omega
    rw [if_neg ha0] at hL0
    obtain ⟨i0, hi0⟩ : ∃ i0, i0 = a / 64 * 63 + a % 64 - 1 := ⟨_, rfl⟩
    have hoff : 1 + i0 / 63 * 64 + i0 % 63 = a := by omega
    have hne : ∀ i, i ≠ i0 → 1 + i / 63 * 64 + i % 63 ≠ a := fun i hi => by omega
    have hy0 : cb L' (p * 64) i0 = y := by rw [hcb, if_pos hoff]
    have hx0 : cb L (p * 64) i0 = L.getD (p * 64 + a) 0 := by
      unfold cb
      rw [show p * 64 + 1 + i0 / 63 * 64 + i0 % 63 = p * 64 + a by omega]
    have h4i : 4 ≤ i0 := by omega
    have hil : i0 < 63 * pagesN (8 + P.length) := by omega
    by_cases c1 : i0 < 8
    · have hpay : pay L' (p * 64) P.length = P := by
        refine pay_of fun i hi => ?_
        rw [hcn _ (hne _ (by omega)), h.cell _ (by omega), body_get, if_neg (by omega), if_neg (by omega), show 8 + i - 8 = i by omega]
      rw [hL0, hpay, ← h.word4] at h5
      unfold word at h5
      obtain ⟨q1, q2, q3, q4⟩ := le4_inj h5
      have : i0 = 4 ∨ i0 = 5 ∨ i0 = 6 ∨ i0 = 7 := by omega
      apply hy
      rw [← hy0, ← hx0]
      rcases this with e | e | e | e <;> rw [e] <;> assumption
    · by_cases c2 : i0 < 8 + P.length
      · obtain ⟨P1, x, P2, hPe, hP1⟩ : ∃ P1 x P2, P = P1 ++ x :: P2 ∧ P1.length = i0 - 8 := by
          refine ⟨P.take (i0 - 8), P[i0 - 8]'(by omega), P.drop (i0 - 8 + 1), ?_, by simp; omega⟩
          rw [List.getElem_cons_drop, List.take_append_drop]
        have hxx : cb L (p * 64) i0 = x := by
          rw [h.cell _ hil, body_get, if_neg (by omega), if_neg c1, hPe, getD_right (by omega), hP1, Nat.sub_self]
          rfl
        have hpay : pay L' (p * 64) P.length = P1 ++ y :: P2 := by
          have hlen : P.length = (P1 ++ y :: P2).length := by rw [hPe]; simp
          rw [hlen]
          refine pay_of fun i hi => ?_
          rw [← hlen] at hi
          by_cases hii : 8 + i = i0
          · rw [hii, hy0, getD_right (by omega), show i - P1.length = 0 by omega]
            rfl
          · rw [hcn _ (hne _ hii), h.cell _ (by omega), body_get, if_neg (by omega), if_neg (by omega), show 8 + i - 8 = i by omega, hPe]
            by_cases hlt : i < P1.length
            · rw [getD_left hlt, getD_left hlt]
            · rw [getD_right (by omega), getD_right (by omega)]
              obtain ⟨m, hm⟩ : ∃ m, i - P1.length = m + 1 := ⟨i - P1.length - 1, by omega⟩
              rw [hm]
              rfl
        have hw4 : word L' (p * 64) 4 = crc (UInt8.ofNat k :: P) := by
          rw [← h.word4]
          unfold word
          rw [hcn 4 (hne _ (by omega)), hcn 5 (hne _ (by omega)), hcn 6 (hne _ (by omega)), hcn 7 (hne _ (by omega))]
        rw [hw4, hL0, hpay, hPe] at h5
        exact crc_ne (UInt8.ofNat k :: P1) P2 (a := x) (b := y) (fun e => hy (by rw [← hx0, hxx, e])) h5
      · have e := h6 i0 (by omega) hil
        rw [hy0] at e
        exact hy (by rw [← hx0, h.zero i0 (by omega) hil, e])
end Go.Proofs.YtfbmplecmaebbacDoor
