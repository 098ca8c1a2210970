import Derived.Test.YtibfoimapnnnkaeGreatDoorRfM

namespace Go.Proofs.YtibfoimapnnnkaeGreatDoor
open Go.RowKit Go.Maps
set_option linter.unusedVariables false
set_option linter.unusedSimpArgs false

theorem byte_get (s : ByteArray) (j : Nat) (h : j < s.size) : s[j] = s.data.toList.getD j 0 := (text_at s j h).symm
set_option maxRecDepth 100000 in
set_option maxHeartbeats 1000000 in
theorem l2Body_any (s : ByteArray) (F i : Nat) (w : World) (h : F + 1 + i / 63 * 64 + i % 63 < s.size) (hs : s.size ≤ 1048576) (hi : i ≤ 2000000) :
    Calls Tryz.prog 111 #[.string s, .int .i64 F, .int .i64 i] w fun e w' => e = .returned (.int .i64 ((cb s.data.toList F i).toNat : Int)) ∧ Below w.heap.size w w' := by
  have hb := s[F + 1 + i / 63 * 64 + i % 63].toNat_lt
  have HX : Hid (s[F + 1 + i / 63 * 64 + i % 63] = cb s.data.toList F i) := byte_get s _ h
  generalize cb s.data.toList F i = x at *
  have hq : ((i / 63 : Nat) : Int) = (i : Int) / 63 := by omega
  have hr : ((i % 63 : Nat) : Int) = (i : Int) % 63 := by omega
  have h2 : (F : Int) + 1 + (i : Int) / 63 * 64 + (i : Int) % 63 < s.size := by omega
  have h3 : (0 : Int) ≤ (F : Int) + 1 + (i : Int) / 63 * 64 + (i : Int) % 63 := by omega
  go_enter Tryz.func111, Tryz.ntmps111
  go_wp2_with fail
  go_ret
  exact ⟨by rw [← HX.out]; rfl, Below.refl _ _⟩

/-- Whether the pages behind the first go on the frame; whether zeros stand from a to b. -/
def marks (L : List UInt8) (F P : Nat) : Bool := (List.range P).all fun i => decide (i = 0) || (L.getD (F + i * 64) 0 == 99)
def zeros (L : List UInt8) (F a b : Nat) : Bool := (List.range b).all fun i => decide (i < a) || (cb L F i == 0)
/-- What ReadFrame finds at page p. -/
def rfAt (L : List UInt8) (p : Nat) : Option (Nat × List UInt8 × Nat) :=
  if kindOk ((L.getD (p * 64) 0).toNat : Int) = true ∧ word L (p * 64) 0 ≤ 1048576 ∧ p * 64 + 64 * pagesN (8 + word L (p * 64) 0) ≤ L.length ∧ marks L (p * 64) (pagesN (8 + word L (p * 64) 0)) = true ∧
    word L (p * 64) 4 = crc (L.getD (p * 64) 0 :: pay L (p * 64) (word L (p * 64) 0)) ∧ zeros L (p * 64) (8 + word L (p * 64) 0) (63 * pagesN (8 + word L (p * 64) 0)) = true
  then some ((L.getD (p * 64) 0).toNat, pay L (p * 64) (word L (p * 64) 0), p + pagesN (8 + word L (p * 64) 0)) else none
def rf (s : ByteArray) (page : Int) : Option (Nat × List UInt8 × Nat) := if 0 ≤ page ∧ page.toNat * 64 + 64 ≤ s.size then rfAt s.data.toList page.toNat else none
/-- A Framed. -/
def rfV : Option (Nat × List UInt8 × Nat) → Value
  | none => .agg #[.bool false, .int .i64 0, .string ByteArray.empty, .int .i64 0]
  | some (k, l, n) => .agg #[.bool true, .int .i64 k, .string ⟨l.toArray⟩, .int .i64 n]

theorem marks_iff (L : List UInt8) (F P : Nat) : marks L F P = true ↔ ∀ i, 1 ≤ i → i < P → L.getD (F + i * 64) 0 = 99 := by
  simp only [marks, List.all_eq_true, List.mem_range, Bool.or_eq_true, decide_eq_true_eq, beq_iff_eq]
  constructor
  · intro h i h1 h2
    rcases h i h2 with h3 | h3
    · omega
    · exact h3
  · intro h i h2
    by_cases h1 : i = 0
    · exact .inl h1
    · exact .inr (h i (by omega) h2)
theorem zeros_iff (L : List UInt8) (F a b : Nat) : zeros L F a b = true ↔ ∀ i, a ≤ i → i < b → cb L F i = 0 := by
  simp only [zeros, List.all_eq_true, List.mem_range, Bool.or_eq_true, decide_eq_true_eq, beq_iff_eq]
  constructor
  · intro h i h1 h2
    rcases h i h2 with h3 | h3
    · omega
    · exact h3
  · intro h i h2
    by_cases h1 : i < a
    · exact .inl h1
    · exact .inr (h i (by omega) h2)
/-- The same, as the model says it. -/
theorem rfAt_frame {L : List UInt8} {p n k : Nat} (hk : k = (L.getD (p * 64) 0).toNat) (hn : n = word L (p * 64) 0) (h1 : kindOk (k : Int) = true) (h2 : n ≤ 1048576) (h3 : p * 64 + 64 * pagesN (8 + n) ≤ L.length) (h4 : ∀ i, 1 ≤ i → i < pagesN (8 + n) → L.getD (p * 64 + i * 64) 0 = 99) :
    rfAt L p = if frB k (pay L (p * 64) n) = (L.drop (p * 64)).take (64 * pagesN (8 + n)) then some (k, pay L (p * 64) n, p + pagesN (8 + n)) else none := by
  have hk8 : UInt8.ofNat k = L.getD (p * 64) 0 := by rw [hk]; simp
  have hf := frame_iff (s := L) (F := p * 64) (n := n) (k := k) hk8.symm hn h4 h3 (crc_lt _)
  rw [hk8, ← zeros_iff] at hf
  unfold rfAt
  rw [← hn, ← hk]
  by_cases h : frB k (pay L (p * 64) n) = (L.drop (p * 64)).take (64 * pagesN (8 + n))
  · rw [if_pos h, if_pos ⟨h1, h2, h3, (marks_iff _ _ _).2 h4, hf.1 h⟩]
  · rw [if_neg h, if_neg]
    rintro ⟨-, -, -, -, a, b⟩
    exact h (hf.2 ⟨a, b⟩)
theorem rfAt_none {L : List UInt8} {p : Nat} (h : ¬ (kindOk ((L.getD (p * 64) 0).toNat : Int) = true ∧ word L (p * 64) 0 ≤ 1048576 ∧ p * 64 + 64 * pagesN (8 + word L (p * 64) 0) ≤ L.length ∧ marks L (p * 64) (pagesN (8 + word L (p * 64) 0)) = true)) : rfAt L p = none := by
  unfold rfAt
  rw [if_neg]
  rintro ⟨a, b, c, d, -⟩
  exact h ⟨a, b, c, d⟩
end Go.Proofs.YtibfoimapnnnkaeGreatDoor
