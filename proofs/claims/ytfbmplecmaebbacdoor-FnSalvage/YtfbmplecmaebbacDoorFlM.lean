
import Derived.Test.YtfbmplecmaebbacDoorRfS
namespace Go.Proofs.YtfbmplecmaebbacDoor
set_option linter.unusedVariables false
set_option linter.unusedSimpArgs false

theorem getD_left {a b : List UInt8} {i : Nat} (h : i < a.length) : (a ++ b).getD i 0 = a.getD i 0 := by
  simp only [List.getD]
  rw [List.getElem?_append_left h]
theorem getD_right {a b : List UInt8} {i : Nat} (h : a.length ≤ i) : (a ++ b).getD i 0 = b.getD (i - a.length) 0 := by
  simp only [List.getD]
  rw [List.getElem?_append_right h]
theorem hdr_len (k i : Nat) : (hdr k i).length = if i % 63 = 0 then 1 else 0 := by
  unfold hdr
  split
  · subst_vars; rfl
  · split <;> rfl
theorem gby_at (k : Nat) (f : Nat → UInt8) : ∀ (N i : Nat), i < N → (gby k f N).getD (i + i / 63 + 1) 0 = f i := by
  intro N
  induction N with
  | zero => intro i hi; omega
  | succ N ih =>
    intro i hi
    simp only [gby]
    have hl := gby_len k f N
    have hh := hdr_len k N
    unfold pagesN at hl
    by_cases hiN : i = N
    · subst hiN
      have e : (gby k f i ++ hdr k i).length = i + i / 63 + 1 := by
        rw [List.length_append, hl, hh]
        split <;> omega
      rw [getD_right (by omega), e, Nat.sub_self]
      rfl
    · rw [getD_left (by rw [List.length_append]; omega), getD_left (by omega)]
      exact ih i (by omega)
theorem gby_hd (k : Nat) (f : Nat → UInt8) : ∀ (N j : Nat), 63 * j < N → (gby k f N).getD (64 * j) 0 = if j = 0 then UInt8.ofNat k else 99 := by
  intro N
  induction N with
  | zero => intro j hj; omega
  | succ N ih =>
    intro j hj
    simp only [gby]
    have hl := gby_len k f N
    unfold pagesN at hl
    by_cases hjN : 63 * j = N
    · have hh := hdr_len k N
      rw [if_pos (by omega)] at hh
      rw [getD_left (by rw [List.length_append]; omega), getD_right (by omega)]
      rw [show 64 * j - (gby k f N).length = 0 by omega]
      unfold hdr
      by_cases hj0 : j = 0
      · rw [if_pos hj0, if_pos (by omega)]; rfl
      · rw [if_neg hj0, if_neg (by omega), if_pos (by omega)]; rfl
    · rw [getD_left (by rw [List.length_append]; omega), getD_left (by omega)]
      exact ih j (by omega)

/-- How a frame lies in a text: byte by byte. -/
structure Lies (L : List UInt8) (F k : Nat) (P : List UInt8) : Prop where
  len : F + 64 * pagesN (8 + P.length) ≤ L.length
  hd : ∀ j, j < pagesN (8 + P.length) → L.getD (F + j * 64) 0 = if j = 0 then UInt8.ofNat k else 99
  cell : ∀ i, i < 63 * pagesN (8 + P.length) → cb L F i = (body k P).getD i 0
theorem frB_len (k : Nat) (P : List UInt8) : (frB k P).length = 64 * pagesN (8 + P.length) := by
  unfold frB
  rw [body_len, fby_len]
  unfold pagesN
  omega
theorem lies_of (A T P : List UInt8) (k : Nat) : Lies (A ++ (frB k P ++ T)) A.length k P := by
  have hl := frB_len k P
  have hg : frB k P = gby k (fun i => (body k P).getD i 0) (63 * pagesN (8 + P.length)) := by
    unfold frB
    rw [body_len, fby_gby]
  refine ⟨?_, fun j hj => ?_, fun i hi => ?_⟩
  · simp only [List.length_append]
    omega
  · rw [getD_right (by omega), show A.length + j * 64 - A.length = 64 * j by omega, getD_left (by omega), hg]
    exact gby_hd _ _ _ j (by omega)
  · have hi64 : i + i / 63 + 1 < 64 * pagesN (8 + P.length) := by omega
    unfold cb
    rw [getD_right (by omega), show A.length + 1 + i / 63 * 64 + i % 63 - A.length = i + i / 63 + 1 by omega, getD_left (by omega), hg]
    exact gby_at _ _ _ i hi

theorem word_of {L : List UInt8} {F j n : Nat} (hn : n < 4294967296) (h : ∀ i, i < 4 → cb L F (j + i) = (four n).getD i 0) : word L F j = n := by
  unfold word
  refine (four_eq hn _ _ _ _ ?_).symm
  rw [show cb L F j = (four n).getD 0 0 from h 0 (by omega), h 1 (by omega), h 2 (by omega), h 3 (by omega)]
  rfl
theorem Lies.word0 {L : List UInt8} {F k : Nat} {P : List UInt8} (h : Lies L F k P) (hP : P.length ≤ 1048576) : word L F 0 = P.length := by
  have hp := pages_ge (8 + P.length)
  refine word_of (by omega) fun i hi => ?_
  rw [Nat.zero_add, h.cell i (by omega), body_get, if_pos hi]
theorem Lies.word4 {L : List UInt8} {F k : Nat} {P : List UInt8} (h : Lies L F k P) : word L F 4 = crc (UInt8.ofNat k :: P) := by
  have hp := pages_ge (8 + P.length)
  refine word_of (crc_lt _) fun i hi => ?_
  rw [h.cell (4 + i) (by omega), body_get, if_neg (by omega), if_pos (by omega), show 4 + i - 4 = i by omega]
theorem pay_of {L : List UInt8} {F : Nat} {P : List UInt8} (h : ∀ i, i < P.length → cb L F (8 + i) = P.getD i 0) : pay L F P.length = P := by
  apply List.ext_getElem?
  intro i
  simp only [pay, List.getElem?_map]
  by_cases hi : i < P.length
  · rw [List.getElem?_range hi]
    simp only [Option.map_some]
    rw [h i hi, List.getElem?_eq_getElem hi, List.getD_eq_getElem?_getD, List.getElem?_eq_getElem hi]
    rfl
  · rw [List.getElem?_eq_none (by simp; omega), List.getElem?_eq_none (by omega)]
    rfl
theorem Lies.pay {L : List UInt8} {F k : Nat} {P : List UInt8} (h : Lies L F k P) : pay L F P.length = P := by
  have hp := pages_ge (8 + P.length)
  refine pay_of fun i hi => ?_
  rw [h.cell (8 + i) (by omega), body_get, if_neg (by omega), if_neg (by omega), show 8 + i - 8 = i by omega]
theorem Lies.zero {L : List UInt8} {F k : Nat} {P : List UInt8} (h : Lies L F k P) (i : Nat) (h1 : 8 + P.length ≤ i) (h2 : i < 63 * pagesN (8 + P.length)) : cb L F i = 0 := by
  rw [h.cell i h2, body_get, if_neg (by omega), if_neg (by omega), List.getD_eq_getElem?_getD, List.getElem?_eq_none (by omega)]
  rfl
/-- A frame is read back. -/
theorem rfAt_lies {L : List UInt8} {p k : Nat} {P : List UInt8} (h : Lies L (p * 64) k P) (hk : kindOk (k : Int) = true) (hk2 : k < 256) (hP : P.length ≤ 1048576) : rfAt L p = some (k, P, p + pagesN (8 + P.length)) := by
  have hp : 1 ≤ pagesN (8 + P.length) := by unfold pagesN; omega
  have h0 : L.getD (p * 64) 0 = UInt8.ofNat k := by have := h.hd 0 (by omega); simpa using this
  have hk8 : (UInt8.ofNat k).toNat = k := by simp [UInt8.toNat_ofNat']; omega
  unfold rfAt
  rw [h0, hk8, h.word0 hP, h.pay, if_pos]
  refine ⟨hk, hP, h.len, (marks_iff _ _ _).2 fun i h1 h2 => ?_, h.word4, (zeros_iff _ _ _ _).2 fun i h1 h2 => h.zero i h1 h2⟩
  have := h.hd i h2
  rw [if_neg (by omega)] at this
  exact this
end Go.Proofs.YtfbmplecmaebbacDoor
