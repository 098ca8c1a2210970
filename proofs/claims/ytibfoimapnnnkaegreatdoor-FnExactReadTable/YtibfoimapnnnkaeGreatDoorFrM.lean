import Derived.Test.YtibfoimapnnnkaeGreatDoorCrcW

namespace Go.Proofs.YtibfoimapnnnkaeGreatDoor
open Go.RowKit
set_option linter.unusedVariables false
set_option linter.unusedSimpArgs false

/-- Whether a kind is one of the six. -/
def kindOk (k : Int) : Bool := k == 66 || k == 73 || k == 70 || k == 87 || k == 77 || k == 82
/-- A number in four bytes. -/
def four (n : Nat) : List UInt8 := [UInt8.ofNat (n % 256), UInt8.ofNat (n / 256 % 256), UInt8.ofNat (n / 65536 % 256), UInt8.ofNat (n / 16777216 % 256)]
/-- What a frame's pages hold beside their first bytes. -/
def body (k : Nat) (p : List UInt8) : List UInt8 := four p.length ++ four (crc (UInt8.ofNat k :: p)) ++ p
/-- The first byte of the page that begins at byte i of the body, if one does. -/
def hdr (k i : Nat) : List UInt8 := if i = 0 then [UInt8.ofNat k] else if i % 63 = 0 then [99] else []
/-- The frame as far as i bytes of its body (zeros behind the body). -/
def fby (k : Nat) (b : List UInt8) : Nat → List UInt8
  | 0 => []
  | i + 1 => fby k b i ++ hdr k i ++ [b.getD i 0]
/-- How many pages. -/
def pagesN (n : Nat) : Nat := (n + 62) / 63
def frB (k : Nat) (p : List UInt8) : List UInt8 := fby k (body k p) (63 * pagesN (body k p).length)
/-- The frame's text. -/
def frT (k : Int) (p : ByteArray) : ByteArray := if kindOk k = true ∧ p.size ≤ 1048576 then ⟨(frB k.toNat p.data.toList).toArray⟩ else ⟨#[]⟩

theorem kindOk_cases {k : Int} (h : kindOk k = true) : k = 66 ∨ k = 73 ∨ k = 70 ∨ k = 87 ∨ k = 77 ∨ k = 82 := by
  simp only [kindOk, Bool.or_eq_true, beq_iff_eq] at h
  omega
theorem kindOk_iff (k : Int) : kindOk k = true ↔ (k = 66 ∨ k = 73 ∨ k = 70 ∨ k = 87 ∨ k = 77 ∨ k = 82) := by
  simp only [kindOk, Bool.or_eq_true, beq_iff_eq]
  omega
theorem frT_in {k : Int} {p : ByteArray} (h1 : kindOk k = true) (h2 : p.size ≤ 1048576) : frT k p = ⟨(frB k.toNat p.data.toList).toArray⟩ := by simp [frT, h1, h2]
theorem frT_out {k : Int} {p : ByteArray} (h : ¬ (kindOk k = true ∧ p.size ≤ 1048576)) : frT k p = ⟨#[]⟩ := by unfold frT; rw [if_neg h]
theorem body_len (k : Nat) (p : List UInt8) : (body k p).length = 8 + p.length := by simp [body, four]; omega

theorem fby_len (k : Nat) (b : List UInt8) (i : Nat) : (fby k b i).length = i + pagesN i := by
  induction i with
  | zero => simp [fby, pagesN]
  | succ i ih =>
    simp only [fby, List.length_append, ih, List.length_singleton]
    unfold hdr pagesN
    split
    · subst_vars; simp
    · split
      · simp; omega
      · simp; omega
/-- A page's first m bytes. -/
theorem fby_page (k : Nat) (b : List UInt8) (j m : Nat) (h1 : 1 ≤ m) (h2 : m ≤ 63) (h3 : 63 * j + m ≤ b.length) :
    fby k b (63 * j + m) = fby k b (63 * j) ++ hdr k (63 * j) ++ (b.drop (63 * j)).take m := by
  induction m with
  | zero => omega
  | succ m ih =>
    have hg : b.getD (63 * j + m) 0 = b[63 * j + m]'(by omega) := by simp [List.getD, (by omega : 63 * j + m < b.length)]
    have ht : (b.drop (63 * j)).take (m + 1) = (b.drop (63 * j)).take m ++ [b.getD (63 * j + m) 0] := by
      rw [List.take_succ_eq_append_getElem (by rw [List.length_drop]; omega), List.getElem_drop, hg]
    rcases Nat.eq_zero_or_pos m with h0 | h0
    · subst h0
      rw [ht]
      simp [fby]
    · have hh : hdr k (63 * j + m) = [] := by unfold hdr; rw [if_neg (by omega), if_neg (by omega)]
      rw [ht, ← List.append_assoc, ← ih h0 (by omega) (by omega)]
      show fby k b (63 * j + m) ++ hdr k (63 * j + m) ++ [b.getD (63 * j + m) 0] = _
      rw [hh, List.append_nil]
/-- The zeros behind the body. -/
theorem fby_pad (k : Nat) (b : List UInt8) (z : Nat) (hb : 0 < b.length) (hz : b.length + z ≤ 63 * pagesN b.length) :
    fby k b (b.length + z) = fby k b b.length ++ List.replicate z 0 := by
  induction z with
  | zero => simp
  | succ z ih =>
    have hh : hdr k (b.length + z) = [] := by unfold hdr; rw [if_neg (by omega), if_neg (by unfold pagesN at hz; omega)]
    have hg : b.getD (b.length + z) 0 = 0 := by simp [List.getD]
    show fby k b (b.length + z) ++ hdr k (b.length + z) ++ [b.getD (b.length + z) 0] = _
    rw [ih (by omega), hh, hg, List.append_nil, List.append_assoc, List.replicate_succ']
theorem pages_ge (n : Nat) : n ≤ 63 * pagesN n := by unfold pagesN; omega
end Go.Proofs.YtibfoimapnnnkaeGreatDoor
