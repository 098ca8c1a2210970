
import Derived.Test.YtgkhjjnhikbdaaaRows
import Derived.WalkKit
import Derived.WalkSpells
import Derived.WalkLawsBesides
import Derived.Deep.QuietTactic
import Derived.BigQuiet
import Derived.Deep.RegionHeld3
import Derived.Below
import Derived.Laws.IdiomStrings
import Derived.Laws.Concat
import Derived.Laws.Bits128
import Derived.Maps.AppendAt
namespace Go.Proofs.Ytgkhjjnhikbdaaa
open Go.RowKit
set_option linter.unusedVariables false
set_option linter.unusedSimpArgs false

/-- The bytes of a varint, of at most f + 1 groups. -/
def vbf : Nat → Nat → List UInt8
  | 0, n => [UInt8.ofNat n]
  | f + 1, n => if n < 128 then [UInt8.ofNat n] else UInt8.ofNat (n % 128 + 128) :: vbf f (n / 128)
/-- The bytes of a number from 0 to MaxSeq. -/
abbrev vb (n : Nat) : List UInt8 := vbf 7 n
/-- The text of whatever number. -/
def vtext (n : Int) : ByteArray := if 0 ≤ n ∧ n ≤ 72057594037927935 then ⟨(vb n.toNat).toArray⟩ else ⟨#[]⟩

theorem vbf_lt {f n : Nat} (h : n < 128) : vbf f n = [UInt8.ofNat n] := by
  cases f with
  | zero => rfl
  | succ f => simp [vbf, h]
theorem vbf_ge {f n : Nat} (h : ¬ n < 128) : vbf (f + 1) n = UInt8.ofNat (n % 128 + 128) :: vbf f (n / 128) := by simp [vbf, h]
theorem vbf_length_le (f n : Nat) : (vbf f n).length ≤ f + 1 := by
  induction f generalizing n with
  | zero => simp [vbf]
  | succ f ih =>
    by_cases h : n < 128
    · rw [vbf_lt h]; simp
    · rw [vbf_ge h]; have := ih (n / 128); simp; omega
theorem vbf_pos (f n : Nat) : 0 < (vbf f n).length := by
  cases f with
  | zero => simp [vbf]
  | succ f =>
    by_cases h : n < 128
    · rw [vbf_lt h]; simp
    · rw [vbf_ge h]; simp
theorem vbf_fuel (f n : Nat) (h : n < 128 ^ (f + 1)) : vbf (f + 1) n = vbf f n := by
  induction f generalizing n with
  | zero => rw [vbf_lt (by omega), vbf_lt (by omega)]
  | succ f ih =>
    by_cases hn : n < 128
    · rw [vbf_lt hn, vbf_lt hn]
    · rw [vbf_ge hn, vbf_ge hn, ih (n / 128) (by rw [Nat.pow_succ] at h; omega)]
theorem vtext_in (n : Int) (h0 : 0 ≤ n) (h1 : n ≤ 72057594037927935) : vtext n = ⟨(vb n.toNat).toArray⟩ := by simp [vtext, h0, h1]
theorem vtext_out (n : Int) (h : n < 0 ∨ 72057594037927935 < n) : vtext n = ⟨#[]⟩ := by
  simp only [vtext]; rw [if_neg (by omega)]
theorem vtext_size (n : Int) : (vtext n).size ≤ 8 := by
  simp only [vtext]
  split
  · exact vbf_length_le 7 _
  · exact Nat.zero_le _

/-- Bytes as cells. -/
abbrev bc (l : List UInt8) : List Value := l.map fun b => Value.int .u8 (b.toNat : Int)

theorem byte_cell (n : Nat) (h : n < 256) : ((UInt8.ofNat n).toNat : Int) = (n : Int) := by
  simp [UInt8.toNat_ofNat']; omega

theorem u8_info : (Try.prog.info? 5).map (fun i => (i.zero, i.size, i.bytes)) = some (some (.int .u8 0), 1, 1) := by kernel_rfl

/-- string(b) of a row of bytes that the call owns. -/
theorem conv_row {w : World} {B : Nat} {v : Value} {l : List UInt8} (h : w.ownsRow B 5 1 v l.length (bc l)) (hne : l ≠ []) :
    (convert 33 9 v).run Try.prog w = .ok (.string ⟨l.toArray⟩) w := by
  obtain ⟨h1, h2⟩ := h
  rcases h2 with ⟨rfl, h0⟩ | ⟨g, cap, cur, rfl, hg, hb, hl, hm, hsz, htk⟩
  · exact absurd (List.length_eq_zero_iff.1 h0) hne
  · refine run_convert_bytes_back w 33 9 5 _ cap l Try.underlying33 Try.underlying5 Try.underlying9 (fun j hj => ?_)
    rw [Go.WideShapes.add_plain]
    have e1 : (cur.toList.take (l.length * 1))[j]? = (bc l)[j]? := by rw [htk]
    rw [List.getElem?_take_of_lt (by omega)] at e1
    simp only [World.cell?, hb]
    have e2 : cur[0 + j]? = cur.toList[j]? := by simp
    rw [e2, e1]
    simp [hj]

theorem conv_one (w : World) (n : Int) (h0 : 0 ≤ n) (h1 : n < 256) :
    (convert 33 9 (.slice (some ⟨w.heap.size, 0, none⟩) 1 1)).run Try.prog (w.alloc (.cells #[.int .u8 n] 5)) = .ok (.string ⟨#[UInt8.ofNat n.toNat]⟩) (w.alloc (.cells #[.int .u8 n] 5)) := by
  obtain ⟨m, rfl⟩ : ∃ m : Nat, n = m := ⟨n.toNat, by omega⟩
  have := run_convert_bytes_back (P := Try.prog) (w.alloc (.cells #[.int .u8 m] 5)) 33 9 5 ⟨w.heap.size, 0, none⟩ 1 [UInt8.ofNat m] Try.underlying33 Try.underlying5 Try.underlying9 (fun j hj => by
    have hj0 : j = 0 := by simpa using hj
    subst hj0
    rw [Go.WideShapes.add_plain, List.getElem_cons_zero, byte_cell m (by omega), World.cell?_alloc_at _ _ _ _ (by simp)]
    rfl)
  simpa using this

/-- 'or' of a number and a multiple of 2 ^ i that lies above it. -/
theorem i64_join (i : Nat) (x y : Int) (h0 : 0 ≤ x) (h1 : x < 2 ^ i) (h2 : 0 ≤ y) (h3 : y % 2 ^ i = 0) (h4 : y < 2 ^ 62) (h5 : x < 2 ^ 62) : bits .or .i64 x y = x + y := by
  have hk : ∀ n : Int, 0 ≤ n → n < 2 ^ 62 → IntKind.i64.wrap n = n := fun n a b => by rw [IntKind.wrap_i64]; omega
  have hc : bits .or .i64 x y = bits .or .i64 y x := by simp only [bits, BitVec.or_comm]
  rw [hc, bits_join .i64 62 (by decide) hk i y x h2 h3 h4 h0 h1 h5]
  omega

theorem i64_or128 (x : Int) (h0 : 0 ≤ x) (h1 : x < 128) : bits .or .i64 x 128 = x + 128 :=
  i64_join 7 x 128 h0 (by simpa using h1) (by omega) (by decide) (by decide) (by omega)

end Go.Proofs.Ytgkhjjnhikbdaaa
