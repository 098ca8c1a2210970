import Derived.Test.YtgmfjninimebmaaGreatDoorRows
import Derived.WalkKit
import Derived.WalkSpells
import Derived.WalkLawsBesides
import Derived.Deep.QuietTactic
import Derived.BigQuiet
import Derived.Deep.RegionHeld3
import Derived.Below
import Derived.Laws.IdiomStrings
import Derived.Laws.Concat
import Derived.Laws.Bits128
import Derived.Maps.AppendAt
namespace Go.Proofs.YtgmfjninimebmaaGreatDoor
open Go.RowKit
set_option linter.unusedVariables false
set_option linter.unusedSimpArgs false

/-- The bytes of a varint, of at most f + 1 groups. -/
def vbf : Nat → Nat → List UInt8
  | 0, n => [UInt8.ofNat n]
  | f + 1, n => if n < 128 then [UInt8.ofNat n] else UInt8.ofNat (n % 128 + 128) :: vbf f (n / 128)
/-- The bytes of a number from 0 to MaxSeq. -/
abbrev vb (n : Nat) : List UInt8 := vbf 7 n
/-- The text of whatever number. -/
def vtext (n : Int) : ByteArray := if 0 ≤ n ∧ n ≤ 72057594037927935 then ⟨(vb n.toNat).toArray⟩ else ⟨#[]⟩

theorem vbf_lt {f n : Nat} (h : n < 128) : vbf f n = [UInt8.ofNat n] := by
  cases f with
  | zero => rfl
  | succ f => simp [vbf, h]
theorem vbf_ge {f n : Nat} (h : ¬ n < 128) : vbf (f + 1) n = UInt8.ofNat (n % 128 + 128) :: vbf f (n / 128) := by simp [vbf, h]
theorem vbf_length_le (f n : Nat) : (vbf f n).length ≤ f + 1 := by
  induction f generalizing n with
  | zero => simp [vbf]
  | succ f ih =>
    by_cases h : n < 128
    · rw [vbf_lt h]; simp
    · rw [vbf_ge h]; have := ih (n / 128); simp; omega
theorem vbf_pos (f n : Nat) : 0 < (vbf f n).length := by
  cases f with
  | zero => simp [vbf]
  | succ f =>
    by_cases h : n < 128
    · rw [vbf_lt h]; simp
    · rw [vbf_ge h]; simp
theorem vbf_fuel (f n : Nat) (h : n < 128 ^ (f + 1)) : vbf (f + 1) n = vbf f n := by
  induction f generalizing n with
  | zero => rw [vbf_lt (by omega), vbf_lt (by omega)]
  | succ f ih =>
    by_cases hn : n < 128
    · rw [vbf_lt hn, vbf_lt hn]
    · rw [vbf_ge hn, vbf_ge hn, ih (n / 128) (by rw [Nat.pow_succ] at h; omega)]
theorem vtext_in (n : Int) (h0 : 0 ≤ n) (h1 : n ≤ 72057594037927935) : vtext n = ⟨(vb n.toNat).toArray⟩ := by simp [vtext, h0, h1]
theorem vtext_out (n : Int) (h : n < 0 ∨ 72057594037927935 < n) : vtext n = ⟨#[]⟩ := by
  simp only [vtext]; rw [if_neg (by omega)]
theorem vtext_size (n : Int) : (vtext n).size ≤ 8 := by
  simp only [vtext]
  split
  · exact vbf_length_le 7 _
  · exact Nat.zero_le _

/-- Bytes as cells. -/
abbrev bc (l : List UInt8) : List Value := l.map fun b => Value.int .u8 (b.toNat : Int)

theorem byte_cell (n : Nat) (h : n < 256) : ((UInt8.ofNat n).toNat : Int) = (n : Int) := by
  simp [UInt8.toNat_ofNat']; omega

theorem u8_info : (Tryz.prog.info? 5).map (fun i => (i.zero, i.size, i.bytes)) = some (some (.int .u8 0), 1, 1) := by kernel_rfl

/-- string(b) of a row of bytes that the call owns. -/
theorem conv_row {w : World} {B : Nat} {v : Value} {l : List UInt8} (h : w.ownsRow B 5 1 v l.length (bc l)) (hne : l ≠ []) :
    (convert 111 9 v).run Tryz.prog w = .ok (.string ⟨l.toArray⟩) w := by
  obtain ⟨h1, h2⟩ := h
  rcases h2 with ⟨rfl, h0⟩ | ⟨g, cap, cur, rfl, hg, hb, hl, hm, hsz, htk⟩
  · exact absurd (List.length_eq_zero_iff.1 h0) hne
  · refine run_convert_bytes_back w 111 9 5 _ cap l Tryz.underlying111 Tryz.underlying5 Tryz.underlying9 (fun j hj => ?_)
    rw [Go.WideShapes.add_plain]
    have e1 : (cur.toList.take (l.length * 1))[j]? = (bc l)[j]? := by rw [htk]
    rw [List.getElem?_take_of_lt (by omega)] at e1
    simp only [World.cell?, hb]
    have e2 : cur[0 + j]? = cur.toList[j]? := by simp
    rw [e2, e1]
    simp [hj]

theorem conv_one (w : World) (n : Int) (h0 : 0 ≤ n) (h1 : n < 256) :
    (convert 111 9 (.slice (some ⟨w.heap.size, 0, none⟩) 1 1)).run Tryz.prog (w.alloc (.cells #[.int .u8 n] 5)) = .ok (.string ⟨#[UInt8.ofNat n.toNat]⟩) (w.alloc (.cells #[.int .u8 n] 5)) := by
  obtain ⟨m, rfl⟩ : ∃ m : Nat, n = m := ⟨n.toNat, by omega⟩
  have := run_convert_bytes_back (P := Tryz.prog) (w.alloc (.cells #[.int .u8 m] 5)) 111 9 5 ⟨w.heap.size, 0, none⟩ 1 [UInt8.ofNat m] Tryz.underlying111 Tryz.underlying5 Tryz.underlying9 (fun j hj => by
    have hj0 : j = 0 := by simpa using hj
    subst hj0
    rw [Go.WideShapes.add_plain, List.getElem_cons_zero, byte_cell m (by omega), World.cell?_alloc_at _ _ _ _ (by simp)]
    rfl)
  simpa using this

/-- 'or' of a number and a multiple of 2 ^ i that lies above it. -/
theorem i64_join (i : Nat) (x y : Int) (h0 : 0 ≤ x) (h1 : x < 2 ^ i) (h2 : 0 ≤ y) (h3 : y % 2 ^ i = 0) (h4 : y < 2 ^ 62) (h5 : x < 2 ^ 62) : bits .or .i64 x y = x + y := by
  have hk : ∀ n : Int, 0 ≤ n → n < 2 ^ 62 → IntKind.i64.wrap n = n := fun n a b => by rw [IntKind.wrap_i64]; omega
  have hc : bits .or .i64 x y = bits .or .i64 y x := by simp only [bits, BitVec.or_comm]
  rw [hc, bits_join .i64 62 (by decide) hk i y x h2 h3 h4 h0 h1 h5]
  omega

theorem i64_or128 (x : Int) (h0 : 0 ≤ x) (h1 : x < 128) : bits .or .i64 x 128 = x + 128 :=
  i64_join 7 x 128 h0 (by simpa using h1) (by omega) (by decide) (by decide) (by omega)

theorem l2Byte_any (n : Int) (w : World) (h0 : 0 ≤ n) (h1 : n < 256) :
    Calls Tryz.prog 89 #[.int .i64 n] w fun e w' => e = .returned (.string ⟨#[UInt8.ofNat n.toNat]⟩) ∧ Below w.heap.size w w' := by
  have hcv := conv_one w n h0 h1
  go_enter Tryz.func89, Tryz.ntmps89
  go_wp2
  go_ret
  exact ⟨rfl, (Below.refl _ _).alloc (Nat.le_refl _) _⟩
end Go.Proofs.YtgmfjninimebmaaGreatDoor
namespace Go.Proofs.YtgmfjninimebmaaGreatDoor
open Go.RowKit Go.Maps
set_option linter.unusedVariables false
set_option linter.unusedSimpArgs false

theorem cons_textL (a : UInt8) (l : List UInt8) : (⟨#[a]⟩ : ByteArray) ++ ⟨l.toArray⟩ = ⟨(a :: l).toArray⟩ := by
  apply ByteArray.ext
  simp

theorem owns_base {w : World} {B n size : Nat} {e : TypeId} {v : Value} {xs : List Value} (h : w.ownsRow B e size v n xs) : ∀ k, v.ownBlock = some k → B ≤ k := by
  intro k hk
  rcases h.2 with ⟨rfl, _⟩ | ⟨g, cap, cur, rfl, hg, _⟩
  · cases hk
  · simp [Value.ownBlock] at hk
    omega

set_option maxRecDepth 100000 in
set_option maxHeartbeats 400000 in
theorem specPut_in (f : Nat) : ∀ (n : Nat) (w : World), n < 128 ^ (f + 1) → n ≤ 72057594037927935 → f ≤ 8 →
    Calls Tryz.prog 61 #[.int .i64 n] w fun e w' => e = .returned (.string ⟨(vbf f n).toArray⟩) ∧ Below w.heap.size w w' := by
  induction f with
  | zero =>
    intro n w h1 h2 hf
    have h3 : (n : Int) < 128 := by simp at h1; omega
    rw [vbf_lt (by omega)]
    go_enter Tryz.func61, Tryz.ntmps61
    go_wp2_with (go_at_call 89; refine (l2Byte_any _ _ (by omega) (by omega)).mono ?_; rintro e w1 ⟨rfl, hb1⟩)
    go_ret
    exact ⟨rfl, hb1⟩
  | succ f ih =>
    intro n w h1 h2 hf
    by_cases hn : n < 128
    · rw [vbf_lt hn]
      have h3 : (n : Int) < 128 := by omega
      go_enter Tryz.func61, Tryz.ntmps61
      go_wp2_with (go_at_call 89; refine (l2Byte_any _ _ (by omega) (by omega)).mono ?_; rintro e w1 ⟨rfl, hb1⟩)
      go_ret
      exact ⟨rfl, hb1⟩
    · have hd : n / 128 < 128 ^ (f + 1) := by rw [Nat.pow_succ] at h1; omega
      have hle : (vbf f (n / 128)).length ≤ f + 1 := vbf_length_le _ _
      rw [vbf_ge hn, ← cons_textL]
      have h3 : ¬ (n : Int) < 128 := by omega
      have IH : ∀ w, Calls Tryz.prog 61 #[.int .i64 ((n : Int) / 128)] w fun e w' => e = .returned (.string ⟨(vbf f (n / 128)).toArray⟩) ∧ Below w.heap.size w w' := fun w => ih (n / 128) w hd (by omega) (by omega)
      have hzs : (⟨(vbf f (n / 128)).toArray⟩ : ByteArray).size ≤ f + 1 := hle
      have hby : (UInt8.ofNat (n % 128 + 128)) = UInt8.ofNat ((n : Int) % 128 + 128).toNat := by congr 1
      rw [hby]
      generalize (⟨(vbf f (n / 128)).toArray⟩ : ByteArray) = z at IH hzs ⊢
      replace IH : Hid (∀ w, Calls Tryz.prog 61 #[.int .i64 ((n : Int) / 128)] w fun e w' => e = .returned (.string z) ∧ Below w.heap.size w w') := IH
      have hz1 : ¬ 9223372036854775807 < (⟨#[UInt8.ofNat ((n : Int) % 128 + 128).toNat]⟩ : ByteArray).size + z.size := by have : (⟨#[UInt8.ofNat ((n : Int) % 128 + 128).toNat]⟩ : ByteArray).size = 1 := rfl; omega
      go_enter Tryz.func61, Tryz.ntmps61
      go_wp2_with fail
      refine (l2Byte_any _ _ (by omega) (by omega)).mono ?_
      rintro e w1 ⟨rfl, hb1⟩
      go_wp2_with fail
      refine (IH.out w1).mono ?_
      rintro e w2 ⟨rfl, hb2⟩
      go_wp2_with fail
      go_ret
      exact ⟨rfl, hb1.trans (hb2.mono hb1.size)⟩

set_option maxRecDepth 100000 in
theorem specPut_any (n : Int) (w : World) :
    Calls Tryz.prog 61 #[.int .i64 n] w fun e w' => e = .returned (.string (vtext n)) ∧ Below w.heap.size w w' := by
  by_cases h : 0 ≤ n ∧ n ≤ 72057594037927935
  · obtain ⟨m, rfl⟩ : ∃ m : Nat, n = m := ⟨n.toNat, by omega⟩
    rw [vtext_in _ h.1 h.2]
    exact specPut_in 7 m w (by simp; omega) (by omega) (by omega)
  · rw [vtext_out n (by omega)]
    have h' : n < 0 ∨ 72057594037927935 < n := by omega
    rcases h' with h1 | h1
    · go_enter Tryz.func61, Tryz.ntmps61
      go_wp2_with fail
      go_ret
      exact ⟨rfl, Below.refl _ _⟩
    · have h2 : ¬ n < 0 := by omega
      go_enter Tryz.func61, Tryz.ntmps61
      go_wp2_with fail
      go_ret
      exact ⟨rfl, Below.refl _ _⟩

set_option maxRecDepth 100000 in
set_option maxHeartbeats 1000000 in
theorem implPut_in (n : Nat) (w : World) (hn : n ≤ 72057594037927935) :
    Calls Tryz.prog 76 #[.int .i64 n] w fun e w' => e = .returned (.string ⟨(vb n).toArray⟩) ∧ Below w.heap.size w w' := by
  obtain ⟨i0, hi, hz0, hz1, hz2⟩ := info_parts u8_info
  have h0 : ¬ (n : Int) < 0 := by omega
  generalize hT : vb n = T
  go_enter Tryz.func76, Tryz.ntmps76
  go_wp2_with fail
  go_loopw [0, 3] (fun x v wr => ∃ (m : Nat) (acc : List UInt8), x = .int .i64 m ∧ acc.length ≤ 7 ∧ m < 128 ^ (8 - acc.length) ∧ acc ++ vbf (7 - acc.length) m = T ∧ wr.ownsRow w.heap.size 5 1 v acc.length (bc acc) ∧ Below w.heap.size w wr) (fun x _ _ => (intOf x).toNat)
  case atStart => exact ⟨n, [], rfl, by simp, by simp; omega, by simpa using hT, World.ownsRow_nil _ _ _ _, Below.refl _ _⟩
  case round =>
    obtain ⟨m, acc, rfl, hl, hm, hacc, hown, hb⟩ := hrel
    have hbs := hb.size
    by_cases h : m < 128
    · have h' : ¬ (128 : Int) ≤ m := by omega
      have HA : Hid (acc ++ [UInt8.ofNat m] = T) := by show _ = _; rw [← hacc, vbf_lt h]
      have hcv : ∀ (v' : Value) (w4 : World), w4.ownsRow w.heap.size 5 1 v' (acc.length + 1) (bc acc ++ [.int .u8 (m : Int)]) → (convert 111 9 v').run Tryz.prog w4 = .ok (.string ⟨T.toArray⟩) w4 := fun v' w4 ho => by
        rw [← HA.out]
        refine conv_row (B := w.heap.size) ?_ (by simp)
        simp only [List.length_append, List.length_singleton, bc, List.map_append, List.map_cons, List.map_nil]
        rw [byte_cell m (by omega)]
        exact ho
      have HCV := (show Hid _ from hcv)
      clear hcv hacc
      go_wp2_with (at_builtin; refine wpList_append_own _ rfl _ _ 111 rfl w.heap.size 5 i0 (.int .u8 0) 1 1 Tryz.underlying111 hi hz0 hz1 hz2 rfl (by decide) _ _ _ rfl (hown.alloc _) ⟨wr.heap.size, 0, none⟩ 1 1 [.int .u8 (m : Int)] rfl rfl (cell_one_new _ _ _) (fun x hx => by simp at hx; subst hx; rfl) (by unfold maxLen; omega) (by omega) (by simp; omega) ?_; intro v' w4 hown' hgrow hnil; have hcv := HCV.out v' w4 hown')
      go_ret
      exact ⟨rfl, (hb.alloc hbs _).grown hgrow (by simp; omega) (owns_base hown)⟩
    · have h' : (128 : Int) ≤ m := by omega
      have hlen : acc.length ≤ 6 := by
        rcases Nat.lt_or_ge acc.length 7 with h7 | h7
        · omega
        · exfalso
          have : acc.length = 7 := by omega
          rw [this] at hm
          omega
      have HA : Hid ((acc ++ [UInt8.ofNat (m % 128 + 128)]) ++ vbf (7 - (acc.length + 1)) (m / 128) = T) := by
        show _ = _
        have e : 7 - acc.length = (7 - (acc.length + 1)) + 1 := by omega
        rw [← hacc, e, vbf_ge h, List.append_assoc]
        rfl
      have HM : Hid (m / 128 < 128 ^ (8 - (acc.length + 1))) := by
        show _ < _
        have e : 8 - acc.length = (8 - (acc.length + 1)) + 1 := by omega
        rw [e, Nat.pow_succ] at hm
        omega
      have hA : bits .and .i64 (m : Int) 127 = (m : Int) % 128 := i64_and127 _
      have hO : bits .or .i64 ((m : Int) % 128) 128 = (m : Int) % 128 + 128 := i64_or128 _ (by omega) (by omega)
      clear hacc hm
      go_wp2_with (at_builtin; refine wpList_append_own _ rfl _ _ 111 rfl w.heap.size 5 i0 (.int .u8 0) 1 1 Tryz.underlying111 hi hz0 hz1 hz2 rfl (by decide) _ _ _ rfl (hown.alloc _) ⟨wr.heap.size, 0, none⟩ 1 1 [.int .u8 ((m : Int) % 128 + 128)] rfl rfl (cell_one_new _ _ _) (fun x hx => by simp at hx; subst hx; rfl) (by unfold maxLen; omega) (by omega) (by simp; omega) ?_; intro v' w4 hown' hgrow hnil)
      refine ⟨⟨m / 128, acc ++ [UInt8.ofNat (m % 128 + 128)], by simp, by simp; omega, by rw [List.length_append]; exact HM.out, by rw [List.length_append]; exact HA.out, ?_, (hb.alloc hbs _).grown hgrow (by simp; omega) (owns_base hown)⟩, by simp only [intOf]; omega⟩
      have e : bc (acc ++ [UInt8.ofNat (m % 128 + 128)]) = bc acc ++ [Value.int .u8 ((m : Int) % 128 + 128)] := by
        simp only [bc, List.map_append, List.map_cons, List.map_nil]
        rw [byte_cell _ (by omega)]
        simp
      rw [e, List.length_append]
      exact hown'

set_option maxRecDepth 100000 in
theorem implPut_any (n : Int) (w : World) :
    Calls Tryz.prog 76 #[.int .i64 n] w fun e w' => e = .returned (.string (vtext n)) ∧ Below w.heap.size w w' := by
  by_cases h : 0 ≤ n ∧ n ≤ 72057594037927935
  · obtain ⟨m, rfl⟩ : ∃ m : Nat, n = m := ⟨n.toNat, by omega⟩
    rw [vtext_in _ h.1 h.2]
    exact implPut_in m w (by omega)
  · rw [vtext_out n (by omega)]
    have h' : n < 0 ∨ 72057594037927935 < n := by omega
    rcases h' with h1 | h1
    · go_enter Tryz.func76, Tryz.ntmps76
      go_wp2_with fail
      go_ret
      exact ⟨rfl, Below.refl _ _⟩
    · have h2 : ¬ n < 0 := by omega
      go_enter Tryz.func76, Tryz.ntmps76
      go_wp2_with fail
      go_ret
      exact ⟨rfl, Below.refl _ _⟩
end Go.Proofs.YtgmfjninimebmaaGreatDoor
namespace Go.Proofs.YtgmfjninimebmaaGreatDoor
open Go.RowKit Go.Maps
set_option linter.unusedVariables false
set_option linter.unusedSimpArgs false

/-- What is read of the bytes that are left: f groups may come still, i have come, n is their number. -/
def gvf : Nat → List UInt8 → Nat → Nat → Option (Nat × Nat)
  | 0, _, _, _ => none
  | _ + 1, [], _, _ => none
  | f + 1, b :: r, i, n => if b.toNat < 128 then (if b.toNat = 0 ∧ 0 < i then none else some (n + b.toNat % 128 * 128 ^ i, i + 1)) else gvf f r (i + 1) (n + b.toNat % 128 * 128 ^ i)

/-- The number at a place of a text, and how many bytes it takes. -/
def gv (s : ByteArray) (k : Int) : Option (Nat × Nat) := if 0 ≤ k ∧ k < s.size then gvf 8 (s.data.toList.drop k.toNat) 0 0 else none
/-- The three results. -/
def gvV (k : Int) : Option (Nat × Nat) → Value
  | none => .tuple #[.int .i64 0, .int .i64 0, .bool false]
  | some (n, c) => .tuple #[.int .i64 n, .int .i64 (k + c), .bool true]

theorem drop_at (l : List UInt8) (i : Nat) (h : i < l.length) : l.drop i = l.getD i 0 :: l.drop (i + 1) := by
  rw [List.drop_eq_getElem_cons h]
  simp [List.getD, h]

theorem gvf_end (l : List UInt8) (i n : Nat) (h : 8 ≤ i ∨ l.length ≤ i) : gvf (8 - i) (l.drop i) i n = none := by
  rcases h with h | h
  · have : 8 - i = 0 := by omega
    rw [this]; rfl
  · rw [List.drop_eq_nil_of_le h]
    cases 8 - i <;> rfl

theorem gvf_at (l : List UInt8) (i n : Nat) (h : i < l.length) (h8 : i < 8) :
    gvf (8 - i) (l.drop i) i n = if (l.getD i 0).toNat < 128 then (if (l.getD i 0).toNat = 0 ∧ 0 < i then none else some (n + (l.getD i 0).toNat % 128 * 128 ^ i, i + 1)) else gvf (8 - (i + 1)) (l.drop (i + 1)) (i + 1) (n + (l.getD i 0).toNat % 128 * 128 ^ i) := by
  have e : 8 - i = (8 - (i + 1)) + 1 := by omega
  rw [e, drop_at l i h, gvf]

theorem pow128_le {i : Nat} (h : i ≤ 8) : 128 ^ i ≤ 72057594037927936 := Nat.le_trans (Nat.pow_le_pow_right (by decide) h) (by decide)
theorem pow128_pos (i : Nat) : 0 < 128 ^ i := Nat.pow_pos (by decide)
theorem group_le {i : Nat} (b : Nat) (h : i ≤ 7) : b % 128 * 128 ^ i ≤ 127 * 562949953421312 := Nat.mul_le_mul (by omega) (Nat.le_trans (Nat.pow_le_pow_right (by decide) h) (by decide))
theorem step_lt {i n : Nat} (b : Nat) (hn : n < 128 ^ i) : n + b % 128 * 128 ^ i < 128 ^ (i + 1) := by
  have h : b % 128 * 128 ^ i ≤ 127 * 128 ^ i := Nat.mul_le_mul_right _ (by omega)
  rw [Nat.pow_succ]
  omega

theorem step_val (n b i : Nat) (hn : n < 128 ^ i) (hi : i ≤ 7) (hb : b < 256) :
    bits .or .i64 (n : Int) (wrap64 (wrap64 (bits .and .u8 (b : Int) 127) * 2 ^ (7 * i))) = ((n + b % 128 * 128 ^ i : Nat) : Int) := by
  have e1 : bits .and .u8 (b : Int) 127 = ((b % 128 : Nat) : Int) := by
    have := bits_mask .u8 8 (by decide) wraps_u8 7 (by decide) (b : Int) (by omega) (by simp; omega)
    simpa using this
  have e2 : (2 : Int) ^ (7 * i) = ((128 ^ i : Nat) : Int) := by
    have : 2 ^ (7 * i) = 128 ^ i := by rw [Nat.pow_mul]
    rw [← this]; simp
  have h1 : b % 128 * 128 ^ i ≤ 127 * 562949953421312 := group_le b hi
  have h2 : 128 ^ i ≤ 72057594037927936 := pow128_le (by omega)
  have ew : ∀ x : Nat, x < 9223372036854775808 → wrap64 (x : Int) = (x : Int) := fun x hx => by
    unfold wrap64; omega
  rw [e1, ew _ (by omega), e2, ← Int.natCast_mul, ew _ (by omega)]
  have h3 : (128 : Int) ^ i = ((128 ^ i : Nat) : Int) := by simp
  rw [i64_join (7 * i) (n : Int) _ (by omega) (by rw [e2]; omega) (by omega) (by rw [e2, ← Int.natCast_emod, Nat.mul_mod_left]; rfl) (by omega) (by omega)]
  simp

theorem byte_at (s : ByteArray) (A i : Nat) (h : A + i < s.size) : (s.data.toList.drop A).getD i 0 = s[A + i] := by
  have h' : A + i < s.data.size := h
  simp [List.getD, ByteArray.getElem_eq_getElem_data]
  rw [Array.getElem?_eq_getElem h']
  rfl

theorem len_data (s : ByteArray) : s.data.toList.length = s.size := by rw [Array.length_toList]; rfl
theorem len_drop (s : ByteArray) (A : Nat) : (s.data.toList.drop A).length = s.size - A := by rw [List.length_drop, len_data]

set_option maxRecDepth 100000 in
set_option maxHeartbeats 1000000 in
theorem implGet_in (s : ByteArray) (A : Nat) (w : World) (hs : s.size ≤ maxLen) (hA : A < s.size) :
    Calls Tryz.prog 44 #[.string s, .int .i64 A] w fun e w' => e = .returned (gvV A (gvf 8 (s.data.toList.drop A) 0 0)) ∧ Below w.heap.size w w' := by
  unfold maxLen at hs
  generalize hR : gvf 8 (s.data.toList.drop A) 0 0 = R
  have h0 : ¬ (A : Int) < 0 := by omega
  have hA' : (A : Int) < s.size := by omega
  go_enter Tryz.func44, Tryz.ntmps44
  go_wp2_with fail
  · go_loopw [7, 23] (fun x y wr => ∃ i n : Nat, y = .int .i64 i ∧ x = .int .i64 n ∧ i ≤ (s.size - A) ∧ n < 128 ^ i ∧ gvf (8 - i) ((s.data.toList.drop A).drop i) i n = R ∧ Below w.heap.size w wr) (fun _ y _ => (s.size - A) - (intOf y).toNat)
    case atStart => exact ⟨0, 0, rfl, rfl, by omega, by simp, hR, Below.refl _ _⟩
    case round =>
      obtain ⟨i, n, rfl, rfl, hi, hn, hr, hb⟩ := hrel
      by_cases hlt : i < (s.size - A)
      · have hsi : A + i < s.size := by omega
        rw [gvf_at _ _ _ (by rw [len_drop]; omega) (by omega), byte_at s A i hsi] at hr
        have HV : Hid (bits .or .i64 (n : Int) (wrap64 (wrap64 (bits .and .u8 (s[A + i].toNat : Int) 127) * 2 ^ (7 * i))) = ((n + s[A + i].toNat % 128 * 128 ^ i : Nat) : Int)) := step_val n _ i hn (by omega) s[A + i].toNat_lt
        have HL : Hid (n + s[A + i].toNat % 128 * 128 ^ i < 128 ^ (i + 1)) := step_lt _ hn
        replace hr : Hid ((if s[A + i].toNat < 128 then (if s[A + i].toNat = 0 ∧ 0 < i then none else some (n + s[A + i].toNat % 128 * 128 ^ i, i + 1)) else gvf (8 - (i + 1)) (((s.data.toList.drop A)).drop (i + 1)) (i + 1) (n + s[A + i].toNat % 128 * 128 ^ i)) = R) := hr
        go_wp2_with fail
        · rename_i hge
          have hr' := hr.out
          rw [if_neg (by omega)] at hr'
          exact ⟨⟨i + 1, _, by simp, by rw [HV.out], by omega, HL.out, hr', hb⟩, by simp only [intOf]; omega⟩
        · rename_i h1 h2 h3
          have hr' := hr.out
          rw [if_pos (by omega), if_pos ⟨h2, h3⟩] at hr'
          subst hr'
          go_ret3
          exact ⟨rfl, hb⟩
        · rename_i h1 h2
          have hr' := hr.out
          rw [if_pos (by omega), if_neg (by omega)] at hr'
          subst hr'
          have e := HV.out
          rw [h1] at e
          have e' : bits .or .i64 (n : Int) (wrap64 (wrap64 (bits .and .u8 0 127) * 2 ^ (7 * i))) = ((n + 0 % 128 * 128 ^ i : Nat) : Int) := e
          rw [e']
          go_ret3
          refine ⟨?_, hb⟩
          simp only [gvV, h1]
          rw [show (A : Int) + i + 1 = A + ((i + 1 : Nat) : Int) by omega]
          rfl
        · rename_i h1 h2
          have hr' := hr.out
          rw [if_pos (by omega), if_neg (by omega)] at hr'
          subst hr'
          rw [HV.out]
          go_ret3
          refine ⟨?_, hb⟩
          simp only [gvV]
          rw [show (A : Int) + i + 1 = A + ((i + 1 : Nat) : Int) by omega]
          rfl
      · have hn0 : R = none := by
          rw [← hr]
          exact gvf_end _ _ _ (by rw [len_drop]; omega)
        subst hn0
        go_wp2_with fail
        go_ret3
        exact ⟨rfl, hb⟩
  · go_loopw [7, 23] (fun x y wr => ∃ i n : Nat, y = .int .i64 i ∧ x = .int .i64 n ∧ i ≤ 8 ∧ n < 128 ^ i ∧ gvf (8 - i) ((s.data.toList.drop A).drop i) i n = R ∧ Below w.heap.size w wr) (fun _ y _ => 8 - (intOf y).toNat)
    case atStart => exact ⟨0, 0, rfl, rfl, by omega, by simp, hR, Below.refl _ _⟩
    case round =>
      obtain ⟨i, n, rfl, rfl, hi, hn, hr, hb⟩ := hrel
      by_cases hlt : i < 8
      · have hsi : A + i < s.size := by omega
        rw [gvf_at _ _ _ (by rw [len_drop]; omega) (by omega), byte_at s A i hsi] at hr
        have HV : Hid (bits .or .i64 (n : Int) (wrap64 (wrap64 (bits .and .u8 (s[A + i].toNat : Int) 127) * 2 ^ (7 * i))) = ((n + s[A + i].toNat % 128 * 128 ^ i : Nat) : Int)) := step_val n _ i hn (by omega) s[A + i].toNat_lt
        have HL : Hid (n + s[A + i].toNat % 128 * 128 ^ i < 128 ^ (i + 1)) := step_lt _ hn
        replace hr : Hid ((if s[A + i].toNat < 128 then (if s[A + i].toNat = 0 ∧ 0 < i then none else some (n + s[A + i].toNat % 128 * 128 ^ i, i + 1)) else gvf (8 - (i + 1)) (((s.data.toList.drop A)).drop (i + 1)) (i + 1) (n + s[A + i].toNat % 128 * 128 ^ i)) = R) := hr
        go_wp2_with fail
        · rename_i hge
          have hr' := hr.out
          rw [if_neg (by omega)] at hr'
          exact ⟨⟨i + 1, _, by simp, by rw [HV.out], by omega, HL.out, hr', hb⟩, by simp only [intOf]; omega⟩
        · rename_i h1 h2 h3
          have hr' := hr.out
          rw [if_pos (by omega), if_pos ⟨h2, h3⟩] at hr'
          subst hr'
          go_ret3
          exact ⟨rfl, hb⟩
        · rename_i h1 h2
          have hr' := hr.out
          rw [if_pos (by omega), if_neg (by omega)] at hr'
          subst hr'
          have e := HV.out
          rw [h1] at e
          have e' : bits .or .i64 (n : Int) (wrap64 (wrap64 (bits .and .u8 0 127) * 2 ^ (7 * i))) = ((n + 0 % 128 * 128 ^ i : Nat) : Int) := e
          rw [e']
          go_ret3
          refine ⟨?_, hb⟩
          simp only [gvV, h1]
          rw [show (A : Int) + i + 1 = A + ((i + 1 : Nat) : Int) by omega]
          rfl
        · rename_i h1 h2
          have hr' := hr.out
          rw [if_pos (by omega), if_neg (by omega)] at hr'
          subst hr'
          rw [HV.out]
          go_ret3
          refine ⟨?_, hb⟩
          simp only [gvV]
          rw [show (A : Int) + i + 1 = A + ((i + 1 : Nat) : Int) by omega]
          rfl
      · have hn0 : R = none := by
          rw [← hr]
          exact gvf_end _ _ _ (by rw [len_drop]; omega)
        subst hn0
        go_wp2_with fail
        go_ret3
        exact ⟨rfl, hb⟩

theorem vbf_le (f i m : Nat) (h : m < 128 ^ (i + 1)) : (vbf f m).length ≤ i + 1 := by
  induction f generalizing i m with
  | zero => simp [vbf]
  | succ f ih =>
    by_cases hm : m < 128
    · rw [vbf_lt hm]; simp
    · rw [vbf_ge hm]
      cases i with
      | zero => simp at h; omega
      | succ i =>
        have := ih i (m / 128) (by rw [Nat.pow_succ] at h; omega)
        simp; omega
theorem vbf_ge_len (f i m : Nat) (hi : i ≤ f) (h : 128 ^ i ≤ m) : i + 1 ≤ (vbf f m).length := by
  induction f generalizing i m with
  | zero => obtain rfl : i = 0 := by omega
            simp [vbf]
  | succ f ih =>
    cases i with
    | zero => have := vbf_pos (f + 1) m; omega
    | succ i =>
      have h1 : 128 ^ i * 128 ≤ m := by rw [Nat.pow_succ] at h; exact h
      have h2 := pow128_pos i
      rw [vbf_ge (by omega)]
      have := ih i (m / 128) (by omega) (by omega)
      simp; omega

/-- When what PutVarint writes has as many bytes as were read. -/
theorem vlen (i n b : Nat) (hn : n < 128 ^ i) (hb : b < 128) (hi : i ≤ 8) :
    ((vtext ((n + b * 128 ^ i : Nat) : Int)).size = i + 1 → i ≤ 7 ∧ (i = 0 ∨ b ≠ 0) ∧ n + b * 128 ^ i ≤ 72057594037927935) ∧ ((i ≤ 7 ∧ (i = 0 ∨ b ≠ 0)) → (vtext ((n + b * 128 ^ i : Nat) : Int)).size = i + 1) := by
  have hlt : n + b * 128 ^ i < 128 ^ (i + 1) := by have := step_lt b hn; rwa [Nat.mod_eq_of_lt hb] at this
  have h8 : i ≤ 7 → 128 ^ (i + 1) ≤ 72057594037927936 := fun h => pow128_le (by omega)
  constructor
  · intro h
    by_cases hin : n + b * 128 ^ i ≤ 72057594037927935
    · rw [vtext_in _ (by omega) (by omega)] at h
      have h2 : (vbf 7 (n + b * 128 ^ i)).length = i + 1 := h
      have h3 := vbf_length_le 7 (n + b * 128 ^ i)
      refine ⟨by omega, ?_, hin⟩
      rcases Nat.eq_zero_or_pos i with h0 | h0
      · exact .inl h0
      · refine .inr fun hb0 => ?_
        obtain ⟨j, rfl⟩ : ∃ j, i = j + 1 := ⟨i - 1, by omega⟩
        have := vbf_le 7 j (n + b * 128 ^ (j + 1)) (by rw [hb0]; simpa using hn)
        omega
    · rw [vtext_out _ (by omega)] at h
      exact absurd h (by show ¬ (0 = i + 1); omega)
  · rintro ⟨h7, h0⟩
    have := h8 h7
    rw [vtext_in _ (by omega) (by omega)]
    show (vbf 7 (n + b * 128 ^ i)).length = i + 1
    have h1 := vbf_le 7 i _ hlt
    rcases h0 with rfl | h0
    · have := vbf_pos 7 (n + b * 128 ^ 0); omega
    · have h2 := vbf_ge_len 7 i (n + b * 128 ^ i) h7 (by have : 1 * 128 ^ i ≤ b * 128 ^ i := Nat.mul_le_mul_right _ (by omega)
                                                         omega)
      omega

set_option maxRecDepth 100000 in
set_option maxHeartbeats 1000000 in
theorem specGet_in (s : ByteArray) (A : Nat) (w : World) (hs : s.size ≤ maxLen) (hA : A < s.size) :
    Calls Tryz.prog 55 #[.string s, .int .i64 A] w fun e w' => e = .returned (gvV A (gvf 8 (s.data.toList.drop A) 0 0)) ∧ Below w.heap.size w w' := by
  unfold maxLen at hs
  generalize hR : gvf 8 (s.data.toList.drop A) 0 0 = R
  have h0 : ¬ (A : Int) < 0 := by omega
  have hA' : (A : Int) < s.size := by omega
  go_enter Tryz.func55, Tryz.ntmps55
  go_wp2_with fail
  go_loopw [7, 8, 9] (fun x y z wr => ∃ (i n : Nat) (o : Int), z = .int .i64 i ∧ x = .int .i64 n ∧ y = .int .i64 o ∧ (i ≤ 8 → o = (128 ^ i : Nat)) ∧ i ≤ 9 ∧ A + i ≤ s.size ∧ n < 128 ^ i ∧ gvf (8 - i) ((s.data.toList.drop A).drop i) i n = R ∧ Below w.heap.size w wr) (fun _ _ z _ => 9 - (intOf z).toNat)
  case atStart => exact ⟨0, 0, 1, rfl, rfl, rfl, by simp, by omega, by omega, by simp, hR, Below.refl _ _⟩
  case round =>
    obtain ⟨i, n, o, rfl, rfl, rfl, ho, hi, hAi, hn, hr, hb⟩ := hrel
    by_cases hlt : i < 9 ∧ A + i < s.size
    · obtain ⟨hi9, hsi⟩ := hlt
      have ho' := ho (by omega)
      have hg : s[A + i].toNat % 128 * 128 ^ i ≤ 127 * 72057594037927936 := Nat.mul_le_mul (by omega) (pow128_le (by omega))
      have hp := pow128_le (i := i) (by omega)
      have HL : Hid (n + s[A + i].toNat % 128 * 128 ^ i < 128 ^ (i + 1)) := step_lt _ hn
      have hpr : (s[A + i].toNat : Int) % 128 * o = ((s[A + i].toNat % 128 * 128 ^ i : Nat) : Int) := by rw [ho']; simp
      have hp9 : 128 ^ (i + 1) ≤ 9223372036854775808 := Nat.le_trans (Nat.pow_le_pow_right (by decide) (show i + 1 ≤ 9 by omega)) (by decide)
      have HW : Hid (wrap64 ((n : Int) + wrap64 ((s[A + i].toNat : Int) % 128 * 128 ^ i)) = ((n + s[A + i].toNat % 128 * 128 ^ i : Nat) : Int)) := by
        show _ = _
        have e3 : ((s[A + i].toNat : Int) % 128 * 128 ^ i) = ((s[A + i].toNat % 128 * 128 ^ i : Nat) : Int) := by simp
        have h1 := HL.out
        have e1 : wrap64 ((s[A + i].toNat % 128 * 128 ^ i : Nat) : Int) = ((s[A + i].toNat % 128 * 128 ^ i : Nat) : Int) := by unfold wrap64; omega
        rw [e3, e1, ← Int.natCast_add]
        unfold wrap64
        omega
      have HO : Hid (i + 1 ≤ 8 → wrap64 ((128 : Int) ^ i * 128) = ((128 ^ (i + 1) : Nat) : Int)) := fun h8 => by
        have e1 : ((128 : Int) ^ i * 128) = ((128 ^ (i + 1) : Nat) : Int) := by rw [Nat.pow_succ]; simp
        have := pow128_le h8
        rw [e1]
        unfold wrap64
        omega
      have HR : Hid (s[A + i].toNat < 128 → R = if i ≤ 7 ∧ (i = 0 ∨ s[A + i].toNat ≠ 0) then some (n + s[A + i].toNat % 128 * 128 ^ i, i + 1) else none) := fun hbl => by
        rcases Nat.lt_or_ge i 8 with h8 | h8
        · rw [gvf_at _ _ _ (by rw [len_drop]; omega) h8, byte_at s A i hsi, if_pos hbl] at hr
          rw [← hr]
          by_cases hz : s[A + i].toNat = 0 ∧ 0 < i
          · rw [if_pos hz, if_neg (by omega)]
          · rw [if_neg hz, if_pos (by omega)]
        · rw [gvf_end _ _ _ (.inl h8)] at hr
          rw [if_neg (by omega), hr]
      have HC : Hid (¬ s[A + i].toNat < 128 → gvf (8 - (i + 1)) ((s.data.toList.drop A).drop (i + 1)) (i + 1) (n + s[A + i].toNat % 128 * 128 ^ i) = R) := fun hbl => by
        rcases Nat.lt_or_ge i 8 with h8 | h8
        · rw [gvf_at _ _ _ (by rw [len_drop]; omega) h8, byte_at s A i hsi, if_neg hbl] at hr
          exact hr
        · rw [gvf_end _ _ _ (.inl h8)] at hr
          rw [gvf_end _ _ _ (.inl (by omega)), hr]
      clear hpr ho hg hp hp9 hr
      go_wp2_with fail
      · have hbl : s[A + i].toNat < 128 := by omega
        rw [HW.out]
        obtain ⟨v1, v2⟩ := vlen i n s[A + i].toNat hn hbl (by omega)
        have hm : s[A + i].toNat % 128 = s[A + i].toNat := Nat.mod_eq_of_lt hbl
        have hR' := HR.out hbl
        rw [hm] at hR' ⊢
        refine (specPut_any _ _).mono ?_
        rintro e w1 ⟨rfl, hb1⟩
        have hb2 : Below w.heap.size w w1 := hb.trans (hb1.mono hb.size)
        generalize vtext ((n + s[A + i].toNat * 128 ^ i : Nat) : Int) = T at *
        generalize n + s[A + i].toNat * 128 ^ i = m at *
        by_cases hT : T.size = i + 1
        · obtain ⟨q1, q2, q3⟩ := v1 hT
          rw [if_pos ⟨q1, q2⟩] at hR'
          subst hR'
          have hT' : (T.size : Int) = i + 1 := by omega
          have q3' : (m : Int) ≤ 72057594037927935 := by omega
          clear v1 v2 HW HO HR HC HL
          go_wp2_with fail
          go_ret3
          refine ⟨?_, hb2⟩
          simp only [gvV]
          rw [show (A : Int) + i + 1 = A + ((i + 1 : Nat) : Int) by omega]
          rfl
        · rw [if_neg (fun h => hT (v2 h))] at hR'
          subst hR'
          have hT' : ¬ (T.size : Int) = i + 1 := by omega
          clear v1 v2 HW HO HR HC HL
          go_wp2_with fail
          go_ret3
          exact ⟨rfl, hb2⟩
      · have hbl : ¬ s[A + i].toNat < 128 := by omega
        exact ⟨⟨i + 1, _, _, by simp, by rw [HW.out], rfl, HO.out, by omega, by omega, HL.out, HC.out hbl, hb⟩, by simp only [intOf]; omega⟩
    · have hn0 : R = none := by
        rw [← hr]
        exact gvf_end _ _ _ (by rw [len_drop]; omega)
      subst hn0
      clear ho hr
      by_cases h9 : i < 9
      · have h9' : (i : Int) < 9 := by omega
        have hse : ¬ (A : Int) + i < s.size := by omega
        go_wp2_with fail
        go_ret3
        exact ⟨rfl, hb⟩
      · have h9' : ¬ (i : Int) < 9 := by omega
        go_wp2_with fail
        go_ret3
        exact ⟨rfl, hb⟩

set_option maxRecDepth 100000 in
set_option maxHeartbeats 1000000 in
theorem specGet_any (s : ByteArray) (k : Int) (w : World) (hs : s.size ≤ maxLen) :
    Calls Tryz.prog 55 #[.string s, .int .i64 k] w fun e w' => e = .returned (gvV k (gv s k)) ∧ Below w.heap.size w w' := by
  by_cases h : 0 ≤ k ∧ k < s.size
  · obtain ⟨m, rfl⟩ : ∃ m : Nat, k = m := ⟨k.toNat, by omega⟩
    have e : gv s (m : Int) = gvf 8 (s.data.toList.drop m) 0 0 := by simp only [gv]; rw [if_pos h]; simp
    rw [e]
    exact specGet_in s m w hs (by omega)
  · have e : gv s k = none := by simp only [gv]; rw [if_neg h]
    rw [e]
    unfold maxLen at hs
    rcases (show k < 0 ∨ (s.size : Int) ≤ k by omega) with h1 | h1
    · go_enter Tryz.func55, Tryz.ntmps55
      go_wp2_with fail
      go_ret3
      exact ⟨rfl, Below.refl _ _⟩
    · have h2 : ¬ k < 0 := by omega
      go_enter Tryz.func55, Tryz.ntmps55
      go_wp2_with fail
      go_ret3
      exact ⟨rfl, Below.refl _ _⟩

set_option maxRecDepth 100000 in
set_option maxHeartbeats 1000000 in
theorem implGet_any (s : ByteArray) (k : Int) (w : World) (hs : s.size ≤ maxLen) :
    Calls Tryz.prog 44 #[.string s, .int .i64 k] w fun e w' => e = .returned (gvV k (gv s k)) ∧ Below w.heap.size w w' := by
  by_cases h : 0 ≤ k ∧ k < s.size
  · obtain ⟨m, rfl⟩ : ∃ m : Nat, k = m := ⟨k.toNat, by omega⟩
    have e : gv s (m : Int) = gvf 8 (s.data.toList.drop m) 0 0 := by simp only [gv]; rw [if_pos h]; simp
    rw [e]
    exact implGet_in s m w hs (by omega)
  · have e : gv s k = none := by simp only [gv]; rw [if_neg h]
    rw [e]
    unfold maxLen at hs
    rcases (show k < 0 ∨ (s.size : Int) ≤ k by omega) with h1 | h1
    · go_enter Tryz.func44, Tryz.ntmps44
      go_wp2_with fail
      go_ret3
      exact ⟨rfl, Below.refl _ _⟩
    · have h2 : ¬ k < 0 := by omega
      go_enter Tryz.func44, Tryz.ntmps44
      go_wp2_with fail
      go_ret3
      exact ⟨rfl, Below.refl _ _⟩
end Go.Proofs.YtgmfjninimebmaaGreatDoor
