import Derived.Test.YtgkhjjnhikbdaaaNaI

import Derived.Laws.Bits64
namespace Go.Proofs.Ytgkhjjnhikbdaaa
open Go.RowKit Go.Maps
set_option linter.unusedVariables false
set_option linter.unusedSimpArgs false

theorem hd0 {p : Prop} (h : p) : Hid p := h
def strSz : Value → Nat
  | .string s => s.size
  | _ => 0
/-- The bytes bs lie at a. -/
def LieB (w : World) (a : Option Addr) (bs : List UInt8) : Prop :=
  bs = [] ∨ ∃ b off, a = some ⟨b, off, none⟩ ∧ b < w.heap.size ∧ ∀ i, i < bs.length → w.cell? ⟨b, off + i, none⟩ = some (.int .u8 ((bs.getD i 0).toNat : Int))
theorem LieB.below {w w' : World} {a : Option Addr} {bs : List UInt8} (h : LieB w a bs) (hb : Below w.heap.size w w') : LieB w' a bs := by
  rcases h with h | ⟨b, off, rfl, hl, hc⟩
  · exact .inl h
  · exact .inr ⟨b, off, rfl, Nat.lt_of_lt_of_le hl hb.size, fun i hi => (hb.cell (p := ⟨b, off + i, none⟩) hl).trans (hc i hi)⟩
theorem i64_xor_nat (a b : Nat) (ha : a < 4611686018427387904) (hb : b < 4611686018427387904) : bits .xor .i64 (a : Int) (b : Int) = ((a ^^^ b : Nat) : Int) := by
  have hx : a ^^^ b < 2 ^ 62 := Nat.xor_lt_two_pow (by omega) (by omega)
  have h1 : (BitVec.ofInt 64 (a : Int)).toNat = a := by
    rw [BitVec.ofInt_natCast, BitVec.toNat_ofNat]; exact Nat.mod_eq_of_lt (by omega)
  have h2 : (BitVec.ofInt 64 (b : Int)).toNat = b := by
    rw [BitVec.ofInt_natCast, BitVec.toNat_ofNat]; exact Nat.mod_eq_of_lt (by omega)
  show IntKind.i64.wrap ((BitVec.ofInt 64 (a : Int) ^^^ BitVec.ofInt 64 (b : Int)).toNat : Int) = _
  rw [BitVec.toNat_xor, h1, h2, IntKind.wrap_i64]
  omega
theorem take_num (E : Int) (n : Nat) (h0 : 0 ≤ E) (h1 : E < 4611686018427387904) (hn : 1 ≤ n) : ∃ r : Nat, r < n ∧ (bits .xor .i64 E (E / 64)).tmod (n : Int) = r := by
  obtain ⟨X, rfl⟩ : ∃ X : Nat, E = X := ⟨E.toNat, by omega⟩
  rw [show ((X : Int) / 64) = ((X / 64 : Nat) : Int) by omega, i64_xor_nat X (X / 64) (by omega) (by omega)]
  exact ⟨(X ^^^ X / 64) % n, Nat.mod_lt _ hn, rfl⟩

set_option maxRecDepth 100000 in
set_option maxHeartbeats 1000000 in
theorem l1Take_any (a : Option Addr) (cap : Nat) (bs : List UInt8) (p n : Nat) (w : World) (hx : LieB w a bs) (hl : bs.length ≤ 1048576) (hp : p ≤ 1000000) (hn : 1 ≤ n) (hn2 : n ≤ 256) :
    Calls Try.prog 26 #[.slice a bs.length cap, .int .i64 p, .int .i64 n] w fun e w' => ∃ r : Nat, r < n ∧ e = .returned (.tuple #[.int .i64 r, .int .i64 ((p + 1 : Nat) : Int)]) ∧ Below w.heap.size w w' := by
  have hn1 : ¬ (n : Int) < 1 := by omega
  by_cases h0 : bs = []
  · subst h0
    go_enter Try.func26, Try.ntmps26
    go_wp2_with fail
    go_ret2
    exact ⟨0, by omega, rfl, Below.refl _ _⟩
  · have hpos : 0 < bs.length := List.length_pos_iff.2 h0
    rcases hx with h | ⟨b, off, rfl, hbl, hc⟩
    · exact absurd h h0
    by_cases hpl : p < bs.length
    · have c0 := hc p hpl
      have hb := (bs.getD p 0).toNat_lt
      generalize (bs.getD p 0).toNat = x at *
      have hwx : wrap64 (x : Int) = x := by unfold wrap64; omega
      have HT : Hid (Int.tmod (x : Int) n = ((x % n : Nat) : Int)) := rfl
      have HL : Hid (x % n < n) := Nat.mod_lt _ hn
      clear hc h0
      generalize bs.length = len at *
      go_enter Try.func26, Try.ntmps26
      go_wp2_with fail
      go_ret2
      exact ⟨x % n, HL.out, by first | rfl | (rw [HT.out]; rfl), Below.refl _ _⟩
    · have c0 := hc (p % bs.length) (Nat.mod_lt _ hpos)
      have c1 := hc ((p * 7 + 3) % bs.length) (Nat.mod_lt _ hpos)
      have hb := (bs.getD (p % bs.length) 0).toNat_lt
      have hb2 := (bs.getD ((p * 7 + 3) % bs.length) 0).toNat_lt
      generalize (bs.getD (p % bs.length) 0).toNat = x at *
      generalize (bs.getD ((p * 7 + 3) % bs.length) 0).toNat = y at *
      have hwx : wrap64 (x : Int) = x := by unfold wrap64; omega
      have hwy : wrap64 (y : Int) = y := by unfold wrap64; omega
      clear hc h0
      generalize bs.length = len at *
      have m0 : (0 : Int) ≤ (p : Int) % len := Int.emod_nonneg _ (by omega)
      have m1 : (p : Int) % len < len := Int.emod_lt_of_pos _ (by omega)
      have m2 : (0 : Int) ≤ ((p : Int) * 7 + 3) % len := Int.emod_nonneg _ (by omega)
      have m3 : ((p : Int) * 7 + 3) % len < len := Int.emod_lt_of_pos _ (by omega)
      have q1 : (0 : Int) ≤ (p : Int) / len := Int.ediv_nonneg (by omega) (by omega)
      have q2 : (p : Int) / len ≤ p := Int.ediv_le_self _ (by omega)
      obtain ⟨r, hr1, hr2⟩ := take_num ((x : Int) * 131 + y * 1117 + p * 29 + (p : Int) / len * 53) n (by omega) (by omega) hn
      replace hr1 := hd0 hr1
      go_enter Try.func26, Try.ntmps26
      go_wp2_with fail
      go_ret2
      exact ⟨r, hr1.out, rfl, Below.refl _ _⟩

set_option maxRecDepth 100000 in
set_option maxHeartbeats 1000000 in
theorem l1Long_any : ∀ (n : Nat) (b : ByteArray) (w : World), b.size = 1 → n ≤ 2000000 → Calls Try.prog 48 #[.int .i64 n, .string b] w fun e w' => ∃ t : ByteArray, t.size = n ∧ e = .returned (.string t) ∧ Below w.heap.size w w' := by
  intro n
  induction n using Nat.strongRecOn with
  | ind n ih =>
    intro b w hb hn
    replace ih := hd0 ih
    by_cases h0 : n = 0
    · subst h0
      go_enter Try.func48, Try.ntmps48
      go_wp2_with fail
      refine wp_loop_rounds 1 ?_
      rw [rounds_succ]
      go_wp2_with fail
      go_ret
      exact ⟨_, rfl, rfl, Below.refl _ _⟩
    · have hpos : (0 : Int) < n := by omega
      have hpos' : ¬ (n : Int) ≤ 0 := by omega
      go_enter Try.func48, Try.ntmps48
      go_wp2_with fail
      go_loopw [5] (fun v wr => ∃ t : ByteArray, v = .string t ∧ 1 ≤ t.size ∧ t.size ≤ n ∧ Below w.heap.size w wr) (fun v _ => n - (strSz v))
      case atStart => exact ⟨b, rfl, by omega, by omega, Below.refl _ _⟩
      case round =>
        obtain ⟨t, rfl, h1, h2, hbw⟩ := hrel
        by_cases hc : t.size * 2 ≤ n
        · have hc' : (t.size : Int) * 2 ≤ n := by omega
          have hc2 : decide ((t.size : Int) * 2 ≤ (n : Int)) = true := by rw [decide_eq_true_iff]; exact hc'
          have hsa : (t ++ t).size = t.size + t.size := ByteArray.size_append
          have hml : (t.size : Int) + t.size ≤ 9223372036854775807 := by omega
          go_wp2_with fail
          refine ⟨⟨t ++ t, rfl, by omega, by omega, hbw⟩, ?_⟩
          simp only [strSz, hsa]
          omega
        · have hc' : ¬ (t.size : Int) * 2 ≤ n := by omega
          have hc2 : decide ((t.size : Int) * 2 ≤ (n : Int)) = false := by rw [decide_eq_false_iff_not]; exact hc'
          by_cases hl : t.size < n
          · have hl' : (t.size : Int) < n := by omega
            have HQ : Hid ((n : Int) - t.size = ((n - t.size : Nat) : Int)) := by show _ = _; omega
            go_wp2_with fail
            rw [HQ.out]
            refine (ih.out _ (by omega) b wr hb (by omega)).mono ?_
            rintro e w1 ⟨t1, ht1, rfl, hb1⟩
            have hsz1 : (t ++ t1).size = t.size + t1.size := ByteArray.size_append
            have hml : (t.size : Int) + t1.size ≤ 9223372036854775807 := by omega
            go_wp2_with fail
            go_ret
            exact ⟨t ++ t1, by omega, rfl, hbw.trans (hb1.mono hbw.size)⟩
          · have hl' : ¬ (t.size : Int) < n := by omega
            go_wp2_with fail
            go_ret
            exact ⟨t, by omega, rfl, hbw⟩
end Go.Proofs.Ytgkhjjnhikbdaaa
