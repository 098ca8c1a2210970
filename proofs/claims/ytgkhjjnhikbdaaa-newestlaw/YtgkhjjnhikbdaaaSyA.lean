import Derived.Test.YtgkhjjnhikbdaaaDrA

namespace Go.Proofs.Ytgkhjjnhikbdaaa
open Go.RowKit Go.Maps
set_option linter.unusedVariables false
set_option linter.unusedSimpArgs false

/-- What the draw at a place is made of, where the code has come to its end. -/
def tkE (x y p len : Nat) : Int := (x : Int) * 131 + y * 1117 + p * 29 + (p : Int) / len * 53
/-- The number below n that is drawn at a place. -/
def tk (bs : List UInt8) (p n : Nat) : Nat :=
  if n = 0 ∨ bs = [] then 0
  else if p < bs.length ∧ n ≤ 256 then (bs.getD p 0).toNat % n
  else ((tkE (bs.getD (p % bs.length) 0).toNat (bs.getD ((p * 7 + 3) % bs.length) 0).toNat p bs.length).toNat ^^^ (tkE (bs.getD (p % bs.length) 0).toNat (bs.getD ((p * 7 + 3) % bs.length) 0).toNat p bs.length).toNat / 64) % n
theorem tk_lt (bs : List UInt8) (p n : Nat) (hn : 1 ≤ n) : tk bs p n < n := by
  unfold tk
  split
  · omega
  · split <;> exact Nat.mod_lt _ hn
theorem take_numE (E : Int) (n : Nat) (h0 : 0 ≤ E) (h1 : E < 4611686018427387904) : (bits .xor .i64 E (E / 64)).tmod (n : Int) = (((E.toNat ^^^ E.toNat / 64) % n : Nat) : Int) := by
  obtain ⟨X, rfl⟩ : ∃ X : Nat, E = X := ⟨E.toNat, by omega⟩
  rw [show ((X : Int) / 64) = ((X / 64 : Nat) : Int) by omega, i64_xor_nat X (X / 64) (by omega) (by omega)]
  rfl

set_option maxRecDepth 100000 in
set_option maxHeartbeats 1000000 in
theorem l1Take_tk (a : Option Addr) (cap : Nat) (bs : List UInt8) (p n : Nat) (w : World) (hx : LieB w a bs) (hl : bs.length ≤ 1048576) (hp : p ≤ 1000000) (hn2 : n ≤ 2000000) :
    Calls Try.prog 26 #[.slice a bs.length cap, .int .i64 p, .int .i64 n] w fun e w' => e = .returned (.tuple #[.int .i64 (tk bs p n : Nat), .int .i64 ((p + 1 : Nat) : Int)]) ∧ Below w.heap.size w w' := by
  by_cases hn0 : n = 0
  · have e : tk bs p n = 0 := by unfold tk; rw [if_pos (.inl hn0)]
    rw [e]
    subst hn0
    go_enter Try.func26, Try.ntmps26
    go_wp2_with fail
    go_ret2
    exact ⟨rfl, Below.refl _ _⟩
  have hn : 1 ≤ n := by omega
  have hn1 : ¬ (n : Int) < 1 := by omega
  by_cases h0 : bs = []
  · have e : tk bs p n = 0 := by unfold tk; rw [if_pos (.inr h0)]
    rw [e]
    subst h0
    go_enter Try.func26, Try.ntmps26
    go_wp2_with fail
    go_ret2
    exact ⟨rfl, Below.refl _ _⟩
  · have hpos : 0 < bs.length := List.length_pos_iff.2 h0
    have hno : ¬ (n = 0 ∨ bs = []) := fun h => h.elim hn0 h0
    rcases hx with h | ⟨b, off, rfl, hbl, hc⟩
    · exact absurd h h0
    by_cases hpl : p < bs.length ∧ n ≤ 256
    · have e : tk bs p n = (bs.getD p 0).toNat % n := by unfold tk; rw [if_neg hno, if_pos hpl]
      rw [e]
      obtain ⟨hpl, hn3⟩ := hpl
      have c0 := hc p hpl
      have hb := (bs.getD p 0).toNat_lt
      generalize (bs.getD p 0).toNat = x at *
      have hwx : wrap64 (x : Int) = x := by unfold wrap64; omega
      have HT : Hid ((x : Int) % (n : Int) = ((x % n : Nat) : Int)) := (Int.natCast_emod x n).symm
      clear hc h0 hno e hn0
      generalize bs.length = len at *
      generalize x % n = r at *
      go_enter Try.func26, Try.ntmps26
      go_wp2_with fail
      go_ret2
      refine ⟨?_, Below.refl _ _⟩
      rw [HT.out]
      rfl
    · have e : tk bs p n = ((tkE (bs.getD (p % bs.length) 0).toNat (bs.getD ((p * 7 + 3) % bs.length) 0).toNat p bs.length).toNat ^^^ (tkE (bs.getD (p % bs.length) 0).toNat (bs.getD ((p * 7 + 3) % bs.length) 0).toNat p bs.length).toNat / 64) % n := by unfold tk; rw [if_neg hno, if_neg hpl]
      have hcs : (p : Int) < bs.length → 256 < (n : Int) := fun h => by
        by_cases h2 : n ≤ 256
        · exact absurd ⟨by omega, h2⟩ hpl
        · omega
      have c0 := hc (p % bs.length) (Nat.mod_lt _ hpos)
      have c1 := hc ((p * 7 + 3) % bs.length) (Nat.mod_lt _ hpos)
      have hb := (bs.getD (p % bs.length) 0).toNat_lt
      have hb2 := (bs.getD ((p * 7 + 3) % bs.length) 0).toNat_lt
      generalize (bs.getD (p % bs.length) 0).toNat = x at *
      generalize (bs.getD ((p * 7 + 3) % bs.length) 0).toNat = y at *
      have hwx : wrap64 (x : Int) = x := by unfold wrap64; omega
      have hwy : wrap64 (y : Int) = y := by unfold wrap64; omega
      generalize tk bs p n = r at *
      clear hc h0 hno hpl
      generalize bs.length = len at *
      have m0 : (0 : Int) ≤ (p : Int) % len := Int.emod_nonneg _ (by omega)
      have m1 : (p : Int) % len < len := Int.emod_lt_of_pos _ (by omega)
      have m2 : (0 : Int) ≤ ((p : Int) * 7 + 3) % len := Int.emod_nonneg _ (by omega)
      have m3 : ((p : Int) * 7 + 3) % len < len := Int.emod_lt_of_pos _ (by omega)
      have q1 : (0 : Int) ≤ (p : Int) / len := Int.ediv_nonneg (by omega) (by omega)
      have q2 : (p : Int) / len ≤ p := Int.ediv_le_self _ (by omega)
      have hr2 := take_numE ((x : Int) * 131 + y * 1117 + p * 29 + (p : Int) / len * 53) n (by omega) (by omega)
      rw [show ((((x : Int) * 131 + y * 1117 + p * 29 + (p : Int) / len * 53).toNat ^^^ ((x : Int) * 131 + y * 1117 + p * 29 + (p : Int) / len * 53).toNat / 64) % n) = r from e.symm] at hr2
      clear e
      by_cases hpl : p < len
      · have hpl' : (p : Int) < (len : Int) := by omega
        have hn3 : ¬ (n : Int) ≤ 256 := by have := hcs hpl'; omega
        clear hcs
        go_enter Try.func26, Try.ntmps26
        go_wp2_with fail
        go_ret2
        exact ⟨rfl, Below.refl _ _⟩
      · have hpl' : ¬ (p : Int) < (len : Int) := by omega
        clear hcs
        go_enter Try.func26, Try.ntmps26
        go_wp2_with fail
        go_ret2
        exact ⟨rfl, Below.refl _ _⟩

/-- A text n times. -/
def rep : Nat → ByteArray → ByteArray
  | 0, _ => ByteArray.empty
  | n + 1, b => rep n b ++ b
theorem rep_one (b : ByteArray) : rep 1 b = b := by
  show ByteArray.empty ++ b = b
  simp
theorem rep_size (n : Nat) (b : ByteArray) (hb : b.size = 1) : (rep n b).size = n := by
  induction n with
  | zero => rfl
  | succ n ih =>
    show (rep n b ++ b).size = n + 1
    rw [ByteArray.size_append, ih, hb]
theorem rep_add (m k : Nat) (b : ByteArray) : rep m b ++ rep k b = rep (m + k) b := by
  induction k with
  | zero =>
    show rep m b ++ ByteArray.empty = rep m b
    simp
  | succ k ih =>
    show rep m b ++ (rep k b ++ b) = rep (m + k) b ++ b
    rw [← ih, ByteArray.append_assoc]

set_option maxRecDepth 100000 in
set_option maxHeartbeats 1000000 in
theorem l1Long_rep : ∀ (n : Nat) (b : ByteArray) (w : World), b.size = 1 → n ≤ 2000000 → Calls Try.prog 48 #[.int .i64 n, .string b] w fun e w' => e = .returned (.string (rep n b)) ∧ Below w.heap.size w w' := by
  intro n
  induction n using Nat.strongRecOn with
  | ind n ih =>
    intro b w hb hn
    replace ih := hd0 ih
    by_cases h0 : n = 0
    · subst h0
      go_enter Try.func48, Try.ntmps48
      go_wp2_with fail
      refine wp_loop_rounds 1 ?_
      rw [rounds_succ]
      go_wp2_with fail
      go_ret
      exact ⟨rfl, Below.refl _ _⟩
    · have hpos : (0 : Int) < n := by omega
      have hpos' : ¬ (n : Int) ≤ 0 := by omega
      have HO := hd0 (rep_one b)
      have HS := hd0 (fun m => rep_size m b hb)
      have HA := hd0 (fun m k => rep_add m k b)
      obtain ⟨R, hR⟩ : ∃ R, R = rep n b := ⟨_, rfl⟩
      rw [← hR]
      replace hR := hd0 hR
      go_enter Try.func48, Try.ntmps48
      go_wp2_with fail
      go_loopw [5] (fun v wr => ∃ m : Nat, v = .string (rep m b) ∧ 1 ≤ m ∧ m ≤ n ∧ Below w.heap.size w wr) (fun v _ => n - (strSz v))
      case atStart => exact ⟨1, by rw [HO.out], by omega, by omega, Below.refl _ _⟩
      case round =>
        obtain ⟨m, rfl, h1, h2, hbw⟩ := hrel
        have hts := HS.out m
        have HD := hd0 (HA.out m m)
        have HK := hd0 (HA.out m (n - m))
        have HM : Hid (m = n → rep m b = R) := fun h => by rw [hR.out, h]
        generalize rep m b = t at *
        by_cases hc : t.size * 2 ≤ n
        · have hc' : (t.size : Int) * 2 ≤ n := by omega
          have hc2 : decide ((t.size : Int) * 2 ≤ (n : Int)) = true := by rw [decide_eq_true_iff]; exact hc'
          have hsa : (t ++ t).size = t.size + t.size := ByteArray.size_append
          have hml : (t.size : Int) + t.size ≤ 9223372036854775807 := by omega
          subst hts
          go_wp2_with fail
          refine ⟨⟨t.size + t.size, by rw [HD.out], by omega, by omega, hbw⟩, ?_⟩
          simp only [strSz, hsa]
          omega
        · have hc' : ¬ (t.size : Int) * 2 ≤ n := by omega
          have hc2 : decide ((t.size : Int) * 2 ≤ (n : Int)) = false := by rw [decide_eq_false_iff_not]; exact hc'
          subst hts
          by_cases hl : t.size < n
          · have hl' : (t.size : Int) < n := by omega
            have HQ : Hid ((n : Int) - t.size = ((n - t.size : Nat) : Int)) := by show _ = _; omega
            have hrs := HS.out (n - t.size)
            have HE : Hid (t ++ rep (n - t.size) b = R) := by
              show _ = _
              rw [HK.out, hR.out, show t.size + (n - t.size) = n by omega]
            have ih1 := hd0 (ih.out (n - t.size) (by omega) b wr hb (by omega))
            generalize rep (n - t.size) b = t1 at *
            have hml : (t.size : Int) + t1.size ≤ 9223372036854775807 := by omega
            clear hrs
            go_wp2_with fail
            rw [HQ.out]
            refine ih1.out.mono ?_
            rintro e w1 ⟨rfl, hb1⟩
            go_wp2_with fail
            go_ret
            exact ⟨by rw [HE.out]; rfl, hbw.trans (hb1.mono hbw.size)⟩
          · have hl' : ¬ (t.size : Int) < n := by omega
            go_wp2_with fail
            go_ret
            exact ⟨by rw [HM.out (by omega)]; rfl, hbw⟩
end Go.Proofs.Ytgkhjjnhikbdaaa
