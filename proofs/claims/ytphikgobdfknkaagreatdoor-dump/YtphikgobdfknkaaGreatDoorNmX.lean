import Derived.Test.YtphikgobdfknkaaGreatDoorRefX
import Derived.Test.YtphikgobdfknkaaGreatDoorProg
import Derived.Lib.ItoaNum
import Derived.Lib.ItoaMem
import Derived.Lib.AtoiAll
import Derived.Deep.RegionHeld3
namespace Go.Proofs.YtphikgobdfknkaaGreatDoor
set_option linter.unusedVariables false
set_option linter.unusedSimpArgs false

/-- One byte is a digit. -/
def isD (c : UInt8) : Bool := decide (48 ≤ c.toNat) && decide (c.toNat ≤ 57)
/-- What digits spell. -/
def valD (l : List UInt8) : Nat := l.foldl (fun n c => n * 10 + (c.toNat - 48)) 0
theorem valD_snoc (l : List UInt8) (c : UInt8) : valD (l ++ [c]) = valD l * 10 + (c.toNat - 48) := by simp [valD]
theorem dig_nat {u : Nat} (h : u < 10) : (UInt8.ofNat (48 + u)).toNat = 48 + u := by
  rw [UInt8.toNat_ofNat_of_lt' (by show 48 + u < 256; omega)]
theorem isD_dig {u : Nat} (h : u < 10) : isD (UInt8.ofNat (48 + u)) = true := by
  unfold isD
  rw [dig_nat h]
  simp
  omega
theorem decD_cases (u : Nat) : (u < 10 ∧ Lib.decDigits u = [UInt8.ofNat (48 + u)]) ∨ (¬ u < 10 ∧ Lib.decDigits u = Lib.decDigits (u / 10) ++ [UInt8.ofNat (48 + u % 10)]) := by
  by_cases h : u < 10
  · exact .inl ⟨h, by rw [Lib.decDigits, dif_pos h]⟩
  · exact .inr ⟨h, by rw [Lib.decDigits, dif_neg h]⟩
theorem decD_all : ∀ (u : Nat), (Lib.decDigits u).all isD = true ∧ valD (Lib.decDigits u) = u ∧ Lib.decDigits u ≠ [] := by
  intro u
  induction u using Nat.strongRecOn with
  | _ u ih =>
    rcases decD_cases u with ⟨h, e⟩ | ⟨h, e⟩
    · rw [e]
      refine ⟨by simp only [List.all_cons, List.all_nil, Bool.and_true]; exact isD_dig h, ?_, by simp⟩
      simp only [valD, List.foldl_cons, List.foldl_nil]
      rw [dig_nat h]
      omega
    · obtain ⟨i1, i2, i3⟩ := ih (u / 10) (by omega)
      have hm : u % 10 < 10 := Nat.mod_lt _ (by omega)
      rw [e]
      refine ⟨by simp only [List.all_append, i1, List.all_cons, List.all_nil, Bool.and_true, Bool.true_and]; exact isD_dig hm, ?_, by simp⟩
      rw [valD_snoc, i2, dig_nat hm]
      omega
theorem fold_lt : ∀ (l : List UInt8) (acc : Nat), l.all isD = true → l.foldl (fun n c => n * 10 + (c.toNat - 48)) acc < (acc + 1) * 10 ^ l.length
  | [], acc, _ => by simp
  | c :: l, acc, h => by
    rw [List.all_cons, Bool.and_eq_true] at h
    have h2 := h.1
    unfold isD at h2
    simp only [Bool.and_eq_true, decide_eq_true_eq] at h2
    have ih := fold_lt l (acc * 10 + (c.toNat - 48)) h.2
    rw [List.foldl_cons, List.length_cons, Nat.pow_succ]
    refine Nat.lt_of_lt_of_le ih ?_
    have e : (acc + 1) * (10 ^ l.length * 10) = ((acc + 1) * 10) * 10 ^ l.length := by rw [Nat.mul_comm (10 ^ l.length) 10, ← Nat.mul_assoc]
    rw [e]
    exact Nat.mul_le_mul_right _ (by omega)
theorem valD_lt (l : List UInt8) (h : l.all isD = true) : valD l < 10 ^ l.length := by
  have := fold_lt l 0 h
  simpa [valD] using this
theorem parse_snoc : ∀ (l : List UInt8) (acc : Nat) (c : UInt8), Lib.parseUint10 acc (l ++ [c]) = match Lib.parseUint10 acc l with
    | .ok u => Lib.parseUint10 u [c]
    | .«syntax» => .«syntax»
    | .range => .range
  | [], acc, c => rfl
  | d :: l, acc, c => by
    rw [List.cons_append]
    simp only [Lib.parseUint10]
    split
    · split
      · rfl
      · split
        · rfl
        · exact parse_snoc l _ c
    · rfl
theorem parse_dec : ∀ (u : Nat), u < 18446744073709551616 → Lib.parseUint10 0 (Lib.decDigits u) = .ok u := by
  intro u
  induction u using Nat.strongRecOn with
  | _ u ih =>
    intro hu
    rcases decD_cases u with ⟨h, e⟩ | ⟨h, e⟩
    · rw [e]
      simp only [Lib.parseUint10]
      rw [dig_nat h, if_pos (by omega), if_neg (by omega), if_neg (by omega)]
      congr 1
      omega
    · have hm : u % 10 < 10 := Nat.mod_lt _ (by omega)
      rw [e, parse_snoc, ih (u / 10) (by omega) (by omega)]
      simp only [Lib.parseUint10]
      rw [dig_nat hm, if_pos (by omega), if_neg (by omega), if_neg (by omega)]
      congr 1
      omega
theorem dec_head (u : Nat) : ∃ c r, Lib.decDigits u = c :: r ∧ 48 ≤ c.toNat ∧ c.toNat ≤ 57 := by
  obtain ⟨h1, -, h3⟩ := decD_all u
  cases h : Lib.decDigits u with
  | nil => exact absurd h h3
  | cons c r =>
    rw [h] at h1
    simp only [List.all_cons, Bool.and_eq_true, isD, decide_eq_true_eq] at h1
    exact ⟨c, r, rfl, h1.1.1, h1.1.2⟩
theorem atoi_dec (u : Nat) (hu : u < 9223372036854775808) : Lib.atoiAll (Lib.decDigits u) = .ok (u : Int) := by
  obtain ⟨c, r, e, h1, h2⟩ := dec_head u
  have hp := parse_dec u (by omega)
  rw [e] at hp ⊢
  unfold Lib.atoiAll
  simp only
  rw [if_neg (by omega)]
  unfold Lib.parseMag
  rw [if_neg (by simp), hp]
  simp only
  rw [if_neg (by omega), if_neg (by omega)]
  first | (rw [if_neg (by omega)]) | skip
/-- The number that a part of a store name is, 0 if it is none. -/
def valN (l : List UInt8) : Nat := if 1 ≤ l.length ∧ l.length ≤ 9 ∧ l.all isD = true ∧ 1 ≤ valD l ∧ Lib.decDigits (valD l) = l then valD l else 0
theorem nDig_le : ∀ (k u : Nat), u < 10 ^ (k + 1) → Lib.nDigits u ≤ k + 1
  | 0, u, h => by rw [Lib.nDigits_small (by simpa using h)]; exact Nat.le_refl _
  | k + 1, u, h => by
    by_cases h1 : u < 10
    · rw [Lib.nDigits_small h1]; omega
    · rw [Lib.nDigits_big h1]
      rw [Nat.pow_succ] at h
      have := nDig_le k (u / 10) (by omega)
      omega
theorem valN_dec {n : Nat} (h1 : 1 ≤ n) (h2 : n ≤ 999999999) : valN (Lib.decDigits n) = n := by
  obtain ⟨i1, i2, i3⟩ := decD_all n
  have hl : 1 ≤ (Lib.decDigits n).length := List.length_pos_iff.2 i3
  have hl9 : (Lib.decDigits n).length ≤ 9 := by
    rw [Lib.decDigits_length]
    exact nDig_le 8 n (by omega)
  unfold valN
  rw [if_pos ⟨hl, hl9, i1, by rw [i2]; exact h1, by rw [i2]⟩, i2]
/-- It is a number as the program's reader takes it. -/
theorem valN_iff (l : List UInt8) : (∃ v : Int, Lib.atoiAll l = .ok v ∧ Lib.itoa v = l ∧ 1 ≤ v ∧ v ≤ 999999999) ↔ valN l ≠ 0 := by
  constructor
  · rintro ⟨v, -, h2, h3, h4⟩
    obtain ⟨n, rfl⟩ : ∃ n : Nat, v = n := ⟨v.toNat, by omega⟩
    rw [Lib.itoa_nonneg] at h2
    rw [← h2, valN_dec (by omega) (by omega)]
    omega
  · intro h
    unfold valN at h
    split at h
    · rename_i hh
      obtain ⟨a1, a2, a3, a4, a5⟩ := hh
      have hlt := valD_lt l a3
      have hp : 10 ^ l.length ≤ 10 ^ 9 := Nat.pow_le_pow_right (by omega) a2
      have e9 : (10 : Nat) ^ 9 = 1000000000 := by decide
      refine ⟨(valD l : Int), ?_, ?_, by omega, by omega⟩
      · have := atoi_dec (valD l) (by omega)
        rwa [a5] at this
      · rw [Lib.itoa_nonneg, a5]
    · exact absurd rfl h
end Go.Proofs.YtphikgobdfknkaaGreatDoor
namespace Go.Proofs.YtphikgobdfknkaaGreatDoor
open Go.RowKit Go.Maps
set_option linter.unusedVariables false
set_option linter.unusedSimpArgs false

theorem hdN {p : Prop} (h : p) : Hid p := h
/-- A number as a text. -/
def itB (n : Int) : ByteArray := ⟨(Lib.itoa n).toArray⟩
def dgB (u : Nat) : ByteArray := ⟨(Lib.decDigits u).toArray⟩
theorem dig_cut : ∀ d, d < 10 → (⟨#[48, 49, 50, 51, 52, 53, 54, 55, 56, 57]⟩ : ByteArray).extract d (d + 1) = ⟨#[UInt8.ofNat (48 + d)]⟩ := by decide
theorem dgB_small {u : Nat} (h : u < 10) : dgB u = ⟨#[UInt8.ofNat (48 + u)]⟩ := by
  unfold dgB
  rw [Lib.decDigits_one h]
theorem dgB_big {u : Nat} (h : ¬ u < 10) : dgB u = dgB (u / 10) ++ ⟨#[UInt8.ofNat (48 + u % 10)]⟩ := by
  unfold dgB
  rw [Lib.decDigits, dif_neg h]
  apply ByteArray.ext
  simp
theorem dgB_size (u : Nat) (h : u < 18446744073709551616) : (dgB u).size ≤ 20 := by
  show (Lib.decDigits u).toArray.size ≤ 20
  rw [List.size_toArray, Lib.decDigits_length]
  exact nDig_le 19 u (by omega)
theorem itB_nat (u : Nat) : itB (u : Int) = dgB u := by unfold itB dgB; rw [Lib.itoa_nonneg]
set_option maxRecDepth 100000 in
set_option maxHeartbeats 1000000 in
theorem showDown_any (u : Nat) (hu : u ≤ 9223372036854775808) (w : World) :
    Calls Tryz.prog 32 #[.int .i64 (-(u : Int))] w fun e w' => e = .returned (.string (dgB u)) ∧ Below w.heap.size w w' := by
  induction u using Nat.strongRecOn generalizing w with
  | _ u ih =>
    have e1 : Int.tmod (-(u : Int)) 10 = -((u % 10 : Nat) : Int) := by rw [Int.neg_tmod]; rfl
    have e2 : Int.tdiv (-(u : Int)) 10 = -((u / 10 : Nat) : Int) := by rw [Int.neg_tdiv]; rfl
    have hd10 : u % 10 < 10 := Nat.mod_lt _ (by omega)
    have hc := dig_cut (u % 10) hd10
    by_cases h : u < 10
    · have hs := dgB_small h
      go_enter Tryz.func32, Tryz.ntmps32
      go_wp2_with fail
      go_ret
      refine ⟨?_, Below.refl _ _⟩
      rw [hc, hs, Nat.mod_eq_of_lt h]
      rfl
    · have hs := dgB_big h
      have HI := hdN (ih (u / 10) (by omega) (by omega))
      have hsz := dgB_size (u / 10) (by omega)
      have hne : ¬ -10 < -(u : Int) := by omega
      have u1 : ¬ 9223372036854775807 < (dgB (u / 10)).size + 1 := by omega
      have hv9 : u / 10 ≤ 922337203685477580 := by omega
      clear ih
      generalize u % 10 = d at *
      generalize u / 10 = v at *
      rw [hs]
      clear hs
      have hwv : IntKind.i64.wrap (-(v : Int)) = -(v : Int) := by rw [IntKind.wrap_i64]; omega
      have d0 : (0 : Int) ≤ (d : Int) := by omega
      have d3 : (d : Int) ≤ (d : Int) + 1 := by omega
      have d4 : IntKind.i64.wrap ((d : Int) + 1) = (d : Int) + 1 := by rw [IntKind.wrap_i64]; omega
      have d5 : ((d : Int) + 1).toNat = d + 1 := by omega
      have d1 : (d : Int) + 1 ≤ 10 := by omega
      have d2 : wrap64 ((d : Int) + 1) = (d : Int) + 1 := by unfold wrap64; omega
      go_enter Tryz.func32, Tryz.ntmps32
      go_wp2_with fail
      have hb0 : Below w.heap.size w w := Below.refl _ _
      go_region_held3 (fun w' => True) (trivial) ((go_at_call 32; (try rw [hwv]); refine (HI.out _).mono ?_; rintro e w1 ⟨rfl, hb1⟩; have HB1 := hdN ((hb0.drew).trans (hb1.mono hb0.drew.size)); clear hb1))
      all_goals go_wp2_with fail
      all_goals go_ret
      all_goals exact ⟨by rw [show UInt8.ofNat (48 + d) = 48 + UInt8.ofNat d from by simp]; rfl, HB1.out⟩
theorem show_any (n : Int) (h1 : -9223372036854775808 ≤ n) (h2 : n ≤ 9223372036854775807) (w : World) :
    Calls Tryz.prog 14 #[.int .i64 n] w fun e w' => e = .returned (.string (itB n)) ∧ Below w.heap.size w w' := by
  by_cases hn : n < 0
  · obtain ⟨u, rfl⟩ : ∃ u : Nat, n = -(u : Int) := ⟨n.natAbs, by omega⟩
    have HD := hdN (fun w => showDown_any u (by omega) w)
    have hsz := dgB_size u (by omega)
    have u1 : ¬ 9223372036854775807 < 1 + (dgB u).size := by omega
    have hit : itB (-(u : Int)) = ⟨#[45]⟩ ++ dgB u := by
      unfold itB dgB
      rw [Lib.itoa_neg u (by omega)]
      apply ByteArray.ext
      simp
    rw [hit]
    clear hit
    go_enter Tryz.func14, Tryz.ntmps14
    go_wp2_with fail
    refine (HD.out _).mono ?_
    rintro e w1 ⟨rfl, hb1⟩
    go_wp2_with fail
    go_ret
    exact ⟨rfl, hb1⟩
  · obtain ⟨u, rfl⟩ : ∃ u : Nat, n = (u : Int) := ⟨n.toNat, by omega⟩
    have HD := hdN (fun w => showDown_any u (by omega) w)
    rw [itB_nat]
    go_enter Tryz.func14, Tryz.ntmps14
    go_wp2_with fail
    refine (HD.out _).mono ?_
    rintro e w1 ⟨rfl, hb1⟩
    go_wp2_with fail
    go_ret
    exact ⟨rfl, hb1⟩
theorem toListN {a b : ByteArray} (h : (a.toList == b.toList) = true) : a = b := by
  rw [ByteArray.toList_eq, ByteArray.toList_eq] at h
  exact ByteArray.ext (Array.toList_inj.1 (by simpa using h))
theorem bget_data (s : ByteArray) (i : Nat) (h : i < s.size) : s[i]'h = s.data.toList.getD i 0 := by
  have h' : i < s.data.toList.length := by simpa using h
  rw [List.getD_eq_getElem?_getD, List.getElem?_eq_getElem h']
  simp
  rfl
set_option maxRecDepth 100000 in
set_option maxHeartbeats 1000000 in
theorem value_any (s : ByteArray) (w : World) (hs : s.size ≤ maxLen) :
    Calls Tryz.prog 28 #[.string s] w fun e w' => e = .returned (.int .i64 (valN s.data.toList : Nat)) ∧ Below w.heap.size w w' := by
  unfold maxLen at hs
  have hlen : s.data.toList.length = s.size := by rw [Array.length_toList]; rfl
  by_cases h1 : s.size < 1
  · have hv : valN s.data.toList = 0 := by unfold valN; rw [if_neg (by rw [hlen]; omega)]
    rw [hv]
    have h1' : (s.size : Int) < 1 := by omega
    go_enter Tryz.func28, Tryz.ntmps28
    go_wp2_with fail
    go_ret
    exact ⟨rfl, Below.refl _ _⟩
  by_cases h9 : 9 < s.size
  · have hv : valN s.data.toList = 0 := by unfold valN; rw [if_neg (by rw [hlen]; omega)]
    rw [hv]
    have h9' : (9 : Int) < (s.size : Int) := by omega
    go_enter Tryz.func28, Tryz.ntmps28
    go_wp2_with fail
    go_ret
    exact ⟨rfl, Below.refl _ _⟩
  have HS := hdN (fun (n : Nat) (hn : n < 1000000000) (w : World) => show_any (n : Int) (by omega) (by omega) w)
  generalize hVV : valN s.data.toList = V
  have HVV := hdN hVV
  clear hVV
  go_enter Tryz.func28, Tryz.ntmps28
  go_wp2_with fail
  have h9' : s.size ≤ 9 := by omega
  go_loopw [3, 4] (fun vn vi wr => ∃ k : Nat, k ≤ s.size ∧ vi = .int .i64 (k : Int) ∧ vn = .int .i64 (valD (s.data.toList.take k) : Nat) ∧ Hid ((s.data.toList.take k).all isD = true) ∧ Below w.heap.size w wr) (fun _ vi _ => s.size - (intOf vi).toNat)
  case atStart => exact ⟨0, Nat.zero_le _, rfl, rfl, rfl, Below.refl _ _⟩
  case round =>
    obtain ⟨k, hk, rfl, rfl, HA, hb⟩ := hrel
    by_cases hlt : k < s.size
    · have hlt' : (k : Int) < (s.size : Int) := by omega
      have hbd := bget_data s k hlt
      have HT : Hid (s.data.toList.take (k + 1) = s.data.toList.take k ++ [s.data.toList.getD k 0]) := by
        show _ = _
        rw [List.take_succ_eq_append_getElem (by rw [hlen]; exact hlt)]
        simp [List.getD, hlen, hlt]
      have hvb : valD (s.data.toList.take k) < 1000000000 := by
        have h1 := valD_lt _ HA.out
        have h2 : (10 : Nat) ^ (s.data.toList.take k).length ≤ 10 ^ 9 := Nat.pow_le_pow_right (by omega) (by rw [List.length_take]; omega)
        have e9 : (10 : Nat) ^ 9 = 1000000000 := by decide
        omega
      generalize s.data.toList.getD k 0 = c at *
      have hc := c.toNat_lt
      by_cases hd : isD c = true
      · have hd' := hd
        unfold isD at hd'
        simp only [Bool.and_eq_true, decide_eq_true_eq] at hd'
        obtain ⟨c1, c2⟩ := hd'
        have c1' : ¬ (c.toNat : Int) < 48 := by omega
        have c2' : ¬ (57 : Int) < (c.toNat : Int) := by omega
        have c3 : IntKind.u8.wrap ((c.toNat : Int) - 48) = (c.toNat : Int) - 48 := by rw [IntKind.wrap_u8]; omega
        have HV : Hid (valD (s.data.toList.take (k + 1)) = valD (s.data.toList.take k) * 10 + (c.toNat - 48)) := by show _ = _; rw [HT.out, valD_snoc]
        have HA2 : Hid ((s.data.toList.take (k + 1)).all isD = true) := by show _ = _; rw [HT.out, List.all_append, HA.out]; simp [hd]
        generalize valD (s.data.toList.take k) = n at *
        go_wp2_with fail
        exact ⟨⟨k + 1, by omega, by go_num, by rw [HV.out]; congr 1; omega, HA2, hb⟩, by simp only [intOf]; omega⟩
      · have hv : V = 0 := by
          rw [← HVV.out]
          unfold valN
          rw [if_neg]
          rintro ⟨-, -, h3, -⟩
          have hm : c ∈ s.data.toList.take (k + 1) := by rw [HT.out]; simp
          exact hd (List.all_eq_true.1 h3 c (List.mem_of_mem_take hm))
        subst hv
        have hcc : c.toNat < 48 ∨ (¬ c.toNat < 48 ∧ 57 < c.toNat) := by
          unfold isD at hd
          simp only [Bool.and_eq_true, decide_eq_true_eq] at hd
          omega
        generalize valD (s.data.toList.take k) = n at *
        rcases hcc with c1 | ⟨c1, c2⟩
        · have c1' : (c.toNat : Int) < 48 := by omega
          go_wp2_with fail
          go_ret
          exact ⟨rfl, hb⟩
        · have c1' : ¬ (c.toNat : Int) < 48 := by omega
          have c2' : (57 : Int) < (c.toNat : Int) := by omega
          go_wp2_with fail
          go_ret
          exact ⟨rfl, hb⟩
    · obtain rfl : k = s.size := by omega
      have hik : ¬ (s.size : Int) < (s.size : Int) := by omega
      have ht : s.data.toList.take s.size = s.data.toList := by rw [← hlen]; exact List.take_length
      rw [ht] at HA
      have HVt : Hid (valD (s.data.toList.take s.size) = valD s.data.toList) := by show _ = _; rw [ht]
      have hvb : valD s.data.toList < 1000000000 := by
        have h1 := valD_lt _ HA.out
        have h2 : (10 : Nat) ^ s.data.toList.length ≤ 10 ^ 9 := Nat.pow_le_pow_right (by omega) (by rw [hlen]; omega)
        have e9 : (10 : Nat) ^ 9 = 1000000000 := by decide
        omega
      have HN : Hid (V = if 1 ≤ valD s.data.toList ∧ dgB (valD s.data.toList) = s then valD s.data.toList else 0) := by
        show _ = _
        rw [← HVV.out]
        unfold valN
        have e1 : (Lib.decDigits (valD s.data.toList) = s.data.toList) ↔ dgB (valD s.data.toList) = s := by
          unfold dgB
          constructor
          · intro h
            rw [h]
          · intro h
            have h2 := congrArg (fun b => b.data.toList) h
            simpa using h2
        simp only [e1, hlen, HA.out]
        by_cases h : 1 ≤ valD s.data.toList ∧ dgB (valD s.data.toList) = s
        · rw [if_pos h, if_pos ⟨by omega, by omega, by trivial, h.1, h.2⟩]
        · rw [if_neg h, if_neg (fun hh => h ⟨hh.2.2.2.1, hh.2.2.2.2⟩)]
      have HSn := hdN (HS.out (valD s.data.toList) hvb)
      rw [HVt.out]
      clear HVt HVV HA ht
      generalize valD s.data.toList = n at *
      by_cases hn1 : n < 1
      · have hn' : (n : Int) < 1 := by omega
        have hV : V = 0 := by rw [HN.out, if_neg (by omega)]
        subst hV
        go_wp2_with fail
        go_ret
        exact ⟨rfl, hb⟩
      · have hn' : ¬ (n : Int) < 1 := by omega
        rw [itB_nat] at HSn
        go_wp2_with fail
        refine (HSn.out _).mono ?_
        rintro e w1 ⟨rfl, hb1⟩
        have hbb := hb.trans (hb1.mono hb.size)
        by_cases hq : dgB n = s
        · have hV : V = n := by rw [HN.out, if_pos ⟨by omega, hq⟩]
          subst hV
          have hq' : ((dgB V).toList == s.toList) = true := by rw [hq]; simp
          go_wp2_with fail
          go_ret
          exact ⟨rfl, hbb⟩
        · have hV : V = 0 := by rw [HN.out, if_neg (fun h => hq h.2)]
          subst hV
          have hq' : ((dgB n).toList == s.toList) = false := by
            cases h : ((dgB n).toList == s.toList) with
            | false => rfl
            | true => exact absurd (toListN h) hq
          go_wp2_with fail
          go_ret
          exact ⟨rfl, hbb⟩
end Go.Proofs.YtphikgobdfknkaaGreatDoor
