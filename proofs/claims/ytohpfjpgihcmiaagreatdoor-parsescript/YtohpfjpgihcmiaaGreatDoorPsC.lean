import Derived.Test.YtohpfjpgihcmiaaGreatDoorPsB

namespace Go.Proofs.YtohpfjpgihcmiaaGreatDoor
open Go.RowKit Go.Maps
set_option linter.unusedVariables false
set_option linter.unusedSimpArgs false

/-- What a part stands for as a word. -/
def woO (s : ByteArray) : Option ByteArray := if s.data.toList.all inW = true ∧ s.size ≠ 0 then some (if s = ⟨#[95]⟩ then ByteArray.empty else s) else none
/-- What the model's reader of words gives. -/
def woS (s : ByteArray) : ByteArray × Bool := if s.data.toList.all inW = true then (if s = ⟨#[95]⟩ then (ByteArray.empty, true) else (s, decide (0 < s.size))) else (ByteArray.empty, false)
theorem woS_O (s : ByteArray) : woO s = if (woS s).2 = true then some (woS s).1 else none := by
  unfold woO woS
  by_cases h1 : s.data.toList.all inW = true
  · by_cases h2 : s = ⟨#[95]⟩
    · subst h2
      simp only [h1, if_true, true_and]
      rw [if_pos (by decide)]
    · simp only [h1, if_true, true_and, if_neg h2]
      by_cases h3 : s.size = 0
      · rw [if_neg (by simp [h3]), if_neg (by simp [h3])]
      · rw [if_pos (by simpa using h3), if_pos (by simp; omega)]
  · rw [if_neg (fun h => h1 h.1), if_neg h1]
    simp
theorem neL {s : ByteArray} {l : List UInt8} (h : ¬ s = ⟨l.toArray⟩) : (s.toList == l) = false := by
  cases h' : (s.toList == l) with
  | false => rfl
  | true =>
    exact absurd (by
      have e : s.toList = l := by simpa using h'
      rw [ByteArray.toList_eq] at e
      exact ByteArray.ext (Array.toList_inj.1 (by rw [e]))) h
theorem take_snocP (l : List UInt8) (k : Nat) (h : k < l.length) : l.take (k + 1) = l.take k ++ [l.getD k 0] := by
  rw [List.take_succ_eq_append_getElem h]
  simp [List.getD, h]
set_option maxRecDepth 100000 in
set_option maxHeartbeats 1000000 in
theorem l7Word_any (s : ByteArray) (w : World) (hs : s.size ≤ 1048576) :
    Calls Tryz.prog 24 #[.string s] w fun e w' => e = .returned (.tuple #[.string (woS s).1, .bool (woS s).2]) ∧ Below w.heap.size w w' := by
  have hlen : s.data.toList.length = s.size := by rw [Array.length_toList]; rfl
  have HW : Hid (woS s = if s.data.toList.all inW = true then (if s = ⟨#[95]⟩ then (ByteArray.empty, true) else (s, decide (0 < s.size))) else (ByteArray.empty, false)) := rfl
  generalize woS s = W at *
  go_enter Tryz.func24, Tryz.ntmps24
  go_wp2_with fail
  go_loopw [4] (fun i wr => ∃ k : Nat, k ≤ s.size ∧ i = .int .i64 k ∧ Hid ((s.data.toList.take k).all inW = true) ∧ Below w.heap.size w wr) (fun i _ => s.size - (intOf i).toNat)
  case atStart => exact ⟨0, Nat.zero_le _, rfl, rfl, Below.refl _ _⟩
  case round =>
    obtain ⟨k, hk, rfl, HA, hb⟩ := hrel
    by_cases hlt : k < s.size
    · have hlt' : (k : Int) < (s.size : Int) := by omega
      have hbd := bget_data s k hlt
      have HT := hdN (take_snocP s.data.toList k (by omega))
      generalize s.data.toList.getD k 0 = c at *
      have hc := c.toNat_lt
      by_cases hd : inW c = true
      · have hd' := hd
        unfold inW at hd'
        simp only [Bool.and_eq_true, decide_eq_true_eq] at hd'
        obtain ⟨c1, c2⟩ := hd'
        have c1' : ¬ (c.toNat : Int) < 33 := by omega
        have c2' : ¬ (126 : Int) < (c.toNat : Int) := by omega
        have HA2 : Hid ((s.data.toList.take (k + 1)).all inW = true) := by show _ = _; rw [HT.out, List.all_append, HA.out]; simp [hd]
        go_wp2_with fail
        exact ⟨⟨k + 1, by omega, by go_num, HA2, hb⟩, by simp only [intOf]; omega⟩
      · have hv : W = (ByteArray.empty, false) := by
          rw [HW.out, if_neg]
          intro h3
          have hm : c ∈ s.data.toList.take (k + 1) := by rw [HT.out]; simp
          exact hd (List.all_eq_true.1 h3 c (List.mem_of_mem_take hm))
        subst hv
        have hcc : c.toNat < 33 ∨ (¬ c.toNat < 33 ∧ 126 < c.toNat) := by
          unfold inW at hd
          simp only [Bool.and_eq_true, decide_eq_true_eq] at hd
          omega
        rcases hcc with c1 | ⟨c1, c2⟩
        · have c1' : (c.toNat : Int) < 33 := by omega
          go_wp2_with fail
          go_ret2
          exact ⟨rfl, hb⟩
        · have c1' : ¬ (c.toNat : Int) < 33 := by omega
          have c2' : (126 : Int) < (c.toNat : Int) := by omega
          go_wp2_with fail
          go_ret2
          exact ⟨rfl, hb⟩
    · obtain rfl : k = s.size := by omega
      have hik : ¬ (s.size : Int) < (s.size : Int) := by omega
      have ht : s.data.toList.take s.size = s.data.toList := by rw [← hlen]; exact List.take_length
      rw [ht] at HA
      have HW2 := HW.out
      rw [if_pos HA.out] at HW2
      by_cases h2 : s = ⟨#[95]⟩
      · rw [if_pos h2] at HW2
        subst HW2
        subst h2
        clear HW HA ht hlen
        go_wp2_with fail
        go_ret2
        exact ⟨rfl, hb⟩
      · rw [if_neg h2] at HW2
        subst HW2
        have h2' : (s.toList == [95]) = false := neL h2
        clear HW HA ht hlen
        go_wp2_with fail
        go_ret2
        exact ⟨by first | rfl | simp, hb⟩

/-- What the model's reader of numbers gives. -/
def nuS (l : List UInt8) : Int × Bool := if l = [45, 49] then (-1, true) else if 1 ≤ l.length ∧ l.length ≤ 8 ∧ l.all isD = true then ((valD l : Nat), decide (Lib.decDigits (valD l) = l)) else (0, false)
theorem nuS_S (l : List UInt8) : numS l = if (nuS l).2 = true then some (nuS l).1 else none := by
  unfold numS nuS
  by_cases h1 : l = [45, 49]
  · rw [if_pos h1, if_pos h1]; rfl
  · rw [if_neg h1, if_neg h1]
    by_cases h2 : 1 ≤ l.length ∧ l.length ≤ 8 ∧ l.all isD = true
    · rw [if_pos h2]
      by_cases h3 : Lib.decDigits (valD l) = l
      · rw [if_pos ⟨h2.1, h2.2.1, h2.2.2, h3⟩, if_pos (by simp [h3])]
      · rw [if_neg (fun h => h3 h.2.2.2), if_neg (by simp [h3])]
    · rw [if_neg h2, if_neg (fun h => h2 ⟨h.1, h.2.1, h.2.2.1⟩)]
      simp
set_option maxRecDepth 100000 in
set_option maxHeartbeats 1000000 in
theorem l7Number_any (s : ByteArray) (w : World) (hs : s.size ≤ 1048576) :
    Calls Tryz.prog 11 #[.string s] w fun e w' => e = .returned (.tuple #[.int .i64 (nuS s.data.toList).1, .bool (nuS s.data.toList).2]) ∧ Below w.heap.size w w' := by
  have hlen : s.data.toList.length = s.size := by rw [Array.length_toList]; rfl
  have HN : Hid (nuS s.data.toList = if s = ⟨#[45, 49]⟩ then ((-1 : Int), true) else if 1 ≤ s.size ∧ s.size ≤ 8 ∧ s.data.toList.all isD = true then (((valD s.data.toList : Nat) : Int), decide (dgB (valD s.data.toList) = s)) else (0, false)) := by
    show _ = _
    unfold nuS
    have e0 : (s.data.toList = [45, 49]) ↔ s = ⟨#[45, 49]⟩ := by
      constructor
      · intro h
        exact ByteArray.ext (Array.toList_inj.1 (by rw [h]))
      · intro h
        rw [h]
    have e1 : (Lib.decDigits (valD s.data.toList) = s.data.toList) ↔ dgB (valD s.data.toList) = s := by
      unfold dgB
      constructor
      · intro h
        rw [h]
      · intro h
        have h2 := congrArg (fun b => b.data.toList) h
        simpa using h2
    simp only [e0, e1, hlen]
  have HS := hdN (fun (n : Nat) (hn : n < 1000000000) (w : World) => show_any (n : Int) (by omega) (by omega) w)
  generalize nuS s.data.toList = V at *
  by_cases hm : s = ⟨#[45, 49]⟩
  · have hV := HN.out
    rw [if_pos hm] at hV
    subst hV
    subst hm
    clear HN hlen HS
    go_enter Tryz.func11, Tryz.ntmps11
    go_wp2_with fail
    go_ret2
    exact ⟨rfl, Below.refl _ _⟩
  have hm' : (s.toList == [45, 49]) = false := neL hm
  rw [if_neg hm] at HN
  by_cases h1 : s.size < 1
  · have hV := HN.out
    rw [if_neg (by omega)] at hV
    subst hV
    have h1' : (s.size : Int) < 1 := by omega
    go_enter Tryz.func11, Tryz.ntmps11
    go_wp2_with fail
    go_ret2
    exact ⟨rfl, Below.refl _ _⟩
  by_cases h8 : 8 < s.size
  · have hV := HN.out
    rw [if_neg (by omega)] at hV
    subst hV
    have h1' : ¬ (s.size : Int) < 1 := by omega
    have h8' : (8 : Int) < (s.size : Int) := by omega
    go_enter Tryz.func11, Tryz.ntmps11
    go_wp2_with fail
    go_ret2
    exact ⟨rfl, Below.refl _ _⟩
  have h1' : ¬ (s.size : Int) < 1 := by omega
  have h8' : ¬ (8 : Int) < (s.size : Int) := by omega
  go_enter Tryz.func11, Tryz.ntmps11
  go_wp2_with fail
  go_loopw [4, 5] (fun vn vi wr => ∃ k : Nat, k ≤ s.size ∧ vi = .int .i64 (k : Int) ∧ vn = .int .i64 (valD (s.data.toList.take k) : Nat) ∧ Hid ((s.data.toList.take k).all isD = true) ∧ Below w.heap.size w wr) (fun _ vi _ => s.size - (intOf vi).toNat)
  case atStart => exact ⟨0, Nat.zero_le _, rfl, rfl, rfl, Below.refl _ _⟩
  case round =>
    obtain ⟨k, hk, rfl, rfl, HA, hb⟩ := hrel
    have hvb : valD (s.data.toList.take k) < 1000000000 := by
      have h1 := valD_lt _ HA.out
      have h2 : (10 : Nat) ^ (s.data.toList.take k).length ≤ 10 ^ 8 := Nat.pow_le_pow_right (by omega) (by rw [List.length_take]; omega)
      have e9 : (10 : Nat) ^ 8 = 100000000 := by decide
      omega
    by_cases hlt : k < s.size
    · have hlt' : (k : Int) < (s.size : Int) := by omega
      have hbd := bget_data s k hlt
      have HT := hdN (take_snocP s.data.toList k (by omega))
      generalize s.data.toList.getD k 0 = c at *
      have hc := c.toNat_lt
      by_cases hd : isD c = true
      · have hd' := hd
        unfold isD at hd'
        simp only [Bool.and_eq_true, decide_eq_true_eq] at hd'
        obtain ⟨c1, c2⟩ := hd'
        have c1' : ¬ (c.toNat : Int) < 48 := by omega
        have c2' : ¬ (57 : Int) < (c.toNat : Int) := by omega
        have c3 : IntKind.u8.wrap ((c.toNat : Int) - 48) = (c.toNat : Int) - 48 := by rw [IntKind.wrap_u8]; omega
        have HV : Hid (valD (s.data.toList.take (k + 1)) = valD (s.data.toList.take k) * 10 + (c.toNat - 48)) := by show _ = _; rw [HT.out, valD_snoc]
        have HA2 : Hid ((s.data.toList.take (k + 1)).all isD = true) := by show _ = _; rw [HT.out, List.all_append, HA.out]; simp [hd]
        generalize valD (s.data.toList.take k) = n at *
        go_wp2_with fail
        exact ⟨⟨k + 1, by omega, by go_num, by rw [HV.out]; congr 1; omega, HA2, hb⟩, by simp only [intOf]; omega⟩
      · have hv : V = (0, false) := by
          rw [HN.out, if_neg]
          rintro ⟨-, -, h3⟩
          have hm : c ∈ s.data.toList.take (k + 1) := by rw [HT.out]; simp
          exact hd (List.all_eq_true.1 h3 c (List.mem_of_mem_take hm))
        subst hv
        have hcc : c.toNat < 48 ∨ (¬ c.toNat < 48 ∧ 57 < c.toNat) := by
          unfold isD at hd
          simp only [Bool.and_eq_true, decide_eq_true_eq] at hd
          omega
        generalize valD (s.data.toList.take k) = n at *
        rcases hcc with c1 | ⟨c1, c2⟩
        · have c1' : (c.toNat : Int) < 48 := by omega
          go_wp2_with fail
          go_ret2
          exact ⟨rfl, hb⟩
        · have c1' : ¬ (c.toNat : Int) < 48 := by omega
          have c2' : (57 : Int) < (c.toNat : Int) := by omega
          go_wp2_with fail
          go_ret2
          exact ⟨rfl, hb⟩
    · obtain rfl : k = s.size := by omega
      have hik : ¬ (s.size : Int) < (s.size : Int) := by omega
      have ht : s.data.toList.take s.size = s.data.toList := by rw [← hlen]; exact List.take_length
      rw [ht] at HA hvb
      have HVt : Hid (valD (s.data.toList.take s.size) = valD s.data.toList) := by show _ = _; rw [ht]
      have HV2 : Hid (V = (((valD s.data.toList : Nat) : Int), decide (dgB (valD s.data.toList) = s))) := by
        show _ = _
        rw [HN.out, if_pos ⟨by omega, by omega, HA.out⟩]
      have HSn := hdN (HS.out (valD s.data.toList) hvb)
      rw [HVt.out]
      clear HVt HN HA ht HS
      generalize valD s.data.toList = n at *
      have hV := HV2.out
      subst hV
      clear HV2
      rw [itB_nat] at HSn
      go_wp2_with fail
      refine (HSn.out _).mono ?_
      rintro e w1 ⟨rfl, hb1⟩
      have hbb := hb.trans (hb1.mono hb.size)
      have hq : ((dgB n).toList == s.toList) = decide (dgB n = s) := by
        by_cases h : dgB n = s
        · rw [h]; simp
        · cases h' : ((dgB n).toList == s.toList) with
          | false => simp [h]
          | true => exact absurd (toListN h') h
      go_wp2_with fail
      go_ret2
      exact ⟨by first | rfl | simp [hq] | (rw [hq]; rfl), hbb⟩
end Go.Proofs.YtohpfjpgihcmiaaGreatDoor
