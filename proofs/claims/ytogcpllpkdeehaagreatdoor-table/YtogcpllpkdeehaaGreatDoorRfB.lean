import Derived.Test.YtogcpllpkdeehaaGreatDoorRfT
namespace Go.Proofs.YtogcpllpkdeehaaGreatDoor
open Go.RowKit Go.Maps
set_option linter.unusedVariables false
set_option linter.unusedSimpArgs false

/-- The number that a text begins with. -/
def lead (s : ByteArray) : Nat := le4 (s.data.toList.getD 0 0) (s.data.toList.getD 1 0) (s.data.toList.getD 2 0) (s.data.toList.getD 3 0)

set_option maxRecDepth 100000 in
set_option maxHeartbeats 1000000 in
theorem getWord_any (s : ByteArray) (w : World) (h : 4 ≤ s.size) (hs : s.size ≤ 1048576) :
    Calls Tryz.prog 73 #[.string s] w fun e w' => e = .returned (.int .i64 (lead s : Nat)) ∧ Below w.heap.size w w' := by
  have y0 := s[0].toNat_lt
  have y1 := s[1].toNat_lt
  have y2 := s[2].toNat_lt
  have y3 := s[3].toNat_lt
  have p0 : (0 : Int) < s.size := by omega
  have p1 : (1 : Int) < s.size := by omega
  have p2 : (2 : Int) < s.size := by omega
  have p3 : (3 : Int) < s.size := by omega
  have q0 : 0 < s.size := by omega
  have q1 : 1 < s.size := by omega
  have q2 : 2 < s.size := by omega
  have q3 : 3 < s.size := by omega
  have J1 : Hid (bits .or .i64 (s[0].toNat : Int) (s[1].toNat * 256) = (s[0].toNat : Int) + s[1].toNat * 256) := i64_join 8 _ _ (by omega) (by omega) (by omega) (by omega) (by omega) (by omega)
  have J2 : Hid (bits .or .i64 ((s[0].toNat : Int) + s[1].toNat * 256) (s[2].toNat * 65536) = (s[0].toNat : Int) + s[1].toNat * 256 + s[2].toNat * 65536) := i64_join 16 _ _ (by omega) (by omega) (by omega) (by omega) (by omega) (by omega)
  have J3 : Hid (bits .or .i64 ((s[0].toNat : Int) + s[1].toNat * 256 + s[2].toNat * 65536) (s[3].toNat * 16777216) = (s[0].toNat : Int) + s[1].toNat * 256 + s[2].toNat * 65536 + s[3].toNat * 16777216) := i64_join 24 _ _ (by omega) (by omega) (by omega) (by omega) (by omega) (by omega)
  have HV : Hid ((s[0].toNat : Int) + s[1].toNat * 256 + s[2].toNat * 65536 + s[3].toNat * 16777216 = (lead s : Nat)) := by
    show _ = _
    simp only [lead, le4]
    rw [← byte_get s 0 (by omega), ← byte_get s 1 (by omega), ← byte_get s 2 (by omega), ← byte_get s 3 (by omega)]
    omega
  have HBl : Hid (∀ n, Below w.heap.size w (w.drewN n)) := fun n => ⟨rfl, rfl, rfl, Nat.le_refl _, fun _ _ => rfl⟩
  go_enter Tryz.func73, Tryz.ntmps73
  go_wp2_with fail
  go_quiet (fail)
  go_wp2_with fail
  go_ret
  refine ⟨?_, HBl.out _⟩
  show Ending.returned (.int .i64 (bits .or .i64 (bits .or .i64 (bits .or .i64 (s[0].toNat : Int) (s[1].toNat * 256)) (s[2].toNat * 65536)) (s[3].toNat * 16777216))) = _
  rw [J1.out, J2.out, J3.out, HV.out]
end Go.Proofs.YtogcpllpkdeehaaGreatDoor
namespace Go.Proofs.YtogcpllpkdeehaaGreatDoor
open Go.RowKit Go.Maps
set_option linter.unusedVariables false
set_option linter.unusedSimpArgs false

/-- What c pages hold beside their first bytes. -/
def content (L : List UInt8) (F c : Nat) : List UInt8 := (List.range (63 * c)).map (cb L F)
theorem content_len (L : List UInt8) (F c : Nat) : (content L F c).length = 63 * c := by simp [content]
theorem content_get (L : List UInt8) (F c i : Nat) (h : i < 63 * c) : (content L F c).getD i 0 = cb L F i := by simp [content, List.getD, h]
theorem content_zero (L : List UInt8) (F : Nat) : content L F 0 = [] := rfl
/-- A page more. -/
theorem content_succ (L : List UInt8) (F c : Nat) (h : F + 64 * (c + 1) ≤ L.length) : content L F (c + 1) = content L F c ++ (L.drop (F + 64 * c + 1)).take 63 := by
  apply List.ext_getElem?
  intro i
  by_cases h1 : i < 63 * c
  · rw [List.getElem?_append_left (by rw [content_len]; exact h1)]
    simp only [content, List.getElem?_map]
    rw [List.getElem?_range (by omega), List.getElem?_range h1]
  · rw [List.getElem?_append_right (by rw [content_len]; omega), content_len]
    by_cases h2 : i < 63 * (c + 1)
    · simp only [content, List.getElem?_map]
      rw [List.getElem?_range h2, List.getElem?_take_of_lt (by omega), List.getElem?_drop]
      simp only [Option.map_some, cb, List.getD]
      have e : F + 64 * c + 1 + (i - 63 * c) = F + 1 + i / 63 * 64 + i % 63 := by omega
      rw [e, List.getElem?_eq_getElem (by omega)]
      rfl
    · rw [List.getElem?_eq_none (by rw [content_len]; omega), List.getElem?_eq_none (by rw [List.length_take, List.length_drop]; omega)]
/-- The payload lies behind the head. -/
theorem content_pay (L : List UInt8) (F c n : Nat) (h : 8 + n ≤ 63 * c) : ((content L F c).drop 8).take n = pay L F n := by
  apply List.ext_getElem?
  intro i
  by_cases h1 : i < n
  · rw [List.getElem?_take_of_lt h1, List.getElem?_drop]
    simp only [content, pay, List.getElem?_map]
    rw [List.getElem?_range (by omega), List.getElem?_range h1]
    rfl
  · rw [List.getElem?_eq_none (by rw [List.length_take, List.length_drop, content_len]; omega), List.getElem?_eq_none (by rw [pay_len]; omega)]
theorem content_word (L : List UInt8) (F c j : Nat) (h : j + 4 ≤ 63 * c) : le4 ((content L F c).getD j 0) ((content L F c).getD (j + 1) 0) ((content L F c).getD (j + 2) 0) ((content L F c).getD (j + 3) 0) = word L F j := by
  rw [content_get _ _ _ _ (by omega), content_get _ _ _ _ (by omega), content_get _ _ _ _ (by omega), content_get _ _ _ _ (by omega)]
  rfl
theorem content_zeros (L : List UInt8) (F c a : Nat) (h : a ≤ 63 * c) : zeros L F a (63 * c) = true ↔ ∀ x ∈ (content L F c).drop a, x = 0 := by
  rw [zeros_iff]
  constructor
  · intro hz x hx
    obtain ⟨i, hi, rfl⟩ := List.getElem_of_mem hx
    rw [List.length_drop, content_len] at hi
    rw [List.getElem_drop]
    have := hz (a + i) (by omega) (by omega)
    rw [← this, ← content_get L F c (a + i) (by omega)]
    simp [List.getD, content_len, (by omega : a + i < 63 * c)]
  · intro hx i h1 h2
    rw [← content_get L F c i h2]
    have hm : (content L F c).getD i 0 ∈ (content L F c).drop a := by
      rw [List.mem_iff_getElem]
      refine ⟨i - a, by rw [List.length_drop, content_len]; omega, ?_⟩
      rw [List.getElem_drop]
      simp [List.getD, content_len, h2, show a + (i - a) = i by omega]
    exact hx _ hm
/-- The head's first number, seen at the page itself. -/
theorem lead_page (s : ByteArray) (F : Nat) (h : F + 64 ≤ s.size) : lead (s.extract (F + 1) s.size) = word s.data.toList F 0 := by
  have e : (s.extract (F + 1) s.size).data.toList = s.data.toList.drop (F + 1) := by
    simp only [ByteArray.data_extract, Array.toList_extract, List.extract]
    rw [List.take_of_length_le]
    rw [List.length_drop, len_data]
    exact Nat.le_refl _
  unfold lead word cb
  rw [e]
  simp only [getD_drop]
end Go.Proofs.YtogcpllpkdeehaaGreatDoor
