import Derived.Test.YtogcpllpkdeehaaGreatDoorCrX
namespace Go.Proofs.YtogcpllpkdeehaaGreatDoor
open Go.RowKit
set_option linter.unusedVariables false
set_option linter.unusedSimpArgs false

/-- Whether a kind is one of the six. -/
def kindOk (k : Int) : Bool := k == 66 || k == 73 || k == 70 || k == 87 || k == 77 || k == 82
/-- A number in four bytes. -/
def four (n : Nat) : List UInt8 := [UInt8.ofNat (n % 256), UInt8.ofNat (n / 256 % 256), UInt8.ofNat (n / 65536 % 256), UInt8.ofNat (n / 16777216 % 256)]
/-- What a frame's pages hold beside their first bytes. -/
def body (k : Nat) (p : List UInt8) : List UInt8 := four p.length ++ four (crc (UInt8.ofNat k :: p)) ++ p
/-- The first byte of the page that begins at byte i of the body, if one does. -/
def hdr (k i : Nat) : List UInt8 := if i = 0 then [UInt8.ofNat k] else if i % 63 = 0 then [99] else []
/-- The frame as far as i bytes of its body (zeros behind the body). -/
def fby (k : Nat) (b : List UInt8) : Nat → List UInt8
  | 0 => []
  | i + 1 => fby k b i ++ hdr k i ++ [b.getD i 0]
/-- How many pages. -/
def pagesN (n : Nat) : Nat := (n + 62) / 63
def frB (k : Nat) (p : List UInt8) : List UInt8 := fby k (body k p) (63 * pagesN (body k p).length)
/-- The frame's text. -/
def frT (k : Int) (p : ByteArray) : ByteArray := if kindOk k = true ∧ p.size ≤ 1048576 then ⟨(frB k.toNat p.data.toList).toArray⟩ else ⟨#[]⟩

theorem kindOk_cases {k : Int} (h : kindOk k = true) : k = 66 ∨ k = 73 ∨ k = 70 ∨ k = 87 ∨ k = 77 ∨ k = 82 := by
  simp only [kindOk, Bool.or_eq_true, beq_iff_eq] at h
  omega
theorem kindOk_iff (k : Int) : kindOk k = true ↔ (k = 66 ∨ k = 73 ∨ k = 70 ∨ k = 87 ∨ k = 77 ∨ k = 82) := by
  simp only [kindOk, Bool.or_eq_true, beq_iff_eq]
  omega
theorem frT_in {k : Int} {p : ByteArray} (h1 : kindOk k = true) (h2 : p.size ≤ 1048576) : frT k p = ⟨(frB k.toNat p.data.toList).toArray⟩ := by simp [frT, h1, h2]
theorem frT_out {k : Int} {p : ByteArray} (h : ¬ (kindOk k = true ∧ p.size ≤ 1048576)) : frT k p = ⟨#[]⟩ := by unfold frT; rw [if_neg h]
theorem body_len (k : Nat) (p : List UInt8) : (body k p).length = 8 + p.length := by simp [body, four]; omega

theorem fby_len (k : Nat) (b : List UInt8) (i : Nat) : (fby k b i).length = i + pagesN i := by
  induction i with
  | zero => simp [fby, pagesN]
  | succ i ih =>
    simp only [fby, List.length_append, ih, List.length_singleton]
    unfold hdr pagesN
    split
    · subst_vars; simp
    · split
      · simp; omega
      · simp; omega
/-- A page's first m bytes. -/
theorem fby_page (k : Nat) (b : List UInt8) (j m : Nat) (h1 : 1 ≤ m) (h2 : m ≤ 63) (h3 : 63 * j + m ≤ b.length) :
    fby k b (63 * j + m) = fby k b (63 * j) ++ hdr k (63 * j) ++ (b.drop (63 * j)).take m := by
  induction m with
  | zero => omega
  | succ m ih =>
    have hg : b.getD (63 * j + m) 0 = b[63 * j + m]'(by omega) := by simp [List.getD, (by omega : 63 * j + m < b.length)]
    have ht : (b.drop (63 * j)).take (m + 1) = (b.drop (63 * j)).take m ++ [b.getD (63 * j + m) 0] := by
      rw [List.take_succ_eq_append_getElem (by rw [List.length_drop]; omega), List.getElem_drop, hg]
    rcases Nat.eq_zero_or_pos m with h0 | h0
    · subst h0
      rw [ht]
      simp [fby]
    · have hh : hdr k (63 * j + m) = [] := by unfold hdr; rw [if_neg (by omega), if_neg (by omega)]
      rw [ht, ← List.append_assoc, ← ih h0 (by omega) (by omega)]
      show fby k b (63 * j + m) ++ hdr k (63 * j + m) ++ [b.getD (63 * j + m) 0] = _
      rw [hh, List.append_nil]
/-- The zeros behind the body. -/
theorem fby_pad (k : Nat) (b : List UInt8) (z : Nat) (hb : 0 < b.length) (hz : b.length + z ≤ 63 * pagesN b.length) :
    fby k b (b.length + z) = fby k b b.length ++ List.replicate z 0 := by
  induction z with
  | zero => simp
  | succ z ih =>
    have hh : hdr k (b.length + z) = [] := by unfold hdr; rw [if_neg (by omega), if_neg (by unfold pagesN at hz; omega)]
    have hg : b.getD (b.length + z) 0 = 0 := by simp [List.getD]
    show fby k b (b.length + z) ++ hdr k (b.length + z) ++ [b.getD (b.length + z) 0] = _
    rw [ih (by omega), hh, hg, List.append_nil, List.append_assoc, List.replicate_succ']
theorem pages_ge (n : Nat) : n ≤ 63 * pagesN n := by unfold pagesN; omega
end Go.Proofs.YtogcpllpkdeehaaGreatDoor
namespace Go.Proofs.YtogcpllpkdeehaaGreatDoor
open Go.RowKit Go.Maps
set_option linter.unusedVariables false
set_option linter.unusedSimpArgs false

theorem ret_b {a b : Bool} (h : a = b) : Ending.returned (.bool a) = .returned (.bool b) := by rw [h]

set_option maxRecDepth 100000 in
set_option maxHeartbeats 400000 in
theorem l2KindOk_any (k : Int) (w : World) :
    Calls Tryz.prog 54 #[.int .i64 k] w fun e w' => e = .returned (.bool (kindOk k)) ∧ w' = w := by
  by_cases h : kindOk k = true
  · rcases kindOk_cases h with rfl | rfl | rfl | rfl | rfl | rfl
    all_goals
      go_enter Tryz.func54, Tryz.ntmps54
      go_wp2_with fail
      go_ret
      exact ⟨rfl, rfl⟩
  · have h0 : ¬ (k = 66 ∨ k = 73 ∨ k = 70 ∨ k = 87 ∨ k = 77 ∨ k = 82) := fun x => h ((kindOk_iff k).2 x)
    rw [Bool.not_eq_true] at h
    rw [h]
    have n1 : ¬ k = 66 := by omega
    have n2 : ¬ k = 73 := by omega
    have n3 : ¬ k = 70 := by omega
    have n4 : ¬ k = 87 := by omega
    have n5 : ¬ k = 77 := by omega
    have n6 : ¬ k = 82 := by omega
    have b1 : (k == 66) = false := by simpa using n1
    have b2 : (k == 73) = false := by simpa using n2
    have b3 : (k == 70) = false := by simpa using n3
    have b4 : (k == 87) = false := by simpa using n4
    have b5 : (k == 77) = false := by simpa using n5
    have b6 : (k == 82) = false := by simpa using n6
    clear h h0
    go_enter Tryz.func54, Tryz.ntmps54
    go_wp2_with fail
    go_ret
    exact ⟨rfl, rfl⟩

set_option maxRecDepth 100000 in
set_option maxHeartbeats 400000 in
theorem isKind_any (k : Int) (w : World) :
    Calls Tryz.prog 46 #[.int .i64 k] w fun e w' => e = .returned (.bool (kindOk k)) ∧ w' = w := by
  by_cases h : kindOk k = true
  · rcases kindOk_cases h with rfl | rfl | rfl | rfl | rfl | rfl
    all_goals
      go_enter Tryz.func46, Tryz.ntmps46
      go_wp2_with fail
      go_ret
      exact ⟨rfl, rfl⟩
  · have h0 : ¬ (k = 66 ∨ k = 73 ∨ k = 70 ∨ k = 87 ∨ k = 77 ∨ k = 82) := fun x => h ((kindOk_iff k).2 x)
    rw [Bool.not_eq_true] at h
    rw [h]
    have n1 : ¬ k = 66 := by omega
    have n2 : ¬ k = 73 := by omega
    have n3 : ¬ k = 70 := by omega
    have n4 : ¬ k = 87 := by omega
    have n5 : ¬ k = 77 := by omega
    have n6 : ¬ k = 82 := by omega
    have b1 : (k == 66) = false := by simpa using n1
    have b2 : (k == 73) = false := by simpa using n2
    have b3 : (k == 70) = false := by simpa using n3
    have b4 : (k == 87) = false := by simpa using n4
    have b5 : (k == 77) = false := by simpa using n5
    have b6 : (k == 82) = false := by simpa using n6
    clear h h0
    go_enter Tryz.func46, Tryz.ntmps46
    go_wp2_with fail
    go_ret
    exact ⟨rfl, rfl⟩

theorem four_text (a b c d : UInt8) : (((⟨#[a]⟩ : ByteArray) ++ ⟨#[b]⟩) ++ ⟨#[c]⟩) ++ ⟨#[d]⟩ = ⟨[a, b, c, d].toArray⟩ := by
  apply ByteArray.ext
  simp

set_option maxRecDepth 100000 in
set_option maxHeartbeats 1000000 in
theorem l2Four_any (n : Nat) (w : World) (hn : n < 4294967296) :
    Calls Tryz.prog 55 #[.int .i64 n] w fun e w' => e = .returned (.string ⟨(four n).toArray⟩) ∧ Below w.heap.size w w' := by
  have e0 : UInt8.ofNat ((n : Int) % 256).toNat = UInt8.ofNat (n % 256) := by congr 1
  have e1 : UInt8.ofNat ((n : Int) / 256 % 256).toNat = UInt8.ofNat (n / 256 % 256) := by congr 1
  have e2 : UInt8.ofNat ((n : Int) / 65536 % 256).toNat = UInt8.ofNat (n / 65536 % 256) := by congr 1
  have e3 : UInt8.ofNat ((n : Int) / 16777216 % 256).toNat = UInt8.ofNat (n / 16777216 % 256) := by congr 1
  have HE : Hid ((((⟨#[UInt8.ofNat ((n : Int) % 256).toNat]⟩ : ByteArray) ++ ⟨#[UInt8.ofNat ((n : Int) / 256 % 256).toNat]⟩) ++ ⟨#[UInt8.ofNat ((n : Int) / 65536 % 256).toNat]⟩) ++ ⟨#[UInt8.ofNat ((n : Int) / 16777216 % 256).toNat]⟩ = ⟨(four n).toArray⟩) := by
    show _ = _
    rw [four_text, e0, e1, e2, e3]
    rfl
  clear e0 e1 e2 e3
  go_enter Tryz.func55, Tryz.ntmps55
  go_wp2_with fail
  refine (l2Byte_any _ _ (by omega) (by omega)).mono ?_
  rintro e w1 ⟨rfl, hb1⟩
  go_wp2_with fail
  refine (l2Byte_any _ _ (by omega) (by omega)).mono ?_
  rintro e w2 ⟨rfl, hb2⟩
  have hbw2 := hb1.trans (hb2.mono hb1.size)
  go_wp2_with fail
  refine (l2Byte_any _ _ (by omega) (by omega)).mono ?_
  rintro e w3 ⟨rfl, hb3⟩
  have hbw3 := hbw2.trans (hb3.mono hbw2.size)
  go_wp2_with fail
  refine (l2Byte_any _ _ (by omega) (by omega)).mono ?_
  rintro e w4 ⟨rfl, hb4⟩
  have hbw4 := hbw3.trans (hb4.mono hbw3.size)
  go_wp2_with fail
  go_ret
  exact ⟨by rw [← HE.out]; rfl, hbw4⟩

theorem conv_cells (w : World) (l : List UInt8) (cs : Array Value) (hcs : cs.toList = bc l) :
    (convert 22 9 (.slice (some ⟨w.heap.size, 0, none⟩) l.length l.length)).run Tryz.prog (w.alloc (.cells cs 5)) = .ok (.string ⟨l.toArray⟩) (w.alloc (.cells cs 5)) := by
  refine run_convert_bytes_back (P := Tryz.prog) _ 22 9 5 ⟨w.heap.size, 0, none⟩ l.length l Tryz.underlying22 Tryz.underlying5 Tryz.underlying9 (fun j hj => ?_)
  rw [Go.WideShapes.add_plain, World.cell?_alloc_at _ _ _ _ (by simp)]
  have e : cs[0 + j]? = (bc l)[j]? := by rw [← hcs]; simp
  show cs[0 + j]? = _
  rw [e]
  simp [hj]

set_option maxRecDepth 100000 in
set_option maxHeartbeats 1000000 in
theorem putWord_any (n : Nat) (w : World) (hn : n < 4294967296) :
    Calls Tryz.prog 48 #[.int .i64 n] w fun e w' => e = .returned (.string ⟨(four n).toArray⟩) ∧ Below w.heap.size w w' := by
  have hcv := conv_cells w (four n) #[.int .u8 ((n : Int) % 256), .int .u8 ((n : Int) / 256 % 256), .int .u8 ((n : Int) / 65536 % 256), .int .u8 ((n : Int) / 16777216)] (by
    simp only [four, bc, List.map_cons, List.map_nil]
    rw [byte_cell _ (by omega), byte_cell _ (by omega), byte_cell _ (by omega), byte_cell _ (by omega)]
    have e : n / 16777216 % 256 = n / 16777216 := Nat.mod_eq_of_lt (by omega)
    rw [e]
    simp)
  have hl : (four n).length = 4 := rfl
  rw [hl] at hcv
  go_enter Tryz.func48, Tryz.ntmps48
  go_wp2_with fail
  go_ret
  exact ⟨rfl, (Below.refl _ _).alloc (Nat.le_refl _) _⟩

set_option maxRecDepth 100000 in
theorem pages_any (n : Nat) (w : World) (hn : n ≤ 4294967296) :
    Calls Tryz.prog 47 #[.int .i64 n] w fun e w' => e = .returned (.int .i64 (pagesN (8 + n))) ∧ w' = w := by
  have e : ((pagesN (8 + n) : Nat) : Int) = (8 + (n : Int) + 63 - 1) / 63 := by unfold pagesN; omega
  rw [e]
  go_enter Tryz.func47, Tryz.ntmps47
  go_wp2_with fail
  go_ret
  exact ⟨rfl, rfl⟩

theorem cons_text (a : UInt8) (p : ByteArray) : (⟨#[a]⟩ : ByteArray) ++ p = ⟨(a :: p.data.toList).toArray⟩ := by
  apply ByteArray.ext
  simp

set_option maxRecDepth 100000 in
set_option maxHeartbeats 1000000 in
theorem frameCrc_any (k : Nat) (p : ByteArray) (w : World) (hk : k < 256) (hp : p.size ≤ 1048576) (ht : Steps w) :
    Calls Tryz.prog 49 #[.int .i64 k, .string p] w fun e w' => e = .returned (.int .i64 (crc (UInt8.ofNat k :: p.data.toList))) ∧ Below w.heap.size w w' := by
  have hcv := conv_one w (k : Int) (by omega) (by omega)
  have hk' : (k : Int) < 256 := by omega
  have HC : Hid ((⟨#[UInt8.ofNat k]⟩ : ByteArray) ++ p = ⟨(UInt8.ofNat k :: p.data.toList).toArray⟩) := cons_text _ _
  have g1 : ¬ 9223372036854775807 < 1 + p.size := by omega
  have hS : ((⟨#[UInt8.ofNat k]⟩ : ByteArray) ++ p).size ≤ maxLen := by rw [ByteArray.size_append]; show 1 + p.size ≤ _; unfold maxLen; omega
  have HS : Hid _ := hS
  clear hS
  have hb0 : Below w.heap.size w (w.alloc (.cells #[.int .u8 (k : Int)] 5)) := (Below.refl _ _).alloc (Nat.le_refl _) _
  have ht0 := ht.below hb0
  simp only [Int.toNat_natCast] at hcv
  go_enter Tryz.func49, Tryz.ntmps49
  go_wp2_with fail
  refine (implCrc_any _ _ HS.out ht0).mono ?_
  rintro e w1 ⟨rfl, hb1⟩
  go_wp2_with fail
  go_ret
  refine ⟨?_, hb0.trans (hb1.mono hb0.size)⟩
  show Ending.returned (.int .i64 (crc ((⟨#[UInt8.ofNat k]⟩ : ByteArray) ++ p).data.toList)) = _
  rw [HC.out]
end Go.Proofs.YtogcpllpkdeehaaGreatDoor
