import Derived.Test.YtgmfjninimebmaaGreatDoorMgVarM
import Derived.Test.YtgmfjninimebmaaGreatDoorRows
import Derived.WalkKit
import Derived.WalkSpells
import Derived.WalkLawsBesides
import Derived.Deep.QuietTactic
import Derived.BigQuiet
import Derived.Deep.RegionHeld3
import Derived.Below
import Derived.Laws.IdiomStrings
import Derived.Laws.Concat
import Derived.Laws.Bits128
import Derived.Laws.BitsAllLaws
import Derived.Laws.Unary
import Derived.Maps.AppendAt
namespace Go.Proofs.YtgmfjninimebmaaGreatDoor
open Go.RowKit
set_option linter.unusedVariables false
set_option linter.unusedSimpArgs false

/-- One bit of the checksum. -/
def bitS (r : Nat) : Nat := r / 2 ^^^ (if r % 2 = 1 then 2197175160 else 0)
def bitN : Nat → Nat → Nat
  | 0, r => r
  | k + 1, r => bitN k (bitS r)
/-- The register behind some bytes. -/
def crcR (l : List UInt8) (r : Nat) : Nat := l.foldl (fun r b => bitN 8 (r ^^^ b.toNat)) r
/-- The checksum. -/
def crc (l : List UInt8) : Nat := crcR l 4294967295 ^^^ 4294967295
/-- What four bits add. -/
def nibT (l : Nat) : Nat := [0, 274646895, 549293790, 820201905, 1098587580, 1361435347, 1640403810, 1905808397, 2197175160, 2460548119, 2722870694, 2987750089, 3280807620, 3553878443, 3811616794, 4084100981].getD l 0

theorem xor_mod2 (a b : Nat) : (a ^^^ b) % 2 = (a % 2 + b % 2) % 2 := by
  have h := Nat.xor_mod_two_eq_one (a := a) (b := b)
  generalize a ^^^ b = c at h ⊢
  omega

theorem xor_add (k h l : Nat) (hl : l < 2 ^ k) : (2 ^ k * h) ^^^ l = 2 ^ k * h + l := by
  induction k generalizing l with
  | zero => obtain rfl : l = 0 := by simpa using hl
            simp
  | succ k ih =>
    have e : 2 ^ (k + 1) * h = 2 * (2 ^ k * h) := by rw [Nat.pow_succ, Nat.mul_comm (2 ^ k) 2, Nat.mul_assoc]
    have d : ((2 ^ (k + 1) * h) ^^^ l) / 2 = 2 ^ k * h + l / 2 := by
      rw [Nat.xor_div_two, e, Nat.mul_div_cancel_left _ (by decide), ih (l / 2) (by rw [Nat.pow_succ] at hl; omega)]
    have m := xor_mod2 (2 ^ (k + 1) * h) l
    rw [e] at d m ⊢
    omega

theorem bitS_lin (x y : Nat) : bitS (x ^^^ y) = bitS x ^^^ bitS y := by
  simp only [bitS, Nat.xor_div_two, xor_mod2]
  have h2 : x % 2 = 0 ∨ x % 2 = 1 := by omega
  have h3 : y % 2 = 0 ∨ y % 2 = 1 := by omega
  have ac : ∀ a b c : Nat, a ^^^ b ^^^ c = a ^^^ (b ^^^ c) := Nat.xor_assoc
  rcases h2 with h2 | h2 <;> rcases h3 with h3 | h3 <;> simp [h2, h3]
  · rw [Nat.xor_assoc]
  · rw [Nat.xor_assoc, Nat.xor_assoc, Nat.xor_comm (y / 2)]
  · rw [Nat.xor_assoc, Nat.xor_comm 2197175160, Nat.xor_assoc, Nat.xor_self, Nat.xor_zero]
theorem bitN_lin (k x y : Nat) : bitN k (x ^^^ y) = bitN k x ^^^ bitN k y := by
  induction k generalizing x y with
  | zero => rfl
  | succ k ih => simp only [bitN]; rw [bitS_lin, ih]
theorem bitN_add (j k r : Nat) : bitN (j + k) r = bitN k (bitN j r) := by
  induction j generalizing r with
  | zero => simp [bitN]
  | succ j ih => rw [Nat.add_right_comm]; simp only [bitN]; exact ih _
theorem bitN_succ (k r : Nat) : bitN (k + 1) r = bitS (bitN k r) := by rw [bitN_add k 1 r]; rfl
theorem bitS_dbl (h : Nat) : bitS (2 * h) = h := by
  have : ¬ (2 * h) % 2 = 1 := by omega
  simp [bitS, this]
theorem bitN4 (c : Nat) : bitN 4 c = nibT (c % 16) ^^^ c / 16 := by
  have h1 : c = (2 ^ 4 * (c / 16)) ^^^ (c % 16) := by rw [xor_add 4 _ _ (by omega)]; omega
  have h2 : bitN 4 (2 ^ 4 * (c / 16)) = c / 16 := by
    have e : 2 ^ 4 * (c / 16) = 2 * (2 * (2 * (2 * (c / 16)))) := by omega
    rw [e]
    simp only [bitN, bitS_dbl]
  have h3 : ∀ l, l < 16 → bitN 4 l = nibT l := by decide
  have h4 : bitN 4 c = bitN 4 (2 ^ 4 * (c / 16)) ^^^ bitN 4 (c % 16) := by rw [← bitN_lin, ← h1]
  rw [h4, h2, h3 _ (by omega), Nat.xor_comm]
theorem bitN8 (c : Nat) : bitN 8 c = nibT ((nibT (c % 16) ^^^ c / 16) % 16) ^^^ (nibT (c % 16) ^^^ c / 16) / 16 := by
  have := bitN_add 4 4 c
  rw [this, bitN4 c, bitN4]

theorem xor_lt {a b : Nat} (h1 : a < 4294967296) (h2 : b < 4294967296) : a ^^^ b < 4294967296 := Nat.xor_lt_two_pow (n := 32) h1 h2
theorem bitS_lt {r : Nat} (h : r < 4294967296) : bitS r < 4294967296 := by
  unfold bitS
  refine xor_lt (by omega) ?_
  split <;> omega
theorem bitN_lt {r : Nat} (k : Nat) (h : r < 4294967296) : bitN k r < 4294967296 := by
  induction k generalizing r with
  | zero => exact h
  | succ k ih => exact ih (bitS_lt h)
theorem crcR_snoc (l : List UInt8) (b : UInt8) (r : Nat) : crcR (l ++ [b]) r = bitN 8 (crcR l r ^^^ b.toNat) := by simp [crcR]
theorem crcR_lt (l : List UInt8) {r : Nat} (h : r < 4294967296) : crcR l r < 4294967296 := by
  induction l generalizing r with
  | nil => exact h
  | cons b l ih => exact ih (bitN_lt 8 (xor_lt h (by have := b.toNat_lt; omega)))
theorem crc_lt (l : List UInt8) : crc l < 4294967296 := xor_lt (crcR_lt l (by decide)) (by decide)
theorem nibT_lt (l : Nat) (h : l < 16) : nibT l < 4294967296 := (by decide : ∀ l, l < 16 → nibT l < 4294967296) l h
end Go.Proofs.YtgmfjninimebmaaGreatDoor
namespace Go.Proofs.YtgmfjninimebmaaGreatDoor
open Go.RowKit Go.Maps
set_option linter.unusedVariables false
set_option linter.unusedSimpArgs false

theorem take_byte (s : ByteArray) (k : Nat) (h : k < s.size) : s.data.toList.take (k + 1) = s.data.toList.take k ++ [s[k]] := by
  have h' : k < s.data.toList.length := by rw [len_data]; exact h
  rw [List.take_succ_eq_append_getElem h']
  rfl

set_option maxRecDepth 100000 in
set_option maxHeartbeats 1000000 in
theorem specCrc_any (s : ByteArray) (w : World) (hs : s.size ≤ maxLen) :
    Calls Tryz.prog 91 #[.string s] w fun e w' => e = .returned (.int .i64 (crc s.data.toList)) ∧ Below w.heap.size w w' := by
  unfold maxLen at hs
  generalize hT : crc s.data.toList = T
  go_enter Tryz.func91, Tryz.ntmps91
  go_wp2_with fail
  go_loopw [3, 4] (fun x y wr => ∃ (k r : Nat), y = .int .i64 k ∧ x = .int .u32 r ∧ k ≤ s.size ∧ r < 4294967296 ∧ crcR (s.data.toList.take k) 4294967295 = r ∧ Below w.heap.size w wr) (fun _ y _ => s.size - (intOf y).toNat)
  case atStart => exact ⟨0, 4294967295, rfl, rfl, by omega, by decide, rfl, Below.refl _ _⟩
  case round =>
    obtain ⟨k, r, rfl, rfl, hk, hr, hcr, hb⟩ := hrel
    by_cases hlt : k < s.size
    · have hbl := s[k].toNat_lt
      have hx : bits .xor .u32 (r : Int) (s[k].toNat : Int) = ((r ^^^ s[k].toNat : Nat) : Int) := u32_xor_nat _ _ hr (by omega)
      go_wp2_with fail
      have hq : r ^^^ s[k].toNat < 4294967296 := xor_lt hr (by omega)
      have HQ : Hid (crcR (s.data.toList.take (k + 1)) 4294967295 = bitN 8 (r ^^^ s[k].toNat)) := by show _ = _; rw [take_byte s k hlt, crcR_snoc, hcr]
      clear hx hcr
      generalize r ^^^ s[k].toNat = q at *
      go_loopw [3, 5] (fun x y wq => ∃ (j q' : Nat), y = .int .i64 j ∧ x = .int .u32 q' ∧ j ≤ 8 ∧ q' < 4294967296 ∧ bitN j q = q' ∧ wq = wr) (fun _ y _ => 8 - (intOf y).toNat)
      case atStart => exact ⟨0, q, rfl, rfl, by omega, hq, rfl, rfl⟩
      case round =>
        obtain ⟨j, q', rfl, rfl, hj, hq', hbq, rfl⟩ := hrel
        have HN : Hid (bitN (j + 1) q = bitS q') := by show _ = _; rw [bitN_succ, hbq]
        have HS : Hid (bitS q' < 4294967296) := bitS_lt hq'
        have HX : Hid (bits .xor .u32 ((q' : Int) / 2) 2197175160 = ((q' / 2 ^^^ 2197175160 : Nat) : Int)) := by
          show _ = _
          have := u32_xor_nat (q' / 2) 2197175160 (by omega) (by decide)
          simpa using this
        have HE : Hid (j = 8 → bitN 8 q = q') := fun h => by rw [← hbq, h]
        clear hbq
        by_cases hj8 : j < 8
        · by_cases hodd : q' % 2 = 1
          · have ho : (q' : Int) % 2 = 1 := by omega
            have hx2 := HX.out
            go_wp2_with fail
            refine ⟨⟨j + 1, q' / 2 ^^^ 2197175160, by simp, rfl, by omega, ?_, ?_, trivial⟩, by simp only [intOf]; omega⟩
            · have := HS.out; unfold bitS at this; rwa [if_pos hodd] at this
            · have := HN.out; unfold bitS at this; rwa [if_pos hodd] at this
          · have ho : ¬ (q' : Int) % 2 = 1 := by omega
            go_wp2_with fail
            refine ⟨⟨j + 1, q' / 2, by simp, by simp, by omega, by omega, ?_, trivial⟩, by simp only [intOf]; omega⟩
            have := HN.out; unfold bitS at this; rwa [if_neg hodd, Nat.xor_zero] at this
        · obtain rfl : j = 8 := by omega
          have he := HE.out rfl
          go_wp2_with fail
          exact ⟨⟨k + 1, q', by simp, rfl, by omega, hq', by rw [HQ.out, he], hb⟩, by simp only [intOf]; omega⟩
    · obtain rfl : k = s.size := by omega
      have hTe : r ^^^ 4294967295 = T := by
        rw [← hT, ← hcr]
        show _ = crcR _ _ ^^^ _
        rw [← len_data, List.take_length]
      have hxe : bits .xor .u32 (r : Int) 4294967295 = (T : Int) := by rw [← hTe]; exact u32_xor_nat _ 4294967295 hr (by decide)
      have hTl : T < 4294967296 := by rw [← hTe]; exact xor_lt hr (by decide)
      clear hT hcr hTe
      go_wp2_with fail
      go_ret
      exact ⟨rfl, hb⟩

/-- The table lies in memory. -/
def Steps (w : World) : Prop := 0 < w.heap.size ∧ ∀ i, i < 16 → w.cell? ⟨0, i, none⟩ = some (.int .u32 (nibT i))
theorem Steps.below {w w' : World} (h : Steps w) (hb : Below w.heap.size w w') : Steps w' :=
  ⟨Nat.lt_of_lt_of_le h.1 hb.size, fun i hi => (hb.cell (p := ⟨0, i, none⟩) h.1).trans (h.2 i hi)⟩

set_option maxRecDepth 100000 in
set_option maxHeartbeats 1000000 in
theorem implCrc_any (s : ByteArray) (w : World) (hs : s.size ≤ maxLen) (ht : Steps w) :
    Calls Tryz.prog 103 #[.string s] w fun e w' => e = .returned (.int .i64 (crc s.data.toList)) ∧ Below w.heap.size w w' := by
  unfold maxLen at hs
  generalize hT : crc s.data.toList = T
  go_enter Tryz.func103, Tryz.ntmps103
  go_wp2_with fail
  go_loopw [3, 7] (fun x y wr => ∃ (k r : Nat), y = .int .i64 k ∧ x = .int .u32 r ∧ k ≤ s.size ∧ r < 4294967296 ∧ crcR (s.data.toList.take k) 4294967295 = r ∧ Below w.heap.size w wr) (fun _ y _ => s.size - (intOf y).toNat)
  case atStart => exact ⟨0, 4294967295, rfl, rfl, by omega, by decide, rfl, Below.refl _ _⟩
  case round =>
    obtain ⟨k, r, rfl, rfl, hk, hr, hcr, hb⟩ := hrel
    by_cases hlt : k < s.size
    · have hbl := s[k].toNat_lt
      have hx : bits .xor .u32 (r : Int) (s[k].toNat : Int) = ((r ^^^ s[k].toNat : Nat) : Int) := u32_xor_nat _ _ hr (by omega)
      have hq : r ^^^ s[k].toNat < 4294967296 := xor_lt hr (by omega)
      have HQ : Hid (crcR (s.data.toList.take (k + 1)) 4294967295 = bitN 8 (r ^^^ s[k].toNat)) := by show _ = _; rw [take_byte s k hlt, crcR_snoc, hcr]
      clear hcr
      generalize r ^^^ s[k].toNat = q at *
      have hst := ht.below hb
      have c1 := hst.2 (q % 16) (by omega)
      have a1 : bits .and .u32 (q : Int) 15 = ((q % 16 : Nat) : Int) := by
        rw [show (15 : Int) = ((15 : Nat) : Int) from rfl, u32_and_nat q 15 hq (by decide)]
        rw [show (15 : Nat) = 2 ^ 4 - 1 from rfl, Nat.and_two_pow_sub_one_eq_mod]
      have n1 := nibT_lt (q % 16) (by omega)
      have x1 : bits .xor .u32 (nibT (q % 16) : Int) ((q : Int) / 16) = ((nibT (q % 16) ^^^ q / 16 : Nat) : Int) := by
        have := u32_xor_nat (nibT (q % 16)) (q / 16) n1 (by omega)
        simpa using this
      have l1 : nibT (q % 16) ^^^ q / 16 < 4294967296 := xor_lt n1 (by omega)
      rw [bitN8] at HQ
      generalize hp : nibT (q % 16) ^^^ q / 16 = p at *
      clear hp
      have c2 := hst.2 (p % 16) (by omega)
      have a2 : bits .and .u32 (p : Int) 15 = ((p % 16 : Nat) : Int) := by
        rw [show (15 : Int) = ((15 : Nat) : Int) from rfl, u32_and_nat p 15 l1 (by decide)]
        rw [show (15 : Nat) = 2 ^ 4 - 1 from rfl, Nat.and_two_pow_sub_one_eq_mod]
      have n2 := nibT_lt (p % 16) (by omega)
      have x2 : bits .xor .u32 (nibT (p % 16) : Int) ((p : Int) / 16) = ((nibT (p % 16) ^^^ p / 16 : Nat) : Int) := by
        have := u32_xor_nat (nibT (p % 16)) (p / 16) n2 (by omega)
        simpa using this
      have l2 : nibT (p % 16) ^^^ p / 16 < 4294967296 := xor_lt n2 (by omega)
      go_wp2_with fail
      exact ⟨⟨k + 1, _, by simp, rfl, by omega, l2, HQ.out, hb⟩, by simp only [intOf]; omega⟩
    · obtain rfl : k = s.size := by omega
      have hTe : r ^^^ 4294967295 = T := by
        rw [← hT, ← hcr]
        show _ = crcR _ _ ^^^ _
        rw [← len_data, List.take_length]
      have hxe : bits .xor .u32 (r : Int) 4294967295 = (T : Int) := by rw [← hTe]; exact u32_xor_nat _ 4294967295 hr (by decide)
      have hTl : T < 4294967296 := by rw [← hTe]; exact xor_lt hr (by decide)
      have hxm : bits .xor .u32 IntKind.u32.max (r : Int) = (T : Int) := by
        rw [← hxe]
        show bits .xor .u32 4294967295 (r : Int) = _
        simp only [bits, BitVec.xor_comm]
      have hw : wrap64 (T : Int) = T := by unfold wrap64; omega
      clear hT hcr hTe
      go_wp2_with fail
      all_goals first
        | (go_ret; exact ⟨rfl, hb⟩)
        | (rename_i hsg _; exact absurd hsg (by decide))
        | (rename_i hsg; exact absurd hsg (by decide))
end Go.Proofs.YtgmfjninimebmaaGreatDoor
namespace Go.Proofs.YtgmfjninimebmaaGreatDoor
open Go.RowKit
set_option linter.unusedVariables false
set_option linter.unusedSimpArgs false

/-- Whether a kind is one of the six. -/
def kindOk (k : Int) : Bool := k == 66 || k == 73 || k == 70 || k == 87 || k == 77 || k == 82
/-- A number in four bytes. -/
def four (n : Nat) : List UInt8 := [UInt8.ofNat (n % 256), UInt8.ofNat (n / 256 % 256), UInt8.ofNat (n / 65536 % 256), UInt8.ofNat (n / 16777216 % 256)]
/-- What a frame's pages hold beside their first bytes. -/
def body (k : Nat) (p : List UInt8) : List UInt8 := four p.length ++ four (crc (UInt8.ofNat k :: p)) ++ p
/-- The first byte of the page that begins at byte i of the body, if one does. -/
def hdr (k i : Nat) : List UInt8 := if i = 0 then [UInt8.ofNat k] else if i % 63 = 0 then [99] else []
/-- The frame as far as i bytes of its body (zeros behind the body). -/
def fby (k : Nat) (b : List UInt8) : Nat → List UInt8
  | 0 => []
  | i + 1 => fby k b i ++ hdr k i ++ [b.getD i 0]
/-- How many pages. -/
def pagesN (n : Nat) : Nat := (n + 62) / 63
def frB (k : Nat) (p : List UInt8) : List UInt8 := fby k (body k p) (63 * pagesN (body k p).length)
/-- The frame's text. -/
def frT (k : Int) (p : ByteArray) : ByteArray := if kindOk k = true ∧ p.size ≤ 1048576 then ⟨(frB k.toNat p.data.toList).toArray⟩ else ⟨#[]⟩

theorem kindOk_cases {k : Int} (h : kindOk k = true) : k = 66 ∨ k = 73 ∨ k = 70 ∨ k = 87 ∨ k = 77 ∨ k = 82 := by
  simp only [kindOk, Bool.or_eq_true, beq_iff_eq] at h
  omega
theorem kindOk_iff (k : Int) : kindOk k = true ↔ (k = 66 ∨ k = 73 ∨ k = 70 ∨ k = 87 ∨ k = 77 ∨ k = 82) := by
  simp only [kindOk, Bool.or_eq_true, beq_iff_eq]
  omega
theorem frT_in {k : Int} {p : ByteArray} (h1 : kindOk k = true) (h2 : p.size ≤ 1048576) : frT k p = ⟨(frB k.toNat p.data.toList).toArray⟩ := by simp [frT, h1, h2]
theorem frT_out {k : Int} {p : ByteArray} (h : ¬ (kindOk k = true ∧ p.size ≤ 1048576)) : frT k p = ⟨#[]⟩ := by unfold frT; rw [if_neg h]
theorem body_len (k : Nat) (p : List UInt8) : (body k p).length = 8 + p.length := by simp [body, four]; omega

theorem fby_len (k : Nat) (b : List UInt8) (i : Nat) : (fby k b i).length = i + pagesN i := by
  induction i with
  | zero => simp [fby, pagesN]
  | succ i ih =>
    simp only [fby, List.length_append, ih, List.length_singleton]
    unfold hdr pagesN
    split
    · subst_vars; simp
    · split
      · simp; omega
      · simp; omega
/-- A page's first m bytes. -/
theorem fby_page (k : Nat) (b : List UInt8) (j m : Nat) (h1 : 1 ≤ m) (h2 : m ≤ 63) (h3 : 63 * j + m ≤ b.length) :
    fby k b (63 * j + m) = fby k b (63 * j) ++ hdr k (63 * j) ++ (b.drop (63 * j)).take m := by
  induction m with
  | zero => omega
  | succ m ih =>
    have hg : b.getD (63 * j + m) 0 = b[63 * j + m]'(by omega) := by simp [List.getD, (by omega : 63 * j + m < b.length)]
    have ht : (b.drop (63 * j)).take (m + 1) = (b.drop (63 * j)).take m ++ [b.getD (63 * j + m) 0] := by
      rw [List.take_succ_eq_append_getElem (by rw [List.length_drop]; omega), List.getElem_drop, hg]
    rcases Nat.eq_zero_or_pos m with h0 | h0
    · subst h0
      rw [ht]
      simp [fby]
    · have hh : hdr k (63 * j + m) = [] := by unfold hdr; rw [if_neg (by omega), if_neg (by omega)]
      rw [ht, ← List.append_assoc, ← ih h0 (by omega) (by omega)]
      show fby k b (63 * j + m) ++ hdr k (63 * j + m) ++ [b.getD (63 * j + m) 0] = _
      rw [hh, List.append_nil]
/-- The zeros behind the body. -/
theorem fby_pad (k : Nat) (b : List UInt8) (z : Nat) (hb : 0 < b.length) (hz : b.length + z ≤ 63 * pagesN b.length) :
    fby k b (b.length + z) = fby k b b.length ++ List.replicate z 0 := by
  induction z with
  | zero => simp
  | succ z ih =>
    have hh : hdr k (b.length + z) = [] := by unfold hdr; rw [if_neg (by omega), if_neg (by unfold pagesN at hz; omega)]
    have hg : b.getD (b.length + z) 0 = 0 := by simp [List.getD]
    show fby k b (b.length + z) ++ hdr k (b.length + z) ++ [b.getD (b.length + z) 0] = _
    rw [ih (by omega), hh, hg, List.append_nil, List.append_assoc, List.replicate_succ']
theorem pages_ge (n : Nat) : n ≤ 63 * pagesN n := by unfold pagesN; omega
end Go.Proofs.YtgmfjninimebmaaGreatDoor
namespace Go.Proofs.YtgmfjninimebmaaGreatDoor
open Go.RowKit Go.Maps
set_option linter.unusedVariables false
set_option linter.unusedSimpArgs false

theorem ret_b {a b : Bool} (h : a = b) : Ending.returned (.bool a) = .returned (.bool b) := by rw [h]

set_option maxRecDepth 100000 in
set_option maxHeartbeats 400000 in
theorem l2KindOk_any (k : Int) (w : World) :
    Calls Tryz.prog 87 #[.int .i64 k] w fun e w' => e = .returned (.bool (kindOk k)) ∧ w' = w := by
  by_cases h : kindOk k = true
  · rcases kindOk_cases h with rfl | rfl | rfl | rfl | rfl | rfl
    all_goals
      go_enter Tryz.func87, Tryz.ntmps87
      go_wp2_with fail
      go_ret
      exact ⟨rfl, rfl⟩
  · have h0 : ¬ (k = 66 ∨ k = 73 ∨ k = 70 ∨ k = 87 ∨ k = 77 ∨ k = 82) := fun x => h ((kindOk_iff k).2 x)
    rw [Bool.not_eq_true] at h
    rw [h]
    have n1 : ¬ k = 66 := by omega
    have n2 : ¬ k = 73 := by omega
    have n3 : ¬ k = 70 := by omega
    have n4 : ¬ k = 87 := by omega
    have n5 : ¬ k = 77 := by omega
    have n6 : ¬ k = 82 := by omega
    have b1 : (k == 66) = false := by simpa using n1
    have b2 : (k == 73) = false := by simpa using n2
    have b3 : (k == 70) = false := by simpa using n3
    have b4 : (k == 87) = false := by simpa using n4
    have b5 : (k == 77) = false := by simpa using n5
    have b6 : (k == 82) = false := by simpa using n6
    clear h h0
    go_enter Tryz.func87, Tryz.ntmps87
    go_wp2_with fail
    go_ret
    exact ⟨rfl, rfl⟩

set_option maxRecDepth 100000 in
set_option maxHeartbeats 400000 in
theorem isKind_any (k : Int) (w : World) :
    Calls Tryz.prog 70 #[.int .i64 k] w fun e w' => e = .returned (.bool (kindOk k)) ∧ w' = w := by
  by_cases h : kindOk k = true
  · rcases kindOk_cases h with rfl | rfl | rfl | rfl | rfl | rfl
    all_goals
      go_enter Tryz.func70, Tryz.ntmps70
      go_wp2_with fail
      go_ret
      exact ⟨rfl, rfl⟩
  · have h0 : ¬ (k = 66 ∨ k = 73 ∨ k = 70 ∨ k = 87 ∨ k = 77 ∨ k = 82) := fun x => h ((kindOk_iff k).2 x)
    rw [Bool.not_eq_true] at h
    rw [h]
    have n1 : ¬ k = 66 := by omega
    have n2 : ¬ k = 73 := by omega
    have n3 : ¬ k = 70 := by omega
    have n4 : ¬ k = 87 := by omega
    have n5 : ¬ k = 77 := by omega
    have n6 : ¬ k = 82 := by omega
    have b1 : (k == 66) = false := by simpa using n1
    have b2 : (k == 73) = false := by simpa using n2
    have b3 : (k == 70) = false := by simpa using n3
    have b4 : (k == 87) = false := by simpa using n4
    have b5 : (k == 77) = false := by simpa using n5
    have b6 : (k == 82) = false := by simpa using n6
    clear h h0
    go_enter Tryz.func70, Tryz.ntmps70
    go_wp2_with fail
    go_ret
    exact ⟨rfl, rfl⟩

theorem four_text (a b c d : UInt8) : (((⟨#[a]⟩ : ByteArray) ++ ⟨#[b]⟩) ++ ⟨#[c]⟩) ++ ⟨#[d]⟩ = ⟨[a, b, c, d].toArray⟩ := by
  apply ByteArray.ext
  simp

set_option maxRecDepth 100000 in
set_option maxHeartbeats 1000000 in
theorem l2Four_any (n : Nat) (w : World) (hn : n < 4294967296) :
    Calls Tryz.prog 90 #[.int .i64 n] w fun e w' => e = .returned (.string ⟨(four n).toArray⟩) ∧ Below w.heap.size w w' := by
  have e0 : UInt8.ofNat ((n : Int) % 256).toNat = UInt8.ofNat (n % 256) := by congr 1
  have e1 : UInt8.ofNat ((n : Int) / 256 % 256).toNat = UInt8.ofNat (n / 256 % 256) := by congr 1
  have e2 : UInt8.ofNat ((n : Int) / 65536 % 256).toNat = UInt8.ofNat (n / 65536 % 256) := by congr 1
  have e3 : UInt8.ofNat ((n : Int) / 16777216 % 256).toNat = UInt8.ofNat (n / 16777216 % 256) := by congr 1
  have HE : Hid ((((⟨#[UInt8.ofNat ((n : Int) % 256).toNat]⟩ : ByteArray) ++ ⟨#[UInt8.ofNat ((n : Int) / 256 % 256).toNat]⟩) ++ ⟨#[UInt8.ofNat ((n : Int) / 65536 % 256).toNat]⟩) ++ ⟨#[UInt8.ofNat ((n : Int) / 16777216 % 256).toNat]⟩ = ⟨(four n).toArray⟩) := by
    show _ = _
    rw [four_text, e0, e1, e2, e3]
    rfl
  clear e0 e1 e2 e3
  go_enter Tryz.func90, Tryz.ntmps90
  go_wp2_with fail
  refine (l2Byte_any _ _ (by omega) (by omega)).mono ?_
  rintro e w1 ⟨rfl, hb1⟩
  go_wp2_with fail
  refine (l2Byte_any _ _ (by omega) (by omega)).mono ?_
  rintro e w2 ⟨rfl, hb2⟩
  have hbw2 := hb1.trans (hb2.mono hb1.size)
  go_wp2_with fail
  refine (l2Byte_any _ _ (by omega) (by omega)).mono ?_
  rintro e w3 ⟨rfl, hb3⟩
  have hbw3 := hbw2.trans (hb3.mono hbw2.size)
  go_wp2_with fail
  refine (l2Byte_any _ _ (by omega) (by omega)).mono ?_
  rintro e w4 ⟨rfl, hb4⟩
  have hbw4 := hbw3.trans (hb4.mono hbw3.size)
  go_wp2_with fail
  go_ret
  exact ⟨by rw [← HE.out]; rfl, hbw4⟩

theorem conv_cells (w : World) (l : List UInt8) (cs : Array Value) (hcs : cs.toList = bc l) :
    (convert 111 9 (.slice (some ⟨w.heap.size, 0, none⟩) l.length l.length)).run Tryz.prog (w.alloc (.cells cs 5)) = .ok (.string ⟨l.toArray⟩) (w.alloc (.cells cs 5)) := by
  refine run_convert_bytes_back (P := Tryz.prog) _ 111 9 5 ⟨w.heap.size, 0, none⟩ l.length l Tryz.underlying111 Tryz.underlying5 Tryz.underlying9 (fun j hj => ?_)
  rw [Go.WideShapes.add_plain, World.cell?_alloc_at _ _ _ _ (by simp)]
  have e : cs[0 + j]? = (bc l)[j]? := by rw [← hcs]; simp
  show cs[0 + j]? = _
  rw [e]
  simp [hj]

set_option maxRecDepth 100000 in
set_option maxHeartbeats 1000000 in
theorem putWord_any (n : Nat) (w : World) (hn : n < 4294967296) :
    Calls Tryz.prog 111 #[.int .i64 n] w fun e w' => e = .returned (.string ⟨(four n).toArray⟩) ∧ Below w.heap.size w w' := by
  have hcv := conv_cells w (four n) #[.int .u8 ((n : Int) % 256), .int .u8 ((n : Int) / 256 % 256), .int .u8 ((n : Int) / 65536 % 256), .int .u8 ((n : Int) / 16777216)] (by
    simp only [four, bc, List.map_cons, List.map_nil]
    rw [byte_cell _ (by omega), byte_cell _ (by omega), byte_cell _ (by omega), byte_cell _ (by omega)]
    have e : n / 16777216 % 256 = n / 16777216 := Nat.mod_eq_of_lt (by omega)
    rw [e]
    simp)
  have hl : (four n).length = 4 := rfl
  rw [hl] at hcv
  go_enter Tryz.func111, Tryz.ntmps111
  go_wp2_with fail
  go_ret
  exact ⟨rfl, (Below.refl _ _).alloc (Nat.le_refl _) _⟩

set_option maxRecDepth 100000 in
theorem pages_any (n : Nat) (w : World) (hn : n ≤ 4294967296) :
    Calls Tryz.prog 71 #[.int .i64 n] w fun e w' => e = .returned (.int .i64 (pagesN (8 + n))) ∧ w' = w := by
  have e : ((pagesN (8 + n) : Nat) : Int) = (8 + (n : Int) + 63 - 1) / 63 := by unfold pagesN; omega
  rw [e]
  go_enter Tryz.func71, Tryz.ntmps71
  go_wp2_with fail
  go_ret
  exact ⟨rfl, rfl⟩

theorem cons_text (a : UInt8) (p : ByteArray) : (⟨#[a]⟩ : ByteArray) ++ p = ⟨(a :: p.data.toList).toArray⟩ := by
  apply ByteArray.ext
  simp

set_option maxRecDepth 100000 in
set_option maxHeartbeats 1000000 in
theorem frameCrc_any (k : Nat) (p : ByteArray) (w : World) (hk : k < 256) (hp : p.size ≤ 1048576) (ht : Steps w) :
    Calls Tryz.prog 73 #[.int .i64 k, .string p] w fun e w' => e = .returned (.int .i64 (crc (UInt8.ofNat k :: p.data.toList))) ∧ Below w.heap.size w w' := by
  have hcv := conv_one w (k : Int) (by omega) (by omega)
  have hk' : (k : Int) < 256 := by omega
  have HC : Hid ((⟨#[UInt8.ofNat k]⟩ : ByteArray) ++ p = ⟨(UInt8.ofNat k :: p.data.toList).toArray⟩) := cons_text _ _
  have g1 : ¬ 9223372036854775807 < 1 + p.size := by omega
  have hS : ((⟨#[UInt8.ofNat k]⟩ : ByteArray) ++ p).size ≤ maxLen := by rw [ByteArray.size_append]; show 1 + p.size ≤ _; unfold maxLen; omega
  have HS : Hid _ := hS
  clear hS
  have hb0 : Below w.heap.size w (w.alloc (.cells #[.int .u8 (k : Int)] 5)) := (Below.refl _ _).alloc (Nat.le_refl _) _
  have ht0 := ht.below hb0
  simp only [Int.toNat_natCast] at hcv
  go_enter Tryz.func73, Tryz.ntmps73
  go_wp2_with fail
  refine (implCrc_any _ _ HS.out ht0).mono ?_
  rintro e w1 ⟨rfl, hb1⟩
  go_wp2_with fail
  go_ret
  refine ⟨?_, hb0.trans (hb1.mono hb0.size)⟩
  show Ending.returned (.int .i64 (crc ((⟨#[UInt8.ofNat k]⟩ : ByteArray) ++ p).data.toList)) = _
  rw [HC.out]
end Go.Proofs.YtgmfjninimebmaaGreatDoor
namespace Go.Proofs.YtgmfjninimebmaaGreatDoor
open Go.RowKit Go.Maps
set_option linter.unusedVariables false
set_option linter.unusedSimpArgs false

theorem World.heap_alloc_new (w : World) (o : Obj) : (w.alloc o).heap[w.heap.size]? = some o := by
  show (w.heap.push o)[w.heap.size]? = _
  simp
theorem owns_lit (w : World) (B : Nat) (hB : B ≤ w.heap.size) : (w.alloc (.cells #[] 5)).ownsRow B 5 1 (.slice (some ⟨w.heap.size, 0, none⟩) 0 0) 0 (bc []) :=
  ⟨rfl, .inr ⟨w.heap.size, 0, #[], rfl, hB, World.heap_alloc_new _ _, Nat.le_refl _, Nat.zero_le _, rfl, rfl⟩⟩
theorem bc_snoc (l : List UInt8) (n : Nat) (h : n < 256) : bc (l ++ [UInt8.ofNat n]) = bc l ++ [.int .u8 (n : Int)] := by
  simp only [bc, List.map_append, List.map_cons, List.map_nil]
  rw [byte_cell n h]
theorem bc_snoc' (l : List UInt8) (x : UInt8) : bc (l ++ [x]) = bc l ++ [.int .u8 (x.toNat : Int)] := by simp [bc]
theorem text_at (s : ByteArray) (i : Nat) (h : i < s.size) : s.data.toList.getD i 0 = s[i] := by
  have h' : i < s.data.size := h
  simp only [List.getD, Array.getElem?_toList, ByteArray.getElem_eq_getElem_data]
  rw [Array.getElem?_eq_getElem h']
  rfl
theorem body_text (a b : List UInt8) (p : ByteArray) : ((⟨a.toArray⟩ : ByteArray) ++ ⟨b.toArray⟩) ++ p = ⟨(a ++ b ++ p.data.toList).toArray⟩ := by
  apply ByteArray.ext
  simp

set_option maxRecDepth 100000 in
set_option maxHeartbeats 2000000 in
theorem specFrame_in (k : Nat) (p : ByteArray) (w : World) (hk : kindOk k = true) (hp : p.size ≤ 1048576) :
    Calls Tryz.prog 63 #[.int .i64 k, .string p] w fun e w' => e = .returned (.string ⟨(frB k p.data.toList).toArray⟩) ∧ Below w.heap.size w w' := by
  obtain ⟨i0, hi, hz0, hz1, hz2⟩ := info_parts u8_info
  have hk' : k < 256 := by have := kindOk_cases hk; omega
  have hpl : p.data.toList.length = p.size := len_data p
  have HC : Hid ((⟨#[UInt8.ofNat (k : Int).toNat]⟩ : ByteArray) ++ p = ⟨(UInt8.ofNat k :: p.data.toList).toArray⟩) := cons_text _ _
  have HCL := crc_lt (UInt8.ofNat k :: p.data.toList)
  have HBT : Hid (((⟨(four p.size).toArray⟩ : ByteArray) ++ ⟨(four (crc (UInt8.ofNat k :: p.data.toList))).toArray⟩) ++ p = ⟨(body k p.data.toList).toArray⟩) := by show _ = _; rw [body_text, ← hpl]; rfl
  have hf4 : ∀ n, (⟨(four n).toArray⟩ : ByteArray).size = 4 := fun n => rfl
  have g1 : ¬ 9223372036854775807 < 1 + p.size := by omega
  have HS : Hid (((⟨#[UInt8.ofNat (k : Int).toNat]⟩ : ByteArray) ++ p).size ≤ maxLen) := by show _ ≤ _; rw [ByteArray.size_append]; show 1 + p.size ≤ _; unfold maxLen; omega
  have hp' : (p.size : Int) ≤ 1048576 := by omega
  have HB : Hid (frB k p.data.toList = fby k (body k p.data.toList) (63 * pagesN (body k p.data.toList).length)) := rfl
  have HBL : Hid ((body k p.data.toList).length = 8 + p.size) := by show _ = _; rw [body_len, hpl]
  generalize frB k p.data.toList = T at *
  generalize hbd : body k p.data.toList = bd at *
  clear hbd hpl
  go_enter Tryz.func63, Tryz.ntmps63
  go_wp2_with fail
  refine (l2KindOk_any _ _).mono ?_
  rintro e w0 ⟨rfl, hw0⟩
  have hw1 := hw0.symm
  subst hw1
  rw [hk]
  go_wp2_with fail
  refine (l2Four_any p.size _ (by omega)).mono ?_
  rintro e w1 ⟨rfl, hb1⟩
  go_wp2_with fail
  refine (l2Byte_any _ _ (by omega) (by omega)).mono ?_
  rintro e w2 ⟨rfl, hb2⟩
  have hbw2 := hb1.trans (hb2.mono hb1.size)
  go_wp2_with fail
  refine (specCrc_any _ _ HS.out).mono ?_
  rintro e w3 ⟨rfl, hb3⟩
  have hbw3 := hbw2.trans (hb3.mono hbw2.size)
  rw [HC.out]
  go_wp2_with fail
  refine (l2Four_any (crc (UInt8.ofNat k :: p.data.toList)) _ HCL).mono ?_
  rintro e w4 ⟨rfl, hb4⟩
  have hbw4 := hbw3.trans (hb4.mono hbw3.size)
  have hB4 := hbw4.size
  clear hb1 hb2 hb3 hb4 hbw2 hbw3
  generalize hfa : (⟨(four p.size).toArray⟩ : ByteArray) = fa at *
  generalize hfb : (⟨(four (crc (UInt8.ofNat k :: p.data.toList))).toArray⟩ : ByteArray) = fb at *
  have sa : fa.size = 4 := by rw [← hfa]; rfl
  have sb : fb.size = 4 := by rw [← hfb]; rfl
  clear hfa hfb hf4
  have g2 : ¬ 9223372036854775807 < fa.size + fb.size := by omega
  have g3 : ¬ 9223372036854775807 < fa.size + fb.size + p.size := by omega
  go_wp2_with fail
  generalize hbt : fa ++ fb ++ p = bt at *
  have htl : bt.data.toList = bd := by rw [HBT.out]
  have hsz : bt.size = bd.length := by rw [← len_data, htl]
  have hBL := HBL.out
  have hk2 := hk'
  have hN : bd.length ≤ 63 * pagesN bd.length := pages_ge _
  have hN2 : 63 * pagesN bd.length ≤ bd.length + 62 := by unfold pagesN; omega
  have hN3 : (63 * pagesN bd.length) % 63 = 0 := by omega
  have HL : Hid (∀ i, i ≤ 63 * pagesN bd.length → (fby k bd i).length ≤ 3000000) := fun i hi' => by rw [fby_len]; unfold pagesN at *; omega
  have hl0 : (w4.alloc (.cells #[] 5)).ownsRow w.heap.size 5 1 (.slice (some ⟨w4.heap.size, 0, none⟩) 0 0) ([] : List UInt8).length (bc []) := owns_lit w4 w.heap.size hB4
  have hb5 : Below w.heap.size w (w4.alloc (.cells #[] 5)) := hbw4.alloc hB4 _
  clear hbt HBT HC HS HCL g1 g2 g3 hbw4 HBL
  generalize hNN : 63 * pagesN bd.length = N at *
  go_loopw [6, 7] (fun v y wr => ∃ i : Nat, y = .int .i64 i ∧ i ≤ N ∧ wr.ownsRow w.heap.size 5 1 v (fby k bd i).length (bc (fby k bd i)) ∧ Below w.heap.size w wr) (fun _ y _ => N - (intOf y).toNat)
  case atStart => exact ⟨0, rfl, by omega, hl0, hb5⟩
  case round =>
    obtain ⟨i, rfl, hin, hown, hb⟩ := hrel
    have hbs := hb.size
    have hlen := HL.out i hin
    by_cases hlt : i < N
    · by_cases h0 : i = 0
      · subst h0
        have hib : 0 < bt.size := by omega
        have hib' : (0 : Int) < bt.size := by omega
        have HE : Hid (fby k bd (0 + 1) = fby k bd 0 ++ [UInt8.ofNat k] ++ [bt[0]]) := by
          show fby k bd 0 ++ hdr k 0 ++ [bd.getD 0 0] = _
          have e : hdr k 0 = [UInt8.ofNat k] := by unfold hdr; rfl
          rw [e, ← htl, text_at bt 0 hib]
        generalize fby k bd 0 = m at *
        go_wp2_with (first | (at_builtin; have _t := hbs1; refine wpList_append_own _ rfl _ _ 111 rfl w.heap.size 5 i0 (.int .u8 0) 1 1 Tryz.underlying111 hi hz0 hz1 hz2 rfl (by decide) _ _ _ rfl (ho1.alloc _) ⟨w5.heap.size, 0, none⟩ 1 1 [.int .u8 (bt[0].toNat : Int)] rfl rfl (cell_one_new _ _ _) (fun x hx => by simp at hx; subst hx; rfl) (by unfold maxLen; omega) (by omega) (by simp; omega) ?_; intro v6 w6 ho2 hg2 _) | (at_builtin; refine wpList_append_own _ rfl _ _ 111 rfl w.heap.size 5 i0 (.int .u8 0) 1 1 Tryz.underlying111 hi hz0 hz1 hz2 rfl (by decide) _ _ _ rfl (hown.alloc _) ⟨wr.heap.size, 0, none⟩ 1 1 [.int .u8 (k : Int)] rfl rfl (cell_one_new _ _ _) (fun x hx => by simp at hx; subst hx; rfl) (by unfold maxLen; omega) (by omega) (by simp; omega) ?_; intro v5 w5 ho1 hg1 _; have hb1 : Below w.heap.size w w5 := (hb.alloc (by omega) _).grown hg1 (by simp; omega) (owns_base hown); have hbs1 := hb1.size))
        refine ⟨⟨0 + 1, by simp, by omega, ?_, (hb1.alloc (by omega) _).grown hg2 (by simp; omega) (owns_base ho1)⟩, by simp only [intOf]; omega⟩
        rw [HE.out, bc_snoc', List.length_append, bc_snoc _ k hk2, List.length_append]
        exact ho2
      · have h0' : ¬ (i : Int) = 0 := by omega
        by_cases hm : i % 63 = 0
        · have hib : i < bt.size := by omega
          have hib' : (i : Int) < bt.size := by omega
          have hm' : (i : Int) % 63 = 0 := by omega
          have HE : Hid (fby k bd (i + 1) = fby k bd i ++ [99] ++ [bt[i]]) := by
            show fby k bd i ++ hdr k i ++ [bd.getD i 0] = _
            have e : hdr k i = [99] := by unfold hdr; rw [if_neg h0, if_pos hm]
            rw [e, ← htl, text_at bt i hib]
          generalize fby k bd i = m at *
          go_wp2_with (first | (at_builtin; have _t := hbs1; refine wpList_append_own _ rfl _ _ 111 rfl w.heap.size 5 i0 (.int .u8 0) 1 1 Tryz.underlying111 hi hz0 hz1 hz2 rfl (by decide) _ _ _ rfl (ho1.alloc _) ⟨w5.heap.size, 0, none⟩ 1 1 [.int .u8 (bt[i].toNat : Int)] rfl rfl (cell_one_new _ _ _) (fun x hx => by simp at hx; subst hx; rfl) (by unfold maxLen; omega) (by omega) (by simp; omega) ?_; intro v6 w6 ho2 hg2 _) | (at_builtin; refine wpList_append_own _ rfl _ _ 111 rfl w.heap.size 5 i0 (.int .u8 0) 1 1 Tryz.underlying111 hi hz0 hz1 hz2 rfl (by decide) _ _ _ rfl (hown.alloc _) ⟨wr.heap.size, 0, none⟩ 1 1 [.int .u8 99] rfl rfl (cell_one_new _ _ _) (fun x hx => by simp at hx; subst hx; rfl) (by unfold maxLen; omega) (by omega) (by simp; omega) ?_; intro v5 w5 ho1 hg1 _; have hb1 : Below w.heap.size w w5 := (hb.alloc (by omega) _).grown hg1 (by simp; omega) (owns_base hown); have hbs1 := hb1.size))
          refine ⟨⟨i + 1, by simp, by omega, ?_, (hb1.alloc (by omega) _).grown hg2 (by simp; omega) (owns_base ho1)⟩, by simp only [intOf]; omega⟩
          rw [HE.out, bc_snoc', List.length_append, bc_snoc', List.length_append]
          exact ho2
        · have hm' : ¬ (i : Int) % 63 = 0 := by omega
          by_cases hib : i < bt.size
          · have hib' : (i : Int) < bt.size := by omega
            have HE : Hid (fby k bd (i + 1) = fby k bd i ++ [bt[i]]) := by
              show fby k bd i ++ hdr k i ++ [bd.getD i 0] = _
              have e : hdr k i = [] := by unfold hdr; rw [if_neg (by omega), if_neg (by omega)]
              rw [e, ← htl, text_at bt i hib, List.append_nil]
            generalize fby k bd i = m at *
            go_wp2_with (at_builtin; refine wpList_append_own _ rfl _ _ 111 rfl w.heap.size 5 i0 (.int .u8 0) 1 1 Tryz.underlying111 hi hz0 hz1 hz2 rfl (by decide) _ _ _ rfl (hown.alloc _) ⟨wr.heap.size, 0, none⟩ 1 1 [.int .u8 (bt[i].toNat : Int)] rfl rfl (cell_one_new _ _ _) (fun x hx => by simp at hx; subst hx; rfl) (by unfold maxLen; omega) (by omega) (by simp; omega) ?_; intro v5 w5 ho1 hg1 _)
            refine ⟨⟨i + 1, by simp, by omega, ?_, (hb.alloc (by omega) _).grown hg1 (by simp; omega) (owns_base hown)⟩, by simp only [intOf]; omega⟩
            rw [HE.out, bc_snoc', List.length_append]
            exact ho1
          · have hib' : ¬ (i : Int) < bt.size := by omega
            have hz : bd.getD i 0 = 0 := by simp [List.getD, (by omega : bd.length ≤ i)]
            have hm2 : ((i : Int) % 63 != 0) = true := by simpa using hm'
            have HE : Hid (fby k bd (i + 1) = fby k bd i ++ [0]) := by
              show fby k bd i ++ hdr k i ++ [bd.getD i 0] = _
              have e : hdr k i = [] := by unfold hdr; rw [if_neg (by omega), if_neg (by omega)]
              rw [e, hz, List.append_nil]
            generalize fby k bd i = m at *
            go_wp2_with (at_builtin; refine wpList_append_own _ rfl _ _ 111 rfl w.heap.size 5 i0 (.int .u8 0) 1 1 Tryz.underlying111 hi hz0 hz1 hz2 rfl (by decide) _ _ _ rfl (hown.alloc _) ⟨wr.heap.size, 0, none⟩ 1 1 [.int .u8 0] rfl rfl (cell_one_new _ _ _) (fun x hx => by simp at hx; subst hx; rfl) (by unfold maxLen; omega) (by omega) (by simp; omega) ?_; intro v5 w5 ho1 hg1 _)
            refine ⟨⟨i + 1, by simp, by omega, ?_, (hb.alloc (by omega) _).grown hg1 (by simp; omega) (owns_base hown)⟩, by simp only [intOf]; omega⟩
            rw [HE.out, bc_snoc', List.length_append]
            exact ho1
    · obtain rfl : i = N := by omega
      have e1 : ¬ (i : Int) < bt.size := by omega
      have e2 : (i : Int) % 63 = 0 := by omega
      rw [← HB.out] at hown
      have hcv := conv_row hown (by intro h; have e := congrArg List.length h; rw [HB.out, fby_len] at e; simp at e; omega)
      go_wp2_with fail
      go_ret
      exact ⟨rfl, hb⟩
end Go.Proofs.YtgmfjninimebmaaGreatDoor
