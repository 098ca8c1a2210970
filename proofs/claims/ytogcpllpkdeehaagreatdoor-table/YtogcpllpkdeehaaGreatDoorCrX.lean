import Derived.Test.YtogcpllpkdeehaaGreatDoorVarX
import Derived.Test.YtogcpllpkdeehaaGreatDoorRows
import Derived.WalkKit
import Derived.WalkSpells
import Derived.WalkLawsBesides
import Derived.Deep.QuietTactic
import Derived.BigQuiet
import Derived.Deep.RegionHeld3
import Derived.Below
import Derived.Laws.IdiomStrings
import Derived.Laws.Concat
import Derived.Laws.Bits128
import Derived.Laws.BitsAllLaws
import Derived.Laws.Unary
import Derived.Maps.AppendAt
namespace Go.Proofs.YtogcpllpkdeehaaGreatDoor
open Go.RowKit
set_option linter.unusedVariables false
set_option linter.unusedSimpArgs false

/-- One bit of the checksum. -/
def bitS (r : Nat) : Nat := r / 2 ^^^ (if r % 2 = 1 then 2197175160 else 0)
def bitN : Nat → Nat → Nat
  | 0, r => r
  | k + 1, r => bitN k (bitS r)
/-- The register behind some bytes. -/
def crcR (l : List UInt8) (r : Nat) : Nat := l.foldl (fun r b => bitN 8 (r ^^^ b.toNat)) r
/-- The checksum. -/
def crc (l : List UInt8) : Nat := crcR l 4294967295 ^^^ 4294967295
/-- What four bits add. -/
def nibT (l : Nat) : Nat := [0, 274646895, 549293790, 820201905, 1098587580, 1361435347, 1640403810, 1905808397, 2197175160, 2460548119, 2722870694, 2987750089, 3280807620, 3553878443, 3811616794, 4084100981].getD l 0

theorem xor_mod2 (a b : Nat) : (a ^^^ b) % 2 = (a % 2 + b % 2) % 2 := by
  have h := Nat.xor_mod_two_eq_one (a := a) (b := b)
  generalize a ^^^ b = c at h ⊢
  omega

theorem xor_add (k h l : Nat) (hl : l < 2 ^ k) : (2 ^ k * h) ^^^ l = 2 ^ k * h + l := by
  induction k generalizing l with
  | zero => obtain rfl : l = 0 := by simpa using hl
            simp
  | succ k ih =>
    have e : 2 ^ (k + 1) * h = 2 * (2 ^ k * h) := by rw [Nat.pow_succ, Nat.mul_comm (2 ^ k) 2, Nat.mul_assoc]
    have d : ((2 ^ (k + 1) * h) ^^^ l) / 2 = 2 ^ k * h + l / 2 := by
      rw [Nat.xor_div_two, e, Nat.mul_div_cancel_left _ (by decide), ih (l / 2) (by rw [Nat.pow_succ] at hl; omega)]
    have m := xor_mod2 (2 ^ (k + 1) * h) l
    rw [e] at d m ⊢
    omega

theorem bitS_lin (x y : Nat) : bitS (x ^^^ y) = bitS x ^^^ bitS y := by
  simp only [bitS, Nat.xor_div_two, xor_mod2]
  have h2 : x % 2 = 0 ∨ x % 2 = 1 := by omega
  have h3 : y % 2 = 0 ∨ y % 2 = 1 := by omega
  have ac : ∀ a b c : Nat, a ^^^ b ^^^ c = a ^^^ (b ^^^ c) := Nat.xor_assoc
  rcases h2 with h2 | h2 <;> rcases h3 with h3 | h3 <;> simp [h2, h3]
  · rw [Nat.xor_assoc]
  · rw [Nat.xor_assoc, Nat.xor_assoc, Nat.xor_comm (y / 2)]
  · rw [Nat.xor_assoc, Nat.xor_comm 2197175160, Nat.xor_assoc, Nat.xor_self, Nat.xor_zero]
theorem bitN_lin (k x y : Nat) : bitN k (x ^^^ y) = bitN k x ^^^ bitN k y := by
  induction k generalizing x y with
  | zero => rfl
  | succ k ih => simp only [bitN]; rw [bitS_lin, ih]
theorem bitN_add (j k r : Nat) : bitN (j + k) r = bitN k (bitN j r) := by
  induction j generalizing r with
  | zero => simp [bitN]
  | succ j ih => rw [Nat.add_right_comm]; simp only [bitN]; exact ih _
theorem bitN_succ (k r : Nat) : bitN (k + 1) r = bitS (bitN k r) := by rw [bitN_add k 1 r]; rfl
theorem bitS_dbl (h : Nat) : bitS (2 * h) = h := by
  have : ¬ (2 * h) % 2 = 1 := by omega
  simp [bitS, this]
theorem bitN4 (c : Nat) : bitN 4 c = nibT (c % 16) ^^^ c / 16 := by
  have h1 : c = (2 ^ 4 * (c / 16)) ^^^ (c % 16) := by rw [xor_add 4 _ _ (by omega)]; omega
  have h2 : bitN 4 (2 ^ 4 * (c / 16)) = c / 16 := by
    have e : 2 ^ 4 * (c / 16) = 2 * (2 * (2 * (2 * (c / 16)))) := by omega
    rw [e]
    simp only [bitN, bitS_dbl]
  have h3 : ∀ l, l < 16 → bitN 4 l = nibT l := by decide
  have h4 : bitN 4 c = bitN 4 (2 ^ 4 * (c / 16)) ^^^ bitN 4 (c % 16) := by rw [← bitN_lin, ← h1]
  rw [h4, h2, h3 _ (by omega), Nat.xor_comm]
theorem bitN8 (c : Nat) : bitN 8 c = nibT ((nibT (c % 16) ^^^ c / 16) % 16) ^^^ (nibT (c % 16) ^^^ c / 16) / 16 := by
  have := bitN_add 4 4 c
  rw [this, bitN4 c, bitN4]

theorem xor_lt {a b : Nat} (h1 : a < 4294967296) (h2 : b < 4294967296) : a ^^^ b < 4294967296 := Nat.xor_lt_two_pow (n := 32) h1 h2
theorem bitS_lt {r : Nat} (h : r < 4294967296) : bitS r < 4294967296 := by
  unfold bitS
  refine xor_lt (by omega) ?_
  split <;> omega
theorem bitN_lt {r : Nat} (k : Nat) (h : r < 4294967296) : bitN k r < 4294967296 := by
  induction k generalizing r with
  | zero => exact h
  | succ k ih => exact ih (bitS_lt h)
theorem crcR_snoc (l : List UInt8) (b : UInt8) (r : Nat) : crcR (l ++ [b]) r = bitN 8 (crcR l r ^^^ b.toNat) := by simp [crcR]
theorem crcR_lt (l : List UInt8) {r : Nat} (h : r < 4294967296) : crcR l r < 4294967296 := by
  induction l generalizing r with
  | nil => exact h
  | cons b l ih => exact ih (bitN_lt 8 (xor_lt h (by have := b.toNat_lt; omega)))
theorem crc_lt (l : List UInt8) : crc l < 4294967296 := xor_lt (crcR_lt l (by decide)) (by decide)
theorem nibT_lt (l : Nat) (h : l < 16) : nibT l < 4294967296 := (by decide : ∀ l, l < 16 → nibT l < 4294967296) l h
end Go.Proofs.YtogcpllpkdeehaaGreatDoor
namespace Go.Proofs.YtogcpllpkdeehaaGreatDoor
open Go.RowKit Go.Maps
set_option linter.unusedVariables false
set_option linter.unusedSimpArgs false

theorem take_byte (s : ByteArray) (k : Nat) (h : k < s.size) : s.data.toList.take (k + 1) = s.data.toList.take k ++ [s[k]] := by
  have h' : k < s.data.toList.length := by rw [len_data]; exact h
  rw [List.take_succ_eq_append_getElem h']
  rfl

set_option maxRecDepth 100000 in
set_option maxHeartbeats 1000000 in
theorem specCrc_any (s : ByteArray) (w : World) (hs : s.size ≤ maxLen) :
    Calls Tryz.prog 56 #[.string s] w fun e w' => e = .returned (.int .i64 (crc s.data.toList)) ∧ Below w.heap.size w w' := by
  unfold maxLen at hs
  generalize hT : crc s.data.toList = T
  go_enter Tryz.func56, Tryz.ntmps56
  go_wp2_with fail
  go_loopw [3, 4] (fun x y wr => ∃ (k r : Nat), y = .int .i64 k ∧ x = .int .u32 r ∧ k ≤ s.size ∧ r < 4294967296 ∧ crcR (s.data.toList.take k) 4294967295 = r ∧ Below w.heap.size w wr) (fun _ y _ => s.size - (intOf y).toNat)
  case atStart => exact ⟨0, 4294967295, rfl, rfl, by omega, by decide, rfl, Below.refl _ _⟩
  case round =>
    obtain ⟨k, r, rfl, rfl, hk, hr, hcr, hb⟩ := hrel
    by_cases hlt : k < s.size
    · have hbl := s[k].toNat_lt
      have hx : bits .xor .u32 (r : Int) (s[k].toNat : Int) = ((r ^^^ s[k].toNat : Nat) : Int) := u32_xor_nat _ _ hr (by omega)
      go_wp2_with fail
      have hq : r ^^^ s[k].toNat < 4294967296 := xor_lt hr (by omega)
      have HQ : Hid (crcR (s.data.toList.take (k + 1)) 4294967295 = bitN 8 (r ^^^ s[k].toNat)) := by show _ = _; rw [take_byte s k hlt, crcR_snoc, hcr]
      clear hx hcr
      generalize r ^^^ s[k].toNat = q at *
      go_loopw [3, 5] (fun x y wq => ∃ (j q' : Nat), y = .int .i64 j ∧ x = .int .u32 q' ∧ j ≤ 8 ∧ q' < 4294967296 ∧ bitN j q = q' ∧ wq = wr) (fun _ y _ => 8 - (intOf y).toNat)
      case atStart => exact ⟨0, q, rfl, rfl, by omega, hq, rfl, rfl⟩
      case round =>
        obtain ⟨j, q', rfl, rfl, hj, hq', hbq, rfl⟩ := hrel
        have HN : Hid (bitN (j + 1) q = bitS q') := by show _ = _; rw [bitN_succ, hbq]
        have HS : Hid (bitS q' < 4294967296) := bitS_lt hq'
        have HX : Hid (bits .xor .u32 ((q' : Int) / 2) 2197175160 = ((q' / 2 ^^^ 2197175160 : Nat) : Int)) := by
          show _ = _
          have := u32_xor_nat (q' / 2) 2197175160 (by omega) (by decide)
          simpa using this
        have HE : Hid (j = 8 → bitN 8 q = q') := fun h => by rw [← hbq, h]
        clear hbq
        by_cases hj8 : j < 8
        · by_cases hodd : q' % 2 = 1
          · have ho : (q' : Int) % 2 = 1 := by omega
            have hx2 := HX.out
            go_wp2_with fail
            refine ⟨⟨j + 1, q' / 2 ^^^ 2197175160, by simp, rfl, by omega, ?_, ?_, trivial⟩, by simp only [intOf]; omega⟩
            · have := HS.out; unfold bitS at this; rwa [if_pos hodd] at this
            · have := HN.out; unfold bitS at this; rwa [if_pos hodd] at this
          · have ho : ¬ (q' : Int) % 2 = 1 := by omega
            go_wp2_with fail
            refine ⟨⟨j + 1, q' / 2, by simp, by simp, by omega, by omega, ?_, trivial⟩, by simp only [intOf]; omega⟩
            have := HN.out; unfold bitS at this; rwa [if_neg hodd, Nat.xor_zero] at this
        · obtain rfl : j = 8 := by omega
          have he := HE.out rfl
          go_wp2_with fail
          exact ⟨⟨k + 1, q', by simp, rfl, by omega, hq', by rw [HQ.out, he], hb⟩, by simp only [intOf]; omega⟩
    · obtain rfl : k = s.size := by omega
      have hTe : r ^^^ 4294967295 = T := by
        rw [← hT, ← hcr]
        show _ = crcR _ _ ^^^ _
        rw [← len_data, List.take_length]
      have hxe : bits .xor .u32 (r : Int) 4294967295 = (T : Int) := by rw [← hTe]; exact u32_xor_nat _ 4294967295 hr (by decide)
      have hTl : T < 4294967296 := by rw [← hTe]; exact xor_lt hr (by decide)
      clear hT hcr hTe
      go_wp2_with fail
      go_ret
      exact ⟨rfl, hb⟩

/-- The table lies in memory. -/
def Steps (w : World) : Prop := 0 < w.heap.size ∧ ∀ i, i < 16 → w.cell? ⟨0, i, none⟩ = some (.int .u32 (nibT i))
theorem Steps.below {w w' : World} (h : Steps w) (hb : Below w.heap.size w w') : Steps w' :=
  ⟨Nat.lt_of_lt_of_le h.1 hb.size, fun i hi => (hb.cell (p := ⟨0, i, none⟩) h.1).trans (h.2 i hi)⟩

set_option maxRecDepth 100000 in
set_option maxHeartbeats 1000000 in
theorem implCrc_any (s : ByteArray) (w : World) (hs : s.size ≤ maxLen) (ht : Steps w) :
    Calls Tryz.prog 69 #[.string s] w fun e w' => e = .returned (.int .i64 (crc s.data.toList)) ∧ Below w.heap.size w w' := by
  unfold maxLen at hs
  generalize hT : crc s.data.toList = T
  go_enter Tryz.func69, Tryz.ntmps69
  go_wp2_with fail
  go_loopw [3, 7] (fun x y wr => ∃ (k r : Nat), y = .int .i64 k ∧ x = .int .u32 r ∧ k ≤ s.size ∧ r < 4294967296 ∧ crcR (s.data.toList.take k) 4294967295 = r ∧ Below w.heap.size w wr) (fun _ y _ => s.size - (intOf y).toNat)
  case atStart => exact ⟨0, 4294967295, rfl, rfl, by omega, by decide, rfl, Below.refl _ _⟩
  case round =>
    obtain ⟨k, r, rfl, rfl, hk, hr, hcr, hb⟩ := hrel
    by_cases hlt : k < s.size
    · have hbl := s[k].toNat_lt
      have hx : bits .xor .u32 (r : Int) (s[k].toNat : Int) = ((r ^^^ s[k].toNat : Nat) : Int) := u32_xor_nat _ _ hr (by omega)
      have hq : r ^^^ s[k].toNat < 4294967296 := xor_lt hr (by omega)
      have HQ : Hid (crcR (s.data.toList.take (k + 1)) 4294967295 = bitN 8 (r ^^^ s[k].toNat)) := by show _ = _; rw [take_byte s k hlt, crcR_snoc, hcr]
      clear hcr
      generalize r ^^^ s[k].toNat = q at *
      have hst := ht.below hb
      have c1 := hst.2 (q % 16) (by omega)
      have a1 : bits .and .u32 (q : Int) 15 = ((q % 16 : Nat) : Int) := by
        rw [show (15 : Int) = ((15 : Nat) : Int) from rfl, u32_and_nat q 15 hq (by decide)]
        rw [show (15 : Nat) = 2 ^ 4 - 1 from rfl, Nat.and_two_pow_sub_one_eq_mod]
      have n1 := nibT_lt (q % 16) (by omega)
      have x1 : bits .xor .u32 (nibT (q % 16) : Int) ((q : Int) / 16) = ((nibT (q % 16) ^^^ q / 16 : Nat) : Int) := by
        have := u32_xor_nat (nibT (q % 16)) (q / 16) n1 (by omega)
        simpa using this
      have l1 : nibT (q % 16) ^^^ q / 16 < 4294967296 := xor_lt n1 (by omega)
      rw [bitN8] at HQ
      generalize hp : nibT (q % 16) ^^^ q / 16 = p at *
      clear hp
      have c2 := hst.2 (p % 16) (by omega)
      have a2 : bits .and .u32 (p : Int) 15 = ((p % 16 : Nat) : Int) := by
        rw [show (15 : Int) = ((15 : Nat) : Int) from rfl, u32_and_nat p 15 l1 (by decide)]
        rw [show (15 : Nat) = 2 ^ 4 - 1 from rfl, Nat.and_two_pow_sub_one_eq_mod]
      have n2 := nibT_lt (p % 16) (by omega)
      have x2 : bits .xor .u32 (nibT (p % 16) : Int) ((p : Int) / 16) = ((nibT (p % 16) ^^^ p / 16 : Nat) : Int) := by
        have := u32_xor_nat (nibT (p % 16)) (p / 16) n2 (by omega)
        simpa using this
      have l2 : nibT (p % 16) ^^^ p / 16 < 4294967296 := xor_lt n2 (by omega)
      go_wp2_with fail
      exact ⟨⟨k + 1, _, by simp, rfl, by omega, l2, HQ.out, hb⟩, by simp only [intOf]; omega⟩
    · obtain rfl : k = s.size := by omega
      have hTe : r ^^^ 4294967295 = T := by
        rw [← hT, ← hcr]
        show _ = crcR _ _ ^^^ _
        rw [← len_data, List.take_length]
      have hxe : bits .xor .u32 (r : Int) 4294967295 = (T : Int) := by rw [← hTe]; exact u32_xor_nat _ 4294967295 hr (by decide)
      have hTl : T < 4294967296 := by rw [← hTe]; exact xor_lt hr (by decide)
      have hxm : bits .xor .u32 IntKind.u32.max (r : Int) = (T : Int) := by
        rw [← hxe]
        show bits .xor .u32 4294967295 (r : Int) = _
        simp only [bits, BitVec.xor_comm]
      have hw : wrap64 (T : Int) = T := by unfold wrap64; omega
      clear hT hcr hTe
      go_wp2_with fail
      all_goals first
        | (go_ret; exact ⟨rfl, hb⟩)
        | (rename_i hsg _; exact absurd hsg (by decide))
        | (rename_i hsg; exact absurd hsg (by decide))
end Go.Proofs.YtogcpllpkdeehaaGreatDoor
