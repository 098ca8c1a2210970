
import Derived.Test.YtfbmplecmaebbacDoorDrD
import Derived.Test.YtfbmplecmaebbacDoorFlN
import Derived.Test.YtfbmplecmaebbacDoorRfI
namespace Go.Proofs.YtfbmplecmaebbacDoor
open Go.RowKit Go.Maps
set_option linter.unusedVariables false
set_option linter.unusedSimpArgs false

/-- What wPick gives. -/
def wp (bs : List UInt8) (i : Nat) : Nat := if bs = [] then i else (bs.getD (i % bs.length) 0).toNat
theorem wp_le (bs : List UInt8) (i : Nat) : wp bs i ≤ i + 255 := by
  unfold wp
  split
  · omega
  · have := (bs.getD (i % bs.length) 0).toNat_lt
    omega
set_option maxRecDepth 100000 in
theorem wPick_any (a : Option Addr) (cap : Nat) (bs : List UInt8) (i : Nat) (w : World) (hx : LieB w a bs) (hl : bs.length ≤ 1048576) (hi : i ≤ 1000000) :
    Calls Tryd.prog 14 #[.slice a bs.length cap, .int .i64 i] w fun e w' => e = .returned (.int .i64 (wp bs i : Nat)) ∧ Below w.heap.size w w' := by
  by_cases h0 : bs = []
  · have e : wp bs i = i := by unfold wp; rw [if_pos h0]
    rw [e]
    subst h0
    go_enter Tryd.func14, Tryd.ntmps14
    go_wp2_with fail
    go_ret
    exact ⟨rfl, Below.refl _ _⟩
  · have hpos : 0 < bs.length := List.length_pos_iff.2 h0
    rcases hx with h | ⟨b, off, rfl, hbl, hc⟩
    · exact absurd h h0
    have c0 := hc (i % bs.length) (Nat.mod_lt _ hpos)
    have e : wp bs i = (bs.getD (i % bs.length) 0).toNat := by unfold wp; rw [if_neg h0]
    have hb := (bs.getD (i % bs.length) 0).toNat_lt
    rw [e]
    generalize (bs.getD (i % bs.length) 0).toNat = x at *
    have hwx : wrap64 (x : Int) = x := by unfold wrap64; omega
    clear hc h0 e
    generalize bs.length = len at *
    have m0 : (0 : Int) ≤ (i : Int) % len := Int.emod_nonneg _ (by omega)
    have m1 : (i : Int) % len < len := Int.emod_lt_of_pos _ (by omega)
    go_enter Tryd.func14, Tryd.ntmps14
    go_wp2_with fail
    go_ret
    exact ⟨rfl, Below.refl _ _⟩

/-- One byte as a text. -/
def b1 (n : Int) : ByteArray := ByteArray.empty.push (UInt8.ofNat n.toNat)
theorem b1_size (n : Int) : (b1 n).size = 1 := by simp [b1]
theorem b1_data (n : Int) : (b1 n).data.toList = [UInt8.ofNat n.toNat] := by simp [b1]
theorem convb1 (w : World) (n : Int) : (convert 29 9 (.slice (some ⟨w.heap.size, 0, none⟩) 1 1)).run Tryd.prog (w.alloc (.cells #[.int .u8 n] 5)) = .ok (.string (b1 n)) (w.alloc (.cells #[.int .u8 n] 5)) := by
  rw [run_convert_bytes_string _ 29 9 5 _ 1 1 Tryd.underlying29 Tryd.underlying5 Tryd.underlying9, run_bytesToString _ _ 1 1 [n] (by simp [loadCells, go_sem])]
  rfl

theorem convb3 (w : World) (n : Int) (o : Obj) : (convert 29 9 (.slice (some ⟨w.heap.size, 0, none⟩) 1 1)).run Tryd.prog ((w.alloc (.cells #[.int .u8 n] 5)).alloc o) = .ok (.string (b1 n)) ((w.alloc (.cells #[.int .u8 n] 5)).alloc o) := by
  have hb : ((w.alloc (.cells #[.int .u8 n] 5)).alloc o).heap[w.heap.size]? = some (.cells #[.int .u8 n] 5 (0, 0)) := by
    rw [Below.heap_alloc _ _ _ (by simp)]
    exact World.heap_alloc_new _ _
  have hc : ((w.alloc (.cells #[.int .u8 n] 5)).alloc o).cell? ⟨w.heap.size, 0, none⟩ = some (.int .u8 n) := by simp [World.cell?, hb]
  rw [run_convert_bytes_string _ 29 9 5 _ 1 1 Tryd.underlying29 Tryd.underlying5 Tryd.underlying9, run_bytesToString _ _ 1 1 [n] (by simp [loadCells, go_sem, hc])]
  rfl

set_option maxRecDepth 100000 in
set_option maxHeartbeats 1000000 in
theorem wText_any (a : Option Addr) (cap : Nat) (bs : List UInt8) (i0 : Nat) (w : World) (hx : LieB w a bs) (hl : bs.length ≤ 1048576) (hi : i0 ≤ 1000) :
    Calls Tryd.prog 15 #[.slice a bs.length cap, .int .i64 i0] w fun e w' => ∃ t : ByteArray, t.size ≤ 150 ∧ e = .returned (.string t) ∧ Below w.heap.size w w' := by
  have HP : Hid (∀ (w' : World) (i : Nat), Below w.heap.size w w' → i ≤ 1000000 → Calls Tryd.prog 14 #[.slice a bs.length cap, .int .i64 i] w' fun e w'' => e = .returned (.int .i64 (wp bs i : Nat)) ∧ Below w'.heap.size w' w'') := fun w' i hb h => wPick_any a cap bs i w' (hx.below hb) hl h
  have hcv := convb1
  have hbs := b1_size
  have hw0 := wp_le bs i0
  have HN : Hid (Int.tmod (wp bs i0 : Nat) 150 = ((wp bs i0 % 150 : Nat) : Int)) := rfl
  have hn : wp bs i0 % 150 < 150 := Nat.mod_lt _ (by omega)
  generalize bs.length = len at *
  go_enter Tryd.func15, Tryd.ntmps15
  go_wp2_with fail
  refine (HP.out w i0 (Below.refl _ _) (by omega)).mono ?_
  rintro e w1 ⟨rfl, hb1⟩
  have hb1s := hb1.size
  have h0 : (0 : Int) ≤ (wp bs i0 : Nat) := by omega
  go_wp2_with fail
  go_loopw [6, 7] (fun v i wr => ∃ (k : Nat) (t : ByteArray), k ≤ wp bs i0 % 150 ∧ v = .string t ∧ t.size = k ∧ i = .int .i64 k ∧ Below w.heap.size w wr) (fun _ i _ => 150 - (intOf i).toNat)
  case atStart => exact ⟨0, ⟨#[]⟩, Nat.zero_le _, rfl, rfl, rfl, hb1⟩
  case round =>
    obtain ⟨k, t, hk, rfl, hts, rfl, hb⟩ := hrel
    have hkt : (k : Int) < 150 := by omega
    have e1 : Hid ((i0 : Int) + k + 1 = ((i0 + k + 1 : Nat) : Int)) := by show _ = _; omega
    by_cases hlt : k < wp bs i0 % 150
    · have hlt' : (k : Int) < (wp bs i0 : Nat) % 150 := by omega
      go_wp2_with fail
      rw [e1.out]
      refine (HP.out wr _ hb (by omega)).mono ?_
      rintro e w2 ⟨rfl, hb2⟩
      have hbw2 := hb.trans (hb2.mono hb.size)
      have hbw2s := hbw2.size
      have htI : (t.size : Int) ≤ 150 := by omega
      generalize wp bs (i0 + k + 1) = W1 at *
      go_wp2_with fail
      refine ⟨⟨k + 1, _, by omega, rfl, ?_, by go_num, hbw2.alloc hbw2s _⟩, by simp only [intOf]; omega⟩
      rw [ByteArray.size_append, hbs]
      omega
    · have hlt' : ¬ (k : Int) < (wp bs i0 : Nat) % 150 := by omega
      go_wp2_with fail
      go_ret
      exact ⟨t, by omega, rfl, hb⟩
end Go.Proofs.YtfbmplecmaebbacDoor
