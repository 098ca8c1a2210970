
import Derived.Test.YtfbmplecmaebbacDoorDrC
namespace Go.Proofs.YtfbmplecmaebbacDoor
open Go.RowKit Go.Maps
set_option linter.unusedVariables false
set_option linter.unusedSimpArgs false

theorem encT_small (xs : List En) (h : xs.length ≤ 100) : (encT xs).size ≤ 600000 := by
  unfold encT
  split
  · rename_i h1
    have := encB_len xs.length xs h1.2
    have e : (⟨(encB xs.length xs).toArray⟩ : ByteArray).size = (encB xs.length xs).length := by simp [ByteArray.size]
    rw [e]
    omega
  · exact Nat.zero_le _
theorem small_fits {xs : List En} (h : SmallE xs) : FitsE xs := fun e he => by
  have := h e he
  unfold maxLen
  omega

set_option maxRecDepth 100000 in
set_option maxHeartbeats 2000000 in
theorem l2DrawPayload_any (a : Option Addr) (cap : Nat) (bs : List UInt8) (p : Nat) (w : World) (hx : LieB w a bs) (hl : bs.length ≤ 1048576) (hp : p ≤ 1000) :
    Calls Tryd.prog 39 #[.slice a bs.length cap, .int .i64 p] w fun e w' => ∃ (t : ByteArray) (q : Nat), t.size ≤ 600000 ∧ q ≤ p + 30 ∧ e = .returned (.tuple #[.string t, .int .i64 q]) ∧ Below w.heap.size w w' := by
  have HT : Hid (∀ (w' : World) (p n : Nat), Below w.heap.size w w' → p ≤ 1000000 → 1 ≤ n → n ≤ 256 → Calls Tryd.prog 37 #[.slice a bs.length cap, .int .i64 p, .int .i64 n] w' fun e w'' => ∃ r : Nat, r < n ∧ e = .returned (.tuple #[.int .i64 r, .int .i64 ((p + 1 : Nat) : Int)]) ∧ Below w'.heap.size w' w'') := fun w' p n hb h h1 h2 => l1Take_any a cap bs p n w' (hx.below hb) hl h h1 h2
  have HLg : Hid (∀ (n : Nat) (b : ByteArray) (w : World), b.size = 1 → n ≤ 2000000 → Calls Tryd.prog 40 #[.int .i64 n, .string b] w fun e w' => ∃ t : ByteArray, t.size = n ∧ e = .returned (.string t) ∧ Below w.heap.size w w') := l1Long_any
  have HE : Hid (∀ (w' : World) (p n seq : Nat), Below w.heap.size w w' → p ≤ 50000 → n ≤ 1000 → seq ≤ 100000 → Calls Tryd.prog 63 #[.slice a bs.length cap, .int .i64 p, .int .i64 n, .int .i64 seq] w' fun e w'' => ∃ (a' : Option Addr) (cap' : Nat) (xs : List En) (q : Nat), e = .returned (.tuple #[.slice a' xs.length cap', .int .i64 q]) ∧ xs.length = n ∧ q = p + 4 * n ∧ SmallE xs ∧ LieE w'' a' xs ∧ Below w'.heap.size w' w'') := fun w' p n seq hb h1 h2 h3 => l2DrawEntries_any a cap bs p n seq w' (hx.below hb) hl h1 h2 h3
  have HC : Hid (∀ (a' : Option Addr) (cap' : Nat) (xs : List En) (w' : World), LieE w' a' xs → FitsE xs → xs.length ≤ 1048576 → Calls Tryd.prog 26 #[.slice a' xs.length cap'] w' fun e w'' => e = .returned (.string (encT xs)) ∧ Below w'.heap.size w' w'') := specEnc_any
  generalize bs.length = len at *
  clear hx
  go_enter Tryd.func39, Tryd.ntmps39
  go_wp2_with fail
  refine (HT.out w p 8 (Below.refl _ _) (by omega) (by omega) (by omega)).mono ?_
  rintro e w1 ⟨r, hr, rfl, hb1⟩
  go_wp2_with fail
  refine (HT.out w1 (p + 1) 130 hb1 (by omega) (by omega) (by omega)).mono ?_
  rintro e w2 ⟨q, hq, rfl, hb2⟩
  have hbw := hb1.trans (hb2.mono hb1.size)
  have hq' : (q : Int) < 130 := by omega
  by_cases h3 : r < 3
  · have h3' : (r : Int) < 3 := by omega
    have hsz1 : (((⟨#[120, 121, 122]⟩ : ByteArray).extract r (r + 1)).size) = 1 := by
      rw [ByteArray.size_extract]
      have : (⟨#[120, 121, 122]⟩ : ByteArray).size = 3 := rfl
      omega
    replace hsz1 := hd0 hsz1
    go_wp2_with fail
    refine (HLg.out q _ _ hsz1.out (by omega)).mono ?_
    rintro e w3 ⟨t, ht, rfl, hb3⟩
    go_wp2_with fail
    go_ret2
    exact ⟨t, p + 1 + 1, by omega, by omega, rfl, hbw.trans (hb3.mono hbw.size)⟩
  · have h3' : ¬ (r : Int) < 3 := by omega
    by_cases h33 : r = 3
    · subst h33
      have e5 : Hid (55 + 63 * ((q : Int) % 3) - 1 + (q : Int) % 2 = ((54 + 63 * (q % 3) + q % 2 : Nat) : Int)) := by show _ = _; omega
      go_wp2_with fail
      rw [e5.out]
      refine (HLg.out _ ⟨#[101]⟩ _ rfl (by omega)).mono ?_
      rintro e w3 ⟨t, ht, rfl, hb3⟩
      go_wp2_with fail
      go_ret2
      exact ⟨t, p + 1 + 1, by omega, by omega, rfl, hbw.trans (hb3.mono hbw.size)⟩
    · have h33' : ¬ (r : Int) = 3 := by omega
      have e6 : Hid (1 + (q : Int) % 6 = ((1 + q % 6 : Nat) : Int)) := by show _ = _; omega
      have e7 : Hid (1 + (q : Int) = ((1 + q : Nat) : Int)) := by show _ = _; omega
      go_wp2_with fail
      rw [e6.out, e7.out]
      refine (HE.out w2 (p + 1 + 1) (1 + q % 6) (1 + q) hbw (by omega) (by omega) (by omega)).mono ?_
      rintro e w3 ⟨a', cap', xs, z, rfl, hxl, hz, hsm, hlie, hb3⟩
      have hbw3 := hbw.trans (hb3.mono hbw.size)
      have hxl2 : xs.length ≤ 6 := by omega
      have HZ : Hid (z ≤ p + 30) := by show _ ≤ _; omega
      clear hz hxl
      go_wp2_with fail
      refine (HC.out a' cap' xs _ hlie (small_fits hsm) (by omega)).mono ?_
      rintro e w4 ⟨rfl, hb4⟩
      go_wp2_with fail
      go_ret2
      exact ⟨encT xs, z, encT_small xs (by omega), HZ.out, rfl, hbw3.trans (hb4.mono hbw3.size)⟩

set_option maxRecDepth 100000 in
set_option maxHeartbeats 2000000 in
theorem drawFrame_any (a : Option Addr) (cap : Nat) (bs : List UInt8) (w : World) (hx : LieB w a bs) (hl : bs.length ≤ 1048576) :
    Calls Tryd.prog 11 #[.slice a bs.length cap] w fun e w' => ∃ (k : Int) (t : ByteArray), t.size ≤ 2000000 ∧ e = .returned (.tuple #[.int .i64 k, .string t]) ∧ Below w.heap.size w w' := by
  have HT : Hid (Calls Tryd.prog 37 #[.slice a bs.length cap, .int .i64 0, .int .i64 24] w fun e w'' => ∃ r : Nat, r < 24 ∧ e = .returned (.tuple #[.int .i64 r, .int .i64 1]) ∧ Below w.heap.size w w'') := l1Take_any a cap bs 0 24 w hx hl (by omega) (by omega) (by omega)
  have HK : Hid (∀ (w' : World), Below w.heap.size w w' → Calls Tryd.prog 38 #[.slice a bs.length cap, .int .i64 1] w' fun e w'' => ∃ r : Nat, r < 256 ∧ e = .returned (.tuple #[.int .i64 r, .int .i64 2]) ∧ Below w'.heap.size w' w'') := fun w' hb => l2DrawKind_any a cap bs 1 w' (hx.below hb) hl (by omega)
  have HP : Hid (∀ (w' : World), Below w.heap.size w w' → Calls Tryd.prog 39 #[.slice a bs.length cap, .int .i64 2] w' fun e w'' => ∃ (t : ByteArray) (q : Nat), t.size ≤ 600000 ∧ q ≤ 2 + 30 ∧ e = .returned (.tuple #[.string t, .int .i64 q]) ∧ Below w'.heap.size w' w'') := fun w' hb => l2DrawPayload_any a cap bs 2 w' (hx.below hb) hl (by omega)
  have HLg : Hid (∀ (w : World), Calls Tryd.prog 40 #[.int .i64 1048577, .string ⟨#[101]⟩] w fun e w' => ∃ t : ByteArray, t.size = 1048577 ∧ e = .returned (.string t) ∧ Below w.heap.size w w') := fun w => l1Long_any 1048577 ⟨#[101]⟩ w rfl (by omega)
  generalize bs.length = len at *
  clear hx
  go_enter Tryd.func11, Tryd.ntmps11
  go_wp2_with fail
  refine HT.out.mono ?_
  rintro e w1 ⟨r, hr, rfl, hb1⟩
  go_wp2_with fail
  refine (HK.out w1 hb1).mono ?_
  rintro e w2 ⟨k, hk, rfl, hb2⟩
  have hbw2 := hb1.trans (hb2.mono hb1.size)
  go_wp2_with fail
  refine (HP.out w2 hbw2).mono ?_
  rintro e w3 ⟨t, q, ht, hq, rfl, hb3⟩
  have hbw3 := hbw2.trans (hb3.mono hbw2.size)
  by_cases h22 : r = 22
  · subst h22
    go_wp2_with fail
    go_ret2
    exact ⟨_, t, by omega, rfl, hbw3⟩
  · have h22' : ¬ (r : Int) = 22 := by omega
    by_cases h23 : r = 23
    · subst h23
      go_wp2_with fail
      refine (HLg.out _).mono ?_
      rintro e w4 ⟨t4, ht4, rfl, hb4⟩
      go_wp2_with fail
      go_ret2
      exact ⟨_, t4, by omega, rfl, hbw3.trans (hb4.mono hbw3.size)⟩
    · have h23' : ¬ (r : Int) = 23 := by omega
      go_wp2_with fail
      go_ret2
      exact ⟨_, t, by omega, rfl, hbw3⟩
end Go.Proofs.YtfbmplecmaebbacDoor
