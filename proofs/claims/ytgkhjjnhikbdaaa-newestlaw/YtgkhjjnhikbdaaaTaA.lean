import Derived.Test.YtgkhjjnhikbdaaaSyD

namespace Go.Proofs.Ytgkhjjnhikbdaaa
open Go.RowKit Go.Maps
set_option linter.unusedVariables false
set_option linter.unusedSimpArgs false

/-- The key that a draw gives. -/
def dkB (r : Nat) : ByteArray :=
  if r < 20 then (⟨#[97, 98, 99, 100, 101, 102, 103, 104, 105, 106, 107, 108, 109, 110, 111, 112, 113, 114, 115, 116]⟩ : ByteArray).extract r (r + 1)
  else if r = 20 then ⟨#[97, 98]⟩ else if r = 21 then ⟨#[66, 0, 255]⟩ else if r = 22 then rep 70 ⟨#[107]⟩ else ⟨#[107, 101, 121]⟩
theorem dkB_size (r : Nat) : (dkB r).size ≤ 70 := by
  unfold dkB
  split
  · simp only [ByteArray.size_extract]; omega
  · split
    · decide
    · split
      · decide
      · split
        · rw [rep_size _ _ rfl]; omega
        · decide
set_option maxRecDepth 100000 in
set_option maxHeartbeats 1000000 in
theorem l2DrawKey_dk (a : Option Addr) (cap : Nat) (bs : List UInt8) (p : Nat) (w : World) (hx : LieB w a bs) (hl : bs.length ≤ 1048576) (hp : p ≤ 100000) :
    Calls Try.prog 41 #[.slice a bs.length cap, .int .i64 p] w fun e w' => e = .returned (.tuple #[.string (dkB (tk bs p 24)), .int .i64 ((p + 1 : Nat) : Int)]) ∧ Below w.heap.size w w' := by
  have HT := hd0 (l1Take_tk a cap bs p 24 w hx hl (by omega) (by omega))
  have hr := tk_lt bs p 24 (by omega)
  have HLg := hd0 (fun w => l1Long_rep 70 ⟨#[107]⟩ w rfl (by omega))
  generalize tk bs p 24 = r at *
  generalize bs.length = len at *
  clear hx
  by_cases h20 : r < 20
  · have h20' : (r : Int) < 20 := by omega
    have HD : Hid (dkB r = (⟨#[97, 98, 99, 100, 101, 102, 103, 104, 105, 106, 107, 108, 109, 110, 111, 112, 113, 114, 115, 116]⟩ : ByteArray).extract r (r + 1)) := by show _ = _; unfold dkB; rw [if_pos h20]
    rw [HD.out]
    go_enter Try.func41, Try.ntmps41
    go_wp2_with fail
    refine HT.out.mono ?_
    rintro e w1 ⟨rfl, hb1⟩
    go_wp2_with fail
    go_ret2
    exact ⟨rfl, hb1⟩
  · have h4 : r = 20 ∨ r = 21 ∨ r = 22 ∨ r = 23 := by omega
    clear hr h20
    rcases h4 with rfl | rfl | rfl | rfl
    · go_enter Try.func41, Try.ntmps41
      go_wp2_with fail
      refine HT.out.mono ?_
      rintro e w1 ⟨rfl, hb1⟩
      go_wp2_with fail
      go_ret2
      exact ⟨rfl, hb1⟩
    · go_enter Try.func41, Try.ntmps41
      go_wp2_with fail
      refine HT.out.mono ?_
      rintro e w1 ⟨rfl, hb1⟩
      go_wp2_with fail
      go_ret2
      exact ⟨rfl, hb1⟩
    · have HD : Hid (dkB 22 = rep 70 ⟨#[107]⟩) := rfl
      rw [HD.out]
      generalize rep 70 ⟨#[107]⟩ = t at *
      go_enter Try.func41, Try.ntmps41
      go_wp2_with fail
      refine HT.out.mono ?_
      rintro e w1 ⟨rfl, hb1⟩
      go_wp2_with fail
      refine (HLg.out _).mono ?_
      rintro e w2 ⟨rfl, hb2⟩
      go_wp2_with fail
      go_ret2
      exact ⟨rfl, hb1.trans (hb2.mono hb1.size)⟩
    · go_enter Try.func41, Try.ntmps41
      go_wp2_with fail
      refine HT.out.mono ?_
      rintro e w1 ⟨rfl, hb1⟩
      go_wp2_with fail
      go_ret2
      exact ⟨rfl, hb1⟩

/-- The value that a draw gives. -/
def dvB (r q : Nat) : ByteArray :=
  if r < 2 then ⟨#[]⟩ else if r = 14 then rep (q * 3) ⟨#[118]⟩ else if r = 15 then rep q ⟨#[0]⟩ ++ ⟨#[87, 99]⟩ ++ rep 20 ⟨#[0]⟩ else ⟨#[118]⟩ ++ padB q
theorem dvB_size (r q : Nat) (hq : q < 100) : (dvB r q).size ≤ 1000 := by
  unfold dvB
  split
  · decide
  · split
    · rw [rep_size _ _ rfl]; omega
    · split
      · simp only [ByteArray.size_append, rep_size _ _ (show (⟨#[0]⟩ : ByteArray).size = 1 from rfl)]
        have : (⟨#[87, 99]⟩ : ByteArray).size = 2 := rfl
        omega
      · have := padB_size q
        simp only [ByteArray.size_append]
        have : (⟨#[118]⟩ : ByteArray).size = 1 := rfl
        omega
set_option maxRecDepth 100000 in
set_option maxHeartbeats 1000000 in
theorem l2DrawVal_dv (a : Option Addr) (cap : Nat) (bs : List UInt8) (p : Nat) (w : World) (hx : LieB w a bs) (hl : bs.length ≤ 1048576) (hp : p ≤ 100000) :
    Calls Try.prog 42 #[.slice a bs.length cap, .int .i64 p] w fun e w' => e = .returned (.tuple #[.string (dvB (tk bs p 16) (tk bs (p + 1) 100)), .int .i64 ((p + 2 : Nat) : Int)]) ∧ Below w.heap.size w w' := by
  have HT := hd0 (l1Take_tk a cap bs p 16 w hx hl (by omega) (by omega))
  have HT2 := hd0 (fun (w' : World) (hb : Below w.heap.size w w') => l1Take_tk a cap bs (p + 1) 100 w' (hx.below hb) hl (by omega) (by omega))
  have hr := tk_lt bs p 16 (by omega)
  have hq := tk_lt bs (p + 1) 100 (by omega)
  generalize tk bs p 16 = r at *
  generalize tk bs (p + 1) 100 = q at *
  generalize bs.length = len at *
  clear hx
  obtain ⟨R, hR⟩ : ∃ R, R = dvB r q := ⟨_, rfl⟩
  rw [← hR]
  replace hR := hd0 hR
  have ec : ((p + 1 : Nat) : Int) = (p : Int) + 1 := by omega
  go_enter Try.func42, Try.ntmps42
  go_wp2_with fail
  refine HT.out.mono ?_
  rintro e w1 ⟨rfl, hb1⟩
  go_wp2_with fail
  first | refine (HT2.out w1 hb1).mono ?_ | (rw [← ec]; refine (HT2.out w1 hb1).mono ?_)
  rintro e w2 ⟨rfl, hb2⟩
  have hbw := hb1.trans (hb2.mono hb1.size)
  by_cases h2 : r < 2
  · have h2' : (r : Int) < 2 := by omega
    have hR' : R = ⟨#[]⟩ := by rw [hR.out]; unfold dvB; rw [if_pos h2]
    subst hR'
    go_wp2_with fail
    go_ret2
    exact ⟨rfl, hbw⟩
  · have h2' : ¬ (r : Int) < 2 := by omega
    by_cases h14 : r = 14
    · subst h14
      have e3 : Hid ((q : Int) * 3 = ((q * 3 : Nat) : Int)) := by show _ = _; omega
      have q3 : (q : Int) < 100 := by omega
      have HLg := hd0 (l1Long_rep (q * 3) ⟨#[118]⟩ w2 rfl (by omega))
      have HRR : Hid (R = rep (q * 3) ⟨#[118]⟩) := hR.out
      generalize rep (q * 3) ⟨#[118]⟩ = t at *
      obtain rfl : R = t := HRR.out
      go_wp2_with fail
      first | refine HLg.out.mono ?_ | (rw [e3.out]; refine HLg.out.mono ?_)
      rintro e w3 ⟨rfl, hb3⟩
      go_wp2_with fail
      go_ret2
      exact ⟨rfl, hbw.trans (hb3.mono hbw.size)⟩
    · have h14' : ¬ (r : Int) = 14 := by omega
      by_cases h15 : r = 15
      · subst h15
        have HLg := hd0 (l1Long_rep q ⟨#[0]⟩ w2 rfl (by omega))
        have HLh := hd0 (fun w => l1Long_rep 20 ⟨#[0]⟩ w rfl (by omega))
        have HRR : Hid (R = rep q ⟨#[0]⟩ ++ ⟨#[87, 99]⟩ ++ rep 20 ⟨#[0]⟩) := hR.out
        have ht := rep_size q ⟨#[0]⟩ rfl
        have ht2 := rep_size 20 ⟨#[0]⟩ rfl
        generalize rep q ⟨#[0]⟩ = t at *
        generalize rep 20 ⟨#[0]⟩ = t2 at *
        have hts : (t.size : Int) ≤ 100 := by omega
        have hts2 : (t2.size : Int) ≤ 100 := by omega
        clear ht ht2
        go_wp2_with fail
        refine HLg.out.mono ?_
        rintro e w3 ⟨rfl, hb3⟩
        have hb13 := hbw.trans (hb3.mono hbw.size)
        go_wp2_with fail
        refine (HLh.out _).mono ?_
        rintro e w4 ⟨rfl, hb4⟩
        go_wp2_with fail
        go_ret2
        exact ⟨by rw [HRR.out]; rfl, hb13.trans (hb4.mono hb13.size)⟩
      · have h15' : ¬ (r : Int) = 15 := by omega
        have HP := hd0 (l1Pad_any q (by omega) w2)
        have HRR : Hid (R = ⟨#[118]⟩ ++ padB q) := by show _ = _; rw [hR.out]; unfold dvB; rw [if_neg h2, if_neg h14, if_neg h15]
        have ht := padB_size q
        generalize padB q = t at *
        have hts : (t.size : Int) ≤ 100 := by omega
        go_wp2_with fail
        refine HP.out.mono ?_
        rintro e w3 ⟨rfl, hb3⟩
        go_wp2_with fail
        go_ret2
        exact ⟨by rw [HRR.out]; rfl, hbw.trans (hb3.mono hbw.size)⟩
end Go.Proofs.Ytgkhjjnhikbdaaa
