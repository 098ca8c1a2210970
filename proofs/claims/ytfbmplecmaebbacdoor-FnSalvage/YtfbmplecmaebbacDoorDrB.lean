
import Derived.Test.YtfbmplecmaebbacDoorDrA
import Derived.Test.YtfbmplecmaebbacDoorEntD
namespace Go.Proofs.YtfbmplecmaebbacDoor
open Go.RowKit Go.Maps
set_option linter.unusedVariables false
set_option linter.unusedSimpArgs false

theorem wrap_byte (x : UInt8) : wrap64 (x.toNat : Int) = x.toNat := by
  have := x.toNat_lt
  unfold wrap64
  omega
theorem ext_sz (s : ByteArray) (a b : Nat) (h : b ≤ s.size) : (s.extract a b).size = b - a := by
  simp only [ByteArray.size_extract]
  omega

set_option maxRecDepth 100000 in
set_option maxHeartbeats 1000000 in
theorem l1Pad_any (i : Nat) (w : World) (h : i ≤ 1000) : Calls Tryd.prog 95 #[.int .i64 i] w fun e w' => ∃ t : ByteArray, t.size ≤ 3 ∧ e = .returned (.string t) ∧ Below w.heap.size w w' := by
  have a0 : (0 : Int) ≤ (i : Int) / 100 % 10 := by omega
  have a1 : (i : Int) / 100 % 10 ≤ 9 := by omega
  have b0 : (0 : Int) ≤ (i : Int) / 10 % 10 := by omega
  have b1 : (i : Int) / 10 % 10 ≤ 9 := by omega
  have c0 : (0 : Int) ≤ (i : Int) % 10 := by omega
  have c1 : (i : Int) % 10 ≤ 9 := by omega
  go_enter Tryd.func95, Tryd.ntmps95
  go_wp2_with fail
  go_quiet (fail)
  go_wp2_with fail
  go_ret
  refine ⟨_, ?_, rfl, ⟨rfl, rfl, rfl, Nat.le_refl _, fun _ _ => rfl⟩⟩
  simp only [ByteArray.size_append, ByteArray.size_extract]
  omega

set_option maxRecDepth 100000 in
set_option maxHeartbeats 1000000 in
theorem l2DrawKind_any (a : Option Addr) (cap : Nat) (bs : List UInt8) (p : Nat) (w : World) (hx : LieB w a bs) (hl : bs.length ≤ 1048576) (hp : p ≤ 100000) :
    Calls Tryd.prog 38 #[.slice a bs.length cap, .int .i64 p] w fun e w' => ∃ r : Nat, r < 256 ∧ e = .returned (.tuple #[.int .i64 r, .int .i64 ((p + 1 : Nat) : Int)]) ∧ Below w.heap.size w w' := by
  have HT := hd0 (l1Take_any a cap bs p 6 w hx hl (by omega) (by omega) (by omega))
  generalize bs.length = len at *
  go_enter Tryd.func38, Tryd.ntmps38
  go_wp2_with fail
  refine HT.out.mono ?_
  rintro e w1 ⟨r, hr, rfl, hb1⟩
  have hr' : (r : Int) < 6 := by omega
  have hwb := wrap_byte
  go_wp2_with fail
  go_ret2
  refine ⟨((⟨#[66, 73, 70, 87, 77, 82]⟩ : ByteArray)[r]'(by show r < 6; exact hr)).toNat, UInt8.toNat_lt _, ?_, hb1⟩
  show Ending.returned (.tuple #[.int .i64 (wrap64 _), .int .i64 ((p : Int) + 1)]) = _
  rw [wrap_byte]
  rfl

set_option maxRecDepth 100000 in
set_option maxHeartbeats 1000000 in
theorem l2DrawKey_any (a : Option Addr) (cap : Nat) (bs : List UInt8) (p : Nat) (w : World) (hx : LieB w a bs) (hl : bs.length ≤ 1048576) (hp : p ≤ 100000) :
    Calls Tryd.prog 82 #[.slice a bs.length cap, .int .i64 p] w fun e w' => ∃ t : ByteArray, t.size ≤ 70 ∧ e = .returned (.tuple #[.string t, .int .i64 ((p + 1 : Nat) : Int)]) ∧ Below w.heap.size w w' := by
  have HT := hd0 (l1Take_any a cap bs p 24 w hx hl (by omega) (by omega) (by omega))
  have HLg := fun w => hd0 (l1Long_any 70 ⟨#[107]⟩ w rfl (by omega))
  generalize bs.length = len at *
  clear hx
  go_enter Tryd.func82, Tryd.ntmps82
  go_wp2_with fail
  refine HT.out.mono ?_
  rintro e w1 ⟨r, hr, rfl, hb1⟩
  by_cases h20 : r < 20
  · have h20' : (r : Int) < 20 := by omega
    go_wp2_with fail
    go_ret2
    refine ⟨_, ?_, rfl, hb1⟩
    simp only [ByteArray.size_extract]
    omega
  · have h4 : r = 20 ∨ r = 21 ∨ r = 22 ∨ r = 23 := by omega
    clear hr h20
    rcases h4 with rfl | rfl | rfl | rfl
    · go_wp2_with fail
      go_ret2
      exact ⟨_, by decide, rfl, hb1⟩
    · go_wp2_with fail
      go_ret2
      exact ⟨_, by decide, rfl, hb1⟩
    · go_wp2_with fail
      refine (HLg _).out.mono ?_
      rintro e w2 ⟨t, ht, rfl, hb2⟩
      go_wp2_with fail
      go_ret2
      exact ⟨t, by omega, rfl, hb1.trans (hb2.mono hb1.size)⟩
    · go_wp2_with fail
      go_ret2
      exact ⟨_, by decide, rfl, hb1⟩

set_option maxRecDepth 100000 in
set_option maxHeartbeats 1000000 in
theorem l2DrawVal_any (a : Option Addr) (cap : Nat) (bs : List UInt8) (p : Nat) (w : World) (hx : LieB w a bs) (hl : bs.length ≤ 1048576) (hp : p ≤ 100000) :
    Calls Tryd.prog 83 #[.slice a bs.length cap, .int .i64 p] w fun e w' => ∃ t : ByteArray, t.size ≤ 1000 ∧ e = .returned (.tuple #[.string t, .int .i64 ((p + 2 : Nat) : Int)]) ∧ Below w.heap.size w w' := by
  have HT := hd0 (l1Take_any a cap bs p 16 w hx hl (by omega) (by omega) (by omega))
  have HT2 := fun (w' : World) (hb : Below w.heap.size w w') => hd0 (l1Take_any a cap bs (p + 1) 100 w' (hx.below hb) hl (by omega) (by omega) (by omega))
  have HP := fun (i : Nat) (w : World) (h : i ≤ 1000) => hd0 (l1Pad_any i w h)
  have HLg := fun (n : Nat) (b : ByteArray) (w : World) (h : b.size = 1) (h2 : n ≤ 2000000) => hd0 (l1Long_any n b w h h2)
  generalize bs.length = len at *
  replace HT2 := hd0 HT2
  replace HP := hd0 HP
  replace HLg := hd0 HLg
  clear hx
  have ec : ((p + 1 : Nat) : Int) = (p : Int) + 1 := by omega
  go_enter Tryd.func83, Tryd.ntmps83
  go_wp2_with fail
  refine HT.out.mono ?_
  rintro e w1 ⟨r, hr, rfl, hb1⟩
  go_wp2_with fail
  first | refine (HT2.out w1 hb1).out.mono ?_ | (rw [← ec]; refine (HT2.out w1 hb1).out.mono ?_)
  rintro e w2 ⟨q, hq, rfl, hb2⟩
  have hbw := hb1.trans (hb2.mono hb1.size)
  have eq2 : ((p + 1 + 1 : Nat) : Int) = ((p + 2 : Nat) : Int) := by omega
  by_cases h2 : r < 2
  · have h2' : (r : Int) < 2 := by omega
    go_wp2_with fail
    go_ret2
    exact ⟨_, by decide, rfl, hbw⟩
  · have h2' : ¬ (r : Int) < 2 := by omega
    by_cases h14 : r = 14
    · subst h14
      have e3 : Hid ((q : Int) * 3 = ((q * 3 : Nat) : Int)) := by show _ = _; omega
      have q3 : (q : Int) < 100 := by omega
      go_wp2_with fail
      first | refine (HLg.out (q * 3) ⟨#[118]⟩ _ rfl (by omega)).out.mono ?_ | (rw [e3.out]; refine (HLg.out (q * 3) ⟨#[118]⟩ _ rfl (by omega)).out.mono ?_)
      rintro e w3 ⟨t, ht, rfl, hb3⟩
      go_wp2_with fail
      go_ret2
      exact ⟨t, by omega, rfl, hbw.trans (hb3.mono hbw.size)⟩
    · have h14' : ¬ (r : Int) = 14 := by omega
      by_cases h15 : r = 15
      · subst h15
        go_wp2_with fail
        refine (HLg.out q ⟨#[0]⟩ _ rfl (by omega)).out.mono ?_
        rintro e w3 ⟨t, ht, rfl, hb3⟩
        have e20 : Hid ((20 : Int) = ((20 : Nat) : Int)) := rfl
        have hb13 := hbw.trans (hb3.mono hbw.size)
        have hts : (t.size : Int) ≤ 100 := by omega
        go_wp2_with fail
        refine (HLg.out 20 ⟨#[0]⟩ _ rfl (by omega)).out.mono ?_
        rintro e w4 ⟨t2, ht2, rfl, hb4⟩
        have hts2 : (t2.size : Int) ≤ 100 := by omega
        go_wp2_with fail
        go_ret2
        refine ⟨_, ?_, rfl, hb13.trans (hb4.mono hb13.size)⟩
        simp only [ByteArray.size_append]
        have : (⟨#[87, 99]⟩ : ByteArray).size = 2 := rfl
        omega
      · have h15' : ¬ (r : Int) = 15 := by omega
        go_wp2_with fail
        refine (HP.out q _ (by omega)).out.mono ?_
        rintro e w3 ⟨t, ht, rfl, hb3⟩
        have hts : (t.size : Int) ≤ 100 := by omega
        go_wp2_with fail
        go_ret2
        refine ⟨_, ?_, rfl, hbw.trans (hb3.mono hbw.size)⟩
        simp only [ByteArray.size_append]
        have : (⟨#[118]⟩ : ByteArray).size = 1 := rfl
        omega

/-- Entries as cells. -/
def cellsE (xs : List En) : List Value := xs.flatMap fun e => [.string e.ky, .int .i64 e.sq, .int .i64 e.kd, .string e.vl]
theorem cellsE_snoc (xs : List En) (e : En) : cellsE (xs ++ [e]) = cellsE xs ++ [.string e.ky, .int .i64 e.sq, .int .i64 e.kd, .string e.vl] := by simp [cellsE]
theorem cellsE_len (xs : List En) : (cellsE xs).length = xs.length * 4 := by
  induction xs with
  | nil => rfl
  | cons x r ih => simp [cellsE] at *; omega
theorem cellsE_at (xs : List En) (i : Nat) (hi : i < xs.length) : (cellsE xs)[i * 4]? = some (.string (xs.getD i en0).ky) ∧ (cellsE xs)[i * 4 + 1]? = some (.int .i64 (xs.getD i en0).sq) ∧ (cellsE xs)[i * 4 + 2]? = some (.int .i64 (xs.getD i en0).kd) ∧ (cellsE xs)[i * 4 + 3]? = some (.string (xs.getD i en0).vl) := by
  induction xs generalizing i with
  | nil => simp at hi
  | cons x r ih =>
    cases i with
    | zero => exact ⟨rfl, rfl, rfl, rfl⟩
    | succ i =>
      have h := ih i (by simpa using hi)
      have e : cellsE (x :: r) = [.string x.ky, .int .i64 x.sq, .int .i64 x.kd, .string x.vl] ++ cellsE r := rfl
      have sh : ∀ j, (cellsE (x :: r))[4 + j]? = (cellsE r)[j]? := fun j => by rw [e, List.getElem?_append_right (by simp)]; simp
      have g : (x :: r).getD (i + 1) en0 = r.getD i en0 := rfl
      rw [g]
      refine ⟨?_, ?_, ?_, ?_⟩
      · rw [show (i + 1) * 4 = 4 + i * 4 by omega, sh]; exact h.1
      · rw [show (i + 1) * 4 + 1 = 4 + (i * 4 + 1) by omega, sh]; exact h.2.1
      · rw [show (i + 1) * 4 + 2 = 4 + (i * 4 + 2) by omega, sh]; exact h.2.2.1
      · rw [show (i + 1) * 4 + 3 = 4 + (i * 4 + 3) by omega, sh]; exact h.2.2.2
theorem lieE_of_owns {w : World} {B n : Nat} {v : Value} {xs : List En} (h : w.ownsRow B 49 4 v n (cellsE xs)) : n = xs.length ∧ ∃ a cap, v = .slice a xs.length cap ∧ LieE w a xs := by
  obtain ⟨h1, h2⟩ := h
  have hn : n = xs.length := by rw [cellsE_len] at h1; omega
  refine ⟨hn, ?_⟩
  subst hn
  rcases h2 with ⟨rfl, h0⟩ | ⟨g, cap, cur, rfl, hg, hb, hl, hm, hsz, htk⟩
  · exact ⟨none, 0, by rw [h0], .inl (List.length_eq_zero_iff.1 h0)⟩
  · have hcell : ∀ j, j < xs.length * 4 → cur[j]? = (cellsE xs)[j]? := fun j hj => by
      have e1 : (cur.toList.take (xs.length * 4))[j]? = (cellsE xs)[j]? := by rw [htk]
      rw [List.getElem?_take_of_lt hj] at e1
      simpa using e1
    refine ⟨some ⟨g, 0, none⟩, cap, rfl, .inr ⟨g, 0, rfl, heap_lt hb, fun i hi => ?_⟩⟩
    obtain ⟨a0, a1, a2, a3⟩ := cellsE_at xs i hi
    refine ⟨?_, ?_, ?_, ?_⟩
    · simp only [World.cell?, hb, Nat.zero_add]; rw [hcell _ (by omega)]; exact a0
    · simp only [World.cell?, hb, Nat.zero_add]; rw [hcell _ (by omega)]; exact a1
    · simp only [World.cell?, hb, Nat.zero_add]; rw [hcell _ (by omega)]; exact a2
    · simp only [World.cell?, hb, Nat.zero_add]; rw [hcell _ (by omega)]; exact a3
theorem ownsE_lit (w : World) (B : Nat) (hB : B ≤ w.heap.size) : (w.alloc (.cells #[] 49)).ownsRow B 49 4 (.slice (some ⟨w.heap.size, 0, none⟩) 0 0) 0 (cellsE []) :=
  ⟨rfl, .inr ⟨w.heap.size, 0, #[], rfl, hB, World.heap_alloc_new _ _, Nat.le_refl _, Nat.zero_le _, rfl, rfl⟩⟩
theorem cell_first4 (w : World) (x y z u : Value) (t : TypeId) : ∀ j v, [x, y, z, u][j]? = some v → (w.alloc (.cells #[x, y, z, u] t)).cell? ((⟨w.heap.size, 0, none⟩ : Addr).add j) = some v := by
  intro j v hj
  rw [Go.WideShapes.add_plain]
  have hb : (w.alloc (.cells #[x, y, z, u] t)).heap[w.heap.size]? = some (.cells #[x, y, z, u] t (0, 0)) := World.heap_alloc_new _ _
  simp only [World.cell?, hb]
  match j, hj with
  | 0, hj => simpa using hj
  | 1, hj => simpa using hj
  | 2, hj => simpa using hj
  | 3, hj => simpa using hj
end Go.Proofs.YtfbmplecmaebbacDoor
