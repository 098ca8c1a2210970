import Derived.Test.YtgkhjjnhikbdaaaNwD

namespace Go.Proofs.Ytgkhjjnhikbdaaa
open Go.RowKit Go.Maps
set_option linter.unusedVariables false
set_option linter.unusedSimpArgs false

/-- Two entries change places. -/
def swp (xs : List En) (i j : Nat) : List En := (xs.set i (xs.getD j en0)).set j (xs.getD i en0)
def swpN (xs : List En) (a b : Nat) : Nat → List En
  | 0 => xs
  | k + 1 => swp (swpN xs a b k) (a + k) (b + k)
theorem swp_length (xs : List En) (i j : Nat) : (swp xs i j).length = xs.length := by simp [swp]
theorem swpN_length (xs : List En) (a b k : Nat) : (swpN xs a b k).length = xs.length := by
  induction k with
  | zero => rfl
  | succ k ih => rw [swpN, swp_length, ih]
/-- Only block g has changed. -/
structure OnlyG (p : Nat) (w w' : World) : Prop where
  os : w'.os = w.os
  tape : w'.tape = w.tape
  output : w'.output = w.output
  size : w.heap.size ≤ w'.heap.size
  block : ∀ k, k < w.heap.size → k ≠ p → w'.heap[k]? = w.heap[k]?
theorem OnlyG.trans {p : Nat} {a b c : World} (h : OnlyG p a b) (k : OnlyG p b c) : OnlyG p a c :=
  ⟨k.os.trans h.os, k.tape.trans h.tape, k.output.trans h.output, Nat.le_trans h.size k.size, fun i hi hn => (k.block i (Nat.lt_of_lt_of_le hi h.size) hn).trans (h.block i hi hn)⟩
theorem OnlyG.set {p : Nat} (w : World) (o : Nat) (v : Value) : OnlyG p w (w.setCell ⟨p, o, none⟩ v) :=
  ⟨rfl, rfl, rfl, by simp [World.setCell], fun k _ hn => Below.heap_setCell _ _ _ _ (by simpa using hn)⟩
theorem OnlyG.of {p : Nat} {w w' : World} (h : Below w.heap.size w w') : OnlyG p w w' := ⟨h.os, h.tape, h.output, h.size, fun k hk _ => h.block k hk⟩
theorem drew_heap (w : World) (g : Nat) : w.drew.heap[g]? = w.heap[g]? := rfl
theorem setD4 (xs : List En) (i j : Nat) (x : En) (hi : i < xs.length) : (xs.set i x).getD j en0 = if j = i then x else xs.getD j en0 := by
  rw [List.getD_eq_getElem?_getD, List.getElem?_set, List.getD_eq_getElem?_getD]
  by_cases h : i = j
  · subst h; simp [hi]
  · rw [if_neg h, if_neg (fun e => h e.symm)]
def putE (w : World) (g p : Nat) (e : En) : World := (((w.setCell ⟨g, p * 4, none⟩ (.string e.ky)).setCell ⟨g, p * 4 + 1, none⟩ (.int .i64 e.sq)).setCell ⟨g, p * 4 + 2, none⟩ (.int .i64 e.kd)).setCell ⟨g, p * 4 + 3, none⟩ (.string e.vl)
theorem putE_only (w : World) (g p : Nat) (e : En) : OnlyG g w (putE w g p e) := (((OnlyG.set _ _ _).trans (OnlyG.set _ _ _)).trans (OnlyG.set _ _ _)).trans (OnlyG.set _ _ _)
theorem RowE.put {w : World} {g n p : Nat} {zs : List En} (h : RowE w g n zs n) (hz : zs.length = n) (hp : p < n) (e : En) : RowE (putE w g p e) g n (zs.set p e) n := by
  obtain ⟨cs, h1, h2, h3⟩ := h
  have e1 := heap_setCell_same w g (p * 4) _ _ (.string e.ky) h1
  have e2 := heap_setCell_same _ g (p * 4 + 1) _ _ (.int .i64 e.sq) e1
  have e3 := heap_setCell_same _ g (p * 4 + 2) _ _ (.int .i64 e.kd) e2
  have e4 := heap_setCell_same _ g (p * 4 + 3) _ _ (.string e.vl) e3
  refine ⟨_, e4, by simpa using h2, fun i hi => ?_⟩
  rw [setD4 zs p i e (by omega)]
  by_cases hip : i = p
  · subst hip
    rw [if_pos rfl]
    refine ⟨?_, ?_, ?_, ?_⟩
    · simp [Array.getElem?_setIfInBounds]; omega
    · simp [Array.getElem?_setIfInBounds]; omega
    · simp [Array.getElem?_setIfInBounds]; omega
    · simp [Array.getElem?_setIfInBounds]; omega
  · rw [if_neg hip]
    obtain ⟨a0, a1, a2, a3⟩ := h3 i hi
    refine ⟨?_, ?_, ?_, ?_⟩
    · rw [Array.getElem?_setIfInBounds_ne (by omega), Array.getElem?_setIfInBounds_ne (by omega), Array.getElem?_setIfInBounds_ne (by omega), Array.getElem?_setIfInBounds_ne (by omega)]; exact a0
    · rw [Array.getElem?_setIfInBounds_ne (by omega), Array.getElem?_setIfInBounds_ne (by omega), Array.getElem?_setIfInBounds_ne (by omega), Array.getElem?_setIfInBounds_ne (by omega)]; exact a1
    · rw [Array.getElem?_setIfInBounds_ne (by omega), Array.getElem?_setIfInBounds_ne (by omega), Array.getElem?_setIfInBounds_ne (by omega), Array.getElem?_setIfInBounds_ne (by omega)]; exact a2
    · rw [Array.getElem?_setIfInBounds_ne (by omega), Array.getElem?_setIfInBounds_ne (by omega), Array.getElem?_setIfInBounds_ne (by omega), Array.getElem?_setIfInBounds_ne (by omega)]; exact a3
set_option maxRecDepth 100000 in
set_option maxHeartbeats 4000000 in
theorem swapRange_any (g n cap : Nat) (xs : List En) (a b k : Nat) (fv : Value) (w : World) (hp : RowE w g n xs n) (hl : xs.length = n) (h1 : a + k ≤ b) (h2 : b + k ≤ n) (hn : n ≤ 1048576) :
    Calls Try.prog 56 #[.slice (some ⟨g, 0, none⟩) n cap, .int .i64 a, .int .i64 b, .int .i64 k, fv] w fun e w' => (∃ v, e = .returned v) ∧ RowE w' g n (swpN xs a b k) n ∧ OnlyG g w w' := by
  go_enter Try.func56, Try.ntmps56
  go_wp2_with fail
  go_loopw [10] (fun v10 W => ∃ i : Nat, v10 = .int .i64 (i : Int) ∧ i ≤ k ∧ Hid (RowE W g n (swpN xs a b i) n) ∧ Hid (OnlyG g w W)) (fun v10 _ => k - (intOf v10).toNat)
  case atStart => exact ⟨0, rfl, Nat.zero_le _, hp, ⟨rfl, rfl, rfl, Nat.le_refl _, fun _ _ _ => rfl⟩⟩
  case round =>
    obtain ⟨i, rfl, hi1, HR, HO⟩ := hrel
    by_cases hK : i < k
    · have hK' : (i : Int) < (k : Int) := by omega
      obtain ⟨cs, r1, r2, r3⟩ := HR.out
      obtain ⟨c0, c1, c2, c3⟩ := r3 (a + i) (by omega)
      obtain ⟨d0, d1, d2, d3⟩ := r3 (b + i) (by omega)
      have cell : ∀ o v, cs[o]? = some v → wr.cell? ⟨g, o, none⟩ = some v := fun o v h => by simp only [World.cell?, r1]; exact h
      have x0 := cell _ _ c0
      have x1 := cell _ _ c1
      have x2 := cell _ _ c2
      have x3 := cell _ _ c3
      have y0 := cell _ _ d0
      have y1 := cell _ _ d1
      have y2 := cell _ _ d2
      have y3 := cell _ _ d3
      have hgl := heap_lt r1
      have fz : ∀ o, wr.frozen? ⟨g, o, none⟩ = false := fun o => by simp [World.frozen?, r1]
      have hzl : (swpN xs a b i).length = n := by rw [swpN_length]; exact hl
      have HS1 : Hid (swpN xs a b (i + 1) = ((swpN xs a b i).set (a + i) ((swpN xs a b i).getD (b + i) en0)).set (b + i) ((swpN xs a b i).getD (a + i) en0)) := rfl
      have HP := hdN (fun (x y : En) => (HR.out.put hzl (by omega : a + i < n) y).put (by rw [List.length_set]; exact hzl) (by omega : b + i < n) x)
      have HQ : Hid (∀ x y : En, OnlyG g wr (putE (putE wr g (a + i) y) g (b + i) x)) := fun x y => (putE_only _ _ _ _).trans (putE_only _ _ _ _)
      generalize (swpN xs a b i).getD (a + i) en0 = x at *
      generalize (swpN xs a b i).getD (b + i) en0 = y at *
      have p0 : (0 : Int) ≤ (a : Int) + (i : Int) := by omega
      have p1 : (a : Int) + (i : Int) < (n : Int) := by omega
      have p2 : ((a : Int) + (i : Int)).toNat = a + i := by omega
      have p3 : IntKind.i64.wrap ((a : Int) + (i : Int)) = (a : Int) + (i : Int) := by rw [IntKind.wrap_i64]; omega
      have q0 : (0 : Int) ≤ (b : Int) + (i : Int) := by omega
      have q1 : (b : Int) + (i : Int) < (n : Int) := by omega
      have q2 : ((b : Int) + (i : Int)).toNat = b + i := by omega
      have q3 : IntKind.i64.wrap ((b : Int) + (i : Int)) = (b : Int) + (i : Int) := by rw [IntKind.wrap_i64]; omega
      have HC := hdN r1
      clear c0 c1 c2 c3 d0 d1 d2 d3 r3 cell r1
      go_wp2_with fail
      go_region_law (fail)
      all_goals
        have HPx : Hid (RowE (putE (putE wr g (a + i) y) g (b + i) x).drew g n (swpN xs a b (i + 1)) n) := by
          show RowE _ _ _ _ _
          rw [HS1.out]
          exact (HP.out x y).block (drew_heap _ _)
        have HOx : Hid (OnlyG g w (putE (putE wr g (a + i) y) g (b + i) x).drew) := HO.out.trans ((HQ.out x y).trans (OnlyG.of ((Below.refl _ _).drew)))
        clear x0 x1 x2 x3 y0 y1 y2 y3 fz HP HQ HS1
        unfold putE at HPx HOx
        go_wp2_with fail
        exact ⟨⟨i + 1, by go_num, by omega, HPx, HOx⟩, by simp only [intOf]; omega⟩
    · have hK' : ¬ (i : Int) < (k : Int) := by omega
      have hik : i = k := by omega
      go_wp2_with fail
      go_end0
      subst hik
      exact ⟨⟨_, rfl⟩, HR.out, HO.out⟩
end Go.Proofs.Ytgkhjjnhikbdaaa
