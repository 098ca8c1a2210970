
import Derived.Test.YtfbmplecmaebbabDoorRlS
import Derived.Laws.Rows
namespace Go.Proofs.YtfbmplecmaebbabDoor
open Go.RowKit Go.Maps
set_option linter.unusedVariables false
set_option linter.unusedSimpArgs false

/-- One byte as a text. -/
def d1 (n : Int) : ByteArray := ByteArray.empty.push (UInt8.ofNat n.toNat)
theorem d1_size (n : Int) : (d1 n).size = 1 := by simp [d1]

theorem conv1 (w : World) (n : Int) : (convert 41 9 (.slice (some ⟨w.heap.size, 0, none⟩) 1 1)).run Tryd.prog (w.alloc (.cells #[.int .u8 n] 5)) = .ok (.string (d1 n)) (w.alloc (.cells #[.int .u8 n] 5)) := by
  rw [run_convert_bytes_string _ 41 9 5 _ 1 1 Tryd.underlying41 Tryd.underlying5 Tryd.underlying9, run_bytesToString _ _ 1 1 [n] (by simp [loadCells, go_sem])]
  rfl

/-- The digits of k ahead of out. -/
def md : Nat → Nat → ByteArray → ByteArray
  | 0, _, out => out
  | n + 1, k, out => if k = 0 then out else md n (k / 10) (d1 (48 + (k : Int) % 10) ++ out)
theorem md_zero (n : Nat) (out : ByteArray) : md n 0 out = out := by cases n <;> simp [md]
theorem md_more : ∀ (n k : Nat) (out : ByteArray), k ≤ n → md (n + 1) k out = md n k out := by
  intro n
  induction n with
  | zero => intro k out h; have : k = 0 := by omega
            subst this; rw [md_zero, md_zero]
  | succ n ih =>
    intro k out h
    show (if k = 0 then out else md (n + 1) (k / 10) (d1 (48 + (k : Int) % 10) ++ out)) = (if k = 0 then out else md n (k / 10) (d1 (48 + (k : Int) % 10) ++ out))
    by_cases hk : k = 0
    · simp [hk]
    · rw [if_neg hk, if_neg hk, ih _ _ (by omega)]
theorem md_stable (n k : Nat) (out : ByteArray) (h : k ≤ n) : md n k out = md k k out := by
  induction n with
  | zero => have : k = 0 := by omega
            subst this; rfl
  | succ n ih =>
    by_cases hk : k = n + 1
    · rw [hk]
    · rw [md_more n k out (by omega)]; exact ih (by omega)
theorem md_step {k : Nat} (hk : 0 < k) (out : ByteArray) : md (k / 10) (k / 10) (d1 (48 + (k : Int) % 10) ++ out) = md k k out := by
  obtain ⟨n, rfl⟩ : ∃ n, k = n + 1 := ⟨k - 1, by omega⟩
  show _ = (if n + 1 = 0 then out else md n ((n + 1) / 10) (d1 (48 + ((n + 1 : Nat) : Int) % 10) ++ out))
  rw [if_neg (by omega), md_stable n _ _ (by omega)]

/-- The text of a mark. -/
def mt (k : Nat) : ByteArray := ⟨#[109]⟩ ++ md k k ByteArray.empty

set_option maxRecDepth 100000 in
set_option maxHeartbeats 1000000 in
theorem markText_any (k0 : Nat) (hk : 1 ≤ k0) (hk2 : k0 ≤ 4000000) (w : World) :
    Calls Tryd.prog 14 #[.int .i64 k0] w fun e w' => e = .returned (.string (mt k0)) ∧ Below w.heap.size w w' := by
  have hcv := conv1
  have HM : Hid (mt k0 = ⟨#[109]⟩ ++ md k0 k0 ByteArray.empty) := rfl
  generalize mt k0 = res at *
  have hk' : ¬ (k0 : Int) ≤ 0 := by omega
  go_enter Tryd.func14, Tryd.ntmps14
  go_wp2
  go_loopw [0, 3] (fun i o wr => ∃ (k : Nat) (out : ByteArray), k ≤ k0 ∧ i = .int .i64 k ∧ o = .string out ∧ out.size + k ≤ k0 ∧ Hid (md k k out = md k0 k0 ByteArray.empty) ∧ Below w.heap.size w wr) (fun i _ _ => (intOf i).toNat)
  case atStart => exact ⟨k0, ByteArray.empty, Nat.le_refl _, rfl, rfl, by simp, rfl, Below.refl _ _⟩
  case round =>
    obtain ⟨k, out, hk1, rfl, rfl, hsz, HD, hb⟩ := hrel
    have hbs := hb.size
    by_cases hp : 0 < k
    · have hp' : (0 : Int) < (k : Int) := by omega
      have hds := d1_size (48 + (k : Int) % 10)
      have HD' : Hid (md (k / 10) (k / 10) (d1 (48 + (k : Int) % 10) ++ out) = md k0 k0 ByteArray.empty) := (md_step hp out).trans HD.out
      clear HD
      go_wp2
      refine ⟨⟨k / 10, d1 (48 + (k : Int) % 10) ++ out, by omega, by go_num, rfl, ?_, HD', hb.alloc hbs _⟩, by simp [intOf]; omega⟩
      rw [ByteArray.size_append, hds]
      omega
    · obtain rfl : k = 0 := by omega
      have HR : Hid (res = ⟨#[109]⟩ ++ out) := by show _ = _; rw [HM.out, ← HD.out, md_zero]
      clear HD HM
      go_wp2
      go_ret
      exact ⟨by rw [HR.out]; rfl, hb⟩

theorem markText_int (x : Int) (n : Nat) (hx : x = n) (h1 : 1 ≤ n) (h2 : n ≤ 4000000) (w : World) :
    Calls Tryd.prog 14 #[.int .i64 x] w fun e w' => e = .returned (.string (mt n)) ∧ Below w.heap.size w w' := by
  subst hx
  exact markText_any n h1 h2 w

/-- Only block p has changed. -/
structure Only (p : Nat) (w w' : World) : Prop where
  os : w'.os = w.os
  tape : w'.tape = w.tape
  output : w'.output = w.output
  size : w.heap.size ≤ w'.heap.size
  block : ∀ k, k < w.heap.size → k ≠ p → w'.heap[k]? = w.heap[k]?
theorem Only.refl (p : Nat) (w : World) : Only p w w := ⟨rfl, rfl, rfl, Nat.le_refl _, fun _ _ _ => rfl⟩
theorem Only.trans {p : Nat} {a b c : World} (h : Only p a b) (k : Only p b c) : Only p a c :=
  ⟨k.os.trans h.os, k.tape.trans h.tape, k.output.trans h.output, Nat.le_trans h.size k.size, fun i hi hn => (k.block i (Nat.lt_of_lt_of_le hi h.size) hn).trans (h.block i hi hn)⟩
theorem Only.of {p : Nat} {w w' : World} (h : Below w.heap.size w w') : Only p w w' := ⟨h.os, h.tape, h.output, h.size, fun k hk _ => h.block k hk⟩
theorem Only.set {p o : Nat} (w : World) (v : Value) : Only p w (w.setCell ⟨p, o, none⟩ v) :=
  ⟨rfl, rfl, rfl, by simp [World.setCell], fun k _ hn => Below.heap_setCell _ _ _ _ (by simpa using hn)⟩
theorem Only.below {p B : Nat} {w w' : World} (h : Only p w w') (h1 : B ≤ p) (h2 : B ≤ w.heap.size) : Below B w w' :=
  ⟨h.os, h.tape, h.output, h.size, fun k hk => h.block k (by omega) (by omega)⟩

/-- The marks, as texts. -/
def mkS (n : Nat) : List ByteArray := (List.range n).map fun i => mt (1 + i)
theorem mkS_length (n : Nat) : (mkS n).length = n := by simp [mkS]
theorem mkS_at (n i : Nat) (h : i < n) : (mkS n).getD i ByteArray.empty = mt (1 + i) := by simp [mkS, List.getD, h]
theorem RowS.zero {w : World} {g n k : Nat} {xs : List ByteArray} (h : RowS w g n xs k) (ys : List ByteArray) : RowS w g n ys 0 := by
  obtain ⟨cs, h1, h2, _⟩ := h
  exact ⟨cs, h1, h2, fun i hi => absurd hi (Nat.not_lt_zero _)⟩
theorem rowS_step {W : World} {g n k : Nat} {xs : List ByteArray} {x : ByteArray} (h : RowS W g n xs k) (hk : k < n) (hx : xs.getD k ByteArray.empty = x) : RowS (W.setCell ⟨g, k, none⟩ (.string x)) g n xs (k + 1) := by
  obtain ⟨cs, h1, h2, h3⟩ := h
  refine ⟨_, heap_setCell_same W g k _ _ _ h1, by simpa using h2, fun i hi => ?_⟩
  by_cases hik : i = k
  · subst hik
    rw [hx]
    simp [Array.getElem?_setIfInBounds]
    omega
  · rw [Array.getElem?_setIfInBounds_ne (by omega)]
    exact h3 i (by omega)
theorem RowS.cell {w : World} {g n k i : Nat} {xs : List ByteArray} (h : RowS w g n xs k) (hi : i < n) : ∃ v, w.cell? ⟨g, i, none⟩ = some v := by
  obtain ⟨cs, h1, h2, _⟩ := h
  have ho : i < cs.size := by omega
  exact ⟨cs[i], by simp [World.cell?, h1, ho]⟩
theorem RowS.free {w : World} {g n k : Nat} {xs : List ByteArray} (h : RowS w g n xs k) (i : Nat) : w.frozen? ⟨g, i, none⟩ = false := by
  obtain ⟨cs, h1, _, _⟩ := h
  simp [World.frozen?, h1]

set_option maxRecDepth 100000 in
set_option maxHeartbeats 4000000 in
theorem markStringS_row (g cap n : Nat) (w : World) (ys : List ByteArray) (hn2 : n ≤ 2000000) (hp : RowS w g n ys 0) :
    Calls Tryd.prog 8 #[.slice (some ⟨g, 0, none⟩) n cap, .int .i64 1] w fun e w' => e = .returned (.int .i64 (1 + n : Nat)) ∧ RowS w' g n (mkS n) n ∧ Only g w w' := by
  have hgl := hp.lt
  go_enter Tryd.func8, Tryd.ntmps8
  go_wp2_with fail
  go_loopw [1, 5] (fun kk i wr => ∃ j : Nat, j ≤ n ∧ i = .int .i64 j ∧ kk = .int .i64 (1 + j : Nat) ∧ RowS wr g n (mkS n) j ∧ Only g w wr) (fun _ i _ => n - (intOf i).toNat)
  case atStart => exact ⟨0, Nat.zero_le _, rfl, by simp, hp.zero _, Only.refl _ _⟩
  case round =>
    obtain ⟨j, hj, rfl, rfl, hpj, hb⟩ := hrel
    by_cases hlt : j < n
    · have hfj := mkS_at n j hlt
      have hij : (j : Int) < (n : Int) := by omega
      replace hfj := hd hfj
      go_wp2_with fail
      refine (markText_int _ (1 + j) (by omega) (by omega) (by omega) _).mono ?_
      rintro e w1 ⟨rfl, hb1⟩
      have hp1 := hpj.block (hb1.block g (Nat.lt_of_lt_of_le hgl hb.size))
      obtain ⟨v0, c0⟩ := hp1.cell hlt
      have z0 := hp1.free j
      have hpart : Hid (RowS (w1.setCell ⟨g, j, none⟩ (.string (mt (1 + j)))) g n (mkS n) (j + 1)) := rowS_step hp1 hlt hfj.out
      have ho1 : Hid (Only g w (w1.setCell ⟨g, j, none⟩ (.string (mt (1 + j))))) := (hb.trans (Only.of hb1)).trans (Only.set _ _)
      clear hp1 hpj hb hb1
      go_wp2_with fail
      exact ⟨⟨j + 1, by omega, by go_num, by go_num, hpart.out, ho1.out⟩, by simp [intOf]; omega⟩
    · obtain rfl : j = n := by omega
      go_wp2_with fail
      go_ret
      exact ⟨rfl, hpj, hb⟩

/-- The texts xs lie at a, wherever. -/
def LieS (w : World) (a : Option Addr) (xs : List ByteArray) : Prop := xs = [] ∨ ∃ g, a = some ⟨g, 0, none⟩ ∧ g < w.heap.size ∧ ∀ i, i < xs.length → w.cell? ⟨g, i, none⟩ = some (.string (xs.getD i ByteArray.empty))
theorem ResS.lie {w : World} {base : Nat} {a : Option Addr} {xs : List ByteArray} (h : ResS w base a xs) : LieS w a xs := by
  rcases h with h | ⟨g, rfl, hg, hr⟩
  · exact .inl h
  · exact .inr ⟨g, rfl, hr.lt, fun i hi => hr.at hi⟩
theorem LieS.below {w w' : World} {a : Option Addr} {xs : List ByteArray} {B : Nat} (h : LieS w a xs) (hb : Below w.heap.size w w') : LieS w' a xs := by
  rcases h with h | ⟨g, rfl, hg, hr⟩
  · exact .inl h
  · exact .inr ⟨g, rfl, Nat.lt_of_lt_of_le hg hb.size, fun i hi => (hb.cell (p := ⟨g, i, none⟩) hg).trans (hr i hi)⟩

set_option maxRecDepth 100000 in
set_option maxHeartbeats 4000000 in
theorem heldStringS_row (a : Option Addr) (cap n : Nat) (w : World) (hn2 : n ≤ 2000000) (hx : LieS w a (mkS n)) :
    Calls Tryd.prog 9 #[.slice a n cap, .int .i64 1] w fun e w' => e = .returned (.int .i64 (1 + n : Nat)) ∧ Below w.heap.size w w' := by
  go_enter Tryd.func9, Tryd.ntmps9
  go_wp2_with fail
  go_loopw [1, 5] (fun kk i wr => ∃ j : Nat, j ≤ n ∧ i = .int .i64 j ∧ kk = .int .i64 (1 + j : Nat) ∧ Below w.heap.size w wr) (fun _ i _ => n - (intOf i).toNat)
  case atStart => exact ⟨0, Nat.zero_le _, rfl, by simp, Below.refl _ _⟩
  case round =>
    obtain ⟨j, hj, rfl, rfl, hb⟩ := hrel
    by_cases hlt : j < n
    · rcases LieS.below (B := 0) hx hb with h | ⟨b, rfl, hbl, hc⟩
      · have := congrArg List.length h
        rw [mkS_length] at this
        simp at this
        omega
      · have c0 := hc j (by rw [mkS_length]; exact hlt)
        rw [mkS_at n j hlt] at c0
        have hij : (j : Int) < (n : Int) := by omega
        clear hc
        go_wp2_with fail
        go_region_held3 (fun w' => w'.cell? ⟨b, j, none⟩ = some (.string (mt (1 + j)))) (simp [go_sem, *])
          (first | (go_at_call 14; refine (markText_int _ (1 + j) (by omega) (by omega) (by omega) _).mono ?_; rintro e w1 ⟨rfl, hb1⟩; have x0 := (hb1.cell (p := ⟨b, _, none⟩) hbl).trans c0; have hbw := hb.drew.trans (hb1.mono hb.drew.size); clear hb1))
        clear c0 hbl hb
        go_wp2_with fail
        exact ⟨⟨j + 1, by omega, by go_num, by go_num, hbw⟩, by simp [intOf]; omega⟩
    · obtain rfl : j = n := by omega
      go_wp2_with fail
      go_ret
      exact ⟨rfl, hb⟩

set_option maxRecDepth 100000 in
set_option maxHeartbeats 1000000 in
theorem markStringS_empty (a : Option Addr) (cap : Nat) (w : World) :
    Calls Tryd.prog 8 #[.slice a 0 cap, .int .i64 1] w fun e w' => e = .returned (.int .i64 1) ∧ w' = w := by
  go_enter Tryd.func8, Tryd.ntmps8
  go_wp2_with fail
  refine wp_loop_rounds 1 ?_
  rw [rounds_succ]
  go_wp2_with fail
  go_ret
  exact ⟨rfl, rfl⟩

set_option maxRecDepth 100000 in
set_option maxHeartbeats 1000000 in
theorem eqStringS_same (a b : Option Addr) (ca cb : Nat) (xs : List ByteArray) (w : World) (hx : LieS w a xs) (hy : LieS w b xs) (hl : xs.length ≤ 2000000) :
    Calls Tryd.prog 7 #[.slice a xs.length ca, .slice b xs.length cb] w fun e w' => e = .returned (.bool true) ∧ Below w.heap.size w w' := by
  go_enter Tryd.func7, Tryd.ntmps7
  go_wp2_with fail
  go_loopw [5] (fun i wr => ∃ j : Nat, j ≤ xs.length ∧ i = .int .i64 j ∧ Below w.heap.size w wr) (fun i _ => xs.length - (intOf i).toNat)
  case atStart => exact ⟨0, Nat.zero_le _, rfl, Below.refl _ _⟩
  case round =>
    obtain ⟨j, hj, rfl, hb⟩ := hrel
    by_cases hlt : j < xs.length
    · have hij : (j : Int) < (xs.length : Int) := by omega
      rcases LieS.below (B := 0) hx hb with h | ⟨g, rfl, hgl, hc⟩
      · rw [h] at hlt; simp at hlt
      rcases LieS.below (B := 0) hy hb with h | ⟨g2, rfl, hgl2, hc2⟩
      · rw [h] at hlt; simp at hlt
      have c0 := hc j hlt
      have c2 := hc2 j hlt
      clear hc hc2
      generalize xs.getD j ByteArray.empty = x at *
      go_wp2_with fail
      go_quiet (fail)
      go_wp2_with fail
      exact ⟨⟨j + 1, by omega, by go_num, ⟨hb.os, hb.tape, hb.output, hb.size, hb.block⟩⟩, by simp [intOf]; omega⟩
    · have hij : ¬ (j : Int) < (xs.length : Int) := by omega
      go_wp2_with fail
      go_ret
      exact ⟨rfl, hb⟩
end Go.Proofs.YtfbmplecmaebbabDoor
