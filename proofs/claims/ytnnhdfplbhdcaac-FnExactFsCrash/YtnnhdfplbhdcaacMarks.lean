
import Derived.Test.YtnnhdfplbhdcaacWalkT
namespace Go.Proofs.Ytnnhdfplbhdcaac
open Go.RowKit Go.Maps
set_option linter.unusedVariables false
set_option linter.unusedSimpArgs false

/-- One byte as a text. -/
def d1 (n : Int) : ByteArray := ByteArray.empty.push (UInt8.ofNat n.toNat)
theorem d1_size (n : Int) : (d1 n).size = 1 := by simp [d1]

theorem conv1 (w : World) (n : Int) : (convert 91 9 (.slice (some ⟨w.heap.size, 0, none⟩) 1 1)).run Try.prog (w.alloc (.cells #[.int .u8 n] 5)) = .ok (.string (d1 n)) (w.alloc (.cells #[.int .u8 n] 5)) := by
  rw [run_convert_bytes_string _ 91 9 5 _ 1 1 Try.underlying91 Try.underlying5 Try.underlying9, run_bytesToString _ _ 1 1 [n] (by simp [loadCells, go_sem])]
  rfl

/-- The digits of k ahead of out. -/
def md : Nat → Nat → ByteArray → ByteArray
  | 0, _, out => out
  | n + 1, k, out => if k = 0 then out else md n (k / 10) (d1 (48 + (k : Int) % 10) ++ out)
theorem md_zero (n : Nat) (out : ByteArray) : md n 0 out = out := by cases n <;> simp [md]
theorem md_more : ∀ (n k : Nat) (out : ByteArray), k ≤ n → md (n + 1) k out = md n k out := by
  intro n
  induction n with
  | zero => intro k out h; have : k = 0 := by omega
            subst this; rw [md_zero, md_zero]
  | succ n ih =>
    intro k out h
    show (if k = 0 then out else md (n + 1) (k / 10) (d1 (48 + (k : Int) % 10) ++ out)) = (if k = 0 then out else md n (k / 10) (d1 (48 + (k : Int) % 10) ++ out))
    by_cases hk : k = 0
    · simp [hk]
    · rw [if_neg hk, if_neg hk, ih _ _ (by omega)]
theorem md_stable (n k : Nat) (out : ByteArray) (h : k ≤ n) : md n k out = md k k out := by
  induction n with
  | zero => have : k = 0 := by omega
            subst this; rfl
  | succ n ih =>
    by_cases hk : k = n + 1
    · rw [hk]
    · rw [md_more n k out (by omega)]; exact ih (by omega)
theorem md_step {k : Nat} (hk : 0 < k) (out : ByteArray) : md (k / 10) (k / 10) (d1 (48 + (k : Int) % 10) ++ out) = md k k out := by
  obtain ⟨n, rfl⟩ : ∃ n, k = n + 1 := ⟨k - 1, by omega⟩
  show _ = (if n + 1 = 0 then out else md n ((n + 1) / 10) (d1 (48 + ((n + 1 : Nat) : Int) % 10) ++ out))
  rw [if_neg (by omega), md_stable n _ _ (by omega)]

/-- The text of a mark. -/
def mt (k : Nat) : ByteArray := ⟨#[109]⟩ ++ md k k ByteArray.empty

set_option maxRecDepth 100000 in
set_option maxHeartbeats 1000000 in
theorem markText_any (k0 : Nat) (hk : 1 ≤ k0) (hk2 : k0 ≤ 4000000) (w : World) :
    Calls Try.prog 36 #[.int .i64 k0] w fun e w' => e = .returned (.string (mt k0)) ∧ Below w.heap.size w w' := by
  have hcv := conv1
  have HM : Hid (mt k0 = ⟨#[109]⟩ ++ md k0 k0 ByteArray.empty) := rfl
  generalize mt k0 = res at *
  have hk' : ¬ (k0 : Int) ≤ 0 := by omega
  go_enter Try.func36, Try.ntmps36
  go_wp2
  go_loopw [0, 3] (fun i o wr => ∃ (k : Nat) (out : ByteArray), k ≤ k0 ∧ i = .int .i64 k ∧ o = .string out ∧ out.size + k ≤ k0 ∧ Hid (md k k out = md k0 k0 ByteArray.empty) ∧ Below w.heap.size w wr) (fun i _ _ => (intOf i).toNat)
  case atStart => exact ⟨k0, ByteArray.empty, Nat.le_refl _, rfl, rfl, by simp, rfl, Below.refl _ _⟩
  case round =>
    obtain ⟨k, out, hk1, rfl, rfl, hsz, HD, hb⟩ := hrel
    have hbs := hb.size
    by_cases hp : 0 < k
    · have hp' : (0 : Int) < (k : Int) := by omega
      have hds := d1_size (48 + (k : Int) % 10)
      have HD' : Hid (md (k / 10) (k / 10) (d1 (48 + (k : Int) % 10) ++ out) = md k0 k0 ByteArray.empty) := (md_step hp out).trans HD.out
      clear HD
      go_wp2
      refine ⟨⟨k / 10, d1 (48 + (k : Int) % 10) ++ out, by omega, by go_num, rfl, ?_, HD', hb.alloc hbs _⟩, by simp [intOf]; omega⟩
      rw [ByteArray.size_append, hds]
      omega
    · obtain rfl : k = 0 := by omega
      have HR : Hid (res = ⟨#[109]⟩ ++ out) := by show _ = _; rw [HM.out, ← HD.out, md_zero]
      clear HD HM
      go_wp2
      go_ret
      exact ⟨by rw [HR.out]; rfl, hb⟩

theorem markText_int (x : Int) (n : Nat) (hx : x = n) (h1 : 1 ≤ n) (h2 : n ≤ 4000000) (w : World) :
    Calls Try.prog 36 #[.int .i64 x] w fun e w' => e = .returned (.string (mt n)) ∧ Below w.heap.size w w' := by
  subst hx
  exact markText_any n h1 h2 w

/-- The marks from k on. -/
def mkL (k n : Nat) : List Fl := (List.range n).map fun i => ⟨mt (k + 3 * i), mt (k + 3 * i + 1), ((k + 3 * i + 2 : Nat) : Int)⟩
theorem mkL_length (k n : Nat) : (mkL k n).length = n := by simp [mkL]
theorem mkL_at (k n i : Nat) (h : i < n) : (mkL k n).getD i fl0 = ⟨mt (k + 3 * i), mt (k + 3 * i + 1), ((k + 3 * i + 2 : Nat) : Int)⟩ := by simp [mkL, List.getD, h]

theorem Part.zero {w : World} {g n k : Nat} {xs : List Fl} (h : Part w g n xs k) (ys : List Fl) : Part w g n ys 0 := by
  obtain ⟨cs, h1, h2, _⟩ := h
  exact ⟨cs, h1, h2, fun i hi => absurd hi (Nat.not_lt_zero _)⟩

theorem part_step {W : World} {g n k : Nat} {xs : List Fl} {f : Fl} {cs : Array Value} (h1 : W.heap[g]? = some (.cells (((cs.setIfInBounds (k * 3) (.string f.nm)).setIfInBounds (k * 3 + 1) (.string f.dt)).setIfInBounds (k * 3 + 2) (.int .i64 f.sy)) 41 (0, 0))) (h2 : cs.size = n * 3)
    (h3 : ∀ i, i < k → cs[i * 3]? = some (.string (xs.getD i fl0).nm) ∧ cs[i * 3 + 1]? = some (.string (xs.getD i fl0).dt) ∧ cs[i * 3 + 2]? = some (.int .i64 (xs.getD i fl0).sy)) (hk : k < n) (hf : xs.getD k fl0 = f) : Part W g n xs (k + 1) := by
  refine ⟨_, h1, by simp [h2], fun i hi => ?_⟩
  by_cases hik : i = k
  · subst hik
    rw [hf]
    refine ⟨?_, ?_, ?_⟩
    · simp [Array.getElem?_setIfInBounds]; omega
    · simp [Array.getElem?_setIfInBounds]; omega
    · simp [Array.getElem?_setIfInBounds]; omega
  · obtain ⟨a0, a1, a2⟩ := h3 i (by omega)
    refine ⟨?_, ?_, ?_⟩
    · rw [Array.getElem?_setIfInBounds_ne (by omega), Array.getElem?_setIfInBounds_ne (by omega), Array.getElem?_setIfInBounds_ne (by omega)]; exact a0
    · rw [Array.getElem?_setIfInBounds_ne (by omega), Array.getElem?_setIfInBounds_ne (by omega), Array.getElem?_setIfInBounds_ne (by omega)]; exact a1
    · rw [Array.getElem?_setIfInBounds_ne (by omega), Array.getElem?_setIfInBounds_ne (by omega), Array.getElem?_setIfInBounds_ne (by omega)]; exact a2

theorem row_cell {W : World} {g o : Nat} {cs : Array Value} {t : TypeId} (h : W.heap[g]? = some (.cells cs t (0, 0))) (ho : o < cs.size) : ∃ v, W.cell? ⟨g, o, none⟩ = some v := ⟨cs[o], by simp [World.cell?, h]⟩

set_option maxRecDepth 100000 in
set_option maxHeartbeats 2000000 in
theorem markFileS_row (g cap n k0 : Nat) (w : World) (ys : List Fl) (hn : n ≤ cap) (hn2 : n ≤ 1048576) (hk : 1 ≤ k0) (hk2 : k0 ≤ 4) (hp : Part w g cap ys 0) :
    Calls Try.prog 21 #[.slice (some ⟨g, 0, none⟩) n cap, .int .i64 k0] w fun e w' => e = .returned (.int .i64 (k0 + 3 * n : Nat)) ∧ Part w' g cap (mkL k0 n) n ∧ But [g] w.heap.size w w' := by
  have hgl := hp.lt
  go_enter Try.func21, Try.ntmps21
  go_wp2
  go_loopw [1, 5] (fun kk i wr => ∃ j : Nat, j ≤ n ∧ i = .int .i64 j ∧ kk = .int .i64 (k0 + 3 * j : Nat) ∧ Part wr g cap (mkL k0 n) j ∧ But [g] w.heap.size w wr) (fun _ i _ => n - (intOf i).toNat)
  case atStart => exact ⟨0, Nat.zero_le _, rfl, by simp, hp.zero _, But.of (Below.refl _ _)⟩
  case round =>
    obtain ⟨j, hj, rfl, rfl, hpj, hb⟩ := hrel
    by_cases hlt : j < n
    · obtain ⟨cs, h1, h2, h3⟩ := hpj
      have hfj := mkL_at k0 n j hlt
      go_wp2_with fail
      refine (markText_int _ (k0 + 3 * j) (by omega) (by omega) (by omega) _).mono ?_
      rintro e w1 ⟨rfl, hb1⟩
      have hgr : g < wr.heap.size := Nat.lt_of_lt_of_le hgl hb.size
      have e1 := (hb1.block g hgr).trans h1
      obtain ⟨v0, c0⟩ := row_cell (o := j * 3) e1 (by omega)
      have z0 : w1.frozen? ⟨g, j * 3, none⟩ = false := by simp [World.frozen?, e1]
      have e2 := heap_setCell_same w1 g (j * 3) _ _ (.string (mt (k0 + 3 * j))) e1
      have hbut1 : But [g] w.heap.size w (w1.setCell ⟨g, j * 3, none⟩ (.string (mt (k0 + 3 * j)))) := (hb.trans (But.of (hb1.mono hb.size))).trans (But.setCell _ (by simp))
      have hg2 : g < (w1.setCell ⟨g, j * 3, none⟩ (.string (mt (k0 + 3 * j)))).heap.size := by have := hb1.size; simp; omega
      clear hb1 e1
      go_wp2_with fail
      refine (markText_int _ (k0 + 3 * j + 1) (by omega) (by omega) (by omega) _).mono ?_
      rintro e w2 ⟨rfl, hb2⟩
      have e3 := (hb2.block g hg2).trans e2
      obtain ⟨v1, c1⟩ := row_cell (o := j * 3 + 1) e3 (by simp; omega)
      obtain ⟨v2, c2⟩ := row_cell (o := j * 3 + 2) e3 (by simp; omega)
      have z1 : w2.frozen? ⟨g, j * 3 + 1, none⟩ = false := by simp [World.frozen?, e3]
      have z2 : w2.frozen? ⟨g, j * 3 + 2, none⟩ = false := by simp [World.frozen?, e3]
      have e4 := heap_setCell_same w2 g (j * 3 + 1) _ _ (.string (mt (k0 + 3 * j + 1))) e3
      have e5 := heap_setCell_same _ g (j * 3 + 2) _ _ (.int .i64 ((k0 + 3 * j + 2 : Nat) : Int)) e4
      have hpart := part_step e5 h2 h3 (by omega) hfj
      have hbut2 : But [g] w.heap.size w ((w2.setCell ⟨g, j * 3 + 1, none⟩ (.string (mt (k0 + 3 * j + 1)))).setCell ⟨g, j * 3 + 2, none⟩ (.int .i64 ((k0 + 3 * j + 2 : Nat) : Int))) := ((hbut1.trans (But.of (hb2.mono hbut1.size))).trans (But.setCell _ (by simp))).trans (But.setCell _ (by simp))
      have e6 : ((k0 + 3 * j + 2 : Nat) : Int) = (k0 : Int) + 3 * j + 1 + 1 := by omega
      rw [e6] at hpart hbut2
      clear e2 e3 e4 e5 h1 h2 h3 hbut1 hb2 hfj e6 c0 z0
      go_wp2
      exact ⟨⟨j + 1, by omega, by go_num, by go_num, hpart, hbut2⟩, by simp [intOf]; omega⟩
    · obtain rfl : j = n := by omega
      go_wp2
      go_ret
      exact ⟨rfl, hpj, hb⟩

set_option maxRecDepth 100000 in
set_option maxHeartbeats 2000000 in
theorem heldFileS_row (a : Option Addr) (cap n k0 : Nat) (w : World) (hn2 : n ≤ 1048576) (hk : 1 ≤ k0) (hk2 : k0 ≤ 4) (hx : Lie w a (mkL k0 n)) :
    Calls Try.prog 22 #[.slice a n cap, .int .i64 k0] w fun e w' => e = .returned (.int .i64 (k0 + 3 * n : Nat)) ∧ Below w.heap.size w w' := by
  go_enter Try.func22, Try.ntmps22
  go_wp2
  go_loopw [1, 5] (fun kk i wr => ∃ j : Nat, j ≤ n ∧ i = .int .i64 j ∧ kk = .int .i64 (k0 + 3 * j : Nat) ∧ Below w.heap.size w wr) (fun _ i _ => n - (intOf i).toNat)
  case atStart => exact ⟨0, Nat.zero_le _, rfl, by simp, Below.refl _ _⟩
  case round =>
    obtain ⟨j, hj, rfl, rfl, hb⟩ := hrel
    by_cases hlt : j < n
    · obtain ⟨b, off, rfl, hbl, c0, c1, c2⟩ := (hx.below hb).at (i := j) (by rw [mkL_length]; exact hlt)
      rw [mkL_at k0 n j hlt] at c0 c1 c2
      have hij : (j : Int) < (n : Int) := by omega
      simp only at c0 c1 c2
      have e6 : ((k0 + 3 * j + 2 : Nat) : Int) = (k0 : Int) + 3 * j + 1 + 1 := by omega
      rw [e6] at c2
      clear e6
      go_wp2_with fail
      go_region_held3 (fun w' => w'.cell? ⟨b, off + j * 3, none⟩ = some (.string (mt (k0 + 3 * j)))) (simp [go_sem, *])
        (first | (go_at_call 36; refine (markText_int _ (k0 + 3 * j) (by omega) (by omega) (by omega) _).mono ?_; rintro e w1 ⟨rfl, hb1⟩; have x0 := (hb1.cell (p := ⟨b, _, none⟩) hbl).trans c0; have x1 := (hb1.cell (p := ⟨b, _, none⟩) hbl).trans c1; have x2 := (hb1.cell (p := ⟨b, _, none⟩) hbl).trans c2; have hbw := hb.drew.trans (hb1.mono hb.drew.size); have hbl1 := Nat.lt_of_lt_of_le hbl hb1.size; clear hb1))
      clear c0 c1 c2 hbl hb
      go_wp2_with fail
      go_region_held3 (fun w' => w'.cell? ⟨b, off + j * 3 + 1, none⟩ = some (.string (mt (k0 + 3 * j + 1)))) (simp [go_sem, *])
        (first | (go_at_call 36; refine (markText_int _ (k0 + 3 * j + 1) (by omega) (by omega) (by omega) _).mono ?_; rintro e w2 ⟨rfl, hb2⟩; have y1 := (hb2.cell (p := ⟨b, _, none⟩) hbl1).trans x1; have y2 := (hb2.cell (p := ⟨b, _, none⟩) hbl1).trans x2; have hbw2 := hbw.drew.trans (hb2.mono hbw.drew.size); clear hb2))
      go_wp2
      exact ⟨⟨j + 1, by omega, by go_num, by go_num, hbw2⟩, by simp [intOf]; omega⟩
    · obtain rfl : j = n := by omega
      go_wp2
      go_ret
      exact ⟨rfl, hb⟩

set_option maxRecDepth 100000 in
set_option maxHeartbeats 1000000 in
theorem markFileS_empty (a : Option Addr) (cap k0 : Nat) (w : World) :
    Calls Try.prog 21 #[.slice a 0 cap, .int .i64 k0] w fun e w' => e = .returned (.int .i64 k0) ∧ w' = w := by
  go_enter Try.func21, Try.ntmps21
  go_wp2
  refine wp_loop_rounds 1 ?_
  rw [rounds_succ]
  go_wp2
  go_ret
  exact ⟨rfl, rfl⟩

/-- Marking a directory's files: a slice that a call made. -/
theorem markFileS_any (base : Nat) (a : Option Addr) (cap : Nat) (xs : List Fl) (k0 : Nat) (w : World) (hr : Res w base a cap xs) (hc : xs.length ≤ cap ∨ xs = []) (hn2 : xs.length ≤ 1048576) (hk : 1 ≤ k0) (hk2 : k0 ≤ 4) :
    Calls Try.prog 21 #[.slice a xs.length cap, .int .i64 k0] w fun e w' => e = .returned (.int .i64 (k0 + 3 * xs.length : Nat)) ∧ Res w' base a cap (mkL k0 xs.length) ∧ ∃ ex, (∀ g ∈ ex, base ≤ g ∧ a = some ⟨g, 0, none⟩ ∧ xs ≠ []) ∧ But ex w.heap.size w w' := by
  by_cases h0 : xs = []
  · subst h0
    refine (markFileS_empty a cap k0 w).mono ?_
    rintro e w' ⟨rfl, rfl⟩
    exact ⟨rfl, .inl rfl, [], (fun g hg => absurd hg (by simp)), But.of (Below.refl _ _)⟩
  rcases hr with h0' | ⟨g, rfl, hg, hp⟩
  · exact absurd h0' h0
  · have hle : xs.length ≤ cap := by
      rcases hc with h | h
      · exact h
      · rw [h]; exact Nat.zero_le _
    refine (markFileS_row g cap xs.length k0 w xs hle hn2 hk hk2 (hp.zero xs)).mono ?_
    rintro e w' ⟨rfl, hp', hb⟩
    exact ⟨rfl, .inr ⟨g, rfl, hg, by rw [mkL_length]; exact hp'⟩, [g], (fun g' h => by simp at h; subst h; exact ⟨hg, rfl, h0⟩), hb⟩

set_option maxRecDepth 100000 in
set_option maxHeartbeats 1000000 in
theorem markFS_any (base : Nat) (a : Option Addr) (cap : Nat) (xs : List Fl) (q fu : Int) (k0 : Nat) (w : World) (hr : Res w base a cap xs) (hc : xs.length ≤ cap ∨ xs = []) (hn2 : xs.length ≤ 1048576) (hk : 1 ≤ k0) (hk2 : k0 ≤ 4) :
    Calls Try.prog 11 #[.agg #[.slice a xs.length cap, .int .i64 q, .int .i64 fu], .int .i64 k0] w fun e w' => e = .returned (.int .i64 (k0 + 3 * xs.length : Nat)) ∧ Res w' base a cap (mkL k0 xs.length) ∧ ∃ ex, (∀ g ∈ ex, base ≤ g ∧ a = some ⟨g, 0, none⟩ ∧ xs ≠ []) ∧ But ex w.heap.size w w' := by
  have hb0 : Below w.heap.size w (w.alloc (.cells #[.slice a xs.length cap, .int .i64 q, .int .i64 fu] 29)) := (Below.refl _ _).alloc (Nat.le_refl _) _
  go_enter Try.func11, Try.ntmps11
  go_wp2_with fail
  refine (markFileS_any base a cap xs k0 _ (hr.below hb0) hc hn2 hk hk2).mono ?_
  rintro e w1 ⟨rfl, hr1, ex, hex, hb1⟩
  have hbb := (But.of (ex := ex) hb0).trans (hb1.mono hb0.size)
  have HX : Hid (∃ ex, (∀ g ∈ ex, base ≤ g ∧ a = some ⟨g, 0, none⟩ ∧ xs ≠ []) ∧ But ex w.heap.size w w1) := ⟨ex, hex, hbb⟩
  clear hb1 hbb hex hr hb0 hc
  go_wp2
  go_ret
  exact ⟨rfl, hr1, HX.out⟩

set_option maxRecDepth 100000 in
set_option maxHeartbeats 1000000 in
theorem heldFS_any (a : Option Addr) (cap n : Nat) (q fu : Int) (k0 : Nat) (w : World) (hx : Lie w a (mkL k0 n)) (hn2 : n ≤ 1048576) (hk : 1 ≤ k0) (hk2 : k0 ≤ 4) :
    Calls Try.prog 13 #[.agg #[.slice a n cap, .int .i64 q, .int .i64 fu], .int .i64 k0] w fun e w' => e = .returned (.int .i64 (k0 + 3 * n : Nat)) ∧ Below w.heap.size w w' := by
  have hb0 : Below w.heap.size w (w.alloc (.cells #[.slice a n cap, .int .i64 q, .int .i64 fu] 29)) := (Below.refl _ _).alloc (Nat.le_refl _) _
  go_enter Try.func13, Try.ntmps13
  go_wp2_with fail
  refine (heldFileS_row a cap n k0 _ hn2 hk hk2 (hx.below hb0)).mono ?_
  rintro e w1 ⟨rfl, hb1⟩
  have hbb := hb0.trans (hb1.mono hb0.size)
  have hnn : ¬ ((k0 + 3 * n : Nat) : Int) < 0 := by omega
  clear hb1 hb0
  go_wp2
  go_ret
  exact ⟨rfl, hbb⟩
end Go.Proofs.Ytnnhdfplbhdcaac
