import Derived.Test.YtgkhjjnhikbdaaaNaE
namespace Go.Proofs.Ytgkhjjnhikbdaaa
open Go.RowKit Go.Maps
set_option linter.unusedVariables false
set_option linter.unusedSimpArgs false

/-- One byte as a text. -/
def d1 (n : Int) : ByteArray := ByteArray.empty.push (UInt8.ofNat n.toNat)
theorem d1_size (n : Int) : (d1 n).size = 1 := by simp [d1]

theorem conv1 (w : World) (n : Int) : (convert 33 9 (.slice (some ⟨w.heap.size, 0, none⟩) 1 1)).run Try.prog (w.alloc (.cells #[.int .u8 n] 5)) = .ok (.string (d1 n)) (w.alloc (.cells #[.int .u8 n] 5)) := by
  rw [run_convert_bytes_string _ 33 9 5 _ 1 1 Try.underlying33 Try.underlying5 Try.underlying9, run_bytesToString _ _ 1 1 [n] (by simp [loadCells, go_sem])]
  rfl

/-- The digits of k ahead of out. -/
def md : Nat → Nat → ByteArray → ByteArray
  | 0, _, out => out
  | n + 1, k, out => if k = 0 then out else md n (k / 10) (d1 (48 + (k : Int) % 10) ++ out)
theorem md_zero (n : Nat) (out : ByteArray) : md n 0 out = out := by cases n <;> simp [md]
theorem md_more : ∀ (n k : Nat) (out : ByteArray), k ≤ n → md (n + 1) k out = md n k out := by
  intro n
  induction n with
  | zero => intro k out h; have : k = 0 := by omega
            subst this; rw [md_zero, md_zero]
  | succ n ih =>
    intro k out h
    show (if k = 0 then out else md (n + 1) (k / 10) (d1 (48 + (k : Int) % 10) ++ out)) = (if k = 0 then out else md n (k / 10) (d1 (48 + (k : Int) % 10) ++ out))
    by_cases hk : k = 0
    · simp [hk]
    · rw [if_neg hk, if_neg hk, ih _ _ (by omega)]
theorem md_stable (n k : Nat) (out : ByteArray) (h : k ≤ n) : md n k out = md k k out := by
  induction n with
  | zero => have : k = 0 := by omega
            subst this; rfl
  | succ n ih =>
    by_cases hk : k = n + 1
    · rw [hk]
    · rw [md_more n k out (by omega)]; exact ih (by omega)
theorem md_step {k : Nat} (hk : 0 < k) (out : ByteArray) : md (k / 10) (k / 10) (d1 (48 + (k : Int) % 10) ++ out) = md k k out := by
  obtain ⟨n, rfl⟩ : ∃ n, k = n + 1 := ⟨k - 1, by omega⟩
  show _ = (if n + 1 = 0 then out else md n ((n + 1) / 10) (d1 (48 + ((n + 1 : Nat) : Int) % 10) ++ out))
  rw [if_neg (by omega), md_stable n _ _ (by omega)]

/-- The text of a mark. -/
def mt (k : Nat) : ByteArray := ⟨#[109]⟩ ++ md k k ByteArray.empty

set_option maxRecDepth 100000 in
set_option maxHeartbeats 1000000 in
theorem markText_any (k0 : Nat) (hk : 1 ≤ k0) (hk2 : k0 ≤ 1000000000) (w : World) :
    Calls Try.prog 25 #[.int .i64 k0] w fun e w' => e = .returned (.string (mt k0)) ∧ Below w.heap.size w w' := by
  have hcv := conv1
  have HM : Hid (mt k0 = ⟨#[109]⟩ ++ md k0 k0 ByteArray.empty) := rfl
  generalize mt k0 = res at *
  have hk' : ¬ (k0 : Int) ≤ 0 := by omega
  go_enter Try.func25, Try.ntmps25
  go_wp2
  go_loopw [0, 3] (fun i o wr => ∃ (k : Nat) (out : ByteArray), k ≤ k0 ∧ i = .int .i64 k ∧ o = .string out ∧ out.size + k ≤ k0 ∧ Hid (md k k out = md k0 k0 ByteArray.empty) ∧ Below w.heap.size w wr) (fun i _ _ => (intOf i).toNat)
  case atStart => exact ⟨k0, ByteArray.empty, Nat.le_refl _, rfl, rfl, by simp, rfl, Below.refl _ _⟩
  case round =>
    obtain ⟨k, out, hk1, rfl, rfl, hsz, HD, hb⟩ := hrel
    have hbs := hb.size
    by_cases hp : 0 < k
    · have hp' : (0 : Int) < (k : Int) := by omega
      have hds := d1_size (48 + (k : Int) % 10)
      have HD' : Hid (md (k / 10) (k / 10) (d1 (48 + (k : Int) % 10) ++ out) = md k0 k0 ByteArray.empty) := (md_step hp out).trans HD.out
      clear HD
      go_wp2
      refine ⟨⟨k / 10, d1 (48 + (k : Int) % 10) ++ out, by omega, by go_num, rfl, ?_, HD', hb.alloc hbs _⟩, by simp [intOf]; omega⟩
      rw [ByteArray.size_append, hds]
      omega
    · obtain rfl : k = 0 := by omega
      have HR : Hid (res = ⟨#[109]⟩ ++ out) := by show _ = _; rw [HM.out, ← HD.out, md_zero]
      clear HD HM
      go_wp2
      go_ret
      exact ⟨by rw [HR.out]; rfl, hb⟩

theorem markText_int (x : Int) (n : Nat) (hx : x = n) (h1 : 1 ≤ n) (h2 : n ≤ 1000000000) (w : World) :
    Calls Try.prog 25 #[.int .i64 x] w fun e w' => e = .returned (.string (mt n)) ∧ Below w.heap.size w w' := by
  subst hx
  exact markText_any n h1 h2 w

/-- The marks, as entries, from k0 on. -/
def mkE (k0 n : Nat) : List En := (List.range n).map fun i => ⟨mt (k0 + 4 * i), ((k0 + 4 * i + 1 : Nat) : Int), ((k0 + 4 * i + 2 : Nat) : Int), mt (k0 + 4 * i + 3)⟩
theorem mkE_length (k0 n : Nat) : (mkE k0 n).length = n := by simp [mkE]
theorem mkE_at (k0 n i : Nat) (h : i < n) : (mkE k0 n).getD i en0 = ⟨mt (k0 + 4 * i), ((k0 + 4 * i + 1 : Nat) : Int), ((k0 + 4 * i + 2 : Nat) : Int), mt (k0 + 4 * i + 3)⟩ := by simp [mkE, List.getD, h]

set_option maxRecDepth 100000 in
set_option maxHeartbeats 4000000 in
theorem markEntryS_row (g cap n k0 : Nat) (w : World) (ys : List En) (hn2 : n ≤ 1100000) (h01 : 1 ≤ k0) (hk0 : k0 ≤ 900000000) (hp : RowE w g n ys 0) :
    Calls Try.prog 12 #[.slice (some ⟨g, 0, none⟩) n cap, .int .i64 k0] w fun e w' => e = .returned (.int .i64 (k0 + 4 * n : Nat)) ∧ RowE w' g n (mkE k0 n) n ∧ OnlyG g w w' := by
  have hgl := hp.lt
  go_enter Try.func12, Try.ntmps12
  go_wp2_with fail
  go_loopw [1, 5] (fun kk i wr => ∃ j : Nat, j ≤ n ∧ i = .int .i64 j ∧ kk = .int .i64 (k0 + 4 * j : Nat) ∧ RowE wr g n (mkE k0 n) j ∧ OnlyG g w wr) (fun _ i _ => n - (intOf i).toNat)
  case atStart => exact ⟨0, Nat.zero_le _, rfl, by simp, hp.zero _, OnlyG.refl _ _⟩
  case round =>
    obtain ⟨j, hj, rfl, rfl, hpj, hb⟩ := hrel
    by_cases hlt : j < n
    · obtain ⟨cs, h1, h2, h3⟩ := hpj
      have hfj := mkE_at k0 n j hlt
      go_wp2_with fail
      refine (markText_int _ (k0 + 4 * j) (by omega) (by omega) (by omega) _).mono ?_
      rintro e w1 ⟨rfl, hb1⟩
      have hgr : g < wr.heap.size := Nat.lt_of_lt_of_le hgl hb.size
      have e1 := (hb1.block g hgr).trans h1
      obtain ⟨v0, c0⟩ := row_cell (o := j * 4) e1 (by omega)
      obtain ⟨v1, c1⟩ := row_cell (o := j * 4 + 1) e1 (by omega)
      obtain ⟨v2, c2⟩ := row_cell (o := j * 4 + 2) e1 (by omega)
      have z0 : w1.frozen? ⟨g, j * 4, none⟩ = false := by simp [World.frozen?, e1]
      have z1 : w1.frozen? ⟨g, j * 4 + 1, none⟩ = false := by simp [World.frozen?, e1]
      have z2 : w1.frozen? ⟨g, j * 4 + 2, none⟩ = false := by simp [World.frozen?, e1]
      have e2 := heap_setCell_same w1 g (j * 4) _ _ (.string (mt (k0 + 4 * j))) e1
      have e3 := heap_setCell_same _ g (j * 4 + 1) _ _ (.int .i64 ((k0 + 4 * j + 1 : Nat) : Int)) e2
      have e4 := heap_setCell_same _ g (j * 4 + 2) _ _ (.int .i64 ((k0 + 4 * j + 2 : Nat) : Int)) e3
      have ho1 : OnlyG g w (((w1.setCell ⟨g, j * 4, none⟩ (.string (mt (k0 + 4 * j)))).setCell ⟨g, j * 4 + 1, none⟩ (.int .i64 ((k0 + 4 * j + 1 : Nat) : Int))).setCell ⟨g, j * 4 + 2, none⟩ (.int .i64 ((k0 + 4 * j + 2 : Nat) : Int))) := (((hb.trans (OnlyG.of hb1)).trans (OnlyG.set _ _ _)).trans (OnlyG.set _ _ _)).trans (OnlyG.set _ _ _)
      have hg2 : g < (((w1.setCell ⟨g, j * 4, none⟩ (.string (mt (k0 + 4 * j)))).setCell ⟨g, j * 4 + 1, none⟩ (.int .i64 ((k0 + 4 * j + 1 : Nat) : Int))).setCell ⟨g, j * 4 + 2, none⟩ (.int .i64 ((k0 + 4 * j + 2 : Nat) : Int))).heap.size := heap_lt e4
      have q1 : ((k0 + 4 * j + 1 : Nat) : Int) = (k0 : Int) + 4 * (j : Int) + 1 := by omega
      have q2 : ((k0 + 4 * j + 2 : Nat) : Int) = (k0 : Int) + 4 * (j : Int) + 1 + 1 := by omega
      rw [q1, q2] at e4 ho1 hg2
      rw [q1, q2] at hfj
      clear hb1 e1 e2 e3 q1 q2
      go_wp2_with fail
      refine (markText_int _ (k0 + 4 * j + 3) (by omega) (by omega) (by omega) _).mono ?_
      rintro e w2 ⟨rfl, hb2⟩
      have e5 := (hb2.block g hg2).trans e4
      obtain ⟨v3, c3⟩ := row_cell (o := j * 4 + 3) e5 (by simp; omega)
      have z3 : w2.frozen? ⟨g, j * 4 + 3, none⟩ = false := by simp [World.frozen?, e5]
      have e6 := heap_setCell_same w2 g (j * 4 + 3) _ _ (.string (mt (k0 + 4 * j + 3))) e5
      have hpart := rowE_step (f := ⟨mt (k0 + 4 * j), (k0 : Int) + 4 * (j : Int) + 1, (k0 : Int) + 4 * (j : Int) + 1 + 1, mt (k0 + 4 * j + 3)⟩) e6 h2 h3 (by omega) hfj
      have ho2 : OnlyG g w (w2.setCell ⟨g, j * 4 + 3, none⟩ (.string (mt (k0 + 4 * j + 3)))) := (ho1.trans (OnlyG.of hb2)).trans (OnlyG.set _ _ _)
      clear e4 e5 e6 h1 h2 h3 ho1 hb2 hfj c0 z0 c1 z1 c2 z2
      go_wp2_with fail
      exact ⟨⟨j + 1, by omega, by go_num, by go_num, hpart, ho2⟩, by simp [intOf]; omega⟩
    · obtain rfl : j = n := by omega
      go_wp2_with fail
      go_ret
      exact ⟨rfl, hpj, hb⟩

set_option maxRecDepth 100000 in
set_option maxHeartbeats 4000000 in
theorem heldEntryS_row (a : Option Addr) (cap n k0 : Nat) (w : World) (hn2 : n ≤ 1100000) (h01 : 1 ≤ k0) (hk0 : k0 ≤ 900000000) (hx : LieE w a (mkE k0 n)) :
    Calls Try.prog 13 #[.slice a n cap, .int .i64 k0] w fun e w' => e = .returned (.int .i64 (k0 + 4 * n : Nat)) ∧ Below w.heap.size w w' := by
  go_enter Try.func13, Try.ntmps13
  go_wp2_with fail
  go_loopw [1, 5] (fun kk i wr => ∃ j : Nat, j ≤ n ∧ i = .int .i64 j ∧ kk = .int .i64 (k0 + 4 * j : Nat) ∧ Below w.heap.size w wr) (fun _ i _ => n - (intOf i).toNat)
  case atStart => exact ⟨0, Nat.zero_le _, rfl, by simp, Below.refl _ _⟩
  case round =>
    obtain ⟨j, hj, rfl, rfl, hb⟩ := hrel
    by_cases hlt : j < n
    · obtain ⟨b, off, rfl, hbl, c0, c1, c2, c3⟩ := (hx.below hb).at (i := j) (by rw [mkE_length]; exact hlt)
      rw [mkE_at k0 n j hlt] at c0 c1 c2 c3
      have hij : (j : Int) < (n : Int) := by omega
      simp only at c0 c1 c2 c3
      have q1 : ((k0 + 4 * j + 1 : Nat) : Int) = (k0 : Int) + 4 * (j : Int) + 1 := by omega
      have q2 : ((k0 + 4 * j + 2 : Nat) : Int) = (k0 : Int) + 4 * (j : Int) + 1 + 1 := by omega
      rw [q1] at c1
      rw [q2] at c2
      clear q1 q2
      go_wp2_with fail
      go_region_held3 (fun w' => w'.cell? ⟨b, off + j * 4, none⟩ = some (.string (mt (k0 + 4 * j)))) (simp [go_sem, *])
        (first | (go_at_call 25; refine (markText_int _ (k0 + 4 * j) (by omega) (by omega) (by omega) _).mono ?_; rintro e w1 ⟨rfl, hb1⟩; have x0 := (hb1.cell (p := ⟨b, _, none⟩) hbl).trans c0; have x1 := (hb1.cell (p := ⟨b, _, none⟩) hbl).trans c1; have x2 := (hb1.cell (p := ⟨b, _, none⟩) hbl).trans c2; have x3 := (hb1.cell (p := ⟨b, _, none⟩) hbl).trans c3; have hbw := hb.drew.trans (hb1.mono hb.drew.size); have hbl1 := Nat.lt_of_lt_of_le hbl hb1.size; clear hb1))
      clear c0 c1 c2 c3 hbl hb
      go_wp2_with fail
      go_region_held3 (fun w' => w'.cell? ⟨b, off + j * 4 + 3, none⟩ = some (.string (mt (k0 + 4 * j + 3)))) (simp [go_sem, *])
        (first | (go_at_call 25; refine (markText_int _ (k0 + 4 * j + 3) (by omega) (by omega) (by omega) _).mono ?_; rintro e w2 ⟨rfl, hb2⟩; have y3 := (hb2.cell (p := ⟨b, _, none⟩) hbl1).trans x3; have hbw2 := hbw.drew.trans (hb2.mono hbw.drew.size); clear hb2))
      go_wp2_with fail
      exact ⟨⟨j + 1, by omega, by go_num, by go_num, hbw2⟩, by simp [intOf]; omega⟩
    · obtain rfl : j = n := by omega
      go_wp2_with fail
      go_ret
      exact ⟨rfl, hb⟩

set_option maxRecDepth 100000 in
set_option maxHeartbeats 1000000 in
theorem markEntryS_empty (a : Option Addr) (cap k0 : Nat) (w : World) :
    Calls Try.prog 12 #[.slice a 0 cap, .int .i64 k0] w fun e w' => e = .returned (.int .i64 k0) ∧ w' = w := by
  go_enter Try.func12, Try.ntmps12
  go_wp2_with fail
  refine wp_loop_rounds 1 ?_
  rw [rounds_succ]
  go_wp2_with fail
  go_ret
  exact ⟨rfl, rfl⟩
end Go.Proofs.Ytgkhjjnhikbdaaa
