
import Derived.Test.YtigpplcecbgmaaeDeI
namespace Go.Proofs.Ytigpplcecbgmaae
open Go.RowKit Go.Maps
set_option linter.unusedVariables false
set_option linter.unusedSimpArgs false



/-- One byte as a text. -/
def d1 (n : Int) : ByteArray := ByteArray.empty.push (UInt8.ofNat n.toNat)
theorem d1_size (n : Int) : (d1 n).size = 1 := by simp [d1]

theorem conv1 (w : World) (n : Int) : (convert 104 9 (.slice (some ⟨w.heap.size, 0, none⟩) 1 1)).run Try.prog (w.alloc (.cells #[.int .u8 n] 5)) = .ok (.string (d1 n)) (w.alloc (.cells #[.int .u8 n] 5)) := by
  rw [run_convert_bytes_string _ 104 9 5 _ 1 1 Try.underlying104 Try.underlying5 Try.underlying9, run_bytesToString _ _ 1 1 [n] (by simp [loadCells, go_sem])]
  rfl

/-- The digits of k ahead of out. -/
def md : Nat → Nat → ByteArray → ByteArray
  | 0, _, out => out
  | n + 1, k, out => if k = 0 then out else md n (k / 10) (d1 (48 + (k : Int) % 10) ++ out)
theorem md_zero (n : Nat) (out : ByteArray) : md n 0 out = out := by cases n <;> simp [md]
theorem md_more : ∀ (n k : Nat) (out : ByteArray), k ≤ n → md (n + 1) k out = md n k out := by
  intro n
  induction n with
  | zero => intro k out h; have : k = 0 := by omega
            subst this; rw [md_zero, md_zero]
  | succ n ih =>
    intro k out h
    show (if k = 0 then out else md (n + 1) (k / 10) (d1 (48 + (k : Int) % 10) ++ out)) = (if k = 0 then out else md n (k / 10) (d1 (48 + (k : Int) % 10) ++ out))
    by_cases hk : k = 0
    · simp [hk]
    · rw [if_neg hk, if_neg hk, ih _ _ (by omega)]
theorem md_stable (n k : Nat) (out : ByteArray) (h : k ≤ n) : md n k out = md k k out := by
  induction n with
  | zero => have : k = 0 := by omega
            subst this; rfl
  | succ n ih =>
    by_cases hk : k = n + 1
    · rw [hk]
    · rw [md_more n k out (by omega)]; exact ih (by omega)
theorem md_step {k : Nat} (hk : 0 < k) (out : ByteArray) : md (k / 10) (k / 10) (d1 (48 + (k : Int) % 10) ++ out) = md k k out := by
  obtain ⟨n, rfl⟩ : ∃ n, k = n + 1 := ⟨k - 1, by omega⟩
  show _ = (if n + 1 = 0 then out else md n ((n + 1) / 10) (d1 (48 + ((n + 1 : Nat) : Int) % 10) ++ out))
  rw [if_neg (by omega), md_stable n _ _ (by omega)]

/-- The text of a mark. -/
def mt (k : Nat) : ByteArray := ⟨#[109]⟩ ++ md k k ByteArray.empty

set_option maxRecDepth 100000 in
set_option maxHeartbeats 1000000 in
theorem markText_any (k0 : Nat) (hk : 1 ≤ k0) (hk2 : k0 ≤ 40000000) (w : World) :
    Calls Try.prog 56 #[.int .i64 k0] w fun e w' => e = .returned (.string (mt k0)) ∧ Below w.heap.size w w' := by
  have hcv := conv1
  have HM : Hid (mt k0 = ⟨#[109]⟩ ++ md k0 k0 ByteArray.empty) := rfl
  generalize mt k0 = res at *
  have hk' : ¬ (k0 : Int) ≤ 0 := by omega
  go_enter Try.func56, Try.ntmps56
  go_wp2
  go_loopw [0, 3] (fun i o wr => ∃ (k : Nat) (out : ByteArray), k ≤ k0 ∧ i = .int .i64 k ∧ o = .string out ∧ out.size + k ≤ k0 ∧ Hid (md k k out = md k0 k0 ByteArray.empty) ∧ Below w.heap.size w wr) (fun i _ _ => (intOf i).toNat)
  case atStart => exact ⟨k0, ByteArray.empty, Nat.le_refl _, rfl, rfl, by simp, rfl, Below.refl _ _⟩
  case round =>
    obtain ⟨k, out, hk1, rfl, rfl, hsz, HD, hb⟩ := hrel
    have hbs := hb.size
    by_cases hp : 0 < k
    · have hp' : (0 : Int) < (k : Int) := by omega
      have hds := d1_size (48 + (k : Int) % 10)
      have HD' : Hid (md (k / 10) (k / 10) (d1 (48 + (k : Int) % 10) ++ out) = md k0 k0 ByteArray.empty) := (md_step hp out).trans HD.out
      clear HD
      go_wp2
      refine ⟨⟨k / 10, d1 (48 + (k : Int) % 10) ++ out, by omega, by go_num, rfl, ?_, HD', hb.alloc hbs _⟩, by simp [intOf]; omega⟩
      rw [ByteArray.size_append, hds]
      omega
    · obtain rfl : k = 0 := by omega
      have HR : Hid (res = ⟨#[109]⟩ ++ out) := by show _ = _; rw [HM.out, ← HD.out, md_zero]
      clear HD HM
      go_wp2
      go_ret
      exact ⟨by rw [HR.out]; rfl, hb⟩

theorem markText_int (x : Int) (n : Nat) (hx : x = n) (h1 : 1 ≤ n) (h2 : n ≤ 40000000) (w : World) :
    Calls Try.prog 56 #[.int .i64 x] w fun e w' => e = .returned (.string (mt n)) ∧ Below w.heap.size w w' := by
  subst hx
  exact markText_any n h1 h2 w

theorem row_cell {W : World} {g o : Nat} {cs : Array Value} {t : TypeId} (h : W.heap[g]? = some (.cells cs t (0, 0))) (ho : o < cs.size) : ∃ v, W.cell? ⟨g, o, none⟩ = some v := ⟨cs[o], by simp [World.cell?, h]⟩


/-- The marks, as references. -/
def mkT (n : Nat) : List Tr := (List.range n).map fun i => ⟨((1 + 4 * i : Nat) : Int), ((1 + 4 * i + 1 : Nat) : Int), mt (1 + 4 * i + 2), mt (1 + 4 * i + 3)⟩
theorem mkT_length (n : Nat) : (mkT n).length = n := by simp [mkT]
theorem mkT_at (n i : Nat) (h : i < n) : (mkT n).getD i tr0 = ⟨((1 + 4 * i : Nat) : Int), ((1 + 4 * i + 1 : Nat) : Int), mt (1 + 4 * i + 2), mt (1 + 4 * i + 3)⟩ := by simp [mkT, List.getD, h]

set_option maxRecDepth 100000 in
set_option maxHeartbeats 4000000 in
theorem markRefs_row (g cap n : Nat) (w : World) (ys : List Tr) (hn2 : n ≤ 1000) (hp : RowT w g n ys 0) :
    Calls Try.prog 27 #[.slice (some ⟨g, 0, none⟩) n cap, .int .i64 1] w fun e w' => e = .returned (.int .i64 (1 + 4 * n : Nat)) ∧ RowT w' g n (mkT n) n ∧ Only g w w' := by
  have hgl := hp.lt
  go_enter Try.func27, Try.ntmps27
  go_wp2_with fail
  go_loopw [1, 5] (fun kk i wr => ∃ j : Nat, j ≤ n ∧ i = .int .i64 j ∧ kk = .int .i64 (1 + 4 * j : Nat) ∧ RowT wr g n (mkT n) j ∧ Only g w wr) (fun _ i _ => n - (intOf i).toNat)
  case atStart => exact ⟨0, Nat.zero_le _, rfl, by simp, hp.zero _, Only.refl _ _⟩
  case round =>
    obtain ⟨j, hj, rfl, rfl, hpj, hb⟩ := hrel
    by_cases hlt : j < n
    · obtain ⟨cs, h1, h2, h3⟩ := hpj
      have hfj := mkT_at n j hlt
      have hgr : g < wr.heap.size := Nat.lt_of_lt_of_le hgl hb.size
      obtain ⟨v0, c0⟩ := row_cell (o := j * 4) h1 (by omega)
      obtain ⟨v1, c1⟩ := row_cell (o := j * 4 + 1) h1 (by omega)
      have z0 : wr.frozen? ⟨g, j * 4, none⟩ = false := by simp [World.frozen?, h1]
      have z1 : wr.frozen? ⟨g, j * 4 + 1, none⟩ = false := by simp [World.frozen?, h1]
      have e2 := heap_setCell_same wr g (j * 4) _ _ (.int .i64 ((1 + 4 * j : Nat) : Int)) h1
      have e3 := heap_setCell_same _ g (j * 4 + 1) _ _ (.int .i64 ((1 + 4 * j + 1 : Nat) : Int)) e2
      have ho1 : Only g w ((wr.setCell ⟨g, j * 4, none⟩ (.int .i64 ((1 + 4 * j : Nat) : Int))).setCell ⟨g, j * 4 + 1, none⟩ (.int .i64 ((1 + 4 * j + 1 : Nat) : Int))) := (hb.trans (Only.set _ _ _)).trans (Only.set _ _ _)
      have hg2 : g < ((wr.setCell ⟨g, j * 4, none⟩ (.int .i64 ((1 + 4 * j : Nat) : Int))).setCell ⟨g, j * 4 + 1, none⟩ (.int .i64 ((1 + 4 * j + 1 : Nat) : Int))).heap.size := heap_lt e3
      have q0 : ((1 + 4 * j : Nat) : Int) = 1 + 4 * (j : Int) := by omega
      have q1 : ((1 + 4 * j + 1 : Nat) : Int) = 1 + 4 * (j : Int) + 1 := by omega
      rw [q0, q1] at e3 ho1 hg2 hfj
      clear e2 q0 q1
      go_wp2_with fail
      refine (markText_int _ (1 + 4 * j + 2) (by omega) (by omega) (by omega) _).mono ?_
      rintro e w2 ⟨rfl, hb2⟩
      have e5 := (hb2.block g hg2).trans e3
      have hg3 := heap_lt e5
      obtain ⟨v2, c2⟩ := row_cell (o := j * 4 + 2) e5 (by simp; omega)
      have z2 : w2.frozen? ⟨g, j * 4 + 2, none⟩ = false := by simp [World.frozen?, e5]
      have e6 := heap_setCell_same w2 g (j * 4 + 2) _ _ (.string (mt (1 + 4 * j + 2))) e5
      have ho2 : Only g w (w2.setCell ⟨g, j * 4 + 2, none⟩ (.string (mt (1 + 4 * j + 2)))) := (ho1.trans (Only.of hb2)).trans (Only.set _ _ _)
      have hg4 : g < (w2.setCell ⟨g, j * 4 + 2, none⟩ (.string (mt (1 + 4 * j + 2)))).heap.size := heap_lt e6
      clear e3 e5 ho1 hb2 c0 z0 c1 z1
      go_wp2_with fail
      refine (markText_int _ (1 + 4 * j + 3) (by omega) (by omega) (by omega) _).mono ?_
      rintro e w3 ⟨rfl, hb3⟩
      have e7 := (hb3.block g hg4).trans e6
      obtain ⟨v3, c3⟩ := row_cell (o := j * 4 + 3) e7 (by simp; omega)
      have z3 : w3.frozen? ⟨g, j * 4 + 3, none⟩ = false := by simp [World.frozen?, e7]
      have e8 := heap_setCell_same w3 g (j * 4 + 3) _ _ (.string (mt (1 + 4 * j + 3))) e7
      have hpart := rowT_step (f := ⟨1 + 4 * (j : Int), 1 + 4 * (j : Int) + 1, mt (1 + 4 * j + 2), mt (1 + 4 * j + 3)⟩) e8 h2 h3 (by omega) hfj
      have ho3 : Only g w (w3.setCell ⟨g, j * 4 + 3, none⟩ (.string (mt (1 + 4 * j + 3)))) := (ho2.trans (Only.of hb3)).trans (Only.set _ _ _)
      clear e6 e7 e8 h1 h2 h3 ho2 hb3 hfj c2 z2
      go_wp2_with fail
      exact ⟨⟨j + 1, by omega, by go_num, by go_num, hpart, ho3⟩, by simp [intOf]; omega⟩
    · obtain rfl : j = n := by omega
      go_wp2_with fail
      go_ret
      exact ⟨rfl, hpj, hb⟩

set_option maxRecDepth 100000 in
set_option maxHeartbeats 4000000 in
theorem heldRefs_row (a : Option Addr) (cap n : Nat) (w : World) (hn2 : n ≤ 1000) (hx : LieT w a (mkT n)) :
    Calls Try.prog 29 #[.slice a n cap, .int .i64 1] w fun e w' => e = .returned (.int .i64 (1 + 4 * n : Nat)) ∧ Below w.heap.size w w' := by
  go_enter Try.func29, Try.ntmps29
  go_wp2_with fail
  go_loopw [1, 5] (fun kk i wr => ∃ j : Nat, j ≤ n ∧ i = .int .i64 j ∧ kk = .int .i64 (1 + 4 * j : Nat) ∧ Below w.heap.size w wr) (fun _ i _ => n - (intOf i).toNat)
  case atStart => exact ⟨0, Nat.zero_le _, rfl, by simp, Below.refl _ _⟩
  case round =>
    obtain ⟨j, hj, rfl, rfl, hb⟩ := hrel
    by_cases hlt : j < n
    · obtain ⟨b, off, rfl, hbl, c0, c1, c2, c3⟩ := (hx.below hb).at (i := j) (by rw [mkT_length]; exact hlt)
      rw [mkT_at n j hlt] at c0 c1 c2 c3
      have hij : (j : Int) < (n : Int) := by omega
      simp only at c0 c1 c2 c3
      have q0 : ((1 + 4 * j : Nat) : Int) = 1 + 4 * (j : Int) := by omega
      have q1 : ((1 + 4 * j + 1 : Nat) : Int) = 1 + 4 * (j : Int) + 1 := by omega
      rw [q0] at c0
      rw [q1] at c1
      clear q0 q1
      go_wp2_with fail
      go_region_held3 (fun w' => w'.cell? ⟨b, off + j * 4 + 2, none⟩ = some (.string (mt (1 + 4 * j + 2)))) (simp [go_sem, *])
        (first | (go_at_call 56; refine (markText_int _ (1 + 4 * j + 2) (by omega) (by omega) (by omega) _).mono ?_; rintro e w1 ⟨rfl, hb1⟩; have x2 := (hb1.cell (p := ⟨b, _, none⟩) hbl).trans c2; have x3 := (hb1.cell (p := ⟨b, _, none⟩) hbl).trans c3; have hbw := hb.drew.trans (hb1.mono hb.drew.size); have hbl1 := Nat.lt_of_lt_of_le hbl hb1.size; clear hb1))
      clear c0 c1 c2 c3 hbl hb
      go_wp2_with fail
      go_region_held3 (fun w' => w'.cell? ⟨b, off + j * 4 + 3, none⟩ = some (.string (mt (1 + 4 * j + 3)))) (simp [go_sem, *])
        (first | (go_at_call 56; refine (markText_int _ (1 + 4 * j + 3) (by omega) (by omega) (by omega) _).mono ?_; rintro e w2 ⟨rfl, hb2⟩; have y3 := (hb2.cell (p := ⟨b, _, none⟩) hbl1).trans x3; have hbw2 := hbw.drew.trans (hb2.mono hbw.drew.size); clear hb2))
      go_wp2_with fail
      exact ⟨⟨j + 1, by omega, by go_num, by go_num, hbw2⟩, by simp [intOf]; omega⟩
    · obtain rfl : j = n := by omega
      go_wp2_with fail
      go_ret
      exact ⟨rfl, hb⟩

/-- The marks, as numbers. -/
def mkI (k0 n : Nat) : List Int := (List.range n).map fun i => ((k0 + i : Nat) : Int)
theorem mkI_length (k0 n : Nat) : (mkI k0 n).length = n := by simp [mkI]
theorem mkI_at (k0 n i : Nat) (h : i < n) : (mkI k0 n).getD i 0 = ((k0 + i : Nat) : Int) := by simp [mkI, List.getD, h]
theorem RowI.zero {w : World} {g n k : Nat} {xs : List Int} (h : RowI w g n xs k) (ys : List Int) : RowI w g n ys 0 := by
  obtain ⟨cs, h1, h2, _⟩ := h
  exact ⟨cs, h1, h2, fun i hi => absurd hi (Nat.not_lt_zero _)⟩
theorem RowI.step {w : World} {g n k : Nat} {ks : List Int} {x : Int} (h : RowI w g n ks k) (hk : k < n) (hx : ks.getD k 0 = x) : RowI (w.setCell ⟨g, k, none⟩ (.int .i64 x)) g n ks (k + 1) := by
  obtain ⟨cs, h1, h2, h3⟩ := h
  refine ⟨_, heap_setCell_same w g k cs _ (.int .i64 x) h1, by simpa using h2, fun i hi => ?_⟩
  by_cases hik : i = k
  · subst hik
    rw [hx]
    simp [Array.getElem?_setIfInBounds]; omega
  · rw [Array.getElem?_setIfInBounds_ne (by omega)]
    exact h3 i (by omega)

set_option maxHeartbeats 1000000 in
theorem markInts_row (g cap n k0 : Nat) (w : World) (ys : List Int) (hn2 : n ≤ 1000) (hk0 : k0 ≤ 100000) (hp : RowI w g n ys 0) :
    Calls Try.prog 28 #[.slice (some ⟨g, 0, none⟩) n cap, .int .i64 k0] w fun e w' => e = .returned (.int .i64 (k0 + n : Nat)) ∧ RowI w' g n (mkI k0 n) n ∧ Only g w w' := by
  have hgl := hp.lt
  go_enter Try.func28, Try.ntmps28
  go_wp2_with fail
  go_loopw [1, 5] (fun kk i wr => ∃ j : Nat, j ≤ n ∧ i = .int .i64 j ∧ kk = .int .i64 (k0 + j : Nat) ∧ RowI wr g n (mkI k0 n) j ∧ Only g w wr) (fun _ i _ => n - (intOf i).toNat)
  case atStart => exact ⟨0, Nat.zero_le _, rfl, by simp, hp.zero _, Only.refl _ _⟩
  case round =>
    obtain ⟨j, hj, rfl, rfl, hpj, hb⟩ := hrel
    by_cases hlt : j < n
    · have hst := hpj.step hlt (mkI_at k0 n j hlt)
      obtain ⟨cs, h1, h2, h3⟩ := hpj
      have hgr : g < wr.heap.size := Nat.lt_of_lt_of_le hgl hb.size
      obtain ⟨v0, c0⟩ := row_cell (o := j) h1 (by omega)
      have z0 : wr.frozen? ⟨g, j, none⟩ = false := by simp [World.frozen?, h1]
      have ho1 : Only g w (wr.setCell ⟨g, j, none⟩ (.int .i64 ((k0 + j : Nat) : Int))) := hb.trans (Only.set _ _ _)
      have q0 : ((k0 + j : Nat) : Int) = k0 + (j : Int) := by omega
      rw [q0] at hst ho1
      have HST := hd hst
      have HO1 := hd ho1
      clear hst ho1 q0 h1 h2 h3 hb
      have i1 : (j : Int) < (n : Int) := by omega
      go_wp2_with fail
      exact ⟨⟨j + 1, by omega, by go_num, by go_num, HST.out, HO1.out⟩, by simp [intOf]; omega⟩
    · obtain rfl : j = n := by omega
      go_wp2_with fail
      go_ret
      exact ⟨rfl, hpj, hb⟩

set_option maxHeartbeats 1000000 in
theorem heldInts_row (a : Option Addr) (cap n k0 : Nat) (w : World) (hn2 : n ≤ 1000) (hk0 : k0 ≤ 100000) (hx : LieI w a (mkI k0 n)) :
    Calls Try.prog 30 #[.slice a n cap, .int .i64 k0] w fun e w' => e = .returned (.int .i64 (k0 + n : Nat)) ∧ Below w.heap.size w w' := by
  go_enter Try.func30, Try.ntmps30
  go_wp2_with fail
  go_loopw [1, 5] (fun kk i wr => ∃ j : Nat, j ≤ n ∧ i = .int .i64 j ∧ kk = .int .i64 (k0 + j : Nat) ∧ Below w.heap.size w wr) (fun _ i _ => n - (intOf i).toNat)
  case atStart => exact ⟨0, Nat.zero_le _, rfl, by simp, Below.refl _ _⟩
  case round =>
    obtain ⟨j, hj, rfl, rfl, hb⟩ := hrel
    by_cases hlt : j < n
    · obtain ⟨b, off, rfl, hbl, c0⟩ := (hx.below hb).at (i := j) (by rw [mkI_length]; exact hlt)
      rw [mkI_at k0 n j hlt] at c0
      have hij : (j : Int) < (n : Int) := by omega
      have q0 : ((k0 + j : Nat) : Int) = k0 + (j : Int) := by omega
      rw [q0] at c0
      clear q0
      go_wp2_with fail
      exact ⟨⟨j + 1, by omega, by go_num, by go_num, hb⟩, by simp [intOf]; omega⟩
    · obtain rfl : j = n := by omega
      go_wp2_with fail
      go_ret
      exact ⟨rfl, hb⟩

set_option maxRecDepth 100000 in
theorem markRefs_empty (a : Option Addr) (cap : Nat) (w : World) :
    Calls Try.prog 27 #[.slice a 0 cap, .int .i64 1] w fun e w' => e = .returned (.int .i64 1) ∧ w' = w := by
  go_enter Try.func27, Try.ntmps27
  go_wp2_with fail
  refine wp_loop_rounds 1 ?_
  rw [rounds_succ]
  go_wp2_with fail
  go_ret
  exact ⟨rfl, rfl⟩
set_option maxRecDepth 100000 in
theorem markInts_empty (a : Option Addr) (cap k0 : Nat) (w : World) :
    Calls Try.prog 28 #[.slice a 0 cap, .int .i64 k0] w fun e w' => e = .returned (.int .i64 k0) ∧ w' = w := by
  go_enter Try.func28, Try.ntmps28
  go_wp2_with fail
  refine wp_loop_rounds 1 ?_
  rw [rounds_succ]
  go_wp2_with fail
  go_ret
  exact ⟨rfl, rfl⟩
/-- Every block is kept but those of one kind. -/
def KeepNot (t : TypeId) (w w' : World) : Prop := ∀ (k : Nat) (o : Obj), w.heap[k]? = some o → (∀ cs fz, o ≠ Obj.cells cs t fz) → w'.heap[k]? = some o
theorem ResI.keep {w w' : World} {base : Nat} {a : Option Addr} {ks : List Int} (h : ResI w base a ks) (hk : KeepNot 54 w w') : ResI w' base a ks := by
  rcases h with h | ⟨g, rfl, hg, cs, h1, h2, h3⟩
  · exact .inl h
  · exact .inr ⟨g, rfl, hg, cs, hk g _ h1 (fun cs fz h => by simp at h), h2, h3⟩
theorem ResT.keep {w w' : World} {base : Nat} {a : Option Addr} {xs : List Tr} (h : ResT w base a xs) (hk : KeepNot 3 w w') : ResT w' base a xs := by
  rcases h with h | ⟨g, rfl, hg, cs, h1, h2, h3⟩
  · exact .inl h
  · exact .inr ⟨g, rfl, hg, cs, hk g _ h1 (fun cs fz h => by simp at h), h2, h3⟩
theorem markRefs_any (a : Option Addr) (cap base : Nat) (xs : List Tr) (w : World) (hr : ResT w base a xs) (hn : xs.length ≤ 1000) (hbase : base ≤ w.heap.size) :
    Calls Try.prog 27 #[.slice a xs.length cap, .int .i64 1] w fun e w' => e = .returned (.int .i64 (1 + 4 * xs.length : Nat)) ∧ ResT w' base a (mkT xs.length) ∧ Below base w w' ∧ KeepNot 54 w w' := by
  rcases hr with rfl | ⟨g, rfl, hg, hrow⟩
  · refine (markRefs_empty a cap w).mono ?_
    rintro e w' ⟨rfl, rfl⟩
    exact ⟨rfl, .inl rfl, Below.refl _ _, fun k o h _ => h⟩
  · refine (markRefs_row g cap xs.length w xs hn (hrow.zero xs)).mono ?_
    rintro e w' ⟨rfl, hp, ho⟩
    refine ⟨rfl, .inr ⟨g, rfl, hg, by rw [mkT_length]; exact hp⟩, ho.below hg hbase, fun k o h hne => ?_⟩
    by_cases hk : k = g
    · subst hk
      obtain ⟨cs, h1, _⟩ := hrow
      rw [h1] at h
      cases h
      exact absurd rfl (hne _ _)
    · exact (ho.block k (heap_lt h) hk).trans h
theorem markInts_any (a : Option Addr) (cap base k0 : Nat) (ks : List Int) (w : World) (hr : ResI w base a ks) (hn : ks.length ≤ 1000) (hk0 : k0 ≤ 100000) (hbase : base ≤ w.heap.size) :
    Calls Try.prog 28 #[.slice a ks.length cap, .int .i64 k0] w fun e w' => e = .returned (.int .i64 (k0 + ks.length : Nat)) ∧ ResI w' base a (mkI k0 ks.length) ∧ Below base w w' ∧ KeepNot 3 w w' := by
  rcases hr with rfl | ⟨g, rfl, hg, hrow⟩
  · refine (markInts_empty a cap k0 w).mono ?_
    rintro e w' ⟨rfl, rfl⟩
    exact ⟨rfl, .inl rfl, Below.refl _ _, fun k o h _ => h⟩
  · refine (markInts_row g cap ks.length k0 w ks hn hk0 (hrow.zero ks)).mono ?_
    rintro e w' ⟨rfl, hp, ho⟩
    refine ⟨rfl, .inr ⟨g, rfl, hg, by rw [mkI_length]; exact hp⟩, ho.below hg hbase, fun k o h hne => ?_⟩
    by_cases hk : k = g
    · subst hk
      obtain ⟨cs, h1, _⟩ := hrow
      rw [h1] at h
      cases h
      exact absurd rfl (hne _ _)
    · exact (ho.block k (heap_lt h) hk).trans h

set_option maxRecDepth 100000 in
set_option maxHeartbeats 1000000 in
theorem markEdit_any (a : Option Addr) (ca : Nat) (d : Option Addr) (cd : Nat) (e : Ed) (base : Nat) (w : World) (hT : ResT w base a e.ad) (hI : ResI w base d e.dl) (hl1 : e.ad.length ≤ 1000) (hl2 : e.dl.length ≤ 1000) (hbase : base ≤ w.heap.size) :
    Calls Try.prog 8 #[edV a ca d cd e, .int .i64 1] w fun r w' => r = .returned (.int .i64 (1 + 4 * e.ad.length + e.dl.length : Nat)) ∧ ResT w' base a (mkT e.ad.length) ∧ ResI w' base d (mkI (1 + 4 * e.ad.length) e.dl.length) ∧ Below base w w' ∧ (∀ (k : Nat) (o : Obj), w.heap[k]? = some o → (∀ cs fz, o ≠ Obj.cells cs 54 fz) → (∀ cs fz, o ≠ Obj.cells cs 3 fz) → w'.heap[k]? = some o) := by
  obtain ⟨xs, ks, lg, nx, la⟩ := e
  dsimp only at *
  have hP0 : (w.alloc (.cells #[.slice a xs.length ca, .slice d ks.length cd, .int .i64 lg, .int .i64 nx, .int .i64 la] 25)).heap[w.heap.size]? = some (.cells #[.slice a xs.length ca, .slice d ks.length cd, .int .i64 lg, .int .i64 nx, .int .i64 la] 25 (0, 0)) := World.heap_alloc_new _ _
  have hbl0 : Below w.heap.size w (w.alloc (.cells #[.slice a xs.length ca, .slice d ks.length cd, .int .i64 lg, .int .i64 nx, .int .i64 la] 25)) := (Below.refl _ _).alloc (Nat.le_refl _) _
  have hT0 := hT.below hbl0
  have hI0 := hI.below hbl0
  have hb0 := hbl0.mono hbase
  clear hT hI hbl0
  go_enter Try.func8, Try.ntmps8
  go_wp2_with fail
  refine (markRefs_any a ca base xs _ hT0 hl1 (by simp; omega)).mono ?_
  rintro r w1 ⟨rfl, hT1, hb1, hk1⟩
  have hP1 := hk1 w.heap.size _ hP0 (fun cs fz h => by simp at h)
  have hI1 := hI0.keep hk1
  have hbw1 := hb0.trans hb1
  obtain ⟨x0, x1, x2, x3, x4⟩ := five_cells hP1
  have hl := heap_lt hP1
  have q0 : ((1 + 4 * xs.length : Nat) : Int) = 1 + 4 * (xs.length : Int) := by omega
  have HM := hd (markInts_any d cd base (1 + 4 * xs.length) ks w1 hI1 hl2 (by omega) (by omega))
  rw [q0] at HM ⊢
  have HK : Hid (∀ (k : Nat) (o : Obj), w.heap[k]? = some o → (∀ cs fz, o ≠ Obj.cells cs 54 fz) → w1.heap[k]? = some o) := fun k o h hne => hk1 k o ((alloc_old (heap_lt h)).trans h) hne
  clear hP0 hT0 hI0 hb0 hb1 hk1
  go_wp2_with fail
  refine HM.out.mono ?_
  rintro r w2 ⟨rfl, hI2, hb2, hk2⟩
  go_wp2_with fail
  go_ret
  exact ⟨rfl, hT1.keep hk2, hI2, hbw1.trans hb2, fun k o h h1 h2 => hk2 k o (HK.out k o h h1) h2⟩

set_option maxRecDepth 100000 in
set_option maxHeartbeats 1000000 in
theorem heldEdit_any (a : Option Addr) (ca : Nat) (d : Option Addr) (cd : Nat) (e : Ed) (w : World) (hT : LieT w a (mkT e.ad.length)) (hI : LieI w d (mkI (1 + 4 * e.ad.length) e.dl.length)) (hl1 : e.ad.length ≤ 1000) (hl2 : e.dl.length ≤ 1000) :
    Calls Try.prog 9 #[edV a ca d cd e, .int .i64 1] w fun r w' => r = .returned (.int .i64 (1 + 4 * e.ad.length + e.dl.length : Nat)) ∧ Below w.heap.size w w' := by
  obtain ⟨xs, ks, lg, nx, la⟩ := e
  dsimp only at *
  have hP0 : (w.alloc (.cells #[.slice a xs.length ca, .slice d ks.length cd, .int .i64 lg, .int .i64 nx, .int .i64 la] 25)).heap[w.heap.size]? = some (.cells #[.slice a xs.length ca, .slice d ks.length cd, .int .i64 lg, .int .i64 nx, .int .i64 la] 25 (0, 0)) := World.heap_alloc_new _ _
  have hb0 : Below w.heap.size w (w.alloc (.cells #[.slice a xs.length ca, .slice d ks.length cd, .int .i64 lg, .int .i64 nx, .int .i64 la] 25)) := (Below.refl _ _).alloc (Nat.le_refl _) _
  go_enter Try.func9, Try.ntmps9
  go_wp2_with fail
  refine (heldRefs_row a ca xs.length _ hl1 (hT.below hb0)).mono ?_
  rintro r w1 ⟨rfl, hb1⟩
  have hP1 := (hb1.block w.heap.size (by simp)).trans hP0
  have hbw1 := hb0.trans (hb1.mono hb0.size)
  obtain ⟨x0, x1, x2, x3, x4⟩ := five_cells hP1
  have hl := heap_lt hP1
  have q0 : ((1 + 4 * xs.length : Nat) : Int) = 1 + 4 * (xs.length : Int) := by omega
  have q1 : ¬ (1 + 4 * (xs.length : Int)) < 0 := by omega
  have q2 : ((1 + 4 * xs.length + ks.length : Nat) : Int) = 1 + 4 * (xs.length : Int) + ks.length := by omega
  have q3 : ¬ (1 + 4 * (xs.length : Int) + ks.length) < 0 := by omega
  have HM := hd (heldInts_row d cd ks.length (1 + 4 * xs.length) w1 hl2 (by omega) (hI.below hbw1))
  rw [q0, q2] at HM
  rw [q0]
  clear hP0 hb0 hb1
  go_wp2_with fail
  refine HM.out.mono ?_
  rintro r w2 ⟨rfl, hb2⟩
  go_wp2_with fail
  go_ret
  exact ⟨by rw [q2]; rfl, hbw1.trans (hb2.mono hbw1.size)⟩
end Go.Proofs.Ytigpplcecbgmaae
