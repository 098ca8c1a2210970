import Derived.Test.YtigpplcecbgmaaeGreatDoorDeZ

namespace Go.Proofs.YtigpplcecbgmaaeGreatDoor
open Go.RowKit Go.Maps
set_option linter.unusedVariables false
set_option linter.unusedSimpArgs false



/-- One byte as a text. -/
def d1 (n : Int) : ByteArray := ByteArray.empty.push (UInt8.ofNat n.toNat)
theorem d1_size (n : Int) : (d1 n).size = 1 := by simp [d1]

theorem conv1 (w : World) (n : Int) : (convert 28 9 (.slice (some ⟨w.heap.size, 0, none⟩) 1 1)).run Tryz.prog (w.alloc (.cells #[.int .u8 n] 5)) = .ok (.string (d1 n)) (w.alloc (.cells #[.int .u8 n] 5)) := by
  rw [run_convert_bytes_string _ 28 9 5 _ 1 1 Tryz.underlying28 Tryz.underlying5 Tryz.underlying9, run_bytesToString _ _ 1 1 [n] (by simp [loadCells, go_sem])]
  rfl

/-- The digits of k ahead of out. -/
def md : Nat → Nat → ByteArray → ByteArray
  | 0, _, out => out
  | n + 1, k, out => if k = 0 then out else md n (k / 10) (d1 (48 + (k : Int) % 10) ++ out)
theorem md_zero (n : Nat) (out : ByteArray) : md n 0 out = out := by cases n <;> simp [md]
theorem md_more : ∀ (n k : Nat) (out : ByteArray), k ≤ n → md (n + 1) k out = md n k out := by
  intro n
  induction n with
  | zero => intro k out h; have : k = 0 := by omega
            subst this; rw [md_zero, md_zero]
  | succ n ih =>
    intro k out h
    show (if k = 0 then out else md (n + 1) (k / 10) (d1 (48 + (k : Int) % 10) ++ out)) = (if k = 0 then out else md n (k / 10) (d1 (48 + (k : Int) % 10) ++ out))
    by_cases hk : k = 0
    · simp [hk]
    · rw [if_neg hk, if_neg hk, ih _ _ (by omega)]
theorem md_stable (n k : Nat) (out : ByteArray) (h : k ≤ n) : md n k out = md k k out := by
  induction n with
  | zero => have : k = 0 := by omega
            subst this; rfl
  | succ n ih =>
    by_cases hk : k = n + 1
    · rw [hk]
    · rw [md_more n k out (by omega)]; exact ih (by omega)
theorem md_step {k : Nat} (hk : 0 < k) (out : ByteArray) : md (k / 10) (k / 10) (d1 (48 + (k : Int) % 10) ++ out) = md k k out := by
  obtain ⟨n, rfl⟩ : ∃ n, k = n + 1 := ⟨k - 1, by omega⟩
  show _ = (if n + 1 = 0 then out else md n ((n + 1) / 10) (d1 (48 + ((n + 1 : Nat) : Int) % 10) ++ out))
  rw [if_neg (by omega), md_stable n _ _ (by omega)]

/-- The text of a mark. -/
def mt (k : Nat) : ByteArray := ⟨#[109]⟩ ++ md k k ByteArray.empty

set_option maxRecDepth 100000 in
set_option maxHeartbeats 1000000 in
theorem markText_any (k0 : Nat) (hk : 1 ≤ k0) (hk2 : k0 ≤ 40000000) (w : World) :
    Calls Tryz.prog 26 #[.int .i64 k0] w fun e w' => e = .returned (.string (mt k0)) ∧ Below w.heap.size w w' := by
  have hcv := conv1
  have HM : Hid (mt k0 = ⟨#[109]⟩ ++ md k0 k0 ByteArray.empty) := rfl
  generalize mt k0 = res at *
  have hk' : ¬ (k0 : Int) ≤ 0 := by omega
  go_enter Tryz.func26, Tryz.ntmps26
  go_wp2
  go_loopw [0, 3] (fun i o wr => ∃ (k : Nat) (out : ByteArray), k ≤ k0 ∧ i = .int .i64 k ∧ o = .string out ∧ out.size + k ≤ k0 ∧ Hid (md k k out = md k0 k0 ByteArray.empty) ∧ Below w.heap.size w wr) (fun i _ _ => (intOf i).toNat)
  case atStart => exact ⟨k0, ByteArray.empty, Nat.le_refl _, rfl, rfl, by simp, rfl, Below.refl _ _⟩
  case round =>
    obtain ⟨k, out, hk1, rfl, rfl, hsz, HD, hb⟩ := hrel
    have hbs := hb.size
    by_cases hp : 0 < k
    · have hp' : (0 : Int) < (k : Int) := by omega
      have hds := d1_size (48 + (k : Int) % 10)
      have HD' : Hid (md (k / 10) (k / 10) (d1 (48 + (k : Int) % 10) ++ out) = md k0 k0 ByteArray.empty) := (md_step hp out).trans HD.out
      clear HD
      go_wp2
      refine ⟨⟨k / 10, d1 (48 + (k : Int) % 10) ++ out, by omega, by go_num, rfl, ?_, HD', hb.alloc hbs _⟩, by simp [intOf]; omega⟩
      rw [ByteArray.size_append, hds]
      omega
    · obtain rfl : k = 0 := by omega
      have HR : Hid (res = ⟨#[109]⟩ ++ out) := by show _ = _; rw [HM.out, ← HD.out, md_zero]
      clear HD HM
      go_wp2
      go_ret
      exact ⟨by rw [HR.out]; rfl, hb⟩

theorem markText_int (x : Int) (n : Nat) (hx : x = n) (h1 : 1 ≤ n) (h2 : n ≤ 40000000) (w : World) :
    Calls Tryz.prog 26 #[.int .i64 x] w fun e w' => e = .returned (.string (mt n)) ∧ Below w.heap.size w w' := by
  subst hx
  exact markText_any n h1 h2 w

theorem row_cell {W : World} {g o : Nat} {cs : Array Value} {t : TypeId} (h : W.heap[g]? = some (.cells cs t (0, 0))) (ho : o < cs.size) : ∃ v, W.cell? ⟨g, o, none⟩ = some v := ⟨cs[o], by simp [World.cell?, h]⟩


/-- The marks, as references. -/
def mkT (n : Nat) : List Tr := (List.range n).map fun i => ⟨((1 + 4 * i : Nat) : Int), ((1 + 4 * i + 1 : Nat) : Int), mt (1 + 4 * i + 2), mt (1 + 4 * i + 3)⟩
theorem mkT_length (n : Nat) : (mkT n).length = n := by simp [mkT]
theorem mkT_at (n i : Nat) (h : i < n) : (mkT n).getD i tr0 = ⟨((1 + 4 * i : Nat) : Int), ((1 + 4 * i + 1 : Nat) : Int), mt (1 + 4 * i + 2), mt (1 + 4 * i + 3)⟩ := by simp [mkT, List.getD, h]

set_option maxRecDepth 100000 in
set_option maxHeartbeats 4000000 in
theorem markRefs_row (g cap n : Nat) (w : World) (ys : List Tr) (hn2 : n ≤ 1000) (hp : RowT w g n ys 0) :
    Calls Tryz.prog 62 #[.slice (some ⟨g, 0, none⟩) n cap, .int .i64 1] w fun e w' => e = .returned (.int .i64 (1 + 4 * n : Nat)) ∧ RowT w' g n (mkT n) n ∧ Only g w w' := by
  have hgl := hp.lt
  go_enter Tryz.func62, Tryz.ntmps62
  go_wp2_with fail
  go_loopw [1, 5] (fun kk i wr => ∃ j : Nat, j ≤ n ∧ i = .int .i64 j ∧ kk = .int .i64 (1 + 4 * j : Nat) ∧ RowT wr g n (mkT n) j ∧ Only g w wr) (fun _ i _ => n - (intOf i).toNat)
  case atStart => exact ⟨0, Nat.zero_le _, rfl, by simp, hp.zero _, Only.refl _ _⟩
  case round =>
    obtain ⟨j, hj, rfl, rfl, hpj, hb⟩ := hrel
    by_cases hlt : j < n
    · obtain ⟨cs, h1, h2, h3⟩ := hpj
      have hfj := mkT_at n j hlt
      have hgr : g < wr.heap.size := Nat.lt_of_lt_of_le hgl hb.size
      obtain ⟨v0, c0⟩ := row_cell (o := j * 4) h1 (by omega)
      obtain ⟨v1, c1⟩ := row_cell (o := j * 4 + 1) h1 (by omega)
      have z0 : wr.frozen? ⟨g, j * 4, none⟩ = false := by simp [World.frozen?, h1]
      have z1 : wr.frozen? ⟨g, j * 4 + 1, none⟩ = false := by simp [World.frozen?, h1]
      have e2 := heap_setCell_same wr g (j * 4) _ _ (.int .i64 ((1 + 4 * j : Nat) : Int)) h1
      have e3 := heap_setCell_same _ g (j * 4 + 1) _ _ (.int .i64 ((1 + 4 * j + 1 : Nat) : Int)) e2
      have ho1 : Only g w ((wr.setCell ⟨g, j * 4, none⟩ (.int .i64 ((1 + 4 * j : Nat) : Int))).setCell ⟨g, j * 4 + 1, none⟩ (.int .i64 ((1 + 4 * j + 1 : Nat) : Int))) := (hb.trans (Only.set _ _ _)).trans (Only.set _ _ _)
      have hg2 : g < ((wr.setCell ⟨g, j * 4, none⟩ (.int .i64 ((1 + 4 * j : Nat) : Int))).setCell ⟨g, j * 4 + 1, none⟩ (.int .i64 ((1 + 4 * j + 1 : Nat) : Int))).heap.size := heap_lt e3
      have q0 : ((1 + 4 * j : Nat) : Int) = 1 + 4 * (j : Int) := by omega
      have q1 : ((1 + 4 * j + 1 : Nat) : Int) = 1 + 4 * (j : Int) + 1 := by omega
      rw [q0, q1] at e3 ho1 hg2 hfj
      clear e2 q0 q1
      go_wp2_with fail
      refine (markText_int _ (1 + 4 * j + 2) (by omega) (by omega) (by omega) _).mono ?_
      rintro e w2 ⟨rfl, hb2⟩
      have e5 := (hb2.block g hg2).trans e3
      have hg3 := heap_lt e5
      obtain ⟨v2, c2⟩ := row_cell (o := j * 4 + 2) e5 (by simp; omega)
      have z2 : w2.frozen? ⟨g, j * 4 + 2, none⟩ = false := by simp [World.frozen?, e5]
      have e6 := heap_setCell_same w2 g (j * 4 + 2) _ _ (.string (mt (1 + 4 * j + 2))) e5
      have ho2 : Only g w (w2.setCell ⟨g, j * 4 + 2, none⟩ (.string (mt (1 + 4 * j + 2)))) := (ho1.trans (Only.of hb2)).trans (Only.set _ _ _)
      have hg4 : g < (w2.setCell ⟨g, j * 4 + 2, none⟩ (.string (mt (1 + 4 * j + 2)))).heap.size := heap_lt e6
      clear e3 e5 ho1 hb2 c0 z0 c1 z1
      go_wp2_with fail
      refine (markText_int _ (1 + 4 * j + 3) (by omega) (by omega) (by omega) _).mono ?_
      rintro e w3 ⟨rfl, hb3⟩
      have e7 := (hb3.block g hg4).trans e6
      obtain ⟨v3, c3⟩ := row_cell (o := j * 4 + 3) e7 (by simp; omega)
      have z3 : w3.frozen? ⟨g, j * 4 + 3, none⟩ = false := by simp [World.frozen?, e7]
      have e8 := heap_setCell_same w3 g (j * 4 + 3) _ _ (.string (mt (1 + 4 * j + 3))) e7
      have hpart := rowT_step (f := ⟨1 + 4 * (j : Int), 1 + 4 * (j : Int) + 1, mt (1 + 4 * j + 2), mt (1 + 4 * j + 3)⟩) e8 h2 h3 (by omega) hfj
      have ho3 : Only g w (w3.setCell ⟨g, j * 4 + 3, none⟩ (.string (mt (1 + 4 * j + 3)))) := (ho2.trans (Only.of hb3)).trans (Only.set _ _ _)
      clear e6 e7 e8 h1 h2 h3 ho2 hb3 hfj c2 z2
      go_wp2_with fail
      exact ⟨⟨j + 1, by omega, by go_num, by go_num, hpart, ho3⟩, by simp [intOf]; omega⟩
    · obtain rfl : j = n := by omega
      go_wp2_with fail
      go_ret
      exact ⟨rfl, hpj, hb⟩

set_option maxRecDepth 100000 in
set_option maxHeartbeats 4000000 in
theorem heldRefs_row (a : Option Addr) (cap n : Nat) (w : World) (hn2 : n ≤ 1000) (hx : LieT w a (mkT n)) :
    Calls Tryz.prog 63 #[.slice a n cap, .int .i64 1] w fun e w' => e = .returned (.int .i64 (1 + 4 * n : Nat)) ∧ Below w.heap.size w w' := by
  go_enter Tryz.func63, Tryz.ntmps63
  go_wp2_with fail
  go_loopw [1, 5] (fun kk i wr => ∃ j : Nat, j ≤ n ∧ i = .int .i64 j ∧ kk = .int .i64 (1 + 4 * j : Nat) ∧ Below w.heap.size w wr) (fun _ i _ => n - (intOf i).toNat)
  case atStart => exact ⟨0, Nat.zero_le _, rfl, by simp, Below.refl _ _⟩
  case round =>
    obtain ⟨j, hj, rfl, rfl, hb⟩ := hrel
    by_cases hlt : j < n
    · obtain ⟨b, off, rfl, hbl, c0, c1, c2, c3⟩ := (hx.below hb).at (i := j) (by rw [mkT_length]; exact hlt)
      rw [mkT_at n j hlt] at c0 c1 c2 c3
      have hij : (j : Int) < (n : Int) := by omega
      simp only at c0 c1 c2 c3
      have q0 : ((1 + 4 * j : Nat) : Int) = 1 + 4 * (j : Int) := by omega
      have q1 : ((1 + 4 * j + 1 : Nat) : Int) = 1 + 4 * (j : Int) + 1 := by omega
      rw [q0] at c0
      rw [q1] at c1
      clear q0 q1
      go_wp2_with fail
      go_region_held3 (fun w' => w'.cell? ⟨b, off + j * 4 + 2, none⟩ = some (.string (mt (1 + 4 * j + 2)))) (simp [go_sem, *])
        (first | (go_at_call 26; refine (markText_int _ (1 + 4 * j + 2) (by omega) (by omega) (by omega) _).mono ?_; rintro e w1 ⟨rfl, hb1⟩; have x2 := (hb1.cell (p := ⟨b, _, none⟩) hbl).trans c2; have x3 := (hb1.cell (p := ⟨b, _, none⟩) hbl).trans c3; have hbw := hb.drew.trans (hb1.mono hb.drew.size); have hbl1 := Nat.lt_of_lt_of_le hbl hb1.size; clear hb1))
      clear c0 c1 c2 c3 hbl hb
      go_wp2_with fail
      go_region_held3 (fun w' => w'.cell? ⟨b, off + j * 4 + 3, none⟩ = some (.string (mt (1 + 4 * j + 3)))) (simp [go_sem, *])
        (first | (go_at_call 26; refine (markText_int _ (1 + 4 * j + 3) (by omega) (by omega) (by omega) _).mono ?_; rintro e w2 ⟨rfl, hb2⟩; have y3 := (hb2.cell (p := ⟨b, _, none⟩) hbl1).trans x3; have hbw2 := hbw.drew.trans (hb2.mono hbw.drew.size); clear hb2))
      go_wp2_with fail
      exact ⟨⟨j + 1, by omega, by go_num, by go_num, hbw2⟩, by simp [intOf]; omega⟩
    · obtain rfl : j = n := by omega
      go_wp2_with fail
      go_ret
      exact ⟨rfl, hb⟩

/-- The marks, as numbers. -/
def mkI (k0 n : Nat) : List Int := (List.range n).map fun i => ((k0 + i : Nat) : Int)
theorem mkI_length (k0 n : Nat) : (mkI k0 n).length = n := by simp [mkI]
theorem mkI_at (k0 n i : Nat) (h : i < n) : (mkI k0 n).getD i 0 = ((k0 + i : Nat) : Int) := by simp [mkI, List.getD, h]
theorem RowI.zero {w : World} {g n k : Nat} {xs : List Int} (h : RowI w g n xs k) (ys : List Int) : RowI w g n ys 0 := by
  obtain ⟨cs, h1, h2, _⟩ := h
  exact ⟨cs, h1, h2, fun i hi => absurd hi (Nat.not_lt_zero _)⟩
theorem RowI.step {w : World} {g n k : Nat} {ks : List Int} {x : Int} (h : RowI w g n ks k) (hk : k < n) (hx : ks.getD k 0 = x) : RowI (w.setCell ⟨g, k, none⟩ (.int .i64 x)) g n ks (k + 1) := by
  obtain ⟨cs, h1, h2, h3⟩ := h
  refine ⟨_, heap_setCell_same w g k cs _ (.int .i64 x) h1, by simpa using h2, fun i hi => ?_⟩
  by_cases hik : i = k
  · subst hik
    rw [hx]
    simp [Array.getElem?_setIfInBounds]; omega
  · rw [Array.getElem?_setIfInBounds_ne (by omega)]
    exact h3 i (by omega)

set_option maxRecDepth 100000 in
theorem markRefs_empty (a : Option Addr) (cap : Nat) (w : World) :
    Calls Tryz.prog 62 #[.slice a 0 cap, .int .i64 1] w fun e w' => e = .returned (.int .i64 1) ∧ w' = w := by
  go_enter Tryz.func62, Tryz.ntmps62
  go_wp2_with fail
  refine wp_loop_rounds 1 ?_
  rw [rounds_succ]
  go_wp2_with fail
  go_ret
  exact ⟨rfl, rfl⟩
/-- Every block is kept but those of one kind. -/
def KeepNot (t : TypeId) (w w' : World) : Prop := ∀ (k : Nat) (o : Obj), w.heap[k]? = some o → (∀ cs fz, o ≠ Obj.cells cs t fz) → w'.heap[k]? = some o
theorem ResI.keep {w w' : World} {base : Nat} {a : Option Addr} {ks : List Int} (h : ResI w base a ks) (hk : KeepNot 126 w w') : ResI w' base a ks := by
  rcases h with h | ⟨g, rfl, hg, cs, h1, h2, h3⟩
  · exact .inl h
  · exact .inr ⟨g, rfl, hg, cs, hk g _ h1 (fun cs fz h => by simp at h), h2, h3⟩
theorem ResT.keep {w w' : World} {base : Nat} {a : Option Addr} {xs : List Tr} (h : ResT w base a xs) (hk : KeepNot 3 w w') : ResT w' base a xs := by
  rcases h with h | ⟨g, rfl, hg, cs, h1, h2, h3⟩
  · exact .inl h
  · exact .inr ⟨g, rfl, hg, cs, hk g _ h1 (fun cs fz h => by simp at h), h2, h3⟩
theorem markRefs_any (a : Option Addr) (cap base : Nat) (xs : List Tr) (w : World) (hr : ResT w base a xs) (hn : xs.length ≤ 1000) (hbase : base ≤ w.heap.size) :
    Calls Tryz.prog 62 #[.slice a xs.length cap, .int .i64 1] w fun e w' => e = .returned (.int .i64 (1 + 4 * xs.length : Nat)) ∧ ResT w' base a (mkT xs.length) ∧ Below base w w' ∧ KeepNot 126 w w' := by
  rcases hr with rfl | ⟨g, rfl, hg, hrow⟩
  · refine (markRefs_empty a cap w).mono ?_
    rintro e w' ⟨rfl, rfl⟩
    exact ⟨rfl, .inl rfl, Below.refl _ _, fun k o h _ => h⟩
  · refine (markRefs_row g cap xs.length w xs hn (hrow.zero xs)).mono ?_
    rintro e w' ⟨rfl, hp, ho⟩
    refine ⟨rfl, .inr ⟨g, rfl, hg, by rw [mkT_length]; exact hp⟩, ho.below hg hbase, fun k o h hne => ?_⟩
    by_cases hk : k = g
    · subst hk
      obtain ⟨cs, h1, _⟩ := hrow
      rw [h1] at h
      cases h
      exact absurd rfl (hne _ _)
    · exact (ho.block k (heap_lt h) hk).trans h
end Go.Proofs.YtigpplcecbgmaaeGreatDoor
