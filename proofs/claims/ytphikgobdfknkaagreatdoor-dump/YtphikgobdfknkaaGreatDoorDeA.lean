import Derived.Test.YtphikgobdfknkaaGreatDoorDeZ
namespace Go.Proofs.YtphikgobdfknkaaGreatDoor
open Go.RowKit Go.Maps
set_option linter.unusedVariables false
set_option linter.unusedSimpArgs false



/-- One byte as a text. -/
def d1 (n : Int) : ByteArray := ByteArray.empty.push (UInt8.ofNat n.toNat)
theorem d1_size (n : Int) : (d1 n).size = 1 := by simp [d1]

theorem conv1 (w : World) (n : Int) : (convert 96 9 (.slice (some ⟨w.heap.size, 0, none⟩) 1 1)).run Tryz.prog (w.alloc (.cells #[.int .u8 n] 5)) = .ok (.string (d1 n)) (w.alloc (.cells #[.int .u8 n] 5)) := by
  rw [run_convert_bytes_string _ 96 9 5 _ 1 1 Tryz.underlying96 Tryz.underlying5 Tryz.underlying9, run_bytesToString _ _ 1 1 [n] (by simp [loadCells, go_sem])]
  rfl

/-- The digits of k ahead of out. -/
def md : Nat → Nat → ByteArray → ByteArray
  | 0, _, out => out
  | n + 1, k, out => if k = 0 then out else md n (k / 10) (d1 (48 + (k : Int) % 10) ++ out)
theorem md_zero (n : Nat) (out : ByteArray) : md n 0 out = out := by cases n <;> simp [md]
theorem md_more : ∀ (n k : Nat) (out : ByteArray), k ≤ n → md (n + 1) k out = md n k out := by
  intro n
  induction n with
  | zero => intro k out h; have : k = 0 := by omega
            subst this; rw [md_zero, md_zero]
  | succ n ih =>
    intro k out h
    show (if k = 0 then out else md (n + 1) (k / 10) (d1 (48 + (k : Int) % 10) ++ out)) = (if k = 0 then out else md n (k / 10) (d1 (48 + (k : Int) % 10) ++ out))
    by_cases hk : k = 0
    · simp [hk]
    · rw [if_neg hk, if_neg hk, ih _ _ (by omega)]
theorem md_stable (n k : Nat) (out : ByteArray) (h : k ≤ n) : md n k out = md k k out := by
  induction n with
  | zero => have : k = 0 := by omega
            subst this; rfl
  | succ n ih =>
    by_cases hk : k = n + 1
    · rw [hk]
    · rw [md_more n k out (by omega)]; exact ih (by omega)
theorem md_step {k : Nat} (hk : 0 < k) (out : ByteArray) : md (k / 10) (k / 10) (d1 (48 + (k : Int) % 10) ++ out) = md k k out := by
  obtain ⟨n, rfl⟩ : ∃ n, k = n + 1 := ⟨k - 1, by omega⟩
  show _ = (if n + 1 = 0 then out else md n ((n + 1) / 10) (d1 (48 + ((n + 1 : Nat) : Int) % 10) ++ out))
  rw [if_neg (by omega), md_stable n _ _ (by omega)]

/-- The text of a mark. -/
def mt (k : Nat) : ByteArray := ⟨#[109]⟩ ++ md k k ByteArray.empty

theorem row_cell {W : World} {g o : Nat} {cs : Array Value} {t : TypeId} (h : W.heap[g]? = some (.cells cs t (0, 0))) (ho : o < cs.size) : ∃ v, W.cell? ⟨g, o, none⟩ = some v := ⟨cs[o], by simp [World.cell?, h]⟩


/-- The marks, as references. -/
def mkT (n : Nat) : List Tr := (List.range n).map fun i => ⟨((1 + 4 * i : Nat) : Int), ((1 + 4 * i + 1 : Nat) : Int), mt (1 + 4 * i + 2), mt (1 + 4 * i + 3)⟩
theorem mkT_length (n : Nat) : (mkT n).length = n := by simp [mkT]
theorem mkT_at (n i : Nat) (h : i < n) : (mkT n).getD i tr0 = ⟨((1 + 4 * i : Nat) : Int), ((1 + 4 * i + 1 : Nat) : Int), mt (1 + 4 * i + 2), mt (1 + 4 * i + 3)⟩ := by simp [mkT, List.getD, h]

/-- The marks, as numbers. -/
def mkI (k0 n : Nat) : List Int := (List.range n).map fun i => ((k0 + i : Nat) : Int)
theorem mkI_length (k0 n : Nat) : (mkI k0 n).length = n := by simp [mkI]
theorem mkI_at (k0 n i : Nat) (h : i < n) : (mkI k0 n).getD i 0 = ((k0 + i : Nat) : Int) := by simp [mkI, List.getD, h]
theorem RowI.zero {w : World} {g n k : Nat} {xs : List Int} (h : RowI w g n xs k) (ys : List Int) : RowI w g n ys 0 := by
  obtain ⟨cs, h1, h2, _⟩ := h
  exact ⟨cs, h1, h2, fun i hi => absurd hi (Nat.not_lt_zero _)⟩
theorem RowI.step {w : World} {g n k : Nat} {ks : List Int} {x : Int} (h : RowI w g n ks k) (hk : k < n) (hx : ks.getD k 0 = x) : RowI (w.setCell ⟨g, k, none⟩ (.int .i64 x)) g n ks (k + 1) := by
  obtain ⟨cs, h1, h2, h3⟩ := h
  refine ⟨_, heap_setCell_same w g k cs _ (.int .i64 x) h1, by simpa using h2, fun i hi => ?_⟩
  by_cases hik : i = k
  · subst hik
    rw [hx]
    simp [Array.getElem?_setIfInBounds]; omega
  · rw [Array.getElem?_setIfInBounds_ne (by omega)]
    exact h3 i (by omega)

/-- Every block is kept but those of one kind. -/
def KeepNot (t : TypeId) (w w' : World) : Prop := ∀ (k : Nat) (o : Obj), w.heap[k]? = some o → (∀ cs fz, o ≠ Obj.cells cs t fz) → w'.heap[k]? = some o
theorem ResI.keep {w w' : World} {base : Nat} {a : Option Addr} {ks : List Int} (h : ResI w base a ks) (hk : KeepNot 45 w w') : ResI w' base a ks := by
  rcases h with h | ⟨g, rfl, hg, cs, h1, h2, h3⟩
  · exact .inl h
  · exact .inr ⟨g, rfl, hg, cs, hk g _ h1 (fun cs fz h => by simp at h), h2, h3⟩
theorem ResT.keep {w w' : World} {base : Nat} {a : Option Addr} {xs : List Tr} (h : ResT w base a xs) (hk : KeepNot 3 w w') : ResT w' base a xs := by
  rcases h with h | ⟨g, rfl, hg, cs, h1, h2, h3⟩
  · exact .inl h
  · exact .inr ⟨g, rfl, hg, cs, hk g _ h1 (fun cs fz h => by simp at h), h2, h3⟩
end Go.Proofs.YtphikgobdfknkaaGreatDoor
namespace Go.Proofs.YtphikgobdfknkaaGreatDoor
open Go.RowKit Go.Maps
set_option linter.unusedVariables false
set_option linter.unusedSimpArgs false

/-- The order of references. -/
def rBef (a b : Tr) : Bool := if a.lv ≠ b.lv then decide (a.lv < b.lv) else decide (a.nu < b.nu)
/-- A list with one reference more, ahead of the first that comes behind it. -/
def insT (t : Tr) : List Tr → List Tr
  | [] => [t]
  | x :: xs => if rBef t x = true then t :: x :: xs else x :: insT t xs
theorem insT_len (t : Tr) : ∀ xs, (insT t xs).length = xs.length + 1
  | [] => rfl
  | x :: xs => by
    unfold insT
    split
    · simp
    · simp [insT_len t xs]
def insAll (acc xs : List Tr) : List Tr := xs.foldl (fun acc t => insT t acc) acc
theorem insAll_snoc (acc xs : List Tr) (t : Tr) : insAll acc (xs ++ [t]) = insT t (insAll acc xs) := by simp [insAll]
theorem insAll_len (acc : List Tr) : ∀ xs, (insAll acc xs).length = acc.length + xs.length := by
  intro xs
  induction xs generalizing acc with
  | nil => simp [insAll]
  | cons x xs ih =>
    have h := ih (insT x acc)
    simp only [insAll, List.foldl_cons, insT_len, List.length_cons] at *
    omega
theorem insT_perm (t : Tr) : ∀ xs, (insT t xs).Perm (t :: xs)
  | [] => List.Perm.refl _
  | x :: xs => by
    unfold insT
    split
    · exact List.Perm.refl _
    · exact (List.Perm.cons x (insT_perm t xs)).trans (List.Perm.swap t x xs)
theorem insAll_perm : ∀ (xs acc : List Tr), (insAll acc xs).Perm (acc ++ xs)
  | [], acc => by simp [insAll]
  | x :: xs, acc => by
    have h := insAll_perm xs (insT x acc)
    refine (show insAll acc (x :: xs) = insAll (insT x acc) xs from rfl) ▸ h.trans ?_
    exact ((insT_perm x acc).append_right xs).trans (by simpa using (List.perm_middle (a := x) (l₁ := acc) (l₂ := xs)).symm)
/-- Two references that may stand in one version. -/
def apart2 (a b : Tr) : Bool := lessB a.hi b.lo || lessB b.hi a.lo
def good2 (a b : Tr) : Bool := decide (a.nu ≠ b.nu) && !(decide (a.lv = b.lv) && (decide (0 < a.lv) && !apart2 a b))
theorem good2_symm (a b : Tr) : good2 a b = good2 b a := by
  unfold good2 apart2
  have e1 : decide (a.nu ≠ b.nu) = decide (b.nu ≠ a.nu) := by
    by_cases h : a.nu = b.nu
    · simp [h]
    · have h' : b.nu ≠ a.nu := fun e => h e.symm
      simp [h, h']
  have e2 : decide (a.lv = b.lv) = decide (b.lv = a.lv) := by
    by_cases h : a.lv = b.lv
    · simp [h]
    · have h' : ¬ b.lv = a.lv := fun e => h e.symm
      simp [h, h']
  rw [e1, e2, Bool.or_comm (lessB a.hi b.lo)]
  by_cases h : b.lv = a.lv
  · rw [h]
  · simp [h]
/-- The first k references are below nx and go together. -/
def inTo (xs : List Tr) (x : Tr) : Nat → Bool
  | 0 => true
  | j + 1 => inTo xs x j && good2 x (xs.getD j tr0)
def pairTo (xs : List Tr) (nx : Int) : Nat → Bool
  | 0 => true
  | k + 1 => pairTo xs nx k && (decide ((xs.getD k tr0).nu < nx) && inTo xs (xs.getD k tr0) k)
theorem inTo_bad {xs : List Tr} {x : Tr} {j n : Nat} (hj : j < n) (h : inTo xs x (j + 1) = false) : inTo xs x n = false := by
  induction n with
  | zero => omega
  | succ n ih =>
    by_cases hn : j = n
    · subst hn; exact h
    · simp only [inTo]; rw [ih (by omega)]; rfl
theorem pairTo_bad {xs : List Tr} {nx : Int} {j n : Nat} (hj : j < n) (h : pairTo xs nx (j + 1) = false) : pairTo xs nx n = false := by
  induction n with
  | zero => omega
  | succ n ih =>
    by_cases hn : j = n
    · subst hn; exact h
    · simp only [pairTo]; rw [ih (by omega)]; rfl
/-- What stands of the tables, and whether every Del is that of one. -/
def leftT (ts : List Tr) (ds : List Int) : List Tr := ts.filter fun t => !ds.contains t.nu
def delsOk (ts : List Tr) (ds : List Int) : Bool := ds.all fun d => (ts.map Tr.nu).contains d
def apS (ts : List Tr) (e : Ed) : List Tr := insAll (insAll [] (leftT ts e.dl)) e.ad
/-- What ApplyEdit gives. -/
def apOk (ts : List Tr) (e : Ed) : Bool := edOk e && (decide (ts.length ≤ 1000) && (delsOk ts e.dl && (decide (e.lg < e.nx) && (decide ((apS ts e).length ≤ 1000) && pairTo (apS ts e) e.nx (apS ts e).length))))

set_option maxRecDepth 100000 in
set_option maxHeartbeats 400000 in
theorem refBefore_any (a b : Tr) (w : World) :
    Calls Tryz.prog 79 #[a.agg, b.agg] w fun e w' => e = .returned (.bool (rBef a b)) ∧ Below w.heap.size w w' := by
  obtain ⟨n1, l1, lo1, hi1⟩ := a
  obtain ⟨n2, l2, lo2, hi2⟩ := b
  have hbel : Below w.heap.size w ((w.alloc (.cells #[.int .i64 n1, .int .i64 l1, .string lo1, .string hi1] 45)).alloc (.cells #[.int .i64 n2, .int .i64 l2, .string lo2, .string hi2] 45)) := ((Below.refl _ _).alloc (Nat.le_refl _) _).alloc (by simp) _
  by_cases hl : l1 = l2
  · have hR : rBef ⟨n1, l1, lo1, hi1⟩ ⟨n2, l2, lo2, hi2⟩ = decide (n1 < n2) := by unfold rBef; simp [hl]
    rw [hR]
    subst hl
    go_enter Tryz.func79, Tryz.ntmps79
    go_wp2_with fail
    go_ret
    exact ⟨rfl, hbel⟩
  · have hR : rBef ⟨n1, l1, lo1, hi1⟩ ⟨n2, l2, lo2, hi2⟩ = decide (l1 < l2) := by unfold rBef; simp [hl]
    rw [hR]
    go_enter Tryz.func79, Tryz.ntmps79
    go_wp2_with fail
    go_ret
    exact ⟨rfl, hbel⟩
theorem contains_take {ks : List Int} {x : Int} {k : Nat} (hk : k < ks.length) (h : (ks.take k).contains x = false) : (ks.take (k + 1)).contains x = (ks.getD k 0 == x) := by
  rw [takeI_snoc ks k hk, List.contains_append, h]
  simp only [Bool.false_or, List.contains_cons, List.contains_nil, Bool.or_false]
  exact Bool.beq_comm
theorem contains_of_take {ks : List Int} {x : Int} {k : Nat} (h : (ks.take k).contains x = true) : ks.contains x = true := by
  rw [List.contains_iff_mem] at *
  exact List.mem_of_mem_take h

set_option maxRecDepth 100000 in
set_option maxHeartbeats 400000 in
theorem hasNum_any (a : Option Addr) (cap : Nat) (ks : List Int) (x : Int) (w : World) (hx : LieI w a ks) (hlen : ks.length ≤ 1048576) :
    Calls Tryz.prog 49 #[.slice a ks.length cap, .int .i64 x] w fun e w' => e = .returned (.bool (ks.contains x)) ∧ w' = w := by
  have HYes : Hid (∀ k, k < ks.length → ks.getD k 0 = x → ks.contains x = true) := fun k hk h => by
    rw [List.contains_iff_mem, ← h, show ks.getD k 0 = ks[k] by simp [List.getD, hk]]
    exact List.getElem_mem hk
  have HNo : Hid ((ks.take ks.length).contains x = false → ks.contains x = false) := fun h => by rwa [List.take_length] at h
  generalize ks.contains x = R at *
  go_enter Tryz.func49, Tryz.ntmps49
  go_wp2_with fail
  go_loop [5] (fun i => ∃ k : Nat, i = .int .i64 k ∧ k ≤ ks.length ∧ Hid ((ks.take k).contains x = false)) (fun i => ks.length - (intOf i).toNat)
  case atStart => exact ⟨0, rfl, Nat.zero_le _, rfl⟩
  case round =>
    obtain ⟨k, rfl, hk, HC⟩ := hrel
    by_cases hlt : k < ks.length
    · obtain ⟨b, off, rfl, hbl, c0⟩ := hx.at hlt
      have hik : (k : Int) < (ks.length : Int) := by omega
      have HCT := hd (contains_take (x := x) hlt HC.out)
      by_cases hq : ks.getD k 0 = x
      · have hR := HYes.out k hlt hq
        subst hR
        rw [hq] at c0
        clear HCT HC
        replace hq := hd hq
        go_wp2_with fail
        go_ret
        exact ⟨rfl, rfl⟩
      · have HC' : Hid ((ks.take (k + 1)).contains x = false) := by show _ = _; rw [HCT.out]; simpa using hq
        clear HCT HC
        generalize ks.getD k 0 = y at *
        go_wp2_with fail
        go_round
        case rel => exact ⟨k + 1, by simp, by omega, HC'⟩
        case measure => simp [intOf]; omega
    · obtain rfl : k = ks.length := by omega
      have hR := HNo.out HC.out
      subst hR
      go_wp2_with fail
      go_ret
      exact ⟨rfl, rfl⟩
end Go.Proofs.YtphikgobdfknkaaGreatDoor
