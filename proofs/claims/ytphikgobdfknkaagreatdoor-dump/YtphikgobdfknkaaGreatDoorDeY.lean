import Derived.Test.YtphikgobdfknkaaGreatDoorDeX
namespace Go.Proofs.YtphikgobdfknkaaGreatDoor
open Go.RowKit Go.Maps
set_option linter.unusedVariables false
set_option linter.unusedSimpArgs false

set_option maxRecDepth 100000 in
set_option maxHeartbeats 1000000 in
theorem piece_any (s : ByteArray) (A : Nat) (w : World) (hs : s.size ≤ 1048576) :
    Calls Tryz.prog 74 #[.string s, .int .i64 A] w fun e w' => e = .returned (match pc s A with | none => .tuple #[.string ⟨#[]⟩, .int .i64 0, .bool false] | some (t, B) => .tuple #[.string t, .int .i64 (B : Nat), .bool true]) ∧ Below w.heap.size w w' := by
  have HS : Hid (s.size ≤ maxLen) := by show _ ≤ _; unfold maxLen; omega
  cases hg : gv s (A : Int) with
  | none =>
    have HG : Hid (gvV (A : Int) (gv s (A : Int)) = .tuple #[.int .i64 0, .int .i64 0, .bool false]) := by show _ = _; rw [hg]; rfl
    have e : pc s A = none := by simp only [pc, hg]
    rw [e]
    clear hg e
    go_enter Tryz.func74, Tryz.ntmps74
    go_wp2_with fail
    refine (specGet_any s (A : Int) _ HS.out).mono ?_
    rintro e w1 ⟨rfl, hb1⟩
    rw [HG.out]
    go_wp2_with fail
    go_ret3
    exact ⟨rfl, hb1⟩
  | some q =>
    obtain ⟨n, c⟩ := q
    obtain ⟨-, h2, h3, -⟩ := gv_some hg
    have HG : Hid (gvV (A : Int) (gv s (A : Int)) = .tuple #[.int .i64 n, .int .i64 ((A : Int) + c), .bool true]) := by show _ = _; rw [hg]; rfl
    by_cases hn : n ≤ s.size - (A + c)
    · have e : pc s A = some (cut s (A + c) (A + c + n), A + c + n) := by simp only [pc, hg]; rw [if_pos hn]
      rw [e]
      clear hg e
      have b1 : (0 : Int) ≤ (A : Int) + c := by omega
      have b2 : (A : Int) + c ≤ (A : Int) + c + n := by omega
      have b3 : (A : Int) + c + n ≤ s.size := by omega
      have b4 : ¬ (s.size : Int) - ((A : Int) + c) < n := by omega
      go_enter Tryz.func74, Tryz.ntmps74
      go_wp2_with fail
      refine (specGet_any s (A : Int) _ HS.out).mono ?_
      rintro e w1 ⟨rfl, hb1⟩
      rw [HG.out]
      go_wp2_with fail
      go_ret3
      refine ⟨?_, hb1⟩
      show Ending.returned (.tuple #[.string (s.extract (A + c) (A + c + n)), .int .i64 ((A : Int) + c + n), .bool true]) = _
      rw [show (A : Int) + c + n = ((A + c + n : Nat) : Int) by omega]
      rfl
    · have e : pc s A = none := by simp only [pc, hg]; rw [if_neg hn]
      rw [e]
      clear hg e
      have b4 : (s.size : Int) - ((A : Int) + c) < n := by omega
      go_enter Tryz.func74, Tryz.ntmps74
      go_wp2_with fail
      refine (specGet_any s (A : Int) _ HS.out).mono ?_
      rintro e w1 ⟨rfl, hb1⟩
      rw [HG.out]
      go_wp2_with fail
      go_ret3
      exact ⟨rfl, hb1⟩

/-- The place of the model's reader, and what it reads. -/
def stV : Option Nat → Int
  | none => -1
  | some A => A
def nN (s : ByteArray) : Option Nat → Nat × Option Nat
  | none => (0, none)
  | some A => match gv s (A : Int) with
    | none => (0, none)
    | some (n, c) => (n, some (A + c))
def nK (s : ByteArray) : Option Nat → ByteArray × Option Nat
  | none => (⟨#[]⟩, none)
  | some A => match pc s A with
    | none => (⟨#[]⟩, none)
    | some (t, B) => (t, some B)
abbrev rdV (s : ByteArray) (st : Option Nat) : Value := .agg #[.string s, .int .i64 (stV st)]
theorem two_cells {w : World} {p : Nat} {t : TypeId} {x0 x1 : Value} (h : w.heap[p]? = some (.cells #[x0, x1] t (0, 0))) :
    w.cell? ⟨p, 0, none⟩ = some x0 ∧ w.cell? ⟨p, 1, none⟩ = some x1 ∧ w.frozen? ⟨p, 0, none⟩ = false ∧ w.frozen? ⟨p, 1, none⟩ = false := by
  refine ⟨?_, ?_, ?_, ?_⟩ <;> simp [World.cell?, World.frozen?, h]

set_option maxRecDepth 100000 in
set_option maxHeartbeats 1000000 in
theorem l4Number_bad (s : ByteArray) (w : World) (hs : s.size ≤ 1048576) :
    Calls Tryz.prog 45 #[.agg #[.string s, .int .i64 (-1)]] w fun r w' => r = .returned (.tuple #[.int .i64 0, .agg #[.string s, .int .i64 (-1)]]) ∧ Below w.heap.size w w' := by
  generalize hW0 : ((w.alloc (.cells #[.string s, .int .i64 (-1)] 110)).alloc (.cells #[.string ⟨#[]⟩, .int .i64 0] 110)) = W0
  have hI0 : W0.heap[w.heap.size]? = some (.cells #[.string s, .int .i64 (-1)] 110 (0, 0)) := by rw [← hW0, alloc_old (by simp)]; exact World.heap_alloc_new _ _
  have hR0 : W0.heap[w.heap.size + 1]? = some (.cells #[.string ⟨#[]⟩, .int .i64 0] 110 (0, 0)) := by rw [← hW0, ← size_alloc]; exact World.heap_alloc_new _ _
  have hb0 : Below w.heap.size w W0 := by rw [← hW0]; exact ((Below.refl _ _).alloc (Nat.le_refl _) _).alloc (by simp) _
  have hs0 : W0.heap.size = w.heap.size + 2 := by rw [← hW0, size_alloc, size_alloc]
  obtain ⟨c0, c1, -, -⟩ := two_cells hI0
  obtain ⟨d0, d1, z0, z1⟩ := two_cells hR0
  have HB := hd hb0
  have HI := hd hI0
  have HR := hd hR0
  clear hb0 hI0 hR0
  go_enter Tryz.func45, Tryz.ntmps45
  go_wp2_with fail
  go_region_held3 (fun w' => w'.cell? ⟨w.heap.size, 0, none⟩ = some (.string s) ∧ w'.cell? ⟨w.heap.size, 1, none⟩ = some (.int .i64 (-1))) (simp [go_sem, *]) (fail)
  all_goals go_wp2_with fail
  all_goals refine bodyPost_ret (v := .tuple #[.int .i64 0, .agg #[.string s, .int .i64 (-1)]]) (by simp [results, Tryz.results45, go_sem, *]) rfl ⟨rfl, ?_⟩
  all_goals first | exact below_set (by omega) (below_set (by omega) HB.out.drew) | exact (below_set (by omega) (below_set (by omega) HB.out)).drew

set_option maxRecDepth 100000 in
set_option maxHeartbeats 1000000 in
theorem l4Number_at (s : ByteArray) (A : Nat) (w : World) (hs : s.size ≤ 1048576) :
    Calls Tryz.prog 45 #[.agg #[.string s, .int .i64 (A : Int)]] w fun r w' => r = .returned (match gv s (A : Int) with | none => .tuple #[.int .i64 0, .agg #[.string s, .int .i64 (-1)]] | some (n, c) => .tuple #[.int .i64 n, .agg #[.string s, .int .i64 ((A : Int) + c)]]) ∧ Below w.heap.size w w' := by
  generalize hW0 : ((w.alloc (.cells #[.string s, .int .i64 (A : Int)] 110)).alloc (.cells #[.string ⟨#[]⟩, .int .i64 0] 110)) = W0
  have hI0 : W0.heap[w.heap.size]? = some (.cells #[.string s, .int .i64 (A : Int)] 110 (0, 0)) := by rw [← hW0, alloc_old (by simp)]; exact World.heap_alloc_new _ _
  have hR0 : W0.heap[w.heap.size + 1]? = some (.cells #[.string ⟨#[]⟩, .int .i64 0] 110 (0, 0)) := by rw [← hW0, ← size_alloc]; exact World.heap_alloc_new _ _
  have hb0 : Below w.heap.size w W0 := by rw [← hW0]; exact ((Below.refl _ _).alloc (Nat.le_refl _) _).alloc (by simp) _
  have hs0 : W0.heap.size = w.heap.size + 2 := by rw [← hW0, size_alloc, size_alloc]
  obtain ⟨c0, c1, -, -⟩ := two_cells hI0
  obtain ⟨d0, d1, z0, z1⟩ := two_cells hR0
  have HB := hd hb0
  have HI := hd hI0
  have HR := hd hR0
  clear hb0 hI0 hR0
  have HG := hd (fun (w : World) => specGet_any s (A : Int) w (by unfold maxLen; omega))
  have hA : ¬ (A : Int) < 0 := by omega
  cases hg : gv s (A : Int) with
  | none =>
    rw [hg] at HG
    simp only [gvV] at HG
    dsimp only
    go_enter Tryz.func45, Tryz.ntmps45
    go_wp2_with fail
    refine (HG.out _).mono ?_
    rintro r w1 ⟨rfl, hb1⟩
    have hs1 := hb1.size
    have HB1 := hd (HB.out.trans (hb1.mono HB.out.size))
    obtain ⟨c0', c1', -, -⟩ := two_cells ((hb1.block w.heap.size (by omega)).trans HI.out)
    obtain ⟨d0', d1', z0', z1'⟩ := two_cells ((hb1.block (w.heap.size + 1) (by omega)).trans HR.out)
    clear c0 c1 d0 d1 z0 z1 hb1
    go_wp2_with fail
    go_region_held3 (fun w' => w'.cell? ⟨w.heap.size, 0, none⟩ = some (.string s) ∧ w'.cell? ⟨w.heap.size, 1, none⟩ = some (.int .i64 (A : Int))) (simp [go_sem, *]) (fail)
    all_goals go_wp2_with fail
    all_goals refine bodyPost_ret (v := .tuple #[.int .i64 0, .agg #[.string s, .int .i64 (-1)]]) (by simp [results, Tryz.results45, go_sem, *]) rfl ⟨rfl, ?_⟩
    all_goals first | exact below_set (by omega) (below_set (by omega) HB1.out.drew) | exact (below_set (by omega) (below_set (by omega) HB1.out)).drew
  | some q =>
    obtain ⟨n, c⟩ := q
    rw [hg] at HG
    simp only [gvV] at HG
    dsimp only
    go_enter Tryz.func45, Tryz.ntmps45
    go_wp2_with fail
    refine (HG.out _).mono ?_
    rintro r w1 ⟨rfl, hb1⟩
    have hs1 := hb1.size
    have HB1 := hd (HB.out.trans (hb1.mono HB.out.size))
    obtain ⟨c0', c1', -, -⟩ := two_cells ((hb1.block w.heap.size (by omega)).trans HI.out)
    obtain ⟨d0', d1', z0', z1'⟩ := two_cells ((hb1.block (w.heap.size + 1) (by omega)).trans HR.out)
    clear c0 c1 d0 d1 z0 z1 hb1
    go_wp2_with fail
    go_region_held3 (fun w' => w'.cell? ⟨w.heap.size, 0, none⟩ = some (.string s) ∧ w'.cell? ⟨w.heap.size, 1, none⟩ = some (.int .i64 (A : Int))) (simp [go_sem, *]) (fail)
    all_goals go_wp2_with fail
    all_goals refine bodyPost_ret (v := .tuple #[.int .i64 n, .agg #[.string s, .int .i64 ((A : Int) + c)]]) (by simp [results, Tryz.results45, go_sem, *]) rfl ⟨rfl, ?_⟩
    all_goals first | exact below_set (by omega) (below_set (by omega) HB1.out.drew) | exact (below_set (by omega) (below_set (by omega) HB1.out)).drew

set_option maxRecDepth 100000 in
set_option maxHeartbeats 1000000 in
theorem l4Key_bad (s : ByteArray) (w : World) (hs : s.size ≤ 1048576) :
    Calls Tryz.prog 46 #[.agg #[.string s, .int .i64 (-1)]] w fun r w' => r = .returned (.tuple #[.string ⟨#[]⟩, .agg #[.string s, .int .i64 (-1)]]) ∧ Below w.heap.size w w' := by
  generalize hW0 : ((w.alloc (.cells #[.string s, .int .i64 (-1)] 110)).alloc (.cells #[.string ⟨#[]⟩, .int .i64 0] 110)) = W0
  have hI0 : W0.heap[w.heap.size]? = some (.cells #[.string s, .int .i64 (-1)] 110 (0, 0)) := by rw [← hW0, alloc_old (by simp)]; exact World.heap_alloc_new _ _
  have hR0 : W0.heap[w.heap.size + 1]? = some (.cells #[.string ⟨#[]⟩, .int .i64 0] 110 (0, 0)) := by rw [← hW0, ← size_alloc]; exact World.heap_alloc_new _ _
  have hb0 : Below w.heap.size w W0 := by rw [← hW0]; exact ((Below.refl _ _).alloc (Nat.le_refl _) _).alloc (by simp) _
  have hs0 : W0.heap.size = w.heap.size + 2 := by rw [← hW0, size_alloc, size_alloc]
  obtain ⟨c0, c1, -, -⟩ := two_cells hI0
  obtain ⟨d0, d1, z0, z1⟩ := two_cells hR0
  have HB := hd hb0
  have HI := hd hI0
  have HR := hd hR0
  clear hb0 hI0 hR0
  go_enter Tryz.func46, Tryz.ntmps46
  go_wp2_with fail
  go_region_held3 (fun w' => w'.cell? ⟨w.heap.size, 0, none⟩ = some (.string s) ∧ w'.cell? ⟨w.heap.size, 1, none⟩ = some (.int .i64 (-1))) (simp [go_sem, *]) (fail)
  all_goals go_wp2_with fail
  all_goals refine bodyPost_ret (v := .tuple #[.string ⟨#[]⟩, .agg #[.string s, .int .i64 (-1)]]) (by simp [results, Tryz.results46, go_sem, *]) rfl ⟨rfl, ?_⟩
  all_goals first | exact below_set (by omega) (below_set (by omega) HB.out.drew) | exact (below_set (by omega) (below_set (by omega) HB.out)).drew

set_option maxRecDepth 100000 in
set_option maxHeartbeats 1000000 in
theorem l4Key_at (s : ByteArray) (A : Nat) (w : World) (hs : s.size ≤ 1048576) :
    Calls Tryz.prog 46 #[.agg #[.string s, .int .i64 (A : Int)]] w fun r w' => r = .returned (match pc s A with | none => .tuple #[.string ⟨#[]⟩, .agg #[.string s, .int .i64 (-1)]] | some (n, c) => .tuple #[.string n, .agg #[.string s, .int .i64 (c : Nat)]]) ∧ Below w.heap.size w w' := by
  generalize hW0 : ((w.alloc (.cells #[.string s, .int .i64 (A : Int)] 110)).alloc (.cells #[.string ⟨#[]⟩, .int .i64 0] 110)) = W0
  have hI0 : W0.heap[w.heap.size]? = some (.cells #[.string s, .int .i64 (A : Int)] 110 (0, 0)) := by rw [← hW0, alloc_old (by simp)]; exact World.heap_alloc_new _ _
  have hR0 : W0.heap[w.heap.size + 1]? = some (.cells #[.string ⟨#[]⟩, .int .i64 0] 110 (0, 0)) := by rw [← hW0, ← size_alloc]; exact World.heap_alloc_new _ _
  have hb0 : Below w.heap.size w W0 := by rw [← hW0]; exact ((Below.refl _ _).alloc (Nat.le_refl _) _).alloc (by simp) _
  have hs0 : W0.heap.size = w.heap.size + 2 := by rw [← hW0, size_alloc, size_alloc]
  obtain ⟨c0, c1, -, -⟩ := two_cells hI0
  obtain ⟨d0, d1, z0, z1⟩ := two_cells hR0
  have HB := hd hb0
  have HI := hd hI0
  have HR := hd hR0
  clear hb0 hI0 hR0
  have HG := hd (fun (w : World) => piece_any s A w hs)
  have hA : ¬ (A : Int) < 0 := by omega
  cases hg : pc s A with
  | none =>
    rw [hg] at HG
    dsimp only at HG
    dsimp only
    go_enter Tryz.func46, Tryz.ntmps46
    go_wp2_with fail
    refine (HG.out _).mono ?_
    rintro r w1 ⟨rfl, hb1⟩
    have hs1 := hb1.size
    have HB1 := hd (HB.out.trans (hb1.mono HB.out.size))
    obtain ⟨c0', c1', -, -⟩ := two_cells ((hb1.block w.heap.size (by omega)).trans HI.out)
    obtain ⟨d0', d1', z0', z1'⟩ := two_cells ((hb1.block (w.heap.size + 1) (by omega)).trans HR.out)
    clear c0 c1 d0 d1 z0 z1 hb1
    go_wp2_with fail
    go_region_held3 (fun w' => w'.cell? ⟨w.heap.size, 0, none⟩ = some (.string s) ∧ w'.cell? ⟨w.heap.size, 1, none⟩ = some (.int .i64 (A : Int))) (simp [go_sem, *]) (fail)
    all_goals go_wp2_with fail
    all_goals refine bodyPost_ret (v := .tuple #[.string ⟨#[]⟩, .agg #[.string s, .int .i64 (-1)]]) (by simp [results, Tryz.results46, go_sem, *]) rfl ⟨rfl, ?_⟩
    all_goals first | exact below_set (by omega) (below_set (by omega) HB1.out.drew) | exact (below_set (by omega) (below_set (by omega) HB1.out)).drew
  | some q =>
    obtain ⟨n, c⟩ := q
    rw [hg] at HG
    dsimp only at HG
    dsimp only
    go_enter Tryz.func46, Tryz.ntmps46
    go_wp2_with fail
    refine (HG.out _).mono ?_
    rintro r w1 ⟨rfl, hb1⟩
    have hs1 := hb1.size
    have HB1 := hd (HB.out.trans (hb1.mono HB.out.size))
    obtain ⟨c0', c1', -, -⟩ := two_cells ((hb1.block w.heap.size (by omega)).trans HI.out)
    obtain ⟨d0', d1', z0', z1'⟩ := two_cells ((hb1.block (w.heap.size + 1) (by omega)).trans HR.out)
    clear c0 c1 d0 d1 z0 z1 hb1
    go_wp2_with fail
    go_region_held3 (fun w' => w'.cell? ⟨w.heap.size, 0, none⟩ = some (.string s) ∧ w'.cell? ⟨w.heap.size, 1, none⟩ = some (.int .i64 (A : Int))) (simp [go_sem, *]) (fail)
    all_goals go_wp2_with fail
    all_goals refine bodyPost_ret (v := .tuple #[.string n, .agg #[.string s, .int .i64 (c : Nat)]]) (by simp [results, Tryz.results46, go_sem, *]) rfl ⟨rfl, ?_⟩
    all_goals first | exact below_set (by omega) (below_set (by omega) HB1.out.drew) | exact (below_set (by omega) (below_set (by omega) HB1.out)).drew

theorem l4Number_any (s : ByteArray) (st : Option Nat) (w : World) (hs : s.size ≤ 1048576) :
    Calls Tryz.prog 45 #[rdV s st] w fun r w' => r = .returned (.tuple #[.int .i64 (nN s st).1, rdV s (nN s st).2]) ∧ Below w.heap.size w w' := by
  cases st with
  | none => exact l4Number_bad s w hs
  | some A =>
    refine (l4Number_at s A w hs).mono ?_
    rintro r w' ⟨rfl, hb⟩
    refine ⟨?_, hb⟩
    cases hg : gv s (A : Int) with
    | none => simp only [nN, hg, rdV, stV]; rfl
    | some q => simp only [nN, hg, rdV, stV]; rfl
theorem l4Key_any (s : ByteArray) (st : Option Nat) (w : World) (hs : s.size ≤ 1048576) :
    Calls Tryz.prog 46 #[rdV s st] w fun r w' => r = .returned (.tuple #[.string (nK s st).1, rdV s (nK s st).2]) ∧ Below w.heap.size w w' := by
  cases st with
  | none => exact l4Key_bad s w hs
  | some A =>
    refine (l4Key_at s A w hs).mono ?_
    rintro r w' ⟨rfl, hb⟩
    refine ⟨?_, hb⟩
    cases hg : pc s A with
    | none => simp only [nK, hg, rdV, stV]
    | some q => simp only [nK, hg, rdV, stV]
end Go.Proofs.YtphikgobdfknkaaGreatDoor
namespace Go.Proofs.YtphikgobdfknkaaGreatDoor
open Go.RowKit Go.Maps
set_option linter.unusedVariables false
set_option linter.unusedSimpArgs false

/-- Only block p has changed. -/
structure Only (p : Nat) (w w' : World) : Prop where
  os : w'.os = w.os
  tape : w'.tape = w.tape
  output : w'.output = w.output
  size : w.heap.size ≤ w'.heap.size
  block : ∀ k, k < w.heap.size → k ≠ p → w'.heap[k]? = w.heap[k]?
theorem Only.refl (p : Nat) (w : World) : Only p w w := ⟨rfl, rfl, rfl, Nat.le_refl _, fun _ _ _ => rfl⟩
theorem Only.trans {p : Nat} {a b c : World} (h : Only p a b) (k : Only p b c) : Only p a c :=
  ⟨k.os.trans h.os, k.tape.trans h.tape, k.output.trans h.output, Nat.le_trans h.size k.size, fun i hi hn => (k.block i (Nat.lt_of_lt_of_le hi h.size) hn).trans (h.block i hi hn)⟩
theorem Only.of {p : Nat} {w w' : World} (h : Below w.heap.size w w') : Only p w w' := ⟨h.os, h.tape, h.output, h.size, fun k hk _ => h.block k hk⟩
theorem Only.set {p : Nat} (w : World) (o : Nat) (v : Value) : Only p w (w.setCell ⟨p, o, none⟩ v) :=
  ⟨rfl, rfl, rfl, by simp [World.setCell], fun k _ hn => Below.heap_setCell _ _ _ _ (by simpa using hn)⟩
theorem Only.below {p B : Nat} {w w' : World} (h : Only p w w') (hp : B ≤ p) (hB : B ≤ w.heap.size) : Below B w w' :=
  ⟨h.os, h.tape, h.output, h.size, fun k hk => h.block k (by omega) (by omega)⟩

/-- A reader at block p: its text, its place, whether it has met a fault. -/
def Rd (w : World) (p : Nat) (s : ByteArray) (A : Nat) (fl : Bool) : Prop := w.heap[p]? = some (.cells #[.string s, .int .i64 A, .bool fl] 158 (0, 0))
theorem Rd.cells {w : World} {p : Nat} {s : ByteArray} {A : Nat} {fl : Bool} (h : Rd w p s A fl) :
    w.cell? ⟨p, 0, none⟩ = some (.string s) ∧ w.cell? ⟨p, 1, none⟩ = some (.int .i64 A) ∧ w.cell? ⟨p, 2, none⟩ = some (.bool fl) ∧ w.frozen? ⟨p, 1, none⟩ = false ∧ w.frozen? ⟨p, 2, none⟩ = false ∧ p < w.heap.size := by
  unfold Rd at h
  refine ⟨?_, ?_, ?_, ?_, ?_, ?_⟩
  · simp [World.cell?, h]
  · simp [World.cell?, h]
  · simp [World.cell?, h]
  · simp [World.frozen?, h]
  · simp [World.frozen?, h]
  · by_cases hlt : p < w.heap.size
    · exact hlt
    · rw [Array.getElem?_eq_none (by omega)] at h; cases h
theorem Rd.below {w w' : World} {p : Nat} {s : ByteArray} {A : Nat} {fl : Bool} (h : Rd w p s A fl) (hb : Below w.heap.size w w') : Rd w' p s A fl := (hb.block p h.cells.2.2.2.2.2).trans h
theorem Rd.move {w : World} {p : Nat} {s : ByteArray} {A B : Nat} {fl : Bool} (h : Rd w p s A fl) : Rd (w.setCell ⟨p, 1, none⟩ (.int .i64 B)) p s B fl := by
  unfold Rd at *
  rw [heap_setCell_same _ _ _ _ _ _ h]
  simp
theorem Rd.fault {w : World} {p : Nat} {s : ByteArray} {A : Nat} {fl : Bool} (h : Rd w p s A fl) : Rd (w.setCell ⟨p, 2, none⟩ (.bool true)) p s A true := by
  unfold Rd at *
  rw [heap_setCell_same _ _ _ _ _ _ h]
  simp

/-- Reading a number: the number, the place, whether there was a fault. -/
def rdN (s : ByteArray) (A : Nat) (fl : Bool) : Nat × Nat × Bool := match gv s (A : Int) with
  | none => (0, A, true)
  | some (n, c) => (n, A + c, fl)
/-- Taking n bytes. -/
def rdT (s : ByteArray) (n A : Nat) (fl : Bool) : ByteArray × Nat × Bool := if n ≤ s.size - A then (cut s A (A + n), A + n, fl) else (⟨#[]⟩, A, true)

set_option maxRecDepth 100000 in
set_option maxHeartbeats 1000000 in
theorem number_any (p A : Nat) (s : ByteArray) (fl : Bool) (w : World) (h : Rd w p s A fl) (hs : s.size ≤ 1048576) :
    Calls Tryz.prog 112 #[.pointer (some ⟨p, 0, none⟩)] w fun e w' => e = .returned (.int .i64 (rdN s A fl).1) ∧ Rd w' p s (rdN s A fl).2.1 (rdN s A fl).2.2 ∧ Only p w w' := by
  obtain ⟨c0, c1, c2, z1, z2, hlt⟩ := h.cells
  have HS : Hid (s.size ≤ maxLen) := by show _ ≤ _; unfold maxLen; omega
  cases hg : gv s (A : Int) with
  | none =>
    have HG : Hid (gvV (A : Int) (gv s (A : Int)) = .tuple #[.int .i64 0, .int .i64 0, .bool false]) := by show _ = _; rw [hg]; rfl
    have e : rdN s A fl = (0, A, true) := by simp only [rdN, hg]
    rw [e]
    go_enter Tryz.func112, Tryz.ntmps112
    go_wp2_with fail
    go_region_held3 (fun w' => w'.cell? ⟨p, 0, none⟩ = some (.string s) ∧ w'.cell? ⟨p, 1, none⟩ = some (.int .i64 (A : Int))) (simp [go_sem, *])
      (first | (go_at_call 135; refine (implGet_any s (A : Int) _ HS.out).mono ?_; rintro e w1 ⟨rfl, hb1⟩; rw [HG.out]; have k0 := (hb1.cell (p := ⟨p, 0, none⟩) hlt).trans c0; have k1 := (hb1.cell (p := ⟨p, 1, none⟩) hlt).trans c1; have k2 := (hb1.cell (p := ⟨p, 2, none⟩) hlt).trans c2; have y2 := (hb1.frozen (p := ⟨p, 2, none⟩) hlt).trans z2; have HB1 : Hid (Below w.heap.size w w1) := (Below.refl _ w).drew.trans hb1; have HR1 : Hid (Rd w1 p s A fl) := (h.below (Below.refl _ w).drew).below hb1))
    all_goals go_wp2_with fail
    all_goals go_ret
    all_goals exact ⟨rfl, HR1.out.fault, (Only.of HB1.out).trans (Only.set _ _ _)⟩
  | some q =>
    obtain ⟨n, c⟩ := q
    have HG : Hid (gvV (A : Int) (gv s (A : Int)) = .tuple #[.int .i64 n, .int .i64 ((A : Int) + c), .bool true]) := by show _ = _; rw [hg]; rfl
    have e : rdN s A fl = (n, A + c, fl) := by simp only [rdN, hg]
    rw [e]
    go_enter Tryz.func112, Tryz.ntmps112
    go_wp2_with fail
    go_region_held3 (fun w' => w'.cell? ⟨p, 0, none⟩ = some (.string s) ∧ w'.cell? ⟨p, 1, none⟩ = some (.int .i64 (A : Int))) (simp [go_sem, *])
      (first | (go_at_call 135; refine (implGet_any s (A : Int) _ HS.out).mono ?_; rintro e w1 ⟨rfl, hb1⟩; rw [HG.out]; have k0 := (hb1.cell (p := ⟨p, 0, none⟩) hlt).trans c0; have k1 := (hb1.cell (p := ⟨p, 1, none⟩) hlt).trans c1; have y1 := (hb1.frozen (p := ⟨p, 1, none⟩) hlt).trans z1; have HB1 : Hid (Below w.heap.size w w1) := (Below.refl _ w).drew.trans hb1; have HR1 : Hid (Rd w1 p s A fl) := (h.below (Below.refl _ w).drew).below hb1))
    all_goals go_wp2_with fail
    all_goals go_ret
    all_goals exact ⟨rfl, HR1.out.move (B := A + c), (Only.of HB1.out).trans (Only.set _ _ _)⟩

set_option maxRecDepth 100000 in
set_option maxHeartbeats 1000000 in
theorem take_any (p A n : Nat) (s : ByteArray) (fl : Bool) (w : World) (h : Rd w p s A fl) (hs : s.size ≤ 1048576) (hA : A ≤ s.size) (hn : n ≤ 72057594037927935) :
    Calls Tryz.prog 160 #[.pointer (some ⟨p, 0, none⟩), .int .i64 n] w fun e w' => e = .returned (.string (rdT s n A fl).1) ∧ Rd w' p s (rdT s n A fl).2.1 (rdT s n A fl).2.2 ∧ Only p w w' := by
  obtain ⟨c0, c1, c2, z1, z2, hlt⟩ := h.cells
  have hwr : IntKind.i64.wrap ((s.size : Int) - A) = (s.size : Int) - A := by rw [IntKind.wrap_i64]; omega
  by_cases hle : n ≤ s.size - A
  · have e : rdT s n A fl = (cut s A (A + n), A + n, fl) := by simp only [rdT, if_pos hle]
    rw [e]
    have h1 : ¬ (s.size : Int) - A < n := by omega
    go_enter Tryz.func160, Tryz.ntmps160
    go_wp2_with fail
    go_quiet (fail)
    go_wp2_with fail
    have hR2 : Rd ((w.drewN nq).setCell ⟨p, 1, none⟩ (.int .i64 ((A : Int) + n))) p s (A + n) fl := by
      have := Rd.move (w := w.drewN nq) (B := A + n) h
      rw [Int.natCast_add] at this
      exact this
    have hO2 : Only p w ((w.drewN nq).setCell ⟨p, 1, none⟩ (.int .i64 ((A : Int) + n))) := (⟨rfl, rfl, rfl, Nat.le_refl _, fun _ _ _ => rfl⟩ : Only p w (w.drewN nq)).trans (Only.set _ _ _)
    generalize (w.drewN nq).setCell ⟨p, 1, none⟩ (.int .i64 ((A : Int) + n)) = w2 at *
    obtain ⟨d0, d1, -, -, -, -⟩ := hR2.cells
    rw [Int.natCast_add] at d1
    have hw1 : IntKind.i64.wrap ((A : Int) + n - n) = (A : Int) := by rw [IntKind.wrap_i64]; omega
    have hw2 : IntKind.i64.wrap (A : Int) = (A : Int) := by rw [IntKind.wrap_i64]; omega
    have b1 : (0 : Int) ≤ A := by omega
    have b2 : (A : Int) ≤ (A : Int) + n := by omega
    have b3 : (A : Int) + n ≤ s.size := by omega
    clear c0 c1 c2 z1 z2
    go_quiet (fail)
    go_wp2_with fail
    go_ret
    exact ⟨rfl, hR2, hO2.trans ⟨rfl, rfl, rfl, Nat.le_refl _, fun _ _ _ => rfl⟩⟩
  · have e : rdT s n A fl = (⟨#[]⟩, A, true) := by simp only [rdT, if_neg hle]
    rw [e]
    have h1 : (s.size : Int) - A < n := by omega
    go_enter Tryz.func160, Tryz.ntmps160
    go_wp2_with fail
    go_quiet (fail)
    go_wp2_with fail
    go_ret
    exact ⟨rfl, Rd.fault (w := w.drewN nq) h, (⟨rfl, rfl, rfl, Nat.le_refl _, fun _ _ _ => rfl⟩ : Only p w (w.drewN nq)).trans (Only.set _ _ _)⟩

/-- A text with its size ahead. -/
def rdS (s : ByteArray) (A : Nat) (fl : Bool) : ByteArray × Nat × Bool := rdT s (rdN s A fl).1 (rdN s A fl).2.1 (rdN s A fl).2.2
theorem rdN_le {s : ByteArray} {A : Nat} (fl : Bool) (hA : A ≤ s.size) : (rdN s A fl).2.1 ≤ s.size ∧ (rdN s A fl).1 ≤ 72057594037927935 := by
  unfold rdN
  split
  · exact ⟨hA, by simp⟩
  · rename_i n c hg
    obtain ⟨-, h2, h3, -⟩ := gv_some hg
    exact ⟨h2, h3⟩
theorem rdT_le {s : ByteArray} {A : Nat} (n : Nat) (fl : Bool) (hA : A ≤ s.size) : (rdT s n A fl).2.1 ≤ s.size ∧ (rdT s n A fl).1.size ≤ s.size := by
  unfold rdT
  split
  · dsimp only; rw [cut_size s A n (by omega)]; omega
  · exact ⟨hA, Nat.zero_le _⟩
theorem rdS_le {s : ByteArray} {A : Nat} (fl : Bool) (hA : A ≤ s.size) : (rdS s A fl).2.1 ≤ s.size ∧ (rdS s A fl).1.size ≤ s.size := rdT_le _ _ (rdN_le fl hA).1
theorem rdN_fl (s : ByteArray) (A : Nat) : (rdN s A true).2.2 = true := by unfold rdN; split <;> rfl
theorem rdT_fl (s : ByteArray) (n A : Nat) : (rdT s n A true).2.2 = true := by unfold rdT; split <;> rfl
theorem rdS_fl (s : ByteArray) (A : Nat) : (rdS s A true).2.2 = true := by unfold rdS; rw [rdN_fl]; exact rdT_fl _ _ _
theorem rdS_pc (s : ByteArray) (A : Nat) : (∃ t B, pc s A = some (t, B) ∧ rdS s A false = (t, B, false)) ∨ (pc s A = none ∧ (rdS s A false).2.2 = true) := by
  unfold pc rdS rdN
  cases hg : gv s (A : Int) with
  | none => exact .inr ⟨rfl, rdT_fl _ _ _⟩
  | some q =>
    obtain ⟨n, c⟩ := q
    dsimp only
    unfold rdT
    by_cases h : n ≤ s.size - (A + c)
    · rw [if_pos h, if_pos h]; exact .inl ⟨_, _, rfl, rfl⟩
    · rw [if_neg h, if_neg h]; exact .inr ⟨rfl, rfl⟩
theorem rdN_gv (s : ByteArray) (A : Nat) : (∃ n c, gv s (A : Int) = some (n, c) ∧ rdN s A false = (n, A + c, false)) ∨ (gv s (A : Int) = none ∧ (rdN s A false).2.2 = true) := by
  unfold rdN
  cases hg : gv s (A : Int) with
  | none => exact .inr ⟨rfl, rfl⟩
  | some q => exact .inl ⟨q.1, q.2, rfl, rfl⟩
set_option maxRecDepth 100000 in
set_option maxHeartbeats 1000000 in
theorem sized_any (p A : Nat) (s : ByteArray) (fl : Bool) (w : World) (h : Rd w p s A fl) (hs : s.size ≤ 1048576) (hA : A ≤ s.size) :
    Calls Tryz.prog 134 #[.pointer (some ⟨p, 0, none⟩)] w fun e w' => e = .returned (.string (rdS s A fl).1) ∧ Rd w' p s (rdS s A fl).2.1 (rdS s A fl).2.2 ∧ Only p w w' := by
  obtain ⟨l1, l2⟩ := rdN_le fl hA
  go_enter Tryz.func134, Tryz.ntmps134
  go_wp2_with fail
  refine (number_any p A s fl _ h hs).mono ?_
  rintro e w1 ⟨rfl, h1, ho1⟩
  go_wp2_with fail
  refine (take_any p _ _ s _ _ h1 hs l1 l2).mono ?_
  rintro e w2 ⟨rfl, h2, ho2⟩
  go_wp2_with fail
  go_ret
  exact ⟨rfl, h2, ho1.trans ho2⟩

set_option maxRecDepth 100000 in
set_option maxHeartbeats 1000000 in
theorem done_any (p A : Nat) (s : ByteArray) (fl : Bool) (w : World) (h : Rd w p s A fl) (hs : s.size ≤ 1048576) :
    Calls Tryz.prog 89 #[.pointer (some ⟨p, 0, none⟩)] w fun e w' => e = .returned (.bool (!fl && decide (A = s.size))) ∧ Below w.heap.size w w' := by
  obtain ⟨c0, c1, c2, z1, z2, hlt⟩ := h.cells
  cases fl with
  | true =>
    go_enter Tryz.func89, Tryz.ntmps89
    go_wp2_with fail
    go_quiet (fail)
    go_wp2_with fail
    go_ret
    exact ⟨rfl, ⟨rfl, rfl, rfl, Nat.le_refl _, fun _ _ => rfl⟩⟩
  | false =>
    go_enter Tryz.func89, Tryz.ntmps89
    go_wp2_with fail
    go_quiet (fail)
    go_wp2_with fail
    go_ret
    refine ⟨?_, ⟨rfl, rfl, rfl, Nat.le_refl _, fun _ _ => rfl⟩⟩
    show Ending.returned (.bool ((A : Int) == s.size)) = _
    refine ret_bool (Bool.eq_iff_iff.2 ?_)
    simp only [beq_iff_eq, Bool.not_false, Bool.true_and, decide_eq_true_eq]
    omega



/-- Reading a count of at most M. -/
def rdC (s : ByteArray) (M A : Nat) (fl : Bool) : Nat × Nat × Bool := if M < (rdN s A fl).1 then (0, (rdN s A fl).2.1, true) else rdN s A fl

set_option maxRecDepth 100000 in
set_option maxHeartbeats 1000000 in
theorem count_any (p A M : Nat) (s : ByteArray) (fl : Bool) (w : World) (h : Rd w p s A fl) (hs : s.size ≤ 1048576) (hA : A ≤ s.size) (hM : M ≤ 1000) :
    Calls Tryz.prog 110 #[.pointer (some ⟨p, 0, none⟩), .int .i64 M] w fun e w' => e = .returned (.int .i64 (rdC s M A fl).1) ∧ Rd w' p s (rdC s M A fl).2.1 (rdC s M A fl).2.2 ∧ Only p w w' := by
  have hle := (rdN_le fl hA).2
  have HN := hd (fun (w : World) (h : Rd w p s A fl) => number_any p A s fl w h hs)
  unfold rdC
  generalize rdN s A fl = r at *
  obtain ⟨n, A1, f1⟩ := r
  dsimp only at *
  by_cases hlt : M < n
  · rw [if_pos hlt]
    have h' : (M : Int) < n := by omega
    go_enter Tryz.func110, Tryz.ntmps110
    go_wp2_with fail
    refine (HN.out _ h).mono ?_
    rintro e w1 ⟨rfl, h1, ho1⟩
    obtain ⟨c0, c1, c2, z1, z2, hlt1⟩ := h1.cells
    go_wp2_with fail
    go_ret
    exact ⟨rfl, h1.fault, ho1.trans (Only.set _ _ _)⟩
  · rw [if_neg hlt]
    have h' : ¬ (M : Int) < n := by omega
    go_enter Tryz.func110, Tryz.ntmps110
    go_wp2_with fail
    refine (HN.out _ h).mono ?_
    rintro e w1 ⟨rfl, h1, ho1⟩
    go_wp2_with fail
    go_ret
    exact ⟨rfl, h1, ho1⟩
theorem rdC_le {s : ByteArray} {M A : Nat} (fl : Bool) (hA : A ≤ s.size) : (rdC s M A fl).2.1 ≤ s.size ∧ (rdC s M A fl).1 ≤ M := by
  have h := rdN_le (s := s) fl hA
  unfold rdC
  split
  · exact ⟨h.1, Nat.zero_le _⟩
  · exact ⟨h.1, by omega⟩
theorem rdC_gv (s : ByteArray) (M A : Nat) : (∃ n c, gv s (A : Int) = some (n, c) ∧ n ≤ M ∧ rdC s M A false = (n, A + c, false)) ∨ ((∀ n c, gv s (A : Int) = some (n, c) → M < n) ∧ (rdC s M A false).2.2 = true) := by
  rcases rdN_gv s A with ⟨n, c, hg, hr⟩ | ⟨hg, hr⟩
  · unfold rdC
    rw [hr]
    by_cases h : M < n
    · rw [if_pos h]
      refine .inr ⟨fun n' c' h' => ?_, rfl⟩
      rw [hg] at h'
      cases h'
      exact h
    · rw [if_neg h]
      exact .inl ⟨n, c, hg, by omega, rfl⟩
  · unfold rdC
    refine .inr ⟨fun n' c' h' => ?_, ?_⟩
    · rw [hg] at h'; cases h'
    · split
      · rfl
      · exact hr
end Go.Proofs.YtphikgobdfknkaaGreatDoor
