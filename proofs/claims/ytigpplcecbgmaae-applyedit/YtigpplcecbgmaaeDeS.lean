
import Derived.Test.YtigpplcecbgmaaeDeM
import Derived.Test.YtigpplcecbgmaaeEdH
namespace Go.Proofs.Ytigpplcecbgmaae
open Go.RowKit Go.Maps
set_option linter.unusedVariables false
set_option linter.unusedSimpArgs false

set_option maxRecDepth 100000 in
set_option maxHeartbeats 1000000 in
theorem piece_any (s : ByteArray) (A : Nat) (w : World) (hs : s.size ≤ 1048576) :
    Calls Try.prog 46 #[.string s, .int .i64 A] w fun e w' => e = .returned (match pc s A with | none => .tuple #[.string ⟨#[]⟩, .int .i64 0, .bool false] | some (t, B) => .tuple #[.string t, .int .i64 (B : Nat), .bool true]) ∧ Below w.heap.size w w' := by
  have HS : Hid (s.size ≤ maxLen) := by show _ ≤ _; unfold maxLen; omega
  cases hg : gv s (A : Int) with
  | none =>
    have HG : Hid (gvV (A : Int) (gv s (A : Int)) = .tuple #[.int .i64 0, .int .i64 0, .bool false]) := by show _ = _; rw [hg]; rfl
    have e : pc s A = none := by simp only [pc, hg]
    rw [e]
    clear hg e
    go_enter Try.func46, Try.ntmps46
    go_wp2_with fail
    refine (specGet_any s (A : Int) _ HS.out).mono ?_
    rintro e w1 ⟨rfl, hb1⟩
    rw [HG.out]
    go_wp2_with fail
    go_ret3
    exact ⟨rfl, hb1⟩
  | some q =>
    obtain ⟨n, c⟩ := q
    obtain ⟨-, h2, h3, -⟩ := gv_some hg
    have HG : Hid (gvV (A : Int) (gv s (A : Int)) = .tuple #[.int .i64 n, .int .i64 ((A : Int) + c), .bool true]) := by show _ = _; rw [hg]; rfl
    by_cases hn : n ≤ s.size - (A + c)
    · have e : pc s A = some (cut s (A + c) (A + c + n), A + c + n) := by simp only [pc, hg]; rw [if_pos hn]
      rw [e]
      clear hg e
      have b1 : (0 : Int) ≤ (A : Int) + c := by omega
      have b2 : (A : Int) + c ≤ (A : Int) + c + n := by omega
      have b3 : (A : Int) + c + n ≤ s.size := by omega
      have b4 : ¬ (s.size : Int) - ((A : Int) + c) < n := by omega
      go_enter Try.func46, Try.ntmps46
      go_wp2_with fail
      refine (specGet_any s (A : Int) _ HS.out).mono ?_
      rintro e w1 ⟨rfl, hb1⟩
      rw [HG.out]
      go_wp2_with fail
      go_ret3
      refine ⟨?_, hb1⟩
      show Ending.returned (.tuple #[.string (s.extract (A + c) (A + c + n)), .int .i64 ((A : Int) + c + n), .bool true]) = _
      rw [show (A : Int) + c + n = ((A + c + n : Nat) : Int) by omega]
      rfl
    · have e : pc s A = none := by simp only [pc, hg]; rw [if_neg hn]
      rw [e]
      clear hg e
      have b4 : (s.size : Int) - ((A : Int) + c) < n := by omega
      go_enter Try.func46, Try.ntmps46
      go_wp2_with fail
      refine (specGet_any s (A : Int) _ HS.out).mono ?_
      rintro e w1 ⟨rfl, hb1⟩
      rw [HG.out]
      go_wp2_with fail
      go_ret3
      exact ⟨rfl, hb1⟩

/-- The place of the model's reader, and what it reads. -/
def stV : Option Nat → Int
  | none => -1
  | some A => A
def nN (s : ByteArray) : Option Nat → Nat × Option Nat
  | none => (0, none)
  | some A => match gv s (A : Int) with
    | none => (0, none)
    | some (n, c) => (n, some (A + c))
def nK (s : ByteArray) : Option Nat → ByteArray × Option Nat
  | none => (⟨#[]⟩, none)
  | some A => match pc s A with
    | none => (⟨#[]⟩, none)
    | some (t, B) => (t, some B)
abbrev rdV (s : ByteArray) (st : Option Nat) : Value := .agg #[.string s, .int .i64 (stV st)]
theorem two_cells {w : World} {p : Nat} {t : TypeId} {x0 x1 : Value} (h : w.heap[p]? = some (.cells #[x0, x1] t (0, 0))) :
    w.cell? ⟨p, 0, none⟩ = some x0 ∧ w.cell? ⟨p, 1, none⟩ = some x1 ∧ w.frozen? ⟨p, 0, none⟩ = false ∧ w.frozen? ⟨p, 1, none⟩ = false := by
  refine ⟨?_, ?_, ?_, ?_⟩ <;> simp [World.cell?, World.frozen?, h]

set_option maxRecDepth 100000 in
set_option maxHeartbeats 1000000 in
theorem l4Number_bad (s : ByteArray) (w : World) (hs : s.size ≤ 1048576) :
    Calls Try.prog 19 #[.agg #[.string s, .int .i64 (-1)]] w fun r w' => r = .returned (.tuple #[.int .i64 0, .agg #[.string s, .int .i64 (-1)]]) ∧ Below w.heap.size w w' := by
  generalize hW0 : ((w.alloc (.cells #[.string s, .int .i64 (-1)] 48)).alloc (.cells #[.string ⟨#[]⟩, .int .i64 0] 48)) = W0
  have hI0 : W0.heap[w.heap.size]? = some (.cells #[.string s, .int .i64 (-1)] 48 (0, 0)) := by rw [← hW0, alloc_old (by simp)]; exact World.heap_alloc_new _ _
  have hR0 : W0.heap[w.heap.size + 1]? = some (.cells #[.string ⟨#[]⟩, .int .i64 0] 48 (0, 0)) := by rw [← hW0, ← size_alloc]; exact World.heap_alloc_new _ _
  have hb0 : Below w.heap.size w W0 := by rw [← hW0]; exact ((Below.refl _ _).alloc (Nat.le_refl _) _).alloc (by simp) _
  have hs0 : W0.heap.size = w.heap.size + 2 := by rw [← hW0, size_alloc, size_alloc]
  obtain ⟨c0, c1, -, -⟩ := two_cells hI0
  obtain ⟨d0, d1, z0, z1⟩ := two_cells hR0
  have HB := hd hb0
  have HI := hd hI0
  have HR := hd hR0
  clear hb0 hI0 hR0
  go_enter Try.func19, Try.ntmps19
  go_wp2_with fail
  go_region_held3 (fun w' => w'.cell? ⟨w.heap.size, 0, none⟩ = some (.string s) ∧ w'.cell? ⟨w.heap.size, 1, none⟩ = some (.int .i64 (-1))) (simp [go_sem, *]) (fail)
  all_goals go_wp2_with fail
  all_goals refine bodyPost_ret (v := .tuple #[.int .i64 0, .agg #[.string s, .int .i64 (-1)]]) (by simp [results, Try.results19, go_sem, *]) rfl ⟨rfl, ?_⟩
  all_goals first | exact below_set (by omega) (below_set (by omega) HB.out.drew) | exact (below_set (by omega) (below_set (by omega) HB.out)).drew

set_option maxRecDepth 100000 in
set_option maxHeartbeats 1000000 in
theorem l4Number_at (s : ByteArray) (A : Nat) (w : World) (hs : s.size ≤ 1048576) :
    Calls Try.prog 19 #[.agg #[.string s, .int .i64 (A : Int)]] w fun r w' => r = .returned (match gv s (A : Int) with | none => .tuple #[.int .i64 0, .agg #[.string s, .int .i64 (-1)]] | some (n, c) => .tuple #[.int .i64 n, .agg #[.string s, .int .i64 ((A : Int) + c)]]) ∧ Below w.heap.size w w' := by
  generalize hW0 : ((w.alloc (.cells #[.string s, .int .i64 (A : Int)] 48)).alloc (.cells #[.string ⟨#[]⟩, .int .i64 0] 48)) = W0
  have hI0 : W0.heap[w.heap.size]? = some (.cells #[.string s, .int .i64 (A : Int)] 48 (0, 0)) := by rw [← hW0, alloc_old (by simp)]; exact World.heap_alloc_new _ _
  have hR0 : W0.heap[w.heap.size + 1]? = some (.cells #[.string ⟨#[]⟩, .int .i64 0] 48 (0, 0)) := by rw [← hW0, ← size_alloc]; exact World.heap_alloc_new _ _
  have hb0 : Below w.heap.size w W0 := by rw [← hW0]; exact ((Below.refl _ _).alloc (Nat.le_refl _) _).alloc (by simp) _
  have hs0 : W0.heap.size = w.heap.size + 2 := by rw [← hW0, size_alloc, size_alloc]
  obtain ⟨c0, c1, -, -⟩ := two_cells hI0
  obtain ⟨d0, d1, z0, z1⟩ := two_cells hR0
  have HB := hd hb0
  have HI := hd hI0
  have HR := hd hR0
  clear hb0 hI0 hR0
  have HG := hd (fun (w : World) => specGet_any s (A : Int) w (by unfold maxLen; omega))
  have hA : ¬ (A : Int) < 0 := by omega
  cases hg : gv s (A : Int) with
  | none =>
    rw [hg] at HG
    simp only [gvV] at HG
    dsimp only
    go_enter Try.func19, Try.ntmps19
    go_wp2_with fail
    refine (HG.out _).mono ?_
    rintro r w1 ⟨rfl, hb1⟩
    have hs1 := hb1.size
    have HB1 := hd (HB.out.trans (hb1.mono HB.out.size))
    obtain ⟨c0', c1', -, -⟩ := two_cells ((hb1.block w.heap.size (by omega)).trans HI.out)
    obtain ⟨d0', d1', z0', z1'⟩ := two_cells ((hb1.block (w.heap.size + 1) (by omega)).trans HR.out)
    clear c0 c1 d0 d1 z0 z1 hb1
    go_wp2_with fail
    go_region_held3 (fun w' => w'.cell? ⟨w.heap.size, 0, none⟩ = some (.string s) ∧ w'.cell? ⟨w.heap.size, 1, none⟩ = some (.int .i64 (A : Int))) (simp [go_sem, *]) (fail)
    all_goals go_wp2_with fail
    all_goals refine bodyPost_ret (v := .tuple #[.int .i64 0, .agg #[.string s, .int .i64 (-1)]]) (by simp [results, Try.results19, go_sem, *]) rfl ⟨rfl, ?_⟩
    all_goals first | exact below_set (by omega) (below_set (by omega) HB1.out.drew) | exact (below_set (by omega) (below_set (by omega) HB1.out)).drew
  | some q =>
    obtain ⟨n, c⟩ := q
    rw [hg] at HG
    simp only [gvV] at HG
    dsimp only
    go_enter Try.func19, Try.ntmps19
    go_wp2_with fail
    refine (HG.out _).mono ?_
    rintro r w1 ⟨rfl, hb1⟩
    have hs1 := hb1.size
    have HB1 := hd (HB.out.trans (hb1.mono HB.out.size))
    obtain ⟨c0', c1', -, -⟩ := two_cells ((hb1.block w.heap.size (by omega)).trans HI.out)
    obtain ⟨d0', d1', z0', z1'⟩ := two_cells ((hb1.block (w.heap.size + 1) (by omega)).trans HR.out)
    clear c0 c1 d0 d1 z0 z1 hb1
    go_wp2_with fail
    go_region_held3 (fun w' => w'.cell? ⟨w.heap.size, 0, none⟩ = some (.string s) ∧ w'.cell? ⟨w.heap.size, 1, none⟩ = some (.int .i64 (A : Int))) (simp [go_sem, *]) (fail)
    all_goals go_wp2_with fail
    all_goals refine bodyPost_ret (v := .tuple #[.int .i64 n, .agg #[.string s, .int .i64 ((A : Int) + c)]]) (by simp [results, Try.results19, go_sem, *]) rfl ⟨rfl, ?_⟩
    all_goals first | exact below_set (by omega) (below_set (by omega) HB1.out.drew) | exact (below_set (by omega) (below_set (by omega) HB1.out)).drew

set_option maxRecDepth 100000 in
set_option maxHeartbeats 1000000 in
theorem l4Key_bad (s : ByteArray) (w : World) (hs : s.size ≤ 1048576) :
    Calls Try.prog 20 #[.agg #[.string s, .int .i64 (-1)]] w fun r w' => r = .returned (.tuple #[.string ⟨#[]⟩, .agg #[.string s, .int .i64 (-1)]]) ∧ Below w.heap.size w w' := by
  generalize hW0 : ((w.alloc (.cells #[.string s, .int .i64 (-1)] 48)).alloc (.cells #[.string ⟨#[]⟩, .int .i64 0] 48)) = W0
  have hI0 : W0.heap[w.heap.size]? = some (.cells #[.string s, .int .i64 (-1)] 48 (0, 0)) := by rw [← hW0, alloc_old (by simp)]; exact World.heap_alloc_new _ _
  have hR0 : W0.heap[w.heap.size + 1]? = some (.cells #[.string ⟨#[]⟩, .int .i64 0] 48 (0, 0)) := by rw [← hW0, ← size_alloc]; exact World.heap_alloc_new _ _
  have hb0 : Below w.heap.size w W0 := by rw [← hW0]; exact ((Below.refl _ _).alloc (Nat.le_refl _) _).alloc (by simp) _
  have hs0 : W0.heap.size = w.heap.size + 2 := by rw [← hW0, size_alloc, size_alloc]
  obtain ⟨c0, c1, -, -⟩ := two_cells hI0
  obtain ⟨d0, d1, z0, z1⟩ := two_cells hR0
  have HB := hd hb0
  have HI := hd hI0
  have HR := hd hR0
  clear hb0 hI0 hR0
  go_enter Try.func20, Try.ntmps20
  go_wp2_with fail
  go_region_held3 (fun w' => w'.cell? ⟨w.heap.size, 0, none⟩ = some (.string s) ∧ w'.cell? ⟨w.heap.size, 1, none⟩ = some (.int .i64 (-1))) (simp [go_sem, *]) (fail)
  all_goals go_wp2_with fail
  all_goals refine bodyPost_ret (v := .tuple #[.string ⟨#[]⟩, .agg #[.string s, .int .i64 (-1)]]) (by simp [results, Try.results20, go_sem, *]) rfl ⟨rfl, ?_⟩
  all_goals first | exact below_set (by omega) (below_set (by omega) HB.out.drew) | exact (below_set (by omega) (below_set (by omega) HB.out)).drew

set_option maxRecDepth 100000 in
set_option maxHeartbeats 1000000 in
theorem l4Key_at (s : ByteArray) (A : Nat) (w : World) (hs : s.size ≤ 1048576) :
    Calls Try.prog 20 #[.agg #[.string s, .int .i64 (A : Int)]] w fun r w' => r = .returned (match pc s A with | none => .tuple #[.string ⟨#[]⟩, .agg #[.string s, .int .i64 (-1)]] | some (n, c) => .tuple #[.string n, .agg #[.string s, .int .i64 (c : Nat)]]) ∧ Below w.heap.size w w' := by
  generalize hW0 : ((w.alloc (.cells #[.string s, .int .i64 (A : Int)] 48)).alloc (.cells #[.string ⟨#[]⟩, .int .i64 0] 48)) = W0
  have hI0 : W0.heap[w.heap.size]? = some (.cells #[.string s, .int .i64 (A : Int)] 48 (0, 0)) := by rw [← hW0, alloc_old (by simp)]; exact World.heap_alloc_new _ _
  have hR0 : W0.heap[w.heap.size + 1]? = some (.cells #[.string ⟨#[]⟩, .int .i64 0] 48 (0, 0)) := by rw [← hW0, ← size_alloc]; exact World.heap_alloc_new _ _
  have hb0 : Below w.heap.size w W0 := by rw [← hW0]; exact ((Below.refl _ _).alloc (Nat.le_refl _) _).alloc (by simp) _
  have hs0 : W0.heap.size = w.heap.size + 2 := by rw [← hW0, size_alloc, size_alloc]
  obtain ⟨c0, c1, -, -⟩ := two_cells hI0
  obtain ⟨d0, d1, z0, z1⟩ := two_cells hR0
  have HB := hd hb0
  have HI := hd hI0
  have HR := hd hR0
  clear hb0 hI0 hR0
  have HG := hd (fun (w : World) => piece_any s A w hs)
  have hA : ¬ (A : Int) < 0 := by omega
  cases hg : pc s A with
  | none =>
    rw [hg] at HG
    dsimp only at HG
    dsimp only
    go_enter Try.func20, Try.ntmps20
    go_wp2_with fail
    refine (HG.out _).mono ?_
    rintro r w1 ⟨rfl, hb1⟩
    have hs1 := hb1.size
    have HB1 := hd (HB.out.trans (hb1.mono HB.out.size))
    obtain ⟨c0', c1', -, -⟩ := two_cells ((hb1.block w.heap.size (by omega)).trans HI.out)
    obtain ⟨d0', d1', z0', z1'⟩ := two_cells ((hb1.block (w.heap.size + 1) (by omega)).trans HR.out)
    clear c0 c1 d0 d1 z0 z1 hb1
    go_wp2_with fail
    go_region_held3 (fun w' => w'.cell? ⟨w.heap.size, 0, none⟩ = some (.string s) ∧ w'.cell? ⟨w.heap.size, 1, none⟩ = some (.int .i64 (A : Int))) (simp [go_sem, *]) (fail)
    all_goals go_wp2_with fail
    all_goals refine bodyPost_ret (v := .tuple #[.string ⟨#[]⟩, .agg #[.string s, .int .i64 (-1)]]) (by simp [results, Try.results20, go_sem, *]) rfl ⟨rfl, ?_⟩
    all_goals first | exact below_set (by omega) (below_set (by omega) HB1.out.drew) | exact (below_set (by omega) (below_set (by omega) HB1.out)).drew
  | some q =>
    obtain ⟨n, c⟩ := q
    rw [hg] at HG
    dsimp only at HG
    dsimp only
    go_enter Try.func20, Try.ntmps20
    go_wp2_with fail
    refine (HG.out _).mono ?_
    rintro r w1 ⟨rfl, hb1⟩
    have hs1 := hb1.size
    have HB1 := hd (HB.out.trans (hb1.mono HB.out.size))
    obtain ⟨c0', c1', -, -⟩ := two_cells ((hb1.block w.heap.size (by omega)).trans HI.out)
    obtain ⟨d0', d1', z0', z1'⟩ := two_cells ((hb1.block (w.heap.size + 1) (by omega)).trans HR.out)
    clear c0 c1 d0 d1 z0 z1 hb1
    go_wp2_with fail
    go_region_held3 (fun w' => w'.cell? ⟨w.heap.size, 0, none⟩ = some (.string s) ∧ w'.cell? ⟨w.heap.size, 1, none⟩ = some (.int .i64 (A : Int))) (simp [go_sem, *]) (fail)
    all_goals go_wp2_with fail
    all_goals refine bodyPost_ret (v := .tuple #[.string n, .agg #[.string s, .int .i64 (c : Nat)]]) (by simp [results, Try.results20, go_sem, *]) rfl ⟨rfl, ?_⟩
    all_goals first | exact below_set (by omega) (below_set (by omega) HB1.out.drew) | exact (below_set (by omega) (below_set (by omega) HB1.out)).drew

theorem l4Number_any (s : ByteArray) (st : Option Nat) (w : World) (hs : s.size ≤ 1048576) :
    Calls Try.prog 19 #[rdV s st] w fun r w' => r = .returned (.tuple #[.int .i64 (nN s st).1, rdV s (nN s st).2]) ∧ Below w.heap.size w w' := by
  cases st with
  | none => exact l4Number_bad s w hs
  | some A =>
    refine (l4Number_at s A w hs).mono ?_
    rintro r w' ⟨rfl, hb⟩
    refine ⟨?_, hb⟩
    cases hg : gv s (A : Int) with
    | none => simp only [nN, hg, rdV, stV]; rfl
    | some q => simp only [nN, hg, rdV, stV]; rfl
theorem l4Key_any (s : ByteArray) (st : Option Nat) (w : World) (hs : s.size ≤ 1048576) :
    Calls Try.prog 20 #[rdV s st] w fun r w' => r = .returned (.tuple #[.string (nK s st).1, rdV s (nK s st).2]) ∧ Below w.heap.size w w' := by
  cases st with
  | none => exact l4Key_bad s w hs
  | some A =>
    refine (l4Key_at s A w hs).mono ?_
    rintro r w' ⟨rfl, hb⟩
    refine ⟨?_, hb⟩
    cases hg : pc s A with
    | none => simp only [nK, hg, rdV, stV]
    | some q => simp only [nK, hg, rdV, stV]
end Go.Proofs.Ytigpplcecbgmaae
