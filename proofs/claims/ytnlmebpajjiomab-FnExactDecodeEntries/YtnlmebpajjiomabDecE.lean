
import Derived.Test.YtnlmebpajjiomabDecR
namespace Go.Proofs.Ytnlmebpajjiomab
open Go.RowKit Go.Maps
set_option linter.unusedVariables false
set_option linter.unusedSimpArgs false

theorem heap_lt {w : World} {g : Nat} {o : Obj} (h : w.heap[g]? = some o) : g < w.heap.size := by
  by_cases hlt : g < w.heap.size
  · exact hlt
  · rw [Array.getElem?_eq_none (by omega)] at h; cases h
theorem four_cells {w : World} {p : Nat} {t : TypeId} {x0 x1 x2 x3 : Value} (h : w.heap[p]? = some (.cells #[x0, x1, x2, x3] t (0, 0))) :
    (w.cell? ⟨p, 0, none⟩ = some x0 ∧ w.cell? ⟨p, 1, none⟩ = some x1 ∧ w.cell? ⟨p, 2, none⟩ = some x2 ∧ w.cell? ⟨p, 3, none⟩ = some x3) ∧ w.frozen? ⟨p, 0, none⟩ = false ∧ w.frozen? ⟨p, 1, none⟩ = false ∧ w.frozen? ⟨p, 2, none⟩ = false ∧ w.frozen? ⟨p, 3, none⟩ = false := by
  refine ⟨⟨?_, ?_, ?_, ?_⟩, ?_, ?_, ?_, ?_⟩ <;> simp [World.cell?, World.frozen?, h]

set_option maxRecDepth 100000 in
set_option maxHeartbeats 1000000 in
theorem entry_any (p A : Nat) (s : ByteArray) (fl : Bool) (w : World) (h : Rd w p s A fl) (hs : s.size ≤ 1048576) (hA : A ≤ s.size) :
    Calls Try.prog 35 #[.pointer (some ⟨p, 0, none⟩)] w fun e w' => e = .returned (rdE s A fl).1.agg ∧ Rd w' p s (rdE s A fl).2.1 (rdE s A fl).2.2 ∧ Only p w w' := by
  have l1 := (rdS_le fl hA).1
  have HE : Hid (rdE s A fl = (⟨(rdS s A fl).1, ((rdN s (rdS s A fl).2.1 (rdS s A fl).2.2).1 : Int), (rdB s (rdN s (rdS s A fl).2.1 (rdS s A fl).2.2).2.1 (rdN s (rdS s A fl).2.1 (rdS s A fl).2.2).2.2).1,
    (rdS s (rdB s (rdN s (rdS s A fl).2.1 (rdS s A fl).2.2).2.1 (rdN s (rdS s A fl).2.1 (rdS s A fl).2.2).2.2).2.1 (rdB s (rdN s (rdS s A fl).2.1 (rdS s A fl).2.2).2.1 (rdN s (rdS s A fl).2.1 (rdS s A fl).2.2).2.2).2.2).1⟩,
   (rdS s (rdB s (rdN s (rdS s A fl).2.1 (rdS s A fl).2.2).2.1 (rdN s (rdS s A fl).2.1 (rdS s A fl).2.2).2.2).2.1 (rdB s (rdN s (rdS s A fl).2.1 (rdS s A fl).2.2).2.1 (rdN s (rdS s A fl).2.1 (rdS s A fl).2.2).2.2).2.2).2)) := rfl
  have HS := fun (w : World) (h : Rd w p s A fl) => sized_any p A s fl w h hs hA
  generalize rdS s A fl = r1 at *
  have l2 := (rdN_le r1.2.2 l1).1
  have HN := fun (w : World) (h : Rd w p s r1.2.1 r1.2.2) => number_any p r1.2.1 s r1.2.2 w h hs
  generalize rdN s r1.2.1 r1.2.2 = r2 at *
  have l3 := rdB_le r2.2.2 l2
  have HB := fun (w : World) (h : Rd w p s r2.2.1 r2.2.2) => byte_any p r2.2.1 s r2.2.2 w h hs l2
  generalize rdB s r2.2.1 r2.2.2 = r3 at *
  have HV := fun (w : World) (h : Rd w p s r3.2.1 r3.2.2) => sized_any p r3.2.1 s r3.2.2 w h hs l3
  generalize rdS s r3.2.1 r3.2.2 = r4 at *
  rw [HE.out]
  replace HS := hd HS
  replace HN := hd HN
  replace HB := hd HB
  replace HV := hd HV
  have hlt := h.cells.2.2.2.2.2
  have hb0 : Below w.heap.size w (w.alloc (.cells #[.string ByteArray.empty, .int .i64 0, .int .i64 0, .string ByteArray.empty] 58)) := (Below.refl _ _).alloc (Nat.le_refl _) _
  have hx0 : (w.alloc (.cells #[.string ByteArray.empty, .int .i64 0, .int .i64 0, .string ByteArray.empty] 58)).heap[w.heap.size]? = some (.cells #[.string ByteArray.empty, .int .i64 0, .int .i64 0, .string ByteArray.empty] 58 (0, 0)) := World.heap_alloc_new _ _
  have h0 := h.below hb0
  go_enter Try.func35, Try.ntmps35
  go_wp2_with fail
  refine (HS.out _ h0).mono ?_
  rintro e w1 ⟨rfl, h1, ho1⟩
  go_wp2_with fail
  refine (HN.out _ h1).mono ?_
  rintro e w2 ⟨rfl, h2, ho2⟩
  go_wp2_with fail
  refine (HB.out _ h2).mono ?_
  rintro e w3 ⟨rfl, h3, ho3⟩
  go_wp2_with fail
  refine (HV.out _ h3).mono ?_
  rintro e w4 ⟨rfl, h4, ho4⟩
  have hoo := ((ho1.trans ho2).trans ho3).trans ho4
  have hx4 := (hoo.block w.heap.size (by simp) (by omega)).trans hx0
  have hO : Only p w w4 := (Only.of hb0).trans hoo
  have hlt4 := heap_lt hx4
  obtain ⟨⟨x0, x1, x2, x3⟩, z0, z1, z2, z3⟩ := four_cells hx4
  have hpne : p ≠ w.heap.size := by omega
  clear hoo ho1 ho2 ho3 ho4 h0 h1 h2 h3 hb0 hx0
  go_wp2_with fail
  refine bodyPost_ret (v := .agg #[.string r1.1, .int .i64 r2.1, .int .i64 r3.1, .string r4.1]) (by simp [results, Try.results35, go_sem, x0, x1, x2, x3]) rfl ⟨rfl, ?_, ?_⟩
  · unfold Rd at *
    rw [Below.heap_setCell _ _ _ _ (by simpa using hpne), Below.heap_setCell _ _ _ _ (by simpa using hpne), Below.heap_setCell _ _ _ _ (by simpa using hpne), Below.heap_setCell _ _ _ _ (by simpa using hpne)]
    exact h4
  · refine ⟨hO.os, hO.tape, hO.output, by have := hO.size; simp [World.setCell]; omega, fun k hk hn => ?_⟩
    have hne : k ≠ w.heap.size := by omega
    rw [Below.heap_setCell _ _ _ _ (by simpa using hne), Below.heap_setCell _ _ _ _ (by simpa using hne), Below.heap_setCell _ _ _ _ (by simpa using hne), Below.heap_setCell _ _ _ _ (by simpa using hne)]
    exact hO.block k hk hn

set_option maxRecDepth 100000 in
set_option maxHeartbeats 1000000 in
theorem done_any (p A : Nat) (s : ByteArray) (fl : Bool) (w : World) (h : Rd w p s A fl) (hs : s.size ≤ 1048576) :
    Calls Try.prog 37 #[.pointer (some ⟨p, 0, none⟩)] w fun e w' => e = .returned (.bool (!fl && decide (A = s.size))) ∧ Below w.heap.size w w' := by
  obtain ⟨c0, c1, c2, z1, z2, hlt⟩ := h.cells
  cases fl with
  | true =>
    go_enter Try.func37, Try.ntmps37
    go_wp2_with fail
    go_quiet (fail)
    go_wp2_with fail
    go_ret
    exact ⟨rfl, ⟨rfl, rfl, rfl, Nat.le_refl _, fun _ _ => rfl⟩⟩
  | false =>
    go_enter Try.func37, Try.ntmps37
    go_wp2_with fail
    go_quiet (fail)
    go_wp2_with fail
    go_ret
    refine ⟨?_, ⟨rfl, rfl, rfl, Nat.le_refl _, fun _ _ => rfl⟩⟩
    show Ending.returned (.bool ((A : Int) == s.size)) = _
    refine ret_b (Bool.eq_iff_iff.2 ?_)
    simp only [beq_iff_eq, Bool.not_false, Bool.true_and, decide_eq_true_eq]
    omega

/-- Entries as cells. -/
def cellsE (xs : List En) : List Value := xs.flatMap fun e => [.string e.ky, .int .i64 e.sq, .int .i64 e.kd, .string e.vl]
theorem cellsE_snoc (xs : List En) (e : En) : cellsE (xs ++ [e]) = cellsE xs ++ [.string e.ky, .int .i64 e.sq, .int .i64 e.kd, .string e.vl] := by simp [cellsE]
theorem cellsE_len (xs : List En) : (cellsE xs).length = xs.length * 4 := by
  induction xs with
  | nil => rfl
  | cons x r ih => simp [cellsE] at *; omega
theorem cellsE_at (xs : List En) (i : Nat) (hi : i < xs.length) : (cellsE xs)[i * 4]? = some (.string (xs.getD i en0).ky) ∧ (cellsE xs)[i * 4 + 1]? = some (.int .i64 (xs.getD i en0).sq) ∧ (cellsE xs)[i * 4 + 2]? = some (.int .i64 (xs.getD i en0).kd) ∧ (cellsE xs)[i * 4 + 3]? = some (.string (xs.getD i en0).vl) := by
  induction xs generalizing i with
  | nil => simp at hi
  | cons x r ih =>
    cases i with
    | zero => exact ⟨rfl, rfl, rfl, rfl⟩
    | succ i =>
      have h := ih i (by simpa using hi)
      have e : cellsE (x :: r) = [.string x.ky, .int .i64 x.sq, .int .i64 x.kd, .string x.vl] ++ cellsE r := rfl
      have sh : ∀ j, (cellsE (x :: r))[4 + j]? = (cellsE r)[j]? := fun j => by rw [e, List.getElem?_append_right (by simp)]; simp
      have g : (x :: r).getD (i + 1) en0 = r.getD i en0 := rfl
      rw [g]
      refine ⟨?_, ?_, ?_, ?_⟩
      · rw [show (i + 1) * 4 = 4 + i * 4 by omega, sh]; exact h.1
      · rw [show (i + 1) * 4 + 1 = 4 + (i * 4 + 1) by omega, sh]; exact h.2.1
      · rw [show (i + 1) * 4 + 2 = 4 + (i * 4 + 2) by omega, sh]; exact h.2.2.1
      · rw [show (i + 1) * 4 + 3 = 4 + (i * 4 + 3) by omega, sh]; exact h.2.2.2
/-- A row of entries that the call owns lies in memory. -/
theorem lieE_of_owns {w : World} {B n : Nat} {v : Value} {xs : List En} (h : w.ownsRow B 58 4 v n (cellsE xs)) :
    n = xs.length ∧ ∃ a cap, v = .slice a xs.length cap ∧ LieE w a xs ∧ (xs ≠ [] → ∃ g, a = some ⟨g, 0, none⟩ ∧ B ≤ g ∧ g < w.heap.size ∧ ∀ o, o < xs.length * 4 → (∃ u, w.cell? ⟨g, o, none⟩ = some u) ∧ w.frozen? ⟨g, o, none⟩ = false) := by
  obtain ⟨h1, h2⟩ := h
  have hn : n = xs.length := by rw [cellsE_len] at h1; omega
  refine ⟨hn, ?_⟩
  subst hn
  rcases h2 with ⟨rfl, h0⟩ | ⟨g, cap, cur, rfl, hg, hb, hl, hm, hsz, htk⟩
  · have hx : xs = [] := List.length_eq_zero_iff.1 h0
    exact ⟨none, 0, by rw [h0], .inl hx, fun h => absurd hx h⟩
  · have hcell : ∀ j, j < xs.length * 4 → cur[j]? = (cellsE xs)[j]? := fun j hj => by
      have e1 : (cur.toList.take (xs.length * 4))[j]? = (cellsE xs)[j]? := by rw [htk]
      rw [List.getElem?_take_of_lt hj] at e1
      simpa using e1
    refine ⟨some ⟨g, 0, none⟩, cap, rfl, .inr ⟨g, 0, rfl, heap_lt hb, fun i hi => ?_⟩, fun _ => ⟨g, rfl, hg, heap_lt hb, fun o ho => ?_⟩⟩
    · obtain ⟨a0, a1, a2, a3⟩ := cellsE_at xs i hi
      refine ⟨?_, ?_, ?_, ?_⟩
      · simp only [World.cell?, hb, Nat.zero_add]; rw [hcell _ (by omega)]; exact a0
      · simp only [World.cell?, hb, Nat.zero_add]; rw [hcell _ (by omega)]; exact a1
      · simp only [World.cell?, hb, Nat.zero_add]; rw [hcell _ (by omega)]; exact a2
      · simp only [World.cell?, hb, Nat.zero_add]; rw [hcell _ (by omega)]; exact a3
    · refine ⟨?_, by simp [World.frozen?, hb]⟩
      have hol : o < (cellsE xs).length := by rw [cellsE_len]; exact ho
      exact ⟨(cellsE xs)[o], by simp only [World.cell?, hb]; rw [hcell o ho]; exact List.getElem?_eq_getElem hol⟩
theorem ownsE_lit (w : World) (B : Nat) (hB : B ≤ w.heap.size) : (w.alloc (.cells #[] 58)).ownsRow B 58 4 (.slice (some ⟨w.heap.size, 0, none⟩) 0 0) 0 (cellsE []) :=
  ⟨rfl, .inr ⟨w.heap.size, 0, #[], rfl, hB, World.heap_alloc_new _ _, Nat.le_refl _, Nat.zero_le _, rfl, rfl⟩⟩

set_option maxRecDepth 100000 in
set_option maxHeartbeats 1000000 in
theorem piece_any (s : ByteArray) (A : Nat) (w : World) (hs : s.size ≤ 1048576) :
    Calls Try.prog 32 #[.string s, .int .i64 A] w fun e w' => e = .returned (match pc s A with | none => .tuple #[.string ⟨#[]⟩, .int .i64 0, .bool false] | some (t, B) => .tuple #[.string t, .int .i64 (B : Nat), .bool true]) ∧ Below w.heap.size w w' := by
  have HS : Hid (s.size ≤ maxLen) := by show _ ≤ _; unfold maxLen; omega
  cases hg : gv s (A : Int) with
  | none =>
    have HG : Hid (gvV (A : Int) (gv s (A : Int)) = .tuple #[.int .i64 0, .int .i64 0, .bool false]) := by show _ = _; rw [hg]; rfl
    have e : pc s A = none := by simp only [pc, hg]
    rw [e]
    clear hg e
    go_enter Try.func32, Try.ntmps32
    go_wp2_with fail
    refine (specGet_any s (A : Int) _ HS.out).mono ?_
    rintro e w1 ⟨rfl, hb1⟩
    rw [HG.out]
    go_wp2_with fail
    go_ret3
    exact ⟨rfl, hb1⟩
  | some q =>
    obtain ⟨n, c⟩ := q
    obtain ⟨-, h2, h3, -⟩ := gv_some hg
    have HG : Hid (gvV (A : Int) (gv s (A : Int)) = .tuple #[.int .i64 n, .int .i64 ((A : Int) + c), .bool true]) := by show _ = _; rw [hg]; rfl
    by_cases hn : n ≤ s.size - (A + c)
    · have e : pc s A = some (cut s (A + c) (A + c + n), A + c + n) := by simp only [pc, hg]; rw [if_pos hn]
      rw [e]
      clear hg e
      have b1 : (0 : Int) ≤ (A : Int) + c := by omega
      have b2 : (A : Int) + c ≤ (A : Int) + c + n := by omega
      have b3 : (A : Int) + c + n ≤ s.size := by omega
      have b4 : ¬ (s.size : Int) - ((A : Int) + c) < n := by omega
      go_enter Try.func32, Try.ntmps32
      go_wp2_with fail
      refine (specGet_any s (A : Int) _ HS.out).mono ?_
      rintro e w1 ⟨rfl, hb1⟩
      rw [HG.out]
      go_wp2_with fail
      go_ret3
      refine ⟨?_, hb1⟩
      show Ending.returned (.tuple #[.string (s.extract (A + c) (A + c + n)), .int .i64 ((A : Int) + c + n), .bool true]) = _
      rw [show (A : Int) + c + n = ((A + c + n : Nat) : Int) by omega]
      rfl
    · have e : pc s A = none := by simp only [pc, hg]; rw [if_neg hn]
      rw [e]
      clear hg e
      have b4 : (s.size : Int) - ((A : Int) + c) < n := by omega
      go_enter Try.func32, Try.ntmps32
      go_wp2_with fail
      refine (specGet_any s (A : Int) _ HS.out).mono ?_
      rintro e w1 ⟨rfl, hb1⟩
      rw [HG.out]
      go_wp2_with fail
      go_ret3
      exact ⟨rfl, hb1⟩
end Go.Proofs.Ytnlmebpajjiomab
