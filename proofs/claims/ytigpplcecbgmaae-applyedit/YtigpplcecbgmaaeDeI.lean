
import Derived.Test.YtigpplcecbgmaaeDeR
import Derived.Test.YtigpplcecbgmaaeDeT
namespace Go.Proofs.Ytigpplcecbgmaae
open Go.RowKit Go.Maps
set_option linter.unusedVariables false
set_option linter.unusedSimpArgs false

/-- Reading a reference. -/
def rdR (s : ByteArray) (A : Nat) (fl : Bool) : Tr × Nat × Bool :=
  let r1 := rdN s A fl
  let r2 := rdN s r1.2.1 r1.2.2
  let r3 := rdS s r2.2.1 r2.2.2
  let r4 := rdS s r3.2.1 r3.2.2
  (⟨r1.1, r2.1, r3.1, r4.1⟩, r4.2)
theorem rdR_le {s : ByteArray} {A : Nat} (fl : Bool) (hA : A ≤ s.size) : (rdR s A fl).2.1 ≤ s.size ∧ (rdR s A fl).1.lo.size ≤ s.size ∧ (rdR s A fl).1.hi.size ≤ s.size := by
  have l1 := (rdN_le fl hA).1
  have l2 := (rdN_le (rdN s A fl).2.2 l1).1
  have l3 := rdS_le (rdN s (rdN s A fl).2.1 (rdN s A fl).2.2).2.2 l2
  have l4 := rdS_le (rdS s (rdN s (rdN s A fl).2.1 (rdN s A fl).2.2).2.1 (rdN s (rdN s A fl).2.1 (rdN s A fl).2.2).2.2).2.2 l3.1
  exact ⟨l4.1, l3.2, l4.2⟩
theorem rdR_fl (s : ByteArray) (A : Nat) : (rdR s A true).2.2 = true := by
  show (rdS s _ _).2.2 = true
  rw [rdN_fl, rdN_fl, rdS_fl, rdS_fl]
theorem rdR_pR (s : ByteArray) (A : Nat) : (∃ t E, pR s A = some (t, E) ∧ rdR s A false = (t, E, false)) ∨ (pR s A = none ∧ (rdR s A false).2.2 = true) := by
  rcases rdN_gv s A with ⟨n, c, hg, hn⟩ | ⟨hg, hn⟩
  · rcases rdN_gv s (A + c) with ⟨l, d, hg2, hn2⟩ | ⟨hg2, hn2⟩
    · rcases rdS_pc s (A + c + d) with ⟨lo, B, hp, hr⟩ | ⟨hp, hr⟩
      · rcases rdS_pc s B with ⟨hi, E, hp2, hr2⟩ | ⟨hp2, hr2⟩
        · refine .inl ⟨⟨n, l, lo, hi⟩, E, ?_, ?_⟩
          · simp only [pR, hg, hg2, hp, hp2]
          · simp only [rdR, hn, hn2, hr, hr2]
        · refine .inr ⟨by simp only [pR, hg, hg2, hp, hp2], ?_⟩
          simp only [rdR, hn, hn2, hr]
          exact hr2
      · refine .inr ⟨by simp only [pR, hg, hg2, hp], ?_⟩
        simp only [rdR, hn, hn2]
        rw [hr]
        exact rdS_fl _ _
    · refine .inr ⟨by simp only [pR, hg, hg2], ?_⟩
      simp only [rdR, hn]
      rw [hn2, rdS_fl, rdS_fl]
  · refine .inr ⟨by simp only [pR, hg], ?_⟩
    simp only [rdR]
    rw [hn, rdN_fl, rdS_fl, rdS_fl]

theorem four_free {w : World} {p : Nat} {t : TypeId} {x0 x1 x2 x3 : Value} (h : w.heap[p]? = some (.cells #[x0, x1, x2, x3] t (0, 0))) :
    w.frozen? ⟨p, 0, none⟩ = false ∧ w.frozen? ⟨p, 1, none⟩ = false ∧ w.frozen? ⟨p, 2, none⟩ = false ∧ w.frozen? ⟨p, 3, none⟩ = false := by
  refine ⟨?_, ?_, ?_, ?_⟩ <;> simp [World.frozen?, h]
theorem Only.set_new {p q o : Nat} {w w' : World} {v : Value} (hq : w.heap.size ≤ q) (h : Only p w w') : Only p w (w'.setCell ⟨q, o, none⟩ v) :=
  ⟨h.os, h.tape, h.output, by have := h.size; simp [World.setCell]; omega, fun k hk hn => (Below.heap_setCell _ _ _ _ (by dsimp only; omega)).trans (h.block k hk hn)⟩
theorem Rd.set {w : World} {p q o A : Nat} {s : ByteArray} {fl : Bool} {v : Value} (hq : p ≠ q) (h : Rd w p s A fl) : Rd (w.setCell ⟨q, o, none⟩ v) p s A fl :=
  (Below.heap_setCell _ _ _ _ (by dsimp only; exact hq)).trans h

set_option maxRecDepth 100000 in
set_option maxHeartbeats 1000000 in
theorem tableRef_any (p A : Nat) (s : ByteArray) (fl : Bool) (w : World) (h : Rd w p s A fl) (hs : s.size ≤ 1048576) (hA : A ≤ s.size) :
    Calls Try.prog 50 #[.pointer (some ⟨p, 0, none⟩)] w fun e w' => e = .returned (rdR s A fl).1.agg ∧ Rd w' p s (rdR s A fl).2.1 (rdR s A fl).2.2 ∧ Only p w w' := by
  have l1 := (rdN_le fl hA).1
  have HE : Hid (rdR s A fl = (⟨(rdN s A fl).1, (rdN s (rdN s A fl).2.1 (rdN s A fl).2.2).1, (rdS s (rdN s (rdN s A fl).2.1 (rdN s A fl).2.2).2.1 (rdN s (rdN s A fl).2.1 (rdN s A fl).2.2).2.2).1, (rdS s (rdS s (rdN s (rdN s A fl).2.1 (rdN s A fl).2.2).2.1 (rdN s (rdN s A fl).2.1 (rdN s A fl).2.2).2.2).2.1 (rdS s (rdN s (rdN s A fl).2.1 (rdN s A fl).2.2).2.1 (rdN s (rdN s A fl).2.1 (rdN s A fl).2.2).2.2).2.2).1⟩, (rdS s (rdS s (rdN s (rdN s A fl).2.1 (rdN s A fl).2.2).2.1 (rdN s (rdN s A fl).2.1 (rdN s A fl).2.2).2.2).2.1 (rdS s (rdN s (rdN s A fl).2.1 (rdN s A fl).2.2).2.1 (rdN s (rdN s A fl).2.1 (rdN s A fl).2.2).2.2).2.2).2)) := rfl
  have HN1 := fun (w : World) (h : Rd w p s A fl) => number_any p A s fl w h hs
  generalize rdN s A fl = r1 at *
  have l2 := (rdN_le r1.2.2 l1).1
  have HN2 := fun (w : World) (h : Rd w p s r1.2.1 r1.2.2) => number_any p r1.2.1 s r1.2.2 w h hs
  generalize rdN s r1.2.1 r1.2.2 = r2 at *
  have l3 := (rdS_le r2.2.2 l2).1
  have HS1 := fun (w : World) (h : Rd w p s r2.2.1 r2.2.2) => sized_any p r2.2.1 s r2.2.2 w h hs l2
  generalize rdS s r2.2.1 r2.2.2 = r3 at *
  have HS2 := fun (w : World) (h : Rd w p s r3.2.1 r3.2.2) => sized_any p r3.2.1 s r3.2.2 w h hs l3
  generalize rdS s r3.2.1 r3.2.2 = r4 at *
  rw [HE.out]
  replace HN1 := hd HN1
  replace HN2 := hd HN2
  replace HS1 := hd HS1
  replace HS2 := hd HS2
  have hlt := h.cells.2.2.2.2.2
  have hb0 : Below w.heap.size w (w.alloc (.cells #[.int .i64 0, .int .i64 0, .string ByteArray.empty, .string ByteArray.empty] 54)) := (Below.refl _ _).alloc (Nat.le_refl _) _
  have hx0 : (w.alloc (.cells #[.int .i64 0, .int .i64 0, .string ByteArray.empty, .string ByteArray.empty] 54)).heap[w.heap.size]? = some (.cells #[.int .i64 0, .int .i64 0, .string ByteArray.empty, .string ByteArray.empty] 54 (0, 0)) := World.heap_alloc_new _ _
  have h0 := h.below hb0
  go_enter Try.func50, Try.ntmps50
  go_wp2_with fail
  refine (HN1.out _ h0).mono ?_
  rintro e w1 ⟨rfl, h1, ho1⟩
  go_wp2_with fail
  refine (HN2.out _ h1).mono ?_
  rintro e w2 ⟨rfl, h2, ho2⟩
  go_wp2_with fail
  refine (HS1.out _ h2).mono ?_
  rintro e w3 ⟨rfl, h3, ho3⟩
  go_wp2_with fail
  refine (HS2.out _ h3).mono ?_
  rintro e w4 ⟨rfl, h4, ho4⟩
  have hoo := ((ho1.trans ho2).trans ho3).trans ho4
  have hx4 := (hoo.block w.heap.size (by simp) (by omega)).trans hx0
  have hO : Only p w w4 := (Only.of hb0).trans hoo
  have hlt4 := heap_lt hx4
  obtain ⟨x0, x1, x2, x3⟩ := four_cells hx4
  obtain ⟨z0, z1, z2, z3⟩ := four_free hx4
  have hpne : p ≠ w.heap.size := by omega
  clear hoo ho1 ho2 ho3 ho4 h0 h1 h2 h3 hb0 hx0
  go_wp2_with fail
  refine bodyPost_ret (v := .agg #[.int .i64 r1.1, .int .i64 r2.1, .string r3.1, .string r4.1]) (by simp [results, Try.results50, go_sem, x0, x1, x2, x3]) rfl ⟨rfl, ?_, ?_⟩
  · repeat refine Rd.set hpne ?_
    exact h4
  · repeat refine Only.set_new (Nat.le_refl _) ?_
    exact hO
end Go.Proofs.Ytigpplcecbgmaae
