
import Derived.Test.YtigpplcecbgmaaeApJ
namespace Go.Proofs.Ytigpplcecbgmaae
open Go.RowKit Go.Maps
set_option linter.unusedVariables false
set_option linter.unusedSimpArgs false

/-- Whether the tables of an edit may come to those that are left. -/
def okAdd (qs : List Tr) (e : Ed) : Bool := okAll qs e.ad && (decide ((qs ++ e.ad).length ≤ 1000) && ((qs ++ e.ad).all (fun t => decide (t.nu < e.nx)) && decide (e.lg < e.nx)))

theorem Cat.below {w w' : World} {B g b : Nat} {qs : List Tr} (h : Cat w B g b qs) (hb : Below w.heap.size w w') : Cat w' B g b qs := by
  obtain ⟨tv, D, h1, h2, h3, h4⟩ := h
  exact ⟨tv, D, (hb.block g (heap_lt h1)).trans h1, h2.kept (row := none) ⟨hb.os, hb.tape, hb.output, hb.size, fun i hi _ => hb.block i hi⟩ (by simp), h3, owns_below h4 hb⟩
set_option maxRecDepth 100000 in
set_option maxHeartbeats 1000000 in
theorem addAll_any (B0 B g b : Nat) (qs : List Tr) (a : Option Addr) (ca : Nat) (d : Option Addr) (cd : Nat) (e : Ed) (w0 w : World) (ht : LieT w0 a e.ad) (hb0 : Below w0.heap.size w0 w) (hs0 : w0.heap.size ≤ B0) (hc : Cat w B g b qs) (h1 : B0 ≤ g) (h2 : B0 ≤ b) (h3 : g < B) (h4 : b < B) (h5 : B ≤ w.heap.size) (hw : ∀ t ∈ e.ad, wfI t.nu) (hl : qs.length + e.ad.length ≤ 2000) :
    Calls Try.prog 43 #[.pointer (some ⟨g, 0, none⟩), edV a ca d cd e] w fun r w' => r = .returned (.bool (okAdd qs e)) ∧ Below B0 w w' ∧ KeepX g b w w' ∧ (okAdd qs e = true → Cat w' B g b (qs ++ e.ad)) := by
  obtain ⟨xs, ks, lg, nx, la⟩ := e
  dsimp only at *
  have HR : Hid (okAdd qs ⟨xs, ks, lg, nx, la⟩ = (okAll qs xs && (decide ((qs ++ xs).length ≤ 1000) && ((qs ++ xs).all (fun t => decide (t.nu < nx)) && decide (lg < nx))))) := rfl
  generalize okAdd qs ⟨xs, ks, lg, nx, la⟩ = R at *
  generalize hW0 : w.alloc (.cells #[.slice a xs.length ca, .slice d ks.length cd, .int .i64 lg, .int .i64 nx, .int .i64 la] 25) = W0
  have hA : W0.heap[w.heap.size]? = some (.cells #[.slice a xs.length ca, .slice d ks.length cd, .int .i64 lg, .int .i64 nx, .int .i64 la] 25 (0, 0)) := by rw [← hW0]; exact World.heap_alloc_new _ _
  have hbW : Below w.heap.size w W0 := by rw [← hW0]; exact (Below.refl _ _).alloc (Nat.le_refl _) _
  have hsW : W0.heap.size = w.heap.size + 1 := by rw [← hW0]; simp
  have hcW : Cat W0 B g b qs := by rw [← hW0]; exact hc.alloc _
  obtain ⟨e0, e1, e2, e3, e4⟩ := five_cells hA
  have hw0w := hb0.size
  have HAP := hd (allPut_any B0 B g b qs xs a ca w0 W0 ht (hb0.trans (hbW.mono (by omega))) hs0 hcW h1 h2 h3 h4 (by omega) hw hl)
  have HA := hd hA
  have HBW := hd hbW
  clear hA hbW hcW hc ht hb0
  go_enter Try.func43, Try.ntmps43
  cases hoa : okAll qs xs with
  | false =>
    have hR : R = false := by rw [HR.out, hoa]; rfl
    subst hR
    rw [hoa] at HAP
    go_wp2_with (go_at_call 41; refine HAP.out.mono ?_; rintro r w1 ⟨rfl, hb1, hx1, -⟩)
    go_ret
    exact ⟨rfl, (HBW.out.mono (by omega)).trans hb1, (KeepX.of_below HBW.out).trans hx1, fun h => by cases h⟩
  | true =>
    rw [hoa] at HAP
    have HLq : Hid ((qs ++ xs).length ≤ 2000) := by show _ ≤ _; rw [List.length_append]; omega
    rw [hoa, Bool.true_and] at HR
    generalize qs ++ xs = Q at *
    go_wp2_with fail
    refine HAP.out.mono ?_
    rintro r w1 ⟨rfl, hb1, hx1, hc1⟩
    have hcat1 := hc1 (by trivial)
    obtain ⟨tv, D, hg1, hm1, hi1, hr1⟩ := hcat1
    obtain ⟨an, cn, rfl⟩ := owns_sliceT hr1
    obtain ⟨-, a9, c9, e9, hres⟩ := resT_of_owns hr1
    injection e9 with f1 f2 f3
    subst f1
    subst f3
    clear f2
    obtain ⟨g0, g1, -, -⟩ := two_cells hg1
    have hp1 := hx1 w.heap.size _ HA.out (by omega) (by omega) (fun cs fz h => by cases h)
    obtain ⟨q0, q1, q2, q3, q4⟩ := five_cells hp1
    have hs1 := hb1.size
    have HB1 := hd ((HBW.out.mono (by omega)).trans hb1)
    have HX1 := hd ((KeepX.of_below HBW.out).trans hx1)
    have HC1 := hd (hc1 (by trivial))
    have HAB := hd (allBelow_any Q an cn w.heap.size _ _ lg nx la w1 hres.lie hp1 HLq.out)
    clear hb1 hx1 hc1 hres hp1 hg1 hm1 hi1 hr1 e0 e1 e2 e3 e4
    by_cases hl1 : (Q.length : Int) ≤ 1000
    · cases hab : Q.all (fun t => decide (t.nu < nx)) with
      | false =>
        have hR : R = false := by rw [HR.out, hab]; simp
        subst hR
        rw [hab] at HAB
        go_wp2_with fail
        refine HAB.out.mono ?_
        rintro r w2 ⟨rfl, hb2⟩
        go_wp2_with fail
        go_ret
        first | exact ⟨rfl, HB1.out.trans (hb2.mono (by omega)), HX1.out.trans (KeepX.of_below hb2), fun h => by cases h⟩ | exact ⟨rfl, HB1.out.trans (hb2.mono (by omega)), HX1.out.trans (KeepX.of_below hb2)⟩
      | true =>
        have hR : R = decide (lg < nx) := by
          have hz : decide (Q.length ≤ 1000) = true := decide_eq_true (by omega)
          rw [HR.out, hab, hz, Bool.true_and, Bool.true_and]
        subst hR
        rw [hab] at HAB
        go_wp2_with fail
        refine HAB.out.mono ?_
        rintro r w2 ⟨rfl, hb2⟩
        have hlw : w.heap.size < w1.heap.size := by omega
        have j2 := (hb2.cell (p := ⟨w.heap.size, 2, none⟩) hlw).trans q2
        have j3 := (hb2.cell (p := ⟨w.heap.size, 3, none⟩) hlw).trans q3
        go_wp2_with fail
        go_ret
        exact ⟨rfl, HB1.out.trans (hb2.mono (by omega)), HX1.out.trans (KeepX.of_below hb2), fun _ => HC1.out.below hb2⟩
    · have hR : R = false := by
        have hz : decide (Q.length ≤ 1000) = false := decide_eq_false (by omega)
        rw [HR.out, hz]; rfl
      subst hR
      go_wp2_with fail
      go_ret
      first | exact ⟨rfl, HB1.out, HX1.out, fun h => by cases h⟩ | exact ⟨rfl, HB1.out, HX1.out⟩
end Go.Proofs.Ytigpplcecbgmaae
