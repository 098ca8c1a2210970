
import Derived.Test.YtigpplcecbgmaaeApW
import Derived.ProofKit
import Derived.OpenShut
import Derived.ShutString
import Derived.ChangeOld
import Derived.Carry
import Derived.Lib.SmallJoins
import Derived.Deep.Slices
import Derived.Deep.Strs
namespace Go.Proofs.Ytigpplcecbgmaae
open Go.ChangeShapes Go.WideShapes Go.ChangeAt Go.RowKit Go.Joins Go.Deep
set_option linter.unusedVariables false
set_option linter.unusedSimpArgs false

theorem own : ownKnob Try.prog.godebug = none := by kernel_rfl
theorem laidOut : laidOutB Try.prog = true := by kernel_rfl
theorem lEdit_cells : Try.prog.cellsOf 35 = 5 := by kernel_rfl
theorem lRef_cells : Try.prog.cellsOf 92 = 4 := by kernel_rfl
theorem lRefs_cells : Try.prog.cellsOf 31 = 1 := by kernel_rfl
theorem ints_cells : Try.prog.cellsOf 23 = 1 := by kernel_rfl
theorem int_cells : Try.prog.cellsOf 3 = 1 := by kernel_rfl
theorem string_cells : Try.prog.cellsOf 9 = 1 := by kernel_rfl

set_option maxRecDepth 100000 in
theorem open_nums {H : Type} {enc : TypeId × Value → H} {w : World} {v : Value} {y : DataW H × List MemPlace} {fuel : Nat}
    (h : DataW.trod enc Try.prog w 0 (fun _ => true) true fuel 23 [v] = some y) :
    ∃ (a : Option Addr) (cap : Nat) (ks : List Int), v = .slice a ks.length cap ∧ LieI w a ks ∧ ks.length ≤ maxLen ∧ (∀ x ∈ ks, wfI x) := by
  rcases open_slice Try.underlying23 h with ⟨e0, _⟩ | ⟨a, len, cap, m, n', D, Pl, e0, _, hl, hm, hmm, _, hx⟩
  · simp at e0
    subst e0
    exact ⟨none, 0, [], rfl, .inl rfl, by simp, fun x hx => absurd hx (by simp)⟩
  · simp at e0
    subst e0
    simp only [if_true] at hmm
    subst hmm
    have key : ∀ i, i < m → ∃ f : Int, w.cell? (a.add i) = some (.int .i64 f) ∧ wfI f := by
      intro i hi
      obtain ⟨cs, hc, ht⟩ := hx i hi
      rw [int_cells] at hc
      obtain ⟨_, hlen, hcell⟩ := World.cells?_some hc
      obtain ⟨s1, g1, _, m1⟩ := DataW.trod_int Try.underlying3 ht
      subst g1
      have e0 := hcell 0 (by omega)
      rw [Go.Deep.add_add] at e0
      exact ⟨s1, by simpa using e0, m1⟩
    obtain ⟨F, hF⟩ := choose_lt key
    have hlenF : ((List.range len).map F).length = len := by simp
    have hget : ∀ i, i < len → ((List.range len).map F).getD i 0 = F i := fun i hi => by simp [List.getD, hi]
    refine ⟨some a, m, (List.range len).map F, by rw [hlenF], ?_, by rw [hlenF]; omega, fun x hx => by
      obtain ⟨i, hi, rfl⟩ := List.mem_map.1 hx
      exact (hF i (by have := List.mem_range.1 hi; omega)).2⟩
    by_cases h0 : len = 0
    · exact .inl (by rw [h0]; rfl)
    · obtain ⟨b, off, spot⟩ := a
      have hc := (hF 0 (by omega)).1
      have hspot : spot = none := by simpa [Addr.add] using World.cell?_spot hc
      subst hspot
      have hbl : b < w.heap.size := by
        have := World.block_lt_of_cell? w _ hc
        simpa [Addr.add] using this
      refine .inr ⟨b, off, rfl, hbl, fun i hi => ?_⟩
      rw [hlenF] at hi
      have e0 := (hF i (by omega)).1
      rw [add_plain] at e0
      rw [hget i hi]
      exact e0

set_option maxRecDepth 100000 in
theorem open_refs {H : Type} {enc : TypeId × Value → H} {w : World} {v : Value} {y : DataW H × List MemPlace} {fuel : Nat}
    (h : DataW.trod enc Try.prog w 0 (fun _ => true) true fuel 31 [v] = some y) :
    ∃ (a : Option Addr) (cap : Nat) (xs : List Tr), v = .slice a xs.length cap ∧ LieT w a xs ∧ FitsT xs ∧ xs.length ≤ maxLen ∧ (∀ t ∈ xs, wfI t.nu) := by
  rcases open_slice Try.underlying31 h with ⟨e0, _⟩ | ⟨a, len, cap, m, n', D, Pl, e0, _, hl, hm, hmm, _, hx⟩
  · simp at e0
    subst e0
    exact ⟨none, 0, [], rfl, .inl rfl, (fun f hf => absurd hf (by simp)), by simp, fun t ht => absurd ht (by simp)⟩
  · simp at e0
    subst e0
    simp only [if_true] at hmm
    subst hmm
    have key : ∀ i, i < m → ∃ f : Tr, w.cell? (a.add (i * 4)) = some (.int .i64 f.nu) ∧ w.cell? (a.add (i * 4 + 1)) = some (.int .i64 f.lv) ∧ w.cell? (a.add (i * 4 + 2)) = some (.string f.lo) ∧ w.cell? (a.add (i * 4 + 3)) = some (.string f.hi) ∧ f.lo.size ≤ maxLen ∧ f.hi.size ≤ maxLen ∧ wfI f.nu := by
      intro i hi
      obtain ⟨cs, hc, ht⟩ := hx i hi
      rw [lRef_cells] at hc
      obtain ⟨_, _, hcell⟩ := World.cells?_some hc
      obtain ⟨ys, k, _, _, hlen, hyl, hfl⟩ := DataW.trod_struct Try.underlying92 ht
      rw [lRef_cells] at hlen
      match ys, hyl with
      | [y0, y1, y2, y3], _ =>
        have t0 := hfl 0 _ rfl
        have t1 := hfl 1 _ rfl
        have t2 := hfl 2 _ rfl
        have t3 := hfl 3 _ rfl
        match cs, hlen with
        | [x0, x1, x2, x3], _ =>
          simp [int_cells, string_cells] at t0 t1 t2 t3
          obtain ⟨s0, g0, _, m0⟩ := DataW.trod_int Try.underlying3 t0
          obtain ⟨s1, g1, _, _⟩ := DataW.trod_int Try.underlying3 t1
          obtain ⟨s2, g2, _, m2⟩ := DataW.trod_string Try.underlying9 t2
          obtain ⟨s3, g3, _, m3⟩ := DataW.trod_string Try.underlying9 t3
          simp at g0 g1 g2 g3
          subst g0 g1 g2 g3
          have e0 := hcell 0 (by omega)
          have e1 := hcell 1 (by omega)
          have e2 := hcell 2 (by omega)
          have e3 := hcell 3 (by omega)
          rw [Go.Deep.add_add] at e0 e1 e2 e3
          exact ⟨⟨s0, s1, s2, s3⟩, by simpa using e0, by simpa using e1, by simpa using e2, by simpa using e3, m2, m3, m0⟩
    haveI : Inhabited Tr := ⟨tr0⟩
    obtain ⟨F, hF⟩ := choose_lt key
    have hlenF : ((List.range len).map F).length = len := by simp
    have hget : ∀ i, i < len → ((List.range len).map F).getD i tr0 = F i := fun i hi => by simp [List.getD, hi]
    refine ⟨some a, m, (List.range len).map F, by rw [hlenF], ?_, ?_, by rw [hlenF]; omega, fun t ht => by
      obtain ⟨i, hi, rfl⟩ := List.mem_map.1 ht
      exact (hF i (by have := List.mem_range.1 hi; omega)).2.2.2.2.2.2⟩
    · by_cases h0 : len = 0
      · exact .inl (by rw [h0]; rfl)
      · obtain ⟨b, off, spot⟩ := a
        have hc := (hF 0 (by omega)).1
        have hspot : spot = none := by simpa [Addr.add] using World.cell?_spot hc
        subst hspot
        have hbl : b < w.heap.size := by
          have := World.block_lt_of_cell? w _ hc
          simpa [Addr.add] using this
        refine .inr ⟨b, off, rfl, hbl, fun i hi => ?_⟩
        rw [hlenF] at hi
        obtain ⟨e0, e1, e2, e3, _⟩ := hF i (by omega)
        rw [add_plain] at e0 e1 e2 e3
        rw [hget i hi]
        exact ⟨e0, e1, e2, e3⟩
    · intro f hf
      obtain ⟨i, hi, rfl⟩ := List.mem_map.1 hf
      obtain ⟨_, _, _, _, z1, z2, _⟩ := hF i (by have := List.mem_range.1 hi; omega)
      exact ⟨z1, z2⟩

set_option maxRecDepth 100000 in
/-- An edit that came in, opened. -/
theorem open_edit {H : Type} {enc : TypeId × Value → H} {w : World} {v : Value} {d : DataW H} {p : List MemPlace} {base : Nat}
    (hv : Value.okWide Try.prog w .any base 35 v) (h : DataW.Trod enc Try.prog w 0 (fun _ => true) true 35 v d p) :
    ∃ (a : Option Addr) (ca : Nat) (b : Option Addr) (cb : Nat) (e : Ed), v = edV a ca b cb e ∧ LieT w a e.ad ∧ FitsT e.ad ∧ LieI w b e.dl ∧ e.ad.length ≤ maxLen ∧ e.dl.length ≤ maxLen ∧ (∀ t ∈ e.ad, wfI t.nu) ∧ (∀ x ∈ e.dl, wfI x) := by
  obtain ⟨cs, rfl, hsz⟩ := okWide_struct Try.underlying35 hv
  rw [lEdit_cells] at hsz
  obtain ⟨l⟩ := cs
  match l, hsz with
  | [x0, x1, x2, x3, x4], _ =>
    obtain ⟨fuel, hf⟩ := h
    obtain ⟨ys, n, _, _, hlen, hyl, hfl⟩ := DataW.trod_struct Try.underlying35 hf
    match ys, hyl with
    | [y0, y1, y2, y3, y4], _ =>
      have t0 := hfl 0 _ rfl
      have t1 := hfl 1 _ rfl
      have t2 := hfl 2 _ rfl
      have t3 := hfl 3 _ rfl
      have t4 := hfl 4 _ rfl
      simp [Value.cells, lRefs_cells, ints_cells, int_cells] at t0 t1 t2 t3 t4
      obtain ⟨a, ca, xs, rfl, hx, hfx, hl1, hw1⟩ := open_refs t0
      obtain ⟨b, cb, ks, rfl, hy, hl2, hw2⟩ := open_nums t1
      obtain ⟨lg, g2, _, _⟩ := DataW.trod_int Try.underlying3 t2
      obtain ⟨nx, g3, _, _⟩ := DataW.trod_int Try.underlying3 t3
      obtain ⟨la, g4, _, _⟩ := DataW.trod_int Try.underlying3 t4
      simp at g2 g3 g4
      subst g2 g3 g4
      exact ⟨a, ca, b, cb, ⟨xs, ks, lg, nx, la⟩, rfl, hx, hfx, hy, hl1, hl2, hw1, hw2⟩

theorem lVersion_cells : Try.prog.cellsOf 33 = 4 := by kernel_rfl
set_option maxRecDepth 100000 in
/-- A version that came in, opened. -/
theorem open_version {H : Type} {enc : TypeId × Value → H} {w : World} {v : Value} {d : DataW H} {p : List MemPlace} {base : Nat}
    (hv : Value.okWide Try.prog w .any base 33 v) (h : DataW.Trod enc Try.prog w 0 (fun _ => true) true 33 v d p) :
    ∃ (a : Option Addr) (ca : Nat) (ts : List Tr) (lg nx la : Int), v = verV a ca ts lg nx la ∧ LieT w a ts ∧ FitsT ts ∧ ts.length ≤ maxLen ∧ (∀ t ∈ ts, wfI t.nu) := by
  obtain ⟨cs, rfl, hsz⟩ := okWide_struct Try.underlying33 hv
  rw [lVersion_cells] at hsz
  obtain ⟨l⟩ := cs
  match l, hsz with
  | [x0, x1, x2, x3], _ =>
    obtain ⟨fuel, hf⟩ := h
    obtain ⟨ys, n, _, _, hlen, hyl, hfl⟩ := DataW.trod_struct Try.underlying33 hf
    match ys, hyl with
    | [y0, y1, y2, y3], _ =>
      have t0 := hfl 0 _ rfl
      have t1 := hfl 1 _ rfl
      have t2 := hfl 2 _ rfl
      have t3 := hfl 3 _ rfl
      simp [Value.cells, lRefs_cells, int_cells] at t0 t1 t2 t3
      obtain ⟨a, ca, xs, rfl, hx, hfx, hl1, hw1⟩ := open_refs t0
      obtain ⟨lg, g1, _, _⟩ := DataW.trod_int Try.underlying3 t1
      obtain ⟨nx, g2, _, _⟩ := DataW.trod_int Try.underlying3 t2
      obtain ⟨la, g3, _, _⟩ := DataW.trod_int Try.underlying3 t3
      simp at g1 g2 g3
      subst g1 g2 g3
      exact ⟨a, ca, xs, lg, nx, la, rfl, hx, hfx, hl1, hw1⟩
end Go.Proofs.Ytigpplcecbgmaae
