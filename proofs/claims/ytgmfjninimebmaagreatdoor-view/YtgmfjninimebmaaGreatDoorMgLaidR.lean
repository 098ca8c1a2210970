import Derived.Test.YtgmfjninimebmaaGreatDoorCrcLaid
import Derived.Lay
import Derived.ProofKit
import Derived.OpenShut
import Derived.ShutString
import Derived.ChangeOld
import Derived.Carry
import Derived.Lib.SmallJoins
import Derived.Deep.Slices
import Derived.Deep.Strs
namespace Go.Proofs.YtgmfjninimebmaaGreatDoor
open Go.ChangeShapes Go.WideShapes Go.ChangeAt Go.RowKit
open Go.ChangeMaps (open_string shut_string)
set_option linter.unusedVariables false
set_option linter.unusedSimpArgs false

abbrev laidR : List (String × DataW Unit) := [("unicode/utf8.acceptRanges", Rows.laid_unicode_utf8_acceptRanges), ("loop.example/s01733/impl.crcSteps", Rows.laid_loop_example_s01733_impl_crcSteps), ("unicode/utf8.first", Rows.laid_unicode_utf8_first)]

set_option maxRecDepth 100000 in
theorem doorR_met (os : Os) (args : Array Value) : laidMetH Tryz.prog laidR ((World.laidAll Tryz.prog os laidR).forCall (fun _ _ => 0) ⟨#[], args, []⟩).memory := by
  rw [MakeChecks.laidMetH_plain _ _ _ (by kernel_rfl)]
  exact laidMet_laidAll _ (by kernel_rfl) (by kernel_rfl)

set_option maxRecDepth 100000 in
theorem var_of_laidR {W : World} (h : laidMetH Tryz.prog laidR W) : W.var? Tryz.prog "loop.example/s01733/impl.crcSteps" = some tabCells := by
  rw [MakeChecks.laidMetH_plain _ _ _ (by kernel_rfl)] at h
  obtain ⟨ps, ⟨_, _, _, _, _, _, _, _, _, _, ⟨g0, t0, cs0, f0, p0, q0, hg0, ht0, hv0, hd0, _⟩, _⟩, _, _⟩ := h
  obtain rfl := Option.some.inj (gSteps.symm.trans hg0)
  obtain rfl := Option.some.inj (tSteps.symm.trans ht0)
  rw [hv0, tab_of_trod hd0]

end Go.Proofs.YtgmfjninimebmaaGreatDoor
namespace Go.Proofs.YtgmfjninimebmaaGreatDoor
open Go.ChangeShapes Go.WideShapes Go.ChangeAt Go.RowKit Go.Joins Go.Deep
set_option linter.unusedVariables false
set_option linter.unusedSimpArgs false

theorem lFS_cells : Tryz.prog.cellsOf 24 = 3 := by kernel_rfl
theorem lFS_one : oneCellFields Tryz.prog #[{ name := "Files", type := 22, offset := 0, embedded := false, tag := "", pkgPath := "", byteOffset := 0 }, { name := "Quota", type := 3, offset := 1, embedded := false, tag := "", pkgPath := "", byteOffset := 24 }, { name := "Fuel", type := 3, offset := 2, embedded := false, tag := "", pkgPath := "", byteOffset := 32 }] = true := by kernel_rfl
theorem lFile_cells : Tryz.prog.cellsOf 65 = 3 := by kernel_rfl
theorem int_cells : Tryz.prog.cellsOf 3 = 1 := by kernel_rfl
theorem string_cells : Tryz.prog.cellsOf 9 = 1 := by kernel_rfl

set_option maxRecDepth 100000 in
/-- A directory that came in, opened: its files lie in memory. -/
theorem open_fs {H : Type} {enc : TypeId × Value → H} {w : World} {v : Value} {d : DataW H} {p : List MemPlace} {base : Nat}
    (hv : Value.okWide Tryz.prog w .any base 24 v) (h : DataW.Trod enc Tryz.prog w 0 (fun _ => true) true 24 v d p) :
    ∃ (a : Option Addr) (cap : Nat) (xs : List Fl) (q fu : Int), v = .agg #[.slice a xs.length cap, .int .i64 q, .int .i64 fu] ∧ Lie w a xs ∧ Fits xs ∧ xs.length ≤ maxLen ∧ fu ≤ 9223372036854775807 := by
  obtain ⟨v0, v1, v2, y0, y1, y2, n, rfl, rfl, rfl, h0, h1, h2⟩ := open_agg3 Tryz.underlying24 lFS_one lFS_cells hv h
  obtain ⟨q, e1, rfl, wq⟩ := DataW.trod_int Tryz.underlying3 h1
  obtain ⟨fu, e2, rfl, wf⟩ := DataW.trod_int Tryz.underlying3 h2
  simp at e1 e2
  subst e1 e2
  have hfu : fu ≤ 9223372036854775807 := by
    have := wf
    simp only [Lit.wf, Bool.and_eq_true, decide_eq_true_eq] at this
    have hm : IntKind.i64.max = 9223372036854775807 := by decide
    omega
  rcases open_slice Tryz.underlying22 h0 with ⟨e0, rfl⟩ | ⟨a, len, cap, m, n', D, Pl, e0, _, hl, hm, hmm, rfl, hx⟩
  · simp at e0
    subst e0
    exact ⟨none, 0, [], q, fu, rfl, .inl rfl, (fun f hf => absurd hf (by simp)), by simp, hfu⟩
  · simp at e0
    subst e0
    simp only [if_true] at hmm
    subst hmm
    have key : ∀ i, i < m → ∃ f : Fl, w.cell? (a.add (i * 3)) = some (.string f.nm) ∧ w.cell? (a.add (i * 3 + 1)) = some (.string f.dt) ∧ w.cell? (a.add (i * 3 + 2)) = some (.int .i64 f.sy) ∧ f.nm.size ≤ maxLen ∧ f.dt.size ≤ maxLen := by
      intro i hi
      obtain ⟨cs, hc, ht⟩ := hx i hi
      rw [lFile_cells] at hc
      obtain ⟨_, _, hcell⟩ := World.cells?_some hc
      obtain ⟨z0, z1, z2, k, _, hlen, t0, t1, t2⟩ := trod_struct3 Tryz.underlying65 ht
      rw [lFile_cells] at hlen
      match cs, hlen with
      | [x0, x1, x2], _ =>
        simp [int_cells, string_cells] at t0 t1 t2
        obtain ⟨s0, g0, _, m0⟩ := DataW.trod_string Tryz.underlying9 t0
        obtain ⟨s1, g1, _, m1⟩ := DataW.trod_string Tryz.underlying9 t1
        obtain ⟨s2, g2, _, _⟩ := DataW.trod_int Tryz.underlying3 t2
        simp at g0 g1 g2
        subst g0 g1 g2
        have e0 := hcell 0 (by omega)
        have e1 := hcell 1 (by omega)
        have e2 := hcell 2 (by omega)
        rw [Go.Deep.add_add] at e0 e1 e2
        exact ⟨⟨s0, s1, s2⟩, by simpa using e0, by simpa using e1, by simpa using e2, m0, m1⟩
    haveI : Inhabited Fl := ⟨fl0⟩
    obtain ⟨F, hF⟩ := choose_lt key
    have hlenF : ((List.range len).map F).length = len := by simp
    have hget : ∀ i, i < len → ((List.range len).map F).getD i fl0 = F i := fun i hi => by simp [List.getD, hi]
    refine ⟨some a, m, (List.range len).map F, q, fu, by rw [hlenF], ?_, ?_, by rw [hlenF]; omega, hfu⟩
    · by_cases h0 : len = 0
      · exact .inl (by rw [h0]; rfl)
      · obtain ⟨b, off, spot⟩ := a
        have hc := (hF 0 (by omega)).1
        have hspot : spot = none := by simpa [Addr.add] using World.cell?_spot hc
        subst hspot
        have hbl : b < w.heap.size := by
          have := World.block_lt_of_cell? w _ hc
          simpa [Addr.add] using this
        refine .inr ⟨b, off, rfl, hbl, fun i hi => ?_⟩
        rw [hlenF] at hi
        obtain ⟨e0, e1, e2, _⟩ := hF i (by omega)
        rw [add_plain] at e0 e1 e2
        rw [hget i hi]
        exact ⟨e0, e1, e2⟩
    · intro f hf
      obtain ⟨i, hi, rfl⟩ := List.mem_map.1 hf
      exact (hF i (by have := List.mem_range.1 hi; omega)).2.2.2

end Go.Proofs.YtgmfjninimebmaaGreatDoor
