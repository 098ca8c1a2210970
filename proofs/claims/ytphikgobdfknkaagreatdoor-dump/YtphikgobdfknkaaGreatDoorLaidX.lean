import Derived.Test.YtphikgobdfknkaaGreatDoorLawDump
import Derived.Test.YtphikgobdfknkaaGreatDoorCards
import Derived.Test.YtphikgobdfknkaaGreatDoorTie
import Derived.ProofKit
import Derived.OpenShut
import Derived.ShutString
import Derived.ChangeOld
import Derived.Carry
import Derived.Lib.SmallJoins
import Derived.Deep.Slices
import Derived.Deep.Strs
import Derived.LaidMore
import Derived.Stop.Joined
import Derived.SevenTiedAt
import Derived.Lay
import Derived.Stop.LaidErr
import Derived.Lib.LaidTab
namespace Go.Proofs.YtphikgobdfknkaaGreatDoor
open Go.ChangeShapes Go.WideShapes Go.ChangeAt Go.RowKit
open Go.ChangeMaps (open_string shut_string)
set_option linter.unusedVariables false
set_option linter.unusedSimpArgs false

theorem own : ownKnob Tryz.prog.godebug = none := by kernel_rfl
theorem laidOut : laidOutB Tryz.prog = true := by kernel_rfl
theorem gSteps : Tryz.prog.globalNamed "loop.example/s01733/impl.crcSteps" = some 3 := by kernel_rfl
theorem tSteps : (Tryz.prog.globals[3]?).map (·.type) = some 225 := by kernel_rfl

/-- The table's cells. -/
def tabCells : Array Value := #[.int .u32 0, .int .u32 274646895, .int .u32 549293790, .int .u32 820201905, .int .u32 1098587580, .int .u32 1361435347, .int .u32 1640403810, .int .u32 1905808397, .int .u32 2197175160, .int .u32 2460548119, .int .u32 2722870694, .int .u32 2987750089, .int .u32 3280807620, .int .u32 3553878443, .int .u32 3811616794, .int .u32 4084100981]
abbrev tabH {H : Type} : DataW H := .agg [.lit (.int .u32 0), .lit (.int .u32 274646895), .lit (.int .u32 549293790), .lit (.int .u32 820201905), .lit (.int .u32 1098587580), .lit (.int .u32 1361435347), .lit (.int .u32 1640403810), .lit (.int .u32 1905808397), .lit (.int .u32 2197175160), .lit (.int .u32 2460548119), .lit (.int .u32 2722870694), .lit (.int .u32 2987750089), .lit (.int .u32 3280807620), .lit (.int .u32 3553878443), .lit (.int .u32 3811616794), .lit (.int .u32 4084100981)]

theorem reads_tab {H : Type} (enc : TypeId × Value → H) (W : World) (sp : Nat → Bool) : DataW.trod enc Tryz.prog W 0 sp true 3 225 tabCells.toList = some (tabH, []) := by kernel_rfl

theorem tab_of_trod {enc : TypeId × Value → Unit} {W : World} {sp : Nat → Bool} {held : Bool} {fuel : Nat} {cs : Array Value} {p : List MemPlace}
    (hd : DataW.trod enc Tryz.prog W 0 sp held fuel 225 cs.toList = some (tabH, p)) : cs = tabCells := by
  obtain ⟨xs, m, rfl, hx, hlen, hn, hel⟩ := DataW.trod_array Tryz.underlying225 hd
  have c1 : Tryz.prog.cellsOf 77 = 1 := by kernel_rfl
  have c16 : Tryz.prog.cellsOf 225 = 16 := by kernel_rfl
  rw [c16] at hlen
  simp only [Prod.mk.injEq, DataW.agg.injEq] at hx
  have key : ∀ i, i < 16 → ∃ k, cs.toList[i]? = some (.int .u32 k) ∧ (xs.map (·.1))[i]? = some (.lit (.int .u32 k)) := fun i hi => by
    have h := hel i hi
    rw [c1, Nat.mul_one] at h
    obtain ⟨y, hy⟩ : ∃ y, xs[i]? = some y := ⟨xs[i]'(by omega), List.getElem?_eq_getElem (by omega)⟩
    rw [hy] at h
    obtain ⟨k, e1, e2, _⟩ := DataW.trod_int Tryz.underlying77 h
    refine ⟨k, ?_, by simp [hy, e2]⟩
    have e3 := congrArg (fun l => l[0]?) e1
    simp [List.getElem?_take] at e3
    simpa using e3
  apply Array.ext'
  apply List.ext_getElem?
  intro i
  rcases Nat.lt_or_ge i 16 with hi | hi
  · obtain ⟨k, e1, e2⟩ := key i hi
    rw [e1]
    rw [← hx.1] at e2
    have : i = 0 ∨ i = 1 ∨ i = 2 ∨ i = 3 ∨ i = 4 ∨ i = 5 ∨ i = 6 ∨ i = 7 ∨ i = 8 ∨ i = 9 ∨ i = 10 ∨ i = 11 ∨ i = 12 ∨ i = 13 ∨ i = 14 ∨ i = 15 := by omega
    rcases this with rfl | rfl | rfl | rfl | rfl | rfl | rfl | rfl | rfl | rfl | rfl | rfl | rfl | rfl | rfl | rfl <;> (simp at e2; subst e2; rfl)
  · rw [List.getElem?_eq_none (by omega), List.getElem?_eq_none (by show 16 ≤ i; omega)]

theorem var_lt {W : World} {cs : Array Value} (h : W.var? Tryz.prog "loop.example/s01733/impl.crcSteps" = some cs) : 3 < W.heap.size := by
  simp only [World.var?, gSteps, Option.bind_some] at h
  by_cases hlt : 3 < W.heap.size
  · exact hlt
  · rw [Array.getElem?_eq_none (by omega)] at h; cases h
theorem steps_of_var {W : World} (h : W.var? Tryz.prog "loop.example/s01733/impl.crcSteps" = some tabCells) : Steps W := by
  refine ⟨var_lt h, fun i hi => ?_⟩
  rw [World.var?_cell gSteps h i]
  have : i = 0 ∨ i = 1 ∨ i = 2 ∨ i = 3 ∨ i = 4 ∨ i = 5 ∨ i = 6 ∨ i = 7 ∨ i = 8 ∨ i = 9 ∨ i = 10 ∨ i = 11 ∨ i = 12 ∨ i = 13 ∨ i = 14 ∨ i = 15 := by omega
  rcases this with rfl | rfl | rfl | rfl | rfl | rfl | rfl | rfl | rfl | rfl | rfl | rfl | rfl | rfl | rfl | rfl <;> rfl
theorem var_belowB {W W' : World} {cs : Array Value} (h : W.var? Tryz.prog "loop.example/s01733/impl.crcSteps" = some cs) (hb : Below W.heap.size W W') : W'.var? Tryz.prog "loop.example/s01733/impl.crcSteps" = some cs := by
  have hlt := var_lt h
  simp only [World.var?, gSteps, Option.bind_some] at h ⊢
  rw [hb.block 3 hlt]
  exact h
/-- The variable reads behind the call as it read before. -/
theorem vars_below {H : Type} (enc : TypeId × Value → H) {W W' : World} (h : W.var? Tryz.prog "loop.example/s01733/impl.crcSteps" = some tabCells) (hb : Below W.heap.size W W') (sp : Nat → Bool) :
    DataW.TrodVars enc Tryz.prog W' sp ["loop.example/s01733/impl.crcSteps"] [tabH] (MemPlace.row ⟨3, 0, none⟩ tabCells.size ++ [] ++ []) :=
  ⟨3, 225, tabCells, 3, [], [], gSteps, tSteps, var_belowB h hb, reads_tab enc W' sp, rfl, rfl⟩
end Go.Proofs.YtphikgobdfknkaaGreatDoor
namespace Go.Proofs.YtphikgobdfknkaaGreatDoor
open Go.ChangeShapes Go.WideShapes Go.ChangeAt Go.RowKit
open Go.ChangeMaps (open_string shut_string)
set_option linter.unusedVariables false
set_option linter.unusedSimpArgs false

abbrev laidD : List (String × DataW Unit) := [("math/bits.deBruijn32tab", Rows.laid_math_bits_deBruijn32tab), ("math/bits.deBruijn64tab", Rows.laid_math_bits_deBruijn64tab), ("internal/strconv.uint64pow10", Rows.laid_internal_strconv_uint64pow10), ("unicode/utf8.acceptRanges", Rows.laid_unicode_utf8_acceptRanges), ("strconv.ErrRange", Rows.laid_strconv_ErrRange), ("strconv.ErrSyntax", Rows.laid_strconv_ErrSyntax), ("loop.example/s01733/impl.crcSteps", Rows.laid_loop_example_s01733_impl_crcSteps), ("unicode/utf8.first", Rows.laid_unicode_utf8_first)]

set_option maxRecDepth 100000 in
theorem doorD_met (os : Os) (args : Array Value) : laidMetH Tryz.prog laidD ((World.laidAll Tryz.prog os laidD).forCall (fun _ _ => 0) ⟨#[], args, []⟩).memory := by
  rw [MakeChecks.laidMetH_plain _ _ _ (by kernel_rfl)]
  exact laidMet_laidAll _ (by kernel_rfl) (by kernel_rfl)

theorem starES : "*" ++ "errors.errorString" = "*errors.errorString" := by decide
theorem rowES (u : TypeId) (h : Tryz.prog.typeName? 3 u = some "*errors.errorString") : u = 239 :=
  typeName_ptr_named (nm := "errors.errorString") (by rw [starES]; kernel_rfl) (by kernel_rfl) (by decide) u (by rw [starES]; exact h)
set_option maxRecDepth 100000 in
theorem var_of_laidD {W : World} (h : laidMetH Tryz.prog laidD W) : W.var? Tryz.prog "loop.example/s01733/impl.crcSteps" = some tabCells ∧ VarsN W := by
  rw [MakeChecks.laidMetH_plain _ _ _ (by kernel_rfl)] at h
  have h2 := h.tail.tail
  have h4 := h2.tail.tail
  have h5 := h4.tail
  have h6 := h5.tail
  refine ⟨?_, ?_, ?_, ?_⟩
  · obtain ⟨ps, ⟨g0, t0, cs0, f0, p0, q0, hg0, ht0, hv0, hd0, _⟩, _, _⟩ := h6
    obtain rfl := Option.some.inj (gSteps.symm.trans hg0)
    obtain rfl := Option.some.inj (tSteps.symm.trans ht0)
    rw [hv0, tab_of_trod hd0]
  · exact Lib.tabIs_of_head (g := 0) (t := 194) (e := 180) (n := 20) (by kernel_rfl) (by kernel_rfl) (by kernel_rfl) (by kernel_rfl) (by kernel_rfl) (by kernel_rfl) (show laidMet Tryz.prog (("internal/strconv.uint64pow10", Lib.tabData .u64 Lib.pow10Tab) :: _) W from h2)
  · obtain ⟨a0, s0, hv0, -, -, -⟩ := laid_sentinel h5 (g := 1) (ti := 100) (tp := 239) (te := 241) (ts := 9) (by kernel_rfl) (by kernel_rfl) Tryz.underlying100 rowES Tryz.underlying239 Tryz.underlying241 rfl rfl Tryz.underlying9 (by kernel_rfl) (by kernel_rfl)
    exact ⟨_, _, hv0⟩
  · obtain ⟨a0, s0, hv0, -, -, -⟩ := laid_sentinel h4 (g := 2) (ti := 100) (tp := 239) (te := 241) (ts := 9) (by kernel_rfl) (by kernel_rfl) Tryz.underlying100 rowES Tryz.underlying239 Tryz.underlying241 rfl rfl Tryz.underlying9 (by kernel_rfl) (by kernel_rfl)
    exact ⟨_, _, hv0⟩
end Go.Proofs.YtphikgobdfknkaaGreatDoor
namespace Go.Proofs.YtphikgobdfknkaaGreatDoor
open Go.ChangeShapes Go.WideShapes Go.ChangeAt Go.RowKit Go.Joins Go.Deep
set_option linter.unusedVariables false
set_option linter.unusedSimpArgs false

theorem lFS_cells : Tryz.prog.cellsOf 24 = 3 := by kernel_rfl
theorem lFS_one : oneCellFields Tryz.prog #[{ name := "Files", type := 22, offset := 0, embedded := false, tag := "", pkgPath := "", byteOffset := 0 }, { name := "Quota", type := 3, offset := 1, embedded := false, tag := "", pkgPath := "", byteOffset := 24 }, { name := "Fuel", type := 3, offset := 2, embedded := false, tag := "", pkgPath := "", byteOffset := 32 }] = true := by kernel_rfl
theorem lFile_cells : Tryz.prog.cellsOf 57 = 3 := by kernel_rfl
theorem int_cells : Tryz.prog.cellsOf 3 = 1 := by kernel_rfl
theorem string_cells : Tryz.prog.cellsOf 9 = 1 := by kernel_rfl

set_option maxRecDepth 100000 in
/-- A directory that came in, opened: its files lie in memory. -/
theorem open_fs {H : Type} {enc : TypeId × Value → H} {w : World} {v : Value} {d : DataW H} {p : List MemPlace} {base : Nat}
    (hv : Value.okWide Tryz.prog w .any base 24 v) (h : DataW.Trod enc Tryz.prog w 0 (fun _ => true) true 24 v d p) :
    ∃ (a : Option Addr) (cap : Nat) (xs : List Fl) (q fu : Int), v = .agg #[.slice a xs.length cap, .int .i64 q, .int .i64 fu] ∧ Lie w a xs ∧ Fits xs ∧ xs.length ≤ maxLen ∧ fu ≤ 9223372036854775807 := by
  obtain ⟨v0, v1, v2, y0, y1, y2, n, rfl, rfl, rfl, h0, h1, h2⟩ := open_agg3 Tryz.underlying24 lFS_one lFS_cells hv h
  obtain ⟨q, e1, rfl, wq⟩ := DataW.trod_int Tryz.underlying3 h1
  obtain ⟨fu, e2, rfl, wf⟩ := DataW.trod_int Tryz.underlying3 h2
  simp at e1 e2
  subst e1 e2
  have hfu : fu ≤ 9223372036854775807 := by
    have := wf
    simp only [Lit.wf, Bool.and_eq_true, decide_eq_true_eq] at this
    have hm : IntKind.i64.max = 9223372036854775807 := by decide
    omega
  rcases open_slice Tryz.underlying22 h0 with ⟨e0, rfl⟩ | ⟨a, len, cap, m, n', D, Pl, e0, _, hl, hm, hmm, rfl, hx⟩
  · simp at e0
    subst e0
    exact ⟨none, 0, [], q, fu, rfl, .inl rfl, (fun f hf => absurd hf (by simp)), by simp, hfu⟩
  · simp at e0
    subst e0
    simp only [if_true] at hmm
    subst hmm
    have key : ∀ i, i < m → ∃ f : Fl, w.cell? (a.add (i * 3)) = some (.string f.nm) ∧ w.cell? (a.add (i * 3 + 1)) = some (.string f.dt) ∧ w.cell? (a.add (i * 3 + 2)) = some (.int .i64 f.sy) ∧ f.nm.size ≤ maxLen ∧ f.dt.size ≤ maxLen := by
      intro i hi
      obtain ⟨cs, hc, ht⟩ := hx i hi
      rw [lFile_cells] at hc
      obtain ⟨_, _, hcell⟩ := World.cells?_some hc
      obtain ⟨z0, z1, z2, k, _, hlen, t0, t1, t2⟩ := trod_struct3 Tryz.underlying57 ht
      rw [lFile_cells] at hlen
      match cs, hlen with
      | [x0, x1, x2], _ =>
        simp [int_cells, string_cells] at t0 t1 t2
        obtain ⟨s0, g0, _, m0⟩ := DataW.trod_string Tryz.underlying9 t0
        obtain ⟨s1, g1, _, m1⟩ := DataW.trod_string Tryz.underlying9 t1
        obtain ⟨s2, g2, _, _⟩ := DataW.trod_int Tryz.underlying3 t2
        simp at g0 g1 g2
        subst g0 g1 g2
        have e0 := hcell 0 (by omega)
        have e1 := hcell 1 (by omega)
        have e2 := hcell 2 (by omega)
        rw [Go.Deep.add_add] at e0 e1 e2
        exact ⟨⟨s0, s1, s2⟩, by simpa using e0, by simpa using e1, by simpa using e2, m0, m1⟩
    haveI : Inhabited Fl := ⟨fl0⟩
    obtain ⟨F, hF⟩ := choose_lt key
    have hlenF : ((List.range len).map F).length = len := by simp
    have hget : ∀ i, i < len → ((List.range len).map F).getD i fl0 = F i := fun i hi => by simp [List.getD, hi]
    refine ⟨some a, m, (List.range len).map F, q, fu, by rw [hlenF], ?_, ?_, by rw [hlenF]; omega, hfu⟩
    · by_cases h0 : len = 0
      · exact .inl (by rw [h0]; rfl)
      · obtain ⟨b, off, spot⟩ := a
        have hc := (hF 0 (by omega)).1
        have hspot : spot = none := by simpa [Addr.add] using World.cell?_spot hc
        subst hspot
        have hbl : b < w.heap.size := by
          have := World.block_lt_of_cell? w _ hc
          simpa [Addr.add] using this
        refine .inr ⟨b, off, rfl, hbl, fun i hi => ?_⟩
        rw [hlenF] at hi
        obtain ⟨e0, e1, e2, _⟩ := hF i (by omega)
        rw [add_plain] at e0 e1 e2
        rw [hget i hi]
        exact ⟨e0, e1, e2⟩
    · intro f hf
      obtain ⟨i, hi, rfl⟩ := List.mem_map.1 hf
      exact (hF i (by have := List.mem_range.1 hi; omega)).2.2.2

end Go.Proofs.YtphikgobdfknkaaGreatDoor
