import Derived.Test.YtgkhjjnhikbdaaaNaH
import Derived.ProofKit
import Derived.OpenShut
import Derived.ShutString
import Derived.ChangeOld
import Derived.Carry
import Derived.Lib.SmallJoins
import Derived.Deep.Slices
import Derived.Deep.Strs
namespace Go.Proofs.Ytgkhjjnhikbdaaa
open Go.ChangeShapes Go.WideShapes Go.ChangeAt Go.RowKit Go.Joins Go.Deep
set_option linter.unusedVariables false
set_option linter.unusedSimpArgs false

theorem own : ownKnob Try.prog.godebug = none := by kernel_rfl
theorem laidOut : laidOutB Try.prog = true := by kernel_rfl
theorem lEntry_cells : Try.prog.cellsOf 58 = 4 := by kernel_rfl
theorem int_cells : Try.prog.cellsOf 3 = 1 := by kernel_rfl
theorem string_cells : Try.prog.cellsOf 9 = 1 := by kernel_rfl

theorem lists_cells : Try.prog.cellsOf 38 = 1 := by kernel_rfl
set_option maxRecDepth 100000 in
/-- Entries that came in, opened: they lie in memory. -/
theorem open_ents {H : Type} {enc : TypeId × Value → H} {w : World} {v : Value} {y : DataW H × List MemPlace} {fuel : Nat}
    (h : DataW.trod enc Try.prog w 0 (fun _ => true) true fuel 38 [v] = some y) :
    ∃ (a : Option Addr) (cap : Nat) (xs : List En), v = .slice a xs.length cap ∧ LieE w a xs ∧ FitsE xs ∧ xs.length ≤ maxLen := by
  rcases open_slice Try.underlying38 h with ⟨e0, _⟩ | ⟨a, len, cap, m, n', D, Pl, e0, _, hl, hm, hmm, _, hx⟩
  · simp at e0
    subst e0
    exact ⟨none, 0, [], rfl, .inl rfl, (fun f hf => absurd hf (by simp)), by simp⟩
  · simp at e0
    subst e0
    simp only [if_true] at hmm
    subst hmm
    have key : ∀ i, i < m → ∃ f : En, w.cell? (a.add (i * 4)) = some (.string f.ky) ∧ w.cell? (a.add (i * 4 + 1)) = some (.int .i64 f.sq) ∧ w.cell? (a.add (i * 4 + 2)) = some (.int .i64 f.kd) ∧ w.cell? (a.add (i * 4 + 3)) = some (.string f.vl) ∧ f.ky.size ≤ maxLen ∧ f.vl.size ≤ maxLen := by
      intro i hi
      obtain ⟨cs, hc, ht⟩ := hx i hi
      rw [lEntry_cells] at hc
      obtain ⟨_, _, hcell⟩ := World.cells?_some hc
      obtain ⟨ys, k, _, _, hlen, hyl, hfl⟩ := DataW.trod_struct Try.underlying58 ht
      rw [lEntry_cells] at hlen
      match ys, hyl with
      | [y0, y1, y2, y3], _ =>
        have t0 := hfl 0 _ rfl
        have t1 := hfl 1 _ rfl
        have t2 := hfl 2 _ rfl
        have t3 := hfl 3 _ rfl
        match cs, hlen with
        | [x0, x1, x2, x3], _ =>
          simp [int_cells, string_cells] at t0 t1 t2 t3
          obtain ⟨s0, g0, _, m0⟩ := DataW.trod_string Try.underlying9 t0
          obtain ⟨s1, g1, _, _⟩ := DataW.trod_int Try.underlying3 t1
          obtain ⟨s2, g2, _, _⟩ := DataW.trod_int Try.underlying3 t2
          obtain ⟨s3, g3, _, m3⟩ := DataW.trod_string Try.underlying9 t3
          simp at g0 g1 g2 g3
          subst g0 g1 g2 g3
          have e0 := hcell 0 (by omega)
          have e1 := hcell 1 (by omega)
          have e2 := hcell 2 (by omega)
          have e3 := hcell 3 (by omega)
          rw [Go.Deep.add_add] at e0 e1 e2 e3
          exact ⟨⟨s0, s1, s2, s3⟩, by simpa using e0, by simpa using e1, by simpa using e2, by simpa using e3, m0, m3⟩
    haveI : Inhabited En := ⟨en0⟩
    obtain ⟨F, hF⟩ := choose_lt key
    have hlenF : ((List.range len).map F).length = len := by simp
    have hget : ∀ i, i < len → ((List.range len).map F).getD i en0 = F i := fun i hi => by simp [List.getD, hi]
    refine ⟨some a, m, (List.range len).map F, by rw [hlenF], ?_, ?_, by rw [hlenF]; omega⟩
    · by_cases h0 : len = 0
      · exact .inl (by rw [h0]; rfl)
      · obtain ⟨b, off, spot⟩ := a
        have hc := (hF 0 (by omega)).1
        have hspot : spot = none := by simpa [Addr.add] using World.cell?_spot hc
        subst hspot
        have hbl : b < w.heap.size := by
          have := World.block_lt_of_cell? w _ hc
          simpa [Addr.add] using this
        refine .inr ⟨b, off, rfl, hbl, fun i hi => ?_⟩
        rw [hlenF] at hi
        obtain ⟨e0, e1, e2, e3, _⟩ := hF i (by omega)
        rw [add_plain] at e0 e1 e2 e3
        rw [hget i hi]
        exact ⟨e0, e1, e2, e3⟩
    · intro f hf
      obtain ⟨i, hi, rfl⟩ := List.mem_map.1 hf
      exact (hF i (by have := List.mem_range.1 hi; omega)).2.2.2.2

set_option maxRecDepth 100000 in
/-- Lists of entries that came in, opened. -/
theorem open_lists {H : Type} {enc : TypeId × Value → H} {w : World} {v : Value} {d : DataW H} {p : List MemPlace} {base : Nat}
    (hv : Value.okWide Try.prog w .any base 22 v) (h : DataW.Trod enc Try.prog w 0 (fun _ => true) true 22 v d p) :
    ∃ (a : Option Addr) (cap : Nat) (L : List LV), v = .slice a L.length cap ∧ LieSS w a L ∧ FitsSS L ∧ L.length ≤ maxLen := by
  obtain ⟨a0, len0, cap0, rfl⟩ := okWide_slice Try.underlying22 hv
  obtain ⟨fuel, h0⟩ := h
  have h0' : DataW.trod enc Try.prog w 0 (fun _ => true) true fuel 22 [.slice a0 len0 cap0] = some (d, p) := h0
  rcases open_slice Try.underlying22 h0' with ⟨e0, _⟩ | ⟨a, len, cap, m, n', D, Pl, e0, _, hl, hm, hmm, _, hx⟩
  · simp at e0
    obtain ⟨rfl, rfl, rfl⟩ := e0
    exact ⟨none, 0, [], rfl, .inl rfl, (fun i hi => absurd hi (by simp)), by simp⟩
  · simp at e0
    obtain ⟨rfl, rfl, rfl⟩ := e0
    simp only [if_true] at hmm
    subst hmm
    have key : ∀ i, i < m → ∃ f : LV, w.cell? (a.add i) = some (.slice f.a f.xs.length f.cap) ∧ LieE w f.a f.xs ∧ FitsE f.xs ∧ f.xs.length ≤ maxLen := by
      intro i hi
      obtain ⟨cs, hc, ht⟩ := hx i hi
      rw [lists_cells] at hc
      obtain ⟨_, hlen, hcell⟩ := World.cells?_some hc
      have e0 := hcell 0 (by omega)
      rw [Go.Deep.add_add] at e0
      match cs, hlen with
      | [v'], _ =>
        obtain ⟨a', cap', xs, rfl, h1, h2, h3⟩ := open_ents ht
        exact ⟨⟨a', cap', xs⟩, by simpa using e0, h1, h2, h3⟩
    haveI : Inhabited LV := ⟨lv0⟩
    obtain ⟨F, hF⟩ := choose_lt key
    have hlenF : ((List.range len0).map F).length = len0 := by simp
    have hget : ∀ i, i < len0 → ((List.range len0).map F).getD i lv0 = F i := fun i hi => by simp [List.getD, hi]
    refine ⟨some a, m, (List.range len0).map F, by rw [hlenF], ?_, ?_, by rw [hlenF]; omega⟩
    · by_cases h0 : len0 = 0
      · exact .inl (by rw [h0]; rfl)
      · obtain ⟨b, off, spot⟩ := a
        have hc := (hF 0 (by omega)).1
        have hspot : spot = none := by simpa [Addr.add] using World.cell?_spot hc
        subst hspot
        have hbl : b < w.heap.size := by
          have := World.block_lt_of_cell? w _ hc
          simpa [Addr.add] using this
        refine .inr ⟨b, off, rfl, hbl, fun i hi => ?_⟩
        rw [hlenF] at hi
        obtain ⟨e0, e1, _⟩ := hF i (by omega)
        rw [add_plain] at e0
        rw [hget i hi]
        exact ⟨e0, e1⟩
    · intro i hi
      rw [hlenF] at hi
      rw [hget i hi]
      exact (hF i (by omega)).2.2

set_option maxRecDepth 100000 in
theorem lifted (os : Os) (started : os.Started) (H : Type) (enc : TypeId × Value → H) :
    ReturnsInHanded {} Try.checked os 3 .any (Rows.fnExactNewestSpec.pre6 enc Try.prog Try.f3 Rows.fnExactNewestRow.domain false) (Rows.fnExactNewestSpec.post enc Try.prog Try.f3 false true false false) := by
  refine returnsInHanded_of_change (C := Try.checked) own started (by kernel_rfl) Try.func3
    (ChangeSpec.witness6 (enc := enc) (C := Try.checked) false ⟨#[], #[.slice none 0 0], []⟩ 8 (by kernel_rfl) (by kernel_rfl) (by kernel_rfl) (by kernel_rfl)) ?_
  intro W base args ds gs before hval0 hW hcnd _
  have hval : ∀ (j : Nat) t v, Try.f3.params[j]? = some t → args[j]? = some v → Value.okWide Try.prog W .any base t v := hval0
  have hW' := hW
  obtain ⟨p, q, hA0, hV, rfl, hfz, hnd⟩ := hW
  have hA : DataW.TrodAll enc Try.prog W 0 (fun _ => true) true Try.f3.params.toList args.toList ds p := hA0
  rw [Try.params3] at hA hval
  obtain ⟨v0, d0, rfl, rfl, h0⟩ := trodAll_one hA
  obtain ⟨rfl, rfl⟩ := trodVars_none hV
  have k0 := h0
  have lt0 : ∀ x ∈ p, x.block < W.heap.size := by obtain ⟨m, hm⟩ := k0; exact DataW.trod_lt m _ _ _ hm
  obtain ⟨a, cap, L, rfl, hx, hf, hlen⟩ := open_lists (hval 0 22 v0 rfl rfl) h0
  clear hA0 hval0
  refine (lawNew_any a cap L W hx hf hlen).mono fun e W' ⟨he, bel⟩ => ?_
  subst he
  exact ⟨_, rfl, _, _, _, [], _, [], hW', trodAll_mk1 (shut_bool Try.underlying4 _), (trodAll_mk1 (Below.trod laidOut (by kernel_rfl) (of_decide_eq_true (by kernel_rfl)) k0 bel lt0)), rfl, bel.frame _, fun h => by cases h⟩

theorem over : Rows.fnExactNewestRow.holds Try.pinned (OpenSpec.ofChange Rows.fnExactNewestSpec) :=
  OpenClaim.holds_of_wide 3 Try.f3 rfl rfl rfl rfl rfl rfl rfl ⟨rfl, rfl, rfl, rfl, rfl⟩ rfl rfl rfl rfl rfl (by kernel_rfl) Try.func3 (by kernel_rfl)
    (of_decide_eq_true (by kernel_rfl)) (by unfold Func.isWrapper; first | (rw [if_pos (by decide +kernel)]; kernel_rfl) | (rw [if_neg (by decide +kernel)]; exact ⟨rfl, rfl⟩))
    (fun os started H enc _ => lifted os started H enc)

theorem fnExactNewest_holds : Rows.FnExactNewestSaid := over
#print axioms fnExactNewest_holds
end Go.Proofs.Ytgkhjjnhikbdaaa
