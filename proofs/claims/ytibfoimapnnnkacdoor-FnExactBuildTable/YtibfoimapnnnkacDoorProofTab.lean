
import Derived.Test.YtibfoimapnnnkacDoorCrcLaid
import Derived.Test.YtibfoimapnnnkacDoorTbM
import Derived.Test.YtibfoimapnnnkacDoorTbD
namespace Go.Proofs.YtibfoimapnnnkacDoor
open Go.ChangeShapes Go.WideShapes Go.ChangeAt Go.RowKit Go.Joins Go.Deep
set_option linter.unusedVariables false
set_option linter.unusedSimpArgs false

abbrev laidL : List (String × DataW Unit) := [("loop.example/s01733/impl.crcSteps", Rows.laid_loop_example_s01733_impl_crcSteps)]

theorem door_met (os : Os) (args : Array Value) : laidMetH Tryd.prog laidL ((World.doorLaid Tryd.prog 400 os).forCall (fun _ _ => 0) ⟨#[], args, []⟩).memory :=
  laidMetH_of_parts3 (fuel := 8) (laidMet_of_run' 8 (by kernel_rfl) (by kernel_rfl)) (by kernel_rfl) (by kernel_rfl)

theorem var_of_laid {W : World} (h : laidMetH Tryd.prog laidL W) : W.var? Tryd.prog "loop.example/s01733/impl.crcSteps" = some tabCells := by
  rw [MakeChecks.laidMetH_plain _ _ _ (by kernel_rfl)] at h
  obtain ⟨ps, ⟨g0, t0, cs0, f0, p0, q0, hg0, ht0, hv0, hd0, _⟩, _, _⟩ := h
  obtain rfl := Option.some.inj (gSteps.symm.trans hg0)
  obtain rfl := Option.some.inj (tSteps.symm.trans ht0)
  rw [hv0, tab_of_trod hd0]

theorem lEntry_cells : Tryd.prog.cellsOf 47 = 4 := by kernel_rfl
theorem int_cells : Tryd.prog.cellsOf 3 = 1 := by kernel_rfl
theorem string_cells : Tryd.prog.cellsOf 9 = 1 := by kernel_rfl

set_option maxRecDepth 100000 in
/-- Entries that came in, opened: they lie in memory. -/
theorem open_entries {H : Type} {enc : TypeId × Value → H} {w : World} {v : Value} {d : DataW H} {p : List MemPlace} {base : Nat}
    (hv : Value.okWide Tryd.prog w .any base 22 v) (h : DataW.Trod enc Tryd.prog w 0 (fun _ => true) true 22 v d p) :
    ∃ (a : Option Addr) (cap : Nat) (xs : List En), v = .slice a xs.length cap ∧ LieE w a xs ∧ FitsE xs ∧ xs.length ≤ maxLen := by
  obtain ⟨a0, len0, cap0, rfl⟩ := okWide_slice Tryd.underlying22 hv
  obtain ⟨fuel, h0⟩ := h
  have h0' : DataW.trod enc Tryd.prog w 0 (fun _ => true) true fuel 22 [.slice a0 len0 cap0] = some (d, p) := h0
  rcases open_slice Tryd.underlying22 h0' with ⟨e0, _⟩ | ⟨a, len, cap, m, n', D, Pl, e0, _, hl, hm, hmm, _, hx⟩
  · simp at e0
    obtain ⟨rfl, rfl, rfl⟩ := e0
    exact ⟨none, 0, [], rfl, .inl rfl, (fun f hf => absurd hf (by simp)), by simp⟩
  · simp at e0
    obtain ⟨rfl, rfl, rfl⟩ := e0
    simp only [if_true] at hmm
    subst hmm
    have key : ∀ i, i < m → ∃ f : En, w.cell? (a.add (i * 4)) = some (.string f.ky) ∧ w.cell? (a.add (i * 4 + 1)) = some (.int .i64 f.sq) ∧ w.cell? (a.add (i * 4 + 2)) = some (.int .i64 f.kd) ∧ w.cell? (a.add (i * 4 + 3)) = some (.string f.vl) ∧ f.ky.size ≤ maxLen ∧ f.vl.size ≤ maxLen := by
      intro i hi
      obtain ⟨cs, hc, ht⟩ := hx i hi
      rw [lEntry_cells] at hc
      obtain ⟨_, _, hcell⟩ := World.cells?_some hc
      obtain ⟨ys, k, _, _, hlen, hyl, hfl⟩ := DataW.trod_struct Tryd.underlying47 ht
      rw [lEntry_cells] at hlen
      match ys, hyl with
      | [y0, y1, y2, y3], _ =>
        have t0 := hfl 0 _ rfl
        have t1 := hfl 1 _ rfl
        have t2 := hfl 2 _ rfl
        have t3 := hfl 3 _ rfl
        match cs, hlen with
        | [x0, x1, x2, x3], _ =>
          simp [int_cells, string_cells] at t0 t1 t2 t3
          obtain ⟨s0, g0, _, m0⟩ := DataW.trod_string Tryd.underlying9 t0
          obtain ⟨s1, g1, _, _⟩ := DataW.trod_int Tryd.underlying3 t1
          obtain ⟨s2, g2, _, _⟩ := DataW.trod_int Tryd.underlying3 t2
          obtain ⟨s3, g3, _, m3⟩ := DataW.trod_string Tryd.underlying9 t3
          simp at g0 g1 g2 g3
          subst g0 g1 g2 g3
          have e0 := hcell 0 (by omega)
          have e1 := hcell 1 (by omega)
          have e2 := hcell 2 (by omega)
          have e3 := hcell 3 (by omega)
          rw [Go.Deep.add_add] at e0 e1 e2 e3
          exact ⟨⟨s0, s1, s2, s3⟩, by simpa using e0, by simpa using e1, by simpa using e2, by simpa using e3, m0, m3⟩
    haveI : Inhabited En := ⟨en0⟩
    obtain ⟨F, hF⟩ := choose_lt key
    have hlenF : ((List.range len0).map F).length = len0 := by simp
    have hget : ∀ i, i < len0 → ((List.range len0).map F).getD i en0 = F i := fun i hi => by simp [List.getD, hi]
    refine ⟨some a, m, (List.range len0).map F, by rw [hlenF], ?_, ?_, by rw [hlenF]; omega⟩
    · by_cases h0 : len0 = 0
      · exact .inl (by rw [h0]; rfl)
      · obtain ⟨b, off, spot⟩ := a
        have hc := (hF 0 (by omega)).1
        have hspot : spot = none := by simpa [Addr.add] using World.cell?_spot hc
        subst hspot
        have hbl : b < w.heap.size := by
          have := World.block_lt_of_cell? w _ hc
          simpa [Addr.add] using this
        refine .inr ⟨b, off, rfl, hbl, fun i hi => ?_⟩
        rw [hlenF] at hi
        obtain ⟨e0, e1, e2, e3, _⟩ := hF i (by omega)
        rw [add_plain] at e0 e1 e2 e3
        rw [hget i hi]
        exact ⟨e0, e1, e2, e3⟩
    · intro f hf
      obtain ⟨i, hi, rfl⟩ := List.mem_map.1 hf
      exact (hF i (by have := List.mem_range.1 hi; omega)).2.2.2.2

set_option maxRecDepth 100000 in
set_option maxHeartbeats 1000000 in
theorem lawTab_any (a : Option Addr) (cap : Nat) (xs : List En) (w : World) (hx : LieE w a xs) (hf : FitsE xs) (hlen : xs.length ≤ maxLen) (ht : Steps w) :
    Calls Tryd.prog 3 #[.slice a xs.length cap] w fun e w' => e = .returned (.bool true) ∧ Below w.heap.size w w' := by
  generalize hT : tabT xs = T
  have HT : Hid (tabT xs = T) := hT
  clear hT
  have HST := hdB ht
  clear ht
  go_enter Tryd.func3, Tryd.ntmps3
  go_wp2_with fail
  refine (szEntryS_any a cap xs 1048576 w hx hf hlen (by omega) (by omega)).mono ?_
  rintro e w1 ⟨⟨r, rfl, hr1, hr2⟩, hb1⟩
  rcases hr2 with rfl | ⟨hr0, hr⟩
  · go_wp2_with fail
    go_ret
    exact ⟨rfl, hb1⟩
  · have hl : xs.length ≤ 1048576 := by omega
    clear hr
    go_wp2_with fail
    refine (toEntryS_any a cap xs w1 (hx.below hb1) hl).mono ?_
    rintro e w2 ⟨g, rfl, hg, hp, hb2⟩
    have hbw2 := hb1.trans (hb2.mono hb1.size)
    go_wp2_with fail
    refine (specTab_any _ _ xs w2 hp.lie hf hl (Nat.le_refl _)).mono ?_
    rintro e w3 ⟨rfl, hb3⟩
    rw [HT.out]
    have hbw3 := hbw2.trans (hb3.mono hbw2.size)
    clear hp
    go_wp2_with fail
    refine (toEntryS_any a cap xs w3 (hx.below hbw3) hl).mono ?_
    rintro e w4 ⟨g4, rfl, hg4, hp4, hb4⟩
    have hbw4 := hbw3.trans (hb4.mono hbw3.size)
    have hp4' := hp4.lie
    go_wp2_with fail
    refine (implTab_any _ _ xs w4 hp4' hf hl (Nat.le_refl _) (HST.out.below hbw4)).mono ?_
    rintro e w5 ⟨rfl, hb5⟩
    rw [HT.out]
    have hbw5 := hbw4.trans (hb5.mono hbw4.size)
    have hp5 := hp4'.below hb5
    go_wp2_with fail
    refine (toEntryS_any a cap xs w5 (hx.below hbw5) hl).mono ?_
    rintro e w6 ⟨g6, rfl, hg6, hp6, hb6⟩
    have hbw6 := hbw5.trans (hb6.mono hbw5.size)
    have hp6' := hp6.lie
    have hp56 := hp5.below hb6
    go_wp2_with fail
    refine (eqEntryS_same _ _ _ _ xs w6 hp56 hp6' hl).mono ?_
    rintro e w7 ⟨rfl, hb7⟩
    have hbw7 := hbw6.trans (hb7.mono hbw6.size)
    go_wp2_with fail
    go_ret
    exact ⟨rfl, hbw7⟩

set_option maxRecDepth 100000 in
theorem lifted (os : Os) (started : os.Started) (H : Type) (enc : TypeId × Value → H) :
    ReturnsInHanded {} Tryd.checked os 3 .any (fun w args => (Rows.fnExactBuildTableSpec.pre enc Tryd.prog Tryd.f3 [] false w args ∧ laidMetH Tryd.prog laidL w) ∧ sizedMet enc Tryd.prog Tryd.f3 (OpenSpec.ofChange Rows.fnExactBuildTableSpec) false w args)
      (Rows.fnExactBuildTableSpec.post enc Tryd.prog Tryd.f3 false true false false) := by
  refine returnsInHanded_of_change_and (C := Tryd.checked) (X := fun w _ => laidMetH Tryd.prog laidL w) (fun _ _ _ hh h => h.of_heap hh) own started (by kernel_rfl) Tryd.func3
    (ChangeSpec.witness_shaped (enc := enc) (C := Tryd.checked) (os := os) (X := fun w _ => laidMetH Tryd.prog laidL w) false (World.doorLaid Tryd.prog 400 os) #[.slice none 0 0] 8 rfl (World.shaped_of_RefB (by kernel_rfl) (by kernel_rfl)) (by kernel_rfl) (by kernel_rfl) (by kernel_rfl) (door_met os _)) ?_
  intro W base args ds gs before hval0 hW _ _ hL _
  have hval : ∀ (j : Nat) t v, Tryd.f3.params[j]? = some t → args[j]? = some v → Value.okWide Tryd.prog W .any base t v := hval0
  have hW' := hW
  obtain ⟨p, q, hA0, hV0, rfl, hfz, hnd⟩ := hW
  have hA : DataW.TrodAll enc Tryd.prog W 0 (fun _ => true) true Tryd.f3.params.toList args.toList ds p := hA0
  have hV : DataW.TrodVars enc Tryd.prog W (fun _ => true) ["loop.example/s01733/impl.crcSteps"] gs q := hV0
  rw [Tryd.params3] at hA hval
  obtain ⟨v0, d0, rfl, rfl, h0⟩ := trodAll_one hA
  have k0 := h0
  have lt0 : ∀ x ∈ p, x.block < W.heap.size := by obtain ⟨m, hm⟩ := k0; exact DataW.trod_lt m _ _ _ hm
  obtain ⟨a, cap, xs, rfl, hx, hf, hlen⟩ := open_entries (hval 0 22 v0 rfl rfl) h0
  obtain ⟨g, t, cs, fuel, d, p', rfl, hg, ht, hvar, hd, rfl⟩ := trodVars_one hV
  have hvar' := var_of_laid hL
  obtain rfl := Option.some.inj (gSteps.symm.trans hg)
  obtain rfl := Option.some.inj (tSteps.symm.trans ht)
  obtain rfl : cs = tabCells := Option.some.inj (hvar.symm.trans hvar')
  obtain ⟨rfl, rfl⟩ := DataW.Trod.unique (v := .agg tabCells) ⟨fuel, hd⟩ ⟨3, reads_tab enc W _⟩
  clear hA0 hV0 hval0
  refine (lawTab_any a cap xs W hx hf hlen (steps_of_var hvar')).mono fun e W' ⟨he, bel⟩ => ?_
  subst he
  exact ⟨_, rfl, _, _, _, [], _, _, hW', trodAll_mk1 (shut_bool Tryd.underlying4 _), trodAll_mk1 (Below.trod laidOut (by kernel_rfl) (of_decide_eq_true (by kernel_rfl)) k0 bel lt0), vars_below enc hvar' bel _, bel.frame _, fun h => by cases h⟩

theorem fnExactBuildTable_row : Rows.FnExactBuildTableSaid :=
  OpenClaim.holds_of_wide 3 Tryd.f3 rfl rfl rfl rfl rfl rfl rfl ⟨rfl, rfl, rfl, rfl, rfl⟩ rfl rfl rfl rfl rfl (by kernel_rfl) Tryd.func3 (by kernel_rfl)
    (of_decide_eq_true (by kernel_rfl)) (by unfold Func.isWrapper; first | (rw [if_pos (by decide +kernel)]; kernel_rfl) | (rw [if_neg (by decide +kernel)]; exact ⟨rfl, rfl⟩))
    (fun os started H enc _ => lifted os started H enc)

theorem fnExactBuildTable_holds : Rows.FnExactBuildTableCardSaid :=
  Claim7.holds_tied_plain_at .later [] [.data] true (true, "5f2b4dae5df0a692e9edbf4a4e081eb2647d1541d84dbd2167d4e33f178f0223") false
    fnExactBuildTable_row (fun _ h => by cases h) (by kernel_rfl) (fun _ h => by cases h) fnExactBuildTable_row_tie rfl ⟨rfl, rfl⟩ (by kernel_rfl) rfl
    (fun f fn hf hfn => by
      obtain rfl : f = 3 := Option.some.inj ((show Tryd.prog.funcNamed "loop.example/s01733/laws.FnExactBuildTable" = some 3 by kernel_rfl).symm.trans hf) |>.symm
      obtain rfl : fn = Tryd.f3 := (Option.some.inj (Tryd.func3.symm.trans hfn)).symm
      exact ⟨by kernel_rfl, fun j t ht => by
        rw [Tryd.params3] at ht
        have hm : t ∈ [22] := by simpa using Array.mem_of_getElem? ht
        have hall : ([22].all fun u => !Tryd.prog.wantsStandIn u) = true := by kernel_rfl
        exact (show Tryd.prog.wantsStandIn t = false by simpa using List.all_eq_true.1 hall t hm)⟩)
    (by kernel_rfl)
#print axioms fnExactBuildTable_holds
end Go.Proofs.YtibfoimapnnnkacDoor
