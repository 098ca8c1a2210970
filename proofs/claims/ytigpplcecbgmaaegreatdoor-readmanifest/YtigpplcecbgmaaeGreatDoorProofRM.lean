import Derived.Test.YtigpplcecbgmaaeGreatDoorLaidX

namespace Go.Proofs.YtigpplcecbgmaaeGreatDoor
open Go.ChangeShapes Go.WideShapes Go.ChangeAt Go.RowKit
open Go.ChangeMaps (open_string shut_string)
set_option linter.unusedVariables false
set_option linter.unusedSimpArgs false

theorem foldM_good : ∀ (ps : List ByteArray) (ts : List Tr) (l : Ed) (ts' : List Tr) (l' : Ed), GoodTs ts → foldM ts l ps = some (ts', l') → GoodTs ts'
  | [], ts, l, ts', l', h, e => by
    simp only [foldM, Option.some.injEq, Prod.mk.injEq] at e
    rw [← e.1]
    exact h
  | p :: ps, ts, l, ts', l', h, e => by
    cases hp : (decEd p).isSome with
    | false => rw [foldM_none hp] at e; cases e
    | true =>
      cases ha : apOk ts (edR p) with
      | false => rw [foldM_bad hp ha] at e; cases e
      | true =>
        rw [foldM_step hp ha] at e
        exact foldM_good ps _ _ ts' l' (goodTs_next h (edR_ok hp) ha) e
theorem rm_len (s : ByteArray) : (rmT s).length ≤ 1000 := by
  cases h : rmO s with
  | none => rw [(rm_none h).1]; exact Nat.zero_le _
  | some q =>
    obtain ⟨ts, l⟩ := q
    rw [(rm_some h).1]
    unfold rmO at h
    split at h
    · cases h
    · exact (foldM_good _ _ _ _ _ goodTs_nil h).len

set_option maxRecDepth 100000 in
set_option maxHeartbeats 4000000 in
theorem lawRM_any (s : ByteArray) (w : World) (hs : s.size ≤ maxLen) (ht : Steps w) :
    Calls Tryz.prog 5 #[.string s] w fun e w' => e = .returned (.bool true) ∧ Below w.heap.size w w' := by
  unfold maxLen at hs
  have HST := hd ht
  clear ht
  by_cases hbig : (1048576 : Int) < s.size
  · go_enter Tryz.func5, Tryz.ntmps5
    go_wp2_with fail
    go_ret
    exact ⟨rfl, Below.refl _ _⟩
  · have hs' : s.size ≤ 1048576 := by omega
    have HSp := hd (fun w => specRm_any s w hs')
    have HIm := hd (fun w (h : Steps w) => implRm_any s w hs' h)
    have hlen := rm_len s
    generalize rmT s = RT at *
    generalize (rmE s).lg = E1 at *
    generalize (rmE s).nx = E2 at *
    generalize (rmE s).la = E3 at *
    generalize ((rmP s : Nat) : Int) = PP at *
    generalize (rmO s).isSome = ok at *
    have hPP : (PP != PP) = false := by simp
    have hok : (ok != ok) = false := by simp
    have HEq := hd (fun a ca a' ca' (w : World) hx hx' => eqVersion_same a ca a' ca' RT E1 E2 E3 w hx hx' (by omega))
    have HMk := hd (fun a c base (w : World) hr hb => markVersion_any a c base RT E1 E2 E3 w hr hlen hb)
    have HHl := hd (fun a c (w : World) hx => heldVersion_any a c RT E1 E2 E3 w hx hlen)
    have q0 : ¬ ((1 + 4 * RT.length : Nat) : Int) < 0 := by omega
    generalize ((1 + 4 * RT.length : Nat) : Int) = MM at *
    have hMM : (MM != MM) = false := by simp
    go_enter Tryz.func5, Tryz.ntmps5
    go_wp2_with fail
    refine (HSp.out _).mono ?_
    rintro r w1 ⟨a1, c1, rfl, hT1, hb1⟩
    have ha1 : Below w1.heap.size w1 (w1.alloc (.cells #[.slice a1 RT.length c1, .int .i64 E1, .int .i64 E2, .int .i64 E3] 36)) := (Below.refl _ _).alloc (Nat.le_refl _) _
    have hX1 : (w1.alloc (.cells #[.slice a1 RT.length c1, .int .i64 E1, .int .i64 E2, .int .i64 E3] 36)).heap[w1.heap.size]? = some (.cells #[.slice a1 RT.length c1, .int .i64 E1, .int .i64 E2, .int .i64 E3] 36 (0, 0)) := World.heap_alloc_new _ _
    have hst1 := HST.out.below (hb1.trans (ha1.mono hb1.size))
    go_wp2_with fail
    refine (HIm.out _ hst1).mono ?_
    rintro r w2 ⟨a2, c2, rfl, hT2, hb2⟩
    rw [size_alloc] at hT2
    have hs2 : w1.heap.size + 1 ≤ w2.heap.size := by have := hb2.size; rw [size_alloc] at this; exact this
    have hX2 := (hb2.block w1.heap.size (by simp)).trans hX1
    have hb12 : Below w1.heap.size w1 w2 := ha1.trans (hb2.mono ha1.size)
    have hT12 := hT1.below hb12
    have ha2 : Below w2.heap.size w2 (w2.alloc (.cells #[.slice a2 RT.length c2, .int .i64 E1, .int .i64 E2, .int .i64 E3] 36)) := (Below.refl _ _).alloc (Nat.le_refl _) _
    have hY2 : (w2.alloc (.cells #[.slice a2 RT.length c2, .int .i64 E1, .int .i64 E2, .int .i64 E3] 36)).heap[w2.heap.size]? = some (.cells #[.slice a2 RT.length c2, .int .i64 E1, .int .i64 E2, .int .i64 E3] 36 (0, 0)) := World.heap_alloc_new _ _
    have hXa := (ha2.block w1.heap.size (by omega)).trans hX2
    clear hX1 ha1 hb2 hst1
    obtain ⟨x0, x1, x2, x3⟩ := four_cells hX2
    have hl12 : w1.heap.size < w2.heap.size := by omega
    go_wp2_with fail
    refine (HEq.out a2 c2 a1 c1 _ (hT2.below ha2).lie (hT12.below ha2).lie).mono ?_
    rintro r w3 ⟨rfl, hb3⟩
    have hb23 : Below w2.heap.size w2 w3 := ha2.trans (hb3.mono ha2.size)
    have hX3 := (hb3.block w1.heap.size (by simp; omega)).trans hXa
    have hY3 := (hb3.block w2.heap.size (by simp)).trans hY2
    have hT3 := hT2.below hb23
    have hb13 : Below w1.heap.size w1 w3 := hb12.trans (hb23.mono (by omega))
    have hl13 := heap_lt hX3
    have hl23 := heap_lt hY3
    clear x0 x1 x2 x3 hX2 hXa hY2 ha2 hb3 hT2 hT12 hb12 hb23
    obtain ⟨y0, y1, y2, y3⟩ := four_cells hY3
    go_wp2_with fail
    refine (HMk.out a2 c2 (w1.heap.size + 1) _ hT3 (by omega)).mono ?_
    rintro r w4 ⟨rfl, hT4, hb4, hk4⟩
    have hY4 := hk4 _ _ hY3 (fun cs fz h => by simp at h)
    have hX4 := (hb4.block w1.heap.size (by omega)).trans hX3
    have hb14 : Below w1.heap.size w1 w4 := hb13.trans (hb4.mono (by omega))
    have hl24 := heap_lt hY4
    have hl14 := heap_lt hX4
    clear y0 y1 y2 y3 hX3 hY3 hT3 hb4 hk4 hb13
    obtain ⟨y0, y1, y2, y3⟩ := four_cells hY4
    go_wp2_with fail
    refine (HHl.out a2 c2 _ hT4.lie).mono ?_
    rintro r w5 ⟨rfl, hb5⟩
    have hX5 := (hb5.block w1.heap.size hl14).trans hX4
    have hb15 : Below w1.heap.size w1 w5 := hb14.trans (hb5.mono (by omega))
    have hl15 := heap_lt hX5
    have hst5 := HST.out.below (hb1.trans (hb15.mono hb1.size))
    clear y0 y1 y2 y3 hY4 hX4 hT4 hb5 hb14
    go_wp2_with fail
    refine (HIm.out _ hst5).mono ?_
    rintro r w6 ⟨a6, c6, rfl, hT6, hb6⟩
    have hX6 := (hb6.block w1.heap.size hl15).trans hX5
    have hb16 : Below w1.heap.size w1 w6 := hb15.trans (hb6.mono (by omega))
    have ha6 : Below w6.heap.size w6 (w6.alloc (.cells #[.slice a6 RT.length c6, .int .i64 E1, .int .i64 E2, .int .i64 E3] 36)) := (Below.refl _ _).alloc (Nat.le_refl _) _
    have hl16 := heap_lt hX6
    have hb16a := hb16.trans (ha6.mono (by omega))
    have hT16 := hT1.below hb16a
    clear hX5 hb15 hb6 hst5
    obtain ⟨x0, x1, x2, x3⟩ := four_cells hX6
    go_wp2_with fail
    refine (HEq.out a6 c6 a1 c1 _ (hT6.below ha6).lie hT16.lie).mono ?_
    rintro r w7 ⟨rfl, hb7⟩
    have hb17 : Below w.heap.size w w7 := (hb1.trans (hb16a.mono hb1.size)).trans (hb7.mono (by have := hb1.size; have := hb16a.size; omega))
    go_wp2_with fail
    go_ret
    exact ⟨rfl, hb17⟩

set_option maxRecDepth 100000 in
theorem liftedRM (os : Os) (started : os.Started) (H : Type) (enc : TypeId × Value → H) :
    ReturnsInHanded {} Tryz.checked os 5 .any (fun w args => (Rows.fnExactReadManifestSpec.pre enc Tryz.prog Tryz.f5 [] false w args ∧ laidMetH Tryz.prog laidR w) ∧ sizedMet enc Tryz.prog Tryz.f5 (OpenSpec.ofChange Rows.fnExactReadManifestSpec) false w args)
      (Rows.fnExactReadManifestSpec.post enc Tryz.prog Tryz.f5 false true false false) := by
  refine returnsInHanded_of_change_and (C := Tryz.checked) (X := fun w _ => laidMetH Tryz.prog laidR w) (fun _ _ _ hh h => h.of_heap hh) own started (by kernel_rfl) Tryz.func5
    (ChangeSpec.witness_shaped (enc := enc) (C := Tryz.checked) (os := os) (X := fun w _ => laidMetH Tryz.prog laidR w) false (World.laidAll Tryz.prog os laidR) #[.string ByteArray.empty] 8 (World.laidAll_os _ _ _) (World.shaped_of_ZipB (by kernel_rfl) (by kernel_rfl)) (by kernel_rfl) (by kernel_rfl) (by kernel_rfl) (doorR_met os _)) ?_
  intro W base args ds gs before hval0 hW _ _ hL _
  have hval : ∀ (j : Nat) t v, Tryz.f5.params[j]? = some t → args[j]? = some v → Value.okWide Tryz.prog W .any base t v := hval0
  have hW' := hW
  obtain ⟨p, q, hA0, hV0, rfl, hfz, hnd⟩ := hW
  have hA : DataW.TrodAll enc Tryz.prog W 0 (fun _ => true) true Tryz.f5.params.toList args.toList ds p := hA0
  have hV : DataW.TrodVars enc Tryz.prog W (fun _ => true) ["loop.example/s01733/impl.crcSteps"] gs q := hV0
  rw [Tryz.params5] at hA hval
  obtain ⟨v0, d0, rfl, rfl, h0⟩ := trodAll_one hA
  obtain ⟨s, rfl, rfl, rfl, hs⟩ := open_string Tryz.underlying9 (hval 0 9 v0 rfl rfl) h0
  obtain ⟨g, t, cs, fuel, d, p', rfl, hg, ht, hvar, hd, rfl⟩ := trodVars_one hV
  have hvar' := var_of_laidR hL
  obtain rfl := Option.some.inj (gSteps.symm.trans hg)
  obtain rfl := Option.some.inj (tSteps.symm.trans ht)
  obtain rfl : cs = tabCells := Option.some.inj (hvar.symm.trans hvar')
  obtain ⟨rfl, rfl⟩ := DataW.Trod.unique (v := .agg tabCells) ⟨fuel, hd⟩ ⟨3, reads_tab enc W _⟩
  clear hA0 hV0 hval0
  refine (lawRM_any s W hs (steps_of_var hvar')).mono fun e W' ⟨he, bel⟩ => ?_
  subst he
  exact ⟨_, rfl, _, _, _, [], _, _, hW', trodAll_mk1 (shut_bool Tryz.underlying4 _), trodAll_mk1 (shut_string Tryz.underlying9 hs), vars_below enc hvar' bel _, bel.frame _, fun h => by cases h⟩

theorem fnExactReadManifest_row : Rows.FnExactReadManifestSaid :=
  OpenClaim.holds_of_wide 5 Tryz.f5 rfl rfl rfl rfl rfl rfl rfl ⟨rfl, rfl, rfl, rfl, rfl⟩ rfl rfl rfl rfl rfl (by kernel_rfl) Tryz.func5 (by kernel_rfl)
    (of_decide_eq_true (by kernel_rfl)) (by unfold Func.isWrapper; first | (rw [if_pos (by decide +kernel)]; kernel_rfl) | (rw [if_neg (by decide +kernel)]; exact ⟨rfl, rfl⟩))
    (fun os started H enc _ => liftedRM os started H enc)

theorem fnExactReadManifest_holds : Rows.FnExactReadManifestCardSaid :=
  Claim7.holds_tied_plain_at .later [] [.data, .data, .pinned] true (true, "66d742a0c089ee7c415be06f556920b51d0a2747f68e3abbd3c58ef31b44ce5b") false
    fnExactReadManifest_row (fun _ h => by cases h) (by kernel_rfl) (fun _ h => by cases h) fnExactReadManifest_row_tie rfl ⟨rfl, rfl⟩ (by kernel_rfl) rfl
    (fun f fn hf hfn => by
      obtain rfl : f = 5 := Option.some.inj ((show Tryz.prog.funcNamed "loop.example/s01733/laws.FnExactReadManifest" = some 5 by kernel_rfl).symm.trans hf) |>.symm
      obtain rfl : fn = Tryz.f5 := (Option.some.inj (Tryz.func5.symm.trans hfn)).symm
      exact ⟨by kernel_rfl, fun j t ht => by
        rw [Tryz.params5] at ht
        have hm : t ∈ [9] := by simpa using Array.mem_of_getElem? ht
        have hall : ([9].all fun u => !Tryz.prog.wantsStandIn u) = true := by kernel_rfl
        exact (show Tryz.prog.wantsStandIn t = false by simpa using List.all_eq_true.1 hall t hm)⟩)
    (by kernel_rfl)
#print axioms fnExactReadManifest_holds
end Go.Proofs.YtigpplcecbgmaaeGreatDoor
