import Derived.Test.YtibfoimapnnnkaeGreatDoorLaidX

namespace Go.Proofs.YtibfoimapnnnkaeGreatDoor
open Go.ChangeShapes Go.WideShapes Go.ChangeAt Go.RowKit
open Go.ChangeMaps (open_string shut_string)
set_option linter.unusedVariables false
set_option linter.unusedSimpArgs false

set_option maxRecDepth 100000 in
set_option maxHeartbeats 2000000 in
theorem lawRT_any (s : ByteArray) (w : World) (hs : s.size ≤ maxLen) (ht : Steps w) :
    Calls Tryz.prog 3 #[.string s] w fun e w' => e = .returned (.bool true) ∧ Below w.heap.size w w' := by
  unfold maxLen at hs
  have HST := hdB ht
  clear ht
  by_cases hbig : (1048576 : Int) < s.size
  · go_enter Tryz.func3, Tryz.ntmps3
    go_wp2_with fail
    go_ret
    exact ⟨rfl, Below.refl _ _⟩
  · have hs' : s.size ≤ 1048576 := by omega
    have HSp : Hid (∀ w, Calls Tryz.prog 6 #[.string s] w fun e w' => ∃ a cap, e = .returned (.tuple #[.slice a (rtL s).length cap, .bool (rtO s).isSome]) ∧ ResE w' w.heap.size a (rtL s) ∧ Below w.heap.size w w') := fun w => specRT_any s w hs'
    have HIm : Hid (∀ w, Steps w → Calls Tryz.prog 7 #[.string s] w fun e w' => ∃ a cap, e = .returned (.tuple #[.slice a (rtL s).length cap, .bool (rtO s).isSome]) ∧ ResE w' w.heap.size a (rtL s) ∧ Below w.heap.size w w') := fun w h => implRT_any s w hs' h
    have hlen := rt_len s
    generalize rtL s = dl at *
    generalize (rtO s).isSome = ok at *
    have hl2 : dl.length ≤ 1048576 := by omega
    by_cases hnil : dl = []
    · subst hnil
      go_enter Tryz.func3, Tryz.ntmps3
      go_wp2_with fail
      refine (HSp.out _).mono ?_
      rintro e w1 ⟨a1, cap1, rfl, hr1, hb1⟩
      go_wp2_with fail
      refine (HIm.out _ (HST.out.below hb1)).mono ?_
      rintro e w2 ⟨a2, cap2, rfl, hr2, hb2⟩
      have hbw2 := hb1.trans (hb2.mono hb1.size)
      go_wp2_with fail
      refine (eqEntryS_same a2 a1 cap2 cap1 [] w2 (.inl rfl) (.inl rfl) hl2).mono ?_
      rintro e w3 ⟨rfl, hb3⟩
      have hbw3 := hbw2.trans (hb3.mono hbw2.size)
      go_wp2_with fail
      refine (markEntryS_empty a2 cap2 _).mono ?_
      rintro e w4 ⟨rfl, h4⟩
      replace h4 := h4.symm
      subst h4
      go_wp2_with fail
      refine (heldEntryS_row a2 cap2 0 _ (by omega) (.inl rfl)).mono ?_
      rintro e w5 ⟨rfl, hb5⟩
      have hbw5 := hbw3.trans (hb5.mono hbw3.size)
      go_wp2_with fail
      refine (HIm.out _ (HST.out.below hbw5)).mono ?_
      rintro e w6 ⟨a6, cap6, rfl, hr6, hb6⟩
      have hbw6 := hbw5.trans (hb6.mono hbw5.size)
      go_wp2_with fail
      refine (eqEntryS_same a6 a1 cap6 cap1 [] w6 (.inl rfl) (.inl rfl) hl2).mono ?_
      rintro e w7 ⟨rfl, hb7⟩
      have hbw7 := hbw6.trans (hb7.mono hbw6.size)
      go_wp2_with fail
      go_ret
      exact ⟨rfl, hbw7⟩
    · have hpos : 0 < dl.length := List.length_pos_iff.2 hnil
      go_enter Tryz.func3, Tryz.ntmps3
      go_wp2_with fail
      refine (HSp.out _).mono ?_
      rintro e w1 ⟨a1, cap1, rfl, hr1, hb1⟩
      go_wp2_with fail
      refine (HIm.out _ (HST.out.below hb1)).mono ?_
      rintro e w2 ⟨a2, cap2, rfl, hr2, hb2⟩
      have hr12 := hr1.below hb2
      have hbw2 := hb1.trans (hb2.mono hb1.size)
      rcases hr2 with h | ⟨g, rfl, hg, hrow⟩
      · exact absurd h hnil
      have HL2 : Hid (LieE w2 (some ⟨g, 0, none⟩) dl) := (show ResE w2 w1.heap.size (some ⟨g, 0, none⟩) dl from .inr ⟨g, rfl, hg, hrow⟩).lie
      go_wp2_with fail
      refine (eqEntryS_same (some ⟨g, 0, none⟩) a1 cap2 cap1 dl w2 HL2.out hr12.lie hl2).mono ?_
      rintro e w3 ⟨rfl, hb3⟩
      have hrow3 := hrow.block (hb3.block g hrow.lt)
      have hs13 : w1.heap.size ≤ w3.heap.size := Nat.le_trans hb2.size hb3.size
      have hbw3 := hbw2.trans (hb3.mono hbw2.size)
      have hb13 : Below w1.heap.size w1 w3 := hb2.trans (hb3.mono hb2.size)
      clear hrow hr12 HL2
      go_wp2_with fail
      refine (markEntryS_row g cap2 dl.length _ dl (by omega) (hrow3.zero dl)).mono ?_
      rintro e w4 ⟨rfl, hp4, ho4⟩
      have hb4 : Below w1.heap.size w3 w4 := ho4.below hg hs13
      have hbw4 := hbw3.trans (hb4.mono hb1.size)
      have HL4 : Hid (LieE w4 (some ⟨g, 0, none⟩) (mkE dl.length)) := (show ResE w4 w1.heap.size (some ⟨g, 0, none⟩) (mkE dl.length) from .inr ⟨g, rfl, hg, by rw [mkE_length]; exact hp4⟩).lie
      go_wp2_with fail
      refine (heldEntryS_row _ cap2 dl.length _ (by omega) HL4.out).mono ?_
      rintro e w5 ⟨rfl, hb5⟩
      have hbw5 := hbw4.trans (hb5.mono hbw4.size)
      have hb15 : Below w1.heap.size w1 w5 := (hb13.trans hb4).trans (hb5.mono (by have := hb4.size; omega))
      have hs15 := hb15.size
      clear hb13 hb4 hb5 HL4 hp4 ho4
      go_wp2_with fail
      refine (HIm.out _ (HST.out.below hbw5)).mono ?_
      rintro e w6 ⟨a6, cap6, rfl, hr6, hb6⟩
      have hbw6 := hbw5.trans (hb6.mono hbw5.size)
      have hr16 := hr1.below (hb15.trans (hb6.mono hs15))
      go_wp2_with fail
      refine (eqEntryS_same a6 a1 cap6 cap1 dl w6 hr6.lie hr16.lie hl2).mono ?_
      rintro e w7 ⟨rfl, hb7⟩
      have hbw7 := hbw6.trans (hb7.mono hbw6.size)
      go_wp2_with fail
      go_ret
      exact ⟨rfl, hbw7⟩

set_option maxRecDepth 100000 in
theorem liftedRT (os : Os) (started : os.Started) (H : Type) (enc : TypeId × Value → H) :
    ReturnsInHanded {} Tryz.checked os 3 .any (fun w args => (Rows.fnExactReadTableSpec.pre enc Tryz.prog Tryz.f3 [] false w args ∧ laidMetH Tryz.prog laidR w) ∧ sizedMet enc Tryz.prog Tryz.f3 (OpenSpec.ofChange Rows.fnExactReadTableSpec) false w args)
      (Rows.fnExactReadTableSpec.post enc Tryz.prog Tryz.f3 false true false false) := by
  refine returnsInHanded_of_change_and (C := Tryz.checked) (X := fun w _ => laidMetH Tryz.prog laidR w) (fun _ _ _ hh h => h.of_heap hh) own started (by kernel_rfl) Tryz.func3
    (ChangeSpec.witness_shaped (enc := enc) (C := Tryz.checked) (os := os) (X := fun w _ => laidMetH Tryz.prog laidR w) false (World.laidAll Tryz.prog os laidR) #[.string ByteArray.empty] 8 (World.laidAll_os _ _ _) (World.shaped_of_ZipB (by kernel_rfl) (by kernel_rfl)) (by kernel_rfl) (by kernel_rfl) (by kernel_rfl) (doorR_met os _)) ?_
  intro W base args ds gs before hval0 hW _ _ hL _
  have hval : ∀ (j : Nat) t v, Tryz.f3.params[j]? = some t → args[j]? = some v → Value.okWide Tryz.prog W .any base t v := hval0
  have hW' := hW
  obtain ⟨p, q, hA0, hV0, rfl, hfz, hnd⟩ := hW
  have hA : DataW.TrodAll enc Tryz.prog W 0 (fun _ => true) true Tryz.f3.params.toList args.toList ds p := hA0
  have hV : DataW.TrodVars enc Tryz.prog W (fun _ => true) ["loop.example/s01733/impl.crcSteps"] gs q := hV0
  rw [Tryz.params3] at hA hval
  obtain ⟨v0, d0, rfl, rfl, h0⟩ := trodAll_one hA
  obtain ⟨s, rfl, rfl, rfl, hs⟩ := open_string Tryz.underlying9 (hval 0 9 v0 rfl rfl) h0
  obtain ⟨g, t, cs, fuel, d, p', rfl, hg, ht, hvar, hd, rfl⟩ := trodVars_one hV
  have hvar' := var_of_laidR hL
  obtain rfl := Option.some.inj (gSteps.symm.trans hg)
  obtain rfl := Option.some.inj (tSteps.symm.trans ht)
  obtain rfl : cs = tabCells := Option.some.inj (hvar.symm.trans hvar')
  obtain ⟨rfl, rfl⟩ := DataW.Trod.unique (v := .agg tabCells) ⟨fuel, hd⟩ ⟨3, reads_tab enc W _⟩
  clear hA0 hV0 hval0
  refine (lawRT_any s W hs (steps_of_var hvar')).mono fun e W' ⟨he, bel⟩ => ?_
  subst he
  exact ⟨_, rfl, _, _, _, [], _, _, hW', trodAll_mk1 (shut_bool Tryz.underlying4 _), trodAll_mk1 (shut_string Tryz.underlying9 hs), vars_below enc hvar' bel _, bel.frame _, fun h => by cases h⟩

theorem fnExactReadTable_row : Rows.FnExactReadTableSaid :=
  OpenClaim.holds_of_wide 3 Tryz.f3 rfl rfl rfl rfl rfl rfl rfl ⟨rfl, rfl, rfl, rfl, rfl⟩ rfl rfl rfl rfl rfl (by kernel_rfl) Tryz.func3 (by kernel_rfl)
    (of_decide_eq_true (by kernel_rfl)) (by unfold Func.isWrapper; first | (rw [if_pos (by decide +kernel)]; kernel_rfl) | (rw [if_neg (by decide +kernel)]; exact ⟨rfl, rfl⟩))
    (fun os started H enc _ => liftedRT os started H enc)

theorem fnExactReadTable_holds : Rows.FnExactReadTableCardSaid :=
  Claim7.holds_tied_plain_at .later [] [.data, .data, .pinned] true (true, "66d742a0c089ee7c415be06f556920b51d0a2747f68e3abbd3c58ef31b44ce5b") false
    fnExactReadTable_row (fun _ h => by cases h) (by kernel_rfl) (fun _ h => by cases h) fnExactReadTable_row_tie rfl ⟨rfl, rfl⟩ (by kernel_rfl) rfl
    (fun f fn hf hfn => by
      obtain rfl : f = 3 := Option.some.inj ((show Tryz.prog.funcNamed "loop.example/s01733/laws.FnExactReadTable" = some 3 by kernel_rfl).symm.trans hf) |>.symm
      obtain rfl : fn = Tryz.f3 := (Option.some.inj (Tryz.func3.symm.trans hfn)).symm
      exact ⟨by kernel_rfl, fun j t ht => by
        rw [Tryz.params3] at ht
        have hm : t ∈ [9] := by simpa using Array.mem_of_getElem? ht
        have hall : ([9].all fun u => !Tryz.prog.wantsStandIn u) = true := by kernel_rfl
        exact (show Tryz.prog.wantsStandIn t = false by simpa using List.all_eq_true.1 hall t hm)⟩)
    (by kernel_rfl)
#print axioms fnExactReadTable_holds
end Go.Proofs.YtibfoimapnnnkaeGreatDoor
