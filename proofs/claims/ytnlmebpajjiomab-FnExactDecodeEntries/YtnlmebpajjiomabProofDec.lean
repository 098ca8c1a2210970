
import Derived.Test.YtnlmebpajjiomabDecI
import Derived.Test.YtnlmebpajjiomabDecS
import Derived.Test.YtnlmebpajjiomabDecK
import Derived.ProofKit
import Derived.OpenShut
import Derived.ShutString
import Derived.ChangeOld
import Derived.Carry
import Derived.Lib.SmallJoins
import Derived.Deep.Slices
import Derived.Deep.Strs
namespace Go.Proofs.Ytnlmebpajjiomab
open Go.ChangeShapes Go.WideShapes Go.ChangeAt Go.RowKit
open Go.ChangeMaps (open_string shut_string)
set_option linter.unusedVariables false
set_option linter.unusedSimpArgs false

set_option maxRecDepth 100000 in
set_option maxHeartbeats 2000000 in
theorem lawDec_any (s : ByteArray) (w : World) (hs : s.size ≤ maxLen) :
    Calls Try.prog 4 #[.string s] w fun e w' => e = .returned (.bool true) ∧ Below w.heap.size w w' := by
  unfold maxLen at hs
  by_cases hbig : (1048576 : Int) < s.size
  · go_enter Try.func4, Try.ntmps4
    go_wp2_with fail
    go_ret
    exact ⟨rfl, Below.refl _ _⟩
  · have hs' : s.size ≤ 1048576 := by omega
    have HSp : Hid (∀ w, Calls Try.prog 12 #[.string s] w fun e w' => ∃ a cap, e = .returned (.tuple #[.slice a (decL s).length cap, .bool (dec s).isSome]) ∧ ResE w' w.heap.size a (decL s) ∧ Below w.heap.size w w') := fun w => specDec_any s w hs'
    have HIm : Hid (∀ w, Calls Try.prog 13 #[.string s] w fun e w' => ∃ a cap, e = .returned (.tuple #[.slice a (decL s).length cap, .bool (dec s).isSome]) ∧ ResE w' w.heap.size a (decL s) ∧ Below w.heap.size w w') := fun w => implDec_any s w hs'
    have hlen := decL_len s
    generalize decL s = dl at *
    generalize (dec s).isSome = ok at *
    have hl2 : dl.length ≤ 1048576 := by omega
    by_cases hnil : dl = []
    · subst hnil
      go_enter Try.func4, Try.ntmps4
      go_wp2_with fail
      refine (HSp.out _).mono ?_
      rintro e w1 ⟨a1, cap1, rfl, hr1, hb1⟩
      go_wp2_with fail
      refine (HIm.out _).mono ?_
      rintro e w2 ⟨a2, cap2, rfl, hr2, hb2⟩
      have hbw2 := hb1.trans (hb2.mono hb1.size)
      go_wp2_with fail
      refine (eqEntryS_same a2 a1 cap2 cap1 [] w2 (.inl rfl) (.inl rfl) hl2).mono ?_
      rintro e w3 ⟨rfl, hb3⟩
      have hbw3 := hbw2.trans (hb3.mono hbw2.size)
      go_wp2_with fail
      refine (markEntryS_empty a2 cap2 _).mono ?_
      rintro e w4 ⟨rfl, h4⟩
      replace h4 := h4.symm
      subst h4
      go_wp2_with fail
      refine (heldEntryS_row a2 cap2 0 _ (by omega) (.inl rfl)).mono ?_
      rintro e w5 ⟨rfl, hb5⟩
      have hbw5 := hbw3.trans (hb5.mono hbw3.size)
      go_wp2_with fail
      refine (HIm.out _).mono ?_
      rintro e w6 ⟨a6, cap6, rfl, hr6, hb6⟩
      have hbw6 := hbw5.trans (hb6.mono hbw5.size)
      go_wp2_with fail
      refine (eqEntryS_same a6 a1 cap6 cap1 [] w6 (.inl rfl) (.inl rfl) hl2).mono ?_
      rintro e w7 ⟨rfl, hb7⟩
      have hbw7 := hbw6.trans (hb7.mono hbw6.size)
      go_wp2_with fail
      go_ret
      exact ⟨rfl, hbw7⟩
    · have hpos : 0 < dl.length := List.length_pos_iff.2 hnil
      go_enter Try.func4, Try.ntmps4
      go_wp2_with fail
      refine (HSp.out _).mono ?_
      rintro e w1 ⟨a1, cap1, rfl, hr1, hb1⟩
      go_wp2_with fail
      refine (HIm.out _).mono ?_
      rintro e w2 ⟨a2, cap2, rfl, hr2, hb2⟩
      have hr12 := hr1.below hb2
      have hbw2 := hb1.trans (hb2.mono hb1.size)
      rcases hr2 with h | ⟨g, rfl, hg, hrow⟩
      · exact absurd h hnil
      have HL2 : Hid (LieE w2 (some ⟨g, 0, none⟩) dl) := (show ResE w2 w1.heap.size (some ⟨g, 0, none⟩) dl from .inr ⟨g, rfl, hg, hrow⟩).lie
      go_wp2_with fail
      refine (eqEntryS_same (some ⟨g, 0, none⟩) a1 cap2 cap1 dl w2 HL2.out hr12.lie hl2).mono ?_
      rintro e w3 ⟨rfl, hb3⟩
      have hrow3 := hrow.block (hb3.block g hrow.lt)
      have hs13 : w1.heap.size ≤ w3.heap.size := Nat.le_trans hb2.size hb3.size
      have hbw3 := hbw2.trans (hb3.mono hbw2.size)
      have hb13 : Below w1.heap.size w1 w3 := hb2.trans (hb3.mono hb2.size)
      clear hrow hr12 HL2
      go_wp2_with fail
      refine (markEntryS_row g cap2 dl.length _ dl hlen (hrow3.zero dl)).mono ?_
      rintro e w4 ⟨rfl, hp4, ho4⟩
      have hb4 : Below w1.heap.size w3 w4 := ho4.below hg hs13
      have hbw4 := hbw3.trans (hb4.mono hb1.size)
      have HL4 : Hid (LieE w4 (some ⟨g, 0, none⟩) (mkE dl.length)) := (show ResE w4 w1.heap.size (some ⟨g, 0, none⟩) (mkE dl.length) from .inr ⟨g, rfl, hg, by rw [mkE_length]; exact hp4⟩).lie
      go_wp2_with fail
      refine (heldEntryS_row _ cap2 dl.length _ hlen HL4.out).mono ?_
      rintro e w5 ⟨rfl, hb5⟩
      have hbw5 := hbw4.trans (hb5.mono hbw4.size)
      have hb15 : Below w1.heap.size w1 w5 := (hb13.trans hb4).trans (hb5.mono (by have := hb4.size; omega))
      have hs15 := hb15.size
      clear hb13 hb4 hb5 HL4 hp4 ho4
      go_wp2_with fail
      refine (HIm.out _).mono ?_
      rintro e w6 ⟨a6, cap6, rfl, hr6, hb6⟩
      have hbw6 := hbw5.trans (hb6.mono hbw5.size)
      have hr16 := hr1.below (hb15.trans (hb6.mono hs15))
      go_wp2_with fail
      refine (eqEntryS_same a6 a1 cap6 cap1 dl w6 hr6.lie hr16.lie hl2).mono ?_
      rintro e w7 ⟨rfl, hb7⟩
      have hbw7 := hbw6.trans (hb7.mono hbw6.size)
      go_wp2_with fail
      go_ret
      exact ⟨rfl, hbw7⟩

theorem own : ownKnob Try.prog.godebug = none := by kernel_rfl

set_option maxRecDepth 100000 in
theorem lifted (os : Os) (started : os.Started) (H : Type) (enc : TypeId × Value → H) :
    ReturnsInHanded {} Try.checked os 4 .any (Rows.fnExactDecodeEntriesSpec.pre6 enc Try.prog Try.f4 Rows.fnExactDecodeEntriesRow.domain false) (Rows.fnExactDecodeEntriesSpec.post enc Try.prog Try.f4 false true false false) := by
  refine returnsInHanded_of_change (C := Try.checked) own started (by kernel_rfl) Try.func4
    (ChangeSpec.witness6 (enc := enc) (C := Try.checked) false ⟨#[], #[.string ByteArray.empty], []⟩ 8 (by kernel_rfl) (by kernel_rfl) (by kernel_rfl) (by kernel_rfl)) ?_
  intro W base args ds gs before hval0 hW hcnd _
  have hval : ∀ (j : Nat) t v, Try.f4.params[j]? = some t → args[j]? = some v → Value.okWide Try.prog W .any base t v := hval0
  have hW' := hW
  obtain ⟨p, q, hA0, hV, rfl, hfz, hnd⟩ := hW
  have hA : DataW.TrodAll enc Try.prog W 0 (fun _ => true) true Try.f4.params.toList args.toList ds p := hA0
  rw [Try.params4] at hA hval
  obtain ⟨v0, d0, rfl, rfl, h0⟩ := trodAll_one hA
  obtain ⟨rfl, rfl⟩ := trodVars_none hV
  obtain ⟨s, rfl, rfl, rfl, hs⟩ := open_string Try.underlying9 (hval 0 9 v0 rfl rfl) h0
  clear hA0 hval0
  refine (lawDec_any s W hs).mono fun e W' ⟨he, bel⟩ => ?_
  subst he
  exact ⟨_, rfl, _, _, _, [], _, [], hW', trodAll_mk1 (shut_bool Try.underlying4 _), (trodAll_mk1 (shut_string Try.underlying9 hs)), rfl, bel.frame _, fun h => by cases h⟩

theorem over : Rows.fnExactDecodeEntriesRow.holds Try.pinned (OpenSpec.ofChange Rows.fnExactDecodeEntriesSpec) :=
  OpenClaim.holds_of_wide 4 Try.f4 rfl rfl rfl rfl rfl rfl rfl ⟨rfl, rfl, rfl, rfl, rfl⟩ rfl rfl rfl rfl rfl (by kernel_rfl) Try.func4 (by kernel_rfl)
    (of_decide_eq_true (by kernel_rfl)) (by unfold Func.isWrapper; first | (rw [if_pos (by decide +kernel)]; kernel_rfl) | (rw [if_neg (by decide +kernel)]; exact ⟨rfl, rfl⟩))
    (fun os started H enc _ => lifted os started H enc)

theorem fnExactDecodeEntries_holds : Rows.FnExactDecodeEntriesSaid := over
#print axioms fnExactDecodeEntries_holds
end Go.Proofs.Ytnlmebpajjiomab
