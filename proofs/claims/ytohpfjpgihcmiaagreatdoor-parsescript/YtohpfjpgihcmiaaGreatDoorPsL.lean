import Derived.Test.YtohpfjpgihcmiaaGreatDoorPsK

namespace Go.Proofs.YtohpfjpgihcmiaaGreatDoor
open Go.RowKit Go.Maps
set_option linter.unusedVariables false
set_option linter.unusedSimpArgs false

/-- The first line's number. -/
def quotaM (s : ByteArray) : Option Int := match cutB 32 s with
  | [a, b] => if a = ⟨#[113, 117, 111, 116, 97]⟩ then (match nuM b with
    | some v => if 0 ≤ v ∧ v ≤ 1048576 then some v else none
    | none => none) else none
  | _ => none
theorem quota_ok (ps : List ByteArray) : (match ps with
  | [a, b] => if a = ⟨#[113, 117, 111, 116, 97]⟩ then (match nuM b with
    | some v => if 0 ≤ v ∧ v ≤ 1048576 then some v else none
    | none => none) else none
  | _ => none) = if ((!(nuM (hd0 ps.tail)).isNone && ps.tail.tail.isEmpty) && decide (hd0 ps = ⟨#[113, 117, 111, 116, 97]⟩) && decide (0 ≤ nuV (hd0 ps.tail)) && decide (nuV (hd0 ps.tail) ≤ 1048576)) = true then some (nuV (hd0 ps.tail)) else none := by
  match ps with
  | [] => have h := nuM_nil; simp [hd0]; intro h2; rw [show (ByteArray.empty) = ⟨#[]⟩ from rfl, h] at h2; cases h2
  | [a] => have h := nuM_nil; simp [hd0]; intro h2; rw [show (ByteArray.empty) = ⟨#[]⟩ from rfl, h] at h2; cases h2
  | [a, b] =>
    show (if a = ⟨#[113, 117, 111, 116, 97]⟩ then (match nuM b with
      | some v => if 0 ≤ v ∧ v ≤ 1048576 then some v else none
      | none => none) else none) = if ((!(nuM b).isNone && true) && decide (a = ⟨#[113, 117, 111, 116, 97]⟩) && decide (0 ≤ nuV b) && decide (nuV b ≤ 1048576)) = true then some (nuV b) else none
    obtain ⟨N, hb⟩ : ∃ N, nuM b = N := ⟨_, rfl⟩
    simp only [hb]
    cases N with
    | none => simp
    | some v =>
      have hv : nuV b = v := numM_V hb
      rw [hv]
      by_cases ha : a = ⟨#[113, 117, 111, 116, 97]⟩
      · by_cases h1 : 0 ≤ v
        · by_cases h2 : v ≤ 1048576 <;> simp [ha, h1, h2]
        · simp [ha, h1]
      · simp [ha]
  | a :: b :: c :: r => simp
set_option maxRecDepth 100000 in
set_option maxHeartbeats 2000000 in
theorem readQuota_any (s : ByteArray) (w : World) (hs : s.size ≤ 1048576) (hv : VarsP w) :
    Calls Tryz.prog 14 #[.string s] w fun e w' => ∃ v : Int, e = .returned (.tuple #[.int .i64 v, .bool (quotaM s).isSome]) ∧ (∀ q, quotaM s = some q → v = q) ∧ Below w.heap.size w w' := by
  have HC := hdN (cutLine_any s w hs hv)
  have HZ := hdN (cut_sizes 32 s hs)
  have HL : Hid ((cutB 32 s).length ≤ 1048577) := by have := cutB_len 32 s; show _ ≤ _; omega
  have HQ := hdN (quota_ok (cutB 32 s))
  change Hid (quotaM s = _) at HQ
  generalize cutB 32 s = ps at *
  generalize quotaM s = res at *
  go_enter Tryz.func14, Tryz.ntmps14
  go_wp2_with fail
  refine HC.out.mono ?_
  rintro e w1 ⟨p, rfl, hp, hP1, hb1⟩
  have HN := hdN (next_any p ps false w1 hP1 HL.out)
  change Hid (Calls _ _ _ _ fun e w' => e = .returned (.string (hd0 ps)) ∧ Pt w' p ps.tail false ∧ Only p w1 w') at HN
  go_wp2_with fail
  refine HN.out.mono ?_
  rintro e w2 ⟨rfl, hP2, ho2⟩
  have hb2 : Below w.heap.size w w2 := hb1.trans (ho2.below hp hb1.size)
  have HM := hdN (number_any p 0 ps.tail false w2 w hP2 (len_tail HL.out) (sub_tail HZ.out) hv hb2 hp)
  change Hid (Calls _ _ _ _ fun e w' => e = .returned (.int .i64 (nuV (hd0 ps.tail))) ∧ Pt w' p ps.tail.tail (false || (nuM (hd0 ps.tail)).isNone) ∧ Only p w2 w') at HM
  rw [Bool.false_or] at HM
  go_wp2_with fail
  refine HM.out.mono ?_
  rintro e w3 ⟨rfl, hP3, ho3⟩
  have hb3 : Below w.heap.size w w3 := hb2.trans (ho3.below hp hb2.size)
  have HD := hdN (done_any p _ _ w3 hP3 (len_tail (len_tail HL.out)))
  generalize nuV (hd0 ps.tail) = V at *
  generalize hd0 ps = X at *
  generalize (!(nuM (hd0 ps.tail)).isNone && ps.tail.tail.isEmpty) = D at *
  clear HC HN HM hP1 hP2 hP3 ho2 ho3 hb1 hb2 HZ HL
  have HX : Hid ((X.toList == [113, 117, 111, 116, 97]) = decide (X = ⟨#[113, 117, 111, 116, 97]⟩)) := by
    have := eqB_dec X ⟨#[113, 117, 111, 116, 97]⟩
    show _ = _
    rw [← this, ByteArray.toList_eq (⟨#[113, 117, 111, 116, 97]⟩ : ByteArray)]
  generalize decide (X = ⟨#[113, 117, 111, 116, 97]⟩) = DX at *
  have HB3 := hdN hb3
  clear hb3
  cases D with
  | false =>
    rw [Bool.false_and, Bool.false_and, Bool.false_and] at HQ
    go_wp2_with fail
    refine HD.out.mono ?_
    rintro e w4 ⟨rfl, hb4⟩
    go_wp2_with fail
    go_ret2
    refine ⟨V, by rw [HQ.out]; rfl, fun q hq => ?_, HB3.out.trans (hb4.mono HB3.out.size)⟩
    rw [HQ.out] at hq; cases hq
  | true =>
    rw [Bool.true_and] at HQ
    cases DX with
    | false =>
      rw [Bool.false_and, Bool.false_and] at HQ
      have hx := HX.out
      go_wp2_with fail
      refine HD.out.mono ?_
      rintro e w4 ⟨rfl, hb4⟩
      go_wp2_with fail
      go_ret2
      refine ⟨V, by rw [HQ.out]; rfl, fun q hq => ?_, HB3.out.trans (hb4.mono HB3.out.size)⟩
      rw [HQ.out] at hq; cases hq
    | true =>
      rw [Bool.true_and] at HQ
      have hx := HX.out
      by_cases h1 : 0 ≤ V
      · by_cases h2 : V ≤ 1048576
        · rw [decide_eq_true h1, decide_eq_true h2] at HQ
          go_wp2_with fail
          refine HD.out.mono ?_
          rintro e w4 ⟨rfl, hb4⟩
          go_wp2_with fail
          go_ret2
          refine ⟨V, by rw [HQ.out]; rfl, fun q hq => ?_, HB3.out.trans (hb4.mono HB3.out.size)⟩
          rw [HQ.out] at hq; cases hq; rfl
        · rw [decide_eq_false h2, Bool.and_false] at HQ
          go_wp2_with fail
          refine HD.out.mono ?_
          rintro e w4 ⟨rfl, hb4⟩
          go_wp2_with fail
          go_ret2
          refine ⟨V, by rw [HQ.out, decide_eq_false (Int.not_le.2 h2)]; rfl, fun q hq => ?_, HB3.out.trans (hb4.mono HB3.out.size)⟩
          rw [HQ.out] at hq; cases hq
      · rw [decide_eq_false h1, Bool.false_and] at HQ
        go_wp2_with fail
        refine HD.out.mono ?_
        rintro e w4 ⟨rfl, hb4⟩
        go_wp2_with fail
        go_ret2
        refine ⟨V, by rw [HQ.out]; rfl, fun q hq => ?_, HB3.out.trans (hb4.mono HB3.out.size)⟩
        rw [HQ.out] at hq; cases hq
set_option maxRecDepth 100000 in
set_option maxHeartbeats 1000000 in
theorem linesOf_any (s : ByteArray) (w : World) (hs : s.size ≤ 1048576) (hv : VarsP w) :
    Calls Tryz.prog 13 #[.string s] w fun e w' => ∃ b off cap, e = .returned (.slice (some ⟨b, off, none⟩) (lnB s).length cap) ∧ (lnB s).length ≤ cap ∧ LieP w' (some ⟨b, off, none⟩) (lnB s) ∧ Below w.heap.size w w' ∧ b < w'.heap.size := by
  obtain ⟨-, m, hm⟩ := hv
  have HS := hdN (Tryz.strings_Split s ⟨#[10]⟩ m w (by omega) hm (by decide))
  have HC := hdN (cutB_count 10 s)
  have HE := hdN (cutB_split 10 s)
  have hne : cutB 10 s ≠ [] := by unfold cutB; simp [cutL_ne]
  have hcl := cutB_len 10 s
  have HL : Hid (lnB s = if (cutB 10 s).getLast? = some ByteArray.empty then (cutB 10 s).dropLast else cutB 10 s) := rfl
  clear hm
  rw [HE.out, HC.out] at HS
  have hlie := lieP_split w (cutB 10 s)
  have hbw : Below w.heap.size w (w.alloc (.cells (((cutB 10 s).map Value.string).toArray) 9)) := (Below.refl _ _).alloc (Nat.le_refl _) _
  have hlt : w.heap.size < (w.alloc (.cells (((cutB 10 s).map Value.string).toArray) 9)).heap.size := by simp
  generalize lnB s = L at *
  generalize cutB 10 s = C at *
  generalize w.alloc (.cells ((C.map Value.string).toArray) 9) = w1 at *
  have hcp : 0 < C.length := List.length_pos_iff.2 hne
  have el : C.getLast? = some (C.getD (C.length - 1) ByteArray.empty) := by
    rw [List.getLast?_eq_getElem?, List.getElem?_eq_getElem (by omega)]
    simp [List.getD_eq_getElem?_getD, List.getElem?_eq_getElem (show C.length - 1 < C.length by omega)]
  have c1 : (0 : Int) ≤ (C.length : Int) - 1 := by omega
  have c2 : (C.length : Int) - 1 < C.length := by omega
  have c3 : ((C.length : Int) - 1).toNat = C.length - 1 := by omega
  have c4 : wrap64 ((C.length : Int) - 1) = (C.length : Int) - 1 := by unfold wrap64; omega
  have hl3 : LieP w1 (some ⟨w.heap.size, 0, none⟩) C.dropLast := by
    have e : C = C.dropLast ++ [C.getLast hne] := (List.dropLast_concat_getLast hne).symm
    rw [e] at hlie
    exact hlie.init
  have hlast : w1.cell? ⟨w.heap.size, C.length - 1, none⟩ = some (.string (C.getD (C.length - 1) ByteArray.empty)) := by
    rcases hlie with h | ⟨b, off, hb, hbl, hc⟩
    · exact absurd h hne
    · cases hb
      have := hc (C.length - 1) (by omega)
      rwa [Nat.zero_add] at this
  have HLI := hdN hlie
  have HL3 := hdN hl3
  have HBW := hdN hbw
  clear hlie hl3 hbw
  by_cases h0 : C.getD (C.length - 1) ByteArray.empty = ByteArray.empty
  · have hL : L = C.dropLast := by rw [HL.out, el, h0, if_pos rfl]
    subst hL
    have hdl : C.dropLast.length = C.length - 1 := by simp
    rw [hdl]
    have he := emptyL h0
    generalize C.getD (C.length - 1) ByteArray.empty = T at *
    clear HL el HC hdl hne HE
    generalize C.dropLast = D at *
    have hlt2 : C.length - 1 ≤ C.length := by omega
    generalize hln : C.length = len at *
    go_enter Tryz.func13, Tryz.ntmps13
    go_wp2_with fail
    refine HS.out.mono ?_
    rintro e w9 ⟨rfl, hw⟩
    subst hw
    go_wp2_with fail
    go_ret
    exact ⟨_, _, _, rfl, hlt2, HL3.out, HBW.out, hlt⟩
  · have hL : L = C := by
      rw [HL.out, el, if_neg]
      intro h
      injection h with h
      exact h0 h
    subst hL
    have he : ((L.getD (L.length - 1) ByteArray.empty).toList == []) = false := neL h0
    generalize L.getD (L.length - 1) ByteArray.empty = T at *
    clear HL el HC hne HE
    generalize hln : L.length = len at *
    go_enter Tryz.func13, Tryz.ntmps13
    go_wp2_with fail
    refine HS.out.mono ?_
    rintro e w9 ⟨rfl, hw⟩
    subst hw
    go_wp2_with fail
    go_ret
    exact ⟨_, _, _, rfl, Nat.le_refl _, HLI.out, HBW.out, hlt⟩
end Go.Proofs.YtohpfjpgihcmiaaGreatDoor
