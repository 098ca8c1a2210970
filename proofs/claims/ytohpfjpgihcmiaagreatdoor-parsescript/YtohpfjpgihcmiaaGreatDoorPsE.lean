import Derived.Test.YtohpfjpgihcmiaaGreatDoorPsD

namespace Go.Proofs.YtohpfjpgihcmiaaGreatDoor
open Go.RowKit Go.Maps
set_option linter.unusedVariables false
set_option linter.unusedSimpArgs false

theorem alloc_atP (W : World) (o : Obj) (k : Nat) (hk : k = W.heap.size) : (W.alloc o).heap[k]? = some o := by subst hk; exact alloc_newP _ _
/-- The variables that a reader of lines wants. -/
def VarsP (w : World) : Prop := VarsN w ∧ ∃ m, w.cell? ⟨0, 0, none⟩ = some (.int .i64 m)
theorem VarsP.below {w w' : World} (h : VarsP w) (hb : Below w.heap.size w w') : VarsP w' := by
  obtain ⟨h1, m, h2⟩ := h
  refine ⟨h1.below hb, m, (hb.cell (p := ⟨0, 0, none⟩) ?_).trans h2⟩
  by_cases hl : 0 < w.heap.size
  · exact hl
  · have e : w.heap[(0 : Nat)]? = none := Array.getElem?_eq_none (by omega)
    simp [World.cell?, e] at h2

set_option maxRecDepth 100000 in
theorem outside_gives (W : World) (x : Nat) (hx : x ≤ 1114111) : FnGives Tryz.prog 59 #[] #[encR x] (.bool (outR x)) W := by
  unfold FnGives
  show Calls Tryz.prog 59 #[.int .i32 (x : Int)] W _
  have h0 : outR x = (decide (x < 33) || decide (126 < x)) := rfl
  by_cases h1 : x < 33
  · have h1' : (x : Int) < 33 := by omega
    have e : outR x = true := by rw [h0, decide_eq_true h1]; rfl
    rw [e]
    clear h0 e
    go_enter Tryz.func59, Tryz.ntmps59
    go_wp2_with fail
    go_ret
    exact ⟨rfl, 0, rfl⟩
  · by_cases h2 : 126 < x
    · have h1' : ¬ (x : Int) < 33 := by omega
      have h2' : (126 : Int) < x := by omega
      have e : outR x = true := by rw [h0, decide_eq_true h2, Bool.or_true]
      rw [e]
      clear h0 e
      go_enter Tryz.func59, Tryz.ntmps59
      go_wp2_with fail
      go_ret
      exact ⟨rfl, 0, rfl⟩
    · have h1' : ¬ (x : Int) < 33 := by omega
      have h2' : ¬ (126 : Int) < x := by omega
      have e : outR x = false := by rw [h0, decide_eq_false h1, decide_eq_false h2]; rfl
      rw [e]
      clear h0 e
      go_enter Tryz.func59, Tryz.ntmps59
      go_wp2_with fail
      go_ret
      exact ⟨rfl, 0, rfl⟩

set_option maxRecDepth 100000 in
theorem done_any (p : Nat) (r : List ByteArray) (fl : Bool) (w : World) (h : Pt w p r fl) (hl : r.length ≤ 1048577) :
    Calls Tryz.prog 29 #[.pointer (some ⟨p, 0, none⟩)] w fun e w' => e = .returned (.bool (!fl && r.isEmpty)) ∧ Below w.heap.size w w' := by
  have HM := hdN (more_any p r fl w h hl)
  obtain ⟨a, cap, h1, h2, h3, h4⟩ := h
  obtain ⟨c0, c1, z0, z1, hlt⟩ := two_cellsP h1
  have he : r.isEmpty = !decide (0 < r.length) := by cases r <;> simp
  rw [he]
  clear h1 h3 h4 he
  generalize r.length = len at *
  cases fl with
  | true =>
    go_enter Tryz.func29, Tryz.ntmps29
    go_wp2_with fail
    go_ret
    exact ⟨by first | rfl | simp, Below.refl _ _⟩
  | false =>
    go_enter Tryz.func29, Tryz.ntmps29
    go_wp2_with fail
    refine HM.out.mono ?_
    rintro e w' ⟨rfl, rfl⟩
    go_wp2_with fail
    go_ret
    exact ⟨by first | rfl | simp, Below.refl _ _⟩
set_option maxRecDepth 100000 in
set_option maxHeartbeats 1000000 in
theorem cutLine_any (s : ByteArray) (w : World) (hs : s.size ≤ 1048576) (hv : VarsP w) :
    Calls Tryz.prog 26 #[.string s] w fun e w' => ∃ p, e = .returned (.pointer (some ⟨p, 0, none⟩)) ∧ w.heap.size ≤ p ∧ Pt w' p (cutB 32 s) false ∧ Below w.heap.size w w' := by
  obtain ⟨-, m, hm⟩ := hv
  have HS := hdN (Tryz.strings_Split s ⟨#[32]⟩ m w (by omega) hm (by decide))
  have HC := hdN (cutB_count 32 s)
  have HE := hdN (cutB_split 32 s)
  clear hm
  go_enter Tryz.func26, Tryz.ntmps26
  go_wp2_with fail
  refine HS.out.mono ?_
  rintro e w' ⟨rfl, rfl⟩
  rw [HE.out, HC.out]
  have HL := hdN (lieP_split w (cutB 32 s))
  generalize hw1 : w.alloc (.cells (((cutB 32 s).map Value.string).toArray) 9) = w1 at *
  have hz : w1.heap.size = w.heap.size + 1 := by rw [← hw1]; simp
  have hb1 : Below w.heap.size w w1 := by rw [← hw1]; exact (Below.refl _ _).alloc (Nat.le_refl _) _
  go_wp2_with fail
  go_ret
  refine ⟨_, rfl, by omega, ⟨some ⟨w.heap.size, 0, none⟩, (cutB 32 s).length, alloc_atP _ _ _ (by omega), Nat.le_refl _, HL.out.below ((Below.refl _ _).alloc (Nat.le_refl _) _), fun b off e => by cases e; omega⟩, hb1.alloc (by omega) _⟩
set_option maxRecDepth 100000 in
set_option maxHeartbeats 1000000 in
theorem number_any (p n0 : Nat) (r : List ByteArray) (fl : Bool) (w w0 : World) (h : Pt w p r fl) (hl : r.length ≤ 1048577) (hz : ∀ x ∈ r, x.size ≤ 1048576) (hv : VarsP w0) (hb : Below w0.heap.size w0 w) (hp : w0.heap.size ≤ p) :
    Calls Tryz.prog 28 #[.pointer (some ⟨p, 0, none⟩)] w fun e w' => e = .returned (.int .i64 ((rd (r.headD ByteArray.empty).data.toList).getD 0)) ∧ Pt w' p r.tail (fl || (numM (r.headD ByteArray.empty).data.toList).isNone) ∧ Only p w w' := by
  have HX := hdN (next_any p r fl w h hl)
  have hx : (r.headD ByteArray.empty).size ≤ 1048576 := by
    cases r with
    | nil => exact Nat.zero_le _
    | cons x r => exact hz x (by simp)
  generalize r.headD ByteArray.empty = X at *
  have HR := hdN (fun (w' : World) (ho : Only p w w') => readDecimal_any X hx w' ((hv.below (hb.trans (ho.below hp hb.size))).1))
  have HN : Hid (numM X.data.toList = match rd X.data.toList with
      | some v => if -1 ≤ v ∧ v ≤ 99999999 then some v else none
      | none => none) := rfl
  generalize numM X.data.toList = N at *
  generalize rd X.data.toList = R at *
  go_enter Tryz.func28, Tryz.ntmps28
  go_wp2_with fail
  refine HX.out.mono ?_
  rintro e w1 ⟨rfl, hp1, ho1⟩
  go_wp2_with fail
  refine (HR.out _ ho1).mono ?_
  rintro e w2 ⟨rfl, hb2⟩
  have hp2 := hp1.below hb2
  have ho2 := ho1.trans (Only.of hb2)
  obtain ⟨a, cap, h1, -, -, -⟩ := id hp2
  obtain ⟨c0, c1, z0, z1, hlt⟩ := two_cellsP h1
  clear h1 hp1 ho1 hb2 HX HR
  have HP1 := hdN hp2
  have HPF := hdN hp2.fault
  have HO1 := hdN ho2
  have HOF := hdN (ho2.trans (Only.set w2 1 (.bool true)))
  clear hp2 ho2
  cases R with
  | none =>
    have hN := HN.out
    subst hN
    go_wp2_with fail
    go_ret
    exact ⟨rfl, by simpa using HPF.out, HOF.out⟩
  | some v =>
    by_cases v1 : v < -1
    · have hN : N = none := by rw [HN.out]; exact if_neg (by omega)
      subst hN
      have v1' : ¬ -1 ≤ v := by omega
      go_wp2_with fail
      go_ret
      exact ⟨rfl, by simpa using HPF.out, HOF.out⟩
    · by_cases v2 : 99999999 < v
      · have hN : N = none := by rw [HN.out]; exact if_neg (by omega)
        subst hN
        have v1' : ¬ v ≤ 99999999 := by omega
        go_wp2_with fail
        go_ret
        exact ⟨rfl, by simpa using HPF.out, HOF.out⟩
      · have hN : N = some v := by rw [HN.out]; exact if_pos (by omega)
        subst hN
        go_wp2_with fail
        go_ret
        exact ⟨rfl, by simpa using HP1.out, HO1.out⟩

theorem emptyL {s : ByteArray} (h : s = ByteArray.empty) : (s.toList == []) = true := by subst h; rw [ByteArray.toList_eq]; rfl
set_option maxRecDepth 100000 in
set_option maxHeartbeats 1000000 in
theorem word_any (p : Nat) (r : List ByteArray) (fl : Bool) (w : World) (h : Pt w p r fl) (hl : r.length ≤ 1048577) :
    Calls Tryz.prog 49 #[.pointer (some ⟨p, 0, none⟩)] w fun e w' => e = .returned (.string (if r.headD ByteArray.empty = ⟨#[95]⟩ then ByteArray.empty else r.headD ByteArray.empty)) ∧ Pt w' p r.tail (fl || (woO (r.headD ByteArray.empty)).isNone) ∧ Only p w w' := by
  have HX := hdN (next_any p r fl w h hl)
  generalize r.headD ByteArray.empty = X at *
  have HF := hdN (fun (w' : World) => Tryz.strings_ContainsFunc_runes 59 #[] (enters_of Tryz.func59 (by kernel_rfl) rfl) outR X w' (fun W x hx _ => outside_gives W x hx))
  rw [contains_out] at HF
  by_cases hx0 : X = ByteArray.empty
  · have e0 := emptyL hx0
    have hN : (woO X).isNone = true := by subst hx0; unfold woO; rw [if_neg (by simp)]; rfl
    have hne : ¬ X = ⟨#[95]⟩ := by subst hx0; decide
    have e1 : (X.toList == [95]) = false := neL hne
    rw [hN, if_neg hne, Bool.or_true]
    clear HF hN hx0 hne
    go_enter Tryz.func49, Tryz.ntmps49
    go_wp2_with fail
    refine HX.out.mono ?_
    rintro e w1 ⟨rfl, hp1, ho1⟩
    obtain ⟨a, cap, h1, -, -, -⟩ := id hp1
    obtain ⟨c0, c1, z0, z1, hlt⟩ := two_cellsP h1
    have HPF := hdN hp1.fault
    have HOF := hdN (ho1.trans (Only.set w1 1 (.bool true)))
    clear hp1 ho1 h1
    go_wp2_with fail
    go_ret
    exact ⟨rfl, HPF.out, HOF.out⟩
  · have e0 : (X.toList == []) = false := neL hx0
    have hs0 : X.size ≠ 0 := fun h => hx0 (size0P h)
    by_cases hA : X.data.toList.all inW = true
    · have hN : (woO X).isNone = false := by unfold woO; rw [if_pos ⟨hA, hs0⟩]; rfl
      rw [hN, Bool.or_false]
      rw [hA] at HF
      clear hN hA
      by_cases h95 : X = ⟨#[95]⟩
      · rw [if_pos h95]
        subst h95
        go_enter Tryz.func49, Tryz.ntmps49
        go_wp2_with fail
        refine HX.out.mono ?_
        rintro e w1 ⟨rfl, hp1, ho1⟩
        go_wp2_with fail
        refine (HF.out _).mono ?_
        rintro e w2 ⟨rfl, hb2⟩
        have HP := hdN (hp1.below hb2)
        have HO := hdN (ho1.trans (Only.of hb2))
        clear hp1 ho1 hb2
        go_wp2_with fail
        go_ret
        exact ⟨rfl, HP.out, HO.out⟩
      · rw [if_neg h95]
        have e1 : (X.toList == [95]) = false := neL h95
        go_enter Tryz.func49, Tryz.ntmps49
        go_wp2_with fail
        refine HX.out.mono ?_
        rintro e w1 ⟨rfl, hp1, ho1⟩
        go_wp2_with fail
        refine (HF.out _).mono ?_
        rintro e w2 ⟨rfl, hb2⟩
        have HP := hdN (hp1.below hb2)
        have HO := hdN (ho1.trans (Only.of hb2))
        clear hp1 ho1 hb2
        go_wp2_with fail
        go_ret
        exact ⟨rfl, HP.out, HO.out⟩
    · have hN : (woO X).isNone = true := by unfold woO; rw [if_neg (fun h => hA h.1)]; rfl
      rw [hN, Bool.or_true]
      have hA' : X.data.toList.all inW = false := by simpa using hA
      rw [hA'] at HF
      have h95 : ¬ X = ⟨#[95]⟩ := fun h => hA (by rw [h]; decide)
      rw [if_neg h95]
      have e1 : (X.toList == [95]) = false := neL h95
      clear hN hA hA'
      go_enter Tryz.func49, Tryz.ntmps49
      go_wp2_with fail
      refine HX.out.mono ?_
      rintro e w1 ⟨rfl, hp1, ho1⟩
      go_wp2_with fail
      refine (HF.out _).mono ?_
      rintro e w2 ⟨rfl, hb2⟩
      have hp2 := hp1.below hb2
      have ho2 := ho1.trans (Only.of hb2)
      obtain ⟨a, cap, h1, -, -, -⟩ := id hp2
      obtain ⟨c0, c1, z0, z1, hlt⟩ := two_cellsP h1
      have HPF := hdN hp2.fault
      have HOF := hdN (ho2.trans (Only.set w2 1 (.bool true)))
      clear hp1 ho1 hb2 hp2 ho2 h1
      go_wp2_with fail
      go_ret
      exact ⟨rfl, HPF.out, HOF.out⟩
end Go.Proofs.YtohpfjpgihcmiaaGreatDoor
