import Derived.Test.YtphikgobdfknkaaGreatDoorShelf
import Derived.Lib.AtoiAllCases
import Derived.Lib.AppendIntMem
import Derived.Lib.AtoiErrMem
namespace Go.Proofs.YtphikgobdfknkaaGreatDoor
open Go.RowKit Go.Maps
set_option linter.unusedVariables false
set_option linter.unusedSimpArgs false

/-- What the reader of decimals takes. -/
def rd (l : List UInt8) : Option Int := match Lib.atoiAll l with
  | .ok v => if Lib.itoa v = l then some v else none
  | _ => none
/-- The variables of strconv that are read. -/
def VarsN (w : World) : Prop := Lib.TabIs Tryz.prog w "internal/strconv.uint64pow10" .u64 Lib.pow10Tab ∧ (∃ tp p, w.var? Tryz.prog "strconv.ErrSyntax" = some #[.iface tp p]) ∧ ∃ tp p, w.var? Tryz.prog "strconv.ErrRange" = some #[.iface tp p]
theorem var_below {n : String} {w w' : World} {cs : Array Value} (h : w.var? Tryz.prog n = some cs) (hb : Below w.heap.size w w') : w'.var? Tryz.prog n = some cs := by
  unfold World.var? at h ⊢
  cases hg : Tryz.prog.globalNamed n with
  | none => rw [hg] at h; cases h
  | some g =>
    rw [hg] at h
    simp only [Option.bind_some] at h ⊢
    have hlt : g < w.heap.size := by
      by_cases hlt : g < w.heap.size
      · exact hlt
      · rw [Array.getElem?_eq_none (by omega)] at h; cases h
    rw [hb.block g hlt]
    exact h
theorem VarsN.below {w w' : World} (h : VarsN w) (hb : Below w.heap.size w w') : VarsN w' := by
  obtain ⟨h1, ⟨t2, p2, h2⟩, t3, p3, h3⟩ := h
  exact ⟨var_below h1 hb, ⟨t2, p2, var_below h2 hb⟩, t3, p3, var_below h3 hb⟩
theorem itoaN (n : Int) (h1 : -9223372036854775808 ≤ n) (h2 : n ≤ 9223372036854775807) (w : World) (hv : VarsN w) :
    Calls Tryz.prog 40 #[.int .i64 n] w fun e w' => e = .returned (.string (itB n)) ∧ Below w.heap.size w w' :=
  (Tryz.strconv_Itoa n h1 h2 w hv.1).mono fun e w' ⟨he, k, os, hw⟩ => ⟨he, by rw [hw]; exact Lib.below_grow _ _ (Nat.le_refl _) _ _⟩
theorem atoiN (s : ByteArray) (hs : s.size ≤ 1048576) (w : World) (hv : VarsN w) :
    Calls Tryz.prog 107 #[.string s] w fun e w' => (∃ v, Lib.atoiAll s.data.toList = .ok v ∧ -9223372036854775808 ≤ v ∧ v ≤ 9223372036854775807 ∧ e = .returned (.tuple #[.int .i64 v, .nilIface]) ∧ Below w.heap.size w w') ∨ (rd s.data.toList = none ∧ ∃ v t p, e = .returned (.tuple #[.int .i64 v, .iface t p]) ∧ Below w.heap.size w w') := by
  cases h : Lib.atoiAll s.data.toList with
  | ok v =>
    obtain ⟨b1, b2⟩ := Lib.atoiAll_bounds h
    refine (Tryz.strconv_Atoi_ok s (by omega) v h w).mono fun e w' ⟨he, hw⟩ => .inl ⟨v, rfl, by omega, by omega, he, ?_⟩
    rcases hw with rfl | ⟨t, rfl⟩
    · exact Below.refl _ _
    · exact Lib.bytesWorld_below _ _ _
  | «syntax» =>
    obtain ⟨-, ⟨tp, p, h2⟩, -⟩ := hv
    refine (Tryz.strconv_Atoi_syntax_var s (by omega) h tp p w h2).mono fun e w' ⟨N, he, _, _, hb⟩ => .inr ⟨by simp [rd, h], _, _, _, he, hb⟩
  | range =>
    obtain ⟨-, -, tp, p, h2⟩ := hv
    refine (Tryz.strconv_Atoi_range_var s (by omega) h tp p w h2).mono fun e w' ⟨N, he, _, _, hb⟩ => .inr ⟨by simp [rd, h], _, _, _, he, hb⟩
set_option maxRecDepth 100000 in
set_option maxHeartbeats 1000000 in
theorem readDecimal_any (s : ByteArray) (hs : s.size ≤ 1048576) (w : World) (hv : VarsN w) :
    Calls Tryz.prog 85 #[.string s] w fun e w' => e = .returned (.tuple #[.int .i64 ((rd s.data.toList).getD 0), .bool (rd s.data.toList).isSome]) ∧ Below w.heap.size w w' := by
  have HA := hdN (atoiN s hs w hv)
  have HT := hdN (fun (n : Int) (h1 : -9223372036854775808 ≤ n) (h2 : n ≤ 9223372036854775807) (w' : World) (hb : Below w.heap.size w w') => itoaN n h1 h2 w' (hv.below hb))
  have HR : Hid (∀ v, Lib.atoiAll s.data.toList = .ok v → rd s.data.toList = if itB v = s then some v else none) := fun v h => by
    unfold rd
    rw [h]
    have e1 : (Lib.itoa v = s.data.toList) ↔ itB v = s := by
      unfold itB
      constructor
      · intro h
        rw [h]
      · intro h
        have h2 := congrArg (fun b => b.data.toList) h
        simpa using h2
    simp only [e1]
  generalize rd s.data.toList = R at *
  go_enter Tryz.func85, Tryz.ntmps85
  go_wp2_with fail
  refine HA.out.mono ?_
  rintro e w1 (⟨v, hok, h1, h2, rfl, hb1⟩ | ⟨hn, v, t, p, rfl, hb1⟩)
  · have hR := HR.out v hok
    go_wp2_with fail
    refine (HT.out v h1 h2 _ hb1).mono ?_
    rintro e w2 ⟨rfl, hb2⟩
    have hbb := hb1.trans (hb2.mono hb1.size)
    by_cases hq : itB v = s
    · have hR' : R = some v := by rw [hR, if_pos hq]
      subst hR'
      have hq' : ((itB v).toList == s.toList) = true := by rw [hq]; simp
      go_wp2_with fail
      go_ret2
      exact ⟨rfl, hbb⟩
    · have hR' : R = none := by rw [hR, if_neg hq]
      subst hR'
      have hq' : ((itB v).toList == s.toList) = false := by
        cases h : ((itB v).toList == s.toList) with
        | false => rfl
        | true => exact absurd (toListN h) hq
      go_wp2_with fail
      go_ret2
      exact ⟨rfl, hbb⟩
  · subst hn
    go_wp2_with fail
    go_ret2
    exact ⟨rfl, hb1⟩
theorem valN_rd (l : List UInt8) : valN l = match rd l with
    | some v => if 1 ≤ v ∧ v ≤ 999999999 then v.toNat else 0
    | none => 0 := by
  have key : valN l ≠ 0 → ∃ v : Int, rd l = some v ∧ 1 ≤ v ∧ v ≤ 999999999 := fun h => by
    obtain ⟨v, h1, h2, h3, h4⟩ := (valN_iff l).2 h
    exact ⟨v, by simp [rd, h1, h2], h3, h4⟩
  cases hr : rd l with
  | none =>
    simp only
    by_cases h : valN l = 0
    · exact h
    · obtain ⟨v, h1, -⟩ := key h
      rw [hr] at h1
      cases h1
  | some v =>
    simp only
    by_cases hv : 1 ≤ v ∧ v ≤ 999999999
    · rw [if_pos hv]
      have hl : Lib.itoa v = l := by
        unfold rd at hr
        split at hr
        · split at hr
          · rename_i h
            cases hr
            exact h
          · cases hr
        · cases hr
      obtain ⟨n, rfl⟩ : ∃ n : Nat, v = n := ⟨v.toNat, by omega⟩
      rw [Lib.itoa_nonneg] at hl
      rw [← hl, valN_dec (by omega) (by omega)]
      rfl
    · rw [if_neg hv]
      by_cases h : valN l = 0
      · exact h
      · obtain ⟨v', h1, h2⟩ := key h
        rw [hr] at h1
        cases h1
        exact absurd h2 hv
/-- The number between a stem and an end, 0 if there is none. -/
def numIn (l st en : List UInt8) : Nat := if Lib.hasPrefix l st = true ∧ Lib.hasSuffix (Lib.trimPrefix l st) en = true then valN (Lib.trimSuffix (Lib.trimPrefix l st) en) else 0
theorem trimP_len (l p : List UInt8) : (Lib.trimPrefix l p).length ≤ l.length := by
  unfold Lib.trimPrefix
  split <;> simp
theorem trimS_len (l p : List UInt8) : (Lib.trimSuffix l p).length ≤ l.length := by
  unfold Lib.trimSuffix
  split <;> simp
set_option maxRecDepth 100000 in
set_option maxHeartbeats 1000000 in
theorem validNumN (n : Int) (w : World) :
    Calls Tryz.prog 86 #[.int .i64 n] w fun e w' => e = .returned (.bool (decide (1 ≤ n ∧ n ≤ 999999999))) ∧ Below w.heap.size w w' := by
  by_cases h1 : 1 ≤ n
  · by_cases h2 : n ≤ 999999999
    · go_enter Tryz.func86, Tryz.ntmps86
      go_wp2_with fail
      go_ret
      exact ⟨by simp [h1, h2], Below.refl _ _⟩
    · go_enter Tryz.func86, Tryz.ntmps86
      go_wp2_with fail
      go_ret
      exact ⟨by simp [h1, h2], Below.refl _ _⟩
  · go_enter Tryz.func86, Tryz.ntmps86
    go_wp2_with fail
    go_ret
    exact ⟨by simp; omega, Below.refl _ _⟩
set_option maxRecDepth 100000 in
set_option maxHeartbeats 2000000 in
theorem numberIn_any (s st en : ByteArray) (hs : s.size ≤ 1048576) (w : World) (hv : VarsN w) :
    Calls Tryz.prog 60 #[.string s, .string st, .string en] w fun e w' => e = .returned (.tuple #[.int .i64 (numIn s.data.toList st.data.toList en.data.toList : Nat), .bool (decide (numIn s.data.toList st.data.toList en.data.toList ≠ 0))]) ∧ Below w.heap.size w w' := by
  have hlen : s.data.toList.length = s.size := by rw [Array.length_toList]; rfl
  have HP := hdN (fun w => Tryz.strings_CutPrefix s st w)
  have hl1 := trimP_len s.data.toList st.data.toList
  have HN : Hid (numIn s.data.toList st.data.toList en.data.toList = if Lib.hasPrefix s.data.toList st.data.toList = true ∧ Lib.hasSuffix (Lib.trimPrefix s.data.toList st.data.toList) en.data.toList = true then valN (Lib.trimSuffix (Lib.trimPrefix s.data.toList st.data.toList) en.data.toList) else 0) := rfl
  generalize numIn s.data.toList st.data.toList en.data.toList = V at *
  generalize Lib.trimPrefix s.data.toList st.data.toList = A at *
  generalize Lib.hasPrefix s.data.toList st.data.toList = bg at *
  have HC := hdN (fun w => Tryz.strings_CutSuffix ⟨A.toArray⟩ en w (by show A.toArray.size ≤ _; rw [List.size_toArray]; omega))
  have eA : (⟨A.toArray⟩ : ByteArray).data.toList = A := by simp
  rw [eA] at HC
  have hl2 := trimS_len A en.data.toList
  generalize Lib.trimSuffix A en.data.toList = Z at *
  generalize Lib.hasSuffix A en.data.toList = ed at *
  have HR := hdN (fun w' (hb : Below w.heap.size w w') => readDecimal_any ⟨Z.toArray⟩ (by show Z.toArray.size ≤ _; rw [List.size_toArray]; omega) w' (hv.below hb))
  have eZ : (⟨Z.toArray⟩ : ByteArray).data.toList = Z := by simp
  rw [eZ] at HR
  have HVR := hdN (valN_rd Z)
  generalize valN Z = vz at *
  generalize hrd : rd Z = r at *
  clear hrd eA eZ
  go_enter Tryz.func60, Tryz.ntmps60
  go_wp2_with fail
  refine (HP.out _).mono ?_
  rintro e w1 ⟨rfl, rfl⟩
  go_wp2_with fail
  refine (HC.out _).mono ?_
  rintro e w2 ⟨rfl, rfl⟩
  go_wp2_with fail
  refine (HR.out _ (Below.refl _ _)).mono ?_
  rintro e w3 ⟨rfl, hb3⟩
  cases bg with
  | false =>
    have hV : V = 0 := by rw [HN.out]; simp
    subst hV
    go_wp2_with fail
    go_ret2
    exact ⟨rfl, hb3⟩
  | true =>
    cases ed with
    | false =>
      have hV : V = 0 := by rw [HN.out]; simp
      subst hV
      go_wp2_with fail
      go_ret2
      exact ⟨rfl, hb3⟩
    | true =>
      cases r with
      | none =>
        have hV : V = 0 := by rw [HN.out]; simpa using HVR.out
        subst hV
        go_wp2_with fail
        go_ret2
        exact ⟨rfl, hb3⟩
      | some v =>
        have hvz : vz = if 1 ≤ v ∧ v ≤ 999999999 then v.toNat else 0 := HVR.out
        have hVz : V = vz := by rw [HN.out]; simp
        have HVn := hdN (validNumN v w3)
        go_wp2_with fail
        refine HVn.out.mono ?_
        rintro e w4 ⟨rfl, hb4⟩
        have hbb := hb3.trans (hb4.mono hb3.size)
        by_cases hr : 1 ≤ v ∧ v ≤ 999999999
        · have hV : V = v.toNat := by rw [hVz, hvz, if_pos hr]
          obtain ⟨n, rfl⟩ : ∃ n : Nat, v = n := ⟨v.toNat, by omega⟩
          have hV' : V = n := by rw [hV]; rfl
          subst hV'
          have hd1 : decide (1 ≤ (V : Int) ∧ (V : Int) ≤ 999999999) = true := by simpa using hr
          have hd2 : decide (V ≠ 0) = true := by simp; omega
          rw [hd1]
          clear hV hVz hvz hd1 hr HVR HN
          go_wp2_with fail
          go_ret2
          exact ⟨by rw [hd2]; rfl, hbb⟩
        · have hV : V = 0 := by rw [hVz, hvz, if_neg hr]
          subst hV
          have hd1 : decide (1 ≤ v ∧ v ≤ 999999999) = false := by simpa using hr
          rw [hd1]
          clear hVz hvz hd1 hr HVR HN
          go_wp2_with fail
          go_ret2
          exact ⟨rfl, hbb⟩
end Go.Proofs.YtphikgobdfknkaaGreatDoor
namespace Go.Proofs.YtphikgobdfknkaaGreatDoor
open Go.RowKit Go.Maps
set_option linter.unusedVariables false
set_option linter.unusedSimpArgs false

/-- MANIFEST- -/
def manL : List UInt8 := [77, 65, 78, 73, 70, 69, 83, 84, 45]
def manB : ByteArray := ⟨#[77, 65, 78, 73, 70, 69, 83, 84, 45]⟩
/-- CURRENT -/
def curB : ByteArray := ⟨#[67, 85, 82, 82, 69, 78, 84]⟩
def curT : ByteArray := ⟨#[67, 85, 82, 82, 69, 78, 84, 46, 116, 109, 112]⟩
def logB : ByteArray := ⟨#[46, 108, 111, 103]⟩
def sstB : ByteArray := ⟨#[46, 115, 115, 116]⟩
/-- The number in a manifest's name. -/
def manN (l : List UInt8) : Nat := numIn l manL []
theorem manN_eq (l : List UInt8) : manN l = if manL.isPrefixOf l = true then valN (l.drop 9) else 0 := by
  unfold manN numIn
  have h1 : Lib.hasSuffix (Lib.trimPrefix l manL) [] = true := by simp [Lib.hasSuffix, List.isSuffixOf]
  have h2 : ∀ x : List UInt8, Lib.trimSuffix x [] = x := fun x => by
    unfold Lib.trimSuffix
    split <;> simp
  simp only [h1, h2, and_true]
  unfold Lib.hasPrefix Lib.trimPrefix Lib.hasPrefix
  by_cases h : manL.isPrefixOf l = true
  · rw [if_pos h, if_pos h, if_pos h]
    rfl
  · rw [if_neg h, if_neg h]
theorem pre_take (s h : ByteArray) (hl : h.size ≤ s.size) : h.data.toList.isPrefixOf s.data.toList = ((s.extract 0 h.size).toList == h.toList) := by
  have e1 : (s.extract 0 h.size).toList = s.data.toList.take h.size := by
    rw [ByteArray.toList_eq]
    simp
  have e2 : h.toList = h.data.toList := ByteArray.toList_eq _
  have e3 : h.data.toList.length = h.size := by rw [Array.length_toList]; rfl
  rw [e1, e2, Bool.eq_iff_iff, List.isPrefixOf_iff_prefix, beq_iff_eq, List.prefix_iff_eq_take, e3]
  exact eq_comm
set_option maxRecDepth 100000 in
set_option maxHeartbeats 1000000 in
theorem begins_any (s h : ByteArray) (w : World) (hs : s.size ≤ 1048576) (hh : h.size ≤ 1048576) :
    Calls Tryz.prog 27 #[.string s, .string h] w fun e w' => e = .returned (.bool (h.data.toList.isPrefixOf s.data.toList)) ∧ Below w.heap.size w w' := by
  by_cases hl : h.size ≤ s.size
  · rw [pre_take s h hl]
    have hl' : (h.size : Int) ≤ (s.size : Int) := by omega
    have h0 : (0 : Int) ≤ (h.size : Int) := by omega
    generalize hX : ((s.extract 0 h.size).toList == h.toList) = X
    go_enter Tryz.func27, Tryz.ntmps27
    go_wp2_with fail
    go_ret
    exact ⟨rfl, Below.refl _ _⟩
  · have hf : h.data.toList.isPrefixOf s.data.toList = false := by
      cases hp : h.data.toList.isPrefixOf s.data.toList with
      | false => rfl
      | true =>
        have := (List.isPrefixOf_iff_prefix.1 hp).length_le
        rw [Array.length_toList, Array.length_toList] at this
        exact absurd this hl
    rw [hf]
    have hl' : ¬ (h.size : Int) ≤ (s.size : Int) := by omega
    go_enter Tryz.func27, Tryz.ntmps27
    go_wp2_with fail
    go_ret
    exact ⟨rfl, Below.refl _ _⟩
set_option maxRecDepth 100000 in
set_option maxHeartbeats 1000000 in
theorem manNum_any (s : ByteArray) (w : World) (hs : s.size ≤ 1048576) :
    Calls Tryz.prog 12 #[.string s] w fun e w' => e = .returned (.int .i64 (manN s.data.toList : Nat)) ∧ Below w.heap.size w w' := by
  have HV := hdN (fun (t : ByteArray) (ht : t.size ≤ 1048576) w => value_any t w (by unfold maxLen; omega))
  have HB := hdN (fun w => begins_any s manB w hs (by decide))
  have hlen : s.data.toList.length = s.size := by rw [Array.length_toList]; rfl
  have HM := hdN (manN_eq s.data.toList)
  have eM : manB.data.toList = manL := rfl
  rw [eM] at HB
  have HL : Hid (manL.isPrefixOf s.data.toList = true → 9 ≤ s.size) := fun h => by
    have := (List.isPrefixOf_iff_prefix.1 h).length_le
    rw [hlen] at this
    exact this
  have HE : Hid ((s.extract 9 s.size).data.toList = s.data.toList.drop 9) := by
    show _ = _
    simp only [ByteArray.data_extract, Array.toList_extract, List.extract_eq_take_drop]
    rw [List.take_of_length_le (by rw [List.length_drop, hlen]; exact Nat.le_refl _)]
  generalize manN s.data.toList = V at *
  generalize manL.isPrefixOf s.data.toList = bg at *
  go_enter Tryz.func12, Tryz.ntmps12
  go_wp2_with fail
  refine (HB.out _).mono ?_
  rintro e w1 ⟨rfl, hb1⟩
  cases bg with
  | false =>
    have hV : V = 0 := by rw [HM.out]; rfl
    subst hV
    go_wp2_with fail
    go_ret
    exact ⟨rfl, hb1⟩
  | true =>
    have h9 := HL.out rfl
    have h9' : (9 : Int) ≤ (s.size : Int) := by omega
    have hV : valN (s.extract 9 s.size).data.toList = V := by rw [HM.out, HE.out]; rfl
    have HV2 := hdN (fun w => HV.out (s.extract 9 s.size) (by simp only [ByteArray.size_extract]; omega) w)
    rw [hV] at HV2
    clear hV HE HM
    go_wp2_with fail
    refine (HV2.out _).mono ?_
    rintro e w2 ⟨rfl, hb2⟩
    go_wp2_with fail
    go_ret
    exact ⟨rfl, hb1.trans (hb2.mono hb1.size)⟩
theorem cur_ne {s c : ByteArray} (h : s ≠ c) : (s.toList == c.toList) = false := by
  cases hh : (s.toList == c.toList) with
  | false => rfl
  | true => exact absurd (toListN hh) h
end Go.Proofs.YtphikgobdfknkaaGreatDoor
namespace Go.Proofs.YtphikgobdfknkaaGreatDoor
open Go.RowKit Go.Maps
set_option linter.unusedVariables false
set_option linter.unusedSimpArgs false

theorem two_cellsN {w : World} {p : Nat} {t : TypeId} {x0 x1 : Value} (h : w.heap[p]? = some (.cells #[x0, x1] t (0, 0))) : w.cell? ⟨p, 0, none⟩ = some x0 ∧ w.cell? ⟨p, 1, none⟩ = some x1 := by
  refine ⟨?_, ?_⟩ <;> simp [World.cell?, h]
theorem two_freeN {w : World} {p : Nat} {t : TypeId} {x0 x1 : Value} (h : w.heap[p]? = some (.cells #[x0, x1] t (0, 0))) : w.frozen? ⟨p, 0, none⟩ = false ∧ w.frozen? ⟨p, 1, none⟩ = false := by
  refine ⟨?_, ?_⟩ <;> simp [World.frozen?, h]
theorem heap_ltN {w : World} {p : Nat} {o : Obj} (h : w.heap[p]? = some o) : p < w.heap.size := by
  by_cases hlt : p < w.heap.size
  · exact hlt
  · rw [Array.getElem?_eq_none (by omega)] at h; cases h
theorem below_setN2 {B p o : Nat} {w w' : World} {v : Value} (h : B ≤ p) (hb : Below B w w') : Below B w (w'.setCell ⟨p, o, none⟩ v) := hb.setCell h _
set_option maxRecDepth 100000 in
set_option maxHeartbeats 4000000 in
theorem readName_any (s : ByteArray) (hs : s.size ≤ 1048576) (w : World) (hv : VarsN w) :
    Calls Tryz.prog 37 #[.string s] w fun e w' => ∃ k n : Int, e = .returned (.agg #[.int .i64 k, .int .i64 n]) ∧ (k = 3 ↔ manN s.data.toList ≠ 0) ∧ Below w.heap.size w w' := by
  have HN := hdN (fun (st en : ByteArray) (w' : World) (hb : Below w.heap.size w w') => numberIn_any s st en hs w' (hv.below hb))
  have hb0 : Below w.heap.size w (w.alloc (.cells #[.int .i64 0, .int .i64 0] 93)) := (Below.refl _ _).alloc (Nat.le_refl _) _
  have hV0 : (w.alloc (.cells #[.int .i64 0, .int .i64 0] 93)).heap[w.heap.size]? = some (.cells #[.int .i64 0, .int .i64 0] 93 (0, 0)) := World.heap_alloc_new _ _
  have HM0 : Hid (∀ l : List UInt8, s.toList = l → manL.isPrefixOf l = false → manN s.data.toList = 0) := fun l h1 h2 => by
    rw [ByteArray.toList_eq] at h1
    rw [h1, manN_eq, h2]
    rfl
  have HM1 : Hid (numIn s.data.toList manB.data.toList (⟨#[]⟩ : ByteArray).data.toList = manN s.data.toList) := rfl
  have HMB : Hid (manB = ⟨#[77, 65, 78, 73, 70, 69, 83, 84, 45]⟩) := rfl
  cases q1 : (s.toList == [67, 85, 82, 82, 69, 78, 84]) with
  | true =>
    have hm := HM0.out _ (by simpa using q1) (by decide)
    rw [hm]
    clear HM0 HM1 HN hv hm
    go_enter Tryz.func37, Tryz.ntmps37
    go_wp2_with fail
    refine bodyPost_ret (v := .agg #[.int .i64 1, .int .i64 0]) (by simp [results, Tryz.results37, go_sem]) rfl ⟨1, 0, rfl, by decide, ?_⟩
    exact (Below.refl _ _).alloc (Nat.le_refl _) _
  | false =>
    cases q2 : (s.toList == [67, 85, 82, 82, 69, 78, 84, 46, 116, 109, 112]) with
    | true =>
      have hm := HM0.out _ (by simpa using q2) (by decide)
      rw [hm]
      clear HM0 HM1 HN hv hm
      go_enter Tryz.func37, Tryz.ntmps37
      go_wp2_with fail
      refine bodyPost_ret (v := .agg #[.int .i64 2, .int .i64 0]) (by simp [results, Tryz.results37, go_sem]) rfl ⟨2, 0, rfl, by decide, ?_⟩
      exact (Below.refl _ _).alloc (Nat.le_refl _) _
    | false =>
      have HNm := hdN (fun w' hb => HN.out manB ⟨#[]⟩ w' hb)
      rw [HM1.out] at HNm
      have HNl := hdN (fun w' hb => HN.out ⟨#[]⟩ ⟨#[46, 108, 111, 103]⟩ w' hb)
      have HNs := hdN (fun w' hb => HN.out ⟨#[]⟩ ⟨#[46, 115, 115, 116]⟩ w' hb)
      generalize manN s.data.toList = M at *
      generalize numIn s.data.toList (⟨#[]⟩ : ByteArray).data.toList (⟨#[46, 108, 111, 103]⟩ : ByteArray).data.toList = Lg at *
      generalize numIn s.data.toList (⟨#[]⟩ : ByteArray).data.toList (⟨#[46, 115, 115, 116]⟩ : ByteArray).data.toList = Ss at *
      clear HM0 HM1 HN hv hV0
      go_enter Tryz.func37, Tryz.ntmps37
      go_wp2_with fail
      refine (HNm.out _ hb0).mono ?_
      rintro e w1 ⟨rfl, hb1⟩
      have hV1 : w1.heap[w.heap.size]? = some (.cells #[.int .i64 0, .int .i64 0] 93 (0, 0)) := (hb1.block w.heap.size (by simp)).trans (World.heap_alloc_new _ _)
      have hbw1 := hb0.trans (hb1.mono hb0.size)
      obtain ⟨x0, x1⟩ := two_cellsN hV1
      obtain ⟨f0, f1⟩ := two_freeN hV1
      clear hb1 hb0
      by_cases hM : M = 0
      · subst hM
        have hd0 : decide ((0 : Nat) ≠ 0) = false := by decide
        rw [hd0]
        clear x0 x1 f0 f1
        go_wp2_with fail
        refine (HNl.out _ hbw1).mono ?_
        rintro e w2 ⟨rfl, hb2⟩
        have hV2 := (hb2.block w.heap.size (heap_ltN hV1)).trans hV1
        have hbw2 := hbw1.trans (hb2.mono hbw1.size)
        clear hb2 hbw1 hV1
        by_cases hL : Lg = 0
        · subst hL
          rw [hd0]
          go_wp2_with fail
          refine (HNs.out _ hbw2).mono ?_
          rintro e w3 ⟨rfl, hb3⟩
          have hV3 := (hb3.block w.heap.size (heap_ltN hV2)).trans hV2
          have hbw3 := hbw2.trans (hb3.mono hbw2.size)
          obtain ⟨x0, x1⟩ := two_cellsN hV3
          obtain ⟨f0, f1⟩ := two_freeN hV3
          clear hb3 hbw2 hV2
          by_cases hS : Ss = 0
          · subst hS
            rw [hd0]
            go_wp2_with fail
            refine bodyPost_ret (v := .agg #[.int .i64 0, .int .i64 0]) (by simp [results, Tryz.results37, go_sem, x0, x1]) rfl ⟨0, 0, rfl, by decide, ?_⟩
            exact below_setN2 (Nat.le_refl _) (below_setN2 (Nat.le_refl _) hbw3)
          · have hd1 : decide (Ss ≠ 0) = true := by simpa using hS
            rw [hd1]
            go_wp2_with fail
            refine bodyPost_ret (v := .agg #[.int .i64 5, .int .i64 (Ss : Int)]) (by simp [results, Tryz.results37, go_sem, x0, x1]) rfl ⟨5, Ss, rfl, by decide, ?_⟩
            exact below_setN2 (Nat.le_refl _) (below_setN2 (Nat.le_refl _) hbw3)
        · have hd1 : decide (Lg ≠ 0) = true := by simpa using hL
          obtain ⟨x0, x1⟩ := two_cellsN hV2
          obtain ⟨f0, f1⟩ := two_freeN hV2
          rw [hd1]
          go_wp2_with fail
          refine bodyPost_ret (v := .agg #[.int .i64 4, .int .i64 (Lg : Int)]) (by simp [results, Tryz.results37, go_sem, x0, x1]) rfl ⟨4, Lg, rfl, by decide, ?_⟩
          exact below_setN2 (Nat.le_refl _) (below_setN2 (Nat.le_refl _) hbw2)
      · have hd1 : decide (M ≠ 0) = true := by simpa using hM
        rw [hd1]
        go_wp2_with fail
        refine bodyPost_ret (v := .agg #[.int .i64 3, .int .i64 (M : Int)]) (by simp [results, Tryz.results37, go_sem, x0, x1]) rfl ⟨3, M, rfl, by simpa using hM, ?_⟩
        exact below_setN2 (Nat.le_refl _) (below_setN2 (Nat.le_refl _) hbw1)
end Go.Proofs.YtphikgobdfknkaaGreatDoor
