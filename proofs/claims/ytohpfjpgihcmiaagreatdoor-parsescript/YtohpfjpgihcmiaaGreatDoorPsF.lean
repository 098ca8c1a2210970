import Derived.Test.YtohpfjpgihcmiaaGreatDoorPsR

namespace Go.Proofs.YtohpfjpgihcmiaaGreatDoor
open Go.RowKit Go.Maps
set_option linter.unusedVariables false
set_option linter.unusedSimpArgs false

theorem cut_at {l : List UInt8} {i : Nat} {c : UInt8} (h1 : l[i]? = some c) (h2 : ∀ k, k < i → l[k]? ≠ some c) : Lib.cut l [c] = (l.take i, l.drop (i + 1), true) := by
  have hx : Lib.indexByte l c = i := by
    have hge := Lib.indexByte_ge l c
    by_cases hm : Lib.indexByte l c = -1
    · exact absurd h1 (Lib.indexByte_none hm i)
    · obtain ⟨o, ho⟩ : ∃ o : Nat, Lib.indexByte l c = o := ⟨(Lib.indexByte l c).toNat, by omega⟩
      obtain ⟨h3, h4⟩ := Lib.indexByte_some ho
      rw [ho]
      congr 1
      rcases Nat.lt_trichotomy o i with h | h | h
      · exact absurd h3 (h2 o h)
      · exact h
      · exact absurd h1 (h4 i h)
  unfold Lib.cut
  rw [Lib.index_one, hx, if_pos (by omega)]
  simp
theorem cut_no {l : List UInt8} {c : UInt8} (h : ∀ k : Nat, l[k]? ≠ some c) : Lib.cut l [c] = (l, [], false) := by
  have hge := Lib.indexByte_ge l c
  have hm : Lib.indexByte l c = -1 := by
    by_cases hm : Lib.indexByte l c = -1
    · exact hm
    · obtain ⟨o, ho⟩ : ∃ o : Nat, Lib.indexByte l c = o := ⟨(Lib.indexByte l c).toNat, by omega⟩
      exact absurd (Lib.indexByte_some ho).1 (h o)
  unfold Lib.cut
  rw [Lib.index_one, hm, if_neg (by omega)]
/-- An item of a batch. -/
def itE (t : ByteArray) : En := if (Lib.cut t.data.toList [61]).2.2 = true then ⟨⟨(Lib.cut t.data.toList [61]).1.toArray⟩, 0, 1, ⟨(Lib.cut t.data.toList [61]).2.1.toArray⟩⟩ else ⟨t, 0, 0, ⟨#[]⟩⟩
def itO (x : ByteArray) : Option En := match woO x with
  | some t => if t.size = 0 then none else some (itE t)
  | none => none
theorem set4 {w : World} {q : Nat} {t : TypeId} {y0 y1 y2 y3 x0 x1 x2 x3 : Value} (h : w.heap[q]? = some (.cells #[y0, y1, y2, y3] t (0, 0))) : ((((w.setCell ⟨q, 0, none⟩ x0).setCell ⟨q, 1, none⟩ x1).setCell ⟨q, 2, none⟩ x2).setCell ⟨q, 3, none⟩ x3).heap[q]? = some (.cells #[x0, x1, x2, x3] t (0, 0)) := by
  rw [heap_setCell_same _ _ _ _ _ _ (heap_setCell_same _ _ _ _ _ _ (heap_setCell_same _ _ _ _ _ _ (heap_setCell_same _ _ _ _ _ _ h)))]
  rfl

set_option maxRecDepth 100000 in
set_option maxHeartbeats 1000000 in
theorem item_any (p : Nat) (r : List ByteArray) (fl : Bool) (w w0 : World) (h : Pt w p r fl) (hl : r.length ≤ 1048577) (hz : ∀ x ∈ r, x.size ≤ 1048576) (hv : VarsP w0) (hb : Below w0.heap.size w0 w) (hp : w0.heap.size ≤ p) :
    Calls Tryz.prog 50 #[.pointer (some ⟨p, 0, none⟩)] w fun e w' => ∃ E : En, e = .returned E.agg ∧ (∀ v, itO (r.headD ByteArray.empty) = some v → E = v) ∧ Pt w' p r.tail (fl || (itO (r.headD ByteArray.empty)).isNone) ∧ Only p w w' := by
  have hx : (r.headD ByteArray.empty).size ≤ 1048576 := by
    cases r with
    | nil => exact Nat.zero_le _
    | cons x r => exact hz x (by simp)
  have hbA : Below w.heap.size w (w.alloc (.cells #[.string ByteArray.empty, .int .i64 0, .int .i64 0, .string ByteArray.empty] 51)) := (Below.refl _ _).alloc (Nat.le_refl _) _
  have hxA : (w.alloc (.cells #[.string ByteArray.empty, .int .i64 0, .int .i64 0, .string ByteArray.empty] 51)).heap[w.heap.size]? = some (.cells #[.string ByteArray.empty, .int .i64 0, .int .i64 0, .string ByteArray.empty] 51 (0, 0)) := alloc_newP _ _
  have hpl := h.lt
  have HW := hdN (word_any p r fl _ (h.below hbA) hl)
  have HV : Hid (∀ w', Only p w w' → ∃ m, w'.cell? ⟨0, 0, none⟩ = some (.int .i64 m)) := fun w' ho => (hv.below (hb.trans (ho.below hp hb.size))).2
  generalize r.headD ByteArray.empty = X at *
  have hT : ∃ T : ByteArray, (if X = ⟨#[95]⟩ then ByteArray.empty else X) = T ∧ T.size ≤ 1048576 ∧ (∀ t, woO X = some t → T = t) := by
    refine ⟨_, rfl, ?_, fun t ht => ?_⟩
    · split
      · exact Nat.zero_le _
      · exact hx
    · unfold woO at ht
      split at ht
      · cases ht; rfl
      · cases ht
  obtain ⟨T, hTe, hTs, hTw⟩ := hT
  rw [hTe] at HW
  have HC := hdN (fun (w' : World) (m : Int) (hm : w'.cell? ⟨0, 0, none⟩ = some (.int .i64 m)) => Tryz.strings_Cut T ⟨#[61]⟩ m w' (by omega) hm)
  have HN : Hid ((T.size = 0 → (itO X).isNone = true) ∧ (T.size ≠ 0 → (itO X).isNone = (woO X).isNone) ∧ ∀ v, itO X = some v → itE T = v) := by
    unfold itO
    cases hw : woO X with
    | none => exact ⟨fun _ => rfl, fun _ => rfl, fun v hv => by cases hv⟩
    | some t =>
      have ht := hTw t hw
      subst ht
      refine ⟨fun h => ?_, fun h => ?_, fun v hv => ?_⟩
      · simp only [if_pos h]; rfl
      · simp only [if_neg h]; rfl
      · dsimp only at hv
        split at hv
        · cases hv
        · cases hv; rfl
  have HE : Hid (itE T = if (Lib.cut T.data.toList [61]).2.2 = true then ⟨⟨(Lib.cut T.data.toList [61]).1.toArray⟩, 0, 1, ⟨(Lib.cut T.data.toList [61]).2.1.toArray⟩⟩ else ⟨T, 0, 0, ⟨#[]⟩⟩) := rfl
  generalize itE T = IE at *
  generalize (itO X).isNone = IN at *
  generalize (woO X).isNone = WN at *
  generalize itO X = JO at *
  have hcut : Lib.cut T.data.toList ([61] : List UInt8) = Lib.cut T.data.toList (⟨#[61]⟩ : ByteArray).data.toList := rfl
  rw [hcut] at HE
  generalize Lib.cut T.data.toList (⟨#[61]⟩ : ByteArray).data.toList = C at *
  obtain ⟨C1, C2, C3⟩ := C
  dsimp only at *
  clear hTe hTw hx hcut
  by_cases hT0 : T.size = 0
  · have e0 : (T.toList == []) = true := emptyL (size0P hT0)
    have HFL : Hid ((fl || IN) = true) := by show _ = _; rw [HN.out.1 hT0, Bool.or_true]
    go_enter Tryz.func50, Tryz.ntmps50
    go_wp2_with fail
    refine HW.out.mono ?_
    rintro e w1 ⟨rfl, hp1, ho1⟩
    obtain ⟨a, cap, h1, -, -, -⟩ := id hp1
    obtain ⟨c0, c1, zz0, zz1, hlt⟩ := two_cellsP h1
    go_wp2_with fail
    have hp3 := hp1.fault
    have ho3 := (Only.of hbA).trans (ho1.trans (Only.set w1 1 (.bool true)))
    have hx3 := ((ho1.trans (Only.set w1 1 (.bool true))).block _ (by simp) (Nat.ne_of_gt hpl)).trans hxA
    generalize w1.setCell ⟨p, 1, none⟩ (.bool true) = w3 at *
    clear h1 c0 c1 zz0 zz1 hlt hp1 ho1 hxA hbA HW
    obtain ⟨m, hm⟩ := HV.out _ ho3
    refine (HC.out _ m hm).mono ?_
    rintro e w4 ⟨rfl, nd, rfl⟩
    have hb4 : Below w3.heap.size w3 (w3.drewN nd) := ⟨rfl, rfl, rfl, Nat.le_refl _, fun _ _ => rfl⟩
    have hp4 := hp3.below hb4
    have ho4 := ho3.trans (Only.of hb4)
    have hx4 := (hb4.block _ (heap_ltP hx3)).trans hx3
    generalize w3.drewN nd = w5 at *
    clear hb4 hp3 ho3 hx3 hm
    obtain ⟨⟨x0, x1, x2, x3⟩, z0, z1, z2, z3⟩ := four_cells hx4
    have hlt5 := heap_ltP hx4
    cases C3 with
    | true =>
      go_wp2_with fail
      refine bodyPost_ret (v := .agg #[.string ⟨C1.toArray⟩, .int .i64 0, .int .i64 1, .string ⟨C2.toArray⟩]) (by simp [results, Tryz.results50, go_sem, x0, x1, x2, x3]) rfl ⟨⟨⟨C1.toArray⟩, 0, 1, ⟨C2.toArray⟩⟩, rfl, ?_, ?_, ?_⟩
      · intro v hv
        rw [← HN.out.2.2 v hv, HE.out]
        rfl
      · rw [HFL.out]; exact (((hp4.set hpl).set hpl).set hpl).set hpl
      · exact (((ho4.setNew (Nat.le_refl _)).setNew (Nat.le_refl _)).setNew (Nat.le_refl _)).setNew (Nat.le_refl _)
    | false =>
      go_wp2_with fail
      refine bodyPost_ret (v := .agg #[.string T, .int .i64 0, .int .i64 0, .string ⟨#[]⟩]) (by simp [results, Tryz.results50, go_sem, x0, x1, x2, x3]) rfl ⟨⟨T, 0, 0, ⟨#[]⟩⟩, rfl, ?_, ?_, ?_⟩
      · intro v hv
        rw [← HN.out.2.2 v hv, HE.out]
        rfl
      · rw [HFL.out]; exact (((hp4.set hpl).set hpl).set hpl).set hpl
      · exact (((ho4.setNew (Nat.le_refl _)).setNew (Nat.le_refl _)).setNew (Nat.le_refl _)).setNew (Nat.le_refl _)
  · have e0 : (T.toList == []) = false := neL (fun h => hT0 (by rw [h]; rfl))
    have HFL : Hid ((fl || IN) = (fl || WN)) := by show _ = _; rw [HN.out.2.1 hT0]
    go_enter Tryz.func50, Tryz.ntmps50
    go_wp2_with fail
    refine HW.out.mono ?_
    rintro e w3 ⟨rfl, hp3, ho1⟩
    go_wp2_with fail
    have ho3 := (Only.of hbA).trans ho1
    have hx3 := (ho1.block _ (by simp) (Nat.ne_of_gt hpl)).trans hxA
    clear ho1 hxA hbA HW
    obtain ⟨m, hm⟩ := HV.out _ ho3
    refine (HC.out _ m hm).mono ?_
    rintro e w4 ⟨rfl, nd, rfl⟩
    have hb4 : Below w3.heap.size w3 (w3.drewN nd) := ⟨rfl, rfl, rfl, Nat.le_refl _, fun _ _ => rfl⟩
    have hp4 := hp3.below hb4
    have ho4 := ho3.trans (Only.of hb4)
    have hx4 := (hb4.block _ (heap_ltP hx3)).trans hx3
    generalize w3.drewN nd = w5 at *
    clear hb4 hp3 ho3 hx3 hm
    obtain ⟨⟨x0, x1, x2, x3⟩, z0, z1, z2, z3⟩ := four_cells hx4
    have hlt5 := heap_ltP hx4
    cases C3 with
    | true =>
      go_wp2_with fail
      refine bodyPost_ret (v := .agg #[.string ⟨C1.toArray⟩, .int .i64 0, .int .i64 1, .string ⟨C2.toArray⟩]) (by simp [results, Tryz.results50, go_sem, x0, x1, x2, x3]) rfl ⟨⟨⟨C1.toArray⟩, 0, 1, ⟨C2.toArray⟩⟩, rfl, ?_, ?_, ?_⟩
      · intro v hv
        rw [← HN.out.2.2 v hv, HE.out]
        rfl
      · rw [HFL.out]; exact (((hp4.set hpl).set hpl).set hpl).set hpl
      · exact (((ho4.setNew (Nat.le_refl _)).setNew (Nat.le_refl _)).setNew (Nat.le_refl _)).setNew (Nat.le_refl _)
    | false =>
      go_wp2_with fail
      refine bodyPost_ret (v := .agg #[.string T, .int .i64 0, .int .i64 0, .string ⟨#[]⟩]) (by simp [results, Tryz.results50, go_sem, x0, x1, x2, x3]) rfl ⟨⟨T, 0, 0, ⟨#[]⟩⟩, rfl, ?_, ?_, ?_⟩
      · intro v hv
        rw [← HN.out.2.2 v hv, HE.out]
        rfl
      · rw [HFL.out]; exact (((hp4.set hpl).set hpl).set hpl).set hpl
      · exact (((ho4.setNew (Nat.le_refl _)).setNew (Nat.le_refl _)).setNew (Nat.le_refl _)).setNew (Nat.le_refl _)

theorem bodyRet4 {w : World} {q : Nat} {t : TypeId} {x0 x1 x2 x3 : Value} (h : w.heap[q]? = some (.cells #[x0, x1, x2, x3] t (0, 0))) : w.cell? ⟨q, 0, none⟩ = some x0 ∧ w.cell? ⟨q, 1, none⟩ = some x1 ∧ w.cell? ⟨q, 2, none⟩ = some x2 ∧ w.cell? ⟨q, 3, none⟩ = some x3 := (four_cells h).1
theorem belowSet {B q o : Nat} {v : Value} {w w' : World} (h : Below B w w') (hq : B ≤ q) : Below B w (w'.setCell ⟨q, o, none⟩ v) := h.setCell (p := ⟨q, o, none⟩) hq v
set_option maxRecDepth 100000 in
set_option maxHeartbeats 1000000 in
theorem l7Item_any (X : ByteArray) (w : World) (hX : X.size ≤ 1048576) :
    Calls Tryz.prog 23 #[.string X] w fun e w' => ∃ E : En, e = .returned (.tuple #[E.agg, .bool (itO X).isSome]) ∧ (∀ v, itO X = some v → E = v) ∧ Below w.heap.size w w' := by
  have hbA : Below w.heap.size w (w.alloc (.cells #[.string ByteArray.empty, .int .i64 0, .int .i64 0, .string ByteArray.empty] 51)) := (Below.refl _ _).alloc (Nat.le_refl _) _
  have hxA : (w.alloc (.cells #[.string ByteArray.empty, .int .i64 0, .int .i64 0, .string ByteArray.empty] 51)).heap[w.heap.size]? = some (.cells #[.string ByteArray.empty, .int .i64 0, .int .i64 0, .string ByteArray.empty] 51 (0, 0)) := alloc_newP _ _
  have HW := hdN (l7Word_any X (w.alloc (.cells #[.string ByteArray.empty, .int .i64 0, .int .i64 0, .string ByteArray.empty] 51)) hX)
  have HO := hdN (woS_O X)
  have hTs : (woS X).1.size ≤ 1048576 := by
    unfold woS
    split
    · split
      · exact Nat.zero_le _
      · exact hX
    · exact Nat.zero_le _
  have hTX : (woS X).2 = true → ¬ (woS X).1.size = 0 → X = (woS X).1 := by
    unfold woS
    split
    · split
      · intro _ h; exact absurd rfl h
      · intro _ _; rfl
    · intro h; cases h
  have HI : Hid (itO X = match woO X with
      | some t => if t.size = 0 then none else some (itE t)
      | none => none) := rfl
  generalize itO X = JO at *
  generalize woO X = WO at *
  generalize woS X = WS at *
  obtain ⟨T, ok⟩ := WS
  dsimp only at *
  cases ok with
  | false =>
    have hI : JO = none := by rw [HI.out, HO.out]; rfl
    subst hI
    go_enter Tryz.func23, Tryz.ntmps23
    go_wp2_with fail
    refine HW.out.mono ?_
    rintro e w1 ⟨rfl, hb1⟩
    have hx1 := (hb1.block _ (by simp)).trans hxA
    have hbb := hbA.trans (hb1.mono hbA.size)
    obtain ⟨⟨x0, x1, x2, x3⟩, z0, z1, z2, z3⟩ := four_cells hx1
    have hlt1 := heap_ltP hx1
    clear hbA hxA hb1 HW
    go_wp2_with fail
    refine bodyPost_ret (v := .tuple #[.agg #[.string ⟨#[]⟩, .int .i64 0, .int .i64 0, .string ⟨#[]⟩], .bool false]) (by simp [results, Tryz.results23, go_sem, x0, x1, x2, x3]) rfl ⟨⟨⟨#[]⟩, 0, 0, ⟨#[]⟩⟩, rfl, (fun v hv => by cases hv), ?_⟩
    exact belowSet (belowSet (belowSet (belowSet hbb (Nat.le_refl _)) (Nat.le_refl _)) (Nat.le_refl _)) (Nat.le_refl _)
  | true =>
    by_cases hT0 : T.size = 0
    · have hI : JO = none := by rw [HI.out, HO.out]; exact if_pos hT0
      subst hI
      have hT0' : (T.size : Int) = 0 := by omega
      go_enter Tryz.func23, Tryz.ntmps23
      go_wp2_with fail
      refine HW.out.mono ?_
      rintro e w1 ⟨rfl, hb1⟩
      have hx1 := (hb1.block _ (by simp)).trans hxA
      have hbb := hbA.trans (hb1.mono hbA.size)
      obtain ⟨⟨x0, x1, x2, x3⟩, z0, z1, z2, z3⟩ := four_cells hx1
      have hlt1 := heap_ltP hx1
      clear hbA hxA hb1 HW
      go_wp2_with fail
      refine bodyPost_ret (v := .tuple #[.agg #[.string ⟨#[]⟩, .int .i64 0, .int .i64 0, .string ⟨#[]⟩], .bool false]) (by simp [results, Tryz.results23, go_sem, x0, x1, x2, x3]) rfl ⟨⟨⟨#[]⟩, 0, 0, ⟨#[]⟩⟩, rfl, (fun v hv => by cases hv), ?_⟩
      exact belowSet (belowSet (belowSet (belowSet hbb (Nat.le_refl _)) (Nat.le_refl _)) (Nat.le_refl _)) (Nat.le_refl _)
    · have hI : JO = some (itE T) := by rw [HI.out, HO.out]; exact if_neg hT0
      subst hI
      have hT0' : ¬ (T.size : Int) = 0 := by omega
      have hTe := hTX rfl hT0
      subst hTe
      clear hTX
      have hlen : X.data.toList.length = X.size := by rw [Array.length_toList]; rfl
      have HE : Hid (itE X = if (Lib.cut X.data.toList [61]).2.2 = true then ⟨⟨(Lib.cut X.data.toList [61]).1.toArray⟩, 0, 1, ⟨(Lib.cut X.data.toList [61]).2.1.toArray⟩⟩ else ⟨X, 0, 0, ⟨#[]⟩⟩) := rfl
      generalize itE X = IE at *
      clear HI HO
      go_enter Tryz.func23, Tryz.ntmps23
      go_wp2_with fail
      refine HW.out.mono ?_
      rintro e w1 ⟨rfl, hb1⟩
      have hx1 := (hb1.block _ (by simp)).trans hxA
      have hbb := hbA.trans (hb1.mono hbA.size)
      have hlt1 := heap_ltP hx1
      clear hbA hxA hb1 HW
      go_wp2_with fail
      go_loopw [6] (fun i wr => ∃ k : Nat, k ≤ X.size ∧ i = .int .i64 k ∧ Hid (∀ j, j < k → X.data.toList[j]? ≠ some 61) ∧ wr = w1) (fun i _ => X.size - (intOf i).toNat)
      case atStart => exact ⟨0, Nat.zero_le _, rfl, fun j hj => absurd hj (Nat.not_lt_zero _), rfl⟩
      case round =>
        obtain ⟨k, hk, rfl, HA, rfl⟩ := hrel
        obtain ⟨⟨x0, x1, x2, x3⟩, z0, z1, z2, z3⟩ := four_cells hx1
        have ks0 : (0 : Int) ≤ k := by omega
        have ks1 : (k : Int) ≤ X.size := by omega
        by_cases hlt : k < X.size
        · have hlt' : (k : Int) < (X.size : Int) := by omega
          have ks2 : (k : Int) + 1 ≤ X.size := by omega
          have ks3 : ((k : Int) + 1).toNat = k + 1 := by omega
          have hbd := bget_data X k hlt
          have HK : Hid (X.data.toList[k]? = some (X.data.toList.getD k 0)) := by
            show _ = _
            rw [List.getD_eq_getElem?_getD, List.getElem?_eq_getElem (by omega)]
            rfl
          generalize X.data.toList.getD k 0 = c at *
          have hc := c.toNat_lt
          by_cases h61 : c.toNat = 61
          · have hc61 : c = 61 := UInt8.toNat_inj.1 h61
            have h61' : (c.toNat : Int) = 61 := by omega
            have HC : Hid (IE = ⟨X.extract 0 k, 0, 1, X.extract (k + 1) X.size⟩) := by
              show _ = _
              rw [HE.out, cut_at (by rw [HK.out, hc61]) HA.out]
              have e1 : (⟨(X.data.toList.take k).toArray⟩ : ByteArray) = X.extract 0 k := by
                apply ByteArray.ext
                apply Array.toList_inj.1
                rw [extract_listP]
                simp
              have e2 : (⟨(X.data.toList.drop (k + 1)).toArray⟩ : ByteArray) = X.extract (k + 1) X.size := by
                apply ByteArray.ext
                apply Array.toList_inj.1
                rw [extract_listP, ← hlen, List.take_length]
              rw [if_pos rfl, e1, e2]
            obtain ⟨K1, hK1⟩ : ∃ K1 : Nat, K1 = k + 1 := ⟨_, rfl⟩
            have hwk : IntKind.i64.wrap ((k : Int) + 1) = (K1 : Int) := by rw [IntKind.wrap_i64]; omega
            have hk0 : (0 : Int) ≤ (K1 : Int) := by omega
            have hk1 : (K1 : Int) ≤ (X.size : Int) := by omega
            rw [← hK1] at HC
            clear hK1 ks2 ks3
            go_wp2_with fail
            go_region_held3 (fun w' => True) (trivial) (fail)
            all_goals go_wp2_with fail
            all_goals refine bodyPost_ret (v := .tuple #[.agg #[.string (X.extract 0 k), .int .i64 0, .int .i64 1, .string (X.extract K1 X.size)], .bool true]) (by simp [results, Tryz.results23, go_sem, x0, x1, x2, x3]) rfl ⟨⟨X.extract 0 k, 0, 1, X.extract K1 X.size⟩, rfl, fun v hv => by cases hv; exact HC.out.symm, ?_⟩
            all_goals first | exact belowSet (belowSet (belowSet (belowSet hbb (Nat.le_refl _)) (Nat.le_refl _)) (Nat.le_refl _)) (Nat.le_refl _) | exact (belowSet (belowSet (belowSet (belowSet hbb (Nat.le_refl _)) (Nat.le_refl _)) (Nat.le_refl _)) (Nat.le_refl _)).drew | exact belowSet (belowSet (belowSet (belowSet hbb.drew (Nat.le_refl _)) (Nat.le_refl _)) (Nat.le_refl _)) (Nat.le_refl _)
          · have h61' : ¬ (c.toNat : Int) = 61 := by omega
            go_wp2_with fail
            refine ⟨⟨k + 1, by omega, by go_num, fun j hj => ?_, trivial⟩, by simp only [intOf]; omega⟩
            by_cases hjk : j = k
            · subst hjk
              rw [HK.out]
              intro h
              injection h with h
              rw [h] at h61
              exact h61 rfl
            · exact HA.out j (by omega)
        · obtain rfl : k = X.size := by omega
          have hik : ¬ (X.size : Int) < (X.size : Int) := by omega
          have HC : Hid (IE = ⟨X, 0, 0, ⟨#[]⟩⟩) := by
            show _ = _
            rw [HE.out, cut_no (fun j => by
              by_cases hj : j < X.size
              · exact HA.out j hj
              · rw [List.getElem?_eq_none (by omega)]; simp)]
            rfl
          go_wp2_with fail
          refine bodyPost_ret (v := .tuple #[.agg #[.string X, .int .i64 0, .int .i64 0, .string ⟨#[]⟩], .bool true]) (by simp [results, Tryz.results23, go_sem, x0, x1, x2, x3]) rfl ⟨⟨X, 0, 0, ⟨#[]⟩⟩, rfl, HC.out.symm, ?_⟩
          exact belowSet (belowSet (belowSet (belowSet hbb (Nat.le_refl _)) (Nat.le_refl _)) (Nat.le_refl _)) (Nat.le_refl _)
end Go.Proofs.YtohpfjpgihcmiaaGreatDoor
