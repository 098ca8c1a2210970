import Derived.Test.YtgmfjninimebmaaGreatDoorMgNaI
namespace Go.Proofs.YtgmfjninimebmaaGreatDoor
open Go.RowKit Go.Maps
set_option linter.unusedVariables false
set_option linter.unusedSimpArgs false

theorem pre_takeV (s h : ByteArray) (hl : h.size ≤ s.size) : h.data.toList.isPrefixOf s.data.toList = ((s.extract 0 h.size).toList == h.toList) := by
  have e1 : (s.extract 0 h.size).toList = s.data.toList.take h.size := by
    rw [ByteArray.toList_eq]
    simp
  have e2 : h.toList = h.data.toList := ByteArray.toList_eq _
  have e3 : h.data.toList.length = h.size := by rw [Array.length_toList]; rfl
  rw [e1, e2, Bool.eq_iff_iff, List.isPrefixOf_iff_prefix, beq_iff_eq, List.prefix_iff_eq_take, e3]
  exact eq_comm
set_option maxRecDepth 100000 in
set_option maxHeartbeats 1000000 in
theorem begins_any (s h : ByteArray) (w : World) (hs : s.size ≤ 1048576) (hh : h.size ≤ 1048576) :
    Calls Tryz.prog 64 #[.string s, .string h] w fun e w' => e = .returned (.bool (h.data.toList.isPrefixOf s.data.toList)) ∧ Below w.heap.size w w' := by
  by_cases hl : h.size ≤ s.size
  · rw [pre_takeV s h hl]
    have hl' : (h.size : Int) ≤ (s.size : Int) := by omega
    have h0 : (0 : Int) ≤ (h.size : Int) := by omega
    generalize hX : ((s.extract 0 h.size).toList == h.toList) = X
    go_enter Tryz.func64, Tryz.ntmps64
    go_wp2_with fail
    go_ret
    exact ⟨rfl, Below.refl _ _⟩
  · have hf : h.data.toList.isPrefixOf s.data.toList = false := by
      cases hp : h.data.toList.isPrefixOf s.data.toList with
      | false => rfl
      | true =>
        have := (List.isPrefixOf_iff_prefix.1 hp).length_le
        rw [Array.length_toList, Array.length_toList] at this
        exact absurd this hl
    rw [hf]
    have hl' : ¬ (h.size : Int) ≤ (s.size : Int) := by omega
    go_enter Tryz.func64, Tryz.ntmps64
    go_wp2_with fail
    go_ret
    exact ⟨rfl, Below.refl _ _⟩
theorem shortB {x : ByteArray} (h : x.size ≤ 1048576) : x.size ≤ maxLen := by unfold maxLen; omega
/-- A name that belongs to the repairer or to the archive: as the model sees it. -/
theorem l6Own_any (s : ByteArray) (w : World) (hs : s.size ≤ 1048576) :
    Calls Tryz.prog 38 #[.string s] w fun e w' => e = .returned (.bool (ownN s)) ∧ Below w.heap.size w w' := by
  have H1 := hdN (fun w => begins_any s ⟨#[114, 101, 112, 97, 105, 114, 46]⟩ w hs (by decide))
  have H2 := hdN (fun w => begins_any s ⟨#[108, 111, 115, 116, 47]⟩ w hs (by decide))
  rw [show ownN s = (rpB.isPrefixOf s.data.toList || ltB.isPrefixOf s.data.toList) from rfl]
  rw [show (⟨#[114, 101, 112, 97, 105, 114, 46]⟩ : ByteArray).data.toList = rpB from rfl] at H1
  rw [show (⟨#[108, 111, 115, 116, 47]⟩ : ByteArray).data.toList = ltB from rfl] at H2
  generalize rpB.isPrefixOf s.data.toList = b1 at *
  generalize ltB.isPrefixOf s.data.toList = b2 at *
  go_enter Tryz.func38, Tryz.ntmps38
  go_wp2_with fail
  refine (H1.out _).mono ?_
  rintro e w1 ⟨rfl, hb1⟩
  cases b1 with
  | true =>
    go_wp2_with fail
    go_ret
    exact ⟨rfl, hb1⟩
  | false =>
    go_wp2_with fail
    refine (H2.out _).mono ?_
    rintro e w2 ⟨rfl, hb2⟩
    go_wp2_with fail
    go_ret
    exact ⟨rfl, hb1.trans (hb2.mono hb1.size)⟩
set_option maxRecDepth 100000 in
theorem ofRepair_any (f : Fl) (w : World) :
    Calls Tryz.prog 80 #[f.agg] w fun e w' => e = .returned (.bool (rpB.isPrefixOf f.nm.data.toList)) ∧ Below w.heap.size w w' := by
  have hb0 : Below w.heap.size w (w.alloc (.cells #[.string f.nm, .string f.dt, .int .i64 f.sy] 66)) := (Below.refl _ _).alloc (Nat.le_refl _) _
  have HP := hdN (fun w => Tryz.strings_HasPrefix f.nm ⟨#[114, 101, 112, 97, 105, 114, 46]⟩ w)
  rw [show Lib.hasPrefix f.nm.data.toList (⟨#[114, 101, 112, 97, 105, 114, 46]⟩ : ByteArray).data.toList = rpB.isPrefixOf f.nm.data.toList from rfl] at HP
  generalize rpB.isPrefixOf f.nm.data.toList = b1 at *
  go_enter Tryz.func80, Tryz.ntmps80
  go_wp2_with fail
  refine (HP.out _).mono ?_
  rintro e w1 ⟨rfl, h1⟩
  rw [h1]
  go_wp2_with fail
  go_ret
  exact ⟨rfl, hb0⟩
set_option maxRecDepth 100000 in
theorem outside_any (f : Fl) (w : World) :
    Calls Tryz.prog 48 #[f.agg] w fun e w' => e = .returned (.bool (!ownN f.nm)) ∧ Below w.heap.size w w' := by
  have hb0 : Below w.heap.size w (w.alloc (.cells #[.string f.nm, .string f.dt, .int .i64 f.sy] 66)) := (Below.refl _ _).alloc (Nat.le_refl _) _
  have HR := hdN (fun w => ofRepair_any f w)
  have HP := hdN (fun w => Tryz.strings_HasPrefix f.nm ⟨#[108, 111, 115, 116, 47]⟩ w)
  rw [show Lib.hasPrefix f.nm.data.toList (⟨#[108, 111, 115, 116, 47]⟩ : ByteArray).data.toList = ltB.isPrefixOf f.nm.data.toList from rfl] at HP
  rw [show ownN f.nm = (rpB.isPrefixOf f.nm.data.toList || ltB.isPrefixOf f.nm.data.toList) from rfl]
  generalize rpB.isPrefixOf f.nm.data.toList = b1 at *
  generalize ltB.isPrefixOf f.nm.data.toList = b2 at *
  go_enter Tryz.func48, Tryz.ntmps48
  go_wp2_with fail
  refine (HR.out _).mono ?_
  rintro e w1 ⟨rfl, hb1⟩
  have c0 : w1.cell? ⟨w.heap.size, 0, none⟩ = some (.string f.nm) := (hb1.cell (p := ⟨w.heap.size, 0, none⟩) (by simp)).trans (by simp)
  have hbw := hb0.trans (hb1.mono hb0.size)
  clear hb0 hb1
  cases b1 with
  | true =>
    go_wp2_with fail
    go_ret
    exact ⟨rfl, hbw⟩
  | false =>
    go_wp2_with fail
    refine (HP.out _).mono ?_
    rintro e w2 ⟨rfl, h2⟩
    rw [h2]
    go_wp2_with fail
    go_ret
    exact ⟨rfl, hbw⟩
theorem markT_any (n : Int) (w : World) (hst : Steps w) :
    Calls Tryz.prog 46 #[.int .i64 n] w fun e w' => e = .returned (.string (frT 82 (vtext n))) ∧ Below w.heap.size w w' := by
  have H1 := hdN (fun w => implPut_any n w)
  have H2 := hdN (fun w hst => implFrame_any 82 (vtext n) w (shortB (by have := vtext_size n; omega)) hst)
  generalize frT 82 (vtext n) = T at *
  generalize vtext n = V at *
  go_enter Tryz.func46, Tryz.ntmps46
  go_wp2_with fail
  refine (H1.out _).mono ?_
  rintro e w1 ⟨rfl, hb1⟩
  go_wp2_with fail
  refine (H2.out _ (hst.below hb1)).mono ?_
  rintro e w2 ⟨rfl, hb2⟩
  go_wp2_with fail
  go_ret
  exact ⟨rfl, hb1.trans (hb2.mono hb1.size)⟩
end Go.Proofs.YtgmfjninimebmaaGreatDoor
namespace Go.Proofs.YtgmfjninimebmaaGreatDoor
open Go.RowKit Go.Maps
set_option linter.unusedVariables false
set_option linter.unusedSimpArgs false

theorem fm_sizeV : ∀ (xs : List Fl) (l : List UInt8) (x : ByteArray × Int), fm xs l = some x → x.1.size ≤ datas xs
  | [], l, x, h => by cases h
  | f :: r, l, x, h => by
    simp only [fm] at h
    have e : datas (f :: r) = f.dt.size + datas r := by simp [datas]
    cases hr : fm r l with
    | some y =>
      rw [hr] at h
      cases h
      have := fm_sizeV r l _ hr
      omega
    | none =>
      rw [hr] at h
      simp only at h
      split at h
      · cases h
        simp only
        omega
      · cases h
theorem dtA_size (xs : List Fl) (l : List UInt8) : (dtA xs l).size ≤ datas xs := by
  unfold dtA
  cases h : fm xs l with
  | none => simp
  | some x => exact fm_sizeV xs l x h
/-- The number of a mark, as the program finds it. -/
theorem mk_eq (d : ByteArray) : mkN d = match gv (rfB (rf d 0)) 0 with
    | none => none
    | some (m, c) => if frT 82 (vtext m) = d then some m else none := by
  cases h : rf d 0 with
  | none =>
    have h0 : gv (rfB none) 0 = none := by unfold gv; rw [if_neg]; simp [rfB]
    rw [h0]
    unfold mkN
    rw [h]
  | some x =>
    obtain ⟨k, l, n⟩ := x
    have hB : rfB (some (k, l, n)) = ⟨l.toArray⟩ := rfl
    rw [hB]
    cases hg : gv ⟨l.toArray⟩ 0 with
    | none => unfold mkN; rw [h]; simp only [hg]
    | some y => obtain ⟨m, c⟩ := y; exact mk_some h hg
/-- What readMark gives of a mark's number. -/
def rmE (o : Option Nat) (es : List En) : List En := match o with
  | none => []
  | some _ => es
def rmL (o : Option Nat) : Int := match o with
  | none => 0
  | some m => (m : Int)
theorem rfB_size_le {s : ByteArray} (p : Int) (hs : s.size ≤ 1048576) : (rfB (rf s p)).size ≤ 1048576 := by
  cases h : rf s p with
  | none => simp [rfB]
  | some x =>
    obtain ⟨k, l, n⟩ := x
    rw [rfB_size]
    unfold rf at h
    split at h
    · unfold rfAt at h
      split at h
      · rename_i hd
        simp only [Option.some.injEq, Prod.mk.injEq] at h
        obtain ⟨-, rfl, -⟩ := h
        rw [pay_len]
        exact hd.2.1
      · cases h
    · cases h
theorem two_cellsV {w : World} {p : Nat} {t : TypeId} {x0 x1 : Value} (h : w.heap[p]? = some (.cells #[x0, x1] t (0, 0))) :
    (w.cell? ⟨p, 0, none⟩ = some x0 ∧ w.cell? ⟨p, 1, none⟩ = some x1) ∧ (w.frozen? ⟨p, 0, none⟩ = false ∧ w.frozen? ⟨p, 1, none⟩ = false) := by
  simp [World.cell?, World.frozen?, h]
theorem ResE.putV {W : World} {base b o : Nat} {a : Option Addr} {xs : List En} (h : ResE W base a xs) (hb : b < base) (u : Value) : ResE (W.setCell ⟨b, o, none⟩ u) base a xs := h.kept fun k h1 h2 => Below.heap_setCell _ _ _ _ (by show k ≠ b; omega)
set_option maxRecDepth 100000 in
set_option maxHeartbeats 2000000 in
theorem readMark_any (g mb c : Nat) (q fu : Int) (xs : List Fl) (nm : ByteArray) (w : World) (hn : nm.size ≤ maxLen) (hobj : w.heap[g]? = some (.cells (dirC mb q fu) 94 (0, 0))) (hdir : Dir w mb c (fm xs)) (hne : g ≠ mb) (hd : datas xs ≤ 1048576) (hst : Steps w) :
    Calls Tryz.prog 22 #[.pointer (some ⟨g, 0, none⟩), .string nm] w fun e w' => ∃ a cap, e = .returned (.tuple #[.agg #[.slice a (rmE (mkAt xs nm.data.toList) (rtL (dtA xs tabB))).length cap, .int .i64 (rmL (mkAt xs nm.data.toList))], .bool (mkAt xs nm.data.toList).isSome]) ∧ ResE w' w.heap.size a (rmE (mkAt xs nm.data.toList) (rtL (dtA xs tabB))) ∧ Below w.heap.size w w' := by
  have hb0 : Below w.heap.size w (w.alloc (.cells #[.slice none 0 0, .int .i64 0] 28)) := (Below.refl _ _).alloc (Nat.le_refl _) _
  have hg := heap_lt hobj
  have hm := hdir.lt
  have HF := hdN (fun (s : ByteArray) (hs : s.size ≤ maxLen) (w' : World) (hb : Below w.heap.size w w') => find_any g mb c q fu (fm xs) s w' hs ((hb.block g hg).trans hobj) (hdir.below hb hm) hne)
  have hd1 : (dtA xs nm.data.toList).size ≤ 1048576 := Nat.le_trans (dtA_size xs _) hd
  have hd2 : (dtA xs tabB).size ≤ 1048576 := Nat.le_trans (dtA_size xs _) hd
  have HF1 : Hid (∀ (w' : World), Below w.heap.size w w' → Calls Tryz.prog 43 #[.pointer (some ⟨g, 0, none⟩), .string nm] w' fun e w'' => ∃ b, e = .returned (.tuple #[.string (dtA xs nm.data.toList), .bool b]) ∧ Below w'.heap.size w' w'') := fun w' hb => (HF.out nm hn w' hb).mono fun e w'' h => ⟨_, h.1, h.2⟩
  have HF2 : Hid (∀ (w' : World), Below w.heap.size w w' → Calls Tryz.prog 43 #[.pointer (some ⟨g, 0, none⟩), .string ⟨#[114, 101, 112, 97, 105, 114, 46, 116, 97, 98]⟩] w' fun e w'' => ∃ b, e = .returned (.tuple #[.string (dtA xs tabB), .bool b]) ∧ Below w'.heap.size w' w'') := fun w' hb => (HF.out _ (by decide) w' hb).mono fun e w'' h => ⟨_, h.1, h.2⟩
  have HMK : Hid (mkAt xs nm.data.toList = if (rtO (dtA xs tabB)).isSome = true then mkN (dtA xs nm.data.toList) else none) := rfl
  clear HF hobj hdir
  generalize mkAt xs nm.data.toList = MK at *
  have HT := hdN (fun (w' : World) (hb : Below w.heap.size w w') => implRT_any (dtA xs tabB) w' hd2 (hst.below hb))
  generalize rtL (dtA xs tabB) = ES at *
  generalize (rtO (dtA xs tabB)).isSome = OK at *
  generalize dtA xs tabB = tb at *
  generalize dtA xs nm.data.toList = d at *
  have HR := hdN (fun (w' : World) (hb : Below w.heap.size w w') => implRead_any d 0 w' hd1 (hst.below hb))
  have HG := hdN (fun (w' : World) => implGet_any (rfB (rf d 0)) 0 w' (shortB (rfB_size_le 0 hd1)))
  have HK := hdN (mk_eq d)
  rw [rfV_eq] at HR
  generalize rfB (rf d 0) = pl at *
  generalize (rf d 0).isSome = fo at *
  generalize rfK (rf d 0) = fk at *
  generalize rfN (rf d 0) = fn at *
  have HM := hdN (fun (n : Int) (w' : World) (hb : Below w.heap.size w w') => markT_any n w' (hst.below hb))
  generalize mkN d = MN at *
  generalize gv pl 0 = o at *
  have hfd : ∀ w : World, (Instr.field 101 (.agg #[.bool fo, .int .i64 (fk : Nat), .string pl, .int .i64 (fn : Nat)]) 2).run Tryz.prog w = .ok (.string pl) w := fun _ => by kernel_rfl
  go_enter Tryz.func22, Tryz.ntmps22
  go_wp2_with fail
  refine (HF1.out _ hb0).mono ?_
  rintro e w1 ⟨b1, rfl, hb1⟩
  have hr1 : w1.heap[w.heap.size]? = some (.cells #[.slice none 0 0, .int .i64 0] 28 (0, 0)) := (hb1.block _ (by simp)).trans (World.heap_alloc_new _ _)
  have hbw1 := hb0.trans (hb1.mono hb0.size)
  clear hb0 hb1 HF1
  go_wp2_with fail
  refine (HR.out _ hbw1).mono ?_
  rintro e w2 ⟨rfl, hb2⟩
  have hr2 := (hb2.block _ (heap_lt hr1)).trans hr1
  have hbw2 := hbw1.trans (hb2.mono hbw1.size)
  clear hr1 hbw1 hb2 HR
  go_wp2_with fail
  refine (HG.out _).mono ?_
  rintro e w3 ⟨rfl, hb3⟩
  have hr3 := (hb3.block _ (heap_lt hr2)).trans hr2
  have hbw3 := hbw2.trans (hb3.mono hbw2.size)
  clear hr2 hbw2 hb3 HG
  cases o with
  | none =>
    have hMK : MK = none := by
      rw [HMK.out, show MN = none from HK.out]
      cases OK <;> rfl
    subst hMK
    obtain ⟨⟨c0, c1⟩, z0, z1⟩ := two_cellsV hr3
    simp only [gvV]
    go_wp2_with fail
    refine bodyPost_ret (v := .tuple #[.agg #[.slice none 0 0, .int .i64 0], .bool false]) (by simp [results, Tryz.results22, go_sem, c0, c1, z0, z1]) rfl ⟨none, ⟨0, rfl⟩, .inl rfl, (hbw3.setCell (Nat.le_refl _) _).setCell (Nat.le_refl _) _⟩
  | some y =>
    obtain ⟨m, cc⟩ := y
    obtain ⟨⟨c0, c1⟩, z0, z1⟩ := two_cellsV hr3
    simp only [gvV]
    go_wp2_with fail
    refine (HM.out _ _ hbw3).mono ?_
    rintro e w4 ⟨rfl, hb4⟩
    have hr4 := (hb4.block _ (heap_lt hr3)).trans hr3
    have hbw4 := hbw3.trans (hb4.mono hbw3.size)
    clear hr3 hbw3 hb4 HM c0 c1 z0 z1
    obtain ⟨⟨c0, c1⟩, z0, z1⟩ := two_cellsV hr4
    have HK2 : Hid (MN = if frT 82 (vtext m) = d then some m else none) := HK.out
    clear HK
    generalize frT 82 (vtext m) = T at *
    by_cases he : T = d
    · subst he
      have hMN : MN = some m := by rw [HK2.out, if_pos rfl]
      have hq : (T.toList != T.toList) = false := by simp
      have hq' : (!(T.toList == T.toList)) = false := by simp
      go_wp2_with fail
      refine (HF2.out _ hbw4).mono ?_
      rintro e w5 ⟨b5, rfl, hb5⟩
      have hr5 := (hb5.block _ (heap_lt hr4)).trans hr4
      have hbw5 := hbw4.trans (hb5.mono hbw4.size)
      clear hr4 hbw4 hb5 HF2
      go_wp2_with fail
      refine (HT.out _ hbw5).mono ?_
      rintro e w6 ⟨a6, cap6, rfl, hre, hb6⟩
      have hlt5 : w.heap.size < w5.heap.size := heap_lt hr5
      have hr6 := (hb6.block _ (heap_lt hr5)).trans hr5
      have hbw6 := hbw5.trans (hb6.mono hbw5.size)
      clear hb6 HT c0 c1 z0 z1
      obtain ⟨⟨c0, c1⟩, z0, z1⟩ := two_cellsV hr6
      cases OK with
      | false =>
        have hMK : MK = none := HMK.out
        subst hMK
        go_wp2_with fail
        refine bodyPost_ret (v := .tuple #[.agg #[.slice none 0 0, .int .i64 0], .bool false]) (by simp [results, Tryz.results22, go_sem, c0, c1, z0, z1]) rfl ⟨none, 0, rfl, .inl rfl, (hbw6.setCell (Nat.le_refl _) _).setCell (Nat.le_refl _) _⟩
      | true =>
        have hMK : MK = some m := by rw [HMK.out, hMN]; rfl
        subst hMK
        go_wp2_with fail
        refine bodyPost_ret (v := .tuple #[.agg #[.slice a6 ES.length cap6, .int .i64 (m : Int)], .bool true]) (by simp [results, Tryz.results22, go_sem, c0, c1, z0, z1]) rfl ⟨a6, cap6, rfl, ((hre.putV hlt5 _).putV hlt5 _).down (Nat.le_of_lt hlt5), (hbw6.setCell (Nat.le_refl _) _).setCell (Nat.le_refl _) _⟩
    · have hMK : MK = none := by
        have hMN : MN = none := by rw [HK2.out, if_neg he]
        rw [HMK.out, hMN]
        cases OK <;> rfl
      subst hMK
      have hq : (T.toList != d.toList) = true := by
        simp only [bne_iff_ne, ne_eq]
        intro h
        exact he (toList_eq' (by simp [h]))
      have hq' : (!(T.toList == d.toList)) = true := hq
      go_wp2_with fail
      refine bodyPost_ret (v := .tuple #[.agg #[.slice none 0 0, .int .i64 0], .bool false]) (by simp [results, Tryz.results22, go_sem, c0, c1, z0, z1]) rfl ⟨none, 0, rfl, .inl rfl, (hbw4.setCell (Nat.le_refl _) _).setCell (Nat.le_refl _) _⟩
end Go.Proofs.YtgmfjninimebmaaGreatDoor
namespace Go.Proofs.YtgmfjninimebmaaGreatDoor
open Go.RowKit Go.Maps
set_option linter.unusedVariables false
set_option linter.unusedSimpArgs false

theorem four_cellsV {w : World} {p : Nat} {t : TypeId} {x0 x1 x2 x3 : Value} (h : w.heap[p]? = some (.cells #[x0, x1, x2, x3] t (0, 0))) :
    w.cell? ⟨p, 0, none⟩ = some x0 ∧ w.cell? ⟨p, 1, none⟩ = some x1 ∧ w.cell? ⟨p, 2, none⟩ = some x2 ∧ w.cell? ⟨p, 3, none⟩ = some x3 := by
  simp [World.cell?, h]
/-- A mark of the model: its frame and its number one after the other. -/
theorem mkN_def {d : ByteArray} : mkN d = if (rf d 0).isSome = true ∧ rfK (rf d 0) = 82 ∧ rfN (rf d 0) * 64 = d.size then (match gv (rfB (rf d 0)) 0 with
    | none => none
    | some (m, c) => if c = (rfB (rf d 0)).size then some m else none) else none := by
  unfold mkN
  cases h : rf d 0 with
  | none => rfl
  | some x =>
    obtain ⟨k, l, n⟩ := x
    have hz : (⟨l.toArray⟩ : ByteArray).size = l.length := by simp [ByteArray.size]
    have e1 : rfB (some (k, l, n)) = ⟨l.toArray⟩ := rfl
    have e2 : rfK (some (k, l, n)) = k := rfl
    have e3 : rfN (some (k, l, n)) = n := rfl
    rw [e1, e2, e3, hz]
    cases hg : gv ⟨l.toArray⟩ 0 with
    | none => simp only [hg]; split <;> rfl
    | some y =>
      obtain ⟨m, c⟩ := y
      simp only [hg]
      by_cases h1 : k = 82 ∧ n * 64 = d.size
      · rw [if_pos (show (some (k, l, n)).isSome = true ∧ k = 82 ∧ n * 64 = d.size from ⟨rfl, h1⟩)]
        by_cases h2 : c = l.length
        · rw [if_pos h2, if_pos ⟨h1.1, h1.2, h2⟩]
        · rw [if_neg h2, if_neg (fun h => h2 h.2.2)]
      · rw [if_neg (fun h : (some (k, l, n)).isSome = true ∧ k = 82 ∧ n * 64 = d.size => h1 h.2), if_neg (fun h => h1 ⟨h.1, h.2.1⟩)]
theorem dtA_none {xs : List Fl} {l : List UInt8} (h : (fm xs l).isSome = false) : (dtA xs l).size = 0 := by
  unfold dtA
  cases hf : fm xs l with
  | none => rfl
  | some x => rw [hf] at h; cases h
set_option maxRecDepth 100000 in
set_option maxHeartbeats 2000000 in
theorem l6Mark_any (a : Option Addr) (cap : Nat) (xs : List Fl) (q fu : Int) (s : ByteArray) (w : World) (hx : Lie w a xs) (hlen : xs.length ≤ 1048576) (hr : Rise xs) (hd : datas xs ≤ 1048576) :
    Calls Tryz.prog 33 #[.agg #[.slice a xs.length cap, .int .i64 q, .int .i64 fu], .string s] w fun e w' =>
      ∃ n : Int, e = .returned (.tuple #[.int .i64 n, .bool (mkAt xs s.data.toList).isSome]) ∧ (∀ m, mkAt xs s.data.toList = some m → n = (m : Int)) ∧ Below w.heap.size w w' := by
  have hb0 : Below w.heap.size w (w.alloc (.cells #[.slice a xs.length cap, .int .i64 q, .int .i64 fu] 32)) := (Below.refl _ _).alloc (Nat.le_refl _) _
  have HD := hdN (fun (s : ByteArray) (w' : World) (hb : Below w.heap.size w w') => l1Data_any a cap xs q fu s w' (hx.below hb) hlen hr)
  have hd1 : (dtA xs s.data.toList).size ≤ 1048576 := Nat.le_trans (dtA_size xs _) hd
  have hd2 : (dtA xs tabB).size ≤ 1048576 := Nat.le_trans (dtA_size xs _) hd
  have HE1 := hdN (fun h => dtA_none (xs := xs) (l := s.data.toList) h)
  have HE2 := hdN (fun h => dtA_none (xs := xs) (l := tabB) h)
  have HF1 : Hid (∀ (w' : World), Below w.heap.size w w' → Calls Tryz.prog 16 #[.agg #[.slice a xs.length cap, .int .i64 q, .int .i64 fu], .string s] w' fun e w'' => e = .returned (.tuple #[.string (dtA xs s.data.toList), .bool (fm xs s.data.toList).isSome]) ∧ Below w'.heap.size w' w'') := fun w' hb => HD.out s w' hb
  have HF2 : Hid (∀ (w' : World), Below w.heap.size w w' → Calls Tryz.prog 16 #[.agg #[.slice a xs.length cap, .int .i64 q, .int .i64 fu], .string ⟨#[114, 101, 112, 97, 105, 114, 46, 116, 97, 98]⟩] w' fun e w'' => e = .returned (.tuple #[.string (dtA xs tabB), .bool (fm xs tabB).isSome]) ∧ Below w'.heap.size w' w'') := fun w' hb => HD.out _ w' hb
  have HMK : Hid (mkAt xs s.data.toList = if (rtO (dtA xs tabB)).isSome = true then mkN (dtA xs s.data.toList) else none) := rfl
  clear HD
  generalize mkAt xs s.data.toList = MK at *
  have HT := hdN (fun (w' : World) => specRT_any (dtA xs tabB) w' hd2)
  have HE3 : Hid ((fm xs tabB).isSome = false → (rtO (dtA xs tabB)).isSome = false) := fun h => by rw [rtO_empty (HE2.out h)]; rfl
  generalize rtL (dtA xs tabB) = ES at *
  generalize (rtO (dtA xs tabB)).isSome = OK at *
  generalize dtA xs tabB = tb at *
  generalize (fm xs tabB).isSome = th at *
  generalize dtA xs s.data.toList = d at *
  generalize (fm xs s.data.toList).isSome = tq at *
  have HR := hdN (fun (w' : World) => specRead_any d 0 w' hd1)
  have HG := hdN (fun (w' : World) => specGet_any (rfB (rf d 0)) 0 w' (shortB (rfB_size_le 0 hd1)))
  have HK := hdN (mkN_def (d := d))
  have hpz := rfB_size_le 0 hd1
  have HNX : Hid (rfN (rf d 0) * 64 ≤ 1048576) := by
    show _ ≤ _
    cases h : rf d 0 with
    | none => simp [rfN]
    | some x => obtain ⟨k, l, n⟩ := x; have := (rf_next (p := 0) h).2; simp only [rfN]; omega
  have HEM := hdN (fun h => mk_empty (d := d) h)
  rw [rfV_eq] at HR
  generalize rfB (rf d 0) = pl at *
  generalize (rf d 0).isSome = fo at *
  generalize rfK (rf d 0) = fk at *
  generalize rfN (rf d 0) = fn at *
  generalize mkN d = MN at *
  have HGL : Hid (∀ m c, gv pl 0 = some (m, c) → c ≤ 1048576) := fun m c h => by
    have := (gv_some (A := 0) h).2.1
    omega
  generalize gv pl 0 = o at *
  go_enter Tryz.func33, Tryz.ntmps33
  go_wp2_with fail
  refine (HF1.out _ hb0).mono ?_
  rintro e w1 ⟨rfl, hb1⟩
  have c0 : w1.cell? ⟨w.heap.size, 0, none⟩ = some (.slice a xs.length cap) := (hb1.cell (p := ⟨w.heap.size, 0, none⟩) (by simp)).trans (by simp)
  have c1 : w1.cell? ⟨w.heap.size, 1, none⟩ = some (.int .i64 q) := (hb1.cell (p := ⟨w.heap.size, 1, none⟩) (by simp)).trans (by simp)
  have c2 : w1.cell? ⟨w.heap.size, 2, none⟩ = some (.int .i64 fu) := (hb1.cell (p := ⟨w.heap.size, 2, none⟩) (by simp)).trans (by simp)
  have hs1 : w.heap.size < w1.heap.size := by have := hb1.size; simp at this; omega
  have hbw1 := hb0.trans (hb1.mono hb0.size)
  clear hb0 hb1 HF1
  cases tq with
  | false =>
    have hMK : MK = none := by
      rw [HMK.out, HEM.out (HE1.out rfl)]
      cases OK <;> rfl
    subst hMK
    go_wp2_with fail
    go_ret2
    first | exact ⟨0, rfl, fun m h => (by cases h), hbw1⟩ | exact ⟨⟨0, rfl⟩, hbw1⟩
  | true =>
    go_wp2_with fail
    refine (HR.out _).mono ?_
    rintro e w2 ⟨rfl, hb2⟩
    have k0 := (hb2.cell (p := ⟨w.heap.size, 0, none⟩) hs1).trans c0
    have k1 := (hb2.cell (p := ⟨w.heap.size, 1, none⟩) hs1).trans c1
    have k2 := (hb2.cell (p := ⟨w.heap.size, 2, none⟩) hs1).trans c2
    have hs2 := Nat.lt_of_lt_of_le hs1 hb2.size
    have hbw2 := hbw1.trans (hb2.mono hbw1.size)
    clear hb2 HR c0 c1 c2 hs1 hbw1
    have hfr : (w2.alloc (.cells #[.bool fo, .int .i64 (fk : Nat), .string pl, .int .i64 (fn : Nat)] 101)).heap[w2.heap.size]? = some (.cells #[.bool fo, .int .i64 (fk : Nat), .string pl, .int .i64 (fn : Nat)] 101 (0, 0)) := World.heap_alloc_new _ _
    have hb3 : Below w2.heap.size w2 (w2.alloc (.cells #[.bool fo, .int .i64 (fk : Nat), .string pl, .int .i64 (fn : Nat)] 101)) := (Below.refl _ _).alloc (Nat.le_refl _) _
    have hbw3 := hbw2.trans (hb3.mono hbw2.size)
    have c0 := (hb3.cell (p := ⟨w.heap.size, 0, none⟩) hs2).trans k0
    have c1 := (hb3.cell (p := ⟨w.heap.size, 1, none⟩) hs2).trans k1
    have c2 := (hb3.cell (p := ⟨w.heap.size, 2, none⟩) hs2).trans k2
    obtain ⟨x0, x1, x2, x3⟩ := four_cellsV hfr
    have hnx := HNX.out
    cases fo with
    | false =>
      have hMK : MK = none := by
        rw [HMK.out, HK.out, if_neg (show ¬ (false = true ∧ fk = 82 ∧ fn * 64 = d.size) by simp)]
        cases OK <;> rfl
      subst hMK
      go_wp2_with fail
      go_ret2
      first | exact ⟨0, rfl, fun m h => (by cases h), hbw3⟩ | exact ⟨⟨0, rfl⟩, hbw3⟩
    | true =>
      by_cases hk : (fk : Int) = 82
      · by_cases hnz : (fn : Int) * 64 = (d.size : Int)
        · have hk2 : ((fk : Int) != 82) = false := by simp [hk]
          have hn2 : ((fn : Int) * 64 != (d.size : Int)) = false := by simp [hnz]
          rw [if_pos ⟨rfl, by omega, by omega⟩] at HK
          clear hk hnz
          have hl2 : w2.heap.size < (w2.alloc (.cells #[.bool true, .int .i64 (fk : Nat), .string pl, .int .i64 (fn : Nat)] 101)).heap.size := by simp
          have hl1 : w.heap.size < (w2.alloc (.cells #[.bool true, .int .i64 (fk : Nat), .string pl, .int .i64 (fn : Nat)] 101)).heap.size := by simp; omega
          clear hfr hb3
          go_wp2_with fail
          generalize w2.alloc (.cells #[.bool true, .int .i64 (fk : Nat), .string pl, .int .i64 (fn : Nat)] 101) = w3 at *
          refine (HG.out _).mono ?_
          rintro e w4 ⟨rfl, hb4⟩
          have hbw4 := hbw3.trans (hb4.mono hbw3.size)
          have y2 := (hb4.cell (p := ⟨w2.heap.size, 2, none⟩) hl2).trans x2
          have k0 := (hb4.cell (p := ⟨w.heap.size, 0, none⟩) hl1).trans c0
          have k1 := (hb4.cell (p := ⟨w.heap.size, 1, none⟩) hl1).trans c1
          have k2 := (hb4.cell (p := ⟨w.heap.size, 2, none⟩) hl1).trans c2
          clear hb4 HG x0 x1 x2 x3 c0 c1 c2 hbw3
          cases o with
          | none =>
            have hMK : MK = none := by
              rw [HMK.out, show MN = none from HK.out]
              cases OK <;> rfl
            subst hMK
            simp only [gvV]
            go_wp2_with fail
            go_ret2
            first | exact ⟨0, rfl, fun m h => (by cases h), hbw4⟩ | exact ⟨⟨0, rfl⟩, hbw4⟩
          | some y =>
            obtain ⟨m, cc⟩ := y
            have HK2 : Hid (MN = if cc = pl.size then some m else none) := HK.out
            have hcl := HGL.out m cc rfl
            clear HK HGL
            simp only [gvV, Int.zero_add]
            by_cases hc : (cc : Int) = (pl.size : Int)
            · have hc2 : ((cc : Int) != (pl.size : Int)) = false := by simp [hc]
              have hMN : MN = some m := HK2.out.trans (if_pos (by omega))
              go_wp2_with fail
              refine (HF2.out _ hbw4).mono ?_
              rintro e w5 ⟨rfl, hb5⟩
              have hbw5 := hbw4.trans (hb5.mono hbw4.size)
              clear hb5 HF2 hbw4
              go_wp2_with fail
              refine (HT.out _).mono ?_
              rintro e w6 ⟨a6, cap6, rfl, -, hb6⟩
              have hbw6 := hbw5.trans (hb6.mono hbw5.size)
              clear hb6 HT hbw5
              have HMK2 : Hid (MK = if OK = true then some m else none) := by show _ = _; rw [HMK.out, hMN]
              cases th with
              | false =>
                have hOK := HE3.out rfl
                subst hOK
                have hMK : MK = none := HMK2.out
                subst hMK
                go_wp2_with fail
                go_ret2
                first | exact ⟨m, rfl, fun m h => (by cases h), hbw6⟩ | exact ⟨⟨m, rfl⟩, hbw6⟩
              | true =>
                cases OK with
                | false =>
                  have hMK : MK = none := HMK2.out
                  subst hMK
                  go_wp2_with fail
                  go_ret2
                  first | exact ⟨m, rfl, fun m h => (by cases h), hbw6⟩ | exact ⟨⟨m, rfl⟩, hbw6⟩
                | true =>
                  have hMK : MK = some m := HMK2.out
                  subst hMK
                  go_wp2_with fail
                  go_ret2
                  exact ⟨m, rfl, fun m' h => (by cases h; rfl), hbw6⟩
            · have hc2 : ((cc : Int) != (pl.size : Int)) = true := by simp [hc]
              have hMK : MK = none := by
                rw [HMK.out, HK2.out, if_neg (show ¬ cc = pl.size by omega)]
                cases OK <;> rfl
              subst hMK
              go_wp2_with fail
              go_ret2
              first | exact ⟨0, rfl, fun m h => (by cases h), hbw4⟩ | exact ⟨⟨0, rfl⟩, hbw4⟩
        · have hk2 : ((fk : Int) != 82) = false := by simp [hk]
          have hn2 : ((fn : Int) * 64 != (d.size : Int)) = true := by simp [hnz]
          have hMK : MK = none := by
            rw [HMK.out, HK.out, if_neg (show ¬ (true = true ∧ fk = 82 ∧ fn * 64 = d.size) by intro h; omega)]
            cases OK <;> rfl
          subst hMK
          clear hk hnz
          go_wp2_with fail
          go_ret2
          first | exact ⟨0, rfl, fun m h => (by cases h), hbw3⟩ | exact ⟨⟨0, rfl⟩, hbw3⟩
      · have hk2 : ((fk : Int) != 82) = true := by simp [hk]
        have hMK : MK = none := by
          rw [HMK.out, HK.out, if_neg (show ¬ (true = true ∧ fk = 82 ∧ fn * 64 = d.size) by intro h; omega)]
          cases OK <;> rfl
        subst hMK
        go_wp2_with fail
        go_ret2
        first | exact ⟨0, rfl, fun m h => (by cases h), hbw3⟩ | exact ⟨⟨0, rfl⟩, hbw3⟩
/-- The stage of a repair, and the mark's number. -/
def stg (xs : List Fl) : Nat × Int := match mkAt xs goB with
  | some m => (2, (m : Int))
  | none => match mkAt xs okB with
    | some m => (1, (m : Int))
    | none => (0, 0)
set_option maxRecDepth 100000 in
set_option maxHeartbeats 1000000 in
theorem l6Stage_any (a : Option Addr) (cap : Nat) (xs : List Fl) (q fu : Int) (w : World) (hx : Lie w a xs) (hlen : xs.length ≤ 1048576) (hr : Rise xs) (hd : datas xs ≤ 1048576) :
    Calls Tryz.prog 15 #[.agg #[.slice a xs.length cap, .int .i64 q, .int .i64 fu]] w fun e w' => e = .returned (.tuple #[.int .i64 ((stg xs).1 : Nat), .int .i64 (stg xs).2]) ∧ Below w.heap.size w w' := by
  have hb0 : Below w.heap.size w (w.alloc (.cells #[.slice a xs.length cap, .int .i64 q, .int .i64 fu] 32)) := (Below.refl _ _).alloc (Nat.le_refl _) _
  have HM := hdN (fun (s : ByteArray) (w' : World) (hb : Below w.heap.size w w') => l6Mark_any a cap xs q fu s w' (hx.below hb) hlen hr hd)
  have H1 : Hid (∀ (w' : World), Below w.heap.size w w' → Calls Tryz.prog 33 #[.agg #[.slice a xs.length cap, .int .i64 q, .int .i64 fu], .string ⟨#[114, 101, 112, 97, 105, 114, 46, 103, 111]⟩] w' fun e w'' => ∃ n : Int, e = .returned (.tuple #[.int .i64 n, .bool (mkAt xs goB).isSome]) ∧ (∀ m, mkAt xs goB = some m → n = (m : Int)) ∧ Below w'.heap.size w' w'') := fun w' hb => HM.out _ w' hb
  have H2 : Hid (∀ (w' : World), Below w.heap.size w w' → Calls Tryz.prog 33 #[.agg #[.slice a xs.length cap, .int .i64 q, .int .i64 fu], .string ⟨#[114, 101, 112, 97, 105, 114, 46, 111, 107]⟩] w' fun e w'' => ∃ n : Int, e = .returned (.tuple #[.int .i64 n, .bool (mkAt xs okB).isSome]) ∧ (∀ m, mkAt xs okB = some m → n = (m : Int)) ∧ Below w'.heap.size w' w'') := fun w' hb => HM.out _ w' hb
  unfold stg
  clear HM
  generalize mkAt xs goB = o1 at *
  generalize mkAt xs okB = o2 at *
  go_enter Tryz.func15, Tryz.ntmps15
  go_wp2_with fail
  refine (H1.out _ hb0).mono ?_
  rintro e w1 ⟨n1, rfl, hn1, hb1⟩
  have c0 : w1.cell? ⟨w.heap.size, 0, none⟩ = some (.slice a xs.length cap) := (hb1.cell (p := ⟨w.heap.size, 0, none⟩) (by simp)).trans (by simp)
  have c1 : w1.cell? ⟨w.heap.size, 1, none⟩ = some (.int .i64 q) := (hb1.cell (p := ⟨w.heap.size, 1, none⟩) (by simp)).trans (by simp)
  have c2 : w1.cell? ⟨w.heap.size, 2, none⟩ = some (.int .i64 fu) := (hb1.cell (p := ⟨w.heap.size, 2, none⟩) (by simp)).trans (by simp)
  have hbw1 := hb0.trans (hb1.mono hb0.size)
  clear hb0 hb1 H1
  cases o1 with
  | some m =>
    obtain rfl := hn1 m rfl
    clear hn1
    go_wp2_with fail
    go_ret2
    exact ⟨rfl, hbw1⟩
  | none =>
    clear hn1
    go_wp2_with fail
    refine (H2.out _ hbw1).mono ?_
    rintro e w2 ⟨n2, rfl, hn2, hb2⟩
    have hbw2 := hbw1.trans (hb2.mono hbw1.size)
    clear hb2 H2
    cases o2 with
    | some m =>
      obtain rfl := hn2 m rfl
      clear hn2
      go_wp2_with fail
      go_ret2
      exact ⟨rfl, hbw2⟩
    | none =>
      clear hn2
      go_wp2_with fail
      go_ret2
      exact ⟨rfl, hbw2⟩
end Go.Proofs.YtgmfjninimebmaaGreatDoor
namespace Go.Proofs.YtgmfjninimebmaaGreatDoor
open Go.RowKit Go.Maps Go.Shelf
attribute [local go_sem] Oper.semAt_some
set_option linter.unusedVariables false
set_option linter.unusedSimpArgs false

/-- A payload that was found in s. -/
abbrev Ps (s : ByteArray) := { x : ByteArray // x.size ≤ s.size }
def psOf {s : ByteArray} (k : Int) (pre : List (Fs s)) : List (Ps s) := (pre.filter fun x => gd k x.1).map fun x => ⟨rfB x.1, x.2⟩
theorem psOf_val {s : ByteArray} (k : Int) (pre : List (Fs s)) : (psOf k pre).map Subtype.val = ((pre.map Subtype.val).filter (gd k)).map rfB := by
  unfold psOf
  rw [List.filter_map, List.map_map, List.map_map]
  rfl
/-- Between two rounds of payloads. -/
def PyJ {s : ByteArray} (J : List (Ps s) → World → Prop) (b0 bk fb l0 : Nat) (k : Int) (pre : List (Fs s)) (W : World) : Prop :=
  J (psOf k pre) W ∧ W.heap[b0]? = some (.cells #[.func (.yield l0) #[] #[]] 67 (0, 0)) ∧ W.heap[bk]? = some (.cells #[.int .i64 k] 3 (0, 0)) ∧ W.heap[b0 + 1]?.isSome = true ∧ Fg fb W b0 ∧ Fg fb W (b0 + 1)
theorem pyJ_own {s : ByteArray} {J : List (Ps s) → World → Prop} {b0 bk fb l0 B B0 : Nat} {k : Int} (hJ : OwnFrom B0 J) (hB : B0 ≤ B) (hf : fb < b0) (hb : b0 + 2 ≤ B) : OwnFrom B (PyJ J b0 bk fb l0 k) := by
  rintro pre W W' row ⟨h1, h2, h3, h4, h5, h6⟩ hg hr
  have hkept := kept_of hg (fun r e => (hr r e).2)
  have hlt : b0 < W.heap.size := heap_lt h2
  have h4' : b0 + 1 < W.heap.size := by
    by_cases hlt : b0 + 1 < W.heap.size
    · exact hlt
    · rw [Array.getElem?_eq_none (by omega)] at h4; cases h4
  refine ⟨hJ _ _ _ _ h1 hg (fun r e => ⟨Nat.le_trans hB (hr r e).1, (hr r e).2⟩), hkept _ _ h2 rfl, hkept _ _ h3 rfl, ?_, fg_kept (B := b0 + 1) h5 hg (by omega) (by omega) (fun r e => by have := (hr r e).1; omega), fg_kept (B := b0 + 1) h6 hg (by omega) (by omega) (fun r e => by have := (hr r e).1; omega)⟩
  rw [hg.block _ h4' (fun e => by have := (hr _ e.symm).1; omega)]
  exact h4

set_option maxRecDepth 100000 in
set_option maxHeartbeats 2000000 in
theorem pays2_in (n : Nat) (hn : 3 ≤ n) (l0 bs bk fb n₀ B0 N : Nat) (s : ByteArray) (k : Int) (hs : s.size ≤ 1048576) (J : List (Ps s) → World → Prop) (W0 : World) (hJ : OwnFrom B0 J) (hB0 : B0 ≤ W0.heap.size) (hl0 : l0 < B0) (hN : (frs s 0).length ≤ N)
    (hY : ∀ pre (x : Ps s) W, J pre W → pre.length < N → YieldAt Fence.wide (n - 1) Tryz.prog l0 #[.string x.1] W fun e W' => e = .returned (.bool true) ∧ J (pre ++ [x]) W' ∧ KO n₀ l0 fb bk W W')
    (hbs : W0.cell? ⟨bs, 0, none⟩ = some (.string s)) (hbk : W0.heap[bk]? = some (.cells #[.int .i64 k] 3 (0, 0))) (hst : Steps W0) (hg : 0 < n₀) (hn0 : n₀ ≤ W0.heap.size) (hfb : fb < W0.heap.size) (hf0 : ∀ v j, W0.cell? ⟨fb, 0, none⟩ = some v → v.ownBlock = some j → j < W0.heap.size) (h0 : J [] W0) :
    CallsIn Fence.wide n Tryz.prog 126 #[.func (.yield l0) #[] #[], .pointer (some ⟨bs, 0, none⟩), .pointer (some ⟨bk, 0, none⟩)] W0 fun e W' => (∃ v, e = .returned v) ∧ ∃ ys : List (Ps s), ys.map Subtype.val = svL s k ∧ J ys W' := by
  have HSV : Hid (svL s k = ((frs s 0).filter (gd k)).map rfB) := rfl
  generalize svL s k = SV at *
  refine callsIn_of_wp_marks Tryz.func126 rfl trivial ?_ rfl
  simp only [Tryz.ntmps126, List.size_toArray, List.length_cons, List.length_nil, Nat.reduceAdd, Nat.reduceSub, Array.replicate_succ, Array.replicate_zero, List.push_toArray, List.append_toArray, List.nil_append, List.cons_append]
  replace hY := hd hY
  have h1n : 1 ≤ n := by omega
  have h2n : 1 ≤ n - 1 - 1 := by omega
  have hbs1 : (W0.alloc (.cells #[.func (.yield l0) #[] #[]] 67)).cell? ⟨bs, 0, none⟩ = some (.string s) := (((Below.refl W0.heap.size W0).alloc (Nat.le_refl _) _).cell (p := ⟨bs, 0, none⟩) (cell_lt hbs)).trans hbs
  gi_wp2_with (refine ⟨trivial, ?_⟩; gi_at_call 77; refine (frames_in _ _ trivial rfl _ _).mono ?_; rintro e w' ⟨rfl, rfl⟩)
  have hbW : Below W0.heap.size W0 ((W0.alloc (.cells #[.func (.yield l0) #[] #[]] 67)).alloc (.cells #[.string s] 9)) := ((Below.refl _ _).alloc (Nat.le_refl _) _).alloc (by simp) _
  have hy0 : ((W0.alloc (.cells #[.func (.yield l0) #[] #[]] 67)).alloc (.cells #[.string s] 9)).heap[W0.heap.size]? = some (.cells #[.func (.yield l0) #[] #[]] 67 (0, 0)) := by
    rw [Below.heap_alloc _ _ _ (by simp)]
    exact alloc_at _ _ _ rfl
  have hs1 : ((W0.alloc (.cells #[.func (.yield l0) #[] #[]] 67)).alloc (.cells #[.string s] 9)).heap[W0.heap.size + 1]? = some (.cells #[.string s] 9 (0, 0)) := alloc_at _ _ _ (by simp)
  have hsz : ((W0.alloc (.cells #[.func (.yield l0) #[] #[]] 67)).alloc (.cells #[.string s] 9)).heap.size = W0.heap.size + 2 := by simp
  generalize ((W0.alloc (.cells #[.func (.yield l0) #[] #[]] 67)).alloc (.cells #[.string s] 9)) = Wb at *
  have hfW : Wb.cell? ⟨fb, 0, none⟩ = W0.cell? ⟨fb, 0, none⟩ := cell_of_block (hbW.block fb hfb)
  have hI0 : PyJ J W0.heap.size bk fb l0 k [] Wb := ⟨hJ _ _ _ none h0 (grown_of_below hbW none) (fun r e => by cases e), hy0, (hbW.block bk (heap_lt hbk)).trans hbk, by rw [hs1]; rfl,
    fun v hv e => by rw [hfW] at hv; exact Nat.lt_irrefl _ (hf0 v _ hv e), fun v hv e => by rw [hfW] at hv; have := hf0 v _ hv e; omega⟩
  refine wpIn_rangeFunc_ownH rfl (by omega) (gf := 116) (lb := #[.pointer (some ⟨W0.heap.size + 1, 0, none⟩)]) rfl trivial (enters_of Tryz.func116 (by kernel_rfl) rfl)
    (frames2_stops _ (by omega) (W0.heap.size + 1) n₀ s hs Wb (by omega) (one_cell hs1).1 (hst.below hbW) hg) KF.trans (KF.put (by omega) (by omega)) (Below.refl _ _) (fun _ => rfl)
    (PyJ J W0.heap.size bk fb l0 k) (fun _ _ _ => False) (pyJ_own hJ (by omega) hfb (by omega)) (fun _ _ _ _ _ hs _ _ => hs) hI0
    (fun x a' W => ∃ Bx, W.heap[Bx]? = some (.cells #[.bool x.1.isSome, .int .i64 (rfK x.1 : Nat), .string (rfB x.1), .int .i64 (rfN x.1 : Nat)] 101 (0, 0)) ∧ a' = { tmps := #[.func (.yield l0) #[] #[], .pointer (some ⟨bs, 0, none⟩), .pointer (some ⟨bk, 0, none⟩), .pointer (some ⟨W0.heap.size, 0, none⟩), .pointer (some ⟨Bx, 0, none⟩), .string s, .func (.func 116) #[] #[.pointer (some ⟨W0.heap.size + 1, 0, none⟩)], .agg #[.bool x.1.isSome, .int .i64 (rfK x.1 : Nat), .string (rfB x.1), .int .i64 (rfN x.1 : Nat)], undef, undef, undef, undef, undef, undef, undef, undef, undef, undef, undef, undef, undef, undef, undef], defers := [] })
    ?ax ?assign ?body ?done ?stop
  case ax =>
    intro x a'
    refine Own.from (fun _ A B' row hs hg hr => ?_) _
    obtain ⟨Bx, h1, h2⟩ := hs
    exact ⟨Bx, kept_of hg hr _ _ h1 rfl, h2⟩
  case assign =>
    rintro l pre x W K hI hK
    have hxe := rfV_eq x.1
    have hlt1 : W0.heap.size + 1 < W.heap.size := some_lt hI.2.2.2.1
    gi_wp2
    have hb1 : Below W.heap.size W (W.alloc (.cells #[.bool x.1.isSome, .int .i64 (rfK x.1 : Nat), .string (rfB x.1), .int .i64 (rfN x.1 : Nat)] 101)) := (Below.refl _ _).alloc (Nat.le_refl _) _
    exact hK _ _ ((KeepsOthers.alloc _ _).from _) (KF.of hb1 (by omega) hlt1) (pyJ_own (B := W0.heap.size + 2) hJ (by omega) hfb (Nat.le_refl _) pre W _ none hI (grown_of_below hb1 none) (fun r e => by cases e)) ⟨W.heap.size, World.heap_alloc_new _ _, rfl⟩
  case body =>
    rintro l pre x a' W hl ⟨r, hr⟩ ⟨hJ1, hy1, hk1, h41, hf1, hf2⟩ ⟨Bx, hX, rfl⟩ hlt
    obtain ⟨⟨x0, x1, x2, x3⟩, -⟩ := four_cells hX
    obtain ⟨k0, -⟩ := one_cell hk1
    obtain ⟨y0, -⟩ := one_cell hy1
    have hlt1 : W0.heap.size + 1 < W.heap.size := some_lt h41
    have HJ1 : Hid (J (psOf k pre) W) := hJ1
    have HN : Hid ((psOf k pre).length < N) := by
      show _ < _
      unfold psOf
      rw [List.length_map]
      exact Nat.lt_of_le_of_lt (List.length_filter_le _ _) (Nat.lt_of_lt_of_le hlt hN)
    have HP : Hid (PyJ J W0.heap.size bk fb l0 k pre W) := ⟨hJ1, hy1, hk1, h41, hf1, hf2⟩
    clear hX hk1 hy1 h41 hJ1
    cases hok : x.1.isSome with
    | false =>
      have hgd : gd k x.1 = false := by unfold gd; rw [hok]; rfl
      have HF : Hid (psOf k (pre ++ [x]) = psOf k pre) := by show _ = _; unfold psOf; rw [List.filter_append]; simp [hgd]
      clear hgd
      rw [hok] at x0
      gi_wp2_with fail
      refine ⟨fun _ h => (by cases h), ?_⟩
      gi_wp2
      exact ⟨KeepsFrom.refl _ _, KF.refl _ _ _, by unfold PyJ; rw [HF.out]; exact HP.out⟩
    | true =>
      rw [hok] at x0
      by_cases hk : ((rfK x.1 : Nat) : Int) = k
      · have hne : (((rfK x.1 : Nat) : Int) == k) = true := by rw [hk]; simp
        have hgd : gd k x.1 = true := by unfold gd; rw [hok, hk]; simp
        have HF : Hid (psOf k (pre ++ [x]) = psOf k pre ++ [⟨rfB x.1, x.2⟩]) := by show _ = _; unfold psOf; rw [List.filter_append]; simp [hgd]
        clear hgd
        have hk' := hd hk
        clear hk
        obtain ⟨fn, tmps, assign, body, hy, hR⟩ := hY.out _ ⟨rfB x.1, x.2⟩ W HJ1.out HN.out
        gi_wp2_with fail
        refine (round_any hR).mono ?_
        rintro e W3 ⟨rfl, hJ3, hk3⟩
        have HW3 : Hid (PyJ J W0.heap.size bk fb l0 k (pre ++ [x]) W3) := by
          obtain ⟨p1, p2, p3, p4, p5, p6⟩ := HP.out
          have q1 := hk3.fgn _ (by omega) (by omega) hf1
          have q2 := hk3.fgn _ hlt1 (by omega) hf2
          refine ⟨by rw [HF.out]; exact hJ3, q1.1.trans p2, hk3.kb.trans p3, by rw [q2.1]; exact p4, q1.2, q2.2⟩
        have HKF : Hid (KF n₀ (W0.heap.size + 1) W W3) := ⟨hk3.bel, hk3.fr, (hk3.fgn _ hlt1 (by omega) hf2).1⟩
        have HKO : Hid (KeepsFrom Wb.heap.size W W3) := ⟨hk3.bel.size, fun j o hB hj ho => hk3.oth j o (by omega) hj ho⟩
        gi_wp2
        exact ⟨HKO.out, HKF.out, HW3.out⟩
      · have hne : (((rfK x.1 : Nat) : Int) == k) = false := by rw [beq_eq_false_iff_ne]; exact hk
        have hgd : gd k x.1 = false := by unfold gd; rw [hok, hne]; rfl
        have HF : Hid (psOf k (pre ++ [x]) = psOf k pre) := by show _ = _; unfold psOf; rw [List.filter_append]; simp [hgd]
        clear hgd
        have hk' := hd hk
        clear hk
        gi_wp2_with fail
        refine ⟨fun _ h => (by cases h), ?_⟩
        gi_wp2
        exact ⟨KeepsFrom.refl _ _, KF.refl _ _ _, by unfold PyJ; rw [HF.out]; exact HP.out⟩
  case done =>
    rintro D ys W hD hys hI hK
    gi_wp2
    refine ⟨by simp, .inl ⟨_, _, rfl, run_takeDeferred hK, ?_⟩⟩
    exact ⟨_, results_none rfl _ _ _, ⟨_, rfl⟩, _, ((psOf_val k ys).trans (by rw [hys])).trans HSV.out.symm, hJ _ _ _ (some D) hI.1 (grownBy_putObj' W D (.deferred none)) (fun r e => by cases e; exact ⟨by omega, _, hK, rfl⟩)⟩
  case stop =>
    rintro D c pre W _ _ h _
    exact h.elim
end Go.Proofs.YtgmfjninimebmaaGreatDoor
