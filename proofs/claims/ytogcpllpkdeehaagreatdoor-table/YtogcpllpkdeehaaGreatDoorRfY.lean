import Derived.Test.YtogcpllpkdeehaaGreatDoorRfF
namespace Go.Proofs.YtogcpllpkdeehaaGreatDoor
open Go.RowKit Go.Maps
set_option linter.unusedVariables false
set_option linter.unusedSimpArgs false

theorem pagesL_take (s : ByteArray) (F c : Nat) (h : c ≤ (s.size - F) / 64) : (pagesL s F).take c = (List.range c).map (pageAt s F) := by
  unfold pagesL
  rw [← List.map_take, List.take_range, Nat.min_eq_left h]
theorem page_data (s : ByteArray) (F k : Nat) (h : F + 64 * k + 64 ≤ s.size) : (pageAt s F k).1.data.toList = (s.data.toList.drop (F + 64 * k)).take 64 := by
  unfold pageAt
  rw [dif_pos h]
  exact ext_data s _ 64
theorem cont_range (s : ByteArray) (F c : Nat) (h : F + 64 * c ≤ s.size) : cont ((List.range c).map (pageAt s F)) = content s.data.toList F c := by
  induction c with
  | zero => rfl
  | succ c ih =>
    rw [List.range_succ, List.map_append, content_succ _ _ _ (by rw [len_data]; exact h), ← ih (by omega)]
    have e : (pageAt s F c).1.data.toList.drop 1 = (s.data.toList.drop (F + 64 * c + 1)).take 63 := by
      rw [page_data s F c (by omega), List.drop_take, List.drop_drop]
    simp only [cont, List.flatMap_append, List.map_cons, List.map_nil, List.flatMap_cons, List.flatMap_nil, List.append_nil, e]
theorem lead0_page (s : ByteArray) (F k : Nat) (h : F + 64 * k + 64 ≤ s.size) : lead0 (pageAt s F k) = s.data.toList.getD (F + k * 64) 0 := by
  unfold lead0
  rw [page_data s F k h]
  simp only [List.getD]
  rw [List.getElem?_take_of_lt (by omega), List.getElem?_drop, show F + 64 * k + 0 = F + k * 64 by omega]
theorem good_range (s : ByteArray) (F c : Nat) (h : F + 64 * c ≤ s.size) : good ((List.range c).map (pageAt s F)) ↔ marks s.data.toList F c = true := by
  rw [marks_iff]
  constructor
  · intro hg i h1 h2
    rw [← lead0_page s F i (by omega)]
    refine hg _ ?_
    rw [List.mem_iff_getElem]
    refine ⟨i - 1, by simp; omega, ?_⟩
    simp [Nat.sub_add_cancel h1]
  · intro hm x hx
    rw [List.mem_iff_getElem] at hx
    obtain ⟨i, hi, rfl⟩ := hx
    simp at hi
    simp only [List.getElem_drop, List.getElem_map, List.getElem_range]
    rw [lead0_page s F _ (by omega)]
    exact hm _ (by omega) (by omega)
theorem fcOut_iff (s : ByteArray) (F c : Nat) (hF : F ≤ s.size) : fcOut c (pagesL s F) ↔ (F + 64 * c ≤ s.size ∧ marks s.data.toList F c = true) := by
  have hl : (pagesL s F).length = (s.size - F) / 64 := by simp [pagesL]
  unfold fcOut
  rw [hl]
  constructor
  · rintro ⟨h1, h2⟩
    rw [pagesL_take s F c h1, good_range s F c (by omega)] at h2
    exact ⟨by omega, h2⟩
  · rintro ⟨h1, h2⟩
    refine ⟨by omega, ?_⟩
    rw [pagesL_take s F c (by omega), good_range s F c h1]
    exact h2
theorem fc_text (s : ByteArray) (F c : Nat) (h : F + 64 * c ≤ s.size) : cont ((pagesL s F).take c) = content s.data.toList F c := by
  rw [pagesL_take s F c (by omega), cont_range s F c h]
end Go.Proofs.YtogcpllpkdeehaaGreatDoor
namespace Go.Proofs.YtogcpllpkdeehaaGreatDoor
open Go.RowKit Go.Maps
set_option linter.unusedVariables false
set_option linter.unusedSimpArgs false

theorem below_drewN {B n : Nat} {a w : World} (h : Below B a w) : Below B a (w.drewN n) := h.trans ⟨rfl, rfl, rfl, Nat.le_refl _, fun _ _ => rfl⟩
theorem dw_nil (l : List UInt8) : l.dropWhile (· == 0) = [] ↔ ∀ x ∈ l, x = 0 := by
  induction l with
  | nil => simp
  | cons a r ih =>
    by_cases h : a = 0
    · subst h; simp [List.dropWhile_cons, ih]
    · simp [List.dropWhile_cons, h]
theorem dw_all (l : List UInt8) (h : ∀ x ∈ l.dropWhile (· == 0), x = 0) : ∀ x ∈ l, x = 0 := by
  induction l with
  | nil => simp
  | cons a r ih =>
    by_cases ha : a = 0
    · subst ha
      simp only [List.dropWhile_cons, beq_self_eq_true, if_true] at h
      intro x hx
      rcases List.mem_cons.1 hx with rfl | hx
      · rfl
      · exact ih h x hx
    · have : (a :: r).dropWhile (· == 0) = a :: r := by simp [List.dropWhile_cons, ha]
      rw [this] at h
      exact h
theorem trim_nil (l : List UInt8) : Lib.trimB l 0 = [] ↔ ∀ x ∈ l, x = 0 := by
  unfold Lib.trimB Lib.trimLeftB Lib.trimRightB
  rw [dw_nil]
  constructor
  · intro h x hx
    exact dw_all l.reverse (fun y hy => h y (List.mem_reverse.2 hy)) x (List.mem_reverse.2 hx)
  · intro h x hx
    exact h x (List.mem_reverse.1 ((List.dropWhile_sublist _).subset (List.mem_reverse.1 hx)))

set_option maxRecDepth 100000 in
set_option maxHeartbeats 4000000 in
theorem implRead_any (s : ByteArray) (page : Int) (w : World) (hs : s.size ≤ 1048576) (ht : Steps w) :
    Calls Tryz.prog 58 #[.string s, .int .i64 page] w fun e w' => e = .returned (rfV (rf s page)) ∧ Below w.heap.size w w' := by
  generalize hR : rf s page = R
  have HR : Hid (rf s page = R) := hR
  clear hR
  by_cases hin : 0 ≤ page ∧ page.toNat * 64 + 64 ≤ s.size
  · obtain ⟨p, rfl⟩ : ∃ p : Nat, page = p := ⟨page.toNat, by omega⟩
    have hp : p * 64 + 64 ≤ s.size := by simpa using hin.2
    have HRA : Hid (R = rfAt s.data.toList p) := by show _ = _; rw [← HR.out, rf, if_pos hin]; rfl
    have a1 : ¬ (p : Int) < 0 := by omega
    have a2 : ¬ (s.size : Int) / 64 ≤ p := by omega
    have a4 : (p : Int) * 64 ≤ s.size := by omega
    have a5 : (0 : Int) ≤ (p : Int) * 64 := by omega
    clear hin
    go_enter Tryz.func58, Tryz.ntmps58
    go_wp2_with fail
    have e0 : (s.extract (p * 64) s.size).data.toList = s.data.toList.drop (p * 64) := rest_data s (p * 64)
    have e1 : (s.extract (p * 64) s.size).size = s.size - p * 64 := by simp only [ByteArray.size_extract]; omega
    generalize s.extract (p * 64) s.size = hT at *
    have q0 : 0 < hT.size := by omega
    have q1 : (1 : Int) ≤ hT.size := by omega
    have q2 : 1 ≤ hT.size := by omega
    have HK : Hid (hT[0] = s.data.toList.getD (p * 64) 0) := by show _ = _; rw [byte_get hT 0 q0, e0, getD_drop]; rfl
    have hbyt := hT[0].toNat_lt
    have hwk : IntKind.i64.wrap (hT[0].toNat : Int) = hT[0].toNat := by rw [IntKind.wrap_i64]; omega
    have HW : Hid (lead (hT.extract 1 hT.size) = word s.data.toList (p * 64) 0) := by
      show _ = _
      unfold lead word cb
      rw [rest_data hT 1, e0, List.drop_drop]
      simp only [getD_drop]
    have HG : Hid (∀ w, Calls Tryz.prog 73 #[.string (hT.extract 1 hT.size)] w fun e w' => e = .returned (.int .i64 (lead (hT.extract 1 hT.size) : Nat)) ∧ Below w.heap.size w w') := fun w => getWord_any _ w (by simp only [ByteArray.size_extract]; omega) (by simp only [ByteArray.size_extract]; omega)
    rw [HW.out] at HG
    have hnl : word s.data.toList (p * 64) 0 < 4294967296 := le4_lt _ _ _ _
    generalize hn : word s.data.toList (p * 64) 0 = n at *
    replace hn := hd hn
    replace e0 := hd e0
    replace e1 := hd e1
    have hx0 : (w.alloc (.cells #[.bool false, .int .i64 0, .string ⟨#[]⟩, .int .i64 0] 65)).heap[w.heap.size]? = some (.cells #[.bool false, .int .i64 0, .string ⟨#[]⟩, .int .i64 0] 65 (0, 0)) := World.heap_alloc_new _ _
    have hb0 : Below w.heap.size w (w.alloc (.cells #[.bool false, .int .i64 0, .string ⟨#[]⟩, .int .i64 0] 65)) := (Below.refl _ _).alloc (Nat.le_refl _) _
    generalize w.alloc (.cells #[.bool false, .int .i64 0, .string ⟨#[]⟩, .int .i64 0] 65) = w0 at *
    go_region_held3 (fun _ => True) (simp [go_sem, *]) (first | (go_at_call 73; refine (HG.out _).mono ?_; rintro e w1 ⟨rfl, hb1⟩))
    all_goals (
      have hx1 := (hb1.block w.heap.size (heap_lt hx0)).trans hx0
      have hbw1 : Below w.heap.size w w1 := hb0.drew.trans (hb1.mono hb0.size)
      clear hb1 hx0 hb0
      have hlt1 := heap_lt hx1
      go_wp2_with fail
      refine (isKind_any _ _).mono ?_
      rintro e w2 ⟨rfl, hw2⟩
      have hw2' := hw2.symm
      subst hw2'
      obtain ⟨⟨b0, b1, b2, b3⟩, z0, z1, z2, z3⟩ := four_cells hx1
      cases hk : kindOk (hT[0].toNat : Int) with
      | false =>
        have hRn : R = none := by rw [HRA.out]; refine rfAt_none ?_; rintro ⟨h, -⟩; rw [← HK.out, hk] at h; cases h
        subst hRn
        go_wp2_with fail
        refine bodyPost_ret (v := rfV none) (by simp [results, Tryz.results58, go_sem, rfV, *]; try rfl) rfl ⟨rfl, (((hbw1.setCell (Nat.le_refl _) _).setCell (Nat.le_refl _) _).setCell (Nat.le_refl _) _).setCell (Nat.le_refl _) _⟩
      | true =>
        by_cases hn1 : n ≤ 1048576
        · have b5d : decide ((1048576 : Int) < n) = false := by rw [decide_eq_false_iff_not]; omega
          go_wp2_with fail
          refine (pages_any n _ (by omega)).mono ?_
          rintro e w3 ⟨rfl, hw3⟩
          have hw3' := hw3.symm
          subst hw3'
          have hP1 : 1 ≤ pagesN (8 + n) := by unfold pagesN; omega
          have hPb : pagesN (8 + n) ≤ 70000000 := by unfold pagesN; omega
          have hPn : 8 + n ≤ 63 * pagesN (8 + n) := pages_ge _
          generalize hP : pagesN (8 + n) = P at *
          replace hP := hd hP
          go_wp2_with fail
          refine (frameContent_any s p P _ hp hs hP1 hPb).mono ?_
          rintro e w4 ⟨hcase, hb4⟩
          have hx4 := (hb4.block w.heap.size hlt1).trans hx1
          have hbw4 := hbw1.trans (hb4.mono hbw1.size)
          have ht4 : Hid (Steps w4) := ht.below hbw4
          clear b0 b1 b2 b3 z0 z1 z2 z3
          obtain ⟨⟨b0, b1, b2, b3⟩, z0, z1, z2, z3⟩ := four_cells hx4
          have hlt4 := heap_lt hx4
          rcases hcase with ⟨hfc, rfl⟩ | ⟨hfc, rfl⟩
          · rw [fcOut_iff s (p * 64) P (by omega)] at hfc
            obtain ⟨g1, g2⟩ := hfc
            rw [fc_text s (p * 64) P g1]
            have hTz : (⟨(content s.data.toList (p * 64) P).toArray⟩ : ByteArray).size = 63 * P := by show ((content s.data.toList (p * 64) P).toArray).size = _; simp [content_len]
            have hTd : (⟨(content s.data.toList (p * 64) P).toArray⟩ : ByteArray).data.toList = content s.data.toList (p * 64) P := rfl
            generalize (⟨(content s.data.toList (p * 64) P).toArray⟩ : ByteArray) = T at *
            have s1 : (8 : Int) ≤ 8 + (n : Int) := by omega
            have s2 : (8 : Int) + (n : Int) ≤ T.size := by omega
            have s3 : (4 : Int) ≤ T.size := by omega
            have s4 : 4 ≤ T.size := by omega
            replace hTd := hd hTd
            replace hTz := hd hTz
            have hw8 : IntKind.i64.wrap (8 + (n : Int)) = 8 + (n : Int) := by rw [IntKind.wrap_i64]; omega
            have s5 : (0 : Int) ≤ 8 + (n : Int) := by omega
            have HV4 : Hid (lead (T.extract 4 T.size) = word s.data.toList (p * 64) 4) := by
              show _ = _
              unfold lead
              rw [rest_data T 4, hTd.out]
              simp only [getD_drop]
              exact content_word s.data.toList (p * 64) P 4 (by omega)
            have HPT : Hid ((T.extract 8 (8 + n)).data.toList = pay s.data.toList (p * 64) n) := by show _ = _; rw [ext_data, hTd.out, content_pay _ _ _ _ (by omega)]
            have HPS : Hid ((T.extract 8 (8 + n)).size = n) := by show _ = _; have := hTz.out; simp only [ByteArray.size_extract]; omega
            have HRT : Hid ((T.extract (8 + n) T.size).data.toList = (content s.data.toList (p * 64) P).drop (8 + n)) := by show _ = _; rw [rest_data, hTd.out]
            have HRS : Hid ((T.extract (8 + n) T.size).size ≤ 4410000000) := by show _ ≤ _; have := hTz.out; simp only [ByteArray.size_extract]; omega
            have HES : Hid (4 ≤ (T.extract 4 T.size).size ∧ (T.extract 4 T.size).size ≤ 1048576) := by show _ ∧ _; have := hTz.out; simp only [ByteArray.size_extract]; omega
            have HRR : Hid (R = if word s.data.toList (p * 64) 4 = crc (hT[0] :: pay s.data.toList (p * 64) n) ∧ zeros s.data.toList (p * 64) (8 + n) (63 * P) = true then some (hT[0].toNat, pay s.data.toList (p * 64) n, p + P) else none) := by
              show _ = _
              rw [HRA.out]
              unfold rfAt
              rw [hn.out, hP.out, ← HK.out]
              by_cases hh : word s.data.toList (p * 64) 4 = crc (hT[0] :: pay s.data.toList (p * 64) n) ∧ zeros s.data.toList (p * 64) (8 + n) (63 * P) = true
              · rw [if_pos hh, if_pos ⟨hk, hn1, by rw [len_data]; exact g1, g2, hh.1, hh.2⟩]
              · rw [if_neg hh, if_neg]
                rintro ⟨-, -, -, -, h5, h6⟩
                exact hh ⟨h5, h6⟩
            go_wp2_with fail
            go_quiet (fail)
            go_wp2_with fail
            refine (getWord_any (T.extract 4 T.size) _ HES.out.1 HES.out.2).mono ?_
            rintro e w6 ⟨rfl, hb6⟩
            rw [HV4.out]
            have hx6 := (hb6.block w.heap.size hlt4).trans hx4
            have hbw6 : Below w.heap.size w w6 := (below_drewN hbw4).trans (hb6.mono hbw4.size)
            clear hb6 b0 b1 b2 b3 z0 z1 z2 z3
            go_wp2_with fail
            refine (frameCrc_any hT[0].toNat (T.extract 8 (8 + n)) _ (by omega) (by rw [HPS.out]; exact hn1) (ht.below hbw6)).mono ?_
            rintro e w7 ⟨rfl, hb7⟩
            rw [HPT.out, show UInt8.ofNat hT[0].toNat = hT[0] by simp]
            have hx7 := (hb7.block w.heap.size (heap_lt hx6)).trans hx6
            have hbw7 := hbw6.trans (hb7.mono hbw6.size)
            obtain ⟨⟨b0, b1, b2, b3⟩, z0, z1, z2, z3⟩ := four_cells hx7
            have hlt7 := heap_lt hx7
            clear hb7 hx6 hbw6 HV4 HES
            by_cases hcr : word s.data.toList (p * 64) 4 = crc (hT[0] :: pay s.data.toList (p * 64) n)
            · have hq : (((word s.data.toList (p * 64) 4 : Nat) : Int) != ((crc (hT[0] :: pay s.data.toList (p * 64) n) : Nat) : Int)) = false := by rw [hcr]; simp
              generalize crc (hT[0] :: pay s.data.toList (p * 64) n) = CR at *
              generalize word s.data.toList (p * 64) 4 = V4 at *
              replace hcr := hd hcr
              go_wp2_with fail
              refine (Tryz.strings_Trim_one (T.extract (8 + n) T.size) 0 (by decide) _ (by have := HRS.out; omega)).mono ?_
              rintro e w8 ⟨rfl, hw8⟩
              have hb8 : Below w7.heap.size w7 w8 := by
                rcases hw8 with rfl | rfl
                · exact Below.refl _ _
                · exact (Below.refl _ _).drew
              have hx8 := (hb8.block w.heap.size hlt7).trans hx7
              have hbw8 := hbw7.trans (hb8.mono hbw7.size)
              clear hw8 hb8 b0 b1 b2 b3 z0 z1 z2 z3
              obtain ⟨⟨b0, b1, b2, b3⟩, z0, z1, z2, z3⟩ := four_cells hx8
              have hlt8 := heap_lt hx8
              have HZ : Hid (Lib.trimB (T.extract (8 + n) T.size).data.toList 0 = [] ↔ zeros s.data.toList (p * 64) (8 + n) (63 * P) = true) := by show _ ↔ _; rw [trim_nil, HRT.out, content_zeros _ _ _ _ hPn]
              generalize Lib.trimB (T.extract (8 + n) T.size).data.toList 0 = TL at *
              by_cases hzz : TL = []
              · have hRs : Hid (R = some (hT[0].toNat, pay s.data.toList (p * 64) n, p + P)) := by show _ = _; rw [HRR.out, if_pos ⟨hcr.out, HZ.out.1 hzz⟩]
                have HPB : Hid (T.extract 8 (8 + n) = ⟨(pay s.data.toList (p * 64) n).toArray⟩) := ba_ext HPT.out
                subst hzz
                go_wp2_with fail
                refine bodyPost_ret (v := .agg #[.bool true, .int .i64 (hT[0].toNat : Int), .string (T.extract 8 (8 + n)), .int .i64 ((p : Int) + P)]) (by simp [results, Tryz.results58, go_sem, *]; try rfl) rfl ⟨by rw [hRs.out, HPB.out]; rfl, (((hbw8.setCell (Nat.le_refl _) _).setCell (Nat.le_refl _) _).setCell (Nat.le_refl _) _).setCell (Nat.le_refl _) _⟩
              · have hRn : R = none := by rw [HRR.out, if_neg]; exact fun h => hzz (HZ.out.2 h.2)
                subst hRn
                obtain ⟨t0, tr, rfl⟩ : ∃ a r, TL = a :: r := by
                  cases TL with
                  | nil => exact absurd rfl hzz
                  | cons a r => exact ⟨a, r, rfl⟩
                go_wp2_with fail
                refine bodyPost_ret (v := rfV none) (by simp [results, Tryz.results58, go_sem, rfV, *]; try rfl) rfl ⟨rfl, (((hbw8.setCell (Nat.le_refl _) _).setCell (Nat.le_refl _) _).setCell (Nat.le_refl _) _).setCell (Nat.le_refl _) _⟩
            · have hq : (((word s.data.toList (p * 64) 4 : Nat) : Int) != ((crc (hT[0] :: pay s.data.toList (p * 64) n) : Nat) : Int)) = true := by rw [bne_iff_ne]; omega
              have hRn : R = none := by rw [HRR.out, if_neg]; exact fun h => hcr h.1
              subst hRn
              generalize crc (hT[0] :: pay s.data.toList (p * 64) n) = CR at *
              generalize word s.data.toList (p * 64) 4 = V4 at *
              replace hcr := hd hcr
              go_wp2_with fail
              refine bodyPost_ret (v := rfV none) (by simp [results, Tryz.results58, go_sem, rfV, *]; try rfl) rfl ⟨rfl, (((hbw7.setCell (Nat.le_refl _) _).setCell (Nat.le_refl _) _).setCell (Nat.le_refl _) _).setCell (Nat.le_refl _) _⟩
          · rw [fcOut_iff s (p * 64) P (by omega)] at hfc
            have hRn : R = none := by rw [HRA.out]; refine rfAt_none ?_; rintro ⟨-, -, h3, h4⟩; rw [hn.out, hP.out] at h3 h4; rw [len_data] at h3; exact hfc ⟨h3, h4⟩
            subst hRn
            go_wp2_with fail
            refine bodyPost_ret (v := rfV none) (by simp [results, Tryz.results58, go_sem, rfV, *]; try rfl) rfl ⟨rfl, (((hbw4.setCell (Nat.le_refl _) _).setCell (Nat.le_refl _) _).setCell (Nat.le_refl _) _).setCell (Nat.le_refl _) _⟩
        · have b5d : decide ((1048576 : Int) < n) = true := by rw [decide_eq_true_iff]; omega
          have hRn : R = none := by rw [HRA.out]; refine rfAt_none ?_; rintro ⟨-, h, -⟩; rw [hn.out] at h; exact hn1 h
          subst hRn
          go_wp2_with fail
          refine bodyPost_ret (v := rfV none) (by simp [results, Tryz.results58, go_sem, rfV, *]; try rfl) rfl ⟨rfl, (((hbw1.setCell (Nat.le_refl _) _).setCell (Nat.le_refl _) _).setCell (Nat.le_refl _) _).setCell (Nat.le_refl _) _⟩)
  · have hRn : R = none := by rw [← HR.out, rf, if_neg hin]
    subst hRn
    by_cases c1 : page < 0
    · go_enter Tryz.func58, Tryz.ntmps58
      go_wp2_with fail
      refine bodyPost_ret (v := rfV none) (by simp [results, Tryz.results58, go_sem, rfV, *]; try rfl) rfl ⟨rfl, (Below.refl w.heap.size w).alloc (Nat.le_refl _) _⟩
    · have c3 : (s.size : Int) / 64 ≤ page := by omega
      go_enter Tryz.func58, Tryz.ntmps58
      go_wp2_with fail
      refine bodyPost_ret (v := rfV none) (by simp [results, Tryz.results58, go_sem, rfV, *]; try rfl) rfl ⟨rfl, (Below.refl w.heap.size w).alloc (Nat.le_refl _) _⟩
end Go.Proofs.YtogcpllpkdeehaaGreatDoor
