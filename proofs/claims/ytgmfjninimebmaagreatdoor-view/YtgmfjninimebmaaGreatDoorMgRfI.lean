import Derived.Test.YtgmfjninimebmaaGreatDoorMgRfP
namespace Go.Proofs.YtgmfjninimebmaaGreatDoor
open Go.RowKit Go.Maps
set_option linter.unusedVariables false
set_option linter.unusedSimpArgs false

theorem below_drewN {B n : Nat} {a w : World} (h : Below B a w) : Below B a (w.drewN n) := h.trans ⟨rfl, rfl, rfl, Nat.le_refl _, fun _ _ => rfl⟩
theorem dw_nil (l : List UInt8) : l.dropWhile (· == 0) = [] ↔ ∀ x ∈ l, x = 0 := by
  induction l with
  | nil => simp
  | cons a r ih =>
    by_cases h : a = 0
    · subst h; simp [List.dropWhile_cons, ih]
    · simp [List.dropWhile_cons, h]
theorem dw_all (l : List UInt8) (h : ∀ x ∈ l.dropWhile (· == 0), x = 0) : ∀ x ∈ l, x = 0 := by
  induction l with
  | nil => simp
  | cons a r ih =>
    by_cases ha : a = 0
    · subst ha
      simp only [List.dropWhile_cons, beq_self_eq_true, if_true] at h
      intro x hx
      rcases List.mem_cons.1 hx with rfl | hx
      · rfl
      · exact ih h x hx
    · have : (a :: r).dropWhile (· == 0) = a :: r := by simp [List.dropWhile_cons, ha]
      rw [this] at h
      exact h
theorem trim_nil (l : List UInt8) : Lib.trimB l 0 = [] ↔ ∀ x ∈ l, x = 0 := by
  unfold Lib.trimB Lib.trimLeftB Lib.trimRightB
  rw [dw_nil]
  constructor
  · intro h x hx
    exact dw_all l.reverse (fun y hy => h y (List.mem_reverse.2 hy)) x (List.mem_reverse.2 hx)
  · intro h x hx
    exact h x (List.mem_reverse.1 ((List.dropWhile_sublist _).subset (List.mem_reverse.1 hx)))

set_option maxRecDepth 100000 in
set_option maxHeartbeats 4000000 in
theorem implRead_any (s : ByteArray) (page : Int) (w : World) (hs : s.size ≤ 1048576) (ht : Steps w) :
    Calls Tryz.prog 45 #[.string s, .int .i64 page] w fun e w' => e = .returned (rfV (rf s page)) ∧ Below w.heap.size w w' := by
  generalize hR : rf s page = R
  have HR : Hid (rf s page = R) := hR
  clear hR
  by_cases hin : 0 ≤ page ∧ page.toNat * 64 + 64 ≤ s.size
  · obtain ⟨p, rfl⟩ : ∃ p : Nat, page = p := ⟨page.toNat, by omega⟩
    have hp : p * 64 + 64 ≤ s.size := by simpa using hin.2
    have HRA : Hid (R = rfAt s.data.toList p) := by show _ = _; rw [← HR.out, rf, if_pos hin]; rfl
    have a1 : ¬ (p : Int) < 0 := by omega
    have a2 : ¬ (s.size : Int) / 64 ≤ p := by omega
    have a4 : (p : Int) * 64 ≤ s.size := by omega
    have a5 : (0 : Int) ≤ (p : Int) * 64 := by omega
    clear hin
    go_enter Tryz.func45, Tryz.ntmps45
    go_wp2_with fail
    have e0 : (s.extract (p * 64) s.size).data.toList = s.data.toList.drop (p * 64) := rest_data s (p * 64)
    have e1 : (s.extract (p * 64) s.size).size = s.size - p * 64 := by simp only [ByteArray.size_extract]; omega
    generalize s.extract (p * 64) s.size = hT at *
    have q0 : 0 < hT.size := by omega
    have q1 : (1 : Int) ≤ hT.size := by omega
    have q2 : 1 ≤ hT.size := by omega
    have HK : Hid (hT[0] = s.data.toList.getD (p * 64) 0) := by show _ = _; rw [byte_get hT 0 q0, e0, getD_drop]; rfl
    have hbyt := hT[0].toNat_lt
    have hwk : IntKind.i64.wrap (hT[0].toNat : Int) = hT[0].toNat := by rw [IntKind.wrap_i64]; omega
    have HW : Hid (lead (hT.extract 1 hT.size) = word s.data.toList (p * 64) 0) := by
      show _ = _
      unfold lead word cb
      rw [rest_data hT 1, e0, List.drop_drop]
      simp only [getD_drop]
    have HG : Hid (∀ w, Calls Tryz.prog 69 #[.string (hT.extract 1 hT.size)] w fun e w' => e = .returned (.int .i64 (lead (hT.extract 1 hT.size) : Nat)) ∧ Below w.heap.size w w') := fun w => getWord_any _ w (by simp only [ByteArray.size_extract]; omega) (by simp only [ByteArray.size_extract]; omega)
    rw [HW.out] at HG
    have hnl : word s.data.toList (p * 64) 0 < 4294967296 := le4_lt _ _ _ _
    generalize hn : word s.data.toList (p * 64) 0 = n at *
    replace hn := hd hn
    replace e0 := hd e0
    replace e1 := hd e1
    have hx0 : (w.alloc (.cells #[.bool false, .int .i64 0, .string ⟨#[]⟩, .int .i64 0] 101)).heap[w.heap.size]? = some (.cells #[.bool false, .int .i64 0, .string ⟨#[]⟩, .int .i64 0] 101 (0, 0)) := World.heap_alloc_new _ _
    have hb0 : Below w.heap.size w (w.alloc (.cells #[.bool false, .int .i64 0, .string ⟨#[]⟩, .int .i64 0] 101)) := (Below.refl _ _).alloc (Nat.le_refl _) _
    generalize w.alloc (.cells #[.bool false, .int .i64 0, .string ⟨#[]⟩, .int .i64 0] 101) = w0 at *
    go_region_held3 (fun _ => True) (simp [go_sem, *]) (first | (go_at_call 69; refine (HG.out _).mono ?_; rintro e w1 ⟨rfl, hb1⟩))
    all_goals (
      have hx1 := (hb1.block w.heap.size (heap_lt hx0)).trans hx0
      have hbw1 : Below w.heap.size w w1 := hb0.drew.trans (hb1.mono hb0.size)
      clear hb1 hx0 hb0
      have hlt1 := heap_lt hx1
      go_wp2_with fail
      refine (isKind_any _ _).mono ?_
      rintro e w2 ⟨rfl, hw2⟩
      have hw2' := hw2.symm
      subst hw2'
      obtain ⟨⟨b0, b1, b2, b3⟩, z0, z1, z2, z3⟩ := four_cells hx1
      cases hk : kindOk (hT[0].toNat : Int) with
      | false =>
        have hRn : R = none := by rw [HRA.out]; refine rfAt_none ?_; rintro ⟨h, -⟩; rw [← HK.out, hk] at h; cases h
        subst hRn
        go_wp2_with fail
        refine bodyPost_ret (v := rfV none) (by simp [results, Tryz.results45, go_sem, rfV, *]; try rfl) rfl ⟨rfl, (((hbw1.setCell (Nat.le_refl _) _).setCell (Nat.le_refl _) _).setCell (Nat.le_refl _) _).setCell (Nat.le_refl _) _⟩
      | true =>
        by_cases hn1 : n ≤ 1048576
        · have b5d : decide ((1048576 : Int) < n) = false := by rw [decide_eq_false_iff_not]; omega
          go_wp2_with fail
          refine (pages_any n _ (by omega)).mono ?_
          rintro e w3 ⟨rfl, hw3⟩
          have hw3' := hw3.symm
          subst hw3'
          have hP1 : 1 ≤ pagesN (8 + n) := by unfold pagesN; omega
          have hPb : pagesN (8 + n) ≤ 70000000 := by unfold pagesN; omega
          have hPn : 8 + n ≤ 63 * pagesN (8 + n) := pages_ge _
          generalize hP : pagesN (8 + n) = P at *
          replace hP := hd hP
          go_wp2_with fail
          refine (frameContent_any s p P _ hp hs hP1 hPb).mono ?_
          rintro e w4 ⟨hcase, hb4⟩
          have hx4 := (hb4.block w.heap.size hlt1).trans hx1
          have hbw4 := hbw1.trans (hb4.mono hbw1.size)
          have ht4 : Hid (Steps w4) := ht.below hbw4
          clear b0 b1 b2 b3 z0 z1 z2 z3
          obtain ⟨⟨b0, b1, b2, b3⟩, z0, z1, z2, z3⟩ := four_cells hx4
          have hlt4 := heap_lt hx4
          rcases hcase with ⟨hfc, rfl⟩ | ⟨hfc, rfl⟩
          · rw [fcOut_iff s (p * 64) P (by omega)] at hfc
            obtain ⟨g1, g2⟩ := hfc
            rw [fc_text s (p * 64) P g1]
            have hTz : (⟨(content s.data.toList (p * 64) P).toArray⟩ : ByteArray).size = 63 * P := by show ((content s.data.toList (p * 64) P).toArray).size = _; simp [content_len]
            have hTd : (⟨(content s.data.toList (p * 64) P).toArray⟩ : ByteArray).data.toList = content s.data.toList (p * 64) P := rfl
            generalize (⟨(content s.data.toList (p * 64) P).toArray⟩ : ByteArray) = T at *
            have s1 : (8 : Int) ≤ 8 + (n : Int) := by omega
            have s2 : (8 : Int) + (n : Int) ≤ T.size := by omega
            have s3 : (4 : Int) ≤ T.size := by omega
            have s4 : 4 ≤ T.size := by omega
            replace hTd := hd hTd
            replace hTz := hd hTz
            have hw8 : IntKind.i64.wrap (8 + (n : Int)) = 8 + (n : Int) := by rw [IntKind.wrap_i64]; omega
            have s5 : (0 : Int) ≤ 8 + (n : Int) := by omega
            have HV4 : Hid (lead (T.extract 4 T.size) = word s.data.toList (p * 64) 4) := by
              show _ = _
              unfold lead
              rw [rest_data T 4, hTd.out]
              simp only [getD_drop]
              exact content_word s.data.toList (p * 64) P 4 (by omega)
            have HPT : Hid ((T.extract 8 (8 + n)).data.toList = pay s.data.toList (p * 64) n) := by show _ = _; rw [ext_data, hTd.out, content_pay _ _ _ _ (by omega)]
            have HPS : Hid ((T.extract 8 (8 + n)).size = n) := by show _ = _; have := hTz.out; simp only [ByteArray.size_extract]; omega
            have HRT : Hid ((T.extract (8 + n) T.size).data.toList = (content s.data.toList (p * 64) P).drop (8 + n)) := by show _ = _; rw [rest_data, hTd.out]
            have HRS : Hid ((T.extract (8 + n) T.size).size ≤ 4410000000) := by show _ ≤ _; have := hTz.out; simp only [ByteArray.size_extract]; omega
            have HES : Hid (4 ≤ (T.extract 4 T.size).size ∧ (T.extract 4 T.size).size ≤ 1048576) := by show _ ∧ _; have := hTz.out; simp only [ByteArray.size_extract]; omega
            have HRR : Hid (R = if word s.data.toList (p * 64) 4 = crc (hT[0] :: pay s.data.toList (p * 64) n) ∧ zeros s.data.toList (p * 64) (8 + n) (63 * P) = true then some (hT[0].toNat, pay s.data.toList (p * 64) n, p + P) else none) := by
              show _ = _
              rw [HRA.out]
              unfold rfAt
              rw [hn.out, hP.out, ← HK.out]
              by_cases hh : word s.data.toList (p * 64) 4 = crc (hT[0] :: pay s.data.toList (p * 64) n) ∧ zeros s.data.toList (p * 64) (8 + n) (63 * P) = true
              · rw [if_pos hh, if_pos ⟨hk, hn1, by rw [len_data]; exact g1, g2, hh.1, hh.2⟩]
              · rw [if_neg hh, if_neg]
                rintro ⟨-, -, -, -, h5, h6⟩
                exact hh ⟨h5, h6⟩
            go_wp2_with fail
            go_quiet (fail)
            go_wp2_with fail
            refine (getWord_any (T.extract 4 T.size) _ HES.out.1 HES.out.2).mono ?_
            rintro e w6 ⟨rfl, hb6⟩
            rw [HV4.out]
            have hx6 := (hb6.block w.heap.size hlt4).trans hx4
            have hbw6 : Below w.heap.size w w6 := (below_drewN hbw4).trans (hb6.mono hbw4.size)
            clear hb6 b0 b1 b2 b3 z0 z1 z2 z3
            go_wp2_with fail
            refine (frameCrc_any hT[0].toNat (T.extract 8 (8 + n)) _ (by omega) (by rw [HPS.out]; exact hn1) (ht.below hbw6)).mono ?_
            rintro e w7 ⟨rfl, hb7⟩
            rw [HPT.out, show UInt8.ofNat hT[0].toNat = hT[0] by simp]
            have hx7 := (hb7.block w.heap.size (heap_lt hx6)).trans hx6
            have hbw7 := hbw6.trans (hb7.mono hbw6.size)
            obtain ⟨⟨b0, b1, b2, b3⟩, z0, z1, z2, z3⟩ := four_cells hx7
            have hlt7 := heap_lt hx7
            clear hb7 hx6 hbw6 HV4 HES
            by_cases hcr : word s.data.toList (p * 64) 4 = crc (hT[0] :: pay s.data.toList (p * 64) n)
            · have hq : (((word s.data.toList (p * 64) 4 : Nat) : Int) != ((crc (hT[0] :: pay s.data.toList (p * 64) n) : Nat) : Int)) = false := by rw [hcr]; simp
              generalize crc (hT[0] :: pay s.data.toList (p * 64) n) = CR at *
              generalize word s.data.toList (p * 64) 4 = V4 at *
              replace hcr := hd hcr
              go_wp2_with fail
              refine (Tryz.strings_Trim_one (T.extract (8 + n) T.size) 0 (by decide) _ (by have := HRS.out; omega)).mono ?_
              rintro e w8 ⟨rfl, hw8⟩
              have hb8 : Below w7.heap.size w7 w8 := by
                rcases hw8 with rfl | rfl
                · exact Below.refl _ _
                · exact (Below.refl _ _).drew
              have hx8 := (hb8.block w.heap.size hlt7).trans hx7
              have hbw8 := hbw7.trans (hb8.mono hbw7.size)
              clear hw8 hb8 b0 b1 b2 b3 z0 z1 z2 z3
              obtain ⟨⟨b0, b1, b2, b3⟩, z0, z1, z2, z3⟩ := four_cells hx8
              have hlt8 := heap_lt hx8
              have HZ : Hid (Lib.trimB (T.extract (8 + n) T.size).data.toList 0 = [] ↔ zeros s.data.toList (p * 64) (8 + n) (63 * P) = true) := by show _ ↔ _; rw [trim_nil, HRT.out, content_zeros _ _ _ _ hPn]
              generalize Lib.trimB (T.extract (8 + n) T.size).data.toList 0 = TL at *
              by_cases hzz : TL = []
              · have hRs : Hid (R = some (hT[0].toNat, pay s.data.toList (p * 64) n, p + P)) := by show _ = _; rw [HRR.out, if_pos ⟨hcr.out, HZ.out.1 hzz⟩]
                have HPB : Hid (T.extract 8 (8 + n) = ⟨(pay s.data.toList (p * 64) n).toArray⟩) := ba_ext HPT.out
                subst hzz
                go_wp2_with fail
                refine bodyPost_ret (v := .agg #[.bool true, .int .i64 (hT[0].toNat : Int), .string (T.extract 8 (8 + n)), .int .i64 ((p : Int) + P)]) (by simp [results, Tryz.results45, go_sem, *]; try rfl) rfl ⟨by rw [hRs.out, HPB.out]; rfl, (((hbw8.setCell (Nat.le_refl _) _).setCell (Nat.le_refl _) _).setCell (Nat.le_refl _) _).setCell (Nat.le_refl _) _⟩
              · have hRn : R = none := by rw [HRR.out, if_neg]; exact fun h => hzz (HZ.out.2 h.2)
                subst hRn
                obtain ⟨t0, tr, rfl⟩ : ∃ a r, TL = a :: r := by
                  cases TL with
                  | nil => exact absurd rfl hzz
                  | cons a r => exact ⟨a, r, rfl⟩
                go_wp2_with fail
                refine bodyPost_ret (v := rfV none) (by simp [results, Tryz.results45, go_sem, rfV, *]; try rfl) rfl ⟨rfl, (((hbw8.setCell (Nat.le_refl _) _).setCell (Nat.le_refl _) _).setCell (Nat.le_refl _) _).setCell (Nat.le_refl _) _⟩
            · have hq : (((word s.data.toList (p * 64) 4 : Nat) : Int) != ((crc (hT[0] :: pay s.data.toList (p * 64) n) : Nat) : Int)) = true := by rw [bne_iff_ne]; omega
              have hRn : R = none := by rw [HRR.out, if_neg]; exact fun h => hcr h.1
              subst hRn
              generalize crc (hT[0] :: pay s.data.toList (p * 64) n) = CR at *
              generalize word s.data.toList (p * 64) 4 = V4 at *
              replace hcr := hd hcr
              go_wp2_with fail
              refine bodyPost_ret (v := rfV none) (by simp [results, Tryz.results45, go_sem, rfV, *]; try rfl) rfl ⟨rfl, (((hbw7.setCell (Nat.le_refl _) _).setCell (Nat.le_refl _) _).setCell (Nat.le_refl _) _).setCell (Nat.le_refl _) _⟩
          · rw [fcOut_iff s (p * 64) P (by omega)] at hfc
            have hRn : R = none := by rw [HRA.out]; refine rfAt_none ?_; rintro ⟨-, -, h3, h4⟩; rw [hn.out, hP.out] at h3 h4; rw [len_data] at h3; exact hfc ⟨h3, h4⟩
            subst hRn
            go_wp2_with fail
            refine bodyPost_ret (v := rfV none) (by simp [results, Tryz.results45, go_sem, rfV, *]; try rfl) rfl ⟨rfl, (((hbw4.setCell (Nat.le_refl _) _).setCell (Nat.le_refl _) _).setCell (Nat.le_refl _) _).setCell (Nat.le_refl _) _⟩
        · have b5d : decide ((1048576 : Int) < n) = true := by rw [decide_eq_true_iff]; omega
          have hRn : R = none := by rw [HRA.out]; refine rfAt_none ?_; rintro ⟨-, h, -⟩; rw [hn.out] at h; exact hn1 h
          subst hRn
          go_wp2_with fail
          refine bodyPost_ret (v := rfV none) (by simp [results, Tryz.results45, go_sem, rfV, *]; try rfl) rfl ⟨rfl, (((hbw1.setCell (Nat.le_refl _) _).setCell (Nat.le_refl _) _).setCell (Nat.le_refl _) _).setCell (Nat.le_refl _) _⟩)
  · have hRn : R = none := by rw [← HR.out, rf, if_neg hin]
    subst hRn
    by_cases c1 : page < 0
    · go_enter Tryz.func45, Tryz.ntmps45
      go_wp2_with fail
      refine bodyPost_ret (v := rfV none) (by simp [results, Tryz.results45, go_sem, rfV, *]; try rfl) rfl ⟨rfl, (Below.refl w.heap.size w).alloc (Nat.le_refl _) _⟩
    · have c3 : (s.size : Int) / 64 ≤ page := by omega
      go_enter Tryz.func45, Tryz.ntmps45
      go_wp2_with fail
      refine bodyPost_ret (v := rfV none) (by simp [results, Tryz.results45, go_sem, rfV, *]; try rfl) rfl ⟨rfl, (Below.refl w.heap.size w).alloc (Nat.le_refl _) _⟩
end Go.Proofs.YtgmfjninimebmaaGreatDoor
namespace Go.Proofs.YtgmfjninimebmaaGreatDoor
open Go.RowKit Go.Maps
set_option linter.unusedVariables false
set_option linter.unusedSimpArgs false

/-- What ReadFrame gives. -/
abbrev Fr := Option (Nat × List UInt8 × Nat)
def rfN : Fr → Nat
  | none => 0
  | some (_, _, n) => n
def rfB : Fr → ByteArray
  | none => ByteArray.empty
  | some (_, l, _) => ⟨l.toArray⟩
def rfK : Fr → Nat
  | none => 0
  | some (k, _, _) => k
/-- A frame of kind k. -/
def gd (k : Int) (f : Fr) : Bool := f.isSome && ((rfK f : Int) == k)
theorem rfV_eq (f : Fr) : rfV f = .agg #[.bool f.isSome, .int .i64 (rfK f : Nat), .string (rfB f), .int .i64 (rfN f : Nat)] := by
  cases f with
  | none => rfl
  | some q => rfl
/-- The page at which the next frame is looked for. -/
def nx (s : ByteArray) (p : Nat) : Nat := max (p + 1) (rfN (rf s p))
theorem nx_gt (s : ByteArray) (p : Nat) : p + 1 ≤ nx s p := Nat.le_max_left _ _
/-- What is found from page p on. -/
def frs (s : ByteArray) (p : Nat) : List Fr := if p * 64 < s.size then rf s p :: frs s (nx s p) else []
  termination_by s.size - p
  decreasing_by have := nx_gt s p; omega
theorem frs_more {s : ByteArray} {p : Nat} (h : p * 64 < s.size) : frs s p = rf s p :: frs s (nx s p) := by rw [frs, if_pos h]
theorem frs_end {s : ByteArray} {p : Nat} (h : ¬ p * 64 < s.size) : frs s p = [] := by rw [frs, if_neg h]
theorem frs_len (s : ByteArray) : ∀ d p, s.size - p ≤ d → (frs s p).length ≤ d := by
  intro d
  induction d with
  | zero => intro p h; rw [frs_end (by omega)]; exact Nat.le_refl _
  | succ d ih =>
    intro p h
    by_cases hp : p * 64 < s.size
    · rw [frs_more hp]
      have := nx_gt s p
      have := ih (nx s p) (by omega)
      simp only [List.length_cons]
      omega
    · rw [frs_end hp]
      exact Nat.zero_le _
theorem rf_next {s : ByteArray} {p k n : Nat} {l : List UInt8} (h : rf s p = some (k, l, n)) : p + 1 ≤ n ∧ n * 64 ≤ s.size := by
  unfold rf rfAt at h
  simp only [Int.toNat_natCast] at h
  split at h
  · split at h
    · rename_i h1 h2
      obtain ⟨-, -, h3, -⟩ := h2
      simp only [Option.some.injEq, Prod.mk.injEq] at h
      obtain ⟨-, -, rfl⟩ := h
      have e : s.data.toList.length = s.size := len_data s
      rw [e] at h3
      have : 1 ≤ pagesN (8 + word s.data.toList (p * 64) 0) := by unfold pagesN; omega
      omega
    · cases h
  · cases h
theorem nx_some {s : ByteArray} {p : Nat} (h : (rf s p).isSome = true) : nx s p = rfN (rf s p) ∧ rfN (rf s p) * 64 ≤ s.size := by
  unfold nx
  cases hr : rf s p with
  | none => rw [hr] at h; cases h
  | some q =>
    obtain ⟨k, l, n⟩ := q
    have := rf_next hr
    exact ⟨Nat.max_eq_right (by show p + 1 ≤ n; omega), this.2⟩
theorem nx_none {s : ByteArray} {p : Nat} (h : (rf s p).isSome = false) : nx s p = p + 1 := by
  unfold nx
  cases hr : rf s p with
  | none => rfl
  | some q => rw [hr] at h; cases h
theorem nx_le {s : ByteArray} {p : Nat} (h : p * 64 < s.size) : nx s p * 64 ≤ s.size + 63 := by
  cases hr : (rf s p).isSome with
  | true => have := nx_some hr; omega
  | false => have := nx_none hr; omega
/-- The page behind the last frame. -/
def lastN (pre : List Fr) : Nat := (pre.getLast?.map rfN).getD 0
theorem lastN_snoc (pre : List Fr) (f : Fr) : lastN (pre ++ [f]) = rfN f := by simp [lastN]
/-- The frames that ReadLog takes, and the texts that Salvage takes. -/
def rlL (s : ByteArray) (k : Int) : List Fr := (frs s 0).takeWhile (gd k)
def svL (s : ByteArray) (k : Int) : List ByteArray := ((frs s 0).filter (gd k)).map rfB
theorem rl_stop {s : ByteArray} {k : Int} {pre rest : List Fr} {f : Fr} (h : frs s 0 = pre ++ f :: rest) (hg : ∀ x ∈ pre, gd k x = true) (hf : gd k f = false) : rlL s k = pre := by
  unfold rlL
  rw [h, List.takeWhile_append_of_pos hg, List.takeWhile_cons, hf]
  simp
theorem rl_done {s : ByteArray} {k : Int} {pre : List Fr} (h : frs s 0 = pre) (hg : ∀ x ∈ pre, gd k x = true) : rlL s k = pre := by
  unfold rlL
  rw [h]
  have := List.takeWhile_append_of_pos (l₂ := []) hg
  simpa using this
theorem rl_len (s : ByteArray) (k : Int) : (rlL s k).length ≤ s.size := by
  have h1 := (List.takeWhile_sublist (gd k) (l := frs s 0)).length_le
  have h2 := frs_len s s.size 0 (by omega)
  exact Nat.le_trans h1 h2
theorem sv_len (s : ByteArray) (k : Int) : (svL s k).length ≤ s.size := by
  have h1 := List.length_filter_le (gd k) (frs s 0)
  have h2 := frs_len s s.size 0 (by omega)
  unfold svL
  rw [List.length_map]
  omega

/-- Block g has room for n texts, none of it frozen; the first k of the texts xs stand in it. -/
def RowS (w : World) (g n : Nat) (xs : List ByteArray) (k : Nat) : Prop :=
  ∃ cs : Array Value, w.heap[g]? = some (.cells cs 9 (0, 0)) ∧ n ≤ cs.size ∧ ∀ i, i < k → cs[i]? = some (.string (xs.getD i ByteArray.empty))
/-- A slice that the call made and that holds the texts xs. -/
def ResS (w : World) (base : Nat) (a : Option Addr) (xs : List ByteArray) : Prop := xs = [] ∨ ∃ g, a = some ⟨g, 0, none⟩ ∧ base ≤ g ∧ RowS w g xs.length xs xs.length
theorem RowS.block {w w' : World} {g n k : Nat} {xs : List ByteArray} (h : RowS w g n xs k) (hb : w'.heap[g]? = w.heap[g]?) : RowS w' g n xs k := by
  obtain ⟨cs, h1, h2, h3⟩ := h
  exact ⟨cs, hb.trans h1, h2, h3⟩
theorem RowS.lt {w : World} {g n k : Nat} {xs : List ByteArray} (h : RowS w g n xs k) : g < w.heap.size := by
  obtain ⟨cs, h1, _⟩ := h
  exact heap_lt h1
theorem RowS.at {w : World} {g n k i : Nat} {xs : List ByteArray} (h : RowS w g n xs k) (hi : i < k) : w.cell? ⟨g, i, none⟩ = some (.string (xs.getD i ByteArray.empty)) := by
  obtain ⟨cs, h1, _, h3⟩ := h
  simpa [World.cell?, h1] using h3 i hi
theorem ResS.kept {w w' : World} {base : Nat} {a : Option Addr} {xs : List ByteArray} (h : ResS w base a xs) (hb : ∀ k, base ≤ k → k < w.heap.size → w'.heap[k]? = w.heap[k]?) : ResS w' base a xs := by
  rcases h with h | ⟨g, rfl, hg, hr⟩
  · exact .inl h
  · exact .inr ⟨g, rfl, hg, hr.block (hb g hg hr.lt)⟩
theorem ResS.below {w w' : World} {base : Nat} {a : Option Addr} {xs : List ByteArray} (h : ResS w base a xs) (hb : Below w.heap.size w w') : ResS w' base a xs := h.kept (fun k _ hk => hb.block k hk)
def strL (xs : List ByteArray) : List Value := xs.map Value.string
theorem strL_snoc (xs : List ByteArray) (x : ByteArray) : strL (xs ++ [x]) = strL xs ++ [.string x] := by simp [strL]
theorem resS_of_owns {w : World} {B n : Nat} {v : Value} {xs : List ByteArray} (h : w.ownsRow B 9 1 v n (strL xs)) :
    n = xs.length ∧ ∃ a cap, v = .slice a xs.length cap ∧ ResS w B a xs := by
  obtain ⟨h1, h2⟩ := h
  have hn : n = xs.length := by simp only [strL, List.length_map] at h1; omega
  refine ⟨hn, ?_⟩
  subst hn
  rcases h2 with ⟨rfl, h0⟩ | ⟨g, cap, cur, rfl, hg, hb, hl, hm, hsz, htk⟩
  · exact ⟨none, 0, by rw [h0], .inl (List.length_eq_zero_iff.1 h0)⟩
  · refine ⟨some ⟨g, 0, none⟩, cap, rfl, .inr ⟨g, rfl, hg, cur, hb, by omega, fun i hi => ?_⟩⟩
    have e1 : (cur.toList.take (xs.length * 1))[i]? = (strL xs)[i]? := by rw [htk]
    rw [List.getElem?_take_of_lt (by omega)] at e1
    have e2 : (strL xs)[i]? = some (.string (xs.getD i ByteArray.empty)) := by simp [strL, List.getD, hi]
    rw [← e2, ← e1]
    simp
theorem ownsS_lit (w : World) (B : Nat) (hB : B ≤ w.heap.size) : (w.alloc (.cells #[] 9)).ownsRow B 9 1 (.slice (some ⟨w.heap.size, 0, none⟩) 0 0) 0 (strL []) :=
  ⟨rfl, .inr ⟨w.heap.size, 0, #[], rfl, hB, World.heap_alloc_new _ _, Nat.le_refl _, Nat.zero_le _, rfl, rfl⟩⟩
theorem str_info : (Tryz.prog.info? 9).map (fun i => (i.zero, i.size, i.bytes)) = some (some (.string ByteArray.empty), 1, 16) := by kernel_rfl
end Go.Proofs.YtgmfjninimebmaaGreatDoor
namespace Go.Proofs.YtgmfjninimebmaaGreatDoor
open Go.RowKit Go.Maps
set_option linter.unusedVariables false
set_option linter.unusedSimpArgs false

theorem cell_first1 (w : World) (x : Value) (t : TypeId) : ∀ j v, [x][j]? = some v → (w.alloc (.cells #[x] t)).cell? ((⟨w.heap.size, 0, none⟩ : Addr).add j) = some v := by
  intro j v hj
  rw [Go.WideShapes.add_plain]
  have hb : (w.alloc (.cells #[x] t)).heap[w.heap.size]? = some (.cells #[x] t (0, 0)) := World.heap_alloc_new _ _
  simp only [World.cell?, hb]
  match j, hj with
  | 0, hj => simpa using hj
theorem owns_lt {w : World} {B n size : Nat} {e : TypeId} {v : Value} {xs : List Value} (h : w.ownsRow B e size v n xs) : ∀ k, v.ownBlock = some k → k < w.heap.size := by
  obtain ⟨h1, h2⟩ := h
  intro k hk
  rcases h2 with ⟨rfl, -⟩ | ⟨g, cap, cur, rfl, hg, hb, hrest⟩
  · cases hk
  · cases hk
    exact heap_lt hb
theorem str_len (xs : List ByteArray) : (strL xs).length = xs.length := by simp [strL]

set_option maxRecDepth 100000 in
set_option maxHeartbeats 1000000 in
theorem specLog_any (s : ByteArray) (k : Int) (w : World) (hs : s.size ≤ 1048576) :
    Calls Tryz.prog 35 #[.string s, .int .i64 k] w fun e w' => ∃ a cap, e = .returned (.tuple #[.slice a (rlL s k).length cap, .int .i64 (lastN (rlL s k) : Nat)]) ∧ ResS w' w.heap.size a ((rlL s k).map rfB) ∧ Below w.heap.size w w' := by
  obtain ⟨i0, hi, hz0, hz1, hz2⟩ := info_parts str_info
  have HST : Hid (∀ pre f rest, frs s 0 = pre ++ f :: rest → (∀ x ∈ pre, gd k x = true) → gd k f = false → rlL s k = pre) := fun pre f rest h1 h2 h3 => rl_stop h1 h2 h3
  have HDN : Hid (∀ pre, frs s 0 = pre → (∀ x ∈ pre, gd k x = true) → rlL s k = pre) := fun pre h1 h2 => rl_done h1 h2
  have hFL := frs_len s s.size 0 (by omega)
  generalize rlL s k = RL at *
  have HF0 : Hid (frs s 0 = frs s 0) := rfl
  obtain ⟨A, HA⟩ : ∃ A, Hid (frs s 0 = A) := ⟨_, rfl⟩
  rw [HA.out] at hFL HST HDN
  clear HF0
  go_enter Tryz.func35, Tryz.ntmps35
  go_wp2_with fail
  go_loopw [6, 7] (fun v i wr => ∃ (pre : List Fr) (p : Nat), i = .int .i64 p ∧ Hid (A = pre ++ frs s p) ∧ Hid (∀ x ∈ pre, gd k x = true) ∧ Hid (lastN pre = p) ∧ p * 64 ≤ s.size ∧ wr.ownsRow w.heap.size 9 1 v pre.length (strL (pre.map rfB)) ∧ Below w.heap.size w wr) (fun _ i _ => s.size - (intOf i).toNat)
  case atStart => exact ⟨[], 0, rfl, HA.out.symm, (fun x hx => by cases hx), rfl, Nat.zero_le _, ownsS_lit _ _ (Nat.le_refl _), (Below.refl _ _).alloc (Nat.le_refl _) _⟩
  case round =>
    obtain ⟨pre, p, rfl, hfr, hg, hl, hp64, hown, hb⟩ := hrel
    have hbs := hb.size
    by_cases hp : p * 64 < s.size
    · have hp' : (p : Int) * 64 < s.size := by omega
      have hm := frs_more hp
      have hN : Hid ((rf s p).isSome = true → nx s p = rfN (rf s p) ∧ rfN (rf s p) * 64 ≤ s.size ∧ p + 1 ≤ nx s p) := fun h => ⟨(nx_some h).1, (nx_some h).2, nx_gt s p⟩
      have HR : Hid (∀ w, Calls Tryz.prog 54 #[.string s, .int .i64 p] w fun e w' => e = .returned (rfV (rf s p)) ∧ Below w.heap.size w w') := fun w => specRead_any s p w hs
      have hfr2 : Hid (A = pre ++ rf s p :: frs s (nx s p)) := by show _ = _; rw [← hm]; exact hfr.out
      have hlen : pre.length < s.size := by
        have := congrArg List.length hfr2.out
        simp only [List.length_append, List.length_cons] at this
        omega
      clear hm hfr
      generalize rf s p = f at *
      obtain ⟨rest, hrest⟩ : ∃ rest, Hid (rest = frs s (nx s p)) := ⟨_, rfl⟩
      rw [← hrest.out] at hfr2
      go_wp2_with fail
      refine (HR.out _).mono ?_
      rintro e w1 ⟨rfl, hb1⟩
      rw [rfV_eq]
      have hown1 := owns_below hown hb1
      have hb01 := hb.trans (hb1.mono hbs)
      have hs1 := hb01.size
      have hx1 : (w1.alloc (.cells #[.bool f.isSome, .int .i64 (rfK f : Nat), .string (rfB f), .int .i64 (rfN f : Nat)] 101)).heap[w1.heap.size]? = some (.cells #[.bool f.isSome, .int .i64 (rfK f : Nat), .string (rfB f), .int .i64 (rfN f : Nat)] 101 (0, 0)) := World.heap_alloc_new _ _
      have hb1a : Below w.heap.size w (w1.alloc (.cells #[.bool f.isSome, .int .i64 (rfK f : Nat), .string (rfB f), .int .i64 (rfN f : Nat)] 101)) := hb01.alloc hs1 _
      have hown1a : Hid (World.ownsRow (w1.alloc (.cells #[.bool f.isSome, .int .i64 (rfK f : Nat), .string (rfB f), .int .i64 (rfN f : Nat)] 101)) w.heap.size 9 1 _ pre.length (strL (pre.map rfB))) := hown1.alloc _
      have HBR : Hid (Below w1.heap.size w1 (w1.alloc (.cells #[.bool f.isSome, .int .i64 (rfK f : Nat), .string (rfB f), .int .i64 (rfN f : Nat)] 101))) := (Below.refl _ _).alloc (Nat.le_refl _) _
      have HC : Hid (∀ j u, [Value.string (rfB f)][j]? = some u → ((w1.alloc (.cells #[.bool f.isSome, .int .i64 (rfK f : Nat), .string (rfB f), .int .i64 (rfN f : Nat)] 101)).alloc (.cells #[.string (rfB f)] 9)).cell? ((⟨w1.heap.size + 1, 0, none⟩ : Addr).add j) = some u) := by
        have h := cell_first1 (w1.alloc (.cells #[.bool f.isSome, .int .i64 (rfK f : Nat), .string (rfB f), .int .i64 (rfN f : Nat)] 101)) (.string (rfB f)) 9
        rw [World.size_alloc] at h
        exact h
      have HBs : Hid (w.heap.size ≤ ((w1.alloc (.cells #[.bool f.isSome, .int .i64 (rfK f : Nat), .string (rfB f), .int .i64 (rfN f : Nat)] 101)).alloc (.cells #[.string (rfB f)] 9)).heap.size) := by show _ ≤ _; simp; omega
      obtain ⟨⟨x0, x1, x2, x3⟩, -⟩ := four_cells hx1
      have HLT : Hid (∀ k, Value.ownBlock _ = some k → k < w1.heap.size) := owns_lt hown1
      clear hx1 hown hb hb01 hown1
      cases hok : f.isSome with
      | false =>
        have hRL : RL = pre := HST.out pre f rest hfr2.out hg.out (by unfold gd; rw [hok]; rfl)
        rw [hok] at x0 x1 x2 x3
        rw [hok] at hb1a hown1a
        subst hRL
        obtain ⟨-, a, cap, rfl, hres⟩ := resS_of_owns hown1a.out
        have hq := hl.out
        clear hown1a HC HBs
        go_wp2_with fail
        go_ret2
        first | exact ⟨a, cap, by first | rfl | (rw [hq]; rfl), hres, hb1a⟩ | exact ⟨a, ⟨cap, by first | rfl | (rw [hq]; rfl)⟩, hres, hb1a⟩
      | true =>
        have hnx := hN.out hok
        have hwr : wrap64 ((rfN f : Nat) : Int) = (rfN f : Nat) := by unfold wrap64; omega
        have hfK : ((rfK f : Nat) : Int) = k ∨ ((rfK f : Nat) : Int) ≠ k := by omega
        rw [hok] at x0 x1 x2 x3
        rw [hok] at hb1a hown1a HC HBs
        by_cases hk : ((rfK f : Nat) : Int) = k
        · have hne : (((rfK f : Nat) : Int) != k) = false := by rw [hk]; simp
          have hgd : Hid (gd k f = true) := by show _ = _; unfold gd; rw [hok, hk]; simp
          have hk' := hd hk
          clear hk
          have HM : Hid (s.size - rfN f < s.size - p) := Nat.sub_lt_sub_left (Nat.lt_of_le_of_lt (Nat.le_mul_of_pos_right _ (by decide)) hp) (hnx.1 ▸ hnx.2.2)
          have x3a : Hid (World.cell? ((w1.alloc (.cells #[.bool true, .int .i64 (rfK f : Nat), .string (rfB f), .int .i64 (rfN f : Nat)] 101)).alloc (.cells #[.string (rfB f)] 9)) ⟨w1.heap.size, 3, none⟩ = some (.int .i64 (rfN f : Nat))) := (World.grownBy_alloc _ _ none).cell x3 (by simp)
          have hnn : Hid (A = (pre ++ [f]) ++ frs s (rfN f)) := by show _ = _; rw [hfr2.out, hrest.out, hnx.1]; simp
          go_wp2_with (at_builtin; refine wpList_append_own _ rfl _ _ 73 rfl w.heap.size 9 i0 _ 1 16 Tryz.underlying73 hi hz0 hz1 hz2 rfl (by decide) _ _ _ rfl (hown1a.out.alloc _) ⟨w1.heap.size + 1, 0, none⟩ 1 1 [.string (rfB f)] rfl rfl HC.out (fun x hx => by simp at hx; subst hx; rfl) (by unfold maxLen; omega) (by omega) HBs.out ?_; intro v' w8 hown8 hgrow hnil; have x3' := hgrow.cell x3a.out (fun h => absurd (HLT.out _ h.symm) (Nat.lt_irrefl _)))
          refine ⟨⟨pre ++ [f], rfN f, rfl, hnn, ?_, lastN_snoc pre f, hnx.2.1, ?_, ?_⟩, ?_⟩
          · intro x hx
            rcases List.mem_append.1 hx with h | h
            · exact hg.out x h
            · rw [List.mem_singleton.1 h]; exact hgd.out
          · rw [List.map_append, List.length_append]
            exact (strL_snoc (pre.map rfB) (rfB f)) ▸ hown8
          · exact (hb1a.alloc (by have := HBs.out; simp at this; simp; omega) _).grown hgrow HBs.out (owns_base hown1a.out)
          · simp only [intOf, Int.toNat_natCast]; exact HM.out
        · have hne : (((rfK f : Nat) : Int) != k) = true := by rw [bne_iff_ne]; exact hk
          have hRL : RL = pre := HST.out pre f rest hfr2.out hg.out (by unfold gd; rw [hok]; simp; exact hk)
          subst hRL
          obtain ⟨-, a, cap, rfl, hres⟩ := resS_of_owns hown1a.out
          have hq := hl.out
          clear hown1a HC HBs
          go_wp2_with fail
          go_ret2
          first | exact ⟨a, cap, by first | rfl | (rw [hq]; rfl), hres, hb1a⟩ | exact ⟨a, ⟨cap, by first | rfl | (rw [hq]; rfl)⟩, hres, hb1a⟩
    · have hp' : ¬ (p : Int) * 64 < s.size := by omega
      have hRL : RL = pre := HDN.out pre (by rw [hfr.out, frs_end hp, List.append_nil]) hg.out
      subst hRL
      obtain ⟨-, a, cap, rfl, hres⟩ := resS_of_owns hown
      have hq := hl.out
      clear hown
      go_wp2_with fail
      go_ret2
      first | exact ⟨a, cap, by first | rfl | (rw [hq]; rfl), hres, hb⟩ | exact ⟨a, ⟨cap, by first | rfl | (rw [hq]; rfl)⟩, hres, hb⟩
end Go.Proofs.YtgmfjninimebmaaGreatDoor
namespace Go.Proofs.YtgmfjninimebmaaGreatDoor
open Go.RowKit Go.Maps
set_option linter.unusedVariables false
set_option linter.unusedSimpArgs false

set_option maxRecDepth 100000 in
set_option maxHeartbeats 1000000 in
theorem specSalv_any (s : ByteArray) (k : Int) (w : World) (hs : s.size ≤ 1048576) :
    Calls Tryz.prog 39 #[.string s, .int .i64 k] w fun e w' => ∃ a cap, e = .returned (.slice a (svL s k).length cap) ∧ ResS w' w.heap.size a (svL s k) ∧ Below w.heap.size w w' := by
  obtain ⟨i0, hi, hz0, hz1, hz2⟩ := info_parts str_info
  have HDN : Hid (∀ pre, frs s 0 = pre → svL s k = (pre.filter (gd k)).map rfB) := fun pre h => by show _ = _; unfold svL; rw [h]
  have hFL := frs_len s s.size 0 (by omega)
  generalize svL s k = RL at *
  obtain ⟨A, HA⟩ : ∃ A, Hid (frs s 0 = A) := ⟨_, rfl⟩
  rw [HA.out] at hFL HDN
  go_enter Tryz.func39, Tryz.ntmps39
  go_wp2_with fail
  go_loopw [5, 6] (fun v i wr => ∃ (pre : List Fr) (p : Nat) (xs : List ByteArray), i = .int .i64 p ∧ Hid (A = pre ++ frs s p) ∧ Hid (xs = (pre.filter (gd k)).map rfB) ∧ p * 64 ≤ s.size + 63 ∧ wr.ownsRow w.heap.size 9 1 v xs.length (strL xs) ∧ Below w.heap.size w wr) (fun _ i _ => s.size - (intOf i).toNat)
  case atStart => exact ⟨[], 0, [], rfl, HA.out.symm, rfl, by omega, ownsS_lit _ _ (Nat.le_refl _), (Below.refl _ _).alloc (Nat.le_refl _) _⟩
  case round =>
    obtain ⟨pre, p, xs, rfl, hfr, hxs, hp64, hown, hb⟩ := hrel
    have hbs := hb.size
    by_cases hp : p * 64 < s.size
    · have hp' : (p : Int) * 64 < s.size := by omega
      have hm := frs_more hp
      have hN : Hid ((rf s p).isSome = true → nx s p = rfN (rf s p) ∧ rfN (rf s p) * 64 ≤ s.size ∧ p + 1 ≤ nx s p) := fun h => ⟨(nx_some h).1, (nx_some h).2, nx_gt s p⟩
      have hNN : Hid ((rf s p).isSome = false → nx s p = p + 1) := fun h => nx_none h
      have HR : Hid (∀ w, Calls Tryz.prog 54 #[.string s, .int .i64 p] w fun e w' => e = .returned (rfV (rf s p)) ∧ Below w.heap.size w w') := fun w => specRead_any s p w hs
      have hfr2 : Hid (A = pre ++ rf s p :: frs s (nx s p)) := by show _ = _; rw [← hm]; exact hfr.out
      have hxl : xs.length ≤ pre.length := by rw [hxs.out, List.length_map]; exact List.length_filter_le _ _
      have hlen : pre.length < s.size := by
        have := congrArg List.length hfr2.out
        simp only [List.length_append, List.length_cons] at this
        omega
      clear hm hfr
      generalize rf s p = f at *
      obtain ⟨rest, hrest⟩ : ∃ rest, Hid (rest = frs s (nx s p)) := ⟨_, rfl⟩
      rw [← hrest.out] at hfr2
      go_wp2_with fail
      refine (HR.out _).mono ?_
      rintro e w1 ⟨rfl, hb1⟩
      rw [rfV_eq]
      have hown1 := owns_below hown hb1
      have hb01 := hb.trans (hb1.mono hbs)
      have hs1 := hb01.size
      have hx1 : (w1.alloc (.cells #[.bool f.isSome, .int .i64 (rfK f : Nat), .string (rfB f), .int .i64 (rfN f : Nat)] 101)).heap[w1.heap.size]? = some (.cells #[.bool f.isSome, .int .i64 (rfK f : Nat), .string (rfB f), .int .i64 (rfN f : Nat)] 101 (0, 0)) := World.heap_alloc_new _ _
      have hb1a : Below w.heap.size w (w1.alloc (.cells #[.bool f.isSome, .int .i64 (rfK f : Nat), .string (rfB f), .int .i64 (rfN f : Nat)] 101)) := hb01.alloc hs1 _
      have hown1a : Hid (World.ownsRow (w1.alloc (.cells #[.bool f.isSome, .int .i64 (rfK f : Nat), .string (rfB f), .int .i64 (rfN f : Nat)] 101)) w.heap.size 9 1 _ xs.length (strL xs)) := hown1.alloc _
      have HBR : Hid (Below w1.heap.size w1 (w1.alloc (.cells #[.bool f.isSome, .int .i64 (rfK f : Nat), .string (rfB f), .int .i64 (rfN f : Nat)] 101))) := (Below.refl _ _).alloc (Nat.le_refl _) _
      have HC : Hid (∀ j u, [Value.string (rfB f)][j]? = some u → ((w1.alloc (.cells #[.bool f.isSome, .int .i64 (rfK f : Nat), .string (rfB f), .int .i64 (rfN f : Nat)] 101)).alloc (.cells #[.string (rfB f)] 9)).cell? ((⟨w1.heap.size + 1, 0, none⟩ : Addr).add j) = some u) := by
        have h := cell_first1 (w1.alloc (.cells #[.bool f.isSome, .int .i64 (rfK f : Nat), .string (rfB f), .int .i64 (rfN f : Nat)] 101)) (.string (rfB f)) 9
        rw [World.size_alloc] at h
        exact h
      have HBs : Hid (w.heap.size ≤ ((w1.alloc (.cells #[.bool f.isSome, .int .i64 (rfK f : Nat), .string (rfB f), .int .i64 (rfN f : Nat)] 101)).alloc (.cells #[.string (rfB f)] 9)).heap.size) := by show _ ≤ _; simp; omega
      obtain ⟨⟨x0, x1, x2, x3⟩, -⟩ := four_cells hx1
      have HLT : Hid (∀ k, Value.ownBlock _ = some k → k < w1.heap.size) := owns_lt hown1
      clear hx1 hown hb hb01 hown1
      cases hok : f.isSome with
      | false =>
        have hnx : nx s p = p + 1 := hNN.out hok
        have hgd : gd k f = false := by unfold gd; rw [hok]; rfl
        rw [hok] at x0 x1 x2 x3
        rw [hok] at hb1a hown1a
        have hnn : Hid (A = (pre ++ [f]) ++ frs s (p + 1)) := by show _ = _; rw [hfr2.out, hrest.out, hnx]; simp
        have hxn : Hid (xs = ((pre ++ [f]).filter (gd k)).map rfB) := by show _ = _; rw [hxs.out, List.filter_append]; simp [hgd]
        have HM : Hid (s.size - (p + 1) < s.size - p) := Nat.sub_lt_sub_left (Nat.lt_of_le_of_lt (Nat.le_mul_of_pos_right _ (by decide)) hp) (Nat.lt_succ_self _)
        clear HC HBs hnx hgd
        go_wp2_with fail
        refine ⟨⟨pre ++ [f], p + 1, xs, by go_num, hnn, hxn, by omega, hown1a.out, hb1a⟩, ?_⟩
        have e : ((p : Int) + 1).toNat = p + 1 := Int.toNat_natCast (p + 1)
        simp only [intOf, Int.toNat_natCast, e]
        exact HM.out
      | true =>
        have hnx := hN.out hok
        have hwr : wrap64 ((rfN f : Nat) : Int) = (rfN f : Nat) := by unfold wrap64; omega
        rw [hok] at x0 x1 x2 x3
        rw [hok] at hb1a hown1a HC HBs
        have HM : Hid (s.size - rfN f < s.size - p) := Nat.sub_lt_sub_left (Nat.lt_of_le_of_lt (Nat.le_mul_of_pos_right _ (by decide)) hp) (hnx.1 ▸ hnx.2.2)
        have hnn : Hid (A = (pre ++ [f]) ++ frs s (rfN f)) := by show _ = _; rw [hfr2.out, hrest.out, hnx.1]; simp
        have hle : Hid (rfN f * 64 ≤ s.size + 63) := Nat.le_trans hnx.2.1 (Nat.le_add_right _ _)
        by_cases hk : ((rfK f : Nat) : Int) = k
        · have hne : (((rfK f : Nat) : Int) == k) = true := by rw [hk]; simp
          have hgd : gd k f = true := by unfold gd; rw [hok, hk]; simp
          have hxn : Hid (xs ++ [rfB f] = ((pre ++ [f]).filter (gd k)).map rfB) := by show _ = _; rw [hxs.out, List.filter_append]; simp [hgd]
          have hk' := hd hk
          clear hk hgd
          have x3a : Hid (World.cell? ((w1.alloc (.cells #[.bool true, .int .i64 (rfK f : Nat), .string (rfB f), .int .i64 (rfN f : Nat)] 101)).alloc (.cells #[.string (rfB f)] 9)) ⟨w1.heap.size, 3, none⟩ = some (.int .i64 (rfN f : Nat))) := (World.grownBy_alloc _ _ none).cell x3 (by simp)
          go_wp2_with (at_builtin; refine wpList_append_own _ rfl _ _ 73 rfl w.heap.size 9 i0 _ 1 16 Tryz.underlying73 hi hz0 hz1 hz2 rfl (by decide) _ _ _ rfl (hown1a.out.alloc _) ⟨w1.heap.size + 1, 0, none⟩ 1 1 [.string (rfB f)] rfl rfl HC.out (fun x hx => by simp at hx; subst hx; rfl) (by unfold maxLen; omega) (by omega) HBs.out ?_; intro v' w8 hown8 hgrow hnil; have x3' := hgrow.cell x3a.out (fun h => absurd (HLT.out _ h.symm) (Nat.lt_irrefl _)))
          refine ⟨⟨pre ++ [f], rfN f, xs ++ [rfB f], rfl, hnn, hxn, hle.out, ?_, ?_⟩, ?_⟩
          · rw [List.length_append]
            exact (strL_snoc xs (rfB f)) ▸ hown8
          · exact (hb1a.alloc (by have := HBs.out; simp at this; simp; omega) _).grown hgrow HBs.out (owns_base hown1a.out)
          · simp only [intOf, Int.toNat_natCast]; exact HM.out
        · have hne : (((rfK f : Nat) : Int) == k) = false := by rw [beq_eq_false_iff_ne]; exact hk
          have hgd : gd k f = false := by unfold gd; rw [hok, hne]; rfl
          have hxn : Hid (xs = ((pre ++ [f]).filter (gd k)).map rfB) := by show _ = _; rw [hxs.out, List.filter_append]; simp [hgd]
          have hk' := hd hk
          clear hk hgd HC HBs
          go_wp2_with fail
          refine ⟨⟨pre ++ [f], rfN f, xs, rfl, hnn, hxn, hle.out, hown1a.out, hb1a⟩, ?_⟩
          simp only [intOf, Int.toNat_natCast]; exact HM.out
    · have hp' : ¬ (p : Int) * 64 < s.size := by omega
      have hRL : RL = xs := (HDN.out pre (by rw [hfr.out, frs_end hp, List.append_nil])).trans hxs.out.symm
      subst hRL
      obtain ⟨-, a, cap, rfl, hres⟩ := resS_of_owns hown
      clear hown
      go_wp2_with fail
      go_ret
      first | exact ⟨a, cap, rfl, hres, hb⟩ | exact ⟨a, ⟨cap, rfl⟩, hres, hb⟩
end Go.Proofs.YtgmfjninimebmaaGreatDoor
