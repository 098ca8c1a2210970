import Derived.Test.YtgmfjninimebmaaGreatDoorMgTbG
namespace Go.Proofs.YtgmfjninimebmaaGreatDoor
open Go.RowKit Go.Maps
set_option linter.unusedVariables false
set_option linter.unusedSimpArgs false

theorem conv_row' {w : World} {B : Nat} {v : Value} {l : List UInt8} (h : w.ownsRow B 5 1 v l.length (bc l)) (hne : v ≠ .slice none 0 0) :
    (convert 111 9 v).run Tryz.prog w = .ok (.string ⟨l.toArray⟩) w := by
  obtain ⟨h1, h2⟩ := h
  rcases h2 with ⟨rfl, h0⟩ | ⟨g, cap, cur, rfl, hg, hb, hl, hm, hsz, htk⟩
  · exact absurd rfl hne
  · refine run_convert_bytes_back w 111 9 5 _ cap l Tryz.underlying111 Tryz.underlying5 Tryz.underlying9 (fun j hj => ?_)
    rw [Go.WideShapes.add_plain]
    have e1 : (cur.toList.take (l.length * 1))[j]? = (bc l)[j]? := by rw [htk]
    rw [List.getElem?_take_of_lt (by omega)] at e1
    simp only [World.cell?, hb]
    have e2 : cur[0 + j]? = cur.toList[j]? := by simp
    rw [e2, e1]
    simp [hj]
theorem ext_data (s : ByteArray) (a n : Nat) : (s.extract a (a + n)).data.toList = (s.data.toList.drop a).take n := by
  simp only [ByteArray.data_extract, Array.toList_extract, List.extract]
  congr 1
  omega
theorem toList_eq'R {a b : ByteArray} (h : (a.toList == b.toList) = true) : a = b := by
  have h2 := eq_of_beq h
  rw [ByteArray.toList_eq, ByteArray.toList_eq] at h2
  apply ByteArray.ext
  exact Array.toList_inj.1 h2
set_option maxRecDepth 100000 in
set_option maxHeartbeats 4000000 in
theorem specRead_any (s : ByteArray) (page : Int) (w : World) (hs : s.size ≤ 1048576) :
    Calls Tryz.prog 54 #[.string s, .int .i64 page] w fun e w' => e = .returned (rfV (rf s page)) ∧ Below w.heap.size w w' := by
  obtain ⟨i0, hi, hz0, hz1, hz2⟩ := info_parts u8_info
  generalize hR : rf s page = R
  have HR : Hid (rf s page = R) := hR
  clear hR
  by_cases hin : 0 ≤ page ∧ page.toNat * 64 + 64 ≤ s.size
  · obtain ⟨p, rfl⟩ : ∃ p : Nat, page = p := ⟨page.toNat, by omega⟩
    have hp : p * 64 + 64 ≤ s.size := by simpa using hin.2
    have HRA : Hid (R = rfAt s.data.toList p) := by show _ = _; rw [← HR.out, rf, if_pos hin]; rfl
    have a1 : ¬ (p : Int) < 0 := by omega
    have a2 : ¬ (s.size : Int) / 64 < p := by omega
    have a3 : ¬ (s.size : Int) - (p : Int) * 64 < 64 := by omega
    have a4 : (p : Int) * 64 < s.size := by omega
    have a5 : (0 : Int) ≤ (p : Int) * 64 := by omega
    have hp64 : ((p * 64 : Nat) : Int) = (p : Int) * 64 := by omega
    have hbyt := s[p * 64].toNat_lt
    have HX : Hid (s[p * 64] = s.data.toList.getD (p * 64) 0) := byte_get s _ (by omega)
    clear hin
    go_enter Tryz.func54, Tryz.ntmps54
    go_wp2_with fail
    refine (l2KindOk_any _ _).mono ?_
    rintro e w0 ⟨rfl, hw0⟩
    have hx0 : w0.heap[w.heap.size]? = some (.cells #[.bool false, .int .i64 0, .string ⟨#[]⟩, .int .i64 0] 101 (0, 0)) := by rw [hw0]; exact World.heap_alloc_new _ _
    have hb0 : Below w.heap.size w w0 := by rw [hw0]; exact (Below.refl _ _).alloc (Nat.le_refl _) _
    clear hw0
    cases hk : kindOk (s[p * 64].toNat : Int) with
    | false =>
      have hRn : R = none := by rw [HRA.out]; refine rfAt_none ?_; rintro ⟨h, -⟩; rw [← HX.out, hk] at h; cases h
      subst hRn
      obtain ⟨⟨b0, b1, b2, b3⟩, z0, z1, z2, z3⟩ := four_cells hx0
      have hlt0 := heap_lt hx0
      go_wp2_with fail
      refine bodyPost_ret (v := rfV none) (by simp [results, Tryz.results54, go_sem, rfV, *]; try rfl) rfl ⟨rfl, (((hb0.setCell (Nat.le_refl _) _).setCell (Nat.le_refl _) _).setCell (Nat.le_refl _) _).setCell (Nat.le_refl _) _⟩
    | true =>
      have HB0 : Hid (∀ w, Calls Tryz.prog 88 #[.string s, .int .i64 ((p : Int) * 64), .int .i64 0] w fun e w' => e = .returned (.int .i64 ((cb s.data.toList (p * 64) 0).toNat : Int)) ∧ Below w.heap.size w w') := fun w => by have := l2Body_any s (p * 64) 0 w (by omega) hs (by omega); rw [hp64] at this; exact this
      have HB1 : Hid (∀ w, Calls Tryz.prog 88 #[.string s, .int .i64 ((p : Int) * 64), .int .i64 1] w fun e w' => e = .returned (.int .i64 ((cb s.data.toList (p * 64) 1).toNat : Int)) ∧ Below w.heap.size w w') := fun w => by have := l2Body_any s (p * 64) 1 w (by omega) hs (by omega); rw [hp64] at this; exact this
      have HB2 : Hid (∀ w, Calls Tryz.prog 88 #[.string s, .int .i64 ((p : Int) * 64), .int .i64 2] w fun e w' => e = .returned (.int .i64 ((cb s.data.toList (p * 64) 2).toNat : Int)) ∧ Below w.heap.size w w') := fun w => by have := l2Body_any s (p * 64) 2 w (by omega) hs (by omega); rw [hp64] at this; exact this
      have HB3 : Hid (∀ w, Calls Tryz.prog 88 #[.string s, .int .i64 ((p : Int) * 64), .int .i64 3] w fun e w' => e = .returned (.int .i64 ((cb s.data.toList (p * 64) 3).toNat : Int)) ∧ Below w.heap.size w w') := fun w => by have := l2Body_any s (p * 64) 3 w (by omega) hs (by omega); rw [hp64] at this; exact this
      have y0 := (cb s.data.toList (p * 64) 0).toNat_lt
      have y1 := (cb s.data.toList (p * 64) 1).toNat_lt
      have y2 := (cb s.data.toList (p * 64) 2).toNat_lt
      have y3 := (cb s.data.toList (p * 64) 3).toNat_lt
      have HW : Hid ((((cb s.data.toList (p * 64) 0).toNat : Int) + (cb s.data.toList (p * 64) 1).toNat * 256 + (cb s.data.toList (p * 64) 2).toNat * 65536 + (cb s.data.toList (p * 64) 3).toNat * 16777216) = (word s.data.toList (p * 64) 0 : Nat)) := by show _ = _; simp only [word, le4, Nat.zero_add]; omega
      generalize hn : word s.data.toList (p * 64) 0 = n at *
      replace hn := hd hn
      generalize (cb s.data.toList (p * 64) 0).toNat = c0 at *
      generalize (cb s.data.toList (p * 64) 1).toNat = c1 at *
      generalize (cb s.data.toList (p * 64) 2).toNat = c2 at *
      generalize (cb s.data.toList (p * 64) 3).toNat = c3 at *
      obtain ⟨d1, e1⟩ : ∃ d : Nat, (c1 : Int) * 256 = d := ⟨c1 * 256, by omega⟩
      obtain ⟨d2, e2⟩ : ∃ d : Nat, (c2 : Int) * 65536 = d := ⟨c2 * 65536, by omega⟩
      obtain ⟨d3, e3⟩ : ∃ d : Nat, (c3 : Int) * 16777216 = d := ⟨c3 * 16777216, by omega⟩
      have hw : (c0 : Int) + d1 + d2 + d3 = n := by rw [← e1, ← e2, ← e3]; exact HW.out
      have l0 : c0 ≤ 255 := by omega
      have l1 : d1 ≤ 65280 := by omega
      have l2 : d2 ≤ 16711680 := by omega
      have l3 : d3 ≤ 4278190080 := by omega
      have ln : n ≤ 4294967295 := by omega
      generalize hP : pagesN (8 + n) = P
      have hPe : ((n : Int) + 8 + 62) / 63 = (P : Int) := by rw [← hP]; unfold pagesN; omega
      have hPn : P * 63 = (n + 70) / 63 * 63 := by rw [← hP]; unfold pagesN; omega
      replace hP := hd hP
      replace hPn := hd hPn
      clear HW y0 y1 y2 y3
      go_wp2_with fail
      refine (HB0.out _).mono ?_
      rintro e w1 ⟨rfl, hb1⟩
      have q1 := hb0.trans (hb1.mono hb0.size)
      have x1 := (hb1.block w.heap.size (heap_lt hx0)).trans hx0
      clear hb1 hx0 hb0
      go_wp2_with fail
      refine (HB1.out _).mono ?_
      rintro e w2 ⟨rfl, hb2⟩
      have q2 := q1.trans (hb2.mono q1.size)
      have x2 := (hb2.block w.heap.size (heap_lt x1)).trans x1
      clear hb2 x1 q1
      go_wp2_with fail
      refine (HB2.out _).mono ?_
      rintro e w3 ⟨rfl, hb3⟩
      have q3 := q2.trans (hb3.mono q2.size)
      have x3 := (hb3.block w.heap.size (heap_lt x2)).trans x2
      clear hb3 x2 q2
      go_wp2_with fail
      refine (HB3.out _).mono ?_
      rintro e w4 ⟨rfl, hb4⟩
      have q4 := q3.trans (hb4.mono q3.size)
      have x4 := (hb4.block w.heap.size (heap_lt x3)).trans x3
      clear hb4 x3 q3 HB0 HB1 HB2 HB3
      obtain ⟨⟨b0, b1, b2, b3⟩, z0, z1, z2, z3⟩ := four_cells x4
      have hlt4 := heap_lt x4
      have hPb : P ≤ 68174086 := by clear e1 e2 e3 hw; omega
      replace hp := hd hp
      clear e1 e2 hp64 hbyt a1 a2 a3 l0 l1 l2
      by_cases hn1 : n ≤ 1048576
      · have b5 : ¬ (1048576 : Int) < n := by omega
        by_cases hn2 : p * 64 + 64 * P ≤ s.size
        · have b6 : ¬ (s.size : Int) - (p : Int) * 64 < (P : Int) * 64 := by clear e3 hw hPe; omega
          have b5d : decide ((1048576 : Int) < n) = false := by rw [decide_eq_false_iff_not]; exact b5
          have b6d : decide ((s.size : Int) - (p : Int) * 64 < (P : Int) * 64) = false := by rw [decide_eq_false_iff_not]; exact b6
          have hP1 : 1 ≤ P := by have := hPn.out; clear e3 hw hPe; omega
          go_wp2_with fail
          try rw [hPe]
          clear e3 hw hPe l3 b5d b6d
          go_loopw [8] (fun y wr => ∃ k : Nat, y = .int .i64 k ∧ 1 ≤ k ∧ k ≤ P ∧ wr = w4 ∧ Hid (∀ i, 1 ≤ i → i < k → s.data.toList.getD (p * 64 + i * 64) 0 = 99)) (fun y _ => P - (intOf y).toNat)
          case atStart => exact ⟨1, rfl, Nat.le_refl _, hP1, rfl, fun i h1 h2 => absurd h2 (by omega)⟩
          case round =>
            obtain ⟨k, rfl, hk1, hkP, hwr, hmk⟩ := hrel
            replace hwr := hwr.symm
            subst hwr
            by_cases hlt : k < P
            · have hj : p * 64 + k * 64 < s.size := by omega
              have hj0 : (0 : Int) ≤ (p : Int) * 64 + (k : Int) * 64 := by omega
              have hj1 : (p : Int) * 64 + (k : Int) * 64 < s.size := by omega
              have HY : Hid (s[p * 64 + k * 64] = s.data.toList.getD (p * 64 + k * 64) 0) := byte_get s _ hj
              have hlt' : (k : Int) < P := by omega
              have hwv : wrap64 (s[p * 64 + k * 64].toNat : Int) = s[p * 64 + k * 64].toNat := by have := s[p * 64 + k * 64].toNat_lt; unfold wrap64; omega
              by_cases hmark : s[p * 64 + k * 64].toNat = 99
              · have hne : (wrap64 (s[p * 64 + k * 64].toNat : Int) != 99) = false := by rw [hwv, hmark]; rfl
                clear hwv
                go_wp2_with fail
                exact ⟨⟨k + 1, by simp, by omega, by omega, trivial, fun i h1 h2 => by
                  by_cases hik : i = k
                  · subst hik; rw [← HY.out]; exact UInt8.toNat_inj.1 hmark
                  · exact hmk.out i h1 (by omega)⟩, by simp only [intOf]; omega⟩
              · have hne : (wrap64 (s[p * 64 + k * 64].toNat : Int) != 99) = true := by rw [hwv, bne_iff_ne]; omega
                clear hwv
                have hRn : R = none := by
                  rw [HRA.out]; refine rfAt_none ?_; rintro ⟨-, -, -, h⟩
                  rw [hn.out, hP.out, marks_iff] at h
                  have h9 := h k hk1 hlt
                  rw [← HY.out] at h9
                  rw [h9] at hmark
                  exact hmark rfl
                subst hRn
                go_wp2_with fail
                refine bodyPost_ret (v := rfV none) (by simp [results, Tryz.results54, go_sem, rfV, *]; try rfl) rfl ⟨rfl, (((q4.setCell (Nat.le_refl _) _).setCell (Nat.le_refl _) _).setCell (Nat.le_refl _) _).setCell (Nat.le_refl _) _⟩
            · obtain rfl : k = P := by omega
              have hlt' : ¬ (k : Int) < k := by omega
              have hl0 := owns_lit w4 (w.heap.size + 1) (by omega)
              have hq5 : Below w.heap.size w (w4.alloc (.cells #[] 5)) := q4.alloc q4.size _
              have hx5 : (w4.alloc (.cells #[] 5)).heap[w.heap.size]? = some (.cells #[.bool false, .int .i64 0, .string ⟨#[]⟩, .int .i64 0] 101 (0, 0)) := (((Below.refl w4.heap.size w4).alloc (Nat.le_refl _) _).block _ hlt4).trans x4
              clear b0 b1 b2 b3 z0 z1 z2 z3
              go_wp2_with fail
              clear x4 q4 hlt4
              go_loopw [9, 10] (fun x y wr => ∃ j : Nat, y = .int .i64 j ∧ j ≤ n ∧ Hid (x ≠ .slice none 0 0) ∧ wr.ownsRow (w.heap.size + 1) 5 1 x (pay s.data.toList (p * 64) j).length (bc (pay s.data.toList (p * 64) j)) ∧ wr.heap[w.heap.size]? = some (.cells #[.bool false, .int .i64 0, .string ⟨#[]⟩, .int .i64 0] 101 (0, 0)) ∧ Below w.heap.size w wr) (fun _ y _ => n - (intOf y).toNat)
              case atStart => exact ⟨0, rfl, Nat.zero_le _, (fun h => by cases h), hl0, hx5, hq5⟩
              case round =>
                obtain ⟨j, rfl, hj, hnn, hown, hx, hb⟩ := hrel
                have hxl := heap_lt hx
                by_cases hjn : j < n
                · have hjn' : (j : Int) < n := by omega
                  have hplace : p * 64 + 1 + (8 + j) / 63 * 64 + (8 + j) % 63 < s.size := by have := hPn.out; omega
                  have HB : Hid (∀ w, Calls Tryz.prog 88 #[.string s, .int .i64 ((p : Int) * 64), .int .i64 (8 + (j : Int))] w fun e w' => e = .returned (.int .i64 ((cb s.data.toList (p * 64) (8 + j)).toNat : Int)) ∧ Below w.heap.size w w') := fun w => by
                    have h := l2Body_any s (p * 64) (8 + j) w hplace hs (by omega)
                    rw [show ((p * 64 : Nat) : Int) = (p : Int) * 64 by omega, show ((8 + j : Nat) : Int) = 8 + (j : Int) by omega] at h
                    exact h
                  have HT : Hid (pay s.data.toList (p * 64) (j + 1) = pay s.data.toList (p * 64) j ++ [cb s.data.toList (p * 64) (8 + j)]) := by show _ = _; simp [pay, List.range_succ]
                  have hpl := pay_len s.data.toList (p * 64) j
                  have hcl := (cb s.data.toList (p * 64) (8 + j)).toNat_lt
                  generalize cb s.data.toList (p * 64) (8 + j) = x at *
                  generalize pay s.data.toList (p * 64) j = m at *
                  replace hplace := hd hplace
                  go_wp2_with fail
                  refine (HB.out _).mono ?_
                  rintro e w5 ⟨rfl, hb5⟩
                  have hown5 := owns_below hown hb5
                  have hx6 := (hb5.block _ hxl).trans hx
                  have hbw5 := hb.trans (hb5.mono hb.size)
                  have hs5 : w.heap.size + 1 ≤ w5.heap.size := Nat.le_trans hxl hb5.size
                  have hob := owns_base hown5
                  replace hob := hd hob
                  clear hown hx hb5 hb hx5 hq5 hl0 HB
                  go_wp2_with (at_builtin; refine wpList_append_own _ rfl _ _ 111 rfl (w.heap.size + 1) 5 i0 (.int .u8 0) 1 1 Tryz.underlying111 hi hz0 hz1 hz2 rfl (by decide) _ _ _ rfl (hown5.alloc _) ⟨w5.heap.size, 0, none⟩ 1 1 [.int .u8 (x.toNat : Int)] rfl rfl (cell_one_new _ _ _) (fun x hx => by simp at hx; subst hx; rfl) (by unfold maxLen; omega) (by omega) (by simp; omega) ?_; intro v' w8 hown8 hgrow hnil)
                  have hk8 : Below (w.heap.size + 1) w5 w8 := ((Below.refl (w.heap.size + 1) w5).alloc hs5 _).grown hgrow (by simp; omega) hob.out
                  refine ⟨⟨j + 1, by simp, by omega, fun h => by have := (hnil.1 h).2; omega, ?_, (hk8.block w.heap.size (by omega)).trans hx6, hbw5.trans (hk8.mono (by omega))⟩, by simp only [intOf]; omega⟩
                  rw [HT.out, bc_snoc', List.length_append]
                  exact hown8
                · obtain rfl : j = n := by omega
                  have hjn' : ¬ (j : Int) < j := by omega
                  have hcv := conv_row' hown hnn.out
                  have hbyt := s[p * 64].toNat_lt
                  have hpl := pay_len s.data.toList (p * 64) j
                  have hpz : (⟨(pay s.data.toList (p * 64) j).toArray⟩ : ByteArray).size = j := by show ((pay s.data.toList (p * 64) j).toArray).size = j; simp [pay_len]
                  replace hpz := hd hpz
                  replace hpl := hd hpl
                  have hm0 : (0 : Int) ≤ (p : Int) * 64 := by omega
                  have hm1 : (p : Int) * 64 ≤ (p : Int) * 64 + (k : Int) * 64 := by omega
                  have hm2 : (p : Int) * 64 + (k : Int) * 64 ≤ s.size := by omega
                  clear hx5 hq5 hl0
                  have hcvd := conv_row' (w := wr.drew) hown hnn.out
                  have hwr1 : IntKind.i64.wrap ((k : Int) * 64) = (k : Int) * 64 := by rw [IntKind.wrap_i64]; omega
                  have hwr2 : IntKind.i64.wrap ((p : Int) * 64 + (k : Int) * 64) = (p : Int) * 64 + (k : Int) * 64 := by rw [IntKind.wrap_i64]; omega
                  have hfz := specFrame_any (s[p * 64].toNat : Int) ⟨(pay s.data.toList (p * 64) j).toArray⟩
                  have HFR : Hid (∀ w, Calls Tryz.prog 63 #[.int .i64 (s[p * 64].toNat : Int), .string ⟨(pay s.data.toList (p * 64) j).toArray⟩] w fun e w' => e = .returned (.string (frT (s[p * 64].toNat : Int) ⟨(pay s.data.toList (p * 64) j).toArray⟩)) ∧ Below w.heap.size w w') := fun w => hfz w (by rw [hpz.out]; unfold maxLen; omega)
                  clear hfz
                  generalize hFT : frT (s[p * 64].toNat : Int) ⟨(pay s.data.toList (p * 64) j).toArray⟩ = FT at *
                  replace hFT := hd hFT
                  go_wp2_with fail
                  go_region_held3 (fun w' => (convert 111 9 u9).run Tryz.prog w' = .ok (.string ⟨(pay s.data.toList (p * 64) j).toArray⟩) w') (simp [go_sem, *]) (first | (go_at_call 63; refine (HFR.out _).mono ?_; rintro e w6 ⟨rfl, hb6⟩; have hcv6 := conv_row' (owns_below (w := wr.drew) hown hb6) hnn.out))
                  have hx6 := (hb6.block w.heap.size hxl).trans hx
                  have hbw6 : Below w.heap.size w w6 := hb.drew.trans (hb6.mono hb.size)
                  obtain ⟨⟨b0, b1, b2, b3⟩, z0, z1, z2, z3⟩ := four_cells hx6
                  have hlt6 := heap_lt hx6
                  have hFR : Hid (R = if FT = s.extract (p * 64) (p * 64 + k * 64) then some (s[p * 64].toNat, pay s.data.toList (p * 64) j, p + k) else none) := by
                    show _ = _
                    rw [HRA.out, rfAt_frame (L := s.data.toList) (p := p) (n := j) (k := s[p * 64].toNat) (by rw [HX.out]) hn.out.symm hk hn1 (by rw [hP.out, len_data]; exact hn2) (by rw [hP.out]; exact hmk.out), hP.out]
                    have e1 : FT = ⟨(frB s[p * 64].toNat (pay s.data.toList (p * 64) j)).toArray⟩ := by rw [← hFT.out, frT_in hk (by rw [hpz.out]; exact hn1)]; rfl
                    by_cases h : frB s[p * 64].toNat (pay s.data.toList (p * 64) j) = (s.data.toList.drop (p * 64)).take (64 * k)
                    · rw [if_pos h, if_pos]
                      rw [e1, h]
                      apply ByteArray.ext
                      apply Array.toList_inj.1
                      rw [Nat.mul_comm k 64, ext_data]
                    · rw [if_neg h, if_neg]
                      intro h2
                      apply h
                      rw [e1] at h2
                      have h3 := congrArg (fun b => b.data.toList) h2
                      rw [Nat.mul_comm k 64] at h3
                      dsimp only at h3
                      rw [ext_data] at h3
                      exact h3
                  clear hcv hcvd hcv6 hb6 hx6 hown hx
                  have t1 : ((p : Int) * 64).toNat = p * 64 := by omega
                  have t2 : ((p : Int) * 64 + (k : Int) * 64).toNat = p * 64 + k * 64 := by omega
                  by_cases hE : FT = s.extract (p * 64) (p * 64 + k * 64)
                  · have hRs : R = some (s[p * 64].toNat, pay s.data.toList (p * 64) j, p + k) := by rw [hFR.out, if_pos hE]
                    have hcmp : (FT.toList == (s.extract ((p : Int) * 64).toNat ((p : Int) * 64 + (k : Int) * 64).toNat).toList) = true := by rw [t1, t2, hE]; simp
                    clear t1 t2
                    replace hE := hd hE
                    replace hRs := hd hRs
                    go_wp2_with fail
                    all_goals first
                      | (exfalso; have hh := ‹(!FT.toList == (s.extract ((p : Int) * 64).toNat ((p : Int) * 64 + (k : Int) * 64).toNat).toList) = true›; rw [hcmp] at hh; cases hh)
                      | refine bodyPost_ret (v := .agg #[.bool true, .int .i64 (s[p * 64].toNat : Int), .string ⟨(pay s.data.toList (p * 64) j).toArray⟩, .int .i64 ((p : Int) + k)]) (by simp [results, Tryz.results54, go_sem, *]; try rfl) rfl ⟨by rw [hRs.out]; rfl, (((hbw6.setCell (Nat.le_refl _) _).setCell (Nat.le_refl _) _).setCell (Nat.le_refl _) _).setCell (Nat.le_refl _) _⟩
                  · have hRs : R = none := by rw [hFR.out, if_neg hE]
                    have hcmp : (FT.toList == (s.extract ((p : Int) * 64).toNat ((p : Int) * 64 + (k : Int) * 64).toNat).toList) = false := by
                      rw [t1, t2]
                      cases h : (FT.toList == (s.extract (p * 64) (p * 64 + k * 64)).toList) with
                      | false => rfl
                      | true => exact absurd (toList_eq'R h) hE
                    replace hE := hd hE
                    subst hRs
                    clear t1 t2
                    go_wp2_with fail
                    all_goals first
                      | (exfalso; have hh := ‹(!FT.toList == (s.extract ((p : Int) * 64).toNat ((p : Int) * 64 + (k : Int) * 64).toNat).toList) = false›; rw [hcmp] at hh; cases hh)
                      | refine bodyPost_ret (v := rfV none) (by simp [results, Tryz.results54, go_sem, rfV, *]; try rfl) rfl ⟨rfl, (((hbw6.setCell (Nat.le_refl _) _).setCell (Nat.le_refl _) _).setCell (Nat.le_refl _) _).setCell (Nat.le_refl _) _⟩
        · have b6 : (s.size : Int) - (p : Int) * 64 < (P : Int) * 64 := by clear e3 hw hPe; omega
          have hRn : R = none := by rw [HRA.out]; refine rfAt_none ?_; rintro ⟨-, -, h, -⟩; rw [hn.out, len_data, hP.out] at h; exact hn2 h
          subst hRn
          clear hn2
          have b5d : decide ((1048576 : Int) < n) = false := by rw [decide_eq_false_iff_not]; exact b5
          have b6d : decide ((s.size : Int) - (p : Int) * 64 < (P : Int) * 64) = true := by rw [decide_eq_true_iff]; exact b6
          go_wp2_with fail
          refine bodyPost_ret (v := rfV none) (by simp [results, Tryz.results54, go_sem, rfV, *]; try rfl) rfl ⟨rfl, (((q4.setCell (Nat.le_refl _) _).setCell (Nat.le_refl _) _).setCell (Nat.le_refl _) _).setCell (Nat.le_refl _) _⟩
      · have b5 : (1048576 : Int) < n := by omega
        have hRn : R = none := by rw [HRA.out]; refine rfAt_none ?_; rintro ⟨-, h, -⟩; rw [hn.out] at h; exact hn1 h
        subst hRn
        have b5d : decide ((1048576 : Int) < n) = true := by rw [decide_eq_true_iff]; exact b5
        go_wp2_with fail
        refine bodyPost_ret (v := rfV none) (by simp [results, Tryz.results54, go_sem, rfV, *]; try rfl) rfl ⟨rfl, (((q4.setCell (Nat.le_refl _) _).setCell (Nat.le_refl _) _).setCell (Nat.le_refl _) _).setCell (Nat.le_refl _) _⟩
  · have hRn : R = none := by rw [← HR.out, rf, if_neg hin]
    subst hRn
    by_cases c1 : page < 0
    · go_enter Tryz.func54, Tryz.ntmps54
      go_wp2_with fail
      refine bodyPost_ret (v := rfV none) (by simp [results, Tryz.results54, go_sem, rfV, *]; try rfl) rfl ⟨rfl, (Below.refl w.heap.size w).alloc (Nat.le_refl _) _⟩
    · by_cases c2 : (s.size : Int) / 64 < page
      · go_enter Tryz.func54, Tryz.ntmps54
        go_wp2_with fail
        refine bodyPost_ret (v := rfV none) (by simp [results, Tryz.results54, go_sem, rfV, *]; try rfl) rfl ⟨rfl, (Below.refl w.heap.size w).alloc (Nat.le_refl _) _⟩
      · have c3 : (s.size : Int) - page * 64 < 64 := by omega
        go_enter Tryz.func54, Tryz.ntmps54
        go_wp2_with fail
        refine bodyPost_ret (v := rfV none) (by simp [results, Tryz.results54, go_sem, rfV, *]; try rfl) rfl ⟨rfl, (Below.refl w.heap.size w).alloc (Nat.le_refl _) _⟩
end Go.Proofs.YtgmfjninimebmaaGreatDoor
namespace Go.Proofs.YtgmfjninimebmaaGreatDoor
open Go.RowKit Go.Maps
set_option linter.unusedVariables false
set_option linter.unusedSimpArgs false

/-- The number that a text begins with. -/
def lead (s : ByteArray) : Nat := le4 (s.data.toList.getD 0 0) (s.data.toList.getD 1 0) (s.data.toList.getD 2 0) (s.data.toList.getD 3 0)

set_option maxRecDepth 100000 in
set_option maxHeartbeats 1000000 in
theorem getWord_any (s : ByteArray) (w : World) (h : 4 ≤ s.size) (hs : s.size ≤ 1048576) :
    Calls Tryz.prog 69 #[.string s] w fun e w' => e = .returned (.int .i64 (lead s : Nat)) ∧ Below w.heap.size w w' := by
  have y0 := s[0].toNat_lt
  have y1 := s[1].toNat_lt
  have y2 := s[2].toNat_lt
  have y3 := s[3].toNat_lt
  have p0 : (0 : Int) < s.size := by omega
  have p1 : (1 : Int) < s.size := by omega
  have p2 : (2 : Int) < s.size := by omega
  have p3 : (3 : Int) < s.size := by omega
  have q0 : 0 < s.size := by omega
  have q1 : 1 < s.size := by omega
  have q2 : 2 < s.size := by omega
  have q3 : 3 < s.size := by omega
  have J1 : Hid (bits .or .i64 (s[0].toNat : Int) (s[1].toNat * 256) = (s[0].toNat : Int) + s[1].toNat * 256) := i64_join 8 _ _ (by omega) (by omega) (by omega) (by omega) (by omega) (by omega)
  have J2 : Hid (bits .or .i64 ((s[0].toNat : Int) + s[1].toNat * 256) (s[2].toNat * 65536) = (s[0].toNat : Int) + s[1].toNat * 256 + s[2].toNat * 65536) := i64_join 16 _ _ (by omega) (by omega) (by omega) (by omega) (by omega) (by omega)
  have J3 : Hid (bits .or .i64 ((s[0].toNat : Int) + s[1].toNat * 256 + s[2].toNat * 65536) (s[3].toNat * 16777216) = (s[0].toNat : Int) + s[1].toNat * 256 + s[2].toNat * 65536 + s[3].toNat * 16777216) := i64_join 24 _ _ (by omega) (by omega) (by omega) (by omega) (by omega) (by omega)
  have HV : Hid ((s[0].toNat : Int) + s[1].toNat * 256 + s[2].toNat * 65536 + s[3].toNat * 16777216 = (lead s : Nat)) := by
    show _ = _
    simp only [lead, le4]
    rw [← byte_get s 0 (by omega), ← byte_get s 1 (by omega), ← byte_get s 2 (by omega), ← byte_get s 3 (by omega)]
    omega
  have HBl : Hid (∀ n, Below w.heap.size w (w.drewN n)) := fun n => ⟨rfl, rfl, rfl, Nat.le_refl _, fun _ _ => rfl⟩
  go_enter Tryz.func69, Tryz.ntmps69
  go_wp2_with fail
  go_quiet (fail)
  go_wp2_with fail
  go_ret
  refine ⟨?_, HBl.out _⟩
  show Ending.returned (.int .i64 (bits .or .i64 (bits .or .i64 (bits .or .i64 (s[0].toNat : Int) (s[1].toNat * 256)) (s[2].toNat * 65536)) (s[3].toNat * 16777216))) = _
  rw [J1.out, J2.out, J3.out, HV.out]
end Go.Proofs.YtgmfjninimebmaaGreatDoor
namespace Go.Proofs.YtgmfjninimebmaaGreatDoor
open Go.RowKit Go.Maps
set_option linter.unusedVariables false
set_option linter.unusedSimpArgs false

/-- What c pages hold beside their first bytes. -/
def content (L : List UInt8) (F c : Nat) : List UInt8 := (List.range (63 * c)).map (cb L F)
theorem content_len (L : List UInt8) (F c : Nat) : (content L F c).length = 63 * c := by simp [content]
theorem content_get (L : List UInt8) (F c i : Nat) (h : i < 63 * c) : (content L F c).getD i 0 = cb L F i := by simp [content, List.getD, h]
theorem content_zero (L : List UInt8) (F : Nat) : content L F 0 = [] := rfl
/-- A page more. -/
theorem content_succ (L : List UInt8) (F c : Nat) (h : F + 64 * (c + 1) ≤ L.length) : content L F (c + 1) = content L F c ++ (L.drop (F + 64 * c + 1)).take 63 := by
  apply List.ext_getElem?
  intro i
  by_cases h1 : i < 63 * c
  · rw [List.getElem?_append_left (by rw [content_len]; exact h1)]
    simp only [content, List.getElem?_map]
    rw [List.getElem?_range (by omega), List.getElem?_range h1]
  · rw [List.getElem?_append_right (by rw [content_len]; omega), content_len]
    by_cases h2 : i < 63 * (c + 1)
    · simp only [content, List.getElem?_map]
      rw [List.getElem?_range h2, List.getElem?_take_of_lt (by omega), List.getElem?_drop]
      simp only [Option.map_some, cb, List.getD]
      have e : F + 64 * c + 1 + (i - 63 * c) = F + 1 + i / 63 * 64 + i % 63 := by omega
      rw [e, List.getElem?_eq_getElem (by omega)]
      rfl
    · rw [List.getElem?_eq_none (by rw [content_len]; omega), List.getElem?_eq_none (by rw [List.length_take, List.length_drop]; omega)]
/-- The payload lies behind the head. -/
theorem content_pay (L : List UInt8) (F c n : Nat) (h : 8 + n ≤ 63 * c) : ((content L F c).drop 8).take n = pay L F n := by
  apply List.ext_getElem?
  intro i
  by_cases h1 : i < n
  · rw [List.getElem?_take_of_lt h1, List.getElem?_drop]
    simp only [content, pay, List.getElem?_map]
    rw [List.getElem?_range (by omega), List.getElem?_range h1]
    rfl
  · rw [List.getElem?_eq_none (by rw [List.length_take, List.length_drop, content_len]; omega), List.getElem?_eq_none (by rw [pay_len]; omega)]
theorem content_word (L : List UInt8) (F c j : Nat) (h : j + 4 ≤ 63 * c) : le4 ((content L F c).getD j 0) ((content L F c).getD (j + 1) 0) ((content L F c).getD (j + 2) 0) ((content L F c).getD (j + 3) 0) = word L F j := by
  rw [content_get _ _ _ _ (by omega), content_get _ _ _ _ (by omega), content_get _ _ _ _ (by omega), content_get _ _ _ _ (by omega)]
  rfl
theorem content_zeros (L : List UInt8) (F c a : Nat) (h : a ≤ 63 * c) : zeros L F a (63 * c) = true ↔ ∀ x ∈ (content L F c).drop a, x = 0 := by
  rw [zeros_iff]
  constructor
  · intro hz x hx
    obtain ⟨i, hi, rfl⟩ := List.getElem_of_mem hx
    rw [List.length_drop, content_len] at hi
    rw [List.getElem_drop]
    have := hz (a + i) (by omega) (by omega)
    rw [← this, ← content_get L F c (a + i) (by omega)]
    simp [List.getD, content_len, (by omega : a + i < 63 * c)]
  · intro hx i h1 h2
    rw [← content_get L F c i h2]
    have hm : (content L F c).getD i 0 ∈ (content L F c).drop a := by
      rw [List.mem_iff_getElem]
      refine ⟨i - a, by rw [List.length_drop, content_len]; omega, ?_⟩
      rw [List.getElem_drop]
      simp [List.getD, content_len, h2, show a + (i - a) = i by omega]
    exact hx _ hm
/-- The head's first number, seen at the page itself. -/
theorem lead_page (s : ByteArray) (F : Nat) (h : F + 64 ≤ s.size) : lead (s.extract (F + 1) s.size) = word s.data.toList F 0 := by
  have e : (s.extract (F + 1) s.size).data.toList = s.data.toList.drop (F + 1) := by
    simp only [ByteArray.data_extract, Array.toList_extract, List.extract]
    rw [List.take_of_length_le]
    rw [List.length_drop, len_data]
    exact Nat.le_refl _
  unfold lead word cb
  rw [e]
  simp only [getD_drop]
end Go.Proofs.YtgmfjninimebmaaGreatDoor
