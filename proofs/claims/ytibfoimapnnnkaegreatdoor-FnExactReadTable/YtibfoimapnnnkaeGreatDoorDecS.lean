import Derived.Test.YtibfoimapnnnkaeGreatDoorDecX

namespace Go.Proofs.YtibfoimapnnnkaeGreatDoor
open Go.RowKit Go.Maps
set_option linter.unusedVariables false
set_option linter.unusedSimpArgs false

set_option maxRecDepth 100000 in
set_option maxHeartbeats 8000000 in
theorem specDec_any (s : ByteArray) (w : World) (hs : s.size ≤ 1048576) :
    Calls Tryz.prog 23 #[.string s] w fun e w' => ∃ a cap, e = .returned (.tuple #[.slice a (decL s).length cap, .bool (dec s).isSome]) ∧ ResE w' w.heap.size a (decL s) ∧ Below w.heap.size w w' := by
  have HS : Hid (s.size ≤ maxLen) := by show _ ≤ _; unfold maxLen; omega
  obtain ⟨i0, hi, hz0, hz1, hz2⟩ := info_parts iEntry_info
  generalize hD : dec s = D
  have HD : Hid (dec s = D) := hD
  have HL : Hid (decL s = D.getD []) := by show _ = _; rw [decL, hD]
  clear hD
  generalize decL s = dl at *
  have hb0 : Below w.heap.size w (w.alloc (.cells #[] 44)) := (Below.refl _ _).alloc (Nat.le_refl _) _
  cases hg : gv s 0 with
  | none =>
    have hDn : D = none := by rw [← HD.out]; exact dec_none0 hg
    subst hDn
    have hdl : dl = [] := HL.out
    subst hdl
    have HG : Hid (gvV 0 (gv s 0) = .tuple #[.int .i64 0, .int .i64 0, .bool false]) := by show _ = _; rw [hg]; rfl
    clear hg
    go_enter Tryz.func23, Tryz.ntmps23
    go_wp2_with fail
    refine (specGet_any s 0 _ HS.out).mono ?_
    rintro e w1 ⟨rfl, hb1⟩
    rw [HG.out]
    go_wp2_with fail
    go_ret2
    exact ⟨_, _, rfl, .inl rfl, hb0.trans (hb1.mono hb0.size)⟩
  | some q =>
    obtain ⟨n, c⟩ := q
    obtain ⟨-, g2, g3, -⟩ := gv_some (A := 0) hg
    have HG : Hid (gvV 0 (gv s 0) = .tuple #[.int .i64 n, .int .i64 (c : Int), .bool true]) := by show _ = _; rw [hg]; simp [gvV]
    by_cases hn : n ≤ 1000
    · have hn' : ¬ (1000 : Int) < n := by omega
      have HGS : Hid (gv s 0 = some (n, c)) := hg
      clear hg
      go_enter Tryz.func23, Tryz.ntmps23
      go_wp2_with fail
      refine (specGet_any s 0 _ HS.out).mono ?_
      rintro e w1 ⟨rfl, hb1⟩
      rw [HG.out]
      have hbw1 := hb0.trans (hb1.mono hb0.size)
      have hB1 := hbw1.size
      have hl1 := ownsE_lit w1 w.heap.size hB1
      have hb2 : Below w.heap.size w (w1.alloc (.cells #[] 44)) := hbw1.alloc hB1 _
      clear hb0 hb1 hbw1
      go_wp2_with fail
      go_loopw [6, 8, 9] (fun x v y wr => ∃ (k A : Nat) (xs : List En), y = .int .i64 k ∧ x = .int .i64 A ∧ k ≤ n ∧ ps s k c = some (xs, A) ∧ wr.ownsRow w.heap.size 44 4 v k (cellsE xs) ∧ Below w.heap.size w wr) (fun _ _ y _ => n - (intOf y).toNat)
      case atStart => exact ⟨0, c, [], rfl, rfl, by omega, rfl, hl1, hb2⟩
      case round =>
        obtain ⟨k, A, xs, rfl, rfl, hk, hps, hown, hb⟩ := hrel
        obtain ⟨-, -, hAs, hxl, hxf⟩ := ps_some (by omega) hps
        have hbs := hb.size
        by_cases hlt : k < n
        · have hlt' : (k : Int) < n := by omega
          have HN : Hid (pe s A = none → D = none) := fun h => by rw [← HD.out]; exact dec_none HGS.out (k := k + 1) (by simp only [ps, hps, h]) (by omega)
          have hx0 : (wr.alloc (.cells #[.string ByteArray.empty, .int .i64 0, .int .i64 0, .string ByteArray.empty] 44)).heap[wr.heap.size]? = some (.cells #[.string ByteArray.empty, .int .i64 0, .int .i64 0, .string ByteArray.empty] 44 (0, 0)) := World.heap_alloc_new _ _
          have hba : Below wr.heap.size wr (wr.alloc (.cells #[.string ByteArray.empty, .int .i64 0, .int .i64 0, .string ByteArray.empty] 44)) := (Below.refl _ _).alloc (Nat.le_refl _) _
          have ret : ∀ {x : ByteArray}, D = none → dl = [] := fun {x} h => by rw [HL.out, h]; rfl
          go_wp2_with fail
          refine (piece_any s A _ hs).mono ?_
          rintro e w3 ⟨rfl, hb3⟩
          have hbr3 := hba.trans (hb3.mono hba.size)
          have hx3 := (hb3.block wr.heap.size (by simp)).trans hx0
          cases hpc : pc s A with
          | none =>
            have hDn := HN.out (by simp only [pe, hpc])
            have hdl := ret (x := s) hDn
            subst hDn hdl
            dsimp only
            go_wp2_with fail
            go_ret2
            first | exact ⟨_, _, rfl, .inl rfl, hb.trans (hbr3.mono hbs)⟩ | exact ⟨_, ⟨_, rfl⟩, .inl rfl, hb.trans (hbr3.mono hbs)⟩
          | some qq =>
            obtain ⟨t, B⟩ := qq
            obtain ⟨-, hAB, hBs, hts⟩ := pc_some hpc
            dsimp only
            clear hx0 hba hb3
            go_wp2_with fail
            refine (specGet_any s (B : Int) _ HS.out).mono ?_
            rintro e w4 ⟨rfl, hb4⟩
            have hbr4 := hbr3.trans (hb4.mono hbr3.size)
            have hx4 := (hb4.block wr.heap.size (heap_lt hx3)).trans hx3
            cases hgv : gv s (B : Int) with
            | none =>
              have hDn := HN.out (by simp only [pe, hpc, hgv])
              have hdl := ret (x := s) hDn
              subst hDn hdl
              simp only [gvV]
              go_wp2_with fail
              go_ret2
              first | exact ⟨_, _, rfl, .inl rfl, hb.trans (hbr4.mono hbs)⟩ | exact ⟨_, ⟨_, rfl⟩, .inl rfl, hb.trans (hbr4.mono hbs)⟩
            | some qq =>
              obtain ⟨q, c2⟩ := qq
              obtain ⟨-, q2, q3, -⟩ := gv_some hgv
              simp only [gvV]
              clear hx3 hbr3 hb4
              by_cases hEnd : B + c2 < s.size
              · have hE1 : (B : Int) + c2 < s.size := by omega
                have hE0 : (0 : Int) ≤ (B : Int) + c2 := by omega
                have HEc : Hid (((B : Int) + c2 + 1) = ((B + c2 + 1 : Nat) : Int)) := by show _ = _; omega
                obtain ⟨⟨x0, x1, x2, x3⟩, z0, z1, z2, z3⟩ := four_cells hx4
                have hbyt := s[B + c2].toNat_lt
                have hx5 : (w4.setCell ⟨wr.heap.size, 2, none⟩ (.int .i64 (s[B + c2].toNat : Int))).heap[wr.heap.size]? = some (.cells #[.string ByteArray.empty, .int .i64 0, .int .i64 (s[B + c2].toNat : Int), .string ByteArray.empty] 44 (0, 0)) := by rw [heap_setCell_same _ _ _ _ _ _ hx4]; simp
                have hbr5 : Below wr.heap.size wr (w4.setCell ⟨wr.heap.size, 2, none⟩ (.int .i64 (s[B + c2].toNat : Int))) := hbr4.setCell (Nat.le_refl _) _
                have hwx : wrap64 (s[B + c2].toNat : Int) = s[B + c2].toNat := by unfold wrap64; omega
                have HPN : Hid (pc s (B + c2 + 1) = none → pe s A = none) := fun h => pe_no hpc hgv hEnd h
                have HPY : Hid (∀ v E, pc s (B + c2 + 1) = some (v, E) → pe s A = some (⟨t, q, s[B + c2].toNat, v⟩, E)) := fun v E h => pe_yes hpc hgv hEnd h
                clear hpc hgv
                go_wp2_with fail
                rw [HEc.out]
                refine (piece_any s (B + c2 + 1) _ hs).mono ?_
                rintro e w5 ⟨rfl, hb5⟩
                have hbr6 := hbr5.trans (hb5.mono hbr5.size)
                have hx6 := (hb5.block wr.heap.size (heap_lt hx5)).trans hx5
                clear hx5 hbr5 hb5 x0 x1 x2 x3 z0 z1 z2 z3 hx4 hbr4
                cases hpc2 : pc s (B + c2 + 1) with
                | none =>
                  have hDn := HN.out (HPN.out hpc2)
                  have hdl := ret (x := s) hDn
                  subst hDn hdl
                  dsimp only
                  go_wp2_with fail
                  go_ret2
                  first | exact ⟨_, _, rfl, .inl rfl, hb.trans (hbr6.mono hbs)⟩ | exact ⟨_, ⟨_, rfl⟩, .inl rfl, hb.trans (hbr6.mono hbs)⟩
                | some qv =>
                  obtain ⟨v, E⟩ := qv
                  have hP := HPY.out v E hpc2
                  have HPS : Hid (ps s (k + 1) c = some (xs ++ [⟨t, q, s[B + c2].toNat, v⟩], E)) := by show _ = _; simp only [ps, hps, hP]
                  have hbr7 : Below wr.heap.size wr (((w5.setCell ⟨wr.heap.size, 0, none⟩ (.string t)).setCell ⟨wr.heap.size, 1, none⟩ (.int .i64 (q : Int))).setCell ⟨wr.heap.size, 3, none⟩ (.string v)) := ((hbr6.setCell (Nat.le_refl _) _).setCell (Nat.le_refl _) _).setCell (Nat.le_refl _) _
                  have HO7 : Hid (World.ownsRow (((w5.setCell ⟨wr.heap.size, 0, none⟩ (.string t)).setCell ⟨wr.heap.size, 1, none⟩ (.int .i64 (q : Int))).setCell ⟨wr.heap.size, 3, none⟩ (.string v)) w.heap.size 44 4 _ k (cellsE xs)) := owns_below hown hbr7
                  have hwb : w.heap.size ≤ w5.heap.size := Nat.le_trans hbs (by simpa [World.setCell] using hbr7.size)
                  have hsz7 : (((w5.setCell ⟨wr.heap.size, 0, none⟩ (.string t)).setCell ⟨wr.heap.size, 1, none⟩ (.int .i64 (q : Int))).setCell ⟨wr.heap.size, 3, none⟩ (.string v)).heap.size = w5.heap.size := by simp
                  have HC : Hid (∀ j u, [Value.string t, .int .i64 (q : Int), .int .i64 (s[B + c2].toNat : Int), .string v][j]? = some u → ((((w5.setCell ⟨wr.heap.size, 0, none⟩ (.string t)).setCell ⟨wr.heap.size, 1, none⟩ (.int .i64 (q : Int))).setCell ⟨wr.heap.size, 3, none⟩ (.string v)).alloc (.cells #[.string t, .int .i64 (q : Int), .int .i64 (s[B + c2].toNat : Int), .string v] 44)).cell? ((⟨w5.heap.size, 0, none⟩ : Addr).add j) = some u) := by
                    have h := cell_first4 (((w5.setCell ⟨wr.heap.size, 0, none⟩ (.string t)).setCell ⟨wr.heap.size, 1, none⟩ (.int .i64 (q : Int))).setCell ⟨wr.heap.size, 3, none⟩ (.string v)) (.string t) (.int .i64 (q : Int)) (.int .i64 (s[B + c2].toNat : Int)) (.string v) 44
                    rw [hsz7] at h
                    exact h
                  have HBs : Hid (w.heap.size ≤ ((((w5.setCell ⟨wr.heap.size, 0, none⟩ (.string t)).setCell ⟨wr.heap.size, 1, none⟩ (.int .i64 (q : Int))).setCell ⟨wr.heap.size, 3, none⟩ (.string v)).alloc (.cells #[.string t, .int .i64 (q : Int), .int .i64 (s[B + c2].toNat : Int), .string v] 44)).heap.size) := by show _ ≤ _; simp; omega
                  clear hP hpc2 ret HN HPN HPY hsz7
                  obtain ⟨⟨x0, x1, x2, x3⟩, z0, z1, z2, z3⟩ := four_cells hx6
                  clear hx6
                  dsimp only
                  go_wp2_with (at_builtin; refine wpList_append_own _ rfl _ _ 22 rfl w.heap.size 44 i0 _ 4 48 Tryz.underlying22 hi hz0 hz1 hz2 rfl (by decide) _ _ _ rfl (HO7.out.alloc _) ⟨w5.heap.size, 0, none⟩ 1 1 [.string t, .int .i64 (q : Int), .int .i64 (s[B + c2].toNat : Int), .string v] rfl rfl HC.out (fun x hx => by simp at hx; rcases hx with rfl | rfl | rfl | rfl <;> rfl) (by unfold maxLen; omega) (by omega) HBs.out ?_; intro v' w8 hown8 hgrow hnil)
                  refine ⟨⟨k + 1, E, xs ++ [⟨t, q, s[B + c2].toNat, v⟩], by simp, by simp, by omega, HPS.out, ?_, ?_⟩, by simp only [intOf]; omega⟩
                  · rw [cellsE_snoc]; exact hown8
                  · exact ((hb.trans (hbr7.mono hbs)).alloc (by simp; omega) _).grown hgrow HBs.out (owns_base hown)
              · have hE1 : ¬ (B : Int) + c2 < s.size := by omega
                have hDn := HN.out (by simp only [pe, hpc, hgv]; rw [dif_neg hEnd])
                have hdl := ret (x := s) hDn
                subst hDn hdl
                go_wp2_with fail
                go_ret2
                first | exact ⟨_, _, rfl, .inl rfl, hb.trans (hbr4.mono hbs)⟩ | exact ⟨_, ⟨_, rfl⟩, .inl rfl, hb.trans (hbr4.mono hbs)⟩
        · have hkn : n = k := by omega
          subst hkn
          subst hxl
          have hlt' : ¬ (xs.length : Int) < xs.length := by omega
          obtain ⟨-, a, cap, rfl, hres⟩ := resE_of_owns hown
          have HDE : Hid (D = if encT xs = s then some xs else none) := by show _ = _; rw [← HD.out]; simp only [dec, HGS.out, if_pos hn, hps]
          have HF : Hid (FitsE xs) := fun e he => by have := hxf e he; unfold maxLen; omega
          go_wp2_with fail
          refine (specEnc_any a cap xs _ hres.lie HF.out (by omega)).mono ?_
          rintro e w3 ⟨rfl, hb3⟩
          have hres3 := hres.below hb3
          have hbw3 := hb.trans (hb3.mono hbs)
          by_cases hE : encT xs = s
          · have hDs : D = some xs := by rw [HDE.out, if_pos hE]
            have hdl : dl = xs := by rw [HL.out, hDs]; rfl
            subst hDs hdl
            have hcmp : ((encT dl).toList == s.toList) = true := by rw [hE]; simp
            go_wp2_with fail
            go_ret2
            first | exact ⟨_, _, rfl, hres3, hbw3⟩ | exact ⟨_, ⟨_, rfl⟩, hres3, hbw3⟩
          · have hDs : D = none := by rw [HDE.out, if_neg hE]
            have hdl : dl = [] := by rw [HL.out, hDs]; rfl
            subst hDs hdl
            have hcmp : ((encT xs).toList == s.toList) = false := by
              cases h : ((encT xs).toList == s.toList) with
              | false => rfl
              | true => exact absurd (toList_eq' h) hE
            go_wp2_with fail
            go_ret2
            first | exact ⟨_, _, rfl, .inl rfl, hbw3⟩ | exact ⟨_, ⟨_, rfl⟩, .inl rfl, hbw3⟩
    · have hDn : D = none := by rw [← HD.out]; exact dec_long hg hn
      subst hDn
      have hdl : dl = [] := HL.out
      subst hdl
      have hn' : (1000 : Int) < n := by omega
      clear hg
      go_enter Tryz.func23, Tryz.ntmps23
      go_wp2_with fail
      refine (specGet_any s 0 _ HS.out).mono ?_
      rintro e w1 ⟨rfl, hb1⟩
      rw [HG.out]
      go_wp2_with fail
      go_ret2
      exact ⟨_, _, rfl, .inl rfl, hb0.trans (hb1.mono hb0.size)⟩
end Go.Proofs.YtibfoimapnnnkaeGreatDoor
