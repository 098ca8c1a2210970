import Derived.Test.YtogcpllpkdeehaaGreatDoorTaY

namespace Go.Proofs.YtogcpllpkdeehaaGreatDoor
open Go.RowKit Go.Maps
set_option linter.unusedVariables false
set_option linter.unusedSimpArgs false

theorem tabT_small {xs : List En} (hl : xs.length ≤ 41) : (tabT xs).size ≤ 1048576 := by
  by_cases h0 : (tabT xs).size = 0
  · omega
  have ha := (tab_frs h0).1
  have hn : nbE xs.length ≤ 6 := by unfold nbE; omega
  have h1 := tab_len ha (nbE xs.length)
  have h2 := tab_idx ha (nbE xs.length)
  have hv : (vb (nbE xs.length)).length ≤ 8 := vbf_length_le 7 _
  have hv2 : (vb ((tab xs (nbE xs.length)).1.length / 64)).length ≤ 8 := vbf_length_le 7 _
  have s1 : (⟨(vb (nbE xs.length) ++ (tab xs (nbE xs.length)).2).toArray⟩ : ByteArray).size ≤ 12200 := by
    show ((vb (nbE xs.length) ++ (tab xs (nbE xs.length)).2).toArray).size ≤ 12200
    rw [List.size_toArray, List.length_append]
    omega
  have s2 : (⟨(vb ((tab xs (nbE xs.length)).1.length / 64)).toArray⟩ : ByteArray).size ≤ 8 := by
    show ((vb ((tab xs (nbE xs.length)).1.length / 64)).toArray).size ≤ 8
    rw [List.size_toArray]
    exact hv2
  have f1 : (idxT xs).size ≤ 12500 := by
    unfold idxT
    rw [frT_size (by decide) (by omega)]
    unfold pagesN
    omega
  have f2 : (frT 70 ⟨(vb ((tab xs (nbE xs.length)).1.length / 64)).toArray⟩).size ≤ 200 := by
    rw [frT_size (by decide) (by omega)]
    unfold pagesN
    omega
  unfold tabT
  split
  · unfold tabX
    split
    · decide
    · show (((tab xs (nbE xs.length)).1 ++ (idxT xs).data.toList ++ (frT 70 ⟨(vb ((tab xs (nbE xs.length)).1.length / 64)).toArray⟩).data.toList).toArray).size ≤ 1048576
      rw [List.size_toArray, List.length_append, List.length_append, dataL, dataL]
      omega
  · decide
theorem midE_fits {xs : List En} (h : MidE xs) : FitsE xs := fun e he => by
  have := h e he
  unfold maxLen
  omega

set_option maxRecDepth 100000 in
set_option maxHeartbeats 8000000 in
theorem lawTable_any (a : Option Addr) (cap : Nat) (bs : List UInt8) (w : World) (hx : LieB w a bs) (hl : bs.length ≤ maxLen) (ht : Steps w) :
    Calls Tryz.prog 3 #[.slice a bs.length cap] w fun e w' => e = .returned (.bool true) ∧ Below w.heap.size w w' := by
  unfold maxLen at hl
  by_cases hbig : (1048576 : Int) < (bs.length : Int)
  · go_enter Tryz.func3, Tryz.ntmps3
    go_wp2
    go_ret
    exact ⟨rfl, Below.refl _ _⟩
  have HD := hd0 (fun (w' : World) (hb : Below w.heap.size w w') => drawTable_any a cap bs w' (hx.below hb) (by omega))
  have HSt := hd0 (fun (w' : World) (hb : Below w.heap.size w w') => ht.below hb)
  obtain ⟨hmid, hl41⟩ := dbT_mid bs
  generalize dbT bs = xs at *
  have i1 : ¬ (1048576 : Int) < (bs.length : Int) := hbig
  generalize bs.length = len at *
  clear hx hl hbig
  have hfit := midE_fits hmid
  have hsz := tabT_small hl41
  have HIT := hd0 (fun (w' : World) (a' : Option Addr) (c' : Nat) (hL : LieE w' a' xs) (hc : xs.length ≤ c') (hb : Below w.heap.size w w') => implTab_any a' c' xs w' hL hfit (by omega) hc (ht.below hb))
  have HST := hd0 (fun (w' : World) (a' : Option Addr) (c' : Nat) (hL : LieE w' a' xs) (hc : xs.length ≤ c') => specTab_any a' c' xs w' hL hfit (by omega) hc)
  have HRT := hd0 (fun (s : ByteArray) (w' : World) (hs : s.size ≤ 1048576) (hb : Below w.heap.size w w') => implRT_any s w' hs (ht.below hb))
  have HSv := hd0 (fun (s : ByteArray) (w' : World) (hs : s.size ≤ 1048576) (hb : Below w.heap.size w w') => implSalv_any s 66 w' hs (ht.below hb))
  have HPr : Hid ((tabT xs).size ≠ 0 → rtO (tabT xs) = some xs ∧ svL (tabT xs) 66 = ((List.range (nbE xs.length)).map fun j => encT (subE xs j)) ∧ xs.all entOk = true) := fun h => ⟨tab_rt h, tab_sv h, (tab_frs h).1⟩
  have HMod := hd0 (tabT_mod xs)
  generalize tabT xs = s at *
  clear ht
  go_enter Tryz.func3, Tryz.ntmps3
  go_wp2_with fail
  refine (HD.out _ (Below.refl _ _)).mono ?_
  rintro e w1 ⟨a3, c3, rfl, hc3, hL3, hb1⟩
  go_wp2_with fail
  refine (HD.out _ hb1).mono ?_
  rintro e w2 ⟨a4, c4, rfl, hc4, hL4, hb2⟩
  have hbw2 := hb1.trans (hb2.mono hb1.size)
  replace hL3 := hL3.below hb2
  clear hb1 hb2 HD
  go_wp2_with fail
  refine (HIT.out _ a3 c3 hL3 hc3 hbw2).mono ?_
  rintro e w3 ⟨rfl, hb3⟩
  have hbw3 := hbw2.trans (hb3.mono hbw2.size)
  replace hL4 := hL4.below hb3
  clear hb3 hbw2 HIT hL3
  go_wp2_with fail
  refine (HST.out _ a4 c4 hL4 hc4).mono ?_
  rintro e w4 ⟨rfl, hb4⟩
  have hbw4 := hbw3.trans (hb4.mono hbw3.size)
  replace hL4 := hL4.below hb4
  clear hb4 hbw3 HST
  by_cases h0 : s.size = 0
  · have h0' : (s.size : Int) = 0 := by omega
    go_wp2_with fail
    go_ret
    exact ⟨by first | rfl | simp [h0], hbw4⟩
  have h0' : ¬ (s.size : Int) = 0 := by omega
  obtain ⟨hrt, hsv, hall⟩ := HPr.out h0
  have hrl : rtL s = xs := rtL_some hrt
  have HR1 := hd0 (HRT.out s w4 hsz hbw4)
  rw [hrl, hrt] at HR1
  clear HPr hrl hrt
  go_wp2_with fail
  refine HR1.out.mono ?_
  rintro e w5 ⟨a6, c6, rfl, hr6, hb5⟩
  have hbw5 := hbw4.trans (hb5.mono hbw4.size)
  replace hL4 := hL4.below hb5
  have hL6 := hr6.lie
  clear hb5 hbw4 HR1 hr6
  have HW5 := hd0 (wSameEntries_same a6 a4 c6 c4 xs w5 hL6 hL4 (by omega))
  go_wp2_with fail
  refine HW5.out.mono ?_
  rintro e w6 ⟨rfl, hb6⟩
  have hbw6 := hbw5.trans (hb6.mono hbw5.size)
  replace hL4 := hL4.below hb6
  clear hb6 hbw5 HW5 hL6
  have HS6 := hd0 (HSv.out s w6 hsz hbw6)
  rw [hsv] at HS6
  clear hsv HSv
  have hbl : ((List.range (nbE xs.length)).map fun j => encT (subE xs j)).length = nbE xs.length := by simp
  have HBL := hd0 (fun (i : Nat) (h : i < nbE xs.length) => show ((List.range (nbE xs.length)).map fun j => encT (subE xs j)).getD i ByteArray.empty = encT (subE xs i) by simp [List.getD_eq_getElem?_getD, h])
  have hnb : nbE xs.length ≤ 6 := by unfold nbE; omega
  have HNB : Hid (nbE xs.length = (xs.length + 7) / 8) := rfl
  generalize hB : ((List.range (nbE xs.length)).map fun j => encT (subE xs j)) = bl at *
  clear hB
  generalize nbE xs.length = nb at *
  subst hbl
  go_wp2_with fail
  refine HS6.out.mono ?_
  rintro e w7 ⟨a8, c8, rfl, hr8, hb7⟩
  have hbw7 := hbw6.trans (hb7.mono hbw6.size)
  replace hL4 := hL4.below hb7
  clear hb7 hbw6 HS6
  go_wp2_with fail
  go_loopw [9, 10] (fun av iv wr => ∃ i : Nat, i ≤ bl.length ∧ iv = .int .i64 i ∧ av = .int .i64 ((min (8 * i) xs.length : Nat) : Int) ∧ Below w7.heap.size w7 wr) (fun _ iv _ => bl.length - (intOf iv).toNat)
  case atStart => exact ⟨0, Nat.zero_le _, rfl, by simp, Below.refl _ _⟩
  case round =>
    obtain ⟨i, hil, rfl, rfl, hb⟩ := hrel
    have hbwr := hbw7.trans (hb.mono hbw7.size)
    by_cases hlt : i < bl.length
    · have hlt' : (i : Int) < bl.length := by omega
      obtain ⟨g, rfl, hg, hrow⟩ : ∃ g, a8 = some ⟨g, 0, none⟩ ∧ w6.heap.size ≤ g ∧ RowS w7 g bl.length bl bl.length := by
        rcases hr8 with h | h
        · rw [h] at hlt; simp at hlt
        · exact h
      have hcl := (hb.cell (p := ⟨g, i, none⟩) hrow.lt).trans (hrow.at hlt)
      rw [HBL.out i hlt] at hcl
      have h8i : 8 * i < xs.length := by have := HNB.out; omega
      have hmin : min (8 * i) xs.length = 8 * i := by omega
      rw [hmin]
      clear hmin
      have hP := subE_size hall i
      have HDc := hd0 (implDec_any (encT (subE xs i)) wr (by omega))
      have hdl : decL (encT (subE xs i)) = subE xs i := by unfold decL; rw [sub_dec hall i]; rfl
      rw [hdl, sub_dec hall i] at HDc
      clear hdl
      generalize encT (subE xs i) = P at *
      have hL := hL4.below hb
      obtain ⟨b, off, rfl, hbl2, -⟩ := hL.at h8i
      have hLs := hL.sub (k := i) (f := 8 * i) rfl h8i
      have hsl := subE_len xs i
      by_cases hto : xs.length < 8 * i + 8
      · have hto' : (xs.length : Int) < 8 * (i : Int) + 8 := by omega
        have hsl' : (subE xs i).length = xs.length - 8 * i := by omega
        go_wp2_with fail
        refine HDc.out.mono ?_
        rintro e w8 ⟨a11, c11, rfl, hr11, hb8⟩
        have hbb := hb.trans (hb8.mono hb.size)
        have HWs := hd0 (wSameEntries_same a11 (some ⟨b, off + 8 * i * 4, none⟩) c11 (c4 - 8 * i) (subE xs i) w8 hr11.lie (hLs.below hb8) (by omega))
        rw [hsl'] at HWs ⊢
        clear hsl hsl'
        go_wp2_with fail
        refine HWs.out.mono ?_
        rintro e w9 ⟨rfl, hb9⟩
        have hbb9 := hbb.trans (hb9.mono hbb.size)
        go_wp2_with fail
        exact ⟨⟨i + 1, by omega, by go_num, by rw [show min (8 * (i + 1)) xs.length = xs.length by omega], hbb9⟩, by simp [intOf]; omega⟩
      · have hto' : ¬ (xs.length : Int) < 8 * (i : Int) + 8 := by omega
        have hsl' : (subE xs i).length = 8 := by omega
        go_wp2_with fail
        refine HDc.out.mono ?_
        rintro e w8 ⟨a11, c11, rfl, hr11, hb8⟩
        have hbb := hb.trans (hb8.mono hb.size)
        have HWs := hd0 (wSameEntries_same a11 (some ⟨b, off + 8 * i * 4, none⟩) c11 (c4 - 8 * i) (subE xs i) w8 hr11.lie (hLs.below hb8) (by omega))
        rw [hsl'] at HWs ⊢
        clear hsl hsl'
        go_wp2_with fail
        refine HWs.out.mono ?_
        rintro e w9 ⟨rfl, hb9⟩
        have hbb9 := hbb.trans (hb9.mono hbb.size)
        go_wp2_with fail
        exact ⟨⟨i + 1, by omega, by go_num, by rw [show min (8 * (i + 1)) xs.length = 8 * i + 8 by omega]; rfl, hbb9⟩, by simp [intOf]; omega⟩
    · obtain rfl : i = bl.length := by omega
      have hlt' : ¬ ((bl.length : Nat) : Int) < bl.length := by omega
      have hmin : min (8 * bl.length) xs.length = xs.length := by have := HNB.out; omega
      rw [hmin]
      clear hmin
      have hes : (s.extract 0 (s.size - 1)).size = s.size - 1 := by rw [ByteArray.size_extract]; omega
      have hno : rtO (s.extract 0 (s.size - 1)) = none := tab_less (by rw [hes]; have := HMod.out; omega)
      have HR2 := hd0 (HRT.out (s.extract 0 (s.size - 1)) wr (by omega) hbwr)
      rw [rtL_none hno, hno] at HR2
      have hs1 : (0 : Int) ≤ (s.size : Int) - 1 := by omega
      have hs2 : (s.size : Int) - 1 ≤ s.size := by omega
      have hs3 : ((s.size : Int) - 1).toNat = s.size - 1 := by omega
      clear hes hno
      go_wp2_with fail
      refine HR2.out.mono ?_
      rintro e w8 ⟨a9, c9, rfl, -, hb8⟩
      go_wp2_with fail
      go_ret
      exact ⟨rfl, hbwr.trans (hb8.mono hbwr.size)⟩
end Go.Proofs.YtogcpllpkdeehaaGreatDoor
