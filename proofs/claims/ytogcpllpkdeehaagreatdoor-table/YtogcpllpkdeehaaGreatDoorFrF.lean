import Derived.Test.YtogcpllpkdeehaaGreatDoorFrX

namespace Go.Proofs.YtogcpllpkdeehaaGreatDoor
open Go.RowKit Go.Maps
set_option linter.unusedVariables false
set_option linter.unusedSimpArgs false

theorem World.heap_alloc_new (w : World) (o : Obj) : (w.alloc o).heap[w.heap.size]? = some o := by
  show (w.heap.push o)[w.heap.size]? = _
  simp
theorem owns_lit (w : World) (B : Nat) (hB : B ≤ w.heap.size) : (w.alloc (.cells #[] 5)).ownsRow B 5 1 (.slice (some ⟨w.heap.size, 0, none⟩) 0 0) 0 (bc []) :=
  ⟨rfl, .inr ⟨w.heap.size, 0, #[], rfl, hB, World.heap_alloc_new _ _, Nat.le_refl _, Nat.zero_le _, rfl, rfl⟩⟩
theorem bc_snoc (l : List UInt8) (n : Nat) (h : n < 256) : bc (l ++ [UInt8.ofNat n]) = bc l ++ [.int .u8 (n : Int)] := by
  simp only [bc, List.map_append, List.map_cons, List.map_nil]
  rw [byte_cell n h]
theorem bc_snoc' (l : List UInt8) (x : UInt8) : bc (l ++ [x]) = bc l ++ [.int .u8 (x.toNat : Int)] := by simp [bc]
theorem text_at (s : ByteArray) (i : Nat) (h : i < s.size) : s.data.toList.getD i 0 = s[i] := by
  have h' : i < s.data.size := h
  simp only [List.getD, Array.getElem?_toList, ByteArray.getElem_eq_getElem_data]
  rw [Array.getElem?_eq_getElem h']
  rfl
theorem body_text (a b : List UInt8) (p : ByteArray) : ((⟨a.toArray⟩ : ByteArray) ++ ⟨b.toArray⟩) ++ p = ⟨(a ++ b ++ p.data.toList).toArray⟩ := by
  apply ByteArray.ext
  simp

set_option maxRecDepth 100000 in
set_option maxHeartbeats 2000000 in
theorem specFrame_in (k : Nat) (p : ByteArray) (w : World) (hk : kindOk k = true) (hp : p.size ≤ 1048576) :
    Calls Tryz.prog 30 #[.int .i64 k, .string p] w fun e w' => e = .returned (.string ⟨(frB k p.data.toList).toArray⟩) ∧ Below w.heap.size w w' := by
  obtain ⟨i0, hi, hz0, hz1, hz2⟩ := info_parts u8_info
  have hk' : k < 256 := by have := kindOk_cases hk; omega
  have hpl : p.data.toList.length = p.size := len_data p
  have HC : Hid ((⟨#[UInt8.ofNat (k : Int).toNat]⟩ : ByteArray) ++ p = ⟨(UInt8.ofNat k :: p.data.toList).toArray⟩) := cons_text _ _
  have HCL := crc_lt (UInt8.ofNat k :: p.data.toList)
  have HBT : Hid (((⟨(four p.size).toArray⟩ : ByteArray) ++ ⟨(four (crc (UInt8.ofNat k :: p.data.toList))).toArray⟩) ++ p = ⟨(body k p.data.toList).toArray⟩) := by show _ = _; rw [body_text, ← hpl]; rfl
  have hf4 : ∀ n, (⟨(four n).toArray⟩ : ByteArray).size = 4 := fun n => rfl
  have g1 : ¬ 9223372036854775807 < 1 + p.size := by omega
  have HS : Hid (((⟨#[UInt8.ofNat (k : Int).toNat]⟩ : ByteArray) ++ p).size ≤ maxLen) := by show _ ≤ _; rw [ByteArray.size_append]; show 1 + p.size ≤ _; unfold maxLen; omega
  have hp' : (p.size : Int) ≤ 1048576 := by omega
  have HB : Hid (frB k p.data.toList = fby k (body k p.data.toList) (63 * pagesN (body k p.data.toList).length)) := rfl
  have HBL : Hid ((body k p.data.toList).length = 8 + p.size) := by show _ = _; rw [body_len, hpl]
  generalize frB k p.data.toList = T at *
  generalize hbd : body k p.data.toList = bd at *
  clear hbd hpl
  go_enter Tryz.func30, Tryz.ntmps30
  go_wp2_with fail
  refine (l2KindOk_any _ _).mono ?_
  rintro e w0 ⟨rfl, hw0⟩
  have hw1 := hw0.symm
  subst hw1
  rw [hk]
  go_wp2_with fail
  refine (l2Four_any p.size _ (by omega)).mono ?_
  rintro e w1 ⟨rfl, hb1⟩
  go_wp2_with fail
  refine (l2Byte_any _ _ (by omega) (by omega)).mono ?_
  rintro e w2 ⟨rfl, hb2⟩
  have hbw2 := hb1.trans (hb2.mono hb1.size)
  go_wp2_with fail
  refine (specCrc_any _ _ HS.out).mono ?_
  rintro e w3 ⟨rfl, hb3⟩
  have hbw3 := hbw2.trans (hb3.mono hbw2.size)
  rw [HC.out]
  go_wp2_with fail
  refine (l2Four_any (crc (UInt8.ofNat k :: p.data.toList)) _ HCL).mono ?_
  rintro e w4 ⟨rfl, hb4⟩
  have hbw4 := hbw3.trans (hb4.mono hbw3.size)
  have hB4 := hbw4.size
  clear hb1 hb2 hb3 hb4 hbw2 hbw3
  generalize hfa : (⟨(four p.size).toArray⟩ : ByteArray) = fa at *
  generalize hfb : (⟨(four (crc (UInt8.ofNat k :: p.data.toList))).toArray⟩ : ByteArray) = fb at *
  have sa : fa.size = 4 := by rw [← hfa]; rfl
  have sb : fb.size = 4 := by rw [← hfb]; rfl
  clear hfa hfb hf4
  have g2 : ¬ 9223372036854775807 < fa.size + fb.size := by omega
  have g3 : ¬ 9223372036854775807 < fa.size + fb.size + p.size := by omega
  go_wp2_with fail
  generalize hbt : fa ++ fb ++ p = bt at *
  have htl : bt.data.toList = bd := by rw [HBT.out]
  have hsz : bt.size = bd.length := by rw [← len_data, htl]
  have hBL := HBL.out
  have hk2 := hk'
  have hN : bd.length ≤ 63 * pagesN bd.length := pages_ge _
  have hN2 : 63 * pagesN bd.length ≤ bd.length + 62 := by unfold pagesN; omega
  have hN3 : (63 * pagesN bd.length) % 63 = 0 := by omega
  have HL : Hid (∀ i, i ≤ 63 * pagesN bd.length → (fby k bd i).length ≤ 3000000) := fun i hi' => by rw [fby_len]; unfold pagesN at *; omega
  have hl0 : (w4.alloc (.cells #[] 5)).ownsRow w.heap.size 5 1 (.slice (some ⟨w4.heap.size, 0, none⟩) 0 0) ([] : List UInt8).length (bc []) := owns_lit w4 w.heap.size hB4
  have hb5 : Below w.heap.size w (w4.alloc (.cells #[] 5)) := hbw4.alloc hB4 _
  clear hbt HBT HC HS HCL g1 g2 g3 hbw4 HBL
  generalize hNN : 63 * pagesN bd.length = N at *
  go_loopw [6, 7] (fun v y wr => ∃ i : Nat, y = .int .i64 i ∧ i ≤ N ∧ wr.ownsRow w.heap.size 5 1 v (fby k bd i).length (bc (fby k bd i)) ∧ Below w.heap.size w wr) (fun _ y _ => N - (intOf y).toNat)
  case atStart => exact ⟨0, rfl, by omega, hl0, hb5⟩
  case round =>
    obtain ⟨i, rfl, hin, hown, hb⟩ := hrel
    have hbs := hb.size
    have hlen := HL.out i hin
    by_cases hlt : i < N
    · by_cases h0 : i = 0
      · subst h0
        have hib : 0 < bt.size := by omega
        have hib' : (0 : Int) < bt.size := by omega
        have HE : Hid (fby k bd (0 + 1) = fby k bd 0 ++ [UInt8.ofNat k] ++ [bt[0]]) := by
          show fby k bd 0 ++ hdr k 0 ++ [bd.getD 0 0] = _
          have e : hdr k 0 = [UInt8.ofNat k] := by unfold hdr; rfl
          rw [e, ← htl, text_at bt 0 hib]
        generalize fby k bd 0 = m at *
        go_wp2_with (first | (at_builtin; have _t := hbs1; refine wpList_append_own _ rfl _ _ 22 rfl w.heap.size 5 i0 (.int .u8 0) 1 1 Tryz.underlying22 hi hz0 hz1 hz2 rfl (by decide) _ _ _ rfl (ho1.alloc _) ⟨w5.heap.size, 0, none⟩ 1 1 [.int .u8 (bt[0].toNat : Int)] rfl rfl (cell_one_new _ _ _) (fun x hx => by simp at hx; subst hx; rfl) (by unfold maxLen; omega) (by omega) (by simp; omega) ?_; intro v6 w6 ho2 hg2 _) | (at_builtin; refine wpList_append_own _ rfl _ _ 22 rfl w.heap.size 5 i0 (.int .u8 0) 1 1 Tryz.underlying22 hi hz0 hz1 hz2 rfl (by decide) _ _ _ rfl (hown.alloc _) ⟨wr.heap.size, 0, none⟩ 1 1 [.int .u8 (k : Int)] rfl rfl (cell_one_new _ _ _) (fun x hx => by simp at hx; subst hx; rfl) (by unfold maxLen; omega) (by omega) (by simp; omega) ?_; intro v5 w5 ho1 hg1 _; have hb1 : Below w.heap.size w w5 := (hb.alloc (by omega) _).grown hg1 (by simp; omega) (owns_base hown); have hbs1 := hb1.size))
        refine ⟨⟨0 + 1, by simp, by omega, ?_, (hb1.alloc (by omega) _).grown hg2 (by simp; omega) (owns_base ho1)⟩, by simp only [intOf]; omega⟩
        rw [HE.out, bc_snoc', List.length_append, bc_snoc _ k hk2, List.length_append]
        exact ho2
      · have h0' : ¬ (i : Int) = 0 := by omega
        by_cases hm : i % 63 = 0
        · have hib : i < bt.size := by omega
          have hib' : (i : Int) < bt.size := by omega
          have hm' : (i : Int) % 63 = 0 := by omega
          have HE : Hid (fby k bd (i + 1) = fby k bd i ++ [99] ++ [bt[i]]) := by
            show fby k bd i ++ hdr k i ++ [bd.getD i 0] = _
            have e : hdr k i = [99] := by unfold hdr; rw [if_neg h0, if_pos hm]
            rw [e, ← htl, text_at bt i hib]
          generalize fby k bd i = m at *
          go_wp2_with (first | (at_builtin; have _t := hbs1; refine wpList_append_own _ rfl _ _ 22 rfl w.heap.size 5 i0 (.int .u8 0) 1 1 Tryz.underlying22 hi hz0 hz1 hz2 rfl (by decide) _ _ _ rfl (ho1.alloc _) ⟨w5.heap.size, 0, none⟩ 1 1 [.int .u8 (bt[i].toNat : Int)] rfl rfl (cell_one_new _ _ _) (fun x hx => by simp at hx; subst hx; rfl) (by unfold maxLen; omega) (by omega) (by simp; omega) ?_; intro v6 w6 ho2 hg2 _) | (at_builtin; refine wpList_append_own _ rfl _ _ 22 rfl w.heap.size 5 i0 (.int .u8 0) 1 1 Tryz.underlying22 hi hz0 hz1 hz2 rfl (by decide) _ _ _ rfl (hown.alloc _) ⟨wr.heap.size, 0, none⟩ 1 1 [.int .u8 99] rfl rfl (cell_one_new _ _ _) (fun x hx => by simp at hx; subst hx; rfl) (by unfold maxLen; omega) (by omega) (by simp; omega) ?_; intro v5 w5 ho1 hg1 _; have hb1 : Below w.heap.size w w5 := (hb.alloc (by omega) _).grown hg1 (by simp; omega) (owns_base hown); have hbs1 := hb1.size))
          refine ⟨⟨i + 1, by simp, by omega, ?_, (hb1.alloc (by omega) _).grown hg2 (by simp; omega) (owns_base ho1)⟩, by simp only [intOf]; omega⟩
          rw [HE.out, bc_snoc', List.length_append, bc_snoc', List.length_append]
          exact ho2
        · have hm' : ¬ (i : Int) % 63 = 0 := by omega
          by_cases hib : i < bt.size
          · have hib' : (i : Int) < bt.size := by omega
            have HE : Hid (fby k bd (i + 1) = fby k bd i ++ [bt[i]]) := by
              show fby k bd i ++ hdr k i ++ [bd.getD i 0] = _
              have e : hdr k i = [] := by unfold hdr; rw [if_neg (by omega), if_neg (by omega)]
              rw [e, ← htl, text_at bt i hib, List.append_nil]
            generalize fby k bd i = m at *
            go_wp2_with (at_builtin; refine wpList_append_own _ rfl _ _ 22 rfl w.heap.size 5 i0 (.int .u8 0) 1 1 Tryz.underlying22 hi hz0 hz1 hz2 rfl (by decide) _ _ _ rfl (hown.alloc _) ⟨wr.heap.size, 0, none⟩ 1 1 [.int .u8 (bt[i].toNat : Int)] rfl rfl (cell_one_new _ _ _) (fun x hx => by simp at hx; subst hx; rfl) (by unfold maxLen; omega) (by omega) (by simp; omega) ?_; intro v5 w5 ho1 hg1 _)
            refine ⟨⟨i + 1, by simp, by omega, ?_, (hb.alloc (by omega) _).grown hg1 (by simp; omega) (owns_base hown)⟩, by simp only [intOf]; omega⟩
            rw [HE.out, bc_snoc', List.length_append]
            exact ho1
          · have hib' : ¬ (i : Int) < bt.size := by omega
            have hz : bd.getD i 0 = 0 := by simp [List.getD, (by omega : bd.length ≤ i)]
            have hm2 : ((i : Int) % 63 != 0) = true := by simpa using hm'
            have HE : Hid (fby k bd (i + 1) = fby k bd i ++ [0]) := by
              show fby k bd i ++ hdr k i ++ [bd.getD i 0] = _
              have e : hdr k i = [] := by unfold hdr; rw [if_neg (by omega), if_neg (by omega)]
              rw [e, hz, List.append_nil]
            generalize fby k bd i = m at *
            go_wp2_with (at_builtin; refine wpList_append_own _ rfl _ _ 22 rfl w.heap.size 5 i0 (.int .u8 0) 1 1 Tryz.underlying22 hi hz0 hz1 hz2 rfl (by decide) _ _ _ rfl (hown.alloc _) ⟨wr.heap.size, 0, none⟩ 1 1 [.int .u8 0] rfl rfl (cell_one_new _ _ _) (fun x hx => by simp at hx; subst hx; rfl) (by unfold maxLen; omega) (by omega) (by simp; omega) ?_; intro v5 w5 ho1 hg1 _)
            refine ⟨⟨i + 1, by simp, by omega, ?_, (hb.alloc (by omega) _).grown hg1 (by simp; omega) (owns_base hown)⟩, by simp only [intOf]; omega⟩
            rw [HE.out, bc_snoc', List.length_append]
            exact ho1
    · obtain rfl : i = N := by omega
      have e1 : ¬ (i : Int) < bt.size := by omega
      have e2 : (i : Int) % 63 = 0 := by omega
      rw [← HB.out] at hown
      have hcv := conv_row hown (by intro h; have e := congrArg List.length h; rw [HB.out, fby_len] at e; simp at e; omega)
      go_wp2_with fail
      go_ret
      exact ⟨rfl, hb⟩
end Go.Proofs.YtogcpllpkdeehaaGreatDoor
