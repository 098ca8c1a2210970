
import Derived.Test.YtfbmplecmaebbacDoorFlW
import Derived.Test.YtfbmplecmaebbacDoorFrG
import Derived.Deep.DeepCutAuto
namespace Go.Proofs.YtfbmplecmaebbacDoor
open Go.RowKit Go.Maps
set_option linter.unusedVariables false
set_option linter.unusedSimpArgs false

theorem getD_skip (A B : List UInt8) {n : Nat} (h : A.length = n) {x : Nat} : (A ++ B).getD (n + x) 0 = B.getD x 0 := by
  rw [getD_right (by omega), h, Nat.add_sub_cancel_left]
theorem wrap8_nat {x : Nat} (h : x < 256) : IntKind.u8.wrap ((x : Nat) : Int) = x := by rw [IntKind.wrap_u8]; omega
theorem flip_nums (A N pg tl : Nat) (h : A < 64 * N) (hN : N ≤ 65) (hpg : pg < 3) (htl : tl ≤ 150) :
    ((A : Nat) : Int) < 64 * N ∧ ((A : Nat) : Int) ≤ 64 * N ∧ ((A : Nat) : Int) + 1 ≤ 64 * N ∧ (0 : Int) ≤ ((A : Nat) : Int) + 1 ∧ IntKind.i64.wrap (((A : Nat) : Int) + 1) = ((A : Nat) : Int) + 1 ∧ wrap64 (((A : Nat) : Int) + 1) = ((A : Nat) : Int) + 1 ∧ min A (64 * N) = A ∧
      ¬ 9223372036854775807 < pg * 64 + A ∧ ¬ 9223372036854775807 < pg * 64 + A + 1 ∧ ¬ 9223372036854775807 < pg * 64 + A + 1 + (64 * N - (A + 1)) ∧ ¬ 9223372036854775807 < pg * 64 + A + 1 + (64 * N - (A + 1)) + tl := by
  refine ⟨by omega, by omega, by omega, by omega, by rw [IntKind.wrap_i64]; omega, by unfold wrap64; omega, by omega, by omega, by omega, by omega, by omega⟩
theorem size_flip {t G tl : ByteArray} {A N pg : Nat} {x : Int} (ht : t.size = pg * 64) (hG : G.size = 64 * N) (htl : tl.size ≤ 150) (hA : A < 64 * N) (hN : N ≤ 65) (hpg : pg < 3) : (t ++ G.extract 0 A ++ b1 x ++ G.extract (A + 1) (64 * N) ++ tl).size ≤ 1048576 := by
  simp only [ByteArray.size_append, ByteArray.size_extract, b1_size]
  omega
theorem flip_facts (x : UInt8) (bt : Nat) (h1 : 1 ≤ bt) (h2 : bt ≤ 128) : bits .xor .i64 ((x.toNat : Nat) : Int) (bt : Int) = ((x.toNat ^^^ bt : Nat) : Int) ∧ x.toNat ^^^ bt < 256 ∧ UInt8.ofNat (x.toNat ^^^ bt) ≠ x := by
  have hx := x.toNat_lt
  have hl : x.toNat ^^^ bt < 256 := Nat.xor_lt_two_pow (n := 8) hx (by omega)
  refine ⟨i64_xor_nat _ _ (by omega) (by omega), hl, fun e => ?_⟩
  have e2 : (UInt8.ofNat (x.toNat ^^^ bt)).toNat = x.toNat := congrArg UInt8.toNat e
  rw [show (UInt8.ofNat (x.toNat ^^^ bt)).toNat = x.toNat ^^^ bt by exact UInt8.toNat_ofNat_of_lt' hl] at e2
  have e3 := congrArg (x.toNat ^^^ ·) e2
  simp only [Nat.xor_self] at e3
  rw [← Nat.xor_assoc, Nat.xor_self, Nat.zero_xor] at e3
  omega
theorem data_back (p : ByteArray) : (⟨p.data.toList.toArray⟩ : ByteArray) = p := by cases p; simp
theorem rf_at {s : ByteArray} {pg : Nat} {r : Option (Nat × List UInt8 × Nat)} (h : pg * 64 + 64 ≤ s.size) (hr : rfAt s.data.toList pg = r) : rf s pg = r := by
  unfold rf
  rw [if_pos ⟨by omega, by simpa using h⟩]
  simpa using hr
theorem rf_frame {t G tl p : ByteArray} {K pg : Nat} (ht : t.size = pg * 64) (hG : G.data.toList = frB K p.data.toList) (hk : kindOk (K : Int) = true) (hK : K < 256) (hp : p.size ≤ 1048576) : rf (t ++ G ++ tl) pg = some (K, p.data.toList, pg + pagesN (8 + p.size)) := by
  have hl : p.data.toList.length = p.size := len_data p
  have hgs : G.size = 64 * pagesN (8 + p.size) := by rw [← len_data, hG, frB_len, hl]
  have hp1 : 1 ≤ pagesN (8 + p.size) := by unfold pagesN; omega
  refine rf_at (by rw [ByteArray.size_append, ByteArray.size_append]; omega) ?_
  rw [appL, appL, List.append_assoc, hG]
  have h := lies_of t.data.toList tl.data.toList p.data.toList K
  rw [len_data, ht] at h
  rw [← hl]
  exact rfAt_lies h hk hK (by omega)
theorem rf_flipped {t G tl p Y : ByteArray} {K pg a : Nat} {y : UInt8} (ht : t.size = pg * 64) (hG : G.data.toList = frB K p.data.toList) (hp : p.size ≤ 1048576) (ha : a < G.size) (hn : ¬ (1 ≤ a ∧ a ≤ 4)) (hY : Y.data.toList = [y]) (hy : y ≠ G.data.toList.getD a 0) :
    rf (t ++ G.extract 0 a ++ Y ++ G.extract (a + 1) G.size ++ tl) pg = none := by
  have hl : p.data.toList.length = p.size := len_data p
  have hgs : G.size = 64 * pagesN (8 + p.size) := by rw [← len_data, hG, frB_len, hl]
  have hgl : G.data.toList.length = G.size := len_data G
  have htl : t.data.toList.length = pg * 64 := by rw [len_data, ht]
  have hYs : Y.size = 1 := by rw [← len_data, hY]; rfl
  have hp1 : 1 ≤ pagesN (8 + p.size) := by unfold pagesN; omega
  refine rf_at ?_ ?_
  · simp only [ByteArray.size_append, ByteArray.size_extract]
    omega
  · have h := lies_of t.data.toList tl.data.toList p.data.toList K
    rw [htl, ← hG] at h
    have e1 : (G.extract 0 a).data.toList = G.data.toList.take a := ext_take G a
    have e2 : (G.extract (a + 1) G.size).data.toList = G.data.toList.drop (a + 1) := ext_drop G (a + 1)
    refine rfAt_flip (a := a) (y := y) h (by omega) (by rw [hl]; omega) hn ?_ ?_
    · rw [getD_right (by omega), show pg * 64 + a - t.data.toList.length = a by omega, getD_left (by omega)]
      exact hy
    · intro x
      rw [appL, appL, appL, appL, e1, e2, hY, List.append_assoc, List.append_assoc, List.append_assoc]
      have htk : (G.data.toList.take a).length = a := by rw [List.length_take]; omega
      rw [getD_skip _ _ htl, getD_skip _ _ htl]
      by_cases hx : x = a
      · rw [if_pos hx, hx, getD_right (by omega), htk, Nat.sub_self]
        rfl
      · rw [if_neg hx]
        by_cases hlt : x < a
        · rw [getD_left (by omega), getD_left (by omega)]
          simp only [List.getD]
          rw [List.getElem?_take_of_lt hlt]
        · rw [getD_right (by omega), htk]
          obtain ⟨m, hm⟩ : ∃ m, x - a = m + 1 := ⟨x - a - 1, by omega⟩
          rw [hm]
          show (G.data.toList.drop (a + 1) ++ tl.data.toList).getD m 0 = _
          by_cases hin : x < G.size
          · rw [getD_left (by rw [List.length_drop]; omega), getD_left (by omega)]
            simp only [List.getD, List.getElem?_drop]
            rw [show a + 1 + m = x by omega]
          · have l1 : (G.data.toList.drop (a + 1)).length ≤ m := by rw [List.length_drop]; omega
            have l2 : G.data.toList.length ≤ x := by omega
            rw [getD_right l1, getD_right l2, List.length_drop, show m - (G.data.toList.length - (a + 1)) = x - G.data.toList.length by omega]

set_option maxRecDepth 100000 in
set_option maxHeartbeats 4000000 in
theorem lawFlip_any (a b : Option Addr) (ca cb' : Nat) (cs ms : List UInt8) (w : World) (hc : LieB w a cs) (hm : LieB w b ms) (hcl : cs.length ≤ maxLen) (hml : ms.length ≤ maxLen) (ht : Steps w) :
    Calls Tryd.prog 4 #[.slice a cs.length ca, .slice b ms.length cb'] w fun e w' => e = .returned (.bool true) ∧ Below w.heap.size w w' := by
  unfold maxLen at hcl hml
  by_cases hb1 : (1048576 : Int) < cs.length
  · go_enter Tryd.func4, Tryd.ntmps4
    go_wp2_with fail
    go_ret
    exact ⟨rfl, Below.refl _ _⟩
  by_cases hb2 : (1048576 : Int) < ms.length
  · go_enter Tryd.func4, Tryd.ntmps4
    go_wp2_with fail
    go_ret
    exact ⟨rfl, Below.refl _ _⟩
  have HD : Hid (Calls Tryd.prog 11 #[.slice a cs.length ca] w fun e w' => ∃ (k : Int) (t : ByteArray), t.size ≤ 2000000 ∧ e = .returned (.tuple #[.int .i64 k, .string t]) ∧ Below w.heap.size w w') := drawFrame_any a ca cs w hc (by omega)
  have HSF : Hid (∀ (k : Int) (p : ByteArray) (w : World), p.size ≤ maxLen → Calls Tryd.prog 12 #[.int .i64 k, .string p] w fun e w' => e = .returned (.string (frT k p)) ∧ Below w.heap.size w w') := specFrame_any
  have HIF : Hid (∀ (k : Int) (p : ByteArray) (w : World), p.size ≤ maxLen → Steps w → Calls Tryd.prog 13 #[.int .i64 k, .string p] w fun e w' => e = .returned (.string (frT k p)) ∧ Below w.heap.size w w') := implFrame_any
  have HP : Hid (∀ (w' : World) (i : Nat), Below w.heap.size w w' → i ≤ 1000000 → Calls Tryd.prog 14 #[.slice b ms.length cb', .int .i64 i] w' fun e w'' => e = .returned (.int .i64 (wp ms i : Nat)) ∧ Below w'.heap.size w' w'') := fun w' i hb h => wPick_any b cb' ms i w' (hm.below hb) (by omega) h
  have HT : Hid (∀ (w' : World), Below w.heap.size w w' → Calls Tryd.prog 15 #[.slice b ms.length cb', .int .i64 1] w' fun e w'' => ∃ t : ByteArray, t.size ≤ 150 ∧ e = .returned (.string t) ∧ Below w'.heap.size w' w'') := fun w' hb => wText_any b cb' ms 1 w' (hm.below hb) (by omega) (by omega)
  have HR : Hid (∀ (s : ByteArray) (page : Nat) (w' : World), s.size ≤ 1048576 → Below w.heap.size w w' → Calls Tryd.prog 16 #[.string s, .int .i64 page] w' fun e w'' => e = .returned (rfV (rf s page)) ∧ Below w'.heap.size w' w'') := fun s page w' h hb => implRead_any s page w' h (ht.below hb)
  have hw0 := wp_le ms 0
  have hw2 := wp_le ms 2
  have hw3 := wp_le ms 3
  have hw4 := wp_le ms 4
  generalize cs.length = lc at *
  generalize ms.length = lm at *
  clear hc hm
  go_enter Tryd.func4, Tryd.ntmps4
  go_wp2_with fail
  refine HD.out.mono ?_
  rintro e w1 ⟨k, p, hp, rfl, hw1⟩
  have hpm : p.size ≤ maxLen := by unfold maxLen; omega
  go_wp2_with fail
  refine (HSF.out k p _ hpm).mono ?_
  rintro e w2 ⟨rfl, hw2b⟩
  have hbw2 := hw1.trans (hw2b.mono hw1.size)
  by_cases hpl : p.size ≤ 4000
  · by_cases hkd : kindOk k = true
    · have hpl' : ¬ (4000 : Int) < p.size := by omega
      obtain ⟨K, rfl⟩ : ∃ K : Nat, k = K := by
        have := kindOk_cases hkd
        exact ⟨k.toNat, by omega⟩
      have hK : K < 256 := by have := kindOk_cases hkd; omega
      have hfT := frT_in (k := (K : Int)) (p := p) hkd (by omega)
      have HG : Hid ((frT K p).data.toList = frB K p.data.toList) := by show _ = _; rw [hfT]; rfl
      have hPl : p.data.toList.length = p.size := len_data p
      obtain ⟨N, hN⟩ : ∃ N, N = pagesN (8 + p.size) := ⟨_, rfl⟩
      have hNb : 1 ≤ N ∧ N ≤ 65 := by rw [hN]; unfold pagesN; omega
      have hGs : (frT K p).size = 64 * N := by rw [← len_data, HG.out, frB_len, hPl, hN]
      clear hfT
      generalize hGe : frT K p = G at *
      replace hGe := hd0 hGe
      have hG1 : ((64 * (N : Int)) == 0) = false := by rw [beq_eq_false_iff_ne]; omega
      have hG2 : ¬ 64 * (N : Int) < 64 := by omega
      have hG3 : ¬ 64 * (N : Int) = 0 := by omega
      have hpd : decide ((4000 : Int) < (p.size : Int)) = false := by rw [decide_eq_false_iff_not]; exact hpl'
      replace hN := hd0 hN
      replace hPl := hd0 hPl
      replace hkd := hd0 hkd
      go_wp2_with fail
      refine (HIF.out K p _ hpm (ht.below hbw2)).mono ?_
      rintro e w3 ⟨rfl, hb3⟩
      rw [hGe.out]
      have hbw3 := hbw2.trans (hb3.mono hbw2.size)
      clear hb3 hw2b hw1
      go_wp2_with fail
      refine (HP.out w3 0 hbw3 (by omega)).mono ?_
      rintro e w4 ⟨rfl, hb4⟩
      have hbw4 := hbw3.trans (hb4.mono hbw3.size)
      clear hb4
      obtain ⟨pg, hpg⟩ : ∃ pg : Nat, pg = wp ms 0 % 3 := ⟨_, rfl⟩
      have hpgI : ((wp ms 0 : Nat) : Int) % 3 = pg := by omega
      have hpg3 : pg < 3 := by omega
      replace hpg := hd0 hpg
      go_wp2_with fail
      rw [hpgI]
      go_loopw [8, 10] (fun v i wr => ∃ (j : Nat) (t : ByteArray), j ≤ pg * 64 ∧ v = .string t ∧ t.size = j ∧ i = .int .i64 j ∧ Below w.heap.size w wr) (fun _ i _ => 200 - (intOf i).toNat)
      case atStart => exact ⟨0, ⟨#[]⟩, Nat.zero_le _, rfl, rfl, rfl, hbw4⟩
      case round =>
        obtain ⟨j, t, hj, rfl, hts, rfl, hbr⟩ := hrel
        clear hbw4 hbw3 hbw2
        by_cases hlt : j < pg * 64
        · have hlt' : (j : Int) < (pg : Int) * 64 := by omega
          have htI : (t.size : Int) ≤ 128 := by omega
          go_wp2_with fail
          refine ⟨⟨j + 1, _, by omega, rfl, ?_, by go_num, hbr⟩, by simp only [intOf]; omega⟩
          rw [ByteArray.size_append, hts]
          rfl
        · have hlt' : ¬ (j : Int) < (pg : Int) * 64 := by omega
          obtain rfl : j = pg * 64 := by omega
          go_wp2_with fail
          refine (HT.out wr hbr).mono ?_
          rintro e w5 ⟨tl, htl, rfl, hb5⟩
          have hbw5 := hbr.trans (hb5.mono hbr.size)
          clear hb5 hbr
          have hsz1 : (t ++ G ++ tl).size = pg * 64 + 64 * N + tl.size := by rw [ByteArray.size_append, ByteArray.size_append, hts, hGs]
          have htI : (t.size : Int) ≤ 128 := by omega
          have htlI : (tl.size : Int) ≤ 150 := by omega
          have hsb : (t ++ G ++ tl).size ≤ 1048576 := by omega
          have HV : Hid (rfV (rf (t ++ G ++ tl) pg) = .agg #[.bool true, .int .i64 K, .string p, .int .i64 ((pg + N : Nat) : Int)]) := by
            show _ = _
            rw [rf_frame hts HG.out hkd.out hK (by omega), ← hN.out]
            show Value.agg #[.bool true, .int .i64 K, .string ⟨p.data.toList.toArray⟩, .int .i64 ((pg + N : Nat) : Int)] = _
            rw [data_back]
          replace hsb := hd0 hsb
          replace hsz1 := hd0 hsz1
          go_wp2_with fail
          refine (HR.out _ pg w5 hsb.out hbw5).mono ?_
          rintro e w6 ⟨rfl, hb6⟩
          rw [HV.out]
          have hbw6 := hbw5.trans (hb6.mono hbw5.size)
          have hx6 : (w6.alloc (.cells #[.bool true, .int .i64 K, .string p, .int .i64 ((pg : Int) + N)] 36)).heap[w6.heap.size]? = some (.cells #[.bool true, .int .i64 K, .string p, .int .i64 ((pg : Int) + N)] 36 (0, 0)) := World.heap_alloc_new _ _
          obtain ⟨⟨x0, x1, x2, x3⟩, -⟩ := four_cells hx6
          have hbw6a : Below w.heap.size w (w6.alloc (.cells #[.bool true, .int .i64 K, .string p, .int .i64 ((pg : Int) + N)] 36)) := hbw6.alloc hbw6.size _
          clear hb6 hx6
          have hnq : (((pg : Int) + N) * 64 != (pg : Int) * 64 + 64 * N) = false := by rw [bne_eq_false_iff_eq]; omega
          go_wp2_with fail
          refine (HP.out _ 2 hbw6a (by omega)).mono ?_
          rintro e w7 ⟨rfl, hb7⟩
          have hbw7 := hbw6a.trans (hb7.mono hbw6a.size)
          clear hb7 hbw6a hbw6 hbw5 x0 x1 x2 x3 hnq
          go_wp2_with fail
          refine (HP.out _ 3 hbw7 (by omega)).mono ?_
          rintro e w8 ⟨rfl, hb8⟩
          have hbw8 := hbw7.trans (hb8.mono hbw7.size)
          clear hb8 hbw7
          obtain ⟨A0, hA0⟩ : ∃ A0 : Nat, A0 = (wp ms 2 * 256 + wp ms 3) % (64 * N) := ⟨_, rfl⟩
          have hAI : (((wp ms 2 : Nat) : Int) * 256 + (wp ms 3 : Nat)) % (64 * N) = A0 := by
            rw [hA0]
            push_cast
            rfl
          have hA1 : A0 < 64 * N := by rw [hA0]; exact Nat.mod_lt _ (by omega)
          replace hA0 := hd0 hA0
          have HA1 : Hid (A0 < 64 * N) := hA1
          have HZ1 : Hid (0 < 64 * N) := Nat.lt_of_le_of_lt (Nat.zero_le _) hA1
          obtain ⟨bX, hbX⟩ : ∃ bX : Bool, bX = decide (1 ≤ A0 ∧ A0 ≤ 4) := ⟨_, rfl⟩
          replace hbX := hd0 hbX
          have hp20 : Hid (p.size ≤ 1048576) := Nat.le_trans hpl (by decide)
          go_upto_region 20 with fail
          rw [hAI]
          clear hAI hA0
          go_cut [117] (fun v wx => v = .bool bX ∧ wx = w8)
          case first =>
            by_cases hr1 : 1 ≤ A0
            · have q1 : (1 : Int) ≤ A0 := by omega
              have q1d : decide ((1 : Int) ≤ (A0 : Int)) = true := by rw [decide_eq_true_iff]; exact q1
              by_cases hr2 : A0 ≤ 4
              · have q2 : (A0 : Int) ≤ 4 := by omega
                have q2d : decide ((A0 : Int) ≤ 4) = true := by rw [decide_eq_true_iff]; exact q2
                have q3 : bX = true := hbX.out.trans (decide_eq_true ⟨hr1, hr2⟩)
                subst q3
                go_wp2_with fail
                go_meet
                exact ⟨rfl, rfl⟩
              · have q2 : ¬ (A0 : Int) ≤ 4 := by omega
                have q2d : decide ((A0 : Int) ≤ 4) = false := by rw [decide_eq_false_iff_not]; exact q2
                have q3 : bX = false := hbX.out.trans (decide_eq_false (fun h => hr2 h.2))
                subst q3
                go_wp2_with fail
                go_meet
                exact ⟨rfl, rfl⟩
            · have q1 : ¬ (1 : Int) ≤ A0 := by omega
              have q1d : decide ((1 : Int) ≤ (A0 : Int)) = false := by rw [decide_eq_false_iff_not]; exact q1
              have q3 : bX = false := hbX.out.trans (decide_eq_false (fun h => hr1 h.1))
              subst q3
              go_wp2_with fail
              go_meet
              exact ⟨rfl, rfl⟩
          case rest =>
            obtain ⟨rfl, hwc⟩ := hcut
            replace hwc := hwc.symm
            subst hwc
            go_upto_if 117 with fail
            go_cut [13] (fun v wx => ∃ A1 : Nat, A1 < 64 * N ∧ ¬ (1 ≤ A1 ∧ A1 ≤ 4) ∧ v = .int .i64 A1 ∧ wx = w8)
            case first =>
              cases bX with
              | true =>
                go_wp2_with fail
                go_meet
                exact ⟨0, HZ1.out, (fun h => absurd h.1 (by decide)), rfl, rfl⟩
              | false =>
                have hX' : Hid (¬ (1 ≤ A0 ∧ A0 ≤ 4)) := of_decide_eq_false hbX.out.symm
                go_wp2_with fail
                go_meet
                exact ⟨A0, HA1.out, hX'.out, rfl, rfl⟩
            case rest =>
              obtain ⟨A1, hA1', hA1n, rfl, hwc⟩ := hcut
              replace hwc := hwc.symm
              subst hwc
              clear hA1 HA1 HZ1 hbX
              replace hA1n := hd0 hA1n
              go_wp2_with fail
              go_loopw [14, 15] (fun bv i wr => ∃ (j bt : Nat), j ≤ wp ms 4 % 8 ∧ 1 ≤ bt ∧ bt ≤ 2 ^ j ∧ bv = .int .i64 bt ∧ i = .int .i64 j ∧ Below w.heap.size w wr) (fun _ i _ => 8 - (intOf i).toNat)
              case atStart => exact ⟨0, 1, Nat.zero_le _, Nat.le_refl _, Nat.le_refl _, rfl, rfl, hbw8⟩
              case round =>
                obtain ⟨j, bt, hj, hb1t, hb2t, rfl, rfl, hbr⟩ := hrel
                have hj7 : j ≤ 7 := by omega
                have hpw : (2 : Nat) ^ j ≤ 2 ^ 7 := Nat.pow_le_pow_right (by omega) hj7
                have hb3t : bt ≤ 128 := Nat.le_trans hb2t hpw
                have HB2 : Hid (bt * 2 ≤ 2 ^ (j + 1)) := by show _ ≤ _; rw [Nat.pow_succ]; omega
                clear hpw hb2t
                go_wp2_with fail
                refine (HP.out wr 4 hbr (by omega)).mono ?_
                rintro e w9 ⟨rfl, hb9⟩
                have hbw9 := hbr.trans (hb9.mono hbr.size)
                clear hb9 hbr
                by_cases hlt : j < wp ms 4 % 8
                · have hlt' : (j : Int) < ((wp ms 4 : Nat) : Int) % 8 := by omega
                  go_wp2_with fail
                  refine ⟨⟨j + 1, bt * 2, by omega, by omega, HB2.out, by go_num, by go_num, hbw9⟩, by simp only [intOf]; omega⟩
                · have hlt' : ¬ (j : Int) < ((wp ms 4 : Nat) : Int) % 8 := by omega
                  have hatl : A1 < G.size := by rw [hGs]; exact hA1'
                  obtain ⟨hatI, hle1, hle2, hle3, hwA, hwA2, hmn, g1, g2, g3, g4⟩ := flip_nums A1 N pg tl.size hA1' hNb.2 hpg3 htl
                  have hwx : wrap64 (((G[A1]'hatl).toNat : Nat) : Int) = ((G[A1]'hatl).toNat : Nat) := wrap_byte _
                  obtain ⟨hxb, hxl, hxn⟩ := flip_facts (G[A1]'hatl) bt hb1t hb3t
                  have HY : Hid (UInt8.ofNat ((G[A1]'hatl).toNat ^^^ bt) ≠ G.data.toList.getD A1 0) := by
                    show _ ≠ _
                    rw [text_at G A1 hatl]
                    exact hxn
                  clear hxn
                  have hcv : ∀ n : Int, (convert 29 9 (.slice (some ⟨w9.heap.size, 0, none⟩) 1 1)).run Tryd.prog (w9.alloc (.cells #[.int .u8 n] 5)).drew = .ok (.string (b1 n)) (w9.alloc (.cells #[.int .u8 n] 5)).drew := fun n => convb1 w9.drew n
                  have hcv2 : ∀ n : Int, (convert 29 9 (.slice (some ⟨w9.heap.size + 1, 0, none⟩) 1 1)).run Tryd.prog ((w9.alloc (.cells #[.bool false, .int .i64 0, .string ⟨#[]⟩, .int .i64 0] 36)).alloc (.cells #[.int .u8 n] 5)).drew = .ok (.string (b1 n)) ((w9.alloc (.cells #[.bool false, .int .i64 0, .string ⟨#[]⟩, .int .i64 0] 36)).alloc (.cells #[.int .u8 n] 5)).drew := fun n => by
                    have h := convb1 (w9.alloc (.cells #[.bool false, .int .i64 0, .string ⟨#[]⟩, .int .i64 0] 36)).drew n
                    rw [show (w9.alloc (.cells #[.bool false, .int .i64 0, .string ⟨#[]⟩, .int .i64 0] 36)).drew.heap.size = w9.heap.size + 1 by simp] at h
                    exact h
                  have hcv3 : ∀ n : Int, (convert 29 9 (.slice (some ⟨w9.heap.size, 0, none⟩) 1 1)).run Tryd.prog ((w9.alloc (.cells #[.int .u8 n] 5)).alloc (.cells #[.bool false, .int .i64 0, .string ⟨#[]⟩, .int .i64 0] 36)).drew = .ok (.string (b1 n)) ((w9.alloc (.cells #[.int .u8 n] 5)).alloc (.cells #[.bool false, .int .i64 0, .string ⟨#[]⟩, .int .i64 0] 36)).drew := fun n => convb3 w9.drew n (.cells #[.bool false, .int .i64 0, .string ⟨#[]⟩, .int .i64 0] 36)
                  have hbsz := b1_size
                  have hx64 : ((((G[A1]'hatl).toNat ^^^ bt : Nat)) : Int) < 256 := Int.ofNat_lt.2 hxl
                  have HYd : Hid ((b1 (((G[A1]'hatl).toNat ^^^ bt : Nat) : Int)).data.toList = [UInt8.ofNat ((G[A1]'hatl).toNat ^^^ bt)]) := by show _ = _; rw [b1_data]; rfl
                  generalize (G[A1]'hatl).toNat ^^^ bt = xx at *
                  have hw9s := hbw9.size
                  have HBA : Hid (Below w.heap.size w (w9.alloc (.cells #[.int .u8 (xx : Int)] 5)).drew) := (hbw9.alloc hw9s _).drew
                  have HBB : Hid (Below w.heap.size w ((w9.alloc (.cells #[.int .u8 (xx : Int)] 5)).alloc (.cells #[.bool false, .int .i64 0, .string ⟨#[]⟩, .int .i64 0] 36)).drew) := ((hbw9.alloc hw9s _).alloc (by rw [World.size_alloc]; exact Nat.le_succ_of_le hw9s) _).drew
                  have HBC : Hid (Below w.heap.size w ((w9.alloc (.cells #[.bool false, .int .i64 0, .string ⟨#[]⟩, .int .i64 0] 36)).alloc (.cells #[.int .u8 (xx : Int)] 5)).drew) := ((hbw9.alloc hw9s _).alloc (by rw [World.size_alloc]; exact Nat.le_succ_of_le hw9s) _).drew
                  have HXA := fun w10 : World => (World.heap_alloc_new w10 (.cells #[.bool false, .int .i64 0, .string ⟨#[]⟩, .int .i64 0] 36))
                  have HXB : Hid (((w9.alloc (.cells #[.int .u8 (xx : Int)] 5)).alloc (.cells #[.bool false, .int .i64 0, .string ⟨#[]⟩, .int .i64 0] 36)).drew.heap[w9.heap.size + 1]? = some (.cells #[.bool false, .int .i64 0, .string ⟨#[]⟩, .int .i64 0] 36)) := by
                    have h := World.heap_alloc_new (w9.alloc (.cells #[.int .u8 (xx : Int)] 5)) (.cells #[.bool false, .int .i64 0, .string ⟨#[]⟩, .int .i64 0] 36)
                    rw [World.size_alloc] at h
                    exact h
                  have HXC : Hid (((w9.alloc (.cells #[.bool false, .int .i64 0, .string ⟨#[]⟩, .int .i64 0] 36)).alloc (.cells #[.int .u8 (xx : Int)] 5)).drew.heap[w9.heap.size]? = some (.cells #[.bool false, .int .i64 0, .string ⟨#[]⟩, .int .i64 0] 36)) := (Below.heap_alloc _ _ _ (by simp)).trans (World.heap_alloc_new w9 (.cells #[.bool false, .int .i64 0, .string ⟨#[]⟩, .int .i64 0] 36))
                  have HRF : Hid (∀ w' : World, Below w.heap.size w w' → Calls Tryd.prog 16 #[.string (t ++ G.extract 0 A1 ++ b1 (xx : Int) ++ G.extract (A1 + 1) (64 * N) ++ tl), .int .i64 pg] w' fun e w'' => e = .returned (.agg #[.bool false, .int .i64 0, .string ByteArray.empty, .int .i64 0]) ∧ Below w'.heap.size w' w'') := fun w' hb => by
                    have e := rf_flipped (t := t) (tl := tl) (p := p) (K := K) (pg := pg) hts HG.out hp20.out hatl hA1n.out HYd.out HY.out
                    rw [hGs] at e
                    have h := HR.out (t ++ G.extract 0 A1 ++ b1 (xx : Int) ++ G.extract (A1 + 1) (64 * N) ++ tl) pg w' (size_flip hts hGs htl hA1' hNb.2 hpg3) hb
                    rw [e] at h
                    exact h
                  have hw8 : IntKind.u8.wrap ((xx : Nat) : Int) = xx := wrap8_nat hxl
                  go_wp2_with fail
                  go_region_with (first
                    | (go_at_call 16; refine (HRF.out _ HBA.out).mono ?_; rintro e w10 ⟨rfl, hb10⟩; have hbX : Hid (Below w.heap.size w w10) := HBA.out.trans (hb10.mono HBA.out.size); obtain ⟨⟨q0, q1, q2, q3⟩, z0, z1, z2, z3⟩ := four_cells (HXA w10))
                    | (go_at_call 16; refine (HRF.out _ HBB.out).mono ?_; rintro e w10 ⟨rfl, hb10⟩; have hbX : Hid (Below w.heap.size w w10) := HBB.out.trans (hb10.mono HBB.out.size); obtain ⟨⟨q0, q1, q2, q3⟩, z0, z1, z2, z3⟩ := four_cells ((hb10.block (w9.heap.size + 1) (by simp)).trans HXB.out))
                    | (go_at_call 16; refine (HRF.out _ HBC.out).mono ?_; rintro e w10 ⟨rfl, hb10⟩; have hbX : Hid (Below w.heap.size w w10) := HBC.out.trans (hb10.mono HBC.out.size); obtain ⟨⟨q0, q1, q2, q3⟩, z0, z1, z2, z3⟩ := four_cells ((hb10.block w9.heap.size (by simp <;> omega)).trans HXC.out)))
                  all_goals (go_wp2_with fail; go_ret; first | exact ⟨rfl, (((hbX.out.setCell (by simp; omega) _).setCell (by simp; omega) _).setCell (by simp; omega) _).setCell (by simp; omega) _⟩ | exact ⟨rfl, hbX.out.alloc hbX.out.size _⟩)
    · have hfT : frT k p = ⟨#[]⟩ := frT_out (fun h => hkd h.1)
      have hpl' : ¬ (4000 : Int) < p.size := by omega
      rw [hfT]
      go_wp2_with fail
      refine (HIF.out k p _ hpm (ht.below hbw2)).mono ?_
      rintro e w3 ⟨rfl, hb3⟩
      rw [hfT]
      go_wp2_with fail
      go_ret
      exact ⟨rfl, hbw2.trans (hb3.mono hbw2.size)⟩
  · have hpl' : (4000 : Int) < p.size := by omega
    generalize frT k p = T at *
    by_cases hz : T.size = 0
    · have hz' : ((T.size : Int) == 0) = true := by rw [hz]; rfl
      go_wp2_with fail
      go_ret
      exact ⟨rfl, hbw2⟩
    · have hz' : ((T.size : Int) == 0) = false := by rw [beq_eq_false_iff_ne]; omega
      go_wp2_with fail
      go_ret
      exact ⟨rfl, hbw2⟩
end Go.Proofs.YtfbmplecmaebbacDoor
