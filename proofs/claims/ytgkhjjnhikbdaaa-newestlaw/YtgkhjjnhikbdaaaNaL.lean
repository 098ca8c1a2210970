import Derived.Test.YtgkhjjnhikbdaaaNaK
namespace Go.Proofs.Ytgkhjjnhikbdaaa
open Go.RowKit Go.Maps
set_option linter.unusedVariables false
set_option linter.unusedSimpArgs false

/-- What wPick gives. -/
def wp (bs : List UInt8) (i : Nat) : Nat := if bs = [] then i else (bs.getD (i % bs.length) 0).toNat
theorem wp_le (bs : List UInt8) (i : Nat) : wp bs i ≤ i + 255 := by
  unfold wp
  split
  · omega
  · have := (bs.getD (i % bs.length) 0).toNat_lt
    omega
set_option maxRecDepth 100000 in
theorem wPick_any (a : Option Addr) (cap : Nat) (bs : List UInt8) (i : Nat) (w : World) (hx : LieB w a bs) (hl : bs.length ≤ 1048576) (hi : i ≤ 1000000) :
    Calls Try.prog 16 #[.slice a bs.length cap, .int .i64 i] w fun e w' => e = .returned (.int .i64 (wp bs i : Nat)) ∧ Below w.heap.size w w' := by
  by_cases h0 : bs = []
  · have e : wp bs i = i := by unfold wp; rw [if_pos h0]
    rw [e]
    subst h0
    go_enter Try.func16, Try.ntmps16
    go_wp2_with fail
    go_ret
    exact ⟨rfl, Below.refl _ _⟩
  · have hpos : 0 < bs.length := List.length_pos_iff.2 h0
    rcases hx with h | ⟨b, off, rfl, hbl, hc⟩
    · exact absurd h h0
    have c0 := hc (i % bs.length) (Nat.mod_lt _ hpos)
    have e : wp bs i = (bs.getD (i % bs.length) 0).toNat := by unfold wp; rw [if_neg h0]
    have hb := (bs.getD (i % bs.length) 0).toNat_lt
    rw [e]
    generalize (bs.getD (i % bs.length) 0).toNat = x at *
    have hwx : wrap64 (x : Int) = x := by unfold wrap64; omega
    clear hc h0 e
    generalize bs.length = len at *
    have m0 : (0 : Int) ≤ (i : Int) % len := Int.emod_nonneg _ (by omega)
    have m1 : (i : Int) % len < len := Int.emod_lt_of_pos _ (by omega)
    go_enter Try.func16, Try.ntmps16
    go_wp2_with fail
    go_ret
    exact ⟨rfl, Below.refl _ _⟩

theorem lieSS_two (w : World) (a b : Option Addr) (ca cb : Nat) (xs ys : List En) (hx : LieE w a xs) (hy : LieE w b ys) :
    LieSS (w.alloc (.cells #[.slice a xs.length ca, .slice b ys.length cb] 24)) (some ⟨w.heap.size, 0, none⟩) [⟨a, ca, xs⟩, ⟨b, cb, ys⟩] := by
  have hb : Below w.heap.size w (w.alloc (.cells #[.slice a xs.length ca, .slice b ys.length cb] 24)) := (Below.refl _ _).alloc (Nat.le_refl _) _
  have h1 := World.heap_alloc_new w (.cells #[.slice a xs.length ca, .slice b ys.length cb] 24)
  refine .inr ⟨w.heap.size, 0, rfl, heap_lt h1, fun i hi => ?_⟩
  match i, hi with
  | 0, _ => exact ⟨by simp, hx.below hb⟩
  | 1, _ => exact ⟨by simp, hy.below hb⟩
set_option maxRecDepth 100000 in
set_option maxHeartbeats 4000000 in
theorem lawNn_any (a0 a1 : Option Addr) (c0 c1 : Nat) (bs ms : List UInt8) (w : World) (hx0 : LieB w a0 bs) (hx1 : LieB w a1 ms) (hl0 : bs.length ≤ maxLen) (hl1 : ms.length ≤ maxLen) :
    Calls Try.prog 4 #[.slice a0 bs.length c0, .slice a1 ms.length c1] w fun e w' => e = .returned (.bool true) ∧ Below w.heap.size w w' := by
  by_cases hbig : bs.length ≤ 1048576
  · by_cases hbig1 : ms.length ≤ 1048576
    · have hD := dnS_small bs (tk bs 0 5)
      have hDl := (dnS_p bs (tk bs 0 5)).2
      have hn5 := tk_lt bs 0 5 (by omega)
      have hF : (dnL bs).flatten.length ≤ 40 := by
        have h1 := flat_len (dnL bs) (fun xs h => (hD xs h).2)
        have h2 : (dnL bs).length ≤ 5 := by show (dnS bs (tk bs 0 5)).1.length ≤ 5; omega
        omega
      have hDL : (dnL bs).length ≤ 5 := by show (dnS bs (tk bs 0 5)).1.length ≤ 5; omega
      obtain ⟨Z, hZ⟩ : ∃ Z, Z = newE (dnL bs).flatten := ⟨_, rfl⟩
      have hZl : Z.length ≤ 1048576 := by rw [hZ]; unfold newE; exact Nat.le_trans (ddT_len _ _) (by omega)
      have HDr := hdN (fun (w' : World) (hb : Below w.heap.size w w') => drawNewest_any a0 c0 bs w' (hx0.below hb) hbig)
      have HSp : Hid (∀ (w' : World) (g c : Nat) (L : List LV), L.map LV.xs = dnL bs → LieSS w' (some ⟨g, 0, none⟩) L → Calls Try.prog 6 #[.slice (some ⟨g, 0, none⟩) L.length c] w' fun e w'' => ∃ a' c', e = .returned (.slice a' Z.length c') ∧ ResE w'' w'.heap.size a' Z ∧ Below w'.heap.size w' w'') := fun w' g c L h1 h2 => by
        have hlen : L.length ≤ 1048576 := by have := congrArg List.length h1; simp at this; omega
        have hall : allE L = (dnL bs).flatten := by rw [allE_map, h1]
        have := specNew_any (some ⟨g, 0, none⟩) c L w' h2 hlen (by rw [hall]; omega) (fun e he => by
          rw [hall] at he
          obtain ⟨xs, h3, h4⟩ := List.mem_flatten.1 he
          have := ((hD xs h3).1 e h4).1
          unfold maxLen; omega)
        rw [hall, ← hZ] at this
        exact this
      have HIm : Hid (∀ (w' : World) (a' : Option Addr) (c : Nat) (L : List LV), L.length ≤ 10 → (allE L).length ≤ 100 → LieSS w' a' L → Calls Try.prog 8 #[.slice a' L.length c] w' fun e w'' => ∃ a'' c', e = .returned (.slice a'' (newE (allE L)).length c') ∧ ResE w'' w'.heap.size a'' (newE (allE L)) ∧ Below w'.heap.size w' w'') := fun w' a' c L h1 h2 h3 => implNew_any a' c L w' h3 (by omega) (by omega)
      have HSm := hdN (fun (w' : World) (a c : Option Addr) (ca cc : Nat) (h1 : LieE w' a Z) (h2 : LieE w' c Z) => wSameEntries_same a c ca cc Z w' h1 h2 hZl)
      have HPk := hdN (fun (w' : World) (hb : Below w.heap.size w w') => wPick_any a1 c1 ms 0 w' (hx1.below hb) hbig1 (by omega))
      have hwp := wp_le ms 0
      have HZ := hdN hZ
      clear hx0 hx1 hD hDl hn5 hl0 hl1 hZ
      have hb0 : ¬ ((1048576 : Int) < (bs.length : Int)) := by omega
      have hb0d : decide ((1048576 : Int) < (bs.length : Int)) = false := by simp; omega
      have hb1 : ¬ ((1048576 : Int) < (ms.length : Int)) := by omega
      have hb1d : decide ((1048576 : Int) < (ms.length : Int)) = false := by simp; omega
      generalize wp ms 0 = pk at *
      generalize dnL bs = R at *
      generalize bs.length = len at *
      generalize ms.length = lem at *
      go_enter Try.func4, Try.ntmps4
      go_wp2_with fail
      refine (HDr.out w (Below.refl _ _)).mono ?_
      rintro e w1 ⟨g1, k1, L1, rfl, hc1, hL1, hs1, hB1⟩
      have HB1 := hdN hB1
      have HL1 := hdN hs1
      have HX1 := hdN hL1
      clear hs1 hB1 hL1
      go_wp2_with fail
      refine (HDr.out w1 HB1.out).mono ?_
      rintro e w2 ⟨g2, k2, L2, rfl, hc2, hL2, hs2, hB2⟩
      have HB2 := hdN (HB1.out.trans (hB2.mono HB1.out.size))
      have HK2 := hdN hB2
      have HC := hdN (HSp.out w2 g2 k2 L2 hL2 hs2)
      clear hs2 hB2 hL2 HSp HDr hc2
      go_wp2_with fail
      refine HC.out.mono ?_
      rintro e w3 ⟨a3, c3, rfl, r3, hb3⟩
      have HW := hdN r3.lie
      have HB3 := hdN (HB2.out.trans (hb3.mono HB2.out.size))
      have HL3 := hdN ((HL1.out.below HK2.out).below hb3)
      clear r3 hb3 HC HB2 HK2 HL1 HB1
      have hL1n : L1.length ≤ 5 := by have := congrArg List.length HX1.out; simp at this; omega
      have hL1a : (allE L1).length ≤ 40 := by rw [allE_map, HX1.out]; exact hF
      have HZ1 : Hid (newE (allE L1) = Z) := by show _ = _; rw [allE_map, HX1.out]; exact HZ.out.symm
      have HC := hdN (HIm.out w3 (some ⟨g1, 0, none⟩) k1 L1 (by omega) (by omega) HL3.out)
      rw [HZ1.out] at HC
      go_wp2_with fail
      refine HC.out.mono ?_
      rintro e w4 ⟨a4, c4, rfl, r4, hb4⟩
      have HB4 := hdN (HB3.out.trans (hb4.mono HB3.out.size))
      have HL4 := hdN (HL3.out.below hb4)
      have HW4 := hdN (HW.out.below hb4)
      have HC2 := hdN (HSm.out w4 a4 a3 c4 c3 r4.lie HW4.out)
      clear r4 hb4 HC HB3 HL3 HW
      go_wp2_with fail
      refine HC2.out.mono ?_
      rintro e w5 ⟨rfl, hb5⟩
      have HB5 := hdN (HB4.out.trans (hb5.mono HB4.out.size))
      have HL5 := hdN (HL4.out.below hb5)
      have HW5 := hdN (HW4.out.below hb5)
      clear hb5 HC2 HB4 HL4 HW4
      obtain ⟨ct, hct⟩ : ∃ ct, ct = pk % (L1.length + 1) := ⟨_, rfl⟩
      have hct2 : ct ≤ L1.length := by rw [hct]; have := Nat.mod_lt pk (show 0 < L1.length + 1 by omega); omega
      have hct3 : (pk : Int) % ((L1.length : Int) + 1) = (ct : Int) := by rw [hct]; simp
      have HTk : Hid (allE (L1.take ct) ++ allE (L1.drop ct) = allE L1) := by
        show _ = _
        unfold allE
        rw [← List.flatMap_append, List.take_append_drop]
      have hTl : (L1.take ct).length = ct := by rw [List.length_take]; omega
      have hDl2 : (L1.drop ct).length = L1.length - ct := by rw [List.length_drop]
      have hTa : (allE (L1.take ct)).length ≤ 40 := by have := congrArg List.length HTk.out; rw [List.length_append] at this; omega
      have hDa : (allE (L1.drop ct)).length ≤ 40 := by have := congrArg List.length HTk.out; rw [List.length_append] at this; omega
      have HIT := hdN (fun (w' : World) (c : Nat) (h : LieSS w' (some ⟨g1, 0, none⟩) L1) => HIm.out w' (some ⟨g1, 0, none⟩) c (L1.take ct) (by omega) (by omega) (h.takeJ ct))
      have HID := hdN (fun (w' : World) (o c : Nat) (ho : o = ct ∨ k1 ≤ ct) (h : LieSS w' (some ⟨g1, 0, none⟩) L1) => HIm.out w' (some ⟨g1, o, none⟩) c (L1.drop ct) (by omega) (by omega) (by
        rcases ho with rfl | ho
        · have := h.dropJ o; rwa [Nat.zero_add] at this
        · exact .inl (List.drop_eq_nil_of_le (by omega))))
      rw [hTl] at HIT
      rw [hDl2] at HID
      have hctc : ct ≤ k1 := by omega
      have hcti : (ct : Int) ≤ (k1 : Int) := by omega
      have hcti2 : (ct : Int) ≤ (L1.length : Int) := by omega
      clear hct
      go_wp2_with fail
      refine (HPk.out w5 HB5.out).mono ?_
      rintro e w6 ⟨rfl, hb6⟩
      have HB6 := hdN (HB5.out.trans (hb6.mono HB5.out.size))
      have HL6 := hdN (HL5.out.below hb6)
      have HW6 := hdN (HW5.out.below hb6)
      clear hb6 HPk HB5 HL5 HW5
      go_wp2_with fail
      refine (HIT.out w6 k1 HL6.out).mono ?_
      rintro e w7 ⟨a7, c7, rfl, r7, hb7⟩
      have HB7 := hdN (HB6.out.trans (hb7.mono HB6.out.size))
      have HL7 := hdN (HL6.out.below hb7)
      have HW7 := hdN (HW6.out.below hb7)
      have HR7 := hdN r7.lie
      clear r7 hb7 HIT HB6 HL6 HW6
      have HT2 : Hid (newE (newE (allE (L1.take ct)) ++ newE (allE (L1.drop ct))) = Z) := by show _ = _; rw [newE_two, HTk.out]; exact HZ1.out
      have hT7 : (newE (allE (L1.take ct))).length ≤ 40 := by unfold newE; exact Nat.le_trans (ddT_len _ _) hTa
      have hD7 : (newE (allE (L1.drop ct))).length ≤ 40 := by unfold newE; exact Nat.le_trans (ddT_len _ _) hDa
      generalize newE (allE (L1.take ct)) = P at *
      generalize newE (allE (L1.drop ct)) = Q at *
      clear hTl hDl2 hTa hDa HTk
      go_wp2_with fail
      all_goals
        refine (HID.out w7 _ _ (by first | exact .inl rfl | (right; omega)) HL7.out).mono ?_
        rintro e w8 ⟨a8, c8, rfl, r8, hb8⟩
        have HB8 := hdN (HB7.out.trans (hb8.mono HB7.out.size))
        have HW8 := hdN (HW7.out.below hb8)
        have HR8 := hdN (lieSS_two w8 a7 a8 c7 c8 P Q (HR7.out.below hb8) r8.lie)
        have HC8 := hdN (HIm.out (w8.alloc (.cells #[.slice a7 P.length c7, .slice a8 Q.length c8] 24)) (some ⟨w8.heap.size, 0, none⟩) 2 [⟨a7, c7, P⟩, ⟨a8, c8, Q⟩] (by simp) (by simp [allE]; omega) HR8.out)
        have e8 : allE [⟨a7, c7, P⟩, ⟨a8, c8, Q⟩] = P ++ Q := by simp [allE]
        rw [e8, HT2.out] at HC8
        clear r8 hb8 e8
        go_wp2_with fail
        refine HC8.out.mono ?_
        rintro e w9 ⟨a9, c9, rfl, r9, hb9⟩
        have hbA : Below w8.heap.size w8 w9 := ((Below.refl _ _).alloc (Nat.le_refl _) _).trans (hb9.mono (by simp))
        have HB9 := hdN (HB8.out.trans (hbA.mono HB8.out.size))
        have HC9 := hdN (HSm.out w9 a9 a3 c9 c3 r9.lie (HW8.out.below hbA))
        clear r9 hb9 hbA HC8 HR8
        go_wp2_with fail
        refine HC9.out.mono ?_
        rintro e w10 ⟨rfl, hb10⟩
        have HB10 := hdN (HB9.out.trans (hb10.mono HB9.out.size))
        clear hb10 HC9
        go_wp2_with fail
        go_ret
        exact ⟨rfl, HB10.out⟩
    · have hb0 : ¬ ((1048576 : Int) < (bs.length : Int)) := by omega
      have hb0d : decide ((1048576 : Int) < (bs.length : Int)) = false := by simp; omega
      have hb1 : (1048576 : Int) < (ms.length : Int) := by omega
      have hb1d : decide ((1048576 : Int) < (ms.length : Int)) = true := by simp; omega
      clear hx0 hx1
      generalize bs.length = len at *
      generalize ms.length = lem at *
      go_enter Try.func4, Try.ntmps4
      go_wp2_with fail
      go_ret
      exact ⟨rfl, Below.refl _ _⟩
  · have hb0 : (1048576 : Int) < (bs.length : Int) := by omega
    have hb0d : decide ((1048576 : Int) < (bs.length : Int)) = true := by simp; omega
    clear hx0 hx1
    generalize bs.length = len at *
    generalize ms.length = lem at *
    go_enter Try.func4, Try.ntmps4
    go_wp2_with fail
    go_ret
    exact ⟨rfl, Below.refl _ _⟩
end Go.Proofs.Ytgkhjjnhikbdaaa
