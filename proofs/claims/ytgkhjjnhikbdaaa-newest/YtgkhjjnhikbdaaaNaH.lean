import Derived.Test.YtgkhjjnhikbdaaaNaG
namespace Go.Proofs.Ytgkhjjnhikbdaaa
open Go.RowKit Go.Maps
set_option linter.unusedVariables false
set_option linter.unusedSimpArgs false

theorem OnlyNM.below {N M B : Nat} {w w' : World} (h : OnlyNM N M w w') (hB : B ≤ N) (hw : B ≤ w.heap.size) : Below B w w' := ⟨h.os, h.tape, h.output, h.size, fun j hj => h.block j (by omega) (.inl (by omega))⟩
theorem ResE.keptNM {w w' : World} {N M B : Nat} {a : Option Addr} {xs : List En} (h : ResE w B a xs) (ho : OnlyNM N M w w') (hB : M ≤ B) : ResE w' B a xs := h.kept (fun k h1 h2 => ho.block k h2 (.inr (by omega)))
/-- What lies below B. -/
def LieB (w : World) (B : Nat) (a : Option Addr) (xs : List En) : Prop := LieE w a xs ∧ (xs = [] ∨ ∃ b off, a = some ⟨b, off, none⟩ ∧ b < B)
theorem LieB.keep {w w' : World} {B : Nat} {a : Option Addr} {xs : List En} (h : LieB w B a xs) (hk : Below B w w') (hw : B ≤ w.heap.size) : LieB w' B a xs := by
  obtain ⟨h1, h2⟩ := h
  refine ⟨?_, h2⟩
  rcases h2 with h2 | ⟨b, off, rfl, hb⟩
  · exact .inl h2
  · rcases h1 with h1 | ⟨b', off', e, hlt, hc⟩
    · exact .inl h1
    · cases e
      refine .inr ⟨b, off, rfl, Nat.lt_of_lt_of_le hlt hk.size, fun i hi => ?_⟩
      obtain ⟨a0, a1, a2, a3⟩ := hc i hi
      have ke : ∀ o, w'.cell? ⟨b, o, none⟩ = w.cell? ⟨b, o, none⟩ := fun o => hk.cell (p := ⟨b, o, none⟩) hb
      exact ⟨(ke _).trans a0, (ke _).trans a1, (ke _).trans a2, (ke _).trans a3⟩
theorem LieE.toB {w : World} {a : Option Addr} {xs : List En} (h : LieE w a xs) : LieB w w.heap.size a xs := by
  refine ⟨h, ?_⟩
  rcases h with h1 | ⟨b, off, h1, h2, -⟩
  · exact .inl h1
  · exact .inr ⟨b, off, h1, h2⟩
theorem LieSS.keepB {w w' : World} {a : Option Addr} {L : List LV} (h : LieSS w a L) (hk : Below w.heap.size w w') : LieSS w' a L := h.below hk
theorem markRes_any (a : Option Addr) (cap : Nat) (Z : List En) (B : Nat) (w : World) (h : ResE w B a Z) (hl : Z.length ≤ 1048576) (hB : B ≤ w.heap.size) :
    Calls Try.prog 12 #[.slice a Z.length cap, .int .i64 1] w fun e w' => e = .returned (.int .i64 ((1 + 4 * Z.length : Nat) : Int)) ∧ LieE w' a (mkE 1 Z.length) ∧ Below B w w' := by
  rcases h with h | ⟨g, rfl, hg, hr⟩
  · subst h
    refine (markEntryS_empty a cap 1 w).mono ?_
    rintro e w' ⟨rfl, rfl⟩
    exact ⟨rfl, .inl rfl, Below.refl _ _⟩
  · refine (markEntryS_row g cap Z.length 1 w [] (by omega) (by omega) (by omega) (hr.zero [])).mono ?_
    rintro e w' ⟨rfl, hr', ho⟩
    refine ⟨rfl, ?_, ho.below hg hB⟩
    refine RowE.lie ?_
    rw [mkE_length]
    exact hr'
set_option maxRecDepth 100000 in
set_option maxHeartbeats 8000000 in
theorem lawNew_any (a : Option Addr) (cap : Nat) (L : List LV) (w : World) (hx : LieSS w a L) (hf : FitsSS L) (hlen : L.length ≤ maxLen) :
    Calls Try.prog 3 #[.slice a L.length cap] w fun e w' => e = .returned (.bool true) ∧ Below w.heap.size w w' := by
  have HX := hdN hx
  have HSz := hdN (szEntrySS_any a cap L w hx hf hlen)
  have HKy : Hid (∀ e ∈ allE L, e.ky.size ≤ maxLen) := fun e he => by
    unfold allE at he
    obtain ⟨l, hl, hel⟩ := List.mem_flatMap.1 he
    obtain ⟨i, hi, rfl⟩ := List.mem_iff_getElem.1 hl
    have := (hf i hi).1 e (by simpa [List.getD, hi] using hel)
    exact this.1
  clear hx hf
  go_enter Try.func3, Try.ntmps3
  go_wp2_with fail
  refine HSz.out.mono ?_
  rintro e w1 ⟨⟨r, rfl, hr2⟩, hb1⟩
  have HB1 := hdN hb1
  clear hb1 HSz
  rcases hr2 with rfl | ⟨hr0, hr⟩
  · go_wp2_with fail
    go_ret
    exact ⟨rfl, HB1.out⟩
  · have hall := bulkSS_all L
    have hl : L.length ≤ 1048576 := by omega
    have hal : (allE L).length ≤ 1048576 := by omega
    have HLi : Hid (∀ i, i < L.length → (L.getD i lv0).xs.length ≤ 1048576) := fun i hi => by
      have h1 := allE_take L i hi
      have h2 := allE_len L (i + 1)
      rw [h1, List.length_append] at h2
      omega
    clear hr hall hlen
    have HTo : Hid (∀ w', Below w.heap.size w w' → Calls Try.prog 7 #[.slice a L.length cap] w' fun e w'' =>
      ∃ L', e = .returned (.slice (some ⟨w'.heap.size, 0, none⟩) L.length L.length) ∧ L'.length = L.length ∧ allE L' = allE L ∧ (∀ i, i < L.length → (L'.getD i lv0).xs = (L.getD i lv0).xs) ∧ CopyS w'' w'.heap.size w''.heap.size w'.heap.size L.length L' ∧ Below w'.heap.size w' w'') := fun w' hb => toEntrySS_any a cap L w' (HX.out.below hb) hl HLi.out
    obtain ⟨Z, hZ⟩ : ∃ Z, Z = newE (allE L) := ⟨_, rfl⟩
    have hZl : Z.length ≤ 1048576 := by rw [hZ]; unfold newE; exact Nat.le_trans (ddT_len _ _) hal
    have HSp : Hid (∀ (w' : World) (N M G : Nat) (L' : List LV), L'.length = L.length → allE L' = allE L → CopyS w' N M G L.length L' → Calls Try.prog 6 #[.slice (some ⟨G, 0, none⟩) L.length L.length] w' fun e w'' => ∃ a' c', e = .returned (.slice a' Z.length c') ∧ ResE w'' w'.heap.size a' Z ∧ Below w'.heap.size w' w'') := fun w' N M G L' h1 h2 h3 => by
      have := specNew_any (some ⟨G, 0, none⟩) L.length L' w' h3.lie (by omega) (by rw [h2]; exact hal) (by rw [h2]; exact HKy.out)
      rw [h1, h2, ← hZ] at this
      exact this
    have HIm : Hid (∀ (w' : World) (N M G : Nat) (L' : List LV), L'.length = L.length → allE L' = allE L → CopyS w' N M G L.length L' → Calls Try.prog 8 #[.slice (some ⟨G, 0, none⟩) L.length L.length] w' fun e w'' => ∃ a' c', e = .returned (.slice a' Z.length c') ∧ ResE w'' w'.heap.size a' Z ∧ Below w'.heap.size w' w'') := fun w' N M G L' h1 h2 h3 => by
      have := implNew_any (some ⟨G, 0, none⟩) L.length L' w' h3.lie (by omega) (by rw [h2]; exact hal)
      rw [h1, h2, ← hZ] at this
      exact this
    have HEqS : Hid (∀ (w' : World) (N M G N' M' G' : Nat) (L1 L2 : List LV), L1.length = L.length → L2.length = L.length → (∀ i, i < L.length → (L1.getD i lv0).xs = (L.getD i lv0).xs) → (∀ i, i < L.length → (L2.getD i lv0).xs = (L.getD i lv0).xs) → CopyS w' N M G L.length L1 → CopyS w' N' M' G' L.length L2 → Calls Try.prog 10 #[.slice (some ⟨G, 0, none⟩) L.length L.length, .slice (some ⟨G', 0, none⟩) L.length L.length] w' fun e w'' => e = .returned (.bool true) ∧ Below w'.heap.size w' w'') := fun w' N M G N' M' G' L1 L2 h1 h2 h3 h4 h5 h6 => by
      have := eqEntrySS_same (some ⟨G, 0, none⟩) (some ⟨G', 0, none⟩) L.length L.length L1 L2 w' h5.lie h6.lie (by omega) (fun i hi => by rw [h3 i (by omega), h4 i (by omega)]) (by omega) (fun i hi => by rw [h3 i (by omega)]; exact HLi.out i (by omega))
      rw [h1] at this
      exact this
    have HMk : Hid (∀ (w' : World) (N M G : Nat) (L' : List LV), L'.length = L.length → allE L' = allE L → CopyS w' N M G L.length L' → Calls Try.prog 11 #[.slice (some ⟨G, 0, none⟩) L.length L.length, .int .i64 1] w' fun e w'' => (∃ q : Nat, e = .returned (.int .i64 (q : Int))) ∧ OnlyNM N M w' w'') := fun w' N M G L' h1 h2 h3 => by
      have := markEntrySS_any N M G L.length L' w' h3.room (by omega) (by rw [h2]; exact hal)
      rw [h1] at this
      exact this
    clear hZ hal HKy HLi HX
    generalize L.length = n at *
    go_wp2_with fail
    refine (HTo.out w1 HB1.out).mono ?_
    rintro e w2 ⟨L2, rfl, p1, p2, p3, p4, hb2⟩
    have HB2 := hdN (HB1.out.trans (hb2.mono HB1.out.size))
    have HC := hdN (HSp.out w2 _ _ _ L2 p1 p2 p4)
    have hs2 := hdN hb2.size
    clear p1 p2 p3 p4 hb2 HSp
    go_wp2_with fail
    refine HC.out.mono ?_
    rintro e w3 ⟨a3, c3, rfl, r3, hb3⟩
    have HW3 := hdN r3.lie.toB
    have HB3 := hdN (HB2.out.trans (hb3.mono HB2.out.size))
    clear r3 hb3 HC
    go_wp2_with fail
    refine (HTo.out w3 HB3.out).mono ?_
    rintro e w4 ⟨L4, rfl, p1, p2, p3, p4, hb4⟩
    have HP1 := hdN p1
    have HP2 := hdN p2
    have HP3 := hdN p3
    have HC4 := hdN p4
    have HB4 := hdN (HB3.out.trans (hb4.mono HB3.out.size))
    have HK4 := hdN hb4
    have HC := hdN (HIm.out w4 _ _ _ L4 p1 p2 p4)
    clear p1 p2 p3 p4 hb4
    go_wp2_with fail
    refine HC.out.mono ?_
    rintro e w5 ⟨a5, c5, rfl, r5, hb5⟩
    have HR5 := hdN r5
    have HC5 := hdN (HC4.out.below hb5)
    have HB5 := hdN (HB4.out.trans (hb5.mono HB4.out.size))
    have HK5 := hdN (HK4.out.trans (hb5.mono HK4.out.size))
    have HS5 := hdN hb5.size
    clear r5 hb5 HC HC4
    have HC := hdN (eqEntryS_same a5 a3 c5 c3 Z w5 HR5.out.lie (HW3.out.keep HK5.out (Nat.le_refl _)).1 hZl)
    go_wp2_with fail
    refine HC.out.mono ?_
    rintro e w6 ⟨rfl, hb6⟩
    have HR6 := hdN (HR5.out.below hb6)
    have HC6 := hdN (HC5.out.below hb6)
    have HB6 := hdN (HB5.out.trans (hb6.mono HB5.out.size))
    have HK6 := hdN (HK5.out.trans (hb6.mono HK5.out.size))
    have HS6 := hdN (Nat.le_trans HS5.out hb6.size)
    clear hb6 HC HR5 HC5 HB5 HK5 HS5
    go_wp2_with fail
    refine (HTo.out w6 HB6.out).mono ?_
    rintro e w7 ⟨L7, rfl, p1, p2, p3, p4, hb7⟩
    have HR7 := hdN (HR6.out.below hb7)
    have HC7 := hdN (HC6.out.below hb7)
    have HB7 := hdN (HB6.out.trans (hb7.mono HB6.out.size))
    have HK7 := hdN (HK6.out.trans (hb7.mono HK6.out.size))
    have HS7 := hdN (Nat.le_trans HS6.out hb7.size)
    have HC := hdN (HEqS.out w7 _ _ _ _ _ _ L4 L7 HP1.out p1 HP3.out p3 HC7.out p4)
    clear p1 p2 p3 p4 hb7 HR6 HC6 HB6 HK6 HS6 HEqS
    go_wp2_with fail
    refine HC.out.mono ?_
    rintro e w8 ⟨rfl, hb8⟩
    have HR8 := hdN (HR7.out.below hb8)
    have HB8 := hdN (HB7.out.trans (hb8.mono HB7.out.size))
    have HK8 := hdN (HK7.out.trans (hb8.mono HK7.out.size))
    have HS8 := hdN (Nat.le_trans HS7.out hb8.size)
    have HM := hdN (HMk.out w8 _ _ _ L4 HP1.out HP2.out (HC7.out.below hb8))
    clear hb8 HC HR7 HC7 HB7 HK7 HS7 HMk
    go_wp2_with fail
    refine HM.out.mono ?_
    rintro e w9 ⟨⟨q, rfl⟩, ho9⟩
    have HR9 := hdN (HR8.out.keptNM ho9 (Nat.le_refl _))
    have hbx : Below w3.heap.size w8 w9 := ho9.below (Nat.le_refl _) HK8.out.size
    have HK9 := hdN (HK8.out.trans hbx)
    have HB9 := hdN (HB8.out.trans (hbx.mono HB3.out.size))
    have HS9 := hdN (Nat.le_trans HS8.out ho9.size)
    clear hbx ho9 HM HR8 HK8 HB8 HS8
    have HC := hdN (eqEntryS_same a5 a3 c5 c3 Z w9 HR9.out.lie (HW3.out.keep HK9.out (Nat.le_refl _)).1 hZl)
    have hq0 : ¬ ((q : Int) < 0) := by omega
    have hq0d : decide ((q : Int) < 0) = false := by simp
    go_wp2_with fail
    refine HC.out.mono ?_
    rintro e w10 ⟨rfl, hb10⟩
    have HR10 := hdN (HR9.out.below hb10)
    have HK10 := hdN (HK9.out.trans (hb10.mono HK9.out.size))
    have HB10 := hdN (HB9.out.trans (hb10.mono HB9.out.size))
    have HS10 := hdN (Nat.le_trans HS9.out hb10.size)
    have HC10 := hdN (markRes_any a5 c5 Z w4.heap.size w10 HR10.out hZl HS10.out)
    clear hb10 HC HR9 HK9 HB9 HS9
    go_wp2_with fail
    refine HC10.out.mono ?_
    rintro e w11 ⟨rfl, hl11, hb11⟩
    have HK11 := hdN (HK10.out.trans (hb11.mono HK4.out.size))
    have HB11 := hdN (HB10.out.trans (hb11.mono HB4.out.size))
    have HC11 := hdN (heldEntryS_row a5 c5 Z.length 1 w11 (by omega) (by omega) (by omega) hl11)
    clear hl11 hb11 HC10 HR10 HK10 HB10 HS10
    obtain ⟨mm, hmm⟩ : ∃ mm : Nat, mm = 1 + 4 * Z.length := ⟨_, rfl⟩
    rw [← hmm] at HC11 ⊢
    clear hmm
    have hm0 : ¬ ((mm : Int) < 0) := by omega
    go_wp2_with fail
    refine HC11.out.mono ?_
    rintro e w12 ⟨rfl, hb12⟩
    have HK12 := hdN (HK11.out.trans (hb12.mono HK11.out.size))
    have HB12 := hdN (HB11.out.trans (hb12.mono HB11.out.size))
    clear hb12 HC11 HK11 HB11
    go_wp2_with fail
    refine (HTo.out w12 HB12.out).mono ?_
    rintro e w13 ⟨L13, rfl, p1, p2, p3, p4, hb13⟩
    have HC13 := hdN (HIm.out w13 _ _ _ L13 p1 p2 p4)
    have HK13 := hdN (HK12.out.trans (hb13.mono HK12.out.size))
    have HB13 := hdN (HB12.out.trans (hb13.mono HB12.out.size))
    clear p1 p2 p3 p4 hb13 HIm HTo HK12 HB12
    go_wp2_with fail
    refine HC13.out.mono ?_
    rintro e w14 ⟨a14, c14, rfl, r14, hb14⟩
    have HK14 := hdN (HK13.out.trans (hb14.mono HK13.out.size))
    have HB14 := hdN (HB13.out.trans (hb14.mono HB13.out.size))
    have HC14 := hdN (eqEntryS_same a14 a3 c14 c3 Z w14 r14.lie (HW3.out.keep HK14.out (Nat.le_refl _)).1 hZl)
    clear r14 hb14 HC13 HK13 HB13
    go_wp2_with fail
    refine HC14.out.mono ?_
    rintro e w15 ⟨rfl, hb15⟩
    have HB15 := hdN (HB14.out.trans (hb15.mono HB14.out.size))
    clear hb15 HC14
    go_wp2_with fail
    go_ret
    exact ⟨rfl, HB15.out⟩
end Go.Proofs.Ytgkhjjnhikbdaaa
