import Derived.Test.YtgmfjninimebmaaGreatDoorTbD

namespace Go.Proofs.YtgmfjninimebmaaGreatDoor
open Go.RowKit Go.Maps
set_option linter.unusedVariables false
set_option linter.unusedSimpArgs false

/-- The texts xs lie at a, wherever. -/
def LieS (w : World) (a : Option Addr) (xs : List ByteArray) : Prop := xs = [] ∨ ∃ g, a = some ⟨g, 0, none⟩ ∧ g < w.heap.size ∧ ∀ i, i < xs.length → w.cell? ⟨g, i, none⟩ = some (.string (xs.getD i ByteArray.empty))
theorem ResS.lie {w : World} {base : Nat} {a : Option Addr} {xs : List ByteArray} (h : ResS w base a xs) : LieS w a xs := by
  rcases h with h | ⟨g, rfl, hg, hr⟩
  · exact .inl h
  · exact .inr ⟨g, rfl, hr.lt, fun i hi => hr.at hi⟩
theorem LieS.below {w w' : World} {a : Option Addr} {xs : List ByteArray} {B : Nat} (h : LieS w a xs) (hb : Below w.heap.size w w') : LieS w' a xs := by
  rcases h with h | ⟨g, rfl, hg, hr⟩
  · exact .inl h
  · exact .inr ⟨g, rfl, Nat.lt_of_lt_of_le hg hb.size, fun i hi => (hb.cell (p := ⟨g, i, none⟩) hg).trans (hr i hi)⟩
theorem pl_size (s : ByteArray) (h : s.size ≤ 1048576) : ∀ p ∈ pl s, p.size ≤ 1048576 := by
  intro p hp
  unfold pl at hp
  obtain ⟨f, hf, rfl⟩ := List.mem_map.1 hp
  have h1 : f ∈ frs s 0 := (List.takeWhile_sublist (gd 66) (l := frs s 0)).subset hf
  have key : ∀ d q, s.size - q ≤ d → ∀ f ∈ frs s q, (rfB f).size ≤ s.size := by
    intro d
    induction d with
    | zero => intro q hq f hf; rw [frs_end (by omega)] at hf; cases hf
    | succ d ih =>
      intro q hq f hf
      by_cases hp : q * 64 < s.size
      · rw [frs_more hp] at hf
        rcases List.mem_cons.1 hf with rfl | hf
        · exact rf_size s q
        · exact ih (nx s q) (by have := nx_gt s q; omega) f hf
      · rw [frs_end hp] at hf; cases hf
  exact Nat.le_trans (key s.size 0 (by omega) f h1) h
theorem LieS.grown {w w' : World} {a : Option Addr} {xs : List ByteArray} {row : Option Nat} (h : LieS w a xs) (hg : w.grownBy w' row) (hne : 0 < xs.length → ∀ g, row = some g → a ≠ some ⟨g, 0, none⟩) : LieS w' a xs := by
  rcases h with rfl | ⟨b, rfl, hl, hc⟩
  · exact .inl rfl
  · by_cases h0 : 0 < xs.length
    · have hb := hg.block b hl (fun e => hne h0 b e.symm rfl)
      exact .inr ⟨b, rfl, Nat.lt_of_lt_of_le hl hg.size, fun i hi => by rw [show w'.cell? ⟨b, i, none⟩ = w.cell? ⟨b, i, none⟩ by simp only [World.cell?, hb]]; exact hc i hi⟩
    · exact .inl (List.length_eq_zero_iff.1 (by omega))
theorem takeB_snoc (xs : List ByteArray) (k : Nat) (h : k < xs.length) : xs.take (k + 1) = xs.take k ++ [xs.getD k ByteArray.empty] := by
  rw [List.take_succ_eq_append_getElem h]
  simp [List.getD, h]

set_option maxRecDepth 100000 in
set_option maxHeartbeats 2000000 in
theorem specRT_any (s : ByteArray) (w : World) (hs : s.size ≤ 1048576) :
    Calls Tryz.prog 17 #[.string s] w fun e w' => ∃ a cap, e = .returned (.tuple #[.slice a (rtL s).length cap, .bool (rtO s).isSome]) ∧ ResE w' w.heap.size a (rtL s) ∧ Below w.heap.size w w' := by
  obtain ⟨i0, hi, hz0, hz1, hz2⟩ := info_parts iEntry_info
  have HLog := hdB (fun w => specLog_any s 66 w hs)
  rw [show (rlL s 66).map rfB = pl s from rfl, show (rlL s 66).length = (pl s).length by unfold pl; rw [List.length_map]] at HLog
  have hPl := pl_len s
  have HPs := hdB (pl_size s hs)
  have HN : Hid (rtO s = none → rtL s = []) := fun h => rtL_none h
  have HBad : Hid (∀ k, k < (pl s).length → (dec ((pl s).getD k ByteArray.empty)).isSome = false → rtO s = none) := fun k hk h => by
    refine rtO_none ?_
    rintro ⟨h1, -⟩
    have : (dec ((pl s).getD k ByteArray.empty)).isSome = true := by
      have hm : (pl s).getD k ByteArray.empty ∈ pl s := by rw [show (pl s).getD k ByteArray.empty = (pl s)[k] by simp [List.getD, hk]]; exact List.getElem_mem hk
      exact List.all_eq_true.1 h1 _ hm
    rw [h] at this
    cases this
  have HE0 : Hid (s.size = 0 → rtO s = none) := fun h => rtO_none (by rintro ⟨-, h2, -⟩; exact h2 h)
  have HE1 : Hid (tabT (esT (pl s)) ≠ s → rtO s = none) := fun h => rtO_none (by rintro ⟨-, -, h2⟩; exact h h2)
  have HE2 : Hid (okD (pl s) = true → s.size ≠ 0 → tabT (esT (pl s)) = s → rtO s = some (esT (pl s)) ∧ rtL s = esT (pl s)) := fun h1 h2 h3 => ⟨rtO_some h1 h2 h3, rtL_some (rtO_some h1 h2 h3)⟩
  generalize rtO s = O at *
  generalize rtL s = L at *
  generalize pl s = P at *
  have ho0 : (w.alloc (.cells #[] 50)).ownsRow w.heap.size 50 4 (.slice (some ⟨w.heap.size, 0, none⟩) 0 0) 0 (cellsE []) := ownsE_lit w _ (Nat.le_refl _)
  have hb0 : Below w.heap.size w (w.alloc (.cells #[] 50)) := (Below.refl _ _).alloc (Nat.le_refl _) _
  go_enter Tryz.func17, Tryz.ntmps17
  go_wp2_with fail
  refine (HLog.out _).mono ?_
  rintro e w1 ⟨a1, cap1, rfl, hr1, hb1⟩
  have hbw1 := hb0.trans (hb1.mono hb0.size)
  have ho2 := ownsE_lit w1 w.heap.size hbw1.size
  have hb2 : Below w.heap.size w (w1.alloc (.cells #[] 50)) := hbw1.alloc hbw1.size _
  have hL2 := LieS.below (B := 0) hr1.lie ((Below.refl w1.heap.size w1).alloc (Nat.le_refl _) (.cells #[] 50))
  have hL1 := hr1.lie
  clear hb1 hr1 ho0
  go_wp2_with fail
  go_loopw [7, 8] (fun v i wr => ∃ k : Nat, i = .int .i64 k ∧ k ≤ P.length ∧ Hid (okD (P.take k) = true) ∧ wr.ownsRow w.heap.size 50 4 v (esT (P.take k)).length (cellsE (esT (P.take k))) ∧ LieS wr a1 P ∧ Hid (0 < P.length → ∀ g, v.ownBlock = some g → a1 ≠ some ⟨g, 0, none⟩) ∧ Below w.heap.size w wr) (fun _ i _ => P.length - (intOf i).toNat)
  case atStart =>
    refine ⟨0, rfl, Nat.zero_le _, rfl, ho2, hL2, fun h0 g h1 h2 => ?_, hb2⟩
    simp [Value.ownBlock] at h1
    rcases hL1 with h | ⟨g', h3, h4, -⟩
    · rw [h] at h0; simp at h0
    · rw [h2] at h3
      cases h3
      omega
  case round =>
    clear ho2 hb2 hL2 hL1
    obtain ⟨k, rfl, hk, HOk, hown, hL, HNe, hb⟩ := hrel
    obtain ⟨av, cv, rfl⟩ := owns_sliceB hown
    have hbs := hb.size
    have hel := esT_len (P.take k)
    rw [List.length_take] at hel
    by_cases hlt : k < P.length
    · rcases hL with h | ⟨g1, rfl, hg1, hc⟩
      · rw [h] at hlt; simp at hlt
      have c0 := hc k hlt
      have HLs : Hid (LieS wr (some ⟨g1, 0, none⟩) P) := .inr ⟨g1, rfl, hg1, hc⟩
      have hik : (k : Int) < (P.length : Int) := by omega
      have hps : (P.getD k ByteArray.empty).size ≤ 1048576 := by
        rw [show P.getD k ByteArray.empty = P[k] by simp [List.getD, hlt]]
        exact HPs.out _ (List.getElem_mem hlt)
      have HD := hdB (fun w => specDec_any (P.getD k ByteArray.empty) w hps)
      have HBk := hdB (HBad.out k hlt)
      have HSt : Hid (esT (P.take (k + 1)) = esT (P.take k) ++ decL (P.getD k ByteArray.empty)) := by show _ = _; rw [takeB_snoc P k hlt, esT_snoc]
      have HOk2 : Hid ((dec (P.getD k ByteArray.empty)).isSome = true → okD (P.take (k + 1)) = true) := fun h => by rw [takeB_snoc P k hlt, okD_snoc, HOk.out, h]; rfl
      have hdl := decL_len (P.getD k ByteArray.empty)
      have HB := hdB hb
      have HO := hdB hown
      clear hc hown hb HOk
      generalize P.getD k ByteArray.empty = p at *
      generalize decL p = D at *
      generalize dec p = dp at *
      go_wp2_with fail
      refine (HD.out _).mono ?_
      rintro e w3 ⟨a3, cap3, rfl, hr3, hb3⟩
      have HB3 := hdB (HB.out.trans (hb3.mono hbs))
      have hO3 := owns_below HO.out hb3
      have hL3 := LieS.below (B := 0) HLs.out hb3
      have hs3 := hb3.size
      cases hdp : dp.isSome with
      | false =>
        have hO := HBk.out hdp
        subst hO
        have hL0 := HN.out rfl
        subst hL0
        clear HSt HOk2 hO3
        go_wp2_with fail
        go_ret2
        exact ⟨_, _, rfl, .inl rfl, HB3.out⟩
      | true =>
        have HOk3 := hdB (HOk2.out hdp)
        have hE3 := hr3.lie
        have HDj : Hid (0 < D.length → ∀ g o, (Value.slice av (esT (P.take k)).length cv).ownBlock = some g → a3 ≠ some ⟨g, o, none⟩) := fun h0 g o h1 h2 => by
          have := owns_ltB HO.out g h1
          rcases hr3 with h | ⟨g', h3, h4, -⟩
          · rw [h] at h0; simp at h0
          · rw [h2] at h3
            cases h3
            omega
        clear hr3 hb3 HD HBk HOk2 HO HB HLs hdp
        have hX : (esT (P.take k)).length ≤ 1048576000 := by omega
        clear hel c0
        generalize esT (P.take k) = X at *
        go_wp2_with fail
        go_loopw [7, 11] (fun v j wr => ∃ m : Nat, j = .int .i64 m ∧ m ≤ D.length ∧ wr.ownsRow w.heap.size 50 4 v (X ++ D.take m).length (cellsE (X ++ D.take m)) ∧ LieE wr a3 D ∧ LieS wr (some ⟨g1, 0, none⟩) P ∧ Hid (0 < D.length → ∀ g o, v.ownBlock = some g → a3 ≠ some ⟨g, o, none⟩) ∧ Hid (0 < P.length → ∀ g, v.ownBlock = some g → (some (⟨g1, 0, none⟩ : Addr)) ≠ some ⟨g, 0, none⟩) ∧ Below w.heap.size w wr) (fun _ j _ => D.length - (intOf j).toNat)
        case atStart => exact ⟨0, rfl, Nat.zero_le _, by simpa using hO3, hE3, hL3, HDj, HNe, HB3.out⟩
        case round =>
          clear hO3 hE3 hL3 HDj HNe HB3 hs3
          obtain ⟨m, rfl, hm, hown, hE, hL, HDj, HNe, hb⟩ := hrel
          obtain ⟨av, cv, rfl⟩ := owns_sliceB hown
          have hbs := hb.size
          by_cases hlm : m < D.length
          · obtain ⟨b, off, rfl, hbl, d0, d1, d2, d3⟩ := hE.at hlm
            have hij : (m : Int) < (D.length : Int) := by omega
            have HT : Hid (X ++ D.take (m + 1) = X ++ D.take m ++ [D.getD m en0]) := by show _ = _; rw [takeE_snoc D m hlm, List.append_assoc]
            have hX2 : (X ++ D.take m).length ≤ 1048578000 := by rw [List.length_append, List.length_take]; omega
            have HO := hdB hown
            have HE := hdB hE
            have HLs := hdB hL
            have HB := hdB hb
            clear hown hE hL hb
            generalize X ++ D.take m = Y at *
            generalize D.getD m en0 = f at *
            obtain ⟨ky, sq, kd, vl⟩ := f
            have HC : Hid (∀ j u, [Value.string ky, .int .i64 sq, .int .i64 kd, .string vl][j]? = some u → (wr.alloc (.cells #[.string ky, .int .i64 sq, .int .i64 kd, .string vl] 50)).cell? ((⟨wr.heap.size, 0, none⟩ : Addr).add j) = some u) := cell_first4 _ _ _ _ _ _
            have HBs : Hid (w.heap.size ≤ (wr.alloc (.cells #[.string ky, .int .i64 sq, .int .i64 kd, .string vl] 50)).heap.size) := by show _ ≤ _; simp; omega
            go_wp2_with (at_builtin; refine wpList_append_own_at _ rfl _ _ 26 rfl w.heap.size 50 i0 _ 4 48 Tryz.underlying26 hi hz0 hz1 hz2 rfl (by decide) _ _ _ rfl (HO.out.alloc _) ⟨wr.heap.size, 0, none⟩ 1 1 [.string ky, .int .i64 sq, .int .i64 kd, .string vl] rfl rfl HC.out (fun x hx => by simp at hx; rcases hx with rfl | rfl | rfl | rfl <;> rfl) (by unfold maxLen; omega) (by omega) HBs.out ?_; intro v' w8 hown8 hgrow hnil hat)
            have hal : Below wr.heap.size wr (wr.alloc (.cells #[.string ky, .int .i64 sq, .int .i64 kd, .string vl] 50)) := (Below.refl _ _).alloc (Nat.le_refl _) _
            have hsa : wr.heap.size ≤ (wr.alloc (.cells #[.string ky, .int .i64 sq, .int .i64 kd, .string vl] 50)).heap.size := hal.size
            refine ⟨⟨m + 1, by simp, by omega, ?_, (HE.out.below hal).grown hgrow (fun g o h => HDj.out (by omega) g o h), (LieS.below (B := 0) HLs.out hal).grown hgrow (fun h0 g h => HNe.out h0 g h), fun h0 g o h => ?_, fun h0 g h => ?_, (HB.out.alloc hbs _).grown hgrow HBs.out (owns_base HO.out)⟩, by simp only [intOf]; omega⟩
            · rw [HT.out, List.length_append, cellsE_snoc]
              exact hown8
            · rcases hat with h1 | h1
              · exact HDj.out h0 g o (h1.symm.trans h)
              · rw [h1] at h
                intro e
                cases e
                have := Option.some.inj h
                omega
            · rcases hat with h1 | h1
              · exact HNe.out h0 g (h1.symm.trans h)
              · rw [h1] at h
                intro e
                cases e
                have := Option.some.inj h
                rcases HLs.out with h2 | ⟨g2, h2, h3, -⟩
                · rw [h2] at h0; simp at h0
                · cases h2
                  omega
          · obtain rfl : m = D.length := by omega
            have hij : ¬ (D.length : Int) < (D.length : Int) := by omega
            rw [List.take_length] at hown HDj HNe ⊢
            rw [← HSt.out] at hown HDj HNe ⊢
            have HO := hdB hown
            clear hown
            go_wp2_with fail
            refine ⟨⟨k + 1, by simp, by omega, HOk3, ?_, hL, HNe, hb⟩, by simp only [intOf]; omega⟩
            exact HO.out
    · obtain rfl : k = P.length := by omega
      have hij : ¬ (P.length : Int) < (P.length : Int) := by omega
      rw [List.take_length] at hown HOk hel HNe ⊢
      have hB' := hdB hb
      by_cases hz : s.size = 0
      · have hO := HE0.out hz
        subst hO
        have hL0 := HN.out rfl
        subst hL0
        clear hown
        go_wp2_with fail
        all_goals (first | (go_ret2; exact ⟨_, _, rfl, .inl rfl, hb⟩) | (go_ret2; exact ⟨_, ⟨_, rfl⟩, .inl rfl, hb⟩))
      · obtain ⟨-, av', cv', hv, hres⟩ := resE_of_owns hown
        have hcv : (esT P).length ≤ cv := by
          rcases hown.2 with ⟨h1, h2⟩ | ⟨g, cap, cur, h1, -, -, h2, -⟩
          · injection h1 with h3 h4 h5; omega
          · injection h1 with h3 h4 h5; omega
        injection hv with e1 e2 e3
        subst e1
        subst e3
        clear e2
        have HTb := hdB (fun w hx => specTab_any av cv (esT P) w hx (fits_all (esT_all P)) (by omega) hcv)
        have hLie := hres.lie
        have hE1 := HE1.out
        have hE2 := HE2.out HOk.out hz
        have HRes := hdB hres
        clear hown hres HE0 HE1 HE2 HBad HPs
        generalize esT P = E at *
        have hz' : ¬ (s.size : Int) = 0 := by omega
        by_cases hT : tabT E = s
        · obtain ⟨hO, hL'⟩ := hE2 hT
          subst hO
          subst hL'
          rw [hT] at HTb
          go_wp2_with (go_at_call 37; refine (HTb.out _ hLie).mono ?_; rintro e w5 ⟨rfl, hb5⟩)
          go_ret2
          first | exact ⟨_, _, rfl, HRes.out.below hb5, hB'.out.trans (hb5.mono hbs)⟩ | exact ⟨_, ⟨_, rfl⟩, HRes.out.below hb5, hB'.out.trans (hb5.mono hbs)⟩
        · have hO := hE1 hT
          subst hO
          have hL0 := HN.out rfl
          subst hL0
          have hne : ((tabT E).toList == s.toList) = false := by
            cases h : ((tabT E).toList == s.toList) with
            | false => rfl
            | true => exact absurd (toList_eq' h) hT
          generalize tabT E = TE at *
          go_wp2_with (go_at_call 37; refine (HTb.out _ hLie).mono ?_; rintro e w5 ⟨rfl, hb5⟩)
          go_ret2
          first | exact ⟨_, _, rfl, .inl rfl, hB'.out.trans (hb5.mono hbs)⟩ | exact ⟨_, ⟨_, rfl⟩, .inl rfl, hB'.out.trans (hb5.mono hbs)⟩
end Go.Proofs.YtgmfjninimebmaaGreatDoor
