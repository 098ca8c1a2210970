import Derived.Test.YtohpfjpgihcmiaaGreatDoorPsS

namespace Go.Proofs.YtohpfjpgihcmiaaGreatDoor
open Go.RowKit Go.Maps
set_option linter.unusedVariables false
set_option linter.unusedSimpArgs false

set_option maxRecDepth 100000 in
set_option maxHeartbeats 8000000 in
theorem specPs_any (s : ByteArray) (w : World) (hs : s.size ≤ 1048576) :
    Calls Tryz.prog 4 #[.string s] w fun e w' => ∃ (q : Int) (v : Value) (os : List OpW) (c : Int), e = .returned (.tuple #[.agg #[.int .i64 q, v], .int .i64 c]) ∧ ScR w' w.heap.size v os ∧ (q, os.map (·.o), c) = psV s ∧ Below w.heap.size w w' := by
  obtain ⟨i0, hi, hz0, hz1, hz2⟩ := info_parts iOp_info
  have hb0 : Below w.heap.size w (w.alloc (.cells #[.int .i64 0, .slice none 0 0] 24)) := (Below.refl _ _).alloc (Nat.le_refl _) _
  have hR0 : (w.alloc (.cells #[.int .i64 0, .slice none 0 0] 24)).heap[w.heap.size]? = some (.cells #[.int .i64 0, .slice none 0 0] 24 (0, 0)) := World.heap_alloc_new _ _
  have hs0 : (w.alloc (.cells #[.int .i64 0, .slice none 0 0] 24)).heap.size = w.heap.size + 1 := size_alloc _ _
  by_cases hbig : 60000 < s.size
  · have hbig' : (60000 : Int) < (s.size : Int) := by omega
    have HV : Hid (psV s = (0, [], 1)) := if_pos hbig
    go_enter Tryz.func4, Tryz.ntmps4
    go_wp2_with fail
    obtain ⟨x0, x1, -⟩ := two_cellsP hR0
    refine bodyPost_ret (v := .tuple #[.agg #[.int .i64 0, .slice none 0 0], .int .i64 1]) (by simp [results, Tryz.results4, go_sem, x0, x1]) rfl ⟨0, .slice none 0 0, [], 1, rfl, ScR.nil _ _, HV.out.symm, hb0⟩
  · have hbig' : ¬ (60000 : Int) < (s.size : Int) := by omega
    have HLN := hdN (l7Lines_any s (w.alloc (.cells #[.int .i64 0, .slice none 0 0] 24)) hs)
    have HLZ : Hid (∀ x ∈ lnB s, x.size ≤ 60000) := by
      intro x hx
      have hm : x ∈ cutB 10 s := by
        unfold lnB at hx
        split at hx
        · exact (List.dropLast_sublist _).subset hx
        · exact hx
      have := cut_size 10 s x hm
      omega
    have hll : (lnB s).length ≤ 60001 := by
      have h1 := cutB_len 10 s
      have h2 : (lnB s).length ≤ (cutB 10 s).length := by
        unfold lnB
        split
        · simp
        · exact Nat.le_refl _
      omega
    have HV : Hid (psV s = match lnB s with
        | [] => (0, [], 2)
        | l :: ls => match quotaM l with
          | none => (0, [], 2)
          | some q => match opsM 0 ls with
            | .ok os => (q, os, 0)
            | .error j => (0, [], 3 + (j : Int))) := if_neg hbig
    generalize lnB s = L at *
    generalize psV s = res at *
    obtain ⟨w0, hw0⟩ : ∃ w0, w0 = w.alloc (.cells #[.int .i64 0, .slice none 0 0] 24) := ⟨_, rfl⟩
    rw [← hw0] at hb0 hR0 hs0 HLN
    have hlt0 := heap_ltP hR0
    cases L with
    | nil =>
      go_enter Tryz.func4, Tryz.ntmps4
      go_wp2_with fail
      rw [← hw0]
      refine HLN.out.mono ?_
      rintro e w1 ⟨a, cap, rfl, hL1, hb1⟩
      have hR2 := (hb1.block w.heap.size (by omega)).trans hR0
      have hbw2 : Below w.heap.size w w1 := hb0.trans (hb1.mono hb0.size)
      have HV2 : Hid (res = (0, [], 2)) := HV
      clear hL1 hb1 hw0 hR0
      obtain ⟨x0, x1, z0, z1, hl1⟩ := two_cellsP hR2
      go_wp2_with fail
      refine bodyPost_ret (v := .tuple #[.agg #[.int .i64 0, .slice none 0 0], .int .i64 2]) (by simp [results, Tryz.results4, go_sem, x0, x1, z0, z1]) rfl ⟨0, .slice none 0 0, [], 2, rfl, ScR.nil _ _, HV2.out.symm, ?_⟩
      exact belowSet (belowSet hbw2 (Nat.le_refl _)) (Nat.le_refl _)
    | cons l ls =>
      have HLL : Hid (l.size ≤ 1048576) := Nat.le_trans (HLZ.out l (by simp)) (by omega)
      have HQS := hdN (quota_S l)
      simp only [List.length_cons] at *
      have hl1' : ((ls.length : Int) + 1 == 0) = false := by simp; omega
      go_enter Tryz.func4, Tryz.ntmps4
      go_wp2_with fail
      rw [← hw0]
      refine HLN.out.mono ?_
      rintro e w1 ⟨a, cap, rfl, hL1, hb1⟩
      have hR1 := (hb1.block w.heap.size (by omega)).trans hR0
      have hbw1 : Below w.heap.size w w1 := hb0.trans (hb1.mono hb0.size)
      have hL0 := hL1
      rcases hL1 with h | ⟨b, off, rfl, hbl, hcc⟩
      · cases h
      have hc0 : w1.cell? ⟨b, off, none⟩ = some (.string l) := hcc 0 (by simp)
      have hs1 := hb1.size
      clear HLN hw0 hR0 hb0 hb1 hcc
      go_wp2_with fail
      refine (begins_any l ⟨#[113, 117, 111, 116, 97, 32]⟩ w1 HLL.out (by decide)).mono ?_
      rintro e w2 ⟨rfl, hb2⟩
      have hR2 := (hb2.block w.heap.size (by omega)).trans hR1
      have hbw2 : Below w.heap.size w w2 := hbw1.trans (hb2.mono hbw1.size)
      have hL2 := hL0.below hb2
      have hc2 := (hb2.cell (p := ⟨b, off, none⟩) hbl).trans hc0
      have hs2 := hb2.size
      have hbl2 : b < w2.heap.size := by omega
      have e1 : (⟨#[113, 117, 111, 116, 97, 32]⟩ : ByteArray).data.toList.isPrefixOf l.data.toList = qPre.isPrefixOf l.data.toList := rfl
      rw [e1]
      clear hc0 hR1 hbw1 hb2 hL0 e1
      cases hp : qPre.isPrefixOf l.data.toList with
      | false =>
        have HV2 : Hid (res = (0, [], 2)) := by
          have h1 := HV.out
          have h2 := HQS.out
          rw [hp] at h2
          rw [h2] at h1
          exact h1
        obtain ⟨x0, x1, z0, z1, hl1⟩ := two_cellsP hR2
        go_wp2_with fail
        refine bodyPost_ret (v := .tuple #[.agg #[.int .i64 0, .slice none 0 0], .int .i64 2]) (by simp [results, Tryz.results4, go_sem, x0, x1, z0, z1]) rfl ⟨0, .slice none 0 0, [], 2, rfl, ScR.nil _ _, HV2.out.symm, ?_⟩
        exact belowSet (belowSet hbw2 (Nat.le_refl _)) (Nat.le_refl _)
      | true =>
        have hp6 : 6 ≤ l.size := by
          obtain ⟨t, ht⟩ := List.isPrefixOf_iff_prefix.1 hp
          have h1 := congrArg List.length ht
          have h2 : l.data.toList.length = l.size := by rw [Array.length_toList]; rfl
          rw [List.length_append, h2] at h1
          have h3 : qPre.length = 6 := rfl
          omega
        have hp6' : (6 : Int) ≤ (l.size : Int) := by omega
        have HZ6 : Hid ((l.extract 6 l.size).size ≤ 1048576) := by
          have h1 := HLL.out
          show _ ≤ _
          rw [ByteArray.size_extract]
          omega
        have HQ2 : Hid (quotaM l = fil (nuM (l.extract 6 l.size))) := by
          show _ = _
          have h2 := HQS.out
          rw [hp, if_pos rfl, ← ex_drop] at h2
          exact h2
        have HNM := hdN (fun (w' : World) => l7Num_any (l.extract 6 l.size) w' HZ6.out)
        clear HQS hp
        go_wp2_with fail
        generalize l.extract 6 l.size = t at *
        refine (HNM.out _).mono ?_
        rintro e w3 ⟨v, rfl, hvu, hb3⟩
        have HFO := hdN (fil_ok (nuM t) v hvu)
        clear HNM hvu
        have hR3 := (hb3.block w.heap.size (by omega)).trans hR2
        have hbw3 : Below w.heap.size w w3 := hbw2.trans (hb3.mono hbw2.size)
        have hL3 := hL2.below hb3
        have hs3 := hb3.size
        clear hR2 hbw2 hL2 hc2 hb3
        have HQ3 : Hid (quotaM l = if ((nuM t).isSome && decide (0 ≤ v) && decide (v ≤ 1048576)) = true then some v else none) := HQ2.out.trans HFO.out
        clear HQ2 HFO
        generalize (nuM t).isSome = ok at *
        have HBAD : Hid ((ok && decide (0 ≤ v) && decide (v ≤ 1048576)) = false → res = (0, [], 2)) := fun h => by
          have h1 := HV.out
          have h2 := HQ3.out
          rw [h] at h2
          rw [h2] at h1
          exact h1
        cases ok with
        | false =>
          have HV2 : Hid (res = (0, [], 2)) := HBAD.out rfl
          obtain ⟨x0, x1, z0, z1, hl1⟩ := two_cellsP hR3
          go_wp2_with fail
          refine bodyPost_ret (v := .tuple #[.agg #[.int .i64 0, .slice none 0 0], .int .i64 2]) (by simp [results, Tryz.results4, go_sem, x0, x1, z0, z1]) rfl ⟨0, .slice none 0 0, [], 2, rfl, ScR.nil _ _, HV2.out.symm, ?_⟩
          exact belowSet (belowSet hbw3 (Nat.le_refl _)) (Nat.le_refl _)
        | true =>
          by_cases h1 : 0 ≤ v
          · by_cases h2 : v ≤ 1048576
            · have HV2 : Hid (res = match opsM 0 ls with
                  | .ok os => (v, os, 0)
                  | .error j => (0, [], 3 + (j : Int))) := by
                have h3 := HV.out
                have h4 := HQ3.out
                rw [decide_eq_true h1, decide_eq_true h2] at h4
                rw [h4] at h3
                exact h3
              have h1' : ¬ v < 0 := by omega
              have h2' : ¬ (1048576 : Int) < v := by omega
              clear HBAD HQ3 HV
              have hb4 : Below w3.heap.size w3 (w3.alloc (.cells #[.int .i64 v, .slice none 0 0] 24)) := (Below.refl _ _).alloc (Nat.le_refl _) _
              have hP : PsV w (w3.alloc (.cells #[.int .i64 v, .slice none 0 0] 24)) w.heap.size w3.heap.size b off (l :: ls) v (w3.heap.size + 1) (.slice none 0 0) [] :=
                ⟨hbw3.trans (hb4.mono hbw3.size), (hb4.block _ (by omega)).trans hR3, World.heap_alloc_new _ _, hL3.below hb4, ScR.nil _ _, by rw [size_alloc]; omega, by omega, by omega, by omega⟩
              have hbS : b ≠ w3.heap.size := by omega
              have hRS : w.heap.size ≠ w3.heap.size := by omega
              have hwS : w.heap.size ≤ w3.heap.size := by omega
              have HP := hdN hP
              have HZ : Hid (∀ x ∈ ls, x.size ≤ 1048576) := fun x hx => Nat.le_trans (HLZ.out x (by simp [hx])) (by omega)
              clear hP hb4 hL3 hbw3 hR3 HLZ HLL
              go_wp2_with fail
              generalize w3.alloc (.cells #[.int .i64 v, .slice none 0 0] 24) = w4 at *
              generalize w3.heap.size = S at *
              go_loopw [8] (fun v8 W => ∃ (k : Nat) (pre rest : List ByteArray) (os : List OpW) (u : Value), v8 = .int .i64 ((k : Int) + 1) ∧ Hid (k = pre.length) ∧ k ≤ 2000 ∧ Hid (ls = pre ++ rest) ∧ Hid (pre.mapM opM = some (os.map (·.o))) ∧ Hid (os.length = k) ∧ Hid (PsV w W w.heap.size S b off (l :: ls) v (S + 1) u os)) (fun v8 _ => ls.length + 1 - (intOf v8).toNat)
              case atStart => exact ⟨0, [], ls, [], .slice none 0 0, rfl, rfl, by omega, rfl, rfl, rfl, HP⟩
              case round =>
                clear HP
                obtain ⟨k, pre, rest, os, u, rfl, HK, hk2, HLS, HM, HOL, HP⟩ := hrel
                obtain ⟨au, cu, hu⟩ := owns_slice HP.out.ho.row
                rw [HOL.out] at hu
                subst hu
                have hlen : ls.length = k + rest.length := by rw [HLS.out, List.length_append, HK.out]
                obtain ⟨x0, x1, z0, z1, hl1⟩ := two_cellsP HP.out.hR
                obtain ⟨y0, y1, t0, t1, hl2⟩ := two_cellsP HP.out.hS
                cases rest with
                | nil =>
                  have hkl : ¬ (k : Int) + 1 < (ls.length : Int) + 1 := by rw [hlen]; simp
                  clear hlen
                  go_wp2_with fail
                  obtain ⟨f1, f2, f3⟩ := HP.out.fin (.int .i64 v) (.slice au k cu)
                  clear x0 x1 z0 z1 y0 y1 t0 t1
                  obtain ⟨x0, x1, -⟩ := two_cellsP f3
                  refine bodyPost_ret (v := .tuple #[.agg #[.int .i64 v, .slice au k cu], .int .i64 0]) (by simp [results, Tryz.results4, go_sem, x0, x1]) rfl ⟨v, .slice au k cu, os, 0, rfl, f1, ?_, f2⟩
                  rw [HV2.out, HLS.out, opsM_app pre _ 0 [] HM.out (by have := HK.out; omega)]
                  simp [opsM]
                | cons x rest =>
                  have hkl : (k : Int) + 1 < (ls.length : Int) + 1 := by rw [hlen]; simp; omega
                  have HLEN := hdN hlen
                  clear hlen
                  by_cases hk3 : k = 2000
                  · have HV3 : Hid (res = (0, [], 2003)) := by
                      have := HV2.out
                      rw [opsM_bad HLS.out HM.out HK.out hk2 (.inr hk3), hk3] at this
                      exact this
                    have hk3' : ((k : Int) == 2000) = true := by simp; omega
                    have HK3 := hdN hk3
                    clear hk3
                    go_wp2_with fail
                    obtain ⟨f1, f2, f3⟩ := HP.out.fin (.int .i64 0) (.slice none 0 0)
                    clear x0 x1 z0 z1 y0 y1 t0 t1
                    obtain ⟨x0, x1, -⟩ := two_cellsP f3
                    refine bodyPost_ret (v := .tuple #[.agg #[.int .i64 0, .slice none 0 0], .int .i64 2003]) (by simp [results, Tryz.results4, go_sem, x0, x1]) rfl ⟨0, .slice none 0 0, [], 2003, rfl, ScR.nil _ _, HV3.out.symm, f2⟩
                  · have hk3' : ((k : Int) == 2000) = false := by simp; omega
                    have hc : wr.cell? ⟨b, off + (k + 1), none⟩ = some (.string x) := by
                      rcases HP.out.hl with h | ⟨b', off', e, hlt, hcc⟩
                      · cases h
                      · cases e
                        have := hcc (k + 1) (by rw [List.length_cons, HLEN.out]; simp)
                        have e2 : (l :: ls).getD (k + 1) ByteArray.empty = x := by rw [HLS.out, HK.out]; simp
                        rw [e2] at this
                        exact this
                    have c0 : (0 : Int) ≤ (k : Int) + 1 := by omega
                    have c1 : ((k : Int) + 1).toNat = k + 1 := by omega
                    have hbl9 : b < wr.heap.size := Nat.lt_of_lt_of_le HP.out.hbB HP.out.hB
                    have HR := hdN (l7Op_any x wr (HZ.out x (by rw [HLS.out]; simp)))
                    go_wp2_with fail
                    refine HR.out.mono ?_
                    rintro e w5 ⟨o, ba, bk, rfl, ho, hb5, ⟨ab, nb, cb, rfl⟩, ⟨ak, nk, ck, rfl⟩⟩
                    unfold opA
                    have hP5 := HP.out.below hb5
                    have hsz5 := hb5.size
                    have HO := hdN ho
                    have hBw := HP.out.hB
                    clear x0 x1 z0 z1 y0 y1 t0 t1 hl1 hl2
                    clear ho HR hc
                    obtain ⟨x0, x1, z0, z1, hl1⟩ := two_cellsP hP5.hR
                    obtain ⟨y0, y1, t0, t1, hl2⟩ := two_cellsP hP5.hS
                    have HP5 := hdN hP5
                    clear hP5
                    cases hx : opM x with
                    | none =>
                      have HV3 : Hid (res = (0, [], 3 + (k : Int))) := by
                        have := HV2.out
                        rw [opsM_bad HLS.out HM.out HK.out hk2 (.inl hx)] at this
                        exact this
                      go_wp2_with fail
                      obtain ⟨f1, f2', f3'⟩ := HP5.out.fin (.int .i64 0) (.slice none 0 0)
                      have f2 := f2'.alloc f2'.size (.cells #[.int .i64 o.kd, .string o.ky, .string o.vl, .int .i64 o.n, .slice ab nb cb, .slice ak nk ck] 38)
                      have f3 := (heap_alloc_oldH _ (.cells #[.int .i64 o.kd, .string o.ky, .string o.vl, .int .i64 o.n, .slice ab nb cb, .slice ak nk ck] 38) _ (heap_ltP f3')).trans f3'
                      clear f2' f3' f1 x0 x1 z0 z1 y0 y1 t0 t1
                      generalize ((w5.setCell ⟨w.heap.size, 0, none⟩ (.int .i64 0)).setCell ⟨w.heap.size, 1, none⟩ (.slice none 0 0)).alloc (.cells #[.int .i64 o.kd, .string o.ky, .string o.vl, .int .i64 o.n, .slice ab nb cb, .slice ak nk ck] 38) = WF at *
                      obtain ⟨x0, x1, -⟩ := two_cellsP f3
                      refine bodyPost_ret (v := .tuple #[.agg #[.int .i64 0, .slice none 0 0], .int .i64 ((k : Int) + 1 + 2)]) (by simp [results, Tryz.results4, go_sem, x0, x1]) rfl ⟨0, .slice none 0 0, [], (k : Int) + 1 + 2, rfl, ScR.nil _ _, ?_, f2⟩
                      rw [HV3.out]
                      have e9 : (k : Int) + 1 + 2 = 3 + (k : Int) := by omega
                      rw [e9]; rfl
                    | some o' =>
                      obtain ⟨hox, hro⟩ := HO.out o' hx
                      subst hox
                      obtain ⟨W6, hW6⟩ : ∃ W6, W6 = w5.alloc (.cells #[.int .i64 o.kd, .string o.ky, .string o.vl, .int .i64 o.n, .slice ab nb cb, .slice ak nk ck] 38) := ⟨_, rfl⟩
                      have hb6 : Below w5.heap.size w5 W6 := by rw [hW6]; exact (Below.refl _ _).alloc (Nat.le_refl _) _
                      have hp6 := HP5.out.below hb6
                      have hro6 := hro.below hb6
                      have HP6 := hdN hp6
                      have HR6 := hdN hro6
                      have HFR := hdN HP.out.ho.fresh
                      have hB6 := hp6.hB
                      have HOW := hdN hp6.ho.row
                      rw [HOL.out] at HOW
                      have hS6 := two_cellsP hp6.hS
                      have hq6 : W6.heap[w5.heap.size]? = some (.cells #[.int .i64 o.kd, .string o.ky, .string o.vl, .int .i64 o.n, .slice ab nb cb, .slice ak nk ck] 38 (0, 0)) := by rw [hW6]; exact World.heap_alloc_new _ _
                      have HQ6 := hdN (six_cells hq6)
                      have hl6 := heap_ltP hq6
                      have HS6 := hdN hS6
                      clear hro hp6 hro6 hb6 hS6 hq6
                      go_upto_region 18 with fail
                      rw [← hW6]
                      clear x0 x1 z0 z1 y0 y1 t0 t1 hW6
                      obtain ⟨y0, y1, t0, t1, hlS⟩ := HS6.out
                      obtain ⟨x0, x1, x2, x3, x4, x5⟩ := HQ6.out
                      go_wp2_with (at_builtin; refine wpList_append_own _ rfl _ _ 22 rfl (S + 1) 38 i0 _ 6 96 Tryz.underlying22 hi hz0 hz1 hz2 rfl (by decide) _ _ _ rfl (HOW.out.alloc _) ⟨W6.heap.size, 0, none⟩ 1 1 [.int .i64 o.kd, .string o.ky, .string o.vl, .int .i64 o.n, .slice ab nb cb, .slice ak nk ck] rfl rfl (cell_first6 W6 _ _ _ _ _ _ _) (fun x hx => by simp at hx; rcases hx with rfl | rfl | rfl | rfl | rfl | rfl <;> rfl) (by unfold maxLen; omega) (by omega) (by simp; omega) ?_; intro v8 w8 hown8 hgrow8 hnil8; have HP8 := hdN (PsV.grow (x := ⟨o, .slice ab nb cb, .slice ak nk ck⟩) HP6.out hRS hbS hwS hBw HR6.out HFR.out hgrow8 (by rw [HOL.out]; exact hown8)); have b8 : w8.heap[S]? = some (.cells #[.int .i64 v, .slice au k cu] 24 (0, 0)) := (hgrow8.block S (by rw [size_alloc]; omega) (fun e => by have := owns_base HOW.out S e.symm; have := HP6.out.hSB; omega)).trans ((heap_alloc_oldH W6 _ S hlS).trans HP6.out.hS); obtain ⟨p0, p1, q0, q1, hl8⟩ := two_cellsP b8; obtain ⟨g8, cap8, rfl⟩ := owns_succD hown8; clear hown8 hgrow8 hnil8 b8)
                      refine ⟨⟨k + 1, pre ++ [x], rest, os ++ [⟨o, .slice ab nb cb, .slice ak nk ck⟩], _, by go_num, ?_, by omega, ?_, ?_, ?_, HP8⟩, ?_⟩
                      · show _ = _
                        rw [List.length_append, HK.out]; rfl
                      · show _ = _
                        rw [HLS.out]; simp
                      · show _ = _
                        rw [mapM_snocS opM pre x _ _ HM.out hx]; simp
                      · show _ = _
                        rw [List.length_append, HOL.out]; rfl
                      · simp only [intOf]
                        have := HLEN.out
                        simp only [List.length_cons] at this
                        omega
            · have HV2 : Hid (res = (0, [], 2)) := HBAD.out (by rw [decide_eq_false h2, Bool.and_false])
              have h1' : ¬ v < 0 := by omega
              have h2' : (1048576 : Int) < v := by omega
              obtain ⟨x0, x1, z0, z1, hl1⟩ := two_cellsP hR3
              go_wp2_with fail
              refine bodyPost_ret (v := .tuple #[.agg #[.int .i64 0, .slice none 0 0], .int .i64 2]) (by simp [results, Tryz.results4, go_sem, x0, x1, z0, z1]) rfl ⟨0, .slice none 0 0, [], 2, rfl, ScR.nil _ _, HV2.out.symm, ?_⟩
              exact belowSet (belowSet hbw3 (Nat.le_refl _)) (Nat.le_refl _)
          · have HV2 : Hid (res = (0, [], 2)) := HBAD.out (by rw [decide_eq_false h1]; rfl)
            have h1' : v < 0 := by omega
            obtain ⟨x0, x1, z0, z1, hl1⟩ := two_cellsP hR3
            go_wp2_with fail
            refine bodyPost_ret (v := .tuple #[.agg #[.int .i64 0, .slice none 0 0], .int .i64 2]) (by simp [results, Tryz.results4, go_sem, x0, x1, z0, z1]) rfl ⟨0, .slice none 0 0, [], 2, rfl, ScR.nil _ _, HV2.out.symm, ?_⟩
            exact belowSet (belowSet hbw3 (Nat.le_refl _)) (Nat.le_refl _)
end Go.Proofs.YtohpfjpgihcmiaaGreatDoor
