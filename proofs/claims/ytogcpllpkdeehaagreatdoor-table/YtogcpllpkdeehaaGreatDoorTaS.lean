import Derived.Test.YtogcpllpkdeehaaGreatDoorTaW

namespace Go.Proofs.YtogcpllpkdeehaaGreatDoor
open Go.RowKit Go.Maps
set_option linter.unusedVariables false
set_option linter.unusedSimpArgs false

theorem belowQ {B : Nat} {w w' : World} {n : Nat} (h : Below B w w') : Below B w (w'.drewN n) := ⟨h.os, h.tape, h.output, h.size, h.block⟩
theorem ownQ {w : World} {n B k size : Nat} {e : TypeId} {v : Value} {xs : List Value} (h : w.ownsRow B e size v k xs) : (w.drewN n).ownsRow B e size v k xs := h
theorem cellQ {w : World} {n : Nat} {p : Addr} {v : Value} (h : w.cell? p = some v) : (w.drewN n).cell? p = some v := h
theorem own_downT {w : World} {B B' n size : Nat} {e : TypeId} {v : Value} {xs : List Value} (h : w.ownsRow B e size v n xs) (hB : B' ≤ B) : w.ownsRow B' e size v n xs := by
  obtain ⟨h1, h2⟩ := h
  refine ⟨h1, ?_⟩
  rcases h2 with h | ⟨g, cap, cur, hv, hg, r⟩
  · exact .inl h
  · exact .inr ⟨g, cap, cur, hv, by omega, r⟩
theorem own_belowT {w w' : World} {B n size : Nat} {e : TypeId} {v : Value} {xs : List Value} (h : w.ownsRow B e size v n xs) (hb : Below w.heap.size w w') : w'.ownsRow B e size v n xs := by
  obtain ⟨h1, h2⟩ := h
  refine ⟨h1, ?_⟩
  rcases h2 with h | ⟨g, cap, cur, hv, hg, hh, r⟩
  · exact .inl h
  · have hl : g < w.heap.size := by
      by_cases hl : g < w.heap.size
      · exact hl
      · rw [Array.getElem?_eq_none (by omega)] at hh; cases hh
    exact .inr ⟨g, cap, cur, hv, hg, (hb.block g hl).trans hh, r⟩

set_option maxRecDepth 100000 in
set_option maxHeartbeats 4000000 in
theorem l3Sorted_so (a : Option Addr) (cap : Nat) (es : List En) (w : World) (hx : LieE w a es) (hs : SmallE es) (hlen : es.length ≤ 1000) :
    Calls Tryz.prog 14 #[.slice a es.length cap] w fun e w' => ∃ v, e = .returned v ∧ w'.ownsRow w.heap.size 39 4 v (soS es).length (cellsE (soS es)) ∧ Below w.heap.size w w' := by
  obtain ⟨i0, hi, hz0, hz1, hz2⟩ := info_parts iEntry_info
  go_enter Tryz.func14, Tryz.ntmps14
  go_wp2_with fail
  go_loopw [3, 4] (fun v iv wr => ∃ i : Nat, i ≤ es.length ∧ iv = .int .i64 i ∧ wr.ownsRow w.heap.size 39 4 v (soS (es.take i)).length (cellsE (soS (es.take i))) ∧ Below w.heap.size w wr) (fun _ iv _ => es.length - (intOf iv).toNat)
  case atStart => exact ⟨0, Nat.zero_le _, rfl, ownsE_lit w _ (Nat.le_refl _), (Below.refl _ _).alloc (Nat.le_refl _) _⟩
  case round =>
    obtain ⟨i, hil, rfl, hown, hb⟩ := hrel
    by_cases hlt : i < es.length
    · have hlt' : (i : Int) < es.length := by omega
      obtain ⟨W0, hW0⟩ : ∃ W0, W0 = wr := ⟨_, rfl⟩
      subst hW0
      obtain ⟨be, oe, rfl, hbe, e0, e1, e2, e3⟩ := (hx.below hb).at hlt
      have HE : Hid (soS (es.take (i + 1)) = puS (soS (es.take i)) (es.getD i en0)) := by show _ = _; rw [takeE_snoc es i hlt, soS_snoc]
      have hol : (soS (es.take i)).length ≤ i := Nat.le_trans (soS_len _) (List.length_take_le _ _)
      have hes : SmallE (soS (es.take i)) := soS_small _ (fun x hx => hs x (List.mem_of_mem_take hx))
      have hee : (es.getD i en0).ky.size ≤ 70 ∧ (es.getD i en0).vl.size ≤ 1000 := hs _ (by
        rw [List.getD_eq_getElem?_getD, List.getElem?_eq_getElem hlt]
        exact List.getElem_mem hlt)
      generalize es.getD i en0 = e at *
      generalize soS (es.take i) = out at *
      obtain ⟨-, ao, co, hv, hlie⟩ := lieE_of_owns hown
      subst hv
      have hL := hlie.1
      clear hlie hown
      have hbs := hb.size
      have HB := hd0 hb
      have hbn : Below W0.heap.size W0 (W0.alloc (.cells #[] 39)) := (Below.refl _ _).alloc (Nat.le_refl _) _
      clear hb
      go_wp2_with fail
      go_loopw [5, 6, 7] (fun v dv jv w2 => ∃ j : Nat, j ≤ out.length ∧ jv = .int .i64 j ∧ dv = .bool (inS e (out.take j)).2 ∧ w2.ownsRow W0.heap.size 39 4 v (inS e (out.take j)).1.length (cellsE (inS e (out.take j)).1) ∧ Below W0.heap.size W0 w2) (fun _ _ jv _ => out.length - (intOf jv).toNat)
      case atStart => exact ⟨0, Nat.zero_le _, rfl, rfl, ownsE_lit W0 _ (Nat.le_refl _), hbn⟩
      case round =>
        obtain ⟨j, hjl, rfl, rfl, hown, hb2⟩ := hrel
        by_cases hjt : j < out.length
        · have hjt' : (j : Int) < out.length := by omega
          obtain ⟨bo, oo, rfl, hboB, p0, p1, p2, p3⟩ := hL.at hjt
          have HS : Hid (inS e (out.take (j + 1)) = stS e (inS e (out.take j)) (out.getD j en0)) := by show _ = _; rw [takeE_snoc out j hjt, inS_snoc]
          have hll := inS_len e (out.take j)
          have hoo : (out.getD j en0).ky.size ≤ 70 ∧ (out.getD j en0).vl.size ≤ 1000 := hes _ (by
            rw [List.getD_eq_getElem?_getD, List.getElem?_eq_getElem hjt]
            exact List.getElem_mem hjt)
          have hll2 : (inS e (out.take j)).1.length ≤ j + 1 := by
            have h1 := List.length_take_le j out
            split at hll <;> omega
          clear hll
          generalize out.getD j en0 = o at *
          generalize inS e (out.take j) = st at *
          obtain ⟨l, d⟩ := st
          dsimp only at hown hll2
          have o0 := (hb2.cell (p := ⟨bo, oo + j * 4, none⟩) hboB).trans p0
          have o1 := (hb2.cell (p := ⟨bo, oo + j * 4 + 1, none⟩) hboB).trans p1
          have o2 := (hb2.cell (p := ⟨bo, oo + j * 4 + 2, none⟩) hboB).trans p2
          have o3 := (hb2.cell (p := ⟨bo, oo + j * 4 + 3, none⟩) hboB).trans p3
          have hbo : bo < wr.heap.size := Nat.lt_of_lt_of_le hboB hb2.size
          clear p0 p1 p2 p3
          have e0' := (hb2.cell (p := ⟨be, oe + i * 4, none⟩) hbe).trans e0
          have e1' := (hb2.cell (p := ⟨be, oe + i * 4 + 1, none⟩) hbe).trans e1
          have e2' := (hb2.cell (p := ⟨be, oe + i * 4 + 2, none⟩) hbe).trans e2
          have e3' := (hb2.cell (p := ⟨be, oe + i * 4 + 3, none⟩) hbe).trans e3
          have HB2 := hd0 hb2
          have HOW := hd0 hown
          have hbs2 := hb2.size
          have hbe2 : be < wr.heap.size := by omega
          clear hb2 hown
          obtain ⟨sm, hsm⟩ : ∃ sm : Bool, sm = ((o.ky.toList == e.ky.toList) && (o.sq == e.sq)) := ⟨_, rfl⟩
          clear hsm sm
          cases hk : (o.ky.toList == e.ky.toList) with
          | false =>
            have hsame : ¬ ((o.ky.toList == e.ky.toList) = true ∧ o.sq = e.sq) := by rw [hk]; simp
            replace hsame := hd0 hsame
            go_wp2_with fail
            go_quiet (fail)
            have HB3 := hd0 (belowQ (n := nq) HB2.out)
            have HO3 := hd0 (ownQ (n := nq) HOW.out)
            have o0q := cellQ (n := nq) o0
            have e0q := cellQ (n := nq) e0'
            have o1q := cellQ (n := nq) o1
            have e1q := cellQ (n := nq) e1'
            have o2q := cellQ (n := nq) o2
            have e2q := cellQ (n := nq) e2'
            have o3q := cellQ (n := nq) o3
            have e3q := cellQ (n := nq) e3'
            have hboq : bo < (wr.drewN nq).heap.size := hbo
            have hbeq : be < (wr.drewN nq).heap.size := hbe2
            have hszq : W0.heap.size ≤ (wr.drewN nq).heap.size := hbs2
            generalize wr.drewN nq = wq at *
            clear o0 o1 o2 o3 e0' e1' e2' e3' HB2 HOW hbo hbe2 hbs2
            cases d with
            | true =>
              go_wp2_with fail
              go_quiet (fail)
              have HB4 := hd0 (belowQ (n := nq) HB3.out)
              have HO4 := hd0 (ownQ (n := nq) HO3.out)
              replace o0q := cellQ (n := nq) o0q
              replace o1q := cellQ (n := nq) o1q
              replace o2q := cellQ (n := nq) o2q
              replace o3q := cellQ (n := nq) o3q
              have hboW : bo < (wq.drewN nq).heap.size := hboq
              have hszW : W0.heap.size ≤ (wq.drewN nq).heap.size := hszq
              generalize wq.drewN nq = w7 at *
              clear HB3 HO3
              have HN : Hid (inS e (out.take (j + 1)) = (l ++ [o], true)) := by
                show _ = _
                rw [HS.out]
                unfold stS
                dsimp only
                rw [if_neg hsame.out]
                simp
              go_wp2_with (at_builtin; refine wpList_append_own _ rfl _ _ 23 rfl W0.heap.size 39 i0 _ 4 48 Tryz.underlying23 hi hz0 hz1 hz2 rfl (by decide) _ _ _ rfl (HO4.out.alloc _) ⟨w7.heap.size, 0, none⟩ 1 1 [.string o.ky, .int .i64 o.sq, .int .i64 o.kd, .string o.vl] rfl rfl (cell_first4 _ _ _ _ _ _) (fun x hx => by simp at hx; rcases hx with rfl | rfl | rfl | rfl <;> rfl) (by unfold maxLen; omega) (by omega) (by simp; omega) ?_; intro v' w9 hown4 hgrow hnil; have HO9 := hd0 (hown4); have HG := hd0 (((Below.refl W0.heap.size w7).alloc (by omega) _).grown hgrow (by simp; omega) (owns_base HO4.out)); clear hown4 hgrow hnil)
              have HB9 := hd0 (HB4.out.trans HG.out)
              refine ⟨⟨j + 1, by omega, by go_num, by rw [HN.out], ?_, HB9.out⟩, by simp [intOf]; omega⟩
              rw [HN.out]
              first | exact HO9.out | (simp only [cellsE_snoc, List.length_append, List.length_singleton]; exact HO9.out)
            | false =>
              have HBf := hd0 (l3Before_any o e wq.drew (by unfold maxLen; omega) (by unfold maxLen; omega))
              have hnb : Hid True := trivial
              go_wp2_with fail
              go_region_held3 (fun w' => w'.cell? ⟨bo, oo + j * 4, none⟩ = some (.string o.ky) ∧ w'.cell? ⟨bo, oo + j * 4 + 1, none⟩ = some (.int .i64 o.sq) ∧ w'.cell? ⟨bo, oo + j * 4 + 2, none⟩ = some (.int .i64 o.kd) ∧ w'.cell? ⟨bo, oo + j * 4 + 3, none⟩ = some (.string o.vl) ∧ w'.cell? ⟨be, oe + i * 4, none⟩ = some (.string e.ky) ∧ w'.cell? ⟨be, oe + i * 4 + 1, none⟩ = some (.int .i64 e.sq) ∧ w'.cell? ⟨be, oe + i * 4 + 2, none⟩ = some (.int .i64 e.kd) ∧ w'.cell? ⟨be, oe + i * 4 + 3, none⟩ = some (.string e.vl)) (simp [go_sem, *])
                (first | (go_at_call 26; refine HBf.out.mono ?_; rintro ee w6 ⟨rfl, hb6⟩; have p0 := (hb6.cell (p := ⟨bo, oo + j * 4, none⟩) hboq).trans o0q; have p1 := (hb6.cell (p := ⟨bo, oo + j * 4 + 1, none⟩) hboq).trans o1q; have p2 := (hb6.cell (p := ⟨bo, oo + j * 4 + 2, none⟩) hboq).trans o2q; have p3 := (hb6.cell (p := ⟨bo, oo + j * 4 + 3, none⟩) hboq).trans o3q; have r0 := (hb6.cell (p := ⟨be, oe + i * 4, none⟩) hbeq).trans e0q; have r1 := (hb6.cell (p := ⟨be, oe + i * 4 + 1, none⟩) hbeq).trans e1q; have r2 := (hb6.cell (p := ⟨be, oe + i * 4 + 2, none⟩) hbeq).trans e2q; have r3 := (hb6.cell (p := ⟨be, oe + i * 4 + 3, none⟩) hbeq).trans e3q; have HG6 := hd0 ((Below.refl _ wq).drew.trans hb6); clear hb6))
              have HB6 := hd0 (HB3.out.trans (HG6.out.mono hszq))
              have HO6 := hd0 (own_belowT HO3.out HG6.out)
              have hs6 := HG6.out.size
              have hboW : bo < w6.heap.size := by omega
              have hbeW : be < w6.heap.size := by omega
              have hszW : W0.heap.size ≤ w6.heap.size := by omega
              clear o0q o1q o2q o3q e0q e1q e2q e3q HB3 HO3 HG6 HBf
              have o0q := p0
              have o1q := p1
              have o2q := p2
              have o3q := p3
              have e0q := r0
              have e1q := r1
              have e2q := r2
              have e3q := r3
              clear p0 p1 p2 p3 r0 r1 r2 r3
              cases hbf : befE o e with
              | false =>
                have HN : Hid (inS e (out.take (j + 1)) = ((l ++ [e]) ++ [o], true)) := by
                  show _ = _
                  rw [HS.out]
                  unfold stS
                  dsimp only
                  rw [if_neg hsame.out]
                  rw [hbf]
                  simp
                go_upto_region 14 with (at_builtin; refine wpList_append_own _ rfl _ _ 23 rfl W0.heap.size 39 i0 _ 4 48 Tryz.underlying23 hi hz0 hz1 hz2 rfl (by decide) _ _ _ rfl (HO6.out.alloc _) ⟨w6.heap.size, 0, none⟩ 1 1 [.string e.ky, .int .i64 e.sq, .int .i64 e.kd, .string e.vl] rfl rfl (cell_first4 _ _ _ _ _ _) (fun x hx => by simp at hx; rcases hx with rfl | rfl | rfl | rfl <;> rfl) (by unfold maxLen; omega) (by omega) (by simp; omega) ?_; intro v' w8 hown4 hgrow hnil; have HO8 := hd0 (hown4); have HG := hd0 (((Below.refl W0.heap.size w6).alloc (by omega) _).grown hgrow (by simp; omega) (owns_base HO6.out)); clear hown4 hgrow hnil)
                have HB8 := hd0 (HB6.out.trans HG.out)
                have hs8 := HB8.out.size
                have o0x := (HG.out.cell (p := ⟨bo, oo + j * 4, none⟩) hboB).trans o0q
                have o1x := (HG.out.cell (p := ⟨bo, oo + j * 4 + 1, none⟩) hboB).trans o1q
                have o2x := (HG.out.cell (p := ⟨bo, oo + j * 4 + 2, none⟩) hboB).trans o2q
                have o3x := (HG.out.cell (p := ⟨bo, oo + j * 4 + 3, none⟩) hboB).trans o3q
                have hbo8 : bo < w8.heap.size := by omega
                clear o0q o1q o2q o3q HG
                go_wp2_with (at_builtin; refine wpList_append_own _ rfl _ _ 23 rfl W0.heap.size 39 i0 _ 4 48 Tryz.underlying23 hi hz0 hz1 hz2 rfl (by decide) _ _ _ rfl (HO8.out.alloc _) ⟨w8.heap.size, 0, none⟩ 1 1 [.string o.ky, .int .i64 o.sq, .int .i64 o.kd, .string o.vl] rfl rfl (cell_first4 _ _ _ _ _ _) (fun x hx => by simp at hx; rcases hx with rfl | rfl | rfl | rfl <;> rfl) (by unfold maxLen; omega) (by omega) (by simp; omega) ?_; intro v' w9 hown4 hgrow hnil; have HO9 := hd0 (hown4); have HG := hd0 (((Below.refl W0.heap.size w8).alloc (by omega) _).grown hgrow (by simp; omega) (owns_base HO8.out)); clear hown4 hgrow hnil)
                have HB9 := hd0 (HB8.out.trans HG.out)
                refine ⟨⟨j + 1, by omega, by go_num, by rw [HN.out], ?_, HB9.out⟩, by simp [intOf]; omega⟩
                rw [HN.out]
                first | exact HO9.out | (simp only [cellsE_snoc, List.length_append, List.length_singleton]; exact HO9.out)
              | true =>
                have HN : Hid (inS e (out.take (j + 1)) = (l ++ [o], false)) := by
                  show _ = _
                  rw [HS.out]
                  unfold stS
                  dsimp only
                  rw [if_neg hsame.out]
                  rw [hbf]
                  simp
                go_wp2_with (at_builtin; refine wpList_append_own _ rfl _ _ 23 rfl W0.heap.size 39 i0 _ 4 48 Tryz.underlying23 hi hz0 hz1 hz2 rfl (by decide) _ _ _ rfl (HO6.out.alloc _) ⟨w6.heap.size, 0, none⟩ 1 1 [.string o.ky, .int .i64 o.sq, .int .i64 o.kd, .string o.vl] rfl rfl (cell_first4 _ _ _ _ _ _) (fun x hx => by simp at hx; rcases hx with rfl | rfl | rfl | rfl <;> rfl) (by unfold maxLen; omega) (by omega) (by simp; omega) ?_; intro v' w9 hown4 hgrow hnil; have HO9 := hd0 (hown4); have HG := hd0 (((Below.refl W0.heap.size w6).alloc (by omega) _).grown hgrow (by simp; omega) (owns_base HO6.out)); clear hown4 hgrow hnil)
                have HB9 := hd0 (HB6.out.trans HG.out)
                refine ⟨⟨j + 1, by omega, by go_num, by rw [HN.out], ?_, HB9.out⟩, by simp [intOf]; omega⟩
                rw [HN.out]
                first | exact HO9.out | (simp only [cellsE_snoc, List.length_append, List.length_singleton]; exact HO9.out)
          | true =>
            cases hq : (o.sq == e.sq) with
            | false =>
              have hsame : ¬ ((o.ky.toList == e.ky.toList) = true ∧ o.sq = e.sq) := by rintro ⟨-, h⟩; rw [h] at hq; simp at hq
              replace hsame := hd0 hsame
              go_wp2_with fail
              go_quiet (fail)
              have HB3 := hd0 (belowQ (n := nq) HB2.out)
              have HO3 := hd0 (ownQ (n := nq) HOW.out)
              have o0q := cellQ (n := nq) o0
              have e0q := cellQ (n := nq) e0'
              have o1q := cellQ (n := nq) o1
              have e1q := cellQ (n := nq) e1'
              have o2q := cellQ (n := nq) o2
              have e2q := cellQ (n := nq) e2'
              have o3q := cellQ (n := nq) o3
              have e3q := cellQ (n := nq) e3'
              have hboq : bo < (wr.drewN nq).heap.size := hbo
              have hbeq : be < (wr.drewN nq).heap.size := hbe2
              have hszq : W0.heap.size ≤ (wr.drewN nq).heap.size := hbs2
              generalize wr.drewN nq = wq at *
              clear o0 o1 o2 o3 e0' e1' e2' e3' HB2 HOW hbo hbe2 hbs2
              cases d with
              | true =>
                go_wp2_with fail
                go_quiet (fail)
                have HB4 := hd0 (belowQ (n := nq) HB3.out)
                have HO4 := hd0 (ownQ (n := nq) HO3.out)
                replace o0q := cellQ (n := nq) o0q
                replace o1q := cellQ (n := nq) o1q
                replace o2q := cellQ (n := nq) o2q
                replace o3q := cellQ (n := nq) o3q
                have hboW : bo < (wq.drewN nq).heap.size := hboq
                have hszW : W0.heap.size ≤ (wq.drewN nq).heap.size := hszq
                generalize wq.drewN nq = w7 at *
                clear HB3 HO3
                have HN : Hid (inS e (out.take (j + 1)) = (l ++ [o], true)) := by
                  show _ = _
                  rw [HS.out]
                  unfold stS
                  dsimp only
                  rw [if_neg hsame.out]
                  simp
                go_wp2_with (at_builtin; refine wpList_append_own _ rfl _ _ 23 rfl W0.heap.size 39 i0 _ 4 48 Tryz.underlying23 hi hz0 hz1 hz2 rfl (by decide) _ _ _ rfl (HO4.out.alloc _) ⟨w7.heap.size, 0, none⟩ 1 1 [.string o.ky, .int .i64 o.sq, .int .i64 o.kd, .string o.vl] rfl rfl (cell_first4 _ _ _ _ _ _) (fun x hx => by simp at hx; rcases hx with rfl | rfl | rfl | rfl <;> rfl) (by unfold maxLen; omega) (by omega) (by simp; omega) ?_; intro v' w9 hown4 hgrow hnil; have HO9 := hd0 (hown4); have HG := hd0 (((Below.refl W0.heap.size w7).alloc (by omega) _).grown hgrow (by simp; omega) (owns_base HO4.out)); clear hown4 hgrow hnil)
                have HB9 := hd0 (HB4.out.trans HG.out)
                refine ⟨⟨j + 1, by omega, by go_num, by rw [HN.out], ?_, HB9.out⟩, by simp [intOf]; omega⟩
                rw [HN.out]
                first | exact HO9.out | (simp only [cellsE_snoc, List.length_append, List.length_singleton]; exact HO9.out)
              | false =>
                have HBf := hd0 (l3Before_any o e wq.drew (by unfold maxLen; omega) (by unfold maxLen; omega))
                have hnb : Hid True := trivial
                go_wp2_with fail
                go_region_held3 (fun w' => w'.cell? ⟨bo, oo + j * 4, none⟩ = some (.string o.ky) ∧ w'.cell? ⟨bo, oo + j * 4 + 1, none⟩ = some (.int .i64 o.sq) ∧ w'.cell? ⟨bo, oo + j * 4 + 2, none⟩ = some (.int .i64 o.kd) ∧ w'.cell? ⟨bo, oo + j * 4 + 3, none⟩ = some (.string o.vl) ∧ w'.cell? ⟨be, oe + i * 4, none⟩ = some (.string e.ky) ∧ w'.cell? ⟨be, oe + i * 4 + 1, none⟩ = some (.int .i64 e.sq) ∧ w'.cell? ⟨be, oe + i * 4 + 2, none⟩ = some (.int .i64 e.kd) ∧ w'.cell? ⟨be, oe + i * 4 + 3, none⟩ = some (.string e.vl)) (simp [go_sem, *])
                  (first | (go_at_call 26; refine HBf.out.mono ?_; rintro ee w6 ⟨rfl, hb6⟩; have p0 := (hb6.cell (p := ⟨bo, oo + j * 4, none⟩) hboq).trans o0q; have p1 := (hb6.cell (p := ⟨bo, oo + j * 4 + 1, none⟩) hboq).trans o1q; have p2 := (hb6.cell (p := ⟨bo, oo + j * 4 + 2, none⟩) hboq).trans o2q; have p3 := (hb6.cell (p := ⟨bo, oo + j * 4 + 3, none⟩) hboq).trans o3q; have r0 := (hb6.cell (p := ⟨be, oe + i * 4, none⟩) hbeq).trans e0q; have r1 := (hb6.cell (p := ⟨be, oe + i * 4 + 1, none⟩) hbeq).trans e1q; have r2 := (hb6.cell (p := ⟨be, oe + i * 4 + 2, none⟩) hbeq).trans e2q; have r3 := (hb6.cell (p := ⟨be, oe + i * 4 + 3, none⟩) hbeq).trans e3q; have HG6 := hd0 ((Below.refl _ wq).drew.trans hb6); clear hb6))
                have HB6 := hd0 (HB3.out.trans (HG6.out.mono hszq))
                have HO6 := hd0 (own_belowT HO3.out HG6.out)
                have hs6 := HG6.out.size
                have hboW : bo < w6.heap.size := by omega
                have hbeW : be < w6.heap.size := by omega
                have hszW : W0.heap.size ≤ w6.heap.size := by omega
                clear o0q o1q o2q o3q e0q e1q e2q e3q HB3 HO3 HG6 HBf
                have o0q := p0
                have o1q := p1
                have o2q := p2
                have o3q := p3
                have e0q := r0
                have e1q := r1
                have e2q := r2
                have e3q := r3
                clear p0 p1 p2 p3 r0 r1 r2 r3
                cases hbf : befE o e with
                | false =>
                  have HN : Hid (inS e (out.take (j + 1)) = ((l ++ [e]) ++ [o], true)) := by
                    show _ = _
                    rw [HS.out]
                    unfold stS
                    dsimp only
                    rw [if_neg hsame.out]
                    rw [hbf]
                    simp
                  go_upto_region 14 with (at_builtin; refine wpList_append_own _ rfl _ _ 23 rfl W0.heap.size 39 i0 _ 4 48 Tryz.underlying23 hi hz0 hz1 hz2 rfl (by decide) _ _ _ rfl (HO6.out.alloc _) ⟨w6.heap.size, 0, none⟩ 1 1 [.string e.ky, .int .i64 e.sq, .int .i64 e.kd, .string e.vl] rfl rfl (cell_first4 _ _ _ _ _ _) (fun x hx => by simp at hx; rcases hx with rfl | rfl | rfl | rfl <;> rfl) (by unfold maxLen; omega) (by omega) (by simp; omega) ?_; intro v' w8 hown4 hgrow hnil; have HO8 := hd0 (hown4); have HG := hd0 (((Below.refl W0.heap.size w6).alloc (by omega) _).grown hgrow (by simp; omega) (owns_base HO6.out)); clear hown4 hgrow hnil)
                  have HB8 := hd0 (HB6.out.trans HG.out)
                  have hs8 := HB8.out.size
                  have o0x := (HG.out.cell (p := ⟨bo, oo + j * 4, none⟩) hboB).trans o0q
                  have o1x := (HG.out.cell (p := ⟨bo, oo + j * 4 + 1, none⟩) hboB).trans o1q
                  have o2x := (HG.out.cell (p := ⟨bo, oo + j * 4 + 2, none⟩) hboB).trans o2q
                  have o3x := (HG.out.cell (p := ⟨bo, oo + j * 4 + 3, none⟩) hboB).trans o3q
                  have hbo8 : bo < w8.heap.size := by omega
                  clear o0q o1q o2q o3q HG
                  go_wp2_with (at_builtin; refine wpList_append_own _ rfl _ _ 23 rfl W0.heap.size 39 i0 _ 4 48 Tryz.underlying23 hi hz0 hz1 hz2 rfl (by decide) _ _ _ rfl (HO8.out.alloc _) ⟨w8.heap.size, 0, none⟩ 1 1 [.string o.ky, .int .i64 o.sq, .int .i64 o.kd, .string o.vl] rfl rfl (cell_first4 _ _ _ _ _ _) (fun x hx => by simp at hx; rcases hx with rfl | rfl | rfl | rfl <;> rfl) (by unfold maxLen; omega) (by omega) (by simp; omega) ?_; intro v' w9 hown4 hgrow hnil; have HO9 := hd0 (hown4); have HG := hd0 (((Below.refl W0.heap.size w8).alloc (by omega) _).grown hgrow (by simp; omega) (owns_base HO8.out)); clear hown4 hgrow hnil)
                  have HB9 := hd0 (HB8.out.trans HG.out)
                  refine ⟨⟨j + 1, by omega, by go_num, by rw [HN.out], ?_, HB9.out⟩, by simp [intOf]; omega⟩
                  rw [HN.out]
                  first | exact HO9.out | (simp only [cellsE_snoc, List.length_append, List.length_singleton]; exact HO9.out)
                | true =>
                  have HN : Hid (inS e (out.take (j + 1)) = (l ++ [o], false)) := by
                    show _ = _
                    rw [HS.out]
                    unfold stS
                    dsimp only
                    rw [if_neg hsame.out]
                    rw [hbf]
                    simp
                  go_wp2_with (at_builtin; refine wpList_append_own _ rfl _ _ 23 rfl W0.heap.size 39 i0 _ 4 48 Tryz.underlying23 hi hz0 hz1 hz2 rfl (by decide) _ _ _ rfl (HO6.out.alloc _) ⟨w6.heap.size, 0, none⟩ 1 1 [.string o.ky, .int .i64 o.sq, .int .i64 o.kd, .string o.vl] rfl rfl (cell_first4 _ _ _ _ _ _) (fun x hx => by simp at hx; rcases hx with rfl | rfl | rfl | rfl <;> rfl) (by unfold maxLen; omega) (by omega) (by simp; omega) ?_; intro v' w9 hown4 hgrow hnil; have HO9 := hd0 (hown4); have HG := hd0 (((Below.refl W0.heap.size w6).alloc (by omega) _).grown hgrow (by simp; omega) (owns_base HO6.out)); clear hown4 hgrow hnil)
                  have HB9 := hd0 (HB6.out.trans HG.out)
                  refine ⟨⟨j + 1, by omega, by go_num, by rw [HN.out], ?_, HB9.out⟩, by simp [intOf]; omega⟩
                  rw [HN.out]
                  first | exact HO9.out | (simp only [cellsE_snoc, List.length_append, List.length_singleton]; exact HO9.out)
            | true =>
              have hsame : (o.ky.toList == e.ky.toList) = true ∧ o.sq = e.sq := ⟨hk, by simpa using hq⟩
              replace hsame := hd0 hsame
              go_wp2_with fail
              go_quiet (fail)
              have HB3 := hd0 (belowQ (n := nq) HB2.out)
              have HO3 := hd0 (ownQ (n := nq) HOW.out)
              have o0q := cellQ (n := nq) o0
              have e0q := cellQ (n := nq) e0'
              have o1q := cellQ (n := nq) o1
              have e1q := cellQ (n := nq) e1'
              have o2q := cellQ (n := nq) o2
              have e2q := cellQ (n := nq) e2'
              have o3q := cellQ (n := nq) o3
              have e3q := cellQ (n := nq) e3'
              have hboq : bo < (wr.drewN nq).heap.size := hbo
              have hbeq : be < (wr.drewN nq).heap.size := hbe2
              have hszq : W0.heap.size ≤ (wr.drewN nq).heap.size := hbs2
              generalize wr.drewN nq = wq at *
              clear o0 o1 o2 o3 e0' e1' e2' e3' HB2 HOW hbo hbe2 hbs2
              cases d with
              | true =>
                go_wp2_with fail
                go_quiet (fail)
                have HB4 := hd0 (belowQ (n := nq) HB3.out)
                have HO4 := hd0 (ownQ (n := nq) HO3.out)
                replace o0q := cellQ (n := nq) o0q
                replace o1q := cellQ (n := nq) o1q
                replace o2q := cellQ (n := nq) o2q
                replace o3q := cellQ (n := nq) o3q
                have hboW : bo < (wq.drewN nq).heap.size := hboq
                have hszW : W0.heap.size ≤ (wq.drewN nq).heap.size := hszq
                generalize wq.drewN nq = w7 at *
                clear HB3 HO3
                have HN : Hid (inS e (out.take (j + 1)) = (l, true)) := by
                  show _ = _
                  rw [HS.out]
                  unfold stS
                  dsimp only
                  rw [if_pos hsame.out]
                  simp
                go_wp2_with fail
                refine ⟨⟨j + 1, by omega, by go_num, by rw [HN.out], ?_, HB4.out⟩, by simp [intOf]; omega⟩
                rw [HN.out]
                first | exact HO4.out | (simp only [cellsE_snoc, List.length_append, List.length_singleton]; exact HO4.out)
              | false =>
                have HBf := hd0 (l3Before_any o e wq.drew (by unfold maxLen; omega) (by unfold maxLen; omega))
                have hnb : Hid True := trivial
                go_wp2_with fail
                go_region_held3 (fun w' => w'.cell? ⟨bo, oo + j * 4, none⟩ = some (.string o.ky) ∧ w'.cell? ⟨bo, oo + j * 4 + 1, none⟩ = some (.int .i64 o.sq) ∧ w'.cell? ⟨bo, oo + j * 4 + 2, none⟩ = some (.int .i64 o.kd) ∧ w'.cell? ⟨bo, oo + j * 4 + 3, none⟩ = some (.string o.vl) ∧ w'.cell? ⟨be, oe + i * 4, none⟩ = some (.string e.ky) ∧ w'.cell? ⟨be, oe + i * 4 + 1, none⟩ = some (.int .i64 e.sq) ∧ w'.cell? ⟨be, oe + i * 4 + 2, none⟩ = some (.int .i64 e.kd) ∧ w'.cell? ⟨be, oe + i * 4 + 3, none⟩ = some (.string e.vl)) (simp [go_sem, *])
                  (first | (go_at_call 26; refine HBf.out.mono ?_; rintro ee w6 ⟨rfl, hb6⟩; have p0 := (hb6.cell (p := ⟨bo, oo + j * 4, none⟩) hboq).trans o0q; have p1 := (hb6.cell (p := ⟨bo, oo + j * 4 + 1, none⟩) hboq).trans o1q; have p2 := (hb6.cell (p := ⟨bo, oo + j * 4 + 2, none⟩) hboq).trans o2q; have p3 := (hb6.cell (p := ⟨bo, oo + j * 4 + 3, none⟩) hboq).trans o3q; have r0 := (hb6.cell (p := ⟨be, oe + i * 4, none⟩) hbeq).trans e0q; have r1 := (hb6.cell (p := ⟨be, oe + i * 4 + 1, none⟩) hbeq).trans e1q; have r2 := (hb6.cell (p := ⟨be, oe + i * 4 + 2, none⟩) hbeq).trans e2q; have r3 := (hb6.cell (p := ⟨be, oe + i * 4 + 3, none⟩) hbeq).trans e3q; have HG6 := hd0 ((Below.refl _ wq).drew.trans hb6); clear hb6))
                have HB6 := hd0 (HB3.out.trans (HG6.out.mono hszq))
                have HO6 := hd0 (own_belowT HO3.out HG6.out)
                have hs6 := HG6.out.size
                have hboW : bo < w6.heap.size := by omega
                have hbeW : be < w6.heap.size := by omega
                have hszW : W0.heap.size ≤ w6.heap.size := by omega
                clear o0q o1q o2q o3q e0q e1q e2q e3q HB3 HO3 HG6 HBf
                have o0q := p0
                have o1q := p1
                have o2q := p2
                have o3q := p3
                have e0q := r0
                have e1q := r1
                have e2q := r2
                have e3q := r3
                clear p0 p1 p2 p3 r0 r1 r2 r3
                cases hbf : befE o e with
                | false =>
                  have HN : Hid (inS e (out.take (j + 1)) = (l ++ [e], true)) := by
                    show _ = _
                    rw [HS.out]
                    unfold stS
                    dsimp only
                    rw [if_pos hsame.out]
                    rw [hbf]
                    simp
                  go_upto_region 14 with (at_builtin; refine wpList_append_own _ rfl _ _ 23 rfl W0.heap.size 39 i0 _ 4 48 Tryz.underlying23 hi hz0 hz1 hz2 rfl (by decide) _ _ _ rfl (HO6.out.alloc _) ⟨w6.heap.size, 0, none⟩ 1 1 [.string e.ky, .int .i64 e.sq, .int .i64 e.kd, .string e.vl] rfl rfl (cell_first4 _ _ _ _ _ _) (fun x hx => by simp at hx; rcases hx with rfl | rfl | rfl | rfl <;> rfl) (by unfold maxLen; omega) (by omega) (by simp; omega) ?_; intro v' w8 hown4 hgrow hnil; have HO8 := hd0 (hown4); have HG := hd0 (((Below.refl W0.heap.size w6).alloc (by omega) _).grown hgrow (by simp; omega) (owns_base HO6.out)); clear hown4 hgrow hnil)
                  have HB8 := hd0 (HB6.out.trans HG.out)
                  have hs8 := HB8.out.size
                  have o0x := (HG.out.cell (p := ⟨bo, oo + j * 4, none⟩) hboB).trans o0q
                  have o1x := (HG.out.cell (p := ⟨bo, oo + j * 4 + 1, none⟩) hboB).trans o1q
                  have o2x := (HG.out.cell (p := ⟨bo, oo + j * 4 + 2, none⟩) hboB).trans o2q
                  have o3x := (HG.out.cell (p := ⟨bo, oo + j * 4 + 3, none⟩) hboB).trans o3q
                  have hbo8 : bo < w8.heap.size := by omega
                  clear o0q o1q o2q o3q HG
                  go_wp2_with fail
                  refine ⟨⟨j + 1, by omega, by go_num, by rw [HN.out], ?_, HB8.out⟩, by simp [intOf]; omega⟩
                  rw [HN.out]
                  first | exact HO8.out | (simp only [cellsE_snoc, List.length_append, List.length_singleton]; exact HO8.out)
                | true =>
                  have HN : Hid (inS e (out.take (j + 1)) = (l, false)) := by
                    show _ = _
                    rw [HS.out]
                    unfold stS
                    dsimp only
                    rw [if_pos hsame.out]
                    rw [hbf]
                    simp
                  go_wp2_with fail
                  refine ⟨⟨j + 1, by omega, by go_num, by rw [HN.out], ?_, HB6.out⟩, by simp [intOf]; omega⟩
                  rw [HN.out]
                  first | exact HO6.out | (simp only [cellsE_snoc, List.length_append, List.length_singleton]; exact HO6.out)
        · obtain rfl : j = out.length := by omega
          have hjt' : ¬ ((out.length : Nat) : Int) < out.length := by omega
          rw [List.take_length] at hown ⊢
          have hll := inS_len e out
          have HPU : Hid (puS out e = if (inS e out).2 = true then (inS e out).1 else (inS e out).1 ++ [e]) := rfl
          have hll2 : (inS e out).1.length ≤ out.length + 1 := by split at hll <;> omega
          clear hll
          generalize inS e out = st at *
          obtain ⟨l, d⟩ := st
          dsimp only at hown hll2 HPU ⊢
          have e0' := (hb2.cell (p := ⟨be, oe + i * 4, none⟩) hbe).trans e0
          have e1' := (hb2.cell (p := ⟨be, oe + i * 4 + 1, none⟩) hbe).trans e1
          have e2' := (hb2.cell (p := ⟨be, oe + i * 4 + 2, none⟩) hbe).trans e2
          have e3' := (hb2.cell (p := ⟨be, oe + i * 4 + 3, none⟩) hbe).trans e3
          have HB2 := hd0 hb2
          have HOW := hd0 hown
          have hbs2 := hb2.size
          have hbe2 : be < wr.heap.size := by omega
          have HBw := hd0 (HB.out.trans (hb2.mono hbs))
          clear hb2 hown
          cases d with
          | true =>
            have HN : Hid (soS (es.take (i + 1)) = l) := by show _ = _; rw [HE.out, HPU.out]; rfl
            go_wp2_with fail
            refine ⟨⟨i + 1, by omega, by go_num, ?_, HBw.out⟩, by simp [intOf]; omega⟩
            rw [HN.out]
            exact own_downT HOW.out hbs
          | false =>
            have HN : Hid (soS (es.take (i + 1)) = l ++ [e]) := by show _ = _; rw [HE.out, HPU.out]; rfl
            go_wp2_with (at_builtin; refine wpList_append_own _ rfl _ _ 23 rfl W0.heap.size 39 i0 _ 4 48 Tryz.underlying23 hi hz0 hz1 hz2 rfl (by decide) _ _ _ rfl (HOW.out.alloc _) ⟨wr.heap.size, 0, none⟩ 1 1 [.string e.ky, .int .i64 e.sq, .int .i64 e.kd, .string e.vl] rfl rfl (cell_first4 _ _ _ _ _ _) (fun x hx => by simp at hx; rcases hx with rfl | rfl | rfl | rfl <;> rfl) (by unfold maxLen; omega) (by omega) (by simp; omega) ?_; intro v' w9 hown4 hgrow hnil; have HO9 := hd0 (hown4); have HG := hd0 (((Below.refl W0.heap.size wr).alloc (by omega) _).grown hgrow (by simp; omega) (owns_base HOW.out)); clear hown4 hgrow hnil)
            refine ⟨⟨i + 1, by omega, by go_num, ?_, (HBw.out.trans (HG.out.mono hbs))⟩, by simp [intOf]; omega⟩
            rw [HN.out]
            simp only [cellsE_snoc, List.length_append, List.length_singleton]
            exact own_downT HO9.out hbs
    · obtain rfl : i = es.length := by omega
      have hlt' : ¬ ((es.length : Nat) : Int) < es.length := by omega
      rw [List.take_length] at hown
      go_wp2_with fail
      go_ret
      exact ⟨_, rfl, hown, hb⟩
end Go.Proofs.YtogcpllpkdeehaaGreatDoor
