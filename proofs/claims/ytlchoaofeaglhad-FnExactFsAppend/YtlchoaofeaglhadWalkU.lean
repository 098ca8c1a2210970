import Derived.Test.YtlchoaofeaglhadIns
namespace Go.Proofs.Ytlchoaofeaglhad
open Go.RowKit Go.Maps
set_option linter.unusedVariables false
set_option linter.unusedSimpArgs false

set_option maxRecDepth 100000 in
set_option maxHeartbeats 2000000 in
theorem with_any (a : Option Addr) (cap : Nat) (xs : List Fl) (f : Fl) (w : World) (hx : Lie w a xs) (hf : Fits xs) (hfn : f.nm.size ≤ maxLen) (hlen : xs.length ≤ 1048576) :
    Calls Try.prog 52 #[.slice a xs.length cap, f.agg] w fun e w' =>
      ∃ a' cap', e = .returned (.slice a' (wi xs f).length cap') ∧ Res w' w.heap.size a' cap' (wi xs f) ∧ Below w.heap.size w w' := by
  have hb0 : Below w.heap.size w (w.alloc (.cells #[.string f.nm, .string f.dt, .int .i64 f.sy] 41)) := (Below.refl _ _).alloc (Nat.le_refl _) _
  obtain ⟨i0, hi, hz0, hz1, hz2⟩ := info_parts iFile_info
  have hfw : Fits (wo xs f.nm) := fits_filter hf _
  have hlw := wo_length xs f.nm
  have HW : Hid (wi xs f = ins (wo xs f.nm) f) := rfl
  go_enter Try.func52, Try.ntmps52
  go_wp2_with fail
  refine (without_any a cap xs f.nm _ (hx.below hb0) hlen).mono ?_
  rintro e w1 ⟨a1, cap1, rfl, hres, hb1⟩
  have hbw1 := hb0.trans (hb1.mono hb0.size)
  have hR1 := (hb1.block w.heap.size (by simp)).trans (World.heap_alloc_new _ _)
  have hsz : w.heap.size < w1.heap.size := by have := hb1.size; simp at this; omega
  have hxr := hres.lie
  clear hx hb0 hb1 hres hf
  generalize wo xs f.nm = zs at *
  obtain ⟨⟨p0, p1, p2⟩, -⟩ := three_cells hR1
  go_wp2
  go_loopw [6, 7, 8] (fun v d i wr => ∃ k : Nat, k ≤ zs.length ∧ i = .int .i64 k ∧ d = .bool (run f (zs.take k)).2 ∧ wr.ownsRow w1.heap.size 41 3 v (run f (zs.take k)).1.length (cellsF (run f (zs.take k)).1) ∧ Below w1.heap.size w1 wr) (fun _ _ i _ => zs.length - (intOf i).toNat)
  case atStart => exact ⟨0, Nat.zero_le _, rfl, rfl, owns_lit0 w1 _ _ (Nat.le_refl _), (Below.refl _ _).alloc (Nat.le_refl _) _⟩
  case round =>
    obtain ⟨k, hk, rfl, rfl, hown, hb⟩ := hrel
    by_cases hlt : k < zs.length
    · obtain ⟨b, off, rfl, hbl, y0, y1, y2⟩ := hxr.at hlt
      have hfk := hfw.at hlt
      have HS : Hid (run f (zs.take (k + 1)) = stp f (run f (zs.take k)) (zs.getD k fl0)) := by show _ = _; rw [take_snoc zs k hlt, run_snoc]
      have hrl := Nat.le_trans (run_length f (zs.take k)) (Nat.add_le_add_right (List.length_take_le k zs) 1)
      generalize zs.getD k fl0 = x at *
      generalize run f (zs.take k) = st at *
      obtain ⟨o, d⟩ := st
      dsimp only at hrl hown
      have hbs := hb.size
      have c0 := (hb.cell (p := ⟨b, _, none⟩) hbl).trans y0
      have c1 := (hb.cell (p := ⟨b, _, none⟩) hbl).trans y1
      have c2 := (hb.cell (p := ⟨b, _, none⟩) hbl).trans y2
      have q0 := (hb.cell (p := ⟨w.heap.size, 0, none⟩) hsz).trans p0
      have q1 := (hb.cell (p := ⟨w.heap.size, 1, none⟩) hsz).trans p1
      have q2 := (hb.cell (p := ⟨w.heap.size, 2, none⟩) hsz).trans p2
      have hownd : ∀ n, (wr.drewN n).ownsRow w1.heap.size 41 3 u6 o.length (cellsF o) := fun n => hown
      have hown0 := owns_base hown
      have hbw : w.heap.size < wr.heap.size := by omega
      have hbb : b < wr.heap.size := by omega
      replace hb : Hid _ := hb
      replace hownd : Hid _ := hownd
      replace hown0 : Hid _ := hown0
      replace y0 : Hid _ := y0
      replace y1 : Hid _ := y1
      replace y2 : Hid _ := y2
      clear hown
      cases d with
      | true =>
        have HE : Hid (run f (zs.take (k + 1)) = (o ++ [x], true)) := by show _ = _; rw [HS.out]; simp [stp]
        clear HS
        go_wp2_with fail
        go_quiet (fail)
        go_wp2_with (at_builtin; refine wpList_append_own _ rfl _ _ 26 rfl w1.heap.size 41 i0 _ 3 40 Try.underlying26 hi hz0 hz1 hz2 rfl (by decide) _ _ _ rfl ((hownd.out _).alloc _) ⟨wr.heap.size, 0, none⟩ 1 1 [.string x.nm, .string x.dt, .int .i64 x.sy] rfl rfl (cell_first3 _ _ _ _ _) (fun x hx => by simp at hx; rcases hx with rfl | rfl | rfl <;> rfl) (by unfold maxLen; omega) (by omega) (by simp; omega) ?_; intro v' w4 hown4 hgrow hnil)
        refine ⟨⟨k + 1, by omega, by go_num, by rw [HE.out], ?_, ?_⟩, by simp [intOf]; omega⟩
        · rw [HE.out]
          dsimp only
          rw [cellsF_snoc, List.length_append]; exact hown4
        · exact ((Below.drewN hb.out _).alloc hbs _).grown hgrow (by simp; omega) hown0.out
      | false =>
        cases hl : lessB f.nm x.nm with
        | false =>
          have HE : Hid (run f (zs.take (k + 1)) = (o ++ [x], false)) := by show _ = _; rw [HS.out]; simp [stp, hl]
          clear HS
          go_wp2_with fail
          go_quiet ((go_at_call 46; exact Calls.quiet_of (l1Less_any f.nm x.nm _ hfn hfk.1)))
          go_wp2_with (at_builtin; refine wpList_append_own _ rfl _ _ 26 rfl w1.heap.size 41 i0 _ 3 40 Try.underlying26 hi hz0 hz1 hz2 rfl (by decide) _ _ _ rfl ((hownd.out _).alloc _) ⟨wr.heap.size, 0, none⟩ 1 1 [.string x.nm, .string x.dt, .int .i64 x.sy] rfl rfl (cell_first3 _ _ _ _ _) (fun x hx => by simp at hx; rcases hx with rfl | rfl | rfl <;> rfl) (by unfold maxLen; omega) (by omega) (by simp; omega) ?_; intro v' w4 hown4 hgrow hnil)
          refine ⟨⟨k + 1, by omega, by go_num, by rw [HE.out], ?_, ?_⟩, by simp [intOf]; omega⟩
          · rw [HE.out]
            dsimp only
            rw [cellsF_snoc, List.length_append]; exact hown4
          · exact ((Below.drewN hb.out _).alloc hbs _).grown hgrow (by simp; omega) hown0.out
        | true =>
          have HE : Hid (run f (zs.take (k + 1)) = (o ++ [f] ++ [x], true)) := by show _ = _; rw [HS.out]; simp [stp, hl]
          clear HS
          go_wp2_with fail
          go_quiet ((go_at_call 46; exact Calls.quiet_of (l1Less_any f.nm x.nm _ hfn hfk.1)))
          go_wp2_with (first
            | (at_builtin; refine wpList_append_own _ rfl _ _ 26 rfl w1.heap.size 41 i0 _ 3 40 Try.underlying26 hi hz0 hz1 hz2 rfl (by decide) _ _ _ rfl (hown4'.out.alloc _) ⟨w4.heap.size, 0, none⟩ 1 1 [.string x.nm, .string x.dt, .int .i64 x.sy] rfl rfl (cell_first3 _ _ _ _ _) (fun x hx => by simp at hx; rcases hx with rfl | rfl | rfl <;> rfl) (by unfold maxLen; omega) (by omega) (by simp; omega) ?_; intro v5 w5 hown5 hgrow5 hnil5)
            | (at_builtin; refine wpList_append_own _ rfl _ _ 26 rfl w1.heap.size 41 i0 _ 3 40 Try.underlying26 hi hz0 hz1 hz2 rfl (by decide) _ _ _ rfl ((hownd.out _).alloc _) ⟨wr.heap.size, 0, none⟩ 1 1 [.string f.nm, .string f.dt, .int .i64 f.sy] rfl rfl (cell_first3 _ _ _ _ _) (fun x hx => by simp at hx; rcases hx with rfl | rfl | rfl <;> rfl) (by unfold maxLen; omega) (by omega) (by simp; omega) ?_; intro v' w4 hown4 hgrow hnil;
               have hb4 : Hid (Below w1.heap.size w1 w4) := ((Below.drewN hb.out _).alloc hbs _).grown hgrow (by simp; omega) hown0.out;
               have z0 := (hb4.out.cell (p := ⟨b, _, none⟩) hbl).trans y0.out; have z1 := (hb4.out.cell (p := ⟨b, _, none⟩) hbl).trans y1.out; have z2 := (hb4.out.cell (p := ⟨b, _, none⟩) hbl).trans y2.out;
               have hbs4 := hb4.out.size; have hbb4 : b < w4.heap.size := Nat.lt_of_lt_of_le hbl hbs4; have hown40 : Hid _ := owns_base hown4; have hown4' : Hid (w4.ownsRow w1.heap.size 41 3 v' (o.length + 1) (cellsF o ++ [.string f.nm, .string f.dt, .int .i64 f.sy])) := hown4; clear hgrow hnil hown4))
          refine ⟨⟨k + 1, by omega, by go_num, by rw [HE.out], ?_, ?_⟩, by simp [intOf]; omega⟩
          · rw [HE.out]
            dsimp only
            rw [cellsF_snoc, cellsF_snoc, List.length_append, List.length_append]; exact hown5
          · exact (hb4.out.alloc hbs4 _).grown hgrow5 (by simp; omega) hown40.out
    · obtain rfl : k = zs.length := by omega
      rw [List.take_length] at hown
      have HR := run_ins f zs
      have hrl := run_length f zs
      rw [← HW.out] at HR
      rw [List.take_length]
      generalize run f zs = st at *
      obtain ⟨o, d⟩ := st
      dsimp only at HR hown hrl ⊢
      have hbs := hb.size
      have hown0 : Hid _ := owns_base hown
      clear hk hlt
      cases d with
      | true =>
        have HY : Hid (wi xs f = o) := by show _ = _; rw [← HR, if_pos rfl]
        obtain ⟨-, a2, cap2, hv, hres⟩ := res_of_owns hown
        subst hv
        clear HR HW
        go_wp2
        go_ret
        exact ⟨a2, cap2, by rw [HY.out]; rfl, by rw [HY.out]; exact hres.base (by omega), hbw1.trans (hb.mono (by omega))⟩
      | false =>
        have HY : Hid (wi xs f = o ++ [f]) := by show _ = _; rw [← HR, if_neg (by simp)]
        clear HR HW
        have q0 := (hb.cell (p := ⟨w.heap.size, 0, none⟩) hsz).trans p0
        have q1 := (hb.cell (p := ⟨w.heap.size, 1, none⟩) hsz).trans p1
        have q2 := (hb.cell (p := ⟨w.heap.size, 2, none⟩) hsz).trans p2
        have hbw : w.heap.size < wr.heap.size := by omega
        have hown' : Hid (wr.ownsRow w1.heap.size 41 3 u6 o.length (cellsF o)) := hown
        have hbH : Hid (Below w1.heap.size w1 wr) := hb
        clear hown hb
        go_wp2_with (at_builtin; refine wpList_append_own _ rfl _ _ 26 rfl w1.heap.size 41 i0 _ 3 40 Try.underlying26 hi hz0 hz1 hz2 rfl (by decide) _ _ _ rfl (hown'.out.alloc _) ⟨wr.heap.size, 0, none⟩ 1 1 [.string f.nm, .string f.dt, .int .i64 f.sy] rfl rfl (cell_first3 _ _ _ _ _) (fun x hx => by simp at hx; rcases hx with rfl | rfl | rfl <;> rfl) (by unfold maxLen; omega) (by omega) (by simp; omega) ?_; intro v' w4 hown4 hgrow hnil; have hb4 : Hid (Below w1.heap.size w1 w4) := (hbH.out.alloc hbs _).grown hgrow (by simp; omega) hown0.out; rw [← cellsF_snoc] at hown4; obtain ⟨-, a2, cap2, hv, hres⟩ := res_of_owns hown4; subst hv; replace hres : Hid (Res _ _ _ _ _) := hres; clear hown4 hgrow hnil)
        go_ret
        exact ⟨a2, cap2, by rw [HY.out, List.length_append]; rfl, by rw [HY.out]; exact hres.out.base (by omega), hbw1.trans (hb4.out.mono (by omega))⟩
end Go.Proofs.Ytlchoaofeaglhad
