import Derived.Test.YtgmfjninimebmaaGreatDoorMgTbO

import Derived.Deep.RegionHeld3
namespace Go.Proofs.YtgmfjninimebmaaGreatDoor
open Go.RowKit Go.Maps
set_option linter.unusedVariables false
set_option linter.unusedSimpArgs false

theorem okTo_bad {xs : List En} {n k : Nat} (hk : k < n) (h : okTo xs (k + 1) = false) : okTo xs n = false := by
  cases hn : okTo xs n with
  | false => rfl
  | true => rw [okTo_le hn (by omega)] at h; cases h

set_option maxRecDepth 100000 in
set_option maxHeartbeats 8000000 in
theorem specTab_any (a : Option Addr) (cap : Nat) (xs : List En) (w : World) (hx : LieE w a xs) (hf : FitsE xs) (hbig : xs.length ≤ 70368744177664) (hcap : xs.length ≤ cap) :
    Calls Tryz.prog 37 #[.slice a xs.length cap] w fun e w' => e = .returned (.string (tabT xs)) ∧ Below w.heap.size w w' := by
  by_cases hlong : 300000 < xs.length
  · have hT : tabT xs = ⟨#[]⟩ := by unfold tabT; rw [if_neg (by omega)]
    rw [hT]
    have h' : (300000 : Int) < xs.length := by omega
    go_enter Tryz.func37, Tryz.ntmps37
    go_wp2_with fail
    go_ret
    exact ⟨rfl, Below.refl _ _⟩
  have h' : ¬ (300000 : Int) < xs.length := by omega
  have hlen : xs.length ≤ 1048576 := by omega
  have HBad : Hid (∀ k, k < xs.length → okTo xs (k + 1) = false → tabT xs = ⟨#[]⟩) := fun k hk h => by
    unfold tabT
    rw [if_neg]
    rintro ⟨-, h2⟩
    rw [okTo_bad hk h] at h2
    cases h2
  have HGood : Hid (okTo xs xs.length = true → tabT xs = tabX xs) := fun h => by
    unfold tabT
    rw [if_pos ⟨by omega, h⟩]
  generalize tabT xs = T at *
  go_enter Tryz.func37, Tryz.ntmps37
  go_wp2_with fail
  go_loopw [3] (fun y wr => ∃ k : Nat, y = .int .i64 k ∧ k ≤ xs.length ∧ Hid (okTo xs k = true) ∧ Below w.heap.size w wr) (fun y _ => xs.length - (intOf y).toNat)
  case atStart => exact ⟨0, rfl, by omega, rfl, Below.refl _ _⟩
  case round =>
    obtain ⟨k, rfl, hk, HAll, hb⟩ := hrel
    have hbs := hb.size
    by_cases hlt : k < xs.length
    · obtain ⟨b, off, rfl, hbl, c0, c1, c2, c3⟩ := (hx.below hb).at hlt
      have hfk := hf.at hlt
      have hik : (k : Int) < (xs.length : Int) := by omega
      have HStep : Hid (okTo xs (k + 1) = (entOk (xs.getD k en0) && (decide (k = 0) || befE (xs.getD (k - 1) en0) (xs.getD k en0)))) := by show _ = _; simp only [okTo, HAll.out, Bool.true_and]
      have HO := hdB (fun w => l2EntryOk_any (xs.getD k en0) w hfk.1 hfk.2)
      have HBk := hdB (HBad.out k hlt)
      have HB := hdB hb
      clear HAll
      cases hok : entOk (xs.getD k en0) with
      | false =>
        have hT := HBk.out (by rw [HStep.out, hok]; rfl)
        rw [hok] at HO
        clear HStep HBk
        subst hT
        generalize xs.getD k en0 = f at *
        obtain ⟨ky, sq, kd, vl⟩ := f
        dsimp only at *
        go_wp2_with fail
        refine wp_region_noPanic ?_
        refine wp_region_held_drew (S := (fun w' => w'.cell? ⟨b, off + k * 4, none⟩ = some (.string ky) ∧ w'.cell? ⟨b, off + k * 4 + 1, none⟩ = some (.int .i64 sq) ∧ w'.cell? ⟨b, off + k * 4 + 2, none⟩ = some (.int .i64 kd) ∧ w'.cell? ⟨b, off + k * 4 + 3, none⟩ = some (.string vl))) (by kernel_rfl) ?_ (fun hHeld => ?_)
        · (try dsimp only)
          (simp [go_sem, *])
        refine wpAnyH_take (i := 0) (oi := { dst := some 20, op := Op.move (Operand.tmp 0), type := 26, pos := "l3_table.go:24", after := #[], guard := none }) (v := ?_) rfl (by kernel_rfl) (by kernel_rfl) (by kernel_rfl) (fun _ _ _ h => h) (Or.inl ⟨by rfl, ?_⟩) (by assumption) ?_
        rotate_left
        · intro w' hSw
          (try dsimp only at hSw)
          go_simp
          try with_reducible rfl
        simp only [Act.put, List.setIfInBounds_toArray, List.set_cons_zero, List.set_cons_succ]
        refine wpAnyH_take (i := 1) (oi := { dst := some 21, op := Op.move (Operand.tmp 3), type := 3, pos := "l3_table.go:24", after := #[], guard := none }) (v := ?_) rfl (by kernel_rfl) (by kernel_rfl) (by kernel_rfl) (fun _ _ _ h => h) (Or.inl ⟨by rfl, ?_⟩) (by assumption) ?_
        rotate_left
        · intro w' hSw
          (try dsimp only at hSw)
          go_simp
          try with_reducible rfl
        simp only [Act.put, List.setIfInBounds_toArray, List.set_cons_zero, List.set_cons_succ]
        refine wpAnyH_take (i := 2) (oi := { dst := some 22, op := Op.indexAddr 26 (Operand.tmp 20) (Operand.tmp 21), type := 0, pos := "l3_table.go:24", after := #[{ on := 0, ground := Ground.data }, { on := 1, ground := Ground.data }], guard := none }) (v := ?_) rfl (by kernel_rfl) (by kernel_rfl) (by kernel_rfl) (fun _ _ _ h => h) (Or.inl ⟨by rfl, ?_⟩) (by assumption) ?_
        rotate_left
        · intro w' hSw
          (try dsimp only at hSw)
          go_simp
          try with_reducible rfl
        simp only [Act.put, List.setIfInBounds_toArray, List.set_cons_zero, List.set_cons_succ]
        refine wpAnyH_take (i := 3) (oi := { dst := some 23, op := Op.load 50 (Operand.tmp 22), type := 50, pos := "l3_table.go:24", after := #[{ on := 2, ground := Ground.data }], guard := none }) (v := ?_) rfl (by kernel_rfl) (by kernel_rfl) (by kernel_rfl) (fun _ _ _ h => h) (Or.inl ⟨by rfl, ?_⟩) (by assumption) ?_
        rotate_left
        · intro w' hSw
          (try dsimp only at hSw)
          go_simp
          try with_reducible rfl
        simp only [Act.put, List.setIfInBounds_toArray, List.set_cons_zero, List.set_cons_succ]
        refine wpAnyH_ready (rs := [4]) (by kernel_rfl) (by simp) ?_
        refine AllReadyH.cons rfl (fun K hK => ?_) AllReadyH.nil
        go_simp
        refine (HO.out _).mono ?_
        rintro e w1 ⟨rfl, hb1⟩
        have k0 := (hb1.cell (p := ⟨b, _, none⟩) hbl).trans c0
        have k1 := (hb1.cell (p := ⟨b, _, none⟩) hbl).trans c1
        have k2 := (hb1.cell (p := ⟨b, _, none⟩) hbl).trans c2
        have k3 := (hb1.cell (p := ⟨b, _, none⟩) hbl).trans c3
        have HB1 := hdB (HB.out.drew.trans (hb1.mono HB.out.size))
        clear hb1
        refine hK.out _ _ ?_ (fun hHeld => ?_)
        · (try dsimp only)
          (simp [go_sem, *])
        clear hK K
        try simp only [Act.put, List.setIfInBounds_toArray, List.set_cons_zero, List.set_cons_succ]
        refine wpAnyH_take (i := 5) (oi := { dst := some 25, op := Op.unOp UnOp.not 4 (Operand.tmp 24), type := 4, pos := "l3_table.go:24", after := #[{ on := 4, ground := Ground.data }], guard := none }) (v := ?_) rfl (by kernel_rfl) (by kernel_rfl) (by kernel_rfl) (fun _ _ _ h => h) (Or.inl ⟨by rfl, ?_⟩) (by assumption) ?_
        rotate_left
        · intro w' hSw
          (try dsimp only at hSw)
          go_simp
          try with_reducible rfl
        simp only [Act.put, List.setIfInBounds_toArray, List.set_cons_zero, List.set_cons_succ]
        refine wpAnyH_take (i := 6) (oi := { dst := some 26, op := Op.move (Operand.tmp 25), type := 4, pos := "l3_table.go:24", after := #[{ on := 5, ground := Ground.data }, { on := 4, ground := Ground.chain }], guard := none }) (v := ?_) rfl (by kernel_rfl) (by kernel_rfl) (by kernel_rfl) (fun _ _ _ h => h) (Or.inl ⟨by rfl, ?_⟩) (by assumption) ?_
        rotate_left
        · intro w' hSw
          (try dsimp only at hSw)
          go_simp
          try with_reducible rfl
        simp only [Act.put, List.setIfInBounds_toArray, List.set_cons_zero, List.set_cons_succ]
        refine wpAnyH_take (i := 7) (oi := { dst := some 27, op := Op.move (Operand.tmp 3), type := 3, pos := "l3_table.go:24", after := #[{ on := 6, ground := Ground.guard }], guard := some (6, false) }) (v := undef) rfl (by kernel_rfl) (by kernel_rfl) (by kernel_rfl) (fun _ _ _ h => h) (Or.inr ⟨by rfl, rfl⟩) (by assumption) ?_
        simp only [Act.put, List.setIfInBounds_toArray, List.set_cons_zero, List.set_cons_succ]
        refine wpAnyH_take (i := 8) (oi := { dst := some 28, op := Op.binOp BinOp.gtr 3 (Operand.tmp 27) (Operand.const (Value.int IntKind.i64 0)) 3, type := 4, pos := "l3_table.go:24", after := #[{ on := 7, ground := Ground.data }, { on := 6, ground := Ground.guard }], guard := some (6, false) }) (v := undef) rfl (by kernel_rfl) (by kernel_rfl) (by kernel_rfl) (fun _ _ _ h => h) (Or.inr ⟨by rfl, rfl⟩) (by assumption) ?_
        simp only [Act.put, List.setIfInBounds_toArray, List.set_cons_zero, List.set_cons_succ]
        refine wpAnyH_take (i := 9) (oi := { dst := some 29, op := Op.move (Operand.tmp 28), type := 4, pos := "l3_table.go:24", after := #[{ on := 8, ground := Ground.data }, { on := 6, ground := Ground.chain }, { on := 6, ground := Ground.guard }], guard := some (6, false) }) (v := undef) rfl (by kernel_rfl) (by kernel_rfl) (by kernel_rfl) (fun _ _ _ h => h) (Or.inr ⟨by rfl, rfl⟩) (by assumption) ?_
        simp only [Act.put, List.setIfInBounds_toArray, List.set_cons_zero, List.set_cons_succ]
        refine wpAnyH_take (i := 10) (oi := { dst := some 30, op := Op.move (Operand.tmp 0), type := 26, pos := "l3_table.go:24", after := #[{ on := 9, ground := Ground.guard }], guard := some (9, true) }) (v := undef) rfl (by kernel_rfl) (by kernel_rfl) (by kernel_rfl) (fun _ _ _ h => h) (Or.inr ⟨by rfl, rfl⟩) (by assumption) ?_
        simp only [Act.put, List.setIfInBounds_toArray, List.set_cons_zero, List.set_cons_succ]
        refine wpAnyH_take (i := 11) (oi := { dst := some 31, op := Op.move (Operand.tmp 3), type := 3, pos := "l3_table.go:24", after := #[{ on := 9, ground := Ground.guard }], guard := some (9, true) }) (v := undef) rfl (by kernel_rfl) (by kernel_rfl) (by kernel_rfl) (fun _ _ _ h => h) (Or.inr ⟨by rfl, rfl⟩) (by assumption) ?_
        simp only [Act.put, List.setIfInBounds_toArray, List.set_cons_zero, List.set_cons_succ]
        refine wpAnyH_take (i := 12) (oi := { dst := some 32, op := Op.binOp BinOp.sub 3 (Operand.tmp 31) (Operand.const (Value.int IntKind.i64 1)) 3, type := 3, pos := "l3_table.go:24", after := #[{ on := 11, ground := Ground.data }, { on := 9, ground := Ground.guard }], guard := some (9, true) }) (v := undef) rfl (by kernel_rfl) (by kernel_rfl) (by kernel_rfl) (fun _ _ _ h => h) (Or.inr ⟨by rfl, rfl⟩) (by assumption) ?_
        simp only [Act.put, List.setIfInBounds_toArray, List.set_cons_zero, List.set_cons_succ]
        refine wpAnyH_take (i := 13) (oi := { dst := some 33, op := Op.indexAddr 26 (Operand.tmp 30) (Operand.tmp 32), type := 0, pos := "l3_table.go:24", after := #[{ on := 10, ground := Ground.data }, { on := 12, ground := Ground.data }, { on := 9, ground := Ground.guard }], guard := some (9, true) }) (v := undef) rfl (by kernel_rfl) (by kernel_rfl) (by kernel_rfl) (fun _ _ _ h => h) (Or.inr ⟨by rfl, rfl⟩) (by assumption) ?_
        simp only [Act.put, List.setIfInBounds_toArray, List.set_cons_zero, List.set_cons_succ]
        refine wpAnyH_take (i := 14) (oi := { dst := some 34, op := Op.load 50 (Operand.tmp 33), type := 50, pos := "l3_table.go:24", after := #[{ on := 13, ground := Ground.data }, { on := 9, ground := Ground.guard }], guard := some (9, true) }) (v := undef) rfl (by kernel_rfl) (by kernel_rfl) (by kernel_rfl) (fun _ _ _ h => h) (Or.inr ⟨by rfl, rfl⟩) (by assumption) ?_
        simp only [Act.put, List.setIfInBounds_toArray, List.set_cons_zero, List.set_cons_succ]
        refine wpAnyH_take (i := 15) (oi := { dst := some 35, op := Op.move (Operand.tmp 0), type := 26, pos := "l3_table.go:24", after := #[{ on := 9, ground := Ground.guard }], guard := some (9, true) }) (v := undef) rfl (by kernel_rfl) (by kernel_rfl) (by kernel_rfl) (fun _ _ _ h => h) (Or.inr ⟨by rfl, rfl⟩) (by assumption) ?_
        simp only [Act.put, List.setIfInBounds_toArray, List.set_cons_zero, List.set_cons_succ]
        refine wpAnyH_take (i := 16) (oi := { dst := some 36, op := Op.move (Operand.tmp 3), type := 3, pos := "l3_table.go:24", after := #[{ on := 9, ground := Ground.guard }], guard := some (9, true) }) (v := undef) rfl (by kernel_rfl) (by kernel_rfl) (by kernel_rfl) (fun _ _ _ h => h) (Or.inr ⟨by rfl, rfl⟩) (by assumption) ?_
        simp only [Act.put, List.setIfInBounds_toArray, List.set_cons_zero, List.set_cons_succ]
        refine wpAnyH_take (i := 17) (oi := { dst := some 37, op := Op.indexAddr 26 (Operand.tmp 35) (Operand.tmp 36), type := 0, pos := "l3_table.go:24", after := #[{ on := 15, ground := Ground.data }, { on := 16, ground := Ground.data }, { on := 9, ground := Ground.guard }], guard := some (9, true) }) (v := undef) rfl (by kernel_rfl) (by kernel_rfl) (by kernel_rfl) (fun _ _ _ h => h) (Or.inr ⟨by rfl, rfl⟩) (by assumption) ?_
        simp only [Act.put, List.setIfInBounds_toArray, List.set_cons_zero, List.set_cons_succ]
        refine wpAnyH_take (i := 18) (oi := { dst := some 38, op := Op.load 50 (Operand.tmp 37), type := 50, pos := "l3_table.go:24", after := #[{ on := 17, ground := Ground.data }, { on := 9, ground := Ground.guard }], guard := some (9, true) }) (v := undef) rfl (by kernel_rfl) (by kernel_rfl) (by kernel_rfl) (fun _ _ _ h => h) (Or.inr ⟨by rfl, rfl⟩) (by assumption) ?_
        simp only [Act.put, List.setIfInBounds_toArray, List.set_cons_zero, List.set_cons_succ]
        refine wpAnyH_take (i := 19) (oi := { dst := some 39, op := Op.call { callee := Callee.value (Operand.func 59), args := #[Operand.tmp 34, Operand.tmp 38], argTypes := #[50, 50] }, type := 4, pos := "l3_table.go:24", after := #[{ on := 14, ground := Ground.data }, { on := 18, ground := Ground.data }, { on := 9, ground := Ground.chain }, { on := 9, ground := Ground.guard }], guard := some (9, true) }) (v := undef) rfl (by kernel_rfl) (by kernel_rfl) (by kernel_rfl) (fun _ _ _ h => h) (Or.inr ⟨by rfl, rfl⟩) (by assumption) ?_
        simp only [Act.put, List.setIfInBounds_toArray, List.set_cons_zero, List.set_cons_succ]
        refine wpAnyH_take (i := 20) (oi := { dst := some 40, op := Op.unOp UnOp.not 4 (Operand.tmp 39), type := 4, pos := "l3_table.go:24", after := #[{ on := 19, ground := Ground.data }, { on := 9, ground := Ground.guard }], guard := some (9, true) }) (v := undef) rfl (by kernel_rfl) (by kernel_rfl) (by kernel_rfl) (fun _ _ _ h => h) (Or.inr ⟨by rfl, rfl⟩) (by assumption) ?_
        simp only [Act.put, List.setIfInBounds_toArray, List.set_cons_zero, List.set_cons_succ]
        refine wpAnyH_take (i := 21) (oi := { dst := some 41, op := Op.pick (Operand.tmp 29) (Operand.tmp 40) (Operand.const (Value.bool false)), type := 4, pos := "l3_table.go:24", after := #[{ on := 9, ground := Ground.data }, { on := 20, ground := Ground.data }, { on := 6, ground := Ground.guard }], guard := some (6, false) }) (v := undef) rfl (by kernel_rfl) (by kernel_rfl) (by kernel_rfl) (fun _ _ _ h => h) (Or.inr ⟨by rfl, rfl⟩) (by assumption) ?_
        simp only [Act.put, List.setIfInBounds_toArray, List.set_cons_zero, List.set_cons_succ]
        refine wpAnyH_take (i := 22) (oi := { dst := some 42, op := Op.pick (Operand.tmp 26) (Operand.const (Value.bool true)) (Operand.tmp 41), type := 4, pos := "l3_table.go:24", after := #[{ on := 6, ground := Ground.data }, { on := 21, ground := Ground.data }], guard := none }) (v := ?_) rfl (by kernel_rfl) (by kernel_rfl) (by kernel_rfl) (fun _ _ _ h => h) (Or.inl ⟨by rfl, ?_⟩) (by assumption) ?_
        rotate_left
        · intro w' hSw
          (try dsimp only at hSw)
          go_simp
          try with_reducible rfl
        simp only [Act.put, List.setIfInBounds_toArray, List.set_cons_zero, List.set_cons_succ]
        refine wpAnyH_done (by kernel_rfl) ?_ _
        refine NoPanic.normal ?_
        go_wp2_with fail
        go_ret
        exact ⟨rfl, HB1.out⟩
      | true =>
        rw [hok] at HO
        by_cases hk0 : k = 0
        · have hA : Hid (okTo xs (k + 1) = true) := by show _ = _; rw [HStep.out, hok, hk0]; rfl
          have hk0' : ¬ (0 : Int) < (k : Int) := by omega
          clear HStep HBk hk0
          generalize xs.getD k en0 = f at *
          obtain ⟨ky, sq, kd, vl⟩ := f
          dsimp only at *
          go_wp2_with fail
          refine wp_region_noPanic ?_
          refine wp_region_held_drew (S := (fun w' => w'.cell? ⟨b, off + k * 4, none⟩ = some (.string ky) ∧ w'.cell? ⟨b, off + k * 4 + 1, none⟩ = some (.int .i64 sq) ∧ w'.cell? ⟨b, off + k * 4 + 2, none⟩ = some (.int .i64 kd) ∧ w'.cell? ⟨b, off + k * 4 + 3, none⟩ = some (.string vl))) (by kernel_rfl) ?_ (fun hHeld => ?_)
          · (try dsimp only)
            (simp [go_sem, *])
          refine wpAnyH_take (i := 0) (oi := { dst := some 20, op := Op.move (Operand.tmp 0), type := 26, pos := "l3_table.go:24", after := #[], guard := none }) (v := ?_) rfl (by kernel_rfl) (by kernel_rfl) (by kernel_rfl) (fun _ _ _ h => h) (Or.inl ⟨by rfl, ?_⟩) (by assumption) ?_
          rotate_left
          · intro w' hSw
            (try dsimp only at hSw)
            go_simp
            try with_reducible rfl
          simp only [Act.put, List.setIfInBounds_toArray, List.set_cons_zero, List.set_cons_succ]
          refine wpAnyH_take (i := 1) (oi := { dst := some 21, op := Op.move (Operand.tmp 3), type := 3, pos := "l3_table.go:24", after := #[], guard := none }) (v := ?_) rfl (by kernel_rfl) (by kernel_rfl) (by kernel_rfl) (fun _ _ _ h => h) (Or.inl ⟨by rfl, ?_⟩) (by assumption) ?_
          rotate_left
          · intro w' hSw
            (try dsimp only at hSw)
            go_simp
            try with_reducible rfl
          simp only [Act.put, List.setIfInBounds_toArray, List.set_cons_zero, List.set_cons_succ]
          refine wpAnyH_take (i := 2) (oi := { dst := some 22, op := Op.indexAddr 26 (Operand.tmp 20) (Operand.tmp 21), type := 0, pos := "l3_table.go:24", after := #[{ on := 0, ground := Ground.data }, { on := 1, ground := Ground.data }], guard := none }) (v := ?_) rfl (by kernel_rfl) (by kernel_rfl) (by kernel_rfl) (fun _ _ _ h => h) (Or.inl ⟨by rfl, ?_⟩) (by assumption) ?_
          rotate_left
          · intro w' hSw
            (try dsimp only at hSw)
            go_simp
            try with_reducible rfl
          simp only [Act.put, List.setIfInBounds_toArray, List.set_cons_zero, List.set_cons_succ]
          refine wpAnyH_take (i := 3) (oi := { dst := some 23, op := Op.load 50 (Operand.tmp 22), type := 50, pos := "l3_table.go:24", after := #[{ on := 2, ground := Ground.data }], guard := none }) (v := ?_) rfl (by kernel_rfl) (by kernel_rfl) (by kernel_rfl) (fun _ _ _ h => h) (Or.inl ⟨by rfl, ?_⟩) (by assumption) ?_
          rotate_left
          · intro w' hSw
            (try dsimp only at hSw)
            go_simp
            try with_reducible rfl
          simp only [Act.put, List.setIfInBounds_toArray, List.set_cons_zero, List.set_cons_succ]
          refine wpAnyH_ready (rs := [4]) (by kernel_rfl) (by simp) ?_
          refine AllReadyH.cons rfl (fun K hK => ?_) AllReadyH.nil
          go_simp
          refine (HO.out _).mono ?_
          rintro e w1 ⟨rfl, hb1⟩
          have k0 := (hb1.cell (p := ⟨b, _, none⟩) hbl).trans c0
          have k1 := (hb1.cell (p := ⟨b, _, none⟩) hbl).trans c1
          have k2 := (hb1.cell (p := ⟨b, _, none⟩) hbl).trans c2
          have k3 := (hb1.cell (p := ⟨b, _, none⟩) hbl).trans c3
          have HB1 := hdB (HB.out.drew.trans (hb1.mono HB.out.size))
          clear hb1
          refine hK.out _ _ ?_ (fun hHeld => ?_)
          · (try dsimp only)
            (simp [go_sem, *])
          clear hK K
          try simp only [Act.put, List.setIfInBounds_toArray, List.set_cons_zero, List.set_cons_succ]
          refine wpAnyH_take (i := 5) (oi := { dst := some 25, op := Op.unOp UnOp.not 4 (Operand.tmp 24), type := 4, pos := "l3_table.go:24", after := #[{ on := 4, ground := Ground.data }], guard := none }) (v := ?_) rfl (by kernel_rfl) (by kernel_rfl) (by kernel_rfl) (fun _ _ _ h => h) (Or.inl ⟨by rfl, ?_⟩) (by assumption) ?_
          rotate_left
          · intro w' hSw
            (try dsimp only at hSw)
            go_simp
            try with_reducible rfl
          simp only [Act.put, List.setIfInBounds_toArray, List.set_cons_zero, List.set_cons_succ]
          refine wpAnyH_take (i := 6) (oi := { dst := some 26, op := Op.move (Operand.tmp 25), type := 4, pos := "l3_table.go:24", after := #[{ on := 5, ground := Ground.data }, { on := 4, ground := Ground.chain }], guard := none }) (v := ?_) rfl (by kernel_rfl) (by kernel_rfl) (by kernel_rfl) (fun _ _ _ h => h) (Or.inl ⟨by rfl, ?_⟩) (by assumption) ?_
          rotate_left
          · intro w' hSw
            (try dsimp only at hSw)
            go_simp
            try with_reducible rfl
          simp only [Act.put, List.setIfInBounds_toArray, List.set_cons_zero, List.set_cons_succ]
          refine wpAnyH_take (i := 7) (oi := { dst := some 27, op := Op.move (Operand.tmp 3), type := 3, pos := "l3_table.go:24", after := #[{ on := 6, ground := Ground.guard }], guard := some (6, false) }) (v := ?_) rfl (by kernel_rfl) (by kernel_rfl) (by kernel_rfl) (fun _ _ _ h => h) (Or.inl ⟨by rfl, ?_⟩) (by assumption) ?_
          rotate_left
          · intro w' hSw
            (try dsimp only at hSw)
            go_simp
            try with_reducible rfl
          simp only [Act.put, List.setIfInBounds_toArray, List.set_cons_zero, List.set_cons_succ]
          refine wpAnyH_take (i := 8) (oi := { dst := some 28, op := Op.binOp BinOp.gtr 3 (Operand.tmp 27) (Operand.const (Value.int IntKind.i64 0)) 3, type := 4, pos := "l3_table.go:24", after := #[{ on := 7, ground := Ground.data }, { on := 6, ground := Ground.guard }], guard := some (6, false) }) (v := .bool false) rfl (by kernel_rfl) (by kernel_rfl) (by kernel_rfl) (fun _ _ _ h => h) (Or.inl ⟨by rfl, ?_⟩) (by assumption) ?_
          · intro w' hSw
            (try dsimp only at hSw)
            go_simp
            try omega
          simp only [Act.put, List.setIfInBounds_toArray, List.set_cons_zero, List.set_cons_succ]
          refine wpAnyH_take (i := 9) (oi := { dst := some 29, op := Op.move (Operand.tmp 28), type := 4, pos := "l3_table.go:24", after := #[{ on := 8, ground := Ground.data }, { on := 6, ground := Ground.chain }, { on := 6, ground := Ground.guard }], guard := some (6, false) }) (v := ?_) rfl (by kernel_rfl) (by kernel_rfl) (by kernel_rfl) (fun _ _ _ h => h) (Or.inl ⟨by rfl, ?_⟩) (by assumption) ?_
          rotate_left
          · intro w' hSw
            (try dsimp only at hSw)
            go_simp
            try with_reducible rfl
          simp only [Act.put, List.setIfInBounds_toArray, List.set_cons_zero, List.set_cons_succ]
          refine wpAnyH_take (i := 10) (oi := { dst := some 30, op := Op.move (Operand.tmp 0), type := 26, pos := "l3_table.go:24", after := #[{ on := 9, ground := Ground.guard }], guard := some (9, true) }) (v := undef) rfl (by kernel_rfl) (by kernel_rfl) (by kernel_rfl) (fun _ _ _ h => h) (Or.inr ⟨by rfl, rfl⟩) (by assumption) ?_
          simp only [Act.put, List.setIfInBounds_toArray, List.set_cons_zero, List.set_cons_succ]
          refine wpAnyH_take (i := 11) (oi := { dst := some 31, op := Op.move (Operand.tmp 3), type := 3, pos := "l3_table.go:24", after := #[{ on := 9, ground := Ground.guard }], guard := some (9, true) }) (v := undef) rfl (by kernel_rfl) (by kernel_rfl) (by kernel_rfl) (fun _ _ _ h => h) (Or.inr ⟨by rfl, rfl⟩) (by assumption) ?_
          simp only [Act.put, List.setIfInBounds_toArray, List.set_cons_zero, List.set_cons_succ]
          refine wpAnyH_take (i := 12) (oi := { dst := some 32, op := Op.binOp BinOp.sub 3 (Operand.tmp 31) (Operand.const (Value.int IntKind.i64 1)) 3, type := 3, pos := "l3_table.go:24", after := #[{ on := 11, ground := Ground.data }, { on := 9, ground := Ground.guard }], guard := some (9, true) }) (v := undef) rfl (by kernel_rfl) (by kernel_rfl) (by kernel_rfl) (fun _ _ _ h => h) (Or.inr ⟨by rfl, rfl⟩) (by assumption) ?_
          simp only [Act.put, List.setIfInBounds_toArray, List.set_cons_zero, List.set_cons_succ]
          refine wpAnyH_take (i := 13) (oi := { dst := some 33, op := Op.indexAddr 26 (Operand.tmp 30) (Operand.tmp 32), type := 0, pos := "l3_table.go:24", after := #[{ on := 10, ground := Ground.data }, { on := 12, ground := Ground.data }, { on := 9, ground := Ground.guard }], guard := some (9, true) }) (v := undef) rfl (by kernel_rfl) (by kernel_rfl) (by kernel_rfl) (fun _ _ _ h => h) (Or.inr ⟨by rfl, rfl⟩) (by assumption) ?_
          simp only [Act.put, List.setIfInBounds_toArray, List.set_cons_zero, List.set_cons_succ]
          refine wpAnyH_take (i := 14) (oi := { dst := some 34, op := Op.load 50 (Operand.tmp 33), type := 50, pos := "l3_table.go:24", after := #[{ on := 13, ground := Ground.data }, { on := 9, ground := Ground.guard }], guard := some (9, true) }) (v := undef) rfl (by kernel_rfl) (by kernel_rfl) (by kernel_rfl) (fun _ _ _ h => h) (Or.inr ⟨by rfl, rfl⟩) (by assumption) ?_
          simp only [Act.put, List.setIfInBounds_toArray, List.set_cons_zero, List.set_cons_succ]
          refine wpAnyH_take (i := 15) (oi := { dst := some 35, op := Op.move (Operand.tmp 0), type := 26, pos := "l3_table.go:24", after := #[{ on := 9, ground := Ground.guard }], guard := some (9, true) }) (v := undef) rfl (by kernel_rfl) (by kernel_rfl) (by kernel_rfl) (fun _ _ _ h => h) (Or.inr ⟨by rfl, rfl⟩) (by assumption) ?_
          simp only [Act.put, List.setIfInBounds_toArray, List.set_cons_zero, List.set_cons_succ]
          refine wpAnyH_take (i := 16) (oi := { dst := some 36, op := Op.move (Operand.tmp 3), type := 3, pos := "l3_table.go:24", after := #[{ on := 9, ground := Ground.guard }], guard := some (9, true) }) (v := undef) rfl (by kernel_rfl) (by kernel_rfl) (by kernel_rfl) (fun _ _ _ h => h) (Or.inr ⟨by rfl, rfl⟩) (by assumption) ?_
          simp only [Act.put, List.setIfInBounds_toArray, List.set_cons_zero, List.set_cons_succ]
          refine wpAnyH_take (i := 17) (oi := { dst := some 37, op := Op.indexAddr 26 (Operand.tmp 35) (Operand.tmp 36), type := 0, pos := "l3_table.go:24", after := #[{ on := 15, ground := Ground.data }, { on := 16, ground := Ground.data }, { on := 9, ground := Ground.guard }], guard := some (9, true) }) (v := undef) rfl (by kernel_rfl) (by kernel_rfl) (by kernel_rfl) (fun _ _ _ h => h) (Or.inr ⟨by rfl, rfl⟩) (by assumption) ?_
          simp only [Act.put, List.setIfInBounds_toArray, List.set_cons_zero, List.set_cons_succ]
          refine wpAnyH_take (i := 18) (oi := { dst := some 38, op := Op.load 50 (Operand.tmp 37), type := 50, pos := "l3_table.go:24", after := #[{ on := 17, ground := Ground.data }, { on := 9, ground := Ground.guard }], guard := some (9, true) }) (v := undef) rfl (by kernel_rfl) (by kernel_rfl) (by kernel_rfl) (fun _ _ _ h => h) (Or.inr ⟨by rfl, rfl⟩) (by assumption) ?_
          simp only [Act.put, List.setIfInBounds_toArray, List.set_cons_zero, List.set_cons_succ]
          refine wpAnyH_take (i := 19) (oi := { dst := some 39, op := Op.call { callee := Callee.value (Operand.func 59), args := #[Operand.tmp 34, Operand.tmp 38], argTypes := #[50, 50] }, type := 4, pos := "l3_table.go:24", after := #[{ on := 14, ground := Ground.data }, { on := 18, ground := Ground.data }, { on := 9, ground := Ground.chain }, { on := 9, ground := Ground.guard }], guard := some (9, true) }) (v := undef) rfl (by kernel_rfl) (by kernel_rfl) (by kernel_rfl) (fun _ _ _ h => h) (Or.inr ⟨by rfl, rfl⟩) (by assumption) ?_
          simp only [Act.put, List.setIfInBounds_toArray, List.set_cons_zero, List.set_cons_succ]
          refine wpAnyH_take (i := 20) (oi := { dst := some 40, op := Op.unOp UnOp.not 4 (Operand.tmp 39), type := 4, pos := "l3_table.go:24", after := #[{ on := 19, ground := Ground.data }, { on := 9, ground := Ground.guard }], guard := some (9, true) }) (v := undef) rfl (by kernel_rfl) (by kernel_rfl) (by kernel_rfl) (fun _ _ _ h => h) (Or.inr ⟨by rfl, rfl⟩) (by assumption) ?_
          simp only [Act.put, List.setIfInBounds_toArray, List.set_cons_zero, List.set_cons_succ]
          refine wpAnyH_take (i := 21) (oi := { dst := some 41, op := Op.pick (Operand.tmp 29) (Operand.tmp 40) (Operand.const (Value.bool false)), type := 4, pos := "l3_table.go:24", after := #[{ on := 9, ground := Ground.data }, { on := 20, ground := Ground.data }, { on := 6, ground := Ground.guard }], guard := some (6, false) }) (v := ?_) rfl (by kernel_rfl) (by kernel_rfl) (by kernel_rfl) (fun _ _ _ h => h) (Or.inl ⟨by rfl, ?_⟩) (by assumption) ?_
          rotate_left
          · intro w' hSw
            (try dsimp only at hSw)
            go_simp
            try with_reducible rfl
          simp only [Act.put, List.setIfInBounds_toArray, List.set_cons_zero, List.set_cons_succ]
          refine wpAnyH_take (i := 22) (oi := { dst := some 42, op := Op.pick (Operand.tmp 26) (Operand.const (Value.bool true)) (Operand.tmp 41), type := 4, pos := "l3_table.go:24", after := #[{ on := 6, ground := Ground.data }, { on := 21, ground := Ground.data }], guard := none }) (v := ?_) rfl (by kernel_rfl) (by kernel_rfl) (by kernel_rfl) (fun _ _ _ h => h) (Or.inl ⟨by rfl, ?_⟩) (by assumption) ?_
          rotate_left
          · intro w' hSw
            (try dsimp only at hSw)
            go_simp
            try with_reducible rfl
          simp only [Act.put, List.setIfInBounds_toArray, List.set_cons_zero, List.set_cons_succ]
          refine wpAnyH_done (by kernel_rfl) ?_ _
          refine NoPanic.normal ?_
          go_wp2_with fail
          exact ⟨⟨k + 1, by simp, by omega, hA, HB1.out⟩, by simp only [intOf]; omega⟩
        · have hk1 : (0 : Int) < (k : Int) := by omega
          have hq0 : (1 : Int) ≤ (k : Int) := by omega
          have hq1 : (0 : Int) ≤ (k : Int) - 1 := by omega
          have hq2 : (k : Int) - 1 < (xs.length : Int) := by omega
          have hq3 : ((k : Int) - 1).toNat = k - 1 := by omega
          have hq4 : IntKind.i64.wrap ((k : Int) - 1) = (k : Int) - 1 := by rw [IntKind.wrap_i64]; omega
          obtain ⟨b', off', e, -, d0, d1, d2, d3⟩ := (hx.below hb).at (i := k - 1) (by omega)
          cases e
          have hfj := hf.at (i := k - 1) (by omega)
          have HP := hdB (fun w => l3Before_any (xs.getD (k - 1) en0) (xs.getD k en0) w hfj.1 hfk.1)
          have hdk : decide (k = 0) = false := by simp [hk0]
          cases hbe : befE (xs.getD (k - 1) en0) (xs.getD k en0) with
          | false =>
            have hT := HBk.out (by rw [HStep.out, hok, hdk, hbe]; rfl)
            rw [hbe] at HP
            clear HStep HBk hk0 hdk
            subst hT
            generalize xs.getD k en0 = f at *
            generalize xs.getD (k - 1) en0 = f' at *
            obtain ⟨ky, sq, kd, vl⟩ := f
            obtain ⟨ky', sq', kd', vl'⟩ := f'
            dsimp only at *
            go_wp2_with fail
            refine wp_region_noPanic ?_
            refine wp_region_held_drew (S := (fun w' => w'.cell? ⟨b, off + k * 4, none⟩ = some (.string ky) ∧ w'.cell? ⟨b, off + k * 4 + 1, none⟩ = some (.int .i64 sq) ∧ w'.cell? ⟨b, off + k * 4 + 2, none⟩ = some (.int .i64 kd) ∧ w'.cell? ⟨b, off + k * 4 + 3, none⟩ = some (.string vl) ∧ w'.cell? ⟨b, off + (k - 1) * 4, none⟩ = some (.string ky') ∧ w'.cell? ⟨b, off + (k - 1) * 4 + 1, none⟩ = some (.int .i64 sq') ∧ w'.cell? ⟨b, off + (k - 1) * 4 + 2, none⟩ = some (.int .i64 kd') ∧ w'.cell? ⟨b, off + (k - 1) * 4 + 3, none⟩ = some (.string vl'))) (by kernel_rfl) ?_ (fun hHeld => ?_)
            · (try dsimp only)
              (simp [go_sem, *])
            refine wpAnyH_take (i := 0) (oi := { dst := some 20, op := Op.move (Operand.tmp 0), type := 26, pos := "l3_table.go:24", after := #[], guard := none }) (v := ?_) rfl (by kernel_rfl) (by kernel_rfl) (by kernel_rfl) (fun _ _ _ h => h) (Or.inl ⟨by rfl, ?_⟩) (by assumption) ?_
            rotate_left
            · intro w' hSw
              (try dsimp only at hSw)
              go_simp
              try with_reducible rfl
            simp only [Act.put, List.setIfInBounds_toArray, List.set_cons_zero, List.set_cons_succ]
            refine wpAnyH_take (i := 1) (oi := { dst := some 21, op := Op.move (Operand.tmp 3), type := 3, pos := "l3_table.go:24", after := #[], guard := none }) (v := ?_) rfl (by kernel_rfl) (by kernel_rfl) (by kernel_rfl) (fun _ _ _ h => h) (Or.inl ⟨by rfl, ?_⟩) (by assumption) ?_
            rotate_left
            · intro w' hSw
              (try dsimp only at hSw)
              go_simp
              try with_reducible rfl
            simp only [Act.put, List.setIfInBounds_toArray, List.set_cons_zero, List.set_cons_succ]
            refine wpAnyH_take (i := 2) (oi := { dst := some 22, op := Op.indexAddr 26 (Operand.tmp 20) (Operand.tmp 21), type := 0, pos := "l3_table.go:24", after := #[{ on := 0, ground := Ground.data }, { on := 1, ground := Ground.data }], guard := none }) (v := ?_) rfl (by kernel_rfl) (by kernel_rfl) (by kernel_rfl) (fun _ _ _ h => h) (Or.inl ⟨by rfl, ?_⟩) (by assumption) ?_
            rotate_left
            · intro w' hSw
              (try dsimp only at hSw)
              go_simp
              try with_reducible rfl
            simp only [Act.put, List.setIfInBounds_toArray, List.set_cons_zero, List.set_cons_succ]
            refine wpAnyH_take (i := 3) (oi := { dst := some 23, op := Op.load 50 (Operand.tmp 22), type := 50, pos := "l3_table.go:24", after := #[{ on := 2, ground := Ground.data }], guard := none }) (v := ?_) rfl (by kernel_rfl) (by kernel_rfl) (by kernel_rfl) (fun _ _ _ h => h) (Or.inl ⟨by rfl, ?_⟩) (by assumption) ?_
            rotate_left
            · intro w' hSw
              (try dsimp only at hSw)
              go_simp
              try with_reducible rfl
            simp only [Act.put, List.setIfInBounds_toArray, List.set_cons_zero, List.set_cons_succ]
            refine wpAnyH_ready (rs := [4]) (by kernel_rfl) (by simp) ?_
            refine AllReadyH.cons rfl (fun K hK => ?_) AllReadyH.nil
            go_simp
            refine (HO.out _).mono ?_
            rintro e w1 ⟨rfl, hb1⟩
            have k0 := (hb1.cell (p := ⟨b, _, none⟩) hbl).trans c0
            have k1 := (hb1.cell (p := ⟨b, _, none⟩) hbl).trans c1
            have k2 := (hb1.cell (p := ⟨b, _, none⟩) hbl).trans c2
            have k3 := (hb1.cell (p := ⟨b, _, none⟩) hbl).trans c3
            have l0 := (hb1.cell (p := ⟨b, _, none⟩) hbl).trans d0
            have l1 := (hb1.cell (p := ⟨b, _, none⟩) hbl).trans d1
            have l2 := (hb1.cell (p := ⟨b, _, none⟩) hbl).trans d2
            have l3 := (hb1.cell (p := ⟨b, _, none⟩) hbl).trans d3
            have hbl1 := Nat.lt_of_lt_of_le hbl hb1.size
            have HB1 := hdB (HB.out.drew.trans (hb1.mono HB.out.size))
            clear hb1
            refine hK.out _ _ ?_ (fun hHeld => ?_)
            · (try dsimp only)
              (simp [go_sem, *])
            clear hK K
            try simp only [Act.put, List.setIfInBounds_toArray, List.set_cons_zero, List.set_cons_succ]
            refine wpAnyH_take (i := 5) (oi := { dst := some 25, op := Op.unOp UnOp.not 4 (Operand.tmp 24), type := 4, pos := "l3_table.go:24", after := #[{ on := 4, ground := Ground.data }], guard := none }) (v := ?_) rfl (by kernel_rfl) (by kernel_rfl) (by kernel_rfl) (fun _ _ _ h => h) (Or.inl ⟨by rfl, ?_⟩) (by assumption) ?_
            rotate_left
            · intro w' hSw
              (try dsimp only at hSw)
              go_simp
              try with_reducible rfl
            simp only [Act.put, List.setIfInBounds_toArray, List.set_cons_zero, List.set_cons_succ]
            refine wpAnyH_take (i := 6) (oi := { dst := some 26, op := Op.move (Operand.tmp 25), type := 4, pos := "l3_table.go:24", after := #[{ on := 5, ground := Ground.data }, { on := 4, ground := Ground.chain }], guard := none }) (v := ?_) rfl (by kernel_rfl) (by kernel_rfl) (by kernel_rfl) (fun _ _ _ h => h) (Or.inl ⟨by rfl, ?_⟩) (by assumption) ?_
            rotate_left
            · intro w' hSw
              (try dsimp only at hSw)
              go_simp
              try with_reducible rfl
            simp only [Act.put, List.setIfInBounds_toArray, List.set_cons_zero, List.set_cons_succ]
            refine wpAnyH_take (i := 7) (oi := { dst := some 27, op := Op.move (Operand.tmp 3), type := 3, pos := "l3_table.go:24", after := #[{ on := 6, ground := Ground.guard }], guard := some (6, false) }) (v := ?_) rfl (by kernel_rfl) (by kernel_rfl) (by kernel_rfl) (fun _ _ _ h => h) (Or.inl ⟨by rfl, ?_⟩) (by assumption) ?_
            rotate_left
            · intro w' hSw
              (try dsimp only at hSw)
              go_simp
              try with_reducible rfl
            simp only [Act.put, List.setIfInBounds_toArray, List.set_cons_zero, List.set_cons_succ]
            refine wpAnyH_take (i := 8) (oi := { dst := some 28, op := Op.binOp BinOp.gtr 3 (Operand.tmp 27) (Operand.const (Value.int IntKind.i64 0)) 3, type := 4, pos := "l3_table.go:24", after := #[{ on := 7, ground := Ground.data }, { on := 6, ground := Ground.guard }], guard := some (6, false) }) (v := .bool true) rfl (by kernel_rfl) (by kernel_rfl) (by kernel_rfl) (fun _ _ _ h => h) (Or.inl ⟨by rfl, ?_⟩) (by assumption) ?_
            · intro w' hSw
              (try dsimp only at hSw)
              go_simp
              try omega
            simp only [Act.put, List.setIfInBounds_toArray, List.set_cons_zero, List.set_cons_succ]
            refine wpAnyH_take (i := 9) (oi := { dst := some 29, op := Op.move (Operand.tmp 28), type := 4, pos := "l3_table.go:24", after := #[{ on := 8, ground := Ground.data }, { on := 6, ground := Ground.chain }, { on := 6, ground := Ground.guard }], guard := some (6, false) }) (v := ?_) rfl (by kernel_rfl) (by kernel_rfl) (by kernel_rfl) (fun _ _ _ h => h) (Or.inl ⟨by rfl, ?_⟩) (by assumption) ?_
            rotate_left
            · intro w' hSw
              (try dsimp only at hSw)
              go_simp
              try with_reducible rfl
            simp only [Act.put, List.setIfInBounds_toArray, List.set_cons_zero, List.set_cons_succ]
            refine wpAnyH_take (i := 10) (oi := { dst := some 30, op := Op.move (Operand.tmp 0), type := 26, pos := "l3_table.go:24", after := #[{ on := 9, ground := Ground.guard }], guard := some (9, true) }) (v := ?_) rfl (by kernel_rfl) (by kernel_rfl) (by kernel_rfl) (fun _ _ _ h => h) (Or.inl ⟨by rfl, ?_⟩) (by assumption) ?_
            rotate_left
            · intro w' hSw
              (try dsimp only at hSw)
              go_simp
              try with_reducible rfl
            simp only [Act.put, List.setIfInBounds_toArray, List.set_cons_zero, List.set_cons_succ]
            refine wpAnyH_take (i := 11) (oi := { dst := some 31, op := Op.move (Operand.tmp 3), type := 3, pos := "l3_table.go:24", after := #[{ on := 9, ground := Ground.guard }], guard := some (9, true) }) (v := ?_) rfl (by kernel_rfl) (by kernel_rfl) (by kernel_rfl) (fun _ _ _ h => h) (Or.inl ⟨by rfl, ?_⟩) (by assumption) ?_
            rotate_left
            · intro w' hSw
              (try dsimp only at hSw)
              go_simp
              try with_reducible rfl
            simp only [Act.put, List.setIfInBounds_toArray, List.set_cons_zero, List.set_cons_succ]
            refine wpAnyH_take (i := 12) (oi := { dst := some 32, op := Op.binOp BinOp.sub 3 (Operand.tmp 31) (Operand.const (Value.int IntKind.i64 1)) 3, type := 3, pos := "l3_table.go:24", after := #[{ on := 11, ground := Ground.data }, { on := 9, ground := Ground.guard }], guard := some (9, true) }) (v := ?_) rfl (by kernel_rfl) (by kernel_rfl) (by kernel_rfl) (fun _ _ _ h => h) (Or.inl ⟨by rfl, ?_⟩) (by assumption) ?_
            rotate_left
            · intro w' hSw
              (try dsimp only at hSw)
              go_simp
              try with_reducible rfl
            simp only [Act.put, List.setIfInBounds_toArray, List.set_cons_zero, List.set_cons_succ]
            refine wpAnyH_take (i := 13) (oi := { dst := some 33, op := Op.indexAddr 26 (Operand.tmp 30) (Operand.tmp 32), type := 0, pos := "l3_table.go:24", after := #[{ on := 10, ground := Ground.data }, { on := 12, ground := Ground.data }, { on := 9, ground := Ground.guard }], guard := some (9, true) }) (v := ?_) rfl (by kernel_rfl) (by kernel_rfl) (by kernel_rfl) (fun _ _ _ h => h) (Or.inl ⟨by rfl, ?_⟩) (by assumption) ?_
            rotate_left
            · intro w' hSw
              (try dsimp only at hSw)
              go_simp
              try with_reducible rfl
            simp only [Act.put, List.setIfInBounds_toArray, List.set_cons_zero, List.set_cons_succ]
            refine wpAnyH_take (i := 14) (oi := { dst := some 34, op := Op.load 50 (Operand.tmp 33), type := 50, pos := "l3_table.go:24", after := #[{ on := 13, ground := Ground.data }, { on := 9, ground := Ground.guard }], guard := some (9, true) }) (v := ?_) rfl (by kernel_rfl) (by kernel_rfl) (by kernel_rfl) (fun _ _ _ h => h) (Or.inl ⟨by rfl, ?_⟩) (by assumption) ?_
            rotate_left
            · intro w' hSw
              (try dsimp only at hSw)
              go_simp
              try with_reducible rfl
            simp only [Act.put, List.setIfInBounds_toArray, List.set_cons_zero, List.set_cons_succ]
            refine wpAnyH_take (i := 15) (oi := { dst := some 35, op := Op.move (Operand.tmp 0), type := 26, pos := "l3_table.go:24", after := #[{ on := 9, ground := Ground.guard }], guard := some (9, true) }) (v := ?_) rfl (by kernel_rfl) (by kernel_rfl) (by kernel_rfl) (fun _ _ _ h => h) (Or.inl ⟨by rfl, ?_⟩) (by assumption) ?_
            rotate_left
            · intro w' hSw
              (try dsimp only at hSw)
              go_simp
              try with_reducible rfl
            simp only [Act.put, List.setIfInBounds_toArray, List.set_cons_zero, List.set_cons_succ]
            refine wpAnyH_take (i := 16) (oi := { dst := some 36, op := Op.move (Operand.tmp 3), type := 3, pos := "l3_table.go:24", after := #[{ on := 9, ground := Ground.guard }], guard := some (9, true) }) (v := ?_) rfl (by kernel_rfl) (by kernel_rfl) (by kernel_rfl) (fun _ _ _ h => h) (Or.inl ⟨by rfl, ?_⟩) (by assumption) ?_
            rotate_left
            · intro w' hSw
              (try dsimp only at hSw)
              go_simp
              try with_reducible rfl
            simp only [Act.put, List.setIfInBounds_toArray, List.set_cons_zero, List.set_cons_succ]
            refine wpAnyH_take (i := 17) (oi := { dst := some 37, op := Op.indexAddr 26 (Operand.tmp 35) (Operand.tmp 36), type := 0, pos := "l3_table.go:24", after := #[{ on := 15, ground := Ground.data }, { on := 16, ground := Ground.data }, { on := 9, ground := Ground.guard }], guard := some (9, true) }) (v := ?_) rfl (by kernel_rfl) (by kernel_rfl) (by kernel_rfl) (fun _ _ _ h => h) (Or.inl ⟨by rfl, ?_⟩) (by assumption) ?_
            rotate_left
            · intro w' hSw
              (try dsimp only at hSw)
              go_simp
              try with_reducible rfl
            simp only [Act.put, List.setIfInBounds_toArray, List.set_cons_zero, List.set_cons_succ]
            refine wpAnyH_take (i := 18) (oi := { dst := some 38, op := Op.load 50 (Operand.tmp 37), type := 50, pos := "l3_table.go:24", after := #[{ on := 17, ground := Ground.data }, { on := 9, ground := Ground.guard }], guard := some (9, true) }) (v := ?_) rfl (by kernel_rfl) (by kernel_rfl) (by kernel_rfl) (fun _ _ _ h => h) (Or.inl ⟨by rfl, ?_⟩) (by assumption) ?_
            rotate_left
            · intro w' hSw
              (try dsimp only at hSw)
              go_simp
              try with_reducible rfl
            simp only [Act.put, List.setIfInBounds_toArray, List.set_cons_zero, List.set_cons_succ]
            refine wpAnyH_ready (rs := [19]) (by kernel_rfl) (by simp) ?_
            refine AllReadyH.cons rfl (fun K hK => ?_) AllReadyH.nil
            go_simp
            refine (HP.out _).mono ?_
            rintro e w2 ⟨rfl, hb2⟩
            have m0 := (hb2.cell (p := ⟨b, _, none⟩) hbl1).trans k0
            have m1 := (hb2.cell (p := ⟨b, _, none⟩) hbl1).trans k1
            have m2 := (hb2.cell (p := ⟨b, _, none⟩) hbl1).trans k2
            have m3 := (hb2.cell (p := ⟨b, _, none⟩) hbl1).trans k3
            have n0 := (hb2.cell (p := ⟨b, _, none⟩) hbl1).trans l0
            have n1 := (hb2.cell (p := ⟨b, _, none⟩) hbl1).trans l1
            have n2 := (hb2.cell (p := ⟨b, _, none⟩) hbl1).trans l2
            have n3 := (hb2.cell (p := ⟨b, _, none⟩) hbl1).trans l3
            have HB2 := hdB (HB1.out.trans (hb2.mono HB1.out.size))
            clear hb2
            refine hK.out _ _ ?_ (fun hHeld => ?_)
            · (try dsimp only)
              (simp [go_sem, *])
            clear hK K
            try simp only [Act.put, List.setIfInBounds_toArray, List.set_cons_zero, List.set_cons_succ]
            refine wpAnyH_take (i := 20) (oi := { dst := some 40, op := Op.unOp UnOp.not 4 (Operand.tmp 39), type := 4, pos := "l3_table.go:24", after := #[{ on := 19, ground := Ground.data }, { on := 9, ground := Ground.guard }], guard := some (9, true) }) (v := ?_) rfl (by kernel_rfl) (by kernel_rfl) (by kernel_rfl) (fun _ _ _ h => h) (Or.inl ⟨by rfl, ?_⟩) (by assumption) ?_
            rotate_left
            · intro w' hSw
              (try dsimp only at hSw)
              go_simp
              try with_reducible rfl
            simp only [Act.put, List.setIfInBounds_toArray, List.set_cons_zero, List.set_cons_succ]
            refine wpAnyH_take (i := 21) (oi := { dst := some 41, op := Op.pick (Operand.tmp 29) (Operand.tmp 40) (Operand.const (Value.bool false)), type := 4, pos := "l3_table.go:24", after := #[{ on := 9, ground := Ground.data }, { on := 20, ground := Ground.data }, { on := 6, ground := Ground.guard }], guard := some (6, false) }) (v := ?_) rfl (by kernel_rfl) (by kernel_rfl) (by kernel_rfl) (fun _ _ _ h => h) (Or.inl ⟨by rfl, ?_⟩) (by assumption) ?_
            rotate_left
            · intro w' hSw
              (try dsimp only at hSw)
              go_simp
              try with_reducible rfl
            simp only [Act.put, List.setIfInBounds_toArray, List.set_cons_zero, List.set_cons_succ]
            refine wpAnyH_take (i := 22) (oi := { dst := some 42, op := Op.pick (Operand.tmp 26) (Operand.const (Value.bool true)) (Operand.tmp 41), type := 4, pos := "l3_table.go:24", after := #[{ on := 6, ground := Ground.data }, { on := 21, ground := Ground.data }], guard := none }) (v := ?_) rfl (by kernel_rfl) (by kernel_rfl) (by kernel_rfl) (fun _ _ _ h => h) (Or.inl ⟨by rfl, ?_⟩) (by assumption) ?_
            rotate_left
            · intro w' hSw
              (try dsimp only at hSw)
              go_simp
              try with_reducible rfl
            simp only [Act.put, List.setIfInBounds_toArray, List.set_cons_zero, List.set_cons_succ]
            refine wpAnyH_done (by kernel_rfl) ?_ _
            refine NoPanic.normal ?_
            go_wp2_with fail
            go_ret
            exact ⟨rfl, HB2.out⟩
          | true =>
            have hA : Hid (okTo xs (k + 1) = true) := by show _ = _; rw [HStep.out, hok, hdk, hbe]; rfl
            rw [hbe] at HP
            clear HStep HBk hk0 hdk
            generalize xs.getD k en0 = f at *
            generalize xs.getD (k - 1) en0 = f' at *
            obtain ⟨ky, sq, kd, vl⟩ := f
            obtain ⟨ky', sq', kd', vl'⟩ := f'
            dsimp only at *
            go_wp2_with fail
            refine wp_region_noPanic ?_
            refine wp_region_held_drew (S := (fun w' => w'.cell? ⟨b, off + k * 4, none⟩ = some (.string ky) ∧ w'.cell? ⟨b, off + k * 4 + 1, none⟩ = some (.int .i64 sq) ∧ w'.cell? ⟨b, off + k * 4 + 2, none⟩ = some (.int .i64 kd) ∧ w'.cell? ⟨b, off + k * 4 + 3, none⟩ = some (.string vl) ∧ w'.cell? ⟨b, off + (k - 1) * 4, none⟩ = some (.string ky') ∧ w'.cell? ⟨b, off + (k - 1) * 4 + 1, none⟩ = some (.int .i64 sq') ∧ w'.cell? ⟨b, off + (k - 1) * 4 + 2, none⟩ = some (.int .i64 kd') ∧ w'.cell? ⟨b, off + (k - 1) * 4 + 3, none⟩ = some (.string vl'))) (by kernel_rfl) ?_ (fun hHeld => ?_)
            · (try dsimp only)
              (simp [go_sem, *])
            refine wpAnyH_take (i := 0) (oi := { dst := some 20, op := Op.move (Operand.tmp 0), type := 26, pos := "l3_table.go:24", after := #[], guard := none }) (v := ?_) rfl (by kernel_rfl) (by kernel_rfl) (by kernel_rfl) (fun _ _ _ h => h) (Or.inl ⟨by rfl, ?_⟩) (by assumption) ?_
            rotate_left
            · intro w' hSw
              (try dsimp only at hSw)
              go_simp
              try with_reducible rfl
            simp only [Act.put, List.setIfInBounds_toArray, List.set_cons_zero, List.set_cons_succ]
            refine wpAnyH_take (i := 1) (oi := { dst := some 21, op := Op.move (Operand.tmp 3), type := 3, pos := "l3_table.go:24", after := #[], guard := none }) (v := ?_) rfl (by kernel_rfl) (by kernel_rfl) (by kernel_rfl) (fun _ _ _ h => h) (Or.inl ⟨by rfl, ?_⟩) (by assumption) ?_
            rotate_left
            · intro w' hSw
              (try dsimp only at hSw)
              go_simp
              try with_reducible rfl
            simp only [Act.put, List.setIfInBounds_toArray, List.set_cons_zero, List.set_cons_succ]
            refine wpAnyH_take (i := 2) (oi := { dst := some 22, op := Op.indexAddr 26 (Operand.tmp 20) (Operand.tmp 21), type := 0, pos := "l3_table.go:24", after := #[{ on := 0, ground := Ground.data }, { on := 1, ground := Ground.data }], guard := none }) (v := ?_) rfl (by kernel_rfl) (by kernel_rfl) (by kernel_rfl) (fun _ _ _ h => h) (Or.inl ⟨by rfl, ?_⟩) (by assumption) ?_
            rotate_left
            · intro w' hSw
              (try dsimp only at hSw)
              go_simp
              try with_reducible rfl
            simp only [Act.put, List.setIfInBounds_toArray, List.set_cons_zero, List.set_cons_succ]
            refine wpAnyH_take (i := 3) (oi := { dst := some 23, op := Op.load 50 (Operand.tmp 22), type := 50, pos := "l3_table.go:24", after := #[{ on := 2, ground := Ground.data }], guard := none }) (v := ?_) rfl (by kernel_rfl) (by kernel_rfl) (by kernel_rfl) (fun _ _ _ h => h) (Or.inl ⟨by rfl, ?_⟩) (by assumption) ?_
            rotate_left
            · intro w' hSw
              (try dsimp only at hSw)
              go_simp
              try with_reducible rfl
            simp only [Act.put, List.setIfInBounds_toArray, List.set_cons_zero, List.set_cons_succ]
            refine wpAnyH_ready (rs := [4]) (by kernel_rfl) (by simp) ?_
            refine AllReadyH.cons rfl (fun K hK => ?_) AllReadyH.nil
            go_simp
            refine (HO.out _).mono ?_
            rintro e w1 ⟨rfl, hb1⟩
            have k0 := (hb1.cell (p := ⟨b, _, none⟩) hbl).trans c0
            have k1 := (hb1.cell (p := ⟨b, _, none⟩) hbl).trans c1
            have k2 := (hb1.cell (p := ⟨b, _, none⟩) hbl).trans c2
            have k3 := (hb1.cell (p := ⟨b, _, none⟩) hbl).trans c3
            have l0 := (hb1.cell (p := ⟨b, _, none⟩) hbl).trans d0
            have l1 := (hb1.cell (p := ⟨b, _, none⟩) hbl).trans d1
            have l2 := (hb1.cell (p := ⟨b, _, none⟩) hbl).trans d2
            have l3 := (hb1.cell (p := ⟨b, _, none⟩) hbl).trans d3
            have hbl1 := Nat.lt_of_lt_of_le hbl hb1.size
            have HB1 := hdB (HB.out.drew.trans (hb1.mono HB.out.size))
            clear hb1
            refine hK.out _ _ ?_ (fun hHeld => ?_)
            · (try dsimp only)
              (simp [go_sem, *])
            clear hK K
            try simp only [Act.put, List.setIfInBounds_toArray, List.set_cons_zero, List.set_cons_succ]
            refine wpAnyH_take (i := 5) (oi := { dst := some 25, op := Op.unOp UnOp.not 4 (Operand.tmp 24), type := 4, pos := "l3_table.go:24", after := #[{ on := 4, ground := Ground.data }], guard := none }) (v := ?_) rfl (by kernel_rfl) (by kernel_rfl) (by kernel_rfl) (fun _ _ _ h => h) (Or.inl ⟨by rfl, ?_⟩) (by assumption) ?_
            rotate_left
            · intro w' hSw
              (try dsimp only at hSw)
              go_simp
              try with_reducible rfl
            simp only [Act.put, List.setIfInBounds_toArray, List.set_cons_zero, List.set_cons_succ]
            refine wpAnyH_take (i := 6) (oi := { dst := some 26, op := Op.move (Operand.tmp 25), type := 4, pos := "l3_table.go:24", after := #[{ on := 5, ground := Ground.data }, { on := 4, ground := Ground.chain }], guard := none }) (v := ?_) rfl (by kernel_rfl) (by kernel_rfl) (by kernel_rfl) (fun _ _ _ h => h) (Or.inl ⟨by rfl, ?_⟩) (by assumption) ?_
            rotate_left
            · intro w' hSw
              (try dsimp only at hSw)
              go_simp
              try with_reducible rfl
            simp only [Act.put, List.setIfInBounds_toArray, List.set_cons_zero, List.set_cons_succ]
            refine wpAnyH_take (i := 7) (oi := { dst := some 27, op := Op.move (Operand.tmp 3), type := 3, pos := "l3_table.go:24", after := #[{ on := 6, ground := Ground.guard }], guard := some (6, false) }) (v := ?_) rfl (by kernel_rfl) (by kernel_rfl) (by kernel_rfl) (fun _ _ _ h => h) (Or.inl ⟨by rfl, ?_⟩) (by assumption) ?_
            rotate_left
            · intro w' hSw
              (try dsimp only at hSw)
              go_simp
              try with_reducible rfl
            simp only [Act.put, List.setIfInBounds_toArray, List.set_cons_zero, List.set_cons_succ]
            refine wpAnyH_take (i := 8) (oi := { dst := some 28, op := Op.binOp BinOp.gtr 3 (Operand.tmp 27) (Operand.const (Value.int IntKind.i64 0)) 3, type := 4, pos := "l3_table.go:24", after := #[{ on := 7, ground := Ground.data }, { on := 6, ground := Ground.guard }], guard := some (6, false) }) (v := .bool true) rfl (by kernel_rfl) (by kernel_rfl) (by kernel_rfl) (fun _ _ _ h => h) (Or.inl ⟨by rfl, ?_⟩) (by assumption) ?_
            · intro w' hSw
              (try dsimp only at hSw)
              go_simp
              try omega
            simp only [Act.put, List.setIfInBounds_toArray, List.set_cons_zero, List.set_cons_succ]
            refine wpAnyH_take (i := 9) (oi := { dst := some 29, op := Op.move (Operand.tmp 28), type := 4, pos := "l3_table.go:24", after := #[{ on := 8, ground := Ground.data }, { on := 6, ground := Ground.chain }, { on := 6, ground := Ground.guard }], guard := some (6, false) }) (v := ?_) rfl (by kernel_rfl) (by kernel_rfl) (by kernel_rfl) (fun _ _ _ h => h) (Or.inl ⟨by rfl, ?_⟩) (by assumption) ?_
            rotate_left
            · intro w' hSw
              (try dsimp only at hSw)
              go_simp
              try with_reducible rfl
            simp only [Act.put, List.setIfInBounds_toArray, List.set_cons_zero, List.set_cons_succ]
            refine wpAnyH_take (i := 10) (oi := { dst := some 30, op := Op.move (Operand.tmp 0), type := 26, pos := "l3_table.go:24", after := #[{ on := 9, ground := Ground.guard }], guard := some (9, true) }) (v := ?_) rfl (by kernel_rfl) (by kernel_rfl) (by kernel_rfl) (fun _ _ _ h => h) (Or.inl ⟨by rfl, ?_⟩) (by assumption) ?_
            rotate_left
            · intro w' hSw
              (try dsimp only at hSw)
              go_simp
              try with_reducible rfl
            simp only [Act.put, List.setIfInBounds_toArray, List.set_cons_zero, List.set_cons_succ]
            refine wpAnyH_take (i := 11) (oi := { dst := some 31, op := Op.move (Operand.tmp 3), type := 3, pos := "l3_table.go:24", after := #[{ on := 9, ground := Ground.guard }], guard := some (9, true) }) (v := ?_) rfl (by kernel_rfl) (by kernel_rfl) (by kernel_rfl) (fun _ _ _ h => h) (Or.inl ⟨by rfl, ?_⟩) (by assumption) ?_
            rotate_left
            · intro w' hSw
              (try dsimp only at hSw)
              go_simp
              try with_reducible rfl
            simp only [Act.put, List.setIfInBounds_toArray, List.set_cons_zero, List.set_cons_succ]
            refine wpAnyH_take (i := 12) (oi := { dst := some 32, op := Op.binOp BinOp.sub 3 (Operand.tmp 31) (Operand.const (Value.int IntKind.i64 1)) 3, type := 3, pos := "l3_table.go:24", after := #[{ on := 11, ground := Ground.data }, { on := 9, ground := Ground.guard }], guard := some (9, true) }) (v := ?_) rfl (by kernel_rfl) (by kernel_rfl) (by kernel_rfl) (fun _ _ _ h => h) (Or.inl ⟨by rfl, ?_⟩) (by assumption) ?_
            rotate_left
            · intro w' hSw
              (try dsimp only at hSw)
              go_simp
              try with_reducible rfl
            simp only [Act.put, List.setIfInBounds_toArray, List.set_cons_zero, List.set_cons_succ]
            refine wpAnyH_take (i := 13) (oi := { dst := some 33, op := Op.indexAddr 26 (Operand.tmp 30) (Operand.tmp 32), type := 0, pos := "l3_table.go:24", after := #[{ on := 10, ground := Ground.data }, { on := 12, ground := Ground.data }, { on := 9, ground := Ground.guard }], guard := some (9, true) }) (v := ?_) rfl (by kernel_rfl) (by kernel_rfl) (by kernel_rfl) (fun _ _ _ h => h) (Or.inl ⟨by rfl, ?_⟩) (by assumption) ?_
            rotate_left
            · intro w' hSw
              (try dsimp only at hSw)
              go_simp
              try with_reducible rfl
            simp only [Act.put, List.setIfInBounds_toArray, List.set_cons_zero, List.set_cons_succ]
            refine wpAnyH_take (i := 14) (oi := { dst := some 34, op := Op.load 50 (Operand.tmp 33), type := 50, pos := "l3_table.go:24", after := #[{ on := 13, ground := Ground.data }, { on := 9, ground := Ground.guard }], guard := some (9, true) }) (v := ?_) rfl (by kernel_rfl) (by kernel_rfl) (by kernel_rfl) (fun _ _ _ h => h) (Or.inl ⟨by rfl, ?_⟩) (by assumption) ?_
            rotate_left
            · intro w' hSw
              (try dsimp only at hSw)
              go_simp
              try with_reducible rfl
            simp only [Act.put, List.setIfInBounds_toArray, List.set_cons_zero, List.set_cons_succ]
            refine wpAnyH_take (i := 15) (oi := { dst := some 35, op := Op.move (Operand.tmp 0), type := 26, pos := "l3_table.go:24", after := #[{ on := 9, ground := Ground.guard }], guard := some (9, true) }) (v := ?_) rfl (by kernel_rfl) (by kernel_rfl) (by kernel_rfl) (fun _ _ _ h => h) (Or.inl ⟨by rfl, ?_⟩) (by assumption) ?_
            rotate_left
            · intro w' hSw
              (try dsimp only at hSw)
              go_simp
              try with_reducible rfl
            simp only [Act.put, List.setIfInBounds_toArray, List.set_cons_zero, List.set_cons_succ]
            refine wpAnyH_take (i := 16) (oi := { dst := some 36, op := Op.move (Operand.tmp 3), type := 3, pos := "l3_table.go:24", after := #[{ on := 9, ground := Ground.guard }], guard := some (9, true) }) (v := ?_) rfl (by kernel_rfl) (by kernel_rfl) (by kernel_rfl) (fun _ _ _ h => h) (Or.inl ⟨by rfl, ?_⟩) (by assumption) ?_
            rotate_left
            · intro w' hSw
              (try dsimp only at hSw)
              go_simp
              try with_reducible rfl
            simp only [Act.put, List.setIfInBounds_toArray, List.set_cons_zero, List.set_cons_succ]
            refine wpAnyH_take (i := 17) (oi := { dst := some 37, op := Op.indexAddr 26 (Operand.tmp 35) (Operand.tmp 36), type := 0, pos := "l3_table.go:24", after := #[{ on := 15, ground := Ground.data }, { on := 16, ground := Ground.data }, { on := 9, ground := Ground.guard }], guard := some (9, true) }) (v := ?_) rfl (by kernel_rfl) (by kernel_rfl) (by kernel_rfl) (fun _ _ _ h => h) (Or.inl ⟨by rfl, ?_⟩) (by assumption) ?_
            rotate_left
            · intro w' hSw
              (try dsimp only at hSw)
              go_simp
              try with_reducible rfl
            simp only [Act.put, List.setIfInBounds_toArray, List.set_cons_zero, List.set_cons_succ]
            refine wpAnyH_take (i := 18) (oi := { dst := some 38, op := Op.load 50 (Operand.tmp 37), type := 50, pos := "l3_table.go:24", after := #[{ on := 17, ground := Ground.data }, { on := 9, ground := Ground.guard }], guard := some (9, true) }) (v := ?_) rfl (by kernel_rfl) (by kernel_rfl) (by kernel_rfl) (fun _ _ _ h => h) (Or.inl ⟨by rfl, ?_⟩) (by assumption) ?_
            rotate_left
            · intro w' hSw
              (try dsimp only at hSw)
              go_simp
              try with_reducible rfl
            simp only [Act.put, List.setIfInBounds_toArray, List.set_cons_zero, List.set_cons_succ]
            refine wpAnyH_ready (rs := [19]) (by kernel_rfl) (by simp) ?_
            refine AllReadyH.cons rfl (fun K hK => ?_) AllReadyH.nil
            go_simp
            refine (HP.out _).mono ?_
            rintro e w2 ⟨rfl, hb2⟩
            have m0 := (hb2.cell (p := ⟨b, _, none⟩) hbl1).trans k0
            have m1 := (hb2.cell (p := ⟨b, _, none⟩) hbl1).trans k1
            have m2 := (hb2.cell (p := ⟨b, _, none⟩) hbl1).trans k2
            have m3 := (hb2.cell (p := ⟨b, _, none⟩) hbl1).trans k3
            have n0 := (hb2.cell (p := ⟨b, _, none⟩) hbl1).trans l0
            have n1 := (hb2.cell (p := ⟨b, _, none⟩) hbl1).trans l1
            have n2 := (hb2.cell (p := ⟨b, _, none⟩) hbl1).trans l2
            have n3 := (hb2.cell (p := ⟨b, _, none⟩) hbl1).trans l3
            have HB2 := hdB (HB1.out.trans (hb2.mono HB1.out.size))
            clear hb2
            refine hK.out _ _ ?_ (fun hHeld => ?_)
            · (try dsimp only)
              (simp [go_sem, *])
            clear hK K
            try simp only [Act.put, List.setIfInBounds_toArray, List.set_cons_zero, List.set_cons_succ]
            refine wpAnyH_take (i := 20) (oi := { dst := some 40, op := Op.unOp UnOp.not 4 (Operand.tmp 39), type := 4, pos := "l3_table.go:24", after := #[{ on := 19, ground := Ground.data }, { on := 9, ground := Ground.guard }], guard := some (9, true) }) (v := ?_) rfl (by kernel_rfl) (by kernel_rfl) (by kernel_rfl) (fun _ _ _ h => h) (Or.inl ⟨by rfl, ?_⟩) (by assumption) ?_
            rotate_left
            · intro w' hSw
              (try dsimp only at hSw)
              go_simp
              try with_reducible rfl
            simp only [Act.put, List.setIfInBounds_toArray, List.set_cons_zero, List.set_cons_succ]
            refine wpAnyH_take (i := 21) (oi := { dst := some 41, op := Op.pick (Operand.tmp 29) (Operand.tmp 40) (Operand.const (Value.bool false)), type := 4, pos := "l3_table.go:24", after := #[{ on := 9, ground := Ground.data }, { on := 20, ground := Ground.data }, { on := 6, ground := Ground.guard }], guard := some (6, false) }) (v := ?_) rfl (by kernel_rfl) (by kernel_rfl) (by kernel_rfl) (fun _ _ _ h => h) (Or.inl ⟨by rfl, ?_⟩) (by assumption) ?_
            rotate_left
            · intro w' hSw
              (try dsimp only at hSw)
              go_simp
              try with_reducible rfl
            simp only [Act.put, List.setIfInBounds_toArray, List.set_cons_zero, List.set_cons_succ]
            refine wpAnyH_take (i := 22) (oi := { dst := some 42, op := Op.pick (Operand.tmp 26) (Operand.const (Value.bool true)) (Operand.tmp 41), type := 4, pos := "l3_table.go:24", after := #[{ on := 6, ground := Ground.data }, { on := 21, ground := Ground.data }], guard := none }) (v := ?_) rfl (by kernel_rfl) (by kernel_rfl) (by kernel_rfl) (fun _ _ _ h => h) (Or.inl ⟨by rfl, ?_⟩) (by assumption) ?_
            rotate_left
            · intro w' hSw
              (try dsimp only at hSw)
              go_simp
              try with_reducible rfl
            simp only [Act.put, List.setIfInBounds_toArray, List.set_cons_zero, List.set_cons_succ]
            refine wpAnyH_done (by kernel_rfl) ?_ _
            refine NoPanic.normal ?_
            go_wp2_with fail
            exact ⟨⟨k + 1, by simp, by omega, hA, HB2.out⟩, by simp only [intOf]; omega⟩
    · obtain rfl : k = xs.length := by omega
      have HT0 := hdB (HGood.out HAll.out)
      have hval := ((okTo_all xs).1 HAll.out).1
      clear HBad HGood HAll hlt
      have HL1 := hdB (fun k => tab_len hval k)
      have HL2 := hdB (fun k => tab_idx hval k)
      have ho1 := (owns_lit wr w.heap.size hbs).alloc (.cells #[] 5)
      have ho2 := owns_lit (wr.alloc (.cells #[] 5)) w.heap.size (by simp; omega)
      rw [show (wr.alloc (.cells #[] 5)).heap.size = wr.heap.size + 1 by simp] at ho2
      have hb2 : Below w.heap.size w ((wr.alloc (.cells #[] 5)).alloc (.cells #[] 5)) := (hb.alloc hbs _).alloc (by simp; omega) _
      go_wp2_with fail
      go_loopw [4, 5, 6, 7] (fun v1 v2 bl fr W => ∃ k f : Nat, fr = .int .i64 f ∧ bl = .int .i64 k ∧ Hid (f = 8 * k) ∧ k ≤ nbE xs.length ∧ W.ownsRow w.heap.size 5 1 v1 (tab xs k).1.length (bc (tab xs k).1) ∧ W.ownsRow w.heap.size 5 1 v2 (tab xs k).2.length (bc (tab xs k).2) ∧ Hid (∀ g, v1.ownBlock = some g → v2.ownBlock ≠ some g) ∧ Below w.heap.size w W) (fun _ _ _ fr _ => xs.length + 8 - (intOf fr).toNat)
      case atStart => exact ⟨0, 0, rfl, rfl, rfl, Nat.zero_le _, ho1, ho2, fun g h1 h2 => by simp [Value.ownBlock] at h1 h2; omega, hb2⟩
      case round =>
        clear ho1 ho2 hb2 hb hbs
        obtain ⟨k, f, rfl, rfl, HF, hk, hown1, hown2, HNe, hb⟩ := hrel
        obtain ⟨a1, cap1, rfl⟩ := owns_sliceB hown1
        obtain ⟨a2, cap2, rfl⟩ := owns_sliceB hown2
        have hbs := hb.size
        have hf8 := HF.out
        have hnb : nbE xs.length ≤ 37500 := by unfold nbE; omega
        have hS := HL1.out k
        have hI := HL2.out k
        by_cases hlt : f < xs.length
        · obtain ⟨b, off, rfl, hbl, c0, -, -, -⟩ := (hx.below hb).at hlt
          have i1 : (f : Int) < xs.length := by omega
          have hbB : b < w.heap.size := by obtain ⟨b', off', e, h, _⟩ := hx.at hlt; cases e; exact h
          by_cases hA : xs.length < f + 8
          · have j1 : (xs.length : Int) < (f : Int) + 8 := by omega
            have j2 : (1 : Int) ≤ (xs.length : Int) := by omega
            have j3 : ((xs.length : Int) - 1).toNat = xs.length - 1 := by omega
            have j4 : IntKind.i64.wrap ((xs.length : Int) - f) = (xs.length : Int) - f := by rw [IntKind.wrap_i64]; omega
            have j5 : (f : Int) ≤ (xs.length : Int) := by omega
            have j7 : (0 : Int) ≤ (xs.length : Int) - 1 := by omega
            have j8 : (xs.length : Int) - 1 < xs.length := by omega
            have j9 : IntKind.i64.wrap ((xs.length : Int) - 1) = (xs.length : Int) - 1 := by rw [IntKind.wrap_i64]; omega
            have j6 : (xs.length : Int) ≤ cap := by omega
            have hm : (subE xs k).length = xs.length - f := by rw [subE_len]; omega
            have j13 : IntKind.i64.wrap (((tab xs k).1.length : Int) / 64) = ((tab xs k).1.length : Int) / 64 := by rw [IntKind.wrap_i64]; omega
            obtain ⟨b', off', e, -, d0, -, -, -⟩ := (hx.below hb).at (i := xs.length - 1) (by omega)
            cases e
            have hy0 : ((subE xs k).getD 0 en0).ky = (xs.getD f en0).ky := by rw [subE_at xs k 0 (by omega) (by omega), show 8 * k + 0 = f by omega]
            have hy1 : ((subE xs k).getD ((subE xs k).length - 1) en0).ky = (xs.getD (xs.length - 1) en0).ky := by rw [hm, subE_at xs k _ (by omega) (by omega), show 8 * k + ((xs.length - f) - 1) = xs.length - 1 by omega]
            have z0 := subE_key hval k 0
            have z1 := subE_key hval k ((subE xs k).length - 1)
            rw [hy0] at z0
            rw [hy1] at z1
            have HIX : Hid ((tab xs (k + 1)).2 = (tab xs k).2 ++ (vtext ((tab xs k).1.length / 64 : Nat) ++ vtext ((xs.length : Int) - f) ++ ⟨(kyB (xs.getD f en0).ky).toArray⟩ ++ ⟨(kyB (xs.getD (xs.length - 1) en0).ky).toArray⟩).data.toList) := by
              show _ = _
              rw [show (tab xs (k + 1)).2 = (tab xs k).2 ++ (vb ((tab xs k).1.length / 64) ++ vb (subE xs k).length ++ kyB ((subE xs k).getD 0 en0).ky ++ kyB ((subE xs k).getD ((subE xs k).length - 1) en0).ky) from rfl, hy0, hy1, hm, appL, appL, appL, vtext_in _ (by omega) (by omega), vtext_in _ (by omega) (by omega), Int.toNat_natCast, show (((xs.length : Int) - f) : Int).toNat = (xs.length - f) by omega]
            have s1 : (vtext ((tab xs k).1.length / 64 : Nat)).size ≤ 8 := vtext_size _
            have s2 : (vtext ((xs.length : Int) - f)).size ≤ 8 := vtext_size _
            have s3 : (⟨(kyB (xs.getD f en0).ky).toArray⟩ : ByteArray).size ≤ 1008 := by show (kyB (xs.getD f en0).ky).toArray.size ≤ _; rw [List.size_toArray]; exact kyB_lenB z0
            have s4 : (⟨(kyB (xs.getD (xs.length - 1) en0).ky).toArray⟩ : ByteArray).size ≤ 1008 := by show (kyB (xs.getD (xs.length - 1) en0).ky).toArray.size ≤ _; rw [List.size_toArray]; exact kyB_lenB z1
            have HP1 := hdB (specPut_any ((tab xs k).1.length / 64 : Nat))
            have HP2 := hdB (specPut_any ((xs.length : Int) - f))
            have HP3 := hdB (fun w => l3Keyed_any (xs.getD f en0).ky w (by omega))
            have HP4 := hdB (fun w => l3Keyed_any (xs.getD (xs.length - 1) en0).ky w (by omega))
            have q64 : (((tab xs k).1.length / 64 : Nat) : Int) = ((tab xs k).1.length : Int) / 64 := by omega
            rw [q64] at HP1 HIX s1
            generalize vtext (((tab xs k).1.length : Int) / 64) = t1 at *
            generalize vtext ((xs.length : Int) - f) = t2 at *
            generalize (⟨(kyB (xs.getD f en0).ky).toArray⟩ : ByteArray) = t3 at *
            generalize (⟨(kyB (xs.getD (xs.length - 1) en0).ky).toArray⟩ : ByteArray) = t4 at *
            have g1 : ¬ 9223372036854775807 < t1.size + t2.size := by omega
            have g2 : ¬ 9223372036854775807 < t1.size + t2.size + t3.size := by omega
            have g3 : ¬ 9223372036854775807 < t1.size + t2.size + t3.size + t4.size := by omega
            have HZ : Hid ((t1 ++ t2 ++ t3 ++ t4).size ≤ 2032) := by show _ ≤ _; rw [appS, appS, appS]; omega
            have HB := hdB hb
            have HR1 := hdB hown1
            have HR2 := hdB hown2
            generalize (xs.getD f en0).ky = y0 at *
            generalize (xs.getD (xs.length - 1) en0).ky = y1 at *
            have HM := hdB hm
            clear hown1 hown2 hb hy0 hy1 q64 hf8 hm
            go_wp2_with fail
            refine wp_region_noPanic ?_
            refine wp_region_held_drew (S := (fun w' => w'.cell? ⟨b, off + f * 4, none⟩ = some (.string y0) ∧ w'.cell? ⟨b, off + (xs.length - 1) * 4, none⟩ = some (.string y1))) (by kernel_rfl) ?_ (fun hHeld => ?_)
            · (try dsimp only)
              (simp [go_sem, *])
            refine wpAnyH_take (i := 0) (oi := { dst := some 59, op := Op.move (Operand.tmp 5), type := 111, pos := "l3_table.go:36", after := #[], guard := none }) (v := ?_) rfl (by kernel_rfl) (by kernel_rfl) (by kernel_rfl) (fun _ _ _ h => h) (Or.inl ⟨by rfl, ?_⟩) (by assumption) ?_
            rotate_left
            · intro w' hSw
              (try dsimp only at hSw)
              go_simp
              try with_reducible rfl
            simp only [Act.put, List.setIfInBounds_toArray, List.set_cons_zero, List.set_cons_succ]
            refine wpAnyH_take (i := 1) (oi := { dst := some 60, op := Op.move (Operand.tmp 4), type := 111, pos := "l3_table.go:36", after := #[], guard := none }) (v := ?_) rfl (by kernel_rfl) (by kernel_rfl) (by kernel_rfl) (fun _ _ _ h => h) (Or.inl ⟨by rfl, ?_⟩) (by assumption) ?_
            rotate_left
            · intro w' hSw
              (try dsimp only at hSw)
              go_simp
              try with_reducible rfl
            simp only [Act.put, List.setIfInBounds_toArray, List.set_cons_zero, List.set_cons_succ]
            refine wpAnyH_take (i := 2) (oi := { dst := some 61, op := Op.call { callee := Callee.builtin Builtin.len, args := #[Operand.tmp 60], argTypes := #[111] }, type := 3, pos := "l3_table.go:36", after := #[{ on := 1, ground := Ground.data }], guard := none }) (v := ?_) rfl (by kernel_rfl) (by kernel_rfl) (by kernel_rfl) (fun _ _ _ h => h) (Or.inl ⟨by rfl, ?_⟩) (by assumption) ?_
            rotate_left
            · intro w' hSw
              (try dsimp only at hSw)
              go_simp
              try with_reducible rfl
            simp only [Act.put, List.setIfInBounds_toArray, List.set_cons_zero, List.set_cons_succ]
            refine wpAnyH_take (i := 3) (oi := { dst := some 62, op := Op.binOp BinOp.quo 3 (Operand.tmp 61) (Operand.const (Value.int IntKind.i64 64)) 3, type := 3, pos := "l3_table.go:36", after := #[{ on := 2, ground := Ground.data }], guard := none }) (v := .int .i64 (((tab xs k).1.length : Int) / 64)) rfl (by kernel_rfl) (by kernel_rfl) (by kernel_rfl) (fun _ _ _ h => h) (Or.inl ⟨by rfl, ?_⟩) (by assumption) ?_
            · intro w' hSw
              (try dsimp only at hSw)
              go_simp
              try omega
            simp only [Act.put, List.setIfInBounds_toArray, List.set_cons_zero, List.set_cons_succ]
            refine wpAnyH_take (i := 5) (oi := { dst := some 64, op := Op.move (Operand.tmp 8), type := 3, pos := "l3_table.go:36", after := #[], guard := none }) (v := ?_) rfl (by kernel_rfl) (by kernel_rfl) (by kernel_rfl) (fun _ _ _ h => h) (Or.inl ⟨by rfl, ?_⟩) (by assumption) ?_
            rotate_left
            · intro w' hSw
              (try dsimp only at hSw)
              go_simp
              try with_reducible rfl
            simp only [Act.put, List.setIfInBounds_toArray, List.set_cons_zero, List.set_cons_succ]
            refine wpAnyH_take (i := 6) (oi := { dst := some 65, op := Op.move (Operand.tmp 7), type := 3, pos := "l3_table.go:36", after := #[], guard := none }) (v := ?_) rfl (by kernel_rfl) (by kernel_rfl) (by kernel_rfl) (fun _ _ _ h => h) (Or.inl ⟨by rfl, ?_⟩) (by assumption) ?_
            rotate_left
            · intro w' hSw
              (try dsimp only at hSw)
              go_simp
              try with_reducible rfl
            simp only [Act.put, List.setIfInBounds_toArray, List.set_cons_zero, List.set_cons_succ]
            refine wpAnyH_take (i := 7) (oi := { dst := some 66, op := Op.binOp BinOp.sub 3 (Operand.tmp 64) (Operand.tmp 65) 3, type := 3, pos := "l3_table.go:36", after := #[{ on := 5, ground := Ground.data }, { on := 6, ground := Ground.data }], guard := none }) (v := .int .i64 ((xs.length : Int) - f)) rfl (by kernel_rfl) (by kernel_rfl) (by kernel_rfl) (fun _ _ _ h => h) (Or.inl ⟨by rfl, ?_⟩) (by assumption) ?_
            · intro w' hSw
              (try dsimp only at hSw)
              go_simp
              try omega
            simp only [Act.put, List.setIfInBounds_toArray, List.set_cons_zero, List.set_cons_succ]
            refine wpAnyH_take (i := 10) (oi := { dst := some 69, op := Op.move (Operand.tmp 0), type := 26, pos := "l3_table.go:36", after := #[], guard := none }) (v := ?_) rfl (by kernel_rfl) (by kernel_rfl) (by kernel_rfl) (fun _ _ _ h => h) (Or.inl ⟨by rfl, ?_⟩) (by assumption) ?_
            rotate_left
            · intro w' hSw
              (try dsimp only at hSw)
              go_simp
              try with_reducible rfl
            simp only [Act.put, List.setIfInBounds_toArray, List.set_cons_zero, List.set_cons_succ]
            refine wpAnyH_take (i := 11) (oi := { dst := some 70, op := Op.move (Operand.tmp 7), type := 3, pos := "l3_table.go:36", after := #[], guard := none }) (v := ?_) rfl (by kernel_rfl) (by kernel_rfl) (by kernel_rfl) (fun _ _ _ h => h) (Or.inl ⟨by rfl, ?_⟩) (by assumption) ?_
            rotate_left
            · intro w' hSw
              (try dsimp only at hSw)
              go_simp
              try with_reducible rfl
            simp only [Act.put, List.setIfInBounds_toArray, List.set_cons_zero, List.set_cons_succ]
            refine wpAnyH_take (i := 12) (oi := { dst := some 71, op := Op.indexAddr 26 (Operand.tmp 69) (Operand.tmp 70), type := 0, pos := "l3_table.go:36", after := #[{ on := 10, ground := Ground.data }, { on := 11, ground := Ground.data }], guard := none }) (v := ?_) rfl (by kernel_rfl) (by kernel_rfl) (by kernel_rfl) (fun _ _ _ h => h) (Or.inl ⟨by rfl, ?_⟩) (by assumption) ?_
            rotate_left
            · intro w' hSw
              (try dsimp only at hSw)
              go_simp
              try with_reducible rfl
            simp only [Act.put, List.setIfInBounds_toArray, List.set_cons_zero, List.set_cons_succ]
            refine wpAnyH_take (i := 13) (oi := { dst := some 72, op := Op.fieldAddr 50 (Operand.tmp 71) 0, type := 0, pos := "l3_table.go:36", after := #[{ on := 12, ground := Ground.data }], guard := none }) (v := ?_) rfl (by kernel_rfl) (by kernel_rfl) (by kernel_rfl) (fun _ _ _ h => h) (Or.inl ⟨by rfl, ?_⟩) (by assumption) ?_
            rotate_left
            · intro w' hSw
              (try dsimp only at hSw)
              go_simp
              try with_reducible rfl
            simp only [Act.put, List.setIfInBounds_toArray, List.set_cons_zero, List.set_cons_succ]
            refine wpAnyH_take (i := 14) (oi := { dst := some 73, op := Op.load 9 (Operand.tmp 72), type := 9, pos := "l3_table.go:36", after := #[{ on := 13, ground := Ground.data }], guard := none }) (v := ?_) rfl (by kernel_rfl) (by kernel_rfl) (by kernel_rfl) (fun _ _ _ h => h) (Or.inl ⟨by rfl, ?_⟩) (by assumption) ?_
            rotate_left
            · intro w' hSw
              (try dsimp only at hSw)
              go_simp
              try with_reducible rfl
            simp only [Act.put, List.setIfInBounds_toArray, List.set_cons_zero, List.set_cons_succ]
            refine wpAnyH_take (i := 17) (oi := { dst := some 76, op := Op.move (Operand.tmp 0), type := 26, pos := "l3_table.go:36", after := #[], guard := none }) (v := ?_) rfl (by kernel_rfl) (by kernel_rfl) (by kernel_rfl) (fun _ _ _ h => h) (Or.inl ⟨by rfl, ?_⟩) (by assumption) ?_
            rotate_left
            · intro w' hSw
              (try dsimp only at hSw)
              go_simp
              try with_reducible rfl
            simp only [Act.put, List.setIfInBounds_toArray, List.set_cons_zero, List.set_cons_succ]
            refine wpAnyH_take (i := 18) (oi := { dst := some 77, op := Op.move (Operand.tmp 8), type := 3, pos := "l3_table.go:36", after := #[], guard := none }) (v := ?_) rfl (by kernel_rfl) (by kernel_rfl) (by kernel_rfl) (fun _ _ _ h => h) (Or.inl ⟨by rfl, ?_⟩) (by assumption) ?_
            rotate_left
            · intro w' hSw
              (try dsimp only at hSw)
              go_simp
              try with_reducible rfl
            simp only [Act.put, List.setIfInBounds_toArray, List.set_cons_zero, List.set_cons_succ]
            refine wpAnyH_take (i := 19) (oi := { dst := some 78, op := Op.binOp BinOp.sub 3 (Operand.tmp 77) (Operand.const (Value.int IntKind.i64 1)) 3, type := 3, pos := "l3_table.go:36", after := #[{ on := 18, ground := Ground.data }], guard := none }) (v := .int .i64 ((xs.length : Int) - 1)) rfl (by kernel_rfl) (by kernel_rfl) (by kernel_rfl) (fun _ _ _ h => h) (Or.inl ⟨by rfl, ?_⟩) (by assumption) ?_
            · intro w' hSw
              (try dsimp only at hSw)
              go_simp
              try omega
            simp only [Act.put, List.setIfInBounds_toArray, List.set_cons_zero, List.set_cons_succ]
            refine wpAnyH_take (i := 20) (oi := { dst := some 79, op := Op.indexAddr 26 (Operand.tmp 76) (Operand.tmp 78), type := 0, pos := "l3_table.go:36", after := #[{ on := 17, ground := Ground.data }, { on := 19, ground := Ground.data }], guard := none }) (v := ?_) rfl (by kernel_rfl) (by kernel_rfl) (by kernel_rfl) (fun _ _ _ h => h) (Or.inl ⟨by rfl, ?_⟩) (by assumption) ?_
            rotate_left
            · intro w' hSw
              (try dsimp only at hSw)
              go_simp
              try with_reducible rfl
            simp only [Act.put, List.setIfInBounds_toArray, List.set_cons_zero, List.set_cons_succ]
            refine wpAnyH_take (i := 21) (oi := { dst := some 80, op := Op.fieldAddr 50 (Operand.tmp 79) 0, type := 0, pos := "l3_table.go:36", after := #[{ on := 20, ground := Ground.data }], guard := none }) (v := ?_) rfl (by kernel_rfl) (by kernel_rfl) (by kernel_rfl) (fun _ _ _ h => h) (Or.inl ⟨by rfl, ?_⟩) (by assumption) ?_
            rotate_left
            · intro w' hSw
              (try dsimp only at hSw)
              go_simp
              try with_reducible rfl
            simp only [Act.put, List.setIfInBounds_toArray, List.set_cons_zero, List.set_cons_succ]
            refine wpAnyH_take (i := 22) (oi := { dst := some 81, op := Op.load 9 (Operand.tmp 80), type := 9, pos := "l3_table.go:36", after := #[{ on := 21, ground := Ground.data }], guard := none }) (v := ?_) rfl (by kernel_rfl) (by kernel_rfl) (by kernel_rfl) (fun _ _ _ h => h) (Or.inl ⟨by rfl, ?_⟩) (by assumption) ?_
            rotate_left
            · intro w' hSw
              (try dsimp only at hSw)
              go_simp
              try with_reducible rfl
            simp only [Act.put, List.setIfInBounds_toArray, List.set_cons_zero, List.set_cons_succ]
            refine wpAnyH_ready (rs := [4]) (by kernel_rfl) (by simp) ?_
            refine AllReadyH.cons rfl (fun K hK => ?_) AllReadyH.nil
            go_simp
            refine (HP1.out _).mono ?_
            rintro e w5 ⟨rfl, hb5⟩
            have k5 := (hb5.cell (p := ⟨b, _, none⟩) hbl).trans c0
            have l5 := (hb5.cell (p := ⟨b, _, none⟩) hbl).trans d0
            have hl5 := Nat.lt_of_lt_of_le hbl hb5.size
            have R15 := hdB (owns_below (w := wr.drew) HR1.out hb5)
            have R25 := hdB (owns_below (w := wr.drew) HR2.out hb5)
            have HB5 := hdB (HB.out.drew.trans (hb5.mono HB.out.size))
            clear hb5
            refine hK.out _ _ ?_ (fun hHeld => ?_)
            · (try dsimp only)
              (simp [go_sem, *])
            clear hK K
            try simp only [Act.put, List.setIfInBounds_toArray, List.set_cons_zero, List.set_cons_succ]
            refine wpAnyH_ready (rs := [8]) (by kernel_rfl) (by simp) ?_
            refine AllReadyH.cons rfl (fun K hK => ?_) AllReadyH.nil
            go_simp
            refine (HP2.out _).mono ?_
            rintro e w6 ⟨rfl, hb6⟩
            have k6 := (hb6.cell (p := ⟨b, _, none⟩) hl5).trans k5
            have l6 := (hb6.cell (p := ⟨b, _, none⟩) hl5).trans l5
            have hl6 := Nat.lt_of_lt_of_le hl5 hb6.size
            have R16 := hdB (owns_below R15.out hb6)
            have R26 := hdB (owns_below R25.out hb6)
            have HB6 := hdB (HB5.out.trans (hb6.mono HB5.out.size))
            clear hb6
            refine hK.out _ _ ?_ (fun hHeld => ?_)
            · (try dsimp only)
              (simp [go_sem, *])
            clear hK K
            try simp only [Act.put, List.setIfInBounds_toArray, List.set_cons_zero, List.set_cons_succ]
            refine wpAnyH_take (i := 9) (oi := { dst := some 68, op := Op.binOp BinOp.add 9 (Operand.tmp 63) (Operand.tmp 67) 9, type := 9, pos := "l3_table.go:36", after := #[{ on := 4, ground := Ground.data }, { on := 8, ground := Ground.data }], guard := none }) (v := ?_) rfl (by kernel_rfl) (by kernel_rfl) (by kernel_rfl) (fun _ _ _ h => h) (Or.inl ⟨by rfl, ?_⟩) (by assumption) ?_
            rotate_left
            · intro w' hSw
              (try dsimp only at hSw)
              go_simp
              try with_reducible rfl
            simp only [Act.put, List.setIfInBounds_toArray, List.set_cons_zero, List.set_cons_succ]
            refine wpAnyH_ready (rs := [15]) (by kernel_rfl) (by simp) ?_
            refine AllReadyH.cons rfl (fun K hK => ?_) AllReadyH.nil
            go_simp
            refine (HP3.out _).mono ?_
            rintro e w7 ⟨rfl, hb7⟩
            have k7 := (hb7.cell (p := ⟨b, _, none⟩) hl6).trans k6
            have l7 := (hb7.cell (p := ⟨b, _, none⟩) hl6).trans l6
            have hl7 := Nat.lt_of_lt_of_le hl6 hb7.size
            have R17 := hdB (owns_below R16.out hb7)
            have R27 := hdB (owns_below R26.out hb7)
            have HB7 := hdB (HB6.out.trans (hb7.mono HB6.out.size))
            clear hb7
            refine hK.out _ _ ?_ (fun hHeld => ?_)
            · (try dsimp only)
              (simp [go_sem, *])
            clear hK K
            try simp only [Act.put, List.setIfInBounds_toArray, List.set_cons_zero, List.set_cons_succ]
            refine wpAnyH_take (i := 16) (oi := { dst := some 75, op := Op.binOp BinOp.add 9 (Operand.tmp 68) (Operand.tmp 74) 9, type := 9, pos := "l3_table.go:36", after := #[{ on := 9, ground := Ground.data }, { on := 15, ground := Ground.data }], guard := none }) (v := ?_) rfl (by kernel_rfl) (by kernel_rfl) (by kernel_rfl) (fun _ _ _ h => h) (Or.inl ⟨by rfl, ?_⟩) (by assumption) ?_
            rotate_left
            · intro w' hSw
              (try dsimp only at hSw)
              go_simp
              try with_reducible rfl
            simp only [Act.put, List.setIfInBounds_toArray, List.set_cons_zero, List.set_cons_succ]
            refine wpAnyH_ready (rs := [23]) (by kernel_rfl) (by simp) ?_
            refine AllReadyH.cons rfl (fun K hK => ?_) AllReadyH.nil
            go_simp
            refine (HP4.out _).mono ?_
            rintro e w8 ⟨rfl, hb8⟩
            have k8 := (hb8.cell (p := ⟨b, _, none⟩) hl7).trans k7
            have l8 := (hb8.cell (p := ⟨b, _, none⟩) hl7).trans l7
            have hl8 := Nat.lt_of_lt_of_le hl7 hb8.size
            have R18 := hdB (owns_below R17.out hb8)
            have R28 := hdB (owns_below R27.out hb8)
            have HB8 := hdB (HB7.out.trans (hb8.mono HB7.out.size))
            clear hb8
            refine hK.out _ _ ?_ (fun hHeld => ?_)
            · (try dsimp only)
              (simp [go_sem, *])
            clear hK K
            try simp only [Act.put, List.setIfInBounds_toArray, List.set_cons_zero, List.set_cons_succ]
            refine wpAnyH_take (i := 24) (oi := { dst := some 83, op := Op.binOp BinOp.add 9 (Operand.tmp 75) (Operand.tmp 82) 9, type := 9, pos := "l3_table.go:36", after := #[{ on := 16, ground := Ground.data }, { on := 23, ground := Ground.data }], guard := none }) (v := ?_) rfl (by kernel_rfl) (by kernel_rfl) (by kernel_rfl) (fun _ _ _ h => h) (Or.inl ⟨by rfl, ?_⟩) (by assumption) ?_
            rotate_left
            · intro w' hSw
              (try dsimp only at hSw)
              go_simp
              try with_reducible rfl
            simp only [Act.put, List.setIfInBounds_toArray, List.set_cons_zero, List.set_cons_succ]
            refine wpAnyH_ready (rs := [25]) (by kernel_rfl) (by simp) ?_
            refine AllReadyH.cons rfl (fun K hK => ?_) AllReadyH.nil
            go_simp
            refine (l2Put_sep w.heap.size _ _ _ _ R28.out HB8.out.size (by have := HZ.out; omega)).mono ?_
            rintro e w9 ⟨v9, rfl, hown9, hgr9, hat9⟩
            have hB9 : Below w.heap.size w8 w9 := hgr9.below (owns_base R28.out) HB8.out.size
            have HB9 := hdB (HB8.out.trans hB9)
            have k9 := (hB9.cell (p := ⟨b, _, none⟩) hbB).trans k8
            have l9 := (hB9.cell (p := ⟨b, _, none⟩) hbB).trans l8
            have R19 := hdB (owns_keepB R18.out (fun g hg => hgr9.block g (owns_ltB R18.out g hg) (HNe.out g hg)))
            have R29 := hdB hown9
            have HG9 := hdB (And.intro hgr9.size hat9)
            clear hown9 hgr9 hat9 hB9
            refine hK.out _ _ ?_ (fun hHeld => ?_)
            · (try dsimp only)
              (simp [go_sem, *])
            clear hK K
            try simp only [Act.put, List.setIfInBounds_toArray, List.set_cons_zero, List.set_cons_succ]
            refine wpAnyH_take (i := 26) (oi := { dst := some 5, op := Op.assign (Operand.tmp 84), type := 111, pos := "l3_table.go:36", after := #[{ on := 25, ground := Ground.data }, { on := 25, ground := Ground.chain }, { on := 0, ground := Ground.phase }, { on := 1, ground := Ground.phase }, { on := 2, ground := Ground.phase }, { on := 3, ground := Ground.phase }, { on := 4, ground := Ground.phase }, { on := 5, ground := Ground.phase }, { on := 6, ground := Ground.phase }, { on := 7, ground := Ground.phase }, { on := 8, ground := Ground.phase }, { on := 9, ground := Ground.phase }, { on := 10, ground := Ground.phase }, { on := 11, ground := Ground.phase }, { on := 12, ground := Ground.phase }, { on := 13, ground := Ground.phase }, { on := 14, ground := Ground.phase }, { on := 15, ground := Ground.phase }, { on := 16, ground := Ground.phase }, { on := 17, ground := Ground.phase }, { on := 18, ground := Ground.phase }, { on := 19, ground := Ground.phase }, { on := 20, ground := Ground.phase }, { on := 21, ground := Ground.phase }, { on := 22, ground := Ground.phase }, { on := 23, ground := Ground.phase }, { on := 24, ground := Ground.phase }, { on := 25, ground := Ground.phase }], guard := none }) (v := ?_) rfl (by kernel_rfl) (by kernel_rfl) (by kernel_rfl) (fun _ _ _ h => h) (Or.inl ⟨by rfl, ?_⟩) (by assumption) ?_
            rotate_left
            · intro w' hSw
              (try dsimp only at hSw)
              go_simp
              try with_reducible rfl
            simp only [Act.put, List.setIfInBounds_toArray, List.set_cons_zero, List.set_cons_succ]
            refine wpAnyH_done (by kernel_rfl) ?_ _
            refine NoPanic.normal ?_
            go_wp2_with fail
            have HE := specEnc_any (some ⟨b, off + f * 4, none⟩) (cap - f) (subE xs k) w9 ((hx.below HB9.out).sub HF.out hlt) (subE_fits hf k) (by rw [HM.out]; omega)
            rw [HM.out] at HE
            have HSz := hdB (subE_size hval k)
            refine HE.mono ?_
            clear HE
            rintro e w10 ⟨rfl, hb10⟩
            have HBa := hdB (HB9.out.trans (hb10.mono HB9.out.size))
            have R1a := hdB (owns_below R19.out hb10)
            have R2a := hdB (owns_below R29.out hb10)
            have HSa := hdB hb10.size
            clear hb10
            go_wp2_with fail
            refine (specFrame_any 66 _ w10 (by have := HSz.out; unfold maxLen; omega)).mono ?_
            rintro e w11 ⟨rfl, hb11⟩
            have HBb := hdB (HBa.out.trans (hb11.mono HBa.out.size))
            have R1b := hdB (owns_below R1a.out hb11)
            have R2b := hdB (owns_below R2a.out hb11)
            have HSb := hdB hb11.size
            clear hb11
            have HS1 : Hid ((tab xs k).1.length + (frT 66 (encT (subE xs k))).size ≤ 40960 * (k + 1)) := by
              have h := HL1.out (k + 1)
              rw [show (tab xs (k + 1)).1 = (tab xs k).1 ++ (frT 66 (encT (subE xs k))).data.toList from rfl, List.length_append, dataL] at h
              exact h
            have HNx : Hid (∀ g, v9.ownBlock = some g → (Value.slice a1 (tab xs k).1.length cap1).ownBlock ≠ some g) := by
              intro g h1 h2
              rcases HG9.out.2 with h | ⟨g', h, hg'⟩
              · exact HNe.out g h2 (h.symm.trans h1)
              · have := owns_ltB R18.out g h2
                rw [h] at h1
                cases h1
                omega
            go_wp2_with fail
            refine (l2Put_sep w.heap.size _ (tab xs k).1 _ w11 R1b.out HBb.out.size (by have := HS1.out; omega)).mono ?_
            rintro e wc ⟨vc, rfl, hownc, hgrc, hatc⟩
            have hBc : Below w.heap.size w11 wc := hgrc.below (owns_base R1b.out) HBb.out.size
            have HBc := hdB (HBb.out.trans hBc)
            have R2c := hdB (owns_keepB R2b.out (fun g hg => hgrc.block g (owns_ltB R2b.out g hg) (HNx.out g hg)))
            have HNc : Hid (∀ g, vc.ownBlock = some g → v9.ownBlock ≠ some g) := by
              intro g h1 h2
              rcases hatc with h | ⟨g', h, hg'⟩
              · exact HNx.out g h2 (h.symm.trans h1)
              · have := owns_ltB R2b.out g h2
                rw [h] at h1
                cases h1
                omega
            have R1c := hdB hownc
            clear hownc hgrc hatc hBc
            go_wp2_with fail
            have R2d : wc.ownsRow w.heap.size 5 1 v9 (tab xs (k + 1)).2.length (bc (tab xs (k + 1)).2) := by rw [HIX.out]; exact R2c.out
            exact ⟨⟨k + 1, f + 8, by simp, by simp, (by show f + 8 = 8 * (k + 1); have := HF.out; omega), (by have := HF.out; unfold nbE; omega), R1c.out, R2d, HNc, HBc.out⟩, by simp only [intOf]; omega⟩
          · have j1 : ¬ (xs.length : Int) < (f : Int) + 8 := by omega
            have j2 : (0 : Int) ≤ (f : Int) + 7 := by omega
            have j3 : ((f : Int) + 7).toNat = f + 7 := by omega
            have j4 : (f : Int) + 7 < xs.length := by omega
            have j7 : (0 : Int) ≤ (f : Int) + 8 - 1 := by omega
            have j8 : (f : Int) + 8 - 1 < xs.length := by omega
            have j9 : IntKind.i64.wrap ((f : Int) + 8 - 1) = (f : Int) + 8 - 1 := by rw [IntKind.wrap_i64]; omega
            have j10 : ((f : Int) + 8 - 1).toNat = f + 7 := by omega
            have j11 : (1 : Int) ≤ (f : Int) + 8 := by omega
            have j12 : IntKind.i64.wrap ((f : Int) + 8) = (f : Int) + 8 := by rw [IntKind.wrap_i64]; omega
            have j6 : (f : Int) + 8 ≤ cap := by omega
            have j14 : IntKind.i64.wrap ((f : Int) + 8 - f) = 8 := by rw [IntKind.wrap_i64]; omega
            have hm : (subE xs k).length = 8 := by rw [subE_len]; omega
            have j13 : IntKind.i64.wrap (((tab xs k).1.length : Int) / 64) = ((tab xs k).1.length : Int) / 64 := by rw [IntKind.wrap_i64]; omega
            obtain ⟨b', off', e, -, d0, -, -, -⟩ := (hx.below hb).at (i := f + 7) (by omega)
            cases e
            have hy0 : ((subE xs k).getD 0 en0).ky = (xs.getD f en0).ky := by rw [subE_at xs k 0 (by omega) (by omega), show 8 * k + 0 = f by omega]
            have hy1 : ((subE xs k).getD ((subE xs k).length - 1) en0).ky = (xs.getD (f + 7) en0).ky := by rw [hm, subE_at xs k _ (by omega) (by omega), show 8 * k + (8 - 1) = f + 7 by omega]
            have z0 := subE_key hval k 0
            have z1 := subE_key hval k ((subE xs k).length - 1)
            rw [hy0] at z0
            rw [hy1] at z1
            have HIX : Hid ((tab xs (k + 1)).2 = (tab xs k).2 ++ (vtext ((tab xs k).1.length / 64 : Nat) ++ vtext 8 ++ ⟨(kyB (xs.getD f en0).ky).toArray⟩ ++ ⟨(kyB (xs.getD (f + 7) en0).ky).toArray⟩).data.toList) := by
              show _ = _
              rw [show (tab xs (k + 1)).2 = (tab xs k).2 ++ (vb ((tab xs k).1.length / 64) ++ vb (subE xs k).length ++ kyB ((subE xs k).getD 0 en0).ky ++ kyB ((subE xs k).getD ((subE xs k).length - 1) en0).ky) from rfl, hy0, hy1, hm, appL, appL, appL, vtext_in _ (by omega) (by omega), vtext_in _ (by omega) (by omega), Int.toNat_natCast, show (8 : Int).toNat = 8 by omega]
            have s1 : (vtext ((tab xs k).1.length / 64 : Nat)).size ≤ 8 := vtext_size _
            have s2 : (vtext 8).size ≤ 8 := vtext_size _
            have s3 : (⟨(kyB (xs.getD f en0).ky).toArray⟩ : ByteArray).size ≤ 1008 := by show (kyB (xs.getD f en0).ky).toArray.size ≤ _; rw [List.size_toArray]; exact kyB_lenB z0
            have s4 : (⟨(kyB (xs.getD (f + 7) en0).ky).toArray⟩ : ByteArray).size ≤ 1008 := by show (kyB (xs.getD (f + 7) en0).ky).toArray.size ≤ _; rw [List.size_toArray]; exact kyB_lenB z1
            have HP1 := hdB (specPut_any ((tab xs k).1.length / 64 : Nat))
            have HP2 := hdB (specPut_any 8)
            have HP3 := hdB (fun w => l3Keyed_any (xs.getD f en0).ky w (by omega))
            have HP4 := hdB (fun w => l3Keyed_any (xs.getD (f + 7) en0).ky w (by omega))
            have q64 : (((tab xs k).1.length / 64 : Nat) : Int) = ((tab xs k).1.length : Int) / 64 := by omega
            rw [q64] at HP1 HIX s1
            generalize vtext (((tab xs k).1.length : Int) / 64) = t1 at *
            generalize vtext 8 = t2 at *
            generalize (⟨(kyB (xs.getD f en0).ky).toArray⟩ : ByteArray) = t3 at *
            generalize (⟨(kyB (xs.getD (f + 7) en0).ky).toArray⟩ : ByteArray) = t4 at *
            have g1 : ¬ 9223372036854775807 < t1.size + t2.size := by omega
            have g2 : ¬ 9223372036854775807 < t1.size + t2.size + t3.size := by omega
            have g3 : ¬ 9223372036854775807 < t1.size + t2.size + t3.size + t4.size := by omega
            have HZ : Hid ((t1 ++ t2 ++ t3 ++ t4).size ≤ 2032) := by show _ ≤ _; rw [appS, appS, appS]; omega
            have HB := hdB hb
            have HR1 := hdB hown1
            have HR2 := hdB hown2
            generalize (xs.getD f en0).ky = y0 at *
            generalize (xs.getD (f + 7) en0).ky = y1 at *
            have HM := hdB hm
            clear hown1 hown2 hb hy0 hy1 q64 hf8 hm
            go_wp2_with fail
            refine wp_region_noPanic ?_
            refine wp_region_held_drew (S := (fun w' => w'.cell? ⟨b, off + f * 4, none⟩ = some (.string y0) ∧ w'.cell? ⟨b, off + (f + 7) * 4, none⟩ = some (.string y1))) (by kernel_rfl) ?_ (fun hHeld => ?_)
            · (try dsimp only)
              (simp [go_sem, *])
            refine wpAnyH_take (i := 0) (oi := { dst := some 59, op := Op.move (Operand.tmp 5), type := 111, pos := "l3_table.go:36", after := #[], guard := none }) (v := ?_) rfl (by kernel_rfl) (by kernel_rfl) (by kernel_rfl) (fun _ _ _ h => h) (Or.inl ⟨by rfl, ?_⟩) (by assumption) ?_
            rotate_left
            · intro w' hSw
              (try dsimp only at hSw)
              go_simp
              try with_reducible rfl
            simp only [Act.put, List.setIfInBounds_toArray, List.set_cons_zero, List.set_cons_succ]
            refine wpAnyH_take (i := 1) (oi := { dst := some 60, op := Op.move (Operand.tmp 4), type := 111, pos := "l3_table.go:36", after := #[], guard := none }) (v := ?_) rfl (by kernel_rfl) (by kernel_rfl) (by kernel_rfl) (fun _ _ _ h => h) (Or.inl ⟨by rfl, ?_⟩) (by assumption) ?_
            rotate_left
            · intro w' hSw
              (try dsimp only at hSw)
              go_simp
              try with_reducible rfl
            simp only [Act.put, List.setIfInBounds_toArray, List.set_cons_zero, List.set_cons_succ]
            refine wpAnyH_take (i := 2) (oi := { dst := some 61, op := Op.call { callee := Callee.builtin Builtin.len, args := #[Operand.tmp 60], argTypes := #[111] }, type := 3, pos := "l3_table.go:36", after := #[{ on := 1, ground := Ground.data }], guard := none }) (v := ?_) rfl (by kernel_rfl) (by kernel_rfl) (by kernel_rfl) (fun _ _ _ h => h) (Or.inl ⟨by rfl, ?_⟩) (by assumption) ?_
            rotate_left
            · intro w' hSw
              (try dsimp only at hSw)
              go_simp
              try with_reducible rfl
            simp only [Act.put, List.setIfInBounds_toArray, List.set_cons_zero, List.set_cons_succ]
            refine wpAnyH_take (i := 3) (oi := { dst := some 62, op := Op.binOp BinOp.quo 3 (Operand.tmp 61) (Operand.const (Value.int IntKind.i64 64)) 3, type := 3, pos := "l3_table.go:36", after := #[{ on := 2, ground := Ground.data }], guard := none }) (v := .int .i64 (((tab xs k).1.length : Int) / 64)) rfl (by kernel_rfl) (by kernel_rfl) (by kernel_rfl) (fun _ _ _ h => h) (Or.inl ⟨by rfl, ?_⟩) (by assumption) ?_
            · intro w' hSw
              (try dsimp only at hSw)
              go_simp
              try omega
            simp only [Act.put, List.setIfInBounds_toArray, List.set_cons_zero, List.set_cons_succ]
            refine wpAnyH_take (i := 5) (oi := { dst := some 64, op := Op.move (Operand.tmp 8), type := 3, pos := "l3_table.go:36", after := #[], guard := none }) (v := ?_) rfl (by kernel_rfl) (by kernel_rfl) (by kernel_rfl) (fun _ _ _ h => h) (Or.inl ⟨by rfl, ?_⟩) (by assumption) ?_
            rotate_left
            · intro w' hSw
              (try dsimp only at hSw)
              go_simp
              try with_reducible rfl
            simp only [Act.put, List.setIfInBounds_toArray, List.set_cons_zero, List.set_cons_succ]
            refine wpAnyH_take (i := 6) (oi := { dst := some 65, op := Op.move (Operand.tmp 7), type := 3, pos := "l3_table.go:36", after := #[], guard := none }) (v := ?_) rfl (by kernel_rfl) (by kernel_rfl) (by kernel_rfl) (fun _ _ _ h => h) (Or.inl ⟨by rfl, ?_⟩) (by assumption) ?_
            rotate_left
            · intro w' hSw
              (try dsimp only at hSw)
              go_simp
              try with_reducible rfl
            simp only [Act.put, List.setIfInBounds_toArray, List.set_cons_zero, List.set_cons_succ]
            refine wpAnyH_take (i := 7) (oi := { dst := some 66, op := Op.binOp BinOp.sub 3 (Operand.tmp 64) (Operand.tmp 65) 3, type := 3, pos := "l3_table.go:36", after := #[{ on := 5, ground := Ground.data }, { on := 6, ground := Ground.data }], guard := none }) (v := .int .i64 8) rfl (by kernel_rfl) (by kernel_rfl) (by kernel_rfl) (fun _ _ _ h => h) (Or.inl ⟨by rfl, ?_⟩) (by assumption) ?_
            · intro w' hSw
              (try dsimp only at hSw)
              go_simp
              try omega
            simp only [Act.put, List.setIfInBounds_toArray, List.set_cons_zero, List.set_cons_succ]
            refine wpAnyH_take (i := 10) (oi := { dst := some 69, op := Op.move (Operand.tmp 0), type := 26, pos := "l3_table.go:36", after := #[], guard := none }) (v := ?_) rfl (by kernel_rfl) (by kernel_rfl) (by kernel_rfl) (fun _ _ _ h => h) (Or.inl ⟨by rfl, ?_⟩) (by assumption) ?_
            rotate_left
            · intro w' hSw
              (try dsimp only at hSw)
              go_simp
              try with_reducible rfl
            simp only [Act.put, List.setIfInBounds_toArray, List.set_cons_zero, List.set_cons_succ]
            refine wpAnyH_take (i := 11) (oi := { dst := some 70, op := Op.move (Operand.tmp 7), type := 3, pos := "l3_table.go:36", after := #[], guard := none }) (v := ?_) rfl (by kernel_rfl) (by kernel_rfl) (by kernel_rfl) (fun _ _ _ h => h) (Or.inl ⟨by rfl, ?_⟩) (by assumption) ?_
            rotate_left
            · intro w' hSw
              (try dsimp only at hSw)
              go_simp
              try with_reducible rfl
            simp only [Act.put, List.setIfInBounds_toArray, List.set_cons_zero, List.set_cons_succ]
            refine wpAnyH_take (i := 12) (oi := { dst := some 71, op := Op.indexAddr 26 (Operand.tmp 69) (Operand.tmp 70), type := 0, pos := "l3_table.go:36", after := #[{ on := 10, ground := Ground.data }, { on := 11, ground := Ground.data }], guard := none }) (v := ?_) rfl (by kernel_rfl) (by kernel_rfl) (by kernel_rfl) (fun _ _ _ h => h) (Or.inl ⟨by rfl, ?_⟩) (by assumption) ?_
            rotate_left
            · intro w' hSw
              (try dsimp only at hSw)
              go_simp
              try with_reducible rfl
            simp only [Act.put, List.setIfInBounds_toArray, List.set_cons_zero, List.set_cons_succ]
            refine wpAnyH_take (i := 13) (oi := { dst := some 72, op := Op.fieldAddr 50 (Operand.tmp 71) 0, type := 0, pos := "l3_table.go:36", after := #[{ on := 12, ground := Ground.data }], guard := none }) (v := ?_) rfl (by kernel_rfl) (by kernel_rfl) (by kernel_rfl) (fun _ _ _ h => h) (Or.inl ⟨by rfl, ?_⟩) (by assumption) ?_
            rotate_left
            · intro w' hSw
              (try dsimp only at hSw)
              go_simp
              try with_reducible rfl
            simp only [Act.put, List.setIfInBounds_toArray, List.set_cons_zero, List.set_cons_succ]
            refine wpAnyH_take (i := 14) (oi := { dst := some 73, op := Op.load 9 (Operand.tmp 72), type := 9, pos := "l3_table.go:36", after := #[{ on := 13, ground := Ground.data }], guard := none }) (v := ?_) rfl (by kernel_rfl) (by kernel_rfl) (by kernel_rfl) (fun _ _ _ h => h) (Or.inl ⟨by rfl, ?_⟩) (by assumption) ?_
            rotate_left
            · intro w' hSw
              (try dsimp only at hSw)
              go_simp
              try with_reducible rfl
            simp only [Act.put, List.setIfInBounds_toArray, List.set_cons_zero, List.set_cons_succ]
            refine wpAnyH_take (i := 17) (oi := { dst := some 76, op := Op.move (Operand.tmp 0), type := 26, pos := "l3_table.go:36", after := #[], guard := none }) (v := ?_) rfl (by kernel_rfl) (by kernel_rfl) (by kernel_rfl) (fun _ _ _ h => h) (Or.inl ⟨by rfl, ?_⟩) (by assumption) ?_
            rotate_left
            · intro w' hSw
              (try dsimp only at hSw)
              go_simp
              try with_reducible rfl
            simp only [Act.put, List.setIfInBounds_toArray, List.set_cons_zero, List.set_cons_succ]
            refine wpAnyH_take (i := 18) (oi := { dst := some 77, op := Op.move (Operand.tmp 8), type := 3, pos := "l3_table.go:36", after := #[], guard := none }) (v := ?_) rfl (by kernel_rfl) (by kernel_rfl) (by kernel_rfl) (fun _ _ _ h => h) (Or.inl ⟨by rfl, ?_⟩) (by assumption) ?_
            rotate_left
            · intro w' hSw
              (try dsimp only at hSw)
              go_simp
              try with_reducible rfl
            simp only [Act.put, List.setIfInBounds_toArray, List.set_cons_zero, List.set_cons_succ]
            refine wpAnyH_take (i := 19) (oi := { dst := some 78, op := Op.binOp BinOp.sub 3 (Operand.tmp 77) (Operand.const (Value.int IntKind.i64 1)) 3, type := 3, pos := "l3_table.go:36", after := #[{ on := 18, ground := Ground.data }], guard := none }) (v := .int .i64 ((f : Int) + 8 - 1)) rfl (by kernel_rfl) (by kernel_rfl) (by kernel_rfl) (fun _ _ _ h => h) (Or.inl ⟨by rfl, ?_⟩) (by assumption) ?_
            · intro w' hSw
              (try dsimp only at hSw)
              go_simp
              try omega
            simp only [Act.put, List.setIfInBounds_toArray, List.set_cons_zero, List.set_cons_succ]
            refine wpAnyH_take (i := 20) (oi := { dst := some 79, op := Op.indexAddr 26 (Operand.tmp 76) (Operand.tmp 78), type := 0, pos := "l3_table.go:36", after := #[{ on := 17, ground := Ground.data }, { on := 19, ground := Ground.data }], guard := none }) (v := ?_) rfl (by kernel_rfl) (by kernel_rfl) (by kernel_rfl) (fun _ _ _ h => h) (Or.inl ⟨by rfl, ?_⟩) (by assumption) ?_
            rotate_left
            · intro w' hSw
              (try dsimp only at hSw)
              go_simp
              try with_reducible rfl
            simp only [Act.put, List.setIfInBounds_toArray, List.set_cons_zero, List.set_cons_succ]
            refine wpAnyH_take (i := 21) (oi := { dst := some 80, op := Op.fieldAddr 50 (Operand.tmp 79) 0, type := 0, pos := "l3_table.go:36", after := #[{ on := 20, ground := Ground.data }], guard := none }) (v := ?_) rfl (by kernel_rfl) (by kernel_rfl) (by kernel_rfl) (fun _ _ _ h => h) (Or.inl ⟨by rfl, ?_⟩) (by assumption) ?_
            rotate_left
            · intro w' hSw
              (try dsimp only at hSw)
              go_simp
              try with_reducible rfl
            simp only [Act.put, List.setIfInBounds_toArray, List.set_cons_zero, List.set_cons_succ]
            refine wpAnyH_take (i := 22) (oi := { dst := some 81, op := Op.load 9 (Operand.tmp 80), type := 9, pos := "l3_table.go:36", after := #[{ on := 21, ground := Ground.data }], guard := none }) (v := ?_) rfl (by kernel_rfl) (by kernel_rfl) (by kernel_rfl) (fun _ _ _ h => h) (Or.inl ⟨by rfl, ?_⟩) (by assumption) ?_
            rotate_left
            · intro w' hSw
              (try dsimp only at hSw)
              go_simp
              try with_reducible rfl
            simp only [Act.put, List.setIfInBounds_toArray, List.set_cons_zero, List.set_cons_succ]
            refine wpAnyH_ready (rs := [4]) (by kernel_rfl) (by simp) ?_
            refine AllReadyH.cons rfl (fun K hK => ?_) AllReadyH.nil
            go_simp
            refine (HP1.out _).mono ?_
            rintro e w5 ⟨rfl, hb5⟩
            have k5 := (hb5.cell (p := ⟨b, _, none⟩) hbl).trans c0
            have l5 := (hb5.cell (p := ⟨b, _, none⟩) hbl).trans d0
            have hl5 := Nat.lt_of_lt_of_le hbl hb5.size
            have R15 := hdB (owns_below (w := wr.drew) HR1.out hb5)
            have R25 := hdB (owns_below (w := wr.drew) HR2.out hb5)
            have HB5 := hdB (HB.out.drew.trans (hb5.mono HB.out.size))
            clear hb5
            refine hK.out _ _ ?_ (fun hHeld => ?_)
            · (try dsimp only)
              (simp [go_sem, *])
            clear hK K
            try simp only [Act.put, List.setIfInBounds_toArray, List.set_cons_zero, List.set_cons_succ]
            refine wpAnyH_ready (rs := [8]) (by kernel_rfl) (by simp) ?_
            refine AllReadyH.cons rfl (fun K hK => ?_) AllReadyH.nil
            go_simp
            refine (HP2.out _).mono ?_
            rintro e w6 ⟨rfl, hb6⟩
            have k6 := (hb6.cell (p := ⟨b, _, none⟩) hl5).trans k5
            have l6 := (hb6.cell (p := ⟨b, _, none⟩) hl5).trans l5
            have hl6 := Nat.lt_of_lt_of_le hl5 hb6.size
            have R16 := hdB (owns_below R15.out hb6)
            have R26 := hdB (owns_below R25.out hb6)
            have HB6 := hdB (HB5.out.trans (hb6.mono HB5.out.size))
            clear hb6
            refine hK.out _ _ ?_ (fun hHeld => ?_)
            · (try dsimp only)
              (simp [go_sem, *])
            clear hK K
            try simp only [Act.put, List.setIfInBounds_toArray, List.set_cons_zero, List.set_cons_succ]
            refine wpAnyH_take (i := 9) (oi := { dst := some 68, op := Op.binOp BinOp.add 9 (Operand.tmp 63) (Operand.tmp 67) 9, type := 9, pos := "l3_table.go:36", after := #[{ on := 4, ground := Ground.data }, { on := 8, ground := Ground.data }], guard := none }) (v := ?_) rfl (by kernel_rfl) (by kernel_rfl) (by kernel_rfl) (fun _ _ _ h => h) (Or.inl ⟨by rfl, ?_⟩) (by assumption) ?_
            rotate_left
            · intro w' hSw
              (try dsimp only at hSw)
              go_simp
              try with_reducible rfl
            simp only [Act.put, List.setIfInBounds_toArray, List.set_cons_zero, List.set_cons_succ]
            refine wpAnyH_ready (rs := [15]) (by kernel_rfl) (by simp) ?_
            refine AllReadyH.cons rfl (fun K hK => ?_) AllReadyH.nil
            go_simp
            refine (HP3.out _).mono ?_
            rintro e w7 ⟨rfl, hb7⟩
            have k7 := (hb7.cell (p := ⟨b, _, none⟩) hl6).trans k6
            have l7 := (hb7.cell (p := ⟨b, _, none⟩) hl6).trans l6
            have hl7 := Nat.lt_of_lt_of_le hl6 hb7.size
            have R17 := hdB (owns_below R16.out hb7)
            have R27 := hdB (owns_below R26.out hb7)
            have HB7 := hdB (HB6.out.trans (hb7.mono HB6.out.size))
            clear hb7
            refine hK.out _ _ ?_ (fun hHeld => ?_)
            · (try dsimp only)
              (simp [go_sem, *])
            clear hK K
            try simp only [Act.put, List.setIfInBounds_toArray, List.set_cons_zero, List.set_cons_succ]
            refine wpAnyH_take (i := 16) (oi := { dst := some 75, op := Op.binOp BinOp.add 9 (Operand.tmp 68) (Operand.tmp 74) 9, type := 9, pos := "l3_table.go:36", after := #[{ on := 9, ground := Ground.data }, { on := 15, ground := Ground.data }], guard := none }) (v := ?_) rfl (by kernel_rfl) (by kernel_rfl) (by kernel_rfl) (fun _ _ _ h => h) (Or.inl ⟨by rfl, ?_⟩) (by assumption) ?_
            rotate_left
            · intro w' hSw
              (try dsimp only at hSw)
              go_simp
              try with_reducible rfl
            simp only [Act.put, List.setIfInBounds_toArray, List.set_cons_zero, List.set_cons_succ]
            refine wpAnyH_ready (rs := [23]) (by kernel_rfl) (by simp) ?_
            refine AllReadyH.cons rfl (fun K hK => ?_) AllReadyH.nil
            go_simp
            refine (HP4.out _).mono ?_
            rintro e w8 ⟨rfl, hb8⟩
            have k8 := (hb8.cell (p := ⟨b, _, none⟩) hl7).trans k7
            have l8 := (hb8.cell (p := ⟨b, _, none⟩) hl7).trans l7
            have hl8 := Nat.lt_of_lt_of_le hl7 hb8.size
            have R18 := hdB (owns_below R17.out hb8)
            have R28 := hdB (owns_below R27.out hb8)
            have HB8 := hdB (HB7.out.trans (hb8.mono HB7.out.size))
            clear hb8
            refine hK.out _ _ ?_ (fun hHeld => ?_)
            · (try dsimp only)
              (simp [go_sem, *])
            clear hK K
            try simp only [Act.put, List.setIfInBounds_toArray, List.set_cons_zero, List.set_cons_succ]
            refine wpAnyH_take (i := 24) (oi := { dst := some 83, op := Op.binOp BinOp.add 9 (Operand.tmp 75) (Operand.tmp 82) 9, type := 9, pos := "l3_table.go:36", after := #[{ on := 16, ground := Ground.data }, { on := 23, ground := Ground.data }], guard := none }) (v := ?_) rfl (by kernel_rfl) (by kernel_rfl) (by kernel_rfl) (fun _ _ _ h => h) (Or.inl ⟨by rfl, ?_⟩) (by assumption) ?_
            rotate_left
            · intro w' hSw
              (try dsimp only at hSw)
              go_simp
              try with_reducible rfl
            simp only [Act.put, List.setIfInBounds_toArray, List.set_cons_zero, List.set_cons_succ]
            refine wpAnyH_ready (rs := [25]) (by kernel_rfl) (by simp) ?_
            refine AllReadyH.cons rfl (fun K hK => ?_) AllReadyH.nil
            go_simp
            refine (l2Put_sep w.heap.size _ _ _ _ R28.out HB8.out.size (by have := HZ.out; omega)).mono ?_
            rintro e w9 ⟨v9, rfl, hown9, hgr9, hat9⟩
            have hB9 : Below w.heap.size w8 w9 := hgr9.below (owns_base R28.out) HB8.out.size
            have HB9 := hdB (HB8.out.trans hB9)
            have k9 := (hB9.cell (p := ⟨b, _, none⟩) hbB).trans k8
            have l9 := (hB9.cell (p := ⟨b, _, none⟩) hbB).trans l8
            have R19 := hdB (owns_keepB R18.out (fun g hg => hgr9.block g (owns_ltB R18.out g hg) (HNe.out g hg)))
            have R29 := hdB hown9
            have HG9 := hdB (And.intro hgr9.size hat9)
            clear hown9 hgr9 hat9 hB9
            refine hK.out _ _ ?_ (fun hHeld => ?_)
            · (try dsimp only)
              (simp [go_sem, *])
            clear hK K
            try simp only [Act.put, List.setIfInBounds_toArray, List.set_cons_zero, List.set_cons_succ]
            refine wpAnyH_take (i := 26) (oi := { dst := some 5, op := Op.assign (Operand.tmp 84), type := 111, pos := "l3_table.go:36", after := #[{ on := 25, ground := Ground.data }, { on := 25, ground := Ground.chain }, { on := 0, ground := Ground.phase }, { on := 1, ground := Ground.phase }, { on := 2, ground := Ground.phase }, { on := 3, ground := Ground.phase }, { on := 4, ground := Ground.phase }, { on := 5, ground := Ground.phase }, { on := 6, ground := Ground.phase }, { on := 7, ground := Ground.phase }, { on := 8, ground := Ground.phase }, { on := 9, ground := Ground.phase }, { on := 10, ground := Ground.phase }, { on := 11, ground := Ground.phase }, { on := 12, ground := Ground.phase }, { on := 13, ground := Ground.phase }, { on := 14, ground := Ground.phase }, { on := 15, ground := Ground.phase }, { on := 16, ground := Ground.phase }, { on := 17, ground := Ground.phase }, { on := 18, ground := Ground.phase }, { on := 19, ground := Ground.phase }, { on := 20, ground := Ground.phase }, { on := 21, ground := Ground.phase }, { on := 22, ground := Ground.phase }, { on := 23, ground := Ground.phase }, { on := 24, ground := Ground.phase }, { on := 25, ground := Ground.phase }], guard := none }) (v := ?_) rfl (by kernel_rfl) (by kernel_rfl) (by kernel_rfl) (fun _ _ _ h => h) (Or.inl ⟨by rfl, ?_⟩) (by assumption) ?_
            rotate_left
            · intro w' hSw
              (try dsimp only at hSw)
              go_simp
              try with_reducible rfl
            simp only [Act.put, List.setIfInBounds_toArray, List.set_cons_zero, List.set_cons_succ]
            refine wpAnyH_done (by kernel_rfl) ?_ _
            refine NoPanic.normal ?_
            go_wp2_with fail
            have HE := specEnc_any (some ⟨b, off + f * 4, none⟩) (cap - f) (subE xs k) w9 ((hx.below HB9.out).sub HF.out hlt) (subE_fits hf k) (by rw [HM.out]; omega)
            rw [HM.out] at HE
            have HSz := hdB (subE_size hval k)
            refine HE.mono ?_
            clear HE
            rintro e w10 ⟨rfl, hb10⟩
            have HBa := hdB (HB9.out.trans (hb10.mono HB9.out.size))
            have R1a := hdB (owns_below R19.out hb10)
            have R2a := hdB (owns_below R29.out hb10)
            have HSa := hdB hb10.size
            clear hb10
            go_wp2_with fail
            refine (specFrame_any 66 _ w10 (by have := HSz.out; unfold maxLen; omega)).mono ?_
            rintro e w11 ⟨rfl, hb11⟩
            have HBb := hdB (HBa.out.trans (hb11.mono HBa.out.size))
            have R1b := hdB (owns_below R1a.out hb11)
            have R2b := hdB (owns_below R2a.out hb11)
            have HSb := hdB hb11.size
            clear hb11
            have HS1 : Hid ((tab xs k).1.length + (frT 66 (encT (subE xs k))).size ≤ 40960 * (k + 1)) := by
              have h := HL1.out (k + 1)
              rw [show (tab xs (k + 1)).1 = (tab xs k).1 ++ (frT 66 (encT (subE xs k))).data.toList from rfl, List.length_append, dataL] at h
              exact h
            have HNx : Hid (∀ g, v9.ownBlock = some g → (Value.slice a1 (tab xs k).1.length cap1).ownBlock ≠ some g) := by
              intro g h1 h2
              rcases HG9.out.2 with h | ⟨g', h, hg'⟩
              · exact HNe.out g h2 (h.symm.trans h1)
              · have := owns_ltB R18.out g h2
                rw [h] at h1
                cases h1
                omega
            go_wp2_with fail
            refine (l2Put_sep w.heap.size _ (tab xs k).1 _ w11 R1b.out HBb.out.size (by have := HS1.out; omega)).mono ?_
            rintro e wc ⟨vc, rfl, hownc, hgrc, hatc⟩
            have hBc : Below w.heap.size w11 wc := hgrc.below (owns_base R1b.out) HBb.out.size
            have HBc := hdB (HBb.out.trans hBc)
            have R2c := hdB (owns_keepB R2b.out (fun g hg => hgrc.block g (owns_ltB R2b.out g hg) (HNx.out g hg)))
            have HNc : Hid (∀ g, vc.ownBlock = some g → v9.ownBlock ≠ some g) := by
              intro g h1 h2
              rcases hatc with h | ⟨g', h, hg'⟩
              · exact HNx.out g h2 (h.symm.trans h1)
              · have := owns_ltB R2b.out g h2
                rw [h] at h1
                cases h1
                omega
            have R1c := hdB hownc
            clear hownc hgrc hatc hBc
            go_wp2_with fail
            have R2d : wc.ownsRow w.heap.size 5 1 v9 (tab xs (k + 1)).2.length (bc (tab xs (k + 1)).2) := by rw [HIX.out]; exact R2c.out
            exact ⟨⟨k + 1, f + 8, by simp, by simp, (by show f + 8 = 8 * (k + 1); have := HF.out; omega), (by have := HF.out; unfold nbE; omega), R1c.out, R2d, HNc, HBc.out⟩, by simp only [intOf]; omega⟩
        · have i1 : ¬ (f : Int) < xs.length := by omega
          obtain rfl : k = nbE xs.length := by unfold nbE at *; omega
          have HB := hdB hb
          have HR1 := hdB hown1
          have HR2 := hdB hown2
          have j13 : IntKind.i64.wrap (((tab xs (nbE xs.length)).1.length : Int) / 64) = ((tab xs (nbE xs.length)).1.length : Int) / 64 := by rw [IntKind.wrap_i64]; omega
          have HC : Hid (∀ w' : World, w'.ownsRow w.heap.size 5 1 (.slice a2 (tab xs (nbE xs.length)).2.length cap2) (tab xs (nbE xs.length)).2.length (bc (tab xs (nbE xs.length)).2) → (convert 111 9 (.slice a2 (tab xs (nbE xs.length)).2.length cap2)).run Tryz.prog w' = .ok (.string ⟨(tab xs (nbE xs.length)).2.toArray⟩) w') := fun w' h => conv_rowE h
          have HP1 := hdB (specPut_any (nbE xs.length : Nat))
          have s1 : (vtext (nbE xs.length : Nat)).size ≤ 8 := vtext_size _
          have HZ : Hid ((vtext (nbE xs.length : Nat) ++ ⟨(tab xs (nbE xs.length)).2.toArray⟩ : ByteArray).size ≤ 76200008) := by
            show _ ≤ _
            rw [appS]
            have : (⟨(tab xs (nbE xs.length)).2.toArray⟩ : ByteArray).size = (tab xs (nbE xs.length)).2.length := List.size_toArray
            omega
          have hid := idx_eq xs hnb
          have HP2 := hdB (fun w => specFrame_any 73 (vtext (nbE xs.length : Nat) ++ ⟨(tab xs (nbE xs.length)).2.toArray⟩) w (by have := HZ.out; unfold maxLen; omega))
          have hle := frT_le 73 (vtext (nbE xs.length : Nat) ++ ⟨(tab xs (nbE xs.length)).2.toArray⟩)
          rw [hid] at HP2 hle
          have HN := hdB (fun h : (idxT xs).size = 0 => HT0.out.trans (tabX_none h))
          have HSm := hdB (fun h : (idxT xs).size ≠ 0 => HT0.out.trans (tabX_some h (by omega)))
          clear hid HT0
          generalize idxT xs = ix at *
          have g0 : ¬ 9223372036854775807 < (vtext (nbE xs.length : Nat)).size + (tab xs (nbE xs.length)).2.length := by omega
          clear hown1 hown2 hb
          go_wp2_with fail
          refine wp_region_noPanic ?_
          refine wp_region_held_drew (S := (fun w' => w'.ownsRow w.heap.size 5 1 (.slice a2 (tab xs (nbE xs.length)).2.length cap2) (tab xs (nbE xs.length)).2.length (bc (tab xs (nbE xs.length)).2))) (by kernel_rfl) ?_ (fun hHeld => ?_)
          · (try dsimp only)
            first | exact HR2.out | exact R25 | exact R26
          refine wpAnyH_take (i := 0) (oi := { dst := some 98, op := Op.move (Operand.tmp 6), type := 3, pos := "l3_table.go:41", after := #[], guard := none }) (v := ?_) rfl (by kernel_rfl) (by kernel_rfl) (by kernel_rfl) (fun _ _ _ h => h) (Or.inl ⟨by rfl, ?_⟩) (by assumption) ?_
          rotate_left
          · intro w' hSw
            (try dsimp only at hSw)
            go_simp
            try with_reducible rfl
          simp only [Act.put, List.setIfInBounds_toArray, List.set_cons_zero, List.set_cons_succ]
          refine wpAnyH_take (i := 2) (oi := { dst := some 100, op := Op.move (Operand.tmp 5), type := 111, pos := "l3_table.go:41", after := #[], guard := none }) (v := ?_) rfl (by kernel_rfl) (by kernel_rfl) (by kernel_rfl) (fun _ _ _ h => h) (Or.inl ⟨by rfl, ?_⟩) (by assumption) ?_
          rotate_left
          · intro w' hSw
            (try dsimp only at hSw)
            go_simp
            try with_reducible rfl
          simp only [Act.put, List.setIfInBounds_toArray, List.set_cons_zero, List.set_cons_succ]
          refine wpAnyH_take (i := 3) (oi := { dst := some 101, op := Op.convert 111 9 (Operand.tmp 100), type := 9, pos := "l3_table.go:41", after := #[{ on := 2, ground := Ground.data }], guard := none }) (v := .string ⟨(tab xs (nbE xs.length)).2.toArray⟩) rfl (by kernel_rfl) (by kernel_rfl) (by kernel_rfl) (fun _ _ _ h => h) (Or.inl ⟨by rfl, ?_⟩) (by assumption) ?_
          · intro w' hSw
            (try dsimp only at hSw)
            go_simp
            try omega
            try (rw [HC.out w' hSw]; rfl)
          simp only [Act.put, List.setIfInBounds_toArray, List.set_cons_zero, List.set_cons_succ]
          refine wpAnyH_ready (rs := [1]) (by kernel_rfl) (by simp) ?_
          refine AllReadyH.cons rfl (fun K hK => ?_) AllReadyH.nil
          go_simp
          refine (HP1.out _).mono ?_
          rintro e w5 ⟨rfl, hb5⟩
          have R15 := hdB (owns_below (w := wr.drew) HR1.out hb5)
          have R25 := owns_below (w := wr.drew) HR2.out hb5
          have HB5 := hdB (HB.out.drew.trans (hb5.mono HB.out.size))
          clear hb5
          refine hK.out _ _ ?_ (fun hHeld => ?_)
          · (try dsimp only)
            first | exact HR2.out | exact R25 | exact R26
          clear hK K
          try simp only [Act.put, List.setIfInBounds_toArray, List.set_cons_zero, List.set_cons_succ]
          refine wpAnyH_take (i := 4) (oi := { dst := some 102, op := Op.binOp BinOp.add 9 (Operand.tmp 99) (Operand.tmp 101) 9, type := 9, pos := "l3_table.go:41", after := #[{ on := 1, ground := Ground.data }, { on := 3, ground := Ground.data }], guard := none }) (v := .string (vtext (nbE xs.length : Nat) ++ ⟨(tab xs (nbE xs.length)).2.toArray⟩)) rfl (by kernel_rfl) (by kernel_rfl) (by kernel_rfl) (fun _ _ _ h => h) (Or.inl ⟨by rfl, ?_⟩) (by assumption) ?_
          · intro w' hSw
            (try dsimp only at hSw)
            go_simp
            try omega
            try (rw [HC.out w' hSw]; rfl)
          simp only [Act.put, List.setIfInBounds_toArray, List.set_cons_zero, List.set_cons_succ]
          refine wpAnyH_ready (rs := [5]) (by kernel_rfl) (by simp) ?_
          refine AllReadyH.cons rfl (fun K hK => ?_) AllReadyH.nil
          go_simp
          refine (HP2.out _).mono ?_
          rintro e w6 ⟨rfl, hb6⟩
          have R16 := hdB (owns_below R15.out hb6)
          have R26 := owns_below R25 hb6
          have HB6 := hdB (HB5.out.trans (hb6.mono HB5.out.size))
          clear hb6
          refine hK.out _ _ ?_ (fun hHeld => ?_)
          · (try dsimp only)
            first | exact HR2.out | exact R25 | exact R26
          clear hK K
          try simp only [Act.put, List.setIfInBounds_toArray, List.set_cons_zero, List.set_cons_succ]
          refine wpAnyH_take (i := 6) (oi := { dst := some 10, op := Op.assign (Operand.tmp 103), type := 9, pos := "l3_table.go:41", after := #[{ on := 5, ground := Ground.data }, { on := 5, ground := Ground.chain }, { on := 0, ground := Ground.phase }, { on := 1, ground := Ground.phase }, { on := 2, ground := Ground.phase }, { on := 3, ground := Ground.phase }, { on := 4, ground := Ground.phase }, { on := 5, ground := Ground.phase }], guard := none }) (v := ?_) rfl (by kernel_rfl) (by kernel_rfl) (by kernel_rfl) (fun _ _ _ h => h) (Or.inl ⟨by rfl, ?_⟩) (by assumption) ?_
          rotate_left
          · intro w' hSw
            (try dsimp only at hSw)
            go_simp
            try with_reducible rfl
          simp only [Act.put, List.setIfInBounds_toArray, List.set_cons_zero, List.set_cons_succ]
          refine wpAnyH_done (by kernel_rfl) ?_ _
          refine NoPanic.normal ?_
          by_cases hz : ix.size = 0
          · have hT := HN.out hz
            clear HN HSm
            go_wp2_with fail
            go_ret
            exact ⟨by first | (rw [hT]; done) | (rw [hT]; rfl), HB6.out⟩
          have hT := HSm.out hz
          clear HN HSm
          replace hT := hdB hT
          go_wp2_with fail
          refine (l2Put_sep w.heap.size _ (tab xs (nbE xs.length)).1 _ w6 R16.out HB6.out.size (by omega)).mono ?_
          rintro e w7 ⟨v7, rfl, hown7, hgr7, -⟩
          have hB7 : Below w.heap.size w6 w7 := hgr7.below (owns_base R16.out) HB6.out.size
          have HB7 := hdB (HB6.out.trans hB7)
          have R17 := hdB hown7
          clear hown7 hgr7 hB7
          go_wp2_with fail
          refine (specPut_any _ _).mono ?_
          rintro e w8 ⟨rfl, hb8⟩
          have HB8 := hdB (HB7.out.trans (hb8.mono HB7.out.size))
          have R18 := hdB (owns_below R17.out hb8)
          clear hb8
          go_wp2_with fail
          refine (specFrame_any 70 _ _ (by have := vtext_size (((tab xs (nbE xs.length)).1.length : Int) / 64); unfold maxLen; omega)).mono ?_
          rintro e w9 ⟨rfl, hb9⟩
          have HB9 := hdB (HB8.out.trans (hb9.mono HB8.out.size))
          have R19 := hdB (owns_below R18.out hb9)
          clear hb9
          have hl3 := frT_le 70 (vtext (((tab xs (nbE xs.length)).1.length : Int) / 64))
          go_wp2_with fail
          refine (l2Put_any w.heap.size _ _ _ _ R19.out HB9.out.size (by rw [List.length_append, dataL]; omega)).mono ?_
          rintro e wa ⟨va, rfl, howna, hba⟩
          have HBa := hdB (HB9.out.trans hba)
          have hcv := conv_rowE howna
          clear hba howna
          go_wp2_with fail
          go_ret
          refine ⟨?_, HBa.out⟩
          have hT2 := hT.out
          rw [show (((tab xs (nbE xs.length)).1.length / 64 : Nat) : Int) = ((tab xs (nbE xs.length)).1.length : Int) / 64 by omega, List.append_assoc] at hT2
          first | (rw [hT2]; done) | (rw [hT2]; rfl)
end Go.Proofs.YtgmfjninimebmaaGreatDoor
