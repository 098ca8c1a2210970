import Derived.Test.YtphikgobdfknkaaGreatDoorApX

import Derived.Deep.RegionHeld3
namespace Go.Proofs.YtphikgobdfknkaaGreatDoor
open Go.RowKit Go.Maps
set_option linter.unusedVariables false
set_option linter.unusedSimpArgs false

theorem owns_sliceT {w : World} {B n size : Nat} {e : TypeId} {v : Value} {xs : List Value} (h : w.ownsRow B e size v n xs) : ∃ a cap, v = .slice a n cap := by
  rcases h.2 with ⟨rfl, h0⟩ | ⟨g, cap, cur, rfl, _⟩
  · exact ⟨none, 0, by rw [h0]⟩
  · exact ⟨_, _, rfl⟩
theorem ResT.mono {w : World} {B B' : Nat} {a : Option Addr} {xs : List Tr} (h : ResT w B a xs) (hb : B' ≤ B) : ResT w B' a xs := by
  rcases h with h | ⟨g, rfl, hg, hr⟩
  · exact .inl h
  · exact .inr ⟨g, rfl, Nat.le_trans hb hg, hr⟩
/-- How far the list is copied: out, then the rest, with t in it or yet to come. -/
def stP (t : Tr) (d : Bool) (out rest : List Tr) : List Tr := if d = true then out ++ rest else out ++ insT t rest
theorem dropT_at (ts : List Tr) (k : Nat) (h : k < ts.length) : ts.drop k = ts.getD k tr0 :: ts.drop (k + 1) := by
  rw [List.drop_eq_getElem_cons h]
  simp [List.getD, h]

set_option maxRecDepth 100000 in
set_option maxHeartbeats 4000000 in
theorem l4Put_any (a : Option Addr) (cap : Nat) (ts : List Tr) (t : Tr) (w : World) (hx : LieT w a ts) (hlen : ts.length ≤ 1048576) :
    Calls Tryz.prog 50 #[.slice a ts.length cap, t.agg] w fun e w' => ∃ a' cap', e = .returned (.slice a' (insT t ts).length cap') ∧ ResT w' w.heap.size a' (insT t ts) ∧ Below w.heap.size w w' := by
  obtain ⟨i0, hi, hz0, hz1, hz2⟩ := info_parts iRef_info
  have HRB := hd (fun x w => refBefore_any t x w)
  have HI0 : Hid (insT t ts = stP t false [] (ts.drop 0)) := by show _ = _; simp [stP]
  have HStep : Hid (∀ k, k < ts.length → insT t (ts.drop k) = if rBef t (ts.getD k tr0) = true then t :: ts.getD k tr0 :: ts.drop (k + 1) else ts.getD k tr0 :: insT t (ts.drop (k + 1))) := fun k hk => by rw [dropT_at ts k hk]; rfl
  have HDrop : Hid (∀ k, k < ts.length → ts.drop k = ts.getD k tr0 :: ts.drop (k + 1)) := fun k hk => dropT_at ts k hk
  have HEnd : Hid (insT t (ts.drop ts.length) = [t] ∧ ts.drop ts.length = []) := by
    refine ⟨?_, ?_⟩ <;> simp [insT]
  generalize insT t ts = R at *
  obtain ⟨n0, l0, lo0, hi0⟩ := t
  have ho0 : ((w.alloc (.cells #[.int .i64 n0, .int .i64 l0, .string lo0, .string hi0] 45)).alloc (.cells #[] 45)).ownsRow (w.heap.size + 1) 45 4 (.slice (some ⟨w.heap.size + 1, 0, none⟩) 0 0) 0 (cellsT []) :=
    ⟨rfl, .inr ⟨w.heap.size + 1, 0, #[], rfl, Nat.le_refl _, by have := World.heap_alloc_new (w.alloc (.cells #[.int .i64 n0, .int .i64 l0, .string lo0, .string hi0] 45)) (.cells #[] 45); simpa using this, Nat.le_refl _, Nat.zero_le _, rfl, rfl⟩⟩
  have hbA : Below w.heap.size w (w.alloc (.cells #[.int .i64 n0, .int .i64 l0, .string lo0, .string hi0] 45)) := (Below.refl _ _).alloc (Nat.le_refl _) _
  have hb0 : Below (w.heap.size + 1) (w.alloc (.cells #[.int .i64 n0, .int .i64 l0, .string lo0, .string hi0] 45)) ((w.alloc (.cells #[.int .i64 n0, .int .i64 l0, .string lo0, .string hi0] 45)).alloc (.cells #[] 45)) := (Below.refl _ _).alloc (by simp) _
  have HBx : Hid ((w.alloc (.cells #[.int .i64 n0, .int .i64 l0, .string lo0, .string hi0] 45)).heap[w.heap.size]? = some (.cells #[.int .i64 n0, .int .i64 l0, .string lo0, .string hi0] 45 (0, 0))) := World.heap_alloc_new _ _
  have hxA := hx.below hbA
  go_enter Tryz.func50, Tryz.ntmps50
  go_wp2_with fail
  go_loopw [5, 6, 7] (fun v dn i wr => ∃ (k : Nat) (out : List Tr) (d : Bool), i = .int .i64 k ∧ dn = .bool d ∧ k ≤ ts.length ∧ Hid (R = stP ⟨n0, l0, lo0, hi0⟩ d out (ts.drop k)) ∧ out.length ≤ k + d.toNat ∧ wr.ownsRow (w.heap.size + 1) 45 4 v out.length (cellsT out) ∧ Below (w.heap.size + 1) (w.alloc (.cells #[.int .i64 n0, .int .i64 l0, .string lo0, .string hi0] 45)) wr) (fun _ _ i _ => ts.length - (intOf i).toNat)
  case atStart => exact ⟨0, [], false, rfl, rfl, Nat.zero_le _, HI0.out, Nat.zero_le _, ho0, hb0⟩
  case round =>
    clear ho0 hb0 HI0
    obtain ⟨k, out, d, rfl, rfl, hk, HRk, hol, hown, hb⟩ := hrel
    obtain ⟨av, cv, rfl⟩ := owns_sliceT hown
    have hol2 : out.length ≤ 1048578 := by
      have hdn : d.toNat ≤ 1 := by cases d <;> decide
      omega
    have hbs := hb.size
    rw [size_alloc] at hbs
    have hbx : w.heap.size < wr.heap.size := by omega
    obtain ⟨t0, t1, t2, t3⟩ := four_cells ((hb.block w.heap.size (by omega)).trans HBx.out)
    have HO := hd hown
    have HB := hd hb
    by_cases hlt : k < ts.length
    · obtain ⟨b, off, rfl, hbA', cA0, cA1, cA2, cA3⟩ := hxA.at hlt
      rw [size_alloc] at hbA'
      have c0 := (hb.cell (p := ⟨b, _, none⟩) hbA').trans cA0
      have c1 := (hb.cell (p := ⟨b, _, none⟩) hbA').trans cA1
      have c2 := (hb.cell (p := ⟨b, _, none⟩) hbA').trans cA2
      have c3 := (hb.cell (p := ⟨b, _, none⟩) hbA').trans cA3
      have hbl : b < wr.heap.size := by omega
      have hik : (k : Int) < (ts.length : Int) := by omega
      have hSt := hd (HStep.out k hlt)
      have hDr := hd (HDrop.out k hlt)
      have HR := hd (HRB.out (ts.getD k tr0))
      clear hown hb
      cases d with
      | true =>
        have HRn : Hid (R = stP ⟨n0, l0, lo0, hi0⟩ true (out ++ [ts.getD k tr0]) (ts.drop (k + 1))) := by show _ = _; rw [HRk.out, hDr.out]; simp [stP]
        clear HRk hSt hDr
        generalize ts.getD k tr0 = f at *
        obtain ⟨n1, l1, lo1, hi1⟩ := f
        dsimp only at *
        go_wp2_with fail
        refine wp_region_noPanic ?_
        refine wp_region_held_drew (S := (fun w' => w'.cell? ⟨w.heap.size, 0, none⟩ = some (.int .i64 n0) ∧ w'.cell? ⟨w.heap.size, 1, none⟩ = some (.int .i64 l0) ∧ w'.cell? ⟨w.heap.size, 2, none⟩ = some (.string lo0) ∧ w'.cell? ⟨w.heap.size, 3, none⟩ = some (.string hi0) ∧ w'.cell? ⟨b, off + k * 4, none⟩ = some (.int .i64 n1) ∧ w'.cell? ⟨b, off + k * 4 + 1, none⟩ = some (.int .i64 l1) ∧ w'.cell? ⟨b, off + k * 4 + 2, none⟩ = some (.string lo1) ∧ w'.cell? ⟨b, off + k * 4 + 3, none⟩ = some (.string hi1))) (by kernel_rfl) ?_ (fun hHeld => ?_)
        · (try dsimp only)
          (simp [go_sem, *])
        refine wpAnyH_take (i := 0) (oi := { dst := some 15, op := Op.move (Operand.tmp 6), type := 4, pos := "l4_manifest.go:127", after := #[], guard := none }) (v := ?_) rfl (by kernel_rfl) (by kernel_rfl) (by kernel_rfl) (fun _ _ _ h => h) (Or.inl ⟨by rfl, ?_⟩) (by assumption) ?_
        rotate_left
        · intro w' hSw
          (try dsimp only at hSw)
          go_simp
          try with_reducible rfl
        simp only [Act.put, List.setIfInBounds_toArray, List.set_cons_zero, List.set_cons_succ]
        refine wpAnyH_take (i := 1) (oi := { dst := some 16, op := Op.unOp UnOp.not 4 (Operand.tmp 15), type := 4, pos := "l4_manifest.go:127", after := #[{ on := 0, ground := Ground.data }], guard := none }) (v := ?_) rfl (by kernel_rfl) (by kernel_rfl) (by kernel_rfl) (fun _ _ _ h => h) (Or.inl ⟨by rfl, ?_⟩) (by assumption) ?_
        rotate_left
        · intro w' hSw
          (try dsimp only at hSw)
          go_simp
          try with_reducible rfl
        simp only [Act.put, List.setIfInBounds_toArray, List.set_cons_zero, List.set_cons_succ]
        refine wpAnyH_take (i := 2) (oi := { dst := some 17, op := Op.move (Operand.tmp 16), type := 4, pos := "l4_manifest.go:127", after := #[{ on := 1, ground := Ground.data }], guard := none }) (v := ?_) rfl (by kernel_rfl) (by kernel_rfl) (by kernel_rfl) (fun _ _ _ h => h) (Or.inl ⟨by rfl, ?_⟩) (by assumption) ?_
        rotate_left
        · intro w' hSw
          (try dsimp only at hSw)
          go_simp
          try with_reducible rfl
        simp only [Act.put, List.setIfInBounds_toArray, List.set_cons_zero, List.set_cons_succ]
        refine wpAnyH_take (i := 3) (oi := { dst := some 18, op := Op.load 45 (Operand.tmp 3), type := 45, pos := "l4_manifest.go:127", after := #[{ on := 2, ground := Ground.guard }], guard := some (2, true) }) (v := undef) rfl (by kernel_rfl) (by kernel_rfl) (by kernel_rfl) (fun _ _ _ h => h) (Or.inr ⟨by rfl, rfl⟩) (by assumption) ?_
        simp only [Act.put, List.setIfInBounds_toArray, List.set_cons_zero, List.set_cons_succ]
        refine wpAnyH_take (i := 4) (oi := { dst := some 19, op := Op.move (Operand.tmp 0), type := 38, pos := "l4_manifest.go:127", after := #[{ on := 2, ground := Ground.guard }], guard := some (2, true) }) (v := undef) rfl (by kernel_rfl) (by kernel_rfl) (by kernel_rfl) (fun _ _ _ h => h) (Or.inr ⟨by rfl, rfl⟩) (by assumption) ?_
        simp only [Act.put, List.setIfInBounds_toArray, List.set_cons_zero, List.set_cons_succ]
        refine wpAnyH_take (i := 5) (oi := { dst := some 20, op := Op.move (Operand.tmp 7), type := 3, pos := "l4_manifest.go:127", after := #[{ on := 2, ground := Ground.guard }], guard := some (2, true) }) (v := undef) rfl (by kernel_rfl) (by kernel_rfl) (by kernel_rfl) (fun _ _ _ h => h) (Or.inr ⟨by rfl, rfl⟩) (by assumption) ?_
        simp only [Act.put, List.setIfInBounds_toArray, List.set_cons_zero, List.set_cons_succ]
        refine wpAnyH_take (i := 6) (oi := { dst := some 21, op := Op.indexAddr 38 (Operand.tmp 19) (Operand.tmp 20), type := 0, pos := "l4_manifest.go:127", after := #[{ on := 4, ground := Ground.data }, { on := 5, ground := Ground.data }, { on := 2, ground := Ground.guard }], guard := some (2, true) }) (v := undef) rfl (by kernel_rfl) (by kernel_rfl) (by kernel_rfl) (fun _ _ _ h => h) (Or.inr ⟨by rfl, rfl⟩) (by assumption) ?_
        simp only [Act.put, List.setIfInBounds_toArray, List.set_cons_zero, List.set_cons_succ]
        refine wpAnyH_take (i := 7) (oi := { dst := some 22, op := Op.load 45 (Operand.tmp 21), type := 45, pos := "l4_manifest.go:127", after := #[{ on := 6, ground := Ground.data }, { on := 2, ground := Ground.guard }], guard := some (2, true) }) (v := undef) rfl (by kernel_rfl) (by kernel_rfl) (by kernel_rfl) (fun _ _ _ h => h) (Or.inr ⟨by rfl, rfl⟩) (by assumption) ?_
        simp only [Act.put, List.setIfInBounds_toArray, List.set_cons_zero, List.set_cons_succ]
        refine wpAnyH_take (i := 8) (oi := { dst := some 23, op := Op.call { callee := Callee.value (Operand.func 79), args := #[Operand.tmp 18, Operand.tmp 22], argTypes := #[45, 45] }, type := 4, pos := "l4_manifest.go:127", after := #[{ on := 3, ground := Ground.data }, { on := 7, ground := Ground.data }, { on := 2, ground := Ground.chain }, { on := 2, ground := Ground.guard }], guard := some (2, true) }) (v := undef) rfl (by kernel_rfl) (by kernel_rfl) (by kernel_rfl) (fun _ _ _ h => h) (Or.inr ⟨by rfl, rfl⟩) (by assumption) ?_
        simp only [Act.put, List.setIfInBounds_toArray, List.set_cons_zero, List.set_cons_succ]
        refine wpAnyH_take (i := 9) (oi := { dst := some 24, op := Op.pick (Operand.tmp 17) (Operand.tmp 23) (Operand.const (Value.bool false)), type := 4, pos := "l4_manifest.go:127", after := #[{ on := 2, ground := Ground.data }, { on := 8, ground := Ground.data }], guard := none }) (v := ?_) rfl (by kernel_rfl) (by kernel_rfl) (by kernel_rfl) (fun _ _ _ h => h) (Or.inl ⟨by rfl, ?_⟩) (by assumption) ?_
        rotate_left
        · intro w' hSw
          (try dsimp only at hSw)
          go_simp
          try with_reducible rfl
        simp only [Act.put, List.setIfInBounds_toArray, List.set_cons_zero, List.set_cons_succ]
        refine wpAnyH_done (by kernel_rfl) ?_ _
        refine NoPanic.normal ?_
        go_wp2_with (at_builtin; refine wpList_append_own _ rfl _ _ 38 rfl (w.heap.size + 1) 45 i0 _ 4 48 Tryz.underlying38 hi hz0 hz1 hz2 rfl (by decide) _ _ _ rfl (HO.out.alloc _) ⟨wr.heap.size, 0, none⟩ 1 1 [.int .i64 n1, .int .i64 l1, .string lo1, .string hi1] rfl rfl (cell_first4 _ _ _ _ _ _) (fun x hx => by simp at hx; rcases hx with rfl | rfl | rfl | rfl <;> rfl) (by unfold maxLen; omega) (by omega) (by first | omega | (simp; omega)) ?_; intro v8 w8 hown8 hgrow hnil)
        have HB8 := hd ((HB.out.drew.alloc (by first | omega | (simp; omega)) (.cells #[.int .i64 n1, .int .i64 l1, .string lo1, .string hi1] 45)).grown hgrow (by first | omega | (simp; omega)) (owns_base HO.out))
        refine ⟨⟨k + 1, out ++ [⟨n1, l1, lo1, hi1⟩], true, by simp, rfl, by omega, HRn, by simp at hol ⊢; omega, ?_, HB8.out⟩, by simp only [intOf]; omega⟩
        rw [cellsT_snoc, List.length_append]
        exact hown8
      | false =>
        cases hbf : rBef ⟨n0, l0, lo0, hi0⟩ (ts.getD k tr0) with
        | true =>
          have HRn : Hid (R = stP ⟨n0, l0, lo0, hi0⟩ true ((out ++ [⟨n0, l0, lo0, hi0⟩]) ++ [ts.getD k tr0]) (ts.drop (k + 1))) := by show _ = _; rw [HRk.out]; unfold stP; rw [if_neg (by simp), hSt.out, if_pos hbf]; simp
          rw [hbf] at HR
          clear HRk hSt hDr hbf
          generalize ts.getD k tr0 = f at *
          obtain ⟨n1, l1, lo1, hi1⟩ := f
          dsimp only at *
          go_wp2_with fail
          refine wp_region_noPanic ?_
          refine wp_region_held_drew (S := (fun w' => w'.cell? ⟨w.heap.size, 0, none⟩ = some (.int .i64 n0) ∧ w'.cell? ⟨w.heap.size, 1, none⟩ = some (.int .i64 l0) ∧ w'.cell? ⟨w.heap.size, 2, none⟩ = some (.string lo0) ∧ w'.cell? ⟨w.heap.size, 3, none⟩ = some (.string hi0) ∧ w'.cell? ⟨b, off + k * 4, none⟩ = some (.int .i64 n1) ∧ w'.cell? ⟨b, off + k * 4 + 1, none⟩ = some (.int .i64 l1) ∧ w'.cell? ⟨b, off + k * 4 + 2, none⟩ = some (.string lo1) ∧ w'.cell? ⟨b, off + k * 4 + 3, none⟩ = some (.string hi1))) (by kernel_rfl) ?_ (fun hHeld => ?_)
          · (try dsimp only)
            (simp [go_sem, *])
          refine wpAnyH_take (i := 0) (oi := { dst := some 15, op := Op.move (Operand.tmp 6), type := 4, pos := "l4_manifest.go:127", after := #[], guard := none }) (v := ?_) rfl (by kernel_rfl) (by kernel_rfl) (by kernel_rfl) (fun _ _ _ h => h) (Or.inl ⟨by rfl, ?_⟩) (by assumption) ?_
          rotate_left
          · intro w' hSw
            (try dsimp only at hSw)
            go_simp
            try with_reducible rfl
          simp only [Act.put, List.setIfInBounds_toArray, List.set_cons_zero, List.set_cons_succ]
          refine wpAnyH_take (i := 1) (oi := { dst := some 16, op := Op.unOp UnOp.not 4 (Operand.tmp 15), type := 4, pos := "l4_manifest.go:127", after := #[{ on := 0, ground := Ground.data }], guard := none }) (v := ?_) rfl (by kernel_rfl) (by kernel_rfl) (by kernel_rfl) (fun _ _ _ h => h) (Or.inl ⟨by rfl, ?_⟩) (by assumption) ?_
          rotate_left
          · intro w' hSw
            (try dsimp only at hSw)
            go_simp
            try with_reducible rfl
          simp only [Act.put, List.setIfInBounds_toArray, List.set_cons_zero, List.set_cons_succ]
          refine wpAnyH_take (i := 2) (oi := { dst := some 17, op := Op.move (Operand.tmp 16), type := 4, pos := "l4_manifest.go:127", after := #[{ on := 1, ground := Ground.data }], guard := none }) (v := ?_) rfl (by kernel_rfl) (by kernel_rfl) (by kernel_rfl) (fun _ _ _ h => h) (Or.inl ⟨by rfl, ?_⟩) (by assumption) ?_
          rotate_left
          · intro w' hSw
            (try dsimp only at hSw)
            go_simp
            try with_reducible rfl
          simp only [Act.put, List.setIfInBounds_toArray, List.set_cons_zero, List.set_cons_succ]
          refine wpAnyH_take (i := 3) (oi := { dst := some 18, op := Op.load 45 (Operand.tmp 3), type := 45, pos := "l4_manifest.go:127", after := #[{ on := 2, ground := Ground.guard }], guard := some (2, true) }) (v := ?_) rfl (by kernel_rfl) (by kernel_rfl) (by kernel_rfl) (fun _ _ _ h => h) (Or.inl ⟨by rfl, ?_⟩) (by assumption) ?_
          rotate_left
          · intro w' hSw
            (try dsimp only at hSw)
            go_simp
            try with_reducible rfl
          simp only [Act.put, List.setIfInBounds_toArray, List.set_cons_zero, List.set_cons_succ]
          refine wpAnyH_take (i := 4) (oi := { dst := some 19, op := Op.move (Operand.tmp 0), type := 38, pos := "l4_manifest.go:127", after := #[{ on := 2, ground := Ground.guard }], guard := some (2, true) }) (v := ?_) rfl (by kernel_rfl) (by kernel_rfl) (by kernel_rfl) (fun _ _ _ h => h) (Or.inl ⟨by rfl, ?_⟩) (by assumption) ?_
          rotate_left
          · intro w' hSw
            (try dsimp only at hSw)
            go_simp
            try with_reducible rfl
          simp only [Act.put, List.setIfInBounds_toArray, List.set_cons_zero, List.set_cons_succ]
          refine wpAnyH_take (i := 5) (oi := { dst := some 20, op := Op.move (Operand.tmp 7), type := 3, pos := "l4_manifest.go:127", after := #[{ on := 2, ground := Ground.guard }], guard := some (2, true) }) (v := ?_) rfl (by kernel_rfl) (by kernel_rfl) (by kernel_rfl) (fun _ _ _ h => h) (Or.inl ⟨by rfl, ?_⟩) (by assumption) ?_
          rotate_left
          · intro w' hSw
            (try dsimp only at hSw)
            go_simp
            try with_reducible rfl
          simp only [Act.put, List.setIfInBounds_toArray, List.set_cons_zero, List.set_cons_succ]
          refine wpAnyH_take (i := 6) (oi := { dst := some 21, op := Op.indexAddr 38 (Operand.tmp 19) (Operand.tmp 20), type := 0, pos := "l4_manifest.go:127", after := #[{ on := 4, ground := Ground.data }, { on := 5, ground := Ground.data }, { on := 2, ground := Ground.guard }], guard := some (2, true) }) (v := ?_) rfl (by kernel_rfl) (by kernel_rfl) (by kernel_rfl) (fun _ _ _ h => h) (Or.inl ⟨by rfl, ?_⟩) (by assumption) ?_
          rotate_left
          · intro w' hSw
            (try dsimp only at hSw)
            go_simp
            try with_reducible rfl
          simp only [Act.put, List.setIfInBounds_toArray, List.set_cons_zero, List.set_cons_succ]
          refine wpAnyH_take (i := 7) (oi := { dst := some 22, op := Op.load 45 (Operand.tmp 21), type := 45, pos := "l4_manifest.go:127", after := #[{ on := 6, ground := Ground.data }, { on := 2, ground := Ground.guard }], guard := some (2, true) }) (v := ?_) rfl (by kernel_rfl) (by kernel_rfl) (by kernel_rfl) (fun _ _ _ h => h) (Or.inl ⟨by rfl, ?_⟩) (by assumption) ?_
          rotate_left
          · intro w' hSw
            (try dsimp only at hSw)
            go_simp
            try with_reducible rfl
          simp only [Act.put, List.setIfInBounds_toArray, List.set_cons_zero, List.set_cons_succ]
          refine wpAnyH_ready (rs := [8]) (by kernel_rfl) (by simp) ?_
          refine AllReadyH.cons rfl (fun K hK => ?_) AllReadyH.nil
          go_simp
          refine (HR.out _).mono ?_
          rintro e w1 ⟨rfl, hb1⟩
          have p0 := (hb1.cell (p := ⟨w.heap.size, _, none⟩) hbx).trans t0
          have p1 := (hb1.cell (p := ⟨w.heap.size, _, none⟩) hbx).trans t1
          have p2 := (hb1.cell (p := ⟨w.heap.size, _, none⟩) hbx).trans t2
          have p3 := (hb1.cell (p := ⟨w.heap.size, _, none⟩) hbx).trans t3
          have q0 := (hb1.cell (p := ⟨b, _, none⟩) hbl).trans c0
          have q1 := (hb1.cell (p := ⟨b, _, none⟩) hbl).trans c1
          have q2 := (hb1.cell (p := ⟨b, _, none⟩) hbl).trans c2
          have q3 := (hb1.cell (p := ⟨b, _, none⟩) hbl).trans c3
          have HO1 := hd (owns_below (w := wr.drew) HO.out hb1)
          have HB1 := hd (HB.out.drew.trans (hb1.mono hbs))
          have hs1 := Nat.le_trans hbs hb1.size
          clear hb1
          refine hK.out _ _ ?_ (fun hHeld => ?_)
          · (try dsimp only)
            (simp [go_sem, *])
          clear hK K
          try simp only [Act.put, List.setIfInBounds_toArray, List.set_cons_zero, List.set_cons_succ]
          refine wpAnyH_take (i := 9) (oi := { dst := some 24, op := Op.pick (Operand.tmp 17) (Operand.tmp 23) (Operand.const (Value.bool false)), type := 4, pos := "l4_manifest.go:127", after := #[{ on := 2, ground := Ground.data }, { on := 8, ground := Ground.data }], guard := none }) (v := ?_) rfl (by kernel_rfl) (by kernel_rfl) (by kernel_rfl) (fun _ _ _ h => h) (Or.inl ⟨by rfl, ?_⟩) (by assumption) ?_
          rotate_left
          · intro w' hSw
            (try dsimp only at hSw)
            go_simp
            try with_reducible rfl
          simp only [Act.put, List.setIfInBounds_toArray, List.set_cons_zero, List.set_cons_succ]
          refine wpAnyH_done (by kernel_rfl) ?_ _
          refine NoPanic.normal ?_
          go_wp2_with (first
            | (at_builtin; have _t := HB8; refine wpList_append_own _ rfl _ _ 38 rfl (w.heap.size + 1) 45 i0 _ 4 48 Tryz.underlying38 hi hz0 hz1 hz2 rfl (by decide) _ _ _ rfl (HO8.out.alloc _) ⟨w8.heap.size, 0, none⟩ 1 1 [.int .i64 n1, .int .i64 l1, .string lo1, .string hi1] rfl rfl (cell_first4 _ _ _ _ _ _) (fun x hx => by simp at hx; rcases hx with rfl | rfl | rfl | rfl <;> rfl) (by unfold maxLen; omega) (by omega) (by first | omega | (simp; omega)) ?_; intro v9 w9 hown9 hgrow9 hnil9; clear _t)
            | (at_builtin; refine wpList_append_own _ rfl _ _ 38 rfl (w.heap.size + 1) 45 i0 _ 4 48 Tryz.underlying38 hi hz0 hz1 hz2 rfl (by decide) _ _ _ rfl (HO1.out.alloc _) ⟨w1.heap.size, 0, none⟩ 1 1 [.int .i64 n0, .int .i64 l0, .string lo0, .string hi0] rfl rfl (cell_first4 _ _ _ _ _ _) (fun x hx => by simp at hx; rcases hx with rfl | rfl | rfl | rfl <;> rfl) (by unfold maxLen; omega) (by omega) (by first | omega | (simp; omega)) ?_; intro v8 w8 hown8 hgrow hnil; have HB8 := hd ((HB1.out.alloc (by first | omega | (simp; omega)) (.cells #[.int .i64 n0, .int .i64 l0, .string lo0, .string hi0] 45)).grown hgrow (by first | omega | (simp; omega)) (owns_base HO1.out)); have e0 := (HB8.out.cell (p := ⟨b, _, none⟩) hbA').trans cA0; have e1 := (HB8.out.cell (p := ⟨b, _, none⟩) hbA').trans cA1; have e2 := (HB8.out.cell (p := ⟨b, _, none⟩) hbA').trans cA2; have e3 := (HB8.out.cell (p := ⟨b, _, none⟩) hbA').trans cA3; have hs8 : w.heap.size + 1 ≤ w8.heap.size := (by have h := HB8.out.size; rw [size_alloc] at h; exact h); have HO8 : Hid (w8.ownsRow (w.heap.size + 1) 45 4 v8 (out.length + 1) (cellsT (out ++ [⟨n0, l0, lo0, hi0⟩]))) := (by rw [cellsT_snoc]; exact hown8); clear hown8 hgrow hnil))
          have HB9 := hd ((HB8.out.alloc (by omega) (.cells #[.int .i64 n1, .int .i64 l1, .string lo1, .string hi1] 45)).grown hgrow9 (by simp; omega) (owns_base HO8.out))
          refine ⟨⟨k + 1, (out ++ [⟨n0, l0, lo0, hi0⟩]) ++ [⟨n1, l1, lo1, hi1⟩], true, by simp, rfl, by omega, HRn, by simp at hol ⊢; omega, ?_, HB9.out⟩, by simp only [intOf]; omega⟩
          rw [cellsT_snoc, List.length_append, List.length_append]
          exact hown9
        | false =>
          have HRn : Hid (R = stP ⟨n0, l0, lo0, hi0⟩ false (out ++ [ts.getD k tr0]) (ts.drop (k + 1))) := by show _ = _; rw [HRk.out]; unfold stP; rw [if_neg (by simp), hSt.out, if_neg (by rw [hbf]; simp), if_neg (by simp)]; simp
          rw [hbf] at HR
          clear HRk hSt hDr hbf
          generalize ts.getD k tr0 = f at *
          obtain ⟨n1, l1, lo1, hi1⟩ := f
          dsimp only at *
          go_wp2_with fail
          refine wp_region_noPanic ?_
          refine wp_region_held_drew (S := (fun w' => w'.cell? ⟨w.heap.size, 0, none⟩ = some (.int .i64 n0) ∧ w'.cell? ⟨w.heap.size, 1, none⟩ = some (.int .i64 l0) ∧ w'.cell? ⟨w.heap.size, 2, none⟩ = some (.string lo0) ∧ w'.cell? ⟨w.heap.size, 3, none⟩ = some (.string hi0) ∧ w'.cell? ⟨b, off + k * 4, none⟩ = some (.int .i64 n1) ∧ w'.cell? ⟨b, off + k * 4 + 1, none⟩ = some (.int .i64 l1) ∧ w'.cell? ⟨b, off + k * 4 + 2, none⟩ = some (.string lo1) ∧ w'.cell? ⟨b, off + k * 4 + 3, none⟩ = some (.string hi1))) (by kernel_rfl) ?_ (fun hHeld => ?_)
          · (try dsimp only)
            (simp [go_sem, *])
          refine wpAnyH_take (i := 0) (oi := { dst := some 15, op := Op.move (Operand.tmp 6), type := 4, pos := "l4_manifest.go:127", after := #[], guard := none }) (v := ?_) rfl (by kernel_rfl) (by kernel_rfl) (by kernel_rfl) (fun _ _ _ h => h) (Or.inl ⟨by rfl, ?_⟩) (by assumption) ?_
          rotate_left
          · intro w' hSw
            (try dsimp only at hSw)
            go_simp
            try with_reducible rfl
          simp only [Act.put, List.setIfInBounds_toArray, List.set_cons_zero, List.set_cons_succ]
          refine wpAnyH_take (i := 1) (oi := { dst := some 16, op := Op.unOp UnOp.not 4 (Operand.tmp 15), type := 4, pos := "l4_manifest.go:127", after := #[{ on := 0, ground := Ground.data }], guard := none }) (v := ?_) rfl (by kernel_rfl) (by kernel_rfl) (by kernel_rfl) (fun _ _ _ h => h) (Or.inl ⟨by rfl, ?_⟩) (by assumption) ?_
          rotate_left
          · intro w' hSw
            (try dsimp only at hSw)
            go_simp
            try with_reducible rfl
          simp only [Act.put, List.setIfInBounds_toArray, List.set_cons_zero, List.set_cons_succ]
          refine wpAnyH_take (i := 2) (oi := { dst := some 17, op := Op.move (Operand.tmp 16), type := 4, pos := "l4_manifest.go:127", after := #[{ on := 1, ground := Ground.data }], guard := none }) (v := ?_) rfl (by kernel_rfl) (by kernel_rfl) (by kernel_rfl) (fun _ _ _ h => h) (Or.inl ⟨by rfl, ?_⟩) (by assumption) ?_
          rotate_left
          · intro w' hSw
            (try dsimp only at hSw)
            go_simp
            try with_reducible rfl
          simp only [Act.put, List.setIfInBounds_toArray, List.set_cons_zero, List.set_cons_succ]
          refine wpAnyH_take (i := 3) (oi := { dst := some 18, op := Op.load 45 (Operand.tmp 3), type := 45, pos := "l4_manifest.go:127", after := #[{ on := 2, ground := Ground.guard }], guard := some (2, true) }) (v := ?_) rfl (by kernel_rfl) (by kernel_rfl) (by kernel_rfl) (fun _ _ _ h => h) (Or.inl ⟨by rfl, ?_⟩) (by assumption) ?_
          rotate_left
          · intro w' hSw
            (try dsimp only at hSw)
            go_simp
            try with_reducible rfl
          simp only [Act.put, List.setIfInBounds_toArray, List.set_cons_zero, List.set_cons_succ]
          refine wpAnyH_take (i := 4) (oi := { dst := some 19, op := Op.move (Operand.tmp 0), type := 38, pos := "l4_manifest.go:127", after := #[{ on := 2, ground := Ground.guard }], guard := some (2, true) }) (v := ?_) rfl (by kernel_rfl) (by kernel_rfl) (by kernel_rfl) (fun _ _ _ h => h) (Or.inl ⟨by rfl, ?_⟩) (by assumption) ?_
          rotate_left
          · intro w' hSw
            (try dsimp only at hSw)
            go_simp
            try with_reducible rfl
          simp only [Act.put, List.setIfInBounds_toArray, List.set_cons_zero, List.set_cons_succ]
          refine wpAnyH_take (i := 5) (oi := { dst := some 20, op := Op.move (Operand.tmp 7), type := 3, pos := "l4_manifest.go:127", after := #[{ on := 2, ground := Ground.guard }], guard := some (2, true) }) (v := ?_) rfl (by kernel_rfl) (by kernel_rfl) (by kernel_rfl) (fun _ _ _ h => h) (Or.inl ⟨by rfl, ?_⟩) (by assumption) ?_
          rotate_left
          · intro w' hSw
            (try dsimp only at hSw)
            go_simp
            try with_reducible rfl
          simp only [Act.put, List.setIfInBounds_toArray, List.set_cons_zero, List.set_cons_succ]
          refine wpAnyH_take (i := 6) (oi := { dst := some 21, op := Op.indexAddr 38 (Operand.tmp 19) (Operand.tmp 20), type := 0, pos := "l4_manifest.go:127", after := #[{ on := 4, ground := Ground.data }, { on := 5, ground := Ground.data }, { on := 2, ground := Ground.guard }], guard := some (2, true) }) (v := ?_) rfl (by kernel_rfl) (by kernel_rfl) (by kernel_rfl) (fun _ _ _ h => h) (Or.inl ⟨by rfl, ?_⟩) (by assumption) ?_
          rotate_left
          · intro w' hSw
            (try dsimp only at hSw)
            go_simp
            try with_reducible rfl
          simp only [Act.put, List.setIfInBounds_toArray, List.set_cons_zero, List.set_cons_succ]
          refine wpAnyH_take (i := 7) (oi := { dst := some 22, op := Op.load 45 (Operand.tmp 21), type := 45, pos := "l4_manifest.go:127", after := #[{ on := 6, ground := Ground.data }, { on := 2, ground := Ground.guard }], guard := some (2, true) }) (v := ?_) rfl (by kernel_rfl) (by kernel_rfl) (by kernel_rfl) (fun _ _ _ h => h) (Or.inl ⟨by rfl, ?_⟩) (by assumption) ?_
          rotate_left
          · intro w' hSw
            (try dsimp only at hSw)
            go_simp
            try with_reducible rfl
          simp only [Act.put, List.setIfInBounds_toArray, List.set_cons_zero, List.set_cons_succ]
          refine wpAnyH_ready (rs := [8]) (by kernel_rfl) (by simp) ?_
          refine AllReadyH.cons rfl (fun K hK => ?_) AllReadyH.nil
          go_simp
          refine (HR.out _).mono ?_
          rintro e w1 ⟨rfl, hb1⟩
          have p0 := (hb1.cell (p := ⟨w.heap.size, _, none⟩) hbx).trans t0
          have p1 := (hb1.cell (p := ⟨w.heap.size, _, none⟩) hbx).trans t1
          have p2 := (hb1.cell (p := ⟨w.heap.size, _, none⟩) hbx).trans t2
          have p3 := (hb1.cell (p := ⟨w.heap.size, _, none⟩) hbx).trans t3
          have q0 := (hb1.cell (p := ⟨b, _, none⟩) hbl).trans c0
          have q1 := (hb1.cell (p := ⟨b, _, none⟩) hbl).trans c1
          have q2 := (hb1.cell (p := ⟨b, _, none⟩) hbl).trans c2
          have q3 := (hb1.cell (p := ⟨b, _, none⟩) hbl).trans c3
          have HO1 := hd (owns_below (w := wr.drew) HO.out hb1)
          have HB1 := hd (HB.out.drew.trans (hb1.mono hbs))
          have hs1 := Nat.le_trans hbs hb1.size
          clear hb1
          refine hK.out _ _ ?_ (fun hHeld => ?_)
          · (try dsimp only)
            (simp [go_sem, *])
          clear hK K
          try simp only [Act.put, List.setIfInBounds_toArray, List.set_cons_zero, List.set_cons_succ]
          refine wpAnyH_take (i := 9) (oi := { dst := some 24, op := Op.pick (Operand.tmp 17) (Operand.tmp 23) (Operand.const (Value.bool false)), type := 4, pos := "l4_manifest.go:127", after := #[{ on := 2, ground := Ground.data }, { on := 8, ground := Ground.data }], guard := none }) (v := ?_) rfl (by kernel_rfl) (by kernel_rfl) (by kernel_rfl) (fun _ _ _ h => h) (Or.inl ⟨by rfl, ?_⟩) (by assumption) ?_
          rotate_left
          · intro w' hSw
            (try dsimp only at hSw)
            go_simp
            try with_reducible rfl
          simp only [Act.put, List.setIfInBounds_toArray, List.set_cons_zero, List.set_cons_succ]
          refine wpAnyH_done (by kernel_rfl) ?_ _
          refine NoPanic.normal ?_
          go_wp2_with (at_builtin; refine wpList_append_own _ rfl _ _ 38 rfl (w.heap.size + 1) 45 i0 _ 4 48 Tryz.underlying38 hi hz0 hz1 hz2 rfl (by decide) _ _ _ rfl (HO1.out.alloc _) ⟨w1.heap.size, 0, none⟩ 1 1 [.int .i64 n1, .int .i64 l1, .string lo1, .string hi1] rfl rfl (cell_first4 _ _ _ _ _ _) (fun x hx => by simp at hx; rcases hx with rfl | rfl | rfl | rfl <;> rfl) (by unfold maxLen; omega) (by omega) (by first | omega | (simp; omega)) ?_; intro v8 w8 hown8 hgrow hnil)
          have HB8 := hd ((HB1.out.alloc (by first | omega | (simp; omega)) (.cells #[.int .i64 n1, .int .i64 l1, .string lo1, .string hi1] 45)).grown hgrow (by first | omega | (simp; omega)) (owns_base HO1.out))
          refine ⟨⟨k + 1, out ++ [⟨n1, l1, lo1, hi1⟩], false, by simp, rfl, by omega, HRn, by simp at hol ⊢; omega, ?_, HB8.out⟩, by simp only [intOf]; omega⟩
          rw [cellsT_snoc, List.length_append]
          exact hown8
    · obtain rfl : k = ts.length := by omega
      have hij : ¬ (ts.length : Int) < (ts.length : Int) := by omega
      cases d with
      | true =>
        have hR : R = out := by rw [HRk.out, HEnd.out.2]; simp [stP]
        subst hR
        obtain ⟨-, a9, c9, e9, hres⟩ := resT_of_owns HO.out
        injection e9 with f1 f2 f3
        subst f1
        subst f3
        go_wp2_with fail
        go_ret
        first | exact ⟨_, ⟨_, rfl⟩, hres.mono (by omega), hbA.trans (HB.out.mono (by omega))⟩ | exact ⟨_, _, rfl, hres.mono (by omega), hbA.trans (HB.out.mono (by omega))⟩
      | false =>
        have hR : R = out ++ [⟨n0, l0, lo0, hi0⟩] := by rw [HRk.out]; unfold stP; rw [if_neg (by simp), HEnd.out.1]
        clear hown hb
        go_wp2_with (at_builtin; refine wpList_append_own _ rfl _ _ 38 rfl (w.heap.size + 1) 45 i0 _ 4 48 Tryz.underlying38 hi hz0 hz1 hz2 rfl (by decide) _ _ _ rfl (HO.out.alloc _) ⟨wr.heap.size, 0, none⟩ 1 1 [.int .i64 n0, .int .i64 l0, .string lo0, .string hi0] rfl rfl (cell_first4 _ _ _ _ _ _) (fun x hx => by simp at hx; rcases hx with rfl | rfl | rfl | rfl <;> rfl) (by unfold maxLen; omega) (by omega) (by first | omega | (simp; omega)) ?_; intro v8 w8 hown8 hgrow hnil)
        have hB8 := (HB.out.alloc (by first | omega | (simp; omega)) (.cells #[.int .i64 n0, .int .i64 l0, .string lo0, .string hi0] 45)).grown hgrow (by first | omega | (simp; omega)) (owns_base HO.out)
        have hown9 : w8.ownsRow (w.heap.size + 1) 45 4 v8 (out ++ [(⟨n0, l0, lo0, hi0⟩ : Tr)]).length (cellsT (out ++ [(⟨n0, l0, lo0, hi0⟩ : Tr)])) := by rw [cellsT_snoc, List.length_append]; exact hown8
        subst hR
        obtain ⟨-, a9, c9, rfl, hres⟩ := resT_of_owns hown9
        have hres2 := hres.mono (B' := w.heap.size) (by omega)
        have hB9 := hbA.trans (hB8.mono (by omega : w.heap.size ≤ w.heap.size + 1))
        have hle : (out ++ [(⟨n0, l0, lo0, hi0⟩ : Tr)]).length = out.length + 1 := by simp
        rw [hle]
        go_ret
        first | exact ⟨a9, ⟨c9, rfl⟩, hres2, hB9⟩ | exact ⟨a9, c9, rfl, hres2, hB9⟩
end Go.Proofs.YtphikgobdfknkaaGreatDoor
