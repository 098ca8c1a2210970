import Derived.Test.YtgmfjninimebmaaGreatDoorMgFlP
import Derived.Sort.Walk0
import Derived.Deep.RegionLaw
namespace Go.Proofs.YtgmfjninimebmaaGreatDoor
open Go.RowKit Go.Maps
set_option linter.unusedVariables false
set_option linter.unusedSimpArgs false

theorem lessB_lt (a b : ByteArray) : lessB a b = decide (a.data.toList < b.data.toList) := by
  unfold lessB
  rw [bytesLess_eq, ByteArray.toList_eq, ByteArray.toList_eq]
theorem lessB_irrN (a : ByteArray) : lessB a a = false := by rw [lessB_lt]; simp
theorem lessB_trN {a b c : ByteArray} (h1 : lessB a b = true) (h2 : lessB b c = true) : lessB a c = true := by
  rw [lessB_lt] at *
  simp only [decide_eq_true_eq] at *
  exact List.lt_trans h1 h2
theorem less_totalN : ∀ (a b : List UInt8), (Op.bytesLess a b || a == b) = !Op.bytesLess b a
  | [], [] => by simp [Op.bytesLess]
  | [], y :: b => by simp [Op.bytesLess]
  | x :: a, [] => by simp [Op.bytesLess]
  | x :: a, y :: b => by
    have ih := less_totalN a b
    by_cases hxy : x = y
    · subst hxy
      have hlt : ¬ x < x := by simp
      simp [Op.bytesLess, hlt]
      simpa using ih
    · by_cases hlt : x < y
      · have hlt2 : ¬ y < x := fun h => by rw [UInt8.lt_iff_toNat_lt] at h hlt; omega
        simp [Op.bytesLess, hxy, hlt, hlt2, Ne.symm hxy]
      · have hlt2 : y < x := by
          have : x.toNat ≠ y.toNat := fun h => hxy (UInt8.toNat_inj.1 h)
          rw [UInt8.lt_iff_toNat_lt] at hlt ⊢
          omega
        simp [Op.bytesLess, hxy, hlt, hlt2, Ne.symm hxy]
theorem lessB_totN {a b : ByteArray} (hne : a ≠ b) : lessB a b = true ∨ lessB b a = true := by
  have hne2 : a.data.toList ≠ b.data.toList := fun e => hne (ByteArray.ext (Array.toList_inj.1 e))
  have h := less_totalN a.data.toList b.data.toList
  have e : (a.data.toList == b.data.toList) = false := by simpa using hne2
  unfold lessB
  rw [ByteArray.toList_eq, ByteArray.toList_eq]
  rw [e, Bool.or_false] at h
  cases hb : Op.bytesLess b.data.toList a.data.toList with
  | true => exact .inr rfl
  | false => rw [hb] at h; exact .inl h
theorem befE_swo : Swo befE := by
  refine ⟨fun a => ?_, fun a b c h1 h2 => ?_, fun a b c h1 h2 => ?_⟩
  · unfold befE; rw [if_pos rfl]; simp
  · unfold befE at *
    by_cases hab : a.ky = b.ky
    · rw [if_pos hab] at h1
      by_cases hbc : b.ky = c.ky
      · rw [if_pos hbc] at h2
        rw [if_pos (hab.trans hbc)]
        simp only [decide_eq_true_eq] at *
        omega
      · rw [if_neg hbc] at h2
        rw [if_neg (fun e => hbc (hab.symm.trans e)), hab]
        exact h2
    · rw [if_neg hab] at h1
      by_cases hbc : b.ky = c.ky
      · rw [if_neg (fun e => hab (e.trans hbc.symm)), ← hbc]
        exact h1
      · rw [if_neg hbc] at h2
        have h3 := lessB_trN h1 h2
        rw [if_neg (fun e => by rw [e, lessB_irrN] at h3; cases h3)]
        exact h3
  · cases hac : befE a c with
    | false => rfl
    | true =>
      exfalso
      unfold befE at *
      by_cases hab : a.ky = b.ky
      · rw [if_pos hab] at h1
        by_cases hbc : b.ky = c.ky
        · rw [if_pos hbc] at h2
          rw [if_pos (hab.trans hbc)] at hac
          simp only [decide_eq_false_iff_not, decide_eq_true_eq] at *
          omega
        · rw [if_neg hbc] at h2
          rw [if_neg (fun e => hbc (hab.symm.trans e)), hab, h2] at hac
          cases hac
      · rw [if_neg hab] at h1
        by_cases hbc : b.ky = c.ky
        · rw [if_neg (fun e => hab (e.trans hbc.symm)), ← hbc, h1] at hac
          cases hac
        · rw [if_neg hbc] at h2
          have hba : lessB b.ky a.ky = true := by
            rcases lessB_totN hab with h | h
            · rw [h] at h1; cases h1
            · exact h
          by_cases hac2 : a.ky = c.ky
          · rw [hac2, h2] at hba; cases hba
          · rw [if_neg hac2] at hac
            have := lessB_trN hba hac
            rw [h2] at this; cases this
end Go.Proofs.YtgmfjninimebmaaGreatDoor
namespace Go.Proofs.YtgmfjninimebmaaGreatDoor
open Go.RowKit Go.Maps
set_option linter.unusedVariables false
set_option linter.unusedSimpArgs false



theorem hdN {p : Prop} (h : p) : Hid p := h
theorem drop_getD (xs : List En) (i : Nat) (h : i < xs.length) : xs.drop i = xs.getD i en0 :: xs.drop (i + 1) := by
  rw [List.drop_eq_getElem_cons h]
  simp [List.getD, h]
theorem getD_memE {xs : List En} {i : Nat} (h : i < xs.length) : xs.getD i en0 ∈ xs := by
  rw [List.getD_eq_getElem?_getD, List.getElem?_eq_getElem h]
  simp
theorem owns_succD {W : World} {base : Nat} {e : TypeId} {size : Nat} {v : Value} {k : Nat} {xs : List Value} (h : W.ownsRow base e size v (k + 1) xs) : ∃ g c, v = .slice (some ⟨g, 0, none⟩) (k + 1) c := by
  rcases h.2 with ⟨-, h0⟩ | ⟨g, cap, cur, rfl, -⟩
  · cases h0
  · exact ⟨g, cap, rfl⟩
/-- A step of the merging. -/
theorem mrg_left {a b : List En} {i j : Nat} (hi : i < a.length) (h : j < b.length → befE (b.getD j en0) (a.getD i en0) = false) : mrg befE (a.drop i) (b.drop j) = a.getD i en0 :: mrg befE (a.drop (i + 1)) (b.drop j) := by
  rw [drop_getD a i hi]
  by_cases hj : j < b.length
  · rw [drop_getD b j hj, mrg, if_neg (by rw [h hj]; simp)]
  · rw [List.drop_of_length_le (by omega : b.length ≤ j), mrg, mrg_nil]
theorem mrg_right {a b : List En} {i j : Nat} (hj : j < b.length) (h : i < a.length → befE (b.getD j en0) (a.getD i en0) = true) : mrg befE (a.drop i) (b.drop j) = b.getD j en0 :: mrg befE (a.drop i) (b.drop (j + 1)) := by
  rw [drop_getD b j hj]
  by_cases hi : i < a.length
  · rw [drop_getD a i hi, mrg, if_pos (h hi)]
  · rw [List.drop_of_length_le (by omega : a.length ≤ i), mrg, mrg]
set_option maxRecDepth 100000 in
set_option maxHeartbeats 8000000 in
theorem l3Half_any (a c : Option Addr) (cap cap' : Nat) (xs ys : List En) (w : World) (hx : LieE w a xs) (hy : LieE w c ys) (hl1 : xs.length ≤ 1048576) (hl2 : ys.length ≤ 1048576) (hk1 : ∀ e ∈ xs, e.ky.size ≤ maxLen) (hk2 : ∀ e ∈ ys, e.ky.size ≤ maxLen) :
    Calls Tryz.prog 65 #[.slice a xs.length cap, .slice c ys.length cap'] w fun e w' => ∃ d cd, e = .returned (.slice d (mrg befE xs ys).length cd) ∧ LieE w' d (mrg befE xs ys) ∧ Below w.heap.size w w' := by
  obtain ⟨i0, hi, hz0, hz1, hz2⟩ := info_parts iEntry_info
  have HX := hdN hx
  have HK1 := hdN hk1
  have HK2 := hdN hk2
  clear hk1 hk2
  have HY := hdN hy
  clear hx hy
  go_enter Tryz.func65, Tryz.ntmps65
  go_wp2_with fail
  go_loopw [5, 6, 7] (fun v5 v6 v7 W => ∃ (i j : Nat) (o : List En), v6 = .int .i64 (i : Int) ∧ v7 = .int .i64 (j : Int) ∧ i ≤ xs.length ∧ j ≤ ys.length ∧ Hid (o.length = i + j) ∧ Hid (o ++ mrg befE (xs.drop i) (ys.drop j) = mrg befE xs ys) ∧ Hid (W.ownsRow w.heap.size 50 4 v5 o.length (cellsE o)) ∧ Hid (Below w.heap.size w W)) (fun _ v6 v7 _ => xs.length + ys.length - ((intOf v6).toNat + (intOf v7).toNat))
  case atStart => exact ⟨0, 0, [], rfl, rfl, Nat.zero_le _, Nat.zero_le _, rfl, rfl, ownsE_lit w _ (Nat.le_refl _), (Below.refl _ _).alloc (Nat.le_refl _) _⟩
  case round =>
    obtain ⟨i, j, o, rfl, rfl, hi1, hj1, HOL, HM, HO, HB⟩ := hrel
    obtain ⟨-, ao, co, hvo, -⟩ := resE_of_owns HO.out
    subst hvo
    have hsz := HB.out.size
    by_cases hA : i < xs.length
    · obtain ⟨b, off, hab, hbl, c0, c1, c2, c3⟩ := (HX.out.below HB.out).at hA
      subst hab
      have hkA := HK1.out _ (getD_memE hA)
      have hA' : (i : Int) < (xs.length : Int) := by omega
      by_cases hB : j < ys.length
      · obtain ⟨b', off', hab, hbl', d0, d1, d2, d3⟩ := (HY.out.below HB.out).at hB
        subst hab
        have hkB := HK2.out _ (getD_memE hB)
        have hB' : (j : Int) < (ys.length : Int) := by omega
        have hB3 : ¬ ys.length ≤ j := by omega
        have HBf := hdN (l3Before_any (ys.getD j en0) (xs.getD i en0) wr.drew hkB hkA)
        clear hkA hkB
        cases hbf : befE (ys.getD j en0) (xs.getD i en0) with
        | true =>
          have HS := hdN (mrg_right (a := xs) (i := i) hB (fun _ => hbf))
          rw [hbf] at HBf
          clear hbf
          generalize xs.getD i en0 = x at *
          generalize ys.getD j en0 = y at *
          go_wp2_with fail
          go_region_held3 (fun w' => w'.cell? ⟨b, off + i * 4, none⟩ = some (.string x.ky) ∧ w'.cell? ⟨b, off + i * 4 + 1, none⟩ = some (.int .i64 x.sq) ∧ w'.cell? ⟨b, off + i * 4 + 2, none⟩ = some (.int .i64 x.kd) ∧ w'.cell? ⟨b, off + i * 4 + 3, none⟩ = some (.string x.vl) ∧ w'.cell? ⟨b', off' + j * 4, none⟩ = some (.string y.ky) ∧ w'.cell? ⟨b', off' + j * 4 + 1, none⟩ = some (.int .i64 y.sq) ∧ w'.cell? ⟨b', off' + j * 4 + 2, none⟩ = some (.int .i64 y.kd) ∧ w'.cell? ⟨b', off' + j * 4 + 3, none⟩ = some (.string y.vl)) (simp [go_sem, *])
            (first | (go_at_call 59; refine HBf.out.mono ?_; rintro ee w6 ⟨rfl, hb6⟩; have p0 := (hb6.cell (p := ⟨b, off + i * 4, none⟩) hbl).trans c0; have p1 := (hb6.cell (p := ⟨b, off + i * 4 + 1, none⟩) hbl).trans c1; have p2 := (hb6.cell (p := ⟨b, off + i * 4 + 2, none⟩) hbl).trans c2; have p3 := (hb6.cell (p := ⟨b, off + i * 4 + 3, none⟩) hbl).trans c3; have r0 := (hb6.cell (p := ⟨b', off' + j * 4, none⟩) hbl').trans d0; have r1 := (hb6.cell (p := ⟨b', off' + j * 4 + 1, none⟩) hbl').trans d1; have r2 := (hb6.cell (p := ⟨b', off' + j * 4 + 2, none⟩) hbl').trans d2; have r3 := (hb6.cell (p := ⟨b', off' + j * 4 + 3, none⟩) hbl').trans d3; have HG6 := hdN ((Below.refl _ wr).drew.trans hb6); clear hb6))
          have hblW : b < w6.heap.size := Nat.lt_of_lt_of_le hbl HG6.out.size
          have hblW' : b' < w6.heap.size := Nat.lt_of_lt_of_le hbl' HG6.out.size
          clear c0 c1 c2 c3 d0 d1 d2 d3 hbl hbl' p0 p1 p2 p3
          have HO6 := hdN (owns_belowE HO.out HG6.out)
          have HB6 := hdN (HB.out.trans (HG6.out.mono hsz))
          have hs6 := HG6.out.size
          have hoS : o.length ≤ 2097152 := by have := HOL.out; omega
          clear HBf HG6
          go_wp2_with (at_builtin; refine wpList_append_own _ rfl _ _ 26 rfl w.heap.size 50 i0 _ 4 48 Tryz.underlying26 hi hz0 hz1 hz2 rfl (by decide) _ _ _ rfl (HO6.out.alloc _) ⟨w6.heap.size, 0, none⟩ 1 1 [.string y.ky, .int .i64 y.sq, .int .i64 y.kd, .string y.vl] rfl rfl (cell_first4 _ _ _ _ _ _) (fun x hx => by simp at hx; rcases hx with rfl | rfl | rfl | rfl <;> rfl) (by unfold maxLen; omega) (by omega) (by simp; omega) ?_; intro v' w9 hown4 hgrow hnil; have HO9 := hdN hown4; have HB9 := hdN ((HB6.out.alloc (by omega) _).grown hgrow (by simp; omega) (owns_base HO6.out)); clear hown4 hgrow hnil)
          refine ⟨⟨i, j + 1, o ++ [y], rfl, by go_num, by omega, by omega, (by show _ = _; rw [List.length_append, HOL.out]; simp; omega), ?_, ?_, HB9⟩, by simp only [intOf]; omega⟩
          · show _ = _
            rw [← HM.out, HS.out]; simp
          · show World.ownsRow _ _ _ _ _ _ _
            rw [cellsE_snoc, List.length_append]
            exact HO9.out
        | false =>
          have HS := hdN (mrg_left (b := ys) (j := j) hA (fun _ => hbf))
          rw [hbf] at HBf
          clear hbf
          generalize xs.getD i en0 = x at *
          generalize ys.getD j en0 = y at *
          go_wp2_with fail
          go_region_held3 (fun w' => w'.cell? ⟨b, off + i * 4, none⟩ = some (.string x.ky) ∧ w'.cell? ⟨b, off + i * 4 + 1, none⟩ = some (.int .i64 x.sq) ∧ w'.cell? ⟨b, off + i * 4 + 2, none⟩ = some (.int .i64 x.kd) ∧ w'.cell? ⟨b, off + i * 4 + 3, none⟩ = some (.string x.vl) ∧ w'.cell? ⟨b', off' + j * 4, none⟩ = some (.string y.ky) ∧ w'.cell? ⟨b', off' + j * 4 + 1, none⟩ = some (.int .i64 y.sq) ∧ w'.cell? ⟨b', off' + j * 4 + 2, none⟩ = some (.int .i64 y.kd) ∧ w'.cell? ⟨b', off' + j * 4 + 3, none⟩ = some (.string y.vl)) (simp [go_sem, *])
            (first | (go_at_call 59; refine HBf.out.mono ?_; rintro ee w6 ⟨rfl, hb6⟩; have p0 := (hb6.cell (p := ⟨b, off + i * 4, none⟩) hbl).trans c0; have p1 := (hb6.cell (p := ⟨b, off + i * 4 + 1, none⟩) hbl).trans c1; have p2 := (hb6.cell (p := ⟨b, off + i * 4 + 2, none⟩) hbl).trans c2; have p3 := (hb6.cell (p := ⟨b, off + i * 4 + 3, none⟩) hbl).trans c3; have r0 := (hb6.cell (p := ⟨b', off' + j * 4, none⟩) hbl').trans d0; have r1 := (hb6.cell (p := ⟨b', off' + j * 4 + 1, none⟩) hbl').trans d1; have r2 := (hb6.cell (p := ⟨b', off' + j * 4 + 2, none⟩) hbl').trans d2; have r3 := (hb6.cell (p := ⟨b', off' + j * 4 + 3, none⟩) hbl').trans d3; have HG6 := hdN ((Below.refl _ wr).drew.trans hb6); clear hb6))
          have hblW : b < w6.heap.size := Nat.lt_of_lt_of_le hbl HG6.out.size
          have hblW' : b' < w6.heap.size := Nat.lt_of_lt_of_le hbl' HG6.out.size
          clear c0 c1 c2 c3 d0 d1 d2 d3 hbl hbl' r0 r1 r2 r3
          have HO6 := hdN (owns_belowE HO.out HG6.out)
          have HB6 := hdN (HB.out.trans (HG6.out.mono hsz))
          have hs6 := HG6.out.size
          have hoS : o.length ≤ 2097152 := by have := HOL.out; omega
          clear HBf HG6
          go_wp2_with (at_builtin; refine wpList_append_own _ rfl _ _ 26 rfl w.heap.size 50 i0 _ 4 48 Tryz.underlying26 hi hz0 hz1 hz2 rfl (by decide) _ _ _ rfl (HO6.out.alloc _) ⟨w6.heap.size, 0, none⟩ 1 1 [.string x.ky, .int .i64 x.sq, .int .i64 x.kd, .string x.vl] rfl rfl (cell_first4 _ _ _ _ _ _) (fun x hx => by simp at hx; rcases hx with rfl | rfl | rfl | rfl <;> rfl) (by unfold maxLen; omega) (by omega) (by simp; omega) ?_; intro v' w9 hown4 hgrow hnil; have HO9 := hdN hown4; have HB9 := hdN ((HB6.out.alloc (by omega) _).grown hgrow (by simp; omega) (owns_base HO6.out)); clear hown4 hgrow hnil)
          refine ⟨⟨i + 1, j, o ++ [x], by go_num, rfl, by omega, by omega, (by show _ = _; rw [List.length_append, HOL.out]; simp; omega), ?_, ?_, HB9⟩, by simp only [intOf]; omega⟩
          · show _ = _
            rw [← HM.out, HS.out]; simp
          · show World.ownsRow _ _ _ _ _ _ _
            rw [cellsE_snoc, List.length_append]
            exact HO9.out
      · have hB' : ¬ (j : Int) < (ys.length : Int) := by omega
        have hB2 : (ys.length : Int) ≤ (j : Int) := by omega
        have HS := hdN (mrg_left (b := ys) (j := j) hA (fun h => absurd h hB))
        have hB3 : ys.length ≤ j := by omega
        generalize xs.getD i en0 = x at *
        have HBf : Hid True := trivial
        clear hkA
        go_wp2_with fail
        refine wp_region_noPanic ?_
        refine wp_region_held_drew (S := (fun w' => True)) (by kernel_rfl) ?_ (fun hHeld => ?_)
        · exact trivial
        refine wpAnyH_take (i := 0) (oi := { dst := some 19, op := Op.move (Operand.tmp 7), type := 3, pos := "l3_table.go:75", after := #[], guard := none }) (v := ?_) rfl (by kernel_rfl) (by kernel_rfl) (by kernel_rfl) (fun _ _ _ h => h) (Or.inl ⟨by rfl, ?_⟩) (by assumption) ?_
        rotate_left
        · intro w' hSw
          (try dsimp only at hSw)
          go_simp
          try with_reducible rfl
        simp only [Act.put, List.setIfInBounds_toArray, List.set_cons_zero, List.set_cons_succ]
        refine wpAnyH_take (i := 1) (oi := { dst := some 20, op := Op.move (Operand.tmp 1), type := 26, pos := "l3_table.go:75", after := #[], guard := none }) (v := ?_) rfl (by kernel_rfl) (by kernel_rfl) (by kernel_rfl) (fun _ _ _ h => h) (Or.inl ⟨by rfl, ?_⟩) (by assumption) ?_
        rotate_left
        · intro w' hSw
          (try dsimp only at hSw)
          go_simp
          try with_reducible rfl
        simp only [Act.put, List.setIfInBounds_toArray, List.set_cons_zero, List.set_cons_succ]
        refine wpAnyH_take (i := 2) (oi := { dst := some 21, op := Op.call { callee := Callee.builtin Builtin.len, args := #[Operand.tmp 20], argTypes := #[26] }, type := 3, pos := "l3_table.go:75", after := #[{ on := 1, ground := Ground.data }], guard := none }) (v := ?_) rfl (by kernel_rfl) (by kernel_rfl) (by kernel_rfl) (fun _ _ _ h => h) (Or.inl ⟨by rfl, ?_⟩) (by assumption) ?_
        rotate_left
        · intro w' hSw
          (try dsimp only at hSw)
          go_simp
          try with_reducible rfl
        simp only [Act.put, List.setIfInBounds_toArray, List.set_cons_zero, List.set_cons_succ]
        refine wpAnyH_take (i := 3) (oi := { dst := some 22, op := Op.binOp BinOp.geq 3 (Operand.tmp 19) (Operand.tmp 21) 3, type := 4, pos := "l3_table.go:75", after := #[{ on := 0, ground := Ground.data }, { on := 2, ground := Ground.data }], guard := none }) (v := .bool true) rfl (by kernel_rfl) (by kernel_rfl) (by kernel_rfl) (fun _ _ _ h => h) (Or.inl ⟨by rfl, ?_⟩) (by assumption) ?_
        · intro w' hSw
          (try dsimp only at hSw)
          go_simp
          try omega
        simp only [Act.put, List.setIfInBounds_toArray, List.set_cons_zero, List.set_cons_succ]
        refine wpAnyH_take (i := 4) (oi := { dst := some 23, op := Op.move (Operand.tmp 22), type := 4, pos := "l3_table.go:75", after := #[{ on := 3, ground := Ground.data }], guard := none }) (v := ?_) rfl (by kernel_rfl) (by kernel_rfl) (by kernel_rfl) (fun _ _ _ h => h) (Or.inl ⟨by rfl, ?_⟩) (by assumption) ?_
        rotate_left
        · intro w' hSw
          (try dsimp only at hSw)
          go_simp
          try with_reducible rfl
        simp only [Act.put, List.setIfInBounds_toArray, List.set_cons_zero, List.set_cons_succ]
        refine wpAnyH_take (i := 5) (oi := { dst := some 24, op := Op.move (Operand.tmp 6), type := 3, pos := "l3_table.go:75", after := #[{ on := 4, ground := Ground.guard }], guard := some (4, false) }) (v := undef) rfl (by kernel_rfl) (by kernel_rfl) (by kernel_rfl) (fun _ _ _ h => h) (Or.inr ⟨by rfl, rfl⟩) (by assumption) ?_
        simp only [Act.put, List.setIfInBounds_toArray, List.set_cons_zero, List.set_cons_succ]
        refine wpAnyH_take (i := 6) (oi := { dst := some 25, op := Op.move (Operand.tmp 0), type := 26, pos := "l3_table.go:75", after := #[{ on := 4, ground := Ground.guard }], guard := some (4, false) }) (v := undef) rfl (by kernel_rfl) (by kernel_rfl) (by kernel_rfl) (fun _ _ _ h => h) (Or.inr ⟨by rfl, rfl⟩) (by assumption) ?_
        simp only [Act.put, List.setIfInBounds_toArray, List.set_cons_zero, List.set_cons_succ]
        refine wpAnyH_take (i := 7) (oi := { dst := some 26, op := Op.call { callee := Callee.builtin Builtin.len, args := #[Operand.tmp 25], argTypes := #[26] }, type := 3, pos := "l3_table.go:75", after := #[{ on := 6, ground := Ground.data }, { on := 4, ground := Ground.guard }], guard := some (4, false) }) (v := undef) rfl (by kernel_rfl) (by kernel_rfl) (by kernel_rfl) (fun _ _ _ h => h) (Or.inr ⟨by rfl, rfl⟩) (by assumption) ?_
        simp only [Act.put, List.setIfInBounds_toArray, List.set_cons_zero, List.set_cons_succ]
        refine wpAnyH_take (i := 8) (oi := { dst := some 27, op := Op.binOp BinOp.lss 3 (Operand.tmp 24) (Operand.tmp 26) 3, type := 4, pos := "l3_table.go:75", after := #[{ on := 5, ground := Ground.data }, { on := 7, ground := Ground.data }, { on := 4, ground := Ground.guard }], guard := some (4, false) }) (v := undef) rfl (by kernel_rfl) (by kernel_rfl) (by kernel_rfl) (fun _ _ _ h => h) (Or.inr ⟨by rfl, rfl⟩) (by assumption) ?_
        simp only [Act.put, List.setIfInBounds_toArray, List.set_cons_zero, List.set_cons_succ]
        refine wpAnyH_take (i := 9) (oi := { dst := some 28, op := Op.move (Operand.tmp 27), type := 4, pos := "l3_table.go:75", after := #[{ on := 8, ground := Ground.data }, { on := 4, ground := Ground.chain }, { on := 4, ground := Ground.guard }], guard := some (4, false) }) (v := undef) rfl (by kernel_rfl) (by kernel_rfl) (by kernel_rfl) (fun _ _ _ h => h) (Or.inr ⟨by rfl, rfl⟩) (by assumption) ?_
        simp only [Act.put, List.setIfInBounds_toArray, List.set_cons_zero, List.set_cons_succ]
        refine wpAnyH_take (i := 10) (oi := { dst := some 29, op := Op.move (Operand.tmp 1), type := 26, pos := "l3_table.go:75", after := #[{ on := 9, ground := Ground.guard }], guard := some (9, true) }) (v := undef) rfl (by kernel_rfl) (by kernel_rfl) (by kernel_rfl) (fun _ _ _ h => h) (Or.inr ⟨by rfl, rfl⟩) (by assumption) ?_
        simp only [Act.put, List.setIfInBounds_toArray, List.set_cons_zero, List.set_cons_succ]
        refine wpAnyH_take (i := 11) (oi := { dst := some 30, op := Op.move (Operand.tmp 7), type := 3, pos := "l3_table.go:75", after := #[{ on := 9, ground := Ground.guard }], guard := some (9, true) }) (v := undef) rfl (by kernel_rfl) (by kernel_rfl) (by kernel_rfl) (fun _ _ _ h => h) (Or.inr ⟨by rfl, rfl⟩) (by assumption) ?_
        simp only [Act.put, List.setIfInBounds_toArray, List.set_cons_zero, List.set_cons_succ]
        refine wpAnyH_take (i := 12) (oi := { dst := some 31, op := Op.indexAddr 26 (Operand.tmp 29) (Operand.tmp 30), type := 0, pos := "l3_table.go:75", after := #[{ on := 10, ground := Ground.data }, { on := 11, ground := Ground.data }, { on := 9, ground := Ground.guard }], guard := some (9, true) }) (v := undef) rfl (by kernel_rfl) (by kernel_rfl) (by kernel_rfl) (fun _ _ _ h => h) (Or.inr ⟨by rfl, rfl⟩) (by assumption) ?_
        simp only [Act.put, List.setIfInBounds_toArray, List.set_cons_zero, List.set_cons_succ]
        refine wpAnyH_take (i := 13) (oi := { dst := some 32, op := Op.load 50 (Operand.tmp 31), type := 50, pos := "l3_table.go:75", after := #[{ on := 12, ground := Ground.data }, { on := 9, ground := Ground.guard }], guard := some (9, true) }) (v := undef) rfl (by kernel_rfl) (by kernel_rfl) (by kernel_rfl) (fun _ _ _ h => h) (Or.inr ⟨by rfl, rfl⟩) (by assumption) ?_
        simp only [Act.put, List.setIfInBounds_toArray, List.set_cons_zero, List.set_cons_succ]
        refine wpAnyH_take (i := 14) (oi := { dst := some 33, op := Op.move (Operand.tmp 0), type := 26, pos := "l3_table.go:75", after := #[{ on := 9, ground := Ground.guard }], guard := some (9, true) }) (v := undef) rfl (by kernel_rfl) (by kernel_rfl) (by kernel_rfl) (fun _ _ _ h => h) (Or.inr ⟨by rfl, rfl⟩) (by assumption) ?_
        simp only [Act.put, List.setIfInBounds_toArray, List.set_cons_zero, List.set_cons_succ]
        refine wpAnyH_take (i := 15) (oi := { dst := some 34, op := Op.move (Operand.tmp 6), type := 3, pos := "l3_table.go:75", after := #[{ on := 9, ground := Ground.guard }], guard := some (9, true) }) (v := undef) rfl (by kernel_rfl) (by kernel_rfl) (by kernel_rfl) (fun _ _ _ h => h) (Or.inr ⟨by rfl, rfl⟩) (by assumption) ?_
        simp only [Act.put, List.setIfInBounds_toArray, List.set_cons_zero, List.set_cons_succ]
        refine wpAnyH_take (i := 16) (oi := { dst := some 35, op := Op.indexAddr 26 (Operand.tmp 33) (Operand.tmp 34), type := 0, pos := "l3_table.go:75", after := #[{ on := 14, ground := Ground.data }, { on := 15, ground := Ground.data }, { on := 9, ground := Ground.guard }], guard := some (9, true) }) (v := undef) rfl (by kernel_rfl) (by kernel_rfl) (by kernel_rfl) (fun _ _ _ h => h) (Or.inr ⟨by rfl, rfl⟩) (by assumption) ?_
        simp only [Act.put, List.setIfInBounds_toArray, List.set_cons_zero, List.set_cons_succ]
        refine wpAnyH_take (i := 17) (oi := { dst := some 36, op := Op.load 50 (Operand.tmp 35), type := 50, pos := "l3_table.go:75", after := #[{ on := 16, ground := Ground.data }, { on := 9, ground := Ground.guard }], guard := some (9, true) }) (v := undef) rfl (by kernel_rfl) (by kernel_rfl) (by kernel_rfl) (fun _ _ _ h => h) (Or.inr ⟨by rfl, rfl⟩) (by assumption) ?_
        simp only [Act.put, List.setIfInBounds_toArray, List.set_cons_zero, List.set_cons_succ]
        refine wpAnyH_take (i := 18) (oi := { dst := some 37, op := Op.call { callee := Callee.value (Operand.func 59), args := #[Operand.tmp 32, Operand.tmp 36], argTypes := #[50, 50] }, type := 4, pos := "l3_table.go:75", after := #[{ on := 13, ground := Ground.data }, { on := 17, ground := Ground.data }, { on := 9, ground := Ground.chain }, { on := 9, ground := Ground.guard }], guard := some (9, true) }) (v := undef) rfl (by kernel_rfl) (by kernel_rfl) (by kernel_rfl) (fun _ _ _ h => h) (Or.inr ⟨by rfl, rfl⟩) (by assumption) ?_
        simp only [Act.put, List.setIfInBounds_toArray, List.set_cons_zero, List.set_cons_succ]
        refine wpAnyH_take (i := 19) (oi := { dst := some 38, op := Op.unOp UnOp.not 4 (Operand.tmp 37), type := 4, pos := "l3_table.go:75", after := #[{ on := 18, ground := Ground.data }, { on := 9, ground := Ground.guard }], guard := some (9, true) }) (v := undef) rfl (by kernel_rfl) (by kernel_rfl) (by kernel_rfl) (fun _ _ _ h => h) (Or.inr ⟨by rfl, rfl⟩) (by assumption) ?_
        simp only [Act.put, List.setIfInBounds_toArray, List.set_cons_zero, List.set_cons_succ]
        refine wpAnyH_take (i := 20) (oi := { dst := some 39, op := Op.pick (Operand.tmp 28) (Operand.tmp 38) (Operand.const (Value.bool false)), type := 4, pos := "l3_table.go:75", after := #[{ on := 9, ground := Ground.data }, { on := 19, ground := Ground.data }, { on := 4, ground := Ground.guard }], guard := some (4, false) }) (v := undef) rfl (by kernel_rfl) (by kernel_rfl) (by kernel_rfl) (fun _ _ _ h => h) (Or.inr ⟨by rfl, rfl⟩) (by assumption) ?_
        simp only [Act.put, List.setIfInBounds_toArray, List.set_cons_zero, List.set_cons_succ]
        refine wpAnyH_take (i := 21) (oi := { dst := some 40, op := Op.pick (Operand.tmp 23) (Operand.const (Value.bool true)) (Operand.tmp 39), type := 4, pos := "l3_table.go:75", after := #[{ on := 4, ground := Ground.data }, { on := 20, ground := Ground.data }], guard := none }) (v := ?_) rfl (by kernel_rfl) (by kernel_rfl) (by kernel_rfl) (fun _ _ _ h => h) (Or.inl ⟨by rfl, ?_⟩) (by assumption) ?_
        rotate_left
        · intro w' hSw
          (try dsimp only at hSw)
          go_simp
          try with_reducible rfl
        simp only [Act.put, List.setIfInBounds_toArray, List.set_cons_zero, List.set_cons_succ]
        refine wpAnyH_done (by kernel_rfl) ?_ _
        refine NoPanic.normal ?_
        have HG6 : Hid (Below wr.heap.size wr wr.drew) := (Below.refl _ wr).drew
        have hblW : b < wr.drew.heap.size := hbl
        have e0 : wr.drew.cell? ⟨b, off + i * 4, none⟩ = some (.string x.ky) := c0
        have e1 : wr.drew.cell? ⟨b, off + i * 4 + 1, none⟩ = some (.int .i64 x.sq) := c1
        have e2 : wr.drew.cell? ⟨b, off + i * 4 + 2, none⟩ = some (.int .i64 x.kd) := c2
        have e3 : wr.drew.cell? ⟨b, off + i * 4 + 3, none⟩ = some (.string x.vl) := c3
        clear c0 c1 c2 c3 hbl
        generalize wr.drew = w6 at *
        have HO6 := hdN (owns_belowE HO.out HG6.out)
        have HB6 := hdN (HB.out.trans (HG6.out.mono hsz))
        have hs6 := HG6.out.size
        have hoS : o.length ≤ 2097152 := by have := HOL.out; omega
        clear HBf HG6
        go_wp2_with (at_builtin; refine wpList_append_own _ rfl _ _ 26 rfl w.heap.size 50 i0 _ 4 48 Tryz.underlying26 hi hz0 hz1 hz2 rfl (by decide) _ _ _ rfl (HO6.out.alloc _) ⟨w6.heap.size, 0, none⟩ 1 1 [.string x.ky, .int .i64 x.sq, .int .i64 x.kd, .string x.vl] rfl rfl (cell_first4 _ _ _ _ _ _) (fun x hx => by simp at hx; rcases hx with rfl | rfl | rfl | rfl <;> rfl) (by unfold maxLen; omega) (by omega) (by simp; omega) ?_; intro v' w9 hown4 hgrow hnil; have HO9 := hdN hown4; have HB9 := hdN ((HB6.out.alloc (by omega) _).grown hgrow (by simp; omega) (owns_base HO6.out)); clear hown4 hgrow hnil)
        refine ⟨⟨i + 1, j, o ++ [x], by go_num, rfl, by omega, by omega, (by show _ = _; rw [List.length_append, HOL.out]; simp; omega), ?_, ?_, HB9⟩, by simp only [intOf]; omega⟩
        · show _ = _
          rw [← HM.out, HS.out]; simp
        · show World.ownsRow _ _ _ _ _ _ _
          rw [cellsE_snoc, List.length_append]
          exact HO9.out
    · have hA' : ¬ (i : Int) < (xs.length : Int) := by omega
      have hA3 : ¬ i < xs.length := hA
      by_cases hB : j < ys.length
      · obtain ⟨b', off', hab, hbl', d0, d1, d2, d3⟩ := (HY.out.below HB.out).at hB
        subst hab
        have hB' : (j : Int) < (ys.length : Int) := by omega
        have hB3 : ¬ ys.length ≤ j := by omega
        have HS := hdN (mrg_right (a := xs) (i := i) hB (fun h => absurd h hA))
        generalize ys.getD j en0 = y at *
        have HBf : Hid True := trivial
        go_wp2_with fail
        refine wp_region_noPanic ?_
        refine wp_region_held_drew (S := (fun w' => True)) (by kernel_rfl) ?_ (fun hHeld => ?_)
        · exact trivial
        refine wpAnyH_take (i := 0) (oi := { dst := some 19, op := Op.move (Operand.tmp 7), type := 3, pos := "l3_table.go:75", after := #[], guard := none }) (v := ?_) rfl (by kernel_rfl) (by kernel_rfl) (by kernel_rfl) (fun _ _ _ h => h) (Or.inl ⟨by rfl, ?_⟩) (by assumption) ?_
        rotate_left
        · intro w' hSw
          (try dsimp only at hSw)
          go_simp
          try with_reducible rfl
        simp only [Act.put, List.setIfInBounds_toArray, List.set_cons_zero, List.set_cons_succ]
        refine wpAnyH_take (i := 1) (oi := { dst := some 20, op := Op.move (Operand.tmp 1), type := 26, pos := "l3_table.go:75", after := #[], guard := none }) (v := ?_) rfl (by kernel_rfl) (by kernel_rfl) (by kernel_rfl) (fun _ _ _ h => h) (Or.inl ⟨by rfl, ?_⟩) (by assumption) ?_
        rotate_left
        · intro w' hSw
          (try dsimp only at hSw)
          go_simp
          try with_reducible rfl
        simp only [Act.put, List.setIfInBounds_toArray, List.set_cons_zero, List.set_cons_succ]
        refine wpAnyH_take (i := 2) (oi := { dst := some 21, op := Op.call { callee := Callee.builtin Builtin.len, args := #[Operand.tmp 20], argTypes := #[26] }, type := 3, pos := "l3_table.go:75", after := #[{ on := 1, ground := Ground.data }], guard := none }) (v := ?_) rfl (by kernel_rfl) (by kernel_rfl) (by kernel_rfl) (fun _ _ _ h => h) (Or.inl ⟨by rfl, ?_⟩) (by assumption) ?_
        rotate_left
        · intro w' hSw
          (try dsimp only at hSw)
          go_simp
          try with_reducible rfl
        simp only [Act.put, List.setIfInBounds_toArray, List.set_cons_zero, List.set_cons_succ]
        refine wpAnyH_take (i := 3) (oi := { dst := some 22, op := Op.binOp BinOp.geq 3 (Operand.tmp 19) (Operand.tmp 21) 3, type := 4, pos := "l3_table.go:75", after := #[{ on := 0, ground := Ground.data }, { on := 2, ground := Ground.data }], guard := none }) (v := .bool false) rfl (by kernel_rfl) (by kernel_rfl) (by kernel_rfl) (fun _ _ _ h => h) (Or.inl ⟨by rfl, ?_⟩) (by assumption) ?_
        · intro w' hSw
          (try dsimp only at hSw)
          go_simp
          try omega
        simp only [Act.put, List.setIfInBounds_toArray, List.set_cons_zero, List.set_cons_succ]
        refine wpAnyH_take (i := 4) (oi := { dst := some 23, op := Op.move (Operand.tmp 22), type := 4, pos := "l3_table.go:75", after := #[{ on := 3, ground := Ground.data }], guard := none }) (v := ?_) rfl (by kernel_rfl) (by kernel_rfl) (by kernel_rfl) (fun _ _ _ h => h) (Or.inl ⟨by rfl, ?_⟩) (by assumption) ?_
        rotate_left
        · intro w' hSw
          (try dsimp only at hSw)
          go_simp
          try with_reducible rfl
        simp only [Act.put, List.setIfInBounds_toArray, List.set_cons_zero, List.set_cons_succ]
        refine wpAnyH_take (i := 5) (oi := { dst := some 24, op := Op.move (Operand.tmp 6), type := 3, pos := "l3_table.go:75", after := #[{ on := 4, ground := Ground.guard }], guard := some (4, false) }) (v := ?_) rfl (by kernel_rfl) (by kernel_rfl) (by kernel_rfl) (fun _ _ _ h => h) (Or.inl ⟨by rfl, ?_⟩) (by assumption) ?_
        rotate_left
        · intro w' hSw
          (try dsimp only at hSw)
          go_simp
          try with_reducible rfl
        simp only [Act.put, List.setIfInBounds_toArray, List.set_cons_zero, List.set_cons_succ]
        refine wpAnyH_take (i := 6) (oi := { dst := some 25, op := Op.move (Operand.tmp 0), type := 26, pos := "l3_table.go:75", after := #[{ on := 4, ground := Ground.guard }], guard := some (4, false) }) (v := ?_) rfl (by kernel_rfl) (by kernel_rfl) (by kernel_rfl) (fun _ _ _ h => h) (Or.inl ⟨by rfl, ?_⟩) (by assumption) ?_
        rotate_left
        · intro w' hSw
          (try dsimp only at hSw)
          go_simp
          try with_reducible rfl
        simp only [Act.put, List.setIfInBounds_toArray, List.set_cons_zero, List.set_cons_succ]
        refine wpAnyH_take (i := 7) (oi := { dst := some 26, op := Op.call { callee := Callee.builtin Builtin.len, args := #[Operand.tmp 25], argTypes := #[26] }, type := 3, pos := "l3_table.go:75", after := #[{ on := 6, ground := Ground.data }, { on := 4, ground := Ground.guard }], guard := some (4, false) }) (v := ?_) rfl (by kernel_rfl) (by kernel_rfl) (by kernel_rfl) (fun _ _ _ h => h) (Or.inl ⟨by rfl, ?_⟩) (by assumption) ?_
        rotate_left
        · intro w' hSw
          (try dsimp only at hSw)
          go_simp
          try with_reducible rfl
        simp only [Act.put, List.setIfInBounds_toArray, List.set_cons_zero, List.set_cons_succ]
        refine wpAnyH_take (i := 8) (oi := { dst := some 27, op := Op.binOp BinOp.lss 3 (Operand.tmp 24) (Operand.tmp 26) 3, type := 4, pos := "l3_table.go:75", after := #[{ on := 5, ground := Ground.data }, { on := 7, ground := Ground.data }, { on := 4, ground := Ground.guard }], guard := some (4, false) }) (v := .bool false) rfl (by kernel_rfl) (by kernel_rfl) (by kernel_rfl) (fun _ _ _ h => h) (Or.inl ⟨by rfl, ?_⟩) (by assumption) ?_
        · intro w' hSw
          (try dsimp only at hSw)
          go_simp
          try omega
        simp only [Act.put, List.setIfInBounds_toArray, List.set_cons_zero, List.set_cons_succ]
        refine wpAnyH_take (i := 9) (oi := { dst := some 28, op := Op.move (Operand.tmp 27), type := 4, pos := "l3_table.go:75", after := #[{ on := 8, ground := Ground.data }, { on := 4, ground := Ground.chain }, { on := 4, ground := Ground.guard }], guard := some (4, false) }) (v := ?_) rfl (by kernel_rfl) (by kernel_rfl) (by kernel_rfl) (fun _ _ _ h => h) (Or.inl ⟨by rfl, ?_⟩) (by assumption) ?_
        rotate_left
        · intro w' hSw
          (try dsimp only at hSw)
          go_simp
          try with_reducible rfl
        simp only [Act.put, List.setIfInBounds_toArray, List.set_cons_zero, List.set_cons_succ]
        refine wpAnyH_take (i := 10) (oi := { dst := some 29, op := Op.move (Operand.tmp 1), type := 26, pos := "l3_table.go:75", after := #[{ on := 9, ground := Ground.guard }], guard := some (9, true) }) (v := undef) rfl (by kernel_rfl) (by kernel_rfl) (by kernel_rfl) (fun _ _ _ h => h) (Or.inr ⟨by rfl, rfl⟩) (by assumption) ?_
        simp only [Act.put, List.setIfInBounds_toArray, List.set_cons_zero, List.set_cons_succ]
        refine wpAnyH_take (i := 11) (oi := { dst := some 30, op := Op.move (Operand.tmp 7), type := 3, pos := "l3_table.go:75", after := #[{ on := 9, ground := Ground.guard }], guard := some (9, true) }) (v := undef) rfl (by kernel_rfl) (by kernel_rfl) (by kernel_rfl) (fun _ _ _ h => h) (Or.inr ⟨by rfl, rfl⟩) (by assumption) ?_
        simp only [Act.put, List.setIfInBounds_toArray, List.set_cons_zero, List.set_cons_succ]
        refine wpAnyH_take (i := 12) (oi := { dst := some 31, op := Op.indexAddr 26 (Operand.tmp 29) (Operand.tmp 30), type := 0, pos := "l3_table.go:75", after := #[{ on := 10, ground := Ground.data }, { on := 11, ground := Ground.data }, { on := 9, ground := Ground.guard }], guard := some (9, true) }) (v := undef) rfl (by kernel_rfl) (by kernel_rfl) (by kernel_rfl) (fun _ _ _ h => h) (Or.inr ⟨by rfl, rfl⟩) (by assumption) ?_
        simp only [Act.put, List.setIfInBounds_toArray, List.set_cons_zero, List.set_cons_succ]
        refine wpAnyH_take (i := 13) (oi := { dst := some 32, op := Op.load 50 (Operand.tmp 31), type := 50, pos := "l3_table.go:75", after := #[{ on := 12, ground := Ground.data }, { on := 9, ground := Ground.guard }], guard := some (9, true) }) (v := undef) rfl (by kernel_rfl) (by kernel_rfl) (by kernel_rfl) (fun _ _ _ h => h) (Or.inr ⟨by rfl, rfl⟩) (by assumption) ?_
        simp only [Act.put, List.setIfInBounds_toArray, List.set_cons_zero, List.set_cons_succ]
        refine wpAnyH_take (i := 14) (oi := { dst := some 33, op := Op.move (Operand.tmp 0), type := 26, pos := "l3_table.go:75", after := #[{ on := 9, ground := Ground.guard }], guard := some (9, true) }) (v := undef) rfl (by kernel_rfl) (by kernel_rfl) (by kernel_rfl) (fun _ _ _ h => h) (Or.inr ⟨by rfl, rfl⟩) (by assumption) ?_
        simp only [Act.put, List.setIfInBounds_toArray, List.set_cons_zero, List.set_cons_succ]
        refine wpAnyH_take (i := 15) (oi := { dst := some 34, op := Op.move (Operand.tmp 6), type := 3, pos := "l3_table.go:75", after := #[{ on := 9, ground := Ground.guard }], guard := some (9, true) }) (v := undef) rfl (by kernel_rfl) (by kernel_rfl) (by kernel_rfl) (fun _ _ _ h => h) (Or.inr ⟨by rfl, rfl⟩) (by assumption) ?_
        simp only [Act.put, List.setIfInBounds_toArray, List.set_cons_zero, List.set_cons_succ]
        refine wpAnyH_take (i := 16) (oi := { dst := some 35, op := Op.indexAddr 26 (Operand.tmp 33) (Operand.tmp 34), type := 0, pos := "l3_table.go:75", after := #[{ on := 14, ground := Ground.data }, { on := 15, ground := Ground.data }, { on := 9, ground := Ground.guard }], guard := some (9, true) }) (v := undef) rfl (by kernel_rfl) (by kernel_rfl) (by kernel_rfl) (fun _ _ _ h => h) (Or.inr ⟨by rfl, rfl⟩) (by assumption) ?_
        simp only [Act.put, List.setIfInBounds_toArray, List.set_cons_zero, List.set_cons_succ]
        refine wpAnyH_take (i := 17) (oi := { dst := some 36, op := Op.load 50 (Operand.tmp 35), type := 50, pos := "l3_table.go:75", after := #[{ on := 16, ground := Ground.data }, { on := 9, ground := Ground.guard }], guard := some (9, true) }) (v := undef) rfl (by kernel_rfl) (by kernel_rfl) (by kernel_rfl) (fun _ _ _ h => h) (Or.inr ⟨by rfl, rfl⟩) (by assumption) ?_
        simp only [Act.put, List.setIfInBounds_toArray, List.set_cons_zero, List.set_cons_succ]
        refine wpAnyH_take (i := 18) (oi := { dst := some 37, op := Op.call { callee := Callee.value (Operand.func 59), args := #[Operand.tmp 32, Operand.tmp 36], argTypes := #[50, 50] }, type := 4, pos := "l3_table.go:75", after := #[{ on := 13, ground := Ground.data }, { on := 17, ground := Ground.data }, { on := 9, ground := Ground.chain }, { on := 9, ground := Ground.guard }], guard := some (9, true) }) (v := undef) rfl (by kernel_rfl) (by kernel_rfl) (by kernel_rfl) (fun _ _ _ h => h) (Or.inr ⟨by rfl, rfl⟩) (by assumption) ?_
        simp only [Act.put, List.setIfInBounds_toArray, List.set_cons_zero, List.set_cons_succ]
        refine wpAnyH_take (i := 19) (oi := { dst := some 38, op := Op.unOp UnOp.not 4 (Operand.tmp 37), type := 4, pos := "l3_table.go:75", after := #[{ on := 18, ground := Ground.data }, { on := 9, ground := Ground.guard }], guard := some (9, true) }) (v := undef) rfl (by kernel_rfl) (by kernel_rfl) (by kernel_rfl) (fun _ _ _ h => h) (Or.inr ⟨by rfl, rfl⟩) (by assumption) ?_
        simp only [Act.put, List.setIfInBounds_toArray, List.set_cons_zero, List.set_cons_succ]
        refine wpAnyH_take (i := 20) (oi := { dst := some 39, op := Op.pick (Operand.tmp 28) (Operand.tmp 38) (Operand.const (Value.bool false)), type := 4, pos := "l3_table.go:75", after := #[{ on := 9, ground := Ground.data }, { on := 19, ground := Ground.data }, { on := 4, ground := Ground.guard }], guard := some (4, false) }) (v := ?_) rfl (by kernel_rfl) (by kernel_rfl) (by kernel_rfl) (fun _ _ _ h => h) (Or.inl ⟨by rfl, ?_⟩) (by assumption) ?_
        rotate_left
        · intro w' hSw
          (try dsimp only at hSw)
          go_simp
          try with_reducible rfl
        simp only [Act.put, List.setIfInBounds_toArray, List.set_cons_zero, List.set_cons_succ]
        refine wpAnyH_take (i := 21) (oi := { dst := some 40, op := Op.pick (Operand.tmp 23) (Operand.const (Value.bool true)) (Operand.tmp 39), type := 4, pos := "l3_table.go:75", after := #[{ on := 4, ground := Ground.data }, { on := 20, ground := Ground.data }], guard := none }) (v := ?_) rfl (by kernel_rfl) (by kernel_rfl) (by kernel_rfl) (fun _ _ _ h => h) (Or.inl ⟨by rfl, ?_⟩) (by assumption) ?_
        rotate_left
        · intro w' hSw
          (try dsimp only at hSw)
          go_simp
          try with_reducible rfl
        simp only [Act.put, List.setIfInBounds_toArray, List.set_cons_zero, List.set_cons_succ]
        refine wpAnyH_done (by kernel_rfl) ?_ _
        refine NoPanic.normal ?_
        have HG6 : Hid (Below wr.heap.size wr wr.drew) := (Below.refl _ wr).drew
        have hblW : b' < wr.drew.heap.size := hbl'
        have e0 : wr.drew.cell? ⟨b', off' + j * 4, none⟩ = some (.string y.ky) := d0
        have e1 : wr.drew.cell? ⟨b', off' + j * 4 + 1, none⟩ = some (.int .i64 y.sq) := d1
        have e2 : wr.drew.cell? ⟨b', off' + j * 4 + 2, none⟩ = some (.int .i64 y.kd) := d2
        have e3 : wr.drew.cell? ⟨b', off' + j * 4 + 3, none⟩ = some (.string y.vl) := d3
        clear d0 d1 d2 d3 hbl'
        generalize wr.drew = w6 at *
        have HO6 := hdN (owns_belowE HO.out HG6.out)
        have HB6 := hdN (HB.out.trans (HG6.out.mono hsz))
        have hs6 := HG6.out.size
        have hoS : o.length ≤ 2097152 := by have := HOL.out; omega
        clear HBf HG6
        go_wp2_with (at_builtin; refine wpList_append_own _ rfl _ _ 26 rfl w.heap.size 50 i0 _ 4 48 Tryz.underlying26 hi hz0 hz1 hz2 rfl (by decide) _ _ _ rfl (HO6.out.alloc _) ⟨w6.heap.size, 0, none⟩ 1 1 [.string y.ky, .int .i64 y.sq, .int .i64 y.kd, .string y.vl] rfl rfl (cell_first4 _ _ _ _ _ _) (fun x hx => by simp at hx; rcases hx with rfl | rfl | rfl | rfl <;> rfl) (by unfold maxLen; omega) (by omega) (by simp; omega) ?_; intro v' w9 hown4 hgrow hnil; have HO9 := hdN hown4; have HB9 := hdN ((HB6.out.alloc (by omega) _).grown hgrow (by simp; omega) (owns_base HO6.out)); clear hown4 hgrow hnil)
        refine ⟨⟨i, j + 1, o ++ [y], rfl, by go_num, by omega, by omega, (by show _ = _; rw [List.length_append, HOL.out]; simp; omega), ?_, ?_, HB9⟩, by simp only [intOf]; omega⟩
        · show _ = _
          rw [← HM.out, HS.out]; simp
        · show World.ownsRow _ _ _ _ _ _ _
          rw [cellsE_snoc, List.length_append]
          exact HO9.out
      · have hB' : ¬ (j : Int) < (ys.length : Int) := by omega
        have hB3 : ys.length ≤ j := by omega
        go_wp2_with fail
        go_ret
        have e : o = mrg befE xs ys := by
          have h1 := HM.out
          rw [List.drop_of_length_le (by omega : xs.length ≤ i), List.drop_of_length_le (by omega : ys.length ≤ j), mrg, List.append_nil] at h1
          exact h1
        obtain ⟨-, a1, c1, e1, r1⟩ := resE_of_owns HO.out
        injection e1 with f1 f2 f3
        subst f1
        rw [← e]
        exact ⟨ao, ⟨co, rfl⟩, r1.lie, HB.out⟩
end Go.Proofs.YtgmfjninimebmaaGreatDoor
