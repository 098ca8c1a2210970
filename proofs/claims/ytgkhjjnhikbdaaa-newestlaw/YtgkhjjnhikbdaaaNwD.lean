import Derived.Test.YtgkhjjnhikbdaaaNwC

namespace Go.Proofs.Ytgkhjjnhikbdaaa
open Go.RowKit Go.Maps
set_option linter.unusedVariables false
set_option linter.unusedSimpArgs false

/-- A list of entries with its slice. -/
structure LV where
  a : Option Addr
  cap : Nat
  xs : List En
def lv0 : LV := ⟨none, 0, []⟩
/-- Lists of entries in memory. -/
def LieSS (w : World) (a : Option Addr) (L : List LV) : Prop := L = [] ∨ ∃ b off, a = some ⟨b, off, none⟩ ∧ b < w.heap.size ∧ ∀ i, i < L.length → w.cell? ⟨b, off + i, none⟩ = some (.slice (L.getD i lv0).a (L.getD i lv0).xs.length (L.getD i lv0).cap) ∧ LieE w (L.getD i lv0).a (L.getD i lv0).xs
theorem LieSS.below {w w' : World} {a : Option Addr} {L : List LV} (h : LieSS w a L) (hb : Below w.heap.size w w') : LieSS w' a L := by
  rcases h with rfl | ⟨b, off, rfl, hlt, hc⟩
  · exact .inl rfl
  · refine .inr ⟨b, off, rfl, Nat.lt_of_lt_of_le hlt hb.size, fun i hi => ?_⟩
    obtain ⟨h1, h2⟩ := hc i hi
    exact ⟨(hb.cell (p := ⟨b, off + i, none⟩) hlt).trans h1, h2.below hb⟩
/-- All entries, one list behind the other. -/
def allE (L : List LV) : List En := L.flatMap (·.xs)
theorem allE_take (L : List LV) (i : Nat) (h : i < L.length) : allE (L.take (i + 1)) = allE (L.take i) ++ (L.getD i lv0).xs := by
  have e : L.take (i + 1) = L.take i ++ [L.getD i lv0] := by
    rw [List.take_add_one, List.getElem?_eq_getElem h]
    simp [List.getD, h]
  rw [e]
  simp [allE]
theorem allE_len (L : List LV) (i : Nat) : (allE (L.take i)).length ≤ (allE L).length := by
  have : allE L = allE (L.take i) ++ allE (L.drop i) := by
    unfold allE
    rw [← List.flatMap_append, List.take_append_drop]
  rw [this, List.length_append]
  omega
/-- Of each key the first, up to place k. -/
def fst1 (xs : List En) (i : Nat) : Bool := decide (i = 0) || !decide ((xs.getD i en0).ky = (xs.getD (i - 1) en0).ky)
def ddT (xs : List En) (k : Nat) : List En := ((List.range k).filter (fst1 xs)).map fun i => xs.getD i en0
theorem ddT_succ (xs : List En) (k : Nat) : ddT xs (k + 1) = ddT xs k ++ (if fst1 xs k = true then [xs.getD k en0] else []) := by
  unfold ddT
  rw [List.range_succ, List.filter_append, List.map_append]
  congr 1
  by_cases h : fst1 xs k = true
  · rw [if_pos h]; simp [h]
  · rw [if_neg h]; simp [h]
theorem ddT_len (xs : List En) (k : Nat) : (ddT xs k).length ≤ k := by
  unfold ddT
  rw [List.length_map]
  exact Nat.le_trans (List.length_filter_le _ _) (by simp)
def newE (xs : List En) : List En := ddT (srt befE xs) xs.length
theorem ResE.down {w : World} {B B' : Nat} {a : Option Addr} {xs : List En} (h : ResE w B a xs) (hB : B' ≤ B) : ResE w B' a xs := by
  rcases h with h | ⟨g, rfl, hg, hr⟩
  · exact .inl h
  · exact .inr ⟨g, rfl, Nat.le_trans hB hg, hr⟩
theorem owns_capE {w : World} {B n : Nat} {v : Value} {xs : List En} (h : w.ownsRow B 40 4 v n (cellsE xs)) : ∃ a cap, v = .slice a xs.length cap ∧ LieE w a xs ∧ xs.length ≤ cap ∧ cap ≤ maxLen := by
  have h2 := h
  obtain ⟨hn, a1, c1, e1, r1⟩ := resE_of_owns h
  rcases h2.2 with ⟨rfl, h0⟩ | ⟨g, cap, cur, rfl, hg, hb, hl, hm, hsz, htk⟩
  · injection e1 with f1 f2 f3
    subst f1 f3
    exact ⟨none, 0, by rw [← f2], r1.lie, by omega, by unfold maxLen; omega⟩
  · injection e1 with f1 f2 f3
    subst f1
    exact ⟨_, cap, by rw [f2], r1.lie, by omega, hm⟩
set_option maxRecDepth 100000 in
set_option maxHeartbeats 8000000 in
theorem specNew_any (a : Option Addr) (cap : Nat) (L : List LV) (w : World) (hL : LieSS w a L) (hl : L.length ≤ 1048576) (hal : (allE L).length ≤ 1048576) (hk : ∀ e ∈ allE L, e.ky.size ≤ maxLen) :
    Calls Try.prog 6 #[.slice a L.length cap] w fun e w' => ∃ d cd, e = .returned (.slice d (newE (allE L)).length cd) ∧ ResE w' w.heap.size d (newE (allE L)) ∧ Below w.heap.size w w' := by
  obtain ⟨i0, hi, hz0, hz1, hz2⟩ := info_parts iEntry_info
  have HL := hdN hL
  have HK := hdN hk
  clear hL hk
  go_enter Try.func6, Try.ntmps6
  go_wp2_with fail
  go_loopw [3, 4] (fun v3 v4 W => ∃ i : Nat, v4 = .int .i64 (i : Int) ∧ i ≤ L.length ∧ Hid (W.ownsRow w.heap.size 40 4 v3 (allE (L.take i)).length (cellsE (allE (L.take i)))) ∧ Hid (Below w.heap.size w W)) (fun _ v4 _ => L.length - (intOf v4).toNat)
  case atStart => exact ⟨0, rfl, Nat.zero_le _, (by show World.ownsRow _ _ _ _ _ _ _; exact ownsE_lit w _ (Nat.le_refl _)), (Below.refl _ _).alloc (Nat.le_refl _) _⟩
  case round =>
    obtain ⟨i, rfl, hi1, HO, HB⟩ := hrel
    by_cases hA : i < L.length
    · have hA' : (i : Int) < (L.length : Int) := by omega
      have hlk := HL.out.below HB.out
      rcases hlk with h | ⟨b, off, rfl, hbl, hc⟩
      · rw [h] at hA; simp at hA
      obtain ⟨c0, hx⟩ := hc i hA
      have HT := hdN (allE_take L i hA)
      have hlen := allE_len L (i + 1)
      rw [HT.out, List.length_append] at hlen
      clear hc
      generalize hP : allE (L.take i) = P at *
      generalize hXa : (L.getD i lv0).a = xa at *
      generalize hXc : (L.getD i lv0).cap = xc at *
      generalize hXx : (L.getD i lv0).xs = xs at *
      have HX := hdN hx
      have HXA := hdN hXa
      have HXC := hdN hXc
      have HXX := hdN hXx
      clear hP hXa hXc hXx hx
      go_wp2_with fail
      go_loopw [3, 5] (fun v3 v5 W => ∃ j : Nat, v5 = .int .i64 (j : Int) ∧ j ≤ xs.length ∧ Hid (W.ownsRow w.heap.size 40 4 v3 (P ++ xs.take j).length (cellsE (P ++ xs.take j))) ∧ Hid (Below w.heap.size w W)) (fun _ v5 _ => xs.length - (intOf v5).toNat)
      case atStart => exact ⟨0, rfl, Nat.zero_le _, (by show World.ownsRow _ _ _ _ _ _ _; rw [List.take_zero, List.append_nil]; exact HO.out), HB⟩
      case round =>
        clear HO HB c0 hbl HX
        obtain ⟨j, rfl, hj1, HO, HB⟩ := hrel
        have hlk := HL.out.below HB.out
        rcases hlk with h | ⟨b', off', eb, hbl, hc⟩
        · rw [h] at hA; simp at hA
        cases eb
        obtain ⟨c0, hx⟩ := hc i hA
        rw [HXA.out, HXX.out, HXC.out] at c0
        rw [HXA.out, HXX.out] at hx
        clear hc
        obtain ⟨ao, co, hvo, -⟩ := owns_capE HO.out
        subst hvo
        by_cases hB : j < xs.length
        · have hB' : (j : Int) < (xs.length : Int) := by omega
          obtain ⟨b2, off2, hab, hbl2, d0, d1, d2, d3⟩ := hx.at hB
          subst hab
          have htk : xs.take (j + 1) = xs.take j ++ [xs.getD j en0] := by
            rw [List.take_add_one, List.getElem?_eq_getElem hB]
            simp [List.getD, hB]
          have HTK := hdN htk
          have hPl : (P ++ xs.take j).length ≤ 1048576 := by rw [List.length_append, List.length_take]; omega
          have hsz := HB.out.size
          clear htk hx
          generalize xs.getD j en0 = x at *
          generalize hQ : P ++ xs.take j = Q at *
          have HQ := hdN hQ
          clear hQ
          go_wp2_with (at_builtin; refine wpList_append_own _ rfl _ _ 24 rfl w.heap.size 40 i0 _ 4 48 Try.underlying24 hi hz0 hz1 hz2 rfl (by decide) _ _ _ rfl (HO.out.alloc _) ⟨wr.heap.size, 0, none⟩ 1 1 [.string x.ky, .int .i64 x.sq, .int .i64 x.kd, .string x.vl] rfl rfl (cell_first4 _ _ _ _ _ _) (fun x hx => by simp at hx; rcases hx with rfl | rfl | rfl | rfl <;> rfl) (by unfold maxLen; omega) (by omega) (by simp; omega) ?_; intro v' w9 hown4 hgrow hnil; have HO9 := hdN hown4; have HB9 := hdN ((HB.out.alloc (by omega) _).grown hgrow (by simp; omega) (owns_base HO.out)); clear hown4 hgrow hnil)
          refine ⟨⟨j + 1, by go_num, by omega, ?_, HB9⟩, by simp only [intOf]; omega⟩
          show World.ownsRow _ _ _ _ _ _ _
          rw [HTK.out, ← List.append_assoc, HQ.out, cellsE_snoc, List.length_append]
          exact HO9.out
        · have hB' : ¬ (j : Int) < (xs.length : Int) := by omega
          have hjx : xs.take j = xs := List.take_of_length_le (by omega)
          have HJX := hdN hjx
          clear hjx hx
          go_wp2_with fail
          refine ⟨⟨i + 1, by go_num, by omega, ?_, HB⟩, by simp only [intOf]; omega⟩
          show World.ownsRow _ _ _ _ _ _ _
          have h1 := HO.out
          rw [HJX.out, ← HT.out] at h1
          rw [HJX.out, ← HT.out] 
          exact h1
    · have hA' : ¬ (i : Int) < (L.length : Int) := by omega
      have hLi : L.take i = L := List.take_of_length_le (by omega)
      rw [hLi] at HO
      obtain ⟨ao, co, hvo, hlo, hco, hcm⟩ := owns_capE HO.out
      subst hvo
      have HORD := hdN (l3Order_any _ ao co (allE L) wr (Nat.le_refl _) hlo hal hco hcm HK.out)
      have HYL : Hid ((srt befE (allE L)).length = (allE L).length) := srt_length _
      have HNE : Hid (newE (allE L) = ddT (srt befE (allE L)) (allE L).length) := rfl
      generalize srt befE (allE L) = ys at *
      generalize (allE L).length = n at *
      have hsz := HB.out.size
      clear hlo hLi
      go_wp2_with fail
      refine HORD.out.mono ?_
      rintro e w2 ⟨d, cd, rfl, hl2, hb2⟩
      have hs2 := hb2.size
      have HB2 := hdN (HB.out.trans (hb2.mono hsz))
      have HL2 := hdN hl2
      have HO3 := hdN (ownsE_lit w2 w2.heap.size (Nat.le_refl _))
      have HB3 : Hid (Below w2.heap.size w2 (w2.alloc (.cells #[] 40))) := (Below.refl _ _).alloc (Nat.le_refl _) _
      clear hl2 hb2 HORD HO HB
      go_wp2_with fail
      generalize w2.alloc (.cells #[] 40) = w3 at *
      go_loopw [6, 7] (fun v6 v7 W => ∃ k : Nat, v7 = .int .i64 (k : Int) ∧ k ≤ n ∧ Hid (W.ownsRow w2.heap.size 40 4 v6 (ddT ys k).length (cellsE (ddT ys k))) ∧ Hid (Below w2.heap.size w2 W)) (fun _ v7 _ => n - (intOf v7).toNat)
      case atStart => exact ⟨0, rfl, Nat.zero_le _, HO3, HB3⟩
      case round =>
        clear HO3 HB3
        obtain ⟨k, rfl, hk1, HO, HB⟩ := hrel
        obtain ⟨-, a6, c6, hv6, -⟩ := resE_of_owns HO.out
        subst hv6
        have hsz2 := HB.out.size
        have hdl := ddT_len ys k
        by_cases hK : k < n
        · have hK' : (k : Int) < (n : Int) := by omega
          have hky : k < ys.length := by rw [HYL.out]; exact hK
          have HDS := hdN (ddT_succ ys k)
          obtain ⟨b, off, hab, hbl, c0, c1, c2, c3⟩ := (HL2.out.below HB.out).at hky
          cases k with
          | zero =>
            have HDD : Hid (ddT ys (0 + 1) = ddT ys 0 ++ [ys.getD 0 en0]) := by show _ = _; rw [HDS.out, if_pos (by simp [fst1])]
            subst hab
            generalize ys.getD 0 en0 = x at *
            generalize ddT ys 0 = o at *
            simp only [Nat.zero_mul, Nat.add_zero] at c0 c1 c2 c3
            go_wp2_with fail
            refine wp_region_noPanic ?_
            refine wp_region_held_drew (S := (fun w' => True)) (by kernel_rfl) ?_ (fun hHeld => ?_)
            · exact trivial
            refine wpAnyH_take (i := 0) (oi := { dst := some 43, op := Op.move (Operand.tmp 7), type := 3, pos := "l3_table.go:106", after := #[], guard := none }) (v := ?_) rfl (by kernel_rfl) (by kernel_rfl) (by kernel_rfl) (fun _ _ _ h => h) (Or.inl ⟨by rfl, ?_⟩) (by assumption) ?_
            rotate_left
            · intro w' hSw
              (try dsimp only at hSw)
              go_simp
              try with_reducible rfl
            simp only [Act.put, List.setIfInBounds_toArray, List.set_cons_zero, List.set_cons_succ]
            refine wpAnyH_take (i := 1) (oi := { dst := some 44, op := Op.binOp BinOp.eql 3 (Operand.tmp 43) (Operand.const (Value.int IntKind.i64 0)) 3, type := 4, pos := "l3_table.go:106", after := #[{ on := 0, ground := Ground.data }], guard := none }) (v := .bool true) rfl (by kernel_rfl) (by kernel_rfl) (by kernel_rfl) (fun _ _ _ h => h) (Or.inl ⟨by rfl, ?_⟩) (by assumption) ?_
            · intro w' hSw
              (try dsimp only at hSw)
              go_simp
              try omega
            simp only [Act.put, List.setIfInBounds_toArray, List.set_cons_zero, List.set_cons_succ]
            refine wpAnyH_take (i := 2) (oi := { dst := some 45, op := Op.move (Operand.tmp 44), type := 4, pos := "l3_table.go:106", after := #[{ on := 1, ground := Ground.data }], guard := none }) (v := ?_) rfl (by kernel_rfl) (by kernel_rfl) (by kernel_rfl) (fun _ _ _ h => h) (Or.inl ⟨by rfl, ?_⟩) (by assumption) ?_
            rotate_left
            · intro w' hSw
              (try dsimp only at hSw)
              go_simp
              try with_reducible rfl
            simp only [Act.put, List.setIfInBounds_toArray, List.set_cons_zero, List.set_cons_succ]
            refine wpAnyH_take (i := 3) (oi := { dst := some 46, op := Op.move (Operand.tmp 3), type := 24, pos := "l3_table.go:106", after := #[{ on := 2, ground := Ground.guard }], guard := some (2, false) }) (v := undef) rfl (by kernel_rfl) (by kernel_rfl) (by kernel_rfl) (fun _ _ _ h => h) (Or.inr ⟨by rfl, rfl⟩) (by assumption) ?_
            simp only [Act.put, List.setIfInBounds_toArray, List.set_cons_zero, List.set_cons_succ]
            refine wpAnyH_take (i := 4) (oi := { dst := some 47, op := Op.move (Operand.tmp 7), type := 3, pos := "l3_table.go:106", after := #[{ on := 2, ground := Ground.guard }], guard := some (2, false) }) (v := undef) rfl (by kernel_rfl) (by kernel_rfl) (by kernel_rfl) (fun _ _ _ h => h) (Or.inr ⟨by rfl, rfl⟩) (by assumption) ?_
            simp only [Act.put, List.setIfInBounds_toArray, List.set_cons_zero, List.set_cons_succ]
            refine wpAnyH_take (i := 5) (oi := { dst := some 48, op := Op.indexAddr 24 (Operand.tmp 46) (Operand.tmp 47), type := 0, pos := "l3_table.go:106", after := #[{ on := 3, ground := Ground.data }, { on := 4, ground := Ground.data }, { on := 2, ground := Ground.guard }], guard := some (2, false) }) (v := undef) rfl (by kernel_rfl) (by kernel_rfl) (by kernel_rfl) (fun _ _ _ h => h) (Or.inr ⟨by rfl, rfl⟩) (by assumption) ?_
            simp only [Act.put, List.setIfInBounds_toArray, List.set_cons_zero, List.set_cons_succ]
            refine wpAnyH_take (i := 6) (oi := { dst := some 49, op := Op.fieldAddr 40 (Operand.tmp 48) 0, type := 0, pos := "l3_table.go:106", after := #[{ on := 5, ground := Ground.data }, { on := 2, ground := Ground.guard }], guard := some (2, false) }) (v := undef) rfl (by kernel_rfl) (by kernel_rfl) (by kernel_rfl) (fun _ _ _ h => h) (Or.inr ⟨by rfl, rfl⟩) (by assumption) ?_
            simp only [Act.put, List.setIfInBounds_toArray, List.set_cons_zero, List.set_cons_succ]
            refine wpAnyH_take (i := 7) (oi := { dst := some 50, op := Op.load 9 (Operand.tmp 49), type := 9, pos := "l3_table.go:106", after := #[{ on := 6, ground := Ground.data }, { on := 2, ground := Ground.guard }], guard := some (2, false) }) (v := undef) rfl (by kernel_rfl) (by kernel_rfl) (by kernel_rfl) (fun _ _ _ h => h) (Or.inr ⟨by rfl, rfl⟩) (by assumption) ?_
            simp only [Act.put, List.setIfInBounds_toArray, List.set_cons_zero, List.set_cons_succ]
            refine wpAnyH_take (i := 8) (oi := { dst := some 51, op := Op.move (Operand.tmp 3), type := 24, pos := "l3_table.go:106", after := #[{ on := 2, ground := Ground.guard }], guard := some (2, false) }) (v := undef) rfl (by kernel_rfl) (by kernel_rfl) (by kernel_rfl) (fun _ _ _ h => h) (Or.inr ⟨by rfl, rfl⟩) (by assumption) ?_
            simp only [Act.put, List.setIfInBounds_toArray, List.set_cons_zero, List.set_cons_succ]
            refine wpAnyH_take (i := 9) (oi := { dst := some 52, op := Op.move (Operand.tmp 7), type := 3, pos := "l3_table.go:106", after := #[{ on := 2, ground := Ground.guard }], guard := some (2, false) }) (v := undef) rfl (by kernel_rfl) (by kernel_rfl) (by kernel_rfl) (fun _ _ _ h => h) (Or.inr ⟨by rfl, rfl⟩) (by assumption) ?_
            simp only [Act.put, List.setIfInBounds_toArray, List.set_cons_zero, List.set_cons_succ]
            refine wpAnyH_take (i := 10) (oi := { dst := some 53, op := Op.binOp BinOp.sub 3 (Operand.tmp 52) (Operand.const (Value.int IntKind.i64 1)) 3, type := 3, pos := "l3_table.go:106", after := #[{ on := 9, ground := Ground.data }, { on := 2, ground := Ground.guard }], guard := some (2, false) }) (v := undef) rfl (by kernel_rfl) (by kernel_rfl) (by kernel_rfl) (fun _ _ _ h => h) (Or.inr ⟨by rfl, rfl⟩) (by assumption) ?_
            simp only [Act.put, List.setIfInBounds_toArray, List.set_cons_zero, List.set_cons_succ]
            refine wpAnyH_take (i := 11) (oi := { dst := some 54, op := Op.indexAddr 24 (Operand.tmp 51) (Operand.tmp 53), type := 0, pos := "l3_table.go:106", after := #[{ on := 8, ground := Ground.data }, { on := 10, ground := Ground.data }, { on := 2, ground := Ground.guard }], guard := some (2, false) }) (v := undef) rfl (by kernel_rfl) (by kernel_rfl) (by kernel_rfl) (fun _ _ _ h => h) (Or.inr ⟨by rfl, rfl⟩) (by assumption) ?_
            simp only [Act.put, List.setIfInBounds_toArray, List.set_cons_zero, List.set_cons_succ]
            refine wpAnyH_take (i := 12) (oi := { dst := some 55, op := Op.fieldAddr 40 (Operand.tmp 54) 0, type := 0, pos := "l3_table.go:106", after := #[{ on := 11, ground := Ground.data }, { on := 2, ground := Ground.guard }], guard := some (2, false) }) (v := undef) rfl (by kernel_rfl) (by kernel_rfl) (by kernel_rfl) (fun _ _ _ h => h) (Or.inr ⟨by rfl, rfl⟩) (by assumption) ?_
            simp only [Act.put, List.setIfInBounds_toArray, List.set_cons_zero, List.set_cons_succ]
            refine wpAnyH_take (i := 13) (oi := { dst := some 56, op := Op.load 9 (Operand.tmp 55), type := 9, pos := "l3_table.go:106", after := #[{ on := 12, ground := Ground.data }, { on := 2, ground := Ground.guard }], guard := some (2, false) }) (v := undef) rfl (by kernel_rfl) (by kernel_rfl) (by kernel_rfl) (fun _ _ _ h => h) (Or.inr ⟨by rfl, rfl⟩) (by assumption) ?_
            simp only [Act.put, List.setIfInBounds_toArray, List.set_cons_zero, List.set_cons_succ]
            refine wpAnyH_take (i := 14) (oi := { dst := some 57, op := Op.binOp BinOp.neq 9 (Operand.tmp 50) (Operand.tmp 56) 9, type := 4, pos := "l3_table.go:106", after := #[{ on := 7, ground := Ground.data }, { on := 13, ground := Ground.data }, { on := 2, ground := Ground.guard }], guard := some (2, false) }) (v := undef) rfl (by kernel_rfl) (by kernel_rfl) (by kernel_rfl) (fun _ _ _ h => h) (Or.inr ⟨by rfl, rfl⟩) (by assumption) ?_
            simp only [Act.put, List.setIfInBounds_toArray, List.set_cons_zero, List.set_cons_succ]
            refine wpAnyH_take (i := 15) (oi := { dst := some 58, op := Op.pick (Operand.tmp 45) (Operand.const (Value.bool true)) (Operand.tmp 57), type := 4, pos := "l3_table.go:106", after := #[{ on := 2, ground := Ground.data }, { on := 14, ground := Ground.data }], guard := none }) (v := ?_) rfl (by kernel_rfl) (by kernel_rfl) (by kernel_rfl) (fun _ _ _ h => h) (Or.inl ⟨by rfl, ?_⟩) (by assumption) ?_
            rotate_left
            · intro w' hSw
              (try dsimp only at hSw)
              go_simp
              try with_reducible rfl
            simp only [Act.put, List.setIfInBounds_toArray, List.set_cons_zero, List.set_cons_succ]
            refine wpAnyH_done (by kernel_rfl) ?_ _
            refine NoPanic.normal ?_
            have e0 : wr.drew.cell? ⟨b, off, none⟩ = some (.string x.ky) := c0
            have e1 : wr.drew.cell? ⟨b, off + 1, none⟩ = some (.int .i64 x.sq) := c1
            have e2 : wr.drew.cell? ⟨b, off + 2, none⟩ = some (.int .i64 x.kd) := c2
            have e3 : wr.drew.cell? ⟨b, off + 3, none⟩ = some (.string x.vl) := c3
            have HO6 : Hid (wr.drew.ownsRow w2.heap.size 40 4 (.slice a6 o.length c6) o.length (cellsE o)) := HO.out
            have HB6 := hdN (HB.out.drew)
            have hbl6 : b < wr.drew.heap.size := hbl
            have hsz6 : w2.heap.size ≤ wr.drew.heap.size := hsz2
            clear c0 c1 c2 c3 HO HB hbl hsz2
            generalize wr.drew = w6 at *
            go_wp2_with (at_builtin; refine wpList_append_own _ rfl _ _ 24 rfl w2.heap.size 40 i0 _ 4 48 Try.underlying24 hi hz0 hz1 hz2 rfl (by decide) _ _ _ rfl (HO6.out.alloc _) ⟨w6.heap.size, 0, none⟩ 1 1 [.string x.ky, .int .i64 x.sq, .int .i64 x.kd, .string x.vl] rfl rfl (cell_first4 _ _ _ _ _ _) (fun x hx => by simp at hx; rcases hx with rfl | rfl | rfl | rfl <;> rfl) (by unfold maxLen; omega) (by omega) (by simp; omega) ?_; intro v' w9 hown4 hgrow hnil; have HO9 := hdN hown4; have HB9 := hdN ((HB6.out.alloc (by omega) _).grown hgrow (by simp; omega) (owns_base HO6.out)); clear hown4 hgrow hnil)
            refine ⟨⟨0 + 1, by go_num, by omega, ?_, HB9⟩, by simp only [intOf]; omega⟩
            show World.ownsRow _ _ _ _ _ _ _
            rw [HDD.out, cellsE_snoc, List.length_append]
            exact HO9.out
          | succ k =>
            have hky2 : k < ys.length := by omega
            obtain ⟨b', off', hab2, -, d0, -⟩ := (HL2.out.below HB.out).at hky2
            subst hab
            cases hab2
            have HF : Hid (fst1 ys (k + 1) = !decide ((ys.getD (k + 1) en0).ky = (ys.getD k en0).ky)) := by show _ = _; unfold fst1; simp
            generalize ys.getD (k + 1) en0 = x at *
            generalize ys.getD k en0 = p at *
            have HEQ : Hid ((x.ky.toList == p.ky.toList) = decide (x.ky = p.ky)) := by
              show _ = _
              cases h : (x.ky.toList == p.ky.toList) with
              | true => exact (decide_eq_true (toList_eq' h)).symm
              | false =>
                refine (decide_eq_false fun e => ?_).symm
                rw [e] at h
                simp at h
            have hk0 : ((k : Int) + 1 == 0) = false := by simp; omega
            have hs1 : (k : Int) + 1 - 1 = (k : Int) := by omega
            have hki : (k : Int) < (n : Int) := by omega
            have hki1 : (k : Int) + 1 < (n : Int) := by omega
            have hk00 : (0 : Int) ≤ (k : Int) + 1 := by omega
            have hw1 : IntKind.i64.wrap ((k : Int) + 1 - 1) = (k : Int) := by rw [IntKind.wrap_i64]; omega
            have hw2 : IntKind.i64.wrap (k : Int) = (k : Int) := by rw [IntKind.wrap_i64]; omega
            have hw3 : (0 : Int) ≤ (k : Int) := by omega
            have hkn1 : ((k : Int) + 1).toNat = k + 1 := by omega
            clear hK' hky hky2
            cases hdc : decide (x.ky = p.ky) with
            | true =>
              rw [hdc] at HEQ HF
              have he := HEQ.out
              have HDD : Hid (ddT ys (k + 1 + 1) = ddT ys (k + 1)) := by show _ = _; rw [HDS.out, HF.out]; simp
              generalize ddT ys (k + 1) = o at *
              have HB6 := hdN (HB.out.drew)
              have HO6 : Hid (wr.drew.ownsRow w2.heap.size 40 4 (.slice a6 o.length c6) o.length (cellsE o)) := HO.out
              clear HEQ HF hdc
              go_wp2_with fail
              go_region_held3 (fun w' => w'.cell? ⟨b, off + (k + 1) * 4, none⟩ = some (.string x.ky) ∧ w'.cell? ⟨b, off + k * 4, none⟩ = some (.string p.ky)) (simp [go_sem, *])
                (fail)
              go_wp2_with fail
              refine ⟨⟨k + 1 + 1, by go_num, by omega, ?_, HB6⟩, by simp only [intOf]; omega⟩
              show World.ownsRow _ _ _ _ _ _ _
              rw [HDD.out]
              exact HO6.out
            | false =>
              rw [hdc] at HEQ HF
              have he := HEQ.out
              have HDD : Hid (ddT ys (k + 1 + 1) = ddT ys (k + 1) ++ [x]) := by show _ = _; rw [HDS.out, HF.out]; simp
              generalize ddT ys (k + 1) = o at *
              clear HEQ HF hdc
              go_wp2_with fail
              go_region_held3 (fun w' => w'.cell? ⟨b, off + (k + 1) * 4, none⟩ = some (.string x.ky) ∧ w'.cell? ⟨b, off + k * 4, none⟩ = some (.string p.ky)) (simp [go_sem, *])
                (fail)
              have e0 : wr.drew.cell? ⟨b, off + (k + 1) * 4, none⟩ = some (.string x.ky) := c0
              have e1 : wr.drew.cell? ⟨b, off + (k + 1) * 4 + 1, none⟩ = some (.int .i64 x.sq) := c1
              have e2 : wr.drew.cell? ⟨b, off + (k + 1) * 4 + 2, none⟩ = some (.int .i64 x.kd) := c2
              have e3 : wr.drew.cell? ⟨b, off + (k + 1) * 4 + 3, none⟩ = some (.string x.vl) := c3
              have HO6 : Hid (wr.drew.ownsRow w2.heap.size 40 4 (.slice a6 o.length c6) o.length (cellsE o)) := HO.out
              have HB6 := hdN (HB.out.drew)
              have hbl6 : b < wr.drew.heap.size := hbl
              have hsz6 : w2.heap.size ≤ wr.drew.heap.size := hsz2
              clear c0 c1 c2 c3 d0 HO HB hbl hsz2
              generalize wr.drew = w6 at *
              go_wp2_with (at_builtin; refine wpList_append_own _ rfl _ _ 24 rfl w2.heap.size 40 i0 _ 4 48 Try.underlying24 hi hz0 hz1 hz2 rfl (by decide) _ _ _ rfl (HO6.out.alloc _) ⟨w6.heap.size, 0, none⟩ 1 1 [.string x.ky, .int .i64 x.sq, .int .i64 x.kd, .string x.vl] rfl rfl (cell_first4 _ _ _ _ _ _) (fun x hx => by simp at hx; rcases hx with rfl | rfl | rfl | rfl <;> rfl) (by unfold maxLen; omega) (by omega) (by simp; omega) ?_; intro v' w9 hown4 hgrow hnil; have HO9 := hdN hown4; have HB9 := hdN ((HB6.out.alloc (by omega) _).grown hgrow (by simp; omega) (owns_base HO6.out)); clear hown4 hgrow hnil)
              refine ⟨⟨k + 1 + 1, by go_num, by omega, ?_, HB9⟩, by simp only [intOf]; omega⟩
              show World.ownsRow _ _ _ _ _ _ _
              rw [HDD.out, cellsE_snoc, List.length_append]
              exact HO9.out
        · have hK' : ¬ (k : Int) < (n : Int) := by omega
          have hkn : k = n := by omega
          go_wp2_with fail
          go_ret
          obtain ⟨-, a7, c7, e7, r7⟩ := resE_of_owns HO.out
          injection e7 with f1 f2 f3
          subst f1
          rw [HNE.out, ← hkn]
          exact ⟨a6, ⟨c6, rfl⟩, r7.down (by omega), HB2.out.trans (HB.out.mono (by omega))⟩
end Go.Proofs.Ytgkhjjnhikbdaaa
