import Derived.Test.YtgmfjninimebmaaGreatDoorMgNwA
namespace Go.Proofs.YtgmfjninimebmaaGreatDoor
open Go.RowKit Go.Maps
set_option linter.unusedVariables false
set_option linter.unusedSimpArgs false

theorem lieE_take {w : World} {a : Option Addr} {xs : List En} (h : LieE w a xs) (m : Nat) : LieE w a (xs.take m) := by
  rcases h with rfl | ⟨b, off, rfl, hlt, hc⟩
  · exact .inl (by simp)
  · refine .inr ⟨b, off, rfl, hlt, fun i hi => ?_⟩
    rw [List.length_take] at hi
    have e : (xs.take m).getD i en0 = xs.getD i en0 := by
      rw [List.getD_eq_getElem?_getD, List.getD_eq_getElem?_getD, List.getElem?_take_of_lt (by omega)]
    rw [e]
    exact hc i (by omega)
theorem lieE_drop {w : World} {b off : Nat} {xs : List En} (h : LieE w (some ⟨b, off, none⟩) xs) (m : Nat) : LieE w (some ⟨b, off + m * 4, none⟩) (xs.drop m) := by
  rcases h with rfl | ⟨b', off', e, hlt, hc⟩
  · exact .inl (by simp)
  · cases e
    refine .inr ⟨b, off + m * 4, rfl, hlt, fun i hi => ?_⟩
    rw [List.length_drop] at hi
    have e : (xs.drop m).getD i en0 = xs.getD (m + i) en0 := by
      rw [List.getD_eq_getElem?_getD, List.getD_eq_getElem?_getD, List.getElem?_drop]
    rw [e]
    have := hc (m + i) (by omega)
    have e2 : off + m * 4 + i * 4 = off + (m + i) * 4 := by omega
    rw [e2]
    exact this
theorem srt_small {xs : List En} (h : xs.length < 2) : srt befE xs = xs := by
  match xs, h with
  | [], _ => rfl
  | [x], _ => rfl
theorem srt_length (xs : List En) : (srt befE xs).length = xs.length := by
  have hi : ∀ (x : En) (l : List En), (insE befE x l).length = l.length + 1 := fun x l => by
    induction l with
    | nil => rfl
    | cons y r ih => unfold insE; split <;> simp [ih]
  induction xs with
  | nil => rfl
  | cons x r ih => simp [srt, hi, ih]
theorem srt_mem {e : En} {xs : List En} (h : e ∈ srt befE xs) : e ∈ xs := (srt_ok befE_swo xs).2.symm.mem befE_swo h
set_option maxRecDepth 100000 in
set_option maxHeartbeats 4000000 in
theorem l3Order_any : ∀ (n : Nat) (a : Option Addr) (cap : Nat) (xs : List En) (w : World), xs.length ≤ n → LieE w a xs → xs.length ≤ 1048576 → xs.length ≤ cap → cap ≤ maxLen → (∀ e ∈ xs, e.ky.size ≤ maxLen) →
    Calls Tryz.prog 40 #[.slice a xs.length cap] w fun e w' => ∃ d cd, e = .returned (.slice d xs.length cd) ∧ LieE w' d (srt befE xs) ∧ Below w.heap.size w w' := by
  intro n
  induction n with
  | zero =>
    intro a cap xs w hn hx hl hcap hcm hk
    have h0 : xs = [] := List.eq_nil_of_length_eq_zero (by omega)
    subst h0
    go_enter Tryz.func40, Tryz.ntmps40
    go_wp2_with fail
    go_ret
    exact ⟨_, _, rfl, .inl rfl, Below.refl _ _⟩
  | succ n ih =>
    intro a cap xs w hn hx hl hcap hcm hk
    by_cases h2 : xs.length < 2
    · have h2' : (xs.length : Int) < 2 := by omega
      have HS := hdN (srt_small h2)
      have HX := hdN hx
      clear hx ih
      go_enter Tryz.func40, Tryz.ntmps40
      go_wp2_with fail
      go_ret
      rw [HS.out]
      exact ⟨_, _, rfl, HX.out, Below.refl _ _⟩
    · have h2' : ¬ (xs.length : Int) < 2 := by omega
      have hx0 := hx
      rcases hx with h | ⟨b, off, rfl, hbl, -⟩
      · subst h; simp at h2
      obtain ⟨m, hm⟩ : ∃ m, m = xs.length / 2 := ⟨_, rfl⟩
      have hm1 : m < xs.length := by omega
      have hm2 : 1 ≤ m := by omega
      have hmi : (xs.length : Int).tdiv 2 = (m : Int) := by rw [hm, Int.tdiv_eq_ediv_of_nonneg (by omega)]; omega
      have ht : (xs.take m).length = m := by rw [List.length_take]; omega
      have hd : (xs.drop m).length = xs.length - m := by rw [List.length_drop]
      have HC1 := hdN (ih (some ⟨b, off, none⟩) cap (xs.take m) w.drew (by omega) (lieE_take hx0 m) (by omega) (by omega) hcm (fun e he => hk e (List.mem_of_mem_take he)))
      have HC2 := hdN (fun (w' : World) (hb : Below w.heap.size w w') => ih (some ⟨b, off + m * 4, none⟩) (cap - m) (xs.drop m) w' (by omega) ((lieE_drop hx0 m).below hb) (by omega) (by omega) (by omega) (fun e he => hk e (List.mem_of_mem_drop he)))
      rw [ht] at HC1
      rw [hd] at HC2
      have HC3 := hdN (fun (w' : World) (d d' : Option Addr) (cd cd' : Nat) (h1 : LieE w' d (srt befE (xs.take m))) (h2 : LieE w' d' (srt befE (xs.drop m))) => l3Half_any d d' cd cd' _ _ w' h1 h2 (by rw [srt_length]; omega) (by rw [srt_length]; omega) (fun e he => hk e (List.mem_of_mem_take (srt_mem he))) (fun e he => hk e (List.mem_of_mem_drop (srt_mem he))))
      have e3 : mrg befE (srt befE (xs.take m)) (srt befE (xs.drop m)) = srt befE xs := by rw [mrg_srt befE_swo, List.take_append_drop]
      rw [e3, srt_length, srt_length, srt_length, ht, hd] at HC3
      have hcm0 : ¬ cap = m := by omega
      have hcm1 : ¬ cap - m = 0 := by omega
      have hmc : (m : Int) ≤ (cap : Int) := by omega
      have hml : (m : Int) ≤ (xs.length : Int) := by omega
      clear ih hx0 ht hd e3 hk hm
      go_enter Tryz.func40, Tryz.ntmps40
      go_wp2_with fail
      refine wp_region_noPanic ?_
      refine wp_region_held_drew (S := (fun w' => True)) (by kernel_rfl) ?_ (fun hHeld => ?_)
      · exact trivial
      refine wpAnyH_take (i := 0) (oi := { dst := some 11, op := Op.move (Operand.tmp 0), type := 26, pos := "l3_table.go:92", after := #[], guard := none }) (v := ?_) rfl (by kernel_rfl) (by kernel_rfl) (by kernel_rfl) (fun _ _ _ h => h) (Or.inl ⟨by rfl, ?_⟩) (by assumption) ?_
      rotate_left
      · intro w' hSw
        (try dsimp only at hSw)
        go_simp
        try with_reducible rfl
      simp only [Act.put, List.setIfInBounds_toArray, List.set_cons_zero, List.set_cons_succ]
      refine wpAnyH_take (i := 1) (oi := { dst := some 12, op := Op.move (Operand.tmp 3), type := 3, pos := "l3_table.go:92", after := #[], guard := none }) (v := ?_) rfl (by kernel_rfl) (by kernel_rfl) (by kernel_rfl) (fun _ _ _ h => h) (Or.inl ⟨by rfl, ?_⟩) (by assumption) ?_
      rotate_left
      · intro w' hSw
        (try dsimp only at hSw)
        go_simp
        try with_reducible rfl
      simp only [Act.put, List.setIfInBounds_toArray, List.set_cons_zero, List.set_cons_succ]
      refine wpAnyH_take (i := 2) (oi := { dst := some 13, op := Op.slice 26 (Operand.tmp 11) none (some (Operand.tmp 12)) none, type := 26, pos := "l3_table.go:92", after := #[{ on := 0, ground := Ground.data }, { on := 1, ground := Ground.data }], guard := none }) (v := .slice (some ⟨b, off, none⟩) m cap) rfl (by kernel_rfl) (by kernel_rfl) (by kernel_rfl) (fun _ _ _ h => h) (Or.inl ⟨by rfl, ?_⟩) (by assumption) ?_
      · intro w' hSw
        (try dsimp only at hSw)
        go_simp
        try omega
      simp only [Act.put, List.setIfInBounds_toArray, List.set_cons_zero, List.set_cons_succ]
      refine wpAnyH_take (i := 4) (oi := { dst := some 15, op := Op.move (Operand.tmp 0), type := 26, pos := "l3_table.go:92", after := #[], guard := none }) (v := ?_) rfl (by kernel_rfl) (by kernel_rfl) (by kernel_rfl) (fun _ _ _ h => h) (Or.inl ⟨by rfl, ?_⟩) (by assumption) ?_
      rotate_left
      · intro w' hSw
        (try dsimp only at hSw)
        go_simp
        try with_reducible rfl
      simp only [Act.put, List.setIfInBounds_toArray, List.set_cons_zero, List.set_cons_succ]
      refine wpAnyH_take (i := 5) (oi := { dst := some 16, op := Op.move (Operand.tmp 3), type := 3, pos := "l3_table.go:92", after := #[], guard := none }) (v := ?_) rfl (by kernel_rfl) (by kernel_rfl) (by kernel_rfl) (fun _ _ _ h => h) (Or.inl ⟨by rfl, ?_⟩) (by assumption) ?_
      rotate_left
      · intro w' hSw
        (try dsimp only at hSw)
        go_simp
        try with_reducible rfl
      simp only [Act.put, List.setIfInBounds_toArray, List.set_cons_zero, List.set_cons_succ]
      refine wpAnyH_take (i := 6) (oi := { dst := some 17, op := Op.slice 26 (Operand.tmp 15) (some (Operand.tmp 16)) none none, type := 26, pos := "l3_table.go:92", after := #[{ on := 4, ground := Ground.data }, { on := 5, ground := Ground.data }], guard := none }) (v := .slice (some ⟨b, off + m * 4, none⟩) (xs.length - m) (cap - m)) rfl (by kernel_rfl) (by kernel_rfl) (by kernel_rfl) (fun _ _ _ h => h) (Or.inl ⟨by rfl, ?_⟩) (by assumption) ?_
      · intro w' hSw
        (try dsimp only at hSw)
        go_simp
        try omega
      simp only [Act.put, List.setIfInBounds_toArray, List.set_cons_zero, List.set_cons_succ]
      refine wpAnyH_ready (rs := [3]) (by kernel_rfl) (by simp) ?_
      refine AllReadyH.cons rfl (fun K hK => ?_) AllReadyH.nil
      go_simp
      refine HC1.out.mono ?_
      rintro e w1 ⟨d1, k1, rfl, hl1, hb1⟩
      have HL1 := hdN hl1
      have HB1 := hdN ((Below.refl w.heap.size w).drew.trans hb1)
      clear hl1 hb1
      refine hK.out _ _ ?_ (fun hHeld => ?_)
      · exact trivial
      clear hK K
      try simp only [Act.put, List.setIfInBounds_toArray, List.set_cons_zero, List.set_cons_succ]
      refine wpAnyH_ready (rs := [7]) (by kernel_rfl) (by simp) ?_
      refine AllReadyH.cons rfl (fun K hK => ?_) AllReadyH.nil
      go_simp
      refine (HC2.out _ HB1.out).mono ?_
      rintro e w2 ⟨d2, k2, rfl, hl2, hb2⟩
      have HL2 := hdN hl2
      have HL1b := hdN (HL1.out.below hb2)
      have HB2 := hdN (HB1.out.trans (hb2.mono HB1.out.size))
      clear hl2 hb2
      refine hK.out _ _ ?_ (fun hHeld => ?_)
      · exact trivial
      clear hK K
      try simp only [Act.put, List.setIfInBounds_toArray, List.set_cons_zero, List.set_cons_succ]
      refine wpAnyH_ready (rs := [8]) (by kernel_rfl) (by simp) ?_
      refine AllReadyH.cons rfl (fun K hK => ?_) AllReadyH.nil
      go_simp
      refine (HC3.out _ d1 d2 k1 k2 HL1b.out HL2.out).mono ?_
      rintro e w3 ⟨d3, k3, rfl, hl3, hb3⟩
      have HL3 := hdN hl3
      have HB3 := hdN (HB2.out.trans (hb3.mono HB2.out.size))
      clear hl3 hb3
      refine hK.out _ _ ?_ (fun hHeld => ?_)
      · exact trivial
      clear hK K
      try simp only [Act.put, List.setIfInBounds_toArray, List.set_cons_zero, List.set_cons_succ]
      refine wpAnyH_take (i := 9) (oi := { dst := some 2, op := Op.assign (Operand.tmp 19), type := 26, pos := "l3_table.go:92", after := #[{ on := 8, ground := Ground.data }, { on := 8, ground := Ground.chain }, { on := 0, ground := Ground.phase }, { on := 1, ground := Ground.phase }, { on := 2, ground := Ground.phase }, { on := 3, ground := Ground.phase }, { on := 4, ground := Ground.phase }, { on := 5, ground := Ground.phase }, { on := 6, ground := Ground.phase }, { on := 7, ground := Ground.phase }, { on := 8, ground := Ground.phase }], guard := none }) (v := ?_) rfl (by kernel_rfl) (by kernel_rfl) (by kernel_rfl) (fun _ _ _ h => h) (Or.inl ⟨by rfl, ?_⟩) (by assumption) ?_
      rotate_left
      · intro w' hSw
        (try dsimp only at hSw)
        go_simp
        try with_reducible rfl
      simp only [Act.put, List.setIfInBounds_toArray, List.set_cons_zero, List.set_cons_succ]
      refine wpAnyH_done (by kernel_rfl) ?_ _
      refine NoPanic.normal ?_
      go_wp2_with fail
      go_ret
      exact ⟨d3, k3, rfl, HL3.out, HB3.out⟩
end Go.Proofs.YtgmfjninimebmaaGreatDoor
namespace Go.Proofs.YtgmfjninimebmaaGreatDoor
open Go.RowKit Go.Maps
set_option linter.unusedVariables false
set_option linter.unusedSimpArgs false

/-- A list of entries with its slice. -/
structure LV where
  a : Option Addr
  cap : Nat
  xs : List En
def lv0 : LV := ⟨none, 0, []⟩
/-- Lists of entries in memory. -/
def LieSS (w : World) (a : Option Addr) (L : List LV) : Prop := L = [] ∨ ∃ b off, a = some ⟨b, off, none⟩ ∧ b < w.heap.size ∧ ∀ i, i < L.length → w.cell? ⟨b, off + i, none⟩ = some (.slice (L.getD i lv0).a (L.getD i lv0).xs.length (L.getD i lv0).cap) ∧ LieE w (L.getD i lv0).a (L.getD i lv0).xs
theorem LieSS.below {w w' : World} {a : Option Addr} {L : List LV} (h : LieSS w a L) (hb : Below w.heap.size w w') : LieSS w' a L := by
  rcases h with rfl | ⟨b, off, rfl, hlt, hc⟩
  · exact .inl rfl
  · refine .inr ⟨b, off, rfl, Nat.lt_of_lt_of_le hlt hb.size, fun i hi => ?_⟩
    obtain ⟨h1, h2⟩ := hc i hi
    exact ⟨(hb.cell (p := ⟨b, off + i, none⟩) hlt).trans h1, h2.below hb⟩
/-- All entries, one list behind the other. -/
def allE (L : List LV) : List En := L.flatMap (·.xs)
theorem allE_take (L : List LV) (i : Nat) (h : i < L.length) : allE (L.take (i + 1)) = allE (L.take i) ++ (L.getD i lv0).xs := by
  have e : L.take (i + 1) = L.take i ++ [L.getD i lv0] := by
    rw [List.take_add_one, List.getElem?_eq_getElem h]
    simp [List.getD, h]
  rw [e]
  simp [allE]
theorem allE_len (L : List LV) (i : Nat) : (allE (L.take i)).length ≤ (allE L).length := by
  have : allE L = allE (L.take i) ++ allE (L.drop i) := by
    unfold allE
    rw [← List.flatMap_append, List.take_append_drop]
  rw [this, List.length_append]
  omega
/-- Of each key the first, up to place k. -/
def fst1 (xs : List En) (i : Nat) : Bool := decide (i = 0) || !decide ((xs.getD i en0).ky = (xs.getD (i - 1) en0).ky)
def ddT (xs : List En) (k : Nat) : List En := ((List.range k).filter (fst1 xs)).map fun i => xs.getD i en0
theorem ddT_succ (xs : List En) (k : Nat) : ddT xs (k + 1) = ddT xs k ++ (if fst1 xs k = true then [xs.getD k en0] else []) := by
  unfold ddT
  rw [List.range_succ, List.filter_append, List.map_append]
  congr 1
  by_cases h : fst1 xs k = true
  · rw [if_pos h]; simp [h]
  · rw [if_neg h]; simp [h]
theorem ddT_len (xs : List En) (k : Nat) : (ddT xs k).length ≤ k := by
  unfold ddT
  rw [List.length_map]
  exact Nat.le_trans (List.length_filter_le _ _) (by simp)
def newE (xs : List En) : List En := ddT (srt befE xs) xs.length
theorem ResE.down {w : World} {B B' : Nat} {a : Option Addr} {xs : List En} (h : ResE w B a xs) (hB : B' ≤ B) : ResE w B' a xs := by
  rcases h with h | ⟨g, rfl, hg, hr⟩
  · exact .inl h
  · exact .inr ⟨g, rfl, Nat.le_trans hB hg, hr⟩
theorem owns_capE {w : World} {B n : Nat} {v : Value} {xs : List En} (h : w.ownsRow B 50 4 v n (cellsE xs)) : ∃ a cap, v = .slice a xs.length cap ∧ LieE w a xs ∧ xs.length ≤ cap ∧ cap ≤ maxLen := by
  have h2 := h
  obtain ⟨hn, a1, c1, e1, r1⟩ := resE_of_owns h
  rcases h2.2 with ⟨rfl, h0⟩ | ⟨g, cap, cur, rfl, hg, hb, hl, hm, hsz, htk⟩
  · injection e1 with f1 f2 f3
    subst f1 f3
    exact ⟨none, 0, by rw [← f2], r1.lie, by omega, by unfold maxLen; omega⟩
  · injection e1 with f1 f2 f3
    subst f1
    exact ⟨_, cap, by rw [f2], r1.lie, by omega, hm⟩
set_option maxRecDepth 100000 in
set_option maxHeartbeats 8000000 in
theorem specNew_any (a : Option Addr) (cap : Nat) (L : List LV) (w : World) (hL : LieSS w a L) (hl : L.length ≤ 1048576) (hal : (allE L).length ≤ 1048576) (hk : ∀ e ∈ allE L, e.ky.size ≤ maxLen) :
    Calls Tryz.prog 19 #[.slice a L.length cap] w fun e w' => ∃ d cd, e = .returned (.slice d (newE (allE L)).length cd) ∧ ResE w' w.heap.size d (newE (allE L)) ∧ Below w.heap.size w w' := by
  obtain ⟨i0, hi, hz0, hz1, hz2⟩ := info_parts iEntry_info
  have HL := hdN hL
  have HK := hdN hk
  clear hL hk
  go_enter Tryz.func19, Tryz.ntmps19
  go_wp2_with fail
  go_loopw [3, 4] (fun v3 v4 W => ∃ i : Nat, v4 = .int .i64 (i : Int) ∧ i ≤ L.length ∧ Hid (W.ownsRow w.heap.size 50 4 v3 (allE (L.take i)).length (cellsE (allE (L.take i)))) ∧ Hid (Below w.heap.size w W)) (fun _ v4 _ => L.length - (intOf v4).toNat)
  case atStart => exact ⟨0, rfl, Nat.zero_le _, (by show World.ownsRow _ _ _ _ _ _ _; exact ownsE_lit w _ (Nat.le_refl _)), (Below.refl _ _).alloc (Nat.le_refl _) _⟩
  case round =>
    obtain ⟨i, rfl, hi1, HO, HB⟩ := hrel
    by_cases hA : i < L.length
    · have hA' : (i : Int) < (L.length : Int) := by omega
      have hlk := HL.out.below HB.out
      rcases hlk with h | ⟨b, off, rfl, hbl, hc⟩
      · rw [h] at hA; simp at hA
      obtain ⟨c0, hx⟩ := hc i hA
      have HT := hdN (allE_take L i hA)
      have hlen := allE_len L (i + 1)
      rw [HT.out, List.length_append] at hlen
      clear hc
      generalize hP : allE (L.take i) = P at *
      generalize hXa : (L.getD i lv0).a = xa at *
      generalize hXc : (L.getD i lv0).cap = xc at *
      generalize hXx : (L.getD i lv0).xs = xs at *
      have HX := hdN hx
      have HXA := hdN hXa
      have HXC := hdN hXc
      have HXX := hdN hXx
      clear hP hXa hXc hXx hx
      go_wp2_with fail
      go_loopw [3, 5] (fun v3 v5 W => ∃ j : Nat, v5 = .int .i64 (j : Int) ∧ j ≤ xs.length ∧ Hid (W.ownsRow w.heap.size 50 4 v3 (P ++ xs.take j).length (cellsE (P ++ xs.take j))) ∧ Hid (Below w.heap.size w W)) (fun _ v5 _ => xs.length - (intOf v5).toNat)
      case atStart => exact ⟨0, rfl, Nat.zero_le _, (by show World.ownsRow _ _ _ _ _ _ _; rw [List.take_zero, List.append_nil]; exact HO.out), HB⟩
      case round =>
        clear HO HB c0 hbl HX
        obtain ⟨j, rfl, hj1, HO, HB⟩ := hrel
        have hlk := HL.out.below HB.out
        rcases hlk with h | ⟨b', off', eb, hbl, hc⟩
        · rw [h] at hA; simp at hA
        cases eb
        obtain ⟨c0, hx⟩ := hc i hA
        rw [HXA.out, HXX.out, HXC.out] at c0
        rw [HXA.out, HXX.out] at hx
        clear hc
        obtain ⟨ao, co, hvo, -⟩ := owns_capE HO.out
        subst hvo
        by_cases hB : j < xs.length
        · have hB' : (j : Int) < (xs.length : Int) := by omega
          obtain ⟨b2, off2, hab, hbl2, d0, d1, d2, d3⟩ := hx.at hB
          subst hab
          have htk : xs.take (j + 1) = xs.take j ++ [xs.getD j en0] := by
            rw [List.take_add_one, List.getElem?_eq_getElem hB]
            simp [List.getD, hB]
          have HTK := hdN htk
          have hPl : (P ++ xs.take j).length ≤ 1048576 := by rw [List.length_append, List.length_take]; omega
          have hsz := HB.out.size
          clear htk hx
          generalize xs.getD j en0 = x at *
          generalize hQ : P ++ xs.take j = Q at *
          have HQ := hdN hQ
          clear hQ
          go_wp2_with (at_builtin; refine wpList_append_own _ rfl _ _ 26 rfl w.heap.size 50 i0 _ 4 48 Tryz.underlying26 hi hz0 hz1 hz2 rfl (by decide) _ _ _ rfl (HO.out.alloc _) ⟨wr.heap.size, 0, none⟩ 1 1 [.string x.ky, .int .i64 x.sq, .int .i64 x.kd, .string x.vl] rfl rfl (cell_first4 _ _ _ _ _ _) (fun x hx => by simp at hx; rcases hx with rfl | rfl | rfl | rfl <;> rfl) (by unfold maxLen; omega) (by omega) (by simp; omega) ?_; intro v' w9 hown4 hgrow hnil; have HO9 := hdN hown4; have HB9 := hdN ((HB.out.alloc (by omega) _).grown hgrow (by simp; omega) (owns_base HO.out)); clear hown4 hgrow hnil)
          refine ⟨⟨j + 1, by go_num, by omega, ?_, HB9⟩, by simp only [intOf]; omega⟩
          show World.ownsRow _ _ _ _ _ _ _
          rw [HTK.out, ← List.append_assoc, HQ.out, cellsE_snoc, List.length_append]
          exact HO9.out
        · have hB' : ¬ (j : Int) < (xs.length : Int) := by omega
          have hjx : xs.take j = xs := List.take_of_length_le (by omega)
          have HJX := hdN hjx
          clear hjx hx
          go_wp2_with fail
          refine ⟨⟨i + 1, by go_num, by omega, ?_, HB⟩, by simp only [intOf]; omega⟩
          show World.ownsRow _ _ _ _ _ _ _
          have h1 := HO.out
          rw [HJX.out, ← HT.out] at h1
          rw [HJX.out, ← HT.out] 
          exact h1
    · have hA' : ¬ (i : Int) < (L.length : Int) := by omega
      have hLi : L.take i = L := List.take_of_length_le (by omega)
      rw [hLi] at HO
      obtain ⟨ao, co, hvo, hlo, hco, hcm⟩ := owns_capE HO.out
      subst hvo
      have HORD := hdN (l3Order_any _ ao co (allE L) wr (Nat.le_refl _) hlo hal hco hcm HK.out)
      have HYL : Hid ((srt befE (allE L)).length = (allE L).length) := srt_length _
      have HNE : Hid (newE (allE L) = ddT (srt befE (allE L)) (allE L).length) := rfl
      generalize srt befE (allE L) = ys at *
      generalize (allE L).length = n at *
      have hsz := HB.out.size
      clear hlo hLi
      go_wp2_with fail
      refine HORD.out.mono ?_
      rintro e w2 ⟨d, cd, rfl, hl2, hb2⟩
      have hs2 := hb2.size
      have HB2 := hdN (HB.out.trans (hb2.mono hsz))
      have HL2 := hdN hl2
      have HO3 := hdN (ownsE_lit w2 w2.heap.size (Nat.le_refl _))
      have HB3 : Hid (Below w2.heap.size w2 (w2.alloc (.cells #[] 50))) := (Below.refl _ _).alloc (Nat.le_refl _) _
      clear hl2 hb2 HORD HO HB
      go_wp2_with fail
      generalize w2.alloc (.cells #[] 50) = w3 at *
      go_loopw [6, 7] (fun v6 v7 W => ∃ k : Nat, v7 = .int .i64 (k : Int) ∧ k ≤ n ∧ Hid (W.ownsRow w2.heap.size 50 4 v6 (ddT ys k).length (cellsE (ddT ys k))) ∧ Hid (Below w2.heap.size w2 W)) (fun _ v7 _ => n - (intOf v7).toNat)
      case atStart => exact ⟨0, rfl, Nat.zero_le _, HO3, HB3⟩
      case round =>
        clear HO3 HB3
        obtain ⟨k, rfl, hk1, HO, HB⟩ := hrel
        obtain ⟨-, a6, c6, hv6, -⟩ := resE_of_owns HO.out
        subst hv6
        have hsz2 := HB.out.size
        have hdl := ddT_len ys k
        by_cases hK : k < n
        · have hK' : (k : Int) < (n : Int) := by omega
          have hky : k < ys.length := by rw [HYL.out]; exact hK
          have HDS := hdN (ddT_succ ys k)
          obtain ⟨b, off, hab, hbl, c0, c1, c2, c3⟩ := (HL2.out.below HB.out).at hky
          cases k with
          | zero =>
            have HDD : Hid (ddT ys (0 + 1) = ddT ys 0 ++ [ys.getD 0 en0]) := by show _ = _; rw [HDS.out, if_pos (by simp [fst1])]
            subst hab
            generalize ys.getD 0 en0 = x at *
            generalize ddT ys 0 = o at *
            simp only [Nat.zero_mul, Nat.add_zero] at c0 c1 c2 c3
            go_wp2_with fail
            refine wp_region_noPanic ?_
            refine wp_region_held_drew (S := (fun w' => True)) (by kernel_rfl) ?_ (fun hHeld => ?_)
            · exact trivial
            refine wpAnyH_take (i := 0) (oi := { dst := some 43, op := Op.move (Operand.tmp 7), type := 3, pos := "l3_table.go:106", after := #[], guard := none }) (v := ?_) rfl (by kernel_rfl) (by kernel_rfl) (by kernel_rfl) (fun _ _ _ h => h) (Or.inl ⟨by rfl, ?_⟩) (by assumption) ?_
            rotate_left
            · intro w' hSw
              (try dsimp only at hSw)
              go_simp
              try with_reducible rfl
            simp only [Act.put, List.setIfInBounds_toArray, List.set_cons_zero, List.set_cons_succ]
            refine wpAnyH_take (i := 1) (oi := { dst := some 44, op := Op.binOp BinOp.eql 3 (Operand.tmp 43) (Operand.const (Value.int IntKind.i64 0)) 3, type := 4, pos := "l3_table.go:106", after := #[{ on := 0, ground := Ground.data }], guard := none }) (v := .bool true) rfl (by kernel_rfl) (by kernel_rfl) (by kernel_rfl) (fun _ _ _ h => h) (Or.inl ⟨by rfl, ?_⟩) (by assumption) ?_
            · intro w' hSw
              (try dsimp only at hSw)
              go_simp
              try omega
            simp only [Act.put, List.setIfInBounds_toArray, List.set_cons_zero, List.set_cons_succ]
            refine wpAnyH_take (i := 2) (oi := { dst := some 45, op := Op.move (Operand.tmp 44), type := 4, pos := "l3_table.go:106", after := #[{ on := 1, ground := Ground.data }], guard := none }) (v := ?_) rfl (by kernel_rfl) (by kernel_rfl) (by kernel_rfl) (fun _ _ _ h => h) (Or.inl ⟨by rfl, ?_⟩) (by assumption) ?_
            rotate_left
            · intro w' hSw
              (try dsimp only at hSw)
              go_simp
              try with_reducible rfl
            simp only [Act.put, List.setIfInBounds_toArray, List.set_cons_zero, List.set_cons_succ]
            refine wpAnyH_take (i := 3) (oi := { dst := some 46, op := Op.move (Operand.tmp 3), type := 26, pos := "l3_table.go:106", after := #[{ on := 2, ground := Ground.guard }], guard := some (2, false) }) (v := undef) rfl (by kernel_rfl) (by kernel_rfl) (by kernel_rfl) (fun _ _ _ h => h) (Or.inr ⟨by rfl, rfl⟩) (by assumption) ?_
            simp only [Act.put, List.setIfInBounds_toArray, List.set_cons_zero, List.set_cons_succ]
            refine wpAnyH_take (i := 4) (oi := { dst := some 47, op := Op.move (Operand.tmp 7), type := 3, pos := "l3_table.go:106", after := #[{ on := 2, ground := Ground.guard }], guard := some (2, false) }) (v := undef) rfl (by kernel_rfl) (by kernel_rfl) (by kernel_rfl) (fun _ _ _ h => h) (Or.inr ⟨by rfl, rfl⟩) (by assumption) ?_
            simp only [Act.put, List.setIfInBounds_toArray, List.set_cons_zero, List.set_cons_succ]
            refine wpAnyH_take (i := 5) (oi := { dst := some 48, op := Op.indexAddr 26 (Operand.tmp 46) (Operand.tmp 47), type := 0, pos := "l3_table.go:106", after := #[{ on := 3, ground := Ground.data }, { on := 4, ground := Ground.data }, { on := 2, ground := Ground.guard }], guard := some (2, false) }) (v := undef) rfl (by kernel_rfl) (by kernel_rfl) (by kernel_rfl) (fun _ _ _ h => h) (Or.inr ⟨by rfl, rfl⟩) (by assumption) ?_
            simp only [Act.put, List.setIfInBounds_toArray, List.set_cons_zero, List.set_cons_succ]
            refine wpAnyH_take (i := 6) (oi := { dst := some 49, op := Op.fieldAddr 50 (Operand.tmp 48) 0, type := 0, pos := "l3_table.go:106", after := #[{ on := 5, ground := Ground.data }, { on := 2, ground := Ground.guard }], guard := some (2, false) }) (v := undef) rfl (by kernel_rfl) (by kernel_rfl) (by kernel_rfl) (fun _ _ _ h => h) (Or.inr ⟨by rfl, rfl⟩) (by assumption) ?_
            simp only [Act.put, List.setIfInBounds_toArray, List.set_cons_zero, List.set_cons_succ]
            refine wpAnyH_take (i := 7) (oi := { dst := some 50, op := Op.load 9 (Operand.tmp 49), type := 9, pos := "l3_table.go:106", after := #[{ on := 6, ground := Ground.data }, { on := 2, ground := Ground.guard }], guard := some (2, false) }) (v := undef) rfl (by kernel_rfl) (by kernel_rfl) (by kernel_rfl) (fun _ _ _ h => h) (Or.inr ⟨by rfl, rfl⟩) (by assumption) ?_
            simp only [Act.put, List.setIfInBounds_toArray, List.set_cons_zero, List.set_cons_succ]
            refine wpAnyH_take (i := 8) (oi := { dst := some 51, op := Op.move (Operand.tmp 3), type := 26, pos := "l3_table.go:106", after := #[{ on := 2, ground := Ground.guard }], guard := some (2, false) }) (v := undef) rfl (by kernel_rfl) (by kernel_rfl) (by kernel_rfl) (fun _ _ _ h => h) (Or.inr ⟨by rfl, rfl⟩) (by assumption) ?_
            simp only [Act.put, List.setIfInBounds_toArray, List.set_cons_zero, List.set_cons_succ]
            refine wpAnyH_take (i := 9) (oi := { dst := some 52, op := Op.move (Operand.tmp 7), type := 3, pos := "l3_table.go:106", after := #[{ on := 2, ground := Ground.guard }], guard := some (2, false) }) (v := undef) rfl (by kernel_rfl) (by kernel_rfl) (by kernel_rfl) (fun _ _ _ h => h) (Or.inr ⟨by rfl, rfl⟩) (by assumption) ?_
            simp only [Act.put, List.setIfInBounds_toArray, List.set_cons_zero, List.set_cons_succ]
            refine wpAnyH_take (i := 10) (oi := { dst := some 53, op := Op.binOp BinOp.sub 3 (Operand.tmp 52) (Operand.const (Value.int IntKind.i64 1)) 3, type := 3, pos := "l3_table.go:106", after := #[{ on := 9, ground := Ground.data }, { on := 2, ground := Ground.guard }], guard := some (2, false) }) (v := undef) rfl (by kernel_rfl) (by kernel_rfl) (by kernel_rfl) (fun _ _ _ h => h) (Or.inr ⟨by rfl, rfl⟩) (by assumption) ?_
            simp only [Act.put, List.setIfInBounds_toArray, List.set_cons_zero, List.set_cons_succ]
            refine wpAnyH_take (i := 11) (oi := { dst := some 54, op := Op.indexAddr 26 (Operand.tmp 51) (Operand.tmp 53), type := 0, pos := "l3_table.go:106", after := #[{ on := 8, ground := Ground.data }, { on := 10, ground := Ground.data }, { on := 2, ground := Ground.guard }], guard := some (2, false) }) (v := undef) rfl (by kernel_rfl) (by kernel_rfl) (by kernel_rfl) (fun _ _ _ h => h) (Or.inr ⟨by rfl, rfl⟩) (by assumption) ?_
            simp only [Act.put, List.setIfInBounds_toArray, List.set_cons_zero, List.set_cons_succ]
            refine wpAnyH_take (i := 12) (oi := { dst := some 55, op := Op.fieldAddr 50 (Operand.tmp 54) 0, type := 0, pos := "l3_table.go:106", after := #[{ on := 11, ground := Ground.data }, { on := 2, ground := Ground.guard }], guard := some (2, false) }) (v := undef) rfl (by kernel_rfl) (by kernel_rfl) (by kernel_rfl) (fun _ _ _ h => h) (Or.inr ⟨by rfl, rfl⟩) (by assumption) ?_
            simp only [Act.put, List.setIfInBounds_toArray, List.set_cons_zero, List.set_cons_succ]
            refine wpAnyH_take (i := 13) (oi := { dst := some 56, op := Op.load 9 (Operand.tmp 55), type := 9, pos := "l3_table.go:106", after := #[{ on := 12, ground := Ground.data }, { on := 2, ground := Ground.guard }], guard := some (2, false) }) (v := undef) rfl (by kernel_rfl) (by kernel_rfl) (by kernel_rfl) (fun _ _ _ h => h) (Or.inr ⟨by rfl, rfl⟩) (by assumption) ?_
            simp only [Act.put, List.setIfInBounds_toArray, List.set_cons_zero, List.set_cons_succ]
            refine wpAnyH_take (i := 14) (oi := { dst := some 57, op := Op.binOp BinOp.neq 9 (Operand.tmp 50) (Operand.tmp 56) 9, type := 4, pos := "l3_table.go:106", after := #[{ on := 7, ground := Ground.data }, { on := 13, ground := Ground.data }, { on := 2, ground := Ground.guard }], guard := some (2, false) }) (v := undef) rfl (by kernel_rfl) (by kernel_rfl) (by kernel_rfl) (fun _ _ _ h => h) (Or.inr ⟨by rfl, rfl⟩) (by assumption) ?_
            simp only [Act.put, List.setIfInBounds_toArray, List.set_cons_zero, List.set_cons_succ]
            refine wpAnyH_take (i := 15) (oi := { dst := some 58, op := Op.pick (Operand.tmp 45) (Operand.const (Value.bool true)) (Operand.tmp 57), type := 4, pos := "l3_table.go:106", after := #[{ on := 2, ground := Ground.data }, { on := 14, ground := Ground.data }], guard := none }) (v := ?_) rfl (by kernel_rfl) (by kernel_rfl) (by kernel_rfl) (fun _ _ _ h => h) (Or.inl ⟨by rfl, ?_⟩) (by assumption) ?_
            rotate_left
            · intro w' hSw
              (try dsimp only at hSw)
              go_simp
              try with_reducible rfl
            simp only [Act.put, List.setIfInBounds_toArray, List.set_cons_zero, List.set_cons_succ]
            refine wpAnyH_done (by kernel_rfl) ?_ _
            refine NoPanic.normal ?_
            have e0 : wr.drew.cell? ⟨b, off, none⟩ = some (.string x.ky) := c0
            have e1 : wr.drew.cell? ⟨b, off + 1, none⟩ = some (.int .i64 x.sq) := c1
            have e2 : wr.drew.cell? ⟨b, off + 2, none⟩ = some (.int .i64 x.kd) := c2
            have e3 : wr.drew.cell? ⟨b, off + 3, none⟩ = some (.string x.vl) := c3
            have HO6 : Hid (wr.drew.ownsRow w2.heap.size 50 4 (.slice a6 o.length c6) o.length (cellsE o)) := HO.out
            have HB6 := hdN (HB.out.drew)
            have hbl6 : b < wr.drew.heap.size := hbl
            have hsz6 : w2.heap.size ≤ wr.drew.heap.size := hsz2
            clear c0 c1 c2 c3 HO HB hbl hsz2
            generalize wr.drew = w6 at *
            go_wp2_with (at_builtin; refine wpList_append_own _ rfl _ _ 26 rfl w2.heap.size 50 i0 _ 4 48 Tryz.underlying26 hi hz0 hz1 hz2 rfl (by decide) _ _ _ rfl (HO6.out.alloc _) ⟨w6.heap.size, 0, none⟩ 1 1 [.string x.ky, .int .i64 x.sq, .int .i64 x.kd, .string x.vl] rfl rfl (cell_first4 _ _ _ _ _ _) (fun x hx => by simp at hx; rcases hx with rfl | rfl | rfl | rfl <;> rfl) (by unfold maxLen; omega) (by omega) (by simp; omega) ?_; intro v' w9 hown4 hgrow hnil; have HO9 := hdN hown4; have HB9 := hdN ((HB6.out.alloc (by omega) _).grown hgrow (by simp; omega) (owns_base HO6.out)); clear hown4 hgrow hnil)
            refine ⟨⟨0 + 1, by go_num, by omega, ?_, HB9⟩, by simp only [intOf]; omega⟩
            show World.ownsRow _ _ _ _ _ _ _
            rw [HDD.out, cellsE_snoc, List.length_append]
            exact HO9.out
          | succ k =>
            have hky2 : k < ys.length := by omega
            obtain ⟨b', off', hab2, -, d0, -⟩ := (HL2.out.below HB.out).at hky2
            subst hab
            cases hab2
            have HF : Hid (fst1 ys (k + 1) = !decide ((ys.getD (k + 1) en0).ky = (ys.getD k en0).ky)) := by show _ = _; unfold fst1; simp
            generalize ys.getD (k + 1) en0 = x at *
            generalize ys.getD k en0 = p at *
            have HEQ : Hid ((x.ky.toList == p.ky.toList) = decide (x.ky = p.ky)) := by
              show _ = _
              cases h : (x.ky.toList == p.ky.toList) with
              | true => exact (decide_eq_true (toList_eq' h)).symm
              | false =>
                refine (decide_eq_false fun e => ?_).symm
                rw [e] at h
                simp at h
            have hk0 : ((k : Int) + 1 == 0) = false := by simp; omega
            have hs1 : (k : Int) + 1 - 1 = (k : Int) := by omega
            have hki : (k : Int) < (n : Int) := by omega
            have hki1 : (k : Int) + 1 < (n : Int) := by omega
            have hk00 : (0 : Int) ≤ (k : Int) + 1 := by omega
            have hw1 : IntKind.i64.wrap ((k : Int) + 1 - 1) = (k : Int) := by rw [IntKind.wrap_i64]; omega
            have hw2 : IntKind.i64.wrap (k : Int) = (k : Int) := by rw [IntKind.wrap_i64]; omega
            have hw3 : (0 : Int) ≤ (k : Int) := by omega
            have hkn1 : ((k : Int) + 1).toNat = k + 1 := by omega
            clear hK' hky hky2
            cases hdc : decide (x.ky = p.ky) with
            | true =>
              rw [hdc] at HEQ HF
              have he := HEQ.out
              have HDD : Hid (ddT ys (k + 1 + 1) = ddT ys (k + 1)) := by show _ = _; rw [HDS.out, HF.out]; simp
              generalize ddT ys (k + 1) = o at *
              have HB6 := hdN (HB.out.drew)
              have HO6 : Hid (wr.drew.ownsRow w2.heap.size 50 4 (.slice a6 o.length c6) o.length (cellsE o)) := HO.out
              clear HEQ HF hdc
              go_wp2_with fail
              go_region_held3 (fun w' => w'.cell? ⟨b, off + (k + 1) * 4, none⟩ = some (.string x.ky) ∧ w'.cell? ⟨b, off + k * 4, none⟩ = some (.string p.ky)) (simp [go_sem, *])
                (fail)
              go_wp2_with fail
              refine ⟨⟨k + 1 + 1, by go_num, by omega, ?_, HB6⟩, by simp only [intOf]; omega⟩
              show World.ownsRow _ _ _ _ _ _ _
              rw [HDD.out]
              exact HO6.out
            | false =>
              rw [hdc] at HEQ HF
              have he := HEQ.out
              have HDD : Hid (ddT ys (k + 1 + 1) = ddT ys (k + 1) ++ [x]) := by show _ = _; rw [HDS.out, HF.out]; simp
              generalize ddT ys (k + 1) = o at *
              clear HEQ HF hdc
              go_wp2_with fail
              go_region_held3 (fun w' => w'.cell? ⟨b, off + (k + 1) * 4, none⟩ = some (.string x.ky) ∧ w'.cell? ⟨b, off + k * 4, none⟩ = some (.string p.ky)) (simp [go_sem, *])
                (fail)
              have e0 : wr.drew.cell? ⟨b, off + (k + 1) * 4, none⟩ = some (.string x.ky) := c0
              have e1 : wr.drew.cell? ⟨b, off + (k + 1) * 4 + 1, none⟩ = some (.int .i64 x.sq) := c1
              have e2 : wr.drew.cell? ⟨b, off + (k + 1) * 4 + 2, none⟩ = some (.int .i64 x.kd) := c2
              have e3 : wr.drew.cell? ⟨b, off + (k + 1) * 4 + 3, none⟩ = some (.string x.vl) := c3
              have HO6 : Hid (wr.drew.ownsRow w2.heap.size 50 4 (.slice a6 o.length c6) o.length (cellsE o)) := HO.out
              have HB6 := hdN (HB.out.drew)
              have hbl6 : b < wr.drew.heap.size := hbl
              have hsz6 : w2.heap.size ≤ wr.drew.heap.size := hsz2
              clear c0 c1 c2 c3 d0 HO HB hbl hsz2
              generalize wr.drew = w6 at *
              go_wp2_with (at_builtin; refine wpList_append_own _ rfl _ _ 26 rfl w2.heap.size 50 i0 _ 4 48 Tryz.underlying26 hi hz0 hz1 hz2 rfl (by decide) _ _ _ rfl (HO6.out.alloc _) ⟨w6.heap.size, 0, none⟩ 1 1 [.string x.ky, .int .i64 x.sq, .int .i64 x.kd, .string x.vl] rfl rfl (cell_first4 _ _ _ _ _ _) (fun x hx => by simp at hx; rcases hx with rfl | rfl | rfl | rfl <;> rfl) (by unfold maxLen; omega) (by omega) (by simp; omega) ?_; intro v' w9 hown4 hgrow hnil; have HO9 := hdN hown4; have HB9 := hdN ((HB6.out.alloc (by omega) _).grown hgrow (by simp; omega) (owns_base HO6.out)); clear hown4 hgrow hnil)
              refine ⟨⟨k + 1 + 1, by go_num, by omega, ?_, HB9⟩, by simp only [intOf]; omega⟩
              show World.ownsRow _ _ _ _ _ _ _
              rw [HDD.out, cellsE_snoc, List.length_append]
              exact HO9.out
        · have hK' : ¬ (k : Int) < (n : Int) := by omega
          have hkn : k = n := by omega
          go_wp2_with fail
          go_ret
          obtain ⟨-, a7, c7, e7, r7⟩ := resE_of_owns HO.out
          injection e7 with f1 f2 f3
          subst f1
          rw [HNE.out, ← hkn]
          exact ⟨a6, ⟨c6, rfl⟩, r7.down (by omega), HB2.out.trans (HB.out.mono (by omega))⟩
end Go.Proofs.YtgmfjninimebmaaGreatDoor
namespace Go.Proofs.YtgmfjninimebmaaGreatDoor
open Go.RowKit Go.Maps
set_option linter.unusedVariables false
set_option linter.unusedSimpArgs false

/-- Two entries change places. -/
def swp (xs : List En) (i j : Nat) : List En := (xs.set i (xs.getD j en0)).set j (xs.getD i en0)
def swpN (xs : List En) (a b : Nat) : Nat → List En
  | 0 => xs
  | k + 1 => swp (swpN xs a b k) (a + k) (b + k)
theorem swp_length (xs : List En) (i j : Nat) : (swp xs i j).length = xs.length := by simp [swp]
theorem swpN_length (xs : List En) (a b k : Nat) : (swpN xs a b k).length = xs.length := by
  induction k with
  | zero => rfl
  | succ k ih => rw [swpN, swp_length, ih]
/-- Only block g has changed. -/
structure OnlyG (p : Nat) (w w' : World) : Prop where
  os : w'.os = w.os
  tape : w'.tape = w.tape
  output : w'.output = w.output
  size : w.heap.size ≤ w'.heap.size
  block : ∀ k, k < w.heap.size → k ≠ p → w'.heap[k]? = w.heap[k]?
theorem OnlyG.trans {p : Nat} {a b c : World} (h : OnlyG p a b) (k : OnlyG p b c) : OnlyG p a c :=
  ⟨k.os.trans h.os, k.tape.trans h.tape, k.output.trans h.output, Nat.le_trans h.size k.size, fun i hi hn => (k.block i (Nat.lt_of_lt_of_le hi h.size) hn).trans (h.block i hi hn)⟩
theorem OnlyG.set {p : Nat} (w : World) (o : Nat) (v : Value) : OnlyG p w (w.setCell ⟨p, o, none⟩ v) :=
  ⟨rfl, rfl, rfl, by simp [World.setCell], fun k _ hn => Below.heap_setCell _ _ _ _ (by simpa using hn)⟩
theorem OnlyG.of {p : Nat} {w w' : World} (h : Below w.heap.size w w') : OnlyG p w w' := ⟨h.os, h.tape, h.output, h.size, fun k hk _ => h.block k hk⟩
theorem drew_heap (w : World) (g : Nat) : w.drew.heap[g]? = w.heap[g]? := rfl
theorem setD4 (xs : List En) (i j : Nat) (x : En) (hi : i < xs.length) : (xs.set i x).getD j en0 = if j = i then x else xs.getD j en0 := by
  rw [List.getD_eq_getElem?_getD, List.getElem?_set, List.getD_eq_getElem?_getD]
  by_cases h : i = j
  · subst h; simp [hi]
  · rw [if_neg h, if_neg (fun e => h e.symm)]
def putE (w : World) (g p : Nat) (e : En) : World := (((w.setCell ⟨g, p * 4, none⟩ (.string e.ky)).setCell ⟨g, p * 4 + 1, none⟩ (.int .i64 e.sq)).setCell ⟨g, p * 4 + 2, none⟩ (.int .i64 e.kd)).setCell ⟨g, p * 4 + 3, none⟩ (.string e.vl)
theorem putE_only (w : World) (g p : Nat) (e : En) : OnlyG g w (putE w g p e) := (((OnlyG.set _ _ _).trans (OnlyG.set _ _ _)).trans (OnlyG.set _ _ _)).trans (OnlyG.set _ _ _)
theorem RowE.put {w : World} {g n p : Nat} {zs : List En} (h : RowE w g n zs n) (hz : zs.length = n) (hp : p < n) (e : En) : RowE (putE w g p e) g n (zs.set p e) n := by
  obtain ⟨cs, h1, h2, h3⟩ := h
  have e1 := heap_setCell_same w g (p * 4) _ _ (.string e.ky) h1
  have e2 := heap_setCell_same _ g (p * 4 + 1) _ _ (.int .i64 e.sq) e1
  have e3 := heap_setCell_same _ g (p * 4 + 2) _ _ (.int .i64 e.kd) e2
  have e4 := heap_setCell_same _ g (p * 4 + 3) _ _ (.string e.vl) e3
  refine ⟨_, e4, by simpa using h2, fun i hi => ?_⟩
  rw [setD4 zs p i e (by omega)]
  by_cases hip : i = p
  · subst hip
    rw [if_pos rfl]
    refine ⟨?_, ?_, ?_, ?_⟩
    · simp [Array.getElem?_setIfInBounds]; omega
    · simp [Array.getElem?_setIfInBounds]; omega
    · simp [Array.getElem?_setIfInBounds]; omega
    · simp [Array.getElem?_setIfInBounds]; omega
  · rw [if_neg hip]
    obtain ⟨a0, a1, a2, a3⟩ := h3 i hi
    refine ⟨?_, ?_, ?_, ?_⟩
    · rw [Array.getElem?_setIfInBounds_ne (by omega), Array.getElem?_setIfInBounds_ne (by omega), Array.getElem?_setIfInBounds_ne (by omega), Array.getElem?_setIfInBounds_ne (by omega)]; exact a0
    · rw [Array.getElem?_setIfInBounds_ne (by omega), Array.getElem?_setIfInBounds_ne (by omega), Array.getElem?_setIfInBounds_ne (by omega), Array.getElem?_setIfInBounds_ne (by omega)]; exact a1
    · rw [Array.getElem?_setIfInBounds_ne (by omega), Array.getElem?_setIfInBounds_ne (by omega), Array.getElem?_setIfInBounds_ne (by omega), Array.getElem?_setIfInBounds_ne (by omega)]; exact a2
    · rw [Array.getElem?_setIfInBounds_ne (by omega), Array.getElem?_setIfInBounds_ne (by omega), Array.getElem?_setIfInBounds_ne (by omega), Array.getElem?_setIfInBounds_ne (by omega)]; exact a3
set_option maxRecDepth 100000 in
set_option maxHeartbeats 4000000 in
theorem swapRange_any (g n cap : Nat) (xs : List En) (a b k : Nat) (fv : Value) (w : World) (hp : RowE w g n xs n) (hl : xs.length = n) (h1 : a + k ≤ b) (h2 : b + k ≤ n) (hn : n ≤ 1048576) :
    Calls Tryz.prog 176 #[.slice (some ⟨g, 0, none⟩) n cap, .int .i64 a, .int .i64 b, .int .i64 k, fv] w fun e w' => (∃ v, e = .returned v) ∧ RowE w' g n (swpN xs a b k) n ∧ OnlyG g w w' := by
  go_enter Tryz.func176, Tryz.ntmps176
  go_wp2_with fail
  go_loopw [10] (fun v10 W => ∃ i : Nat, v10 = .int .i64 (i : Int) ∧ i ≤ k ∧ Hid (RowE W g n (swpN xs a b i) n) ∧ Hid (OnlyG g w W)) (fun v10 _ => k - (intOf v10).toNat)
  case atStart => exact ⟨0, rfl, Nat.zero_le _, hp, ⟨rfl, rfl, rfl, Nat.le_refl _, fun _ _ _ => rfl⟩⟩
  case round =>
    obtain ⟨i, rfl, hi1, HR, HO⟩ := hrel
    by_cases hK : i < k
    · have hK' : (i : Int) < (k : Int) := by omega
      obtain ⟨cs, r1, r2, r3⟩ := HR.out
      obtain ⟨c0, c1, c2, c3⟩ := r3 (a + i) (by omega)
      obtain ⟨d0, d1, d2, d3⟩ := r3 (b + i) (by omega)
      have cell : ∀ o v, cs[o]? = some v → wr.cell? ⟨g, o, none⟩ = some v := fun o v h => by simp only [World.cell?, r1]; exact h
      have x0 := cell _ _ c0
      have x1 := cell _ _ c1
      have x2 := cell _ _ c2
      have x3 := cell _ _ c3
      have y0 := cell _ _ d0
      have y1 := cell _ _ d1
      have y2 := cell _ _ d2
      have y3 := cell _ _ d3
      have hgl := heap_lt r1
      have fz : ∀ o, wr.frozen? ⟨g, o, none⟩ = false := fun o => by simp [World.frozen?, r1]
      have hzl : (swpN xs a b i).length = n := by rw [swpN_length]; exact hl
      have HS1 : Hid (swpN xs a b (i + 1) = ((swpN xs a b i).set (a + i) ((swpN xs a b i).getD (b + i) en0)).set (b + i) ((swpN xs a b i).getD (a + i) en0)) := rfl
      have HP := hdN (fun (x y : En) => (HR.out.put hzl (by omega : a + i < n) y).put (by rw [List.length_set]; exact hzl) (by omega : b + i < n) x)
      have HQ : Hid (∀ x y : En, OnlyG g wr (putE (putE wr g (a + i) y) g (b + i) x)) := fun x y => (putE_only _ _ _ _).trans (putE_only _ _ _ _)
      generalize (swpN xs a b i).getD (a + i) en0 = x at *
      generalize (swpN xs a b i).getD (b + i) en0 = y at *
      have p0 : (0 : Int) ≤ (a : Int) + (i : Int) := by omega
      have p1 : (a : Int) + (i : Int) < (n : Int) := by omega
      have p2 : ((a : Int) + (i : Int)).toNat = a + i := by omega
      have p3 : IntKind.i64.wrap ((a : Int) + (i : Int)) = (a : Int) + (i : Int) := by rw [IntKind.wrap_i64]; omega
      have q0 : (0 : Int) ≤ (b : Int) + (i : Int) := by omega
      have q1 : (b : Int) + (i : Int) < (n : Int) := by omega
      have q2 : ((b : Int) + (i : Int)).toNat = b + i := by omega
      have q3 : IntKind.i64.wrap ((b : Int) + (i : Int)) = (b : Int) + (i : Int) := by rw [IntKind.wrap_i64]; omega
      have HC := hdN r1
      clear c0 c1 c2 c3 d0 d1 d2 d3 r3 cell r1
      go_wp2_with fail
      go_region_law (fail)
      all_goals
        have HPx : Hid (RowE (putE (putE wr g (a + i) y) g (b + i) x).drew g n (swpN xs a b (i + 1)) n) := by
          show RowE _ _ _ _ _
          rw [HS1.out]
          exact (HP.out x y).block (drew_heap _ _)
        have HOx : Hid (OnlyG g w (putE (putE wr g (a + i) y) g (b + i) x).drew) := HO.out.trans ((HQ.out x y).trans (OnlyG.of ((Below.refl _ _).drew)))
        clear x0 x1 x2 x3 y0 y1 y2 y3 fz HP HQ HS1
        unfold putE at HPx HOx
        go_wp2_with fail
        exact ⟨⟨i + 1, by go_num, by omega, HPx, HOx⟩, by simp only [intOf]; omega⟩
    · have hK' : ¬ (i : Int) < (k : Int) := by omega
      have hik : i = k := by omega
      go_wp2_with fail
      go_end0
      subst hik
      exact ⟨⟨_, rfl⟩, HR.out, HO.out⟩
end Go.Proofs.YtgmfjninimebmaaGreatDoor
