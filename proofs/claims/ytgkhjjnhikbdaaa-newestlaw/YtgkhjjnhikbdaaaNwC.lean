import Derived.Test.YtgkhjjnhikbdaaaNwB

namespace Go.Proofs.Ytgkhjjnhikbdaaa
open Go.RowKit Go.Maps
set_option linter.unusedVariables false
set_option linter.unusedSimpArgs false

theorem lieE_take {w : World} {a : Option Addr} {xs : List En} (h : LieE w a xs) (m : Nat) : LieE w a (xs.take m) := by
  rcases h with rfl | ⟨b, off, rfl, hlt, hc⟩
  · exact .inl (by simp)
  · refine .inr ⟨b, off, rfl, hlt, fun i hi => ?_⟩
    rw [List.length_take] at hi
    have e : (xs.take m).getD i en0 = xs.getD i en0 := by
      rw [List.getD_eq_getElem?_getD, List.getD_eq_getElem?_getD, List.getElem?_take_of_lt (by omega)]
    rw [e]
    exact hc i (by omega)
theorem lieE_drop {w : World} {b off : Nat} {xs : List En} (h : LieE w (some ⟨b, off, none⟩) xs) (m : Nat) : LieE w (some ⟨b, off + m * 4, none⟩) (xs.drop m) := by
  rcases h with rfl | ⟨b', off', e, hlt, hc⟩
  · exact .inl (by simp)
  · cases e
    refine .inr ⟨b, off + m * 4, rfl, hlt, fun i hi => ?_⟩
    rw [List.length_drop] at hi
    have e : (xs.drop m).getD i en0 = xs.getD (m + i) en0 := by
      rw [List.getD_eq_getElem?_getD, List.getD_eq_getElem?_getD, List.getElem?_drop]
    rw [e]
    have := hc (m + i) (by omega)
    have e2 : off + m * 4 + i * 4 = off + (m + i) * 4 := by omega
    rw [e2]
    exact this
theorem srt_small {xs : List En} (h : xs.length < 2) : srt befE xs = xs := by
  match xs, h with
  | [], _ => rfl
  | [x], _ => rfl
theorem srt_length (xs : List En) : (srt befE xs).length = xs.length := by
  have hi : ∀ (x : En) (l : List En), (insE befE x l).length = l.length + 1 := fun x l => by
    induction l with
    | nil => rfl
    | cons y r ih => unfold insE; split <;> simp [ih]
  induction xs with
  | nil => rfl
  | cons x r ih => simp [srt, hi, ih]
theorem srt_mem {e : En} {xs : List En} (h : e ∈ srt befE xs) : e ∈ xs := (srt_ok befE_swo xs).2.symm.mem befE_swo h
set_option maxRecDepth 100000 in
set_option maxHeartbeats 4000000 in
theorem l3Order_any : ∀ (n : Nat) (a : Option Addr) (cap : Nat) (xs : List En) (w : World), xs.length ≤ n → LieE w a xs → xs.length ≤ 1048576 → xs.length ≤ cap → cap ≤ maxLen → (∀ e ∈ xs, e.ky.size ≤ maxLen) →
    Calls Try.prog 18 #[.slice a xs.length cap] w fun e w' => ∃ d cd, e = .returned (.slice d xs.length cd) ∧ LieE w' d (srt befE xs) ∧ Below w.heap.size w w' := by
  intro n
  induction n with
  | zero =>
    intro a cap xs w hn hx hl hcap hcm hk
    have h0 : xs = [] := List.eq_nil_of_length_eq_zero (by omega)
    subst h0
    go_enter Try.func18, Try.ntmps18
    go_wp2_with fail
    go_ret
    exact ⟨_, _, rfl, .inl rfl, Below.refl _ _⟩
  | succ n ih =>
    intro a cap xs w hn hx hl hcap hcm hk
    by_cases h2 : xs.length < 2
    · have h2' : (xs.length : Int) < 2 := by omega
      have HS := hdN (srt_small h2)
      have HX := hdN hx
      clear hx ih
      go_enter Try.func18, Try.ntmps18
      go_wp2_with fail
      go_ret
      rw [HS.out]
      exact ⟨_, _, rfl, HX.out, Below.refl _ _⟩
    · have h2' : ¬ (xs.length : Int) < 2 := by omega
      have hx0 := hx
      rcases hx with h | ⟨b, off, rfl, hbl, -⟩
      · subst h; simp at h2
      obtain ⟨m, hm⟩ : ∃ m, m = xs.length / 2 := ⟨_, rfl⟩
      have hm1 : m < xs.length := by omega
      have hm2 : 1 ≤ m := by omega
      have hmi : (xs.length : Int).tdiv 2 = (m : Int) := by rw [hm, Int.tdiv_eq_ediv_of_nonneg (by omega)]; omega
      have ht : (xs.take m).length = m := by rw [List.length_take]; omega
      have hd : (xs.drop m).length = xs.length - m := by rw [List.length_drop]
      have HC1 := hdN (ih (some ⟨b, off, none⟩) cap (xs.take m) w.drew (by omega) (lieE_take hx0 m) (by omega) (by omega) hcm (fun e he => hk e (List.mem_of_mem_take he)))
      have HC2 := hdN (fun (w' : World) (hb : Below w.heap.size w w') => ih (some ⟨b, off + m * 4, none⟩) (cap - m) (xs.drop m) w' (by omega) ((lieE_drop hx0 m).below hb) (by omega) (by omega) (by omega) (fun e he => hk e (List.mem_of_mem_drop he)))
      rw [ht] at HC1
      rw [hd] at HC2
      have HC3 := hdN (fun (w' : World) (d d' : Option Addr) (cd cd' : Nat) (h1 : LieE w' d (srt befE (xs.take m))) (h2 : LieE w' d' (srt befE (xs.drop m))) => l3Half_any d d' cd cd' _ _ w' h1 h2 (by rw [srt_length]; omega) (by rw [srt_length]; omega) (fun e he => hk e (List.mem_of_mem_take (srt_mem he))) (fun e he => hk e (List.mem_of_mem_drop (srt_mem he))))
      have e3 : mrg befE (srt befE (xs.take m)) (srt befE (xs.drop m)) = srt befE xs := by rw [mrg_srt befE_swo, List.take_append_drop]
      rw [e3, srt_length, srt_length, srt_length, ht, hd] at HC3
      have hcm0 : ¬ cap = m := by omega
      have hcm1 : ¬ cap - m = 0 := by omega
      have hmc : (m : Int) ≤ (cap : Int) := by omega
      have hml : (m : Int) ≤ (xs.length : Int) := by omega
      clear ih hx0 ht hd e3 hk hm
      go_enter Try.func18, Try.ntmps18
      go_wp2_with fail
      refine wp_region_noPanic ?_
      refine wp_region_held_drew (S := (fun w' => True)) (by kernel_rfl) ?_ (fun hHeld => ?_)
      · exact trivial
      refine wpAnyH_take (i := 0) (oi := { dst := some 11, op := Op.move (Operand.tmp 0), type := 24, pos := "l3_table.go:92", after := #[], guard := none }) (v := ?_) rfl (by kernel_rfl) (by kernel_rfl) (by kernel_rfl) (fun _ _ _ h => h) (Or.inl ⟨by rfl, ?_⟩) (by assumption) ?_
      rotate_left
      · intro w' hSw
        (try dsimp only at hSw)
        go_simp
        try with_reducible rfl
      simp only [Act.put, List.setIfInBounds_toArray, List.set_cons_zero, List.set_cons_succ]
      refine wpAnyH_take (i := 1) (oi := { dst := some 12, op := Op.move (Operand.tmp 3), type := 3, pos := "l3_table.go:92", after := #[], guard := none }) (v := ?_) rfl (by kernel_rfl) (by kernel_rfl) (by kernel_rfl) (fun _ _ _ h => h) (Or.inl ⟨by rfl, ?_⟩) (by assumption) ?_
      rotate_left
      · intro w' hSw
        (try dsimp only at hSw)
        go_simp
        try with_reducible rfl
      simp only [Act.put, List.setIfInBounds_toArray, List.set_cons_zero, List.set_cons_succ]
      refine wpAnyH_take (i := 2) (oi := { dst := some 13, op := Op.slice 24 (Operand.tmp 11) none (some (Operand.tmp 12)) none, type := 24, pos := "l3_table.go:92", after := #[{ on := 0, ground := Ground.data }, { on := 1, ground := Ground.data }], guard := none }) (v := .slice (some ⟨b, off, none⟩) m cap) rfl (by kernel_rfl) (by kernel_rfl) (by kernel_rfl) (fun _ _ _ h => h) (Or.inl ⟨by rfl, ?_⟩) (by assumption) ?_
      · intro w' hSw
        (try dsimp only at hSw)
        go_simp
        try omega
      simp only [Act.put, List.setIfInBounds_toArray, List.set_cons_zero, List.set_cons_succ]
      refine wpAnyH_take (i := 4) (oi := { dst := some 15, op := Op.move (Operand.tmp 0), type := 24, pos := "l3_table.go:92", after := #[], guard := none }) (v := ?_) rfl (by kernel_rfl) (by kernel_rfl) (by kernel_rfl) (fun _ _ _ h => h) (Or.inl ⟨by rfl, ?_⟩) (by assumption) ?_
      rotate_left
      · intro w' hSw
        (try dsimp only at hSw)
        go_simp
        try with_reducible rfl
      simp only [Act.put, List.setIfInBounds_toArray, List.set_cons_zero, List.set_cons_succ]
      refine wpAnyH_take (i := 5) (oi := { dst := some 16, op := Op.move (Operand.tmp 3), type := 3, pos := "l3_table.go:92", after := #[], guard := none }) (v := ?_) rfl (by kernel_rfl) (by kernel_rfl) (by kernel_rfl) (fun _ _ _ h => h) (Or.inl ⟨by rfl, ?_⟩) (by assumption) ?_
      rotate_left
      · intro w' hSw
        (try dsimp only at hSw)
        go_simp
        try with_reducible rfl
      simp only [Act.put, List.setIfInBounds_toArray, List.set_cons_zero, List.set_cons_succ]
      refine wpAnyH_take (i := 6) (oi := { dst := some 17, op := Op.slice 24 (Operand.tmp 15) (some (Operand.tmp 16)) none none, type := 24, pos := "l3_table.go:92", after := #[{ on := 4, ground := Ground.data }, { on := 5, ground := Ground.data }], guard := none }) (v := .slice (some ⟨b, off + m * 4, none⟩) (xs.length - m) (cap - m)) rfl (by kernel_rfl) (by kernel_rfl) (by kernel_rfl) (fun _ _ _ h => h) (Or.inl ⟨by rfl, ?_⟩) (by assumption) ?_
      · intro w' hSw
        (try dsimp only at hSw)
        go_simp
        try omega
      simp only [Act.put, List.setIfInBounds_toArray, List.set_cons_zero, List.set_cons_succ]
      refine wpAnyH_ready (rs := [3]) (by kernel_rfl) (by simp) ?_
      refine AllReadyH.cons rfl (fun K hK => ?_) AllReadyH.nil
      go_simp
      refine HC1.out.mono ?_
      rintro e w1 ⟨d1, k1, rfl, hl1, hb1⟩
      have HL1 := hdN hl1
      have HB1 := hdN ((Below.refl w.heap.size w).drew.trans hb1)
      clear hl1 hb1
      refine hK.out _ _ ?_ (fun hHeld => ?_)
      · exact trivial
      clear hK K
      try simp only [Act.put, List.setIfInBounds_toArray, List.set_cons_zero, List.set_cons_succ]
      refine wpAnyH_ready (rs := [7]) (by kernel_rfl) (by simp) ?_
      refine AllReadyH.cons rfl (fun K hK => ?_) AllReadyH.nil
      go_simp
      refine (HC2.out _ HB1.out).mono ?_
      rintro e w2 ⟨d2, k2, rfl, hl2, hb2⟩
      have HL2 := hdN hl2
      have HL1b := hdN (HL1.out.below hb2)
      have HB2 := hdN (HB1.out.trans (hb2.mono HB1.out.size))
      clear hl2 hb2
      refine hK.out _ _ ?_ (fun hHeld => ?_)
      · exact trivial
      clear hK K
      try simp only [Act.put, List.setIfInBounds_toArray, List.set_cons_zero, List.set_cons_succ]
      refine wpAnyH_ready (rs := [8]) (by kernel_rfl) (by simp) ?_
      refine AllReadyH.cons rfl (fun K hK => ?_) AllReadyH.nil
      go_simp
      refine (HC3.out _ d1 d2 k1 k2 HL1b.out HL2.out).mono ?_
      rintro e w3 ⟨d3, k3, rfl, hl3, hb3⟩
      have HL3 := hdN hl3
      have HB3 := hdN (HB2.out.trans (hb3.mono HB2.out.size))
      clear hl3 hb3
      refine hK.out _ _ ?_ (fun hHeld => ?_)
      · exact trivial
      clear hK K
      try simp only [Act.put, List.setIfInBounds_toArray, List.set_cons_zero, List.set_cons_succ]
      refine wpAnyH_take (i := 9) (oi := { dst := some 2, op := Op.assign (Operand.tmp 19), type := 24, pos := "l3_table.go:92", after := #[{ on := 8, ground := Ground.data }, { on := 8, ground := Ground.chain }, { on := 0, ground := Ground.phase }, { on := 1, ground := Ground.phase }, { on := 2, ground := Ground.phase }, { on := 3, ground := Ground.phase }, { on := 4, ground := Ground.phase }, { on := 5, ground := Ground.phase }, { on := 6, ground := Ground.phase }, { on := 7, ground := Ground.phase }, { on := 8, ground := Ground.phase }], guard := none }) (v := ?_) rfl (by kernel_rfl) (by kernel_rfl) (by kernel_rfl) (fun _ _ _ h => h) (Or.inl ⟨by rfl, ?_⟩) (by assumption) ?_
      rotate_left
      · intro w' hSw
        (try dsimp only at hSw)
        go_simp
        try with_reducible rfl
      simp only [Act.put, List.setIfInBounds_toArray, List.set_cons_zero, List.set_cons_succ]
      refine wpAnyH_done (by kernel_rfl) ?_ _
      refine NoPanic.normal ?_
      go_wp2_with fail
      go_ret
      exact ⟨d3, k3, rfl, HL3.out, HB3.out⟩
end Go.Proofs.Ytgkhjjnhikbdaaa
