import Derived.Test.YtogcpllpkdeehaaGreatDoorDecC

namespace Go.Proofs.YtogcpllpkdeehaaGreatDoor
open Go.RowKit Go.Maps
set_option linter.unusedVariables false
set_option linter.unusedSimpArgs false

theorem rdE_le {s : ByteArray} {A : Nat} (fl : Bool) (hA : A ≤ s.size) : (rdE s A fl).2.1 ≤ s.size ∧ (rdE s A fl).1.ky.size ≤ s.size ∧ (rdE s A fl).1.vl.size ≤ s.size := by
  have l1 := rdS_le fl hA
  have l2 := (rdN_le (rdS s A fl).2.2 l1.1).1
  have l3 := rdB_le (rdN s (rdS s A fl).2.1 (rdS s A fl).2.2).2.2 l2
  have l4 := rdS_le (rdB s (rdN s (rdS s A fl).2.1 (rdS s A fl).2.2).2.1 (rdN s (rdS s A fl).2.1 (rdS s A fl).2.2).2.2).2.2 l3
  exact ⟨l4.1, l1.2, l4.2⟩
theorem reader_new (w : World) (s : ByteArray) : Rd (w.alloc (.cells #[.string s, .int .i64 0, .bool false] 71)) w.heap.size s 0 false := World.heap_alloc_new _ _
theorem owns_only {w w' : World} {p B n size : Nat} {e : TypeId} {v : Value} {xs : List Value} (h : w.ownsRow B e size v n xs) (hp : p < B) (ho : Only p w w') : w'.ownsRow B e size v n xs := by
  obtain ⟨h1, h2⟩ := h
  refine ⟨h1, ?_⟩
  rcases h2 with h2 | ⟨g, cap, cur, rfl, hg, hbk, hrest⟩
  · exact .inl h2
  · exact .inr ⟨g, cap, cur, rfl, hg, (ho.block g (heap_lt hbk) (by omega)).trans hbk, hrest⟩
/-- The round of the reading. -/
theorem round_bad {s : ByteArray} {D : Option (List En)} {n c k A : Nat} {fl : Bool} {xs : List En} (hD : dec s = D) (h1 : fl = true → D = none) (hg : fl = false → gv s 0 = some (n, c)) (h2 : fl = false → ps s k c = some (xs, A)) (hk : k < n)
    (hbad : entOk (rdE s A fl).1 = false) : D = none := by
  cases fl with
  | true => exact h1 rfl
  | false =>
    rcases rdE_pe s A with ⟨e, E, hp, hr⟩ | ⟨hp, hr⟩
    · rw [hr] at hbad
      rw [← hD]
      exact dec_bad (hg rfl) (k := k + 1) (xs := xs ++ [e]) (B := E) (by simp only [ps, h2 rfl, hp]) (by omega) (by rw [List.all_append]; simp [hbad])
    · rw [← hD]
      exact dec_none (hg rfl) (k := k + 1) (by simp only [ps, h2 rfl, hp]) (by omega)
theorem round_on {s : ByteArray} {D : Option (List En)} {n c k A : Nat} {fl : Bool} {xs : List En} (hD : dec s = D) (h1 : fl = true → D = none) (hg : fl = false → gv s 0 = some (n, c)) (h2 : fl = false → ps s k c = some (xs, A)) (hk : k < n) :
    ((rdE s A fl).2.2 = true → D = none) ∧ ((rdE s A fl).2.2 = false → gv s 0 = some (n, c)) ∧ ((rdE s A fl).2.2 = false → ps s (k + 1) c = some (xs ++ [(rdE s A fl).1], (rdE s A fl).2.1)) := by
  cases fl with
  | true =>
    refine ⟨fun _ => h1 rfl, fun h => ?_, fun h => ?_⟩
    · rw [rdE_fl] at h; cases h
    · rw [rdE_fl] at h; cases h
  | false =>
    refine ⟨fun h => ?_, fun _ => hg rfl, fun h => ?_⟩
    · rcases rdE_pe s A with ⟨e, E, hp, hr⟩ | ⟨hp, hr⟩
      · rw [hr] at h; cases h
      · rw [← hD]
        exact dec_none (hg rfl) (k := k + 1) (by simp only [ps, h2 rfl, hp]) (by omega)
    · rcases rdE_pe s A with ⟨e, E, hp, hr⟩ | ⟨hp, hr⟩
      · rw [hr]; simp only [ps, h2 rfl, hp]
      · rw [hr] at h; cases h

set_option maxRecDepth 100000 in
set_option maxHeartbeats 2000000 in
theorem implDec_any (s : ByteArray) (w : World) (hs : s.size ≤ 1048576) :
    Calls Tryz.prog 10 #[.string s] w fun e w' => ∃ a cap, e = .returned (.tuple #[.slice a (decL s).length cap, .bool (dec s).isSome]) ∧ ResE w' w.heap.size a (decL s) ∧ Below w.heap.size w w' := by
  obtain ⟨i0, hi, hz0, hz1, hz2⟩ := info_parts iEntry_info
  generalize hD : dec s = D
  have HD : Hid (dec s = D) := hD
  have HL : Hid (decL s = D.getD []) := by show _ = _; rw [decL, hD]
  clear hD
  generalize decL s = dl at *
  have ret : Hid (D = none → dl = []) := fun h => by rw [HL.out, h]; rfl
  have hr0 := reader_new w s
  have hb0 : Below w.heap.size w (w.alloc (.cells #[.string s, .int .i64 0, .bool false] 71)) := (Below.refl _ _).alloc (Nat.le_refl _) _
  have hl0 := ownsE_lit (w.alloc (.cells #[.string s, .int .i64 0, .bool false] 71)) (w.heap.size + 1) (by simp)
  have hr1 : Rd ((w.alloc (.cells #[.string s, .int .i64 0, .bool false] 71)).alloc (.cells #[] 39)) w.heap.size s 0 false := hr0.below ((Below.refl _ _).alloc (Nat.le_refl _) _)
  have hba : Below w.heap.size w ((w.alloc (.cells #[.string s, .int .i64 0, .bool false] 71)).alloc (.cells #[] 39)) := hb0.alloc hb0.size _
  have HN : Hid (∀ w', Rd w' w.heap.size s 0 false → Calls Tryz.prog 34 #[.pointer (some ⟨w.heap.size, 0, none⟩), .int .i64 1000] w' fun e w'' => e = .returned (.int .i64 (rdC s 1000 0 false).1) ∧ Rd w'' w.heap.size s (rdC s 1000 0 false).2.1 (rdC s 1000 0 false).2.2 ∧ Only w.heap.size w' w'') := fun w' h => count_any w.heap.size 0 1000 s false w' h hs (by omega) (by omega)
  obtain ⟨l1, hn⟩ := rdC_le (s := s) (M := 1000) (A := 0) false (by omega)
  have H1 : Hid ((rdC s 1000 0 false).2.2 = true → D = none) := fun h => by
    rcases rdC_gv s 1000 0 with ⟨n, c, hg, -, hr⟩ | ⟨hg, hr⟩
    · rw [hr] at h; cases h
    · rw [← HD.out]
      cases hg0 : gv s ((0 : Nat) : Int) with
      | none => exact dec_none0 hg0
      | some q => exact dec_long (n := q.1) (c := q.2) hg0 (by have := hg q.1 q.2 hg0; omega)
  have H2 : Hid ((rdC s 1000 0 false).2.2 = false → gv s 0 = some ((rdC s 1000 0 false).1, (rdC s 1000 0 false).2.1)) := fun h => by
    rcases rdC_gv s 1000 0 with ⟨n, c, hg, -, hr⟩ | ⟨hg, hr⟩
    · rw [hr]; simpa using hg
    · rw [hr] at h; cases h
  generalize rdC s 1000 0 false = r at *
  obtain ⟨n, c, f0⟩ := r
  dsimp only at *
  · go_enter Tryz.func10, Tryz.ntmps10
    go_wp2_with fail
    refine (HN.out _ hr1).mono ?_
    rintro e w1 ⟨rfl, hr2, ho1⟩
    have hp1 := hr2.cells.2.2.2.2.2
    have hb2 : Below w.heap.size w w1 := hba.trans (ho1.below (Nat.le_refl _) hba.size)
    have hl1 : w1.ownsRow (w.heap.size + 1) 39 4 (.slice (some ⟨w.heap.size + 1, 0, none⟩) 0 0) 0 (cellsE []) := by have h := owns_only hl0 (Nat.lt_succ_self _) ho1; rwa [show (w.alloc (.cells #[.string s, .int .i64 0, .bool false] 71)).heap.size = w.heap.size + 1 by simp] at h
    clear hba hl0 hr1 hb0 ho1 hr0 HN
    go_wp2_with fail
    go_loopw [5, 13] (fun x y wr => ∃ (k A : Nat) (fl : Bool) (xs : List En), y = .int .i64 k ∧ k ≤ n ∧ A ≤ s.size ∧ Rd wr w.heap.size s A fl ∧ Hid (fl = true → D = none) ∧ Hid (fl = false → gv s 0 = some (n, c)) ∧ Hid (fl = false → ps s k c = some (xs, A)) ∧ Hid (xs.all entOk = true) ∧ wr.ownsRow (w.heap.size + 1) 39 4 x k (cellsE xs) ∧ Below w.heap.size w wr) (fun _ y _ => n - (intOf y).toNat)
    case atStart => exact ⟨0, c, f0, [], rfl, by omega, l1, hr2, H1, H2, fun _ => rfl, rfl, hl1, hb2⟩
    case round =>
      obtain ⟨k, A, fl, xs, rfl, hk, hA, hrd, K1, K2, K3, K4, hown, hb⟩ := hrel
      have hbs := hb.size
      by_cases hlt : k < n
      · have hlt' : (k : Int) < n := by omega
        obtain ⟨e1, e2, e3⟩ := rdE_le fl hA
        have HB : Hid (entOk (rdE s A fl).1 = false → D = none) := fun h => round_bad HD.out K1.out K2.out K3.out hlt h
        obtain ⟨o1, o2, o3⟩ := round_on HD.out K1.out K2.out K3.out hlt
        have HE : Hid (∀ w', Rd w' w.heap.size s A fl → Calls Tryz.prog 35 #[.pointer (some ⟨w.heap.size, 0, none⟩)] w' fun e w'' => e = .returned (rdE s A fl).1.agg ∧ Rd w'' w.heap.size s (rdE s A fl).2.1 (rdE s A fl).2.2 ∧ Only w.heap.size w' w'') := fun w' h => entry_any w.heap.size A s fl w' h hs hA
        generalize rdE s A fl = r at *
        obtain ⟨f, A', fl'⟩ := r
        dsimp only at *
        replace o1 := hd o1
        replace o2 := hd o2
        replace o3 := hd o3
        clear K1 K2 K3
        go_wp2_with fail
        refine (HE.out _ hrd).mono ?_
        rintro e w3 ⟨rfl, h3, ho3⟩
        have hb3 : Below w.heap.size w w3 := hb.trans (ho3.below (Nat.le_refl _) hbs)
        have hown3 := owns_only hown (Nat.lt_succ_self _) ho3
        have hp3 := h3.cells.2.2.2.2.2
        clear ho3 hrd
        go_wp2_with fail
        refine (validEntry_any f _ (by unfold maxLen; omega) (by unfold maxLen; omega)).mono ?_
        rintro e w4 ⟨rfl, hb4⟩
        have hx4 := (hb4.block w3.heap.size (by simp)).trans (World.heap_alloc_new _ _)
        have hown4 := owns_below (hown3.alloc _) hb4
        have hba : Below w3.heap.size w3 (w3.alloc (Obj.cells #[.string f.ky, .int .i64 f.sq, .int .i64 f.kd, .string f.vl] 39)) := (Below.refl _ _).alloc (Nat.le_refl _) _
        have h4 : Hid (Rd w4 w.heap.size s A' fl') := (h3.below hba).below hb4
        have hbw4 : Below w.heap.size w w4 := (hb3.trans (hba.mono hb3.size)).trans (hb4.mono (by have := hba.size; have := hb3.size; omega))
        have hs4 : w.heap.size + 1 ≤ w4.heap.size := h4.out.cells.2.2.2.2.2
        obtain ⟨⟨x0, x1, x2, x3⟩, z0, z1, z2, z3⟩ := four_cells hx4
        clear hx4 hown3 hba h3 hb3 hb4 hown hp3
        cases hok : entOk f with
        | false =>
          have hDn := HB.out hok
          have hdl := ret.out hDn
          subst hDn hdl
          go_wp2_with fail
          go_ret2
          first | exact ⟨_, _, rfl, .inl rfl, hbw4.alloc hbw4.size _⟩ | exact ⟨_, ⟨_, rfl⟩, .inl rfl, hbw4.alloc hbw4.size _⟩
        | true =>
          have HA : Hid ((xs ++ [f]).all entOk = true) := by show _ = _; rw [List.all_append, K4.out]; simp [hok]
          have hob := owns_base hown4
          replace hown4 := hd hown4
          replace hob := hd hob
          go_wp2_with (at_builtin; refine wpList_append_own _ rfl _ _ 23 rfl (w.heap.size + 1) 39 i0 _ 4 48 Tryz.underlying23 hi hz0 hz1 hz2 rfl (by decide) _ _ _ rfl (hown4.out.alloc _) ⟨w4.heap.size, 0, none⟩ 1 1 [.string f.ky, .int .i64 f.sq, .int .i64 f.kd, .string f.vl] rfl rfl (cell_first4 _ _ _ _ _ _) (fun x hx => by simp at hx; rcases hx with rfl | rfl | rfl | rfl <;> rfl) (by unfold maxLen; omega) (by omega) (by simp; omega) ?_; intro v' w8 hown8 hgrow hnil)
          have hk8 : Below (w.heap.size + 1) w4 w8 := ((Below.refl (w.heap.size + 1) w4).alloc hs4 _).grown hgrow (by simp; omega) hob.out
          refine ⟨⟨k + 1, A', fl', xs ++ [f], by simp, by omega, e1, (hk8.block w.heap.size (by omega)).trans h4.out, o1, o2, o3, HA, ?_, hbw4.trans (hk8.mono (by omega))⟩, by simp only [intOf]; omega⟩
          rw [cellsE_snoc]; exact hown8
      · obtain rfl : k = n := by omega
        have hlt' : ¬ (k : Int) < k := by omega
        go_wp2_with fail
        refine (done_any w.heap.size A s fl _ hrd hs).mono ?_
        rintro e w3 ⟨rfl, hb3⟩
        have hbw3 := hb.trans (hb3.mono hbs)
        obtain ⟨-, a, cap, rfl, hres⟩ := resE_of_owns hown
        have hres3 := hres.below hb3
        cases fl with
        | true =>
          have hDn := K1.out rfl
          have hdl := ret.out hDn
          subst hDn hdl
          go_wp2_with fail
          go_ret2
          first | exact ⟨_, _, rfl, .inl rfl, hbw3.alloc hbw3.size _⟩ | exact ⟨_, ⟨_, rfl⟩, .inl rfl, hbw3.alloc hbw3.size _⟩
        | false =>
          have hDe := dec_end (K2.out rfl) hn (K3.out rfl) K4.out
          by_cases hA' : A = s.size
          · have hDs : D = some xs := by rw [← HD.out, hDe, if_pos hA']
            have hdl : dl = xs := by rw [HL.out, hDs]; rfl
            subst hDs hdl
            have hAi : decide (A = s.size) = true := by simp [hA']
            rw [hAi]
            clear hDe hA'
            go_wp2_with fail
            go_ret2
            have hr4 : ResE w3 w.heap.size a dl := by
              rcases hres3 with h | ⟨g, rfl, hg, hr⟩
              · exact .inl h
              · exact .inr ⟨g, rfl, by omega, hr⟩
            first | exact ⟨_, _, rfl, hr4, hbw3⟩ | exact ⟨_, ⟨_, rfl⟩, hr4, hbw3⟩
          · have hDs : D = none := by rw [← HD.out, hDe, if_neg hA']
            have hdl := ret.out hDs
            subst hDs hdl
            have hAi : decide (A = s.size) = false := by simp [hA']
            rw [hAi]
            clear hDe hA'
            go_wp2_with fail
            go_ret2
            first | exact ⟨_, _, rfl, .inl rfl, hbw3.alloc hbw3.size _⟩ | exact ⟨_, ⟨_, rfl⟩, .inl rfl, hbw3.alloc hbw3.size _⟩
end Go.Proofs.YtogcpllpkdeehaaGreatDoor
