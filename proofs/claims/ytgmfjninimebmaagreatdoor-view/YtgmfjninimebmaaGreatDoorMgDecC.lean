import Derived.Test.YtgmfjninimebmaaGreatDoorMgDecR
namespace Go.Proofs.YtgmfjninimebmaaGreatDoor
open Go.RowKit Go.Maps
set_option linter.unusedVariables false
set_option linter.unusedSimpArgs false

/-- Reading a count of at most M. -/
def rdC (s : ByteArray) (M A : Nat) (fl : Bool) : Nat × Nat × Bool := if M < (rdN s A fl).1 then (0, (rdN s A fl).2.1, true) else rdN s A fl

set_option maxRecDepth 100000 in
set_option maxHeartbeats 1000000 in
theorem count_any (p A M : Nat) (s : ByteArray) (fl : Bool) (w : World) (h : Rd w p s A fl) (hs : s.size ≤ 1048576) (hA : A ≤ s.size) (hM : M ≤ 1000) :
    Calls Tryz.prog 117 #[.pointer (some ⟨p, 0, none⟩), .int .i64 M] w fun e w' => e = .returned (.int .i64 (rdC s M A fl).1) ∧ Rd w' p s (rdC s M A fl).2.1 (rdC s M A fl).2.2 ∧ Only p w w' := by
  have hle := (rdN_le fl hA).2
  have HN := hd (fun (w : World) (h : Rd w p s A fl) => number_any p A s fl w h hs)
  unfold rdC
  generalize rdN s A fl = r at *
  obtain ⟨n, A1, f1⟩ := r
  dsimp only at *
  by_cases hlt : M < n
  · rw [if_pos hlt]
    have h' : (M : Int) < n := by omega
    go_enter Tryz.func117, Tryz.ntmps117
    go_wp2_with fail
    refine (HN.out _ h).mono ?_
    rintro e w1 ⟨rfl, h1, ho1⟩
    obtain ⟨c0, c1, c2, z1, z2, hlt1⟩ := h1.cells
    go_wp2_with fail
    go_ret
    exact ⟨rfl, h1.fault, ho1.trans (Only.set _ _ _)⟩
  · rw [if_neg hlt]
    have h' : ¬ (M : Int) < n := by omega
    go_enter Tryz.func117, Tryz.ntmps117
    go_wp2_with fail
    refine (HN.out _ h).mono ?_
    rintro e w1 ⟨rfl, h1, ho1⟩
    go_wp2_with fail
    go_ret
    exact ⟨rfl, h1, ho1⟩
theorem rdC_le {s : ByteArray} {M A : Nat} (fl : Bool) (hA : A ≤ s.size) : (rdC s M A fl).2.1 ≤ s.size ∧ (rdC s M A fl).1 ≤ M := by
  have h := rdN_le (s := s) fl hA
  unfold rdC
  split
  · exact ⟨h.1, Nat.zero_le _⟩
  · exact ⟨h.1, by omega⟩
theorem rdC_gv (s : ByteArray) (M A : Nat) : (∃ n c, gv s (A : Int) = some (n, c) ∧ n ≤ M ∧ rdC s M A false = (n, A + c, false)) ∨ ((∀ n c, gv s (A : Int) = some (n, c) → M < n) ∧ (rdC s M A false).2.2 = true) := by
  rcases rdN_gv s A with ⟨n, c, hg, hr⟩ | ⟨hg, hr⟩
  · unfold rdC
    rw [hr]
    by_cases h : M < n
    · rw [if_pos h]
      refine .inr ⟨fun n' c' h' => ?_, rfl⟩
      rw [hg] at h'
      cases h'
      exact h
    · rw [if_neg h]
      exact .inl ⟨n, c, hg, by omega, rfl⟩
  · unfold rdC
    refine .inr ⟨fun n' c' h' => ?_, ?_⟩
    · rw [hg] at h'; cases h'
    · split
      · rfl
      · exact hr
end Go.Proofs.YtgmfjninimebmaaGreatDoor
namespace Go.Proofs.YtgmfjninimebmaaGreatDoor
open Go.RowKit Go.Maps
set_option linter.unusedVariables false
set_option linter.unusedSimpArgs false

theorem rdE_le {s : ByteArray} {A : Nat} (fl : Bool) (hA : A ≤ s.size) : (rdE s A fl).2.1 ≤ s.size ∧ (rdE s A fl).1.ky.size ≤ s.size ∧ (rdE s A fl).1.vl.size ≤ s.size := by
  have l1 := rdS_le fl hA
  have l2 := (rdN_le (rdS s A fl).2.2 l1.1).1
  have l3 := rdB_le (rdN s (rdS s A fl).2.1 (rdS s A fl).2.2).2.2 l2
  have l4 := rdS_le (rdB s (rdN s (rdS s A fl).2.1 (rdS s A fl).2.2).2.1 (rdN s (rdS s A fl).2.1 (rdS s A fl).2.2).2.2).2.2 l3
  exact ⟨l4.1, l1.2, l4.2⟩
theorem reader_new (w : World) (s : ByteArray) : Rd (w.alloc (.cells #[.string s, .int .i64 0, .bool false] 170)) w.heap.size s 0 false := World.heap_alloc_new _ _
theorem owns_only {w w' : World} {p B n size : Nat} {e : TypeId} {v : Value} {xs : List Value} (h : w.ownsRow B e size v n xs) (hp : p < B) (ho : Only p w w') : w'.ownsRow B e size v n xs := by
  obtain ⟨h1, h2⟩ := h
  refine ⟨h1, ?_⟩
  rcases h2 with h2 | ⟨g, cap, cur, rfl, hg, hbk, hrest⟩
  · exact .inl h2
  · exact .inr ⟨g, cap, cur, rfl, hg, (ho.block g (heap_lt hbk) (by omega)).trans hbk, hrest⟩
/-- The round of the reading. -/
theorem round_bad {s : ByteArray} {D : Option (List En)} {n c k A : Nat} {fl : Bool} {xs : List En} (hD : dec s = D) (h1 : fl = true → D = none) (hg : fl = false → gv s 0 = some (n, c)) (h2 : fl = false → ps s k c = some (xs, A)) (hk : k < n)
    (hbad : entOk (rdE s A fl).1 = false) : D = none := by
  cases fl with
  | true => exact h1 rfl
  | false =>
    rcases rdE_pe s A with ⟨e, E, hp, hr⟩ | ⟨hp, hr⟩
    · rw [hr] at hbad
      rw [← hD]
      exact dec_bad (hg rfl) (k := k + 1) (xs := xs ++ [e]) (B := E) (by simp only [ps, h2 rfl, hp]) (by omega) (by rw [List.all_append]; simp [hbad])
    · rw [← hD]
      exact dec_none (hg rfl) (k := k + 1) (by simp only [ps, h2 rfl, hp]) (by omega)
theorem round_on {s : ByteArray} {D : Option (List En)} {n c k A : Nat} {fl : Bool} {xs : List En} (hD : dec s = D) (h1 : fl = true → D = none) (hg : fl = false → gv s 0 = some (n, c)) (h2 : fl = false → ps s k c = some (xs, A)) (hk : k < n) :
    ((rdE s A fl).2.2 = true → D = none) ∧ ((rdE s A fl).2.2 = false → gv s 0 = some (n, c)) ∧ ((rdE s A fl).2.2 = false → ps s (k + 1) c = some (xs ++ [(rdE s A fl).1], (rdE s A fl).2.1)) := by
  cases fl with
  | true =>
    refine ⟨fun _ => h1 rfl, fun h => ?_, fun h => ?_⟩
    · rw [rdE_fl] at h; cases h
    · rw [rdE_fl] at h; cases h
  | false =>
    refine ⟨fun h => ?_, fun _ => hg rfl, fun h => ?_⟩
    · rcases rdE_pe s A with ⟨e, E, hp, hr⟩ | ⟨hp, hr⟩
      · rw [hr] at h; cases h
      · rw [← hD]
        exact dec_none (hg rfl) (k := k + 1) (by simp only [ps, h2 rfl, hp]) (by omega)
    · rcases rdE_pe s A with ⟨e, E, hp, hr⟩ | ⟨hp, hr⟩
      · rw [hr]; simp only [ps, h2 rfl, hp]
      · rw [hr] at h; cases h

set_option maxRecDepth 100000 in
set_option maxHeartbeats 2000000 in
theorem implDec_any (s : ByteArray) (w : World) (hs : s.size ≤ 1048576) :
    Calls Tryz.prog 78 #[.string s] w fun e w' => ∃ a cap, e = .returned (.tuple #[.slice a (decL s).length cap, .bool (dec s).isSome]) ∧ ResE w' w.heap.size a (decL s) ∧ Below w.heap.size w w' := by
  obtain ⟨i0, hi, hz0, hz1, hz2⟩ := info_parts iEntry_info
  generalize hD : dec s = D
  have HD : Hid (dec s = D) := hD
  have HL : Hid (decL s = D.getD []) := by show _ = _; rw [decL, hD]
  clear hD
  generalize decL s = dl at *
  have ret : Hid (D = none → dl = []) := fun h => by rw [HL.out, h]; rfl
  have hr0 := reader_new w s
  have hb0 : Below w.heap.size w (w.alloc (.cells #[.string s, .int .i64 0, .bool false] 170)) := (Below.refl _ _).alloc (Nat.le_refl _) _
  have hl0 := ownsE_lit (w.alloc (.cells #[.string s, .int .i64 0, .bool false] 170)) (w.heap.size + 1) (by simp)
  have hr1 : Rd ((w.alloc (.cells #[.string s, .int .i64 0, .bool false] 170)).alloc (.cells #[] 50)) w.heap.size s 0 false := hr0.below ((Below.refl _ _).alloc (Nat.le_refl _) _)
  have hba : Below w.heap.size w ((w.alloc (.cells #[.string s, .int .i64 0, .bool false] 170)).alloc (.cells #[] 50)) := hb0.alloc hb0.size _
  have HN : Hid (∀ w', Rd w' w.heap.size s 0 false → Calls Tryz.prog 117 #[.pointer (some ⟨w.heap.size, 0, none⟩), .int .i64 1000] w' fun e w'' => e = .returned (.int .i64 (rdC s 1000 0 false).1) ∧ Rd w'' w.heap.size s (rdC s 1000 0 false).2.1 (rdC s 1000 0 false).2.2 ∧ Only w.heap.size w' w'') := fun w' h => count_any w.heap.size 0 1000 s false w' h hs (by omega) (by omega)
  obtain ⟨l1, hn⟩ := rdC_le (s := s) (M := 1000) (A := 0) false (by omega)
  have H1 : Hid ((rdC s 1000 0 false).2.2 = true → D = none) := fun h => by
    rcases rdC_gv s 1000 0 with ⟨n, c, hg, -, hr⟩ | ⟨hg, hr⟩
    · rw [hr] at h; cases h
    · rw [← HD.out]
      cases hg0 : gv s ((0 : Nat) : Int) with
      | none => exact dec_none0 hg0
      | some q => exact dec_long (n := q.1) (c := q.2) hg0 (by have := hg q.1 q.2 hg0; omega)
  have H2 : Hid ((rdC s 1000 0 false).2.2 = false → gv s 0 = some ((rdC s 1000 0 false).1, (rdC s 1000 0 false).2.1)) := fun h => by
    rcases rdC_gv s 1000 0 with ⟨n, c, hg, -, hr⟩ | ⟨hg, hr⟩
    · rw [hr]; simpa using hg
    · rw [hr] at h; cases h
  generalize rdC s 1000 0 false = r at *
  obtain ⟨n, c, f0⟩ := r
  dsimp only at *
  · go_enter Tryz.func78, Tryz.ntmps78
    go_wp2_with fail
    refine (HN.out _ hr1).mono ?_
    rintro e w1 ⟨rfl, hr2, ho1⟩
    have hp1 := hr2.cells.2.2.2.2.2
    have hb2 : Below w.heap.size w w1 := hba.trans (ho1.below (Nat.le_refl _) hba.size)
    have hl1 : w1.ownsRow (w.heap.size + 1) 50 4 (.slice (some ⟨w.heap.size + 1, 0, none⟩) 0 0) 0 (cellsE []) := by have h := owns_only hl0 (Nat.lt_succ_self _) ho1; rwa [show (w.alloc (.cells #[.string s, .int .i64 0, .bool false] 170)).heap.size = w.heap.size + 1 by simp] at h
    clear hba hl0 hr1 hb0 ho1 hr0 HN
    go_wp2_with fail
    go_loopw [5, 13] (fun x y wr => ∃ (k A : Nat) (fl : Bool) (xs : List En), y = .int .i64 k ∧ k ≤ n ∧ A ≤ s.size ∧ Rd wr w.heap.size s A fl ∧ Hid (fl = true → D = none) ∧ Hid (fl = false → gv s 0 = some (n, c)) ∧ Hid (fl = false → ps s k c = some (xs, A)) ∧ Hid (xs.all entOk = true) ∧ wr.ownsRow (w.heap.size + 1) 50 4 x k (cellsE xs) ∧ Below w.heap.size w wr) (fun _ y _ => n - (intOf y).toNat)
    case atStart => exact ⟨0, c, f0, [], rfl, by omega, l1, hr2, H1, H2, fun _ => rfl, rfl, hl1, hb2⟩
    case round =>
      obtain ⟨k, A, fl, xs, rfl, hk, hA, hrd, K1, K2, K3, K4, hown, hb⟩ := hrel
      have hbs := hb.size
      by_cases hlt : k < n
      · have hlt' : (k : Int) < n := by omega
        obtain ⟨e1, e2, e3⟩ := rdE_le fl hA
        have HB : Hid (entOk (rdE s A fl).1 = false → D = none) := fun h => round_bad HD.out K1.out K2.out K3.out hlt h
        obtain ⟨o1, o2, o3⟩ := round_on HD.out K1.out K2.out K3.out hlt
        have HE : Hid (∀ w', Rd w' w.heap.size s A fl → Calls Tryz.prog 118 #[.pointer (some ⟨w.heap.size, 0, none⟩)] w' fun e w'' => e = .returned (rdE s A fl).1.agg ∧ Rd w'' w.heap.size s (rdE s A fl).2.1 (rdE s A fl).2.2 ∧ Only w.heap.size w' w'') := fun w' h => entry_any w.heap.size A s fl w' h hs hA
        generalize rdE s A fl = r at *
        obtain ⟨f, A', fl'⟩ := r
        dsimp only at *
        replace o1 := hd o1
        replace o2 := hd o2
        replace o3 := hd o3
        clear K1 K2 K3
        go_wp2_with fail
        refine (HE.out _ hrd).mono ?_
        rintro e w3 ⟨rfl, h3, ho3⟩
        have hb3 : Below w.heap.size w w3 := hb.trans (ho3.below (Nat.le_refl _) hbs)
        have hown3 := owns_only hown (Nat.lt_succ_self _) ho3
        have hp3 := h3.cells.2.2.2.2.2
        clear ho3 hrd
        go_wp2_with fail
        refine (validEntry_any f _ (by unfold maxLen; omega) (by unfold maxLen; omega)).mono ?_
        rintro e w4 ⟨rfl, hb4⟩
        have hx4 := (hb4.block w3.heap.size (by simp)).trans (World.heap_alloc_new _ _)
        have hown4 := owns_below (hown3.alloc _) hb4
        have hba : Below w3.heap.size w3 (w3.alloc (Obj.cells #[.string f.ky, .int .i64 f.sq, .int .i64 f.kd, .string f.vl] 50)) := (Below.refl _ _).alloc (Nat.le_refl _) _
        have h4 : Hid (Rd w4 w.heap.size s A' fl') := (h3.below hba).below hb4
        have hbw4 : Below w.heap.size w w4 := (hb3.trans (hba.mono hb3.size)).trans (hb4.mono (by have := hba.size; have := hb3.size; omega))
        have hs4 : w.heap.size + 1 ≤ w4.heap.size := h4.out.cells.2.2.2.2.2
        obtain ⟨⟨x0, x1, x2, x3⟩, z0, z1, z2, z3⟩ := four_cells hx4
        clear hx4 hown3 hba h3 hb3 hb4 hown hp3
        cases hok : entOk f with
        | false =>
          have hDn := HB.out hok
          have hdl := ret.out hDn
          subst hDn hdl
          go_wp2_with fail
          go_ret2
          first | exact ⟨_, _, rfl, .inl rfl, hbw4.alloc hbw4.size _⟩ | exact ⟨_, ⟨_, rfl⟩, .inl rfl, hbw4.alloc hbw4.size _⟩
        | true =>
          have HA : Hid ((xs ++ [f]).all entOk = true) := by show _ = _; rw [List.all_append, K4.out]; simp [hok]
          have hob := owns_base hown4
          replace hown4 := hd hown4
          replace hob := hd hob
          go_wp2_with (at_builtin; refine wpList_append_own _ rfl _ _ 26 rfl (w.heap.size + 1) 50 i0 _ 4 48 Tryz.underlying26 hi hz0 hz1 hz2 rfl (by decide) _ _ _ rfl (hown4.out.alloc _) ⟨w4.heap.size, 0, none⟩ 1 1 [.string f.ky, .int .i64 f.sq, .int .i64 f.kd, .string f.vl] rfl rfl (cell_first4 _ _ _ _ _ _) (fun x hx => by simp at hx; rcases hx with rfl | rfl | rfl | rfl <;> rfl) (by unfold maxLen; omega) (by omega) (by simp; omega) ?_; intro v' w8 hown8 hgrow hnil)
          have hk8 : Below (w.heap.size + 1) w4 w8 := ((Below.refl (w.heap.size + 1) w4).alloc hs4 _).grown hgrow (by simp; omega) hob.out
          refine ⟨⟨k + 1, A', fl', xs ++ [f], by simp, by omega, e1, (hk8.block w.heap.size (by omega)).trans h4.out, o1, o2, o3, HA, ?_, hbw4.trans (hk8.mono (by omega))⟩, by simp only [intOf]; omega⟩
          rw [cellsE_snoc]; exact hown8
      · obtain rfl : k = n := by omega
        have hlt' : ¬ (k : Int) < k := by omega
        go_wp2_with fail
        refine (done_any w.heap.size A s fl _ hrd hs).mono ?_
        rintro e w3 ⟨rfl, hb3⟩
        have hbw3 := hb.trans (hb3.mono hbs)
        obtain ⟨-, a, cap, rfl, hres⟩ := resE_of_owns hown
        have hres3 := hres.below hb3
        cases fl with
        | true =>
          have hDn := K1.out rfl
          have hdl := ret.out hDn
          subst hDn hdl
          go_wp2_with fail
          go_ret2
          first | exact ⟨_, _, rfl, .inl rfl, hbw3.alloc hbw3.size _⟩ | exact ⟨_, ⟨_, rfl⟩, .inl rfl, hbw3.alloc hbw3.size _⟩
        | false =>
          have hDe := dec_end (K2.out rfl) hn (K3.out rfl) K4.out
          by_cases hA' : A = s.size
          · have hDs : D = some xs := by rw [← HD.out, hDe, if_pos hA']
            have hdl : dl = xs := by rw [HL.out, hDs]; rfl
            subst hDs hdl
            have hAi : decide (A = s.size) = true := by simp [hA']
            rw [hAi]
            clear hDe hA'
            go_wp2_with fail
            go_ret2
            have hr4 : ResE w3 w.heap.size a dl := by
              rcases hres3 with h | ⟨g, rfl, hg, hr⟩
              · exact .inl h
              · exact .inr ⟨g, rfl, by omega, hr⟩
            first | exact ⟨_, _, rfl, hr4, hbw3⟩ | exact ⟨_, ⟨_, rfl⟩, hr4, hbw3⟩
          · have hDs : D = none := by rw [← HD.out, hDe, if_neg hA']
            have hdl := ret.out hDs
            subst hDs hdl
            have hAi : decide (A = s.size) = false := by simp [hA']
            rw [hAi]
            clear hDe hA'
            go_wp2_with fail
            go_ret2
            first | exact ⟨_, _, rfl, .inl rfl, hbw3.alloc hbw3.size _⟩ | exact ⟨_, ⟨_, rfl⟩, .inl rfl, hbw3.alloc hbw3.size _⟩
end Go.Proofs.YtgmfjninimebmaaGreatDoor
namespace Go.Proofs.YtgmfjninimebmaaGreatDoor
open Go.RowKit Go.Maps
set_option linter.unusedVariables false
set_option linter.unusedSimpArgs false

/-- One byte as a text. -/
def d1 (n : Int) : ByteArray := ByteArray.empty.push (UInt8.ofNat n.toNat)
theorem d1_size (n : Int) : (d1 n).size = 1 := by simp [d1]

theorem conv1 (w : World) (n : Int) : (convert 111 9 (.slice (some ⟨w.heap.size, 0, none⟩) 1 1)).run Tryz.prog (w.alloc (.cells #[.int .u8 n] 5)) = .ok (.string (d1 n)) (w.alloc (.cells #[.int .u8 n] 5)) := by
  rw [run_convert_bytes_string _ 111 9 5 _ 1 1 Tryz.underlying111 Tryz.underlying5 Tryz.underlying9, run_bytesToString _ _ 1 1 [n] (by simp [loadCells, go_sem])]
  rfl

/-- The digits of k ahead of out. -/
def md : Nat → Nat → ByteArray → ByteArray
  | 0, _, out => out
  | n + 1, k, out => if k = 0 then out else md n (k / 10) (d1 (48 + (k : Int) % 10) ++ out)
theorem md_zero (n : Nat) (out : ByteArray) : md n 0 out = out := by cases n <;> simp [md]
theorem md_more : ∀ (n k : Nat) (out : ByteArray), k ≤ n → md (n + 1) k out = md n k out := by
  intro n
  induction n with
  | zero => intro k out h; have : k = 0 := by omega
            subst this; rw [md_zero, md_zero]
  | succ n ih =>
    intro k out h
    show (if k = 0 then out else md (n + 1) (k / 10) (d1 (48 + (k : Int) % 10) ++ out)) = (if k = 0 then out else md n (k / 10) (d1 (48 + (k : Int) % 10) ++ out))
    by_cases hk : k = 0
    · simp [hk]
    · rw [if_neg hk, if_neg hk, ih _ _ (by omega)]
theorem md_stable (n k : Nat) (out : ByteArray) (h : k ≤ n) : md n k out = md k k out := by
  induction n with
  | zero => have : k = 0 := by omega
            subst this; rfl
  | succ n ih =>
    by_cases hk : k = n + 1
    · rw [hk]
    · rw [md_more n k out (by omega)]; exact ih (by omega)
theorem md_step {k : Nat} (hk : 0 < k) (out : ByteArray) : md (k / 10) (k / 10) (d1 (48 + (k : Int) % 10) ++ out) = md k k out := by
  obtain ⟨n, rfl⟩ : ∃ n, k = n + 1 := ⟨k - 1, by omega⟩
  show _ = (if n + 1 = 0 then out else md n ((n + 1) / 10) (d1 (48 + ((n + 1 : Nat) : Int) % 10) ++ out))
  rw [if_neg (by omega), md_stable n _ _ (by omega)]

/-- The text of a mark. -/
def mt (k : Nat) : ByteArray := ⟨#[109]⟩ ++ md k k ByteArray.empty

set_option maxRecDepth 100000 in
set_option maxHeartbeats 1000000 in
theorem markText_any (k0 : Nat) (hk : 1 ≤ k0) (hk2 : k0 ≤ 4000000) (w : World) :
    Calls Tryz.prog 53 #[.int .i64 k0] w fun e w' => e = .returned (.string (mt k0)) ∧ Below w.heap.size w w' := by
  have hcv := conv1
  have HM : Hid (mt k0 = ⟨#[109]⟩ ++ md k0 k0 ByteArray.empty) := rfl
  generalize mt k0 = res at *
  have hk' : ¬ (k0 : Int) ≤ 0 := by omega
  go_enter Tryz.func53, Tryz.ntmps53
  go_wp2
  go_loopw [0, 3] (fun i o wr => ∃ (k : Nat) (out : ByteArray), k ≤ k0 ∧ i = .int .i64 k ∧ o = .string out ∧ out.size + k ≤ k0 ∧ Hid (md k k out = md k0 k0 ByteArray.empty) ∧ Below w.heap.size w wr) (fun i _ _ => (intOf i).toNat)
  case atStart => exact ⟨k0, ByteArray.empty, Nat.le_refl _, rfl, rfl, by simp, rfl, Below.refl _ _⟩
  case round =>
    obtain ⟨k, out, hk1, rfl, rfl, hsz, HD, hb⟩ := hrel
    have hbs := hb.size
    by_cases hp : 0 < k
    · have hp' : (0 : Int) < (k : Int) := by omega
      have hds := d1_size (48 + (k : Int) % 10)
      have HD' : Hid (md (k / 10) (k / 10) (d1 (48 + (k : Int) % 10) ++ out) = md k0 k0 ByteArray.empty) := (md_step hp out).trans HD.out
      clear HD
      go_wp2
      refine ⟨⟨k / 10, d1 (48 + (k : Int) % 10) ++ out, by omega, by go_num, rfl, ?_, HD', hb.alloc hbs _⟩, by simp [intOf]; omega⟩
      rw [ByteArray.size_append, hds]
      omega
    · obtain rfl : k = 0 := by omega
      have HR : Hid (res = ⟨#[109]⟩ ++ out) := by show _ = _; rw [HM.out, ← HD.out, md_zero]
      clear HD HM
      go_wp2
      go_ret
      exact ⟨by rw [HR.out]; rfl, hb⟩

theorem markText_int (x : Int) (n : Nat) (hx : x = n) (h1 : 1 ≤ n) (h2 : n ≤ 4000000) (w : World) :
    Calls Tryz.prog 53 #[.int .i64 x] w fun e w' => e = .returned (.string (mt n)) ∧ Below w.heap.size w w' := by
  subst hx
  exact markText_any n h1 h2 w

/-- The marks, as entries. -/
def mkE (n : Nat) : List En := (List.range n).map fun i => ⟨mt (1 + 4 * i), ((1 + 4 * i + 1 : Nat) : Int), ((1 + 4 * i + 2 : Nat) : Int), mt (1 + 4 * i + 3)⟩
theorem mkE_length (n : Nat) : (mkE n).length = n := by simp [mkE]
theorem mkE_at (n i : Nat) (h : i < n) : (mkE n).getD i en0 = ⟨mt (1 + 4 * i), ((1 + 4 * i + 1 : Nat) : Int), ((1 + 4 * i + 2 : Nat) : Int), mt (1 + 4 * i + 3)⟩ := by simp [mkE, List.getD, h]
theorem RowE.zero {w : World} {g n k : Nat} {xs : List En} (h : RowE w g n xs k) (ys : List En) : RowE w g n ys 0 := by
  obtain ⟨cs, h1, h2, _⟩ := h
  exact ⟨cs, h1, h2, fun i hi => absurd hi (Nat.not_lt_zero _)⟩
theorem rowE_step {W : World} {g n k : Nat} {xs : List En} {f : En} {cs : Array Value} (h1 : W.heap[g]? = some (.cells ((((cs.setIfInBounds (k * 4) (.string f.ky)).setIfInBounds (k * 4 + 1) (.int .i64 f.sq)).setIfInBounds (k * 4 + 2) (.int .i64 f.kd)).setIfInBounds (k * 4 + 3) (.string f.vl)) 50 (0, 0))) (h2 : n * 4 ≤ cs.size)
    (h3 : ∀ i, i < k → cs[i * 4]? = some (.string (xs.getD i en0).ky) ∧ cs[i * 4 + 1]? = some (.int .i64 (xs.getD i en0).sq) ∧ cs[i * 4 + 2]? = some (.int .i64 (xs.getD i en0).kd) ∧ cs[i * 4 + 3]? = some (.string (xs.getD i en0).vl)) (hk : k < n) (hf : xs.getD k en0 = f) : RowE W g n xs (k + 1) := by
  refine ⟨_, h1, by simpa using h2, fun i hi => ?_⟩
  by_cases hik : i = k
  · subst hik
    rw [hf]
    refine ⟨?_, ?_, ?_, ?_⟩
    · simp [Array.getElem?_setIfInBounds]; omega
    · simp [Array.getElem?_setIfInBounds]; omega
    · simp [Array.getElem?_setIfInBounds]; omega
    · simp [Array.getElem?_setIfInBounds]; omega
  · obtain ⟨a0, a1, a2, a3⟩ := h3 i (by omega)
    refine ⟨?_, ?_, ?_, ?_⟩
    · rw [Array.getElem?_setIfInBounds_ne (by omega), Array.getElem?_setIfInBounds_ne (by omega), Array.getElem?_setIfInBounds_ne (by omega), Array.getElem?_setIfInBounds_ne (by omega)]; exact a0
    · rw [Array.getElem?_setIfInBounds_ne (by omega), Array.getElem?_setIfInBounds_ne (by omega), Array.getElem?_setIfInBounds_ne (by omega), Array.getElem?_setIfInBounds_ne (by omega)]; exact a1
    · rw [Array.getElem?_setIfInBounds_ne (by omega), Array.getElem?_setIfInBounds_ne (by omega), Array.getElem?_setIfInBounds_ne (by omega), Array.getElem?_setIfInBounds_ne (by omega)]; exact a2
    · rw [Array.getElem?_setIfInBounds_ne (by omega), Array.getElem?_setIfInBounds_ne (by omega), Array.getElem?_setIfInBounds_ne (by omega), Array.getElem?_setIfInBounds_ne (by omega)]; exact a3
theorem row_cell {W : World} {g o : Nat} {cs : Array Value} {t : TypeId} (h : W.heap[g]? = some (.cells cs t (0, 0))) (ho : o < cs.size) : ∃ v, W.cell? ⟨g, o, none⟩ = some v := ⟨cs[o], by simp [World.cell?, h]⟩

set_option maxRecDepth 100000 in
set_option maxHeartbeats 4000000 in
theorem markEntryS_row (g cap n : Nat) (w : World) (ys : List En) (hn2 : n ≤ 300000) (hp : RowE w g n ys 0) :
    Calls Tryz.prog 27 #[.slice (some ⟨g, 0, none⟩) n cap, .int .i64 1] w fun e w' => e = .returned (.int .i64 (1 + 4 * n : Nat)) ∧ RowE w' g n (mkE n) n ∧ Only g w w' := by
  have hgl := hp.lt
  go_enter Tryz.func27, Tryz.ntmps27
  go_wp2_with fail
  go_loopw [1, 5] (fun kk i wr => ∃ j : Nat, j ≤ n ∧ i = .int .i64 j ∧ kk = .int .i64 (1 + 4 * j : Nat) ∧ RowE wr g n (mkE n) j ∧ Only g w wr) (fun _ i _ => n - (intOf i).toNat)
  case atStart => exact ⟨0, Nat.zero_le _, rfl, by simp, hp.zero _, Only.refl _ _⟩
  case round =>
    obtain ⟨j, hj, rfl, rfl, hpj, hb⟩ := hrel
    by_cases hlt : j < n
    · obtain ⟨cs, h1, h2, h3⟩ := hpj
      have hfj := mkE_at n j hlt
      go_wp2_with fail
      refine (markText_int _ (1 + 4 * j) (by omega) (by omega) (by omega) _).mono ?_
      rintro e w1 ⟨rfl, hb1⟩
      have hgr : g < wr.heap.size := Nat.lt_of_lt_of_le hgl hb.size
      have e1 := (hb1.block g hgr).trans h1
      obtain ⟨v0, c0⟩ := row_cell (o := j * 4) e1 (by omega)
      obtain ⟨v1, c1⟩ := row_cell (o := j * 4 + 1) e1 (by omega)
      obtain ⟨v2, c2⟩ := row_cell (o := j * 4 + 2) e1 (by omega)
      have z0 : w1.frozen? ⟨g, j * 4, none⟩ = false := by simp [World.frozen?, e1]
      have z1 : w1.frozen? ⟨g, j * 4 + 1, none⟩ = false := by simp [World.frozen?, e1]
      have z2 : w1.frozen? ⟨g, j * 4 + 2, none⟩ = false := by simp [World.frozen?, e1]
      have e2 := heap_setCell_same w1 g (j * 4) _ _ (.string (mt (1 + 4 * j))) e1
      have e3 := heap_setCell_same _ g (j * 4 + 1) _ _ (.int .i64 ((1 + 4 * j + 1 : Nat) : Int)) e2
      have e4 := heap_setCell_same _ g (j * 4 + 2) _ _ (.int .i64 ((1 + 4 * j + 2 : Nat) : Int)) e3
      have ho1 : Only g w (((w1.setCell ⟨g, j * 4, none⟩ (.string (mt (1 + 4 * j)))).setCell ⟨g, j * 4 + 1, none⟩ (.int .i64 ((1 + 4 * j + 1 : Nat) : Int))).setCell ⟨g, j * 4 + 2, none⟩ (.int .i64 ((1 + 4 * j + 2 : Nat) : Int))) := (((hb.trans (Only.of hb1)).trans (Only.set _ _ _)).trans (Only.set _ _ _)).trans (Only.set _ _ _)
      have hg2 : g < (((w1.setCell ⟨g, j * 4, none⟩ (.string (mt (1 + 4 * j)))).setCell ⟨g, j * 4 + 1, none⟩ (.int .i64 ((1 + 4 * j + 1 : Nat) : Int))).setCell ⟨g, j * 4 + 2, none⟩ (.int .i64 ((1 + 4 * j + 2 : Nat) : Int))).heap.size := heap_lt e4
      have q1 : ((1 + 4 * j + 1 : Nat) : Int) = 1 + 4 * (j : Int) + 1 := by omega
      have q2 : ((1 + 4 * j + 2 : Nat) : Int) = 1 + 4 * (j : Int) + 1 + 1 := by omega
      rw [q1, q2] at e4 ho1 hg2
      rw [q1, q2] at hfj
      clear hb1 e1 e2 e3 q1 q2
      go_wp2_with fail
      refine (markText_int _ (1 + 4 * j + 3) (by omega) (by omega) (by omega) _).mono ?_
      rintro e w2 ⟨rfl, hb2⟩
      have e5 := (hb2.block g hg2).trans e4
      obtain ⟨v3, c3⟩ := row_cell (o := j * 4 + 3) e5 (by simp; omega)
      have z3 : w2.frozen? ⟨g, j * 4 + 3, none⟩ = false := by simp [World.frozen?, e5]
      have e6 := heap_setCell_same w2 g (j * 4 + 3) _ _ (.string (mt (1 + 4 * j + 3))) e5
      have hpart := rowE_step (f := ⟨mt (1 + 4 * j), 1 + 4 * (j : Int) + 1, 1 + 4 * (j : Int) + 1 + 1, mt (1 + 4 * j + 3)⟩) e6 h2 h3 (by omega) hfj
      have ho2 : Only g w (w2.setCell ⟨g, j * 4 + 3, none⟩ (.string (mt (1 + 4 * j + 3)))) := (ho1.trans (Only.of hb2)).trans (Only.set _ _ _)
      clear e4 e5 e6 h1 h2 h3 ho1 hb2 hfj c0 z0 c1 z1 c2 z2
      go_wp2_with fail
      exact ⟨⟨j + 1, by omega, by go_num, by go_num, hpart, ho2⟩, by simp [intOf]; omega⟩
    · obtain rfl : j = n := by omega
      go_wp2_with fail
      go_ret
      exact ⟨rfl, hpj, hb⟩

set_option maxRecDepth 100000 in
set_option maxHeartbeats 4000000 in
theorem heldEntryS_row (a : Option Addr) (cap n : Nat) (w : World) (hn2 : n ≤ 300000) (hx : LieE w a (mkE n)) :
    Calls Tryz.prog 28 #[.slice a n cap, .int .i64 1] w fun e w' => e = .returned (.int .i64 (1 + 4 * n : Nat)) ∧ Below w.heap.size w w' := by
  go_enter Tryz.func28, Tryz.ntmps28
  go_wp2_with fail
  go_loopw [1, 5] (fun kk i wr => ∃ j : Nat, j ≤ n ∧ i = .int .i64 j ∧ kk = .int .i64 (1 + 4 * j : Nat) ∧ Below w.heap.size w wr) (fun _ i _ => n - (intOf i).toNat)
  case atStart => exact ⟨0, Nat.zero_le _, rfl, by simp, Below.refl _ _⟩
  case round =>
    obtain ⟨j, hj, rfl, rfl, hb⟩ := hrel
    by_cases hlt : j < n
    · obtain ⟨b, off, rfl, hbl, c0, c1, c2, c3⟩ := (hx.below hb).at (i := j) (by rw [mkE_length]; exact hlt)
      rw [mkE_at n j hlt] at c0 c1 c2 c3
      have hij : (j : Int) < (n : Int) := by omega
      simp only at c0 c1 c2 c3
      have q1 : ((1 + 4 * j + 1 : Nat) : Int) = 1 + 4 * (j : Int) + 1 := by omega
      have q2 : ((1 + 4 * j + 2 : Nat) : Int) = 1 + 4 * (j : Int) + 1 + 1 := by omega
      rw [q1] at c1
      rw [q2] at c2
      clear q1 q2
      go_wp2_with fail
      go_region_held3 (fun w' => w'.cell? ⟨b, off + j * 4, none⟩ = some (.string (mt (1 + 4 * j)))) (simp [go_sem, *])
        (first | (go_at_call 53; refine (markText_int _ (1 + 4 * j) (by omega) (by omega) (by omega) _).mono ?_; rintro e w1 ⟨rfl, hb1⟩; have x0 := (hb1.cell (p := ⟨b, _, none⟩) hbl).trans c0; have x1 := (hb1.cell (p := ⟨b, _, none⟩) hbl).trans c1; have x2 := (hb1.cell (p := ⟨b, _, none⟩) hbl).trans c2; have x3 := (hb1.cell (p := ⟨b, _, none⟩) hbl).trans c3; have hbw := hb.drew.trans (hb1.mono hb.drew.size); have hbl1 := Nat.lt_of_lt_of_le hbl hb1.size; clear hb1))
      clear c0 c1 c2 c3 hbl hb
      go_wp2_with fail
      go_region_held3 (fun w' => w'.cell? ⟨b, off + j * 4 + 3, none⟩ = some (.string (mt (1 + 4 * j + 3)))) (simp [go_sem, *])
        (first | (go_at_call 53; refine (markText_int _ (1 + 4 * j + 3) (by omega) (by omega) (by omega) _).mono ?_; rintro e w2 ⟨rfl, hb2⟩; have y3 := (hb2.cell (p := ⟨b, _, none⟩) hbl1).trans x3; have hbw2 := hbw.drew.trans (hb2.mono hbw.drew.size); clear hb2))
      go_wp2_with fail
      exact ⟨⟨j + 1, by omega, by go_num, by go_num, hbw2⟩, by simp [intOf]; omega⟩
    · obtain rfl : j = n := by omega
      go_wp2_with fail
      go_ret
      exact ⟨rfl, hb⟩

set_option maxRecDepth 100000 in
set_option maxHeartbeats 1000000 in
theorem markEntryS_empty (a : Option Addr) (cap : Nat) (w : World) :
    Calls Tryz.prog 27 #[.slice a 0 cap, .int .i64 1] w fun e w' => e = .returned (.int .i64 1) ∧ w' = w := by
  go_enter Tryz.func27, Tryz.ntmps27
  go_wp2_with fail
  refine wp_loop_rounds 1 ?_
  rw [rounds_succ]
  go_wp2_with fail
  go_ret
  exact ⟨rfl, rfl⟩
end Go.Proofs.YtgmfjninimebmaaGreatDoor
namespace Go.Proofs.YtgmfjninimebmaaGreatDoor
open Go.RowKit Go.Maps
set_option linter.unusedVariables false
set_option linter.unusedSimpArgs false

theorem Bld.lt {B b : Nat} {l : List UInt8} {w : World} (h : Bld B b l w) : b < w.heap.size := by
  have key : ∀ {p : Value}, Lib.BuilderAtF 150 5 B b p (bc l) w → b < w.heap.size := fun {p} h => by
    obtain ⟨hB, v, hbk, _⟩ := h
    by_cases hlt : b < w.heap.size
    · exact hlt
    · rw [Array.getElem?_eq_none (by omega)] at hbk; cases hbk
  exact h.elim key key

set_option maxRecDepth 100000 in
set_option maxHeartbeats 1000000 in
theorem putSized_any (B b : Nat) (l : List UInt8) (s : ByteArray) (w : World) (h : Bld B b l w) (hs : s.size ≤ 1048576) (hlen : l.length ≤ 70368744177664) (hBw : B ≤ w.heap.size) :
    Calls Tryz.prog 153 #[.pointer (some ⟨b, 0, none⟩), .string s] w fun e w' => e = .returned (.tuple #[]) ∧ Bld B b (l ++ (vb s.size ++ s.data.toList)) w' ∧ Below B w w' ∧
      (∀ k o, w.heap[k]? = some o → k ≠ b → (∀ c fz, o ≠ .cells c 5 fz) → w'.heap[k]? = some o) := by
  have HV : Hid ((vtext (s.size : Int)).data.toList = vb s.size) := by show _ = _; rw [vtext_in _ (by omega) (by omega)]; simp
  have hvs := vtext_size (s.size : Int)
  have hvl := vb_len s.size
  have hBb : b < w.heap.size := h.lt
  go_enter Tryz.func153, Tryz.ntmps153
  go_wp2_with fail
  refine (implPut_any _ _).mono ?_
  rintro e w1 ⟨rfl, hb1⟩
  have h1 := h.below hb1
  have hs1 := hb1.size
  go_wp2_with fail
  refine (writeString_any B b l _ w1 h1 (by omega) (by omega)).mono ?_
  rintro e w2 ⟨rfl, h2, hb2, hk2⟩
  rw [HV.out] at h2
  have hs2 := hb2.size
  go_wp2_with fail
  refine (writeString_any B b _ s w2 h2 (by rw [List.length_append]; omega) (by omega)).mono ?_
  rintro e w3 ⟨rfl, h3, hb3, hk3⟩
  rw [List.append_assoc] at h3
  go_wp2_with fail
  go_end0
  refine ⟨rfl, h3, ((hb1.mono hBw).trans hb2).trans hb3, fun k o hk hkb ho => ?_⟩
  have hlt : k < w.heap.size := by
    by_cases hlt : k < w.heap.size
    · exact hlt
    · rw [Array.getElem?_eq_none (by omega)] at hk; cases hk
  exact hk3 k o (hk2 k o ((hb1.block k hlt).trans hk) (by simpa using hkb) ho) (by simpa using hkb) ho
end Go.Proofs.YtgmfjninimebmaaGreatDoor
namespace Go.Proofs.YtgmfjninimebmaaGreatDoor
open Go.RowKit Go.Maps
set_option linter.unusedVariables false
set_option linter.unusedSimpArgs false

theorem four_cellsE {w : World} {p : Nat} {t : TypeId} {x0 x1 x2 x3 : Value} (h : w.heap[p]? = some (.cells #[x0, x1, x2, x3] t (0, 0))) :
    w.cell? ⟨p, 0, none⟩ = some x0 ∧ w.cell? ⟨p, 1, none⟩ = some x1 ∧ w.cell? ⟨p, 2, none⟩ = some x2 ∧ w.cell? ⟨p, 3, none⟩ = some x3 := by
  refine ⟨?_, ?_, ?_, ?_⟩ <;> simp [World.cell?, h]
set_option maxRecDepth 100000 in
set_option maxHeartbeats 2000000 in
theorem implEnc_any (a : Option Addr) (cap : Nat) (xs : List En) (w : World) (hx : LieE w a xs) (hf : FitsE xs) (hlen : xs.length ≤ 1048576) :
    Calls Tryz.prog 123 #[.slice a xs.length cap] w fun e w' => e = .returned (.string (encT xs)) ∧ Below w.heap.size w w' := by
  by_cases hlong : 1000 < xs.length
  · rw [encT_long xs hlong]
    have h' : (1000 : Int) < xs.length := by omega
    go_enter Tryz.func123, Tryz.ntmps123
    go_wp2_with fail
    go_ret
    exact ⟨rfl, Below.refl _ _⟩
  · have h' : ¬ (1000 : Int) < xs.length := by omega
    generalize hT : encT xs = T
    have HT : Hid (encT xs = T) := hT
    clear hT
    have HV : Hid ((vtext (xs.length : Int)).data.toList = vb xs.length) := by show _ = _; rw [vtext_in _ (by omega) (by omega)]; simp
    have HVS : Hid ((vtext (xs.length : Int)).size ≤ 8) := vtext_size _
    have hB0 : Bld w.heap.size w.heap.size [] (w.alloc (.cells #[.pointer none, .slice none 0 0] 150)) := Lib.IsBuilderF.of (Lib.fresh_isBuilder 150 5 w)
    have hb0 : Below w.heap.size w (w.alloc (.cells #[.pointer none, .slice none 0 0] 150)) := (Below.refl _ _).alloc (Nat.le_refl _) _
    go_enter Tryz.func123, Tryz.ntmps123
    go_wp2_with fail
    refine (implPut_any _ _).mono ?_
    rintro e w1 ⟨rfl, hb1⟩
    have hB1 := hB0.below hb1
    have hbw1 : Below w.heap.size w w1 := hb0.trans (hb1.mono hb0.size)
    go_wp2_with fail
    refine (writeString_any _ _ _ _ w1 hB1 (by have := HVS.out; simp; omega) hbw1.size).mono ?_
    rintro e w2 ⟨rfl, hB2, hb2, -⟩
    rw [HV.out, List.nil_append] at hB2
    have hbw2 : Below w.heap.size w w2 := hbw1.trans hb2
    clear hB0 hB1 hb0 hb1 hb2 hbw1
    go_wp2_with fail
    go_loopw [15] (fun y wr => ∃ k : Nat, y = .int .i64 k ∧ k ≤ xs.length ∧ (xs.take k).all entOk = true ∧ Bld w.heap.size w.heap.size (encB xs.length (xs.take k)) wr ∧ Below w.heap.size w wr) (fun y _ => xs.length - (intOf y).toNat)
    case atStart => exact ⟨0, rfl, by omega, rfl, by simpa [encB] using hB2, hbw2⟩
    case round =>
      obtain ⟨k, rfl, hk, hall, hB, hb⟩ := hrel
      have hbs := hb.size
      have hBlt := hB.lt
      by_cases hlt : k < xs.length
      · obtain ⟨b, off, rfl, hbl, c0, c1, c2, c3⟩ := (hx.below hb).at hlt
        have hfk := hf.at hlt
        have hik : (k : Int) < (xs.length : Int) := by omega
        have HB : Hid (entOk (xs.getD k en0) = false → T = ⟨#[]⟩) := fun h => by rw [← HT.out]; exact encT_bad xs k hlt h
        have HS : Hid (encB xs.length (xs.take (k + 1)) = encB xs.length (xs.take k) ++ ebA (xs.getD k en0) ++ ebB (xs.getD k en0)) := by show _ = _; rw [takeE_snoc xs k hlt, encB_snoc]
        have HA : Hid (entOk (xs.getD k en0) = true → (xs.take (k + 1)).all entOk = true) := fun h => by rw [takeE_snoc xs k hlt, List.all_append, hall]; simpa using h
        have hbl2 : (encB xs.length (xs.take k)).length ≤ 5025008 := by have := encB_len xs.length (xs.take k) hall; rw [List.length_take] at this; omega
        generalize xs.getD k en0 = f at *
        generalize encB xs.length (xs.take k) = l at *
        obtain ⟨ky, sq, kd, vl⟩ := f
        have hP0 : (wr.alloc (.cells #[.string ky, .int .i64 sq, .int .i64 kd, .string vl] 50)).heap[wr.heap.size]? = some (.cells #[.string ky, .int .i64 sq, .int .i64 kd, .string vl] 50 (0, 0)) := World.heap_alloc_new _ _
        have hba : Below w.heap.size w (wr.alloc (.cells #[.string ky, .int .i64 sq, .int .i64 kd, .string vl] 50)) := hb.alloc hbs _
        have hBa : Bld w.heap.size w.heap.size l (wr.alloc (.cells #[.string ky, .int .i64 sq, .int .i64 kd, .string vl] 50)) := Lib.IsBuilderF.alloc hB _
        have hne : ∀ c fz, (Obj.cells #[.string ky, .int .i64 sq, .int .i64 kd, .string vl] 50 (0, 0)) ≠ .cells c 5 fz := fun c fz h => by simp at h
        go_wp2_with fail
        refine (validEntry_any ⟨ky, sq, kd, vl⟩ _ hfk.1 hfk.2).mono ?_
        rintro e w3 ⟨rfl, hb3⟩
        have hbw3 : Below w.heap.size w w3 := hba.trans (hb3.mono hba.size)
        cases hok : entOk ⟨ky, sq, kd, vl⟩ with
        | false =>
          have hTe := HB.out hok
          go_wp2_with fail
          go_ret
          exact ⟨by rw [hTe]; rfl, hbw3⟩
        | true =>
          obtain ⟨q1, q2⟩ := (entOk_iff _).1 hok
          simp only at q1 q2
          have hP3 := (hb3.block wr.heap.size (by simp)).trans hP0
          have hB3 := hBa.below hb3
          have hAll := HA.out hok
          have HV2 : Hid ((vtext sq).data.toList = vb sq.toNat) := by show _ = _; rw [vtext_in _ (by omega) (by omega)]
          have hvs2 := vtext_size sq
          have hl1 := vb_len ky.size
          have hl2 := vb_len sq.toNat
          have hl3 := vb_len vl.size
          have hdk := dataL ky
          clear HB HA hb3 c0 c1 c2 c3 hB hx hf hbw2 hB2 hfk hP0 hba hBa hb hok
          obtain ⟨x0, x1, x2, x3⟩ := four_cellsE hP3
          have hlt3 := heap_lt hP3
          go_wp2_with fail
          refine (putSized_any w.heap.size w.heap.size l ky w3 hB3 (by omega) (by omega) hbw3.size).mono ?_
          rintro e w4 ⟨rfl, hB4, hb4, hk4⟩
          have hP4 := hk4 wr.heap.size _ hP3 (by omega) hne
          have hbw4 := hbw3.trans hb4
          obtain ⟨y0, y1, y2, y3⟩ := four_cellsE hP4
          clear hk4 hb4
          go_wp2_with fail
          refine (implPut_any _ _).mono ?_
          rintro e w5 ⟨rfl, hb5⟩
          have hB5 := hB4.below hb5
          have hP5 := (hb5.block wr.heap.size (heap_lt hP4)).trans hP4
          have hbw5 := hbw4.trans (hb5.mono hbw4.size)
          go_wp2_with fail
          refine (writeString_any _ _ _ _ w5 hB5 (by simp only [List.length_append]; omega) hbw5.size).mono ?_
          rintro e w6 ⟨rfl, hB6, hb6, hk6⟩
          rw [HV2.out] at hB6
          have hP6 := hk6 wr.heap.size _ hP5 (by simp; omega) hne
          have hbw6 := hbw5.trans hb6
          obtain ⟨z0, z1, z2, z3⟩ := four_cellsE hP6
          clear hk6 hb6 hb5
          obtain ⟨kn, rfl⟩ : ∃ kn : Nat, kd = kn := ⟨kd.toNat, by omega⟩
          have hkn : (kn : Int) < 256 := by omega
          go_wp2_with fail
          refine (writeByte_any _ _ _ kn w6 hB6 (by omega) (by simp only [List.length_append]; omega) hbw6.size).mono ?_
          rintro e w7 ⟨rfl, hB7, hb7, hk7⟩
          have hP7 := hk7 wr.heap.size _ hP6 (by simp; omega) hne
          have hbw7 := hbw6.trans hb7
          obtain ⟨u0, u1, u2, u3⟩ := four_cellsE hP7
          clear hk7 hb7
          go_wp2_with fail
          refine (putSized_any w.heap.size w.heap.size _ vl w7 hB7 (by omega) (by simp only [List.length_append, List.length_singleton]; omega) hbw7.size).mono ?_
          rintro e w8 ⟨rfl, hB8, hb8, hk8⟩
          have hbw8 := hbw7.trans hb8
          go_wp2_with fail
          refine ⟨⟨k + 1, by simp, by omega, hAll, ?_, hbw8⟩, by simp only [intOf]; omega⟩
          rw [HS.out]
          have e : l ++ ebA ⟨ky, sq, kn, vl⟩ ++ ebB ⟨ky, sq, kn, vl⟩ = l ++ (vb ky.size ++ ky.data.toList) ++ vb sq.toNat ++ [UInt8.ofNat kn] ++ (vb vl.size ++ vl.data.toList) := by
            simp [ebA, ebB]
          rw [e]
          exact hB8
      · obtain rfl : k = xs.length := by omega
        rw [List.take_length] at hall hB
        have hTe := HT.out
        rw [encT_ok xs (by omega) hall] at hTe
        go_wp2_with fail
        refine (Tryz.Builder_String_any_k w.heap.size w.heap.size _ _ hB hbs).mono ?_
        rintro e w3 ⟨rfl, -, hb3, -⟩
        go_wp2_with fail
        go_ret
        exact ⟨rfl, hb.trans hb3⟩
end Go.Proofs.YtgmfjninimebmaaGreatDoor
