import Derived.Test.YtohpfjpgihcmiaaGreatDoorLpF

namespace Go.Proofs.YtohpfjpgihcmiaaGreatDoor
open Go.RowKit Go.Maps
set_option linter.unusedVariables false
set_option linter.unusedSimpArgs false

set_option maxRecDepth 100000 in
set_option maxHeartbeats 1000000 in
theorem markOpS_empty (a : Option Addr) (cap k0 : Nat) (w : World) :
    Calls Tryz.prog 18 #[.slice a 0 cap, .int .i64 k0] w fun e w' => e = .returned (.int .i64 k0) ∧ w' = w := by
  go_enter Tryz.func18, Tryz.ntmps18
  go_wp2_with fail
  refine wp_loop_rounds 1 ?_
  rw [rounds_succ]
  go_wp2_with fail
  go_ret
  exact ⟨rfl, rfl⟩
theorem markOps_any (v : Value) (B k0 : Nat) (os : List OpW) (w : World) (h : ScR w B v os) (hl : os.length ≤ 2000) (hsm : ∀ x ∈ os, x.o.bt.length ≤ 80000 ∧ x.o.kp.length ≤ 80000) (h01 : 1 ≤ k0) (hk0 : k0 ≤ 1000) (hBw : B ≤ w.heap.size) :
    Calls Tryz.prog 18 #[v, .int .i64 k0] w fun e w' => e = .returned (.int .i64 ((enK k0 os : Nat) : Int)) ∧ Below B w w' ∧ Kp w w' ∧ ∃ a cap, v = .slice a os.length cap ∧ LieO w' a (mks k0 os) := by
  by_cases h0 : os = []
  · subst h0
    obtain ⟨a, cap, rfl, -⟩ := lieO_of h
    refine (markOpS_empty a cap k0 w).mono ?_
    rintro e w' ⟨rfl, rfl⟩
    exact ⟨rfl, Below.refl _ _, Kp.refl _, a, cap, rfl, .inl rfl, fun x hx => by simp [mks] at hx⟩
  · obtain ⟨G, cap, rfl, hm⟩ := mkO_of h h0
    refine (markOpS_row G B cap k0 os w hm hl hsm h01 hk0 hBw).mono ?_
    rintro e w' ⟨rfl, hm', hb, hkp⟩
    exact ⟨rfl, hb, hkp, _, cap, rfl, hm'.lie⟩
set_option maxRecDepth 100000 in
set_option maxHeartbeats 1000000 in
theorem markScript_any (q : Int) (a : Option Addr) (n cap B : Nat) (os : List OpW) (w : World) (h : ScR w B (.slice a n cap) os) (hl : os.length ≤ 2000) (hsm : ∀ x ∈ os, x.o.bt.length ≤ 80000 ∧ x.o.kp.length ≤ 80000) (hBw : B ≤ w.heap.size) :
    Calls Tryz.prog 7 #[.agg #[.int .i64 q, .slice a n cap], .int .i64 1] w fun e w' => e = .returned (.int .i64 ((enK 1 os : Nat) : Int)) ∧ Below B w w' ∧ Kp w w' ∧ LieO w' a (mks 1 os) := by
  have hb0 : Below w.heap.size w (w.alloc (.cells #[.int .i64 q, .slice a n cap] 24)) := (Below.refl _ _).alloc (Nat.le_refl _) _
  have HM := hdN (markOps_any (.slice a n cap) B 1 os _ (h.below hb0) hl hsm (by omega) (by omega) (by rw [size_alloc]; omega))
  go_enter Tryz.func7, Tryz.ntmps7
  go_wp2_with fail
  refine HM.out.mono ?_
  rintro e w1 ⟨rfl, hb1, hkp, a', cap', ev, hli⟩
  injection ev with e1 e2 e3
  subst e1
  go_wp2_with fail
  go_ret
  exact ⟨rfl, (hb0.mono hBw).trans hb1, (Kp.of hb0).trans hkp, hli⟩
set_option maxRecDepth 100000 in
set_option maxHeartbeats 1000000 in
theorem heldScript_any (q : Int) (a : Option Addr) (cap : Nat) (os : List OpW) (w : World) (h : LieO w a (mks 1 os)) (hl : os.length ≤ 2000) (hsm : ∀ x ∈ os, x.o.bt.length ≤ 80000 ∧ x.o.kp.length ≤ 80000) :
    Calls Tryz.prog 8 #[.agg #[.int .i64 q, .slice a os.length cap], .int .i64 1] w fun e w' => e = .returned (.int .i64 ((enK 1 os : Nat) : Int)) ∧ Below w.heap.size w w' := by
  have hb0 : Below w.heap.size w (w.alloc (.cells #[.int .i64 q, .slice a os.length cap] 24)) := (Below.refl _ _).alloc (Nat.le_refl _) _
  have HM := hdN (heldOpS_row a cap 1 os _ (h.below hb0) hl hsm (by omega) (by omega))
  have hn : ¬ ((enK 1 os : Nat) : Int) < 0 := by omega
  generalize enK 1 os = K at *
  go_enter Tryz.func8, Tryz.ntmps8
  go_wp2_with fail
  refine HM.out.mono ?_
  rintro e w1 ⟨rfl, hb1⟩
  go_wp2_with fail
  go_ret
  exact ⟨rfl, hb0.trans (hb1.mono hb0.size)⟩
theorem mapM_length {α β : Type} (f : α → Option β) (xs : List α) : ∀ vs, xs.mapM f = some vs → vs.length = xs.length := by
  induction xs with
  | nil => intro vs h; cases h; rfl
  | cons x r ih =>
    intro vs h
    rw [List.mapM_cons] at h
    cases hx : f x with
    | none => rw [hx] at h; cases h
    | some v =>
      cases hr : r.mapM f with
      | none => rw [hx, hr] at h; cases h
      | some us =>
        rw [hx, hr] at h
        cases h
        simp [ih us hr]
theorem opM_len {s : ByteArray} {o : OpV} (h : opM s = some o) : o.bt.length ≤ s.size + 1 ∧ o.kp.length ≤ s.size + 1 := by
  have hcl := cutB_len 32 s
  unfold opM at h
  generalize cutB 32 s = ps at *
  have htl : ps.tail.length ≤ s.size + 1 := by rw [List.length_tail]; omega
  generalize ps.tail = r at *
  split at h
  · rename_i hi
    rcases kS_le _ hi with hc | hc | hc
    · rw [opR_G _ hc] at h
      unfold opG at h
      split at h
      · rw [Option.map_eq_some_iff] at h
        obtain ⟨st, -, rfl⟩ := h
        exact ⟨Nat.zero_le _, Nat.zero_le _⟩
      · cases h
    · rw [hc, opR_5, Option.map_eq_some_iff] at h
      obtain ⟨ks, hk, rfl⟩ := h
      have := mapM_length _ _ _ hk
      exact ⟨Nat.zero_le _, by show ks.length ≤ _; omega⟩
    · rw [hc, opR_6] at h
      split at h
      · cases h
      · rw [Option.map_eq_some_iff] at h
        obtain ⟨bs, hk, rfl⟩ := h
        have := mapM_length _ _ _ hk
        exact ⟨by show bs.length ≤ _; omega, Nat.zero_le _⟩
  · cases h
theorem opsM_len (ls : List ByteArray) : ∀ (k : Nat) (os : List OpV), k ≤ 2000 → opsM k ls = .ok os → k + os.length ≤ 2000 ∧ ∀ o ∈ os, ∃ l ∈ ls, opM l = some o := by
  induction ls with
  | nil => intro k os hk h; cases h; exact ⟨by simpa using hk, fun o ho => by simp at ho⟩
  | cons x r ih =>
    intro k os hk h
    rw [opsM] at h
    split at h
    · cases h
    · rename_i hk2
      cases hx : opM x with
      | none => rw [hx] at h; cases h
      | some o =>
        rw [hx] at h
        simp only at h
        cases hr : opsM (k + 1) r with
        | error e => rw [hr] at h; cases h
        | ok us =>
          rw [hr] at h
          cases h
          obtain ⟨h1, h2⟩ := ih (k + 1) us (by omega) hr
          refine ⟨by simp; omega, fun y hy => ?_⟩
          rcases List.mem_cons.1 hy with rfl | hy
          · exact ⟨x, by simp, hx⟩
          · obtain ⟨l, hl, e⟩ := h2 y hy
            exact ⟨l, by simp [hl], e⟩
theorem psV_len (s : ByteArray) : (psV s).2.1.length ≤ 2000 ∧ ∀ o ∈ (psV s).2.1, o.bt.length ≤ 80000 ∧ o.kp.length ≤ 80000 := by
  unfold psV
  split
  · exact ⟨Nat.zero_le _, fun o ho => by simp at ho⟩
  · rename_i hbig
    have hz : ∀ x ∈ lnB s, x.size ≤ 60000 := by
      intro x hx
      have hm : x ∈ cutB 10 s := by
        unfold lnB at hx
        split at hx
        · exact (List.dropLast_sublist _).subset hx
        · exact hx
      have := cut_size 10 s x hm
      omega
    generalize lnB s = L at *
    cases L with
    | nil => exact ⟨Nat.zero_le _, fun o ho => by simp at ho⟩
    | cons l ls =>
      simp only
      cases quotaM l with
      | none => exact ⟨Nat.zero_le _, fun o ho => by simp at ho⟩
      | some q =>
        simp only
        cases ho : opsM 0 ls with
        | error e => exact ⟨Nat.zero_le _, fun o ho => by simp at ho⟩
        | ok os =>
          obtain ⟨h1, h2⟩ := opsM_len ls 0 os (by omega) ho
          refine ⟨by simpa using h1, fun o hoo => ?_⟩
          obtain ⟨x, hx, e⟩ := h2 o hoo
          have h3 := opM_len e
          have h4 := hz x (by simp [hx])
          omega
end Go.Proofs.YtohpfjpgihcmiaaGreatDoor
