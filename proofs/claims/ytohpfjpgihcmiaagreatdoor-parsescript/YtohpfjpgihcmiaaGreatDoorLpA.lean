import Derived.Test.YtohpfjpgihcmiaaGreatDoorLpB

namespace Go.Proofs.YtohpfjpgihcmiaaGreatDoor
open Go.RowKit Go.Maps
set_option linter.unusedVariables false
set_option linter.unusedSimpArgs false

/-- Operations in memory, with their rows. -/
structure LieO (w : World) (a : Option Addr) (os : List OpW) : Prop where
  row : os = [] ∨ ∃ b off, a = some ⟨b, off, none⟩ ∧ b < w.heap.size ∧ ∀ i, i < os.length → ∀ j, j < 6 → w.cell? ⟨b, off + i * 6 + j, none⟩ = (op6 (os.getD i ow0))[j]?
  rows : ∀ x ∈ os, (∃ c cap, x.ba = .slice c x.o.bt.length cap ∧ LieE w c x.o.bt) ∧ (∃ c cap, x.bk = .slice c x.o.kp.length cap ∧ LieI w c x.o.kp)
theorem LieO.below {w w' : World} {a : Option Addr} {os : List OpW} (h : LieO w a os) (hb : Below w.heap.size w w') : LieO w' a os := by
  refine ⟨?_, fun x hx => ?_⟩
  · rcases h.row with h1 | ⟨b, off, rfl, hlt, hc⟩
    · exact .inl h1
    · exact .inr ⟨b, off, rfl, Nat.lt_of_lt_of_le hlt hb.size, fun i hi j hj => (hb.cell (p := ⟨b, _, none⟩) hlt).trans (hc i hi j hj)⟩
  · obtain ⟨⟨c, cap, e1, h1⟩, ⟨d, dap, e2, h2⟩⟩ := h.rows x hx
    exact ⟨⟨c, cap, e1, h1.below hb⟩, ⟨d, dap, e2, h2.below hb⟩⟩
theorem lieO_of {w : World} {B : Nat} {v : Value} {os : List OpW} (h : ScR w B v os) : ∃ a cap, v = .slice a os.length cap ∧ LieO w a os := by
  have hrows : ∀ x ∈ os, (∃ c cap, x.ba = .slice c x.o.bt.length cap ∧ LieE w c x.o.bt) ∧ (∃ c cap, x.bk = .slice c x.o.kp.length cap ∧ LieI w c x.o.kp) := fun x hx => by
    obtain ⟨h1, h2⟩ := h.rows x hx
    obtain ⟨-, a1, c1, e1, r1⟩ := resE_of_owns h1
    obtain ⟨-, a2, c2, e2, r2⟩ := resI_of_owns h2
    exact ⟨⟨a1, c1, e1, r1.lie⟩, ⟨a2, c2, e2, r2.lie⟩⟩
  rcases h.row.2 with ⟨rfl, h0⟩ | ⟨g, cap, cur, rfl, hg, hb, hl, hm, hsz, htk⟩
  · exact ⟨none, 0, by rw [h0], .inl (List.length_eq_zero_iff.1 h0), hrows⟩
  · refine ⟨some ⟨g, 0, none⟩, cap, rfl, .inr ⟨g, 0, rfl, heap_lt hb, fun i hi j hj => ?_⟩, hrows⟩
    have hcell : cur[i * 6 + j]? = (cellsO os)[i * 6 + j]? := by
      have e1 : (cur.toList.take (os.length * 6))[i * 6 + j]? = (cellsO os)[i * 6 + j]? := by rw [htk]
      rw [List.getElem?_take_of_lt (by omega)] at e1
      simpa using e1
    simp only [World.cell?, hb, Nat.zero_add]
    rw [hcell, cellsO_at os i j hi hj]
    rfl
theorem LieO.at {w : World} {a : Option Addr} {os : List OpW} (h : LieO w a os) {i : Nat} (hi : i < os.length) : ∃ b off, a = some ⟨b, off, none⟩ ∧ b < w.heap.size ∧ w.cell? ⟨b, off + i * 6, none⟩ = some (.int .i64 (os.getD i ow0).o.kd) ∧ w.cell? ⟨b, off + i * 6 + 1, none⟩ = some (.string (os.getD i ow0).o.ky) ∧ w.cell? ⟨b, off + i * 6 + 2, none⟩ = some (.string (os.getD i ow0).o.vl) ∧ w.cell? ⟨b, off + i * 6 + 3, none⟩ = some (.int .i64 (os.getD i ow0).o.n) ∧ w.cell? ⟨b, off + i * 6 + 4, none⟩ = some (os.getD i ow0).ba ∧ w.cell? ⟨b, off + i * 6 + 5, none⟩ = some (os.getD i ow0).bk := by
  rcases h.row with h1 | ⟨b, off, rfl, hlt, hc⟩
  · rw [h1] at hi; simp at hi
  · exact ⟨b, off, rfl, hlt, hc i hi 0 (by omega), hc i hi 1 (by omega), hc i hi 2 (by omega), hc i hi 3 (by omega), hc i hi 4 (by omega), hc i hi 5 (by omega)⟩
theorem getD_memO {os : List OpW} {i : Nat} (h : i < os.length) : os.getD i ow0 ∈ os := by
  rw [List.getD_eq_getElem?_getD, List.getElem?_eq_getElem h]
  simp
set_option maxRecDepth 100000 in
set_option maxHeartbeats 1000000 in
theorem eqOp_same (o : OpV) (a a' c c' : Option Addr) (ca ca' cc cc' : Nat) (w : World) (h1 : LieE w a o.bt) (h1' : LieE w a' o.bt) (h2 : LieI w c o.kp) (h2' : LieI w c' o.kp) (hl1 : o.bt.length ≤ 1048576) (hl2 : o.kp.length ≤ 1048576) :
    Calls Tryz.prog 39 #[.agg #[.int .i64 o.kd, .string o.ky, .string o.vl, .int .i64 o.n, .slice a o.bt.length ca, .slice c o.kp.length cc], .agg #[.int .i64 o.kd, .string o.ky, .string o.vl, .int .i64 o.n, .slice a' o.bt.length ca', .slice c' o.kp.length cc']] w fun e w' => e = .returned (.bool true) ∧ Below w.heap.size w w' := by
  have HE := hdN (fun (w' : World) (hb : Below w.heap.size w w') => eqEntryS_same a a' ca ca' o.bt w' (h1.below hb) (h1'.below hb) hl1)
  have HI := hdN (fun (w' : World) (hb : Below w.heap.size w w') => eqIntS_same c c' cc cc' o.kp w' (h2.below hb) (h2'.below hb) hl2)
  obtain ⟨kd, ky, vl, n, bt, kp⟩ := o
  dsimp only at *
  generalize bt.length = nb at *
  generalize kp.length = nk at *
  clear h1 h1' h2 h2'
  go_enter Tryz.func39, Tryz.ntmps39
  go_wp2_with fail
  refine (HE.out _ (((Below.refl _ _).alloc (Nat.le_refl _) _).alloc (by simp) _)).mono ?_
  rintro e w1 ⟨rfl, hb1⟩
  have hbw1 : Below w.heap.size w w1 := (((Below.refl _ w).alloc (Nat.le_refl _) _).alloc (by simp) _).trans (hb1.mono (by simp; omega))
  obtain ⟨q0, q1, q2, q3, q4, q5⟩ := six_cells ((hb1.block w.heap.size (by simp; omega)).trans ((heap_alloc_oldH _ _ w.heap.size (by simp)).trans (World.heap_alloc_new w _)))
  obtain ⟨p0, p1, p2, p3, p4, p5⟩ := six_cells ((hb1.block (w.heap.size + 1) (by simp)).trans (alloc_atP _ _ _ (by simp)))
  have hs1 := hb1.size
  have hs2 : w.heap.size + 2 ≤ w1.heap.size := by simp at hs1; omega
  clear hb1 hs1
  go_wp2_with fail
  refine (HI.out _ hbw1).mono ?_
  rintro e w2 ⟨rfl, hb2⟩
  go_wp2_with fail
  go_ret
  exact ⟨rfl, hbw1.trans (hb2.mono hbw1.size)⟩
theorem map_o {xs ys : List OpW} (h : xs.map (·.o) = ys.map (·.o)) : xs.length = ys.length ∧ ∀ i, (xs.getD i ow0).o = (ys.getD i ow0).o := by
  have hl : xs.length = ys.length := by have := congrArg List.length h; simpa using this
  refine ⟨hl, fun i => ?_⟩
  have h1 := congrArg (fun l : List OpV => l[i]?) h
  simp only [List.getElem?_map] at h1
  rw [List.getD_eq_getElem?_getD, List.getD_eq_getElem?_getD]
  cases hx : xs[i]? with
  | none =>
    rw [hx] at h1
    cases hy : ys[i]? with
    | none => rfl
    | some y => rw [hy] at h1; cases h1
  | some x =>
    rw [hx] at h1
    cases hy : ys[i]? with
    | none => rw [hy] at h1; cases h1
    | some y => rw [hy] at h1; simpa using h1
/-- The operations' rows are not too long. -/
def SmO (os : List OpV) : Prop := os.length ≤ 2000 ∧ ∀ o ∈ os, o.bt.length ≤ 100000 ∧ o.kp.length ≤ 100000
set_option maxRecDepth 100000 in
set_option maxHeartbeats 4000000 in
theorem eqOpS_same (a c : Option Addr) (cap cap' : Nat) (xs ys : List OpW) (w : World) (hx : LieO w a xs) (hy : LieO w c ys) (hm : xs.map (·.o) = ys.map (·.o)) (hsm : SmO (xs.map (·.o))) :
    Calls Tryz.prog 17 #[.slice a xs.length cap, .slice c ys.length cap'] w fun e w' => e = .returned (.bool true) ∧ Below w.heap.size w w' := by
  obtain ⟨hl, ho⟩ := map_o hm
  have hl2 : xs.length ≤ 2000 := by have := hsm.1; simpa using this
  have HO := hdN ho
  have HSM := hdN hsm
  have HYL := hdN hl
  rw [← hl]
  clear ho hm hl hsm
  go_enter Tryz.func17, Tryz.ntmps17
  go_wp2_with fail
  go_loopw [5] (fun i wr => ∃ k : Nat, k ≤ xs.length ∧ i = .int .i64 k ∧ Below w.heap.size w wr) (fun i _ => xs.length - (intOf i).toNat)
  case atStart => exact ⟨0, Nat.zero_le _, rfl, Below.refl _ _⟩
  case round =>
    obtain ⟨k, hk, rfl, hb⟩ := hrel
    by_cases hlt : k < xs.length
    · have hlt2 : k < ys.length := by rw [← HYL.out]; exact hlt
      obtain ⟨b, off, rfl, hbl, c0, c1, c2, c3, c4, c5⟩ := (hx.below hb).at hlt
      obtain ⟨b', off', rfl, hbl', d0, d1, d2, d3, d4, d5⟩ := (hy.below hb).at hlt2
      obtain ⟨⟨a1, k1, e1, r1⟩, ⟨a2, k2, e2, r2⟩⟩ := (hx.below hb).rows _ (getD_memO hlt)
      obtain ⟨⟨a3, k3, e3, r3⟩, ⟨a4, k4, e4, r4⟩⟩ := (hy.below hb).rows _ (getD_memO hlt2)
      rw [← HO.out k] at d0 d1 d2 d3 e3 e4 r3 r4
      rw [e1] at c4
      rw [e2] at c5
      rw [e3] at d4
      rw [e4] at d5
      have hsz := HSM.out.2 (xs.getD k ow0).o (List.mem_map.2 ⟨_, getD_memO hlt, rfl⟩)
      clear e1 e2 e3 e4
      generalize (xs.getD k ow0).o = o at *
      have HC := hdN (eqOp_same o a1 a3 a2 a4 k1 k3 k2 k4 wr.drew r1 r3 r2 r4 (by omega) (by omega))
      have i1 : (k : Int) < (xs.length : Int) := by omega
      have HB := hdN hb
      clear r1 r2 r3 r4 hb
      go_wp2_with fail
      go_region_law (go_simp; go_at_call 39; refine HC.out.mono ?_; rintro e w1 ⟨rfl, hb1⟩; have hb2 := HB.out.drew.trans (hb1.mono HB.out.size); clear hb1)
      all_goals
        go_wp2_with fail
        exact ⟨⟨k + 1, by omega, by go_num, hb2⟩, by simp [intOf]; omega⟩
    · have i1 : ¬ (k : Int) < (xs.length : Int) := by omega
      go_wp2_with fail
      go_ret
      exact ⟨rfl, hb⟩
set_option maxRecDepth 100000 in
set_option maxHeartbeats 1000000 in
theorem eqScript_same (q : Int) (a c : Option Addr) (cap cap' : Nat) (xs ys : List OpW) (w : World) (hx : LieO w a xs) (hy : LieO w c ys) (hm : xs.map (·.o) = ys.map (·.o)) (hsm : SmO (xs.map (·.o))) :
    Calls Tryz.prog 6 #[.agg #[.int .i64 q, .slice a xs.length cap], .agg #[.int .i64 q, .slice c ys.length cap']] w fun e w' => e = .returned (.bool true) ∧ Below w.heap.size w w' := by
  have HE := hdN (fun (w' : World) (hb : Below w.heap.size w w') => eqOpS_same a c cap cap' xs ys w' (hx.below hb) (hy.below hb) hm hsm)
  have hl2 : xs.length ≤ 2000 := by have := hsm.1; simpa using this
  have hl3 : ys.length ≤ 2000 := by rw [← (map_o hm).1]; exact hl2
  generalize xs.length = n at *
  generalize ys.length = n' at *
  clear hx hy hm hsm
  go_enter Tryz.func6, Tryz.ntmps6
  go_wp2_with fail
  refine (HE.out _ (((Below.refl _ _).alloc (Nat.le_refl _) _).alloc (by simp) _)).mono ?_
  rintro e w1 ⟨rfl, hb1⟩
  have hbw1 : Below w.heap.size w w1 := (((Below.refl _ w).alloc (Nat.le_refl _) _).alloc (by simp) _).trans (hb1.mono (by simp; omega))
  go_wp2_with fail
  go_ret
  exact ⟨rfl, hbw1⟩
end Go.Proofs.YtohpfjpgihcmiaaGreatDoor
