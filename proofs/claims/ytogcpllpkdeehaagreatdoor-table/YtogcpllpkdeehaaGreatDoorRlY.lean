import Derived.Test.YtogcpllpkdeehaaGreatDoorRlX
namespace Go.Proofs.YtogcpllpkdeehaaGreatDoor
open Go.RowKit Go.Maps
set_option linter.unusedVariables false
set_option linter.unusedSimpArgs false

end Go.Proofs.YtogcpllpkdeehaaGreatDoor
namespace Go.Proofs.YtogcpllpkdeehaaGreatDoor
open Go.RowKit Go.Maps Go.Shelf
attribute [local go_sem] Oper.semAt_some
set_option linter.unusedVariables false
set_option linter.unusedSimpArgs false

/-- What a round keeps: what lies below n0, every Framed, and block bs. -/
structure KF (n0 bs : Nat) (W W' : World) : Prop where
  bel : Below n0 W W'
  fr : ∀ (k : Nat) (cs : Array Value) (fz : Nat × Nat), W.heap[k]? = some (.cells cs 65 fz) → W'.heap[k]? = some (.cells cs 65 fz)
  box : W'.heap[bs]? = W.heap[bs]?
theorem KF.refl (n0 bs : Nat) (W : World) : KF n0 bs W W := ⟨Below.refl _ _, fun _ _ _ h => h, rfl⟩
theorem KF.trans {n0 bs : Nat} {A B C : World} (h : KF n0 bs A B) (k : KF n0 bs B C) : KF n0 bs A C := ⟨h.bel.trans k.bel, fun i cs fz hi => k.fr i cs fz (h.fr i cs fz hi), k.box.trans h.box⟩
theorem KF.of {n0 bs : Nat} {W W' : World} (h : Below W.heap.size W W') (hn : n0 ≤ W.heap.size) (hb : bs < W.heap.size) : KF n0 bs W W' :=
  ⟨h.mono hn, fun k cs fz hk => (h.block k (heap_lt hk)).trans hk, h.block bs hb⟩
theorem KF.grown {n0 bs : Nat} {W W' : World} {row : Option Nat} (h : W.grownBy W' row) (h1 : ∀ k, row = some k → n0 ≤ k) (h2 : ∀ k cs fz, row = some k → W.heap[k]? ≠ some (.cells cs 65 fz)) (h3 : ∀ k, row = some k → k ≠ bs) (hn : n0 ≤ W.heap.size) (hb : bs < W.heap.size) : KF n0 bs W W' :=
  ⟨(Below.refl n0 W).grown h hn h1, fun k cs fz hk => (h.block k (heap_lt hk) (fun e => h2 k cs fz e.symm hk)).trans hk, h.block bs hb (fun e => h3 bs e.symm rfl)⟩
theorem KF.store {n0 bs b : Nat} {W : World} {cs : Array Value} {t : TypeId} {fz : Nat × Nat} (h : W.heap[b]? = some (.cells cs t fz)) (ht : t ≠ 65) (hb : n0 ≤ b) (hne : bs ≠ b) (v : Value) : KF n0 bs W (W.setCell ⟨b, 0, none⟩ v) :=
  ⟨(Below.refl n0 W).setCell (p := ⟨b, 0, none⟩) hb v, fun k cs' fz' hk => by
    have hne : k ≠ b := fun e => by subst e; rw [h] at hk; cases hk; exact ht rfl
    rw [Below.heap_setCell _ _ _ _ (by simpa using hne)]
    exact hk, Below.heap_setCell _ _ _ _ (by simpa using hne)⟩
theorem KF.put {n0 bs : Nat} {w : World} (hn : n0 ≤ w.heap.size) (hb : bs < w.heap.size) (W : World) (l : Nat) (o o' : Obj) (hl : w.heap.size ≤ l) (h : W.heap[l]? = some o) (hc : o.isCells = false) (hw : o.isWalk = false) : KF n0 bs W (W.putObj l o') :=
  ⟨belowK_b hn W l o o' hl h hc hw, fun k cs fz hk => by
    have hne : k ≠ l := fun e => by subst e; rw [h] at hk; cases hk; cases hc
    exact (World.putObj_heap_other hne).trans hk, World.putObj_heap_other (by omega)⟩
theorem grown_of_below {w w' : World} (h : Below w.heap.size w w') (row : Option Nat) : w.grownBy w' row := ⟨h.os, h.tape, h.output, h.size, fun k hk _ => h.block k hk⟩

theorem cell_lt {w : World} {a : Addr} {v : Value} (h : w.cell? a = some v) : a.block < w.heap.size := by
  by_cases hlt : a.block < w.heap.size
  · exact hlt
  · have hn : w.heap[a.block]? = none := Array.getElem?_eq_none (by omega)
    simp [World.cell?, hn] at h
theorem cell_of_block {W W' : World} {b o : Nat} (h : W'.heap[b]? = W.heap[b]?) : W'.cell? ⟨b, o, none⟩ = W.cell? ⟨b, o, none⟩ := by simp only [World.cell?, h]
theorem nx_cast (s : ByteArray) (p : Nat) : max ((p : Int) + 1) (rfN (rf s p) : Nat) = ((nx s p : Nat) : Int) := by
  unfold nx
  generalize rfN (rf s p) = m
  omega
theorem Steps.low {n0 : Nat} {w w' : World} (h : Steps w) (hb : Below n0 w w') (hg : 0 < n0) : Steps w' :=
  ⟨Nat.lt_of_lt_of_le h.1 hb.size, fun i hi => (hb.cell (p := ⟨0, i, none⟩) hg).trans (h.2 i hi)⟩

set_option maxRecDepth 100000 in
set_option maxHeartbeats 1000000 in
theorem frames1_in (n : Nat) (hn : 1 ≤ n) (l bs n₀ : Nat) (s : ByteArray) (hs : s.size ≤ 1048576) (J Jx : List Fr → World → Prop) (W0 : World) (hJ : AbidesFrom W0.heap.size J) (Kp : World → World → Prop) (hKp : ∀ A B, Kp A B → KF n₀ bs A B)
    (hY : ∀ pre (x : Fr) W, J pre W → pre.length < (frs s 0).length → YieldAt Fence.wide (n - 1) Tryz.prog l #[rfV x] W fun e W' =>
      (e = .returned (.bool true) ∧ J (pre ++ [x]) W' ∧ Kp W W') ∨ (e = .returned (.bool false) ∧ Jx (pre ++ [x]) W'))
    (hbs : W0.cell? ⟨bs, 0, none⟩ = some (.string s)) (hst : Steps W0) (hg : 0 < n₀) (h0 : J [] W0) :
    CallsIn Fence.wide n Tryz.prog 57 #[.func (.yield l) #[] #[], .pointer (some ⟨bs, 0, none⟩)] W0 fun e W' => (∃ v, e = .returned v) ∧
      ((∃ ys, ys = frs s 0 ∧ J ys W') ∨ (∃ pre, pre <+: frs s 0 ∧ Jx pre W')) := by
  obtain ⟨A, HA⟩ : ∃ A, Hid (frs s 0 = A) := ⟨_, rfl⟩
  rw [HA.out] at hY ⊢
  replace hY := hd hY
  refine callsIn_of_wp Tryz.func57 rfl trivial ?_ rfl
  simp only [Tryz.ntmps57, List.size_toArray, List.length_cons, List.length_nil, Nat.reduceAdd, Nat.reduceSub, Array.replicate_succ, Array.replicate_zero, List.push_toArray, List.append_toArray, List.nil_append, List.cons_append]
  gi_wp2
  gi_loopw [3] (fun r wr => ∃ (pre : List Fr) (p : Nat), r = .int .i64 p ∧ Hid (A = pre ++ frs s p) ∧ p * 64 ≤ s.size + 63 ∧ J pre wr ∧ Steps wr ∧ wr.cell? ⟨bs, 0, none⟩ = some (.string s)) (fun r _ => s.size - (intOf r).toNat)
  case atStart => exact ⟨[], 0, rfl, HA.out.symm, by omega, h0, hst, hbs⟩
  case round =>
    obtain ⟨pre, p, rfl, hfr, hp64, hJr, hsr, hbr⟩ := hrel
    by_cases hp : p * 64 < s.size
    · have hp' : (p : Int) * 64 < s.size := by omega
      have hm := frs_more hp
      have hfr2 : Hid (A = pre ++ rf s p :: frs s (nx s p)) := by show _ = _; rw [← hm]; exact hfr.out
      have hlen : Hid (pre.length < A.length) := by
        show _ < _
        rw [hfr2.out]
        simp
      have hnl : nx s p * 64 ≤ s.size + 63 := nx_le hp
      have hng := nx_gt s p
      have hmx : Hid (max ((p : Int) + 1) (rfN (rf s p) : Nat) = ((nx s p : Nat) : Int)) := nx_cast s p
      have hfr3 : Hid (A = (pre ++ [rf s p]) ++ frs s (nx s p)) := by show _ = _; rw [hfr2.out]; simp
      have HR : Hid (∀ w, Steps w → Calls Tryz.prog 58 #[.string s, .int .i64 p] w fun e w' => e = .returned (.agg #[.bool (rf s p).isSome, .int .i64 (rfK (rf s p) : Nat), .string (rfB (rf s p)), .int .i64 (rfN (rf s p) : Nat)]) ∧ Below w.heap.size w w') := fun w h => by rw [← rfV_eq]; exact implRead_any s p w hs h
      have HM : Hid (s.size - nx s p < s.size - p) := Nat.sub_lt_sub_left (Nat.lt_of_le_of_lt (Nat.le_mul_of_pos_right _ (by decide)) hp) hng
      clear hm hfr
      have hpf : Hid (pre ++ [rf s p] <+: A) := ⟨frs s (nx s p), by rw [hfr2.out]; simp⟩
      generalize rf s p = f at *
      generalize nx s p = q at *
      gi_wp2_with (refine ⟨trivial, ?_⟩; gi_at_call 58; refine (callsIn_wide.2 (HR.out _ hsr)).mono ?_; rintro e w1 ⟨rfl, hb1⟩; obtain ⟨fn, tmps, assign, body, hy, hR⟩ := hY.out pre f (w1.alloc (.cells #[.bool f.isSome, .int .i64 (rfK f : Nat), .string (rfB f), .int .i64 (rfN f : Nat)] 65)) (hJ pre wr _ none hJr (grown_of_below (hb1.alloc hb1.size _) none) (fun r e => by cases e)) hlen.out; rw [rfV_eq] at hy; have hf4 : (w1.alloc (.cells #[.bool f.isSome, .int .i64 (rfK f : Nat), .string (rfB f), .int .i64 (rfN f : Nat)] 65)).heap[w1.heap.size]? = some (.cells #[.bool f.isSome, .int .i64 (rfK f : Nat), .string (rfB f), .int .i64 (rfN f : Nat)] 65 (0, 0)) := World.heap_alloc_new _ _; have HF4 := hd hf4; obtain ⟨⟨x0, x1, x2, x3⟩, -⟩ := four_cells hf4; clear hf4)
      have hsW : Steps (w1.alloc (.cells #[.bool f.isSome, .int .i64 (rfK f : Nat), .string (rfB f), .int .i64 (rfN f : Nat)] 65)) := hsr.below (hb1.alloc hb1.size _)
      have hcW : (w1.alloc (.cells #[.bool f.isSome, .int .i64 (rfK f : Nat), .string (rfB f), .int .i64 (rfN f : Nat)] 65)).cell? ⟨bs, 0, none⟩ = some (.string s) := ((hb1.alloc hb1.size _).cell (p := ⟨bs, 0, none⟩) (cell_lt hbr)).trans hbr
      replace hsW := hd hsW
      replace hcW := hd hcW
      refine hR.mono ?_
      rintro e W3 (⟨rfl, hJ3, hk3⟩ | ⟨rfl, hJx3⟩)
      · have hF := hKp _ _ hk3
        have hs3 : Hid (Steps W3) := hsW.out.low hF.bel hg
        have hc3 : Hid (W3.cell? ⟨bs, 0, none⟩ = some (.string s)) := (cell_of_block hF.box).trans hcW.out
        have hf3 := hF.fr _ _ _ HF4.out
        obtain ⟨⟨y0, y1, y2, y3⟩, -⟩ := four_cells hf3
        clear x0 x1 x2 x3 hf3 hb1
        gi_wp2
        rw [hmx.out]
        refine ⟨⟨pre ++ [f], q, rfl, hfr3, hnl, hJ3, hs3.out, hc3.out⟩, ?_⟩
        simp only [intOf, Int.toNat_natCast]
        exact HM.out
      · gi_wp2
        refine bodyPost_ret (results_none rfl _ _ _) rfl ?_
        exact ⟨⟨_, rfl⟩, .inr ⟨_, hpf.out, hJx3⟩⟩
    · have hp' : ¬ (p : Int) * 64 < s.size := by omega
      have hAe : A = pre := by rw [hfr.out, frs_end hp, List.append_nil]
      subst hAe
      gi_wp2
      go_end0
      first | exact ⟨⟨_, rfl⟩, .inl hJr⟩ | exact ⟨⟨_, rfl⟩, .inl ⟨_, rfl, hJr⟩⟩

/-- frames: the function value that yields them. -/
theorem frames_in (F : Fence) (n : Nat) (h5 : F.fn 32) (hro : F.round = none) (s : ByteArray) (w : World) :
    CallsIn F n Tryz.prog 32 #[.string s] w fun e w' => e = .returned (.func (.func 57) #[] #[.pointer (some ⟨w.heap.size, 0, none⟩)]) ∧ w' = w.alloc (.cells #[.string s] 9) := by
  refine callsIn_of_wp Tryz.func32 rfl h5 ?_ hro
  simp only [Tryz.ntmps32, List.size_toArray, List.length_cons, List.length_nil, Nat.reduceAdd, Nat.reduceSub, Array.replicate_succ, Array.replicate_zero, List.push_toArray, List.append_toArray, List.nil_append, List.cons_append]
  gi_wp2
  go_ret
  exact ⟨rfl, rfl⟩

theorem frames_stops (n : Nat) (hn : 1 ≤ n) (bs n₀ : Nat) (s : ByteArray) (hs : s.size ≤ 1048576) (w : World) (hbs : bs < w.heap.size)
    (hcs : w.cell? ⟨bs, 0, none⟩ = some (.string s)) (hst : Steps w) (hg : 0 < n₀) :
    SeqStopsK Fence.wide n Tryz.prog 57 #[.pointer (some ⟨bs, 0, none⟩)] (fun x : Fr => #[rfV x]) (KF n₀ bs) (fun ys => ys = frs s 0) (fun pre => pre <+: frs s 0) (frs s 0).length w := fun l J Jx W hW hJ _ hY h0 =>
  frames1_in n hn l bs n₀ s hs J Jx W hJ (KF n₀ bs) (fun _ _ h => h) hY ((hW.cell (p := ⟨bs, 0, none⟩) hbs).trans hcs) (hst.below hW) hg h0
end Go.Proofs.YtogcpllpkdeehaaGreatDoor
