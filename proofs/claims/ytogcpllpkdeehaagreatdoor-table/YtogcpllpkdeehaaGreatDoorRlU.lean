import Derived.Test.YtogcpllpkdeehaaGreatDoorRlW
namespace Go.Proofs.YtogcpllpkdeehaaGreatDoor
open Go.RowKit Go.Maps Go.Shelf
attribute [local go_sem] Oper.semAt_some
set_option linter.unusedVariables false
set_option linter.unusedSimpArgs false

/-- Block k is not the row of the slice in box fb. -/
def Fg (fb : Nat) (W : World) (k : Nat) : Prop := ∀ v, W.cell? ⟨fb, 0, none⟩ = some v → v.ownBlock ≠ some k
/-- What a round of Salvage keeps. -/
structure KO (n0 l0 fb bk : Nat) (W W' : World) : Prop where
  bel : Below n0 W W'
  fr : ∀ (k : Nat) (cs : Array Value) (fz : Nat × Nat), W.heap[k]? = some (.cells cs 65 fz) → W'.heap[k]? = some (.cells cs 65 fz)
  kb : W'.heap[bk]? = W.heap[bk]?
  oth : ∀ (k : Nat) (o : Obj), l0 < k → W.heap[k]? = some o → o.isCells = false → W'.heap[k]? = some o
  fgn : ∀ k, k < W.heap.size → l0 < k → Fg fb W k → W'.heap[k]? = W.heap[k]? ∧ Fg fb W' k
theorem KO.trans {n0 l0 fb bk : Nat} {A B C : World} (h : KO n0 l0 fb bk A B) (g : KO n0 l0 fb bk B C) : KO n0 l0 fb bk A C :=
  ⟨h.bel.trans g.bel, fun k cs fz hk => g.fr k cs fz (h.fr k cs fz hk), g.kb.trans h.kb, fun k o hl hk ho => g.oth k o hl (h.oth k o hl hk ho) ho, fun k hk hl hf =>
    let ⟨h1, h2⟩ := h.fgn k hk hl hf
    let ⟨g1, g2⟩ := g.fgn k (Nat.lt_of_lt_of_le hk h.bel.size) hl h2
    ⟨g1.trans h1, g2⟩⟩
theorem round_any {m m' l1 : Nat} {P : Program} {l : Nat} {f : FuncId} {tmps : Array Value} {assign body : Code} {w : World} {R : Ending → World → Prop} (h : RoundIn Fence.wide m P l f tmps assign body w R) : RoundIn (Fence.wide.inRound l1) m' P l f tmps assign body w R :=
  ⟨h.1, fun c cs _ => h.2 c cs (room_wide _)⟩

/-- Between two rounds of payloads. -/
def PyI (J : List ByteArray → World → Prop) (b0 bk fb l0 : Nat) (k : Int) (pre : List Fr) (W : World) : Prop :=
  J ((pre.filter (gd k)).map rfB) W ∧ W.heap[b0]? = some (.cells #[.func (.yield l0) #[] #[]] 90 (0, 0)) ∧ W.heap[bk]? = some (.cells #[.int .i64 k] 3 (0, 0)) ∧ W.heap[b0 + 1]?.isSome = true ∧ Fg fb W b0 ∧ Fg fb W (b0 + 1)
theorem some_lt {W : World} {b : Nat} (h : W.heap[b]?.isSome = true) : b < W.heap.size := by
  by_cases hlt : b < W.heap.size
  · exact hlt
  · rw [Array.getElem?_eq_none (by omega)] at h; cases h
theorem fg_kept {fb k B : Nat} {W W' : World} {row : Option Nat} (h : Fg fb W k) (hg : W.grownBy W' row) (hf : fb < B) (hB : B ≤ W.heap.size) (hr : ∀ r, row = some r → B ≤ r) : Fg fb W' k := by
  intro v hv
  have e : W'.heap[fb]? = W.heap[fb]? := hg.block fb (by omega) (fun e => by have := hr fb e.symm; omega)
  exact h v ((cell_of_block e).symm.trans hv)
theorem pyI_own {J : List ByteArray → World → Prop} {b0 bk fb l0 B B0 : Nat} {k : Int} (hJ : OwnFrom B0 J) (hB : B0 ≤ B) (hf : fb < b0) (hb : b0 + 2 ≤ B) : OwnFrom B (PyI J b0 bk fb l0 k) := by
  rintro pre W W' row ⟨h1, h2, h3, h4, h5, h6⟩ hg hr
  have hkept := kept_of hg (fun r e => (hr r e).2)
  have hlt : b0 < W.heap.size := heap_lt h2
  have h4' : b0 + 1 < W.heap.size := by
    by_cases hlt : b0 + 1 < W.heap.size
    · exact hlt
    · rw [Array.getElem?_eq_none (by omega)] at h4; cases h4
  refine ⟨hJ _ _ _ _ h1 hg (fun r e => ⟨Nat.le_trans hB (hr r e).1, (hr r e).2⟩), hkept _ _ h2 rfl, hkept _ _ h3 rfl, ?_, fg_kept (B := b0 + 1) h5 hg (by omega) (by omega) (fun r e => by have := (hr r e).1; omega), fg_kept (B := b0 + 1) h6 hg (by omega) (by omega) (fun r e => by have := (hr r e).1; omega)⟩
  rw [hg.block _ h4' (fun e => by have := (hr _ e.symm).1; omega)]
  exact h4

set_option maxRecDepth 100000 in
set_option maxHeartbeats 2000000 in
theorem pays1_in (n : Nat) (hn : 3 ≤ n) (l0 bs bk fb n₀ B0 N : Nat) (s : ByteArray) (k : Int) (hs : s.size ≤ 1048576) (J : List ByteArray → World → Prop) (W0 : World) (hJ : OwnFrom B0 J) (hB0 : B0 ≤ W0.heap.size) (hl0 : l0 < B0) (hN : (frs s 0).length ≤ N)
    (hY : ∀ pre (x : ByteArray) W, J pre W → pre.length < N → YieldAt Fence.wide (n - 1) Tryz.prog l0 #[.string x] W fun e W' => e = .returned (.bool true) ∧ J (pre ++ [x]) W' ∧ KO n₀ l0 fb bk W W')
    (hbs : W0.cell? ⟨bs, 0, none⟩ = some (.string s)) (hbk : W0.heap[bk]? = some (.cells #[.int .i64 k] 3 (0, 0))) (hst : Steps W0) (hg : 0 < n₀) (hn0 : n₀ ≤ W0.heap.size) (hfb : fb < W0.heap.size) (hf0 : ∀ v j, W0.cell? ⟨fb, 0, none⟩ = some v → v.ownBlock = some j → j < W0.heap.size) (h0 : J [] W0) :
    CallsIn Fence.wide n Tryz.prog 59 #[.func (.yield l0) #[] #[], .pointer (some ⟨bs, 0, none⟩), .pointer (some ⟨bk, 0, none⟩)] W0 fun e W' => (∃ v, e = .returned v) ∧ ∃ ys, ys = svL s k ∧ J ys W' := by
  have HSV : Hid (svL s k = ((frs s 0).filter (gd k)).map rfB) := rfl
  generalize svL s k = SV at *
  refine callsIn_of_wp_marks Tryz.func59 rfl trivial ?_ rfl
  simp only [Tryz.ntmps59, List.size_toArray, List.length_cons, List.length_nil, Nat.reduceAdd, Nat.reduceSub, Array.replicate_succ, Array.replicate_zero, List.push_toArray, List.append_toArray, List.nil_append, List.cons_append]
  replace hY := hd hY
  have h1n : 1 ≤ n := by omega
  have h2n : 1 ≤ n - 1 - 1 := by omega
  have hbs1 : (W0.alloc (.cells #[.func (.yield l0) #[] #[]] 90)).cell? ⟨bs, 0, none⟩ = some (.string s) := (((Below.refl W0.heap.size W0).alloc (Nat.le_refl _) _).cell (p := ⟨bs, 0, none⟩) (cell_lt hbs)).trans hbs
  gi_wp2_with (refine ⟨trivial, ?_⟩; gi_at_call 32; refine (frames_in _ _ trivial rfl _ _).mono ?_; rintro e w' ⟨rfl, rfl⟩)
  have hbW : Below W0.heap.size W0 ((W0.alloc (.cells #[.func (.yield l0) #[] #[]] 90)).alloc (.cells #[.string s] 9)) := ((Below.refl _ _).alloc (Nat.le_refl _) _).alloc (by simp) _
  have hy0 : ((W0.alloc (.cells #[.func (.yield l0) #[] #[]] 90)).alloc (.cells #[.string s] 9)).heap[W0.heap.size]? = some (.cells #[.func (.yield l0) #[] #[]] 90 (0, 0)) := by
    rw [Below.heap_alloc _ _ _ (by simp)]
    exact alloc_at _ _ _ rfl
  have hs1 : ((W0.alloc (.cells #[.func (.yield l0) #[] #[]] 90)).alloc (.cells #[.string s] 9)).heap[W0.heap.size + 1]? = some (.cells #[.string s] 9 (0, 0)) := alloc_at _ _ _ (by simp)
  have hsz : ((W0.alloc (.cells #[.func (.yield l0) #[] #[]] 90)).alloc (.cells #[.string s] 9)).heap.size = W0.heap.size + 2 := by simp
  generalize ((W0.alloc (.cells #[.func (.yield l0) #[] #[]] 90)).alloc (.cells #[.string s] 9)) = Wb at *
  have hfW : Wb.cell? ⟨fb, 0, none⟩ = W0.cell? ⟨fb, 0, none⟩ := cell_of_block (hbW.block fb hfb)
  have hI0 : PyI J W0.heap.size bk fb l0 k [] Wb := ⟨hJ _ _ _ none h0 (grown_of_below hbW none) (fun r e => by cases e), hy0, (hbW.block bk (heap_lt hbk)).trans hbk, by rw [hs1]; rfl,
    fun v hv e => by rw [hfW] at hv; exact Nat.lt_irrefl _ (hf0 v _ hv e), fun v hv e => by rw [hfW] at hv; have := hf0 v _ hv e; omega⟩
  refine wpIn_rangeFunc_ownH rfl (by omega) (gf := 57) (lb := #[.pointer (some ⟨W0.heap.size + 1, 0, none⟩)]) rfl trivial (enters_of Tryz.func57 (by kernel_rfl) rfl)
    (frames_stops _ (by omega) (W0.heap.size + 1) n₀ s hs Wb (by omega) (one_cell hs1).1 (hst.below hbW) hg) KF.trans (KF.put (by omega) (by omega)) (Below.refl _ _) (fun _ => rfl)
    (PyI J W0.heap.size bk fb l0 k) (fun _ _ _ => False) (pyI_own hJ (by omega) hfb (by omega)) (fun _ _ _ _ _ hs _ _ => hs) hI0
    (fun x a' W => ∃ Bx, W.heap[Bx]? = some (.cells #[.bool x.isSome, .int .i64 (rfK x : Nat), .string (rfB x), .int .i64 (rfN x : Nat)] 65 (0, 0)) ∧ a' = { tmps := #[.func (.yield l0) #[] #[], .pointer (some ⟨bs, 0, none⟩), .pointer (some ⟨bk, 0, none⟩), .pointer (some ⟨W0.heap.size, 0, none⟩), .pointer (some ⟨Bx, 0, none⟩), .string s, .func (.func 57) #[] #[.pointer (some ⟨W0.heap.size + 1, 0, none⟩)], .agg #[.bool x.isSome, .int .i64 (rfK x : Nat), .string (rfB x), .int .i64 (rfN x : Nat)], undef, undef, undef, undef, undef, undef, undef, undef, undef, undef, undef, undef, undef, undef, undef], defers := [] })
    ?ax ?assign ?body ?done ?stop
  case ax =>
    intro x a'
    refine Own.from (fun _ A B' row hs hg hr => ?_) _
    obtain ⟨Bx, h1, h2⟩ := hs
    exact ⟨Bx, kept_of hg hr _ _ h1 rfl, h2⟩
  case assign =>
    rintro l pre x W K hI hK
    have hxe := rfV_eq x
    have hlt1 : W0.heap.size + 1 < W.heap.size := some_lt hI.2.2.2.1
    gi_wp2
    have hb1 : Below W.heap.size W (W.alloc (.cells #[.bool x.isSome, .int .i64 (rfK x : Nat), .string (rfB x), .int .i64 (rfN x : Nat)] 65)) := (Below.refl _ _).alloc (Nat.le_refl _) _
    exact hK _ _ ((KeepsOthers.alloc _ _).from _) (KF.of hb1 (by omega) hlt1) (pyI_own (B := W0.heap.size + 2) hJ (by omega) hfb (Nat.le_refl _) pre W _ none hI (grown_of_below hb1 none) (fun r e => by cases e)) ⟨W.heap.size, World.heap_alloc_new _ _, rfl⟩
  case body =>
    rintro l pre x a' W hl ⟨r, hr⟩ ⟨hJ1, hy1, hk1, h41, hf1, hf2⟩ ⟨Bx, hX, rfl⟩ hlt
    obtain ⟨⟨x0, x1, x2, x3⟩, -⟩ := four_cells hX
    obtain ⟨k0, -⟩ := one_cell hk1
    obtain ⟨y0, -⟩ := one_cell hy1
    have hlt1 : W0.heap.size + 1 < W.heap.size := some_lt h41
    have HJ1 : Hid (J ((pre.filter (gd k)).map rfB) W) := hJ1
    have HN : Hid (((pre.filter (gd k)).map rfB).length < N) := by
      show _ < _
      rw [List.length_map]
      exact Nat.lt_of_le_of_lt (List.length_filter_le _ _) (Nat.lt_of_lt_of_le hlt hN)
    have HP : Hid (PyI J W0.heap.size bk fb l0 k pre W) := ⟨hJ1, hy1, hk1, h41, hf1, hf2⟩
    clear hX hk1 hy1 h41 hJ1
    cases hok : x.isSome with
    | false =>
      have hgd : gd k x = false := by unfold gd; rw [hok]; rfl
      have HF : Hid (((pre ++ [x]).filter (gd k)).map rfB = (pre.filter (gd k)).map rfB) := by show _ = _; rw [List.filter_append]; simp [hgd]
      clear hgd
      rw [hok] at x0
      gi_wp2_with fail
      refine ⟨fun _ h => (by cases h), ?_⟩
      gi_wp2
      exact ⟨KeepsFrom.refl _ _, KF.refl _ _ _, by unfold PyI; rw [HF.out]; exact HP.out⟩
    | true =>
      rw [hok] at x0
      by_cases hk : ((rfK x : Nat) : Int) = k
      · have hne : (((rfK x : Nat) : Int) == k) = true := by rw [hk]; simp
        have hgd : gd k x = true := by unfold gd; rw [hok, hk]; simp
        have HF : Hid (((pre ++ [x]).filter (gd k)).map rfB = (pre.filter (gd k)).map rfB ++ [rfB x]) := by show _ = _; rw [List.filter_append]; simp [hgd]
        clear hgd
        have hk' := hd hk
        clear hk
        obtain ⟨fn, tmps, assign, body, hy, hR⟩ := hY.out _ (rfB x) W HJ1.out HN.out
        gi_wp2_with fail
        refine (round_any hR).mono ?_
        rintro e W3 ⟨rfl, hJ3, hk3⟩
        have HW3 : Hid (PyI J W0.heap.size bk fb l0 k (pre ++ [x]) W3) := by
          obtain ⟨p1, p2, p3, p4, p5, p6⟩ := HP.out
          have q1 := hk3.fgn _ (by omega) (by omega) hf1
          have q2 := hk3.fgn _ hlt1 (by omega) hf2
          refine ⟨by rw [HF.out]; exact hJ3, q1.1.trans p2, hk3.kb.trans p3, by rw [q2.1]; exact p4, q1.2, q2.2⟩
        have HKF : Hid (KF n₀ (W0.heap.size + 1) W W3) := ⟨hk3.bel, hk3.fr, (hk3.fgn _ hlt1 (by omega) hf2).1⟩
        have HKO : Hid (KeepsFrom Wb.heap.size W W3) := ⟨hk3.bel.size, fun j o hB hj ho => hk3.oth j o (by omega) hj ho⟩
        gi_wp2
        exact ⟨HKO.out, HKF.out, HW3.out⟩
      · have hne : (((rfK x : Nat) : Int) == k) = false := by rw [beq_eq_false_iff_ne]; exact hk
        have hgd : gd k x = false := by unfold gd; rw [hok, hne]; rfl
        have HF : Hid (((pre ++ [x]).filter (gd k)).map rfB = (pre.filter (gd k)).map rfB) := by show _ = _; rw [List.filter_append]; simp [hgd]
        clear hgd
        have hk' := hd hk
        clear hk
        gi_wp2_with fail
        refine ⟨fun _ h => (by cases h), ?_⟩
        gi_wp2
        exact ⟨KeepsFrom.refl _ _, KF.refl _ _ _, by unfold PyI; rw [HF.out]; exact HP.out⟩
  case done =>
    rintro D ys W hD rfl hI hK
    gi_wp2
    refine ⟨by simp, .inl ⟨_, _, rfl, run_takeDeferred hK, ?_⟩⟩
    exact ⟨_, results_none rfl _ _ _, ⟨_, rfl⟩, _, HSV.out.symm, hJ _ _ _ (some D) hI.1 (grownBy_putObj' W D (.deferred none)) (fun r e => by cases e; exact ⟨by omega, _, hK, rfl⟩)⟩
  case stop =>
    rintro D c pre W _ _ h _
    exact h.elim
end Go.Proofs.YtogcpllpkdeehaaGreatDoor
namespace Go.Proofs.YtogcpllpkdeehaaGreatDoor
open Go.RowKit Go.Maps Go.Shelf
attribute [local go_sem] Oper.semAt_some
set_option linter.unusedVariables false
set_option linter.unusedSimpArgs false

theorem payloads_in (F : Fence) (n : Nat) (h5 : F.fn 33) (hro : F.round = none) (s : ByteArray) (k : Int) (w : World) :
    CallsIn F n Tryz.prog 33 #[.string s, .int .i64 k] w fun e w' => e = .returned (.func (.func 59) #[] #[.pointer (some ⟨w.heap.size, 0, none⟩), .pointer (some ⟨w.heap.size + 1, 0, none⟩)]) ∧ w' = (w.alloc (.cells #[.string s] 9)).alloc (.cells #[.int .i64 k] 3) := by
  refine callsIn_of_wp Tryz.func33 rfl h5 ?_ hro
  simp only [Tryz.ntmps33, List.size_toArray, List.length_cons, List.length_nil, Nat.reduceAdd, Nat.reduceSub, Array.replicate_succ, Array.replicate_zero, List.push_toArray, List.append_toArray, List.nil_append, List.cons_append]
  gi_wp2
  go_ret
  exact ⟨rfl, rfl⟩

/-- The boxes of Salvage. -/
structure SvB (n0 : Nat) (k : Int) (pre : List ByteArray) (v : Value) (W : World) : Prop where
  hv : W.heap[n0 + 1]? = some (.cells #[v] 29 (0, 0))
  hk : W.heap[n0 + 3]? = some (.cells #[.int .i64 k] 3 (0, 0))
  hrow : W.ownsRow n0 9 1 v pre.length (strL pre)
theorem SvB.blocks {n0 : Nat} {k : Int} {pre : List ByteArray} {v : Value} {W W' : World} (h : SvB n0 k pre v W) (hb : ∀ (g : Nat) (o : Obj), W.heap[g]? = some o → o.isCells = true → W'.heap[g]? = some o) : SvB n0 k pre v W' :=
  ⟨hb _ _ h.hv rfl, hb _ _ h.hk rfl, owns_blocks h.hrow hb⟩
def SvI (n0 : Nat) (k : Int) (w : World) (pre : List ByteArray) (W : World) : Prop := (∃ v, SvB n0 k pre v W) ∧ Below n0 w W
theorem svI_own (n0 : Nat) (k : Int) (B : Nat) (w : World) (hn : n0 ≤ w.heap.size) (hB : n0 ≤ B) : OwnFrom B (SvI n0 k w) :=
  OwnFrom.and (Own.from (fun _ A B' row hs hg hr => hs.imp fun v h => h.blocks (kept_of hg hr)) _) (ownFrom_below hn hB)
theorem KO.put {n0 l0 fb bk : Nat} (h1 : n0 ≤ l0) (h2 : fb < l0) (h3 : bk < l0) (W : World) (r r' : Loop) (h : W.heap[l0]? = some (.loop r)) : KO n0 l0 fb bk W (W.putObj l0 (.loop r')) := by
  refine ⟨?_, fun k cs fz hk => ?_, World.putObj_heap_other (by omega), fun k o hl hk _ => (World.putObj_heap_other (by omega)).trans hk, fun k hk hl hf => ⟨World.putObj_heap_other (by omega), fun v hv => hf v ?_⟩⟩
  · exact (Below.refl n0 W).grown (grownBy_putObj' W l0 _) (Nat.le_trans h1 (Nat.le_of_lt (heap_lt h))) (fun k e => by cases e; exact h1)
  · have hne : k ≠ l0 := fun e => by subst e; rw [h] at hk; cases hk
    exact (World.putObj_heap_other hne).trans hk
  · exact (cell_of_block (World.putObj_heap_other (by omega))).symm.trans hv
theorem owns_ne {W : World} {B n b : Nat} {v : Value} {xs : List Value} (h : W.ownsRow B 9 1 v n xs) {cs : Array Value} {t : TypeId} {fz : Nat × Nat} (hb : W.heap[b]? = some (.cells cs t fz)) (ht : t ≠ 9) : some b ≠ v.ownBlock := by
  obtain ⟨-, h2⟩ := h
  intro e
  rcases h2 with ⟨rfl, -⟩ | ⟨g, cap, cur, rfl, hg, hbk, -⟩
  · cases e
  · cases e
    rw [hb] at hbk
    cases hbk
    exact ht rfl
theorem owns_cells {W : World} {B n j : Nat} {v : Value} {xs : List Value} (h : W.ownsRow B 9 1 v n xs) (e : v.ownBlock = some j) : ∃ cs, W.heap[j]? = some (.cells cs 9 (0, 0)) := by
  obtain ⟨-, h2⟩ := h
  rcases h2 with ⟨rfl, -⟩ | ⟨g, cap, cur, rfl, hg, hbk, -⟩
  · cases e
  · cases e
    exact ⟨_, hbk⟩
/-- Behind an append and the store of its answer. -/
theorem SvB.app {n0 : Nat} {k : Int} {pre : List ByteArray} {x : ByteArray} {v v' : Value} {W w1 : World} {o : Obj} (h : SvB n0 k pre v W) (hg : (W.alloc o).grownBy w1 v.ownBlock) (hrow : w1.ownsRow n0 9 1 v' (pre.length + 1) (strL pre ++ [.string x]))
    (hat : v'.ownBlock = v.ownBlock ∨ v'.ownBlock = some (W.alloc o).heap.size) : (∃ cs, w1.heap[n0 + 1]? = some (.cells #[cs] 29 (0, 0))) ∧ SvB n0 k (pre ++ [x]) v' (w1.setCell ⟨n0 + 1, 0, none⟩ v') ∧ KO n0 (n0 + 5) (n0 + 1) (n0 + 3) W (w1.setCell ⟨n0 + 1, 0, none⟩ v') ∧ KeepsOthers W (w1.setCell ⟨n0 + 1, 0, none⟩ v') := by
  have hb : Below W.heap.size W (W.alloc o) := (Below.refl _ _).alloc (Nat.le_refl _) _
  have hl : ∀ b, b < W.heap.size → b < (W.alloc o).heap.size := fun b hb => by simp; omega
  have hsz : (W.alloc o).heap.size = W.heap.size + 1 := by simp
  have hvl := heap_lt h.hv
  have hkl := heap_lt h.hk
  have e1 : w1.heap[n0 + 1]? = some (.cells #[v] 29 (0, 0)) := ((hg.block _ (hl _ hvl) (owns_ne h.hrow h.hv (by decide))).trans (hb.block _ hvl)).trans h.hv
  have e3 : w1.heap[n0 + 3]? = some (.cells #[.int .i64 k] 3 (0, 0)) := ((hg.block _ (hl _ hkl) (owns_ne h.hrow h.hk (by decide))).trans (hb.block _ hkl)).trans h.hk
  have f1 : (w1.setCell ⟨n0 + 1, 0, none⟩ v').heap[n0 + 1]? = some (.cells #[v'] 29 (0, 0)) := by rw [heap_setCell_same _ _ _ _ _ _ e1]; rfl
  have f3 : (w1.setCell ⟨n0 + 1, 0, none⟩ v').heap[n0 + 3]? = some (.cells #[.int .i64 k] 3 (0, 0)) := (Below.heap_setCell _ _ _ _ (by simp)).trans e3
  have hko : KeepsOthers W (w1.setCell ⟨n0 + 1, 0, none⟩ v') := ((KeepsOthers.alloc _ _).trans (KeepsOthers.of_grownBy hg (fun j o' e hj => by
    obtain ⟨cs, hc⟩ := owns_cells h.hrow e
    rw [hb.block j (heap_lt hc), hc] at hj
    cases hj
    rfl))).trans (KeepsOthers.setCell _ _ _)
  refine ⟨⟨v, e1⟩, ⟨f1, f3, ?_⟩, ⟨?_, fun j cs fz hj => ?_, f3.trans h.hk.symm, fun j o' _ hj ho => hko.same j o' hj ho, fun j hj hlj hf => ?_⟩, hko⟩
  · rw [List.length_append, strL_snoc]
    exact owns_store hrow e1 (by decide) v'
  · exact (((hb.mono (by omega)).grown hg (by omega) (owns_base h.hrow))).setCell (p := ⟨n0 + 1, 0, none⟩) (by simp) v'
  · have hjl := heap_lt hj
    have hne : j ≠ n0 + 1 := fun e => by subst e; rw [h.hv] at hj; cases hj
    rw [Below.heap_setCell _ _ _ _ (by simpa using hne)]
    exact ((hg.block _ (hl _ hjl) (owns_ne h.hrow hj (by decide))).trans (hb.block _ hjl)).trans hj
  · have hne : j ≠ n0 + 1 := by omega
    have hv0 := hf v (one_cell h.hv).1
    refine ⟨?_, fun u hu => ?_⟩
    · rw [Below.heap_setCell _ _ _ _ (by simpa using hne)]
      exact (hg.block _ (hl _ hj) (fun e => hv0 e.symm)).trans (hb.block _ hj)
    · rw [(one_cell f1).1] at hu
      cases hu
      rcases hat with e | e
      · rw [e]; exact hv0
      · rw [e, hsz]
        intro e2
        cases e2
        omega

set_option maxRecDepth 100000 in
set_option maxHeartbeats 2000000 in
theorem implSalv_any (s : ByteArray) (k : Int) (w : World) (hs : s.size ≤ 1048576) (ht : Steps w) :
    Calls Tryz.prog 9 #[.string s, .int .i64 k] w fun e w' => ∃ a cap, e = .returned (.slice a (svL s k).length cap) ∧ ResS w' w.heap.size a (svL s k) ∧ Below w.heap.size w w' := by
  obtain ⟨i0, hi, hz0, hz1, hz2⟩ := info_parts str_info
  have hFL := frs_len s s.size 0 (by omega)
  have hglt := ht.1
  refine (callsIn_wide (n := 6)).1 ?_
  refine callsIn_of_wp_marks Tryz.func9 rfl trivial ?_ rfl
  simp only [Tryz.ntmps9, List.size_toArray, List.length_cons, List.length_nil, Nat.reduceAdd, Nat.reduceSub, Array.replicate_succ, Array.replicate_zero, List.push_toArray, List.append_toArray, List.nil_append, List.cons_append]
  gi_wp2_with (refine ⟨trivial, ?_⟩; gi_at_call 33; refine (payloads_in _ _ trivial rfl _ _ _).mono ?_; rintro e w' ⟨rfl, rfl⟩)
  have hnew : SvB w.heap.size k [] (.slice (some ⟨w.heap.size, 0, none⟩) 0 0) ((((w.alloc (.cells #[] 9)).alloc (.cells #[.slice (some ⟨w.heap.size, 0, none⟩) 0 0] 29)).alloc (.cells #[.string s] 9)).alloc (.cells #[.int .i64 k] 3)) := by
    refine ⟨?_, alloc_at _ _ _ (by simp), ⟨rfl, .inr ⟨w.heap.size, 0, #[], rfl, Nat.le_refl _, ?_, Nat.le_refl _, Nat.zero_le _, rfl, rfl⟩⟩⟩
    · rw [Below.heap_alloc _ _ _ (by simp <;> omega), Below.heap_alloc _ _ _ (by simp)]
      exact alloc_at _ _ _ (by simp)
    · rw [Below.heap_alloc _ _ _ (by simp <;> omega), Below.heap_alloc _ _ _ (by simp <;> omega), Below.heap_alloc _ _ _ (by simp)]
      exact alloc_at _ _ _ rfl
  have hcs : ((((w.alloc (.cells #[] 9)).alloc (.cells #[.slice (some ⟨w.heap.size, 0, none⟩) 0 0] 29)).alloc (.cells #[.string s] 9)).alloc (.cells #[.int .i64 k] 3)).cell? ⟨w.heap.size + 2, 0, none⟩ = some (.string s) := by
    have h : ((((w.alloc (.cells #[] 9)).alloc (.cells #[.slice (some ⟨w.heap.size, 0, none⟩) 0 0] 29)).alloc (.cells #[.string s] 9)).alloc (.cells #[.int .i64 k] 3)).heap[w.heap.size + 2]? = some (.cells #[.string s] 9 (0, 0)) := by
      rw [Below.heap_alloc _ _ _ (by simp)]
      exact alloc_at _ _ _ (by simp)
    exact (one_cell h).1
  have hsz : ((((w.alloc (.cells #[] 9)).alloc (.cells #[.slice (some ⟨w.heap.size, 0, none⟩) 0 0] 29)).alloc (.cells #[.string s] 9)).alloc (.cells #[.int .i64 k] 3)).heap.size = w.heap.size + 4 := by simp
  have hbel : Below w.heap.size w ((((w.alloc (.cells #[] 9)).alloc (.cells #[.slice (some ⟨w.heap.size, 0, none⟩) 0 0] 29)).alloc (.cells #[.string s] 9)).alloc (.cells #[.int .i64 k] 3)) := ((((Below.refl _ _).alloc (by simp) _).alloc (by simp <;> omega) _).alloc (by simp <;> omega) _).alloc (by simp <;> omega) _
  generalize ((((w.alloc (.cells #[] 9)).alloc (.cells #[.slice (some ⟨w.heap.size, 0, none⟩) 0 0] 29)).alloc (.cells #[.string s] 9)).alloc (.cells #[.int .i64 k] 3)) = Wl at *
  have hstl := ht.below hbel
  refine loop_whole (gf := 59) (lb := #[.pointer (some ⟨w.heap.size + 2, 0, none⟩), .pointer (some ⟨w.heap.size + 3, 0, none⟩)]) rfl (enters_of Tryz.func59 (by kernel_rfl) rfl) (fun x : ByteArray => #[.string x]) (fun _ => rfl) (KO w.heap.size (Wl.heap.size + 1) (w.heap.size + 1) (w.heap.size + 3)) (fun ys => ys = svL s k) s.size KO.trans (KO.put (by omega) (by omega) (by omega)) ?seq (SvI w.heap.size k w) (svI_own _ _ _ _ (Nat.le_refl _) (by omega)) ⟨⟨_, hnew⟩, hbel⟩
    (fun x => { tmps := #[.string s, .int .i64 k, undef, undef, .slice none 0 0, .pointer (some ⟨w.heap.size + 1, 0, none⟩), .string x, .slice (some ⟨w.heap.size, 0, none⟩) 0 0, .string s, .int .i64 k, .func (.func 59) #[] #[.pointer (some ⟨w.heap.size + 1 + 1, 0, none⟩), .pointer (some ⟨w.heap.size + 1 + 1 + 1, 0, none⟩)], .string x, undef, undef, undef, undef, undef], defers := [] })
    ?assign ?body ?done
  case seq =>
    intro J W1 hz1 hb1 hOwn hY h0
    have hfb : W1.heap[w.heap.size + 1]? = some (.cells #[.slice (some ⟨w.heap.size, 0, none⟩) 0 0] 29 (0, 0)) := (hb1.block _ (by omega)).trans hnew.hv
    exact pays1_in _ (by omega) (Wl.heap.size + 1) (w.heap.size + 2) (w.heap.size + 3) (w.heap.size + 1) w.heap.size (Wl.heap.size + 2) s.size s k hs J W1 hOwn (by omega) (by omega) hFL hY ((hb1.cell (p := ⟨w.heap.size + 2, 0, none⟩) (by show w.heap.size + 2 < _; omega)).trans hcs) ((hb1.block _ (by omega)).trans hnew.hk) (hstl.below hb1) hglt (by omega) (by omega) (fun v j hv e => by rw [(one_cell hfb).1] at hv; cases hv; cases e; show w.heap.size < _; omega) h0
  case assign =>
    intro x W K hK
    gi_wp2
    exact hK
  case body =>
    rintro pre x W ⟨⟨v, hI⟩, hB⟩ hlt
    obtain ⟨v0, v1⟩ := one_cell hI.hv
    have HI : Hid (SvB w.heap.size k pre v W) := hI
    have HB : Hid (Below w.heap.size w W) := hB
    have HC : Hid (∀ j u, [Value.string x][j]? = some u → (W.alloc (.cells #[.string x] 9)).cell? ((⟨W.heap.size, 0, none⟩ : Addr).add j) = some u) := cell_first1 W (.string x) 9
    have hle := heap_lt hI.hv
    have HBs : Hid (w.heap.size ≤ (W.alloc (.cells #[.string x] 9)).heap.size) := by show _ ≤ _; simp; omega
    clear hI hB
    gi_wp2_with (gi_at_builtin; refine wpListIn_append_own_at _ rfl _ _ 29 rfl w.heap.size 9 i0 _ 1 16 Tryz.underlying29 hi hz0 hz1 hz2 rfl (by decide) _ _ _ rfl (HI.out.hrow.alloc _) ⟨W.heap.size, 0, none⟩ 1 1 [.string x] rfl rfl HC.out (fun x hx => by simp at hx; subst hx; rfl) (by unfold maxLen; omega) (by omega) HBs.out ?_; intro v' w1 hown' hgrow _ hat; have hA := hd (HI.out.app hgrow hown' hat); obtain ⟨g', cap', rfl⟩ := ownsRow_succ hown'; obtain ⟨cs0, hcs0⟩ := hA.out.1; obtain ⟨y0, y1⟩ := one_cell hcs0; clear hown' hgrow hat hcs0)
    obtain ⟨-, d1, d2, d3⟩ := hA.out
    first | exact ⟨d3.from _, d2, ⟨_, d1⟩, HB.out.trans d2.bel⟩ | exact ⟨rfl, d3.from _, d2, ⟨_, d1⟩, HB.out.trans d2.bel⟩
  case done =>
    rintro ys W rfl ⟨⟨v, hI⟩, hB⟩ hK
    obtain ⟨v0, v1⟩ := one_cell hI.hv
    obtain ⟨-, a, cap, rfl, hres⟩ := resS_of_owns hI.hrow
    gi_wp2
    have hBp := hB.trans (belowK_b (w := w) (Nat.le_refl _) _ Wl.heap.size _ (.deferred none) (by omega) hK rfl rfl)
    refine ⟨by simp, .inl ⟨_, _, rfl, run_takeDeferred hK, ?_⟩⟩
    exact ⟨_, results_tmp rfl _ _ _, a, cap, rfl, hres.blocks (kept_of (row := some Wl.heap.size) (grownBy_putObj' W Wl.heap.size (.deferred none)) (fun r e => by cases e; exact ⟨_, hK, rfl⟩)), hBp⟩
end Go.Proofs.YtogcpllpkdeehaaGreatDoor
