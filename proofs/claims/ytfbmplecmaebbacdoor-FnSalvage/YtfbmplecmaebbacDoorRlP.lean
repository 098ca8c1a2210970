
import Derived.Test.YtfbmplecmaebbacDoorRlW
namespace Go.Proofs.YtfbmplecmaebbacDoor
open Go.RowKit Go.Maps Go.Shelf
attribute [local go_sem] Oper.semAt_some
set_option linter.unusedVariables false
set_option linter.unusedSimpArgs false

/-- Block k is not the row of the slice in box fb. -/
def Fg (fb : Nat) (W : World) (k : Nat) : Prop := ∀ v, W.cell? ⟨fb, 0, none⟩ = some v → v.ownBlock ≠ some k
/-- What a round of Salvage keeps. -/
structure KO (n0 l0 fb bk : Nat) (W W' : World) : Prop where
  bel : Below n0 W W'
  fr : ∀ (k : Nat) (cs : Array Value) (fz : Nat × Nat), W.heap[k]? = some (.cells cs 36 fz) → W'.heap[k]? = some (.cells cs 36 fz)
  kb : W'.heap[bk]? = W.heap[bk]?
  oth : ∀ (k : Nat) (o : Obj), l0 < k → W.heap[k]? = some o → o.isCells = false → W'.heap[k]? = some o
  fgn : ∀ k, k < W.heap.size → l0 < k → Fg fb W k → W'.heap[k]? = W.heap[k]? ∧ Fg fb W' k
theorem KO.trans {n0 l0 fb bk : Nat} {A B C : World} (h : KO n0 l0 fb bk A B) (g : KO n0 l0 fb bk B C) : KO n0 l0 fb bk A C :=
  ⟨h.bel.trans g.bel, fun k cs fz hk => g.fr k cs fz (h.fr k cs fz hk), g.kb.trans h.kb, fun k o hl hk ho => g.oth k o hl (h.oth k o hl hk ho) ho, fun k hk hl hf =>
    let ⟨h1, h2⟩ := h.fgn k hk hl hf
    let ⟨g1, g2⟩ := g.fgn k (Nat.lt_of_lt_of_le hk h.bel.size) hl h2
    ⟨g1.trans h1, g2⟩⟩
theorem round_any {m m' l1 : Nat} {P : Program} {l : Nat} {f : FuncId} {tmps : Array Value} {assign body : Code} {w : World} {R : Ending → World → Prop} (h : RoundIn Fence.wide m P l f tmps assign body w R) : RoundIn (Fence.wide.inRound l1) m' P l f tmps assign body w R :=
  ⟨h.1, fun c cs _ => h.2 c cs (room_wide _)⟩

/-- Between two rounds of payloads. -/
def PyI (J : List ByteArray → World → Prop) (b0 bk fb l0 : Nat) (k : Int) (pre : List Fr) (W : World) : Prop :=
  J ((pre.filter (gd k)).map rfB) W ∧ W.heap[b0]? = some (.cells #[.func (.yield l0) #[] #[]] 108 (0, 0)) ∧ W.heap[bk]? = some (.cells #[.int .i64 k] 3 (0, 0)) ∧ W.heap[b0 + 1]?.isSome = true ∧ Fg fb W b0 ∧ Fg fb W (b0 + 1)
theorem some_lt {W : World} {b : Nat} (h : W.heap[b]?.isSome = true) : b < W.heap.size := by
  by_cases hlt : b < W.heap.size
  · exact hlt
  · rw [Array.getElem?_eq_none (by omega)] at h; cases h
theorem fg_kept {fb k B : Nat} {W W' : World} {row : Option Nat} (h : Fg fb W k) (hg : W.grownBy W' row) (hf : fb < B) (hB : B ≤ W.heap.size) (hr : ∀ r, row = some r → B ≤ r) : Fg fb W' k := by
  intro v hv
  have e : W'.heap[fb]? = W.heap[fb]? := hg.block fb (by omega) (fun e => by have := hr fb e.symm; omega)
  exact h v ((cell_of_block e).symm.trans hv)
theorem pyI_own {J : List ByteArray → World → Prop} {b0 bk fb l0 B B0 : Nat} {k : Int} (hJ : OwnFrom B0 J) (hB : B0 ≤ B) (hf : fb < b0) (hb : b0 + 2 ≤ B) : OwnFrom B (PyI J b0 bk fb l0 k) := by
  rintro pre W W' row ⟨h1, h2, h3, h4, h5, h6⟩ hg hr
  have hkept := kept_of hg (fun r e => (hr r e).2)
  have hlt : b0 < W.heap.size := heap_lt h2
  have h4' : b0 + 1 < W.heap.size := by
    by_cases hlt : b0 + 1 < W.heap.size
    · exact hlt
    · rw [Array.getElem?_eq_none (by omega)] at h4; cases h4
  refine ⟨hJ _ _ _ _ h1 hg (fun r e => ⟨Nat.le_trans hB (hr r e).1, (hr r e).2⟩), hkept _ _ h2 rfl, hkept _ _ h3 rfl, ?_, fg_kept (B := b0 + 1) h5 hg (by omega) (by omega) (fun r e => by have := (hr r e).1; omega), fg_kept (B := b0 + 1) h6 hg (by omega) (by omega) (fun r e => by have := (hr r e).1; omega)⟩
  rw [hg.block _ h4' (fun e => by have := (hr _ e.symm).1; omega)]
  exact h4

set_option maxRecDepth 100000 in
set_option maxHeartbeats 2000000 in
theorem pays1_in (n : Nat) (hn : 3 ≤ n) (l0 bs bk fb n₀ B0 N : Nat) (s : ByteArray) (k : Int) (hs : s.size ≤ 1048576) (J : List ByteArray → World → Prop) (W0 : World) (hJ : OwnFrom B0 J) (hB0 : B0 ≤ W0.heap.size) (hl0 : l0 < B0) (hN : (frs s 0).length ≤ N)
    (hY : ∀ pre (x : ByteArray) W, J pre W → pre.length < N → YieldAt Fence.wide (n - 1) Tryd.prog l0 #[.string x] W fun e W' => e = .returned (.bool true) ∧ J (pre ++ [x]) W' ∧ KO n₀ l0 fb bk W W')
    (hbs : W0.cell? ⟨bs, 0, none⟩ = some (.string s)) (hbk : W0.heap[bk]? = some (.cells #[.int .i64 k] 3 (0, 0))) (hst : Steps W0) (hg : 0 < n₀) (hn0 : n₀ ≤ W0.heap.size) (hfb : fb < W0.heap.size) (hf0 : ∀ v j, W0.cell? ⟨fb, 0, none⟩ = some v → v.ownBlock = some j → j < W0.heap.size) (h0 : J [] W0) :
    CallsIn Fence.wide n Tryd.prog 77 #[.func (.yield l0) #[] #[], .pointer (some ⟨bs, 0, none⟩), .pointer (some ⟨bk, 0, none⟩)] W0 fun e W' => (∃ v, e = .returned v) ∧ ∃ ys, ys = svL s k ∧ J ys W' := by
  have HSV : Hid (svL s k = ((frs s 0).filter (gd k)).map rfB) := rfl
  generalize svL s k = SV at *
  refine callsIn_of_wp_marks Tryd.func77 rfl trivial ?_ rfl
  simp only [Tryd.ntmps77, List.size_toArray, List.length_cons, List.length_nil, Nat.reduceAdd, Nat.reduceSub, Array.replicate_succ, Array.replicate_zero, List.push_toArray, List.append_toArray, List.nil_append, List.cons_append]
  replace hY := hd hY
  have h1n : 1 ≤ n := by omega
  have h2n : 1 ≤ n - 1 - 1 := by omega
  have hbs1 : (W0.alloc (.cells #[.func (.yield l0) #[] #[]] 108)).cell? ⟨bs, 0, none⟩ = some (.string s) := (((Below.refl W0.heap.size W0).alloc (Nat.le_refl _) _).cell (p := ⟨bs, 0, none⟩) (cell_lt hbs)).trans hbs
  gi_wp2_with (refine ⟨trivial, ?_⟩; gi_at_call 55; refine (frames_in _ _ trivial rfl _ _).mono ?_; rintro e w' ⟨rfl, rfl⟩)
  have hbW : Below W0.heap.size W0 ((W0.alloc (.cells #[.func (.yield l0) #[] #[]] 108)).alloc (.cells #[.string s] 9)) := ((Below.refl _ _).alloc (Nat.le_refl _) _).alloc (by simp) _
  have hy0 : ((W0.alloc (.cells #[.func (.yield l0) #[] #[]] 108)).alloc (.cells #[.string s] 9)).heap[W0.heap.size]? = some (.cells #[.func (.yield l0) #[] #[]] 108 (0, 0)) := by
    rw [Below.heap_alloc _ _ _ (by simp)]
    exact alloc_at _ _ _ rfl
  have hs1 : ((W0.alloc (.cells #[.func (.yield l0) #[] #[]] 108)).alloc (.cells #[.string s] 9)).heap[W0.heap.size + 1]? = some (.cells #[.string s] 9 (0, 0)) := alloc_at _ _ _ (by simp)
  have hsz : ((W0.alloc (.cells #[.func (.yield l0) #[] #[]] 108)).alloc (.cells #[.string s] 9)).heap.size = W0.heap.size + 2 := by simp
  generalize ((W0.alloc (.cells #[.func (.yield l0) #[] #[]] 108)).alloc (.cells #[.string s] 9)) = Wb at *
  have hfW : Wb.cell? ⟨fb, 0, none⟩ = W0.cell? ⟨fb, 0, none⟩ := cell_of_block (hbW.block fb hfb)
  have hI0 : PyI J W0.heap.size bk fb l0 k [] Wb := ⟨hJ _ _ _ none h0 (grown_of_below hbW none) (fun r e => by cases e), hy0, (hbW.block bk (heap_lt hbk)).trans hbk, by rw [hs1]; rfl,
    fun v hv e => by rw [hfW] at hv; exact Nat.lt_irrefl _ (hf0 v _ hv e), fun v hv e => by rw [hfW] at hv; have := hf0 v _ hv e; omega⟩
  refine wpIn_rangeFunc_ownH rfl (by omega) (gf := 76) (lb := #[.pointer (some ⟨W0.heap.size + 1, 0, none⟩)]) rfl trivial (enters_of Tryd.func76 (by kernel_rfl) rfl)
    (frames_stops _ (by omega) (W0.heap.size + 1) n₀ s hs Wb (by omega) (one_cell hs1).1 (hst.below hbW) hg) KF.trans (KF.put (by omega) (by omega)) (Below.refl _ _) (fun _ => rfl)
    (PyI J W0.heap.size bk fb l0 k) (fun _ _ _ => False) (pyI_own hJ (by omega) hfb (by omega)) (fun _ _ _ _ _ hs _ _ => hs) hI0
    (fun x a' W => ∃ Bx, W.heap[Bx]? = some (.cells #[.bool x.isSome, .int .i64 (rfK x : Nat), .string (rfB x), .int .i64 (rfN x : Nat)] 36 (0, 0)) ∧ a' = { tmps := #[.func (.yield l0) #[] #[], .pointer (some ⟨bs, 0, none⟩), .pointer (some ⟨bk, 0, none⟩), .pointer (some ⟨W0.heap.size, 0, none⟩), .pointer (some ⟨Bx, 0, none⟩), .string s, .func (.func 76) #[] #[.pointer (some ⟨W0.heap.size + 1, 0, none⟩)], .agg #[.bool x.isSome, .int .i64 (rfK x : Nat), .string (rfB x), .int .i64 (rfN x : Nat)], undef, undef, undef, undef, undef, undef, undef, undef, undef, undef, undef, undef, undef, undef, undef], defers := [] })
    ?ax ?assign ?body ?done ?stop
  case ax =>
    intro x a'
    refine Own.from (fun _ A B' row hs hg hr => ?_) _
    obtain ⟨Bx, h1, h2⟩ := hs
    exact ⟨Bx, kept_of hg hr _ _ h1 rfl, h2⟩
  case assign =>
    rintro l pre x W K hI hK
    have hxe := rfV_eq x
    have hlt1 : W0.heap.size + 1 < W.heap.size := some_lt hI.2.2.2.1
    gi_wp2
    have hb1 : Below W.heap.size W (W.alloc (.cells #[.bool x.isSome, .int .i64 (rfK x : Nat), .string (rfB x), .int .i64 (rfN x : Nat)] 36)) := (Below.refl _ _).alloc (Nat.le_refl _) _
    exact hK _ _ ((KeepsOthers.alloc _ _).from _) (KF.of hb1 (by omega) hlt1) (pyI_own (B := W0.heap.size + 2) hJ (by omega) hfb (Nat.le_refl _) pre W _ none hI (grown_of_below hb1 none) (fun r e => by cases e)) ⟨W.heap.size, World.heap_alloc_new _ _, rfl⟩
  case body =>
    rintro l pre x a' W hl ⟨r, hr⟩ ⟨hJ1, hy1, hk1, h41, hf1, hf2⟩ ⟨Bx, hX, rfl⟩ hlt
    obtain ⟨⟨x0, x1, x2, x3⟩, -⟩ := four_cells hX
    obtain ⟨k0, -⟩ := one_cell hk1
    obtain ⟨y0, -⟩ := one_cell hy1
    have hlt1 : W0.heap.size + 1 < W.heap.size := some_lt h41
    have HJ1 : Hid (J ((pre.filter (gd k)).map rfB) W) := hJ1
    have HN : Hid (((pre.filter (gd k)).map rfB).length < N) := by
      show _ < _
      rw [List.length_map]
      exact Nat.lt_of_le_of_lt (List.length_filter_le _ _) (Nat.lt_of_lt_of_le hlt hN)
    have HP : Hid (PyI J W0.heap.size bk fb l0 k pre W) := ⟨hJ1, hy1, hk1, h41, hf1, hf2⟩
    clear hX hk1 hy1 h41 hJ1
    cases hok : x.isSome with
    | false =>
      have hgd : gd k x = false := by unfold gd; rw [hok]; rfl
      have HF : Hid (((pre ++ [x]).filter (gd k)).map rfB = (pre.filter (gd k)).map rfB) := by show _ = _; rw [List.filter_append]; simp [hgd]
      clear hgd
      rw [hok] at x0
      gi_wp2_with fail
      refine ⟨fun _ h => (by cases h), ?_⟩
      gi_wp2
      exact ⟨KeepsFrom.refl _ _, KF.refl _ _ _, by unfold PyI; rw [HF.out]; exact HP.out⟩
    | true =>
      rw [hok] at x0
      by_cases hk : ((rfK x : Nat) : Int) = k
      · have hne : (((rfK x : Nat) : Int) == k) = true := by rw [hk]; simp
        have hgd : gd k x = true := by unfold gd; rw [hok, hk]; simp
        have HF : Hid (((pre ++ [x]).filter (gd k)).map rfB = (pre.filter (gd k)).map rfB ++ [rfB x]) := by show _ = _; rw [List.filter_append]; simp [hgd]
        clear hgd
        have hk' := hd hk
        clear hk
        obtain ⟨fn, tmps, assign, body, hy, hR⟩ := hY.out _ (rfB x) W HJ1.out HN.out
        gi_wp2_with fail
        refine (round_any hR).mono ?_
        rintro e W3 ⟨rfl, hJ3, hk3⟩
        have HW3 : Hid (PyI J W0.heap.size bk fb l0 k (pre ++ [x]) W3) := by
          obtain ⟨p1, p2, p3, p4, p5, p6⟩ := HP.out
          have q1 := hk3.fgn _ (by omega) (by omega) hf1
          have q2 := hk3.fgn _ hlt1 (by omega) hf2
          refine ⟨by rw [HF.out]; exact hJ3, q1.1.trans p2, hk3.kb.trans p3, by rw [q2.1]; exact p4, q1.2, q2.2⟩
        have HKF : Hid (KF n₀ (W0.heap.size + 1) W W3) := ⟨hk3.bel, hk3.fr, (hk3.fgn _ hlt1 (by omega) hf2).1⟩
        have HKO : Hid (KeepsFrom Wb.heap.size W W3) := ⟨hk3.bel.size, fun j o hB hj ho => hk3.oth j o (by omega) hj ho⟩
        gi_wp2
        exact ⟨HKO.out, HKF.out, HW3.out⟩
      · have hne : (((rfK x : Nat) : Int) == k) = false := by rw [beq_eq_false_iff_ne]; exact hk
        have hgd : gd k x = false := by unfold gd; rw [hok, hne]; rfl
        have HF : Hid (((pre ++ [x]).filter (gd k)).map rfB = (pre.filter (gd k)).map rfB) := by show _ = _; rw [List.filter_append]; simp [hgd]
        clear hgd
        have hk' := hd hk
        clear hk
        gi_wp2_with fail
        refine ⟨fun _ h => (by cases h), ?_⟩
        gi_wp2
        exact ⟨KeepsFrom.refl _ _, KF.refl _ _ _, by unfold PyI; rw [HF.out]; exact HP.out⟩
  case done =>
    rintro D ys W hD rfl hI hK
    gi_wp2
    refine ⟨by simp, .inl ⟨_, _, rfl, run_takeDeferred hK, ?_⟩⟩
    exact ⟨_, results_none rfl _ _ _, ⟨_, rfl⟩, _, HSV.out.symm, hJ _ _ _ (some D) hI.1 (grownBy_putObj' W D (.deferred none)) (fun r e => by cases e; exact ⟨by omega, _, hK, rfl⟩)⟩
  case stop =>
    rintro D c pre W _ _ h _
    exact h.elim
end Go.Proofs.YtfbmplecmaebbacDoor
