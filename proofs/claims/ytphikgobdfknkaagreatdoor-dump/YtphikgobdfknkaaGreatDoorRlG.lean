import Derived.Test.YtphikgobdfknkaaGreatDoorRlY

import Derived.Maps.OwnIn
namespace Go.Proofs.YtphikgobdfknkaaGreatDoor
open Go.RowKit Go.Maps Go.Shelf
attribute [local go_sem] Oper.semAt_some
set_option linter.unusedVariables false
set_option linter.unusedSimpArgs false

/-- The boxes of ReadLog. -/
structure RlB (n0 : Nat) (s : ByteArray) (k : Int) (pre : List Fr) (v : Value) (W : World) : Prop where
  hk : W.heap[n0]? = some (.cells #[.int .i64 k] 3 (0, 0))
  hv : W.heap[n0 + 2]? = some (.cells #[v] 63 (0, 0))
  hc : W.heap[n0 + 3]? = some (.cells #[.int .i64 (lastN pre : Nat)] 3 (0, 0))
  hrow : W.ownsRow n0 9 1 v pre.length (strL (pre.map rfB))
  hs : W.heap[n0 + 4]? = some (.cells #[.string s] 9 (0, 0))
  hne : v.ownBlock ≠ some (n0 + 4)
theorem owns_blocksR {W W' : World} {B n size : Nat} {e : TypeId} {v : Value} {xs : List Value} (h : W.ownsRow B e size v n xs) (hb : ∀ (g : Nat) (o : Obj), W.heap[g]? = some o → o.isCells = true → W'.heap[g]? = some o) : W'.ownsRow B e size v n xs := by
  obtain ⟨h1, h2⟩ := h
  refine ⟨h1, ?_⟩
  rcases h2 with h2 | ⟨g, cap, cur, rfl, hg, hbk, hrest⟩
  · exact .inl h2
  · exact .inr ⟨g, cap, cur, rfl, hg, hb g _ hbk rfl, hrest⟩
theorem ResS.blocks {W W' : World} {base : Nat} {a : Option Addr} {xs : List ByteArray} (h : ResS W base a xs) (hb : ∀ (g : Nat) (o : Obj), W.heap[g]? = some o → o.isCells = true → W'.heap[g]? = some o) : ResS W' base a xs := by
  rcases h with h | ⟨g, rfl, hg, cs, h1, h2, h3⟩
  · exact .inl h
  · exact .inr ⟨g, rfl, hg, cs, hb g _ h1 rfl, h2, h3⟩
theorem owns_store {W : World} {B n b : Nat} {v : Value} {xs : List Value} (h : W.ownsRow B 9 1 v n xs) {cs : Array Value} {t : TypeId} {fz : Nat × Nat} (hb : W.heap[b]? = some (.cells cs t fz)) (ht : t ≠ 9) (u : Value) : (W.setCell ⟨b, 0, none⟩ u).ownsRow B 9 1 v n xs := by
  obtain ⟨h1, h2⟩ := h
  refine ⟨h1, ?_⟩
  rcases h2 with h2 | ⟨g, cap, cur, rfl, hg, hbk, hrest⟩
  · exact .inl h2
  · have hne : g ≠ b := fun e => by subst e; rw [hb] at hbk; cases hbk; exact ht rfl
    exact .inr ⟨g, cap, cur, rfl, hg, (Below.heap_setCell _ _ _ _ (by simpa using hne)).trans hbk, hrest⟩
theorem RlB.blocks {n0 : Nat} {s : ByteArray} {k : Int} {pre : List Fr} {v : Value} {W W' : World} (h : RlB n0 s k pre v W) (hb : ∀ (g : Nat) (o : Obj), W.heap[g]? = some o → o.isCells = true → W'.heap[g]? = some o) : RlB n0 s k pre v W' :=
  ⟨hb _ _ h.hk rfl, hb _ _ h.hv rfl, hb _ _ h.hc rfl, owns_blocksR h.hrow hb, hb _ _ h.hs rfl, h.hne⟩
theorem RlB.below {n0 : Nat} {s : ByteArray} {k : Int} {pre : List Fr} {v : Value} {W W' : World} (h : RlB n0 s k pre v W) (hb : Below W.heap.size W W') : RlB n0 s k pre v W' :=
  h.blocks (fun g o hg _ => (hb.block g (heap_lt hg)).trans hg)
def RlI (n0 : Nat) (s : ByteArray) (k : Int) (w : World) (pre : List Fr) (W : World) : Prop := ((∃ v, RlB n0 s k pre v W) ∧ ∀ x ∈ pre, gd k x = true) ∧ Below n0 w W
def RlX (n0 : Nat) (s : ByteArray) (k : Int) (w : World) (cd : Code) (pre : List Fr) (W : World) : Prop := (cd = .exit 0 ∧ ∃ q f, pre = q ++ [f] ∧ gd k f = false ∧ (∃ v, RlB n0 s k q v W) ∧ ∀ x ∈ q, gd k x = true) ∧ Below n0 w W
theorem rlI_own (n0 : Nat) (s : ByteArray) (k : Int) (B : Nat) (w : World) (hn : n0 ≤ w.heap.size) (hB : n0 ≤ B) : OwnFrom B (RlI n0 s k w) :=
  OwnFrom.and (Own.from (fun _ A B' row hs hg hr => ⟨hs.1.imp fun v h => h.blocks (kept_of hg hr), hs.2⟩) _) (ownFrom_below hn hB)
theorem rlX_own (n0 : Nat) (s : ByteArray) (k : Int) (B : Nat) (w : World) (hn : n0 ≤ w.heap.size) (hB : n0 ≤ B) (cd : Code) : OwnFrom B (RlX n0 s k w cd) := by
  refine OwnFrom.and (Own.from (fun _ A B' row hs hg hr => ?_) _) (ownFrom_below hn hB)
  obtain ⟨rfl, q, f, h1, h2, h3, h4⟩ := hs
  exact ⟨rfl, q, f, h1, h2, h3.imp fun v h => h.blocks (kept_of hg hr), h4⟩
theorem RlB.ne {n0 : Nat} {s : ByteArray} {k : Int} {pre : List Fr} {v : Value} {W : World} (h : RlB n0 s k pre v W) {b : Nat} {cs : Array Value} {t : TypeId} {fz : Nat × Nat} (hb : W.heap[b]? = some (.cells cs t fz)) (ht : t ≠ 9) : some b ≠ v.ownBlock := by
  obtain ⟨-, h2⟩ := h.hrow
  intro e
  rcases h2 with ⟨rfl, -⟩ | ⟨g, cap, cur, rfl, hg, hbk, -⟩
  · cases e
  · cases e
    rw [hb] at hbk
    cases hbk
    exact ht rfl
/-- Behind an append. -/
structure RlA (n0 : Nat) (s : ByteArray) (k : Int) (pre : List Fr) (x : Fr) (v' : Value) (W w1 : World) : Prop where
  blk : ∀ (b : Nat) (cs : Array Value) (t : TypeId) (fz : Nat × Nat), W.heap[b]? = some (.cells cs t fz) → t ≠ 9 → w1.heap[b]? = some (.cells cs t fz)
  hs : w1.heap[n0 + 4]? = some (.cells #[.string s] 9 (0, 0))
  row : w1.ownsRow n0 9 1 v' (pre.length + 1) (strL (pre.map rfB) ++ [.string (rfB x)])
  ne : v'.ownBlock ≠ some (n0 + 4)
  kf : KF n0 (n0 + 4) W w1
  ko : KeepsOthers W w1
theorem RlB.app {n0 : Nat} {s : ByteArray} {k : Int} {pre : List Fr} {x : Fr} {v v' : Value} {W w1 : World} {o : Obj} (h : RlB n0 s k pre v W) (hn : n0 ≤ W.heap.size) (hg : (W.alloc o).grownBy w1 v.ownBlock) (hrow : w1.ownsRow n0 9 1 v' (pre.length + 1) (strL (pre.map rfB) ++ [.string (rfB x)]))
    (hat : v'.ownBlock = v.ownBlock ∨ v'.ownBlock = some (W.alloc o).heap.size) : RlA n0 s k pre x v' W w1 := by
  have hb : Below W.heap.size W (W.alloc o) := (Below.refl _ _).alloc (Nat.le_refl _) _
  have h4 := heap_lt h.hs
  have hl : ∀ b, b < W.heap.size → b < (W.alloc o).heap.size := fun b hb => by simp; omega
  have hblk : ∀ (b : Nat) (cs : Array Value) (t : TypeId) (fz : Nat × Nat), W.heap[b]? = some (.cells cs t fz) → t ≠ 9 → w1.heap[b]? = some (.cells cs t fz) := fun b cs t fz hk ht =>
    ((hg.block b (hl b (heap_lt hk)) (h.ne hk ht)).trans (hb.block b (heap_lt hk))).trans hk
  refine ⟨hblk, ((hg.block _ (hl _ h4) h.hne.symm).trans (hb.block _ h4)).trans h.hs, hrow, ?_, (KF.of hb hn h4).trans (KF.grown hg (owns_base h.hrow) (fun g cs fz e hk => ?_) (fun g e e2 => h.hne (by rw [e, e2])) (by simp; omega) (hl _ h4)), (KeepsOthers.alloc _ _).trans (KeepsOthers.of_grownBy hg (fun j o' e hj => ?_))⟩
  · rcases hat with e | e
    · rw [e]; exact h.hne
    · rw [e]; simp; omega
  · have hgl := owns_ltR h.hrow g e
    rw [hb.block g hgl] at hk
    exact h.ne hk (by decide) e.symm
  · have hgl := owns_ltR h.hrow j e
    rw [hb.block j hgl] at hj
    obtain ⟨-, h2⟩ := h.hrow
    rcases h2 with ⟨rfl, -⟩ | ⟨g, cap, cur, rfl, hg', hbk, -⟩
    · cases e
    · cases e
      rw [hbk] at hj
      cases hj
      rfl
theorem RlA.done {n0 : Nat} {s : ByteArray} {k : Int} {pre : List Fr} {x : Fr} {v v' : Value} {W w1 : World} (h : RlB n0 s k pre v W) (g : RlA n0 s k pre x v' W w1) (hn : n0 ≤ W.heap.size) :
    RlB n0 s k (pre ++ [x]) v' ((w1.setCell ⟨n0 + 2, 0, none⟩ v').setCell ⟨n0 + 3, 0, none⟩ (.int .i64 (rfN x : Nat))) ∧ KF n0 (n0 + 4) W ((w1.setCell ⟨n0 + 2, 0, none⟩ v').setCell ⟨n0 + 3, 0, none⟩ (.int .i64 (rfN x : Nat))) ∧ KeepsOthers W ((w1.setCell ⟨n0 + 2, 0, none⟩ v').setCell ⟨n0 + 3, 0, none⟩ (.int .i64 (rfN x : Nat))) := by
  have e1 := g.blk _ _ _ _ h.hk (by decide)
  have e2 := g.blk _ _ _ _ h.hv (by decide)
  have e3 := g.blk _ _ _ _ h.hc (by decide)
  have f2 : (w1.setCell ⟨n0 + 2, 0, none⟩ v').heap[n0 + 2]? = some (.cells #[v'] 63 (0, 0)) := by rw [heap_setCell_same _ _ _ _ _ _ e2]; rfl
  have f3 : (w1.setCell ⟨n0 + 2, 0, none⟩ v').heap[n0 + 3]? = some (.cells #[.int .i64 (lastN pre : Nat)] 3 (0, 0)) := (Below.heap_setCell _ _ _ _ (by simp)).trans e3
  refine ⟨⟨?_, ?_, ?_, ?_, ?_, g.ne⟩, (g.kf.trans (KF.store e2 (by decide) (by omega) (by omega) v')).trans (KF.store f3 (by decide) (by omega) (by omega) _), (g.ko.trans (KeepsOthers.setCell _ _ _)).trans (KeepsOthers.setCell _ _ _)⟩
  · rw [Below.heap_setCell _ _ _ _ (by simp), Below.heap_setCell _ _ _ _ (by simp)]; exact e1
  · rw [Below.heap_setCell _ _ _ _ (by simp)]; exact f2
  · rw [heap_setCell_same _ _ _ _ _ _ f3, lastN_snoc]; rfl
  · rw [List.map_append, List.length_append]
    have hr : w1.ownsRow n0 9 1 v' (pre.length + 1) (strL (pre.map rfB ++ [rfB x])) := by rw [strL_snoc]; exact g.row
    refine owns_store (owns_store hr e2 (by decide) v') f3 (by decide) _
  · rw [Below.heap_setCell _ _ _ _ (by simp), Below.heap_setCell _ _ _ _ (by simp)]; exact g.hs
theorem rlB_new (w : World) (k : Int) (s : ByteArray) : RlB w.heap.size s k [] (.slice (some ⟨w.heap.size + 1, 0, none⟩) 0 0) (((((w.alloc (.cells #[.int .i64 k] 3)).alloc (.cells #[] 9)).alloc (.cells #[.slice (some ⟨w.heap.size + 1, 0, none⟩) 0 0] 63)).alloc (.cells #[.int .i64 0] 3)).alloc (.cells #[.string s] 9)) := by
  refine ⟨?_, ?_, ?_, ⟨rfl, .inr ⟨w.heap.size + 1, 0, #[], rfl, by omega, ?_, Nat.le_refl _, Nat.zero_le _, rfl, rfl⟩⟩, alloc_at _ _ _ (by simp), by simp [Value.ownBlock]⟩
  · rw [Below.heap_alloc _ _ _ (by simp <;> omega), Below.heap_alloc _ _ _ (by simp <;> omega), Below.heap_alloc _ _ _ (by simp <;> omega), Below.heap_alloc _ _ _ (by simp)]
    exact alloc_at _ _ _ rfl
  · rw [Below.heap_alloc _ _ _ (by simp <;> omega), Below.heap_alloc _ _ _ (by simp)]
    exact alloc_at _ _ _ (by simp)
  · rw [Below.heap_alloc _ _ _ (by simp)]
    exact alloc_at _ _ _ (by simp)
  · rw [Below.heap_alloc _ _ _ (by simp <;> omega), Below.heap_alloc _ _ _ (by simp <;> omega), Below.heap_alloc _ _ _ (by simp)]
    exact alloc_at _ _ _ (by simp)

set_option maxRecDepth 100000 in
set_option maxHeartbeats 2000000 in
theorem implLog_any (s : ByteArray) (k : Int) (w : World) (hs : s.size ≤ 1048576) (ht : Steps w) :
    Calls Tryz.prog 61 #[.string s, .int .i64 k] w fun e w' => ∃ a cap, e = .returned (.tuple #[.slice a (rlL s k).length cap, .int .i64 (lastN (rlL s k) : Nat)]) ∧ ResS w' w.heap.size a ((rlL s k).map rfB) ∧ Below w.heap.size w w' := by
  obtain ⟨i0, hi, hz0, hz1, hz2⟩ := info_parts str_info
  have HST : Hid (∀ pre f rest, frs s 0 = pre ++ f :: rest → (∀ x ∈ pre, gd k x = true) → gd k f = false → rlL s k = pre) := fun pre f rest h1 h2 h3 => rl_stop h1 h2 h3
  have HDN : Hid (∀ pre, frs s 0 = pre → (∀ x ∈ pre, gd k x = true) → rlL s k = pre) := fun pre h1 h2 => rl_done h1 h2
  have hFL := frs_len s s.size 0 (by omega)
  generalize rlL s k = RL at *
  have hglt := ht.1
  refine (callsIn_wide (n := 3)).1 ?_
  refine callsIn_of_wp_marks Tryz.func61 rfl trivial ?_ rfl
  simp only [Tryz.ntmps61, List.size_toArray, List.length_cons, List.length_nil, Nat.reduceAdd, Nat.reduceSub, Array.replicate_succ, Array.replicate_zero, List.push_toArray, List.append_toArray, List.nil_append, List.cons_append]
  gi_wp2_with (refine ⟨trivial, ?_⟩; gi_at_call 87; refine (frames_in _ _ trivial rfl _ _).mono ?_; rintro e w' ⟨rfl, rfl⟩)
  have hnew := rlB_new w k s
  have hsz : (((((w.alloc (.cells #[.int .i64 k] 3)).alloc (.cells #[] 9)).alloc (.cells #[.slice (some ⟨w.heap.size + 1, 0, none⟩) 0 0] 63)).alloc (.cells #[.int .i64 0] 3)).alloc (.cells #[.string s] 9)).heap.size = w.heap.size + 5 := by simp
  have hcs : (((((w.alloc (.cells #[.int .i64 k] 3)).alloc (.cells #[] 9)).alloc (.cells #[.slice (some ⟨w.heap.size + 1, 0, none⟩) 0 0] 63)).alloc (.cells #[.int .i64 0] 3)).alloc (.cells #[.string s] 9)).cell? ⟨w.heap.size + 4, 0, none⟩ = some (.string s) := (one_cell (t := 9) (alloc_at _ _ _ (by simp))).1
  have hbel : Below w.heap.size w (((((w.alloc (.cells #[.int .i64 k] 3)).alloc (.cells #[] 9)).alloc (.cells #[.slice (some ⟨w.heap.size + 1, 0, none⟩) 0 0] 63)).alloc (.cells #[.int .i64 0] 3)).alloc (.cells #[.string s] 9)) := (((((Below.refl _ _).alloc (by simp) _).alloc (by simp <;> omega) _).alloc (by simp <;> omega) _).alloc (by simp <;> omega) _).alloc (by simp <;> omega) _
  generalize (((((w.alloc (.cells #[.int .i64 k] 3)).alloc (.cells #[] 9)).alloc (.cells #[.slice (some ⟨w.heap.size + 1, 0, none⟩) 0 0] 63)).alloc (.cells #[.int .i64 0] 3)).alloc (.cells #[.string s] 9)) = W0 at *
  refine wpIn_rangeFunc_ownH rfl (by omega) (gf := 108) (lb := #[.pointer (some ⟨w.heap.size + 4, 0, none⟩)]) rfl trivial (enters_of Tryz.func108 (by kernel_rfl) rfl)
    (frames_stops _ (by omega) (w.heap.size + 4) w.heap.size s hs W0 (by omega) hcs (ht.below hbel) hglt) KF.trans (KF.put (by omega) (by omega)) (Below.refl _ _) (fun _ => rfl)
    (RlI w.heap.size s k w) (RlX w.heap.size s k w) (rlI_own _ _ _ _ _ (Nat.le_refl _) (by omega)) (rlX_own _ _ _ _ _ (Nat.le_refl _) (by omega)) ⟨⟨⟨_, hnew⟩, fun x hx => by cases hx⟩, hbel⟩
    (fun x a' W => ∃ Bx, W.heap[Bx]? = some (.cells #[.bool x.isSome, .int .i64 (rfK x : Nat), .string (rfB x), .int .i64 (rfN x : Nat)] 107 (0, 0)) ∧ a' = { tmps := #[.string s, .int .i64 k, undef, .pointer (some ⟨w.heap.size, 0, none⟩), .slice none 0 0, .int .i64 0, .pointer (some ⟨w.heap.size + 1 + 1, 0, none⟩), .pointer (some ⟨w.heap.size + 1 + 1 + 1, 0, none⟩), .pointer (some ⟨Bx, 0, none⟩), .slice (some ⟨w.heap.size + 1, 0, none⟩) 0 0, .string s, .func (.func 108) #[] #[.pointer (some ⟨w.heap.size + 1 + 1 + 1 + 1, 0, none⟩)], .agg #[.bool x.isSome, .int .i64 (rfK x : Nat), .string (rfB x), .int .i64 (rfN x : Nat)], undef, undef, undef, undef, undef, undef, undef, undef, undef, undef, undef, undef, undef, undef, undef, undef, undef, undef], defers := [] })
    ?ax ?assign ?body ?done ?stop
  case ax =>
    intro x a'
    refine Own.from (fun _ A B' row hs hg hr => ?_) _
    obtain ⟨Bx, h1, h2⟩ := hs
    exact ⟨Bx, kept_of hg hr _ _ h1 rfl, h2⟩
  case assign =>
    rintro l pre x W K ⟨⟨⟨v, hI⟩, hgood⟩, hB⟩ hK
    have hxe := rfV_eq x
    have hlt4 := heap_lt hI.hs
    gi_wp2
    have hb1 : Below W.heap.size W (W.alloc (.cells #[.bool x.isSome, .int .i64 (rfK x : Nat), .string (rfB x), .int .i64 (rfN x : Nat)] 107)) := (Below.refl _ _).alloc (Nat.le_refl _) _
    exact hK _ _ ((KeepsOthers.alloc _ _).from _) (KF.of hb1 (by omega) hlt4) ⟨⟨⟨v, hI.below hb1⟩, hgood⟩, hB.trans (hb1.mono (by omega))⟩ ⟨W.heap.size, World.heap_alloc_new _ _, rfl⟩
  case body =>
    rintro l pre x a' W hl ⟨r, hr⟩ ⟨⟨⟨v, hI⟩, hgood⟩, hB⟩ ⟨Bx, hX, rfl⟩ hlt
    obtain ⟨⟨x0, x1, x2, x3⟩, -⟩ := four_cellsR hX
    obtain ⟨k0, -⟩ := one_cell hI.hk
    obtain ⟨v0, v1⟩ := one_cell hI.hv
    obtain ⟨c0, c1⟩ := one_cell hI.hc
    have hlt4 := heap_lt hI.hs
    have hll : pre.length < s.size := by omega
    have HI : Hid (RlB w.heap.size s k pre v W) := hI
    have HX : Hid (W.heap[Bx]? = some (.cells #[.bool x.isSome, .int .i64 (rfK x : Nat), .string (rfB x), .int .i64 (rfN x : Nat)] 107 (0, 0))) := hX
    have HB : Hid (Below w.heap.size w W) := hB
    have HG : Hid (∀ y ∈ pre, gd k y = true) := hgood
    clear hI hX hB hgood
    cases hok : x.isSome with
    | false =>
      have hgd : Hid (gd k x = false) := by show _ = _; unfold gd; rw [hok]; rfl
      rw [hok] at x0
      gi_wp2_with fail
      exact ⟨KeepsFrom.refl _ _, ⟨rfl, pre, x, rfl, hgd.out, ⟨v, HI.out⟩, HG.out⟩, HB.out⟩
    | true =>
      rw [hok] at x0
      by_cases hk : ((rfK x : Nat) : Int) = k
      · have hne : (((rfK x : Nat) : Int) != k) = false := by rw [hk]; simp
        have hgd : Hid (gd k x = true) := by show _ = _; unfold gd; rw [hok, hk]; simp
        have hk' := hd hk
        have HC : Hid (∀ j u, [Value.string (rfB x)][j]? = some u → (W.alloc (.cells #[.string (rfB x)] 9)).cell? ((⟨W.heap.size, 0, none⟩ : Addr).add j) = some u) := cell_first1R W (.string (rfB x)) 9
        clear hk
        have HBs : Hid (w.heap.size ≤ (W.alloc (.cells #[.string (rfB x)] 9)).heap.size) := by show _ ≤ _; simp; omega
        have HBw : Hid (w.heap.size ≤ W.heap.size) := by show _ ≤ _; omega
        rw [hok] at HX
        gi_wp2_with (gi_at_builtin; refine wpListIn_append_own_at _ rfl _ _ 63 rfl w.heap.size 9 i0 _ 1 16 Tryz.underlying63 hi hz0 hz1 hz2 rfl (by decide) _ _ _ rfl (HI.out.hrow.alloc _) ⟨W.heap.size, 0, none⟩ 1 1 [.string (rfB x)] rfl rfl HC.out (fun x hx => by simp at hx; subst hx; rfl) (by unfold maxLen; omega) (by omega) HBs.out ?_; intro v' w1 hown' hgrow _ hat; have hA : Hid (RlA w.heap.size s k pre x v' W w1) := HI.out.app HBw.out hgrow hown' hat; obtain ⟨g', cap', rfl⟩ := ownsRow_succ hown'; obtain ⟨y0, y1⟩ := one_cell (hA.out.blk _ _ _ _ HI.out.hv (by decide)); obtain ⟨z0, z1⟩ := one_cell (hA.out.blk _ _ _ _ HI.out.hc (by decide)); obtain ⟨⟨q0, q1, q2, q3⟩, -⟩ := four_cellsR (hA.out.blk _ _ _ _ HX.out (by decide)); clear hown' hgrow hat)
        obtain ⟨d1, d2, d3⟩ := RlA.done HI.out hA.out HBw.out
        refine ⟨d3.from _, d2, ⟨⟨_, d1⟩, fun y hy => ?_⟩, HB.out.trans d2.bel⟩
        rcases List.mem_append.1 hy with h | h
        · exact HG.out y h
        · rw [List.mem_singleton.1 h]; exact hgd.out
      · have hne : (((rfK x : Nat) : Int) != k) = true := by rw [bne_iff_ne]; exact hk
        have hgd : Hid (gd k x = false) := by show _ = _; unfold gd; rw [hok]; simp; exact hk
        have hk' := hd hk
        clear hk
        gi_wp2_with fail
        exact ⟨KeepsFrom.refl _ _, ⟨rfl, pre, x, rfl, hgd.out, ⟨v, HI.out⟩, HG.out⟩, HB.out⟩
  case done =>
    rintro D ys W hD rfl ⟨⟨⟨v, hI⟩, hgood⟩, hB⟩ hK
    have hRL : RL = _ := HDN.out _ rfl hgood
    obtain ⟨v0, v1⟩ := one_cell hI.hv
    obtain ⟨c0, c1⟩ := one_cell hI.hc
    obtain ⟨-, a, cap, hv, hres⟩ := resS_of_owns hI.hrow
    rw [← hRL] at hv hres c0
    subst hv
    gi_wp2
    gi_region
    all_goals gi_wp2
    subst hRL
    have hBp := hB.drew.trans (belowK_b (w := w) (Nat.le_refl _) _ D _ (.deferred none) (by omega) hK rfl rfl)
    refine ⟨by simp, .inl ⟨_, _, rfl, run_takeDeferred hK, ?_⟩⟩
    exact ⟨.tuple #[_, _], by simp [results, Tryz.results61, go_sem], a, cap, rfl, ResS.blocks (W := W.drew) hres (kept_of (row := some D) (grownBy_putObj' W.drew D (.deferred none)) (fun r e => by cases e; exact ⟨_, hK, rfl⟩)), hBp⟩
  case stop =>
    rintro D cd pre W hD hpre ⟨⟨rfl, q, f, rfl, hf, ⟨v, hI⟩, hgood⟩, hB⟩ hK
    obtain ⟨rest, hrest⟩ := hpre
    have hRL : RL = q := HST.out q f rest (by rw [← hrest]; simp) hgood hf
    obtain ⟨v0, v1⟩ := one_cell hI.hv
    obtain ⟨c0, c1⟩ := one_cell hI.hc
    obtain ⟨-, a, cap, hv, hres⟩ := resS_of_owns hI.hrow
    rw [← hRL] at hv hres c0
    subst hv
    gi_wp2
    gi_region
    all_goals gi_wp2
    subst hRL
    have hBp := hB.drew.trans (belowK_b (w := w) (Nat.le_refl _) _ D _ (.deferred none) (by omega) hK rfl rfl)
    refine ⟨by simp, .inl ⟨_, _, rfl, run_takeDeferred hK, ?_⟩⟩
    exact ⟨.tuple #[_, _], by simp [results, Tryz.results61, go_sem], a, cap, rfl, ResS.blocks (W := W.drew) hres (kept_of (row := some D) (grownBy_putObj' W.drew D (.deferred none)) (fun r e => by cases e; exact ⟨_, hK, rfl⟩)), hBp⟩
end Go.Proofs.YtphikgobdfknkaaGreatDoor
