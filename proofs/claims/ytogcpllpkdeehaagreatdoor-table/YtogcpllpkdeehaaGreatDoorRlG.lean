import Derived.Test.YtogcpllpkdeehaaGreatDoorRtI

import Derived.Maps.OwnIn
namespace Go.Proofs.YtogcpllpkdeehaaGreatDoor
open Go.RowKit Go.Maps Go.Shelf
attribute [local go_sem] Oper.semAt_some
set_option linter.unusedVariables false
set_option linter.unusedSimpArgs false

/-- The boxes of ReadLog. -/
structure RlB (n0 : Nat) (s : ByteArray) (k : Int) (pre : List Fr) (v : Value) (W : World) : Prop where
  hk : W.heap[n0]? = some (.cells #[.int .i64 k] 3 (0, 0))
  hv : W.heap[n0 + 2]? = some (.cells #[v] 29 (0, 0))
  hc : W.heap[n0 + 3]? = some (.cells #[.int .i64 (lastN pre : Nat)] 3 (0, 0))
  hrow : W.ownsRow n0 9 1 v pre.length (strL (pre.map rfB))
  hs : W.heap[n0 + 4]? = some (.cells #[.string s] 9 (0, 0))
  hne : v.ownBlock ≠ some (n0 + 4)
theorem owns_blocks {W W' : World} {B n size : Nat} {e : TypeId} {v : Value} {xs : List Value} (h : W.ownsRow B e size v n xs) (hb : ∀ (g : Nat) (o : Obj), W.heap[g]? = some o → o.isCells = true → W'.heap[g]? = some o) : W'.ownsRow B e size v n xs := by
  obtain ⟨h1, h2⟩ := h
  refine ⟨h1, ?_⟩
  rcases h2 with h2 | ⟨g, cap, cur, rfl, hg, hbk, hrest⟩
  · exact .inl h2
  · exact .inr ⟨g, cap, cur, rfl, hg, hb g _ hbk rfl, hrest⟩
theorem ResS.blocks {W W' : World} {base : Nat} {a : Option Addr} {xs : List ByteArray} (h : ResS W base a xs) (hb : ∀ (g : Nat) (o : Obj), W.heap[g]? = some o → o.isCells = true → W'.heap[g]? = some o) : ResS W' base a xs := by
  rcases h with h | ⟨g, rfl, hg, cs, h1, h2, h3⟩
  · exact .inl h
  · exact .inr ⟨g, rfl, hg, cs, hb g _ h1 rfl, h2, h3⟩
theorem owns_store {W : World} {B n b : Nat} {v : Value} {xs : List Value} (h : W.ownsRow B 9 1 v n xs) {cs : Array Value} {t : TypeId} {fz : Nat × Nat} (hb : W.heap[b]? = some (.cells cs t fz)) (ht : t ≠ 9) (u : Value) : (W.setCell ⟨b, 0, none⟩ u).ownsRow B 9 1 v n xs := by
  obtain ⟨h1, h2⟩ := h
  refine ⟨h1, ?_⟩
  rcases h2 with h2 | ⟨g, cap, cur, rfl, hg, hbk, hrest⟩
  · exact .inl h2
  · have hne : g ≠ b := fun e => by subst e; rw [hb] at hbk; cases hbk; exact ht rfl
    exact .inr ⟨g, cap, cur, rfl, hg, (Below.heap_setCell _ _ _ _ (by simpa using hne)).trans hbk, hrest⟩
theorem RlB.blocks {n0 : Nat} {s : ByteArray} {k : Int} {pre : List Fr} {v : Value} {W W' : World} (h : RlB n0 s k pre v W) (hb : ∀ (g : Nat) (o : Obj), W.heap[g]? = some o → o.isCells = true → W'.heap[g]? = some o) : RlB n0 s k pre v W' :=
  ⟨hb _ _ h.hk rfl, hb _ _ h.hv rfl, hb _ _ h.hc rfl, owns_blocks h.hrow hb, hb _ _ h.hs rfl, h.hne⟩
theorem RlB.below {n0 : Nat} {s : ByteArray} {k : Int} {pre : List Fr} {v : Value} {W W' : World} (h : RlB n0 s k pre v W) (hb : Below W.heap.size W W') : RlB n0 s k pre v W' :=
  h.blocks (fun g o hg _ => (hb.block g (heap_lt hg)).trans hg)
def RlI (n0 : Nat) (s : ByteArray) (k : Int) (w : World) (pre : List Fr) (W : World) : Prop := ((∃ v, RlB n0 s k pre v W) ∧ ∀ x ∈ pre, gd k x = true) ∧ Below n0 w W
def RlX (n0 : Nat) (s : ByteArray) (k : Int) (w : World) (cd : Code) (pre : List Fr) (W : World) : Prop := (cd = .exit 0 ∧ ∃ q f, pre = q ++ [f] ∧ gd k f = false ∧ (∃ v, RlB n0 s k q v W) ∧ ∀ x ∈ q, gd k x = true) ∧ Below n0 w W
theorem rlI_own (n0 : Nat) (s : ByteArray) (k : Int) (B : Nat) (w : World) (hn : n0 ≤ w.heap.size) (hB : n0 ≤ B) : OwnFrom B (RlI n0 s k w) :=
  OwnFrom.and (Own.from (fun _ A B' row hs hg hr => ⟨hs.1.imp fun v h => h.blocks (kept_of hg hr), hs.2⟩) _) (ownFrom_below hn hB)
theorem rlX_own (n0 : Nat) (s : ByteArray) (k : Int) (B : Nat) (w : World) (hn : n0 ≤ w.heap.size) (hB : n0 ≤ B) (cd : Code) : OwnFrom B (RlX n0 s k w cd) := by
  refine OwnFrom.and (Own.from (fun _ A B' row hs hg hr => ?_) _) (ownFrom_below hn hB)
  obtain ⟨rfl, q, f, h1, h2, h3, h4⟩ := hs
  exact ⟨rfl, q, f, h1, h2, h3.imp fun v h => h.blocks (kept_of hg hr), h4⟩
theorem RlB.ne {n0 : Nat} {s : ByteArray} {k : Int} {pre : List Fr} {v : Value} {W : World} (h : RlB n0 s k pre v W) {b : Nat} {cs : Array Value} {t : TypeId} {fz : Nat × Nat} (hb : W.heap[b]? = some (.cells cs t fz)) (ht : t ≠ 9) : some b ≠ v.ownBlock := by
  obtain ⟨-, h2⟩ := h.hrow
  intro e
  rcases h2 with ⟨rfl, -⟩ | ⟨g, cap, cur, rfl, hg, hbk, -⟩
  · cases e
  · cases e
    rw [hb] at hbk
    cases hbk
    exact ht rfl
/-- Behind an append. -/
structure RlA (n0 : Nat) (s : ByteArray) (k : Int) (pre : List Fr) (x : Fr) (v' : Value) (W w1 : World) : Prop where
  blk : ∀ (b : Nat) (cs : Array Value) (t : TypeId) (fz : Nat × Nat), W.heap[b]? = some (.cells cs t fz) → t ≠ 9 → w1.heap[b]? = some (.cells cs t fz)
  hs : w1.heap[n0 + 4]? = some (.cells #[.string s] 9 (0, 0))
  row : w1.ownsRow n0 9 1 v' (pre.length + 1) (strL (pre.map rfB) ++ [.string (rfB x)])
  ne : v'.ownBlock ≠ some (n0 + 4)
  kf : KF n0 (n0 + 4) W w1
  ko : KeepsOthers W w1
theorem RlB.app {n0 : Nat} {s : ByteArray} {k : Int} {pre : List Fr} {x : Fr} {v v' : Value} {W w1 : World} {o : Obj} (h : RlB n0 s k pre v W) (hn : n0 ≤ W.heap.size) (hg : (W.alloc o).grownBy w1 v.ownBlock) (hrow : w1.ownsRow n0 9 1 v' (pre.length + 1) (strL (pre.map rfB) ++ [.string (rfB x)]))
    (hat : v'.ownBlock = v.ownBlock ∨ v'.ownBlock = some (W.alloc o).heap.size) : RlA n0 s k pre x v' W w1 := by
  have hb : Below W.heap.size W (W.alloc o) := (Below.refl _ _).alloc (Nat.le_refl _) _
  have h4 := heap_lt h.hs
  have hl : ∀ b, b < W.heap.size → b < (W.alloc o).heap.size := fun b hb => by simp; omega
  have hblk : ∀ (b : Nat) (cs : Array Value) (t : TypeId) (fz : Nat × Nat), W.heap[b]? = some (.cells cs t fz) → t ≠ 9 → w1.heap[b]? = some (.cells cs t fz) := fun b cs t fz hk ht =>
    ((hg.block b (hl b (heap_lt hk)) (h.ne hk ht)).trans (hb.block b (heap_lt hk))).trans hk
  refine ⟨hblk, ((hg.block _ (hl _ h4) h.hne.symm).trans (hb.block _ h4)).trans h.hs, hrow, ?_, (KF.of hb hn h4).trans (KF.grown hg (owns_base h.hrow) (fun g cs fz e hk => ?_) (fun g e e2 => h.hne (by rw [e, e2])) (by simp; omega) (hl _ h4)), (KeepsOthers.alloc _ _).trans (KeepsOthers.of_grownBy hg (fun j o' e hj => ?_))⟩
  · rcases hat with e | e
    · rw [e]; exact h.hne
    · rw [e]; simp; omega
  · have hgl := owns_lt h.hrow g e
    rw [hb.block g hgl] at hk
    exact h.ne hk (by decide) e.symm
  · have hgl := owns_lt h.hrow j e
    rw [hb.block j hgl] at hj
    obtain ⟨-, h2⟩ := h.hrow
    rcases h2 with ⟨rfl, -⟩ | ⟨g, cap, cur, rfl, hg', hbk, -⟩
    · cases e
    · cases e
      rw [hbk] at hj
      cases hj
      rfl
theorem RlA.done {n0 : Nat} {s : ByteArray} {k : Int} {pre : List Fr} {x : Fr} {v v' : Value} {W w1 : World} (h : RlB n0 s k pre v W) (g : RlA n0 s k pre x v' W w1) (hn : n0 ≤ W.heap.size) :
    RlB n0 s k (pre ++ [x]) v' ((w1.setCell ⟨n0 + 2, 0, none⟩ v').setCell ⟨n0 + 3, 0, none⟩ (.int .i64 (rfN x : Nat))) ∧ KF n0 (n0 + 4) W ((w1.setCell ⟨n0 + 2, 0, none⟩ v').setCell ⟨n0 + 3, 0, none⟩ (.int .i64 (rfN x : Nat))) ∧ KeepsOthers W ((w1.setCell ⟨n0 + 2, 0, none⟩ v').setCell ⟨n0 + 3, 0, none⟩ (.int .i64 (rfN x : Nat))) := by
  have e1 := g.blk _ _ _ _ h.hk (by decide)
  have e2 := g.blk _ _ _ _ h.hv (by decide)
  have e3 := g.blk _ _ _ _ h.hc (by decide)
  have f2 : (w1.setCell ⟨n0 + 2, 0, none⟩ v').heap[n0 + 2]? = some (.cells #[v'] 29 (0, 0)) := by rw [heap_setCell_same _ _ _ _ _ _ e2]; rfl
  have f3 : (w1.setCell ⟨n0 + 2, 0, none⟩ v').heap[n0 + 3]? = some (.cells #[.int .i64 (lastN pre : Nat)] 3 (0, 0)) := (Below.heap_setCell _ _ _ _ (by simp)).trans e3
  refine ⟨⟨?_, ?_, ?_, ?_, ?_, g.ne⟩, (g.kf.trans (KF.store e2 (by decide) (by omega) (by omega) v')).trans (KF.store f3 (by decide) (by omega) (by omega) _), (g.ko.trans (KeepsOthers.setCell _ _ _)).trans (KeepsOthers.setCell _ _ _)⟩
  · rw [Below.heap_setCell _ _ _ _ (by simp), Below.heap_setCell _ _ _ _ (by simp)]; exact e1
  · rw [Below.heap_setCell _ _ _ _ (by simp)]; exact f2
  · rw [heap_setCell_same _ _ _ _ _ _ f3, lastN_snoc]; rfl
  · rw [List.map_append, List.length_append]
    have hr : w1.ownsRow n0 9 1 v' (pre.length + 1) (strL (pre.map rfB ++ [rfB x])) := by rw [strL_snoc]; exact g.row
    refine owns_store (owns_store hr e2 (by decide) v') f3 (by decide) _
  · rw [Below.heap_setCell _ _ _ _ (by simp), Below.heap_setCell _ _ _ _ (by simp)]; exact g.hs
theorem rlB_new (w : World) (k : Int) (s : ByteArray) : RlB w.heap.size s k [] (.slice (some ⟨w.heap.size + 1, 0, none⟩) 0 0) (((((w.alloc (.cells #[.int .i64 k] 3)).alloc (.cells #[] 9)).alloc (.cells #[.slice (some ⟨w.heap.size + 1, 0, none⟩) 0 0] 29)).alloc (.cells #[.int .i64 0] 3)).alloc (.cells #[.string s] 9)) := by
  refine ⟨?_, ?_, ?_, ⟨rfl, .inr ⟨w.heap.size + 1, 0, #[], rfl, by omega, ?_, Nat.le_refl _, Nat.zero_le _, rfl, rfl⟩⟩, alloc_at _ _ _ (by simp), by simp [Value.ownBlock]⟩
  · rw [Below.heap_alloc _ _ _ (by simp <;> omega), Below.heap_alloc _ _ _ (by simp <;> omega), Below.heap_alloc _ _ _ (by simp <;> omega), Below.heap_alloc _ _ _ (by simp)]
    exact alloc_at _ _ _ rfl
  · rw [Below.heap_alloc _ _ _ (by simp <;> omega), Below.heap_alloc _ _ _ (by simp)]
    exact alloc_at _ _ _ (by simp)
  · rw [Below.heap_alloc _ _ _ (by simp)]
    exact alloc_at _ _ _ (by simp)
  · rw [Below.heap_alloc _ _ _ (by simp <;> omega), Below.heap_alloc _ _ _ (by simp <;> omega), Below.heap_alloc _ _ _ (by simp)]
    exact alloc_at _ _ _ (by simp)

end Go.Proofs.YtogcpllpkdeehaaGreatDoor
