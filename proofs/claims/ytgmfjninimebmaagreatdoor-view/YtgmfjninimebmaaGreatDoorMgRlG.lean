import Derived.Test.YtgmfjninimebmaaGreatDoorRtI
import Derived.Maps.OwnIn
namespace Go.Proofs.YtgmfjninimebmaaGreatDoor
open Go.RowKit Go.Maps Go.Shelf
attribute [local go_sem] Oper.semAt_some
set_option linter.unusedVariables false
set_option linter.unusedSimpArgs false

/-- The boxes of ReadLog. -/
structure RlB (n0 : Nat) (s : ByteArray) (k : Int) (pre : List Fr) (v : Value) (W : World) : Prop where
  hk : W.heap[n0]? = some (.cells #[.int .i64 k] 3 (0, 0))
  hv : W.heap[n0 + 2]? = some (.cells #[v] 73 (0, 0))
  hc : W.heap[n0 + 3]? = some (.cells #[.int .i64 (lastN pre : Nat)] 3 (0, 0))
  hrow : W.ownsRow n0 9 1 v pre.length (strL (pre.map rfB))
  hs : W.heap[n0 + 4]? = some (.cells #[.string s] 9 (0, 0))
  hne : v.ownBlock ≠ some (n0 + 4)
theorem owns_blocks {W W' : World} {B n size : Nat} {e : TypeId} {v : Value} {xs : List Value} (h : W.ownsRow B e size v n xs) (hb : ∀ (g : Nat) (o : Obj), W.heap[g]? = some o → o.isCells = true → W'.heap[g]? = some o) : W'.ownsRow B e size v n xs := by
  obtain ⟨h1, h2⟩ := h
  refine ⟨h1, ?_⟩
  rcases h2 with h2 | ⟨g, cap, cur, rfl, hg, hbk, hrest⟩
  · exact .inl h2
  · exact .inr ⟨g, cap, cur, rfl, hg, hb g _ hbk rfl, hrest⟩
theorem ResS.blocks {W W' : World} {base : Nat} {a : Option Addr} {xs : List ByteArray} (h : ResS W base a xs) (hb : ∀ (g : Nat) (o : Obj), W.heap[g]? = some o → o.isCells = true → W'.heap[g]? = some o) : ResS W' base a xs := by
  rcases h with h | ⟨g, rfl, hg, cs, h1, h2, h3⟩
  · exact .inl h
  · exact .inr ⟨g, rfl, hg, cs, hb g _ h1 rfl, h2, h3⟩
theorem owns_store {W : World} {B n b : Nat} {v : Value} {xs : List Value} (h : W.ownsRow B 9 1 v n xs) {cs : Array Value} {t : TypeId} {fz : Nat × Nat} (hb : W.heap[b]? = some (.cells cs t fz)) (ht : t ≠ 9) (u : Value) : (W.setCell ⟨b, 0, none⟩ u).ownsRow B 9 1 v n xs := by
  obtain ⟨h1, h2⟩ := h
  refine ⟨h1, ?_⟩
  rcases h2 with h2 | ⟨g, cap, cur, rfl, hg, hbk, hrest⟩
  · exact .inl h2
  · have hne : g ≠ b := fun e => by subst e; rw [hb] at hbk; cases hbk; exact ht rfl
    exact .inr ⟨g, cap, cur, rfl, hg, (Below.heap_setCell _ _ _ _ (by simpa using hne)).trans hbk, hrest⟩
theorem RlB.blocks {n0 : Nat} {s : ByteArray} {k : Int} {pre : List Fr} {v : Value} {W W' : World} (h : RlB n0 s k pre v W) (hb : ∀ (g : Nat) (o : Obj), W.heap[g]? = some o → o.isCells = true → W'.heap[g]? = some o) : RlB n0 s k pre v W' :=
  ⟨hb _ _ h.hk rfl, hb _ _ h.hv rfl, hb _ _ h.hc rfl, owns_blocks h.hrow hb, hb _ _ h.hs rfl, h.hne⟩
theorem RlB.below {n0 : Nat} {s : ByteArray} {k : Int} {pre : List Fr} {v : Value} {W W' : World} (h : RlB n0 s k pre v W) (hb : Below W.heap.size W W') : RlB n0 s k pre v W' :=
  h.blocks (fun g o hg _ => (hb.block g (heap_lt hg)).trans hg)
def RlI (n0 : Nat) (s : ByteArray) (k : Int) (w : World) (pre : List Fr) (W : World) : Prop := ((∃ v, RlB n0 s k pre v W) ∧ ∀ x ∈ pre, gd k x = true) ∧ Below n0 w W
def RlX (n0 : Nat) (s : ByteArray) (k : Int) (w : World) (cd : Code) (pre : List Fr) (W : World) : Prop := (cd = .exit 0 ∧ ∃ q f, pre = q ++ [f] ∧ gd k f = false ∧ (∃ v, RlB n0 s k q v W) ∧ ∀ x ∈ q, gd k x = true) ∧ Below n0 w W
theorem rlI_own (n0 : Nat) (s : ByteArray) (k : Int) (B : Nat) (w : World) (hn : n0 ≤ w.heap.size) (hB : n0 ≤ B) : OwnFrom B (RlI n0 s k w) :=
  OwnFrom.and (Own.from (fun _ A B' row hs hg hr => ⟨hs.1.imp fun v h => h.blocks (kept_of hg hr), hs.2⟩) _) (ownFrom_below hn hB)
theorem rlX_own (n0 : Nat) (s : ByteArray) (k : Int) (B : Nat) (w : World) (hn : n0 ≤ w.heap.size) (hB : n0 ≤ B) (cd : Code) : OwnFrom B (RlX n0 s k w cd) := by
  refine OwnFrom.and (Own.from (fun _ A B' row hs hg hr => ?_) _) (ownFrom_below hn hB)
  obtain ⟨rfl, q, f, h1, h2, h3, h4⟩ := hs
  exact ⟨rfl, q, f, h1, h2, h3.imp fun v h => h.blocks (kept_of hg hr), h4⟩
theorem RlB.ne {n0 : Nat} {s : ByteArray} {k : Int} {pre : List Fr} {v : Value} {W : World} (h : RlB n0 s k pre v W) {b : Nat} {cs : Array Value} {t : TypeId} {fz : Nat × Nat} (hb : W.heap[b]? = some (.cells cs t fz)) (ht : t ≠ 9) : some b ≠ v.ownBlock := by
  obtain ⟨-, h2⟩ := h.hrow
  intro e
  rcases h2 with ⟨rfl, -⟩ | ⟨g, cap, cur, rfl, hg, hbk, -⟩
  · cases e
  · cases e
    rw [hb] at hbk
    cases hbk
    exact ht rfl
/-- Behind an append. -/
structure RlA (n0 : Nat) (s : ByteArray) (k : Int) (pre : List Fr) (x : Fr) (v' : Value) (W w1 : World) : Prop where
  blk : ∀ (b : Nat) (cs : Array Value) (t : TypeId) (fz : Nat × Nat), W.heap[b]? = some (.cells cs t fz) → t ≠ 9 → w1.heap[b]? = some (.cells cs t fz)
  hs : w1.heap[n0 + 4]? = some (.cells #[.string s] 9 (0, 0))
  row : w1.ownsRow n0 9 1 v' (pre.length + 1) (strL (pre.map rfB) ++ [.string (rfB x)])
  ne : v'.ownBlock ≠ some (n0 + 4)
  kf : KF n0 (n0 + 4) W w1
  ko : KeepsOthers W w1
theorem RlB.app {n0 : Nat} {s : ByteArray} {k : Int} {pre : List Fr} {x : Fr} {v v' : Value} {W w1 : World} {o : Obj} (h : RlB n0 s k pre v W) (hn : n0 ≤ W.heap.size) (hg : (W.alloc o).grownBy w1 v.ownBlock) (hrow : w1.ownsRow n0 9 1 v' (pre.length + 1) (strL (pre.map rfB) ++ [.string (rfB x)]))
    (hat : v'.ownBlock = v.ownBlock ∨ v'.ownBlock = some (W.alloc o).heap.size) : RlA n0 s k pre x v' W w1 := by
  have hb : Below W.heap.size W (W.alloc o) := (Below.refl _ _).alloc (Nat.le_refl _) _
  have h4 := heap_lt h.hs
  have hl : ∀ b, b < W.heap.size → b < (W.alloc o).heap.size := fun b hb => by simp; omega
  have hblk : ∀ (b : Nat) (cs : Array Value) (t : TypeId) (fz : Nat × Nat), W.heap[b]? = some (.cells cs t fz) → t ≠ 9 → w1.heap[b]? = some (.cells cs t fz) := fun b cs t fz hk ht =>
    ((hg.block b (hl b (heap_lt hk)) (h.ne hk ht)).trans (hb.block b (heap_lt hk))).trans hk
  refine ⟨hblk, ((hg.block _ (hl _ h4) h.hne.symm).trans (hb.block _ h4)).trans h.hs, hrow, ?_, (KF.of hb hn h4).trans (KF.grown hg (owns_base h.hrow) (fun g cs fz e hk => ?_) (fun g e e2 => h.hne (by rw [e, e2])) (by simp; omega) (hl _ h4)), (KeepsOthers.alloc _ _).trans (KeepsOthers.of_grownBy hg (fun j o' e hj => ?_))⟩
  · rcases hat with e | e
    · rw [e]; exact h.hne
    · rw [e]; simp; omega
  · have hgl := owns_lt h.hrow g e
    rw [hb.block g hgl] at hk
    exact h.ne hk (by decide) e.symm
  · have hgl := owns_lt h.hrow j e
    rw [hb.block j hgl] at hj
    obtain ⟨-, h2⟩ := h.hrow
    rcases h2 with ⟨rfl, -⟩ | ⟨g, cap, cur, rfl, hg', hbk, -⟩
    · cases e
    · cases e
      rw [hbk] at hj
      cases hj
      rfl
theorem RlA.done {n0 : Nat} {s : ByteArray} {k : Int} {pre : List Fr} {x : Fr} {v v' : Value} {W w1 : World} (h : RlB n0 s k pre v W) (g : RlA n0 s k pre x v' W w1) (hn : n0 ≤ W.heap.size) :
    RlB n0 s k (pre ++ [x]) v' ((w1.setCell ⟨n0 + 2, 0, none⟩ v').setCell ⟨n0 + 3, 0, none⟩ (.int .i64 (rfN x : Nat))) ∧ KF n0 (n0 + 4) W ((w1.setCell ⟨n0 + 2, 0, none⟩ v').setCell ⟨n0 + 3, 0, none⟩ (.int .i64 (rfN x : Nat))) ∧ KeepsOthers W ((w1.setCell ⟨n0 + 2, 0, none⟩ v').setCell ⟨n0 + 3, 0, none⟩ (.int .i64 (rfN x : Nat))) := by
  have e1 := g.blk _ _ _ _ h.hk (by decide)
  have e2 := g.blk _ _ _ _ h.hv (by decide)
  have e3 := g.blk _ _ _ _ h.hc (by decide)
  have f2 : (w1.setCell ⟨n0 + 2, 0, none⟩ v').heap[n0 + 2]? = some (.cells #[v'] 73 (0, 0)) := by rw [heap_setCell_same _ _ _ _ _ _ e2]; rfl
  have f3 : (w1.setCell ⟨n0 + 2, 0, none⟩ v').heap[n0 + 3]? = some (.cells #[.int .i64 (lastN pre : Nat)] 3 (0, 0)) := (Below.heap_setCell _ _ _ _ (by simp)).trans e3
  refine ⟨⟨?_, ?_, ?_, ?_, ?_, g.ne⟩, (g.kf.trans (KF.store e2 (by decide) (by omega) (by omega) v')).trans (KF.store f3 (by decide) (by omega) (by omega) _), (g.ko.trans (KeepsOthers.setCell _ _ _)).trans (KeepsOthers.setCell _ _ _)⟩
  · rw [Below.heap_setCell _ _ _ _ (by simp), Below.heap_setCell _ _ _ _ (by simp)]; exact e1
  · rw [Below.heap_setCell _ _ _ _ (by simp)]; exact f2
  · rw [heap_setCell_same _ _ _ _ _ _ f3, lastN_snoc]; rfl
  · rw [List.map_append, List.length_append]
    have hr : w1.ownsRow n0 9 1 v' (pre.length + 1) (strL (pre.map rfB ++ [rfB x])) := by rw [strL_snoc]; exact g.row
    refine owns_store (owns_store hr e2 (by decide) v') f3 (by decide) _
  · rw [Below.heap_setCell _ _ _ _ (by simp), Below.heap_setCell _ _ _ _ (by simp)]; exact g.hs
theorem rlB_new (w : World) (k : Int) (s : ByteArray) : RlB w.heap.size s k [] (.slice (some ⟨w.heap.size + 1, 0, none⟩) 0 0) (((((w.alloc (.cells #[.int .i64 k] 3)).alloc (.cells #[] 9)).alloc (.cells #[.slice (some ⟨w.heap.size + 1, 0, none⟩) 0 0] 73)).alloc (.cells #[.int .i64 0] 3)).alloc (.cells #[.string s] 9)) := by
  refine ⟨?_, ?_, ?_, ⟨rfl, .inr ⟨w.heap.size + 1, 0, #[], rfl, by omega, ?_, Nat.le_refl _, Nat.zero_le _, rfl, rfl⟩⟩, alloc_at _ _ _ (by simp), by simp [Value.ownBlock]⟩
  · rw [Below.heap_alloc _ _ _ (by simp <;> omega), Below.heap_alloc _ _ _ (by simp <;> omega), Below.heap_alloc _ _ _ (by simp <;> omega), Below.heap_alloc _ _ _ (by simp)]
    exact alloc_at _ _ _ rfl
  · rw [Below.heap_alloc _ _ _ (by simp <;> omega), Below.heap_alloc _ _ _ (by simp)]
    exact alloc_at _ _ _ (by simp)
  · rw [Below.heap_alloc _ _ _ (by simp)]
    exact alloc_at _ _ _ (by simp)
  · rw [Below.heap_alloc _ _ _ (by simp <;> omega), Below.heap_alloc _ _ _ (by simp <;> omega), Below.heap_alloc _ _ _ (by simp)]
    exact alloc_at _ _ _ (by simp)

end Go.Proofs.YtgmfjninimebmaaGreatDoor
namespace Go.Proofs.YtgmfjninimebmaaGreatDoor
open Go.RowKit Go.Maps Go.Shelf
set_option linter.unusedVariables false
set_option linter.unusedSimpArgs false

/-- A loop over an iterator whose body never leaves it, for an iterator that ranges over another one itself: what such an iterator must know is that the rounds leave alone what is no cells and was laid behind the loop's own record. -/
theorem loop_whole {α : Type} {n : Nat} {P : Program} {g : Operand} {ps : Array Tmp} {assign body : Code} {Q : Exit → Act → World → Prop} {a : Act} {w : World} {gf : Nat} {lb : Array Value}
    (hg : a.eval g = .func (.func gf) #[] lb) (eg : ∀ args w, (callFunc gf args).run P w = .ok (.enter gf args) w) (encs : α → Array Value) (hps : ∀ x, (encs x).size = ps.size) (Kp : World → World → Prop) (S : List α → Prop) (N : Nat)
    (hKt : ∀ {A B C : World}, Kp A B → Kp B C → Kp A C) (hKb : ∀ (W : World) (r r' : Loop), W.heap[w.heap.size + 1]? = some (.loop r) → Kp W (W.putObj (w.heap.size + 1) (.loop r')))
    (hseq : ∀ (J : List α → World → Prop) (W1 : World), W1.heap.size = w.heap.size + 2 → Below w.heap.size w W1 → OwnFrom (w.heap.size + 2) J →
      (∀ pre x W, J pre W → pre.length < N → YieldAt Fence.wide (n - 1 - 1) P (w.heap.size + 1) (encs x) W fun e W' => e = .returned (.bool true) ∧ J (pre ++ [x]) W' ∧ Kp W W') → J [] W1 →
      CallsIn Fence.wide (n - 1) P gf (#[.func (.yield (w.heap.size + 1)) #[] #[]] ++ lb) W1 fun e W' => (∃ v, e = .returned v) ∧ ∃ xs, S xs ∧ J xs W')
    (I : List α → World → Prop) (hI : OwnFrom w.heap.size I) (h0 : I [] w) (a₁ : α → Act)
    (hassign : ∀ (x : α) (W : World) (K : Act → World → Prop), K (a₁ x) W → assign.wpIn (Fence.wide.inRound (w.heap.size + 1)) (n - 1 - 1) P (Exit.then K (fun _ _ _ => False)) { tmps := (ps.zip (encs x)).foldl (fun t (p, v) => t.setIfInBounds p v) a.tmps, defers := [] } W)
    (hbody : ∀ (pre : List α) (x : α) (W : World), I pre W → pre.length < N → body.wpIn (Fence.wide.inRound (w.heap.size + 1)) (n - 1 - 1) P (fun e _ W' => e = .normal ∧ KeepsFrom w.heap.size W W' ∧ Kp W W' ∧ I (pre ++ [x]) W') (a₁ x) W)
    (hdone : ∀ (xs : List α) (W : World), S xs → I xs W → W.heap[w.heap.size]? = some (.deferred (some [])) → Q .normal { a with defers := { target := .collected w.heap.size, args := #[] } :: a.defers } W) :
    (Code.rangeFunc g ps assign body).wpIn Fence.wide n P Q a w := by
  refine wpIn_rangeFunc fun fn hfn => ?_
  let rc : LoopState → Loop := fun st => ⟨st, none, fn, a.tmps, ps, assign, body, w.heap.size⟩
  have hlay := run_enterLoop_outer (P := P) (w := w) fn a.tmps ps assign body
  have hz1 : ((w.alloc (.deferred (some []))).alloc (.loop (rc .ready))).heap.size = w.heap.size + 2 := by simp
  have hl1 : ((w.alloc (.deferred (some []))).alloc (.loop (rc .ready))).heap[w.heap.size + 1]? = some (.loop (rc .ready)) := alloc_at _ _ _ (by simp)
  have hd1 : ((w.alloc (.deferred (some []))).alloc (.loop (rc .ready))).heap[w.heap.size]? = some (.deferred (some [])) := by
    rw [Below.heap_alloc _ _ _ (by simp)]
    exact alloc_at _ _ _ rfl
  have hb1 : Below w.heap.size w ((w.alloc (.deferred (some []))).alloc (.loop (rc .ready))) := ((Below.refl _ _).alloc (Nat.le_refl _) _).alloc (by simp) _
  have hI1 : I [] ((w.alloc (.deferred (some []))).alloc (.loop (rc .ready))) := hI _ _ _ none (hI _ _ _ none h0 (World.grownBy_alloc _ _ none) (fun r e => by cases e)) (World.grownBy_alloc _ _ none) (fun r e => by cases e)
  have hput : ∀ (pre : List α) (W : World) (r r' : Loop), I pre W → W.heap[w.heap.size + 1]? = some (.loop r) → I pre (W.putObj (w.heap.size + 1) (.loop r')) := fun pre W r r' h hr =>
    hI pre W _ (some (w.heap.size + 1)) h (grownBy_putObj' W _ _) (fun k e => by cases e; exact ⟨Nat.le_succ _, _, hr, rfl⟩)
  refine ⟨w.heap.size + 1, [{ target := .collected w.heap.size, args := #[] }], _, { target := .fn (.func gf) lb, args := #[.func (.yield (w.heap.size + 1)) #[] #[]] }, (w.alloc (.deferred (some []))).alloc (.loop (rc .ready)), gf, #[.func (.yield (w.heap.size + 1)) #[] #[]] ++ lb, (w.alloc (.deferred (some []))).alloc (.loop (rc .ready)), hlay, ?_, fun _ _ => trivial, ?_, (fun h => by cases h), ?_⟩
  · simp only [resolve, hg]
    simp [go_sem]
    try rfl
  · simp [invoke, go_sem, eg]
  · refine (hseq (fun pre W => I pre W ∧ W.heap[w.heap.size + 1]? = some (.loop (rc .ready)) ∧ W.heap[w.heap.size]? = some (.deferred (some []))) _ hz1 hb1 ?_ ?_ ⟨hI1, hl1, hd1⟩).mono ?_
    · intro pre W W' row hs hgr hr
      refine ⟨hI pre W W' row hs.1 hgr (fun r e => ⟨Nat.le_trans (by omega) (hr r e).1, (hr r e).2⟩), ?_, ?_⟩
      · exact (hgr.block _ (heap_lt hs.2.1) (fun e => by have := (hr _ e.symm).1; omega)).trans hs.2.1
      · exact (hgr.block _ (heap_lt hs.2.2) (fun e => by have := (hr _ e.symm).1; omega)).trans hs.2.2
    · rintro pre x W ⟨hi, hl, hd⟩ hlen
      refine ⟨fn, _, assign, body, run_yield hl (hps x), roundIn_of_wpIn trivial (hassign x W _ ⟨_, run_beginRound hl rfl, ?_⟩)⟩
      have hl2 : (W.putObj (w.heap.size + 1) (.loop (rc .busy))).heap[w.heap.size + 1]? = some (.loop (rc .busy)) := World.putObj_heap_same (heap_lt hl)
      have hd2 : (W.putObj (w.heap.size + 1) (.loop (rc .busy))).heap[w.heap.size]? = some (.deferred (some [])) := (World.putObj_heap_other (by omega)).trans hd
      refine wpIn_mono (hbody pre x _ (hput pre W _ (rc .busy) hi hl) hlen) ?_
      rintro e a3 W3 ⟨rfl, hkf, hkp, hi3⟩
      have hl3 := hkf.same _ _ (by omega) hl2 rfl
      have hd3 := hkf.same _ _ (Nat.le_refl _) hd2 rfl
      refine ⟨_, _, run_endRound none hl3, rfl, ⟨hput _ _ _ (rc .ready) hi3 hl3, World.putObj_heap_same (heap_lt hl3), (World.putObj_heap_other (by omega)).trans hd3⟩, hKt (hKt (hKb W _ (rc .busy) hl) hkp) (hKb W3 _ (rc .ready) hl3)⟩
    · rintro e W2 ⟨⟨v, rfl⟩, xs, hS, hi, hl, hd⟩
      refine ⟨none, _, run_endLoop hl (by simp [rc]), hdone xs _ hS (hput xs W2 _ ⟨.exhausted, none, fn, a.tmps, ps, assign, body, w.heap.size⟩ hi hl) ((World.putObj_heap_other (by omega)).trans hd)⟩
end Go.Proofs.YtgmfjninimebmaaGreatDoor
namespace Go.Proofs.YtgmfjninimebmaaGreatDoor
open Go.RowKit Go.Maps Go.Shelf
attribute [local go_sem] Oper.semAt_some
set_option linter.unusedVariables false
set_option linter.unusedSimpArgs false

/-- Block k is not the row of the slice in box fb. -/
def Fg (fb : Nat) (W : World) (k : Nat) : Prop := ∀ v, W.cell? ⟨fb, 0, none⟩ = some v → v.ownBlock ≠ some k
/-- What a round of Salvage keeps. -/
structure KO (n0 l0 fb bk : Nat) (W W' : World) : Prop where
  bel : Below n0 W W'
  fr : ∀ (k : Nat) (cs : Array Value) (fz : Nat × Nat), W.heap[k]? = some (.cells cs 101 fz) → W'.heap[k]? = some (.cells cs 101 fz)
  kb : W'.heap[bk]? = W.heap[bk]?
  oth : ∀ (k : Nat) (o : Obj), l0 < k → W.heap[k]? = some o → o.isCells = false → W'.heap[k]? = some o
  fgn : ∀ k, k < W.heap.size → l0 < k → Fg fb W k → W'.heap[k]? = W.heap[k]? ∧ Fg fb W' k
theorem KO.trans {n0 l0 fb bk : Nat} {A B C : World} (h : KO n0 l0 fb bk A B) (g : KO n0 l0 fb bk B C) : KO n0 l0 fb bk A C :=
  ⟨h.bel.trans g.bel, fun k cs fz hk => g.fr k cs fz (h.fr k cs fz hk), g.kb.trans h.kb, fun k o hl hk ho => g.oth k o hl (h.oth k o hl hk ho) ho, fun k hk hl hf =>
    let ⟨h1, h2⟩ := h.fgn k hk hl hf
    let ⟨g1, g2⟩ := g.fgn k (Nat.lt_of_lt_of_le hk h.bel.size) hl h2
    ⟨g1.trans h1, g2⟩⟩
theorem round_any {m m' l1 : Nat} {P : Program} {l : Nat} {f : FuncId} {tmps : Array Value} {assign body : Code} {w : World} {R : Ending → World → Prop} (h : RoundIn Fence.wide m P l f tmps assign body w R) : RoundIn (Fence.wide.inRound l1) m' P l f tmps assign body w R :=
  ⟨h.1, fun c cs _ => h.2 c cs (room_wide _)⟩

/-- Between two rounds of payloads. -/
def PyI (J : List ByteArray → World → Prop) (b0 bk fb l0 : Nat) (k : Int) (pre : List Fr) (W : World) : Prop :=
  J ((pre.filter (gd k)).map rfB) W ∧ W.heap[b0]? = some (.cells #[.func (.yield l0) #[] #[]] 67 (0, 0)) ∧ W.heap[bk]? = some (.cells #[.int .i64 k] 3 (0, 0)) ∧ W.heap[b0 + 1]?.isSome = true ∧ Fg fb W b0 ∧ Fg fb W (b0 + 1)
theorem some_lt {W : World} {b : Nat} (h : W.heap[b]?.isSome = true) : b < W.heap.size := by
  by_cases hlt : b < W.heap.size
  · exact hlt
  · rw [Array.getElem?_eq_none (by omega)] at h; cases h
theorem fg_kept {fb k B : Nat} {W W' : World} {row : Option Nat} (h : Fg fb W k) (hg : W.grownBy W' row) (hf : fb < B) (hB : B ≤ W.heap.size) (hr : ∀ r, row = some r → B ≤ r) : Fg fb W' k := by
  intro v hv
  have e : W'.heap[fb]? = W.heap[fb]? := hg.block fb (by omega) (fun e => by have := hr fb e.symm; omega)
  exact h v ((cell_of_block e).symm.trans hv)
theorem pyI_own {J : List ByteArray → World → Prop} {b0 bk fb l0 B B0 : Nat} {k : Int} (hJ : OwnFrom B0 J) (hB : B0 ≤ B) (hf : fb < b0) (hb : b0 + 2 ≤ B) : OwnFrom B (PyI J b0 bk fb l0 k) := by
  rintro pre W W' row ⟨h1, h2, h3, h4, h5, h6⟩ hg hr
  have hkept := kept_of hg (fun r e => (hr r e).2)
  have hlt : b0 < W.heap.size := heap_lt h2
  have h4' : b0 + 1 < W.heap.size := by
    by_cases hlt : b0 + 1 < W.heap.size
    · exact hlt
    · rw [Array.getElem?_eq_none (by omega)] at h4; cases h4
  refine ⟨hJ _ _ _ _ h1 hg (fun r e => ⟨Nat.le_trans hB (hr r e).1, (hr r e).2⟩), hkept _ _ h2 rfl, hkept _ _ h3 rfl, ?_, fg_kept (B := b0 + 1) h5 hg (by omega) (by omega) (fun r e => by have := (hr r e).1; omega), fg_kept (B := b0 + 1) h6 hg (by omega) (by omega) (fun r e => by have := (hr r e).1; omega)⟩
  rw [hg.block _ h4' (fun e => by have := (hr _ e.symm).1; omega)]
  exact h4

set_option maxRecDepth 100000 in
set_option maxHeartbeats 2000000 in
theorem pays1_in (n : Nat) (hn : 3 ≤ n) (l0 bs bk fb n₀ B0 N : Nat) (s : ByteArray) (k : Int) (hs : s.size ≤ 1048576) (J : List ByteArray → World → Prop) (W0 : World) (hJ : OwnFrom B0 J) (hB0 : B0 ≤ W0.heap.size) (hl0 : l0 < B0) (hN : (frs s 0).length ≤ N)
    (hY : ∀ pre (x : ByteArray) W, J pre W → pre.length < N → YieldAt Fence.wide (n - 1) Tryz.prog l0 #[.string x] W fun e W' => e = .returned (.bool true) ∧ J (pre ++ [x]) W' ∧ KO n₀ l0 fb bk W W')
    (hbs : W0.cell? ⟨bs, 0, none⟩ = some (.string s)) (hbk : W0.heap[bk]? = some (.cells #[.int .i64 k] 3 (0, 0))) (hst : Steps W0) (hg : 0 < n₀) (hn0 : n₀ ≤ W0.heap.size) (hfb : fb < W0.heap.size) (hf0 : ∀ v j, W0.cell? ⟨fb, 0, none⟩ = some v → v.ownBlock = some j → j < W0.heap.size) (h0 : J [] W0) :
    CallsIn Fence.wide n Tryz.prog 126 #[.func (.yield l0) #[] #[], .pointer (some ⟨bs, 0, none⟩), .pointer (some ⟨bk, 0, none⟩)] W0 fun e W' => (∃ v, e = .returned v) ∧ ∃ ys, ys = svL s k ∧ J ys W' := by
  have HSV : Hid (svL s k = ((frs s 0).filter (gd k)).map rfB) := rfl
  generalize svL s k = SV at *
  refine callsIn_of_wp_marks Tryz.func126 rfl trivial ?_ rfl
  simp only [Tryz.ntmps126, List.size_toArray, List.length_cons, List.length_nil, Nat.reduceAdd, Nat.reduceSub, Array.replicate_succ, Array.replicate_zero, List.push_toArray, List.append_toArray, List.nil_append, List.cons_append]
  replace hY := hd hY
  have h1n : 1 ≤ n := by omega
  have h2n : 1 ≤ n - 1 - 1 := by omega
  have hbs1 : (W0.alloc (.cells #[.func (.yield l0) #[] #[]] 67)).cell? ⟨bs, 0, none⟩ = some (.string s) := (((Below.refl W0.heap.size W0).alloc (Nat.le_refl _) _).cell (p := ⟨bs, 0, none⟩) (cell_lt hbs)).trans hbs
  gi_wp2_with (refine ⟨trivial, ?_⟩; gi_at_call 77; refine (frames_in _ _ trivial rfl _ _).mono ?_; rintro e w' ⟨rfl, rfl⟩)
  have hbW : Below W0.heap.size W0 ((W0.alloc (.cells #[.func (.yield l0) #[] #[]] 67)).alloc (.cells #[.string s] 9)) := ((Below.refl _ _).alloc (Nat.le_refl _) _).alloc (by simp) _
  have hy0 : ((W0.alloc (.cells #[.func (.yield l0) #[] #[]] 67)).alloc (.cells #[.string s] 9)).heap[W0.heap.size]? = some (.cells #[.func (.yield l0) #[] #[]] 67 (0, 0)) := by
    rw [Below.heap_alloc _ _ _ (by simp)]
    exact alloc_at _ _ _ rfl
  have hs1 : ((W0.alloc (.cells #[.func (.yield l0) #[] #[]] 67)).alloc (.cells #[.string s] 9)).heap[W0.heap.size + 1]? = some (.cells #[.string s] 9 (0, 0)) := alloc_at _ _ _ (by simp)
  have hsz : ((W0.alloc (.cells #[.func (.yield l0) #[] #[]] 67)).alloc (.cells #[.string s] 9)).heap.size = W0.heap.size + 2 := by simp
  generalize ((W0.alloc (.cells #[.func (.yield l0) #[] #[]] 67)).alloc (.cells #[.string s] 9)) = Wb at *
  have hfW : Wb.cell? ⟨fb, 0, none⟩ = W0.cell? ⟨fb, 0, none⟩ := cell_of_block (hbW.block fb hfb)
  have hI0 : PyI J W0.heap.size bk fb l0 k [] Wb := ⟨hJ _ _ _ none h0 (grown_of_below hbW none) (fun r e => by cases e), hy0, (hbW.block bk (heap_lt hbk)).trans hbk, by rw [hs1]; rfl,
    fun v hv e => by rw [hfW] at hv; exact Nat.lt_irrefl _ (hf0 v _ hv e), fun v hv e => by rw [hfW] at hv; have := hf0 v _ hv e; omega⟩
  refine wpIn_rangeFunc_ownH rfl (by omega) (gf := 116) (lb := #[.pointer (some ⟨W0.heap.size + 1, 0, none⟩)]) rfl trivial (enters_of Tryz.func116 (by kernel_rfl) rfl)
    (frames_stops _ (by omega) (W0.heap.size + 1) n₀ s hs Wb (by omega) (one_cell hs1).1 (hst.below hbW) hg) KF.trans (KF.put (by omega) (by omega)) (Below.refl _ _) (fun _ => rfl)
    (PyI J W0.heap.size bk fb l0 k) (fun _ _ _ => False) (pyI_own hJ (by omega) hfb (by omega)) (fun _ _ _ _ _ hs _ _ => hs) hI0
    (fun x a' W => ∃ Bx, W.heap[Bx]? = some (.cells #[.bool x.isSome, .int .i64 (rfK x : Nat), .string (rfB x), .int .i64 (rfN x : Nat)] 101 (0, 0)) ∧ a' = { tmps := #[.func (.yield l0) #[] #[], .pointer (some ⟨bs, 0, none⟩), .pointer (some ⟨bk, 0, none⟩), .pointer (some ⟨W0.heap.size, 0, none⟩), .pointer (some ⟨Bx, 0, none⟩), .string s, .func (.func 116) #[] #[.pointer (some ⟨W0.heap.size + 1, 0, none⟩)], .agg #[.bool x.isSome, .int .i64 (rfK x : Nat), .string (rfB x), .int .i64 (rfN x : Nat)], undef, undef, undef, undef, undef, undef, undef, undef, undef, undef, undef, undef, undef, undef, undef], defers := [] })
    ?ax ?assign ?body ?done ?stop
  case ax =>
    intro x a'
    refine Own.from (fun _ A B' row hs hg hr => ?_) _
    obtain ⟨Bx, h1, h2⟩ := hs
    exact ⟨Bx, kept_of hg hr _ _ h1 rfl, h2⟩
  case assign =>
    rintro l pre x W K hI hK
    have hxe := rfV_eq x
    have hlt1 : W0.heap.size + 1 < W.heap.size := some_lt hI.2.2.2.1
    gi_wp2
    have hb1 : Below W.heap.size W (W.alloc (.cells #[.bool x.isSome, .int .i64 (rfK x : Nat), .string (rfB x), .int .i64 (rfN x : Nat)] 101)) := (Below.refl _ _).alloc (Nat.le_refl _) _
    exact hK _ _ ((KeepsOthers.alloc _ _).from _) (KF.of hb1 (by omega) hlt1) (pyI_own (B := W0.heap.size + 2) hJ (by omega) hfb (Nat.le_refl _) pre W _ none hI (grown_of_below hb1 none) (fun r e => by cases e)) ⟨W.heap.size, World.heap_alloc_new _ _, rfl⟩
  case body =>
    rintro l pre x a' W hl ⟨r, hr⟩ ⟨hJ1, hy1, hk1, h41, hf1, hf2⟩ ⟨Bx, hX, rfl⟩ hlt
    obtain ⟨⟨x0, x1, x2, x3⟩, -⟩ := four_cells hX
    obtain ⟨k0, -⟩ := one_cell hk1
    obtain ⟨y0, -⟩ := one_cell hy1
    have hlt1 : W0.heap.size + 1 < W.heap.size := some_lt h41
    have HJ1 : Hid (J ((pre.filter (gd k)).map rfB) W) := hJ1
    have HN : Hid (((pre.filter (gd k)).map rfB).length < N) := by
      show _ < _
      rw [List.length_map]
      exact Nat.lt_of_le_of_lt (List.length_filter_le _ _) (Nat.lt_of_lt_of_le hlt hN)
    have HP : Hid (PyI J W0.heap.size bk fb l0 k pre W) := ⟨hJ1, hy1, hk1, h41, hf1, hf2⟩
    clear hX hk1 hy1 h41 hJ1
    cases hok : x.isSome with
    | false =>
      have hgd : gd k x = false := by unfold gd; rw [hok]; rfl
      have HF : Hid (((pre ++ [x]).filter (gd k)).map rfB = (pre.filter (gd k)).map rfB) := by show _ = _; rw [List.filter_append]; simp [hgd]
      clear hgd
      rw [hok] at x0
      gi_wp2_with fail
      refine ⟨fun _ h => (by cases h), ?_⟩
      gi_wp2
      exact ⟨KeepsFrom.refl _ _, KF.refl _ _ _, by unfold PyI; rw [HF.out]; exact HP.out⟩
    | true =>
      rw [hok] at x0
      by_cases hk : ((rfK x : Nat) : Int) = k
      · have hne : (((rfK x : Nat) : Int) == k) = true := by rw [hk]; simp
        have hgd : gd k x = true := by unfold gd; rw [hok, hk]; simp
        have HF : Hid (((pre ++ [x]).filter (gd k)).map rfB = (pre.filter (gd k)).map rfB ++ [rfB x]) := by show _ = _; rw [List.filter_append]; simp [hgd]
        clear hgd
        have hk' := hd hk
        clear hk
        obtain ⟨fn, tmps, assign, body, hy, hR⟩ := hY.out _ (rfB x) W HJ1.out HN.out
        gi_wp2_with fail
        refine (round_any hR).mono ?_
        rintro e W3 ⟨rfl, hJ3, hk3⟩
        have HW3 : Hid (PyI J W0.heap.size bk fb l0 k (pre ++ [x]) W3) := by
          obtain ⟨p1, p2, p3, p4, p5, p6⟩ := HP.out
          have q1 := hk3.fgn _ (by omega) (by omega) hf1
          have q2 := hk3.fgn _ hlt1 (by omega) hf2
          refine ⟨by rw [HF.out]; exact hJ3, q1.1.trans p2, hk3.kb.trans p3, by rw [q2.1]; exact p4, q1.2, q2.2⟩
        have HKF : Hid (KF n₀ (W0.heap.size + 1) W W3) := ⟨hk3.bel, hk3.fr, (hk3.fgn _ hlt1 (by omega) hf2).1⟩
        have HKO : Hid (KeepsFrom Wb.heap.size W W3) := ⟨hk3.bel.size, fun j o hB hj ho => hk3.oth j o (by omega) hj ho⟩
        gi_wp2
        exact ⟨HKO.out, HKF.out, HW3.out⟩
      · have hne : (((rfK x : Nat) : Int) == k) = false := by rw [beq_eq_false_iff_ne]; exact hk
        have hgd : gd k x = false := by unfold gd; rw [hok, hne]; rfl
        have HF : Hid (((pre ++ [x]).filter (gd k)).map rfB = (pre.filter (gd k)).map rfB) := by show _ = _; rw [List.filter_append]; simp [hgd]
        clear hgd
        have hk' := hd hk
        clear hk
        gi_wp2_with fail
        refine ⟨fun _ h => (by cases h), ?_⟩
        gi_wp2
        exact ⟨KeepsFrom.refl _ _, KF.refl _ _ _, by unfold PyI; rw [HF.out]; exact HP.out⟩
  case done =>
    rintro D ys W hD rfl hI hK
    gi_wp2
    refine ⟨by simp, .inl ⟨_, _, rfl, run_takeDeferred hK, ?_⟩⟩
    exact ⟨_, results_none rfl _ _ _, ⟨_, rfl⟩, _, HSV.out.symm, hJ _ _ _ (some D) hI.1 (grownBy_putObj' W D (.deferred none)) (fun r e => by cases e; exact ⟨by omega, _, hK, rfl⟩)⟩
  case stop =>
    rintro D c pre W _ _ h _
    exact h.elim
end Go.Proofs.YtgmfjninimebmaaGreatDoor
namespace Go.Proofs.YtgmfjninimebmaaGreatDoor
open Go.RowKit Go.Maps Go.Shelf
attribute [local go_sem] Oper.semAt_some
set_option linter.unusedVariables false
set_option linter.unusedSimpArgs false

theorem payloads_in (F : Fence) (n : Nat) (h5 : F.fn 82) (hro : F.round = none) (s : ByteArray) (k : Int) (w : World) :
    CallsIn F n Tryz.prog 82 #[.string s, .int .i64 k] w fun e w' => e = .returned (.func (.func 126) #[] #[.pointer (some ⟨w.heap.size, 0, none⟩), .pointer (some ⟨w.heap.size + 1, 0, none⟩)]) ∧ w' = (w.alloc (.cells #[.string s] 9)).alloc (.cells #[.int .i64 k] 3) := by
  refine callsIn_of_wp Tryz.func82 rfl h5 ?_ hro
  simp only [Tryz.ntmps82, List.size_toArray, List.length_cons, List.length_nil, Nat.reduceAdd, Nat.reduceSub, Array.replicate_succ, Array.replicate_zero, List.push_toArray, List.append_toArray, List.nil_append, List.cons_append]
  gi_wp2
  go_ret
  exact ⟨rfl, rfl⟩

/-- The boxes of Salvage. -/
structure SvB (n0 : Nat) (k : Int) (pre : List ByteArray) (v : Value) (W : World) : Prop where
  hv : W.heap[n0 + 1]? = some (.cells #[v] 73 (0, 0))
  hk : W.heap[n0 + 3]? = some (.cells #[.int .i64 k] 3 (0, 0))
  hrow : W.ownsRow n0 9 1 v pre.length (strL pre)
theorem SvB.blocks {n0 : Nat} {k : Int} {pre : List ByteArray} {v : Value} {W W' : World} (h : SvB n0 k pre v W) (hb : ∀ (g : Nat) (o : Obj), W.heap[g]? = some o → o.isCells = true → W'.heap[g]? = some o) : SvB n0 k pre v W' :=
  ⟨hb _ _ h.hv rfl, hb _ _ h.hk rfl, owns_blocks h.hrow hb⟩
def SvI (n0 : Nat) (k : Int) (w : World) (pre : List ByteArray) (W : World) : Prop := (∃ v, SvB n0 k pre v W) ∧ Below n0 w W
theorem svI_own (n0 : Nat) (k : Int) (B : Nat) (w : World) (hn : n0 ≤ w.heap.size) (hB : n0 ≤ B) : OwnFrom B (SvI n0 k w) :=
  OwnFrom.and (Own.from (fun _ A B' row hs hg hr => hs.imp fun v h => h.blocks (kept_of hg hr)) _) (ownFrom_below hn hB)
theorem KO.put {n0 l0 fb bk : Nat} (h1 : n0 ≤ l0) (h2 : fb < l0) (h3 : bk < l0) (W : World) (r r' : Loop) (h : W.heap[l0]? = some (.loop r)) : KO n0 l0 fb bk W (W.putObj l0 (.loop r')) := by
  refine ⟨?_, fun k cs fz hk => ?_, World.putObj_heap_other (by omega), fun k o hl hk _ => (World.putObj_heap_other (by omega)).trans hk, fun k hk hl hf => ⟨World.putObj_heap_other (by omega), fun v hv => hf v ?_⟩⟩
  · exact (Below.refl n0 W).grown (grownBy_putObj' W l0 _) (Nat.le_trans h1 (Nat.le_of_lt (heap_lt h))) (fun k e => by cases e; exact h1)
  · have hne : k ≠ l0 := fun e => by subst e; rw [h] at hk; cases hk
    exact (World.putObj_heap_other hne).trans hk
  · exact (cell_of_block (World.putObj_heap_other (by omega))).symm.trans hv
theorem owns_ne {W : World} {B n b : Nat} {v : Value} {xs : List Value} (h : W.ownsRow B 9 1 v n xs) {cs : Array Value} {t : TypeId} {fz : Nat × Nat} (hb : W.heap[b]? = some (.cells cs t fz)) (ht : t ≠ 9) : some b ≠ v.ownBlock := by
  obtain ⟨-, h2⟩ := h
  intro e
  rcases h2 with ⟨rfl, -⟩ | ⟨g, cap, cur, rfl, hg, hbk, -⟩
  · cases e
  · cases e
    rw [hb] at hbk
    cases hbk
    exact ht rfl
theorem owns_cells {W : World} {B n j : Nat} {v : Value} {xs : List Value} (h : W.ownsRow B 9 1 v n xs) (e : v.ownBlock = some j) : ∃ cs, W.heap[j]? = some (.cells cs 9 (0, 0)) := by
  obtain ⟨-, h2⟩ := h
  rcases h2 with ⟨rfl, -⟩ | ⟨g, cap, cur, rfl, hg, hbk, -⟩
  · cases e
  · cases e
    exact ⟨_, hbk⟩
/-- Behind an append and the store of its answer. -/
theorem SvB.app {n0 : Nat} {k : Int} {pre : List ByteArray} {x : ByteArray} {v v' : Value} {W w1 : World} {o : Obj} (h : SvB n0 k pre v W) (hg : (W.alloc o).grownBy w1 v.ownBlock) (hrow : w1.ownsRow n0 9 1 v' (pre.length + 1) (strL pre ++ [.string x]))
    (hat : v'.ownBlock = v.ownBlock ∨ v'.ownBlock = some (W.alloc o).heap.size) : (∃ cs, w1.heap[n0 + 1]? = some (.cells #[cs] 73 (0, 0))) ∧ SvB n0 k (pre ++ [x]) v' (w1.setCell ⟨n0 + 1, 0, none⟩ v') ∧ KO n0 (n0 + 5) (n0 + 1) (n0 + 3) W (w1.setCell ⟨n0 + 1, 0, none⟩ v') ∧ KeepsOthers W (w1.setCell ⟨n0 + 1, 0, none⟩ v') := by
  have hb : Below W.heap.size W (W.alloc o) := (Below.refl _ _).alloc (Nat.le_refl _) _
  have hl : ∀ b, b < W.heap.size → b < (W.alloc o).heap.size := fun b hb => by simp; omega
  have hsz : (W.alloc o).heap.size = W.heap.size + 1 := by simp
  have hvl := heap_lt h.hv
  have hkl := heap_lt h.hk
  have e1 : w1.heap[n0 + 1]? = some (.cells #[v] 73 (0, 0)) := ((hg.block _ (hl _ hvl) (owns_ne h.hrow h.hv (by decide))).trans (hb.block _ hvl)).trans h.hv
  have e3 : w1.heap[n0 + 3]? = some (.cells #[.int .i64 k] 3 (0, 0)) := ((hg.block _ (hl _ hkl) (owns_ne h.hrow h.hk (by decide))).trans (hb.block _ hkl)).trans h.hk
  have f1 : (w1.setCell ⟨n0 + 1, 0, none⟩ v').heap[n0 + 1]? = some (.cells #[v'] 73 (0, 0)) := by rw [heap_setCell_same _ _ _ _ _ _ e1]; rfl
  have f3 : (w1.setCell ⟨n0 + 1, 0, none⟩ v').heap[n0 + 3]? = some (.cells #[.int .i64 k] 3 (0, 0)) := (Below.heap_setCell _ _ _ _ (by simp)).trans e3
  have hko : KeepsOthers W (w1.setCell ⟨n0 + 1, 0, none⟩ v') := ((KeepsOthers.alloc _ _).trans (KeepsOthers.of_grownBy hg (fun j o' e hj => by
    obtain ⟨cs, hc⟩ := owns_cells h.hrow e
    rw [hb.block j (heap_lt hc), hc] at hj
    cases hj
    rfl))).trans (KeepsOthers.setCell _ _ _)
  refine ⟨⟨v, e1⟩, ⟨f1, f3, ?_⟩, ⟨?_, fun j cs fz hj => ?_, f3.trans h.hk.symm, fun j o' _ hj ho => hko.same j o' hj ho, fun j hj hlj hf => ?_⟩, hko⟩
  · rw [List.length_append, strL_snoc]
    exact owns_store hrow e1 (by decide) v'
  · exact (((hb.mono (by omega)).grown hg (by omega) (owns_base h.hrow))).setCell (p := ⟨n0 + 1, 0, none⟩) (by simp) v'
  · have hjl := heap_lt hj
    have hne : j ≠ n0 + 1 := fun e => by subst e; rw [h.hv] at hj; cases hj
    rw [Below.heap_setCell _ _ _ _ (by simpa using hne)]
    exact ((hg.block _ (hl _ hjl) (owns_ne h.hrow hj (by decide))).trans (hb.block _ hjl)).trans hj
  · have hne : j ≠ n0 + 1 := by omega
    have hv0 := hf v (one_cell h.hv).1
    refine ⟨?_, fun u hu => ?_⟩
    · rw [Below.heap_setCell _ _ _ _ (by simpa using hne)]
      exact (hg.block _ (hl _ hj) (fun e => hv0 e.symm)).trans (hb.block _ hj)
    · rw [(one_cell f1).1] at hu
      cases hu
      rcases hat with e | e
      · rw [e]; exact hv0
      · rw [e, hsz]
        intro e2
        cases e2
        omega

end Go.Proofs.YtgmfjninimebmaaGreatDoor
namespace Go.Proofs.YtgmfjninimebmaaGreatDoor
set_option linter.unusedVariables false
set_option linter.unusedSimpArgs false

theorem getD_left {a b : List UInt8} {i : Nat} (h : i < a.length) : (a ++ b).getD i 0 = a.getD i 0 := by
  simp only [List.getD]
  rw [List.getElem?_append_left h]
theorem getD_right {a b : List UInt8} {i : Nat} (h : a.length ≤ i) : (a ++ b).getD i 0 = b.getD (i - a.length) 0 := by
  simp only [List.getD]
  rw [List.getElem?_append_right h]
theorem hdr_len (k i : Nat) : (hdr k i).length = if i % 63 = 0 then 1 else 0 := by
  unfold hdr
  split
  · subst_vars; rfl
  · split <;> rfl
theorem gby_at (k : Nat) (f : Nat → UInt8) : ∀ (N i : Nat), i < N → (gby k f N).getD (i + i / 63 + 1) 0 = f i := by
  intro N
  induction N with
  | zero => intro i hi; omega
  | succ N ih =>
    intro i hi
    simp only [gby]
    have hl := gby_len k f N
    have hh := hdr_len k N
    unfold pagesN at hl
    by_cases hiN : i = N
    · subst hiN
      have e : (gby k f i ++ hdr k i).length = i + i / 63 + 1 := by
        rw [List.length_append, hl, hh]
        split <;> omega
      rw [getD_right (by omega), e, Nat.sub_self]
      rfl
    · rw [getD_left (by rw [List.length_append]; omega), getD_left (by omega)]
      exact ih i (by omega)
theorem gby_hd (k : Nat) (f : Nat → UInt8) : ∀ (N j : Nat), 63 * j < N → (gby k f N).getD (64 * j) 0 = if j = 0 then UInt8.ofNat k else 99 := by
  intro N
  induction N with
  | zero => intro j hj; omega
  | succ N ih =>
    intro j hj
    simp only [gby]
    have hl := gby_len k f N
    unfold pagesN at hl
    by_cases hjN : 63 * j = N
    · have hh := hdr_len k N
      rw [if_pos (by omega)] at hh
      rw [getD_left (by rw [List.length_append]; omega), getD_right (by omega)]
      rw [show 64 * j - (gby k f N).length = 0 by omega]
      unfold hdr
      by_cases hj0 : j = 0
      · rw [if_pos hj0, if_pos (by omega)]; rfl
      · rw [if_neg hj0, if_neg (by omega), if_pos (by omega)]; rfl
    · rw [getD_left (by rw [List.length_append]; omega), getD_left (by omega)]
      exact ih j (by omega)

/-- How a frame lies in a text: byte by byte. -/
structure Lies (L : List UInt8) (F k : Nat) (P : List UInt8) : Prop where
  len : F + 64 * pagesN (8 + P.length) ≤ L.length
  hd : ∀ j, j < pagesN (8 + P.length) → L.getD (F + j * 64) 0 = if j = 0 then UInt8.ofNat k else 99
  cell : ∀ i, i < 63 * pagesN (8 + P.length) → cb L F i = (body k P).getD i 0
theorem frB_lenR (k : Nat) (P : List UInt8) : (frB k P).length = 64 * pagesN (8 + P.length) := by
  unfold frB
  rw [body_len, fby_len]
  unfold pagesN
  omega
theorem lies_of (A T P : List UInt8) (k : Nat) : Lies (A ++ (frB k P ++ T)) A.length k P := by
  have hl := frB_lenR k P
  have hg : frB k P = gby k (fun i => (body k P).getD i 0) (63 * pagesN (8 + P.length)) := by
    unfold frB
    rw [body_len, fby_gby]
  refine ⟨?_, fun j hj => ?_, fun i hi => ?_⟩
  · simp only [List.length_append]
    omega
  · rw [getD_right (by omega), show A.length + j * 64 - A.length = 64 * j by omega, getD_left (by omega), hg]
    exact gby_hd _ _ _ j (by omega)
  · have hi64 : i + i / 63 + 1 < 64 * pagesN (8 + P.length) := by omega
    unfold cb
    rw [getD_right (by omega), show A.length + 1 + i / 63 * 64 + i % 63 - A.length = i + i / 63 + 1 by omega, getD_left (by omega), hg]
    exact gby_at _ _ _ i hi

theorem word_of {L : List UInt8} {F j n : Nat} (hn : n < 4294967296) (h : ∀ i, i < 4 → cb L F (j + i) = (four n).getD i 0) : word L F j = n := by
  unfold word
  refine (four_eq hn _ _ _ _ ?_).symm
  rw [show cb L F j = (four n).getD 0 0 from h 0 (by omega), h 1 (by omega), h 2 (by omega), h 3 (by omega)]
  rfl
theorem Lies.word0 {L : List UInt8} {F k : Nat} {P : List UInt8} (h : Lies L F k P) (hP : P.length ≤ 1048576) : word L F 0 = P.length := by
  have hp := pages_ge (8 + P.length)
  refine word_of (by omega) fun i hi => ?_
  rw [Nat.zero_add, h.cell i (by omega), body_get, if_pos hi]
theorem Lies.word4 {L : List UInt8} {F k : Nat} {P : List UInt8} (h : Lies L F k P) : word L F 4 = crc (UInt8.ofNat k :: P) := by
  have hp := pages_ge (8 + P.length)
  refine word_of (crc_lt _) fun i hi => ?_
  rw [h.cell (4 + i) (by omega), body_get, if_neg (by omega), if_pos (by omega), show 4 + i - 4 = i by omega]
theorem pay_of {L : List UInt8} {F : Nat} {P : List UInt8} (h : ∀ i, i < P.length → cb L F (8 + i) = P.getD i 0) : pay L F P.length = P := by
  apply List.ext_getElem?
  intro i
  simp only [pay, List.getElem?_map]
  by_cases hi : i < P.length
  · rw [List.getElem?_range hi]
    simp only [Option.map_some]
    rw [h i hi, List.getElem?_eq_getElem hi, List.getD_eq_getElem?_getD, List.getElem?_eq_getElem hi]
    rfl
  · rw [List.getElem?_eq_none (by simp; omega), List.getElem?_eq_none (by omega)]
    rfl
theorem Lies.pay {L : List UInt8} {F k : Nat} {P : List UInt8} (h : Lies L F k P) : pay L F P.length = P := by
  have hp := pages_ge (8 + P.length)
  refine pay_of fun i hi => ?_
  rw [h.cell (8 + i) (by omega), body_get, if_neg (by omega), if_neg (by omega), show 8 + i - 8 = i by omega]
theorem Lies.zero {L : List UInt8} {F k : Nat} {P : List UInt8} (h : Lies L F k P) (i : Nat) (h1 : 8 + P.length ≤ i) (h2 : i < 63 * pagesN (8 + P.length)) : cb L F i = 0 := by
  rw [h.cell i h2, body_get, if_neg (by omega), if_neg (by omega), List.getD_eq_getElem?_getD, List.getElem?_eq_none (by omega)]
  rfl
/-- A frame is read back. -/
theorem rfAt_lies {L : List UInt8} {p k : Nat} {P : List UInt8} (h : Lies L (p * 64) k P) (hk : kindOk (k : Int) = true) (hk2 : k < 256) (hP : P.length ≤ 1048576) : rfAt L p = some (k, P, p + pagesN (8 + P.length)) := by
  have hp : 1 ≤ pagesN (8 + P.length) := by unfold pagesN; omega
  have h0 : L.getD (p * 64) 0 = UInt8.ofNat k := by have := h.hd 0 (by omega); simpa using this
  have hk8 : (UInt8.ofNat k).toNat = k := by simp [UInt8.toNat_ofNat']; omega
  unfold rfAt
  rw [h0, hk8, h.word0 hP, h.pay, if_pos]
  refine ⟨hk, hP, h.len, (marks_iff _ _ _).2 fun i h1 h2 => ?_, h.word4, (zeros_iff _ _ _ _).2 fun i h1 h2 => h.zero i h1 h2⟩
  have := h.hd i h2
  rw [if_neg (by omega)] at this
  exact this
end Go.Proofs.YtgmfjninimebmaaGreatDoor
