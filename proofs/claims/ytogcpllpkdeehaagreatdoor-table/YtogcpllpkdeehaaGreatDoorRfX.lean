import Derived.Test.YtogcpllpkdeehaaGreatDoorRfP
namespace Go.Proofs.YtogcpllpkdeehaaGreatDoor
open Go.RowKit Go.Maps Go.Shelf
attribute [local go_sem] Oper.semAt_some
set_option linter.unusedVariables false
set_option linter.unusedSimpArgs false

/-- pagesFrom: the function value that yields the pages. -/
theorem pages_in (F : Fence) (n : Nat) (h5 : F.fn 84) (hro : F.round = none) (s : ByteArray) (p : Nat) (w : World) :
    CallsIn F n Tryz.prog 84 #[.string s, .int .i64 p] w fun e w' => e = .returned (.func (.func 93) #[] #[.pointer (some ⟨w.heap.size, 0, none⟩), .pointer (some ⟨w.heap.size + 1, 0, none⟩)]) ∧ w' = (w.alloc (.cells #[.string s] 9)).alloc (.cells #[.int .i64 p] 3) := by
  refine callsIn_of_wp Tryz.func84 rfl h5 ?_ hro
  simp only [Tryz.ntmps84, List.size_toArray, List.length_cons, List.length_nil, Nat.reduceAdd, Nat.reduceSub, Array.replicate_succ, Array.replicate_zero, List.push_toArray, List.append_toArray, List.nil_append, List.cons_append]
  gi_wp2
  go_ret
  exact ⟨rfl, rfl⟩

theorem pages_stops (F : Fence) (n : Nat) (h6 : F.fn 93) (hro : F.round = none) (hn : 1 ≤ n) (bs bp n₀ : Nat) (s : ByteArray) (p : Nat) (hp : p * 64 + 64 ≤ s.size) (hs : s.size ≤ 1048576) (w : World) (hbs : bs < w.heap.size) (hbp : bp < w.heap.size)
    (hcs : w.cell? ⟨bs, 0, none⟩ = some (.string s)) (hcp : w.cell? ⟨bp, 0, none⟩ = some (.int .i64 p)) :
    SeqStopsK F n Tryz.prog 93 #[.pointer (some ⟨bs, 0, none⟩), .pointer (some ⟨bp, 0, none⟩)] (fun x : Page => #[Value.string x.1]) (Below n₀) (fun ys => ys = pagesL s (p * 64)) (fun pre => pre <+: pagesL s (p * 64)) (pagesL s (p * 64)).length w := fun l J Jx W hW _ _ hY h0 =>
  pages1_in F n h6 hro hn l bs bp n₀ s p hp hs J Jx hY W ((hW.cell (p := ⟨bs, 0, none⟩) hbs).trans hcs) ((hW.cell (p := ⟨bp, 0, none⟩) hbp).trans hcp) h0
end Go.Proofs.YtogcpllpkdeehaaGreatDoor
namespace Go.Proofs.YtogcpllpkdeehaaGreatDoor
open Go.RowKit Go.Maps Go.Shelf
attribute [local go_sem] Oper.semAt_some
set_option linter.unusedVariables false
set_option linter.unusedSimpArgs false

theorem bld_blocks {T : TypeId} {B b : Nat} {p : Value} {bs : List Value} {w w' : World} (h : Lib.BuilderAtF T 5 B b p bs w) (hb : ∀ (g : Nat) (o : Obj), w.heap[g]? = some o → o.isCells = true → w'.heap[g]? = some o) : Lib.BuilderAtF T 5 B b p bs w' := by
  obtain ⟨hB, v, hbk, ⟨h1, h2⟩, hne⟩ := h
  refine ⟨hB, v, hb b _ hbk rfl, ⟨h1, ?_⟩, hne⟩
  rcases h2 with h2 | ⟨g, cap, cur, fz, rfl, hg, hgk, hrest⟩
  · exact .inl h2
  · exact .inr ⟨g, cap, cur, fz, rfl, hg, hb g _ hgk rfl, hrest⟩
theorem Bld.blocks {B b : Nat} {l : List UInt8} {w w' : World} (h : Bld B b l w) (hb : ∀ (g : Nat) (o : Obj), w.heap[g]? = some o → o.isCells = true → w'.heap[g]? = some o) : Bld B b l w' :=
  h.elim (fun x => .inl (bld_blocks x hb)) (fun x => .inr (bld_blocks x hb))

/-- The boxes of frameContent. -/
structure FcB (n0 c : Nat) (r : ByteArray) (f : Bool) (l : List UInt8) (t : Nat) (W : World) : Prop where
  hc : W.heap[n0]? = some (.cells #[.int .i64 c] 3 (0, 0))
  hr : W.heap[n0 + 1]? = some (.cells #[.string r] 9 (0, 0))
  hf : W.heap[n0 + 2]? = some (.cells #[.bool f] 4 (0, 0))
  hb : Bld (n0 + 3) (n0 + 3) l W
  ht : W.heap[n0 + 4]? = some (.cells #[.int .i64 t] 3 (0, 0))
theorem FcB.blocks {n0 c t : Nat} {r : ByteArray} {f : Bool} {l : List UInt8} {W W' : World} (h : FcB n0 c r f l t W) (hb : ∀ (g : Nat) (o : Obj), W.heap[g]? = some o → o.isCells = true → W'.heap[g]? = some o) : FcB n0 c r f l t W' :=
  ⟨hb _ _ h.hc rfl, hb _ _ h.hr rfl, hb _ _ h.hf rfl, Bld.blocks h.hb hb, hb _ _ h.ht rfl⟩
/-- What pages hold beside their first bytes; whether those behind the first go on the frame. -/
def cont (pre : List Page) : List UInt8 := pre.flatMap fun x => x.1.data.toList.drop 1
def lead0 (x : Page) : UInt8 := x.1.data.toList.getD 0 0
def good (pre : List Page) : Prop := ∀ x ∈ pre.drop 1, lead0 x = 99
def FcI (n0 c : Nat) (w : World) (pre : List Page) (W : World) : Prop := (FcB n0 c ⟨#[]⟩ false (cont pre) pre.length W ∧ pre.length < c ∧ good pre) ∧ Below n0 w W
def FcX (n0 c : Nat) (w : World) (cd : Code) (pre : List Page) (W : World) : Prop := (cd = .ret ∧ ∃ l t, (FcB n0 c ⟨#[]⟩ false l t W ∧ pre.length ≤ c ∧ ¬ good pre) ∨ (FcB n0 c ⟨(cont pre).toArray⟩ true l t W ∧ pre.length = c ∧ good pre)) ∧ Below n0 w W
theorem kept_of {W W' : World} {row : Option Nat} (hg : W.grownBy W' row) (hr : ∀ r, row = some r → ∃ o : Obj, W.heap[r]? = some o ∧ o.isCells = false) : ∀ (g : Nat) (o : Obj), W.heap[g]? = some o → o.isCells = true → W'.heap[g]? = some o := fun g o h hc => (grownBy_keeps_cells hg hr h hc).trans h
theorem fcI_own (n0 c B : Nat) (w : World) (hn : n0 ≤ w.heap.size) (hB : n0 ≤ B) : OwnFrom B (FcI n0 c w) :=
  OwnFrom.and (Own.from (fun s A B' row hs hg hr => ⟨hs.1.blocks (kept_of hg hr), hs.2⟩) _) (ownFrom_below hn hB)
theorem fcX_own (n0 c B : Nat) (w : World) (hn : n0 ≤ w.heap.size) (hB : n0 ≤ B) (cd : Code) : OwnFrom B (FcX n0 c w cd) := by
  refine OwnFrom.and (Own.from (fun s A B' row hs hg hr => ?_) _) (ownFrom_below hn hB)
  obtain ⟨rfl, l, t, h | h⟩ := hs
  · exact ⟨rfl, l, t, .inl ⟨h.1.blocks (kept_of hg hr), h.2⟩⟩
  · exact ⟨rfl, l, t, .inr ⟨h.1.blocks (kept_of hg hr), h.2⟩⟩

theorem alloc_at (W : World) (o : Obj) (k : Nat) (hk : k = W.heap.size) : (W.alloc o).heap[k]? = some o := by subst hk; exact World.heap_alloc_new _ _
theorem fcB_new (w : World) (c p : Nat) (s : ByteArray) : FcB w.heap.size c ⟨#[]⟩ false [] 0 (((((((w.alloc (.cells #[.int .i64 c] 3)).alloc (.cells #[.string ⟨#[]⟩] 9)).alloc (.cells #[.bool false] 4)).alloc (.cells #[.pointer none, .slice none 0 0] 44)).alloc (.cells #[.int .i64 0] 3)).alloc (.cells #[.string s] 9)).alloc (.cells #[.int .i64 p] 3)) := by
  refine ⟨?_, ?_, ?_, .inl ⟨Nat.le_refl _, .slice none 0 0, ?_, ⟨rfl, .inl ⟨rfl, rfl⟩⟩, ?_⟩, ?_⟩
  · rw [Below.heap_alloc _ _ _ (by simp <;> omega), Below.heap_alloc _ _ _ (by simp <;> omega), Below.heap_alloc _ _ _ (by simp <;> omega), Below.heap_alloc _ _ _ (by simp <;> omega), Below.heap_alloc _ _ _ (by simp <;> omega), Below.heap_alloc _ _ _ (by simp)]
    exact alloc_at _ _ _ rfl
  · rw [Below.heap_alloc _ _ _ (by simp <;> omega), Below.heap_alloc _ _ _ (by simp <;> omega), Below.heap_alloc _ _ _ (by simp <;> omega), Below.heap_alloc _ _ _ (by simp <;> omega), Below.heap_alloc _ _ _ (by simp)]
    exact alloc_at _ _ _ (by simp)
  · rw [Below.heap_alloc _ _ _ (by simp <;> omega), Below.heap_alloc _ _ _ (by simp <;> omega), Below.heap_alloc _ _ _ (by simp <;> omega), Below.heap_alloc _ _ _ (by simp)]
    exact alloc_at _ _ _ (by simp)
  · rw [Below.heap_alloc _ _ _ (by simp <;> omega), Below.heap_alloc _ _ _ (by simp <;> omega), Below.heap_alloc _ _ _ (by simp)]
    exact alloc_at _ _ _ (by simp)
  · intro h; cases h
  · rw [Below.heap_alloc _ _ _ (by simp <;> omega), Below.heap_alloc _ _ _ (by simp)]
    exact alloc_at _ _ _ (by simp)
end Go.Proofs.YtogcpllpkdeehaaGreatDoor
