import Derived.Test.YtphikgobdfknkaaGreatDoorDeY
namespace Go.Proofs.YtphikgobdfknkaaGreatDoor
open Go.RowKit Go.Maps
set_option linter.unusedVariables false
set_option linter.unusedSimpArgs false

/-- Entries as cells. -/
def cellsT (xs : List Tr) : List Value := xs.flatMap fun e => [.int .i64 e.nu, .int .i64 e.lv, .string e.lo, .string e.hi]
theorem cellsT_snoc (xs : List Tr) (e : Tr) : cellsT (xs ++ [e]) = cellsT xs ++ [.int .i64 e.nu, .int .i64 e.lv, .string e.lo, .string e.hi] := by simp [cellsT]
theorem cellsT_len (xs : List Tr) : (cellsT xs).length = xs.length * 4 := by
  induction xs with
  | nil => rfl
  | cons x r ih => simp [cellsT] at *; omega
theorem cellsT_at (xs : List Tr) (i : Nat) (hi : i < xs.length) : (cellsT xs)[i * 4]? = some (.int .i64 (xs.getD i tr0).nu) ∧ (cellsT xs)[i * 4 + 1]? = some (.int .i64 (xs.getD i tr0).lv) ∧ (cellsT xs)[i * 4 + 2]? = some (.string (xs.getD i tr0).lo) ∧ (cellsT xs)[i * 4 + 3]? = some (.string (xs.getD i tr0).hi) := by
  induction xs generalizing i with
  | nil => simp at hi
  | cons x r ih =>
    cases i with
    | zero => exact ⟨rfl, rfl, rfl, rfl⟩
    | succ i =>
      have h := ih i (by simpa using hi)
      have e : cellsT (x :: r) = [.int .i64 x.nu, .int .i64 x.lv, .string x.lo, .string x.hi] ++ cellsT r := rfl
      have sh : ∀ j, (cellsT (x :: r))[4 + j]? = (cellsT r)[j]? := fun j => by rw [e, List.getElem?_append_right (by simp)]; simp
      have g : (x :: r).getD (i + 1) tr0 = r.getD i tr0 := rfl
      rw [g]
      refine ⟨?_, ?_, ?_, ?_⟩
      · rw [show (i + 1) * 4 = 4 + i * 4 by omega, sh]; exact h.1
      · rw [show (i + 1) * 4 + 1 = 4 + (i * 4 + 1) by omega, sh]; exact h.2.1
      · rw [show (i + 1) * 4 + 2 = 4 + (i * 4 + 2) by omega, sh]; exact h.2.2.1
      · rw [show (i + 1) * 4 + 3 = 4 + (i * 4 + 3) by omega, sh]; exact h.2.2.2


/-- Block g has room for n entries, none of it frozen; the first k of the entries xs stand in it. -/
def RowT (w : World) (g n : Nat) (xs : List Tr) (k : Nat) : Prop :=
  ∃ cs : Array Value, w.heap[g]? = some (.cells cs 45 (0, 0)) ∧ n * 4 ≤ cs.size ∧
    ∀ i, i < k → cs[i * 4]? = some (.int .i64 (xs.getD i tr0).nu) ∧ cs[i * 4 + 1]? = some (.int .i64 (xs.getD i tr0).lv) ∧ cs[i * 4 + 2]? = some (.string (xs.getD i tr0).lo) ∧ cs[i * 4 + 3]? = some (.string (xs.getD i tr0).hi)
/-- A slice that the call made and that holds the entries xs. -/
def ResT (w : World) (base : Nat) (a : Option Addr) (xs : List Tr) : Prop := xs = [] ∨ ∃ g, a = some ⟨g, 0, none⟩ ∧ base ≤ g ∧ RowT w g xs.length xs xs.length
theorem RowT.block {w w' : World} {g n k : Nat} {xs : List Tr} (h : RowT w g n xs k) (hb : w'.heap[g]? = w.heap[g]?) : RowT w' g n xs k := by
  obtain ⟨cs, h1, h2, h3⟩ := h
  exact ⟨cs, hb.trans h1, h2, h3⟩
theorem RowT.lt {w : World} {g n k : Nat} {xs : List Tr} (h : RowT w g n xs k) : g < w.heap.size := by
  obtain ⟨cs, h1, _⟩ := h
  exact heap_lt h1
theorem ResT.kept {w w' : World} {base : Nat} {a : Option Addr} {xs : List Tr} (h : ResT w base a xs) (hb : ∀ k, base ≤ k → k < w.heap.size → w'.heap[k]? = w.heap[k]?) : ResT w' base a xs := by
  rcases h with h | ⟨g, rfl, hg, hr⟩
  · exact .inl h
  · exact .inr ⟨g, rfl, hg, hr.block (hb g hg hr.lt)⟩
theorem ResT.below {w w' : World} {base : Nat} {a : Option Addr} {xs : List Tr} (h : ResT w base a xs) (hb : Below w.heap.size w w') : ResT w' base a xs := h.kept (fun k _ hk => hb.block k hk)
theorem ResT.lie {w : World} {base : Nat} {a : Option Addr} {xs : List Tr} (h : ResT w base a xs) : LieT w a xs := by
  rcases h with h | ⟨g, rfl, hg, hr⟩
  · exact .inl h
  · have hlt := hr.lt
    obtain ⟨cs, h1, h2, h3⟩ := hr
    refine .inr ⟨g, 0, rfl, hlt, fun i hi => ?_⟩
    obtain ⟨a0, a1, a2, a3⟩ := h3 i hi
    exact ⟨by simpa [World.cell?, h1] using a0, by simpa [World.cell?, h1] using a1, by simpa [World.cell?, h1] using a2, by simpa [World.cell?, h1] using a3⟩
theorem resT_of_owns {w : World} {B n : Nat} {v : Value} {xs : List Tr} (h : w.ownsRow B 45 4 v n (cellsT xs)) :
    n = xs.length ∧ ∃ a cap, v = .slice a xs.length cap ∧ ResT w B a xs := by
  obtain ⟨h1, h2⟩ := h
  have hn : n = xs.length := by rw [cellsT_len] at h1; omega
  refine ⟨hn, ?_⟩
  subst hn
  rcases h2 with ⟨rfl, h0⟩ | ⟨g, cap, cur, rfl, hg, hb, hl, hm, hsz, htk⟩
  · exact ⟨none, 0, by rw [h0], .inl (List.length_eq_zero_iff.1 h0)⟩
  · have hcell : ∀ j, j < xs.length * 4 → cur[j]? = (cellsT xs)[j]? := fun j hj => by
      have e1 : (cur.toList.take (xs.length * 4))[j]? = (cellsT xs)[j]? := by rw [htk]
      rw [List.getElem?_take_of_lt hj] at e1
      simpa using e1
    refine ⟨some ⟨g, 0, none⟩, cap, rfl, .inr ⟨g, rfl, hg, cur, hb, by rw [hsz]; omega, fun i hi => ?_⟩⟩
    obtain ⟨a0, a1, a2, a3⟩ := cellsT_at xs i hi
    exact ⟨by rw [hcell _ (by omega)]; exact a0, by rw [hcell _ (by omega)]; exact a1, by rw [hcell _ (by omega)]; exact a2, by rw [hcell _ (by omega)]; exact a3⟩

theorem cell_first4 (w : World) (x y z u : Value) (t : TypeId) : ∀ j v, [x, y, z, u][j]? = some v → (w.alloc (.cells #[x, y, z, u] t)).cell? ((⟨w.heap.size, 0, none⟩ : Addr).add j) = some v := by
  intro j v hj
  rw [Go.WideShapes.add_plain]
  have hb : (w.alloc (.cells #[x, y, z, u] t)).heap[w.heap.size]? = some (.cells #[x, y, z, u] t (0, 0)) := World.heap_alloc_new _ _
  simp only [World.cell?, hb]
  match j, hj with
  | 0, hj => simpa using hj
  | 1, hj => simpa using hj
  | 2, hj => simpa using hj
  | 3, hj => simpa using hj

theorem RowT.zero {w : World} {g n k : Nat} {xs : List Tr} (h : RowT w g n xs k) (ys : List Tr) : RowT w g n ys 0 := by
  obtain ⟨cs, h1, h2, _⟩ := h
  exact ⟨cs, h1, h2, fun i hi => absurd hi (Nat.not_lt_zero _)⟩
theorem rowT_step {W : World} {g n k : Nat} {xs : List Tr} {f : Tr} {cs : Array Value} (h1 : W.heap[g]? = some (.cells ((((cs.setIfInBounds (k * 4) (.int .i64 f.nu)).setIfInBounds (k * 4 + 1) (.int .i64 f.lv)).setIfInBounds (k * 4 + 2) (.string f.lo)).setIfInBounds (k * 4 + 3) (.string f.hi)) 45 (0, 0))) (h2 : n * 4 ≤ cs.size)
    (h3 : ∀ i, i < k → cs[i * 4]? = some (.int .i64 (xs.getD i tr0).nu) ∧ cs[i * 4 + 1]? = some (.int .i64 (xs.getD i tr0).lv) ∧ cs[i * 4 + 2]? = some (.string (xs.getD i tr0).lo) ∧ cs[i * 4 + 3]? = some (.string (xs.getD i tr0).hi)) (hk : k < n) (hf : xs.getD k tr0 = f) : RowT W g n xs (k + 1) := by
  refine ⟨_, h1, by simpa using h2, fun i hi => ?_⟩
  by_cases hik : i = k
  · subst hik
    rw [hf]
    refine ⟨?_, ?_, ?_, ?_⟩
    · simp [Array.getElem?_setIfInBounds]; omega
    · simp [Array.getElem?_setIfInBounds]; omega
    · simp [Array.getElem?_setIfInBounds]; omega
    · simp [Array.getElem?_setIfInBounds]; omega
  · obtain ⟨a0, a1, a2, a3⟩ := h3 i (by omega)
    refine ⟨?_, ?_, ?_, ?_⟩
    · rw [Array.getElem?_setIfInBounds_ne (by omega), Array.getElem?_setIfInBounds_ne (by omega), Array.getElem?_setIfInBounds_ne (by omega), Array.getElem?_setIfInBounds_ne (by omega)]; exact a0
    · rw [Array.getElem?_setIfInBounds_ne (by omega), Array.getElem?_setIfInBounds_ne (by omega), Array.getElem?_setIfInBounds_ne (by omega), Array.getElem?_setIfInBounds_ne (by omega)]; exact a1
    · rw [Array.getElem?_setIfInBounds_ne (by omega), Array.getElem?_setIfInBounds_ne (by omega), Array.getElem?_setIfInBounds_ne (by omega), Array.getElem?_setIfInBounds_ne (by omega)]; exact a2
    · rw [Array.getElem?_setIfInBounds_ne (by omega), Array.getElem?_setIfInBounds_ne (by omega), Array.getElem?_setIfInBounds_ne (by omega), Array.getElem?_setIfInBounds_ne (by omega)]; exact a3

/-- Rows of numbers. -/
def RowI (w : World) (g n : Nat) (ks : List Int) (k : Nat) : Prop :=
  ∃ cs : Array Value, w.heap[g]? = some (.cells cs 3 (0, 0)) ∧ n ≤ cs.size ∧ ∀ i, i < k → cs[i]? = some (.int .i64 (ks.getD i 0))
def ResI (w : World) (base : Nat) (a : Option Addr) (ks : List Int) : Prop := ks = [] ∨ ∃ g, a = some ⟨g, 0, none⟩ ∧ base ≤ g ∧ RowI w g ks.length ks ks.length
theorem RowI.block {w w' : World} {g n k : Nat} {ks : List Int} (h : RowI w g n ks k) (hb : w'.heap[g]? = w.heap[g]?) : RowI w' g n ks k := by
  obtain ⟨cs, h1, h2, h3⟩ := h
  exact ⟨cs, hb.trans h1, h2, h3⟩
theorem RowI.lt {w : World} {g n k : Nat} {ks : List Int} (h : RowI w g n ks k) : g < w.heap.size := by
  obtain ⟨cs, h1, _⟩ := h
  exact heap_lt h1
theorem ResI.kept {w w' : World} {base : Nat} {a : Option Addr} {ks : List Int} (h : ResI w base a ks) (hb : ∀ k, base ≤ k → k < w.heap.size → w'.heap[k]? = w.heap[k]?) : ResI w' base a ks := by
  rcases h with h | ⟨g, rfl, hg, hr⟩
  · exact .inl h
  · exact .inr ⟨g, rfl, hg, hr.block (hb g hg hr.lt)⟩
theorem ResI.below {w w' : World} {base : Nat} {a : Option Addr} {ks : List Int} (h : ResI w base a ks) (hb : Below w.heap.size w w') : ResI w' base a ks := h.kept (fun k _ hk => hb.block k hk)
theorem ResI.lie {w : World} {base : Nat} {a : Option Addr} {ks : List Int} (h : ResI w base a ks) : LieI w a ks := by
  rcases h with h | ⟨g, rfl, hg, hr⟩
  · exact .inl h
  · have hlt := hr.lt
    obtain ⟨cs, h1, h2, h3⟩ := hr
    exact .inr ⟨g, 0, rfl, hlt, fun i hi => by simpa [World.cell?, h1] using h3 i hi⟩
/-- The cells of numbers. -/
def ic (ks : List Int) : List Value := ks.map fun k => .int .i64 k
theorem ic_snoc (ks : List Int) (x : Int) : ic (ks ++ [x]) = ic ks ++ [.int .i64 x] := by simp [ic]
theorem resI_of_owns {w : World} {B n : Nat} {v : Value} {ks : List Int} (h : w.ownsRow B 3 1 v n (ic ks)) :
    n = ks.length ∧ ∃ a cap, v = .slice a ks.length cap ∧ ResI w B a ks := by
  obtain ⟨h1, h2⟩ := h
  have hn : n = ks.length := by simp [ic] at h1; omega
  refine ⟨hn, ?_⟩
  subst hn
  rcases h2 with ⟨rfl, h0⟩ | ⟨g, cap, cur, rfl, hg, hb, hl, hm, hsz, htk⟩
  · exact ⟨none, 0, by rw [h0], .inl (List.length_eq_zero_iff.1 h0)⟩
  · refine ⟨some ⟨g, 0, none⟩, cap, rfl, .inr ⟨g, rfl, hg, cur, hb, by rw [hsz]; omega, fun i hi => ?_⟩⟩
    have hcell : cur[i]? = (ic ks)[i]? := by
      have e1 : (cur.toList.take (ks.length * 1))[i]? = (ic ks)[i]? := by rw [htk]
      rw [List.getElem?_take_of_lt (by omega)] at e1
      simpa using e1
    rw [hcell]
    simp [ic, List.getD, hi]
theorem ownsNil (w : World) (B : Nat) (t : TypeId) (size : Nat) : w.ownsRow B t size (.slice none 0 0) 0 [] := ⟨by simp, .inl ⟨rfl, rfl⟩⟩
theorem owns_below {w w' : World} {B n size : Nat} {e : TypeId} {v : Value} {xs : List Value} (h : w.ownsRow B e size v n xs) (hb : Below w.heap.size w w') : w'.ownsRow B e size v n xs := by
  obtain ⟨h1, h2⟩ := h
  refine ⟨h1, ?_⟩
  rcases h2 with h2 | ⟨g, cap, cur, rfl, hg, hbk, hrest⟩
  · exact .inl h2
  · exact .inr ⟨g, cap, cur, rfl, hg, (hb.block g (heap_lt hbk)).trans hbk, hrest⟩
theorem owns_blocks {w w' : World} {B n size : Nat} {e : TypeId} {v : Value} {xs : List Value} (h : w.ownsRow B e size v n xs) (hb : ∀ g, v.ownBlock = some g → w'.heap[g]? = w.heap[g]?) : w'.ownsRow B e size v n xs := by
  obtain ⟨h1, h2⟩ := h
  refine ⟨h1, ?_⟩
  rcases h2 with h2 | ⟨g, cap, cur, rfl, hg, hbk, hrest⟩
  · exact .inl h2
  · exact .inr ⟨g, cap, cur, rfl, hg, (hb g rfl).trans hbk, hrest⟩
theorem owns_set {w : World} {B n size p o : Nat} {e : TypeId} {v u : Value} {xs : List Value} (h : w.ownsRow B e size v n xs) (hp : p < B) : (w.setCell ⟨p, o, none⟩ u).ownsRow B e size v n xs :=
  owns_blocks h (fun g hg => Below.heap_setCell _ _ _ _ (by have := owns_base h g hg; dsimp only; omega))
/-- append to a row that the call owns, as one step of a region that draws. -/
theorem step_append_own {P : Program} {ops : Array Oper} {o : Oper} {a : Act} {w : World} {K : Act → World → Prop} {Q : Exit → Act → World → Prop} {E : Prop}
    (hg : o.guard = none) (s x : Operand) (t : TypeId) (ho : o.op = Op.call { callee := Callee.builtin Builtin.append, args := #[s, x], argTypes := #[t, t] })
    (base : Nat) (e : TypeId) (i : TypeInfo) (z : Value) (size bytes : Nat) (ht : P.underlying t = some (.slice e)) (hi : P.info? e = some i) (hz : i.zero = some z)
    (hsize : i.size = size) (hby : i.bytes = bytes) (hzs : z.cells.size = size) (hsz : 0 < size)
    (v : Value) (n : Nat) (xs : List Value) (hs : a.eval s = v) (hown : w.ownsRow base e size v n xs)
    (ad : Addr) (m c : Nat) (news : List Value) (hx : a.eval x = .slice (some ad) m c) (hl : news.length = m * size) (hnews : ∀ j u, news[j]? = some u → w.cell? (ad.add j) = some u) (h1 : ∀ u ∈ news, u.oneCell' = true)
    (h63 : n + m ≤ maxLen) (hbytes : (n + m) * bytes ≤ 140737488355328) (hbase : base ≤ w.heap.size)
    (h : ∀ v' w', w'.ownsRow base e size v' (n + m) (xs ++ news) → w.grownBy w' v.ownBlock → (v' = .slice none 0 0 ↔ v = .slice none 0 0 ∧ m = 0) → K (a.put o.dst v') w') :
    if Region.wanted o (yielded ops a.tmps) = true then Oper.wp P o a w K Q else E := by
  have hw : Region.wanted o (yielded ops a.tmps) = true := by simp [Region.wanted, hg]
  rw [if_pos hw]
  exact wp_append_own w s x t ho base e i z size bytes ht hi hz hsize hby hzs hsz v n xs hs hown ad m c news hx hl hnews h1 h63 hbytes hbase h

end Go.Proofs.YtphikgobdfknkaaGreatDoor
namespace Go.Proofs.YtphikgobdfknkaaGreatDoor
open Go.RowKit Go.Maps
set_option linter.unusedVariables false
set_option linter.unusedSimpArgs false

/-- Reading a reference. -/
def rdR (s : ByteArray) (A : Nat) (fl : Bool) : Tr × Nat × Bool :=
  let r1 := rdN s A fl
  let r2 := rdN s r1.2.1 r1.2.2
  let r3 := rdS s r2.2.1 r2.2.2
  let r4 := rdS s r3.2.1 r3.2.2
  (⟨r1.1, r2.1, r3.1, r4.1⟩, r4.2)
theorem rdR_le {s : ByteArray} {A : Nat} (fl : Bool) (hA : A ≤ s.size) : (rdR s A fl).2.1 ≤ s.size ∧ (rdR s A fl).1.lo.size ≤ s.size ∧ (rdR s A fl).1.hi.size ≤ s.size := by
  have l1 := (rdN_le fl hA).1
  have l2 := (rdN_le (rdN s A fl).2.2 l1).1
  have l3 := rdS_le (rdN s (rdN s A fl).2.1 (rdN s A fl).2.2).2.2 l2
  have l4 := rdS_le (rdS s (rdN s (rdN s A fl).2.1 (rdN s A fl).2.2).2.1 (rdN s (rdN s A fl).2.1 (rdN s A fl).2.2).2.2).2.2 l3.1
  exact ⟨l4.1, l3.2, l4.2⟩
theorem rdR_fl (s : ByteArray) (A : Nat) : (rdR s A true).2.2 = true := by
  show (rdS s _ _).2.2 = true
  rw [rdN_fl, rdN_fl, rdS_fl, rdS_fl]
theorem rdR_pR (s : ByteArray) (A : Nat) : (∃ t E, pR s A = some (t, E) ∧ rdR s A false = (t, E, false)) ∨ (pR s A = none ∧ (rdR s A false).2.2 = true) := by
  rcases rdN_gv s A with ⟨n, c, hg, hn⟩ | ⟨hg, hn⟩
  · rcases rdN_gv s (A + c) with ⟨l, d, hg2, hn2⟩ | ⟨hg2, hn2⟩
    · rcases rdS_pc s (A + c + d) with ⟨lo, B, hp, hr⟩ | ⟨hp, hr⟩
      · rcases rdS_pc s B with ⟨hi, E, hp2, hr2⟩ | ⟨hp2, hr2⟩
        · refine .inl ⟨⟨n, l, lo, hi⟩, E, ?_, ?_⟩
          · simp only [pR, hg, hg2, hp, hp2]
          · simp only [rdR, hn, hn2, hr, hr2]
        · refine .inr ⟨by simp only [pR, hg, hg2, hp, hp2], ?_⟩
          simp only [rdR, hn, hn2, hr]
          exact hr2
      · refine .inr ⟨by simp only [pR, hg, hg2, hp], ?_⟩
        simp only [rdR, hn, hn2]
        rw [hr]
        exact rdS_fl _ _
    · refine .inr ⟨by simp only [pR, hg, hg2], ?_⟩
      simp only [rdR, hn]
      rw [hn2, rdS_fl, rdS_fl]
  · refine .inr ⟨by simp only [pR, hg], ?_⟩
    simp only [rdR]
    rw [hn, rdN_fl, rdS_fl, rdS_fl]

theorem four_free {w : World} {p : Nat} {t : TypeId} {x0 x1 x2 x3 : Value} (h : w.heap[p]? = some (.cells #[x0, x1, x2, x3] t (0, 0))) :
    w.frozen? ⟨p, 0, none⟩ = false ∧ w.frozen? ⟨p, 1, none⟩ = false ∧ w.frozen? ⟨p, 2, none⟩ = false ∧ w.frozen? ⟨p, 3, none⟩ = false := by
  refine ⟨?_, ?_, ?_, ?_⟩ <;> simp [World.frozen?, h]
theorem Only.set_new {p q o : Nat} {w w' : World} {v : Value} (hq : w.heap.size ≤ q) (h : Only p w w') : Only p w (w'.setCell ⟨q, o, none⟩ v) :=
  ⟨h.os, h.tape, h.output, by have := h.size; simp [World.setCell]; omega, fun k hk hn => (Below.heap_setCell _ _ _ _ (by dsimp only; omega)).trans (h.block k hk hn)⟩
theorem Rd.set {w : World} {p q o A : Nat} {s : ByteArray} {fl : Bool} {v : Value} (hq : p ≠ q) (h : Rd w p s A fl) : Rd (w.setCell ⟨q, o, none⟩ v) p s A fl :=
  (Below.heap_setCell _ _ _ _ (by dsimp only; exact hq)).trans h

set_option maxRecDepth 100000 in
set_option maxHeartbeats 1000000 in
theorem tableRef_any (p A : Nat) (s : ByteArray) (fl : Bool) (w : World) (h : Rd w p s A fl) (hs : s.size ≤ 1048576) (hA : A ≤ s.size) :
    Calls Tryz.prog 111 #[.pointer (some ⟨p, 0, none⟩)] w fun e w' => e = .returned (rdR s A fl).1.agg ∧ Rd w' p s (rdR s A fl).2.1 (rdR s A fl).2.2 ∧ Only p w w' := by
  have l1 := (rdN_le fl hA).1
  have HE : Hid (rdR s A fl = (⟨(rdN s A fl).1, (rdN s (rdN s A fl).2.1 (rdN s A fl).2.2).1, (rdS s (rdN s (rdN s A fl).2.1 (rdN s A fl).2.2).2.1 (rdN s (rdN s A fl).2.1 (rdN s A fl).2.2).2.2).1, (rdS s (rdS s (rdN s (rdN s A fl).2.1 (rdN s A fl).2.2).2.1 (rdN s (rdN s A fl).2.1 (rdN s A fl).2.2).2.2).2.1 (rdS s (rdN s (rdN s A fl).2.1 (rdN s A fl).2.2).2.1 (rdN s (rdN s A fl).2.1 (rdN s A fl).2.2).2.2).2.2).1⟩, (rdS s (rdS s (rdN s (rdN s A fl).2.1 (rdN s A fl).2.2).2.1 (rdN s (rdN s A fl).2.1 (rdN s A fl).2.2).2.2).2.1 (rdS s (rdN s (rdN s A fl).2.1 (rdN s A fl).2.2).2.1 (rdN s (rdN s A fl).2.1 (rdN s A fl).2.2).2.2).2.2).2)) := rfl
  have HN1 := fun (w : World) (h : Rd w p s A fl) => number_any p A s fl w h hs
  generalize rdN s A fl = r1 at *
  have l2 := (rdN_le r1.2.2 l1).1
  have HN2 := fun (w : World) (h : Rd w p s r1.2.1 r1.2.2) => number_any p r1.2.1 s r1.2.2 w h hs
  generalize rdN s r1.2.1 r1.2.2 = r2 at *
  have l3 := (rdS_le r2.2.2 l2).1
  have HS1 := fun (w : World) (h : Rd w p s r2.2.1 r2.2.2) => sized_any p r2.2.1 s r2.2.2 w h hs l2
  generalize rdS s r2.2.1 r2.2.2 = r3 at *
  have HS2 := fun (w : World) (h : Rd w p s r3.2.1 r3.2.2) => sized_any p r3.2.1 s r3.2.2 w h hs l3
  generalize rdS s r3.2.1 r3.2.2 = r4 at *
  rw [HE.out]
  replace HN1 := hd HN1
  replace HN2 := hd HN2
  replace HS1 := hd HS1
  replace HS2 := hd HS2
  have hlt := h.cells.2.2.2.2.2
  have hb0 : Below w.heap.size w (w.alloc (.cells #[.int .i64 0, .int .i64 0, .string ByteArray.empty, .string ByteArray.empty] 45)) := (Below.refl _ _).alloc (Nat.le_refl _) _
  have hx0 : (w.alloc (.cells #[.int .i64 0, .int .i64 0, .string ByteArray.empty, .string ByteArray.empty] 45)).heap[w.heap.size]? = some (.cells #[.int .i64 0, .int .i64 0, .string ByteArray.empty, .string ByteArray.empty] 45 (0, 0)) := World.heap_alloc_new _ _
  have h0 := h.below hb0
  go_enter Tryz.func111, Tryz.ntmps111
  go_wp2_with fail
  refine (HN1.out _ h0).mono ?_
  rintro e w1 ⟨rfl, h1, ho1⟩
  go_wp2_with fail
  refine (HN2.out _ h1).mono ?_
  rintro e w2 ⟨rfl, h2, ho2⟩
  go_wp2_with fail
  refine (HS1.out _ h2).mono ?_
  rintro e w3 ⟨rfl, h3, ho3⟩
  go_wp2_with fail
  refine (HS2.out _ h3).mono ?_
  rintro e w4 ⟨rfl, h4, ho4⟩
  have hoo := ((ho1.trans ho2).trans ho3).trans ho4
  have hx4 := (hoo.block w.heap.size (by simp) (by omega)).trans hx0
  have hO : Only p w w4 := (Only.of hb0).trans hoo
  have hlt4 := heap_lt hx4
  obtain ⟨x0, x1, x2, x3⟩ := four_cells hx4
  obtain ⟨z0, z1, z2, z3⟩ := four_free hx4
  have hpne : p ≠ w.heap.size := by omega
  clear hoo ho1 ho2 ho3 ho4 h0 h1 h2 h3 hb0 hx0
  go_wp2_with fail
  refine bodyPost_ret (v := .agg #[.int .i64 r1.1, .int .i64 r2.1, .string r3.1, .string r4.1]) (by simp [results, Tryz.results111, go_sem, x0, x1, x2, x3]) rfl ⟨rfl, ?_, ?_⟩
  · repeat refine Rd.set hpne ?_
    exact h4
  · repeat refine Only.set_new (Nat.le_refl _) ?_
    exact hO
end Go.Proofs.YtphikgobdfknkaaGreatDoor
