import Derived.Test.YtgkhjjnhikbdaaaTaW

namespace Go.Proofs.Ytgkhjjnhikbdaaa
open Go.RowKit Go.Maps
set_option linter.unusedVariables false
set_option linter.unusedSimpArgs false

/-- The lists that are drawn. -/
def dnS (bs : List UInt8) : Nat → List (List En) × Nat
  | 0 => ([], 1)
  | k + 1 => ((dnS bs k).1 ++ [deL bs ((dnS bs k).2 + 2) (tk bs ((dnS bs k).2 + 1) 12) (tk bs (dnS bs k).2 9)], (dnS bs k).2 + 2 + 4 * tk bs (dnS bs k).2 9)
def dnL (bs : List UInt8) : List (List En) := (dnS bs (tk bs 0 5)).1
theorem dnS_p (bs : List UInt8) : ∀ k, (dnS bs k).2 ≤ 1 + 34 * k ∧ (dnS bs k).1.length = k
  | 0 => ⟨Nat.le_refl _, rfl⟩
  | k + 1 => by
    obtain ⟨h1, h2⟩ := dnS_p bs k
    have := tk_lt bs (dnS bs k).2 9 (by omega)
    refine ⟨?_, by simp [dnS, h2]⟩
    show (dnS bs k).2 + 2 + 4 * tk bs (dnS bs k).2 9 ≤ _
    omega
theorem dnS_small (bs : List UInt8) : ∀ k, ∀ xs ∈ (dnS bs k).1, SmallE xs ∧ xs.length ≤ 8
  | 0 => fun xs h => by simp [dnS] at h
  | k + 1 => fun xs h => by
    simp only [dnS] at h
    rcases List.mem_append.1 h with h | h
    · exact dnS_small bs k xs h
    · have : xs = deL bs ((dnS bs k).2 + 2) (tk bs ((dnS bs k).2 + 1) 12) (tk bs (dnS bs k).2 9) := by simpa using h
      rw [this]
      refine ⟨deL_small _ _ _ _, ?_⟩
      rw [deL_len]
      have := tk_lt bs (dnS bs k).2 9 (by omega)
      omega
def cellSS (L : List LV) : List Value := L.map fun l => .slice l.a l.xs.length l.cap
/-- The row of lists so far. -/
structure DnI (w : World) (bs : List UInt8) (k : Nat) (v : Value) (L : List LV) (W : World) : Prop where
  row : W.ownsRow w.heap.size 24 1 v k (cellSS L)
  some_ : ∃ g cap, v = .slice (some ⟨g, 0, none⟩) k cap
  len : L.length = k
  xs : L.map LV.xs = (dnS bs k).1
  lie : ∀ i, i < L.length → LieE W (L.getD i lv0).a (L.getD i lv0).xs
  sep : ∀ i, i < L.length → (L.getD i lv0).xs ≠ [] → ∀ b off, (L.getD i lv0).a = some ⟨b, off, none⟩ → v.ownBlock ≠ some b
  bel : Below w.heap.size w W
theorem slices_info : (Try.prog.info? 24).map (fun i => (i.zero, i.size, i.bytes)) = some (some (.slice none 0 0), 1, 24) := by kernel_rfl
theorem getD_snocJ (L : List LV) (c : LV) (p : Nat) : (L ++ [c]).getD p lv0 = if p < L.length then L.getD p lv0 else if p = L.length then c else lv0 := by
  rw [List.getD_eq_getElem?_getD, List.getElem?_append]
  by_cases h : p < L.length
  · rw [if_pos h, if_pos h, List.getD_eq_getElem?_getD]
  · rw [if_neg h, if_neg h]
    by_cases e : p = L.length
    · rw [if_pos e, e]; simp
    · rw [if_neg e]
      rw [List.getElem?_eq_none (by simp; omega)]; rfl
theorem LieE.grownJ {w w' : World} {a : Option Addr} {xs : List En} {row : Option Nat} (h : LieE w a xs) (hg : w.grownBy w' row) (hne : xs ≠ [] → ∀ b off, a = some ⟨b, off, none⟩ → row ≠ some b) : LieE w' a xs := by
  rcases h with h | ⟨b, off, h1, hl, hc⟩
  · exact .inl h
  · by_cases hn : xs = []
    · exact .inl hn
    · have hb := hg.block b hl (fun e => hne hn b off h1 e.symm)
      refine .inr ⟨b, off, h1, Nat.lt_of_lt_of_le hl hg.size, fun i hi => ?_⟩
      obtain ⟨a0, a1, a2, a3⟩ := hc i hi
      have key : ∀ o, w'.cell? ⟨b, o, none⟩ = w.cell? ⟨b, o, none⟩ := fun o => by simp only [World.cell?, hb]
      exact ⟨(key _).trans a0, (key _).trans a1, (key _).trans a2, (key _).trans a3⟩
theorem DnI.start (w : World) (bs : List UInt8) (W : World) (hb : Below w.heap.size w W) : DnI w bs 0 (.slice (some ⟨W.heap.size, 0, none⟩) 0 0) [] (W.alloc (.cells #[] 24)) :=
  ⟨⟨rfl, .inr ⟨W.heap.size, 0, #[], rfl, hb.size, World.heap_alloc_new _ _, Nat.le_refl _, Nat.zero_le _, rfl, rfl⟩⟩, ⟨_, _, rfl⟩, rfl, rfl, fun i hi => by simp at hi, fun i hi => by simp at hi, hb.alloc hb.size _⟩
/-- One list more: W1 is the world behind the draw, W2 that with the list's slice laid. -/
theorem DnI.snoc {w : World} {bs : List UInt8} {k : Nat} {v v' : Value} {L : List LV} {W W1 W2 W3 : World} {c : LV} (h : DnI w bs k v L W) (h1 : Below W.heap.size W W1) (hc : LieE W1 c.a c.xs) (hcs : c.xs ≠ [] → ∀ b off, c.a = some ⟨b, off, none⟩ → W.heap.size ≤ b) (hx : (dnS bs (k + 1)).1 = (dnS bs k).1 ++ [c.xs]) (h2 : Below W1.heap.size W1 W2)
    (hg : W2.grownBy W3 v.ownBlock) (hat : v'.ownBlock = v.ownBlock ∨ v'.ownBlock = some W2.heap.size) (hs : ∃ g cap, v' = .slice (some ⟨g, 0, none⟩) (k + 1) cap) (hown : W3.ownsRow w.heap.size 24 1 v' (k + 1) (cellSS L ++ [.slice c.a c.xs.length c.cap])) :
    DnI w bs (k + 1) v' (L ++ [c]) W3 := by
  have h12 : Below W.heap.size W W2 := h1.trans (h2.mono h1.size)
  have hrow : ∀ g, v.ownBlock = some g → w.heap.size ≤ g ∧ g < W.heap.size := fun g e => ⟨owns_baseN h.row g e, owns_ltB h.row g e⟩
  have hlen : (L ++ [c]).length = L.length + 1 := by simp
  have gl : ∀ p, p < L.length → (L ++ [c]).getD p lv0 = L.getD p lv0 := fun p hp => by rw [getD_snocJ, if_pos hp]
  have gr : (L ++ [c]).getD L.length lv0 = c := by rw [getD_snocJ, if_neg (by omega), if_pos rfl]
  have hcsep : c.xs ≠ [] → ∀ b off, c.a = some ⟨b, off, none⟩ → v.ownBlock ≠ some b := fun hn b off e e2 => by
    have := hcs hn b off e
    have := (hrow b e2).2
    omega
  refine ⟨by simpa [cellSS] using hown, hs, by rw [hlen, h.len], ?_, fun i hi => ?_, fun i hi hn b off e => ?_, ?_⟩
  · rw [List.map_append, h.xs, hx]; rfl
  · rw [hlen] at hi
    by_cases hil : i < L.length
    · rw [gl i hil]; exact ((h.lie i hil).below h12).grownJ hg (h.sep i hil)
    · rw [show i = L.length by omega, gr]; exact (hc.below h2).grownJ hg hcsep
  · rw [hlen] at hi
    have hb : b < W2.heap.size ∧ v.ownBlock ≠ some b := by
      by_cases hil : i < L.length
      · rw [gl i hil] at hn e
        refine ⟨?_, h.sep i hil hn b off e⟩
        rcases h.lie i hil with h4 | ⟨b', off', e1, h5, -⟩
        · exact absurd h4 hn
        · rw [e] at e1; cases e1; have := h12.size; omega
      · rw [show i = L.length by omega, gr] at hn e
        refine ⟨?_, hcsep hn b off e⟩
        rcases hc with h4 | ⟨b', off', e1, h5, -⟩
        · exact absurd h4 hn
        · rw [e] at e1; cases e1; have := h2.size; omega
    rcases hat with h3 | h3
    · rw [h3]; exact hb.2
    · rw [h3]; intro e2; injection e2 with e2; omega
  · refine h.bel.trans ⟨hg.os.trans h12.os, hg.tape.trans h12.tape, hg.output.trans h12.output, Nat.le_trans h12.size hg.size, fun j hj => ?_⟩
    have hjw : j < W.heap.size := by have := h.bel.size; omega
    exact (hg.block j (by have := h12.size; omega) (fun e => by have := (hrow j e.symm).1; omega)).trans (h12.block j hjw)
theorem DnI.lieSS {w : World} {bs : List UInt8} {k : Nat} {v : Value} {L : List LV} {W : World} (h : DnI w bs k v L W) : ∃ g cap, v = .slice (some ⟨g, 0, none⟩) L.length cap ∧ L.length ≤ cap ∧ LieSS W (some ⟨g, 0, none⟩) L := by
  obtain ⟨g0, c0, e0⟩ := h.some_
  rcases h.row.2 with ⟨e, -⟩ | ⟨g, cap, cur, e, hg, hb, hl, hm, hsz, htk⟩
  · rw [e] at e0; cases e0
  · refine ⟨g, cap, by rw [h.len]; exact e, by rw [h.len]; exact hl, .inr ⟨g, 0, rfl, heap_lt hb, fun i hi => ⟨?_, h.lie i hi⟩⟩⟩
    have e1 : (cur.toList.take (k * 1))[i]? = (cellSS L)[i]? := by rw [htk]
    have hik : i < k := by rw [← h.len]; exact hi
    rw [List.getElem?_take_of_lt (by omega)] at e1
    unfold cellSS at e1
    rw [List.getElem?_map, List.getElem?_eq_getElem hi] at e1
    have e2 : L.getD i lv0 = L[i] := by simp [List.getD, hi]
    simp only [World.cell?, hb, Nat.zero_add, e2]
    simpa using e1
end Go.Proofs.Ytgkhjjnhikbdaaa
