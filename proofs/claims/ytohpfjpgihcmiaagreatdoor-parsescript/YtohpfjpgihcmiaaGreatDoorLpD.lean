import Derived.Test.YtohpfjpgihcmiaaGreatDoorLpC

namespace Go.Proofs.YtohpfjpgihcmiaaGreatDoor
open Go.RowKit Go.Maps
set_option linter.unusedVariables false
set_option linter.unusedSimpArgs false

theorem MkO.step {W W6 w7 w8 : World} {G B : Nat} {os : List OpW} (h : MkO W G B os) {i : Nat} (hi : i < os.length) (k : Nat) {c d : Option Addr} {cap dap : Nat}
    (hc : (os.getD i ow0).ba = .slice c (os.getD i ow0).o.bt.length cap) (hd : (os.getD i ow0).bk = .slice d (os.getD i ow0).o.kp.length dap)
    (h6 : Only G W W6) (b6 : ∃ cs : Array Value, W6.heap[G]? = some (.cells cs 38 (0, 0)) ∧ os.length * 6 ≤ cs.size ∧ ∀ i', i' < os.length → ∀ j, j < 6 → cs[i' * 6 + j]? = (op6 ((os.set i (mkX (os.getD i ow0) k)).getD i' ow0))[j]?)
    (h7 : OnlyE W6 w7 c (os.getD i ow0).o.bt.length fun g => RowE w7 g (os.getD i ow0).o.bt.length (mkE (k + 4) (os.getD i ow0).o.bt.length) (os.getD i ow0).o.bt.length)
    (h8 : OnlyE w7 w8 d (os.getD i ow0).o.kp.length fun g => RowI w8 g (os.getD i ow0).o.kp.length (mkI (k + 4 + 4 * (os.getD i ow0).o.bt.length) (os.getD i ow0).o.kp.length) (os.getD i ow0).o.kp.length) :
    MkO w8 G B (os.set i (mkX (os.getD i ow0) k)) := by
  obtain ⟨cs0, hG0, -, -⟩ := h.blk
  obtain ⟨cs6, hG6, hz6, hv6⟩ := b6
  have e6 : ∀ j, j < os.length → ∃ c cap, (os.getD j ow0).ba = .slice c (os.getD j ow0).o.bt.length cap ∧ ResE W6 B c (os.getD j ow0).o.bt := fun j hj => by
    obtain ⟨c, cap, e, r⟩ := h.rE j hj
    exact ⟨c, cap, e, r.onlyT h6 hG0 (by decide)⟩
  have i6 : ∀ j, j < os.length → ∃ c cap, (os.getD j ow0).bk = .slice c (os.getD j ow0).o.kp.length cap ∧ ResI W6 B c (os.getD j ow0).o.kp := fun j hj => by
    obtain ⟨c, cap, e, r⟩ := h.rI j hj
    exact ⟨c, cap, e, r.onlyT h6 hG0 (by decide)⟩
  have ci : ResE W6 B c (os.getD i ow0).o.bt := by
    obtain ⟨c', cap', e, r⟩ := e6 i hi
    rw [hc] at e
    injection e with e1 e2 e3
    subst e1
    exact r
  have di : ResI W6 B d (os.getD i ow0).o.kp := by
    obtain ⟨c', cap', e, r⟩ := i6 i hi
    rw [hd] at e
    injection e with e1 e2 e3
    subst e1
    exact r
  -- stage 7
  have s7 : w7.heap[G]? = some (.cells cs6 38 (0, 0)) ∧ (∀ j, j < os.length → j ≠ i → ∃ c cap, (os.getD j ow0).ba = .slice c (os.getD j ow0).o.bt.length cap ∧ ResE w7 B c (os.getD j ow0).o.bt) ∧ ResE w7 B c (mkE (k + 4) (os.getD i ow0).o.bt.length) ∧ (∀ j, j < os.length → ∃ c cap, (os.getD j ow0).bk = .slice c (os.getD j ow0).o.kp.length cap ∧ ResI w7 B c (os.getD j ow0).o.kp) := by
    rcases h7 with ⟨h0, rfl⟩ | ⟨g, rfl, h0, ho, hr⟩
    · exact ⟨hG6, fun j hj _ => e6 j hj, .inl (by rw [h0]; rfl), i6⟩
    · have hgt : ∃ cs, W6.heap[g]? = some (.cells cs 51 (0, 0)) ∧ B ≤ g := by
        rcases ci with h1 | ⟨g', e, hB', cs, h1, -⟩
        · rw [h1] at h0; simp at h0
        · cases e
          exact ⟨cs, h1, hB'⟩
      obtain ⟨csg, hgg, hBg⟩ := hgt
      refine ⟨(ho.block G (heap_lt hG6) (fun e => ?_)).trans hG6, fun j hj hji => ?_, .inr ⟨g, rfl, hBg, by rw [mkE_length]; exact hr⟩, fun j hj => ?_⟩
      · subst e
        rw [hgg] at hG6
        simp at hG6
      · obtain ⟨c', cap', e, r⟩ := e6 j hj
        refine ⟨c', cap', e, r.only ho (fun q hq e2 => ?_)⟩
        subst e2 hq
        have := (h.dis i j hi hj (fun e => hji e.symm) q).1 (by rw [hc]; rfl)
        exact this (by rw [e]; rfl)
      · obtain ⟨c', cap', e, r⟩ := i6 j hj
        exact ⟨c', cap', e, r.onlyT ho hgg (by decide)⟩
  obtain ⟨hG7, e7, x7, i7⟩ := s7
  have di7 : ResI w7 B d (os.getD i ow0).o.kp := by
    obtain ⟨c', cap', e, r⟩ := i7 i hi
    rw [hd] at e
    injection e with e1 e2 e3
    subst e1
    exact r
  have s8 : w8.heap[G]? = some (.cells cs6 38 (0, 0)) ∧ (∀ j, j < os.length → j ≠ i → ∃ c cap, (os.getD j ow0).ba = .slice c (os.getD j ow0).o.bt.length cap ∧ ResE w8 B c (os.getD j ow0).o.bt) ∧ ResE w8 B c (mkE (k + 4) (os.getD i ow0).o.bt.length) ∧ (∀ j, j < os.length → j ≠ i → ∃ c cap, (os.getD j ow0).bk = .slice c (os.getD j ow0).o.kp.length cap ∧ ResI w8 B c (os.getD j ow0).o.kp) ∧ ResI w8 B d (mkI (k + 4 + 4 * (os.getD i ow0).o.bt.length) (os.getD i ow0).o.kp.length) := by
    rcases h8 with ⟨h0, rfl⟩ | ⟨g, rfl, h0, ho, hr⟩
    · exact ⟨hG7, e7, x7, fun j hj _ => i7 j hj, .inl (by rw [h0]; rfl)⟩
    · have hgt : ∃ cs, w7.heap[g]? = some (.cells cs 3 (0, 0)) ∧ B ≤ g := by
        rcases di7 with h1 | ⟨g', e, hB', cs, h1, -⟩
        · rw [h1] at h0; simp at h0
        · cases e
          exact ⟨cs, h1, hB'⟩
      obtain ⟨csg, hgg, hBg⟩ := hgt
      refine ⟨(ho.block G (heap_lt hG7) (fun e => ?_)).trans hG7, fun j hj hji => ?_, x7.onlyT ho hgg (by decide), fun j hj hji => ?_, .inr ⟨g, rfl, hBg, by rw [mkI_length]; exact hr⟩⟩
      · subst e
        rw [hgg] at hG7
        simp at hG7
      · obtain ⟨c', cap', e, r⟩ := e7 j hj hji
        exact ⟨c', cap', e, r.onlyT ho hgg (by decide)⟩
      · obtain ⟨c', cap', e, r⟩ := i7 j hj
        refine ⟨c', cap', e, r.only ho (fun _ q hq e2 => ?_)⟩
        subst e2 hq
        have := (h.dis i j hi hj (fun e => hji e.symm) q).2 (by rw [hd]; rfl)
        exact this (by rw [e]; rfl)
  obtain ⟨hG8, e8, x8, i8, y8⟩ := s8
  have hsl : (os.set i (mkX (os.getD i ow0) k)).length = os.length := List.length_set
  refine ⟨⟨cs6, hG8, by rw [hsl]; exact hz6, fun i' hi' j hj => hv6 i' (by rw [hsl] at hi'; exact hi') j hj⟩, fun j hj => ?_, fun j hj => ?_, fun j l hj hl hjl g => ?_, h.hB⟩
  · rw [hsl] at hj
    rw [setD os i j _ hi]
    by_cases hji : j = i
    · rw [if_pos hji]
      refine ⟨c, cap, ?_, x8⟩
      show (os.getD i ow0).ba = .slice c (mkE (k + 4) _).length cap
      rw [mkE_length]; exact hc
    · rw [if_neg hji]; exact e8 j hj hji
  · rw [hsl] at hj
    rw [setD os i j _ hi]
    by_cases hji : j = i
    · rw [if_pos hji]
      refine ⟨d, dap, ?_, y8⟩
      show (os.getD i ow0).bk = .slice d (mkI _ _).length dap
      rw [mkI_length]; exact hd
    · rw [if_neg hji]; exact i8 j hj hji
  · rw [hsl] at hj hl
    have eb : ∀ m, ((os.set i (mkX (os.getD i ow0) k)).getD m ow0).ba = (os.getD m ow0).ba ∧ ((os.set i (mkX (os.getD i ow0) k)).getD m ow0).bk = (os.getD m ow0).bk := fun m => by
      rw [setD os i m _ hi]
      by_cases hmi : m = i
      · rw [if_pos hmi, hmi]; exact ⟨rfl, rfl⟩
      · rw [if_neg hmi]; exact ⟨rfl, rfl⟩
    rw [(eb j).1, (eb j).2, (eb l).1, (eb l).2]
    exact h.dis j l hj hl hjl g
theorem setSelf {cs : Array Value} {i : Nat} {v : Value} (h : i < cs.size) : (cs.setIfInBounds i v)[i]? = some v := by simp [Array.getElem?_setIfInBounds, h]
/-- The four cells of an operation that bear marks, in its block. -/
theorem cells4 {cs : Array Value} {os : List OpW} {i k : Nat} (hi : i < os.length) (h2 : os.length * 6 ≤ cs.size) (h3 : ∀ i, i < os.length → ∀ j, j < 6 → cs[i * 6 + j]? = (op6 (os.getD i ow0))[j]?) :
    ∀ i', i' < os.length → ∀ j, j < 6 → ((((cs.setIfInBounds (i * 6) (.int .i64 (k : Int))).setIfInBounds (i * 6 + 1) (.string (mt (k + 1)))).setIfInBounds (i * 6 + 2) (.string (mt (k + 2)))).setIfInBounds (i * 6 + 3) (.int .i64 ((k + 3 : Nat) : Int)))[i' * 6 + j]? = (op6 ((os.set i (mkX (os.getD i ow0) k)).getD i' ow0))[j]? := by
  intro i' hi' j hj
  rw [setD os i i' _ hi]
  by_cases hii : i' = i
  · subst hii
    rw [if_pos rfl]
    have h4 := h3 i' hi' j hj
    match j, hj with
    | 0, _ => rw [Array.getElem?_setIfInBounds_ne (by omega), Array.getElem?_setIfInBounds_ne (by omega), Array.getElem?_setIfInBounds_ne (by omega)]; exact setSelf (cs := cs) (i := i' * 6) (by omega)
    | 1, _ => rw [Array.getElem?_setIfInBounds_ne (by omega), Array.getElem?_setIfInBounds_ne (by omega)]; rw [setSelf (by simp; omega)]; rfl
    | 2, _ => rw [Array.getElem?_setIfInBounds_ne (by omega)]; rw [setSelf (by simp; omega)]; rfl
    | 3, _ => rw [setSelf (by simp; omega)]; rfl
    | 4, _ => rw [Array.getElem?_setIfInBounds_ne (by omega), Array.getElem?_setIfInBounds_ne (by omega), Array.getElem?_setIfInBounds_ne (by omega), Array.getElem?_setIfInBounds_ne (by omega), h4]; rfl
    | 5, _ => rw [Array.getElem?_setIfInBounds_ne (by omega), Array.getElem?_setIfInBounds_ne (by omega), Array.getElem?_setIfInBounds_ne (by omega), Array.getElem?_setIfInBounds_ne (by omega), h4]; rfl
  · rw [if_neg hii, Array.getElem?_setIfInBounds_ne (by omega), Array.getElem?_setIfInBounds_ne (by omega), Array.getElem?_setIfInBounds_ne (by omega), Array.getElem?_setIfInBounds_ne (by omega)]
    exact h3 i' hi' j hj
end Go.Proofs.YtohpfjpgihcmiaaGreatDoor
