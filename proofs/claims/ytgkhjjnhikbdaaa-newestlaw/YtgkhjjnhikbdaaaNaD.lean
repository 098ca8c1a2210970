import Derived.Test.YtgkhjjnhikbdaaaNaC
namespace Go.Proofs.Ytgkhjjnhikbdaaa
open Go.RowKit Go.Maps Go.Shelf
set_option linter.unusedVariables false
set_option linter.unusedSimpArgs false

/-- Of each key the first, taken one entry behind the other. -/
def nwA (acc : List En) (x : En) : List En := if acc.getLast?.map En.ky = some x.ky then acc else acc ++ [x]
def nwF (xs : List En) : List En := xs.foldl nwA []
theorem nwF_snoc (xs : List En) (x : En) : nwF (xs ++ [x]) = nwA (nwF xs) x := by simp [nwF]
theorem nwF_ne (xs : List En) (h : xs ≠ []) : ∃ y, (nwF xs).getLast? = some y ∧ xs.getLast?.map En.ky = some y.ky := by
  rcases List.eq_nil_or_concat xs with h0 | ⟨ys, x, rfl⟩
  · exact absurd h0 h
  · have e : ys.concat x = ys ++ [x] := by simp
    rw [e, nwF_snoc]
    unfold nwA
    by_cases hk : (nwF ys).getLast?.map En.ky = some x.ky
    · rw [if_pos hk]
      cases hl : (nwF ys).getLast? with
      | none => rw [hl] at hk; simp at hk
      | some y => rw [hl] at hk; exact ⟨y, rfl, by simp at hk ⊢; exact hk.symm⟩
    · rw [if_neg hk]; exact ⟨x, by simp, by simp⟩
theorem nwF_ddT (S : List En) : ∀ k, k ≤ S.length → nwF (S.take k) = ddT S k := by
  intro k
  induction k with
  | zero => intro _; rfl
  | succ k ih =>
    intro hk
    have e : S.take (k + 1) = S.take k ++ [S.getD k en0] := takeE_snoc S k (by omega)
    rw [e, nwF_snoc, ih (by omega), ddT_succ]
    unfold nwA
    by_cases h0 : k = 0
    · subst h0
      have e0 : ddT S 0 = [] := rfl
      rw [e0]
      simp [fst1]
    · have hne0 : S.take k ≠ [] := fun h => by
        have h9 : (S.take k).length = 0 := by rw [h]; rfl
        rw [List.length_take] at h9
        omega
      obtain ⟨y, hy1, hy2⟩ := nwF_ne (S.take k) hne0
      rw [ih (by omega)] at hy1
      have hl : (S.take k).getLast? = some (S.getD (k - 1) en0) := by
        have : S.take k = S.take (k - 1) ++ [S.getD (k - 1) en0] := by
          have := takeE_snoc S (k - 1) (by omega)
          rwa [show k - 1 + 1 = k by omega] at this
        rw [this]; simp
      rw [hl] at hy2
      simp at hy2
      rw [hy1]
      unfold fst1
      simp [h0]
      by_cases hky : (S.getD k en0).ky = (S.getD (k - 1) en0).ky
      · have hky' : (S[k]?.getD en0).ky = (S[k - 1]?.getD en0).ky := by simpa using hky
        rw [if_pos (by rw [← hy2]; exact hky'.symm)]
        simp [hky']
      · have hky' : ¬ (S[k]?.getD en0).ky = (S[k - 1]?.getD en0).ky := by simpa using hky
        rw [if_neg (by rw [← hy2]; exact fun e => hky' e.symm)]
        simp [hky']
theorem nwF_new (xs : List En) : nwF (srt befE xs) = newE xs := by
  have h := nwF_ddT (srt befE xs) (srt befE xs).length (Nat.le_refl _)
  rw [List.take_length, srt_length] at h
  exact h
theorem nwF_len (xs : List En) : (nwF xs).length ≤ xs.length := by
  have h := nwF_ddT xs xs.length (Nat.le_refl _)
  rw [List.take_length] at h
  rw [h]
  exact ddT_len _ _
theorem srt_congr {xs ys : List En} (h : Sm befE xs ys) : srt befE xs = srt befE ys := srt_of befE_swo (srt_ok befE_swo xs).1 (h.symm.trans (srt_ok befE_swo xs).2)
theorem allS_sm : ∀ (L : List LV) (cs : List SD), cs.length = L.length → (∀ p, p < cs.length → (cs.getD p sd0).xs = srt befE (L.getD p lv0).xs) → Sm befE (allE L) (allS cs) ∧ (allE L).length = (allS cs).length
  | [], [], _, _ => ⟨Sm.refl _, rfl⟩
  | [], _ :: _, h, _ => by simp at h
  | _ :: _, [], h, _ => by simp at h
  | l :: L, c :: cs, h, hx => by
    obtain ⟨h1, h2⟩ := allS_sm L cs (by simpa using h) (fun p hp => hx (p + 1) (by simpa using hp))
    have h0 : c.xs = srt befE l.xs := hx 0 (by simp)
    have e1 : allE (l :: L) = l.xs ++ allE L := rfl
    have e2 : allS (c :: cs) = srt befE l.xs ++ allS cs := by rw [← h0]; rfl
    rw [e1, e2]
    exact ⟨Sm.app (srt_ok befE_swo _).2 h1, by rw [List.length_append, List.length_append, srt_length, h2]⟩
/-- The sources of the first k lists. -/
structure SrcI (w : World) (L : List LV) (k : Nat) (v : Value) (cs : List SD) (W : World) : Prop where
  len : cs.length = k
  row : W.ownsRow w.heap.size 45 1 v k (cs.map SD.fn)
  src : SrcAll W cs (fun _ => 0)
  xs : ∀ p, p < cs.length → (cs.getD p sd0).xs = srt befE (L.getD p lv0).xs
  dis : PaD cs
  lo : ∀ p, p < cs.length → w.heap.size ≤ (cs.getD p sd0).pa
  bel : Below w.heap.size w W
  sep : ∀ p, p < cs.length → ∀ b off, (cs.getD p sd0).a = some ⟨b, off, none⟩ → (cs.getD p sd0).xs ≠ [] → v.ownBlock ≠ some b
theorem getD_snocS (cs : List SD) (c : SD) (p : Nat) : (cs ++ [c]).getD p sd0 = if p < cs.length then cs.getD p sd0 else if p = cs.length then c else sd0 := by
  rw [List.getD_eq_getElem?_getD, List.getElem?_append]
  by_cases h : p < cs.length
  · rw [if_pos h, if_pos h, List.getD_eq_getElem?_getD]
  · rw [if_neg h, if_neg h]
    by_cases e : p = cs.length
    · rw [if_pos e, e]; simp
    · rw [if_neg e]
      have : 1 ≤ p - cs.length := by omega
      rw [List.getElem?_eq_none (by simp; omega)]; rfl
theorem SrcI.start {w : World} {L : List LV} : SrcI w L 0 (.slice none 0 0) [] w :=
  ⟨rfl, ⟨rfl, .inl ⟨rfl, rfl⟩⟩, fun p hp => by simp at hp, fun p hp => by simp at hp, fun p q hp => by simp at hp, fun p hp => by simp at hp, Below.refl _ _, fun p hp => by simp at hp⟩
theorem SrcAt.grown {w w' : World} {d : SD} {i : Nat} {row : Option Nat} (h : SrcAt w d i) (hg : w.grownBy w' row) (h1 : row ≠ some d.pa) (h2 : row ≠ some d.pl) (h3 : d.xs ≠ [] → ∀ b off, d.a = some ⟨b, off, none⟩ → row ≠ some b) : SrcAt w' d i := by
  refine ⟨(hg.block _ (heap_lt h.at_) (fun e => h1 e.symm)).trans h.at_, (hg.block _ (heap_lt h.li) (fun e => h2 e.symm)).trans h.li, ?_, h.le, h.ln⟩
  rcases h.ls with e1 | ⟨b, off, e1, hlt, hcs⟩
  · exact .inl e1
  · by_cases hn : d.xs = []
    · exact .inl hn
    · have hb : w'.heap[b]? = w.heap[b]? := hg.block b hlt (fun e => h3 hn b off e1 e.symm)
      have ke : ∀ o, w'.cell? ⟨b, o, none⟩ = w.cell? ⟨b, o, none⟩ := fun o => by simp only [World.cell?, hb]
      refine .inr ⟨b, off, e1, Nat.lt_of_lt_of_le hlt hg.size, fun j hj => ?_⟩
      obtain ⟨a0, a1, a2, a3⟩ := hcs j hj
      exact ⟨(ke _).trans a0, (ke _).trans a1, (ke _).trans a2, (ke _).trans a3⟩
theorem SrcI.snoc {w : World} {L : List LV} {k : Nat} {v v' : Value} {cs : List SD} {W w2 w3 : World} {c : SD} (h : SrcI w L k v cs W) (h2 : Below W.heap.size W w2) (hc : SrcAt w2 c 0) (hx : c.xs = srt befE (L.getD k lv0).xs) (hpa : W.heap.size ≤ c.pa) (hsep : c.xs ≠ [] → ∀ b off, c.a = some ⟨b, off, none⟩ → v.ownBlock ≠ some b)
    (hg : w2.grownBy w3 v.ownBlock) (hat : v'.ownBlock = v.ownBlock ∨ v'.ownBlock = some w2.heap.size) (hown : w3.ownsRow w.heap.size 45 1 v' (k + 1) (cs.map SD.fn ++ [c.fn])) : SrcI w L (k + 1) v' (cs ++ [c]) w3 := by
  have hW := h.bel.size
  have hty : ∀ g, v.ownBlock = some g → w.heap.size ≤ g ∧ ∃ cur, w2.heap[g]? = some (.cells cur 45 (0, 0)) := fun g e => by
    rcases h.row.2 with ⟨rfl, h0⟩ | ⟨g', cap, cur, rfl, hgB, hgb, _⟩
    · cases e
    · cases e
      exact ⟨hgB, cur, (h2.block _ (heap_lt hgb)).trans hgb⟩
  have keep : ∀ (d : SD) (i : Nat), SrcAt w2 d i → (d.xs ≠ [] → ∀ b off, d.a = some ⟨b, off, none⟩ → v.ownBlock ≠ some b) → SrcAt w3 d i := fun d i hd hs => by
    refine hd.grown hg (fun e => ?_) (fun e => ?_) hs
    · obtain ⟨-, cur, h3⟩ := hty _ e
      rw [hd.at_] at h3
      injection h3 with h3
      injection h3 with e1 e2
      exact absurd e2 (by decide)
    · obtain ⟨-, cur, h3⟩ := hty _ e
      rw [hd.li] at h3
      injection h3 with h3
      injection h3 with e1 e2
      exact absurd e2 (by decide)
  have hold : ∀ p, p < cs.length → SrcAt w3 (cs.getD p sd0) 0 := fun p hp => keep _ _ ((h.src p hp).below h2) (fun hn b off e => h.sep p hp b off e hn)
  have hnew : SrcAt w3 c 0 := keep c 0 hc hsep
  have gl : ∀ p, p < cs.length → (cs ++ [c]).getD p sd0 = cs.getD p sd0 := fun p hp => by rw [getD_snocS, if_pos hp]
  have gr : (cs ++ [c]).getD cs.length sd0 = c := by rw [getD_snocS, if_neg (by omega), if_pos rfl]
  have hlen : (cs ++ [c]).length = cs.length + 1 := by simp
  refine ⟨by rw [hlen, h.len], by rw [List.map_append]; exact hown, fun p hp => ?_, fun p hp => ?_, fun p q hp hq hpq => ?_, fun p hp => ?_, ?_, fun p hp b off e hn => ?_⟩
  · rw [hlen] at hp
    by_cases hpl : p < cs.length
    · rw [gl p hpl]; exact hold p hpl
    · rw [show p = cs.length by omega, gr]; exact hnew
  · rw [hlen] at hp
    by_cases hpl : p < cs.length
    · rw [gl p hpl]; exact h.xs p hpl
    · rw [show p = cs.length by omega, gr, hx, h.len]
  · rw [hlen] at hp hq
    have hlow : ∀ p, p < cs.length → (cs.getD p sd0).pa < W.heap.size := fun p hp => heap_lt (h.src p hp).at_
    by_cases hpl : p < cs.length
    · by_cases hql : q < cs.length
      · rw [gl p hpl, gl q hql]; exact h.dis p q hpl hql hpq
      · rw [gl p hpl, show q = cs.length by omega, gr]; have := hlow p hpl; omega
    · by_cases hql : q < cs.length
      · rw [show p = cs.length by omega, gr, gl q hql]; have := hlow q hql; omega
      · omega
  · rw [hlen] at hp
    by_cases hpl : p < cs.length
    · rw [gl p hpl]; exact h.lo p hpl
    · rw [show p = cs.length by omega, gr]; omega
  · refine h.bel.trans ⟨hg.os.trans h2.os, hg.tape.trans h2.tape, hg.output.trans h2.output, Nat.le_trans h2.size hg.size, fun j hj => ?_⟩
    have hj2 : j < w2.heap.size := by have := h2.size; omega
    exact (hg.block j hj2 (fun e => by have := (hty j e.symm).1; omega)).trans (h2.block j (by omega))
  · have hb : b < w2.heap.size ∧ v.ownBlock ≠ some b := by
      rw [hlen] at hp
      by_cases hpl : p < cs.length
      · rw [gl p hpl] at e hn
        refine ⟨?_, h.sep p hpl b off e hn⟩
        rcases (h.src p hpl).low.2.2 with e1 | ⟨b', off', e1, h4⟩
        · exact absurd e1 hn
        · rw [e] at e1; cases e1; have := h2.size; omega
      · rw [show p = cs.length by omega, gr] at e hn
        refine ⟨?_, hsep hn b off e⟩
        rcases hc.low.2.2 with e1 | ⟨b', off', e1, h4⟩
        · exact absurd e1 hn
        · rw [e] at e1; cases e1; exact h4
    rcases hat with h1 | h1
    · rw [h1]; exact hb.2
    · rw [h1]; intro e2; injection e2 with e2; omega
end Go.Proofs.Ytgkhjjnhikbdaaa
