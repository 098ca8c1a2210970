import Derived.Test.YtogcpllpkdeehaaGreatDoorTbL

namespace Go.Proofs.YtogcpllpkdeehaaGreatDoor
open Go.RowKit Go.Maps Go.Shelf
set_option linter.unusedVariables false
set_option linter.unusedSimpArgs false

/-- One block more. -/
def stepP (xs : List En) (t : List UInt8 × List UInt8) (k : Nat) : List UInt8 × List UInt8 :=
  (t.1 ++ (frT 66 (encT (subE xs k))).data.toList, t.2 ++ (vb (t.1.length / 64) ++ vb (subE xs k).length ++ kyB ((subE xs k).getD 0 en0).ky ++ kyB ((subE xs k).getD ((subE xs k).length - 1) en0).ky))
/-- What is written of blocks, in whatever order. -/
def tabP (xs : List En) (ks : List Nat) : List UInt8 × List UInt8 := ks.foldl (stepP xs) ([], [])
theorem tabP_snoc (xs : List En) (ks : List Nat) (k : Nat) : tabP xs (ks ++ [k]) = stepP xs (tabP xs ks) k := by simp [tabP]
theorem tabP_range (xs : List En) : ∀ n, tabP xs (List.range n) = tab xs n
  | 0 => rfl
  | n + 1 => by rw [List.range_succ, tabP_snoc, tabP_range xs n]; rfl
theorem sub_size {xs : List En} {k : Nat} (h : (subE xs k).all entOk = true) : (encT (subE xs k)).size ≤ 40208 := by
  rw [encT_ok _ (by rw [subE_len]; omega) h]
  have h1 := encB_len (subE xs k).length (subE xs k) h
  have h2 := subE_len xs k
  show (encB (subE xs k).length (subE xs k)).toArray.size ≤ _
  rw [List.size_toArray]
  omega
theorem sub_pos {xs : List En} {k : Nat} (h : (subE xs k).all entOk = true) : (encT (subE xs k)).size ≠ 0 := by
  rw [encT_ok _ (by rw [subE_len]; omega) h]
  show (encB (subE xs k).length (subE xs k)).toArray.size ≠ 0
  rw [List.size_toArray]
  have := vbf_pos 7 (subE xs k).length
  unfold encB
  rw [List.length_append]
  show (vbf 7 (subE xs k).length).length + _ ≠ 0
  omega
theorem sub_bad {xs : List En} {k : Nat} (h : (subE xs k).all entOk = false) : encT (subE xs k) = ⟨#[]⟩ := by
  unfold encT
  rw [if_neg]
  rintro ⟨-, h2⟩
  rw [h2] at h
  cases h
theorem sub_key {xs : List En} {k : Nat} (h : (subE xs k).all entOk = true) : ∀ e ∈ subE xs k, e.ky.size ≤ 1000 := fun e he => ((entOk_iff _).1 (List.all_eq_true.1 h e he)).1.2.1
theorem sub_keyD {xs : List En} {k : Nat} (h : (subE xs k).all entOk = true) (i : Nat) : ((subE xs k).getD i en0).ky.size ≤ 1000 := by
  by_cases hi : i < (subE xs k).length
  · have e : (subE xs k).getD i en0 = (subE xs k)[i] := by simp [List.getD, hi]
    rw [e]
    exact sub_key h _ (List.getElem_mem hi)
  · have e : (subE xs k).getD i en0 = en0 := by simp [List.getD, List.getElem?_eq_none (Nat.le_of_not_lt hi)]
    rw [e]
    decide
/-- Blocks of xs, all of them valid. -/
def okP {xs : List En} (pre : List (Bk xs)) : Prop := ∀ x ∈ pre, (subE xs x.k).all entOk = true
theorem okP_snoc {xs : List En} {pre : List (Bk xs)} {x : Bk xs} (h : okP pre) (hx : (subE xs x.k).all entOk = true) : okP (pre ++ [x]) := fun y hy => by
  rcases List.mem_append.1 hy with h1 | h1
  · exact h y h1
  · rw [List.mem_singleton.1 h1]; exact hx
theorem tabP_len {xs : List En} : ∀ (n : Nat) (pre : List (Bk xs)), pre.length = n → okP pre → (tabP xs (pre.map Bk.k)).1.length ≤ 40960 * n ∧ (tabP xs (pre.map Bk.k)).2.length ≤ 2032 * n
  | 0, pre, h, _ => by
    rw [List.length_eq_zero_iff.1 h]
    simp [tabP]
  | n + 1, pre, h, ho => by
    rcases List.eq_nil_or_concat pre with rfl | ⟨q, x, rfl⟩
    · simp at h
    rw [List.concat_eq_append] at *
    have hq : q.length = n := by simpa using h
    have ih := tabP_len n q hq (fun y hy => ho y (List.mem_append_left _ hy))
    have hx : (subE xs x.k).all entOk = true := ho x (by simp)
    have hs := sub_size hx
    have a := vb_len ((tabP xs (q.map Bk.k)).1.length / 64)
    have b := vb_len (subE xs x.k).length
    have c := kyB_lenB (sub_keyD hx 0)
    have d := kyB_lenB (sub_keyD hx ((subE xs x.k).length - 1))
    rw [List.map_append, List.map_singleton, tabP_snoc]
    simp only [stepP, List.length_append]
    rw [frT_data (by decide) (by omega)]
    unfold pagesN
    omega
/-- All blocks are valid where all entries are, and the other way round. -/
theorem all_blocks {xs : List En} (ys : List (Bk xs)) (h : ys.map Bk.k = List.range (nbE xs.length)) (ho : okP ys) : xs.all entOk = true := by
  refine List.all_eq_true.2 fun e he => ?_
  obtain ⟨i, hi, rfl⟩ := List.mem_iff_getElem.1 he
  have hk : i / 8 ∈ List.range (nbE xs.length) := by rw [List.mem_range]; unfold nbE; omega
  rw [← h] at hk
  obtain ⟨x, hx, hxk⟩ := List.mem_map.1 hk
  have h1 := ho x hx
  rw [hxk] at h1
  refine List.all_eq_true.1 h1 _ ?_
  have h2 : i % 8 < (subE xs (i / 8)).length := by rw [subE_len]; omega
  have h3 : (subE xs (i / 8))[i % 8] = xs[i] := by
    simp only [subE, List.getElem_take, List.getElem_drop]
    congr 1
    omega
  rw [← h3]
  exact List.getElem_mem h2
theorem bad_block {xs : List En} {k : Nat} (h : (subE xs k).all entOk = false) : xs.all entOk = false := by
  cases hx : xs.all entOk with
  | false => rfl
  | true => rw [subE_all hx k] at h; cases h

theorem one_cellB {W : World} {B : Nat} {v : Value} {t : TypeId} (h : W.heap[B]? = some (.cells #[v] t (0, 0))) : W.cell? ⟨B, 0, none⟩ = some v ∧ W.frozen? ⟨B, 0, none⟩ = false := by
  constructor <;> simp [World.cell?, World.frozen?, h]
theorem kept_ofB {W W' : World} {row : Option Nat} (hg : W.grownBy W' row) (hr : ∀ r, row = some r → ∃ o : Obj, W.heap[r]? = some o ∧ o.isCells = false) : ∀ (g : Nat) (o : Obj), W.heap[g]? = some o → o.isCells = true → W'.heap[g]? = some o := fun g o h hc => (grownBy_keeps_cells hg hr h hc).trans h
theorem alloc_atB (W : World) (o : Obj) (k : Nat) (hk : k = W.heap.size) : (W.alloc o).heap[k]? = some o := by subst hk; exact World.heap_alloc_new _ _
theorem Steps.lowB {n0 : Nat} {w w' : World} (h : Steps w) (hb : Below n0 w w') (hg : 0 < n0) : Steps w' :=
  ⟨Nat.lt_of_lt_of_le h.1 hb.size, fun i hi => (hb.cell (p := ⟨0, i, none⟩) hg).trans (h.2 i hi)⟩
theorem BldV.blocks {B b : Nat} {l : List UInt8} {v : Value} {W W' : World} (h : BldV B b l v W) (hb : ∀ (g : Nat) (o : Obj), W.heap[g]? = some o → o.isCells = true → W'.heap[g]? = some o) : BldV B b l v W' := by
  obtain ⟨hB, p, hp, hbk, ⟨k1, k2⟩, hn⟩ := h
  refine ⟨hB, p, hp, hb _ _ hbk rfl, ⟨k1, ?_⟩, hn⟩
  rcases k2 with k2 | ⟨g, cap, cur, fz, rfl, hg, hgk, hrest⟩
  · exact .inl k2
  · exact .inr ⟨g, cap, cur, fz, rfl, hg, hb _ _ hgk rfl, hrest⟩
/-- What a write leaves that is no row of cells. -/
theorem Wr.others {B b : Nat} {l : List UInt8} {v v' : Value} {W W' : World} (h : BldV B b l v W) (hw : Wr b v v' W W') : KeepsOthers W W' := by
  obtain ⟨hB, p, hp, hbk, ⟨k1, k2⟩, hn⟩ := h
  refine ⟨hw.size, fun k o hk ho => (hw.block k (heap_ltB hk) (fun e => ?_) (fun e => ?_)).trans hk⟩
  · subst e
    rw [hbk] at hk
    cases hk
    cases ho
  · rcases k2 with ⟨rfl, -⟩ | ⟨g, cap, cur, fz, rfl, hg, hgk, hrest⟩
    · cases e
    · cases e
      rw [hgk] at hk
      cases hk
      cases ho
theorem others_of {W W' : World} (h : Below W.heap.size W W') : KeepsOthers W W' := ⟨h.size, fun k o hk _ => (h.block k (heap_ltB hk)).trans hk⟩
theorem BldV.neType {B b : Nat} {l : List UInt8} {v : Value} {W : World} (h : BldV B b l v W) {g : Nat} {cs : Array Value} {t : TypeId} {fz : Nat × Nat} (hg : W.heap[g]? = some (.cells cs t fz)) (ht : t ≠ 5) : v.ownBlock ≠ some g := by
  obtain ⟨hB, p, hp, hbk, ho, hn⟩ := h
  exact Lib.ownBlock_neF ho hg ht

theorem Wr.kept {B b : Nat} {l : List UInt8} {v v' : Value} {W W' : World} (hw : Wr b v v' W W') (h : BldV B b l v W) {g : Nat} {cs : Array Value} {t : TypeId} {fz : Nat × Nat} (hg : W.heap[g]? = some (.cells cs t fz)) (ht : t ≠ 5) (hne : g ≠ b) : W'.heap[g]? = some (.cells cs t fz) :=
  (hw.block g (heap_ltB hg) hne (fun e => h.neType hg ht e.symm)).trans hg
theorem len_v (B b : Nat) (l : List UInt8) (v : Value) (w : World) (h : BldV B b l v w) :
    Calls Tryz.prog 22 #[.pointer (some ⟨b, 0, none⟩)] w fun e w' => e = .returned (.int .i64 l.length) ∧ w' = w := by
  refine (Tryz.Builder_Len_f B b (bc l) w h.bld).mono ?_
  rintro e w' ⟨rfl, rfl⟩
  exact ⟨by rw [List.length_map], rfl⟩
/-- The state of BuildTable's loop. -/
structure BtI (n0 r bt bi nb bs : Nat) (sv : Value) (xs : List En) (pre : List (Bk xs)) (W : World) : Prop where
  res : W.heap[r]? = some (.cells #[.string ⟨#[]⟩] 9 (0, 0))
  hs : W.heap[bs]? = some (.cells #[sv] 23 (0, 0))
  hn : W.heap[bs + 1]? = some (.cells #[.int .i64 8] 3 (0, 0))
  bl : ∃ v1 v2, BldV n0 bt (tabP xs (pre.map Bk.k)).1 v1 W ∧ BldV n0 bi (vb nb ++ (tabP xs (pre.map Bk.k)).2) v2 W ∧ (∀ g, v1.ownBlock = some g → v2.ownBlock ≠ some g)
  ok : okP pre
theorem BtI.blocks {n0 r bt bi nb bs : Nat} {sv : Value} {xs : List En} {pre : List (Bk xs)} {W W' : World} (h : BtI n0 r bt bi nb bs sv xs pre W) (hb : ∀ (g : Nat) (o : Obj), W.heap[g]? = some o → o.isCells = true → W'.heap[g]? = some o) : BtI n0 r bt bi nb bs sv xs pre W' := by
  obtain ⟨h1, h6, h7, ⟨v1, v2, h2, h3, h4⟩, h5⟩ := h
  exact ⟨hb _ _ h1 rfl, hb _ _ h6 rfl, hb _ _ h7 rfl, ⟨v1, v2, h2.blocks hb, h3.blocks hb, h4⟩, h5⟩
def BtJ (n0 r bt bi nb bs : Nat) (sv : Value) (xs : List En) (w : World) (pre : List (Bk xs)) (W : World) : Prop := BtI n0 r bt bi nb bs sv xs pre W ∧ Below n0 w W
def BtX (n0 r : Nat) (xs : List En) (w : World) (cd : Code) (pre : List (Bk xs)) (W : World) : Prop := (cd = .ret ∧ xs.all entOk = false ∧ W.heap[r]? = some (.cells #[.string ⟨#[]⟩] 9 (0, 0))) ∧ Below n0 w W
theorem btJ_own (n0 r bt bi nb bs : Nat) (sv : Value) (xs : List En) (B : Nat) (w : World) (hn : n0 ≤ w.heap.size) (hB : n0 ≤ B) : OwnFrom B (BtJ n0 r bt bi nb bs sv xs w) :=
  OwnFrom.and (Own.from (fun _ A B' row hs hg hr => hs.blocks (kept_ofB hg hr)) _) (ownFrom_below hn hB)
theorem btX_own (n0 r : Nat) (xs : List En) (B : Nat) (w : World) (hn : n0 ≤ w.heap.size) (hB : n0 ≤ B) (cd : Code) : OwnFrom B (BtX n0 r xs w cd) := by
  refine OwnFrom.and (Own.from (fun _ A B' row hs hg hr => ?_) _) (ownFrom_below hn hB)
  exact ⟨hs.1, hs.2.1, kept_ofB hg hr _ _ hs.2.2 rfl⟩
/-- What a round does to memory: four steps of which two write. -/
structure BtR (bt bi r bs : Nat) (sv v1 v2 v1' v2' : Value) (W W1 W2 W3 W4 : World) : Prop where
  s1 : Below W.heap.size W W1
  s2 : Wr bi v2 v2' W1 W2
  s3 : Below W2.heap.size W2 W3
  s4 : Wr bt v1 v1' W3 W4
theorem BtR.done {n0 r bt bi nb bs : Nat} {sv v1 v2 v1' v2' : Value} {xs : List En} {pre : List (Bk xs)} {x : Bk xs} {w W W1 W2 W3 W4 : World} (hres : W.heap[r]? = some (.cells #[.string ⟨#[]⟩] 9 (0, 0))) (hsv : W.heap[bs]? = some (.cells #[sv] 23 (0, 0))) (hn : W.heap[bs + 1]? = some (.cells #[.int .i64 8] 3 (0, 0)))
    {l1 l2 l1' l2' : List UInt8} (hT1 : BldV n0 bt l1 v1 W1) (hX1 : BldV n0 bi l2 v2 W1) (hX2 : BldV n0 bi l2' v2' W2) (hT3 : BldV n0 bt l1 v1 W3) (hT4 : BldV n0 bt l1' v1' W4) (hd3 : ∀ g, v1.ownBlock = some g → v2'.ownBlock ≠ some g)
    (h : BtR bt bi r bs sv v1 v2 v1' v2' W W1 W2 W3 W4) (hbi : bt ≠ bi) (hrt : r ≠ bt) (hri : r ≠ bi) (hst : bs ≠ bt) (hsi : bs ≠ bi) (hnt : bs + 1 ≠ bt) (hni : bs + 1 ≠ bi) (hn0 : n0 ≤ W.heap.size)
    (e1 : l1' = (tabP xs ((pre ++ [x]).map Bk.k)).1) (e2 : l2' = vb nb ++ (tabP xs ((pre ++ [x]).map Bk.k)).2) (hok : okP (pre ++ [x])) (hB : Below n0 w W) :
    KeepsOthers W W4 ∧ KC n0 bs (bs + 1) W W4 ∧ BtJ n0 r bt bi nb bs sv xs w (pre ++ [x]) W4 := by
  have k1 : ∀ {g : Nat} {cs : Array Value} {t : TypeId}, W.heap[g]? = some (.cells cs t (0, 0)) → t ≠ 5 → g ≠ bt → g ≠ bi → W4.heap[g]? = some (.cells cs t (0, 0)) := fun {g cs t} hg ht a b => by
    have a1 := (h.s1.block g (heap_ltB hg)).trans hg
    have a2 := h.s2.kept hX1 a1 ht b
    have a3 := (h.s3.block g (heap_ltB a2)).trans a2
    exact h.s4.kept hT3 a3 ht a
  have hX3 := hX2.below h.s3
  obtain ⟨hX4, hd4⟩ := hX3.other hT3 h.s4 hbi hd3
  have b1 : Below n0 W W1 := h.s1.mono hn0
  have b2 : Below n0 W1 W2 := h.s2.below hX1.1 (fun g hg => (hX1.rowLt g hg).1) (Nat.le_trans hn0 h.s1.size)
  have b3 : Below n0 W2 W3 := h.s3.mono (Nat.le_trans (Nat.le_trans hn0 h.s1.size) h.s2.size)
  have b4 : Below n0 W3 W4 := h.s4.below hT3.1 (fun g hg => (hT3.rowLt g hg).1) (Nat.le_trans (Nat.le_trans (Nat.le_trans hn0 h.s1.size) h.s2.size) h.s3.size)
  have hb : Below n0 W W4 := ((b1.trans b2).trans b3).trans b4
  have r4 := k1 hres (by decide) hrt hri
  have s4 := k1 hsv (by decide) hst hsi
  have n4 := k1 hn (by decide) hnt hni
  refine ⟨(((others_of h.s1).trans (Wr.others hX1 h.s2)).trans (others_of h.s3)).trans (Wr.others hT3 h.s4), ⟨hb, s4.trans hsv.symm, n4.trans hn.symm⟩, ⟨r4, s4, n4, ⟨v1', v2', ?_, ?_, hd4⟩, hok⟩, hB.trans hb⟩
  · rw [← e1]; exact hT4
  · rw [← e2]; exact hX4
end Go.Proofs.YtogcpllpkdeehaaGreatDoor
