import Derived.Test.YtgmfjninimebmaaGreatDoorMgRtA
namespace Go.Proofs.YtgmfjninimebmaaGreatDoor
open Go.RowKit Go.Maps Go.Shelf
set_option linter.unusedVariables false
set_option linter.unusedSimpArgs false

/-- One block more. -/
def stepP (xs : List En) (t : List UInt8 × List UInt8) (k : Nat) : List UInt8 × List UInt8 :=
  (t.1 ++ (frT 66 (encT (subE xs k))).data.toList, t.2 ++ (vb (t.1.length / 64) ++ vb (subE xs k).length ++ kyB ((subE xs k).getD 0 en0).ky ++ kyB ((subE xs k).getD ((subE xs k).length - 1) en0).ky))
/-- What is written of blocks, in whatever order. -/
def tabP (xs : List En) (ks : List Nat) : List UInt8 × List UInt8 := ks.foldl (stepP xs) ([], [])
theorem tabP_snoc (xs : List En) (ks : List Nat) (k : Nat) : tabP xs (ks ++ [k]) = stepP xs (tabP xs ks) k := by simp [tabP]
theorem tabP_range (xs : List En) : ∀ n, tabP xs (List.range n) = tab xs n
  | 0 => rfl
  | n + 1 => by rw [List.range_succ, tabP_snoc, tabP_range xs n]; rfl
theorem sub_size {xs : List En} {k : Nat} (h : (subE xs k).all entOk = true) : (encT (subE xs k)).size ≤ 40208 := by
  rw [encT_ok _ (by rw [subE_len]; omega) h]
  have h1 := encB_len (subE xs k).length (subE xs k) h
  have h2 := subE_len xs k
  show (encB (subE xs k).length (subE xs k)).toArray.size ≤ _
  rw [List.size_toArray]
  omega
theorem sub_pos {xs : List En} {k : Nat} (h : (subE xs k).all entOk = true) : (encT (subE xs k)).size ≠ 0 := by
  rw [encT_ok _ (by rw [subE_len]; omega) h]
  show (encB (subE xs k).length (subE xs k)).toArray.size ≠ 0
  rw [List.size_toArray]
  have := vbf_pos 7 (subE xs k).length
  unfold encB
  rw [List.length_append]
  show (vbf 7 (subE xs k).length).length + _ ≠ 0
  omega
theorem sub_bad {xs : List En} {k : Nat} (h : (subE xs k).all entOk = false) : encT (subE xs k) = ⟨#[]⟩ := by
  unfold encT
  rw [if_neg]
  rintro ⟨-, h2⟩
  rw [h2] at h
  cases h
theorem sub_key {xs : List En} {k : Nat} (h : (subE xs k).all entOk = true) : ∀ e ∈ subE xs k, e.ky.size ≤ 1000 := fun e he => ((entOk_iff _).1 (List.all_eq_true.1 h e he)).1.2.1
theorem sub_keyD {xs : List En} {k : Nat} (h : (subE xs k).all entOk = true) (i : Nat) : ((subE xs k).getD i en0).ky.size ≤ 1000 := by
  by_cases hi : i < (subE xs k).length
  · have e : (subE xs k).getD i en0 = (subE xs k)[i] := by simp [List.getD, hi]
    rw [e]
    exact sub_key h _ (List.getElem_mem hi)
  · have e : (subE xs k).getD i en0 = en0 := by simp [List.getD, List.getElem?_eq_none (Nat.le_of_not_lt hi)]
    rw [e]
    decide
/-- Blocks of xs, all of them valid. -/
def okP {xs : List En} (pre : List (Bk xs)) : Prop := ∀ x ∈ pre, (subE xs x.k).all entOk = true
theorem okP_snoc {xs : List En} {pre : List (Bk xs)} {x : Bk xs} (h : okP pre) (hx : (subE xs x.k).all entOk = true) : okP (pre ++ [x]) := fun y hy => by
  rcases List.mem_append.1 hy with h1 | h1
  · exact h y h1
  · rw [List.mem_singleton.1 h1]; exact hx
theorem tabP_len {xs : List En} : ∀ (n : Nat) (pre : List (Bk xs)), pre.length = n → okP pre → (tabP xs (pre.map Bk.k)).1.length ≤ 40960 * n ∧ (tabP xs (pre.map Bk.k)).2.length ≤ 2032 * n
  | 0, pre, h, _ => by
    rw [List.length_eq_zero_iff.1 h]
    simp [tabP]
  | n + 1, pre, h, ho => by
    rcases List.eq_nil_or_concat pre with rfl | ⟨q, x, rfl⟩
    · simp at h
    rw [List.concat_eq_append] at *
    have hq : q.length = n := by simpa using h
    have ih := tabP_len n q hq (fun y hy => ho y (List.mem_append_left _ hy))
    have hx : (subE xs x.k).all entOk = true := ho x (by simp)
    have hs := sub_size hx
    have a := vb_len ((tabP xs (q.map Bk.k)).1.length / 64)
    have b := vb_len (subE xs x.k).length
    have c := kyB_lenB (sub_keyD hx 0)
    have d := kyB_lenB (sub_keyD hx ((subE xs x.k).length - 1))
    rw [List.map_append, List.map_singleton, tabP_snoc]
    simp only [stepP, List.length_append]
    rw [frT_data (by decide) (by omega)]
    unfold pagesN
    omega
/-- All blocks are valid where all entries are, and the other way round. -/
theorem all_blocks {xs : List En} (ys : List (Bk xs)) (h : ys.map Bk.k = List.range (nbE xs.length)) (ho : okP ys) : xs.all entOk = true := by
  refine List.all_eq_true.2 fun e he => ?_
  obtain ⟨i, hi, rfl⟩ := List.mem_iff_getElem.1 he
  have hk : i / 8 ∈ List.range (nbE xs.length) := by rw [List.mem_range]; unfold nbE; omega
  rw [← h] at hk
  obtain ⟨x, hx, hxk⟩ := List.mem_map.1 hk
  have h1 := ho x hx
  rw [hxk] at h1
  refine List.all_eq_true.1 h1 _ ?_
  have h2 : i % 8 < (subE xs (i / 8)).length := by rw [subE_len]; omega
  have h3 : (subE xs (i / 8))[i % 8] = xs[i] := by
    simp only [subE, List.getElem_take, List.getElem_drop]
    congr 1
    omega
  rw [← h3]
  exact List.getElem_mem h2
theorem bad_block {xs : List En} {k : Nat} (h : (subE xs k).all entOk = false) : xs.all entOk = false := by
  cases hx : xs.all entOk with
  | false => rfl
  | true => rw [subE_all hx k] at h; cases h

theorem one_cellB {W : World} {B : Nat} {v : Value} {t : TypeId} (h : W.heap[B]? = some (.cells #[v] t (0, 0))) : W.cell? ⟨B, 0, none⟩ = some v ∧ W.frozen? ⟨B, 0, none⟩ = false := by
  constructor <;> simp [World.cell?, World.frozen?, h]
theorem kept_ofB {W W' : World} {row : Option Nat} (hg : W.grownBy W' row) (hr : ∀ r, row = some r → ∃ o : Obj, W.heap[r]? = some o ∧ o.isCells = false) : ∀ (g : Nat) (o : Obj), W.heap[g]? = some o → o.isCells = true → W'.heap[g]? = some o := fun g o h hc => (grownBy_keeps_cells hg hr h hc).trans h
theorem alloc_atB (W : World) (o : Obj) (k : Nat) (hk : k = W.heap.size) : (W.alloc o).heap[k]? = some o := by subst hk; exact World.heap_alloc_new _ _
theorem Steps.lowB {n0 : Nat} {w w' : World} (h : Steps w) (hb : Below n0 w w') (hg : 0 < n0) : Steps w' :=
  ⟨Nat.lt_of_lt_of_le h.1 hb.size, fun i hi => (hb.cell (p := ⟨0, i, none⟩) hg).trans (h.2 i hi)⟩
theorem BldV.blocks {B b : Nat} {l : List UInt8} {v : Value} {W W' : World} (h : BldV B b l v W) (hb : ∀ (g : Nat) (o : Obj), W.heap[g]? = some o → o.isCells = true → W'.heap[g]? = some o) : BldV B b l v W' := by
  obtain ⟨hB, p, hp, hbk, ⟨k1, k2⟩, hn⟩ := h
  refine ⟨hB, p, hp, hb _ _ hbk rfl, ⟨k1, ?_⟩, hn⟩
  rcases k2 with k2 | ⟨g, cap, cur, fz, rfl, hg, hgk, hrest⟩
  · exact .inl k2
  · exact .inr ⟨g, cap, cur, fz, rfl, hg, hb _ _ hgk rfl, hrest⟩
/-- What a write leaves that is no row of cells. -/
theorem Wr.others {B b : Nat} {l : List UInt8} {v v' : Value} {W W' : World} (h : BldV B b l v W) (hw : Wr b v v' W W') : KeepsOthers W W' := by
  obtain ⟨hB, p, hp, hbk, ⟨k1, k2⟩, hn⟩ := h
  refine ⟨hw.size, fun k o hk ho => (hw.block k (heap_ltB hk) (fun e => ?_) (fun e => ?_)).trans hk⟩
  · subst e
    rw [hbk] at hk
    cases hk
    cases ho
  · rcases k2 with ⟨rfl, -⟩ | ⟨g, cap, cur, fz, rfl, hg, hgk, hrest⟩
    · cases e
    · cases e
      rw [hgk] at hk
      cases hk
      cases ho
theorem others_of {W W' : World} (h : Below W.heap.size W W') : KeepsOthers W W' := ⟨h.size, fun k o hk _ => (h.block k (heap_ltB hk)).trans hk⟩
theorem BldV.neType {B b : Nat} {l : List UInt8} {v : Value} {W : World} (h : BldV B b l v W) {g : Nat} {cs : Array Value} {t : TypeId} {fz : Nat × Nat} (hg : W.heap[g]? = some (.cells cs t fz)) (ht : t ≠ 5) : v.ownBlock ≠ some g := by
  obtain ⟨hB, p, hp, hbk, ho, hn⟩ := h
  exact Lib.ownBlock_neF ho hg ht

theorem Wr.kept {B b : Nat} {l : List UInt8} {v v' : Value} {W W' : World} (hw : Wr b v v' W W') (h : BldV B b l v W) {g : Nat} {cs : Array Value} {t : TypeId} {fz : Nat × Nat} (hg : W.heap[g]? = some (.cells cs t fz)) (ht : t ≠ 5) (hne : g ≠ b) : W'.heap[g]? = some (.cells cs t fz) :=
  (hw.block g (heap_ltB hg) hne (fun e => h.neType hg ht e.symm)).trans hg
theorem len_v (B b : Nat) (l : List UInt8) (v : Value) (w : World) (h : BldV B b l v w) :
    Calls Tryz.prog 115 #[.pointer (some ⟨b, 0, none⟩)] w fun e w' => e = .returned (.int .i64 l.length) ∧ w' = w := by
  refine (Tryz.Builder_Len_f B b (bc l) w h.bld).mono ?_
  rintro e w' ⟨rfl, rfl⟩
  exact ⟨by rw [List.length_map], rfl⟩
/-- The state of BuildTable's loop. -/
structure BtI (n0 r bt bi nb bs : Nat) (sv : Value) (xs : List En) (pre : List (Bk xs)) (W : World) : Prop where
  res : W.heap[r]? = some (.cells #[.string ⟨#[]⟩] 9 (0, 0))
  hs : W.heap[bs]? = some (.cells #[sv] 26 (0, 0))
  hn : W.heap[bs + 1]? = some (.cells #[.int .i64 8] 3 (0, 0))
  bl : ∃ v1 v2, BldV n0 bt (tabP xs (pre.map Bk.k)).1 v1 W ∧ BldV n0 bi (vb nb ++ (tabP xs (pre.map Bk.k)).2) v2 W ∧ (∀ g, v1.ownBlock = some g → v2.ownBlock ≠ some g)
  ok : okP pre
theorem BtI.blocks {n0 r bt bi nb bs : Nat} {sv : Value} {xs : List En} {pre : List (Bk xs)} {W W' : World} (h : BtI n0 r bt bi nb bs sv xs pre W) (hb : ∀ (g : Nat) (o : Obj), W.heap[g]? = some o → o.isCells = true → W'.heap[g]? = some o) : BtI n0 r bt bi nb bs sv xs pre W' := by
  obtain ⟨h1, h6, h7, ⟨v1, v2, h2, h3, h4⟩, h5⟩ := h
  exact ⟨hb _ _ h1 rfl, hb _ _ h6 rfl, hb _ _ h7 rfl, ⟨v1, v2, h2.blocks hb, h3.blocks hb, h4⟩, h5⟩
def BtJ (n0 r bt bi nb bs : Nat) (sv : Value) (xs : List En) (w : World) (pre : List (Bk xs)) (W : World) : Prop := BtI n0 r bt bi nb bs sv xs pre W ∧ Below n0 w W
def BtX (n0 r : Nat) (xs : List En) (w : World) (cd : Code) (pre : List (Bk xs)) (W : World) : Prop := (cd = .ret ∧ xs.all entOk = false ∧ W.heap[r]? = some (.cells #[.string ⟨#[]⟩] 9 (0, 0))) ∧ Below n0 w W
theorem btJ_own (n0 r bt bi nb bs : Nat) (sv : Value) (xs : List En) (B : Nat) (w : World) (hn : n0 ≤ w.heap.size) (hB : n0 ≤ B) : OwnFrom B (BtJ n0 r bt bi nb bs sv xs w) :=
  OwnFrom.and (Own.from (fun _ A B' row hs hg hr => hs.blocks (kept_ofB hg hr)) _) (ownFrom_below hn hB)
theorem btX_own (n0 r : Nat) (xs : List En) (B : Nat) (w : World) (hn : n0 ≤ w.heap.size) (hB : n0 ≤ B) (cd : Code) : OwnFrom B (BtX n0 r xs w cd) := by
  refine OwnFrom.and (Own.from (fun _ A B' row hs hg hr => ?_) _) (ownFrom_below hn hB)
  exact ⟨hs.1, hs.2.1, kept_ofB hg hr _ _ hs.2.2 rfl⟩
/-- What a round does to memory: four steps of which two write. -/
structure BtR (bt bi r bs : Nat) (sv v1 v2 v1' v2' : Value) (W W1 W2 W3 W4 : World) : Prop where
  s1 : Below W.heap.size W W1
  s2 : Wr bi v2 v2' W1 W2
  s3 : Below W2.heap.size W2 W3
  s4 : Wr bt v1 v1' W3 W4
theorem BtR.done {n0 r bt bi nb bs : Nat} {sv v1 v2 v1' v2' : Value} {xs : List En} {pre : List (Bk xs)} {x : Bk xs} {w W W1 W2 W3 W4 : World} (hres : W.heap[r]? = some (.cells #[.string ⟨#[]⟩] 9 (0, 0))) (hsv : W.heap[bs]? = some (.cells #[sv] 26 (0, 0))) (hn : W.heap[bs + 1]? = some (.cells #[.int .i64 8] 3 (0, 0)))
    {l1 l2 l1' l2' : List UInt8} (hT1 : BldV n0 bt l1 v1 W1) (hX1 : BldV n0 bi l2 v2 W1) (hX2 : BldV n0 bi l2' v2' W2) (hT3 : BldV n0 bt l1 v1 W3) (hT4 : BldV n0 bt l1' v1' W4) (hd3 : ∀ g, v1.ownBlock = some g → v2'.ownBlock ≠ some g)
    (h : BtR bt bi r bs sv v1 v2 v1' v2' W W1 W2 W3 W4) (hbi : bt ≠ bi) (hrt : r ≠ bt) (hri : r ≠ bi) (hst : bs ≠ bt) (hsi : bs ≠ bi) (hnt : bs + 1 ≠ bt) (hni : bs + 1 ≠ bi) (hn0 : n0 ≤ W.heap.size)
    (e1 : l1' = (tabP xs ((pre ++ [x]).map Bk.k)).1) (e2 : l2' = vb nb ++ (tabP xs ((pre ++ [x]).map Bk.k)).2) (hok : okP (pre ++ [x])) (hB : Below n0 w W) :
    KeepsOthers W W4 ∧ KC n0 bs (bs + 1) W W4 ∧ BtJ n0 r bt bi nb bs sv xs w (pre ++ [x]) W4 := by
  have k1 : ∀ {g : Nat} {cs : Array Value} {t : TypeId}, W.heap[g]? = some (.cells cs t (0, 0)) → t ≠ 5 → g ≠ bt → g ≠ bi → W4.heap[g]? = some (.cells cs t (0, 0)) := fun {g cs t} hg ht a b => by
    have a1 := (h.s1.block g (heap_ltB hg)).trans hg
    have a2 := h.s2.kept hX1 a1 ht b
    have a3 := (h.s3.block g (heap_ltB a2)).trans a2
    exact h.s4.kept hT3 a3 ht a
  have hX3 := hX2.below h.s3
  obtain ⟨hX4, hd4⟩ := hX3.other hT3 h.s4 hbi hd3
  have b1 : Below n0 W W1 := h.s1.mono hn0
  have b2 : Below n0 W1 W2 := h.s2.below hX1.1 (fun g hg => (hX1.rowLt g hg).1) (Nat.le_trans hn0 h.s1.size)
  have b3 : Below n0 W2 W3 := h.s3.mono (Nat.le_trans (Nat.le_trans hn0 h.s1.size) h.s2.size)
  have b4 : Below n0 W3 W4 := h.s4.below hT3.1 (fun g hg => (hT3.rowLt g hg).1) (Nat.le_trans (Nat.le_trans (Nat.le_trans hn0 h.s1.size) h.s2.size) h.s3.size)
  have hb : Below n0 W W4 := ((b1.trans b2).trans b3).trans b4
  have r4 := k1 hres (by decide) hrt hri
  have s4 := k1 hsv (by decide) hst hsi
  have n4 := k1 hn (by decide) hnt hni
  refine ⟨(((others_of h.s1).trans (Wr.others hX1 h.s2)).trans (others_of h.s3)).trans (Wr.others hT3 h.s4), ⟨hb, s4.trans hsv.symm, n4.trans hn.symm⟩, ⟨r4, s4, n4, ⟨v1', v2', ?_, ?_, hd4⟩, hok⟩, hB.trans hb⟩
  · rw [← e1]; exact hT4
  · rw [← e2]; exact hX4
end Go.Proofs.YtgmfjninimebmaaGreatDoor
namespace Go.Proofs.YtgmfjninimebmaaGreatDoor
open Go.RowKit Go.Maps Go.Shelf
attribute [local go_sem] Oper.semAt_some
set_option linter.unusedVariables false
set_option linter.unusedSimpArgs false

set_option maxRecDepth 100000 in
set_option maxHeartbeats 2000000 in
theorem implTab_any (a : Option Addr) (cap : Nat) (xs : List En) (w : World) (hx : LieE w a xs) (hf : FitsE xs) (hbig : xs.length ≤ 70368744177664) (hcap : xs.length ≤ cap) (ht : Steps w) :
    Calls Tryz.prog 79 #[.slice a xs.length cap] w fun e w' => e = .returned (.string (tabT xs)) ∧ Below w.heap.size w w' := by
  have hglt := ht.1
  have HShort : Hid (300000 < xs.length → tabT xs = ⟨#[]⟩) := fun h => by unfold tabT; rw [if_neg (by omega)]
  have HOrd : Hid (ordTo xs (xs.length - 1) = false → tabT xs = ⟨#[]⟩) := fun h => by
    unfold tabT
    rw [if_neg]
    rintro ⟨-, h2⟩
    rw [((okTo_all xs).1 h2).2] at h
    cases h
  have HBad : Hid (xs.all entOk = false → tabT xs = ⟨#[]⟩) := fun h => by
    unfold tabT
    rw [if_neg]
    rintro ⟨-, h2⟩
    rw [((okTo_all xs).1 h2).1] at h
    cases h
  have HGood : Hid (xs.length ≤ 300000 → ordTo xs (xs.length - 1) = true → xs.all entOk = true → tabT xs = tabX xs) := fun h1 h2 h3 => by
    unfold tabT
    rw [if_pos ⟨h1, (okTo_all xs).2 ⟨h3, h2⟩⟩]
  generalize tabT xs = T at *
  have HST := hdB ht
  clear ht
  have ha : Hid (0 < xs.length → ∃ b off, a = some ⟨b, off, none⟩) := fun h => by
    obtain ⟨b, off, e, -⟩ := hx.at h
    exact ⟨b, off, e⟩
  have hr0 : (w.alloc (.cells #[.string ⟨#[]⟩] 9)).heap[w.heap.size]? = some (.cells #[.string ⟨#[]⟩] 9 (0, 0)) := World.heap_alloc_new _ _
  have hbw0 : Below w.heap.size w (w.alloc (.cells #[.string ⟨#[]⟩] 9)) := (Below.refl _ _).alloc (Nat.le_refl _) _
  refine (callsIn_wide (n := 3)).1 ?_
  refine callsIn_of_wp_marks Tryz.func79 rfl trivial ?_ rfl
  simp only [Tryz.ntmps79, List.size_toArray, List.length_cons, List.length_nil, Nat.reduceAdd, Nat.reduceSub, Array.replicate_succ, Array.replicate_zero, List.push_toArray, List.append_toArray, List.nil_append, List.cons_append]
  by_cases hlong : 300000 < xs.length
  · have hT := HShort.out hlong
    have h' : (300000 : Int) < xs.length := by omega
    clear HShort HOrd HBad HGood
    gi_wp2_with fail
    refine ⟨trivial, ?_⟩
    gi_wp2_with fail
    refine ⟨.string ⟨#[]⟩, by simp [results, Tryz.results79, go_sem], by rw [hT], ?_⟩
    exact hbw0
  have h' : ¬ (300000 : Int) < xs.length := by omega
  have hlen : xs.length ≤ 1048576 := by omega
  have HIO := hdB (fun w hx => inOrder_any a cap xs w hx hlen)
  cases hord : ordTo xs (xs.length - 1) with
  | false =>
    have hT := HOrd.out hord
    rw [hord] at HIO
    clear HShort HOrd HBad HGood
    gi_wp2_with (refine ⟨trivial, ?_⟩; gi_at_call 121; refine (callsIn_wide.2 (HIO.out _ (hx.below hbw0))).mono ?_; rintro e w1 ⟨rfl, hb1⟩; obtain ⟨c0, c1⟩ := one_cellB ((hb1.block _ (by simp)).trans hr0); have hlt1 : w.heap.size < w1.heap.size := by have := hb1.size; simp at this; omega)
    refine ⟨.string ⟨#[]⟩, by simp [results, Tryz.results79, go_sem, c0], by rw [hT], ?_⟩
    exact (hbw0.trans (hb1.mono hbw0.size)).setCell (p := ⟨w.heap.size, 0, none⟩) (Nat.le_refl _) _
  | true =>
    rw [hord] at HIO
    have HG2 := hdB (HGood.out (by omega) hord)
    clear HShort HOrd HGood
    gi_wp2_with (refine ⟨trivial, ?_⟩; gi_at_call 121; refine (callsIn_wide.2 (HIO.out _ (hx.below hbw0))).mono ?_; rintro e w1 ⟨rfl, hb1⟩)
    have hR1 := (hb1.block w.heap.size (by simp)).trans hr0
    have hbw1 := hbw0.trans (hb1.mono hbw0.size)
    have hlt1 : w.heap.size < w1.heap.size := heap_ltB hR1
    have hbl2 : Below w1.heap.size w1 ((w1.alloc (.cells #[.pointer none, .slice none 0 0] 150)).alloc (.cells #[.pointer none, .slice none 0 0] 150)) := ((Below.refl _ _).alloc (Nat.le_refl _) _).alloc (by simp) _
    have hT2 : BldV w.heap.size w1.heap.size [] (.slice none 0 0) ((w1.alloc (.cells #[.pointer none, .slice none 0 0] 150)).alloc (.cells #[.pointer none, .slice none 0 0] 150)) :=
      ⟨by omega, _, .inl rfl, by rw [Below.heap_alloc _ _ _ (by simp)]; exact World.heap_alloc_new _ _, World.ownsRowF_nil _ _ _ _, by simp [Value.ownBlock]⟩
    have hI2 : BldV w.heap.size (w1.heap.size + 1) [] (.slice none 0 0) ((w1.alloc (.cells #[.pointer none, .slice none 0 0] 150)).alloc (.cells #[.pointer none, .slice none 0 0] 150)) :=
      ⟨by omega, _, .inl rfl, alloc_atB _ _ _ (by simp), World.ownsRowF_nil _ _ _ _, by simp [Value.ownBlock]⟩
    have hs2 : ((w1.alloc (.cells #[.pointer none, .slice none 0 0] 150)).alloc (.cells #[.pointer none, .slice none 0 0] 150)).heap.size = w1.heap.size + 2 := by simp
    have hR2 := (hbl2.block w.heap.size hlt1).trans hR1
    have hbw2 := hbw1.trans (hbl2.mono hbw1.size)
    generalize ((w1.alloc (.cells #[.pointer none, .slice none 0 0] 150)).alloc (.cells #[.pointer none, .slice none 0 0] 150)) = w2 at *
    have hnb : ((xs.length : Int) + 8 - 1) / 8 = (nbE xs.length : Nat) := by unfold nbE; omega
    have hnb2 : nbE xs.length ≤ 37500 := by unfold nbE; omega
    rw [hnb]
    refine ⟨trivial, (callsIn_wide.2 (implPut_any _ _)).mono ?_⟩
    rintro e w3 ⟨rfl, hb3⟩
    have HV : Hid ((vtext (nbE xs.length : Nat)).data.toList = vb (nbE xs.length)) := by show _ = _; rw [vtext_in _ (by omega) (by omega)]; simp
    have hvs := vtext_size (nbE xs.length : Nat)
    have hT3 := hT2.below hb3
    have hI3 := hI2.below hb3
    have hR3 := (hb3.block w.heap.size (heap_ltB hR2)).trans hR2
    have hbw3 := hbw2.trans (hb3.mono hbw2.size)
    have hs3 := hb3.size
    clear hb1 hR1 hbw1 hbl2 hT2 hI2 hR2 hbw2 hb3 hr0 hbw0 HIO hnb
    gi_wp2_with fail
    refine ⟨trivial, (callsIn_wide.2 (writeString_v w.heap.size (w1.heap.size + 1) [] _ (vtext (nbE xs.length : Nat)) w3 hI3 (by simp; omega) hbw3.size)).mono ?_⟩
    rintro e w4 ⟨rfl, v4, hI4, hw4⟩
    rw [HV.out, List.nil_append] at hI4
    obtain ⟨hT4, hd4⟩ := hT3.other hI3 hw4 (by omega) (fun g h => by cases h)
    have hR4 := (hw4.block w.heap.size (heap_ltB hR3) (by omega) (by simp [Value.ownBlock])).trans hR3
    have hbw4 := hbw3.trans (hw4.below (by omega) (fun g h => by cases h) hbw3.size)
    have hs4 := hw4.size
    clear hw4 hT3 hI3 hR3 hbw3
    gi_wp2_with (refine ⟨trivial, ?_⟩; gi_at_call 122; refine (chunk_in _ _ trivial rfl _ _ _ _).mono ?_; rintro e w' ⟨rfl, rfl⟩)
    have hbl5 : Below w4.heap.size w4 ((w4.alloc (.cells #[.slice a xs.length cap] 26)).alloc (.cells #[.int .i64 8] 3)) := ((Below.refl _ _).alloc (Nat.le_refl _) _).alloc (by simp) _
    have hc5 : ((w4.alloc (.cells #[.slice a xs.length cap] 26)).alloc (.cells #[.int .i64 8] 3)).heap[w4.heap.size]? = some (.cells #[.slice a xs.length cap] 26 (0, 0)) := by rw [Below.heap_alloc _ _ _ (by simp)]; exact World.heap_alloc_new _ _
    have hn5 : ((w4.alloc (.cells #[.slice a xs.length cap] 26)).alloc (.cells #[.int .i64 8] 3)).heap[w4.heap.size + 1]? = some (.cells #[.int .i64 8] 3 (0, 0)) := alloc_atB _ _ _ (by simp)
    have hs5 : ((w4.alloc (.cells #[.slice a xs.length cap] 26)).alloc (.cells #[.int .i64 8] 3)).heap.size = w4.heap.size + 2 := by simp
    generalize ((w4.alloc (.cells #[.slice a xs.length cap] 26)).alloc (.cells #[.int .i64 8] 3)) = W0 at *
    have hTW := hT4.below hbl5
    have hIW := hI4.below hbl5
    have hRW := (hbl5.block w.heap.size (heap_ltB hR4)).trans hR4
    have hbW := hbw4.trans (hbl5.mono hbw4.size)
    clear hbl5 hT4 hI4 hR4 hbw4
    have hdW : ∀ g, (Value.slice none 0 0).ownBlock = some g → v4.ownBlock ≠ some g := fun g h => by cases h
    refine wpIn_rangeFunc_ownF rfl (by omega) (gf := 152) (lb := #[.pointer (some ⟨w4.heap.size, 0, none⟩), .pointer (some ⟨w4.heap.size + 1, 0, none⟩)]) rfl trivial (enters_of Tryz.func152 (by kernel_rfl) rfl)
      (chunk_stops _ (by omega) w4.heap.size (w4.heap.size + 1) w.heap.size cap a xs ha.out hlen hcap W0 (by omega) (by omega) (one_cellB hc5).1 (one_cellB hn5).1) KC.trans (KC.put (by omega) (by omega) (by omega)) (Below.refl _ _) (fun _ => rfl)
      (BtJ w.heap.size w.heap.size w1.heap.size (w1.heap.size + 1) (nbE xs.length) w4.heap.size (.slice a xs.length cap) xs w) (BtX w.heap.size w.heap.size xs w) (btJ_own _ _ _ _ _ _ _ _ _ _ (Nat.le_refl _) (by omega)) (btX_own _ _ _ _ _ (Nat.le_refl _) (by omega)) ⟨⟨hRW, hc5, hn5, ⟨_, v4, hTW, by simpa [tabP] using hIW, hdW⟩, fun x hx => by cases hx⟩, hbW⟩
      (fun x => { tmps := #[.slice a xs.length cap, undef, .pointer (some ⟨w.heap.size, 0, none⟩), .pointer (some ⟨w1.heap.size, 0, none⟩), .pointer (some ⟨w1.heap.size + 1, 0, none⟩), x.val a, undef, undef, undef, .slice a xs.length cap, .int .i64 xs.length, .bool false, .bool false, .slice a xs.length cap, .bool true, .bool false, .bool false, .slice a xs.length cap, .int .i64 xs.length, .int .i64 ((xs.length : Int) + 8), .int .i64 ((xs.length : Int) + 8 - 1), .int .i64 (nbE xs.length : Nat), .string (vtext (nbE xs.length : Nat)), .tuple #[.int .i64 (vtext (nbE xs.length : Nat)).size, .nilIface], .slice a xs.length cap, .func (.func 152) #[] #[.pointer (some ⟨w4.heap.size, 0, none⟩), .pointer (some ⟨w4.heap.size + 1, 0, none⟩)], x.val a, undef, undef, undef, undef, undef, undef, undef, undef, undef, undef, undef, undef, undef, undef, undef, undef, undef, undef, undef, undef, undef, undef, undef, undef], defers := [] }) ?assign ?body ?done ?stop
    case assign =>
      intro l x W K hK
      gi_wp2
      exact hK
    case body =>
      rintro l pre x W ⟨⟨hres, hsv, hbn, ⟨v1, v2, hT, hX, hd⟩, hok⟩, hB⟩ hN
      obtain ⟨b, off, rfl⟩ := ha.out (Nat.lt_of_le_of_lt (Nat.zero_le _) x.lt)
      have hLb : LieE W (some ⟨b, off + 8 * x.k * 4, none⟩) (subE xs x.k) := (hx.below hB).sub (k := x.k) rfl x.lt
      have hbB : b < w.heap.size := by obtain ⟨b', off', e, h, _⟩ := hx.at (Nat.lt_of_le_of_lt (Nat.zero_le _) x.lt); cases e; exact h
      have hv : x.val (some ⟨b, off, none⟩) = .slice (some ⟨b, off + 8 * x.k * 4, none⟩) (subE xs x.k).length (subE xs x.k).length := rfl
      have hl0 : 0 < (subE xs x.k).length := by have := x.lt; rw [subE_len]; omega
      have hl8 : (subE xs x.k).length ≤ 8 := by rw [subE_len]; omega
      have hBs := hB.size
      have hWs := heap_ltB hbn
      have HE := hdB (implEnc_any (some ⟨b, off + 8 * x.k * 4, none⟩) (subE xs x.k).length (subE xs x.k) W hLb (subE_fits hf x.k) (by omega))
      rw [hv]
      cases hall : (subE xs x.k).all entOk with
      | false =>
        rw [sub_bad hall] at HE
        have hbad := bad_block hall
        have HRes := hdB hres
        have HBb := hdB hB
        clear hres hB hT hX hd hok hsv hbn hall
        gi_wp2_with (refine ⟨trivial, (CallsIn.inRound l (callsIn_wide.2 HE.out)).mono ?_⟩; rintro e W1 ⟨rfl, hb1⟩; have hR1 := (hb1.block _ (heap_ltB HRes.out)).trans HRes.out; obtain ⟨c0, c1⟩ := one_cellB hR1)
        refine ⟨(others_of hb1).trans (KeepsOthers.setCell _ _ _), ⟨rfl, hbad, ?_⟩, (HBb.out.trans (hb1.mono hBs)).setCell (p := ⟨w.heap.size, 0, none⟩) (Nat.le_refl _) _⟩
        rw [heap_setCell_same _ _ _ _ _ _ hR1]
        rfl
      | true =>
        have hks := sub_key hall
        have hpz := sub_pos hall
        have hps := sub_size hall
        have hok2 := okP_snoc hok hall
        have hln := tabP_len pre.length pre rfl hok
        have hln1 : (tabP xs (pre.map Bk.k)).1.length ≤ 1536000000 := by omega
        have hln2 : (tabP xs (pre.map Bk.k)).2.length ≤ 76200000 := by omega
        have hvb := vb_len (nbE xs.length)
        have e1 : Hid ((tabP xs (pre.map Bk.k)).1 ++ (frT 66 (encT (subE xs x.k))).data.toList = (tabP xs ((pre ++ [x]).map Bk.k)).1) := by show _ = _; rw [List.map_append, List.map_singleton, tabP_snoc]; rfl
        have e2 : Hid (vb (nbE xs.length) ++ (tabP xs (pre.map Bk.k)).2 ++ (vb ((tabP xs (pre.map Bk.k)).1.length / 64) ++ vb (subE xs x.k).length ++ kyB ((subE xs x.k).getD 0 en0).ky ++ kyB ((subE xs x.k).getD ((subE xs x.k).length - 1) en0).ky) = vb (nbE xs.length) ++ (tabP xs ((pre ++ [x]).map Bk.k)).2) := by show _ = _; rw [List.map_append, List.map_singleton, tabP_snoc, List.append_assoc]; rfl
        have hfl := frT_le 66 (encT (subE xs x.k))
        have hem : (encT (subE xs x.k)).toList.isEmpty = false := by
          cases h : (encT (subE xs x.k)).toList.isEmpty with
          | false => rfl
          | true => exact absurd ((empty_iff _).1 h) hpz
        clear hln hN
        generalize encT (subE xs x.k) = pay at *
        generalize (tabP xs (pre.map Bk.k)).1 = l1 at *
        generalize (tabP xs (pre.map Bk.k)).2 = l2 at *
        gi_wp2_with (refine ⟨trivial, (CallsIn.inRound l (callsIn_wide.2 HE.out)).mono ?_⟩; rintro e W1 ⟨rfl, hb1⟩)
        have hT1 := hT.below hb1
        have hX1 := hX.below hb1
        have hs1 := hb1.size
        have hB1 : Hid (Below w.heap.size w W1) := hB.trans (hb1.mono hBs)
        have hL1 := hLb.below hb1
        have hbb := hdB hb1
        clear hb1 hT hX hLb HE
        refine ⟨trivial, (CallsIn.inRound l (callsIn_wide.2 (len_v _ _ _ _ W1 hT1))).mono ?_⟩
        rintro e W1' ⟨rfl, hw⟩
        have hw' := hw.symm
        subst hw'
        clear hw
        have q64 : ((l1.length : Int) / 64) = ((l1.length / 64 : Nat) : Int) := by omega
        replace q64 := hdB q64
        gi_wp2_with fail
        rw [q64.out]
        refine ⟨trivial, (CallsIn.inRound l (callsIn_wide.2 (putBlockRef_v w.heap.size (w1.heap.size + 1) (vb (nbE xs.length) ++ l2) v2 (l1.length / 64) (some ⟨b, off + 8 * x.k * 4, none⟩) (subE xs x.k).length (subE xs x.k) W1 hX1 hL1 (fun g o e => by cases e; exact hbB) hl0 (by omega) hks (by omega) (by rw [List.length_append]; omega) (by omega)))).mono ?_⟩
        rintro e W2 ⟨rfl, v2', hX2, hw2⟩
        obtain ⟨hT2, hd2⟩ := hT1.other hX1 hw2 (by omega) (fun g h1 h2 => hd g h2 h1)
        have hs2 := hw2.size
        have hB2 : Hid (Below w.heap.size w W2) := hB1.out.trans (hw2.below (by omega) (fun g hg => (hX1.rowLt g hg).1) (by omega))
        gi_wp2_with fail
        refine ⟨trivial, (CallsIn.inRound l (callsIn_wide.2 (implFrame_any 66 pay W2 (by unfold maxLen; omega) (HST.out.lowB hB2.out hglt)))).mono ?_⟩
        rintro e W3 ⟨rfl, hb3⟩
        have hT3 := hT2.below hb3
        have hs3 := hb3.size
        gi_wp2_with fail
        refine ⟨trivial, (CallsIn.inRound l (callsIn_wide.2 (writeString_v w.heap.size w1.heap.size l1 v1 (frT 66 pay) W3 hT3 (by omega) (by omega)))).mono ?_⟩
        rintro e W4 ⟨rfl, v1', hT4, hw4⟩
        gi_wp2_with fail
        exact BtR.done hres hsv hbn hT1 hX1 hX2 hT3 hT4 (fun g h1 h2 => hd2 g h2 h1) ⟨hbb.out, hw2, hb3, hw4⟩ (by omega) (by omega) (by omega) (by omega) (by omega) (by omega) (by omega) (by omega) e1.out e2.out hok2 hB
    case done =>
      rintro D ys W hD hys ⟨⟨hres, hsv, hbn, ⟨v1, v2, hT, hX, hd⟩, hok⟩, hB⟩ hK
      have hall := all_blocks ys hys hok
      have hTX := HG2.out hall
      have hl1 := tab_len hall (nbE xs.length)
      have hl2 := tab_idx hall (nbE xs.length)
      have HN := hdB (fun h : (idxT xs).size = 0 => hTX.trans (tabX_none h))
      have HSm := hdB (fun h : (idxT xs).size ≠ 0 => hTX.trans (tabX_some h (by omega)))
      have hidx : idxT xs = frT 73 ⟨(vb (nbE xs.length) ++ (tab xs (nbE xs.length)).2).toArray⟩ := rfl
      have hlx := frT_le 73 ⟨(vb (nbE xs.length) ++ (tab xs (nbE xs.length)).2).toArray⟩
      rw [← hidx] at hlx
      have hsx : (⟨(vb (nbE xs.length) ++ (tab xs (nbE xs.length)).2).toArray⟩ : ByteArray).size ≤ maxLen := by
        show (vb (nbE xs.length) ++ (tab xs (nbE xs.length)).2).toArray.size ≤ _
        rw [List.size_toArray, List.length_append]
        have := vb_len (nbE xs.length)
        unfold maxLen
        omega
      have hne : vb (nbE xs.length) ++ (tab xs (nbE xs.length)).2 ≠ [] := fun h => by
        have h1 := congrArg List.length h
        have h2 : 0 < (vb (nbE xs.length)).length := vbf_pos 7 (nbE xs.length)
        rw [List.length_append] at h1
        simp only [List.length_nil] at h1
        omega
      rw [hys, tabP_range] at hT hX
      have HF1 := hdB (fun w' ht => implFrame_any 73 ⟨(vb (nbE xs.length) ++ (tab xs (nbE xs.length)).2).toArray⟩ w' hsx ht)
      rw [← hidx] at HF1
      have hBs := hB.size
      clear hTX hidx hsx
      generalize idxT xs = ix at *
      gi_wp2
      refine ⟨trivial, (callsIn_wide.2 (string_v _ _ _ _ W hX hne)).mono ?_⟩
      rintro e W1 ⟨rfl, hX1, hw1⟩
      obtain ⟨hT1, hd1⟩ := hT.other hX hw1 (by omega) (fun g h1 h2 => hd g h2 h1)
      have hR1 := hw1.kept hX hres (by decide) (by omega)
      have hK1 := (Wr.others hX hw1).same D _ hK rfl
      have hB1 : Below w.heap.size w W1 := hB.trans (hw1.below (by omega) (fun g hg => (hX.rowLt g hg).1) (by omega))
      gi_wp2_with fail
      refine ⟨trivial, (callsIn_wide.2 (HF1.out W1 (HST.out.lowB hB1 hglt))).mono ?_⟩
      rintro e W2 ⟨rfl, hb2⟩
      have hT2 := hT1.below hb2
      have hR2 := (hb2.block _ (heap_ltB hR1)).trans hR1
      have hK2 := (others_of hb2).same D _ hK1 rfl
      have hB2 := hB1.trans (hb2.mono hB1.size)
      obtain ⟨c0, c1⟩ := one_cellB hR2
      have hBs2 := hB2.size
      clear hw1 hb2 hT hX hX1 hT1 hR1 hK1 hB1 hd1 hd hres hB hK
      by_cases hz : ix.size = 0
      · have hTe := HN.out hz
        have hem : ix.toList.isEmpty = true := (empty_iff _).2 hz
        clear HN HSm
        replace hz := hdB hz
        gi_wp2_with fail
        have hK3 := (KeepsOthers.setCell W2 ⟨w.heap.size, 0, none⟩ (.string ⟨#[]⟩)).same D _ hK2 rfl
        have hB3 := hB2.setCell (p := ⟨w.heap.size, 0, none⟩) (Nat.le_refl _) (.string ⟨#[]⟩)
        have hR3 : (W2.setCell ⟨w.heap.size, 0, none⟩ (.string ⟨#[]⟩)).heap[w.heap.size]? = some (.cells #[.string ⟨#[]⟩] 9 (0, 0)) := by rw [heap_setCell_same _ _ _ _ _ _ hR2]; rfl
        have hBp := hB3.trans (belowK_b (w := w) (Nat.le_refl _) _ D _ (.deferred none) (by omega) hK3 rfl rfl)
        have hG := kept_ofB (grownBy_putObj' _ D (.deferred none)) (fun r e => by cases e; exact ⟨_, hK3, rfl⟩) _ _ hR3 rfl
        obtain ⟨d1, -⟩ := one_cellB hG
        refine ⟨by simp, .inl ⟨_, _, rfl, run_takeDeferred hK3, ?_⟩⟩
        exact ⟨.string ⟨#[]⟩, by simp [results, Tryz.results79, go_sem, d1], by rw [hTe], hBp⟩
      · have hTe := hdB (HSm.out hz)
        have hem : ix.toList.isEmpty = false := by
          cases h : ix.toList.isEmpty with
          | false => rfl
          | true => exact absurd ((empty_iff _).1 h) hz
        clear HN HSm
        replace hz := hdB hz
        generalize (tab xs (nbE xs.length)).1 = l1 at *
        gi_wp2_with fail
        refine ⟨trivial, (callsIn_wide.2 (len_v _ _ _ _ W2 hT2)).mono ?_⟩
        rintro e W2' ⟨rfl, hw⟩
        have hw' := hw.symm
        subst hw'
        clear hw
        have q64 : Hid (((l1.length : Int) / 64) = ((l1.length / 64 : Nat) : Int)) := by show _ = _; omega
        gi_wp2_with fail
        rw [q64.out]
        refine ⟨trivial, (callsIn_wide.2 (implPut_any _ _)).mono ?_⟩
        rintro e W3 ⟨rfl, hb3⟩
        have hT3 := hT2.below hb3
        have hR3 := (hb3.block _ (heap_ltB hR2)).trans hR2
        have hK3 := (others_of hb3).same D _ hK2 rfl
        have hB3 := hB2.trans (hb3.mono hB2.size)
        have hvz := vtext_size ((l1.length / 64 : Nat) : Int)
        clear hT2 hR2 hK2 hB2 hb3
        generalize vtext ((l1.length / 64 : Nat) : Int) = pg at *
        gi_wp2_with fail
        refine ⟨trivial, (callsIn_wide.2 (implFrame_any 70 pg W3 (by unfold maxLen; omega) (HST.out.lowB hB3 hglt))).mono ?_⟩
        rintro e W4 ⟨rfl, hb4⟩
        have hT4 := hT3.below hb4
        have hR4 := (hb4.block _ (heap_ltB hR3)).trans hR3
        have hK4 := (others_of hb4).same D _ hK3 rfl
        have hB4 := hB3.trans (hb4.mono hB3.size)
        have hfz := frT_le 70 pg
        clear hT3 hR3 hK3 hB3 hb4 c0 c1
        generalize frT 70 pg = ft at *
        gi_wp2_with fail
        refine ⟨trivial, (callsIn_wide.2 (Tryz.Builder_String_any_k w.heap.size w1.heap.size l1 W4 hT4.bld hB4.size)).mono ?_⟩
        rintro e W5 ⟨rfl, -, hb5, hk5⟩
        have hR5 := hk5 _ _ hR4 (fun e => by have := Option.some.inj e; omega) (fun c fz e => by simp at e)
        have hDt : D ≠ w1.heap.size := fun e => by
          subst e
          obtain ⟨-, p, -, hp, -⟩ := hT4
          rw [hK4] at hp
          cases hp
        have hK5 := hk5 D _ hK4 (fun e => hDt (by simpa using e)) (fun c fz e => by cases e)
        have hB5 := hB4.trans hb5
        obtain ⟨c0, c1⟩ := one_cellB hR5
        have hTs : Hid (T = ⟨l1.toArray⟩ ++ ix ++ ft) := by
          show _ = _
          rw [hTe.out]
          apply ByteArray.ext
          rw [ByteArray.data_append, ByteArray.data_append]
          apply Array.toList_inj.1
          simp
        have hz1 : (⟨l1.toArray⟩ : ByteArray).size = l1.length := List.size_toArray
        have g1 : ¬ 9223372036854775807 < (⟨l1.toArray⟩ : ByteArray).size + ix.size := by omega
        have g2 : ¬ 9223372036854775807 < (⟨l1.toArray⟩ : ByteArray).size + ix.size + ft.size := by omega
        clear hz1 hTe hk5 hb5 hT4 hR4 hK4 hB4
        generalize (⟨l1.toArray⟩ : ByteArray) = tx at *
        gi_wp2_with fail
        have hK6 := (KeepsOthers.setCell W5 ⟨w.heap.size, 0, none⟩ (.string (tx ++ ix ++ ft))).same D _ hK5 rfl
        have hB6 := hB5.setCell (p := ⟨w.heap.size, 0, none⟩) (Nat.le_refl _) (.string (tx ++ ix ++ ft))
        have hR6 : (W5.setCell ⟨w.heap.size, 0, none⟩ (.string (tx ++ ix ++ ft))).heap[w.heap.size]? = some (.cells #[.string (tx ++ ix ++ ft)] 9 (0, 0)) := by rw [heap_setCell_same _ _ _ _ _ _ hR5]; rfl
        have hBp := hB6.trans (belowK_b (w := w) (Nat.le_refl _) _ D _ (.deferred none) (by omega) hK6 rfl rfl)
        have hG := kept_ofB (grownBy_putObj' _ D (.deferred none)) (fun r e => by cases e; exact ⟨_, hK6, rfl⟩) _ _ hR6 rfl
        obtain ⟨d1, -⟩ := one_cellB hG
        refine ⟨by simp, .inl ⟨_, _, rfl, run_takeDeferred hK6, ?_⟩⟩
        exact ⟨.string (tx ++ ix ++ ft), by simp [results, Tryz.results79, go_sem, d1], by rw [hTs.out], hBp⟩
    case stop =>
      rintro D cd pre W hD - ⟨⟨rfl, hbad, hres⟩, hB⟩ hK
      have hT := HBad.out hbad
      gi_wp2
      have hBp := hB.trans (belowK_b (w := w) (Nat.le_refl _) _ D _ (.deferred none) (by omega) hK rfl rfl)
      have hG := kept_ofB (grownBy_putObj' _ D (.deferred none)) (fun r e => by cases e; exact ⟨_, hK, rfl⟩) _ _ hres rfl
      obtain ⟨c1, -⟩ := one_cellB hG
      refine ⟨by simp, .inl ⟨_, _, rfl, run_takeDeferred hK, ?_⟩⟩
      exact ⟨.string ⟨#[]⟩, by simp [results, Tryz.results79, go_sem, c1], by rw [hT], hBp⟩
end Go.Proofs.YtgmfjninimebmaaGreatDoor
