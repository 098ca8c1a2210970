import Derived.Test.YtgpjhlhjdafjlaaGreatDoorMdE

namespace Go.Proofs.YtgpjhlhjdafjlaaGreatDoor
open Go.RowKit Go.Maps
set_option linter.unusedVariables false
set_option linter.unusedSimpArgs false

theorem owns_put4 {W : World} {B n c g : Nat} {x t : Tr} {xs : List Tr} (h : W.ownsRow B 58 4 (.slice (some ⟨g, 0, none⟩) n c) n (cellsT (x :: xs))) :
    ((((W.setCell ⟨g, 0, none⟩ (.int .i64 t.nu)).setCell ⟨g, 1, none⟩ (.int .i64 t.lv)).setCell ⟨g, 2, none⟩ (.string t.lo)).setCell ⟨g, 3, none⟩ (.string t.hi)).ownsRow B 58 4 (.slice (some ⟨g, 0, none⟩) n c) n (cellsT (t :: xs)) := by
  obtain ⟨h1, h2⟩ := h
  refine ⟨by rw [cellsT_len] at h1 ⊢; exact h1, ?_⟩
  rcases h2 with ⟨h, -⟩ | ⟨g', cap, cur, e, hg, hbk, hl, hm, hsz, htk⟩
  · cases h
  · injection e with e1 e2 e3
    injection e1 with e1
    injection e1 with e1
    subst e1 e3
    refine .inr ⟨g, c, _, rfl, hg, heap_setCell_same _ _ _ _ _ _ (heap_setCell_same _ _ _ _ _ _ (heap_setCell_same _ _ _ _ _ _ (heap_setCell_same _ _ _ _ _ _ hbk))), hl, hm, by simp [hsz], ?_⟩
    simp only [Array.toList_setIfInBounds, List.take_set, htk]
    simp [cellsT]
/-- What lies below P and is not the block g stays. -/
def KeepG (g P : Nat) (w w' : World) : Prop := ∀ k, k < P → k ≠ g → w'.heap[k]? = w.heap[k]?
theorem keep_refl (g P : Nat) (w : World) : KeepG g P w w := fun _ _ _ => rfl
theorem keep_set {g P p o : Nat} {w w' : World} {v : Value} (hp : p = g ∨ P ≤ p) (h : KeepG g P w w') : KeepG g P w (w'.setCell ⟨p, o, none⟩ v) := fun k hk hg =>
  (Below.heap_setCell _ _ _ _ (by dsimp only; omega)).trans (h k hk hg)
theorem keep_alloc {g P : Nat} {w w' : World} {o : Obj} (hs : P ≤ w'.heap.size) (h : KeepG g P w w') : KeepG g P w (w'.alloc o) := fun k hk hg =>
  (alloc_old (by omega)).trans (h k hk hg)
theorem owns_cell_ne {W : World} {B n size p : Nat} {e t : TypeId} {v : Value} {xs : List Value} {cs : Array Value} {fz : Nat × Nat} (h : W.ownsRow B e size v n xs) (hp : W.heap[p]? = some (.cells cs t fz)) (ht : e ≠ t) : ∀ g, v.ownBlock = some g → g ≠ p := by
  intro g hg hgp
  subst hgp
  rcases h.2 with ⟨rfl, _⟩ | ⟨b, cap, cur, rfl, _, hb, _⟩
  · cases hg
  · simp [Value.ownBlock] at hg
    subst hg
    rw [hb] at hp
    simp at hp
    exact ht hp.2.1
theorem same_set {k p o : Nat} {w w' : World} {v : Value} (hp : k ≠ p) (h : w'.heap[k]? = w.heap[k]?) : (w'.setCell ⟨p, o, none⟩ v).heap[k]? = w.heap[k]? := (Below.heap_setCell _ _ _ _ (by dsimp only; exact hp)).trans h
theorem same_alloc {k : Nat} {w w' : World} {o : Obj} (hk : k < w'.heap.size) (h : w'.heap[k]? = w.heap[k]?) : (w'.alloc o).heap[k]? = w.heap[k]? := (alloc_old hk).trans h
theorem owns_freeD {W : World} {B n size c g : Nat} {e : TypeId} {xs : List Value} (h : W.ownsRow B e size (.slice (some ⟨g, 0, none⟩) n c) n xs) : g < W.heap.size ∧ B ≤ g ∧ ∀ i, W.frozen? ⟨g, i, none⟩ = false := by
  rcases h.2 with ⟨h, _⟩ | ⟨b, cap, cur, e', hB, hb, _⟩
  · cases h
  · injection e' with e1
    injection e1 with e1
    injection e1 with e1
    subst e1
    exact ⟨heap_lt hb, hB, fun i => by simp [World.frozen?, hb]⟩
theorem sm71 {t : Tr} (h : SmT t) : t.lo.size ≤ 71 ∧ t.hi.size ≤ 71 := ⟨by have := h.1; omega, by have := h.2.1; omega⟩
theorem own77 {W : World} {B cap g : Nat} {ks : List Int} {x : Int} (h : W.ownsRow B 3 1 (.slice (some ⟨g, 0, none⟩) (ks.length + 1) cap) (ks.length + 1) (ic ks ++ [.int .i64 x])) : W.ownsRow B 3 1 (.slice (some ⟨g, 0, none⟩) (ks ++ [x]).length cap) (ks ++ [x]).length (ic (ks ++ [x])) := by
  rw [ic_snoc, List.length_append]
  exact h
theorem cell_first4s (w : World) (o : Obj) (x y z u : Value) (t : TypeId) : ∀ j v, [x, y, z, u][j]? = some v → ((w.alloc o).alloc (.cells #[x, y, z, u] t)).cell? ((⟨w.heap.size + 1, 0, none⟩ : Addr).add j) = some v := by
  have h := cell_first4 (w.alloc o) x y z u t
  rwa [size_alloc] at h
theorem own4s {W : World} {B cap g : Nat} {xs : List Tr} {t u : Tr} (h : W.ownsRow B 58 4 (.slice (some ⟨g, 0, none⟩) ((t :: xs).length + 1) cap) ((t :: xs).length + 1) (cellsT (t :: xs) ++ [.int .i64 u.nu, .int .i64 u.lv, .string u.lo, .string u.hi])) : W.ownsRow B 58 4 (.slice (some ⟨g, 0, none⟩) (t :: (xs ++ [u])).length cap) (t :: (xs ++ [u])).length (cellsT (t :: (xs ++ [u]))) := by
  rw [show t :: (xs ++ [u]) = (t :: xs) ++ [u] from rfl, cellsT_snoc, List.length_append]
  exact h
theorem smE_of {xs : List Tr} {ks : List Int} {lg nx la : Int} (h1 : xs.length ≤ 3) (h2 : ks.length ≤ 3) (h3 : ∀ t ∈ xs, t.lo.size ≤ 71 ∧ t.hi.size ≤ 71) : SmE ⟨xs, ks, lg, nx, la⟩ :=
  ⟨h1, h2, fun t ht => by obtain ⟨a, b⟩ := h3 t ht; unfold maxLen; exact ⟨by omega, by omega⟩⟩
set_option maxRecDepth 100000 in
set_option maxHeartbeats 16000000 in
theorem l4SpoilEdit_any (a : Option Addr) (cap : Nat) (bs : List UInt8) (p : Nat) (b : Option Addr) (cb : Nat) (d : Option Addr) (cd : Nat) (e : Ed) (B : Nat) (w : World) (hx : LieB w a bs) (hl : bs.length ≤ 1048576) (hp : p ≤ 50000) (hB : B ≤ w.heap.size) (hT : w.ownsRow B 58 4 (.slice b e.ad.length cb) e.ad.length (cellsT e.ad)) (hI : w.ownsRow B 3 1 (.slice d e.dl.length cd) e.dl.length (ic e.dl)) (hS : Sm2 e) :
    Calls Tryz.prog 18 #[.slice a bs.length cap, .int .i64 p, edV b cb d cd e] w fun r w' => ∃ (b' : Option Addr) (cb' : Nat) (d' : Option Addr) (cd' : Nat) (e' : Ed), r = .returned (edV b' cb' d' cd' e') ∧ SmE e' ∧ LieT w' b' e'.ad ∧ LieI w' d' e'.dl ∧ Below B w w' := by
  obtain ⟨i0, hi, hz0, hz1, hz2⟩ := info_parts iRef_info
  obtain ⟨j0, ji, jz0, jz1, jz2⟩ := info_parts int_info
  have HT := hd0 (fun (w' : World) (q n : Nat) (hb : Below w.heap.size w w') (hq : q ≤ 1000000) (hn : 1 ≤ n) (hn2 : n ≤ 2000000) => l1Take_wide a cap bs q n w' (hx.below hb) hl hq hn hn2)
  generalize bs.length = len at *
  clear hx
  obtain ⟨xs, ks, lg, nx, la⟩ := e
  obtain ⟨s1, s2, s3⟩ := hS
  dsimp only at *
  generalize hW0 : (w.alloc (.cells #[.slice b xs.length cb, .slice d ks.length cd, .int .i64 lg, .int .i64 nx, .int .i64 la] 35)).alloc (.cells #[.slice none 0 0, .slice none 0 0, .int .i64 0, .int .i64 0, .int .i64 0] 35) = W0
  have hV0 : W0.heap[w.heap.size]? = some (.cells #[.slice b xs.length cb, .slice d ks.length cd, .int .i64 lg, .int .i64 nx, .int .i64 la] 35 (0, 0)) := by rw [← hW0, alloc_old (by simp)]; exact World.heap_alloc_new _ _
  have hR0 : W0.heap[w.heap.size + 1]? = some (.cells #[.slice none 0 0, .slice none 0 0, .int .i64 0, .int .i64 0, .int .i64 0] 35 (0, 0)) := by rw [← hW0, ← size_alloc]; exact World.heap_alloc_new _ _
  have hb0 : Below w.heap.size w W0 := by rw [← hW0]; exact ((Below.refl _ _).alloc (Nat.le_refl _) _).alloc (by simp) _
  have hs0 : w.heap.size + 2 ≤ W0.heap.size := by rw [← hW0]; simp
  have HW0 := hd hW0
  clear hW0
  go_enter Tryz.func18, Tryz.ntmps18
  go_wp2_with fail
  rw [HW0.out]
  refine (HT.out _ p 10 hb0 (by omega) (by omega) (by omega)).mono ?_
  rintro e w1 ⟨r, hr, rfl, hb1⟩
  have hw1 := hb0.trans (hb1.mono hb0.size)
  go_wp2_with fail
  refine (HT.out _ (p + 1) 2 hw1 (by omega) (by omega) (by omega)).mono ?_
  rintro e w2 ⟨x, hx2, rfl, hb2⟩
  have hw2 := hw1.trans (hb2.mono hw1.size)
  have hb02 : Below W0.heap.size W0 w2 := hb1.trans (hb2.mono hb1.size)
  have hV2 := (hb02.block _ (by omega)).trans hV0
  have hR2 := (hb02.block _ (by omega)).trans hR0
  have hs2 := Nat.le_trans hs0 hb02.size
  have HO := hd (owns_below hT hw2)
  have HI := hd (owns_below hI hw2)
  have HBw := hd (hw2.mono hB)
  have HGT := hd (owns_ltD hT)
  have HGI := hd (owns_ltD hI)
  have hq1 := heap_lt hV2
  have hq2 := heap_lt hR2
  clear hb0 hb1 hb2 hw1 hw2 hb02 hV0 hR0 HW0 hs0 hT hI HT
  obtain ⟨x0, x1, x2, x3, x4⟩ := five_cells hV2
  obtain ⟨y0, y1, y2, y3, y4⟩ := five_cells hR2
  obtain ⟨f0, f1, f2, f3, f4⟩ := five_free hV2
  obtain ⟨g0, g1, g2, g3, g4⟩ := five_free hR2
  have hne : ¬ w.heap.size + 1 = w.heap.size := by omega
  have hne' : ¬ w.heap.size = w.heap.size + 1 := by omega
  have h10 : r = 0 ∨ r = 1 ∨ r = 2 ∨ r = 3 ∨ r = 4 ∨ r = 5 ∨ r = 6 ∨ r = 7 ∨ r = 8 ∨ r = 9 := by omega
  clear hr
  generalize hPP : w.heap.size = P at *
  cases xs with
  | nil =>
    rcases h10 with rfl | rfl | rfl | rfl | rfl | rfl | rfl | rfl | rfl | rfl
    · go_wp2_with fail
      refine bodyPost_ret (v := edV b cb d cd ⟨[], ks, nx, nx, la⟩) (by simp [results, Tryz.results18, go_sem, y0, y1, y2, y3, y4]) rfl ⟨b, cb, d, cd, _, rfl, smE_of (by simp) (by omega) (fun t ht => absurd ht (by simp)), .inl rfl, ?_, ?_⟩
      · exact lieI_own (owns_blocks HI.out (fun g hg => Below.block (below_set (by omega) (below_set (by omega) (below_set (by omega) (below_set (by omega) (below_set (by omega) (below_set (by omega) (Below.refl P w2))))))) g (HGI.out g hg)))
      · exact HBw.out.trans (Below.mono (below_set (by omega) (below_set (by omega) (below_set (by omega) (below_set (by omega) (below_set (by omega) (below_set (by omega) (Below.refl P w2))))))) hB)
    · go_wp2_with fail
      refine bodyPost_ret (v := edV b cb d cd ⟨[], ks, lg, nx, (72057594037927935 + (x : Int))⟩) (by simp [results, Tryz.results18, go_sem, y0, y1, y2, y3, y4]) rfl ⟨b, cb, d, cd, _, rfl, smE_of (by simp) (by omega) (fun t ht => absurd ht (by simp)), .inl rfl, ?_, ?_⟩
      · exact lieI_own (owns_blocks HI.out (fun g hg => Below.block (below_set (by omega) (below_set (by omega) (below_set (by omega) (below_set (by omega) (below_set (by omega) (below_set (by omega) (Below.refl P w2))))))) g (HGI.out g hg)))
      · exact HBw.out.trans (Below.mono (below_set (by omega) (below_set (by omega) (below_set (by omega) (below_set (by omega) (below_set (by omega) (below_set (by omega) (Below.refl P w2))))))) hB)
    · go_wp2_with (at_builtin; refine wpList_append_own _ rfl _ _ 33 rfl B 3 j0 _ 1 8 Tryz.underlying33 ji jz0 jz1 jz2 rfl (by decide) _ _ _ rfl (HI.out.alloc (.cells #[.int .i64 77] 3)) ⟨w2.heap.size, 0, none⟩ 1 1 [.int .i64 77] rfl rfl (cell_one_newD w2 _ _) (fun x hx => by simp at hx; subst hx; rfl) (by unfold maxLen; omega) (by omega) (by rw [size_alloc]; omega) ?_; intro v8 w8 hown8 hgrow8 hnil8; obtain ⟨g8, cap8, rfl⟩ := owns_succD hown8; have hb8 : Below B w2 w8 := ((Below.refl B w2).alloc (by omega) _).grown hgrow8 (by rw [size_alloc]; omega) (owns_base HI.out); have hV8 := (hgrow8.block P (by rw [size_alloc]; omega) (fun h => by have := HGI.out P h.symm; omega)).trans ((alloc_old hq1).trans hV2); have hR8 := (hgrow8.block (P + 1) (by rw [size_alloc]; omega) (fun h => by have := HGI.out (P + 1) h.symm; omega)).trans ((alloc_old hq2).trans hR2); have hz1' := heap_lt hV8; have hz2' := heap_lt hR8; obtain ⟨xx0, xx1, xx2, xx3, xx4⟩ := five_cells hV8; obtain ⟨yy0, yy1, yy2, yy3, yy4⟩ := five_cells hR8; obtain ⟨ff0, ff1, ff2, ff3, ff4⟩ := five_free hV8; obtain ⟨gg0, gg1, gg2, gg3, gg4⟩ := five_free hR8; have HB8 := hd hb8; have HW8 := hd hown8; have m1 : g8 ≠ P := owns_cell_ne hown8 hV8 (by decide) g8 rfl; have m2 : g8 ≠ P + 1 := owns_cell_ne hown8 hR8 (by decide) g8 rfl; clear hown8 hgrow8 hnil8 hb8 hV8 hR8 x0 x1 x2 x3 x4 y0 y1 y2 y3 y4 f0 f1 f2 f3 f4 g0 g1 g2 g3 g4)
      refine bodyPost_ret (v := edV b cb (some ⟨g8, 0, none⟩) cap8 ⟨[], ks ++ [77], lg, nx, la⟩) (by simp [results, Tryz.results18, go_sem, yy0, yy1, yy2, yy3, yy4, hz1', hz2']) rfl ⟨b, cb, some ⟨g8, 0, none⟩, cap8, _, rfl, smE_of (by simp) (by simp; omega) (fun t ht => absurd ht (by simp)), .inl rfl, ?_, ?_⟩
      · exact lieI_own (own77 (owns_blocks HW8.out (fun k hk => by cases hk; exact (same_set m2 (same_set m2 (same_set m2 (same_set m2 (same_set m2 (same_set m1 rfl)))))))))
      · exact HBw.out.trans (HB8.out.trans (below_set (by omega) (below_set (by omega) (below_set (by omega) (below_set (by omega) (below_set (by omega) (below_set (by omega) (Below.refl B w8))))))))
    · go_wp2_with fail
      refine bodyPost_ret (v := edV b cb d cd ⟨[], ks, lg, (999999999 + (x : Int)), la⟩) (by simp [results, Tryz.results18, go_sem, y0, y1, y2, y3, y4]) rfl ⟨b, cb, d, cd, _, rfl, smE_of (by simp) (by omega) (fun t ht => absurd ht (by simp)), .inl rfl, ?_, ?_⟩
      · exact lieI_own (owns_blocks HI.out (fun g hg => Below.block (below_set (by omega) (below_set (by omega) (below_set (by omega) (below_set (by omega) (below_set (by omega) (below_set (by omega) (Below.refl P w2))))))) g (HGI.out g hg)))
      · exact HBw.out.trans (Below.mono (below_set (by omega) (below_set (by omega) (below_set (by omega) (below_set (by omega) (below_set (by omega) (below_set (by omega) (Below.refl P w2))))))) hB)
    · go_wp2_with fail
      refine bodyPost_ret (v := edV b cb d cd ⟨[], ks, 0, nx, la⟩) (by simp [results, Tryz.results18, go_sem, y0, y1, y2, y3, y4]) rfl ⟨b, cb, d, cd, _, rfl, smE_of (by simp) (by omega) (fun t ht => absurd ht (by simp)), .inl rfl, ?_, ?_⟩
      · exact lieI_own (owns_blocks HI.out (fun g hg => Below.block (below_set (by omega) (below_set (by omega) (below_set (by omega) (below_set (by omega) (below_set (by omega) (below_set (by omega) (Below.refl P w2))))))) g (HGI.out g hg)))
      · exact HBw.out.trans (Below.mono (below_set (by omega) (below_set (by omega) (below_set (by omega) (below_set (by omega) (below_set (by omega) (below_set (by omega) (Below.refl P w2))))))) hB)
    · go_wp2_with fail
      refine bodyPost_ret (v := edV b cb d cd ⟨[], ks, lg, nx, la⟩) (by simp [results, Tryz.results18, go_sem, y0, y1, y2, y3, y4]) rfl ⟨b, cb, d, cd, _, rfl, smE_of (by simp) (by omega) (fun t ht => absurd ht (by simp)), .inl rfl, ?_, ?_⟩
      · exact lieI_own (owns_blocks HI.out (fun g hg => Below.block (below_set (by omega) (below_set (by omega) (below_set (by omega) (below_set (by omega) (below_set (by omega) (Below.refl P w2)))))) g (HGI.out g hg)))
      · exact HBw.out.trans (Below.mono (below_set (by omega) (below_set (by omega) (below_set (by omega) (below_set (by omega) (below_set (by omega) (Below.refl P w2)))))) hB)
    · go_wp2_with fail
      refine bodyPost_ret (v := edV b cb d cd ⟨[], ks, lg, nx, la⟩) (by simp [results, Tryz.results18, go_sem, y0, y1, y2, y3, y4]) rfl ⟨b, cb, d, cd, _, rfl, smE_of (by simp) (by omega) (fun t ht => absurd ht (by simp)), .inl rfl, ?_, ?_⟩
      · exact lieI_own (owns_blocks HI.out (fun g hg => Below.block (below_set (by omega) (below_set (by omega) (below_set (by omega) (below_set (by omega) (below_set (by omega) (Below.refl P w2)))))) g (HGI.out g hg)))
      · exact HBw.out.trans (Below.mono (below_set (by omega) (below_set (by omega) (below_set (by omega) (below_set (by omega) (below_set (by omega) (Below.refl P w2)))))) hB)
    · go_wp2_with fail
      refine bodyPost_ret (v := edV b cb d cd ⟨[], ks, lg, nx, la⟩) (by simp [results, Tryz.results18, go_sem, y0, y1, y2, y3, y4]) rfl ⟨b, cb, d, cd, _, rfl, smE_of (by simp) (by omega) (fun t ht => absurd ht (by simp)), .inl rfl, ?_, ?_⟩
      · exact lieI_own (owns_blocks HI.out (fun g hg => Below.block (below_set (by omega) (below_set (by omega) (below_set (by omega) (below_set (by omega) (below_set (by omega) (Below.refl P w2)))))) g (HGI.out g hg)))
      · exact HBw.out.trans (Below.mono (below_set (by omega) (below_set (by omega) (below_set (by omega) (below_set (by omega) (below_set (by omega) (Below.refl P w2)))))) hB)
    · go_wp2_with fail
      refine bodyPost_ret (v := edV b cb d cd ⟨[], ks, lg, nx, la⟩) (by simp [results, Tryz.results18, go_sem, y0, y1, y2, y3, y4]) rfl ⟨b, cb, d, cd, _, rfl, smE_of (by simp) (by omega) (fun t ht => absurd ht (by simp)), .inl rfl, ?_, ?_⟩
      · exact lieI_own (owns_blocks HI.out (fun g hg => Below.block (below_set (by omega) (below_set (by omega) (below_set (by omega) (below_set (by omega) (below_set (by omega) (Below.refl P w2)))))) g (HGI.out g hg)))
      · exact HBw.out.trans (Below.mono (below_set (by omega) (below_set (by omega) (below_set (by omega) (below_set (by omega) (below_set (by omega) (Below.refl P w2)))))) hB)
    · go_wp2_with fail
      refine bodyPost_ret (v := edV b cb d cd ⟨[], ks, lg, nx, la⟩) (by simp [results, Tryz.results18, go_sem, y0, y1, y2, y3, y4]) rfl ⟨b, cb, d, cd, _, rfl, smE_of (by simp) (by omega) (fun t ht => absurd ht (by simp)), .inl rfl, ?_, ?_⟩
      · exact lieI_own (owns_blocks HI.out (fun g hg => Below.block (below_set (by omega) (below_set (by omega) (below_set (by omega) (below_set (by omega) (below_set (by omega) (Below.refl P w2)))))) g (HGI.out g hg)))
      · exact HBw.out.trans (Below.mono (below_set (by omega) (below_set (by omega) (below_set (by omega) (below_set (by omega) (below_set (by omega) (Below.refl P w2)))))) hB)
  | cons t xs =>
    have HL := hd0 (lieT_own HO.out)
    obtain ⟨-, hO2⟩ := HO.out
    rcases hO2 with ⟨h, -⟩ | ⟨g, cap', cur, e', hg, hbk, -⟩
    · simp at h
    injection e' with e1 e2 e3
    subst e1 e3
    have hgP : g < P := HGT.out g rfl
    have hgs := heap_lt hbk
    have k0 : w2.frozen? ⟨g, 0, none⟩ = false := by simp [World.frozen?, hbk]
    have k1 : w2.frozen? ⟨g, 1, none⟩ = false := by simp [World.frozen?, hbk]
    have k2 : w2.frozen? ⟨g, 2, none⟩ = false := by simp [World.frozen?, hbk]
    have k3 : w2.frozen? ⟨g, 3, none⟩ = false := by simp [World.frozen?, hbk]
    obtain ⟨tb, off, e4, htb, c0, c1, c2, c3⟩ := HL.out.at (i := 0) (by simp)
    cases e4
    simp only [Nat.zero_mul, Nat.zero_add, Nat.add_zero, List.getD_cons_zero] at c0 c1 c2 c3
    have n1 : ¬ g = P := by omega
    have n2 : ¬ g = P + 1 := by omega
    have n3 : ¬ P = g := by omega
    have n4 : ¬ P + 1 = g := by omega
    have n5 : ¬ g = w2.heap.size := by omega
    have n6 : ¬ w2.heap.size = g := by omega
    have n7 : ¬ P = w2.heap.size := by omega
    have n8 : ¬ w2.heap.size = P := by omega
    have n9 : ¬ P + 1 = w2.heap.size := by omega
    have n10 : ¬ w2.heap.size = P + 1 := by omega
    have hlc : ¬ ((t :: xs).length : Int) = 0 := by simp; omega
    have HO' : Hid (w2.ownsRow B 58 4 (.slice (some ⟨g, 0, none⟩) (xs.length + 1) cb) (xs.length + 1) (cellsT (t :: xs))) := HO.out
    have q71 := sm71 (s3 t (List.mem_cons_self ..))
    have q72 : (t.hi ++ ⟨#[122]⟩).size ≤ 71 := by rw [ByteArray.size_append]; have := (s3 t (List.mem_cons_self ..)).2.1; show _ + 1 ≤ _; omega
    have q73 : ¬ 9223372036854775807 < t.hi.size + 1 := by omega
    clear hbk HL htb
    rcases h10 with rfl | rfl | rfl | rfl | rfl | rfl | rfl | rfl | rfl | rfl
    · go_wp2_with fail
      refine bodyPost_ret (v := edV (some ⟨g, 0, none⟩) cb d cd ⟨(⟨t.nu, t.lv, t.lo, t.hi⟩ : Tr) :: xs, ks, nx, nx, la⟩) (by simp [results, Tryz.results18, go_sem, y0, y1, y2, y3, y4, n1, n2, n3, n4, hq2]) rfl ⟨_, _, d, cd, _, rfl, smE_of (by simp at s1 ⊢; omega) (by omega) (fun u hu => by rcases List.mem_cons.1 hu with rfl | hu; (exact ⟨q71.1, q71.2⟩); (exact sm71 (s3 u (List.mem_cons_of_mem _ hu)))), ?_, ?_, ?_⟩
      · exact lieT_own (owns_blocks (owns_put4 (t := (⟨t.nu, t.lv, t.lo, t.hi⟩ : Tr)) (owns_blocks HO.out (fun k hk => Below.block (below_set (by omega) (Below.refl P w2)) k (HGT.out k hk)))) (fun k hk => Below.block (Below.alloc (below_set (by omega) (below_set (by omega) (below_set (by omega) (below_set (by omega) (below_set (by omega) (Below.refl P _)))))) (by simp [World.setCell]; omega) _) k (HGT.out k hk)))
      · exact lieI_own (owns_blocks HI.out (fun k hk => keep_alloc (by simp [World.setCell]; omega) (keep_set (.inr (by omega)) (keep_set (.inr (by omega)) (keep_set (.inr (by omega)) (keep_set (.inr (by omega)) (keep_set (.inr (by omega)) (keep_set (.inl rfl) (keep_set (.inl rfl) (keep_set (.inl rfl) (keep_set (.inl rfl) (keep_set (.inr (by omega)) (keep_refl g P w2))))))))))) k (HGI.out k hk) (fun h => owns_neD HI.out HO.out (by decide) k hk (by rw [h]; rfl))))
      · exact HBw.out.trans (Below.alloc (below_set (by omega) (below_set (by omega) (below_set (by omega) (below_set (by omega) (below_set (by omega) (below_set (by omega) (below_set (by omega) (below_set (by omega) (below_set (by omega) (below_set (by omega) (Below.refl B w2))))))))))) (by simp [World.setCell]; omega) _)
    · go_wp2_with fail
      refine bodyPost_ret (v := edV (some ⟨g, 0, none⟩) cb d cd ⟨(⟨t.nu, t.lv, t.lo, t.hi⟩ : Tr) :: xs, ks, lg, nx, (72057594037927935 + (x : Int))⟩) (by simp [results, Tryz.results18, go_sem, y0, y1, y2, y3, y4, n1, n2, n3, n4, hq2]) rfl ⟨_, _, d, cd, _, rfl, smE_of (by simp at s1 ⊢; omega) (by omega) (fun u hu => by rcases List.mem_cons.1 hu with rfl | hu; (exact ⟨q71.1, q71.2⟩); (exact sm71 (s3 u (List.mem_cons_of_mem _ hu)))), ?_, ?_, ?_⟩
      · exact lieT_own (owns_blocks (owns_put4 (t := (⟨t.nu, t.lv, t.lo, t.hi⟩ : Tr)) (owns_blocks HO.out (fun k hk => Below.block (below_set (by omega) (Below.refl P w2)) k (HGT.out k hk)))) (fun k hk => Below.block (Below.alloc (below_set (by omega) (below_set (by omega) (below_set (by omega) (below_set (by omega) (below_set (by omega) (Below.refl P _)))))) (by simp [World.setCell]; omega) _) k (HGT.out k hk)))
      · exact lieI_own (owns_blocks HI.out (fun k hk => keep_alloc (by simp [World.setCell]; omega) (keep_set (.inr (by omega)) (keep_set (.inr (by omega)) (keep_set (.inr (by omega)) (keep_set (.inr (by omega)) (keep_set (.inr (by omega)) (keep_set (.inl rfl) (keep_set (.inl rfl) (keep_set (.inl rfl) (keep_set (.inl rfl) (keep_set (.inr (by omega)) (keep_refl g P w2))))))))))) k (HGI.out k hk) (fun h => owns_neD HI.out HO.out (by decide) k hk (by rw [h]; rfl))))
      · exact HBw.out.trans (Below.alloc (below_set (by omega) (below_set (by omega) (below_set (by omega) (below_set (by omega) (below_set (by omega) (below_set (by omega) (below_set (by omega) (below_set (by omega) (below_set (by omega) (below_set (by omega) (Below.refl B w2))))))))))) (by simp [World.setCell]; omega) _)
    · go_wp2_with (at_builtin; refine wpList_append_own _ rfl _ _ 33 rfl B 3 j0 _ 1 8 Tryz.underlying33 ji jz0 jz1 jz2 rfl (by decide) _ _ _ rfl (HI.out.alloc (.cells #[.int .i64 77] 3)) ⟨w2.heap.size, 0, none⟩ 1 1 [.int .i64 77] rfl rfl (cell_one_newD w2 _ _) (fun x hx => by simp at hx; subst hx; rfl) (by unfold maxLen; omega) (by omega) (by rw [size_alloc]; omega) ?_; intro v8 w8 hown8 hgrow8 hnil8; obtain ⟨g8, cap8, rfl⟩ := owns_succD hown8; have hb8 : Below B w2 w8 := ((Below.refl B w2).alloc (by omega) _).grown hgrow8 (by rw [size_alloc]; omega) (owns_base HI.out); have hV8 := (hgrow8.block P (by rw [size_alloc]; omega) (fun h => by have := HGI.out P h.symm; omega)).trans ((alloc_old hq1).trans hV2); have hR8 := (hgrow8.block (P + 1) (by rw [size_alloc]; omega) (fun h => by have := HGI.out (P + 1) h.symm; omega)).trans ((alloc_old hq2).trans hR2); have hz1' := heap_lt hV8; have hz2' := heap_lt hR8; obtain ⟨xx0, xx1, xx2, xx3, xx4⟩ := five_cells hV8; obtain ⟨yy0, yy1, yy2, yy3, yy4⟩ := five_cells hR8; obtain ⟨ff0, ff1, ff2, ff3, ff4⟩ := five_free hV8; obtain ⟨gg0, gg1, gg2, gg3, gg4⟩ := five_free hR8; have HB8 := hd hb8; have HW8 := hd hown8; have m1 : g8 ≠ P := owns_cell_ne hown8 hV8 (by decide) g8 rfl; have m2 : g8 ≠ P + 1 := owns_cell_ne hown8 hR8 (by decide) g8 rfl; have hO8 := owns_blocks (HO.out.alloc (.cells #[.int .i64 77] 3)) (fun k hk => hgrow8.block k (owns_ltD (HO.out.alloc _) k hk) (fun h => owns_neD HO.out HI.out (by decide) k hk h.symm)); have HO8 := hd hO8; obtain ⟨qg, -, qf⟩ := owns_freeD hO8; have kk0 := qf 0; have kk1 := qf 1; have kk2 := qf 2; have kk3 := qf 3; obtain ⟨tb8, off8, e8, htb8, cc0, cc1, cc2, cc3⟩ := (lieT_own hO8).at (i := 0) (by simp); cases e8; simp only [Nat.zero_mul, Nat.zero_add, Nat.add_zero, List.getD_cons_zero] at cc0 cc1 cc2 cc3; have m3 : g8 ≠ g := fun h => owns_neD hown8 hO8 (by decide) g8 rfl (by rw [h]; rfl); have m4 : ¬ P = w8.heap.size := Nat.ne_of_lt hz1'; have m5 : ¬ P + 1 = w8.heap.size := Nat.ne_of_lt hz2'; have m6 : ¬ g = w8.heap.size := Nat.ne_of_lt qg; clear hown8 hgrow8 hnil8 hb8 hV8 hR8 x0 x1 x2 x3 x4 y0 y1 y2 y3 y4 f0 f1 f2 f3 f4 g0 g1 g2 g3 g4 c0 c1 c2 c3 k0 k1 k2 k3 qf hO8)
      refine bodyPost_ret (v := edV (some ⟨g, 0, none⟩) cb (some ⟨g8, 0, none⟩) cap8 ⟨t :: xs, ks ++ [77], lg, nx, la⟩) (by simp [results, Tryz.results18, go_sem, yy0, yy1, yy2, yy3, yy4, hz1', hz2']) rfl ⟨_, _, some ⟨g8, 0, none⟩, cap8, _, rfl, smE_of (by simp at s1 ⊢; omega) (by simp; omega) (fun u hu => sm71 (s3 u hu)), ?_, ?_, ?_⟩
      · exact lieT_own (owns_blocks (owns_put4 (t := t) (owns_blocks HO8.out (fun k hk => Below.block (below_set (by omega) (Below.refl P w8)) k (HGT.out k hk)))) (fun k hk => Below.block (Below.alloc (below_set (by omega) (below_set (by omega) (below_set (by omega) (below_set (by omega) (below_set (by omega) (Below.refl P _)))))) (by simp [World.setCell]; omega) _) k (HGT.out k hk)))
      · exact lieI_own (own77 (owns_blocks HW8.out (fun k hk => by cases hk; exact same_alloc (by have := (owns_freeD HW8.out).1; simp [World.setCell]; omega) (same_set m2 (same_set m2 (same_set m2 (same_set m2 (same_set m2 (same_set m3 (same_set m3 (same_set m3 (same_set m3 (same_set m1 rfl)))))))))))))
      · exact HBw.out.trans (HB8.out.trans (Below.alloc (below_set (by omega) (below_set (by omega) (below_set (by omega) (below_set (by omega) (below_set (by omega) (below_set (by omega) (below_set (by omega) (below_set (by omega) (below_set (by omega) (below_set (by omega) (Below.refl B w8))))))))))) (by have := HB8.out.size; simp [World.setCell]; omega) _))
    · go_wp2_with fail
      refine bodyPost_ret (v := edV (some ⟨g, 0, none⟩) cb d cd ⟨(⟨t.nu, t.lv, t.lo, t.hi⟩ : Tr) :: xs, ks, lg, (999999999 + (x : Int)), la⟩) (by simp [results, Tryz.results18, go_sem, y0, y1, y2, y3, y4, n1, n2, n3, n4, hq2]) rfl ⟨_, _, d, cd, _, rfl, smE_of (by simp at s1 ⊢; omega) (by omega) (fun u hu => by rcases List.mem_cons.1 hu with rfl | hu; (exact ⟨q71.1, q71.2⟩); (exact sm71 (s3 u (List.mem_cons_of_mem _ hu)))), ?_, ?_, ?_⟩
      · exact lieT_own (owns_blocks (owns_put4 (t := (⟨t.nu, t.lv, t.lo, t.hi⟩ : Tr)) (owns_blocks HO.out (fun k hk => Below.block (below_set (by omega) (Below.refl P w2)) k (HGT.out k hk)))) (fun k hk => Below.block (Below.alloc (below_set (by omega) (below_set (by omega) (below_set (by omega) (below_set (by omega) (below_set (by omega) (Below.refl P _)))))) (by simp [World.setCell]; omega) _) k (HGT.out k hk)))
      · exact lieI_own (owns_blocks HI.out (fun k hk => keep_alloc (by simp [World.setCell]; omega) (keep_set (.inr (by omega)) (keep_set (.inr (by omega)) (keep_set (.inr (by omega)) (keep_set (.inr (by omega)) (keep_set (.inr (by omega)) (keep_set (.inl rfl) (keep_set (.inl rfl) (keep_set (.inl rfl) (keep_set (.inl rfl) (keep_set (.inr (by omega)) (keep_refl g P w2))))))))))) k (HGI.out k hk) (fun h => owns_neD HI.out HO.out (by decide) k hk (by rw [h]; rfl))))
      · exact HBw.out.trans (Below.alloc (below_set (by omega) (below_set (by omega) (below_set (by omega) (below_set (by omega) (below_set (by omega) (below_set (by omega) (below_set (by omega) (below_set (by omega) (below_set (by omega) (below_set (by omega) (Below.refl B w2))))))))))) (by simp [World.setCell]; omega) _)
    · go_wp2_with fail
      refine bodyPost_ret (v := edV (some ⟨g, 0, none⟩) cb d cd ⟨(⟨t.nu, t.lv, t.lo, t.hi⟩ : Tr) :: xs, ks, 0, nx, la⟩) (by simp [results, Tryz.results18, go_sem, y0, y1, y2, y3, y4, n1, n2, n3, n4, hq2]) rfl ⟨_, _, d, cd, _, rfl, smE_of (by simp at s1 ⊢; omega) (by omega) (fun u hu => by rcases List.mem_cons.1 hu with rfl | hu; (exact ⟨q71.1, q71.2⟩); (exact sm71 (s3 u (List.mem_cons_of_mem _ hu)))), ?_, ?_, ?_⟩
      · exact lieT_own (owns_blocks (owns_put4 (t := (⟨t.nu, t.lv, t.lo, t.hi⟩ : Tr)) (owns_blocks HO.out (fun k hk => Below.block (below_set (by omega) (Below.refl P w2)) k (HGT.out k hk)))) (fun k hk => Below.block (Below.alloc (below_set (by omega) (below_set (by omega) (below_set (by omega) (below_set (by omega) (below_set (by omega) (Below.refl P _)))))) (by simp [World.setCell]; omega) _) k (HGT.out k hk)))
      · exact lieI_own (owns_blocks HI.out (fun k hk => keep_alloc (by simp [World.setCell]; omega) (keep_set (.inr (by omega)) (keep_set (.inr (by omega)) (keep_set (.inr (by omega)) (keep_set (.inr (by omega)) (keep_set (.inr (by omega)) (keep_set (.inl rfl) (keep_set (.inl rfl) (keep_set (.inl rfl) (keep_set (.inl rfl) (keep_set (.inr (by omega)) (keep_refl g P w2))))))))))) k (HGI.out k hk) (fun h => owns_neD HI.out HO.out (by decide) k hk (by rw [h]; rfl))))
      · exact HBw.out.trans (Below.alloc (below_set (by omega) (below_set (by omega) (below_set (by omega) (below_set (by omega) (below_set (by omega) (below_set (by omega) (below_set (by omega) (below_set (by omega) (below_set (by omega) (below_set (by omega) (Below.refl B w2))))))))))) (by simp [World.setCell]; omega) _)
    · go_wp2_with fail
      refine bodyPost_ret (v := edV (some ⟨g, 0, none⟩) cb d cd ⟨(⟨t.nu, 3 + (x : Int), t.lo, t.hi⟩ : Tr) :: xs, ks, lg, nx, la⟩) (by simp [results, Tryz.results18, go_sem, y0, y1, y2, y3, y4, n1, n2, n3, n4, hq2]) rfl ⟨_, _, d, cd, _, rfl, smE_of (by simp at s1 ⊢; omega) (by omega) (fun u hu => by rcases List.mem_cons.1 hu with rfl | hu; (exact ⟨q71.1, q71.2⟩); (exact sm71 (s3 u (List.mem_cons_of_mem _ hu)))), ?_, ?_, ?_⟩
      · exact lieT_own (owns_blocks (owns_put4 (t := (⟨t.nu, 3 + (x : Int), t.lo, t.hi⟩ : Tr)) HO.out) (fun k hk => Below.block (Below.alloc (below_set (by omega) (below_set (by omega) (below_set (by omega) (below_set (by omega) (below_set (by omega) (Below.refl P _)))))) (by simp [World.setCell]; omega) _) k (HGT.out k hk)))
      · exact lieI_own (owns_blocks HI.out (fun k hk => keep_alloc (by simp [World.setCell]; omega) (keep_set (.inr (by omega)) (keep_set (.inr (by omega)) (keep_set (.inr (by omega)) (keep_set (.inr (by omega)) (keep_set (.inr (by omega)) (keep_set (.inl rfl) (keep_set (.inl rfl) (keep_set (.inl rfl) (keep_set (.inl rfl) (keep_refl g P w2)))))))))) k (HGI.out k hk) (fun h => owns_neD HI.out HO.out (by decide) k hk (by rw [h]; rfl))))
      · exact HBw.out.trans (Below.alloc (below_set (by omega) (below_set (by omega) (below_set (by omega) (below_set (by omega) (below_set (by omega) (below_set (by omega) (below_set (by omega) (below_set (by omega) (below_set (by omega) (Below.refl B w2)))))))))) (by simp [World.setCell]; omega) _)
    · go_wp2_with fail
      refine bodyPost_ret (v := edV (some ⟨g, 0, none⟩) cb d cd ⟨(⟨1, t.lv, t.lo, t.hi⟩ : Tr) :: xs, ks, lg, nx, la⟩) (by simp [results, Tryz.results18, go_sem, y0, y1, y2, y3, y4, n1, n2, n3, n4, hq2]) rfl ⟨_, _, d, cd, _, rfl, smE_of (by simp at s1 ⊢; omega) (by omega) (fun u hu => by rcases List.mem_cons.1 hu with rfl | hu; (exact ⟨q71.1, q71.2⟩); (exact sm71 (s3 u (List.mem_cons_of_mem _ hu)))), ?_, ?_, ?_⟩
      · exact lieT_own (owns_blocks (owns_put4 (t := (⟨1, t.lv, t.lo, t.hi⟩ : Tr)) HO.out) (fun k hk => Below.block (Below.alloc (below_set (by omega) (below_set (by omega) (below_set (by omega) (below_set (by omega) (below_set (by omega) (Below.refl P _)))))) (by simp [World.setCell]; omega) _) k (HGT.out k hk)))
      · exact lieI_own (owns_blocks HI.out (fun k hk => keep_alloc (by simp [World.setCell]; omega) (keep_set (.inr (by omega)) (keep_set (.inr (by omega)) (keep_set (.inr (by omega)) (keep_set (.inr (by omega)) (keep_set (.inr (by omega)) (keep_set (.inl rfl) (keep_set (.inl rfl) (keep_set (.inl rfl) (keep_set (.inl rfl) (keep_refl g P w2)))))))))) k (HGI.out k hk) (fun h => owns_neD HI.out HO.out (by decide) k hk (by rw [h]; rfl))))
      · exact HBw.out.trans (Below.alloc (below_set (by omega) (below_set (by omega) (below_set (by omega) (below_set (by omega) (below_set (by omega) (below_set (by omega) (below_set (by omega) (below_set (by omega) (below_set (by omega) (Below.refl B w2)))))))))) (by simp [World.setCell]; omega) _)
    · go_wp2_with fail
      refine bodyPost_ret (v := edV (some ⟨g, 0, none⟩) cb d cd ⟨(⟨t.nu, t.lv, t.lo, ⟨#[]⟩⟩ : Tr) :: xs, ks, lg, nx, la⟩) (by simp [results, Tryz.results18, go_sem, y0, y1, y2, y3, y4, n1, n2, n3, n4, hq2]) rfl ⟨_, _, d, cd, _, rfl, smE_of (by simp at s1 ⊢; omega) (by omega) (fun u hu => by rcases List.mem_cons.1 hu with rfl | hu; (exact ⟨q71.1, Nat.zero_le _⟩); (exact sm71 (s3 u (List.mem_cons_of_mem _ hu)))), ?_, ?_, ?_⟩
      · exact lieT_own (owns_blocks (owns_put4 (t := (⟨t.nu, t.lv, t.lo, ⟨#[]⟩⟩ : Tr)) HO.out) (fun k hk => Below.block (Below.alloc (below_set (by omega) (below_set (by omega) (below_set (by omega) (below_set (by omega) (below_set (by omega) (Below.refl P _)))))) (by simp [World.setCell]; omega) _) k (HGT.out k hk)))
      · exact lieI_own (owns_blocks HI.out (fun k hk => keep_alloc (by simp [World.setCell]; omega) (keep_set (.inr (by omega)) (keep_set (.inr (by omega)) (keep_set (.inr (by omega)) (keep_set (.inr (by omega)) (keep_set (.inr (by omega)) (keep_set (.inl rfl) (keep_set (.inl rfl) (keep_set (.inl rfl) (keep_set (.inl rfl) (keep_refl g P w2)))))))))) k (HGI.out k hk) (fun h => owns_neD HI.out HO.out (by decide) k hk (by rw [h]; rfl))))
      · exact HBw.out.trans (Below.alloc (below_set (by omega) (below_set (by omega) (below_set (by omega) (below_set (by omega) (below_set (by omega) (below_set (by omega) (below_set (by omega) (below_set (by omega) (below_set (by omega) (Below.refl B w2)))))))))) (by simp [World.setCell]; omega) _)
    · go_wp2_with fail
      refine bodyPost_ret (v := edV (some ⟨g, 0, none⟩) cb d cd ⟨(⟨t.nu, t.lv, t.hi ++ ⟨#[122]⟩, t.hi⟩ : Tr) :: xs, ks, lg, nx, la⟩) (by simp [results, Tryz.results18, go_sem, y0, y1, y2, y3, y4, n1, n2, n3, n4, hq2]) rfl ⟨_, _, d, cd, _, rfl, smE_of (by simp at s1 ⊢; omega) (by omega) (fun u hu => by rcases List.mem_cons.1 hu with rfl | hu; (exact ⟨q72, q71.2⟩); (exact sm71 (s3 u (List.mem_cons_of_mem _ hu)))), ?_, ?_, ?_⟩
      · exact lieT_own (owns_blocks (owns_put4 (t := (⟨t.nu, t.lv, t.hi ++ ⟨#[122]⟩, t.hi⟩ : Tr)) HO.out) (fun k hk => Below.block (Below.alloc (below_set (by omega) (below_set (by omega) (below_set (by omega) (below_set (by omega) (below_set (by omega) (Below.refl P _)))))) (by simp [World.setCell]; omega) _) k (HGT.out k hk)))
      · exact lieI_own (owns_blocks HI.out (fun k hk => keep_alloc (by simp [World.setCell]; omega) (keep_set (.inr (by omega)) (keep_set (.inr (by omega)) (keep_set (.inr (by omega)) (keep_set (.inr (by omega)) (keep_set (.inr (by omega)) (keep_set (.inl rfl) (keep_set (.inl rfl) (keep_set (.inl rfl) (keep_set (.inl rfl) (keep_refl g P w2)))))))))) k (HGI.out k hk) (fun h => owns_neD HI.out HO.out (by decide) k hk (by rw [h]; rfl))))
      · exact HBw.out.trans (Below.alloc (below_set (by omega) (below_set (by omega) (below_set (by omega) (below_set (by omega) (below_set (by omega) (below_set (by omega) (below_set (by omega) (below_set (by omega) (below_set (by omega) (Below.refl B w2)))))))))) (by simp [World.setCell]; omega) _)
    · go_wp2_with (at_builtin; refine wpList_append_own _ rfl _ _ 24 rfl B 58 i0 _ 4 48 Tryz.underlying24 hi hz0 hz1 hz2 rfl (by decide) _ _ _ rfl ((HO'.out.alloc (.cells #[.int .i64 t.nu, .int .i64 t.lv, .string t.lo, .string t.hi] 58)).alloc (.cells #[.int .i64 t.nu, .int .i64 t.lv, .string t.lo, .string t.hi] 58)) ⟨w2.heap.size + 1, 0, none⟩ 1 1 [.int .i64 t.nu, .int .i64 t.lv, .string t.lo, .string t.hi] rfl rfl (cell_first4s w2 _ _ _ _ _ _) (fun x hx => by simp at hx; rcases hx with rfl | rfl | rfl | rfl <;> rfl) (by have h1 : xs.length + 1 ≤ 2 := s1; show xs.length + 1 + 1 ≤ maxLen; unfold maxLen; omega) (by have h1 : xs.length + 1 ≤ 2 := s1; show (xs.length + 1 + 1) * 48 ≤ 140737488355328; omega) (by rw [size_alloc, size_alloc]; omega) ?_; intro v8 w8 hown8 hgrow8 hnil8; obtain ⟨g8, cap8, rfl⟩ := owns_succD hown8; have hb8 : Below B w2 w8 := (((Below.refl B w2).alloc (by omega) _).alloc (by rw [size_alloc]; omega) _).grown hgrow8 (by rw [size_alloc, size_alloc]; omega) (owns_base HO.out); have hV8 := (hgrow8.block P (by rw [size_alloc, size_alloc]; omega) (fun h => by have := HGT.out P h.symm; omega)).trans ((alloc_old (by rw [size_alloc]; omega)).trans ((alloc_old hq1).trans hV2)); have hR8 := (hgrow8.block (P + 1) (by rw [size_alloc, size_alloc]; omega) (fun h => by have := HGT.out (P + 1) h.symm; omega)).trans ((alloc_old (by rw [size_alloc]; omega)).trans ((alloc_old hq2).trans hR2)); have hX8 := (hgrow8.block w2.heap.size (by rw [size_alloc, size_alloc]; omega) (fun h => by have := HGT.out w2.heap.size h.symm; omega)).trans ((alloc_old (by rw [size_alloc]; omega)).trans (World.heap_alloc_new w2 (.cells #[.int .i64 t.nu, .int .i64 t.lv, .string t.lo, .string t.hi] 58))); have hz1' := heap_lt hV8; have hz2' := heap_lt hR8; have hz3' := heap_lt hX8; obtain ⟨xx0, xx1, xx2, xx3, xx4⟩ := five_cells hV8; obtain ⟨yy0, yy1, yy2, yy3, yy4⟩ := five_cells hR8; obtain ⟨zz0, zz1, zz2, zz3⟩ := four_cells hX8; obtain ⟨ff0, ff1, ff2, ff3, ff4⟩ := five_free hV8; obtain ⟨gg0, gg1, gg2, gg3, gg4⟩ := five_free hR8; have HB8 := hd hb8; have HW8 := hd hown8; have m1 : g8 ≠ P := owns_cell_ne hown8 hV8 (by decide) g8 rfl; have m2 : g8 ≠ P + 1 := owns_cell_ne hown8 hR8 (by decide) g8 rfl; have m1' : ¬ P = g8 := fun h => m1 h.symm; have m2' : ¬ P + 1 = g8 := fun h => m2 h.symm; obtain ⟨qg, hg8, qf⟩ := owns_freeD hown8; have kk0 := qf 0; have kk1 := qf 1; have kk2 := qf 2; have kk3 := qf 3; have hI8 := owns_blocks ((HI.out.alloc (.cells #[.int .i64 t.nu, .int .i64 t.lv, .string t.lo, .string t.hi] 58)).alloc (.cells #[.int .i64 t.nu, .int .i64 t.lv, .string t.lo, .string t.hi] 58)) (fun k hk => hgrow8.block k (owns_ltD ((HI.out.alloc _).alloc _) k hk) (fun h => owns_neD HI.out HO.out (by decide) k hk h.symm)); have HI8 := hd hI8; have HN8 : Hid (∀ k, (Value.slice d ks.length cd).ownBlock = some k → k ≠ g8) := fun k hk h => owns_neD hI8 hown8 (by decide) k hk (by rw [h]; rfl); obtain ⟨tb8, off8, e8, htb8, cc0, cc1, cc2, cc3⟩ := (lieT_own (own4s hown8)).at (i := 0) (by simp); cases e8; simp only [Nat.zero_mul, Nat.zero_add, Nat.add_zero, List.cons_append, List.getD_cons_zero] at cc0 cc1 cc2 cc3; clear hown8 hgrow8 hnil8 hb8 hV8 hR8 hX8 hI8 x0 x1 x2 x3 x4 y0 y1 y2 y3 y4 f0 f1 f2 f3 f4 g0 g1 g2 g3 g4 c0 c1 c2 c3 k0 k1 k2 k3 qf)
      refine bodyPost_ret (v := edV (some ⟨g8, 0, none⟩) cap8 d cd ⟨t :: (xs ++ [t]), ks, lg, nx, la⟩) (by simp [results, Tryz.results18, go_sem, yy0, yy1, yy2, yy3, yy4, hz1', hz2']) rfl ⟨_, _, d, cd, _, rfl, smE_of (by simp at s1 ⊢; omega) (by omega) (fun u hu => by rcases List.mem_cons.1 hu with rfl | hu; (exact q71); (rcases List.mem_append.1 hu with hu | hu; (exact sm71 (s3 u (List.mem_cons_of_mem _ hu))); (rw [List.mem_singleton.1 hu]; exact q71))), ?_, ?_, ?_⟩
      · have hS1 : (w8.setCell ⟨P, 0, none⟩ (.slice (some ⟨g8, 0, none⟩) (xs.length + 1 + 1) cap8)).ownsRow B 58 4 (.slice (some ⟨g8, 0, none⟩) ((t :: xs).length + 1) cap8) ((t :: xs).length + 1) (cellsT (t :: xs) ++ [.int .i64 t.nu, .int .i64 t.lv, .string t.lo, .string t.hi]) := owns_blocks HW8.out (fun k hk => by cases hk; exact same_set m1 rfl)
        have hS2 := owns_put4 (t := t) (own4s hS1)
        exact lieT_own (owns_blocks hS2 (fun k hk => by cases hk; exact (same_set m2 (same_set m2 (same_set m2 (same_set m2 (same_set m2 rfl)))))))
      · exact lieI_own (owns_blocks HI8.out (fun k hk => (same_set (by have := HGI.out k hk; omega) (same_set (by have := HGI.out k hk; omega) (same_set (by have := HGI.out k hk; omega) (same_set (by have := HGI.out k hk; omega) (same_set (by have := HGI.out k hk; omega) (same_set (HN8.out k hk) (same_set (HN8.out k hk) (same_set (HN8.out k hk) (same_set (HN8.out k hk) (same_set (by have := HGI.out k hk; omega) rfl))))))))))))
      · exact HBw.out.trans (HB8.out.trans (below_set (by omega) (below_set (by omega) (below_set (by omega) (below_set (by omega) (below_set (by omega) (below_set (by omega) (below_set (by omega) (below_set (by omega) (below_set (by omega) (below_set (by omega) (Below.refl B w8))))))))))))
end Go.Proofs.YtgpjhlhjdafjlaaGreatDoor
