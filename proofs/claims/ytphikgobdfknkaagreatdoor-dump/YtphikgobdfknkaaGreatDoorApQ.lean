import Derived.Test.YtphikgobdfknkaaGreatDoorSrt

namespace Go.Proofs.YtphikgobdfknkaaGreatDoor
open Go.RowKit Go.Maps Go.Shelf
set_option linter.unusedVariables false
set_option linter.unusedSimpArgs false

set_option maxRecDepth 100000 in
theorem collect_any (bs c : Nat) (xs : List Tr) (a : Option Addr) (w0 w : World) (ht : LieT w0 a xs) (hl : xs.length ≤ 2000) (hb0 : Below w0.heap.size w0 w) (hbs : bs < w.heap.size) (hcs : w.cell? ⟨bs, 0, none⟩ = some (.slice a xs.length c)) :
    Calls Tryz.prog 115 #[.func (.func 117) #[] #[.pointer (some ⟨bs, 0, none⟩)]] w fun e w' => ∃ v, e = .returned v ∧ w'.ownsRow w.heap.size 45 4 v xs.length (cellsT xs) ∧ Below w.heap.size w w' := by
  have HA := hd ((callsIn_wide (n := 3)).1 (appendSeq_in 3 (Nat.le_refl _) bs c xs a w0 w ht hl hb0 hbs hcs))
  clear ht hb0 hcs
  go_enter Tryz.func115, Tryz.ntmps115
  go_wp2_with (go_at_call 137; refine HA.out.mono ?_; rintro e w1 ⟨v, rfl, h1, h2⟩)
  go_ret
  exact ⟨v, rfl, h1, h2⟩

theorem sortFunc_any (B : Nat) (v : Value) (xs : List Tr) (w : World) (h : w.ownsRow B 45 4 v xs.length (cellsT xs)) (hl : xs.length ≤ 2000) :
    Calls Tryz.prog 116 #[v, .func (.func 99) #[] #[]] w fun e w' => e = .returned (.tuple #[]) ∧ ∃ ys, ys.Perm xs ∧ ys.Pairwise LeT ∧ w'.ownsRow B 45 4 v xs.length (cellsT ys) ∧ Below B w w' := by
  haveI : Inhabited Tr := ⟨tr0⟩
  have h' := h
  obtain ⟨h1, h2⟩ := h'
  rcases h2 with ⟨rfl, h0⟩ | ⟨g, cap, cur, rfl, hg, hb, hl1, hl2, hsz, htk⟩
  · have he : xs = [] := List.length_eq_zero_iff.1 h0
    subst he
    have hcon := AnyF.slices_SortFunc_none Tryz.sortT none 0 (.func (.func 99) #[] #[]) w
    change Calls Tryz.prog 116 _ _ _ at hcon
    refine hcon.mono ?_
    rintro e w' ⟨rfl, rfl⟩
    exact ⟨rfl, [], List.Perm.refl _, List.Pairwise.nil, h, Below.refl _ _⟩
  · have eg : ∀ args w, (callFunc 99 args).run Tryz.prog w = .ok (.enter 99 args) w := enters_of Tryz.func99 (by kernel_rfl) rfl
    have hcon := AnyQ.slices_SortFunc Tryz.sortT 4 Tryz.isAgg45 Tryz.sizeOf45 encT (fun _ => rfl) (fun x v hv => by simp [encT] at hv; rcases hv with rfl | rfl | rfl | rfl <;> rfl) ordT swoT 99 #[] g 0 cap xs.toArray w eg (cmpT_lays _ _ _ _) (holdsT hb (by simpa using htk)) (heap_lt hb) (by simp; omega)
    change Calls Tryz.prog 116 _ _ _ at hcon
    refine hcon.mono ?_
    rintro e w' ⟨rfl, d', n, os, hp, hs, rfl⟩
    obtain ⟨hp1, -, hp2⟩ := hp
    have hdl : d'.size = xs.length := by simpa using hp1
    obtain ⟨ho, hbl⟩ := putT_owns (m := n) (os := os) hb hg hdl hl1 hl2 hsz
    refine ⟨rfl, d'.toList, ?_, ?_, ho, hbl⟩
    · have e1 : d'.extract 0 xs.toArray.size = d' := by rw [← hp1]; simp
      rw [e1] at hp2
      simpa using hp2
    · refine List.pairwise_iff_getElem.2 fun i j hi hj hij => ?_
      have hx := hs i j (Nat.zero_le _) hij (by simp at hj ⊢; omega)
      rw [ltT] at hx
      have hi' : i < d'.size := by simpa using hi
      have hj' : j < d'.size := by simpa using hj
      rw [getElem!_pos d' i hi', getElem!_pos d' j hj'] at hx
      exact hx

set_option maxRecDepth 100000 in
theorem sortedFunc_any (bs c : Nat) (xs : List Tr) (a : Option Addr) (w0 w : World) (ht : LieT w0 a xs) (hl : xs.length ≤ 2000) (hb0 : Below w0.heap.size w0 w) (hbs : bs < w.heap.size) (hcs : w.cell? ⟨bs, 0, none⟩ = some (.slice a xs.length c)) :
    Calls Tryz.prog 97 #[.func (.func 117) #[] #[.pointer (some ⟨bs, 0, none⟩)], .func (.func 99) #[] #[]] w fun e w' => ∃ a' c' ys, e = .returned (.slice a' ys.length c') ∧ ys.Perm xs ∧ ys.Pairwise LeT ∧ ResT w' w.heap.size a' ys ∧ Below w.heap.size w w' := by
  have HA := hd (collect_any bs c xs a w0 w ht hl hb0 hbs hcs)
  have HS := hd (fun v w' h => sortFunc_any w.heap.size v xs w' h hl)
  clear ht hb0 hcs
  go_enter Tryz.func97, Tryz.ntmps97
  go_wp2_with (first
    | (go_at_call 115; refine HA.out.mono ?_; rintro e w1 ⟨v, rfl, h1, h2⟩; obtain ⟨-, a', c', rfl, hres⟩ := resT_of_owns h1)
    | (go_at_call 116; refine (HS.out _ _ h1).mono ?_; rintro e w2 ⟨rfl, ys, hp, hs, ho, hbl⟩))
  go_ret
  have hly := hp.length_eq
  obtain ⟨-, a2, c2, e2, hres2⟩ := resT_of_owns ho
  injection e2 with f1 f2 f3
  subst f1
  subst f3
  exact ⟨a', c', ys, by rw [hly]; rfl, hp, hs, hres2, h2.trans hbl⟩

theorem four_freeN {w : World} {p : Nat} {t : TypeId} {x0 x1 x2 x3 : Value} (h : w.heap[p]? = some (.cells #[x0, x1, x2, x3] t (0, 0))) :
    w.frozen? ⟨p, 0, none⟩ = false ∧ w.frozen? ⟨p, 1, none⟩ = false ∧ w.frozen? ⟨p, 2, none⟩ = false ∧ w.frozen? ⟨p, 3, none⟩ = false := by
  simp [World.frozen?, h]
theorem ResT.setN {w : World} {B p o : Nat} {a : Option Addr} {xs : List Tr} {v : Value} (hp : p < B) (h : ResT w B a xs) : ResT (w.setCell ⟨p, o, none⟩ v) B a xs :=
  h.kept (fun k hk _ => Below.heap_setCell _ _ _ _ (by dsimp only; omega))
theorem below_setN {B p o : Nat} {w w' : World} {v : Value} (hp : B ≤ p) (h : Below B w w') : Below B w (w'.setCell ⟨p, o, none⟩ v) := h.setCell (p := ⟨p, o, none⟩) hp v
theorem ResT.wideN {w : World} {B B' : Nat} {a : Option Addr} {xs : List Tr} (h : ResT w B a xs) (hB : B' ≤ B) : ResT w B' a xs := by
  rcases h with h | ⟨g, rfl, hg, hr⟩
  · exact .inl h
  · exact .inr ⟨g, rfl, by omega, hr⟩
set_option maxRecDepth 100000 in
set_option maxHeartbeats 2000000 in
theorem version_any (B g b N M : Nat) (qs : List Tr) (a : Option Addr) (ca : Nat) (d : Option Addr) (cd : Nat) (e : Ed) (w : World) (hc : Cat w B g b N M qs) (hl : qs.length ≤ 2000) :
    Calls Tryz.prog 66 #[.pointer (some ⟨g, 0, none⟩), edV a ca d cd e] w fun r w' => ∃ a' c' ys, r = .returned (.agg #[.slice a' ys.length c', .int .i64 e.lg, .int .i64 e.nx, .int .i64 e.la]) ∧ ys.Perm qs ∧ ys.Pairwise LeT ∧ ResT w' w.heap.size a' ys ∧ Below w.heap.size w w' := by
  obtain ⟨tv, D, hg1, hm1, hi1, hr1, -⟩ := hc
  obtain ⟨-, an, cn, rfl, hres⟩ := resT_of_owns hr1
  obtain ⟨xs, ks, lg, nx, la⟩ := e
  dsimp only at *
  have hgl := heap_lt hg1
  generalize hW0 : (w.alloc (.cells #[.slice a xs.length ca, .slice d ks.length cd, .int .i64 lg, .int .i64 nx, .int .i64 la] 68)).alloc (.cells #[.slice none 0 0, .int .i64 0, .int .i64 0, .int .i64 0] 40) = W0
  have hA : W0.heap[w.heap.size]? = some (.cells #[.slice a xs.length ca, .slice d ks.length cd, .int .i64 lg, .int .i64 nx, .int .i64 la] 68 (0, 0)) := by rw [← hW0, Below.heap_alloc _ _ _ (by simp)]; exact World.heap_alloc_new _ _
  have hV : W0.heap[w.heap.size + 1]? = some (.cells #[.slice none 0 0, .int .i64 0, .int .i64 0, .int .i64 0] 40 (0, 0)) := by
    rw [← hW0]
    have h := World.heap_alloc_new (w.alloc (.cells #[.slice a xs.length ca, .slice d ks.length cd, .int .i64 lg, .int .i64 nx, .int .i64 la] 68)) (.cells #[.slice none 0 0, .int .i64 0, .int .i64 0, .int .i64 0] 40)
    rwa [show (w.alloc (.cells #[.slice a xs.length ca, .slice d ks.length cd, .int .i64 lg, .int .i64 nx, .int .i64 la] 68)).heap.size = w.heap.size + 1 by simp] at h
  have hb0 : Below w.heap.size w W0 := by rw [← hW0]; exact ((Below.refl _ _).alloc (Nat.le_refl _) _).alloc (by simp) _
  have hsz : W0.heap.size = w.heap.size + 2 := by rw [← hW0]; simp
  obtain ⟨g0, g1, -, -⟩ := two_cells ((hb0.block g hgl).trans hg1)
  have HSF := hd (fun W bs hbw hbs hcs => sortedFunc_any bs cn qs an w W hres.lie hl hbw hbs hcs)
  have HA := hd hA
  have HV := hd hV
  have HB := hd hb0
  clear hA hV hb0 hg1 hm1 hi1 hr1 hres
  go_enter Tryz.func66, Tryz.ntmps66
  go_wp2_with fail
  refine ((callsIn_wide (n := 3)).1 (values_in Fence.wide 3 trivial rfl an qs.length cn W0)).mono ?_
  rintro r w1 ⟨rfl, rfl⟩
  have hbx : Below W0.heap.size W0 (W0.alloc (.cells #[.slice an qs.length cn] 38)) := (Below.refl _ _).alloc (Nat.le_refl _) _
  have hbs : W0.heap.size < (W0.alloc (.cells #[.slice an qs.length cn] 38)).heap.size := by simp
  have hcs : (W0.alloc (.cells #[.slice an qs.length cn] 38)).cell? ⟨W0.heap.size, 0, none⟩ = some (.slice an qs.length cn) := (one_cellN (World.heap_alloc_new W0 _)).1
  generalize W0.alloc (.cells #[.slice an qs.length cn] 38) = W1 at *
  have HS1 := hd (HSF.out W1 W0.heap.size (HB.out.trans (hbx.mono (by omega))) hbs hcs)
  rw [hsz] at HS1
  have HX := hd hbx
  clear hbx hcs HSF g0 g1
  go_wp2_with fail
  refine HS1.out.mono ?_
  rintro r w2 ⟨a', c', ys, rfl, hp, hs, hres2, hb2⟩
  have hbW := HX.out.trans (hb2.mono HX.out.size)
  obtain ⟨q0, q1, q2, q3, q4⟩ := five_cells ((hbW.block w.heap.size (by omega)).trans HA.out)
  have hv2 := (hbW.block (w.heap.size + 1) (by omega)).trans HV.out
  obtain ⟨y0, y1, y2, y3⟩ := four_cells hv2
  obtain ⟨z0, z1, z2, z3⟩ := four_freeN hv2
  have HBW := hd (HB.out.trans (hbW.mono (by omega)))
  have HRS := hd (hres2.wideN (B' := w.heap.size + 2) (by omega))
  have hw2 : w.heap.size + 1 < w2.heap.size := heap_lt hv2
  clear hbW hb2 hres2 hv2
  go_wp2_with fail
  refine bodyPost_ret (v := .agg #[.slice a' ys.length c', .int .i64 lg, .int .i64 nx, .int .i64 la]) (by simp [results, Tryz.results66, go_sem, y0, y1, y2, y3]) rfl ⟨a', c', ys, rfl, hp, hs, ?_, ?_⟩
  · refine ResT.wideN (B := w.heap.size + 2) ?_ (by omega)
    repeat refine ResT.setN (by omega) ?_
    exact HRS.out
  · repeat refine below_setN (by simp) ?_
    exact HBW.out
end Go.Proofs.YtphikgobdfknkaaGreatDoor
