import Derived.Test.YtphikgobdfknkaaGreatDoorApB

import Derived.Deep.RegionHeld3
namespace Go.Proofs.YtphikgobdfknkaaGreatDoor
open Go.RowKit Go.Maps
set_option linter.unusedVariables false
set_option linter.unusedSimpArgs false

/-- A version, as ApplyEdit gives it. -/
def apL (ts : List Tr) (e : Ed) : List Tr := if apOk ts e = true then apS ts e else []
def apI (ts : List Tr) (e : Ed) (x : Int) : Int := if apOk ts e = true then x else 0
theorem apOk_iff (ts : List Tr) (e : Ed) : apOk ts e = true ↔ edOk e = true ∧ ts.length ≤ 1000 ∧ delsOk ts e.dl = true ∧ e.lg < e.nx ∧ (apS ts e).length ≤ 1000 ∧ pairTo (apS ts e) e.nx (apS ts e).length = true := by
  simp only [apOk, Bool.and_eq_true, decide_eq_true_eq]
theorem apOk_no {ts : List Tr} {e : Ed} (h : ¬ (edOk e = true ∧ ts.length ≤ 1000 ∧ delsOk ts e.dl = true ∧ e.lg < e.nx ∧ (apS ts e).length ≤ 1000 ∧ pairTo (apS ts e) e.nx (apS ts e).length = true)) : apOk ts e = false := by
  cases h' : apOk ts e with
  | false => rfl
  | true => exact absurd ((apOk_iff ts e).1 h') h
theorem fourS {w : World} {p : Nat} {t : TypeId} {x0 x1 x2 x3 : Value} (h : w.heap[p]? = some (.cells #[x0, x1, x2, x3] t (0, 0))) :
    (w.cell? ⟨p, 0, none⟩ = some x0 ∧ w.cell? ⟨p, 1, none⟩ = some x1 ∧ w.cell? ⟨p, 2, none⟩ = some x2 ∧ w.cell? ⟨p, 3, none⟩ = some x3) ∧ w.frozen? ⟨p, 0, none⟩ = false ∧ w.frozen? ⟨p, 1, none⟩ = false ∧ w.frozen? ⟨p, 2, none⟩ = false ∧ w.frozen? ⟨p, 3, none⟩ = false := by
  refine ⟨⟨?_, ?_, ?_, ?_⟩, ?_, ?_, ?_, ?_⟩ <;> simp [World.cell?, World.frozen?, h]

theorem setB {w : World} {p o : Nat} {cs : Array Value} {t : TypeId} (h : w.heap[p]? = some (.cells cs t (0, 0))) (v : Value) : (w.setCell ⟨p, o, none⟩ v).heap[p]? = some (.cells (cs.setIfInBounds o v) t (0, 0)) := by
  simp [World.setCell, Array.getElem?_modify, h]
/-- Four stores into a struct. -/
theorem set4 {w : World} {p : Nat} {t : TypeId} {y0 y1 y2 y3 : Value} (h : w.heap[p]? = some (.cells #[y0, y1, y2, y3] t (0, 0))) (x0 x1 x2 x3 : Value) :
    ((((w.setCell ⟨p, 0, none⟩ x0).setCell ⟨p, 1, none⟩ x1).setCell ⟨p, 2, none⟩ x2).setCell ⟨p, 3, none⟩ x3).heap[p]? = some (.cells #[x0, x1, x2, x3] t (0, 0)) :=
  setB (setB (setB (setB h x0) x1) x2) x3
theorem below4 {B p : Nat} {w w' : World} (h : Below B w w') (hp : B ≤ p) (x0 x1 x2 x3 : Value) :
    Below B w ((((w'.setCell ⟨p, 0, none⟩ x0).setCell ⟨p, 1, none⟩ x1).setCell ⟨p, 2, none⟩ x2).setCell ⟨p, 3, none⟩ x3) :=
  (((h.setCell (p := ⟨p, 0, none⟩) hp _).setCell (p := ⟨p, 1, none⟩) hp _).setCell (p := ⟨p, 2, none⟩) hp _).setCell (p := ⟨p, 3, none⟩) hp _
theorem ResT.keepI {w w' : World} {base : Nat} {a : Option Addr} {xs : List Tr} {B n : Nat} {v : Value} {us : List Value} (h : ResT w base a xs) (ho : w.ownsRow B 3 1 v n us) (hg : w.grownBy w' v.ownBlock) : ResT w' base a xs := by
  rcases h with h | ⟨g, rfl, hb, cs, h1, h2, h3⟩
  · exact .inl h
  · refine .inr ⟨g, rfl, hb, cs, (hg.block g (heap_lt h1) (fun e => ?_)).trans h1, h2, h3⟩
    rcases ho.2 with ⟨rfl, -⟩ | ⟨g', cap, cur, rfl, -, hbk, -⟩
    · cases e
    · cases e
      rw [h1] at hbk
      cases hbk
theorem ownsI_lit (w : World) (B : Nat) (hB : B ≤ w.heap.size) : (w.alloc (.cells #[] 3)).ownsRow B 3 1 (.slice (some ⟨w.heap.size, 0, none⟩) 0 0) 0 (ic []) :=
  ⟨rfl, .inr ⟨w.heap.size, 0, #[], rfl, hB, World.heap_alloc_new _ _, Nat.le_refl _, Nat.zero_le _, rfl, rfl⟩⟩
theorem cell_one_newI (w : World) (x : Value) (t : TypeId) : ∀ j u, [x][j]? = some u → (w.alloc (.cells #[x] t)).cell? ((⟨w.heap.size, 0, none⟩ : Addr).add j) = some u := by
  intro j v hj
  rw [Go.WideShapes.add_plain]
  have hb : (w.alloc (.cells #[x] t)).heap[w.heap.size]? = some (.cells #[x] t (0, 0)) := World.heap_alloc_new _ _
  simp only [World.cell?, hb]
  match j, hj with
  | 0, hj => simpa using hj
theorem LieT.drewS {w : World} {a : Option Addr} {xs : List Tr} (h : LieT w a xs) : LieT w.drew a xs := h
theorem below_quiet {B : Nat} {w w' : World} {n : Nat} (h : Below B w w') : Below B w (w'.drewN n) := ⟨h.os, h.tape, h.output, h.size, h.block⟩
theorem ResT.quiet {w : World} {n base : Nat} {a : Option Addr} {xs : List Tr} (h : ResT w base a xs) : ResT (w.drewN n) base a xs := h
theorem cell_quiet {w : World} {n : Nat} {p : Addr} {v : Value} (h : w.cell? p = some v) : (w.drewN n).cell? p = some v := h
theorem ResT.setLow {w : World} {B p o : Nat} {a : Option Addr} {xs : List Tr} {v : Value} (h : ResT w B a xs) (hp : p < B) : ResT (w.setCell ⟨p, o, none⟩ v) B a xs :=
  h.kept (fun k hk _ => Below.heap_setCell _ _ _ _ (by dsimp only; omega))
theorem leftT_snoc (ts : List Tr) (ds : List Int) (t : Tr) : leftT (ts ++ [t]) ds = leftT ts ds ++ (if ds.contains t.nu = true then [] else [t]) := by
  unfold leftT
  rw [List.filter_append]
  congr 1
  by_cases hm : t.nu ∈ ds <;> simp [List.filter_cons, hm]
theorem leftT_len (ts : List Tr) (ds : List Int) : (leftT ts ds).length ≤ ts.length := List.length_filter_le _ _

set_option maxRecDepth 100000 in
set_option maxHeartbeats 4000000 in
theorem specAp_any (a : Option Addr) (c : Nat) (ts : List Tr) (lg0 nx0 la0 : Int) (b : Option Addr) (cb : Nat) (d : Option Addr) (cd : Nat) (e : Ed) (w : World) (ht : LieT w a ts) (hft : FitsT ts) (hx : LieT w b e.ad) (hf : FitsT e.ad) (hy : LieI w d e.dl) (hl0 : ts.length ≤ 1048576) (hl1 : e.ad.length ≤ 1048576) (hl2 : e.dl.length ≤ 1048576) :
    Calls Tryz.prog 31 #[.agg #[.slice a ts.length c, .int .i64 lg0, .int .i64 nx0, .int .i64 la0], edV b cb d cd e] w fun r w' => ∃ a' c', r = .returned (.tuple #[.agg #[.slice a' (apL ts e).length c', .int .i64 (apI ts e e.lg), .int .i64 (apI ts e e.nx), .int .i64 (apI ts e e.la)], .bool (apOk ts e)]) ∧ ResT w' w.heap.size a' (apL ts e) ∧ Below w.heap.size w w' := by
  obtain ⟨j0, hj, hj0, hj1, hj2⟩ := info_parts int_info
  have HNo := hd (fun h => apOk_no (ts := ts) (e := e) h)
  have HYes := hd ((apOk_iff ts e).2)
  have HLn : Hid (apOk ts e = false → apL ts e = [] ∧ apI ts e e.lg = 0 ∧ apI ts e e.nx = 0 ∧ apI ts e e.la = 0) := fun h => by simp [apL, apI, h]
  have HLy : Hid (apOk ts e = true → apL ts e = apS ts e ∧ apI ts e e.lg = e.lg ∧ apI ts e e.nx = e.nx ∧ apI ts e e.la = e.la) := fun h => by simp [apL, apI, h]
  have HEd := hd (fun w' h1 h2 => specEdit_any b cb d cd e w' h1 hf h2 hl1 hl2)
  generalize apL ts e = L at *
  generalize apI ts e e.lg = i1 at *
  generalize apI ts e e.nx = i2 at *
  generalize apI ts e e.la = i3 at *
  generalize apOk ts e = ok at *
  obtain ⟨xs, ks, lg, nx, la⟩ := e
  dsimp only at *
  have hA1 : (((w.alloc (.cells #[.slice a ts.length c, .int .i64 lg0, .int .i64 nx0, .int .i64 la0] 40)).alloc (.cells #[.slice b xs.length cb, .slice d ks.length cd, .int .i64 lg, .int .i64 nx, .int .i64 la] 68)).alloc (.cells #[.slice none 0 0, .int .i64 0, .int .i64 0, .int .i64 0] 40)).heap[w.heap.size]? = some (.cells #[.slice a ts.length c, .int .i64 lg0, .int .i64 nx0, .int .i64 la0] 40 (0, 0)) := by rw [Below.heap_alloc _ _ _ (by simp <;> omega), Below.heap_alloc _ _ _ (by simp)]; exact World.heap_alloc_new _ _
  have hA2 : (((w.alloc (.cells #[.slice a ts.length c, .int .i64 lg0, .int .i64 nx0, .int .i64 la0] 40)).alloc (.cells #[.slice b xs.length cb, .slice d ks.length cd, .int .i64 lg, .int .i64 nx, .int .i64 la] 68)).alloc (.cells #[.slice none 0 0, .int .i64 0, .int .i64 0, .int .i64 0] 40)).heap[w.heap.size + 1]? = some (.cells #[.slice b xs.length cb, .slice d ks.length cd, .int .i64 lg, .int .i64 nx, .int .i64 la] 68 (0, 0)) := by
    rw [Below.heap_alloc _ _ _ (by simp)]
    have := World.heap_alloc_new (w.alloc (.cells #[.slice a ts.length c, .int .i64 lg0, .int .i64 nx0, .int .i64 la0] 40)) (.cells #[.slice b xs.length cb, .slice d ks.length cd, .int .i64 lg, .int .i64 nx, .int .i64 la] 68)
    simpa using this
  have hA3 : (((w.alloc (.cells #[.slice a ts.length c, .int .i64 lg0, .int .i64 nx0, .int .i64 la0] 40)).alloc (.cells #[.slice b xs.length cb, .slice d ks.length cd, .int .i64 lg, .int .i64 nx, .int .i64 la] 68)).alloc (.cells #[.slice none 0 0, .int .i64 0, .int .i64 0, .int .i64 0] 40)).heap[w.heap.size + 1 + 1]? = some (.cells #[.slice none 0 0, .int .i64 0, .int .i64 0, .int .i64 0] 40 (0, 0)) := by
    have := World.heap_alloc_new ((w.alloc (.cells #[.slice a ts.length c, .int .i64 lg0, .int .i64 nx0, .int .i64 la0] 40)).alloc (.cells #[.slice b xs.length cb, .slice d ks.length cd, .int .i64 lg, .int .i64 nx, .int .i64 la] 68)) (.cells #[.slice none 0 0, .int .i64 0, .int .i64 0, .int .i64 0] 40)
    simpa using this
  have hAs : (((w.alloc (.cells #[.slice a ts.length c, .int .i64 lg0, .int .i64 nx0, .int .i64 la0] 40)).alloc (.cells #[.slice b xs.length cb, .slice d ks.length cd, .int .i64 lg, .int .i64 nx, .int .i64 la] 68)).alloc (.cells #[.slice none 0 0, .int .i64 0, .int .i64 0, .int .i64 0] 40)).heap.size = w.heap.size + 3 := by simp
  have hbA : Below w.heap.size w (((w.alloc (.cells #[.slice a ts.length c, .int .i64 lg0, .int .i64 nx0, .int .i64 la0] 40)).alloc (.cells #[.slice b xs.length cb, .slice d ks.length cd, .int .i64 lg, .int .i64 nx, .int .i64 la] 68)).alloc (.cells #[.slice none 0 0, .int .i64 0, .int .i64 0, .int .i64 0] 40)) := (((Below.refl _ _).alloc (Nat.le_refl _) _).alloc (by simp) _).alloc (by simp <;> omega) _
  have htA := ht.below hbA
  have hxA := hx.below hbA
  have hyA := hy.below hbA
  have HC := hd (And.intro hA1 (And.intro hA2 hA3))
  obtain ⟨v0, v1, v2, v3⟩ := four_cells hA1
  obtain ⟨e0, e1, e2, e3, e4⟩ := five_cells hA2
  go_enter Tryz.func31, Tryz.ntmps31
  go_wp2_with fail
  generalize (((w.alloc (.cells #[.slice a ts.length c, .int .i64 lg0, .int .i64 nx0, .int .i64 la0] 40)).alloc (.cells #[.slice b xs.length cb, .slice d ks.length cd, .int .i64 lg, .int .i64 nx, .int .i64 la] 68)).alloc (.cells #[.slice none 0 0, .int .i64 0, .int .i64 0, .int .i64 0] 40)) = W0 at *
  refine (HEd.out _ hxA hyA).mono ?_
  rintro r w1 ⟨rfl, hb1⟩
  have hs1 := hb1.size
  obtain ⟨u0, u1, u2, u3⟩ := four_cells ((hb1.block w.heap.size (by omega)).trans HC.out.1)
  clear v0 v1 v2 v3 e0 e1 e2 e3 e4 hA1 hA2 hA3 HEd ht hx hy
  cases hed : edOk ⟨xs, ks, lg, nx, la⟩ with
  | false =>
    have hok := HNo.out (fun h => by rw [hed] at h; exact absurd h.1 (by simp))
    subst hok
    obtain ⟨rfl, rfl, rfl, rfl⟩ := HLn.out rfl
    obtain ⟨⟨r0, r1, r2, r3⟩, z0, z1, z2, z3⟩ := fourS ((hb1.block (w.heap.size + 1 + 1) (by omega)).trans HC.out.2.2)
    go_wp2_with fail
    obtain ⟨⟨k0, k1, k2, k3⟩, -⟩ := fourS (set4 ((hb1.block (w.heap.size + 1 + 1) (by omega)).trans HC.out.2.2) (.slice none 0 0) (.int .i64 0) (.int .i64 0) (.int .i64 0))
    refine bodyPost_ret (v := .tuple #[.agg #[.slice none 0 0, .int .i64 0, .int .i64 0, .int .i64 0], .bool false]) (by simp [results, Tryz.results31, go_sem, k0, k1, k2, k3]) rfl ?_
    first | exact ⟨_, _, rfl, .inl rfl, below4 (hbA.trans (hb1.mono (by omega))) (by omega) _ _ _ _⟩ | exact ⟨_, ⟨_, rfl⟩, .inl rfl, below4 (hbA.trans (hb1.mono (by omega))) (by omega) _ _ _ _⟩
  | true =>
    by_cases hlt : (1000 : Int) < ts.length
    · have hok := HNo.out (fun h => by have := h.2.1; omega)
      subst hok
      obtain ⟨rfl, rfl, rfl, rfl⟩ := HLn.out rfl
      obtain ⟨⟨r0, r1, r2, r3⟩, z0, z1, z2, z3⟩ := fourS ((hb1.block (w.heap.size + 1 + 1) (by omega)).trans HC.out.2.2)
      go_wp2_with fail
      obtain ⟨⟨k0, k1, k2, k3⟩, -⟩ := fourS (set4 ((hb1.block (w.heap.size + 1 + 1) (by omega)).trans HC.out.2.2) (.slice none 0 0) (.int .i64 0) (.int .i64 0) (.int .i64 0))
      refine bodyPost_ret (v := .tuple #[.agg #[.slice none 0 0, .int .i64 0, .int .i64 0, .int .i64 0], .bool false]) (by simp [results, Tryz.results31, go_sem, k0, k1, k2, k3]) rfl ?_
      first | exact ⟨_, _, rfl, .inl rfl, below4 (hbA.trans (hb1.mono (by omega))) (by omega) _ _ _ _⟩ | exact ⟨_, ⟨_, rfl⟩, .inl rfl, below4 (hbA.trans (hb1.mono (by omega))) (by omega) _ _ _ _⟩
    have hts : ts.length ≤ 1000 := by omega
    obtain ⟨hx1, -, hk1, -⟩ := (edOk_iff _).1 hed
    dsimp only at hx1 hk1
    have HO0 := hd (ownsI_lit w1 W0.heap.size hb1.size)
    have HR0 : Hid (ResT ((w1.alloc (.cells #[] 3)).alloc (.cells #[] 45)) W0.heap.size (some ⟨w1.heap.size + 1, 0, none⟩) []) := .inl rfl
    have HBn : Hid (Below W0.heap.size W0 ((w1.alloc (.cells #[] 3)).alloc (.cells #[] 45))) := (hb1.alloc hs1 _).alloc (by simp; omega) _
    have HO1 := hd (HO0.out.alloc (.cells #[] 45))
    go_wp2_with fail
    go_loopw [6, 7, 8] (fun vn vt i wr => ∃ (k : Nat) (ta : Option Addr) (ct : Nat), i = .int .i64 k ∧ k ≤ ts.length ∧ vt = .slice ta (insAll [] (leftT (ts.take k) ks)).length ct ∧ wr.ownsRow W0.heap.size 3 1 vn ((ts.take k).map Tr.nu).length (ic ((ts.take k).map Tr.nu)) ∧ ResT wr W0.heap.size ta (insAll [] (leftT (ts.take k) ks)) ∧ Below W0.heap.size W0 wr) (fun _ _ i _ => ts.length - (intOf i).toNat)
    case atStart => exact ⟨0, _, 0, rfl, Nat.zero_le _, rfl, HO1.out, HR0.out, HBn.out⟩
    case round =>
      clear HO0 HO1 HR0 HBn u0 u1 u2 u3 hb1 hs1
      obtain ⟨k, ta, ct, rfl, hk, rfl, hown, hres, hb⟩ := hrel
      obtain ⟨an, cn, rfl⟩ := owns_sliceT hown
      have hbs := hb.size
      obtain ⟨u0, u1, u2, u3⟩ := four_cells ((hb.block w.heap.size (by omega)).trans HC.out.1)
      obtain ⟨e0, e1, e2, e3, e4⟩ := five_cells ((hb.block (w.heap.size + 1) (by omega)).trans HC.out.2.1)
      by_cases hlk : k < ts.length
      · obtain ⟨tb, off, rfl, hbl, cA0, cA1, cA2, cA3⟩ := htA.at hlk
        have c0 := (hb.cell (p := ⟨tb, _, none⟩) hbl).trans cA0
        have hik : (k : Int) < (ts.length : Int) := by omega
        have HN : Hid ((ts.take (k + 1)).map Tr.nu = (ts.take k).map Tr.nu ++ [(ts.getD k tr0).nu]) := by show _ = _; rw [takeT_snoc ts k hlk]; simp
        have HLf : Hid (leftT (ts.take (k + 1)) ks = leftT (ts.take k) ks ++ (if ks.contains (ts.getD k tr0).nu = true then [] else [ts.getD k tr0])) := by show _ = _; rw [takeT_snoc ts k hlk, leftT_snoc]
        have HPn : Hid (insAll [] (leftT (ts.take (k + 1)) ks) = if ks.contains (ts.getD k tr0).nu = true then insAll [] (leftT (ts.take k) ks) else insT (ts.getD k tr0) (insAll [] (leftT (ts.take k) ks))) := by
          show _ = _
          rw [HLf.out]
          by_cases hm : ks.contains (ts.getD k tr0).nu = true
          · rw [if_pos hm, if_pos hm, List.append_nil]
          · rw [if_neg hm, if_neg hm, insAll_snoc]
        clear HLf
        have hnl : ((ts.take k).map Tr.nu).length ≤ 1000 := by rw [List.length_map, List.length_take]; omega
        have hll : (insAll [] (leftT (ts.take k) ks)).length ≤ 1000 := by
          rw [insAll_len]
          have := leftT_len (ts.take k) ks
          rw [List.length_take] at this
          simp
          omega
        have HO := hd hown
        have HR := hd hres
        have HB := hd hb
        clear hown hres hb
        generalize (ts.take k).map Tr.nu = ns at *
        generalize insAll [] (leftT (ts.take k) ks) = P at *
        generalize ts.getD k tr0 = f at *
        obtain ⟨fn, fl, flo, fhi⟩ := f
        dsimp only at *
        go_wp2_with (at_builtin; refine wpList_append_own _ rfl _ _ 66 rfl W0.heap.size 3 j0 _ 1 8 Tryz.underlying66 hj hj0 hj1 hj2 rfl (by decide) _ _ _ rfl (HO.out.alloc _) ⟨wr.heap.size, 0, none⟩ 1 1 [.int .i64 fn] rfl rfl (cell_one_newI _ _ _) (fun x hx => by simp at hx; subst hx; rfl) (by unfold maxLen; omega) (by omega) (by simp; omega) ?_; intro v8 w8 hown8 hgrow hnil)
        have hal : Below wr.heap.size wr (wr.alloc (.cells #[.int .i64 fn] 3)) := (Below.refl _ _).alloc (Nat.le_refl _) _
        have HB8 := hd ((HB.out.alloc (by omega) (.cells #[.int .i64 fn] 3)).grown hgrow (by simp; omega) (owns_base HO.out))
        have HR8 := hd ((HR.out.below hal).keepI (HO.out.alloc _) hgrow)
        have HO8 : Hid (w8.ownsRow W0.heap.size 3 1 v8 (ns.length + 1) (ic (ns ++ [fn]))) := by
          show w8.ownsRow _ _ _ _ _ _
          rw [ic_snoc]
          exact hown8
        have hs8 := HB8.out.size
        obtain ⟨y0, -, -, -⟩ := four_cells ((HB8.out.block w.heap.size (by omega)).trans HC.out.1)
        obtain ⟨-, y1, -, -, -⟩ := five_cells ((HB8.out.block (w.heap.size + 1) (by omega)).trans HC.out.2.1)
        have q0 := (HB8.out.cell (p := ⟨tb, _, none⟩) hbl).trans cA0
        have q1 := (HB8.out.cell (p := ⟨tb, _, none⟩) hbl).trans cA1
        have q2 := (HB8.out.cell (p := ⟨tb, _, none⟩) hbl).trans cA2
        have q3 := (HB8.out.cell (p := ⟨tb, _, none⟩) hbl).trans cA3
        have HH := hd (fun w' h => hasNum_any d cd ks fn w' h hl2)
        have HY8 : Hid (LieI w8.drew d ks) := hyA.below HB8.out.drew
        obtain ⟨an8, cn8, rfl⟩ := owns_sliceT HO8.out
        clear hown8 hgrow hnil u0 u1 u2 u3 e0 e1 e2 e3 e4 c0 hal HO HR HB
        go_wp2_with fail
        cases hcn : ks.contains fn with
        | true =>
          rw [hcn] at HH
          have HPk : Hid (insAll [] (leftT (ts.take (k + 1)) ks) = P) := by show _ = _; rw [HPn.out, if_pos hcn]
          go_region_held3 (fun w' => w'.cell? ⟨w.heap.size + 1, 1, none⟩ = some (.slice d ks.length cd) ∧ w'.cell? ⟨w.heap.size, 0, none⟩ = some (.slice (some ⟨tb, off, none⟩) ts.length c) ∧ w'.cell? ⟨tb, off + k * 4, none⟩ = some (.int .i64 fn)) (simp [go_sem, *])
            (first | (go_at_call 49; refine (HH.out _ HY8.out).mono ?_; rintro e w9 ⟨rfl, hw9⟩; have hw9' := hw9.symm; subst hw9'; clear hw9))
          go_wp2_with fail
          refine ⟨⟨k + 1, ta, ct, by simp, by omega, ?_, ?_, ?_, HB8.out.drew⟩, by simp only [intOf]; omega⟩
          · rw [HPk.out]
          · rw [HN.out, List.length_append]; exact HO8.out
          · rw [HPk.out]; exact HR8.out
        | false =>
          rw [hcn] at HH
          have HPk : Hid (insAll [] (leftT (ts.take (k + 1)) ks) = insT ⟨fn, fl, flo, fhi⟩ P) := by show _ = _; rw [HPn.out, if_neg (by rw [hcn]; simp)]
          go_region_held3 (fun w' => w'.cell? ⟨w.heap.size + 1, 1, none⟩ = some (.slice d ks.length cd) ∧ w'.cell? ⟨w.heap.size, 0, none⟩ = some (.slice (some ⟨tb, off, none⟩) ts.length c) ∧ w'.cell? ⟨tb, off + k * 4, none⟩ = some (.int .i64 fn)) (simp [go_sem, *])
            (first | (go_at_call 49; refine (HH.out _ HY8.out).mono ?_; rintro e w9 ⟨rfl, hw9⟩; have hw9' := hw9.symm; subst hw9'; clear hw9))
          go_wp2_with fail
          refine (l4Put_any ta ct P ⟨fn, fl, flo, fhi⟩ _ (LieT.drewS HR8.out.lie) (by omega)).mono ?_
          rintro e w9 ⟨a9, c9, rfl, hr9, hb9⟩
          have HB9 := hd (HB8.out.drew.trans (hb9.mono hs8))
          have HO9 := hd (owns_below (w := w8.drew) HO8.out hb9)
          go_wp2_with fail
          refine ⟨⟨k + 1, a9, c9, by simp, by omega, ?_, ?_, ?_, HB9.out⟩, by simp only [intOf]; omega⟩
          · rw [HPk.out]
          · rw [HN.out, List.length_append]; exact HO9.out
          · rw [HPk.out]; exact hr9.mono hs8
      · obtain rfl : k = ts.length := by omega
        have hik : ¬ (ts.length : Int) < (ts.length : Int) := by omega
        rw [List.take_length] at hown hres ⊢
        have HDel : Hid (∀ j, j < ks.length → (ts.map Tr.nu).contains (ks.getD j 0) = false → delsOk ts ks = false) := fun j hj h => by
          cases h' : delsOk ts ks with
          | false => rfl
          | true =>
            have hm := List.all_eq_true.1 h' (ks.getD j 0) (by rw [show ks.getD j 0 = ks[j] by simp [List.getD, hj]]; exact List.getElem_mem hj)
            rw [h] at hm
            cases hm
        have HDelY : Hid ((∀ j, j < ks.length → (ts.map Tr.nu).contains (ks.getD j 0) = true) → delsOk ts ks = true) := fun h => by
          refine List.all_eq_true.2 fun x hx => ?_
          obtain ⟨j, hj, rfl⟩ := List.mem_iff_getElem.1 hx
          have := h j hj
          rwa [show ks.getD j 0 = ks[j] by simp [List.getD, hj]] at this
        obtain ⟨-, an9, cn9, en9, hrI⟩ := resI_of_owns hown
        injection en9 with f1 f2 f3
        subst f1
        subst f3
        clear f2
        have hLI := hrI.lie
        have hnl : (ts.map Tr.nu).length ≤ 1000 := by rw [List.length_map]; omega
        have hll : (insAll [] (leftT ts ks)).length ≤ 1000 := by
          rw [insAll_len]
          have := leftT_len ts ks
          simp
          omega
        have HR := hd hres
        have HB := hd hb
        have HFS : Hid (FitsT (insAll (insAll [] (leftT ts ks)) xs)) := fun t ht => by
          rcases List.mem_append.1 ((insAll_perm xs (insAll [] (leftT ts ks))).mem_iff.1 ht) with h | h
          · have h2 := (insAll_perm (leftT ts ks) []).mem_iff.1 h
            have h3 : t ∈ leftT ts ks := by simpa using h2
            exact hft t (List.mem_filter.1 h3).1
          · exact hf t h
        have HPS : Hid (apS ts ⟨xs, ks, lg, nx, la⟩ = insAll (insAll [] (leftT ts ks)) xs) := rfl
        have HH := hd (fun x => hasNum_any an cn (ts.map Tr.nu) x wr hLI (by omega))
        clear hown hres hrI hLI
        generalize ts.map Tr.nu = ns at *
        generalize insAll [] (leftT ts ks) = P at *
        go_wp2_with fail
        go_loop [9] (fun i => ∃ k : Nat, i = .int .i64 k ∧ k ≤ ks.length ∧ Hid (∀ j, j < k → ns.contains (ks.getD j 0) = true)) (fun i => ks.length - (intOf i).toNat)
        case atStart => exact ⟨0, rfl, Nat.zero_le _, fun j hj => absurd hj (Nat.not_lt_zero _)⟩
        case round =>
          obtain ⟨k, rfl, hk, HC2⟩ := hrel
          by_cases hlk : k < ks.length
          · obtain ⟨db, off, rfl, hbl, cA0⟩ := hyA.at hlk
            have c0 := (HB.out.cell (p := ⟨db, _, none⟩) hbl).trans cA0
            have hikk : (k : Int) < (ks.length : Int) := by omega
            have HDk := hd (HDel.out k hlk)
            have HHk := hd (HH.out (ks.getD k 0))
            have HC3 : Hid (ns.contains (ks.getD k 0) = true → ∀ j, j < k + 1 → ns.contains (ks.getD j 0) = true) := fun h j hj => by
              by_cases e : j = k
              · subst e; exact h
              · exact HC2.out j (by omega)
            clear HC2
            cases hcn : ns.contains (ks.getD k 0) with
            | true =>
              have HC4 := hd (HC3.out hcn)
              rw [hcn] at HHk
              clear HC3
              generalize ks.getD k 0 = x at *
              go_wp2_with (go_at_call 49; refine HHk.out.mono ?_; rintro e w9 ⟨rfl, hw9⟩; have hw9' := hw9.symm; subst hw9'; clear hw9)
              go_round
              case rel => exact ⟨k + 1, by simp, by omega, HC4⟩
              case measure => simp [intOf]; omega
            | false =>
              have hok := HNo.out (fun h => by have h1 := h.2.2.1; rw [HDk.out hcn] at h1; cases h1)
              rw [hcn] at HHk
              clear HC3
              generalize ks.getD k 0 = x at *
              subst hok
              obtain ⟨rfl, rfl, rfl, rfl⟩ := HLn.out rfl
              obtain ⟨⟨r0, r1, r2, r3⟩, z0, z1, z2, z3⟩ := fourS ((HB.out.block (w.heap.size + 1 + 1) (by omega)).trans HC.out.2.2)
              go_wp2_with (go_at_call 49; refine HHk.out.mono ?_; rintro e w9 ⟨rfl, hw9⟩; have hw9' := hw9.symm; subst hw9'; clear hw9)
              obtain ⟨⟨k0, k1, k2, k3⟩, -⟩ := fourS (set4 ((HB.out.block (w.heap.size + 1 + 1) (by omega)).trans HC.out.2.2) (.slice none 0 0) (.int .i64 0) (.int .i64 0) (.int .i64 0))
              refine bodyPost_ret (v := .tuple #[.agg #[.slice none 0 0, .int .i64 0, .int .i64 0, .int .i64 0], .bool false]) (by simp [results, Tryz.results31, go_sem, k0, k1, k2, k3]) rfl ?_
              exact ⟨_, _, rfl, .inl rfl, below4 (hbA.trans (HB.out.mono (by omega))) (by omega) _ _ _ _⟩
          · obtain rfl : k = ks.length := by omega
            have hikk : ¬ (ks.length : Int) < (ks.length : Int) := by omega
            have HDY := hd (HDelY.out HC2.out)
            clear HC2 HDel HDelY HH
            go_wp2_with fail
            have HS0 : Hid (insAll P (xs.take 0) = P) := rfl
            go_loopw [7, 10] (fun vt i w2 => ∃ (k : Nat) (ta : Option Addr) (ct : Nat), i = .int .i64 k ∧ k ≤ xs.length ∧ vt = .slice ta (insAll P (xs.take k)).length ct ∧ ResT w2 W0.heap.size ta (insAll P (xs.take k)) ∧ Below W0.heap.size W0 w2) (fun _ i _ => xs.length - (intOf i).toNat)
            case atStart => exact ⟨0, ta, ct, rfl, Nat.zero_le _, rfl, HR.out, HB.out⟩
            case round =>
              clear HR HB HS0 u0 u1 u2 u3 e0 e1 e2 e3 e4 hb hbs
              obtain ⟨k, ta, ct, rfl, hk, rfl, hres, hb⟩ := hrel
              have hbs := hb.size
              have hil : (insAll P (xs.take k)).length ≤ 2000 := by rw [insAll_len, List.length_take]; omega
              obtain ⟨e0, e1, e2, e3, e4⟩ := five_cells ((hb.block (w.heap.size + 1) (by omega)).trans HC.out.2.1)
              by_cases hlk : k < xs.length
              · obtain ⟨xb, off, rfl, hbl, cA0, cA1, cA2, cA3⟩ := hxA.at hlk
                have c0 := (hb.cell (p := ⟨xb, _, none⟩) hbl).trans cA0
                have c1 := (hb.cell (p := ⟨xb, _, none⟩) hbl).trans cA1
                have c2 := (hb.cell (p := ⟨xb, _, none⟩) hbl).trans cA2
                have c3 := (hb.cell (p := ⟨xb, _, none⟩) hbl).trans cA3
                have hikx : (k : Int) < (xs.length : Int) := by omega
                have HSn : Hid (insAll P (xs.take (k + 1)) = insT (xs.getD k tr0) (insAll P (xs.take k))) := by show _ = _; rw [takeT_snoc xs k hlk, insAll_snoc]
                have HR := hd hres
                have HB := hd hb
                clear hres hb cA0 cA1 cA2 cA3
                generalize insAll P (xs.take k) = Q at *
                generalize xs.getD k tr0 = f at *
                obtain ⟨fn, fl, flo, fhi⟩ := f
                dsimp only at *
                go_wp2_with fail
                refine (l4Put_any ta ct Q ⟨fn, fl, flo, fhi⟩ _ HR.out.lie (by omega)).mono ?_
                rintro e w9 ⟨a9, c9, rfl, hr9, hb9⟩
                have HB9 := hd (HB.out.trans (hb9.mono hbs))
                go_wp2_with fail
                refine ⟨⟨k + 1, a9, c9, by simp, by omega, ?_, ?_, HB9.out⟩, by simp only [intOf]; omega⟩
                · rw [HSn.out]
                · rw [HSn.out]; exact hr9.mono hbs
              · obtain rfl : k = xs.length := by omega
                have hikx : ¬ (xs.length : Int) < (xs.length : Int) := by omega
                rw [List.take_length] at hres hil ⊢
                rw [HPS.out] at HNo HYes HLy
                have HR := hd hres
                have HB := hd hb
                clear hres hb HPS
                generalize insAll P xs = S at *
                by_cases hln : lg < nx
                · have hln' : ¬ nx ≤ lg := by omega
                  by_cases hS : (1000 : Int) < S.length
                  · have hok := HNo.out (fun h => by have := h.2.2.2.2.1; omega)
                    subst hok
                    obtain ⟨rfl, rfl, rfl, rfl⟩ := HLn.out rfl
                    obtain ⟨⟨r0, r1, r2, r3⟩, z0, z1, z2, z3⟩ := fourS ((HB.out.block (w.heap.size + 1 + 1) (by omega)).trans HC.out.2.2)
                    go_wp2_with fail
                    obtain ⟨⟨k0, k1, k2, k3⟩, -⟩ := fourS (set4 ((HB.out.block (w.heap.size + 1 + 1) (by omega)).trans HC.out.2.2) (.slice none 0 0) (.int .i64 0) (.int .i64 0) (.int .i64 0))
                    refine bodyPost_ret (v := .tuple #[.agg #[.slice none 0 0, .int .i64 0, .int .i64 0, .int .i64 0], .bool false]) (by simp [results, Tryz.results31, go_sem, k0, k1, k2, k3]) rfl ?_
                    first | exact ⟨_, _, rfl, .inl rfl, below4 (hbA.trans (HB.out.mono (by omega))) (by omega) _ _ _ _⟩ | exact ⟨_, ⟨_, rfl⟩, .inl rfl, below4 (hbA.trans (HB.out.mono (by omega))) (by omega) _ _ _ _⟩
                  have hS' : S.length ≤ 1000 := by omega
                  go_wp2_with fail
                  go_loopw [11] (fun i wr => ∃ k : Nat, i = .int .i64 k ∧ k ≤ S.length ∧ Hid (pairTo S nx k = true) ∧ ResT wr W0.heap.size ta S ∧ Below W0.heap.size W0 wr) (fun i _ => S.length - (intOf i).toNat)
                  case atStart => exact ⟨0, rfl, Nat.zero_le _, rfl, HR.out, HB.out⟩
                  case round =>
                    clear HR HB e0 e1 e2 e3 e4
                    obtain ⟨k, rfl, hk, HPk, hres, hb⟩ := hrel
                    have hbs := hb.size
                    obtain ⟨e0, e1, e2, e3, e4⟩ := five_cells ((hb.block (w.heap.size + 1) (by omega)).trans HC.out.2.1)
                    have HR := hd hres
                    have HB := hd hb
                    by_cases hlk : k < S.length
                    · obtain ⟨sb, off, rfl, hbl, c0, c1, c2, c3⟩ := hres.lie.at hlk
                      have hks : (k : Int) < (S.length : Int) := by omega
                      have hfx := HFS.out.at hlk
                      have HPn : Hid (pairTo S nx (k + 1) = (decide ((S.getD k tr0).nu < nx) && inTo S (S.getD k tr0) k)) := by show _ = _; simp only [pairTo, HPk.out, Bool.true_and]
                      have HPb : Hid (pairTo S nx (k + 1) = false → pairTo S nx S.length = false) := fun h => pairTo_bad hlk h
                      have HIb : Hid (∀ m, m < k → inTo S (S.getD k tr0) (m + 1) = false → inTo S (S.getD k tr0) k = false) := fun m hm h => inTo_bad hm h
                      have HI0 : Hid (inTo S (S.getD k tr0) 0 = true) := rfl
                      have HIs : Hid (∀ m, inTo S (S.getD k tr0) (m + 1) = (inTo S (S.getD k tr0) m && good2 (S.getD k tr0) (S.getD m tr0))) := fun m => rfl
                      clear HPk hres hb
                      have HXk : Hid (S.getD k tr0 = S.getD k tr0) := rfl
                      generalize hxk : S.getD k tr0 = x at *
                      obtain ⟨xn, xl, xlo, xhi⟩ := x
                      replace HXk := hd hxk
                      clear hxk
                      dsimp only at *
                      by_cases hxn : xn < nx
                      · have hxn' : ¬ nx ≤ xn := by omega
                        go_wp2_with fail
                        go_quiet (fail)
                        go_wp2_with fail
                        go_loopw [12] (fun j wr => ∃ m : Nat, j = .int .i64 m ∧ m ≤ k ∧ Hid (inTo S ⟨xn, xl, xlo, xhi⟩ m = true) ∧ ResT wr W0.heap.size (some ⟨sb, off, none⟩) S ∧ Below W0.heap.size W0 wr) (fun j _ => k - (intOf j).toNat)
                        case atStart => exact ⟨0, rfl, Nat.zero_le _, HI0, HR.out.quiet, below_quiet HB.out⟩
                        case round =>
                          clear HR HB e0 e1 e2 e3 e4 c0 c1 c2 c3
                          obtain ⟨m, rfl, hm, HIm, hres, hb⟩ := hrel
                          have hbs := hb.size
                          have HR := hd hres
                          have HB := hd hb
                          obtain ⟨sb', off', ee, hbl', c0, c1, c2, c3⟩ := hres.lie.at hlk
                          cases ee
                          rw [HXk.out] at c0 c1 c2 c3
                          by_cases hlm : m < k
                          · obtain ⟨sb', off', ee, -, d0, d1, d2, d3⟩ := hres.lie.at (i := m) (by omega)
                            cases ee
                            have hmi : (m : Int) < (k : Int) := by omega
                            have hms : (m : Int) < (S.length : Int) := by omega
                            have hfy := HFS.out.at (i := m) (by omega)
                            have HIn := hd (HIs.out m)
                            have HIbm := hd (HIb.out m hlm)
                            clear hres hb
                            generalize S.getD m tr0 = y at *
                            obtain ⟨yn, yl, ylo, yhi⟩ := y
                            dsimp only at *
                            by_cases hnu : xn = yn
                            · have hok := HNo.out (fun h => by have h1 := h.2.2.2.2.2; rw [HPb.out (by rw [HPn.out, HIbm.out (by rw [HIn.out]; simp [good2, hnu])]; simp)] at h1; cases h1)
                              have hq : (xn == yn) = true := by rw [hnu]; simp
                              replace hnu := hd hnu
                              subst hok
                              obtain ⟨rfl, rfl, rfl, rfl⟩ := HLn.out rfl
                              obtain ⟨⟨r0, r1, r2, r3⟩, z0, z1, z2, z3⟩ := fourS ((HB.out.block (w.heap.size + 1 + 1) (by omega)).trans HC.out.2.2)
                              go_wp2_with fail
                              go_quiet (fail)
                              rename_i nq
                              go_wp2_with fail      
                              obtain ⟨⟨k0, k1, k2, k3⟩, -⟩ := fourS (set4 (w := wr.drewN nq) ((HB.out.block (w.heap.size + 1 + 1) (by omega)).trans HC.out.2.2) (.slice none 0 0) (.int .i64 0) (.int .i64 0) (.int .i64 0))
                              refine bodyPost_ret (v := .tuple #[.agg #[.slice none 0 0, .int .i64 0, .int .i64 0, .int .i64 0], .bool false]) (by simp [results, Tryz.results31, go_sem, k0, k1, k2, k3]) rfl ?_
                              first | exact ⟨_, _, rfl, .inl rfl, below4 (hbA.trans ((below_quiet (n := nq) HB.out).mono (by omega))) (by omega) _ _ _ _⟩ | exact ⟨_, ⟨_, rfl⟩, .inl rfl, below4 (hbA.trans ((below_quiet (n := nq) HB.out).mono (by omega))) (by omega) _ _ _ _⟩
                            · have hq : (xn == yn) = false := by simpa using hnu
                              have HL1 := hd (fun w => l1Less_any xhi ylo w hfx.2 hfy.1)
                              have HL2 := hd (fun w => l1Less_any yhi xlo w hfy.2 hfx.1)
                              have HG : Hid (good2 ⟨xn, xl, xlo, xhi⟩ ⟨yn, yl, ylo, yhi⟩ = !(decide (xl = yl) && (decide (0 < xl) && !(lessB xhi ylo || lessB yhi xlo)))) := by show _ = _; simp [good2, apart2, hnu]
                              replace hnu := hd hnu
                              generalize lessB xhi ylo = b1 at *
                              generalize lessB yhi xlo = b2 at *
                              go_wp2_with fail
                              go_quiet (fail)
                              rename_i nq
                              go_wp2_with fail
                              have HRq := hd (HR.out.quiet (n := nq))
                              have HBq := hd (below_quiet (n := nq) HB.out)
                              replace c0 := cell_quiet (n := nq) c0
                              replace c1 := cell_quiet (n := nq) c1
                              replace c2 := cell_quiet (n := nq) c2
                              replace c3 := cell_quiet (n := nq) c3
                              replace d0 := cell_quiet (n := nq) d0
                              replace d1 := cell_quiet (n := nq) d1
                              replace d2 := cell_quiet (n := nq) d2
                              replace d3 := cell_quiet (n := nq) d3
                              clear HR HB
                              have hbs := HBq.out.size
                              generalize wr.drewN nq = wq at *
                              cases b1 with
                              | true =>
                                go_quiet (first | (go_at_call 24; with_reducible exact Calls.quiet_of (HL1.out _)) | (go_at_call 24; with_reducible exact Calls.quiet_of (HL2.out _)))
                                rename_i nq2
                                by_cases hle : xl = yl
                                · have hql : (xl == yl) = true := by rw [hle]; simp
                                  have hll := hd hle
                                  clear hle
                                  by_cases hz : 0 < xl
                                  · skip
                                    go_wp2_with fail
                                    go_quiet (fail)
                                    go_wp2_with fail
                                    refine ⟨⟨m + 1, by simp, by omega, ?_, HRq.out.kept (fun _ _ _ => rfl), ⟨HBq.out.os, HBq.out.tape, HBq.out.output, HBq.out.size, HBq.out.block⟩⟩, by simp only [intOf]; omega⟩
                                    show _ = _
                                    rw [HIn.out, HIm.out, HG.out]
                                    simp [hll.out]
                                  · have hzd : decide (0 < xl) = false := by simp [hz]
                                    have hzl : xl ≤ 0 := by omega
                                    go_wp2_with fail
                                    go_quiet (fail)
                                    go_wp2_with fail
                                    refine ⟨⟨m + 1, by simp, by omega, ?_, HRq.out.kept (fun _ _ _ => rfl), ⟨HBq.out.os, HBq.out.tape, HBq.out.output, HBq.out.size, HBq.out.block⟩⟩, by simp only [intOf]; omega⟩
                                    show _ = _
                                    rw [HIn.out, HIm.out, HG.out]
                                    simp [hz]
                                · have hql : (xl == yl) = false := by simpa using hle
                                  have hll := hd hle
                                  clear hle
                                  go_wp2_with fail
                                  go_quiet (fail)
                                  go_wp2_with fail
                                  refine ⟨⟨m + 1, by simp, by omega, ?_, HRq.out.kept (fun _ _ _ => rfl), ⟨HBq.out.os, HBq.out.tape, HBq.out.output, HBq.out.size, HBq.out.block⟩⟩, by simp only [intOf]; omega⟩
                                  show _ = _
                                  rw [HIn.out, HIm.out, HG.out]
                                  simp [hll.out]
                              | false =>
                                cases b2 with
                                | true =>
                                  go_quiet (first | (go_at_call 24; with_reducible exact Calls.quiet_of (HL1.out _)) | (go_at_call 24; with_reducible exact Calls.quiet_of (HL2.out _)))
                                  rename_i nq2
                                  by_cases hle : xl = yl
                                  · have hql : (xl == yl) = true := by rw [hle]; simp
                                    have hll := hd hle
                                    clear hle
                                    by_cases hz : 0 < xl
                                    · skip
                                      go_wp2_with fail
                                      go_quiet (fail)
                                      go_wp2_with fail
                                      refine ⟨⟨m + 1, by simp, by omega, ?_, HRq.out.kept (fun _ _ _ => rfl), ⟨HBq.out.os, HBq.out.tape, HBq.out.output, HBq.out.size, HBq.out.block⟩⟩, by simp only [intOf]; omega⟩
                                      show _ = _
                                      rw [HIn.out, HIm.out, HG.out]
                                      simp [hll.out]
                                    · have hzd : decide (0 < xl) = false := by simp [hz]
                                      have hzl : xl ≤ 0 := by omega
                                      go_wp2_with fail
                                      go_quiet (fail)
                                      go_wp2_with fail
                                      refine ⟨⟨m + 1, by simp, by omega, ?_, HRq.out.kept (fun _ _ _ => rfl), ⟨HBq.out.os, HBq.out.tape, HBq.out.output, HBq.out.size, HBq.out.block⟩⟩, by simp only [intOf]; omega⟩
                                      show _ = _
                                      rw [HIn.out, HIm.out, HG.out]
                                      simp [hz]
                                  · have hql : (xl == yl) = false := by simpa using hle
                                    have hll := hd hle
                                    clear hle
                                    go_wp2_with fail
                                    go_quiet (fail)
                                    go_wp2_with fail
                                    refine ⟨⟨m + 1, by simp, by omega, ?_, HRq.out.kept (fun _ _ _ => rfl), ⟨HBq.out.os, HBq.out.tape, HBq.out.output, HBq.out.size, HBq.out.block⟩⟩, by simp only [intOf]; omega⟩
                                    show _ = _
                                    rw [HIn.out, HIm.out, HG.out]
                                    simp [hll.out]
                                | false =>
                                  go_quiet (first | (go_at_call 24; with_reducible exact Calls.quiet_of (HL1.out _)) | (go_at_call 24; with_reducible exact Calls.quiet_of (HL2.out _)))
                                  rename_i nq2
                                  by_cases hle : xl = yl
                                  · have hql : (xl == yl) = true := by rw [hle]; simp
                                    have hll := hd hle
                                    clear hle
                                    by_cases hz : 0 < xl
                                    · skip
                                      have hzy : 0 < yl := by have := hll.out; omega
                                      have hok := HNo.out (fun h => by have h1 := h.2.2.2.2.2; rw [HPb.out (by rw [HPn.out, HIbm.out (by rw [HIn.out, HG.out]; simp [hll.out, hzy])]; simp)] at h1; cases h1)
                                      subst hok
                                      obtain ⟨rfl, rfl, rfl, rfl⟩ := HLn.out rfl
                                      obtain ⟨⟨r0, r1, r2, r3⟩, z0, z1, z2, z3⟩ := fourS ((HBq.out.block (w.heap.size + 1 + 1) (by omega)).trans HC.out.2.2)
                                      go_wp2_with fail
                                      go_quiet (fail)
                                      go_wp2_with fail
                                      have k0 := fun n => (fourS (set4 (w := wq.drewN n) ((HBq.out.block (w.heap.size + 1 + 1) (by omega)).trans HC.out.2.2) (.slice none 0 0) (.int .i64 0) (.int .i64 0) (.int .i64 0))).1.1
                                      have k1 := fun n => (fourS (set4 (w := wq.drewN n) ((HBq.out.block (w.heap.size + 1 + 1) (by omega)).trans HC.out.2.2) (.slice none 0 0) (.int .i64 0) (.int .i64 0) (.int .i64 0))).1.2.1
                                      have k2 := fun n => (fourS (set4 (w := wq.drewN n) ((HBq.out.block (w.heap.size + 1 + 1) (by omega)).trans HC.out.2.2) (.slice none 0 0) (.int .i64 0) (.int .i64 0) (.int .i64 0))).1.2.2.1
                                      have k3 := fun n => (fourS (set4 (w := wq.drewN n) ((HBq.out.block (w.heap.size + 1 + 1) (by omega)).trans HC.out.2.2) (.slice none 0 0) (.int .i64 0) (.int .i64 0) (.int .i64 0))).1.2.2.2
                                      refine bodyPost_ret (v := .tuple #[.agg #[.slice none 0 0, .int .i64 0, .int .i64 0, .int .i64 0], .bool false]) (by simp [results, Tryz.results31, go_sem, k0, k1, k2, k3]) rfl ?_
                                      first | exact ⟨_, _, rfl, .inl rfl, below4 (hbA.trans ((below_quiet (w' := wq) HBq.out).mono (by omega))) (by omega) _ _ _ _⟩ | exact ⟨_, ⟨_, rfl⟩, .inl rfl, below4 (hbA.trans ((below_quiet (w' := wq) HBq.out).mono (by omega))) (by omega) _ _ _ _⟩
                                    · have hzd : decide (0 < xl) = false := by simp [hz]
                                      have hzl : xl ≤ 0 := by omega
                                      go_wp2_with fail
                                      go_quiet (fail)
                                      go_wp2_with fail
                                      refine ⟨⟨m + 1, by simp, by omega, ?_, HRq.out.kept (fun _ _ _ => rfl), ⟨HBq.out.os, HBq.out.tape, HBq.out.output, HBq.out.size, HBq.out.block⟩⟩, by simp only [intOf]; omega⟩
                                      show _ = _
                                      rw [HIn.out, HIm.out, HG.out]
                                      simp [hz]
                                  · have hql : (xl == yl) = false := by simpa using hle
                                    have hll := hd hle
                                    clear hle
                                    go_wp2_with fail
                                    go_quiet (fail)
                                    go_wp2_with fail
                                    refine ⟨⟨m + 1, by simp, by omega, ?_, HRq.out.kept (fun _ _ _ => rfl), ⟨HBq.out.os, HBq.out.tape, HBq.out.output, HBq.out.size, HBq.out.block⟩⟩, by simp only [intOf]; omega⟩
                                    show _ = _
                                    rw [HIn.out, HIm.out, HG.out]
                                    simp [hll.out]
                          · obtain rfl : m = k := by omega
                            have hmi : ¬ (m : Int) < (m : Int) := by omega
                            have HPy : Hid (pairTo S nx (m + 1) = true) := by show _ = _; rw [HPn.out, HIm.out]; simp [hxn]
                            go_wp2_with fail
                            exact ⟨⟨m + 1, by simp, by omega, HPy, HR.out, HB.out⟩, by simp only [intOf]; omega⟩
                      · have hxn' : nx ≤ xn := by omega
                        have hok := HNo.out (fun h => by have h1 := h.2.2.2.2.2; rw [HPb.out (by rw [HPn.out]; simp [hxn])] at h1; cases h1)
                        subst hok
                        obtain ⟨rfl, rfl, rfl, rfl⟩ := HLn.out rfl
                        obtain ⟨⟨r0, r1, r2, r3⟩, z0, z1, z2, z3⟩ := fourS ((HB.out.block (w.heap.size + 1 + 1) (by omega)).trans HC.out.2.2)
                        go_wp2_with fail
                        go_quiet (fail)
                        rename_i nq
                        go_wp2_with fail
                        
                        obtain ⟨⟨k0, k1, k2, k3⟩, -⟩ := fourS (set4 (w := wr.drewN nq) ((HB.out.block (w.heap.size + 1 + 1) (by omega)).trans HC.out.2.2) (.slice none 0 0) (.int .i64 0) (.int .i64 0) (.int .i64 0))
                        refine bodyPost_ret (v := .tuple #[.agg #[.slice none 0 0, .int .i64 0, .int .i64 0, .int .i64 0], .bool false]) (by simp [results, Tryz.results31, go_sem, k0, k1, k2, k3]) rfl ?_
                        first | exact ⟨_, _, rfl, .inl rfl, below4 (hbA.trans ((below_quiet (n := nq) HB.out).mono (by omega))) (by omega) _ _ _ _⟩ | exact ⟨_, ⟨_, rfl⟩, .inl rfl, below4 (hbA.trans ((below_quiet (n := nq) HB.out).mono (by omega))) (by omega) _ _ _ _⟩
                    · obtain rfl : k = S.length := by omega
                      have hks : ¬ (S.length : Int) < (S.length : Int) := by omega
                      have hok := HYes.out ⟨hed, hts, HDY.out, hln, hS', HPk.out⟩
                      subst hok
                      obtain ⟨rfl, rfl, rfl, rfl⟩ := HLy.out rfl
                      obtain ⟨⟨r0, r1, r2, r3⟩, z0, z1, z2, z3⟩ := fourS ((HB.out.block (w.heap.size + 1 + 1) (by omega)).trans HC.out.2.2)
                      go_wp2_with fail
                      obtain ⟨⟨k0, k1, k2, k3⟩, -⟩ := fourS (set4 ((HB.out.block (w.heap.size + 1 + 1) (by omega)).trans HC.out.2.2) (.slice ta L.length ct) (.int .i64 i1) (.int .i64 i2) (.int .i64 i3))
                      refine bodyPost_ret (v := .tuple #[.agg #[.slice ta L.length ct, .int .i64 i1, .int .i64 i2, .int .i64 i3], .bool true]) (by simp [results, Tryz.results31, go_sem, k0, k1, k2, k3]) rfl ?_
                      exact ⟨_, ⟨_, rfl⟩, (((((HR.out.setLow (by omega)).setLow (by omega)).setLow (by omega)).setLow (by omega)).mono (by omega)), below4 (hbA.trans (HB.out.mono (by omega))) (by omega) _ _ _ _⟩
                · have hln' : nx ≤ lg := by omega
                  have hok := HNo.out (fun h => by have := h.2.2.2.1; omega)
                  subst hok
                  obtain ⟨rfl, rfl, rfl, rfl⟩ := HLn.out rfl
                  obtain ⟨⟨r0, r1, r2, r3⟩, z0, z1, z2, z3⟩ := fourS ((HB.out.block (w.heap.size + 1 + 1) (by omega)).trans HC.out.2.2)
                  go_wp2_with fail
                  obtain ⟨⟨k0, k1, k2, k3⟩, -⟩ := fourS (set4 ((HB.out.block (w.heap.size + 1 + 1) (by omega)).trans HC.out.2.2) (.slice none 0 0) (.int .i64 0) (.int .i64 0) (.int .i64 0))
                  refine bodyPost_ret (v := .tuple #[.agg #[.slice none 0 0, .int .i64 0, .int .i64 0, .int .i64 0], .bool false]) (by simp [results, Tryz.results31, go_sem, k0, k1, k2, k3]) rfl ?_
                  first | exact ⟨_, _, rfl, .inl rfl, below4 (hbA.trans (HB.out.mono (by omega))) (by omega) _ _ _ _⟩ | exact ⟨_, ⟨_, rfl⟩, .inl rfl, below4 (hbA.trans (HB.out.mono (by omega))) (by omega) _ _ _ _⟩
end Go.Proofs.YtphikgobdfknkaaGreatDoor
