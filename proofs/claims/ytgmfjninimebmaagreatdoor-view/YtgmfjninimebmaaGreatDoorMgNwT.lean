import Derived.Test.YtgmfjninimebmaaGreatDoorMgNwQ
import Derived.Laws.EntriesVeiled
import Derived.Deep.DeepCutAuto
namespace Go.Proofs.YtgmfjninimebmaaGreatDoor
open Go.RowKit Go.Maps
set_option linter.unusedVariables false
set_option linter.unusedSimpArgs false

/-- The fronts ps stand in block g, which has room for n. -/
def RowF (w : World) (g n : Nat) (cs : List SD) (hd : Nat → En) (ps : List Nat) : Prop :=
  ∃ arr : Array Value, w.heap[g]? = some (.cells arr 186 (0, 0)) ∧ n * 6 ≤ arr.size ∧ ps.length ≤ n ∧
    ∀ i, i < ps.length → arr[i * 6]? = some (.string (hd (ps.getD i 0)).ky) ∧ arr[i * 6 + 1]? = some (.int .i64 (hd (ps.getD i 0)).sq) ∧ arr[i * 6 + 2]? = some (.int .i64 (hd (ps.getD i 0)).kd) ∧ arr[i * 6 + 3]? = some (.string (hd (ps.getD i 0)).vl) ∧ arr[i * 6 + 4]? = some (.int .i64 ((ps.getD i 0 : Nat) : Int)) ∧ arr[i * 6 + 5]? = some (cs.getD (ps.getD i 0) sd0).fn
theorem RowF.cells {w : World} {g n : Nat} {cs : List SD} {hd : Nat → En} {ps : List Nat} (h : RowF w g n cs hd ps) {i : Nat} (hi : i < ps.length) :
    w.cell? ⟨g, i * 6, none⟩ = some (.string (hd (ps.getD i 0)).ky) ∧ w.cell? ⟨g, i * 6 + 1, none⟩ = some (.int .i64 (hd (ps.getD i 0)).sq) ∧ w.cell? ⟨g, i * 6 + 2, none⟩ = some (.int .i64 (hd (ps.getD i 0)).kd) ∧ w.cell? ⟨g, i * 6 + 3, none⟩ = some (.string (hd (ps.getD i 0)).vl) ∧ w.cell? ⟨g, i * 6 + 4, none⟩ = some (.int .i64 ((ps.getD i 0 : Nat) : Int)) ∧ w.cell? ⟨g, i * 6 + 5, none⟩ = some (cs.getD (ps.getD i 0) sd0).fn := by
  obtain ⟨arr, h1, h2, h3, h4⟩ := h
  obtain ⟨a0, a1, a2, a3, a4, a5⟩ := h4 i hi
  have cell : ∀ o v, arr[o]? = some v → w.cell? ⟨g, o, none⟩ = some v := fun o v h => by simp only [World.cell?, h1]; exact h
  exact ⟨cell _ _ a0, cell _ _ a1, cell _ _ a2, cell _ _ a3, cell _ _ a4, cell _ _ a5⟩
theorem RowF.lt {w : World} {g n : Nat} {cs : List SD} {hd : Nat → En} {ps : List Nat} (h : RowF w g n cs hd ps) : g < w.heap.size := by
  obtain ⟨arr, h1, -⟩ := h
  exact heap_lt h1
theorem RowF.block {w w' : World} {g n : Nat} {cs : List SD} {hd : Nat → En} {ps : List Nat} (h : RowF w g n cs hd ps) (hb : w'.heap[g]? = w.heap[g]?) : RowF w' g n cs hd ps := by
  obtain ⟨arr, h1, h2⟩ := h
  exact ⟨arr, hb.trans h1, h2⟩
/-- The heap's own block. -/
def FrB (w : World) (hb g n cap : Nat) : Prop := w.heap[hb]? = some (.cells #[.slice (some ⟨g, 0, none⟩) n cap, .func (.func 86) #[] #[]] 184 (0, 0))
theorem twoN {w : World} {g : Nat} {v u : Value} {t : TypeId} (h : w.heap[g]? = some (.cells #[v, u] t (0, 0))) : w.cell? ⟨g, 0, none⟩ = some v ∧ w.cell? ⟨g, 1, none⟩ = some u := by
  constructor <;> simp [World.cell?, h]
theorem sixN {w : World} {g : Nat} {v0 v1 v2 v3 v4 v5 : Value} {t : TypeId} (h : w.heap[g]? = some (.cells #[v0, v1, v2, v3, v4, v5] t (0, 0))) : w.cell? ⟨g, 0, none⟩ = some v0 ∧ w.cell? ⟨g, 1, none⟩ = some v1 ∧ w.cell? ⟨g, 2, none⟩ = some v2 ∧ w.cell? ⟨g, 3, none⟩ = some v3 ∧ w.cell? ⟨g, 4, none⟩ = some v4 := by
  refine ⟨?_, ?_, ?_, ?_, ?_⟩ <;> simp [World.cell?, h]
set_option maxRecDepth 100000 in
set_option maxHeartbeats 4000000 in
theorem before_at (hb g n cap i j : Nat) (x y : En) (p q a1 b1 a2 b2 : Nat) (w : World) (hB : FrB w hb g n cap) (hi : i < n) (hj : j < n) (hn : n ≤ 1048576)
    (x0 : w.cell? ⟨g, i * 6, none⟩ = some (.string x.ky)) (x1 : w.cell? ⟨g, i * 6 + 1, none⟩ = some (.int .i64 x.sq)) (x2 : w.cell? ⟨g, i * 6 + 2, none⟩ = some (.int .i64 x.kd)) (x3 : w.cell? ⟨g, i * 6 + 3, none⟩ = some (.string x.vl)) (x4 : w.cell? ⟨g, i * 6 + 4, none⟩ = some (.int .i64 (p : Int))) (x5 : w.cell? ⟨g, i * 6 + 5, none⟩ = some (.func (.func 127) #[] #[.pointer (some ⟨a1, 0, none⟩), .pointer (some ⟨b1, 0, none⟩)]))
    (y0 : w.cell? ⟨g, j * 6, none⟩ = some (.string y.ky)) (y1 : w.cell? ⟨g, j * 6 + 1, none⟩ = some (.int .i64 y.sq)) (y2 : w.cell? ⟨g, j * 6 + 2, none⟩ = some (.int .i64 y.kd)) (y3 : w.cell? ⟨g, j * 6 + 3, none⟩ = some (.string y.vl)) (y4 : w.cell? ⟨g, j * 6 + 4, none⟩ = some (.int .i64 (q : Int))) (y5 : w.cell? ⟨g, j * 6 + 5, none⟩ = some (.func (.func 127) #[] #[.pointer (some ⟨a2, 0, none⟩), .pointer (some ⟨b2, 0, none⟩)])) (hg : g < w.heap.size) :
    Calls Tryz.prog 168 #[.pointer (some ⟨hb, 0, none⟩), .int .i64 i, .int .i64 j] w fun e w' => e = .returned (.bool (ltF x p y q)) ∧ Below w.heap.size w w' := by
  obtain ⟨h0, h1⟩ := twoN hB
  have hbl := heap_lt hB
  have hi' : (i : Int) < (n : Int) := by omega
  have hj' : (j : Int) < (n : Int) := by omega
  go_enter Tryz.func168, Tryz.ntmps168
  go_upto_region 1 with fail
  go_cut [7, 8] (fun v7 v8 W => ∃ k7 k8 : Nat, v7 = .pointer (some ⟨k7, 0, none⟩) ∧ v8 = .pointer (some ⟨k8, 0, none⟩) ∧ Hid (W.heap[k7]? = some (.cells #[.string x.ky, .int .i64 x.sq, .int .i64 x.kd, .string x.vl, .int .i64 (p : Int), (.func (.func 127) #[] #[.pointer (some ⟨a1, 0, none⟩), .pointer (some ⟨b1, 0, none⟩)])] 186 (0, 0)) ∧ W.heap[k8]? = some (.cells #[.string y.ky, .int .i64 y.sq, .int .i64 y.kd, .string y.vl, .int .i64 (q : Int), (.func (.func 127) #[] #[.pointer (some ⟨a2, 0, none⟩), .pointer (some ⟨b2, 0, none⟩)])] 186 (0, 0)) ∧ Below w.heap.size w W))
  case first =>
    go_wp2_with fail
    go_region_held3 (fun w' => w'.cell? ⟨hb, 0, none⟩ = some (.slice (some ⟨g, 0, none⟩) n cap) ∧ w'.cell? ⟨g, i * 6, none⟩ = some (.string x.ky) ∧ w'.cell? ⟨g, i * 6 + 1, none⟩ = some (.int .i64 x.sq) ∧ w'.cell? ⟨g, i * 6 + 2, none⟩ = some (.int .i64 x.kd) ∧ w'.cell? ⟨g, i * 6 + 3, none⟩ = some (.string x.vl) ∧ w'.cell? ⟨g, i * 6 + 4, none⟩ = some (.int .i64 (p : Int)) ∧ w'.cell? ⟨g, i * 6 + 5, none⟩ = some (.func (.func 127) #[] #[.pointer (some ⟨a1, 0, none⟩), .pointer (some ⟨b1, 0, none⟩)]) ∧ w'.cell? ⟨g, j * 6, none⟩ = some (.string y.ky) ∧ w'.cell? ⟨g, j * 6 + 1, none⟩ = some (.int .i64 y.sq) ∧ w'.cell? ⟨g, j * 6 + 2, none⟩ = some (.int .i64 y.kd) ∧ w'.cell? ⟨g, j * 6 + 3, none⟩ = some (.string y.vl) ∧ w'.cell? ⟨g, j * 6 + 4, none⟩ = some (.int .i64 (q : Int)) ∧ w'.cell? ⟨g, j * 6 + 5, none⟩ = some (.func (.func 127) #[] #[.pointer (some ⟨a2, 0, none⟩), .pointer (some ⟨b2, 0, none⟩)])) (simp [go_sem, *]) (fail)
    · go_wp2_with fail
      go_meet
      refine ⟨w.heap.size, w.heap.size + 1, rfl, rfl, ?_, ?_, ?_⟩
      · exact (Below.heap_alloc _ _ _ (by simp)).trans (World.heap_alloc_new _ _)
      · have h := World.heap_alloc_new (w.alloc (.cells #[.string x.ky, .int .i64 x.sq, .int .i64 x.kd, .string x.vl, .int .i64 (p : Int), (.func (.func 127) #[] #[.pointer (some ⟨a1, 0, none⟩), .pointer (some ⟨b1, 0, none⟩)])] 186)) (.cells #[.string y.ky, .int .i64 y.sq, .int .i64 y.kd, .string y.vl, .int .i64 (q : Int), (.func (.func 127) #[] #[.pointer (some ⟨a2, 0, none⟩), .pointer (some ⟨b2, 0, none⟩)])] 186)
        rwa [show (w.alloc (.cells #[.string x.ky, .int .i64 x.sq, .int .i64 x.kd, .string x.vl, .int .i64 (p : Int), (.func (.func 127) #[] #[.pointer (some ⟨a1, 0, none⟩), .pointer (some ⟨b1, 0, none⟩)])] 186)).heap.size = w.heap.size + 1 by simp] at h
      · exact (((Below.refl _ _).alloc (Nat.le_refl _) _).alloc (by simp) _).drew
    · go_wp2_with fail
      go_meet
      refine ⟨w.heap.size + 1, w.heap.size, rfl, rfl, ?_, ?_, ?_⟩
      · have h := World.heap_alloc_new (w.alloc (.cells #[.string y.ky, .int .i64 y.sq, .int .i64 y.kd, .string y.vl, .int .i64 (q : Int), (.func (.func 127) #[] #[.pointer (some ⟨a2, 0, none⟩), .pointer (some ⟨b2, 0, none⟩)])] 186)) (.cells #[.string x.ky, .int .i64 x.sq, .int .i64 x.kd, .string x.vl, .int .i64 (p : Int), (.func (.func 127) #[] #[.pointer (some ⟨a1, 0, none⟩), .pointer (some ⟨b1, 0, none⟩)])] 186)
        rwa [show (w.alloc (.cells #[.string y.ky, .int .i64 y.sq, .int .i64 y.kd, .string y.vl, .int .i64 (q : Int), (.func (.func 127) #[] #[.pointer (some ⟨a2, 0, none⟩), .pointer (some ⟨b2, 0, none⟩)])] 186)).heap.size = w.heap.size + 1 by simp] at h
      · exact (Below.heap_alloc _ _ _ (by simp)).trans (World.heap_alloc_new _ _)
      · exact (((Below.refl _ _).alloc (Nat.le_refl _) _).alloc (by simp) _).drew
  case rest =>
    obtain ⟨k7, k8, rfl, rfl, HK⟩ := hcut
    obtain ⟨u0, u1, u2, u3, u4⟩ := sixN HK.out.1
    obtain ⟨v0, v1, v2, v3, v4⟩ := sixN HK.out.2.1
    have l7 := heap_lt HK.out.1
    have l8 := heap_lt HK.out.2.1
    have hbl2 : hb < wc.heap.size := Nat.lt_of_lt_of_le hbl HK.out.2.2.size
    have h1' := (HK.out.2.2.cell (p := ⟨hb, 1, none⟩) hbl).trans h1
    have HB := hdN HK.out.2.2
    clear HK x0 x1 x2 x3 x4 x5 y0 y1 y2 y3 y4 y5 h0 h1 hi hj hi' hj' hB hbl hg
    have HC := hdN (entryOrder_any x y wc.drew)
    have HI := hdN (fun w => cmpInt_any (p : Int) (q : Int) w)
    have HR := hdN (ltF_or x y p q)
    have HOr := hdN cmpOr_or
    generalize ordE x y = c1 at *
    generalize cmpI (p : Int) (q : Int) = c2 at *
    go_wp2_with fail
    go_region_held3 (fun w' => w'.cell? ⟨hb, 1, none⟩ = some (.func (.func 86) #[] #[]) ∧ w'.cell? ⟨k7, 0, none⟩ = some (.string x.ky) ∧ w'.cell? ⟨k7, 1, none⟩ = some (.int .i64 x.sq) ∧ w'.cell? ⟨k7, 2, none⟩ = some (.int .i64 x.kd) ∧ w'.cell? ⟨k7, 3, none⟩ = some (.string x.vl) ∧ w'.cell? ⟨k7, 4, none⟩ = some (.int .i64 (p : Int)) ∧ w'.cell? ⟨k8, 0, none⟩ = some (.string y.ky) ∧ w'.cell? ⟨k8, 1, none⟩ = some (.int .i64 y.sq) ∧ w'.cell? ⟨k8, 2, none⟩ = some (.int .i64 y.kd) ∧ w'.cell? ⟨k8, 3, none⟩ = some (.string y.vl) ∧ w'.cell? ⟨k8, 4, none⟩ = some (.int .i64 (q : Int))) (simp [go_sem, *])
      (first
        | (go_at_call 86; refine HC.out.mono ?_; rintro ee w6 ⟨rfl, hb6⟩; have HG6 := hdN ((Below.refl wc.heap.size wc).drew.trans hb6); have h1'' := (HG6.out.cell (p := ⟨hb, 1, none⟩) hbl2).trans h1'; have nu0 := (HG6.out.cell (p := ⟨k7, 0, none⟩) l7).trans u0; have nu1 := (HG6.out.cell (p := ⟨k7, 1, none⟩) l7).trans u1; have nu2 := (HG6.out.cell (p := ⟨k7, 2, none⟩) l7).trans u2; have nu3 := (HG6.out.cell (p := ⟨k7, 3, none⟩) l7).trans u3; have nu4 := (HG6.out.cell (p := ⟨k7, 4, none⟩) l7).trans u4; have nv0 := (HG6.out.cell (p := ⟨k8, 0, none⟩) l8).trans v0; have nv1 := (HG6.out.cell (p := ⟨k8, 1, none⟩) l8).trans v1; have nv2 := (HG6.out.cell (p := ⟨k8, 2, none⟩) l8).trans v2; have nv3 := (HG6.out.cell (p := ⟨k8, 3, none⟩) l8).trans v3; have nv4 := (HG6.out.cell (p := ⟨k8, 4, none⟩) l8).trans v4; have q1 := Nat.lt_of_lt_of_le hbl2 HG6.out.size; have q2 := Nat.lt_of_lt_of_le l7 HG6.out.size; have q3 := Nat.lt_of_lt_of_le l8 HG6.out.size; clear hb6)
        | (go_at_call 136; refine (HI.out _).mono ?_; rintro e w2 ⟨rfl, rfl⟩)
        | (go_at_call 134; refine (HOr.out _ c1 c2 _ (by simp) (by simp)).mono ?_; rintro e w3 ⟨rfl, rfl⟩))
    all_goals go_wp2_with fail
    all_goals go_ret
    all_goals exact ⟨congrArg (fun b => Ending.returned (.bool b)) HR.out, HB.out.trans ((HG6.out.alloc HG6.out.size _).mono HB.out.size)⟩
/-- Whether one front of the heap comes before another. -/
theorem before_any (hb g n cap : Nat) (cs : List SD) (hd : Nat → En) (ps : List Nat) (i j : Nat) (w : World) (hB : FrB w hb g ps.length cap) (hR : RowF w g n cs hd ps) (hi : i < ps.length) (hj : j < ps.length) (hn : n ≤ 1048576) :
    Calls Tryz.prog 168 #[.pointer (some ⟨hb, 0, none⟩), .int .i64 i, .int .i64 j] w fun e w' => e = .returned (.bool (ltP hd (ps.getD i 0) (ps.getD j 0))) ∧ Below w.heap.size w w' := by
  obtain ⟨x0, x1, x2, x3, x4, x5⟩ := hR.cells hi
  obtain ⟨y0, y1, y2, y3, y4, y5⟩ := hR.cells hj
  have hlt := hR.lt
  obtain ⟨arr, -, -, hle, -⟩ := hR
  exact before_at hb g ps.length cap i j _ _ _ _ _ _ _ _ w hB hi hj (by omega) x0 x1 x2 x3 x4 x5 y0 y1 y2 y3 y4 y5 hlt
end Go.Proofs.YtgmfjninimebmaaGreatDoor
namespace Go.Proofs.YtgmfjninimebmaaGreatDoor
open Go.RowKit Go.Maps
set_option linter.unusedVariables false
set_option linter.unusedSimpArgs false

theorem fr_ne {w : World} {hb g n m cap : Nat} {cs : List SD} {hd : Nat → En} {ps : List Nat} (hB : FrB w hb g m cap) (hR : RowF w g n cs hd ps) : hb ≠ g := fun e => by
  subst e
  obtain ⟨arr, h1, -⟩ := hR
  rw [hB] at h1
  injection h1 with h1
  injection h1 with h2 h3
  exact absurd h3 (by decide)
def putF (w : World) (g i : Nat) (x : En) (p : Nat) (c : SD) : World := (((((w.setCell ⟨g, i * 6, none⟩ (.string x.ky)).setCell ⟨g, i * 6 + 1, none⟩ (.int .i64 x.sq)).setCell ⟨g, i * 6 + 2, none⟩ (.int .i64 x.kd)).setCell ⟨g, i * 6 + 3, none⟩ (.string x.vl)).setCell ⟨g, i * 6 + 4, none⟩ (.int .i64 (p : Int))).setCell ⟨g, i * 6 + 5, none⟩ c.fn
theorem putF_only (w : World) (g i : Nat) (x : En) (p : Nat) (c : SD) : OnlyG g w (putF w g i x p c) := (((((OnlyG.set _ _ _).trans (OnlyG.set _ _ _)).trans (OnlyG.set _ _ _)).trans (OnlyG.set _ _ _)).trans (OnlyG.set _ _ _)).trans (OnlyG.set _ _ _)
theorem getD_setN (ps : List Nat) (i j x : Nat) (hi : i < ps.length) : (ps.set i x).getD j 0 = if j = i then x else ps.getD j 0 := by
  rw [List.getD_eq_getElem?_getD, List.getElem?_set, List.getD_eq_getElem?_getD]
  by_cases h : i = j
  · subst h; simp [hi]
  · rw [if_neg h, if_neg (fun e => h e.symm)]
theorem RowF.put {w : World} {g n i : Nat} {cs : List SD} {hd : Nat → En} {ps : List Nat} (h : RowF w g n cs hd ps) (hi : i < ps.length) (p : Nat) : RowF (putF w g i (hd p) p (cs.getD p sd0)) g n cs hd (ps.set i p) := by
  obtain ⟨arr, h1, h2, h3, h4⟩ := h
  have e1 := heap_setCell_same w g (i * 6) _ _ (.string (hd p).ky) h1
  have e2 := heap_setCell_same _ g (i * 6 + 1) _ _ (.int .i64 (hd p).sq) e1
  have e3 := heap_setCell_same _ g (i * 6 + 2) _ _ (.int .i64 (hd p).kd) e2
  have e4 := heap_setCell_same _ g (i * 6 + 3) _ _ (.string (hd p).vl) e3
  have e5 := heap_setCell_same _ g (i * 6 + 4) _ _ (.int .i64 (p : Int)) e4
  have e6 := heap_setCell_same _ g (i * 6 + 5) _ _ (cs.getD p sd0).fn e5
  refine ⟨_, e6, by simpa using h2, by simpa using h3, fun j hj => ?_⟩
  rw [List.length_set] at hj
  rw [getD_setN ps i j p hi]
  by_cases hip : j = i
  · subst hip
    rw [if_pos rfl]
    refine ⟨?_, ?_, ?_, ?_, ?_, ?_⟩
    · simp [Array.getElem?_setIfInBounds]; omega
    · simp [Array.getElem?_setIfInBounds]; omega
    · simp [Array.getElem?_setIfInBounds]; omega
    · simp [Array.getElem?_setIfInBounds]; omega
    · simp [Array.getElem?_setIfInBounds]; omega
    · simp [Array.getElem?_setIfInBounds]; omega
  · rw [if_neg hip]
    obtain ⟨a0, a1, a2, a3, a4, a5⟩ := h4 j hj
    have key : ∀ o v, (∀ k, k < 6 → o ≠ i * 6 + k) → arr[o]? = some v → ((((((arr.setIfInBounds (i * 6) (.string (hd p).ky)).setIfInBounds (i * 6 + 1) (.int .i64 (hd p).sq)).setIfInBounds (i * 6 + 2) (.int .i64 (hd p).kd)).setIfInBounds (i * 6 + 3) (.string (hd p).vl)).setIfInBounds (i * 6 + 4) (.int .i64 (p : Int))).setIfInBounds (i * 6 + 5) (cs.getD p sd0).fn)[o]? = some v := fun o v ho hv => by
      rw [Array.getElem?_setIfInBounds_ne (fun e => ho 5 (by omega) e.symm), Array.getElem?_setIfInBounds_ne (fun e => ho 4 (by omega) e.symm), Array.getElem?_setIfInBounds_ne (fun e => ho 3 (by omega) e.symm), Array.getElem?_setIfInBounds_ne (fun e => ho 2 (by omega) e.symm), Array.getElem?_setIfInBounds_ne (fun e => ho 1 (by omega) e.symm), Array.getElem?_setIfInBounds_ne (fun e => ho 0 (by omega) (by omega))]
      exact hv
    exact ⟨key _ _ (by omega) a0, key _ _ (by omega) a1, key _ _ (by omega) a2, key _ _ (by omega) a3, key _ _ (by omega) a4, key _ _ (by omega) a5⟩
theorem RowF.swap {w : World} {g n i j : Nat} {cs : List SD} {hd : Nat → En} {ps : List Nat} (h : RowF w g n cs hd ps) (hi : i < ps.length) (hj : j < ps.length) :
    RowF (putF (putF w g i (hd (ps.getD j 0)) (ps.getD j 0) (cs.getD (ps.getD j 0) sd0)) g j (hd (ps.getD i 0)) (ps.getD i 0) (cs.getD (ps.getD i 0) sd0)) g n cs hd (swpP ps i j) :=
  (h.put hi _).put (by rw [List.length_set]; exact hj) _
theorem FrB.only {w w' : World} {hb g n cap : Nat} (h : FrB w hb g n cap) (hne : hb ≠ g) (ho : OnlyG g w w') : FrB w' hb g n cap := (ho.block hb (heap_lt h) hne).trans h
theorem FrB.below {w w' : World} {hb g n cap : Nat} (h : FrB w hb g n cap) (ho : Below w.heap.size w w') : FrB w' hb g n cap := (ho.block hb (heap_lt h)).trans h
end Go.Proofs.YtgmfjninimebmaaGreatDoor
