import Derived.Test.YtgennghhneckeaaWkP
namespace Go.Proofs.Ytgennghhneckeaa
open Go.RowKit Go.Maps
set_option linter.unusedVariables false
set_option linter.unusedSimpArgs false

theorem Res.sub {w w' : World} {base cap : Nat} {a : Option Addr} {xs : List Fl} (h : Res w base a cap xs) (P : Nat → Prop) (hP : ∀ k, base ≤ k → k < w.heap.size → P k) (hb : ∀ k, P k → w'.heap[k]? = w.heap[k]?) : Res w' base a cap xs :=
  h.kept fun k h1 h2 => hb k (hP k h1 h2)

theorem three_set {w : World} {p : Nat} {t : TypeId} {x0 x1 x2 v0 v1 v2 : Value} (h : w.heap[p]? = some (.cells #[x0, x1, x2] t (0, 0))) :
    (((w.setCell ⟨p, 0, none⟩ v0).setCell ⟨p, 1, none⟩ v1).setCell ⟨p, 2, none⟩ v2).heap[p]? = some (.cells #[v0, v1, v2] t (0, 0)) := by
  have e1 := heap_setCell_same w p 0 _ _ v0 h
  have e2 := heap_setCell_same _ p 1 _ _ v1 e1
  have e3 := heap_setCell_same _ p 2 _ _ v2 e2
  rw [e3]
  simp
theorem three_other (w : World) {p k : Nat} (v0 v1 v2 : Value) (h : k ≠ p) : (((w.setCell ⟨p, 0, none⟩ v0).setCell ⟨p, 1, none⟩ v1).setCell ⟨p, 2, none⟩ v2).heap[k]? = w.heap[k]? := by
  rw [Below.heap_setCell _ _ _ _ h, Below.heap_setCell _ _ _ _ h, Below.heap_setCell _ _ _ _ h]
theorem three_below {B p : Nat} (w : World) (v0 v1 v2 : Value) (h : B ≤ p) : Below B w (((w.setCell ⟨p, 0, none⟩ v0).setCell ⟨p, 1, none⟩ v1).setCell ⟨p, 2, none⟩ v2) :=
  (((Below.refl B w).setCell h v0).setCell h v1).setCell h v2
theorem three_cells {w : World} {p : Nat} {t : TypeId} {x0 x1 x2 : Value} (h : w.heap[p]? = some (.cells #[x0, x1, x2] t (0, 0))) :
    (w.cell? ⟨p, 0, none⟩ = some x0 ∧ w.cell? ⟨p, 1, none⟩ = some x1 ∧ w.cell? ⟨p, 2, none⟩ = some x2) ∧ w.frozen? ⟨p, 0, none⟩ = false ∧ w.frozen? ⟨p, 1, none⟩ = false ∧ w.frozen? ⟨p, 2, none⟩ = false := by
  refine ⟨⟨?_, ?_, ?_⟩, ?_, ?_, ?_⟩ <;> simp [World.cell?, World.frozen?, h]

theorem fuel_pos {st : Bool} {fu r : Int} (h : (if st = true then fuel' fu else fu) = r) (hs : st = true) (hp : 0 < fu) : r = fu - 1 := by rw [← h, if_pos hs]; simp [fuel', hp]
theorem fuel_npos {st : Bool} {fu r : Int} (h : (if st = true then fuel' fu else fu) = r) (hp : ¬ 0 < fu) : r = fu := by
  rw [← h]
  split
  · simp [fuel', hp]
  · rfl

set_option maxRecDepth 100000 in
set_option maxHeartbeats 1000000 in
theorem copy_any (a : Option Addr) (cap : Nat) (xs : List Fl) (q fu : Int) (st : Bool) (w : World) (hx : Lie w a xs) (hlen : xs.length ≤ 1048576) (hlo : -1 ≤ fu) (hhi : fu ≤ 9223372036854775807) :
    Calls Try.prog 39 #[.agg #[.slice a xs.length cap, .int .i64 q, .int .i64 fu], .bool st] w fun e w' =>
      ∃ a' cap', e = .returned (.agg #[.slice a' (wo xs ⟨#[]⟩).length cap', .int .i64 q, .int .i64 (if st = true then fuel' fu else fu)]) ∧ Res w' w.heap.size a' cap' (wo xs ⟨#[]⟩) ∧ Below w.heap.size w w' := by
  have hb0 : Below w.heap.size w ((w.alloc (.cells #[.slice a xs.length cap, .int .i64 q, .int .i64 fu] 25)).alloc (.cells #[.slice none 0 0, .int .i64 0, .int .i64 0] 25)) := ((Below.refl _ _).alloc (Nat.le_refl _) _).alloc (by simp) _
  generalize hr : (if st = true then fuel' fu else fu) = r
  have HR : Hid ((if st = true then fuel' fu else fu) = r) := hr
  clear hr
  go_enter Try.func39, Try.ntmps39
  go_wp2
  go_region_held3 (fun w' => w'.cell? ⟨w.heap.size, 0, none⟩ = some (.slice a xs.length cap) ∧ w'.cell? ⟨w.heap.size, 1, none⟩ = some (.int .i64 q) ∧ w'.cell? ⟨w.heap.size, 2, none⟩ = some (.int .i64 fu)) (simp [go_sem, *, World.cell?_alloc_some])
    (first | (go_at_call 40; refine (without_any a cap xs ⟨#[]⟩ _ ?_ hlen).mono ?_; exact hx.below (by repeat (first | exact hb0 | apply Below.drew | (refine Below.alloc ?_ (by simp; omega) _))); rintro e w1 ⟨a', cap', rfl, hres, hb1⟩; have k0 := (hb1.cell (p := ⟨w.heap.size, 0, none⟩) (by simp; omega)); have k1 := (hb1.cell (p := ⟨w.heap.size, 1, none⟩) (by simp; omega)); have k2 := (hb1.cell (p := ⟨w.heap.size, 2, none⟩) (by simp; omega)); simp at k0 k1 k2; obtain ⟨hc, hz⟩ := bcell hb1; have hsz := hb1.size; simp at hsz))
  · have hw1 : Below w.heap.size w w1 := hb0.drew.trans (hb1.mono (by simp; omega))
    have hsz1 : w.heap.size + 1 < w1.heap.size := by omega
    have hsz2 : w.heap.size < w1.heap.size := by omega
    cases st with
    | false =>
      have HRR : Hid (r = fu) := HR.out.symm.trans (by simp)
      go_wp2
      refine bodyPost_ret (v := .agg #[.slice a' (wo xs ⟨#[]⟩).length cap', .int .i64 q, .int .i64 fu]) (by simp [results, Try.results39, go_sem, hc, hsz1]) rfl ⟨a', cap', by rw [HRR.out], ?_, ?_⟩
      · refine (hres.kept (fun k h1 h2 => ?_)).base (by simp; omega)
        simp at h1
        rw [Below.heap_alloc _ _ _ (by simpa using h2)]
        exact three_other w1 _ _ _ (by omega)
      · exact (hw1.trans (three_below w1 _ _ _ (by omega))).alloc (by simp; omega) _
    | true =>
      by_cases hpos : 0 < fu
      · have HRR : Hid (r = fu - 1) := fuel_pos HR.out rfl hpos
        go_wp2
        refine bodyPost_ret (v := .agg #[.slice a' (wo xs ⟨#[]⟩).length cap', .int .i64 q, .int .i64 (fu - 1)]) (by simp [results, Try.results39, go_sem, hc, hsz1]) rfl ⟨a', cap', by rw [HRR.out], ?_, ?_⟩
        · refine (hres.kept (fun k h1 h2 => ?_)).base (by simp; omega)
          simp at h1
          rw [Below.heap_alloc _ _ _ (by simpa using h2)]
          exact three_other w1 _ _ _ (by omega)
        · exact (hw1.trans (three_below w1 _ _ _ (by omega))).alloc (by simp; omega) _
      · have HRR : Hid (r = fu) := fuel_npos HR.out hpos
        go_wp2
        refine bodyPost_ret (v := .agg #[.slice a' (wo xs ⟨#[]⟩).length cap', .int .i64 q, .int .i64 fu]) (by simp [results, Try.results39, go_sem, hc, hsz1]) rfl ⟨a', cap', by rw [HRR.out], ?_, ?_⟩
        · refine (hres.kept (fun k h1 h2 => ?_)).base (by simp; omega)
          simp at h1
          rw [Below.heap_alloc _ _ _ (by simpa using h2)]
          exact three_other w1 _ _ _ (by omega)
        · exact (hw1.trans (three_below w1 _ _ _ (by omega))).alloc (by simp; omega) _
  · have hw1 : Below w.heap.size w w1 := (hb0.drew.alloc (by simp; omega) _).trans (hb1.mono (by simp; omega))
    have hP1 : w1.heap[w.heap.size + 2]? = some (.cells #[.slice none 0 0, .int .i64 0, .int .i64 0] 25 (0, 0)) := by
      rw [hb1.block _ (by simp)]
      have := World.heap_alloc_new ((w.alloc (.cells #[.slice a xs.length cap, .int .i64 q, .int .i64 fu] 25)).alloc (.cells #[.slice none 0 0, .int .i64 0, .int .i64 0] 25)) (.cells #[.slice none 0 0, .int .i64 0, .int .i64 0] 25)
      have e : ((w.alloc (.cells #[.slice a xs.length cap, .int .i64 q, .int .i64 fu] 25)).alloc (.cells #[.slice none 0 0, .int .i64 0, .int .i64 0] 25)).heap.size = w.heap.size + 2 := by simp
      rw [e] at this
      exact this
    have hR1 : w1.heap[w.heap.size + 1]? = some (.cells #[.slice none 0 0, .int .i64 0, .int .i64 0] 25 (0, 0)) := by
      rw [hb1.block _ (by simp)]
      have := World.heap_alloc_new (w.alloc (.cells #[.slice a xs.length cap, .int .i64 q, .int .i64 fu] 25)) (.cells #[.slice none 0 0, .int .i64 0, .int .i64 0] 25)
      have e : (w.alloc (.cells #[.slice a xs.length cap, .int .i64 q, .int .i64 fu] 25)).heap.size = w.heap.size + 1 := by simp
      rw [e] at this
      exact (Below.heap_alloc _ _ _ (by simp)).trans this
    have hP := three_set (v0 := .slice a' (wo xs ⟨#[]⟩).length cap') (v1 := .int .i64 q) (v2 := .int .i64 fu) hP1
    have hR := (three_other w1 (p := w.heap.size + 2) (k := w.heap.size + 1) (.slice a' (wo xs ⟨#[]⟩).length cap') (.int .i64 q) (.int .i64 fu) (by omega)).trans hR1
    have hoth := fun k => three_other w1 (p := w.heap.size + 2) (k := k) (.slice a' (wo xs ⟨#[]⟩).length cap') (.int .i64 q) (.int .i64 fu)
    have hwW := hw1.trans (three_below w1 (p := w.heap.size + 2) (B := w.heap.size) (.slice a' (wo xs ⟨#[]⟩).length cap') (.int .i64 q) (.int .i64 fu) (by omega))
    have hres2 : Res (((w1.setCell ⟨w.heap.size + 2, 0, none⟩ (.slice a' (wo xs ⟨#[]⟩).length cap')).setCell ⟨w.heap.size + 2, 1, none⟩ (.int .i64 q)).setCell ⟨w.heap.size + 2, 2, none⟩ (.int .i64 fu)) (w.heap.size + 3) a' cap' (wo xs ⟨#[]⟩) := by
      refine (hres.kept (fun k h1 h2 => ?_)).base (by simp)
      simp at h1
      exact hoth k (by omega)
    have hszW : w.heap.size + 3 ≤ (((w1.setCell ⟨w.heap.size + 2, 0, none⟩ (.slice a' (wo xs ⟨#[]⟩).length cap')).setCell ⟨w.heap.size + 2, 1, none⟩ (.int .i64 q)).setCell ⟨w.heap.size + 2, 2, none⟩ (.int .i64 fu)).heap.size := by simp; omega
    rw [show w.heap.size + 1 + 1 = w.heap.size + 2 from rfl]
    clear hb1 hc hz hres hP1 hR1 hoth hw1 k0 k1 k2 hsz hb0
    generalize ((w1.setCell ⟨w.heap.size + 2, 0, none⟩ (.slice a' (wo xs ⟨#[]⟩).length cap')).setCell ⟨w.heap.size + 2, 1, none⟩ (.int .i64 q)).setCell ⟨w.heap.size + 2, 2, none⟩ (.int .i64 fu) = W at *
    obtain ⟨⟨p0, p1, p2⟩, y0, y1, y2⟩ := three_cells hP
    obtain ⟨⟨r0, r1, r2⟩, s0, s1, s2⟩ := three_cells hR
    clear hP hR
    cases st with
    | false =>
      have HRR : Hid (r = fu) := HR.out.symm.trans (by simp)
      go_wp2
      refine bodyPost_ret (v := .agg #[.slice a' (wo xs ⟨#[]⟩).length cap', .int .i64 q, .int .i64 fu]) (by simp [results, Try.results39, go_sem, r0, r1, r2]) rfl ⟨a', cap', by rw [HRR.out], ?_, ?_⟩
      · exact (hres2.kept (fun k h1 h2 => three_other W _ _ _ (by omega))).base (by omega)
      · exact hwW.trans (three_below W _ _ _ (by omega))
    | true =>
      by_cases hpos : 0 < fu
      · have HRR : Hid (r = fu - 1) := fuel_pos HR.out rfl hpos
        go_wp2
        refine bodyPost_ret (v := .agg #[.slice a' (wo xs ⟨#[]⟩).length cap', .int .i64 q, .int .i64 (fu - 1)]) (by simp [results, Try.results39, go_sem, r0, r1, r2]) rfl ⟨a', cap', by rw [HRR.out], ?_, ?_⟩
        · exact (hres2.kept (fun k h1 h2 => (three_other _ _ _ _ (by omega)).trans (Below.heap_setCell _ _ _ _ (by dsimp only; omega)))).base (by omega)
        · exact (hwW.setCell (by dsimp only; omega) _).trans (three_below _ _ _ _ (by omega))
      · have HRR : Hid (r = fu) := fuel_npos HR.out hpos
        go_wp2
        refine bodyPost_ret (v := .agg #[.slice a' (wo xs ⟨#[]⟩).length cap', .int .i64 q, .int .i64 fu]) (by simp [results, Try.results39, go_sem, r0, r1, r2]) rfl ⟨a', cap', by rw [HRR.out], ?_, ?_⟩
        · exact (hres2.kept (fun k h1 h2 => three_other W _ _ _ (by omega))).base (by omega)
        · exact hwW.trans (three_below W _ _ _ (by omega))
end Go.Proofs.Ytgennghhneckeaa
namespace Go.Proofs.Ytgennghhneckeaa
open Go.RowKit Go.Maps
set_option linter.unusedVariables false
set_option linter.unusedSimpArgs false

theorem wo_none {xs : List Fl} {s : ByteArray} (h : ∀ f ∈ xs, f.nm.data.toList ≠ s.data.toList) : wo xs s = xs := by
  unfold wo
  rw [List.filter_eq_self]
  intro f hf
  rw [ByteArray.toList_eq, ByteArray.toList_eq]
  have := h f hf
  simpa using this
theorem ok_name {xs : List Fl} (h : ∀ j, j < xs.length → okAt xs j = true) : ∀ f ∈ xs, nmOk f.nm = true := by
  intro f hf
  obtain ⟨i, hi, rfl⟩ := List.getElem_of_mem hf
  have := h i hi
  unfold okAt at this
  simp only [Bool.and_eq_true] at this
  have e : xs.getD i fl0 = xs[i] := by simp [List.getD, hi]
  rw [e] at this
  exact this.1.1
theorem wo_empty {xs : List Fl} (h : ∀ j, j < xs.length → okAt xs j = true) : wo xs ⟨#[]⟩ = xs := by
  refine wo_none fun f hf e => ?_
  have := ok_name h f hf
  unfold nmOk at this
  simp only [Bool.and_eq_true, decide_eq_true_eq] at this
  have e2 : f.nm.data.toList.length = 0 := by rw [e]; rfl
  rw [Array.length_toList] at e2
  have : f.nm.size = f.nm.data.size := rfl
  omega

/-- What l1Begin answers: the code, and the fuel of the directory that goes with it. -/
def bCode (v : Bool) (fu : Int) : Int := if v = true then (if fu = 0 then 8 else 0) else 9

set_option maxRecDepth 100000 in
set_option maxHeartbeats 1000000 in
theorem specBegin_bad (a : Option Addr) (cap : Nat) (xs : List Fl) (q fu : Int) (w : World) (hx : Lie w a xs) (hf : Fits xs) (hlen : xs.length ≤ 1048576) (hd : datas xs ≤ 1048576) (hv : vldB xs q fu = false) :
    Calls Try.prog 25 #[.agg #[.slice a xs.length cap, .int .i64 q, .int .i64 fu]] w fun e w' => e = .returned (.tuple #[.agg #[.slice none 0 0, .int .i64 0, .int .i64 0], .int .i64 9]) ∧ Below w.heap.size w w' := by
  have hb0 : Below w.heap.size w ((w.alloc (.cells #[.slice a xs.length cap, .int .i64 q, .int .i64 fu] 25)).alloc (.cells #[.slice none 0 0, .int .i64 0, .int .i64 0] 25)) := ((Below.refl _ _).alloc (Nat.le_refl _) _).alloc (by simp) _
  go_enter Try.func25, Try.ntmps25
  go_wp2_with fail
  refine (specValid_any a cap xs q fu _ (hx.below hb0) hf hlen hd).mono ?_
  rintro e w1 ⟨rfl, hb1⟩
  rw [hv]
  have hbb := hb0.trans (hb1.mono hb0.size)
  obtain ⟨hc, hz⟩ := bcell hb1
  have hsz := hb1.size
  simp at hsz
  clear hx hb1 hb0
  go_wp2
  refine bodyPost_ret (v := .tuple #[.agg #[.slice none 0 0, .int .i64 0, .int .i64 0], .int .i64 9]) (by simp [results, Try.results25, go_sem, hc]) rfl ⟨rfl, ?_⟩
  exact hbb.trans (three_below w1 _ _ _ (by omega))

set_option maxRecDepth 100000 in
set_option maxHeartbeats 1000000 in
theorem specBegin_ok (a : Option Addr) (cap : Nat) (xs : List Fl) (q fu : Int) (w : World) (hx : Lie w a xs) (hf : Fits xs) (hlen : xs.length ≤ 1048576) (hd : datas xs ≤ 1048576) (hv : vldB xs q fu = true) (hhi : fu ≤ 9223372036854775807) (cd : Int) (HC : Hid (cd = if fu = 0 then 8 else 0)) :
    Calls Try.prog 25 #[.agg #[.slice a xs.length cap, .int .i64 q, .int .i64 fu]] w fun e w' => ∃ a' cap', e = .returned (.tuple #[.agg #[.slice a' xs.length cap', .int .i64 q, .int .i64 (fuel' fu)], .int .i64 cd]) ∧ Res w' w.heap.size a' cap' xs ∧ Below w.heap.size w w' := by
  have hb0 : Below w.heap.size w ((w.alloc (.cells #[.slice a xs.length cap, .int .i64 q, .int .i64 fu] 25)).alloc (.cells #[.slice none 0 0, .int .i64 0, .int .i64 0] 25)) := ((Below.refl _ _).alloc (Nat.le_refl _) _).alloc (by simp) _
  have hwo := wo_empty (vld_head hv).2.1
  have hlo : -1 ≤ fu := by
    have := (vld_head hv).1
    simp [hdOk] at this
    exact this.2
  by_cases h0 : fu = 0
  · subst h0
    have HC8 : Hid (cd = 8) := by show _ = _; rw [HC.out]; rfl
    have hfu : Hid ((if false = true then fuel' 0 else (0 : Int)) = fuel' 0) := by show _ = _; rfl
    clear HC
    go_enter Try.func25, Try.ntmps25
    go_wp2_with fail
    refine (specValid_any a cap xs q 0 _ (hx.below hb0) hf hlen hd).mono ?_
    rintro e w1 ⟨rfl, hb1⟩
    rw [hv]
    have hbb := hb0.trans (hb1.mono hb0.size)
    have hR1 : w1.heap[w.heap.size + 1]? = some (.cells #[.slice none 0 0, .int .i64 0, .int .i64 0] 25 (0, 0)) := by
      rw [hb1.block _ (by simp)]
      have := World.heap_alloc_new (w.alloc (.cells #[.slice a xs.length cap, .int .i64 q, .int .i64 0] 25)) (.cells #[.slice none 0 0, .int .i64 0, .int .i64 0] 25)
      have e : (w.alloc (.cells #[.slice a xs.length cap, .int .i64 q, .int .i64 0] 25)).heap.size = w.heap.size + 1 := by simp
      rw [e] at this
      exact this
    have p0 : w1.cell? ⟨w.heap.size, 0, none⟩ = some (.slice a xs.length cap) := (hb1.cell (p := ⟨w.heap.size, 0, none⟩) (by simp; omega)).trans (by simp)
    have p1 : w1.cell? ⟨w.heap.size, 1, none⟩ = some (.int .i64 q) := (hb1.cell (p := ⟨w.heap.size, 1, none⟩) (by simp; omega)).trans (by simp)
    have p2 : w1.cell? ⟨w.heap.size, 2, none⟩ = some (.int .i64 0) := (hb1.cell (p := ⟨w.heap.size, 2, none⟩) (by simp; omega)).trans (by simp)
    have hsz : w.heap.size + 1 < w1.heap.size := by have := hb1.size; simp at this; omega
    have hxb := hx.below hbb
    clear hx hb1 hb0 hv
    go_wp2_with fail
    refine (copy_any a cap xs q 0 false _ hxb hlen (by omega) (by omega)).mono ?_
    rintro e w2 ⟨a', cap', rfl, hres, hb2⟩
    rw [hwo] at hres ⊢
    rw [hfu.out]
    have hbw2 := hbb.trans (hb2.mono hbb.size)
    obtain ⟨⟨r0, r1, r2⟩, s0, s1, s2⟩ := three_cells ((hb2.block _ hsz).trans hR1)
    have hle := hb2.size
    clear hb2 hxb hbb p0 p1 p2 hR1 hf
    go_wp2
    refine bodyPost_ret (v := .tuple #[.agg #[.slice a' xs.length cap', .int .i64 q, .int .i64 (fuel' 0)], .int .i64 8]) (by simp [results, Try.results25, go_sem, r0, r1, r2]) rfl ⟨a', cap', by rw [HC8.out], ?_, ?_⟩
    · exact (hres.kept (fun k h1 h2 => three_other w2 _ _ _ (by omega))).base (by omega)
    · exact hbw2.trans (three_below w2 _ _ _ (by omega))
  · have HC0 : Hid (cd = 0) := by show _ = _; rw [HC.out, if_neg h0]
    have h0' : (fu == 0) = false := by simpa using h0
    have hfu : Hid ((if true = true then fuel' fu else fu) = fuel' fu) := by show _ = _; rfl
    clear HC h0
    go_enter Try.func25, Try.ntmps25
    go_wp2_with fail
    refine (specValid_any a cap xs q fu _ (hx.below hb0) hf hlen hd).mono ?_
    rintro e w1 ⟨rfl, hb1⟩
    rw [hv]
    have hbb := hb0.trans (hb1.mono hb0.size)
    have hR1 : w1.heap[w.heap.size + 1]? = some (.cells #[.slice none 0 0, .int .i64 0, .int .i64 0] 25 (0, 0)) := by
      rw [hb1.block _ (by simp)]
      have := World.heap_alloc_new (w.alloc (.cells #[.slice a xs.length cap, .int .i64 q, .int .i64 fu] 25)) (.cells #[.slice none 0 0, .int .i64 0, .int .i64 0] 25)
      have e : (w.alloc (.cells #[.slice a xs.length cap, .int .i64 q, .int .i64 fu] 25)).heap.size = w.heap.size + 1 := by simp
      rw [e] at this
      exact this
    have p0 : w1.cell? ⟨w.heap.size, 0, none⟩ = some (.slice a xs.length cap) := (hb1.cell (p := ⟨w.heap.size, 0, none⟩) (by simp; omega)).trans (by simp)
    have p1 : w1.cell? ⟨w.heap.size, 1, none⟩ = some (.int .i64 q) := (hb1.cell (p := ⟨w.heap.size, 1, none⟩) (by simp; omega)).trans (by simp)
    have p2 : w1.cell? ⟨w.heap.size, 2, none⟩ = some (.int .i64 fu) := (hb1.cell (p := ⟨w.heap.size, 2, none⟩) (by simp; omega)).trans (by simp)
    have hsz : w.heap.size + 1 < w1.heap.size := by have := hb1.size; simp at this; omega
    have hxb := hx.below hbb
    clear hx hb1 hb0 hv
    go_wp2_with fail
    refine (copy_any a cap xs q fu true _ hxb hlen hlo hhi).mono ?_
    rintro e w2 ⟨a', cap', rfl, hres, hb2⟩
    rw [hwo] at hres ⊢
    rw [if_pos rfl]
    have hbw2 := hbb.trans (hb2.mono hbb.size)
    obtain ⟨⟨r0, r1, r2⟩, s0, s1, s2⟩ := three_cells ((hb2.block _ hsz).trans hR1)
    have hle := hb2.size
    clear hb2 hxb hbb p0 p1 p2 hR1 hf
    go_wp2
    refine bodyPost_ret (v := .tuple #[.agg #[.slice a' xs.length cap', .int .i64 q, .int .i64 (fuel' fu)], .int .i64 0]) (by simp [results, Try.results25, go_sem, r0, r1, r2]) rfl ⟨a', cap', by rw [HC0.out], ?_, ?_⟩
    · exact (hres.kept (fun k h1 h2 => three_other w2 _ _ _ (by omega))).base (by omega)
    · exact hbw2.trans (three_below w2 _ _ _ (by omega))
end Go.Proofs.Ytgennghhneckeaa
