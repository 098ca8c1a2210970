import Derived.Test.YtlchoaofeaglhadWalkR
namespace Go.Proofs.Ytlchoaofeaglhad
open Go.RowKit Go.Maps
set_option linter.unusedVariables false
set_option linter.unusedSimpArgs false

theorem Res.sub {w w' : World} {base cap : Nat} {a : Option Addr} {xs : List Fl} (h : Res w base a cap xs) (P : Nat → Prop) (hP : ∀ k, base ≤ k → k < w.heap.size → P k) (hb : ∀ k, P k → w'.heap[k]? = w.heap[k]?) : Res w' base a cap xs :=
  h.kept fun k h1 h2 => hb k (hP k h1 h2)

theorem three_set {w : World} {p : Nat} {t : TypeId} {x0 x1 x2 v0 v1 v2 : Value} (h : w.heap[p]? = some (.cells #[x0, x1, x2] t (0, 0))) :
    (((w.setCell ⟨p, 0, none⟩ v0).setCell ⟨p, 1, none⟩ v1).setCell ⟨p, 2, none⟩ v2).heap[p]? = some (.cells #[v0, v1, v2] t (0, 0)) := by
  have e1 := heap_setCell_same w p 0 _ _ v0 h
  have e2 := heap_setCell_same _ p 1 _ _ v1 e1
  have e3 := heap_setCell_same _ p 2 _ _ v2 e2
  rw [e3]
  simp
theorem three_other (w : World) {p k : Nat} (v0 v1 v2 : Value) (h : k ≠ p) : (((w.setCell ⟨p, 0, none⟩ v0).setCell ⟨p, 1, none⟩ v1).setCell ⟨p, 2, none⟩ v2).heap[k]? = w.heap[k]? := by
  rw [Below.heap_setCell _ _ _ _ h, Below.heap_setCell _ _ _ _ h, Below.heap_setCell _ _ _ _ h]
theorem three_below {B p : Nat} (w : World) (v0 v1 v2 : Value) (h : B ≤ p) : Below B w (((w.setCell ⟨p, 0, none⟩ v0).setCell ⟨p, 1, none⟩ v1).setCell ⟨p, 2, none⟩ v2) :=
  (((Below.refl B w).setCell h v0).setCell h v1).setCell h v2
theorem three_cells {w : World} {p : Nat} {t : TypeId} {x0 x1 x2 : Value} (h : w.heap[p]? = some (.cells #[x0, x1, x2] t (0, 0))) :
    (w.cell? ⟨p, 0, none⟩ = some x0 ∧ w.cell? ⟨p, 1, none⟩ = some x1 ∧ w.cell? ⟨p, 2, none⟩ = some x2) ∧ w.frozen? ⟨p, 0, none⟩ = false ∧ w.frozen? ⟨p, 1, none⟩ = false ∧ w.frozen? ⟨p, 2, none⟩ = false := by
  refine ⟨⟨?_, ?_, ?_⟩, ?_, ?_, ?_⟩ <;> simp [World.cell?, World.frozen?, h]

theorem fuel_pos {st : Bool} {fu r : Int} (h : (if st = true then fuel' fu else fu) = r) (hs : st = true) (hp : 0 < fu) : r = fu - 1 := by rw [← h, if_pos hs]; simp [fuel', hp]
theorem fuel_npos {st : Bool} {fu r : Int} (h : (if st = true then fuel' fu else fu) = r) (hp : ¬ 0 < fu) : r = fu := by
  rw [← h]
  split
  · simp [fuel', hp]
  · rfl

set_option maxRecDepth 100000 in
set_option maxHeartbeats 1000000 in
theorem copy_any (a : Option Addr) (cap : Nat) (xs : List Fl) (q fu : Int) (st : Bool) (w : World) (hx : Lie w a xs) (hlen : xs.length ≤ 1048576) (hlo : -1 ≤ fu) (hhi : fu ≤ 9223372036854775807) :
    Calls Try.prog 62 #[.agg #[.slice a xs.length cap, .int .i64 q, .int .i64 fu], .bool st] w fun e w' =>
      ∃ a' cap', e = .returned (.agg #[.slice a' (wo xs ⟨#[]⟩).length cap', .int .i64 q, .int .i64 (if st = true then fuel' fu else fu)]) ∧ Res w' w.heap.size a' cap' (wo xs ⟨#[]⟩) ∧ Below w.heap.size w w' := by
  have hb0 : Below w.heap.size w ((w.alloc (.cells #[.slice a xs.length cap, .int .i64 q, .int .i64 fu] 28)).alloc (.cells #[.slice none 0 0, .int .i64 0, .int .i64 0] 28)) := ((Below.refl _ _).alloc (Nat.le_refl _) _).alloc (by simp) _
  generalize hr : (if st = true then fuel' fu else fu) = r
  have HR : Hid ((if st = true then fuel' fu else fu) = r) := hr
  clear hr
  go_enter Try.func62, Try.ntmps62
  go_wp2
  go_region_held3 (fun w' => w'.cell? ⟨w.heap.size, 0, none⟩ = some (.slice a xs.length cap) ∧ w'.cell? ⟨w.heap.size, 1, none⟩ = some (.int .i64 q) ∧ w'.cell? ⟨w.heap.size, 2, none⟩ = some (.int .i64 fu)) (simp [go_sem, *, World.cell?_alloc_some])
    (first | (go_at_call 34; refine (without_any a cap xs ⟨#[]⟩ _ ?_ hlen).mono ?_; exact hx.below (by repeat (first | exact hb0 | apply Below.drew | (refine Below.alloc ?_ (by simp; omega) _))); rintro e w1 ⟨a', cap', rfl, hres, hb1⟩; have k0 := (hb1.cell (p := ⟨w.heap.size, 0, none⟩) (by simp; omega)); have k1 := (hb1.cell (p := ⟨w.heap.size, 1, none⟩) (by simp; omega)); have k2 := (hb1.cell (p := ⟨w.heap.size, 2, none⟩) (by simp; omega)); simp at k0 k1 k2; obtain ⟨hc, hz⟩ := bcell hb1; have hsz := hb1.size; simp at hsz))
  · have hw1 : Below w.heap.size w w1 := hb0.drew.trans (hb1.mono (by simp; omega))
    have hsz1 : w.heap.size + 1 < w1.heap.size := by omega
    have hsz2 : w.heap.size < w1.heap.size := by omega
    cases st with
    | false =>
      have HRR : Hid (r = fu) := HR.out.symm.trans (by simp)
      go_wp2
      refine bodyPost_ret (v := .agg #[.slice a' (wo xs ⟨#[]⟩).length cap', .int .i64 q, .int .i64 fu]) (by simp [results, Try.results62, go_sem, hc, hsz1]) rfl ⟨a', cap', by rw [HRR.out], ?_, ?_⟩
      · refine (hres.kept (fun k h1 h2 => ?_)).base (by simp; omega)
        simp at h1
        rw [Below.heap_alloc _ _ _ (by simpa using h2)]
        exact three_other w1 _ _ _ (by omega)
      · exact (hw1.trans (three_below w1 _ _ _ (by omega))).alloc (by simp; omega) _
    | true =>
      by_cases hpos : 0 < fu
      · have HRR : Hid (r = fu - 1) := fuel_pos HR.out rfl hpos
        go_wp2
        refine bodyPost_ret (v := .agg #[.slice a' (wo xs ⟨#[]⟩).length cap', .int .i64 q, .int .i64 (fu - 1)]) (by simp [results, Try.results62, go_sem, hc, hsz1]) rfl ⟨a', cap', by rw [HRR.out], ?_, ?_⟩
        · refine (hres.kept (fun k h1 h2 => ?_)).base (by simp; omega)
          simp at h1
          rw [Below.heap_alloc _ _ _ (by simpa using h2)]
          exact three_other w1 _ _ _ (by omega)
        · exact (hw1.trans (three_below w1 _ _ _ (by omega))).alloc (by simp; omega) _
      · have HRR : Hid (r = fu) := fuel_npos HR.out hpos
        go_wp2
        refine bodyPost_ret (v := .agg #[.slice a' (wo xs ⟨#[]⟩).length cap', .int .i64 q, .int .i64 fu]) (by simp [results, Try.results62, go_sem, hc, hsz1]) rfl ⟨a', cap', by rw [HRR.out], ?_, ?_⟩
        · refine (hres.kept (fun k h1 h2 => ?_)).base (by simp; omega)
          simp at h1
          rw [Below.heap_alloc _ _ _ (by simpa using h2)]
          exact three_other w1 _ _ _ (by omega)
        · exact (hw1.trans (three_below w1 _ _ _ (by omega))).alloc (by simp; omega) _
  · have hw1 : Below w.heap.size w w1 := (hb0.drew.alloc (by simp; omega) _).trans (hb1.mono (by simp; omega))
    have hP1 : w1.heap[w.heap.size + 2]? = some (.cells #[.slice none 0 0, .int .i64 0, .int .i64 0] 28 (0, 0)) := by
      rw [hb1.block _ (by simp)]
      have := World.heap_alloc_new ((w.alloc (.cells #[.slice a xs.length cap, .int .i64 q, .int .i64 fu] 28)).alloc (.cells #[.slice none 0 0, .int .i64 0, .int .i64 0] 28)) (.cells #[.slice none 0 0, .int .i64 0, .int .i64 0] 28)
      have e : ((w.alloc (.cells #[.slice a xs.length cap, .int .i64 q, .int .i64 fu] 28)).alloc (.cells #[.slice none 0 0, .int .i64 0, .int .i64 0] 28)).heap.size = w.heap.size + 2 := by simp
      rw [e] at this
      exact this
    have hR1 : w1.heap[w.heap.size + 1]? = some (.cells #[.slice none 0 0, .int .i64 0, .int .i64 0] 28 (0, 0)) := by
      rw [hb1.block _ (by simp)]
      have := World.heap_alloc_new (w.alloc (.cells #[.slice a xs.length cap, .int .i64 q, .int .i64 fu] 28)) (.cells #[.slice none 0 0, .int .i64 0, .int .i64 0] 28)
      have e : (w.alloc (.cells #[.slice a xs.length cap, .int .i64 q, .int .i64 fu] 28)).heap.size = w.heap.size + 1 := by simp
      rw [e] at this
      exact (Below.heap_alloc _ _ _ (by simp)).trans this
    have hP := three_set (v0 := .slice a' (wo xs ⟨#[]⟩).length cap') (v1 := .int .i64 q) (v2 := .int .i64 fu) hP1
    have hR := (three_other w1 (p := w.heap.size + 2) (k := w.heap.size + 1) (.slice a' (wo xs ⟨#[]⟩).length cap') (.int .i64 q) (.int .i64 fu) (by omega)).trans hR1
    have hoth := fun k => three_other w1 (p := w.heap.size + 2) (k := k) (.slice a' (wo xs ⟨#[]⟩).length cap') (.int .i64 q) (.int .i64 fu)
    have hwW := hw1.trans (three_below w1 (p := w.heap.size + 2) (B := w.heap.size) (.slice a' (wo xs ⟨#[]⟩).length cap') (.int .i64 q) (.int .i64 fu) (by omega))
    have hres2 : Res (((w1.setCell ⟨w.heap.size + 2, 0, none⟩ (.slice a' (wo xs ⟨#[]⟩).length cap')).setCell ⟨w.heap.size + 2, 1, none⟩ (.int .i64 q)).setCell ⟨w.heap.size + 2, 2, none⟩ (.int .i64 fu)) (w.heap.size + 3) a' cap' (wo xs ⟨#[]⟩) := by
      refine (hres.kept (fun k h1 h2 => ?_)).base (by simp)
      simp at h1
      exact hoth k (by omega)
    have hszW : w.heap.size + 3 ≤ (((w1.setCell ⟨w.heap.size + 2, 0, none⟩ (.slice a' (wo xs ⟨#[]⟩).length cap')).setCell ⟨w.heap.size + 2, 1, none⟩ (.int .i64 q)).setCell ⟨w.heap.size + 2, 2, none⟩ (.int .i64 fu)).heap.size := by simp; omega
    rw [show w.heap.size + 1 + 1 = w.heap.size + 2 from rfl]
    clear hb1 hc hz hres hP1 hR1 hoth hw1 k0 k1 k2 hsz hb0
    generalize ((w1.setCell ⟨w.heap.size + 2, 0, none⟩ (.slice a' (wo xs ⟨#[]⟩).length cap')).setCell ⟨w.heap.size + 2, 1, none⟩ (.int .i64 q)).setCell ⟨w.heap.size + 2, 2, none⟩ (.int .i64 fu) = W at *
    obtain ⟨⟨p0, p1, p2⟩, y0, y1, y2⟩ := three_cells hP
    obtain ⟨⟨r0, r1, r2⟩, s0, s1, s2⟩ := three_cells hR
    clear hP hR
    cases st with
    | false =>
      have HRR : Hid (r = fu) := HR.out.symm.trans (by simp)
      go_wp2
      refine bodyPost_ret (v := .agg #[.slice a' (wo xs ⟨#[]⟩).length cap', .int .i64 q, .int .i64 fu]) (by simp [results, Try.results62, go_sem, r0, r1, r2]) rfl ⟨a', cap', by rw [HRR.out], ?_, ?_⟩
      · exact (hres2.kept (fun k h1 h2 => three_other W _ _ _ (by omega))).base (by omega)
      · exact hwW.trans (three_below W _ _ _ (by omega))
    | true =>
      by_cases hpos : 0 < fu
      · have HRR : Hid (r = fu - 1) := fuel_pos HR.out rfl hpos
        go_wp2
        refine bodyPost_ret (v := .agg #[.slice a' (wo xs ⟨#[]⟩).length cap', .int .i64 q, .int .i64 (fu - 1)]) (by simp [results, Try.results62, go_sem, r0, r1, r2]) rfl ⟨a', cap', by rw [HRR.out], ?_, ?_⟩
        · exact (hres2.kept (fun k h1 h2 => (three_other _ _ _ _ (by omega)).trans (Below.heap_setCell _ _ _ _ (by dsimp only; omega)))).base (by omega)
        · exact (hwW.setCell (by dsimp only; omega) _).trans (three_below _ _ _ _ (by omega))
      · have HRR : Hid (r = fu) := fuel_npos HR.out hpos
        go_wp2
        refine bodyPost_ret (v := .agg #[.slice a' (wo xs ⟨#[]⟩).length cap', .int .i64 q, .int .i64 fu]) (by simp [results, Try.results62, go_sem, r0, r1, r2]) rfl ⟨a', cap', by rw [HRR.out], ?_, ?_⟩
        · exact (hres2.kept (fun k h1 h2 => three_other W _ _ _ (by omega))).base (by omega)
        · exact hwW.trans (three_below W _ _ _ (by omega))
end Go.Proofs.Ytlchoaofeaglhad
