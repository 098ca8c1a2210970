import Derived.Test.YtlchoaofeaglhadWalkS
namespace Go.Proofs.Ytlchoaofeaglhad
open Go.RowKit Go.Maps
set_option linter.unusedVariables false
set_option linter.unusedSimpArgs false

theorem wo_none {xs : List Fl} {s : ByteArray} (h : ∀ f ∈ xs, f.nm.data.toList ≠ s.data.toList) : wo xs s = xs := by
  unfold wo
  rw [List.filter_eq_self]
  intro f hf
  rw [ByteArray.toList_eq, ByteArray.toList_eq]
  have := h f hf
  simpa using this
theorem ok_name {xs : List Fl} (h : ∀ j, j < xs.length → okAt xs j = true) : ∀ f ∈ xs, nmOk f.nm = true := by
  intro f hf
  obtain ⟨i, hi, rfl⟩ := List.getElem_of_mem hf
  have := h i hi
  unfold okAt at this
  simp only [Bool.and_eq_true] at this
  have e : xs.getD i fl0 = xs[i] := by simp [List.getD, hi]
  rw [e] at this
  exact this.1.1
theorem wo_empty {xs : List Fl} (h : ∀ j, j < xs.length → okAt xs j = true) : wo xs ⟨#[]⟩ = xs := by
  refine wo_none fun f hf e => ?_
  have := ok_name h f hf
  unfold nmOk at this
  simp only [Bool.and_eq_true, decide_eq_true_eq] at this
  have e2 : f.nm.data.toList.length = 0 := by rw [e]; rfl
  rw [Array.length_toList] at e2
  have : f.nm.size = f.nm.data.size := rfl
  omega

/-- What l1Begin answers: the code, and the fuel of the directory that goes with it. -/
def bCode (v : Bool) (fu : Int) : Int := if v = true then (if fu = 0 then 8 else 0) else 9

set_option maxRecDepth 100000 in
set_option maxHeartbeats 1000000 in
theorem specBegin_bad (a : Option Addr) (cap : Nat) (xs : List Fl) (q fu : Int) (w : World) (hx : Lie w a xs) (hf : Fits xs) (hlen : xs.length ≤ 1048576) (hd : datas xs ≤ 1048576) (hv : vldB xs q fu = false) :
    Calls Try.prog 31 #[.agg #[.slice a xs.length cap, .int .i64 q, .int .i64 fu]] w fun e w' => e = .returned (.tuple #[.agg #[.slice none 0 0, .int .i64 0, .int .i64 0], .int .i64 9]) ∧ Below w.heap.size w w' := by
  have hb0 : Below w.heap.size w ((w.alloc (.cells #[.slice a xs.length cap, .int .i64 q, .int .i64 fu] 28)).alloc (.cells #[.slice none 0 0, .int .i64 0, .int .i64 0] 28)) := ((Below.refl _ _).alloc (Nat.le_refl _) _).alloc (by simp) _
  go_enter Try.func31, Try.ntmps31
  go_wp2_with fail
  refine (specValid_any a cap xs q fu _ (hx.below hb0) hf hlen hd).mono ?_
  rintro e w1 ⟨rfl, hb1⟩
  rw [hv]
  have hbb := hb0.trans (hb1.mono hb0.size)
  obtain ⟨hc, hz⟩ := bcell hb1
  have hsz := hb1.size
  simp at hsz
  clear hx hb1 hb0
  go_wp2
  refine bodyPost_ret (v := .tuple #[.agg #[.slice none 0 0, .int .i64 0, .int .i64 0], .int .i64 9]) (by simp [results, Try.results31, go_sem, hc]) rfl ⟨rfl, ?_⟩
  exact hbb.trans (three_below w1 _ _ _ (by omega))

set_option maxRecDepth 100000 in
set_option maxHeartbeats 1000000 in
theorem specBegin_ok (a : Option Addr) (cap : Nat) (xs : List Fl) (q fu : Int) (w : World) (hx : Lie w a xs) (hf : Fits xs) (hlen : xs.length ≤ 1048576) (hd : datas xs ≤ 1048576) (hv : vldB xs q fu = true) (hhi : fu ≤ 9223372036854775807) (cd : Int) (HC : Hid (cd = if fu = 0 then 8 else 0)) :
    Calls Try.prog 31 #[.agg #[.slice a xs.length cap, .int .i64 q, .int .i64 fu]] w fun e w' => ∃ a' cap', e = .returned (.tuple #[.agg #[.slice a' xs.length cap', .int .i64 q, .int .i64 (fuel' fu)], .int .i64 cd]) ∧ Res w' w.heap.size a' cap' xs ∧ Below w.heap.size w w' := by
  have hb0 : Below w.heap.size w ((w.alloc (.cells #[.slice a xs.length cap, .int .i64 q, .int .i64 fu] 28)).alloc (.cells #[.slice none 0 0, .int .i64 0, .int .i64 0] 28)) := ((Below.refl _ _).alloc (Nat.le_refl _) _).alloc (by simp) _
  have hwo := wo_empty (vld_head hv).2.1
  have hlo : -1 ≤ fu := by
    have := (vld_head hv).1
    simp [hdOk] at this
    exact this.2
  by_cases h0 : fu = 0
  · subst h0
    have HC8 : Hid (cd = 8) := by show _ = _; rw [HC.out]; rfl
    have hfu : Hid ((if false = true then fuel' 0 else (0 : Int)) = fuel' 0) := by show _ = _; rfl
    clear HC
    go_enter Try.func31, Try.ntmps31
    go_wp2_with fail
    refine (specValid_any a cap xs q 0 _ (hx.below hb0) hf hlen hd).mono ?_
    rintro e w1 ⟨rfl, hb1⟩
    rw [hv]
    have hbb := hb0.trans (hb1.mono hb0.size)
    have hR1 : w1.heap[w.heap.size + 1]? = some (.cells #[.slice none 0 0, .int .i64 0, .int .i64 0] 28 (0, 0)) := by
      rw [hb1.block _ (by simp)]
      have := World.heap_alloc_new (w.alloc (.cells #[.slice a xs.length cap, .int .i64 q, .int .i64 0] 28)) (.cells #[.slice none 0 0, .int .i64 0, .int .i64 0] 28)
      have e : (w.alloc (.cells #[.slice a xs.length cap, .int .i64 q, .int .i64 0] 28)).heap.size = w.heap.size + 1 := by simp
      rw [e] at this
      exact this
    have p0 : w1.cell? ⟨w.heap.size, 0, none⟩ = some (.slice a xs.length cap) := (hb1.cell (p := ⟨w.heap.size, 0, none⟩) (by simp; omega)).trans (by simp)
    have p1 : w1.cell? ⟨w.heap.size, 1, none⟩ = some (.int .i64 q) := (hb1.cell (p := ⟨w.heap.size, 1, none⟩) (by simp; omega)).trans (by simp)
    have p2 : w1.cell? ⟨w.heap.size, 2, none⟩ = some (.int .i64 0) := (hb1.cell (p := ⟨w.heap.size, 2, none⟩) (by simp; omega)).trans (by simp)
    have hsz : w.heap.size + 1 < w1.heap.size := by have := hb1.size; simp at this; omega
    have hxb := hx.below hbb
    clear hx hb1 hb0 hv
    go_wp2_with fail
    refine (copy_any a cap xs q 0 false _ hxb hlen (by omega) (by omega)).mono ?_
    rintro e w2 ⟨a', cap', rfl, hres, hb2⟩
    rw [hwo] at hres ⊢
    rw [hfu.out]
    have hbw2 := hbb.trans (hb2.mono hbb.size)
    obtain ⟨⟨r0, r1, r2⟩, s0, s1, s2⟩ := three_cells ((hb2.block _ hsz).trans hR1)
    have hle := hb2.size
    clear hb2 hxb hbb p0 p1 p2 hR1 hf
    go_wp2
    refine bodyPost_ret (v := .tuple #[.agg #[.slice a' xs.length cap', .int .i64 q, .int .i64 (fuel' 0)], .int .i64 8]) (by simp [results, Try.results31, go_sem, r0, r1, r2]) rfl ⟨a', cap', by rw [HC8.out], ?_, ?_⟩
    · exact (hres.kept (fun k h1 h2 => three_other w2 _ _ _ (by omega))).base (by omega)
    · exact hbw2.trans (three_below w2 _ _ _ (by omega))
  · have HC0 : Hid (cd = 0) := by show _ = _; rw [HC.out, if_neg h0]
    have h0' : (fu == 0) = false := by simpa using h0
    have hfu : Hid ((if true = true then fuel' fu else fu) = fuel' fu) := by show _ = _; rfl
    clear HC h0
    go_enter Try.func31, Try.ntmps31
    go_wp2_with fail
    refine (specValid_any a cap xs q fu _ (hx.below hb0) hf hlen hd).mono ?_
    rintro e w1 ⟨rfl, hb1⟩
    rw [hv]
    have hbb := hb0.trans (hb1.mono hb0.size)
    have hR1 : w1.heap[w.heap.size + 1]? = some (.cells #[.slice none 0 0, .int .i64 0, .int .i64 0] 28 (0, 0)) := by
      rw [hb1.block _ (by simp)]
      have := World.heap_alloc_new (w.alloc (.cells #[.slice a xs.length cap, .int .i64 q, .int .i64 fu] 28)) (.cells #[.slice none 0 0, .int .i64 0, .int .i64 0] 28)
      have e : (w.alloc (.cells #[.slice a xs.length cap, .int .i64 q, .int .i64 fu] 28)).heap.size = w.heap.size + 1 := by simp
      rw [e] at this
      exact this
    have p0 : w1.cell? ⟨w.heap.size, 0, none⟩ = some (.slice a xs.length cap) := (hb1.cell (p := ⟨w.heap.size, 0, none⟩) (by simp; omega)).trans (by simp)
    have p1 : w1.cell? ⟨w.heap.size, 1, none⟩ = some (.int .i64 q) := (hb1.cell (p := ⟨w.heap.size, 1, none⟩) (by simp; omega)).trans (by simp)
    have p2 : w1.cell? ⟨w.heap.size, 2, none⟩ = some (.int .i64 fu) := (hb1.cell (p := ⟨w.heap.size, 2, none⟩) (by simp; omega)).trans (by simp)
    have hsz : w.heap.size + 1 < w1.heap.size := by have := hb1.size; simp at this; omega
    have hxb := hx.below hbb
    clear hx hb1 hb0 hv
    go_wp2_with fail
    refine (copy_any a cap xs q fu true _ hxb hlen hlo hhi).mono ?_
    rintro e w2 ⟨a', cap', rfl, hres, hb2⟩
    rw [hwo] at hres ⊢
    rw [if_pos rfl]
    have hbw2 := hbb.trans (hb2.mono hbb.size)
    obtain ⟨⟨r0, r1, r2⟩, s0, s1, s2⟩ := three_cells ((hb2.block _ hsz).trans hR1)
    have hle := hb2.size
    clear hb2 hxb hbb p0 p1 p2 hR1 hf
    go_wp2
    refine bodyPost_ret (v := .tuple #[.agg #[.slice a' xs.length cap', .int .i64 q, .int .i64 (fuel' fu)], .int .i64 0]) (by simp [results, Try.results31, go_sem, r0, r1, r2]) rfl ⟨a', cap', by rw [HC0.out], ?_, ?_⟩
    · exact (hres.kept (fun k h1 h2 => three_other w2 _ _ _ (by omega))).base (by omega)
    · exact hbw2.trans (three_below w2 _ _ _ (by omega))
end Go.Proofs.Ytlchoaofeaglhad
