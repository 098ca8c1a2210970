import Derived.Test.YtgkhjjnhikbdaaaEntA

namespace Go.Proofs.Ytgkhjjnhikbdaaa
open Go.RowKit Go.Maps
set_option linter.unusedVariables false
set_option linter.unusedSimpArgs false

/-- Block g of the world is n entries' room, none of it frozen; the first k of the entries xs stand in it. -/
def PartE (w : World) (g n : Nat) (xs : List En) (k : Nat) : Prop :=
  ∃ cs : Array Value, w.heap[g]? = some (.cells cs 40 (0, 0)) ∧ cs.size = n * 4 ∧
    ∀ i, i < k → cs[i * 4]? = some (.string (xs.getD i en0).ky) ∧ cs[i * 4 + 1]? = some (.int .i64 (xs.getD i en0).sq) ∧ cs[i * 4 + 2]? = some (.int .i64 (xs.getD i en0).kd) ∧ cs[i * 4 + 3]? = some (.string (xs.getD i en0).vl)
theorem PartE.below {w w' : World} {B g n k : Nat} {xs : List En} (h : PartE w g n xs k) (hb : Below B w w') (hg : g < B) : PartE w' g n xs k := by
  obtain ⟨cs, h1, h2, h3⟩ := h
  exact ⟨cs, (hb.block g hg).trans h1, h2, h3⟩
theorem PartE.cell {w : World} {g n k : Nat} {xs : List En} (h : PartE w g n xs k) (o : Nat) (ho : o < n * 4) : ∃ v, w.cell? ⟨g, o, none⟩ = some v := by
  obtain ⟨cs, h1, h2, _⟩ := h
  exact ⟨cs[o]'(by omega), by simp [World.cell?, h1]⟩
theorem PartE.frozen {w : World} {g n k : Nat} {xs : List En} (h : PartE w g n xs k) (o : Nat) : w.frozen? ⟨g, o, none⟩ = false := by
  obtain ⟨cs, h1, _⟩ := h
  simp [World.frozen?, h1]
theorem iEntry_info : (Try.prog.info? 40).map (fun i => (i.zero, i.size, i.bytes)) = some (some (.agg #[.string ByteArray.empty, .int .i64 0, .int .i64 0, .string ByteArray.empty]), 4, 48) := by kernel_rfl
theorem make_entries (n : Nat) (h : n ≤ 1048576) (w : World) : (Instr.makeSlice 24 (.int .i64 (n : Int)) (.int .i64 (n : Int))).run Try.prog w = .ok (.slice (some ⟨w.heap.size, 0, none⟩) n n) (w.alloc (.cells (madeCells #[.string ByteArray.empty, .int .i64 0, .int .i64 0, .string ByteArray.empty] (n * 4)) 40)) := by
  have hi := iEntry_info
  cases hj : Try.prog.info? 40 with
  | none => rw [hj] at hi; cases hi
  | some i =>
    rw [hj] at hi
    simp only [Option.map_some, Option.some.injEq, Prod.mk.injEq] at hi
    obtain ⟨hz, hs, hb⟩ := hi
    have := run_make (P := Try.prog) w 24 40 i _ Try.underlying24 hj hz .i64 .i64 (n : Int) (n : Int) (by omega) (Int.le_refl _) (by rw [hb]; omega) (by omega)
    rw [this, hs]
    simp [Value.cells]
theorem World.heap_alloc_new (w : World) (o : Obj) : (w.alloc o).heap[w.heap.size]? = some o := by
  show (w.heap.push o)[w.heap.size]? = _
  simp

/-- One entry more, stored cell by cell. -/
theorem PartE.step {w : World} {g n k : Nat} {xs : List En} (h : PartE w g n xs k) (hk : k < n) {f : En} (hf : xs.getD k en0 = f) :
    PartE ((((w.setCell ⟨g, k * 4, none⟩ (.string f.ky)).setCell ⟨g, k * 4 + 1, none⟩ (.int .i64 f.sq)).setCell ⟨g, k * 4 + 2, none⟩ (.int .i64 f.kd)).setCell ⟨g, k * 4 + 3, none⟩ (.string f.vl)) g n xs (k + 1) := by
  obtain ⟨cs, h1, h2, h3⟩ := h
  have e1 := heap_setCell_same w g (k * 4) cs _ (.string f.ky) h1
  have e2 := heap_setCell_same _ g (k * 4 + 1) _ _ (.int .i64 f.sq) e1
  have e3 := heap_setCell_same _ g (k * 4 + 2) _ _ (.int .i64 f.kd) e2
  have e4 := heap_setCell_same _ g (k * 4 + 3) _ _ (.string f.vl) e3
  refine ⟨_, e4, by simp [h2], fun i hi => ?_⟩
  by_cases hik : i = k
  · subst hik
    rw [hf]
    refine ⟨?_, ?_, ?_, ?_⟩ <;> simp [Array.getElem?_setIfInBounds] <;> omega
  · obtain ⟨a0, a1, a2, a3⟩ := h3 i (by omega)
    refine ⟨?_, ?_, ?_, ?_⟩
    · rw [Array.getElem?_setIfInBounds_ne (by omega), Array.getElem?_setIfInBounds_ne (by omega), Array.getElem?_setIfInBounds_ne (by omega), Array.getElem?_setIfInBounds_ne (by omega)]; exact a0
    · rw [Array.getElem?_setIfInBounds_ne (by omega), Array.getElem?_setIfInBounds_ne (by omega), Array.getElem?_setIfInBounds_ne (by omega), Array.getElem?_setIfInBounds_ne (by omega)]; exact a1
    · rw [Array.getElem?_setIfInBounds_ne (by omega), Array.getElem?_setIfInBounds_ne (by omega), Array.getElem?_setIfInBounds_ne (by omega), Array.getElem?_setIfInBounds_ne (by omega)]; exact a2
    · rw [Array.getElem?_setIfInBounds_ne (by omega), Array.getElem?_setIfInBounds_ne (by omega), Array.getElem?_setIfInBounds_ne (by omega), Array.getElem?_setIfInBounds_ne (by omega)]; exact a3
theorem partE_made (w : World) (n : Nat) (xs : List En) (z : Array Value) : PartE (w.alloc (.cells (madeCells z (n * 4)) 40)) w.heap.size n xs 0 :=
  ⟨madeCells z (n * 4), World.heap_alloc_new _ _, by simp [madeCells], fun i hi => absurd hi (Nat.not_lt_zero _)⟩

set_option maxHeartbeats 400000 in
theorem toEntryS_any (a : Option Addr) (cap : Nat) (xs : List En) (w : World) (hx : LieE w a xs) (hlen : xs.length ≤ 1048576) :
    Calls Try.prog 19 #[.slice a xs.length cap] w fun e w' =>
      ∃ g, e = .returned (.slice (some ⟨g, 0, none⟩) xs.length xs.length) ∧ w.heap.size ≤ g ∧ PartE w' g xs.length xs xs.length ∧ Below w.heap.size w w' := by
  have hmk := make_entries xs.length hlen
  generalize hz : (#[.string ByteArray.empty, .int .i64 0, .int .i64 0, .string ByteArray.empty] : Array Value) = z at hmk
  go_enter Try.func19, Try.ntmps19
  go_wp2
  go_loopw [4] (fun i wr => ∃ k : Nat, k ≤ xs.length ∧ i = .int .i64 k ∧ PartE wr w.heap.size xs.length xs k ∧ w.heap.size < wr.heap.size ∧ Below w.heap.size w wr) (fun i _ => xs.length - (intOf i).toNat)
  case atStart => exact ⟨0, Nat.zero_le _, rfl, partE_made _ _ _ _, by simp, (Below.refl _ _).alloc (Nat.le_refl _) _⟩
  case round =>
    obtain ⟨k, hk, rfl, hp, hg, hb⟩ := hrel
    by_cases hlt : k < xs.length
    · obtain ⟨b, off, rfl, hbl, c0, c1, c2, c3⟩ := (hx.below hb).at hlt
      clear hmk
      generalize hf : xs.getD k en0 = f at *
      have HF : Hid (xs.getD k en0 = f) := hf
      clear hf
      go_wp2_with fail
      refine (toEntry_any f _).mono ?_
      rintro e w1 ⟨rfl, hb1⟩
      have hp1 := hp.below hb1 hg
      have hsz := hb1.size
      obtain ⟨v0, e0⟩ := hp1.cell (k * 4) (by omega)
      obtain ⟨v1, e1⟩ := hp1.cell (k * 4 + 1) (by omega)
      obtain ⟨v2, e2⟩ := hp1.cell (k * 4 + 2) (by omega)
      obtain ⟨v3, e3⟩ := hp1.cell (k * 4 + 3) (by omega)
      have z0 := hp1.frozen (k * 4)
      have z1 := hp1.frozen (k * 4 + 1)
      have z2 := hp1.frozen (k * 4 + 2)
      have z3 := hp1.frozen (k * 4 + 3)
      have hst := hp1.step hlt HF.out
      go_wp2
      exact ⟨⟨k + 1, by omega, by go_num, hst, by simp; omega, ((((hb.trans (hb1.mono hb.size)).setCell (Nat.le_refl _) _).setCell (Nat.le_refl _) _).setCell (Nat.le_refl _) _).setCell (Nat.le_refl _) _⟩, by simp [intOf]; omega⟩
    · obtain rfl : k = xs.length := by omega
      go_wp2
      go_ret
      exact ⟨_, rfl, Nat.le_refl _, hp, hb⟩

theorem PartE.lie {w : World} {g : Nat} {xs : List En} (h : PartE w g xs.length xs xs.length) : LieE w (some ⟨g, 0, none⟩) xs := by
  obtain ⟨cs, h1, h2, h3⟩ := h
  refine .inr ⟨g, 0, rfl, ?_, fun i hi => ?_⟩
  · by_cases hg : g < w.heap.size
    · exact hg
    · rw [Array.getElem?_eq_none (by omega)] at h1; cases h1
  · obtain ⟨a0, a1, a2, a3⟩ := h3 i hi
    exact ⟨by simpa [World.cell?, h1] using a0, by simpa [World.cell?, h1] using a1, by simpa [World.cell?, h1] using a2, by simpa [World.cell?, h1] using a3⟩

set_option maxHeartbeats 400000 in
theorem eqEntry_same (f : En) (w : World) :
    Calls Try.prog 24 #[f.agg, f.agg] w fun e w' => e = .returned (.bool true) ∧ Below w.heap.size w w' := by
  obtain ⟨n, s, k, d⟩ := f
  go_enter Try.func24, Try.ntmps24
  go_wp2
  go_ret
  exact ⟨rfl, ((Below.refl _ _).alloc (Nat.le_refl _) _).alloc (by simp) _⟩

set_option maxHeartbeats 400000 in
theorem eqEntryS_same (a c : Option Addr) (cap cap' : Nat) (xs : List En) (w : World) (hx : LieE w a xs) (hy : LieE w c xs) (hlen : xs.length ≤ 1048576) :
    Calls Try.prog 9 #[.slice a xs.length cap, .slice c xs.length cap'] w fun e w' => e = .returned (.bool true) ∧ Below w.heap.size w w' := by
  go_enter Try.func9, Try.ntmps9
  go_wp2
  go_loopw [5] (fun i wr => ∃ k : Nat, k ≤ xs.length ∧ i = .int .i64 k ∧ Below w.heap.size w wr) (fun i _ => xs.length - (intOf i).toNat)
  case atStart => exact ⟨0, Nat.zero_le _, rfl, Below.refl _ _⟩
  case round =>
    obtain ⟨k, hk, rfl, hb⟩ := hrel
    by_cases hlt : k < xs.length
    · obtain ⟨b, off, rfl, hbl, c0, c1, c2, c3⟩ := (hx.below hb).at hlt
      obtain ⟨b', off', rfl, hbl', d0, d1, d2, d3⟩ := (hy.below hb).at hlt
      generalize xs.getD k en0 = f at *
      have i1 : (k : Int) < (xs.length : Int) := by omega
      go_wp2_with fail
      go_region_held3 (fun w' => w'.cell? ⟨b, off + k * 4, none⟩ = some (.string f.ky) ∧ w'.cell? ⟨b, off + k * 4 + 1, none⟩ = some (.int .i64 f.sq) ∧ w'.cell? ⟨b, off + k * 4 + 2, none⟩ = some (.int .i64 f.kd) ∧ w'.cell? ⟨b, off + k * 4 + 3, none⟩ = some (.string f.vl) ∧ w'.cell? ⟨b', off' + k * 4, none⟩ = some (.string f.ky) ∧ w'.cell? ⟨b', off' + k * 4 + 1, none⟩ = some (.int .i64 f.sq) ∧ w'.cell? ⟨b', off' + k * 4 + 2, none⟩ = some (.int .i64 f.kd) ∧ w'.cell? ⟨b', off' + k * 4 + 3, none⟩ = some (.string f.vl)) (simp [go_sem, *]) 
        (first | (go_at_call 24; refine (eqEntry_same f _).mono ?_; rintro e w' ⟨rfl, hb1⟩; have k0 := (hb1.cell (p := ⟨b, _, none⟩) hbl).trans c0; have k1 := (hb1.cell (p := ⟨b, _, none⟩) hbl).trans c1; have k2 := (hb1.cell (p := ⟨b, _, none⟩) hbl).trans c2; have k3 := (hb1.cell (p := ⟨b, _, none⟩) hbl).trans c3; have l0 := (hb1.cell (p := ⟨b', _, none⟩) hbl').trans d0; have l1 := (hb1.cell (p := ⟨b', _, none⟩) hbl').trans d1; have l2 := (hb1.cell (p := ⟨b', _, none⟩) hbl').trans d2; have l3 := (hb1.cell (p := ⟨b', _, none⟩) hbl').trans d3; have hb2 := hb.drew.trans (hb1.mono hb.drew.size)))
      all_goals go_wp2
      all_goals exact ⟨⟨k + 1, by omega, by go_num, hb2⟩, by simp [intOf]; omega⟩
    · go_wp2
      go_ret
      exact ⟨rfl, hb⟩
end Go.Proofs.Ytgkhjjnhikbdaaa
