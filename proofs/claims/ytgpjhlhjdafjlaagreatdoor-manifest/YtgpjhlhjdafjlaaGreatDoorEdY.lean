import Derived.Test.YtgpjhlhjdafjlaaGreatDoorEdX
namespace Go.Proofs.YtgpjhlhjdafjlaaGreatDoor
open Go.RowKit Go.Maps
set_option linter.unusedVariables false
set_option linter.unusedSimpArgs false

/-- The numbers ks lie one behind the other behind a slice's address. -/
def LieI (w : World) (a : Option Addr) (ks : List Int) : Prop :=
  ks = [] ∨ ∃ b off, a = some ⟨b, off, none⟩ ∧ b < w.heap.size ∧ ∀ i, i < ks.length → w.cell? ⟨b, off + i, none⟩ = some (.int .i64 (ks.getD i 0))
theorem LieI.at {w : World} {a : Option Addr} {ks : List Int} (h : LieI w a ks) {i : Nat} (hi : i < ks.length) :
    ∃ b off, a = some ⟨b, off, none⟩ ∧ b < w.heap.size ∧ w.cell? ⟨b, off + i, none⟩ = some (.int .i64 (ks.getD i 0)) := by
  rcases h with rfl | ⟨b, off, rfl, hlt, hc⟩
  · simp at hi
  · exact ⟨b, off, rfl, hlt, hc i hi⟩
theorem LieI.kept {w w' : World} {a : Option Addr} {ks : List Int} (h : LieI w a ks) (hs : w.heap.size ≤ w'.heap.size) (hb : ∀ b off, a = some ⟨b, off, none⟩ → ks ≠ [] → b < w.heap.size → w'.heap[b]? = w.heap[b]?) : LieI w' a ks := by
  by_cases h0 : ks = []
  · exact .inl h0
  rcases h with h | ⟨b, off, rfl, hlt, hc⟩
  · exact absurd h h0
  · exact .inr ⟨b, off, rfl, by omega, fun i hi => (World.cell?_of_block (hb b off rfl h0 hlt)).trans (hc i hi)⟩
theorem LieI.lt {w : World} {a : Option Addr} {ks : List Int} (h : LieI w a ks) : ∀ b off, a = some ⟨b, off, none⟩ → ks ≠ [] → b < w.heap.size := by
  intro b off e h0
  rcases h with h | ⟨b', off', rfl, hlt, hc⟩
  · exact absurd h h0
  · cases e
    exact hlt
theorem LieI.below {w w' : World} {a : Option Addr} {ks : List Int} (h : LieI w a ks) (hb : Below w.heap.size w w') : LieI w' a ks := h.kept hb.size (fun b off _ _ hl => hb.block b hl)

/-- Block g is room for n numbers; the first k of them stand in it. -/
def PartI (w : World) (g n : Nat) (ks : List Int) (k : Nat) : Prop :=
  ∃ cs : Array Value, w.heap[g]? = some (.cells cs 3 (0, 0)) ∧ cs.size = n ∧ ∀ i, i < k → cs[i]? = some (.int .i64 (ks.getD i 0))
theorem PartI.below {w w' : World} {B g n k : Nat} {ks : List Int} (h : PartI w g n ks k) (hb : Below B w w') (hg : g < B) : PartI w' g n ks k := by
  obtain ⟨cs, h1, h2, h3⟩ := h
  exact ⟨cs, (hb.block g hg).trans h1, h2, h3⟩
theorem PartI.lt {w : World} {g n k : Nat} {ks : List Int} (h : PartI w g n ks k) : g < w.heap.size := by
  obtain ⟨cs, h1, _⟩ := h
  by_cases hg : g < w.heap.size
  · exact hg
  · rw [Array.getElem?_eq_none (by omega)] at h1; cases h1
theorem PartI.cell {w : World} {g n k : Nat} {ks : List Int} (h : PartI w g n ks k) (o : Nat) (ho : o < n) : (∃ v, w.cell? ⟨g, o, none⟩ = some v) ∧ w.frozen? ⟨g, o, none⟩ = false := by
  obtain ⟨cs, h1, h2, _⟩ := h
  exact ⟨⟨cs[o]'(by omega), by simp [World.cell?, h1]⟩, by simp [World.frozen?, h1]⟩
theorem PartI.step {w : World} {g n k : Nat} {ks : List Int} (h : PartI w g n ks k) (hk : k < n) {x : Int} (hx : ks.getD k 0 = x) : PartI (w.setCell ⟨g, k, none⟩ (.int .i64 x)) g n ks (k + 1) := by
  obtain ⟨cs, h1, h2, h3⟩ := h
  have e1 := heap_setCell_same w g k cs _ (.int .i64 x) h1
  refine ⟨_, e1, by simp [h2], fun i hi => ?_⟩
  by_cases hik : i = k
  · subst hik
    rw [hx]
    simp [Array.getElem?_setIfInBounds]; omega
  · rw [Array.getElem?_setIfInBounds_ne (by omega)]
    exact h3 i (by omega)
theorem PartI.set {w : World} {g n k : Nat} {ks : List Int} (h : PartI w g n ks k) (o : Nat) (v : Value) : PartI (w.setCell ⟨g, o, none⟩ v) g n ks 0 := by
  obtain ⟨cs, h1, h2, h3⟩ := h
  exact ⟨_, heap_setCell_same w g o cs _ v h1, by simp [h2], fun i hi => absurd hi (Nat.not_lt_zero _)⟩
theorem PartI.lie {w : World} {g : Nat} {ks : List Int} (h : PartI w g ks.length ks ks.length) : LieI w (some ⟨g, 0, none⟩) ks := by
  have hg := h.lt
  obtain ⟨cs, h1, h2, h3⟩ := h
  exact .inr ⟨g, 0, rfl, hg, fun i hi => by simpa [World.cell?, h1] using h3 i hi⟩

theorem int_info : (Tryz.prog.info? 3).map (fun i => (i.zero, i.size, i.bytes)) = some (some (.int .i64 0), 1, 8) := by kernel_rfl
theorem make_ints (n : Nat) (h : n ≤ 1048576) (w : World) : (Instr.makeSlice 33 (.int .i64 (n : Int)) (.int .i64 (n : Int))).run Tryz.prog w = .ok (.slice (some ⟨w.heap.size, 0, none⟩) n n) (w.alloc (.cells (madeCells #[.int .i64 0] n) 3)) := by
  have hi := int_info
  cases hj : Tryz.prog.info? 3 with
  | none => rw [hj] at hi; cases hi
  | some i =>
    rw [hj] at hi
    simp only [Option.map_some, Option.some.injEq, Prod.mk.injEq] at hi
    obtain ⟨hz, hs, hb⟩ := hi
    have := run_make (P := Tryz.prog) w 33 3 i _ Tryz.underlying33 hj hz .i64 .i64 (n : Int) (n : Int) (by omega) (Int.le_refl _) (by rw [hb]; omega) (by omega)
    rw [this, hs]
    simp [Value.cells]

end Go.Proofs.YtgpjhlhjdafjlaaGreatDoor
namespace Go.Proofs.YtgpjhlhjdafjlaaGreatDoor
open Go.RowKit Go.Maps
set_option linter.unusedVariables false
set_option linter.unusedSimpArgs false

/-- An edit, and its value over two rows in memory. -/
structure Ed where
  ad : List Tr
  dl : List Int
  lg : Int
  nx : Int
  la : Int
abbrev edV (a : Option Addr) (ca : Nat) (d : Option Addr) (cd : Nat) (e : Ed) : Value := .agg #[.slice a e.ad.length ca, .slice d e.dl.length cd, .int .i64 e.lg, .int .i64 e.nx, .int .i64 e.la]
def edOk (e : Ed) : Bool := decide (e.ad.length ≤ 1000) && (e.ad.all refOk && (decide (e.dl.length ≤ 1000) && (e.dl.all numOk && (numOk e.lg && (numOk e.nx && decide (0 ≤ e.la ∧ e.la ≤ 72057594037927935))))))
theorem edOk_iff (e : Ed) : edOk e = true ↔ e.ad.length ≤ 1000 ∧ e.ad.all refOk = true ∧ e.dl.length ≤ 1000 ∧ e.dl.all numOk = true ∧ numOk e.lg = true ∧ numOk e.nx = true ∧ (0 ≤ e.la ∧ e.la ≤ 72057594037927935) := by
  unfold edOk
  rw [Bool.and_eq_true, decide_eq_true_eq, Bool.and_eq_true, Bool.and_eq_true, decide_eq_true_eq, Bool.and_eq_true, Bool.and_eq_true, Bool.and_eq_true, decide_eq_true_eq]
theorem edOk_no {e : Ed} (h : ¬ (e.ad.length ≤ 1000 ∧ e.ad.all refOk = true ∧ e.dl.length ≤ 1000 ∧ e.dl.all numOk = true ∧ numOk e.lg = true ∧ numOk e.nx = true ∧ (0 ≤ e.la ∧ e.la ≤ 72057594037927935))) : edOk e = false := by
  cases hr : edOk e with
  | false => rfl
  | true => exact absurd ((edOk_iff e).1 hr) h
theorem all_at {xs : List Tr} {k : Nat} (hk : k < xs.length) (h : refOk (xs.getD k tr0) = false) : xs.all refOk = false := by
  cases hr : xs.all refOk with
  | false => rfl
  | true =>
    have e : xs.getD k tr0 = xs[k] := by simp [List.getD, hk]
    rw [e] at h
    have := List.all_eq_true.1 hr xs[k] (List.getElem_mem hk)
    rw [h] at this
    cases this
theorem allI_at {xs : List Int} {k : Nat} (hk : k < xs.length) (h : numOk (xs.getD k 0) = false) : xs.all numOk = false := by
  cases hr : xs.all numOk with
  | false => rfl
  | true =>
    have e : xs.getD k 0 = xs[k] := by simp [List.getD, hk]
    rw [e] at h
    have := List.all_eq_true.1 hr xs[k] (List.getElem_mem hk)
    rw [h] at this
    cases this
theorem takeI_snoc (xs : List Int) (k : Nat) (h : k < xs.length) : xs.take (k + 1) = xs.take k ++ [xs.getD k 0] := by
  rw [List.take_succ_eq_append_getElem h]
  simp [List.getD, h]
theorem five_cells {w : World} {p : Nat} {t : TypeId} {x0 x1 x2 x3 x4 : Value} (h : w.heap[p]? = some (.cells #[x0, x1, x2, x3, x4] t (0, 0))) :
    w.cell? ⟨p, 0, none⟩ = some x0 ∧ w.cell? ⟨p, 1, none⟩ = some x1 ∧ w.cell? ⟨p, 2, none⟩ = some x2 ∧ w.cell? ⟨p, 3, none⟩ = some x3 ∧ w.cell? ⟨p, 4, none⟩ = some x4 := by
  refine ⟨?_, ?_, ?_, ?_, ?_⟩ <;> simp [World.cell?, h]

set_option maxRecDepth 100000 in
set_option maxHeartbeats 1000000 in
theorem allRefs_any (a : Option Addr) (cap : Nat) (xs : List Tr) (w : World) (hx : LieT w a xs) (hf : FitsT xs) (hlen : xs.length ≤ 1048576) :
    Calls Tryz.prog 37 #[.slice a xs.length cap, .func (.func 66) #[] #[]] w fun e w' => e = .returned (.bool (xs.all refOk)) ∧ Below w.heap.size w w' := by
  generalize hT : xs.all refOk = T
  have HT : Hid (xs.all refOk = T) := hT
  clear hT
  go_enter Tryz.func37, Tryz.ntmps37
  go_wp2_with fail
  go_loopw [9] (fun y wr => ∃ k : Nat, y = .int .i64 k ∧ k ≤ xs.length ∧ (xs.take k).all refOk = true ∧ Below w.heap.size w wr) (fun y _ => xs.length - (intOf y).toNat)
  case atStart => exact ⟨0, rfl, by omega, rfl, Below.refl _ _⟩
  case round =>
    obtain ⟨k, rfl, hk, hall, hb⟩ := hrel
    have hbs := hb.size
    by_cases hlt : k < xs.length
    · obtain ⟨b, off, rfl, hbl, c0, c1, c2, c3⟩ := (hx.below hb).at hlt
      have hfk := hf.at hlt
      have hik : (k : Int) < (xs.length : Int) := by omega
      have HB := hd (fun h => all_at hlt h)
      have HA : Hid (refOk (xs.getD k tr0) = true → (xs.take (k + 1)).all refOk = true) := fun h => by rw [takeT_snoc xs k hlt, List.all_append, hall]; simpa using h
      generalize xs.getD k tr0 = f at *
      obtain ⟨n, l, lo, hi⟩ := f
      have hba : Below w.heap.size w (wr.alloc (.cells #[.int .i64 n, .int .i64 l, .string lo, .string hi] 58)) := hb.alloc hbs _
      have HR := hd (fun w => implRef_any ⟨n, l, lo, hi⟩ w hfk.1 hfk.2)
      go_wp2_with fail
      refine (HR.out _).mono ?_
      rintro e w3 ⟨rfl, hb3⟩
      have hbw3 : Below w.heap.size w w3 := hba.trans (hb3.mono hba.size)
      cases hok : refOk ⟨n, l, lo, hi⟩ with
      | false =>
        have hTe := (HB.out hok).symm.trans HT.out
        subst hTe
        go_wp2_with fail
        go_ret
        exact ⟨rfl, hbw3⟩
      | true =>
        have hAll := HA.out hok
        go_wp2_with fail
        exact ⟨⟨k + 1, by simp, by omega, hAll, hbw3⟩, by simp only [intOf]; omega⟩
    · obtain rfl : k = xs.length := by omega
      rw [List.take_length] at hall
      have hTe := hall.symm.trans HT.out
      subst hTe
      go_wp2_with fail
      go_ret
      exact ⟨rfl, hb⟩

set_option maxRecDepth 100000 in
set_option maxHeartbeats 1000000 in
theorem allNums_any (a : Option Addr) (cap : Nat) (xs : List Int) (w : World) (hx : LieI w a xs) (hlen : xs.length ≤ 1048576) :
    Calls Tryz.prog 54 #[.slice a xs.length cap, .func (.func 67) #[] #[]] w fun e w' => e = .returned (.bool (xs.all numOk)) ∧ Below w.heap.size w w' := by
  generalize hT : xs.all numOk = T
  have HT : Hid (xs.all numOk = T) := hT
  clear hT
  go_enter Tryz.func54, Tryz.ntmps54
  go_wp2_with fail
  go_loopw [9] (fun y wr => ∃ k : Nat, y = .int .i64 k ∧ k ≤ xs.length ∧ (xs.take k).all numOk = true ∧ Below w.heap.size w wr) (fun y _ => xs.length - (intOf y).toNat)
  case atStart => exact ⟨0, rfl, by omega, rfl, Below.refl _ _⟩
  case round =>
    obtain ⟨k, rfl, hk, hall, hb⟩ := hrel
    have hbs := hb.size
    by_cases hlt : k < xs.length
    · obtain ⟨b, off, rfl, hbl, c0⟩ := (hx.below hb).at hlt
      have hik : (k : Int) < (xs.length : Int) := by omega
      have HB := hd (fun h => allI_at hlt h)
      have HA : Hid (numOk (xs.getD k 0) = true → (xs.take (k + 1)).all numOk = true) := fun h => by rw [takeI_snoc xs k hlt, List.all_append, hall]; simpa using h
      generalize xs.getD k 0 = f at *
      go_wp2_with fail
      refine (implNum_any f _).mono ?_
      rintro e w3 ⟨rfl, hb3⟩
      have hbw3 : Below w.heap.size w w3 := hb.trans (hb3.mono hb.size)
      cases hok : numOk f with
      | false =>
        have hTe := (HB.out hok).symm.trans HT.out
        subst hTe
        go_wp2_with fail
        go_ret
        exact ⟨rfl, hbw3⟩
      | true =>
        have hAll := HA.out hok
        go_wp2_with fail
        exact ⟨⟨k + 1, by simp, by omega, hAll, hbw3⟩, by simp only [intOf]; omega⟩
    · obtain rfl : k = xs.length := by omega
      rw [List.take_length] at hall
      have hTe := hall.symm.trans HT.out
      subst hTe
      go_wp2_with fail
      go_ret
      exact ⟨rfl, hb⟩
end Go.Proofs.YtgpjhlhjdafjlaaGreatDoor
