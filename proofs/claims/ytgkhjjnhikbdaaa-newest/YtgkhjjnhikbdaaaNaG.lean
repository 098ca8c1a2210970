import Derived.Test.YtgkhjjnhikbdaaaNaF
import Derived.Deep.DeepCutAuto
namespace Go.Proofs.Ytgkhjjnhikbdaaa
open Go.RowKit Go.Maps
set_option linter.unusedVariables false
set_option linter.unusedSimpArgs false

/-- How much a list of lists counts. -/
def bulkSS (L : List LV) : Nat := (L.map fun l => l.xs.length + bulkE l.xs).sum
theorem bulkSS_snoc (L : List LV) (k : Nat) (h : k < L.length) : bulkSS (L.take (k + 1)) = bulkSS (L.take k) + ((L.getD k lv0).xs.length + bulkE (L.getD k lv0).xs) := by
  have e : L.take (k + 1) = L.take k ++ [L.getD k lv0] := by
    rw [List.take_add_one, List.getElem?_eq_getElem h]
    simp [List.getD, h]
  rw [e]
  simp [bulkSS]
theorem bulkSS_all : ∀ L : List LV, (allE L).length ≤ bulkSS L
  | [] => by simp [allE]
  | l :: L => by
    have h := bulkSS_all L
    have e1 : allE (l :: L) = l.xs ++ allE L := rfl
    have e2 : bulkSS (l :: L) = l.xs.length + bulkE l.xs + bulkSS L := by simp [bulkSS]
    rw [e1, e2, List.length_append]; omega
def FitsSS (L : List LV) : Prop := ∀ i, i < L.length → FitsE (L.getD i lv0).xs ∧ (L.getD i lv0).xs.length ≤ maxLen
set_option maxRecDepth 100000 in
set_option maxHeartbeats 2000000 in
theorem szEntrySS_any (a : Option Addr) (cap : Nat) (L : List LV) (w : World) (hx : LieSS w a L) (hf : FitsSS L) (hlen : L.length ≤ maxLen) :
    Calls Try.prog 5 #[.slice a L.length cap, .int .i64 1048576] w fun e w' =>
      (∃ r : Int, e = .returned (.int .i64 r) ∧ (r = -1 ∨ (0 ≤ r ∧ r = 1048576 - L.length - bulkSS L))) ∧ Below w.heap.size w w' := by
  unfold maxLen at hlen
  have HX := hdN hx
  have HFi := hdN hf
  clear hx hf
  by_cases hneg : (1048576 : Int) - (L.length : Int) < 0
  · go_enter Try.func5, Try.ntmps5
    go_wp2
    go_ret
    exact ⟨⟨-1, rfl, .inl rfl⟩, Below.refl _ _⟩
  · go_enter Try.func5, Try.ntmps5
    go_wp2
    go_loopw [1, 5] (fun t i wr => ∃ k : Nat, k ≤ L.length ∧ i = .int .i64 k ∧ 0 ≤ 1048576 - (L.length : Int) - bulkSS (L.take k) ∧ t = .int .i64 (1048576 - (L.length : Int) - bulkSS (L.take k)) ∧ Below w.heap.size w wr) (fun _ i _ => L.length - (intOf i).toNat)
    case atStart => exact ⟨0, Nat.zero_le _, rfl, by simp [bulkSS]; omega, by simp [bulkSS], Below.refl _ _⟩
    case round =>
      obtain ⟨k, hk, rfl, hge, rfl, hb⟩ := hrel
      by_cases hlt : k < L.length
      · obtain ⟨b, off, rfl, hbl, c0, hE⟩ := (HX.out.below hb).at hlt
        have hfk := HFi.out k hlt
        have HS : Hid (bulkSS (L.take (k + 1)) = bulkSS (L.take k) + ((L.getD k lv0).xs.length + bulkE (L.getD k lv0).xs)) := bulkSS_snoc L k hlt
        generalize L.getD k lv0 = f at *
        have HC := hdN (szEntryS_any f.a f.cap f.xs (1048576 - (L.length : Int) - bulkSS (L.take k)) wr hE hfk.1 hfk.2 hge (by omega))
        have HB := hdN hb
        clear hE hfk hb
        go_wp2_with fail
        refine HC.out.mono ?_
        rintro e w1 ⟨⟨r, rfl, hr1, hr2⟩, hb1⟩
        have hb2 := hdN (HB.out.trans (hb1.mono HB.out.size))
        clear hb1 HB HC
        rcases hr2 with rfl | ⟨hr0, hr⟩
        · go_wp2
          go_ret
          exact ⟨⟨-1, rfl, .inl rfl⟩, hb2.out⟩
        · have HE : Hid (1048576 - (L.length : Int) - bulkSS (L.take (k + 1)) = r) := by show _ = _; rw [HS.out, hr]; omega
          clear hr
          go_wp2
          go_roundw
          case rel => exact ⟨k + 1, by omega, by go_num, by rw [HE.out]; exact hr0, by rw [HE.out], hb2.out⟩
          case measure => simp [intOf]; omega
      · obtain rfl : k = L.length := by omega
        rw [List.take_length] at hge ⊢
        go_wp2
        go_ret
        exact ⟨⟨_, rfl, .inr ⟨hge, rfl⟩⟩, hb⟩
/-- Lists that were copied: the outer row in block G, each list a row of its own between N and M. -/
structure CopyS (w : World) (N M G n : Nat) (L : List LV) : Prop where
  outer : ∃ arr : Array Value, w.heap[G]? = some (.cells arr 24 (0, 0)) ∧ arr.size = n ∧ L.length ≤ n ∧ ∀ i, i < L.length → arr[i]? = some (.slice (L.getD i lv0).a (L.getD i lv0).xs.length (L.getD i lv0).cap)
  rows : ∀ i, i < L.length → ∃ g, (L.getD i lv0).a = some ⟨g, 0, none⟩ ∧ N ≤ g ∧ g < M ∧ RowE w g (L.getD i lv0).xs.length (L.getD i lv0).xs (L.getD i lv0).xs.length
  dis : ∀ i j, i < j → j < L.length → (L.getD i lv0).a ≠ (L.getD j lv0).a
theorem CopyS.below {w w' : World} {N M G n : Nat} {L : List LV} (h : CopyS w N M G n L) (hb : Below w.heap.size w w') : CopyS w' N M G n L := by
  obtain ⟨⟨arr, h1, h2, h3, h4⟩, h5, h6⟩ := h
  refine ⟨⟨arr, (hb.block _ (heap_lt h1)).trans h1, h2, h3, h4⟩, fun i hi => ?_, h6⟩
  obtain ⟨g, e1, e2, e3, e4⟩ := h5 i hi
  exact ⟨g, e1, e2, e3, e4.block (hb.block _ e4.lt)⟩
theorem RowE.lie {w : World} {g : Nat} {xs : List En} (h : RowE w g xs.length xs xs.length) : LieE w (some ⟨g, 0, none⟩) xs := ResE.lie (base := 0) (.inr ⟨g, rfl, Nat.zero_le _, h⟩)
theorem CopyS.lie {w : World} {N M G n : Nat} {L : List LV} (h : CopyS w N M G n L) : LieSS w (some ⟨G, 0, none⟩) L := by
  obtain ⟨⟨arr, h1, h2, h3, h4⟩, h5, -⟩ := h
  refine .inr ⟨G, 0, rfl, heap_lt h1, fun i hi => ⟨?_, ?_⟩⟩
  · have := h4 i hi
    simpa [World.cell?, h1] using this
  · obtain ⟨g, e1, e2, e3, e4⟩ := h5 i hi
    rw [e1]; exact e4.lie
theorem lists_info : (Try.prog.info? 24).map (fun i => (i.zero, i.size, i.bytes)) = some (some (.slice none 0 0), 1, 24) := by kernel_rfl
theorem make_lists (n : Nat) (h : n ≤ 1048576) (w : World) : (Instr.makeSlice 26 (.int .i64 (n : Int)) (.int .i64 (n : Int))).run Try.prog w = .ok (.slice (some ⟨w.heap.size, 0, none⟩) n n) (w.alloc (.cells (madeCells #[.slice none 0 0] n) 24)) := by
  have hi := lists_info
  cases hj : Try.prog.info? 24 with
  | none => rw [hj] at hi; cases hi
  | some i =>
    rw [hj] at hi
    simp only [Option.map_some, Option.some.injEq, Prod.mk.injEq] at hi
    obtain ⟨hz, hs, hb⟩ := hi
    have := run_make (P := Try.prog) w 26 24 i _ Try.underlying26 hj hz .i64 .i64 (n : Int) (n : Int) (by omega) (Int.le_refl _) (by rw [hb]; omega) (by omega)
    rw [this, hs]
    simp [Value.cells]
theorem getD_snocL (L : List LV) (c : LV) (p : Nat) : (L ++ [c]).getD p lv0 = if p < L.length then L.getD p lv0 else if p = L.length then c else lv0 := by
  rw [List.getD_eq_getElem?_getD, List.getElem?_append]
  by_cases h : p < L.length
  · rw [if_pos h, if_pos h, List.getD_eq_getElem?_getD]
  · rw [if_neg h, if_neg h]
    by_cases e : p = L.length
    · rw [if_pos e, e]; simp
    · rw [if_neg e]
      rw [List.getElem?_eq_none (by simp; omega)]; rfl
theorem CopyS.snoc {w w1 : World} {N M M' G n : Nat} {L : List LV} {g : Nat} {xs : List En} (h : CopyS w N M G n L) (hk : L.length < n) (hb : Below w.heap.size w w1) (hr : RowE w1 g xs.length xs xs.length) (hN : N ≤ g) (hg : g < M') (hM : M ≤ M') (hG : g ≠ G) (hgw : w.heap.size ≤ g) :
    CopyS (w1.setCell ⟨G, L.length, none⟩ (.slice (some ⟨g, 0, none⟩) xs.length xs.length)) N M' G n (L ++ [⟨some ⟨g, 0, none⟩, xs.length, xs⟩]) := by
  have hrow0 := h.rows
  obtain ⟨⟨arr, h1, h2, h3, h4⟩, h5, h6⟩ := h.below hb
  have hO : OnlyG G w1 (w1.setCell ⟨G, L.length, none⟩ (.slice (some ⟨g, 0, none⟩) xs.length xs.length)) := OnlyG.set _ _ _
  have e1 := heap_setCell_same w1 G L.length _ _ (.slice (some ⟨g, 0, none⟩) xs.length xs.length) h1
  have hne : ∀ (g' m : Nat) (ys : List En), RowE w1 g' m ys m → g' ≠ G := fun g' m ys ⟨cs, q1, _⟩ e => by
    rw [e, h1] at q1
    injection q1 with q1
    injection q1 with q2 q3
    exact absurd q3 (by decide)
  refine ⟨⟨_, e1, by simpa using h2, by simp; omega, fun i hi => ?_⟩, fun i hi => ?_, fun i j hij hj => ?_⟩
  · rw [getD_snocL]
    by_cases hil : i < L.length
    · rw [if_pos hil, Array.getElem?_setIfInBounds_ne (by omega)]; exact h4 i hil
    · have : i = L.length := by simp at hi; omega
      subst this
      rw [if_neg (by omega), if_pos rfl]
      simp [Array.getElem?_setIfInBounds]; omega
  · rw [getD_snocL]
    by_cases hil : i < L.length
    · rw [if_pos hil]
      obtain ⟨g', q1, q2, q3, q4⟩ := h5 i hil
      exact ⟨g', q1, q2, by omega, q4.block (hO.block g' q4.lt (hne _ _ _ q4))⟩
    · have : i = L.length := by simp at hi; omega
      rw [if_neg (by omega), if_pos this]
      exact ⟨g, rfl, hN, hg, hr.block (hO.block g hr.lt hG)⟩
  · have hjl : j ≤ L.length := by simp at hj; omega
    rw [getD_snocL, getD_snocL, if_pos (by omega)]
    by_cases h7 : j < L.length
    · rw [if_pos h7]; exact h6 i j hij h7
    · rw [if_neg h7, if_pos (by omega)]
      obtain ⟨g', q1, -, -, q4⟩ := hrow0 i (by omega)
      rw [q1]
      intro e
      have := q4.lt
      injection e with e
      injection e with e
      omega
theorem PartE.row {w : World} {g n k : Nat} {xs : List En} (h : PartE w g n xs k) : RowE w g n xs k := by
  obtain ⟨cs, h1, h2, h3⟩ := h
  exact ⟨cs, h1, by omega, h3⟩
set_option maxRecDepth 100000 in
set_option maxHeartbeats 2000000 in
theorem toEntrySS_any (a : Option Addr) (cap : Nat) (L : List LV) (w : World) (hx : LieSS w a L) (hlen : L.length ≤ 1048576) (hl : ∀ i, i < L.length → (L.getD i lv0).xs.length ≤ 1048576) :
    Calls Try.prog 7 #[.slice a L.length cap] w fun e w' =>
      ∃ L', e = .returned (.slice (some ⟨w.heap.size, 0, none⟩) L.length L.length) ∧ L'.length = L.length ∧ allE L' = allE L ∧ (∀ i, i < L.length → (L'.getD i lv0).xs = (L.getD i lv0).xs) ∧ CopyS w' w.heap.size w'.heap.size w.heap.size L.length L' ∧ Below w.heap.size w w' := by
  have HX := hdN hx
  have HLn := hdN hl
  have hmk := make_lists L.length hlen
  have HAll : Hid (∀ L' : List LV, L'.length = L.length → (∀ i, i < L'.length → (L'.getD i lv0).xs = (L.getD i lv0).xs) → allE L' = allE L) := fun L' h1 h2 => by
    unfold allE
    rw [List.flatMap_def, List.flatMap_def]
    congr 1
    apply List.ext_getElem (by simpa using h1)
    intro i h3 h4
    simp only [List.length_map] at h3 h4
    have := h2 i h3
    simpa [List.getD, h3, h4] using this
  clear hx hl
  generalize hn : L.length = n at *
  have HN := hdN hn
  clear hn
  go_enter Try.func7, Try.ntmps7
  go_wp2
  go_loopw [4] (fun i wr => ∃ (k : Nat) (L' : List LV), k ≤ n ∧ i = .int .i64 k ∧ Hid (L'.length = k) ∧ Hid (∀ i, i < L'.length → (L'.getD i lv0).xs = (L.getD i lv0).xs) ∧ Hid (CopyS wr w.heap.size wr.heap.size w.heap.size n L') ∧ Hid (Below w.heap.size w wr)) (fun i _ => n - (intOf i).toNat)
  case atStart => exact ⟨0, [], Nat.zero_le _, rfl, rfl, fun i hi => by simp at hi, ⟨⟨_, World.heap_alloc_new _ _, by simp [madeCells], Nat.zero_le _, fun i hi => by simp at hi⟩, fun i hi => by simp at hi, fun i j _ hj => by simp at hj⟩, (Below.refl _ _).alloc (Nat.le_refl _) _⟩
  case round =>
    clear hmk
    obtain ⟨k, L', hk, rfl, HL, HXs, HC, HB⟩ := hrel
    by_cases hlt : k < n
    · obtain ⟨b, off, rfl, hbl, c0, hE⟩ := (HX.out.below HB.out).at (i := k) (by rw [HN.out]; exact hlt)
      have HSt := hdN (fun (w1 : World) (g : Nat) (M' : Nat) h1 h2 h3 h4 h5 h6 h7 => CopyS.snoc (w1 := w1) (g := g) (M' := M') (xs := (L.getD k lv0).xs) HC.out (by rw [HL.out]; exact hlt) h1 h2 h3 h4 h5 h6 h7)
      have HCl := hdN (toEntryS_any (L.getD k lv0).a (L.getD k lv0).cap (L.getD k lv0).xs wr hE (HLn.out k hlt))
      have HXn : Hid (∀ g : Nat, ∀ i, i < (L' ++ [(⟨some ⟨g, 0, none⟩, (L.getD k lv0).xs.length, (L.getD k lv0).xs⟩ : LV)]).length → ((L' ++ [(⟨some ⟨g, 0, none⟩, (L.getD k lv0).xs.length, (L.getD k lv0).xs⟩ : LV)]).getD i lv0).xs = (L.getD i lv0).xs) := fun g i hi => by
        rw [getD_snocL]
        by_cases h1 : i < L'.length
        · rw [if_pos h1]; exact HXs.out i h1
        · have h2 : i = L'.length := by simp at hi; omega
          rw [if_neg h1, if_pos h2, h2, HL.out]
      obtain ⟨arr, q1, q2, -, -⟩ := HC.out.outer
      rw [HL.out] at HSt
      have HW := hdN q1
      have HWs := hdN q2
      have hwl := heap_lt q1
      clear hE q1 q2
      generalize L.getD k lv0 = f at *
      go_wp2_with fail
      refine HCl.out.mono ?_
      rintro e w1 ⟨g, rfl, hg, hp, hb1⟩
      have HR := hdN hp.row
      have HG := hdN hg
      have HB1 := hdN hb1
      have hq := (hb1.block _ hwl).trans HW.out
      obtain ⟨v0, z0⟩ := row_cell (o := k) hq (by rw [HWs.out]; exact hlt)
      have f0 : w1.frozen? ⟨w.heap.size, k, none⟩ = false := by simp [World.frozen?, hq]
      clear hp hg hb1 HCl hq
      have HF := hdN (HSt.out w1 g w1.heap.size HB1.out HR.out (by have := HG.out; have := HB.out.size; omega) HR.out.lt HB1.out.size (by have := HG.out; omega) HG.out)
      go_wp2
      refine ⟨⟨k + 1, _, by omega, by go_num, ?_, HXn.out g, ?_, ?_⟩, by simp [intOf]; omega⟩
      · show _ = _; simp [HL.out]
      · show CopyS _ _ _ _ _ _
        have := HF.out
        simpa [World.setCell] using this
      · exact (HB.out.trans (HB1.out.mono HB.out.size)).setCell (Nat.le_refl _) _
    · have hkn : k = n := by omega
      subst hkn
      have HAe := hdN (HAll.out L' HL.out HXs.out)
      go_wp2
      go_ret
      exact ⟨L', rfl, HL.out, HAe.out, fun i hi => HXs.out i (by rw [HL.out]; exact hi), HC.out, HB.out⟩
set_option maxRecDepth 100000 in
set_option maxHeartbeats 2000000 in
theorem eqEntrySS_same (a c : Option Addr) (cap cap' : Nat) (L L' : List LV) (w : World) (hx : LieSS w a L) (hy : LieSS w c L') (hll : L'.length = L.length) (hxs : ∀ i, i < L.length → (L'.getD i lv0).xs = (L.getD i lv0).xs) (hlen : L.length ≤ 1048576) (hl : ∀ i, i < L.length → (L.getD i lv0).xs.length ≤ 1048576) :
    Calls Try.prog 10 #[.slice a L.length cap, .slice c L.length cap'] w fun e w' => e = .returned (.bool true) ∧ Below w.heap.size w w' := by
  have HX := hdN hx
  have HY := hdN hy
  have HLL := hdN hll
  have HXs := hdN hxs
  have HLn := hdN hl
  clear hx hy hll hxs hl
  generalize hn : L.length = n at *
  have HN := hdN hn
  clear hn
  go_enter Try.func10, Try.ntmps10
  go_wp2_with fail
  go_loopw [5] (fun i wr => ∃ k : Nat, k ≤ n ∧ i = .int .i64 k ∧ Hid (Below w.heap.size w wr)) (fun i _ => n - (intOf i).toNat)
  case atStart => exact ⟨0, Nat.zero_le _, rfl, Below.refl _ _⟩
  case round =>
    obtain ⟨k, hk, rfl, HB⟩ := hrel
    by_cases hlt : k < n
    · have hlt' : (k : Int) < (n : Int) := by omega
      obtain ⟨b, off, rfl, hbl, c0, hE⟩ := (HX.out.below HB.out).at (i := k) (by rw [HN.out]; exact hlt)
      obtain ⟨b', off', rfl, hbl', d0, hE'⟩ := (HY.out.below HB.out).at (i := k) (by rw [HLL.out]; exact hlt)
      rw [HXs.out k hlt] at d0 hE'
      have HC := hdN (eqEntryS_same (L.getD k lv0).a (L'.getD k lv0).a (L.getD k lv0).cap (L'.getD k lv0).cap (L.getD k lv0).xs wr.drew (hE.below ((Below.refl _ _).drew)) (hE'.below ((Below.refl _ _).drew)) (HLn.out k hlt))
      clear hE hE'
      generalize L.getD k lv0 = f at *
      generalize L'.getD k lv0 = f' at *
      go_wp2_with fail
      go_region_held3 (fun w' => w'.cell? ⟨b, off + k, none⟩ = some (.slice f.a f.xs.length f.cap) ∧ w'.cell? ⟨b', off' + k, none⟩ = some (.slice f'.a f.xs.length f'.cap)) (simp [go_sem, *])
        (first | (go_at_call 9; refine HC.out.mono ?_; rintro e w1 ⟨rfl, hb1⟩; have HG := hdN ((Below.refl wr.heap.size wr).drew.trans hb1); have u0 := (HG.out.cell (p := ⟨b, off + k, none⟩) hbl).trans c0; have u1 := (HG.out.cell (p := ⟨b', off' + k, none⟩) hbl').trans d0; clear hb1))
      have HB1 := hdN (HB.out.trans (HG.out.mono HB.out.size))
      clear c0 d0 u0 u1 HC HG HB
      go_wp2_with fail
      exact ⟨⟨k + 1, by omega, by first | rfl | go_num, HB1⟩, by simp only [intOf]; omega⟩
    · have hlt' : ¬ (k : Int) < (n : Int) := by omega
      go_wp2_with fail
      go_ret
      exact ⟨rfl, HB.out⟩
/-- What lies between N and M may have changed. -/
structure OnlyNM (N M : Nat) (w w' : World) : Prop where
  os : w'.os = w.os
  tape : w'.tape = w.tape
  output : w'.output = w.output
  size : w.heap.size ≤ w'.heap.size
  block : ∀ j, j < w.heap.size → (j < N ∨ M ≤ j) → w'.heap[j]? = w.heap[j]?
theorem OnlyNM.trans {N M : Nat} {a b c : World} (h : OnlyNM N M a b) (k : OnlyNM N M b c) : OnlyNM N M a c :=
  ⟨k.os.trans h.os, k.tape.trans h.tape, k.output.trans h.output, Nat.le_trans h.size k.size, fun j hj hn => (k.block j (Nat.lt_of_lt_of_le hj h.size) hn).trans (h.block j hj hn)⟩
theorem OnlyNM.one {N M g : Nat} {w w' : World} (h : OnlyG g w w') (h1 : N ≤ g) (h2 : g < M) : OnlyNM N M w w' := ⟨h.os, h.tape, h.output, h.size, fun j hj hn => h.block j hj (by omega)⟩
/-- Rows that may be marked. -/
structure RoomS (w : World) (N M G : Nat) (L : List LV) : Prop where
  outer : ∃ arr : Array Value, w.heap[G]? = some (.cells arr 24 (0, 0)) ∧ ∀ i, i < L.length → arr[i]? = some (.slice (L.getD i lv0).a (L.getD i lv0).xs.length (L.getD i lv0).cap)
  rows : ∀ i, i < L.length → ∃ g, (L.getD i lv0).a = some ⟨g, 0, none⟩ ∧ N ≤ g ∧ g < M ∧ RowE w g (L.getD i lv0).xs.length [] 0
  dis : ∀ i j, i < j → j < L.length → (L.getD i lv0).a ≠ (L.getD j lv0).a
theorem CopyS.room {w : World} {N M G n : Nat} {L : List LV} (h : CopyS w N M G n L) : RoomS w N M G L := by
  obtain ⟨⟨arr, h1, h2, h3, h4⟩, h5, h6⟩ := h
  exact ⟨⟨arr, h1, h4⟩, fun i hi => by obtain ⟨g, e1, e2, e3, e4⟩ := h5 i hi; exact ⟨g, e1, e2, e3, e4.zero []⟩, h6⟩
theorem RoomS.mark {w w' : World} {N M G g k : Nat} {L : List LV} {ys : List En} (h : RoomS w N M G L) (hk : k < L.length) (ha : (L.getD k lv0).a = some ⟨g, 0, none⟩) (ho : OnlyG g w w') (hr' : RowE w' g (L.getD k lv0).xs.length ys (L.getD k lv0).xs.length) : RoomS w' N M G L := by
  obtain ⟨⟨arr, h1, h4⟩, h5, h6⟩ := h
  have hne : ∀ (g' k : Nat) (zs : List En) (j : Nat), RowE w g' k zs j → g' ≠ G := fun g' k zs j ⟨cs, q1, _⟩ e => by
    rw [e, h1] at q1
    injection q1 with q1
    injection q1 with q2 q3
    exact absurd q3 (by decide)
  obtain ⟨g0, a1, -, -, a4⟩ := h5 k hk
  rw [ha] at a1
  cases a1
  refine ⟨⟨arr, (ho.block G (heap_lt h1) (fun e => hne _ _ _ _ a4 e.symm)).trans h1, h4⟩, fun i hi => ?_, h6⟩
  obtain ⟨g', e1, e2, e3, e4⟩ := h5 i hi
  refine ⟨g', e1, e2, e3, ?_⟩
  by_cases hik : i = k
  · subst hik
    rw [ha] at e1
    cases e1
    exact hr'.zero []
  · refine e4.block (ho.block g' e4.lt (fun e => ?_))
    subst e
    rcases Nat.lt_or_gt_of_ne hik with h7 | h7
    · exact h6 i k h7 hk (e1.trans ha.symm)
    · exact h6 k i h7 hi (ha.trans e1.symm)
set_option maxRecDepth 100000 in
set_option maxHeartbeats 2000000 in
theorem markEntrySS_any (N M G cap : Nat) (L : List LV) (w : World) (h : RoomS w N M G L) (hlen : L.length ≤ 1048576) (hl : (allE L).length ≤ 1048576) :
    Calls Try.prog 11 #[.slice (some ⟨G, 0, none⟩) L.length cap, .int .i64 1] w fun e w' => (∃ q : Nat, e = .returned (.int .i64 (q : Int))) ∧ OnlyNM N M w w' := by
  have HR := hdN h
  have HBd : Hid (∀ k, k ≤ L.length → (allE (L.take k)).length ≤ 1048576) := fun k _ => Nat.le_trans (allE_len L k) hl
  have HSn := hdN (fun k => allE_take L k)
  clear h hl
  generalize hn : L.length = n at *
  have HN := hdN hn
  clear hn
  go_enter Try.func11, Try.ntmps11
  go_wp2_with fail
  go_loopw [1, 5] (fun v1 v5 wr => ∃ (k q : Nat), k ≤ n ∧ v5 = .int .i64 (k : Int) ∧ v1 = .int .i64 (q : Int) ∧ Hid (q = 1 + 4 * (allE (L.take k)).length) ∧ Hid (RoomS wr N M G L) ∧ Hid (OnlyNM N M w wr)) (fun _ v5 _ => n - (intOf v5).toNat)
  case atStart => exact ⟨0, 1, Nat.zero_le _, rfl, rfl, rfl, HR, ⟨rfl, rfl, rfl, Nat.le_refl _, fun _ _ _ => rfl⟩⟩
  case round =>
    clear HR
    obtain ⟨k, q, hk, rfl, rfl, HQ, HR, HO⟩ := hrel
    by_cases hlt : k < n
    · have hlt' : (k : Int) < (n : Int) := by omega
      obtain ⟨arr, q1, q2⟩ := HR.out.outer
      have c0 : wr.cell? ⟨G, k, none⟩ = some (.slice (L.getD k lv0).a (L.getD k lv0).xs.length (L.getD k lv0).cap) := by
        have := q2 k (by rw [HN.out]; exact hlt)
        simpa [World.cell?, q1] using this
      have hgl := heap_lt q1
      obtain ⟨g, e1, e2, e3, e4⟩ := HR.out.rows k (by rw [HN.out]; exact hlt)
      have hb1 := HBd.out (k + 1) (by omega)
      have HQ1 : Hid (q + 4 * (L.getD k lv0).xs.length = 1 + 4 * (allE (L.take (k + 1))).length) := by show _ = _; rw [HQ.out, HSn.out k hlt, List.length_append]; omega
      have hm : (L.getD k lv0).xs.length ≤ 1048576 := by have h1 := HQ1.out; have h2 := HQ.out; omega
      have hq1 : 1 ≤ q := by have := HQ.out; omega
      have hq2 : q ≤ 900000000 := by have h1 := HQ1.out; omega
      have HC := hdN (markEntryS_row g (L.getD k lv0).cap (L.getD k lv0).xs.length q wr [] (by omega) hq1 hq2 e4)
      have HMk := hdN (fun (w' : World) ho hr => RoomS.mark (w' := w') (g := g) (k := k) (ys := mkE q (L.getD k lv0).xs.length) HR.out (by rw [HN.out]; exact hlt) e1 ho hr)
      rw [e1] at c0
      clear q1 q2 e1 e4 hb1
      generalize L.getD k lv0 = f at *
      go_wp2_with fail
      refine HC.out.mono ?_
      rintro e w1 ⟨rfl, hr1, ho1⟩
      have HR1 := hdN (HMk.out w1 ho1 hr1)
      have HO1 := hdN (HO.out.trans (OnlyNM.one ho1 e2 e3))
      clear hr1 ho1 HC HMk HR HO c0
      go_wp2_with fail
      exact ⟨⟨k + 1, q + 4 * f.xs.length, by omega, by first | rfl | go_num, by first | rfl | go_num, HQ1, HR1, HO1⟩, by simp only [intOf]; omega⟩
    · have hlt' : ¬ (k : Int) < (n : Int) := by omega
      go_wp2_with fail
      go_ret
      exact ⟨⟨q, rfl⟩, HO.out⟩
end Go.Proofs.Ytgkhjjnhikbdaaa
