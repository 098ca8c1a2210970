import Derived.Test.YtgennghhneckeaaSyH

namespace Go.Proofs.Ytgennghhneckeaa
open Go.RowKit Go.Maps
set_option linter.unusedVariables false
set_option linter.unusedSimpArgs false

/-- What wPick gives. -/
def wp (bs : List UInt8) (i : Nat) : Nat := if bs = [] then i else (bs.getD (i % bs.length) 0).toNat
theorem wp_le (bs : List UInt8) (i : Nat) : wp bs i ≤ i + 255 := by
  unfold wp
  split
  · omega
  · have := (bs.getD (i % bs.length) 0).toNat_lt
    omega
set_option maxRecDepth 100000 in
theorem wPick_any (a : Option Addr) (cap : Nat) (bs : List UInt8) (i : Nat) (w : World) (hx : LieB w a bs) (hl : bs.length ≤ 1048576) (hi : i ≤ 1000000) :
    Calls Try.prog 6 #[.slice a bs.length cap, .int .i64 i] w fun e w' => e = .returned (.int .i64 (wp bs i : Nat)) ∧ Below w.heap.size w w' := by
  by_cases h0 : bs = []
  · have e : wp bs i = i := by unfold wp; rw [if_pos h0]
    rw [e]
    subst h0
    go_enter Try.func6, Try.ntmps6
    go_wp2_with fail
    go_ret
    exact ⟨rfl, Below.refl _ _⟩
  · have hpos : 0 < bs.length := List.length_pos_iff.2 h0
    rcases hx with h | ⟨b, off, rfl, hbl, hc⟩
    · exact absurd h h0
    have c0 := hc (i % bs.length) (Nat.mod_lt _ hpos)
    have e : wp bs i = (bs.getD (i % bs.length) 0).toNat := by unfold wp; rw [if_neg h0]
    have hb := (bs.getD (i % bs.length) 0).toNat_lt
    rw [e]
    generalize (bs.getD (i % bs.length) 0).toNat = x at *
    have hwx : wrap64 (x : Int) = x := by unfold wrap64; omega
    clear hc h0 e
    generalize bs.length = len at *
    have m0 : (0 : Int) ≤ (i : Int) % len := Int.emod_nonneg _ (by omega)
    have m1 : (i : Int) % len < len := Int.emod_lt_of_pos _ (by omega)
    go_enter Try.func6, Try.ntmps6
    go_wp2_with fail
    go_ret
    exact ⟨rfl, Below.refl _ _⟩

set_option maxRecDepth 100000 in
set_option maxHeartbeats 1000000 in
theorem wBegins_true (s h : ByteArray) (w : World) (hs : s.size ≤ 2000000) (h1 : h.size ≤ s.size) (h2 : s.extract 0 h.size = h) :
    Calls Try.prog 12 #[.string s, .string h] w fun e w' => e = .returned (.bool true) ∧ Below w.heap.size w w' := by
  have h1' : (h.size : Int) ≤ (s.size : Int) := by omega
  have h0 : (0 : Int) ≤ (h.size : Int) := by omega
  have he : ((s.extract 0 h.size).toList == h.toList) = true := by rw [h2]; simp
  clear h2 h1
  go_enter Try.func12, Try.ntmps12
  go_wp2_with fail
  go_ret
  exact ⟨by first | rfl | simp [he], Below.refl _ _⟩

/-- What is kept of each file. -/
def kL (bs : List UInt8) (n : Nat) : List Int := (List.range n).map fun i => ((wp bs (1 + i) % 20 : Nat) : Int) - 2
theorem kL_length (bs : List UInt8) (n : Nat) : (kL bs n).length = n := by simp [kL]
theorem kL_succ (bs : List UInt8) (n : Nat) : kL bs (n + 1) = kL bs n ++ [((wp bs (1 + n) % 20 : Nat) : Int) - 2] := by
  unfold kL
  rw [List.range_succ, List.map_append]
  rfl
def cellsI (ks : List Int) : List Value := ks.map fun x => .int .i64 x
theorem cellsI_snoc (ks : List Int) (x : Int) : cellsI (ks ++ [x]) = cellsI ks ++ [.int .i64 x] := by simp [cellsI]
theorem lieI_of_owns {w : World} {B n : Nat} {v : Value} {ks : List Int} (h : w.ownsRow B 3 1 v n (cellsI ks)) : ∃ a cap, v = .slice a ks.length cap ∧ LieI w a ks := by
  obtain ⟨h1, h2⟩ := h
  have hn : n = ks.length := by simp [cellsI] at h1; omega
  subst hn
  rcases h2 with ⟨rfl, h⟩ | ⟨g, cap, cur, rfl, hg, hh, hle, hm, hs, ht⟩
  · have hk : ks = [] := List.eq_nil_of_length_eq_zero h
    subst hk
    exact ⟨none, 0, rfl, .inl rfl⟩
  · refine ⟨_, cap, rfl, .inr ⟨g, 0, rfl, ?_, fun i hi => ?_⟩⟩
    · by_cases hl : g < w.heap.size
      · exact hl
      · rw [Array.getElem?_eq_none (by omega)] at hh; cases hh
    · have e : (cellsI ks)[i]? = some (.int .i64 (ks.getD i 0)) := by
        simp [cellsI, List.getD_eq_getElem?_getD, List.getElem?_eq_getElem hi]
      rw [← ht, List.getElem?_take_of_lt (by omega)] at e
      simp only [World.cell?, hh]
      simpa using e
theorem vld_fits {xs : List Fl} {q fu : Int} (hv : vldB xs q fu = true) : Fits xs := fun f hf => by
  obtain ⟨i, hi, rfl⟩ := List.mem_iff_getElem.1 hf
  have e : xs.getD i fl0 = xs[i] := by rw [List.getD_eq_getElem?_getD, List.getElem?_eq_getElem hi]; rfl
  have h1 := vld_nm hv hi
  have h2 := (vld_head hv).2.2
  have h3 := fm_size (fmAt (vld_rise hv) hi)
  rw [e] at h1 h3
  unfold nmOk at h1
  simp only [Bool.and_eq_true, decide_eq_true_eq] at h1
  simp only at h3
  unfold maxLen
  omega
theorem int_infoS : (Try.prog.info? 3).map (fun i => (i.zero, i.size, i.bytes)) = some (some (.int .i64 0), 1, 8) := by kernel_rfl
theorem cell_firstS (w : World) (x : Value) (t : TypeId) : ∀ j u, [x][j]? = some u → (w.alloc (.cells #[x] t)).cell? ((⟨w.heap.size, 0, none⟩ : Addr).add j) = some u := by
  intro j u hj
  rw [Go.WideShapes.add_plain]
  have hb : (w.alloc (.cells #[x] t)).heap[w.heap.size]? = some (.cells #[x] t (0, 0)) := World.heap_alloc_new _ _
  simp only [World.cell?, hb]
  match j, hj with
  | 0, hj => simpa using hj
theorem ownsI_lit (w : World) (B : Nat) (hB : B ≤ w.heap.size) : (w.alloc (.cells #[] 3)).ownsRow B 3 1 (.slice (some ⟨w.heap.size, 0, none⟩) 0 0) 0 (cellsI []) :=
  ⟨rfl, .inr ⟨w.heap.size, 0, #[], rfl, hB, World.heap_alloc_new _ _, Nat.le_refl _, Nat.zero_le _, rfl, rfl⟩⟩
theorem kL_at (bs : List UInt8) (n i : Nat) (h : i < n) : -2 ≤ (kL bs n).getD i 0 ∧ (kL bs n).getD i 0 ≤ 17 := by
  have e : (kL bs n).getD i 0 = ((wp bs (1 + i) % 20 : Nat) : Int) - 2 := by
    simp [kL, List.getD_eq_getElem?_getD, h]
  rw [e]
  omega
theorem out_cd {xs : List Fl} {q fu : Int} {s ss : ByteArray} (hv : vldB xs q fu = true) : (outAppend xs q fu s ss).cd = apCode xs q fu s ss := by
  unfold outAppend
  rw [if_pos hv]
theorem fuel_le {fu : Int} (h : fu ≤ 5) : fuel' fu ≤ 5 := by
  unfold fuel'
  split <;> omega
theorem fOf_le (a : Nat) : fOf a ≤ 5 := by
  unfold fOf
  split
  · omega
  · split <;> omega
theorem spo_fu (A x : Nat) (xs : List Fl) (q fu : Int) (h : fu ≤ 5) : (spo A x xs q fu).2.2 ≤ 5 := by
  unfold spo
  split <;> first | exact h | (show (-2 : Int) ≤ 5; omega)
theorem anyO_fu (bs : List UInt8) : (anyO bs).2.2 ≤ 5 := by
  unfold anyO
  split
  · exact spo_fu _ _ _ _ _ (fOf_le _)
  · exact fOf_le _
end Go.Proofs.Ytgennghhneckeaa
