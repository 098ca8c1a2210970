import Derived.Test.YtgennghhneckeaaWkF

import Derived.Sort.KeysCollected
namespace Go.Proofs.Ytgennghhneckeaa
open Go.RowKit Go.Maps Go.Sort
set_option linter.unusedVariables false
set_option linter.unusedSimpArgs false

/-- The names of the files. -/
def nms (xs : List Fl) : List (List UInt8) := xs.map fun f => f.nm.data.toList

theorem less_lt (a b : List UInt8) : Op.bytesLess a b = true ↔ a < b := by
  induction a generalizing b with
  | nil => cases b <;> simp [Op.bytesLess]
  | cons x a ih =>
    cases b with
    | nil => simp [Op.bytesLess]
    | cons y b => simp [Op.bytesLess, List.cons_lt_cons_iff, ih]

theorem nms_sorted {xs : List Fl} (h : Rise xs) : (nms xs).Pairwise (fun x y => x < y) := by
  rw [List.pairwise_iff_getElem]
  intro i j hi hj hij
  have hj' : j < xs.length := by simpa [nms] using hj
  have := h i j hij hj'
  unfold lessB at this
  rw [ByteArray.toList_eq, ByteArray.toList_eq, less_lt] at this
  have e1 : xs.getD i fl0 = xs[i]'(by omega) := by simp [List.getD, show i < xs.length by omega]
  have e2 : xs.getD j fl0 = xs[j] := by simp [List.getD, hj']
  rw [e1, e2] at this
  simpa [nms] using this

theorem mem_fm {xs : List Fl} {l : List UInt8} : l ∈ nms xs ↔ (fm xs l).isSome = true := by
  induction xs with
  | nil => simp [nms, fm]
  | cons f r ih =>
    have e : nms (f :: r) = f.nm.data.toList :: nms r := rfl
    rw [e, List.mem_cons]
    simp only [fm]
    cases hr : fm r l with
    | some x => simp [ih, hr]
    | none =>
      rw [hr] at ih
      simp at ih
      by_cases hl : l = f.nm.data.toList
      · simp [hl]
      · simp [hl, ih]

/-- The keys of a directory's map, sorted, are the names. -/
theorem keys_sorted {w : World} {mb : Nat} {ys : List Fl} {D : DataW Unit} (hown : w.ownsMap Try.prog 9 contR mb ys.length D)
    (hD : ∀ l, (∀ x, fm ys l = some x → Maps.has D (.string l) = true ∧ ∀ z, D.atKey (.string l) z = contD x.1 x.2) ∧ (fm ys l = none → Maps.has D (.string l) = false))
    (hr : Rise ys) {ss : List (List UInt8)} (hp : ss.Perm (strKeys D)) : ss.mergeSort leB = nms ys := by
  obtain ⟨es, hes, hk⟩ := hown.keysOf
  have htidy := hown.tidy keyed
  have hperm : (nms ys).Perm (strKeys D) := by
    rw [hes]
    refine perm_strKeys ?_ (fun p hp => ?_) ?_ (fun x => ?_)
    · obtain ⟨es', e1, e2⟩ := htidy
      rw [hes] at e1
      cases e1
      exact e2
    · obtain ⟨v, hv⟩ := hk p hp
      obtain ⟨x, _, e, _⟩ := Maps.keyOf_str Try.underlying9 hv
      exact ⟨x, e⟩
    · exact (nms_sorted hr).imp (fun h e => by subst e; exact List.lt_irrefl _ h)
    · rw [mem_fm, ← hes]
      cases hx : fm ys x with
      | none => simp [(hD x).2 hx]
      | some y => simp [((hD x).1 y hx).1]
  rw [mergeSort_of_perm (hp.trans hperm.symm)]
  refine List.mergeSort_of_pairwise ((nms_sorted hr).imp fun h => ?_)
  simp only [leB, decide_eq_true_eq]
  exact List.le_of_lt h

set_option maxRecDepth 100000 in
set_option maxHeartbeats 1000000 in
theorem names_any (g mb : Nat) (l0 l4 q fu : Int) (ys : List Fl) (w : World) (h : Ob w g l0 l4 mb q fu) (hd : Dir w mb ys.length (fm ys)) (hr : Rise ys) (hlen : ys.length ≤ 1048576) :
    Calls Try.prog 42 #[.pointer (some ⟨g, 0, none⟩)] w fun e w' =>
      ∃ a cap, e = .returned (.slice a ys.length cap) ∧ LieN w' a (ys.map Fl.nm) ∧ (∀ b off, a = some ⟨b, off, none⟩ → w.heap.size ≤ b) ∧ Below w.heap.size w w' := by
  obtain ⟨D, hown, hsz, hD⟩ := hd
  obtain ⟨c6, c7, c8, z8⟩ := h.cells
  have hmax : Maps.size D ≤ maxLen := by rw [hsz]; unfold maxLen; omega
  have hby : Maps.size D * 16 ≤ 140737488355328 := by rw [hsz]; omega
  go_enter Try.func42, Try.ntmps42
  go_wp2_with fail
  refine (callsIn_wide.1 (Try.maps_Keys_62 (some mb) w)).mono ?_
  rintro e w1 ⟨rfl, rfl⟩
  go_wp2_with fail
  refine (callsIn_wide.1 (Try.slices_Sorted_keys_61_62 mb ys.length D contR w hown hmax hby)).mono ?_
  rintro e w2 ⟨v, ss, rfl, hS, hrow, hnil, hb⟩
  have hks := keys_sorted hown hD hr hS
  have hmap : (ss.mergeSort (fun x y => decide (x ≤ y))).map encStr = (ys.map Fl.nm).map Value.string := by
    have e : ss.mergeSort (fun x y => decide (x ≤ y)) = nms ys := hks
    rw [e]
    simp [nms, encStr]
  rw [hmap] at hrow
  obtain ⟨-, a, cap, hv, hlie, hbs⟩ := lie_of_owns hrow
  have HB : Hid (∀ b off, a = some ⟨b, off, none⟩ → w.heap.size ≤ b) := fun b off e => by have := hbs b off e; simp at this; omega
  clear hbs
  rw [List.length_map] at hv
  have hbb : Below w.heap.size w w2 := ((Below.refl _ w).alloc (Nat.le_refl _) _).trans (hb.mono (by simp))
  clear hmap hks hrow hS hnil hb hD hown hsz hmax hby
  rw [hv]
  go_wp2
  go_ret
  exact ⟨a, cap, rfl, hlie, HB.out, hbb⟩

theorem Dir.look0 {w : World} {b c : Nat} {m : List UInt8 → Option (ByteArray × Int)} (h : Dir w b c m) {s : ByteArray} (hs : s.size ≤ maxLen) :
    (Instr.lookup 76 (.map (some b)) (.string s) false).run Try.prog w = .ok (contV ((m s.data.toList).getD (ByteArray.empty, 0)).1 ((m s.data.toList).getD (ByteArray.empty, 0)).2) w := by
  obtain ⟨D, h1, h2, h3⟩ := h
  obtain ⟨v, ps, hrun, hv⟩ := h1.lookup keyed Try.underlying76 (z := contV ByteArray.empty 0) (Try.zeroValue80 w) (contR_mk _ _) (keyS hs)
  rw [hrun]
  obtain ⟨h4, h5⟩ := h3 s.data.toList
  cases hm : m s.data.toList with
  | none =>
    rw [Maps.atKey_of_not_has (h5 hm)] at hv
    obtain ⟨d, a, rfl, e⟩ := contR_inv hv
    obtain ⟨rfl, rfl⟩ := contD_inj e
    rfl
  | some x =>
    obtain ⟨h6, h7⟩ := h4 x hm
    rw [h7] at hv
    obtain ⟨d, a, rfl, e⟩ := contR_inv hv
    obtain ⟨e1, e2⟩ := contD_inj e
    simp [e1, e2]

/-- A slice of files in memory that a call made from block base on: no files, or a block of its own. -/
def Res (w : World) (base : Nat) (a : Option Addr) (cap : Nat) (xs : List Fl) : Prop :=
  xs = [] ∨ ∃ g, a = some ⟨g, 0, none⟩ ∧ base ≤ g ∧ Part w g cap xs xs.length

theorem Part.lieC {w : World} {g n : Nat} {xs : List Fl} (h : Part w g n xs xs.length) : Lie w (some ⟨g, 0, none⟩) xs := by
  obtain ⟨cs, h1, h2, h3⟩ := h
  refine .inr ⟨g, 0, rfl, ?_, fun i hi => ?_⟩
  · by_cases hg : g < w.heap.size
    · exact hg
    · rw [Array.getElem?_eq_none (by omega)] at h1; cases h1
  · obtain ⟨a0, a1, a2⟩ := h3 i hi
    exact ⟨by simpa [World.cell?, h1] using a0, by simpa [World.cell?, h1] using a1, by simpa [World.cell?, h1] using a2⟩

theorem Res.lie {w : World} {base cap : Nat} {a : Option Addr} {xs : List Fl} (h : Res w base a cap xs) : Lie w a xs := by
  rcases h with rfl | ⟨g, rfl, _, hp⟩
  · exact .inl rfl
  · exact hp.lieC
theorem Res.below {w w' : World} {base cap : Nat} {a : Option Addr} {xs : List Fl} (h : Res w base a cap xs) (hb : Below w.heap.size w w') : Res w' base a cap xs := by
  rcases h with rfl | ⟨g, rfl, hg, hp⟩
  · exact .inl rfl
  · exact .inr ⟨g, rfl, hg, hp.below hb hp.lt⟩
theorem Res.base {w : World} {base base' cap : Nat} {a : Option Addr} {xs : List Fl} (h : Res w base a cap xs) (hb : base' ≤ base) : Res w base' a cap xs := by
  rcases h with rfl | ⟨g, rfl, hg, hp⟩
  · exact .inl rfl
  · exact .inr ⟨g, rfl, by omega, hp⟩

/-- The cells of files. -/
def cellsF (xs : List Fl) : List Value := xs.flatMap fun f => [.string f.nm, .string f.dt, .int .i64 f.sy]
theorem cellsF_length (xs : List Fl) : (cellsF xs).length = xs.length * 3 := by
  induction xs with
  | nil => rfl
  | cons f r ih =>
    have : cellsF (f :: r) = [.string f.nm, .string f.dt, .int .i64 f.sy] ++ cellsF r := rfl
    rw [this, List.length_append, ih, List.length_cons]
    simp only [List.length_cons, List.length_nil]
    omega
theorem cellsF_snoc (xs : List Fl) (f : Fl) : cellsF (xs ++ [f]) = cellsF xs ++ [.string f.nm, .string f.dt, .int .i64 f.sy] := by
  simp [cellsF]
theorem cellsF_at : ∀ (xs : List Fl) (i : Nat), i < xs.length → (cellsF xs)[i * 3]? = some (.string (xs.getD i fl0).nm) ∧ (cellsF xs)[i * 3 + 1]? = some (.string (xs.getD i fl0).dt) ∧ (cellsF xs)[i * 3 + 2]? = some (.int .i64 (xs.getD i fl0).sy)
  | f :: r, 0, _ => ⟨rfl, rfl, rfl⟩
  | f :: r, i + 1, h => by
    have e : cellsF (f :: r) = [.string f.nm, .string f.dt, .int .i64 f.sy] ++ cellsF r := rfl
    have ih := cellsF_at r i (by simpa using h)
    have e2 : (f :: r).getD (i + 1) fl0 = r.getD i fl0 := by simp [List.getD]
    rw [e, e2]
    refine ⟨?_, ?_, ?_⟩
    · rw [List.getElem?_append_right (by simp; omega)]
      simpa [show (i + 1) * 3 - 3 = i * 3 by omega] using ih.1
    · rw [List.getElem?_append_right (by simp; omega)]
      simpa [show (i + 1) * 3 + 1 - 3 = i * 3 + 1 by omega] using ih.2.1
    · rw [List.getElem?_append_right (by simp; omega)]
      simpa [show (i + 1) * 3 + 2 - 3 = i * 3 + 2 by omega] using ih.2.2

/-- A row of files that the call owns, as a slice. -/
theorem res_of_owns {w : World} {B n : Nat} {v : Value} {xs : List Fl} (h : w.ownsRow B 31 3 v n (cellsF xs)) :
    n = xs.length ∧ ∃ a cap, v = .slice a xs.length cap ∧ Res w B a cap xs := by
  obtain ⟨h1, h2⟩ := h
  rw [cellsF_length] at h1
  have hn : n = xs.length := by omega
  refine ⟨hn, ?_⟩
  subst hn
  rcases h2 with ⟨rfl, h0⟩ | ⟨g, cap, cur, rfl, hg, hb, hl, hm, hsz, htk⟩
  · exact ⟨none, 0, by rw [h0], .inl (by simpa using h0)⟩
  · refine ⟨some ⟨g, 0, none⟩, cap, rfl, .inr ⟨g, rfl, hg, cur, hb, hsz, fun i hi => ?_⟩⟩
    have key : ∀ j, j < xs.length * 3 → cur[j]? = (cellsF xs)[j]? := fun j hj => by
      rw [← htk, List.getElem?_take_of_lt hj]
      simp
    obtain ⟨a0, a1, a2⟩ := cellsF_at xs i hi
    rw [key _ (by omega), key _ (by omega), key _ (by omega)]
    exact ⟨a0, a1, a2⟩

theorem make_cap (n : Nat) (h : n ≤ 1048576) (w : World) : (Instr.makeSlice 23 (.int .i64 0) (.int .i64 (n : Int))).run Try.prog w = .ok (.slice (some ⟨w.heap.size, 0, none⟩) 0 n) (w.alloc (.cells (madeCells #[.string ByteArray.empty, .string ByteArray.empty, .int .i64 0] (n * 3)) 31)) := by
  obtain ⟨i, hj, hz, hs, hb⟩ := info_parts iFile_info
  have := run_make (P := Try.prog) w 23 31 i _ Try.underlying23 hj hz .i64 .i64 0 (n : Int) (by omega) (by omega) (by rw [hb]; omega) (by omega)
  rw [this, hs]
  simp [Value.cells]

theorem owns_made (w : World) (n : Nat) (h : n ≤ 1048576) (z : Array Value) (B : Nat) (hB : B ≤ w.heap.size) : (w.alloc (.cells (madeCells z (n * 3)) 31)).ownsRow B 31 3 (.slice (some ⟨w.heap.size, 0, none⟩) 0 n) 0 [] :=
  World.ownsRow_made w _ n hB (by unfold maxLen; omega) (size_madeCells _ _)
end Go.Proofs.Ytgennghhneckeaa
