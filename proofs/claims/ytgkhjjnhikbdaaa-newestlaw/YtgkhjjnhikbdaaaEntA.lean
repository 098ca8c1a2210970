import Derived.Test.YtgkhjjnhikbdaaaVarP

import Derived.Maps.AppendAt
namespace Go.Proofs.Ytgkhjjnhikbdaaa
open Go.RowKit Go.Maps
set_option linter.unusedVariables false
set_option linter.unusedSimpArgs false

/-- An entry. -/
structure En where
  ky : ByteArray
  sq : Int
  kd : Int
  vl : ByteArray
def en0 : En := ⟨ByteArray.empty, 0, 0, ByteArray.empty⟩
abbrev En.agg (e : En) : Value := .agg #[.string e.ky, .int .i64 e.sq, .int .i64 e.kd, .string e.vl]

/-- The entries xs lie one behind the other behind a slice's address. -/
def LieE (w : World) (a : Option Addr) (xs : List En) : Prop :=
  xs = [] ∨ ∃ b off, a = some ⟨b, off, none⟩ ∧ b < w.heap.size ∧ ∀ i, i < xs.length → w.cell? ⟨b, off + i * 4, none⟩ = some (.string (xs.getD i en0).ky) ∧
    w.cell? ⟨b, off + i * 4 + 1, none⟩ = some (.int .i64 (xs.getD i en0).sq) ∧ w.cell? ⟨b, off + i * 4 + 2, none⟩ = some (.int .i64 (xs.getD i en0).kd) ∧ w.cell? ⟨b, off + i * 4 + 3, none⟩ = some (.string (xs.getD i en0).vl)
theorem LieE.below {w w' : World} {a : Option Addr} {xs : List En} (h : LieE w a xs) (hb : Below w.heap.size w w') : LieE w' a xs := by
  rcases h with rfl | ⟨b, off, rfl, hlt, hc⟩
  · exact .inl rfl
  · refine .inr ⟨b, off, rfl, Nat.lt_of_lt_of_le hlt hb.size, fun i hi => ?_⟩
    obtain ⟨h1, h2, h3, h4⟩ := hc i hi
    exact ⟨(hb.cell (p := ⟨b, _, none⟩) hlt).trans h1, (hb.cell (p := ⟨b, _, none⟩) hlt).trans h2, (hb.cell (p := ⟨b, _, none⟩) hlt).trans h3, (hb.cell (p := ⟨b, _, none⟩) hlt).trans h4⟩
theorem LieE.at {w : World} {a : Option Addr} {xs : List En} (h : LieE w a xs) {i : Nat} (hi : i < xs.length) :
    ∃ b off, a = some ⟨b, off, none⟩ ∧ b < w.heap.size ∧ w.cell? ⟨b, off + i * 4, none⟩ = some (.string (xs.getD i en0).ky) ∧
      w.cell? ⟨b, off + i * 4 + 1, none⟩ = some (.int .i64 (xs.getD i en0).sq) ∧ w.cell? ⟨b, off + i * 4 + 2, none⟩ = some (.int .i64 (xs.getD i en0).kd) ∧ w.cell? ⟨b, off + i * 4 + 3, none⟩ = some (.string (xs.getD i en0).vl) := by
  rcases h with rfl | ⟨b, off, rfl, hlt, hc⟩
  · simp at hi
  · obtain ⟨h1, h2, h3, h4⟩ := hc i hi
    exact ⟨b, off, rfl, hlt, h1, h2, h3, h4⟩
theorem bcell {W w1 : World} (hb : Below W.heap.size W w1) : (∀ b o, b < W.heap.size → w1.cell? ⟨b, o, none⟩ = W.cell? ⟨b, o, none⟩) ∧ (∀ b o, b < W.heap.size → w1.frozen? ⟨b, o, none⟩ = W.frozen? ⟨b, o, none⟩) :=
  ⟨fun b o h => hb.cell (p := ⟨b, o, none⟩) h, fun b o h => hb.frozen (p := ⟨b, o, none⟩) h⟩

/-- Every text of an entry fits into memory. -/
def FitsE (xs : List En) : Prop := ∀ e ∈ xs, e.ky.size ≤ maxLen ∧ e.vl.size ≤ maxLen
theorem FitsE.at {xs : List En} (h : FitsE xs) {i : Nat} (hi : i < xs.length) : (xs.getD i en0).ky.size ≤ maxLen ∧ (xs.getD i en0).vl.size ≤ maxLen := by
  have : xs.getD i en0 = xs[i] := by simp [List.getD, hi]
  rw [this]
  exact h _ (List.getElem_mem hi)
/-- How many bytes the texts have together. -/
def bulkE (xs : List En) : Nat := (xs.map fun e => e.ky.size + e.vl.size).sum
theorem takeE_snoc (xs : List En) (k : Nat) (h : k < xs.length) : xs.take (k + 1) = xs.take k ++ [xs.getD k en0] := by
  rw [List.take_succ_eq_append_getElem h]
  simp [List.getD, h]
theorem bulkE_snoc (xs : List En) (k : Nat) (h : k < xs.length) : bulkE (xs.take (k + 1)) = bulkE (xs.take k) + ((xs.getD k en0).ky.size + (xs.getD k en0).vl.size) := by
  rw [takeE_snoc xs k h]
  simp only [bulkE, List.map_append, List.sum_append, List.map_cons, List.map_nil, List.sum_cons, List.sum_nil]
  omega
theorem bulkE_take_le (xs : List En) (k : Nat) : bulkE (xs.take k) ≤ bulkE xs := by
  have : bulkE xs = bulkE (xs.take k) + bulkE (xs.drop k) := by
    unfold bulkE
    rw [← List.sum_append, ← List.map_append, List.take_append_drop]
  omega

set_option maxHeartbeats 400000 in
theorem szEntry_any (f : En) (l : Int) (w : World) (h1 : f.ky.size ≤ maxLen) (h2 : f.vl.size ≤ maxLen) (l0 : 0 ≤ l) (l1 : l ≤ 1048576) :
    Calls Try.prog 28 #[f.agg, .int .i64 l] w fun e w' =>
      (∃ r : Int, e = .returned (.int .i64 r) ∧ r ≤ l ∧ (r = -1 ∨ (0 ≤ r ∧ r = l - f.ky.size - f.vl.size))) ∧ Below w.heap.size w w' := by
  unfold maxLen at h1 h2
  obtain ⟨n, s, k, d⟩ := f
  simp only at h1 h2
  go_enter Try.func28, Try.ntmps28
  go_wp2
  all_goals go_ret
  · exact ⟨⟨-1, rfl, by omega, .inl rfl⟩, (Below.refl _ _).alloc (Nat.le_refl _) _⟩
  · exact ⟨⟨-1, rfl, by omega, .inl rfl⟩, (Below.refl _ _).alloc (Nat.le_refl _) _⟩
  · exact ⟨⟨_, rfl, by omega, .inr ⟨by assumption, rfl⟩⟩, (Below.refl _ _).alloc (Nat.le_refl _) _⟩

set_option maxHeartbeats 400000 in
theorem toEntry_any (f : En) (w : World) :
    Calls Try.prog 30 #[f.agg] w fun e w' => e = .returned f.agg ∧ Below w.heap.size w w' := by
  obtain ⟨n, s, k, d⟩ := f
  go_enter Try.func30, Try.ntmps30
  go_wp2
  exact bodyPost_ret (v := .agg #[.string n, .int .i64 s, .int .i64 k, .string d]) (by simp [results, Try.results30, go_sem]) rfl ⟨rfl, (((Below.refl _ _).alloc (Nat.le_refl _) _).alloc (by simp) _).alloc (by simp; omega) _⟩

set_option maxHeartbeats 400000 in
theorem szEntryS_any (a : Option Addr) (cap : Nat) (xs : List En) (l : Int) (w : World) (hx : LieE w a xs) (hf : FitsE xs) (hlen : xs.length ≤ maxLen) (l0 : 0 ≤ l) (l1 : l ≤ 1048576) :
    Calls Try.prog 17 #[.slice a xs.length cap, .int .i64 l] w fun e w' =>
      (∃ r : Int, e = .returned (.int .i64 r) ∧ r ≤ l ∧ (r = -1 ∨ (0 ≤ r ∧ r = l - xs.length - bulkE xs))) ∧ Below w.heap.size w w' := by
  unfold maxLen at hlen
  by_cases hneg : l - (xs.length : Int) < 0
  · go_enter Try.func17, Try.ntmps17
    go_wp2
    go_ret
    exact ⟨⟨-1, rfl, by omega, .inl rfl⟩, Below.refl _ _⟩
  · go_enter Try.func17, Try.ntmps17
    go_wp2
    go_loopw [1, 5] (fun t i wr => ∃ k : Nat, k ≤ xs.length ∧ i = .int .i64 k ∧ 0 ≤ l - xs.length - bulkE (xs.take k) ∧ t = .int .i64 (l - xs.length - bulkE (xs.take k)) ∧ Below w.heap.size w wr) (fun _ i _ => xs.length - (intOf i).toNat)
    case atStart => exact ⟨0, Nat.zero_le _, rfl, by simp [bulkE]; omega, by simp [bulkE], Below.refl _ _⟩
    case round =>
      obtain ⟨k, hk, rfl, hge, rfl, hb⟩ := hrel
      by_cases hlt : k < xs.length
      · obtain ⟨b, off, rfl, hbl, c0, c1, c2, c3⟩ := (hx.below hb).at hlt
        have hfk := hf.at hlt
        have HS : Hid (bulkE (xs.take (k + 1)) = bulkE (xs.take k) + ((xs.getD k en0).ky.size + (xs.getD k en0).vl.size)) := bulkE_snoc xs k hlt
        generalize xs.getD k en0 = f at *
        go_wp2_with fail
        refine (szEntry_any f _ _ hfk.1 hfk.2 hge (by omega)).mono ?_
        rintro e w1 ⟨⟨r, rfl, hr1, hr2⟩, hb1⟩
        have hb2 : Below w.heap.size w w1 := hb.trans (hb1.mono hb.size)
        rcases hr2 with rfl | ⟨hr0, hr⟩
        · go_wp2
          go_ret
          exact ⟨⟨-1, rfl, by omega, .inl rfl⟩, hb2⟩
        · have HR : Hid (r = l - xs.length - bulkE (xs.take k) - f.ky.size - f.vl.size) := hr
          clear hr
          have HE : Hid (l - xs.length - bulkE (xs.take (k + 1)) = r) := by show _ = _; rw [HS.out, HR.out]; omega
          go_wp2
          go_roundw
          case rel => exact ⟨k + 1, by omega, by go_num, by rw [HE.out]; exact hr0, by rw [HE.out], hb2⟩
          case measure => simp [intOf]; omega
      · obtain rfl : k = xs.length := by omega
        rw [List.take_length] at hge ⊢
        go_wp2
        go_ret
        exact ⟨⟨_, rfl, by omega, .inr ⟨hge, rfl⟩⟩, hb⟩
end Go.Proofs.Ytgkhjjnhikbdaaa
