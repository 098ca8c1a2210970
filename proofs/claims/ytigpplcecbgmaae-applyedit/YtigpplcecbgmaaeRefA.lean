
import Derived.Test.YtigpplcecbgmaaeVarP
import Derived.Maps.AppendAt
namespace Go.Proofs.Ytigpplcecbgmaae
open Go.RowKit Go.Maps
set_option linter.unusedVariables false
set_option linter.unusedSimpArgs false

/-- An entry. -/
structure Tr where
  nu : Int
  lv : Int
  lo : ByteArray
  hi : ByteArray
def tr0 : Tr := ⟨0, 0, ByteArray.empty, ByteArray.empty⟩
abbrev Tr.agg (e : Tr) : Value := .agg #[.int .i64 e.nu, .int .i64 e.lv, .string e.lo, .string e.hi]

/-- The entries xs lie one behind the other behind a slice's address. -/
def LieT (w : World) (a : Option Addr) (xs : List Tr) : Prop :=
  xs = [] ∨ ∃ b off, a = some ⟨b, off, none⟩ ∧ b < w.heap.size ∧ ∀ i, i < xs.length → w.cell? ⟨b, off + i * 4, none⟩ = some (.int .i64 (xs.getD i tr0).nu) ∧
    w.cell? ⟨b, off + i * 4 + 1, none⟩ = some (.int .i64 (xs.getD i tr0).lv) ∧ w.cell? ⟨b, off + i * 4 + 2, none⟩ = some (.string (xs.getD i tr0).lo) ∧ w.cell? ⟨b, off + i * 4 + 3, none⟩ = some (.string (xs.getD i tr0).hi)
theorem LieT.below {w w' : World} {a : Option Addr} {xs : List Tr} (h : LieT w a xs) (hb : Below w.heap.size w w') : LieT w' a xs := by
  rcases h with rfl | ⟨b, off, rfl, hlt, hc⟩
  · exact .inl rfl
  · refine .inr ⟨b, off, rfl, Nat.lt_of_lt_of_le hlt hb.size, fun i hi => ?_⟩
    obtain ⟨h1, h2, h3, h4⟩ := hc i hi
    exact ⟨(hb.cell (p := ⟨b, _, none⟩) hlt).trans h1, (hb.cell (p := ⟨b, _, none⟩) hlt).trans h2, (hb.cell (p := ⟨b, _, none⟩) hlt).trans h3, (hb.cell (p := ⟨b, _, none⟩) hlt).trans h4⟩
theorem LieT.at {w : World} {a : Option Addr} {xs : List Tr} (h : LieT w a xs) {i : Nat} (hi : i < xs.length) :
    ∃ b off, a = some ⟨b, off, none⟩ ∧ b < w.heap.size ∧ w.cell? ⟨b, off + i * 4, none⟩ = some (.int .i64 (xs.getD i tr0).nu) ∧
      w.cell? ⟨b, off + i * 4 + 1, none⟩ = some (.int .i64 (xs.getD i tr0).lv) ∧ w.cell? ⟨b, off + i * 4 + 2, none⟩ = some (.string (xs.getD i tr0).lo) ∧ w.cell? ⟨b, off + i * 4 + 3, none⟩ = some (.string (xs.getD i tr0).hi) := by
  rcases h with rfl | ⟨b, off, rfl, hlt, hc⟩
  · simp at hi
  · obtain ⟨h1, h2, h3, h4⟩ := hc i hi
    exact ⟨b, off, rfl, hlt, h1, h2, h3, h4⟩
theorem bcell {W w1 : World} (hb : Below W.heap.size W w1) : (∀ b o, b < W.heap.size → w1.cell? ⟨b, o, none⟩ = W.cell? ⟨b, o, none⟩) ∧ (∀ b o, b < W.heap.size → w1.frozen? ⟨b, o, none⟩ = W.frozen? ⟨b, o, none⟩) :=
  ⟨fun b o h => hb.cell (p := ⟨b, o, none⟩) h, fun b o h => hb.frozen (p := ⟨b, o, none⟩) h⟩

/-- Every text of an entry fits into memory. -/
def FitsT (xs : List Tr) : Prop := ∀ e ∈ xs, e.lo.size ≤ maxLen ∧ e.hi.size ≤ maxLen
theorem FitsT.at {xs : List Tr} (h : FitsT xs) {i : Nat} (hi : i < xs.length) : (xs.getD i tr0).lo.size ≤ maxLen ∧ (xs.getD i tr0).hi.size ≤ maxLen := by
  have : xs.getD i tr0 = xs[i] := by simp [List.getD, hi]
  rw [this]
  exact h _ (List.getElem_mem hi)
/-- How many bytes the texts have together. -/
def bulkT (xs : List Tr) : Nat := (xs.map fun e => e.lo.size + e.hi.size).sum
theorem takeT_snoc (xs : List Tr) (k : Nat) (h : k < xs.length) : xs.take (k + 1) = xs.take k ++ [xs.getD k tr0] := by
  rw [List.take_succ_eq_append_getElem h]
  simp [List.getD, h]
theorem bulkT_snoc (xs : List Tr) (k : Nat) (h : k < xs.length) : bulkT (xs.take (k + 1)) = bulkT (xs.take k) + ((xs.getD k tr0).lo.size + (xs.getD k tr0).hi.size) := by
  rw [takeT_snoc xs k h]
  simp only [bulkT, List.map_append, List.sum_append, List.map_cons, List.map_nil, List.sum_cons, List.sum_nil]
  omega
theorem bulkT_take_le (xs : List Tr) (k : Nat) : bulkT (xs.take k) ≤ bulkT xs := by
  have : bulkT xs = bulkT (xs.take k) + bulkT (xs.drop k) := by
    unfold bulkT
    rw [← List.sum_append, ← List.map_append, List.take_append_drop]
  omega

set_option maxHeartbeats 400000 in
theorem szTableRef_any (f : Tr) (l : Int) (w : World) (h1 : f.lo.size ≤ maxLen) (h2 : f.hi.size ≤ maxLen) (l0 : 0 ≤ l) (l1 : l ≤ 1048576) :
    Calls Try.prog 57 #[f.agg, .int .i64 l] w fun e w' =>
      (∃ r : Int, e = .returned (.int .i64 r) ∧ r ≤ l ∧ (r = -1 ∨ (0 ≤ r ∧ r = l - f.lo.size - f.hi.size))) ∧ Below w.heap.size w w' := by
  unfold maxLen at h1 h2
  obtain ⟨n, s, k, d⟩ := f
  simp only at h1 h2
  go_enter Try.func57, Try.ntmps57
  go_wp2
  all_goals go_ret
  · exact ⟨⟨-1, rfl, by omega, .inl rfl⟩, (Below.refl _ _).alloc (Nat.le_refl _) _⟩
  · exact ⟨⟨-1, rfl, by omega, .inl rfl⟩, (Below.refl _ _).alloc (Nat.le_refl _) _⟩
  · exact ⟨⟨_, rfl, by omega, .inr ⟨by assumption, rfl⟩⟩, (Below.refl _ _).alloc (Nat.le_refl _) _⟩

set_option maxHeartbeats 400000 in
theorem toTableRef_any (f : Tr) (w : World) :
    Calls Try.prog 61 #[f.agg] w fun e w' => e = .returned f.agg ∧ Below w.heap.size w w' := by
  obtain ⟨n, s, k, d⟩ := f
  go_enter Try.func61, Try.ntmps61
  go_wp2
  exact bodyPost_ret (v := .agg #[.int .i64 n, .int .i64 s, .string k, .string d]) (by simp [results, Try.results61, go_sem]) rfl ⟨rfl, (((Below.refl _ _).alloc (Nat.le_refl _) _).alloc (by simp) _).alloc (by simp; omega) _⟩

set_option maxHeartbeats 400000 in
theorem szTableRefS_any (a : Option Addr) (cap : Nat) (xs : List Tr) (l : Int) (w : World) (hx : LieT w a xs) (hf : FitsT xs) (hlen : xs.length ≤ maxLen) (l0 : 0 ≤ l) (l1 : l ≤ 1048576) :
    Calls Try.prog 31 #[.slice a xs.length cap, .int .i64 l] w fun e w' =>
      (∃ r : Int, e = .returned (.int .i64 r) ∧ r ≤ l ∧ (r = -1 ∨ (0 ≤ r ∧ r = l - xs.length - bulkT xs))) ∧ Below w.heap.size w w' := by
  unfold maxLen at hlen
  by_cases hneg : l - (xs.length : Int) < 0
  · go_enter Try.func31, Try.ntmps31
    go_wp2
    go_ret
    exact ⟨⟨-1, rfl, by omega, .inl rfl⟩, Below.refl _ _⟩
  · go_enter Try.func31, Try.ntmps31
    go_wp2
    go_loopw [1, 5] (fun t i wr => ∃ k : Nat, k ≤ xs.length ∧ i = .int .i64 k ∧ 0 ≤ l - xs.length - bulkT (xs.take k) ∧ t = .int .i64 (l - xs.length - bulkT (xs.take k)) ∧ Below w.heap.size w wr) (fun _ i _ => xs.length - (intOf i).toNat)
    case atStart => exact ⟨0, Nat.zero_le _, rfl, by simp [bulkT]; omega, by simp [bulkT], Below.refl _ _⟩
    case round =>
      obtain ⟨k, hk, rfl, hge, rfl, hb⟩ := hrel
      by_cases hlt : k < xs.length
      · obtain ⟨b, off, rfl, hbl, c0, c1, c2, c3⟩ := (hx.below hb).at hlt
        have hfk := hf.at hlt
        have HS : Hid (bulkT (xs.take (k + 1)) = bulkT (xs.take k) + ((xs.getD k tr0).lo.size + (xs.getD k tr0).hi.size)) := bulkT_snoc xs k hlt
        generalize xs.getD k tr0 = f at *
        go_wp2_with fail
        refine (szTableRef_any f _ _ hfk.1 hfk.2 hge (by omega)).mono ?_
        rintro e w1 ⟨⟨r, rfl, hr1, hr2⟩, hb1⟩
        have hb2 : Below w.heap.size w w1 := hb.trans (hb1.mono hb.size)
        rcases hr2 with rfl | ⟨hr0, hr⟩
        · go_wp2
          go_ret
          exact ⟨⟨-1, rfl, by omega, .inl rfl⟩, hb2⟩
        · have HR : Hid (r = l - xs.length - bulkT (xs.take k) - f.lo.size - f.hi.size) := hr
          clear hr
          have HE : Hid (l - xs.length - bulkT (xs.take (k + 1)) = r) := by show _ = _; rw [HS.out, HR.out]; omega
          go_wp2
          go_roundw
          case rel => exact ⟨k + 1, by omega, by go_num, by rw [HE.out]; exact hr0, by rw [HE.out], hb2⟩
          case measure => simp [intOf]; omega
      · obtain rfl : k = xs.length := by omega
        rw [List.take_length] at hge ⊢
        go_wp2
        go_ret
        exact ⟨⟨_, rfl, by omega, .inr ⟨hge, rfl⟩⟩, hb⟩
end Go.Proofs.Ytigpplcecbgmaae
