import Derived.Test.YtphikgobdfknkaaGreatDoorNmY
import Derived.Test.YtphikgobdfknkaaGreatDoorRows
import Derived.WalkKit
import Derived.WalkSpells
import Derived.WalkLawsBesides
import Derived.Deep.QuietTactic
import Derived.BigQuiet
import Derived.Deep.RegionHeld3
import Derived.Below
namespace Go.Proofs.YtphikgobdfknkaaGreatDoor
open Go.RowKit
set_option linter.unusedVariables false
set_option linter.unusedSimpArgs false

/-- A file: its name, its data, how much of it is synced. -/
structure Fl where
  nm : ByteArray
  dt : ByteArray
  sy : Int
def fl0 : Fl := ⟨ByteArray.empty, ByteArray.empty, 0⟩

/-- A file as a value. -/
abbrev Fl.agg (f : Fl) : Value := .agg #[.string f.nm, .string f.dt, .int .i64 f.sy]

/-- The files xs lie one behind the other from ⟨b, off⟩ on. -/
def LieAt (w : World) (b off : Nat) (xs : List Fl) : Prop :=
  b < w.heap.size ∧ ∀ i, i < xs.length → w.cell? ⟨b, off + i * 3, none⟩ = some (.string (xs.getD i fl0).nm) ∧
    w.cell? ⟨b, off + i * 3 + 1, none⟩ = some (.string (xs.getD i fl0).dt) ∧ w.cell? ⟨b, off + i * 3 + 2, none⟩ = some (.int .i64 (xs.getD i fl0).sy)

/-- A slice's address behind which the files xs lie (nothing is asked where there is none). -/
def Lie (w : World) (a : Option Addr) (xs : List Fl) : Prop :=
  xs = [] ∨ ∃ b off, a = some ⟨b, off, none⟩ ∧ LieAt w b off xs

theorem Lie.below {w w' : World} {a : Option Addr} {xs : List Fl} (h : Lie w a xs) (hb : Below w.heap.size w w') : Lie w' a xs := by
  rcases h with rfl | ⟨b, off, rfl, hlt, hc⟩
  · exact .inl rfl
  · refine .inr ⟨b, off, rfl, Nat.lt_of_lt_of_le hlt hb.size, fun i hi => ?_⟩
    obtain ⟨h1, h2, h3⟩ := hc i hi
    exact ⟨(hb.cell (p := ⟨b, _, none⟩) hlt).trans h1, (hb.cell (p := ⟨b, _, none⟩) hlt).trans h2, (hb.cell (p := ⟨b, _, none⟩) hlt).trans h3⟩

theorem Lie.at {w : World} {a : Option Addr} {xs : List Fl} (h : Lie w a xs) {i : Nat} (hi : i < xs.length) :
    ∃ b off, a = some ⟨b, off, none⟩ ∧ b < w.heap.size ∧ w.cell? ⟨b, off + i * 3, none⟩ = some (.string (xs.getD i fl0).nm) ∧
      w.cell? ⟨b, off + i * 3 + 1, none⟩ = some (.string (xs.getD i fl0).dt) ∧ w.cell? ⟨b, off + i * 3 + 2, none⟩ = some (.int .i64 (xs.getD i fl0).sy) := by
  rcases h with rfl | ⟨b, off, rfl, hlt, hc⟩
  · simp at hi
  · obtain ⟨h1, h2, h3⟩ := hc i hi
    exact ⟨b, off, rfl, hlt, h1, h2, h3⟩

/-- Every text of a file fits into memory. -/
def Fits (xs : List Fl) : Prop := ∀ f ∈ xs, f.nm.size ≤ maxLen ∧ f.dt.size ≤ maxLen

theorem Fits.at {xs : List Fl} (h : Fits xs) {i : Nat} (hi : i < xs.length) : (xs.getD i fl0).nm.size ≤ maxLen ∧ (xs.getD i fl0).dt.size ≤ maxLen := by
  have : xs.getD i fl0 = xs[i] := by simp [List.getD, hi]
  rw [this]
  exact h _ (List.getElem_mem hi)

/-- How many bytes names and data have together. -/
def bulk (xs : List Fl) : Nat := (xs.map fun f => f.nm.size + f.dt.size).sum
/-- How many bytes the data have together. -/
def datas (xs : List Fl) : Nat := (xs.map fun f => f.dt.size).sum

theorem take_snoc (xs : List Fl) (k : Nat) (h : k < xs.length) : xs.take (k + 1) = xs.take k ++ [xs.getD k fl0] := by
  rw [List.take_succ_eq_append_getElem h]
  simp [List.getD, h]

theorem bulk_snoc (xs : List Fl) (k : Nat) (h : k < xs.length) : bulk (xs.take (k + 1)) = bulk (xs.take k) + ((xs.getD k fl0).nm.size + (xs.getD k fl0).dt.size) := by
  rw [take_snoc xs k h]
  simp only [bulk, List.map_append, List.sum_append, List.map_cons, List.map_nil, List.sum_cons, List.sum_nil]
  omega

theorem datas_snoc (xs : List Fl) (k : Nat) (h : k < xs.length) : datas (xs.take (k + 1)) = datas (xs.take k) + (xs.getD k fl0).dt.size := by
  rw [take_snoc xs k h]
  simp [datas]

theorem datas_le_bulk (xs : List Fl) : datas xs ≤ bulk xs := by
  induction xs with
  | nil => simp [datas, bulk]
  | cons f r ih => simp only [datas, bulk, List.map_cons, List.sum_cons] at *; omega

theorem datas_take_le (xs : List Fl) (k : Nat) : datas (xs.take k) ≤ datas xs := by
  have : datas xs = datas (xs.take k) + datas (xs.drop k) := by
    unfold datas
    rw [← List.sum_append, ← List.map_append, List.take_append_drop]
  omega

theorem bulk_take_le (xs : List Fl) (k : Nat) : bulk (xs.take k) ≤ bulk xs := by
  have : bulk xs = bulk (xs.take k) + bulk (xs.drop k) := by
    unfold bulk
    rw [← List.sum_append, ← List.map_append, List.take_append_drop]
  omega

theorem ret_int {k : IntKind} {a b : Int} (h : a = b) : Ending.returned (.int k a) = .returned (.int k b) := by rw [h]
theorem ret_bool {a b : Bool} (h : a = b) : Ending.returned (.bool a) = .returned (.bool b) := by rw [h]
end Go.Proofs.YtphikgobdfknkaaGreatDoor
namespace Go.Proofs.YtphikgobdfknkaaGreatDoor
open Go.RowKit
set_option linter.unusedVariables false
set_option linter.unusedSimpArgs false

set_option maxHeartbeats 400000 in
theorem szFile_any (f : Fl) (l : Int) (w : World) (h1 : f.nm.size ≤ maxLen) (h2 : f.dt.size ≤ maxLen) (l0 : 0 ≤ l) (l1 : l ≤ 1048576) :
    Calls Tryz.prog 22 #[f.agg, .int .i64 l] w fun e w' =>
      (∃ r : Int, e = .returned (.int .i64 r) ∧ r ≤ l ∧ (r = -1 ∨ (0 ≤ r ∧ r = l - f.nm.size - f.dt.size))) ∧ Below w.heap.size w w' := by
  unfold maxLen at h1 h2
  obtain ⟨n, d, s⟩ := f
  simp only at h1 h2
  go_enter Tryz.func22, Tryz.ntmps22
  go_wp2
  all_goals go_ret
  · exact ⟨⟨-1, rfl, by omega, .inl rfl⟩, (Below.refl _ _).alloc (Nat.le_refl _) _⟩
  · exact ⟨⟨-1, rfl, by omega, .inl rfl⟩, (Below.refl _ _).alloc (Nat.le_refl _) _⟩
  · exact ⟨⟨_, rfl, by omega, .inr ⟨by assumption, rfl⟩⟩, (Below.refl _ _).alloc (Nat.le_refl _) _⟩

set_option maxHeartbeats 400000 in
theorem toFile_any (f : Fl) (w : World) :
    Calls Tryz.prog 33 #[f.agg] w fun e w' => e = .returned f.agg ∧ Below w.heap.size w w' := by
  obtain ⟨n, d, s⟩ := f
  go_enter Tryz.func33, Tryz.ntmps33
  go_wp2
  exact bodyPost_ret (v := .agg #[.string n, .string d, .int .i64 s]) (by simp [results, Tryz.results33, go_sem]) rfl ⟨rfl, (((Below.refl _ _).alloc (Nat.le_refl _) _).alloc (by simp) _).alloc (by simp; omega) _⟩

set_option maxHeartbeats 400000 in
theorem szFileS_any (a : Option Addr) (cap : Nat) (xs : List Fl) (l : Int) (w : World) (hx : Lie w a xs) (hf : Fits xs) (hlen : xs.length ≤ maxLen) (l0 : 0 ≤ l) (l1 : l ≤ 1048576) :
    Calls Tryz.prog 9 #[.slice a xs.length cap, .int .i64 l] w fun e w' =>
      (∃ r : Int, e = .returned (.int .i64 r) ∧ r ≤ l ∧ (r = -1 ∨ (0 ≤ r ∧ r = l - xs.length - bulk xs))) ∧ Below w.heap.size w w' := by
  unfold maxLen at hlen
  by_cases hneg : l - (xs.length : Int) < 0
  · go_enter Tryz.func9, Tryz.ntmps9
    go_wp2
    go_ret
    exact ⟨⟨-1, rfl, by omega, .inl rfl⟩, Below.refl _ _⟩
  · go_enter Tryz.func9, Tryz.ntmps9
    go_wp2
    go_loopw [1, 5] (fun t i wr => ∃ k : Nat, k ≤ xs.length ∧ i = .int .i64 k ∧ 0 ≤ l - xs.length - bulk (xs.take k) ∧ t = .int .i64 (l - xs.length - bulk (xs.take k)) ∧ Below w.heap.size w wr) (fun _ i _ => xs.length - (intOf i).toNat)
    case atStart => exact ⟨0, Nat.zero_le _, rfl, by simp [bulk]; omega, by simp [bulk], Below.refl _ _⟩
    case round =>
      obtain ⟨k, hk, rfl, hge, rfl, hb⟩ := hrel
      by_cases hlt : k < xs.length
      · obtain ⟨b, off, rfl, hbl, c0, c1, c2⟩ := (hx.below hb).at hlt
        have hfk := hf.at hlt
        have HS : Hid (bulk (xs.take (k + 1)) = bulk (xs.take k) + ((xs.getD k fl0).nm.size + (xs.getD k fl0).dt.size)) := bulk_snoc xs k hlt
        generalize xs.getD k fl0 = f at *
        go_wp2_with fail
        refine (szFile_any f _ _ hfk.1 hfk.2 hge (by omega)).mono ?_
        rintro e w1 ⟨⟨r, rfl, hr1, hr2⟩, hb1⟩
        have hb2 : Below w.heap.size w w1 := hb.trans (hb1.mono hb.size)
        rcases hr2 with rfl | ⟨hr0, hr⟩
        · go_wp2
          go_ret
          exact ⟨⟨-1, rfl, by omega, .inl rfl⟩, hb2⟩
        · have HR : Hid (r = l - xs.length - bulk (xs.take k) - f.nm.size - f.dt.size) := hr
          clear hr
          have HE : Hid (l - xs.length - bulk (xs.take (k + 1)) = r) := by show _ = _; rw [HS.out, HR.out]; omega
          go_wp2
          go_roundw
          case rel => exact ⟨k + 1, by omega, by go_num, by rw [HE.out]; exact hr0, by rw [HE.out], hb2⟩
          case measure => simp [intOf]; omega
      · obtain rfl : k = xs.length := by omega
        rw [List.take_length] at hge ⊢
        go_wp2
        go_ret
        exact ⟨⟨_, rfl, by omega, .inr ⟨hge, rfl⟩⟩, hb⟩

set_option maxHeartbeats 400000 in
theorem szFS_any (a : Option Addr) (cap : Nat) (xs : List Fl) (q fu l : Int) (w : World) (hx : Lie w a xs) (hf : Fits xs) (hlen : xs.length ≤ maxLen) (l0 : 0 ≤ l) (l1 : l ≤ 1048576) :
    Calls Tryz.prog 4 #[.agg #[.slice a xs.length cap, .int .i64 q, .int .i64 fu], .int .i64 l] w fun e w' =>
      (∃ r : Int, e = .returned (.int .i64 r) ∧ r ≤ l ∧ (r = -1 ∨ (0 ≤ r ∧ r = l - xs.length - bulk xs))) ∧ Below w.heap.size w w' := by
  go_enter Tryz.func4, Tryz.ntmps4
  go_wp2_with fail
  have hb0 : Below w.heap.size w (w.alloc (.cells #[.slice a xs.length cap, .int .i64 q, .int .i64 fu] 24)) := (Below.refl _ _).alloc (Nat.le_refl _) _
  refine (szFileS_any a cap xs l _ (hx.below hb0) hf hlen l0 l1).mono ?_
  rintro e w1 ⟨⟨r, rfl, hr1, hr2⟩, hb1⟩
  have hb2 : Below w.heap.size w w1 := hb0.trans (hb1.mono hb0.size)
  rcases hr2 with rfl | ⟨hr0, hr⟩
  · go_wp2
    go_ret
    exact ⟨⟨-1, rfl, by omega, .inl rfl⟩, hb2⟩
  · have HR : Hid (r = l - xs.length - bulk xs) := hr
    clear hr
    go_wp2
    go_ret
    exact ⟨⟨r, rfl, by omega, .inr ⟨hr0, HR.out⟩⟩, hb2⟩
end Go.Proofs.YtphikgobdfknkaaGreatDoor
namespace Go.Proofs.YtphikgobdfknkaaGreatDoor
open Go.RowKit
set_option linter.unusedVariables false
set_option linter.unusedSimpArgs false

/-- Block g of the world is n files' room, none of it frozen; the first k of the files xs stand in it. -/
def Part (w : World) (g n : Nat) (xs : List Fl) (k : Nat) : Prop :=
  ∃ cs : Array Value, w.heap[g]? = some (.cells cs 58 (0, 0)) ∧ cs.size = n * 3 ∧
    ∀ i, i < k → cs[i * 3]? = some (.string (xs.getD i fl0).nm) ∧ cs[i * 3 + 1]? = some (.string (xs.getD i fl0).dt) ∧ cs[i * 3 + 2]? = some (.int .i64 (xs.getD i fl0).sy)

theorem Part.below {w w' : World} {B g n k : Nat} {xs : List Fl} (h : Part w g n xs k) (hb : Below B w w') (hg : g < B) : Part w' g n xs k := by
  obtain ⟨cs, h1, h2, h3⟩ := h
  exact ⟨cs, (hb.block g hg).trans h1, h2, h3⟩

theorem Part.cell {w : World} {g n k : Nat} {xs : List Fl} (h : Part w g n xs k) (o : Nat) (ho : o < n * 3) : ∃ v, w.cell? ⟨g, o, none⟩ = some v := by
  obtain ⟨cs, h1, h2, _⟩ := h
  exact ⟨cs[o]'(by omega), by simp [World.cell?, h1]⟩

theorem Part.frozen {w : World} {g n k : Nat} {xs : List Fl} (h : Part w g n xs k) (o : Nat) : w.frozen? ⟨g, o, none⟩ = false := by
  obtain ⟨cs, h1, _⟩ := h
  simp [World.frozen?, h1]

theorem iFile_info : (Tryz.prog.info? 58).map (fun i => (i.zero, i.size, i.bytes)) = some (some (.agg #[.string ByteArray.empty, .string ByteArray.empty, .int .i64 0]), 3, 40) := by kernel_rfl

theorem make_files (n : Nat) (h : n ≤ 1048576) (w : World) : (Instr.makeSlice 27 (.int .i64 (n : Int)) (.int .i64 (n : Int))).run Tryz.prog w = .ok (.slice (some ⟨w.heap.size, 0, none⟩) n n) (w.alloc (.cells (madeCells #[.string ByteArray.empty, .string ByteArray.empty, .int .i64 0] (n * 3)) 58)) := by
  have hi := iFile_info
  cases hj : Tryz.prog.info? 58 with
  | none => rw [hj] at hi; cases hi
  | some i =>
    rw [hj] at hi
    simp only [Option.map_some, Option.some.injEq, Prod.mk.injEq] at hi
    obtain ⟨hz, hs, hb⟩ := hi
    have := run_make (P := Tryz.prog) w 27 58 i _ Tryz.underlying27 hj hz .i64 .i64 (n : Int) (n : Int) (by omega) (Int.le_refl _) (by rw [hb]; omega) (by omega)
    rw [this, hs]
    simp [Value.cells]

/-- One file more, stored cell by cell. -/
theorem Part.step {w : World} {g n k : Nat} {xs : List Fl} (h : Part w g n xs k) (hk : k < n) {f : Fl} (hf : xs.getD k fl0 = f) :
    Part (((w.setCell ⟨g, k * 3, none⟩ (.string f.nm)).setCell ⟨g, k * 3 + 1, none⟩ (.string f.dt)).setCell ⟨g, k * 3 + 2, none⟩ (.int .i64 f.sy)) g n xs (k + 1) := by
  obtain ⟨cs, h1, h2, h3⟩ := h
  have e1 := heap_setCell_same w g (k * 3) cs _ (.string f.nm) h1
  have e2 := heap_setCell_same _ g (k * 3 + 1) _ _ (.string f.dt) e1
  have e3 := heap_setCell_same _ g (k * 3 + 2) _ _ (.int .i64 f.sy) e2
  refine ⟨_, e3, by simp [h2], fun i hi => ?_⟩
  by_cases hik : i = k
  · subst hik
    rw [hf]
    refine ⟨?_, ?_, ?_⟩
    · simp [Array.getElem?_setIfInBounds]; omega
    · simp [Array.getElem?_setIfInBounds]; omega
    · simp [Array.getElem?_setIfInBounds]; omega
  · obtain ⟨a0, a1, a2⟩ := h3 i (by omega)
    refine ⟨?_, ?_, ?_⟩
    · rw [Array.getElem?_setIfInBounds_ne (by omega), Array.getElem?_setIfInBounds_ne (by omega), Array.getElem?_setIfInBounds_ne (by omega)]; exact a0
    · rw [Array.getElem?_setIfInBounds_ne (by omega), Array.getElem?_setIfInBounds_ne (by omega), Array.getElem?_setIfInBounds_ne (by omega)]; exact a1
    · rw [Array.getElem?_setIfInBounds_ne (by omega), Array.getElem?_setIfInBounds_ne (by omega), Array.getElem?_setIfInBounds_ne (by omega)]; exact a2

theorem part_made (w : World) (n : Nat) (xs : List Fl) (z : Array Value) : Part (w.alloc (.cells (madeCells z (n * 3)) 58)) w.heap.size n xs 0 :=
  ⟨madeCells z (n * 3), World.heap_alloc_new _ _, by simp [madeCells], fun i hi => absurd hi (Nat.not_lt_zero _)⟩

set_option maxHeartbeats 400000 in
theorem toFileS_any (a : Option Addr) (cap : Nat) (xs : List Fl) (w : World) (hx : Lie w a xs) (hlen : xs.length ≤ 1048576) :
    Calls Tryz.prog 16 #[.slice a xs.length cap] w fun e w' =>
      ∃ g, e = .returned (.slice (some ⟨g, 0, none⟩) xs.length xs.length) ∧ w.heap.size ≤ g ∧ Part w' g xs.length xs xs.length ∧ Below w.heap.size w w' := by
  have hmk := make_files xs.length hlen
  generalize hz : (#[.string ByteArray.empty, .string ByteArray.empty, .int .i64 0] : Array Value) = z at hmk
  go_enter Tryz.func16, Tryz.ntmps16
  go_wp2
  go_loopw [4] (fun i wr => ∃ k : Nat, k ≤ xs.length ∧ i = .int .i64 k ∧ Part wr w.heap.size xs.length xs k ∧ w.heap.size < wr.heap.size ∧ Below w.heap.size w wr) (fun i _ => xs.length - (intOf i).toNat)
  case atStart => exact ⟨0, Nat.zero_le _, rfl, part_made _ _ _ _, by simp, (Below.refl _ _).alloc (Nat.le_refl _) _⟩
  case round =>
    obtain ⟨k, hk, rfl, hp, hg, hb⟩ := hrel
    by_cases hlt : k < xs.length
    · obtain ⟨b, off, rfl, hbl, c0, c1, c2⟩ := (hx.below hb).at hlt
      clear hmk
      generalize hf : xs.getD k fl0 = f at *
      have HF : Hid (xs.getD k fl0 = f) := hf
      clear hf
      go_wp2_with fail
      refine (toFile_any f _).mono ?_
      rintro e w1 ⟨rfl, hb1⟩
      have hp1 := hp.below hb1 hg
      have hsz := hb1.size
      obtain ⟨v0, e0⟩ := hp1.cell (k * 3) (by omega)
      obtain ⟨v1, e1⟩ := hp1.cell (k * 3 + 1) (by omega)
      obtain ⟨v2, e2⟩ := hp1.cell (k * 3 + 2) (by omega)
      have z0 := hp1.frozen (k * 3)
      have z1 := hp1.frozen (k * 3 + 1)
      have z2 := hp1.frozen (k * 3 + 2)
      have hst := hp1.step hlt HF.out
      go_wp2
      exact ⟨⟨k + 1, by omega, by go_num, hst, by simp; omega, (((hb.trans (hb1.mono hb.size)).setCell (Nat.le_refl _) _).setCell (Nat.le_refl _) _).setCell (Nat.le_refl _) _⟩, by simp [intOf]; omega⟩
    · obtain rfl : k = xs.length := by omega
      go_wp2
      go_ret
      exact ⟨_, rfl, Nat.le_refl _, hp, hb⟩

theorem Part.lie {w : World} {g : Nat} {xs : List Fl} (h : Part w g xs.length xs xs.length) : Lie w (some ⟨g, 0, none⟩) xs := by
  obtain ⟨cs, h1, h2, h3⟩ := h
  refine .inr ⟨g, 0, rfl, ?_, fun i hi => ?_⟩
  · by_cases hg : g < w.heap.size
    · exact hg
    · rw [Array.getElem?_eq_none (by omega)] at h1; cases h1
  · obtain ⟨a0, a1, a2⟩ := h3 i hi
    exact ⟨by simpa [World.cell?, h1] using a0, by simpa [World.cell?, h1] using a1, by simpa [World.cell?, h1] using a2⟩

theorem Part.other {w : World} {g n k : Nat} {xs : List Fl} (h : Part w g n xs k) {a : Addr} {v : Value} (ha : g ≠ a.block) : Part (w.setCell a v) g n xs k := by
  obtain ⟨cs, h1, h2, h3⟩ := h
  exact ⟨cs, by rw [Below.heap_setCell _ _ _ _ ha]; exact h1, h2, h3⟩

theorem Part.lt {w : World} {g n k : Nat} {xs : List Fl} (h : Part w g n xs k) : g < w.heap.size := by
  obtain ⟨cs, h1, _⟩ := h
  by_cases hg : g < w.heap.size
  · exact hg
  · rw [Array.getElem?_eq_none (by omega)] at h1; cases h1

set_option maxHeartbeats 400000 in
theorem toFS_any (a : Option Addr) (cap : Nat) (xs : List Fl) (q fu : Int) (w : World) (hx : Lie w a xs) (hlen : xs.length ≤ 1048576) :
    Calls Tryz.prog 6 #[.agg #[.slice a xs.length cap, .int .i64 q, .int .i64 fu]] w fun e w' =>
      ∃ g, e = .returned (.agg #[.slice (some ⟨g, 0, none⟩) xs.length xs.length, .int .i64 q, .int .i64 fu]) ∧ w.heap.size ≤ g ∧ Part w' g xs.length xs xs.length ∧ Below w.heap.size w w' := by
  go_enter Tryz.func6, Tryz.ntmps6
  go_wp2_with fail
  have hb0 : Below w.heap.size w (((w.alloc (.cells #[.slice a xs.length cap, .int .i64 q, .int .i64 fu] 24)).alloc (.cells #[.slice none 0 0, .int .i64 0, .int .i64 0] 29)).alloc (.cells #[.slice none 0 0, .int .i64 0, .int .i64 0] 29)) :=
    (((Below.refl _ _).alloc (Nat.le_refl _) _).alloc (by simp) _).alloc (by simp; omega) _
  refine (toFileS_any a cap xs _ (hx.below hb0) hlen).mono ?_
  rintro e w1 ⟨g, rfl, hg, hp, hb1⟩
  have hg' : w.heap.size + 3 ≤ g := by simpa using hg
  obtain ⟨hc, hz⟩ := bcell hb1
  have hsz := hb1.size
  simp at hsz
  have hbb : Below w.heap.size w w1 := hb0.trans (hb1.mono hb0.size)
  clear hx hb1 hb0
  go_wp2
  refine bodyPost_ret (v := .agg #[.slice (some ⟨g, 0, none⟩) xs.length xs.length, .int .i64 q, .int .i64 fu]) (by simp [results, Tryz.results6, go_sem, hc]) rfl ⟨g, rfl, by omega, ?_, ?_⟩
  · exact (((((hp.other (by dsimp only; omega)).other (by dsimp only; omega)).other (by dsimp only; omega)).other (by dsimp only; omega)).other (by dsimp only; omega)).other (by dsimp only; omega)
  · exact (((((hbb.setCell (by dsimp only; omega) _).setCell (by dsimp only; omega) _).setCell (by dsimp only; omega) _).setCell (by dsimp only; omega) _).setCell (by dsimp only; omega) _).setCell (by dsimp only; omega) _
end Go.Proofs.YtphikgobdfknkaaGreatDoor
