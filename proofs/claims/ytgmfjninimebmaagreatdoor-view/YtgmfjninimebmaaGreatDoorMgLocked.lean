import Derived.Test.YtgmfjninimebmaaGreatDoorLocksR
import Derived.Conc.RwLone
import Derived.Maps.AppendAt
namespace Go.Proofs.YtgmfjninimebmaaGreatDoor
open Go.RowKit Go.Maps Go.RwLone
set_option linter.unusedVariables false
set_option linter.unusedSimpArgs false

theorem wrap_up : wrap32 ((0 : Int) + 1) = 1 := by decide +kernel
theorem wrap_down : wrap32 ((1 : Int) + -1) = 0 := by decide +kernel

/-- The reader's lock of a directory that nobody holds. -/
theorem rlock_dir (g mb : Nat) (q fu : Int) (w : World) (hobj : w.heap[g]? = some (.cells (dirC mb q fu) 94 (0, 0))) :
    Calls Tryz.prog 67 #[.pointer (some ⟨g, 0, none⟩)] w fun e w' => e = .returned (.tuple #[]) ∧ w' = w.setCell ⟨g, 4, none⟩ (.int .i32 1) := by
  have := rlock_open rwRLib g 0 0 (.int .i32 0) (.int .u32 0) w (by simp [World.cell?, hobj]) (by simp [World.cell?, hobj]) (by simp [World.cell?, hobj]) (by simp [World.frozen?, hobj]) (by rw [wrap_up]; decide)
  rw [wrap_up] at this
  exact this

/-- .. and let go by a deferred call. -/
theorem runlock_dir (g mb : Nat) (q fu : Int) (u : FrameMode) (w : World) (hobj : w.heap[g]? = some (.cells ((dirC mb q fu).setIfInBounds 4 (.int .i32 1)) 94 (0, 0))) :
    CallsD Tryz.prog 68 #[.pointer (some ⟨g, 0, none⟩)] u w fun e u' w' => u' = u ∧ (e = .returned (.tuple #[]) ∧ w' = w.setCell ⟨g, 4, none⟩ (.int .i32 0)) := by
  have := runlock_deferred rwRLib g 0 1 (.int .i32 0) (.int .u32 0) u w (by simp [World.cell?, hobj]) (by simp [World.cell?, hobj]) (by simp [World.cell?, hobj]) (by simp [World.frozen?, hobj]) (by rw [wrap_down]; decide)
  rw [wrap_down] at this
  exact this

/-- Locked, something made, and let go: of what was there nothing has turned. -/
theorem unlock_below {w w1 : World} {g i : Nat} {cs : Array Value} {t : TypeId} {v0 v1 : Value} (hobj : w.heap[g]? = some (.cells cs t (0, 0))) (h4 : cs[i]? = some v0) (hb : Below w.heap.size (w.setCell ⟨g, i, none⟩ v1) w1) :
    Below w.heap.size w (w1.setCell ⟨g, i, none⟩ v0) := by
  have hg : g < w.heap.size := by
    by_cases hg : g < w.heap.size
    · exact hg
    · rw [Array.getElem?_eq_none (by omega)] at hobj; cases hobj
  refine ⟨hb.os, hb.tape, hb.output, ?_, fun k hk => ?_⟩
  · have := hb.size
    simpa using this
  · by_cases hkg : k = g
    · subst hkg
      have e1 := heap_setCell_same w k i cs t v1 hobj
      have e2 := (hb.block k hk).trans e1
      have e3 := heap_setCell_same w1 k i _ t v0 e2
      rw [e3, hobj]
      have hlt : i < cs.size := by
        by_cases hlt : i < cs.size
        · exact hlt
        · rw [Array.getElem?_eq_none (by omega)] at h4; cases h4
      congr 2
      apply Array.ext_getElem?
      intro j
      by_cases hj : i = j
      · subst hj
        rw [h4, Array.getElem?_setIfInBounds]
        simp [hlt]
      · rw [Array.getElem?_setIfInBounds_ne hj, Array.getElem?_setIfInBounds_ne hj]
    · rw [Below.heap_setCell _ _ _ _ hkg, hb.block k hk, Below.heap_setCell _ _ _ _ hkg]

end Go.Proofs.YtgmfjninimebmaaGreatDoor
namespace Go.Proofs.YtgmfjninimebmaaGreatDoor
open Go.RowKit Go.Maps Go.RwLone
set_option linter.unusedVariables false
set_option linter.unusedSimpArgs false

set_option maxHeartbeats 1000000 in
theorem find_any (g mb c : Nat) (q fu : Int) (m : List UInt8 → Option (ByteArray × Int)) (s : ByteArray) (w : World) (hs : s.size ≤ maxLen) (hobj : w.heap[g]? = some (.cells (dirC mb q fu) 94 (0, 0))) (hdir : Dir w mb c m) (hne : g ≠ mb) :
    Calls Tryz.prog 43 #[.pointer (some ⟨g, 0, none⟩), .string s] w fun e w' =>
      e = .returned (.tuple #[.string ((m s.data.toList).getD (ByteArray.empty, 0)).1, .bool (m s.data.toList).isSome]) ∧ Below w.heap.size w w' := by
  have c0 : w.cell? ⟨g, 0, none⟩ = some (.int .i32 0) := by simp [World.cell?, hobj]
  have c2 : w.cell? ⟨g, 2, none⟩ = some (.int .u32 0) := by simp [World.cell?, hobj]
  have c3 : w.cell? ⟨g, 3, none⟩ = some (.int .u32 0) := by simp [World.cell?, hobj]
  have c4 : w.cell? ⟨g, 4, none⟩ = some (.int .i32 0) := by simp [World.cell?, hobj]
  have c6 : w.cell? ⟨g, 6, none⟩ = some (.map (some mb)) := by simp [World.cell?, hobj]
  have z4 : w.frozen? ⟨g, 4, none⟩ = false := by simp [World.frozen?, hobj]
  have hgl : g < w.heap.size := World.block_lt_of_cell? w _ c0
  have hlk := (hdir.setCell (a := ⟨g, 4, none⟩) (v := .int .i32 1) (fun e => hne e.symm)).look hs
  generalize (m s.data.toList).getD (ByteArray.empty, 0) = x at *
  generalize (m s.data.toList).isSome = ok at *
  go_enter_defers Tryz.func43, Tryz.ntmps43
  go_wp2_with fail
  refine (rlock_dir g mb q fu _ hobj).mono ?_
  rintro e w' ⟨rfl, rfl⟩
  go_wp2
  refine leaves_cons (f := 68) (args := #[.pointer (some ⟨g, 0, none⟩)]) (by simp) (by simp [go_sem]) ?_
  refine (runlock_dir g mb q fu .returning _ ?_).mono ?_
  · rw [Below.heap_alloc _ _ _ (by simpa using hgl)]
    exact heap_setCell_same w g 4 _ _ (.int .i32 1) hobj
  rintro e u' w'' ⟨rfl, rfl, rfl⟩
  refine ⟨_, results_tmp2 rfl _ _ _, rfl, ?_⟩
  exact unlock_below hobj (by rfl) ((Below.refl _ _).alloc (by simp) _)
end Go.Proofs.YtgmfjninimebmaaGreatDoor
namespace Go.Proofs.YtgmfjninimebmaaGreatDoor
open Go.RowKit Go.Maps
set_option linter.unusedVariables false
set_option linter.unusedSimpArgs false

theorem fm_at {xs : List Fl} (h : Rise xs) {i : Nat} (hi : i < xs.length) : fm xs (xs.getD i fl0).nm.data.toList = some ((xs.getD i fl0).dt, (xs.getD i fl0).sy) := by
  have key : ∀ k, i < k → k ≤ xs.length → fm (xs.take k) (xs.getD i fl0).nm.data.toList = some ((xs.getD i fl0).dt, (xs.getD i fl0).sy) := by
    intro k
    induction k with
    | zero => intro h0; omega
    | succ k ih =>
      intro h1 h2
      rw [take_snoc xs k (by omega), fm_snoc]
      unfold upd
      by_cases hik : i = k
      · subst hik
        rw [if_pos rfl]
      · rw [if_neg (h.ne (show i < k by omega) (by omega))]
        exact ih (by omega) (by omega)
  have := key xs.length hi (Nat.le_refl _)
  rwa [List.take_length] at this

theorem toList_ne {a b : ByteArray} (h : (a.toList == b.toList) = false) : a.data.toList ≠ b.data.toList := by
  rw [ByteArray.toList_eq, ByteArray.toList_eq] at h
  simpa using h
theorem toList_eq' {a b : ByteArray} (h : (a.toList == b.toList) = true) : a = b := by
  rw [ByteArray.toList_eq, ByteArray.toList_eq] at h
  exact ByteArray.ext (Array.toList_inj.1 (by simpa using h))

/-- r is the place of the file s in the list, -1 if there is none. -/
def AtRel (xs : List Fl) (s : ByteArray) (r : Int) : Prop :=
  (r = -1 ∧ ∀ i, i < xs.length → (xs.getD i fl0).nm.data.toList ≠ s.data.toList) ∨ (∃ i : Nat, i < xs.length ∧ r = i ∧ (xs.getD i fl0).nm = s)

set_option maxHeartbeats 400000 in
theorem l1At_any (a : Option Addr) (cap : Nat) (xs : List Fl) (q fu : Int) (s : ByteArray) (w : World) (hx : Lie w a xs) (hlen : xs.length ≤ 1048576) :
    Calls Tryz.prog 34 #[.agg #[.slice a xs.length cap, .int .i64 q, .int .i64 fu], .string s] w fun e w' =>
      (∃ r : Int, e = .returned (.int .i64 r) ∧ AtRel xs s r) ∧ Below w.heap.size w w' := by
  have hb0 : Below w.heap.size w (w.alloc (.cells #[.slice a xs.length cap, .int .i64 q, .int .i64 fu] 32)) := (Below.refl _ _).alloc (Nat.le_refl _) _
  go_enter Tryz.func34, Tryz.ntmps34
  go_wp2
  go_loop [5] (fun i => ∃ k : Nat, k ≤ xs.length ∧ i = .int .i64 k ∧ Hid (∀ j, j < k → (xs.getD j fl0).nm.data.toList ≠ s.data.toList)) (fun i => xs.length - (intOf i).toNat)
  case atStart => exact ⟨0, Nat.zero_le _, rfl, fun j hj => absurd hj (Nat.not_lt_zero _)⟩
  case round =>
    obtain ⟨k, hk, rfl, HA⟩ := hrel
    by_cases hlt : k < xs.length
    · obtain ⟨b, off, rfl, hbl, c0, c1, c2⟩ := hx.at hlt
      have HK : Hid ((xs.getD k fl0).nm = (xs.getD k fl0).nm) := rfl
      generalize hf : xs.getD k fl0 = f at *
      have HF : Hid (xs.getD k fl0 = f) := hf
      clear hf HK
      cases he : (f.nm.toList == s.toList) with
      | true =>
        have HR : AtRel xs s k := .inr ⟨k, hlt, rfl, by rw [HF.out]; exact toList_eq' he⟩
        go_wp2
        go_ret
        exact ⟨⟨_, rfl, HR⟩, hb0⟩
      | false =>
        have HA' : Hid (∀ j, j < k + 1 → (xs.getD j fl0).nm.data.toList ≠ s.data.toList) := by
          intro j hj
          by_cases hjk : j = k
          · rw [hjk, HF.out]; exact toList_ne he
          · exact HA.out j (by omega)
        go_wp2
        exact ⟨⟨k + 1, by omega, by go_num, HA'⟩, by simp [intOf]; omega⟩
    · obtain rfl : k = xs.length := by omega
      have HR : AtRel xs s (-1) := .inl ⟨rfl, HA.out⟩
      go_wp2
      go_ret
      exact ⟨⟨-1, rfl, HR⟩, hb0⟩

end Go.Proofs.YtgmfjninimebmaaGreatDoor
namespace Go.Proofs.YtgmfjninimebmaaGreatDoor
open Go.RowKit Go.Maps
set_option linter.unusedVariables false
set_option linter.unusedSimpArgs false

set_option maxHeartbeats 400000 in
theorem l1Data_any (a : Option Addr) (cap : Nat) (xs : List Fl) (q fu : Int) (s : ByteArray) (w : World) (hx : Lie w a xs) (hlen : xs.length ≤ 1048576) (hr : Rise xs) :
    Calls Tryz.prog 16 #[.agg #[.slice a xs.length cap, .int .i64 q, .int .i64 fu], .string s] w fun e w' =>
      e = .returned (.tuple #[.string ((fm xs s.data.toList).getD (ByteArray.empty, 0)).1, .bool (fm xs s.data.toList).isSome]) ∧ Below w.heap.size w w' := by
  have hb0 : Below w.heap.size w (w.alloc (.cells #[.slice a xs.length cap, .int .i64 q, .int .i64 fu] 32)) := (Below.refl _ _).alloc (Nat.le_refl _) _
  generalize hfm : fm xs s.data.toList = o
  have HF : Hid (fm xs s.data.toList = o) := hfm
  clear hfm
  go_enter Tryz.func16, Tryz.ntmps16
  go_wp2_with fail
  refine (l1At_any a cap xs q fu s _ (hx.below hb0) hlen).mono ?_
  rintro e w1 ⟨⟨r, rfl, hr1⟩, hb1⟩
  have hbb := hb0.trans (hb1.mono hb0.size)
  rcases hr1 with ⟨rfl, hall⟩ | ⟨i, hi, rfl, hnm⟩
  · have HO : Hid (o = none) := HF.out.symm.trans (fm_none hall)
    clear hall
    go_wp2
    go_ret2
    rw [HO.out]
    exact ⟨rfl, hbb⟩
  · have hfm := fm_at hr hi
    rw [hnm] at hfm
    have HO : Hid (o = some ((xs.getD i fl0).dt, (xs.getD i fl0).sy)) := HF.out.symm.trans hfm
    clear hfm hnm
    obtain ⟨b, off, rfl, hbl, c0, c1, c2⟩ := (hx.below hbb).at hi
    have p0 : w1.cell? ⟨w.heap.size, 0, none⟩ = some (.slice (some ⟨b, off, none⟩) xs.length cap) := (hb1.cell (p := ⟨w.heap.size, 0, none⟩) (by simp)).trans (by simp)
    generalize xs.getD i fl0 = f at *
    go_wp2
    go_ret2
    rw [HO.out]
    exact ⟨rfl, hbb⟩

/-- What FsFind answers. -/
def findV (xs : List Fl) (q fu : Int) (s : ByteArray) : ByteArray × Bool :=
  if vldB xs q fu = true then (((fm xs s.data.toList).getD (ByteArray.empty, 0)).1, (fm xs s.data.toList).isSome) else (ByteArray.empty, false)

end Go.Proofs.YtgmfjninimebmaaGreatDoor
namespace Go.Proofs.YtgmfjninimebmaaGreatDoor
open Go.RowKit Go.Maps
set_option linter.unusedVariables false
set_option linter.unusedSimpArgs false

/-- An entry. -/
structure En where
  ky : ByteArray
  sq : Int
  kd : Int
  vl : ByteArray
def en0 : En := ⟨ByteArray.empty, 0, 0, ByteArray.empty⟩
abbrev En.agg (e : En) : Value := .agg #[.string e.ky, .int .i64 e.sq, .int .i64 e.kd, .string e.vl]

/-- The entries xs lie one behind the other behind a slice's address. -/
def LieE (w : World) (a : Option Addr) (xs : List En) : Prop :=
  xs = [] ∨ ∃ b off, a = some ⟨b, off, none⟩ ∧ b < w.heap.size ∧ ∀ i, i < xs.length → w.cell? ⟨b, off + i * 4, none⟩ = some (.string (xs.getD i en0).ky) ∧
    w.cell? ⟨b, off + i * 4 + 1, none⟩ = some (.int .i64 (xs.getD i en0).sq) ∧ w.cell? ⟨b, off + i * 4 + 2, none⟩ = some (.int .i64 (xs.getD i en0).kd) ∧ w.cell? ⟨b, off + i * 4 + 3, none⟩ = some (.string (xs.getD i en0).vl)
theorem LieE.below {w w' : World} {a : Option Addr} {xs : List En} (h : LieE w a xs) (hb : Below w.heap.size w w') : LieE w' a xs := by
  rcases h with rfl | ⟨b, off, rfl, hlt, hc⟩
  · exact .inl rfl
  · refine .inr ⟨b, off, rfl, Nat.lt_of_lt_of_le hlt hb.size, fun i hi => ?_⟩
    obtain ⟨h1, h2, h3, h4⟩ := hc i hi
    exact ⟨(hb.cell (p := ⟨b, _, none⟩) hlt).trans h1, (hb.cell (p := ⟨b, _, none⟩) hlt).trans h2, (hb.cell (p := ⟨b, _, none⟩) hlt).trans h3, (hb.cell (p := ⟨b, _, none⟩) hlt).trans h4⟩
theorem LieE.at {w : World} {a : Option Addr} {xs : List En} (h : LieE w a xs) {i : Nat} (hi : i < xs.length) :
    ∃ b off, a = some ⟨b, off, none⟩ ∧ b < w.heap.size ∧ w.cell? ⟨b, off + i * 4, none⟩ = some (.string (xs.getD i en0).ky) ∧
      w.cell? ⟨b, off + i * 4 + 1, none⟩ = some (.int .i64 (xs.getD i en0).sq) ∧ w.cell? ⟨b, off + i * 4 + 2, none⟩ = some (.int .i64 (xs.getD i en0).kd) ∧ w.cell? ⟨b, off + i * 4 + 3, none⟩ = some (.string (xs.getD i en0).vl) := by
  rcases h with rfl | ⟨b, off, rfl, hlt, hc⟩
  · simp at hi
  · obtain ⟨h1, h2, h3, h4⟩ := hc i hi
    exact ⟨b, off, rfl, hlt, h1, h2, h3, h4⟩
/-- Every text of an entry fits into memory. -/
def FitsE (xs : List En) : Prop := ∀ e ∈ xs, e.ky.size ≤ maxLen ∧ e.vl.size ≤ maxLen
theorem FitsE.at {xs : List En} (h : FitsE xs) {i : Nat} (hi : i < xs.length) : (xs.getD i en0).ky.size ≤ maxLen ∧ (xs.getD i en0).vl.size ≤ maxLen := by
  have : xs.getD i en0 = xs[i] := by simp [List.getD, hi]
  rw [this]
  exact h _ (List.getElem_mem hi)
/-- How many bytes the texts have together. -/
def bulkE (xs : List En) : Nat := (xs.map fun e => e.ky.size + e.vl.size).sum
theorem takeE_snoc (xs : List En) (k : Nat) (h : k < xs.length) : xs.take (k + 1) = xs.take k ++ [xs.getD k en0] := by
  rw [List.take_succ_eq_append_getElem h]
  simp [List.getD, h]
theorem bulkE_snoc (xs : List En) (k : Nat) (h : k < xs.length) : bulkE (xs.take (k + 1)) = bulkE (xs.take k) + ((xs.getD k en0).ky.size + (xs.getD k en0).vl.size) := by
  rw [takeE_snoc xs k h]
  simp only [bulkE, List.map_append, List.sum_append, List.map_cons, List.map_nil, List.sum_cons, List.sum_nil]
  omega
theorem bulkE_take_le (xs : List En) (k : Nat) : bulkE (xs.take k) ≤ bulkE xs := by
  have : bulkE xs = bulkE (xs.take k) + bulkE (xs.drop k) := by
    unfold bulkE
    rw [← List.sum_append, ← List.map_append, List.take_append_drop]
  omega

end Go.Proofs.YtgmfjninimebmaaGreatDoor
