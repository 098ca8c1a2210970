
import Derived.Test.YtnnhdfplbhdcaacWalkG
namespace Go.Proofs.Ytnnhdfplbhdcaac
open Go.RowKit Go.Maps
set_option linter.unusedVariables false
set_option linter.unusedSimpArgs false

/-- The cells of a directory object: the lock, the map, quota, fuel. -/
abbrev dirC (mb : Nat) (q fu : Int) : Array Value := #[.int .i32 0, .int .u32 0, .int .u32 0, .int .u32 0, .int .i32 0, .int .i32 0, .map (some mb), .int .i64 q, .int .i64 fu]

theorem less_trans {a b c : List UInt8} (h1 : Op.bytesLess a b = true) (h2 : Op.bytesLess b c = true) : Op.bytesLess a c = true := by
  induction a generalizing b c with
  | nil =>
    cases c with
    | nil => cases b <;> simp [Op.bytesLess] at h2
    | cons z c => rfl
  | cons x a ih =>
    cases b with
    | nil => simp [Op.bytesLess] at h1
    | cons y b =>
      cases c with
      | nil => simp [Op.bytesLess] at h2
      | cons z c =>
        simp only [Op.bytesLess, Bool.or_eq_true, Bool.and_eq_true, decide_eq_true_eq, beq_iff_eq] at *
        rcases h1 with h1 | ⟨rfl, h1⟩
        · rcases h2 with h2 | ⟨rfl, h2⟩
          · exact .inl (UInt8.lt_trans h1 h2)
          · exact .inl h1
        · rcases h2 with h2 | ⟨rfl, h2⟩
          · exact .inl h2
          · exact .inr ⟨rfl, ih h1 h2⟩
theorem less_irrefl (a : List UInt8) : Op.bytesLess a a = false := by
  induction a with
  | nil => rfl
  | cons x a ih => simp [Op.bytesLess, ih]

/-- The names rise. -/
def Rise (xs : List Fl) : Prop := ∀ i j, i < j → j < xs.length → lessB (xs.getD i fl0).nm (xs.getD j fl0).nm = true

theorem rise_of_ok {xs : List Fl} (h : ∀ j, j < xs.length → okAt xs j = true) : Rise xs := by
  intro i j hij
  induction j with
  | zero => omega
  | succ j ih =>
    intro hj
    have h1 : lessB (xs.getD j fl0).nm (xs.getD (j + 1) fl0).nm = true := by
      have := h (j + 1) hj
      unfold okAt at this
      simp only [Bool.and_eq_true, Bool.or_eq_true] at this
      rcases this.2 with h0 | h0
      · simp at h0
      · simpa using h0
    by_cases hij' : i = j
    · rw [hij']; exact h1
    · exact less_trans (ih (by omega) (by omega)) h1

theorem Rise.ne {xs : List Fl} (h : Rise xs) {i j : Nat} (hij : i < j) (hj : j < xs.length) : (xs.getD i fl0).nm.data.toList ≠ (xs.getD j fl0).nm.data.toList := by
  intro e
  have := h i j hij hj
  unfold lessB at this
  rw [ByteArray.toList_eq, ByteArray.toList_eq, e, less_irrefl] at this
  cases this

theorem fm_none {xs : List Fl} {l : List UInt8} (h : ∀ i, i < xs.length → (xs.getD i fl0).nm.data.toList ≠ l) : fm xs l = none := by
  induction xs with
  | nil => rfl
  | cons f r ih =>
    have h0 := h 0 (by simp)
    simp only [fm]
    rw [ih (fun i hi => by simpa using h (i + 1) (by simpa using hi))]
    have : ¬ l = f.nm.data.toList := fun e => h0 (by simp [e])
    simp [this]

theorem getD_take (xs : List Fl) {k i : Nat} (hi : i < k) (hk : k ≤ xs.length) : (xs.take k).getD i fl0 = xs.getD i fl0 := by
  simp [List.getD, hi]

theorem Rise.fresh {xs : List Fl} (h : Rise xs) {k : Nat} (hk : k < xs.length) : fm (xs.take k) (xs.getD k fl0).nm.data.toList = none := by
  refine fm_none fun i hi => ?_
  have hi' : i < k := by simp at hi; omega
  rw [getD_take xs hi' (by omega)]
  exact h.ne hi' hk

theorem vld_head {xs : List Fl} {q fu : Int} (h : vldB xs q fu = true) : hdOk xs.length q fu = true ∧ (∀ j, j < xs.length → okAt xs j = true) ∧ datas xs ≤ 1048576 := by
  unfold vldB at h
  simp only [Bool.and_eq_true, decide_eq_true_eq, List.all_eq_true, List.mem_range] at h
  exact ⟨h.1.1, h.1.2, h.2⟩

set_option maxHeartbeats 1000000 in
theorem openDir_bad (a : Option Addr) (cap : Nat) (xs : List Fl) (q fu : Int) (w : World) (hx : Lie w a xs) (hf : Fits xs) (hlen : xs.length ≤ 1048576) (hd : datas xs ≤ 1048576) (hv : vldB xs q fu = false) :
    Calls Try.prog 17 #[.agg #[.slice a xs.length cap, .int .i64 q, .int .i64 fu]] w fun e w' => e = .returned (.tuple #[.pointer none, .bool false]) ∧ Below w.heap.size w w' := by
  have hb0 : Below w.heap.size w (w.alloc (.cells #[.slice a xs.length cap, .int .i64 q, .int .i64 fu] 29)) := (Below.refl _ _).alloc (Nat.le_refl _) _
  go_enter Try.func17, Try.ntmps17
  go_wp2_with fail
  refine (implValid_any a cap xs q fu _ (hx.below hb0) hf hlen hd).mono ?_
  rintro e w1 ⟨rfl, hb1⟩
  rw [hv]
  go_wp2
  go_ret2
  exact ⟨rfl, hb0.trans (hb1.mono hb0.size)⟩

set_option maxHeartbeats 1000000 in
theorem openDir_ok (a : Option Addr) (cap : Nat) (xs : List Fl) (q fu : Int) (w : World) (hx : Lie w a xs) (hf : Fits xs) (hlen : xs.length ≤ 1048576) (hd : datas xs ≤ 1048576) (hv : vldB xs q fu = true) :
    Calls Try.prog 17 #[.agg #[.slice a xs.length cap, .int .i64 q, .int .i64 fu]] w fun e w' =>
      ∃ g mb, e = .returned (.tuple #[.pointer (some ⟨g, 0, none⟩), .bool true]) ∧ w.heap.size ≤ mb ∧ w.heap.size ≤ g ∧ g ≠ mb ∧ w'.heap[g]? = some (.cells (dirC mb q fu) 70 (0, 0)) ∧ Dir w' mb xs.length (fm xs) ∧ Below w.heap.size w w' := by
  have hb0 : Below w.heap.size w (w.alloc (.cells #[.slice a xs.length cap, .int .i64 q, .int .i64 fu] 29)) := (Below.refl _ _).alloc (Nat.le_refl _) _
  have hmm := makeMap_hint
  go_enter Try.func17, Try.ntmps17
  go_wp2_with fail
  refine (implValid_any a cap xs q fu _ (hx.below hb0) hf hlen hd).mono ?_
  rintro e w1 ⟨rfl, hb1⟩
  rw [hv]
  have hbw : Below w.heap.size w w1 := hb0.trans (hb1.mono hb0.size)
  have p0 : w1.cell? ⟨w.heap.size, 0, none⟩ = some (.slice a xs.length cap) := (hb1.cell (p := ⟨w.heap.size, 0, none⟩) (by simp)).trans (by simp)
  have p1 : w1.cell? ⟨w.heap.size, 1, none⟩ = some (.int .i64 q) := (hb1.cell (p := ⟨w.heap.size, 1, none⟩) (by simp)).trans (by simp)
  have p2 : w1.cell? ⟨w.heap.size, 2, none⟩ = some (.int .i64 fu) := (hb1.cell (p := ⟨w.heap.size, 2, none⟩) (by simp)).trans (by simp)
  have hsz : w.heap.size < w1.heap.size := by have := hb1.size; simp at this; omega
  clear hb1 hb0
  go_wp2_with fail
  go_region_held3 (fun w' => w'.cell? ⟨w.heap.size, 0, none⟩ = some (.slice a xs.length cap) ∧ w'.cell? ⟨w.heap.size, 1, none⟩ = some (.int .i64 q) ∧ w'.cell? ⟨w.heap.size, 2, none⟩ = some (.int .i64 fu)) (go_keep) (fail)
  all_goals go_wp2
  all_goals
    have hrise := rise_of_ok (vld_head hv).2.1
    clear hmm hv p0 p1 p2
    go_loopw [23] (fun i wr => ∃ k : Nat, k ≤ xs.length ∧ i = .int .i64 k ∧ Dir wr w1.heap.size k (fm (xs.take k)) ∧ wr.heap[w1.heap.size + 1]? = some (.cells (dirC w1.heap.size q fu) 70 (0, 0)) ∧ Below w1.heap.size w1 wr ∧ w1.heap.size + 1 < wr.heap.size) (fun i _ => xs.length - (intOf i).toNat)
    case atStart =>
      refine ⟨0, Nat.zero_le _, rfl, ?_, ?_, ?_, ?_⟩
      · exact ((Dir.made w1).alloc _).block rfl
      · have := World.heap_alloc_new (w1.alloc (.map #[] 0)) (.cells (dirC w1.heap.size q fu) 70)
        have e : (w1.alloc (.map #[] 0)).heap.size = w1.heap.size + 1 := by simp
        rw [e] at this
        exact this
      · exact (((Below.refl _ _).alloc (Nat.le_refl _) _).alloc (by simp) _).drew
      · simp
    case round =>
      obtain ⟨k, hk, rfl, hdir, hobj, hb, hsz2⟩ := hrel
      by_cases hlt : k < xs.length
      · have hbr := hbw.trans (hb.mono (by omega))
        have hfk := hf.at hlt
        obtain ⟨b, off, rfl, hbl, c0, c1, c2⟩ := (hx.below hbr).at hlt
        have HS : Hid (fm (xs.take (k + 1)) = upd (fm (xs.take k)) (xs.getD k fl0).nm.data.toList ((xs.getD k fl0).dt, (xs.getD k fl0).sy)) := by show _ = _; rw [take_snoc xs k hlt, fm_snoc]
        have HF : Hid (fm (xs.take k) (xs.getD k fl0).nm.data.toList = none) := hrise.fresh hlt
        generalize xs.getD k fl0 = f at *
        have o6 : wr.cell? ⟨w1.heap.size + 1, 6, none⟩ = some (.map (some w1.heap.size)) := by simp [World.cell?, hobj]
        obtain ⟨w2, hrun, hdir2, hturn⟩ := (((hdir.alloc (.cells #[.string f.nm, .string f.dt, .int .i64 f.sy] 41)).block rfl : Dir ((wr.alloc (.cells #[.string f.nm, .string f.dt, .int .i64 f.sy] 41)).drew) w1.heap.size k (fm (xs.take k)))).store (by unfold maxLen; omega) hfk.1 f.dt f.sy
        rw [HF.out] at hdir2
        have r0 : w2.cell? ⟨w1.heap.size + 1, 6, none⟩ = some (.map (some w1.heap.size)) := (turned_cell hturn (p := ⟨w1.heap.size + 1, 6, none⟩) (by simp; omega) (by simp)).trans ((World.cell?_alloc_lt wr _ ⟨w1.heap.size + 1, 6, none⟩ hsz2).trans o6)
        have r1 : w2.cell? ⟨wr.heap.size, 0, none⟩ = some (.string f.nm) := (turned_cell hturn (p := ⟨wr.heap.size, 0, none⟩) (by simp) (by simp; omega)).trans (by simp)
        have r2 : w2.cell? ⟨wr.heap.size, 1, none⟩ = some (.string f.dt) := (turned_cell hturn (p := ⟨wr.heap.size, 1, none⟩) (by simp) (by simp; omega)).trans (by simp)
        have r3 : w2.cell? ⟨wr.heap.size, 2, none⟩ = some (.int .i64 f.sy) := (turned_cell hturn (p := ⟨wr.heap.size, 2, none⟩) (by simp) (by simp; omega)).trans (by simp)
        have hobj2 : w2.heap[w1.heap.size + 1]? = some (.cells (dirC w1.heap.size q fu) 70 (0, 0)) := (turned_block hturn (by simp; omega) (by simp)).trans ((Below.heap_alloc wr _ _ hsz2).trans hobj)
        have hb2 : Below w1.heap.size w1 w2 := ((hb.alloc (by omega) _).drew).trans (mapTurned_below hturn (Nat.le_refl _))
        have hs2 : w1.heap.size + 1 < w2.heap.size := by have := hturn.grown.size; simp at this; omega
        go_wp2_with fail
        go_region_held3 (fun w' => w'.cell? ⟨w1.heap.size + 1, 6, none⟩ = some (.map (some w1.heap.size)) ∧ w'.cell? ⟨wr.heap.size, 0, none⟩ = some (.string f.nm) ∧ w'.cell? ⟨wr.heap.size, 1, none⟩ = some (.string f.dt) ∧ w'.cell? ⟨wr.heap.size, 2, none⟩ = some (.int .i64 f.sy)) (go_keep) (fail)
        all_goals go_wp2
        all_goals exact ⟨⟨k + 1, by omega, by go_num, by rw [HS.out]; exact hdir2, hobj2, hb2, hs2⟩, by simp [intOf]; omega⟩
      · obtain rfl : k = xs.length := by omega
        rw [List.take_length] at hdir
        go_wp2
        go_ret2
        exact ⟨_, _, rfl, by omega, by omega, by omega, hobj, hdir, hbw.trans (hb.mono (by omega))⟩
end Go.Proofs.Ytnnhdfplbhdcaac
