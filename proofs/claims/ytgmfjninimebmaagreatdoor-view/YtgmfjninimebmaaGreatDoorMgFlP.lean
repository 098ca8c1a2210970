import Derived.Test.YtgmfjninimebmaaGreatDoorMgRlG
import Derived.Maps.AppendAt
import Derived.Test.YtgmfjninimebmaaGreatDoorProg
namespace Go.Proofs.YtgmfjninimebmaaGreatDoor
open Go.RowKit Go.Maps
set_option linter.unusedVariables false
set_option linter.unusedSimpArgs false

theorem getD_skip (A B : List UInt8) {n : Nat} (h : A.length = n) {x : Nat} : (A ++ B).getD (n + x) 0 = B.getD x 0 := by
  rw [getD_right (by omega), h, Nat.add_sub_cancel_left]
theorem data_back (p : ByteArray) : (⟨p.data.toList.toArray⟩ : ByteArray) = p := by cases p; simp
theorem rf_at {s : ByteArray} {pg : Nat} {r : Option (Nat × List UInt8 × Nat)} (h : pg * 64 + 64 ≤ s.size) (hr : rfAt s.data.toList pg = r) : rf s pg = r := by
  unfold rf
  rw [if_pos ⟨by omega, by simpa using h⟩]
  simpa using hr
end Go.Proofs.YtgmfjninimebmaaGreatDoor
namespace Go.Proofs.YtgmfjninimebmaaGreatDoor
open Go.RowKit Go.Maps
set_option linter.unusedVariables false
set_option linter.unusedSimpArgs false

/-- Frames of kind k, one behind the other; how many pages they have; what is read of them from page p on. -/
def framesL (k : Nat) (Ps : List (List UInt8)) : List UInt8 := Ps.flatMap (frB k)
def pgs (Ps : List (List UInt8)) : Nat := (Ps.map fun P => pagesN (8 + P.length)).sum
def mkF (k : Nat) : Nat → List (List UInt8) → List Fr
  | _, [] => []
  | p, P :: r => some (k, P, p + pagesN (8 + P.length)) :: mkF k (p + pagesN (8 + P.length)) r
theorem framesL_cons (k : Nat) (P : List UInt8) (r : List (List UInt8)) : framesL k (P :: r) = frB k P ++ framesL k r := rfl
theorem pgs_cons (P : List UInt8) (r : List (List UInt8)) : pgs (P :: r) = pagesN (8 + P.length) + pgs r := by simp [pgs]
theorem framesL_len (k : Nat) (Ps : List (List UInt8)) : (framesL k Ps).length = 64 * pgs Ps := by
  induction Ps with
  | nil => rfl
  | cons P r ih => rw [framesL_cons, List.length_append, frB_lenR, ih, pgs_cons]; omega
theorem pages_pos (n : Nat) : 1 ≤ pagesN (8 + n) := by unfold pagesN; omega

/-- What is found at a page where a frame stands. -/
theorem rf_stands {s : ByteArray} {A T P : List UInt8} {k p : Nat} (hs : s.data.toList = A ++ (frB k P ++ T)) (hA : A.length = p * 64) (hk : kindOk (k : Int) = true) (hk2 : k < 256) (hP : P.length ≤ 1048576) : rf s p = some (k, P, p + pagesN (8 + P.length)) := by
  have h1 := pages_pos P.length
  have hl : s.size = A.length + (64 * pagesN (8 + P.length) + T.length) := by rw [← len_data, hs, List.length_append, List.length_append, frB_lenR]
  refine rf_at (by omega) ?_
  rw [hs]
  have h := lies_of A T P k
  rw [hA] at h
  exact rfAt_lies h hk hk2 hP
/-- Frames are read one after the other. -/
theorem frs_frames {s : ByteArray} {k : Nat} (hk : kindOk (k : Int) = true) (hk2 : k < 256) : ∀ (Ps : List (List UInt8)) (A T : List UInt8) (p : Nat), s.data.toList = A ++ (framesL k Ps ++ T) → A.length = p * 64 → (∀ P ∈ Ps, P.length ≤ 1048576) → frs s p = mkF k p Ps ++ frs s (p + pgs Ps) := by
  intro Ps
  induction Ps with
  | nil => intro A T p _ _ _; simp [mkF, pgs]
  | cons P r ih =>
    intro A T p hs hA hP
    have h1 := pages_pos P.length
    rw [framesL_cons, List.append_assoc] at hs
    have hr := rf_stands hs hA hk hk2 (hP P (by simp))
    have hl : s.size = A.length + (64 * pagesN (8 + P.length) + (framesL k r ++ T).length) := by rw [← len_data, hs, List.length_append, List.length_append, frB_lenR]
    have hn : nx s p = p + pagesN (8 + P.length) := by
      have := (nx_some (s := s) (p := p) (by rw [hr]; rfl)).1
      rw [this, hr]
      rfl
    have hs2 : s.data.toList = (A ++ frB k P) ++ (framesL k r ++ T) := by rw [hs, List.append_assoc]
    have hA2 : (A ++ frB k P).length = (p + pagesN (8 + P.length)) * 64 := by rw [List.length_append, frB_lenR, hA]; omega
    rw [frs_more (by omega), hr, hn, ih _ T _ hs2 hA2 (fun Q hQ => hP Q (by simp [hQ])), pgs_cons, Nat.add_assoc]
    rfl
theorem frs_skip {s : ByteArray} : ∀ (m p : Nat), (∀ i, i < m → rf s ((p + i : Nat) : Int) = none) → (p + m) * 64 ≤ s.size → frs s p = List.replicate m none ++ frs s (p + m) := by
  intro m
  induction m with
  | zero => intro p _ _; rfl
  | succ m ih =>
    intro p h hl
    have h0 := h 0 (by omega)
    rw [Nat.add_zero] at h0
    have hn : nx s p = p + 1 := nx_none (by rw [h0]; rfl)
    rw [frs_more (by omega), h0, hn, ih (p + 1) (fun i hi => by have := h (i + 1) (by omega); rw [show p + 1 + i = p + (i + 1) by omega]; exact this) (by omega), show p + 1 + m = p + (m + 1) by omega]
    rfl
theorem mkF_gd (k : Nat) : ∀ (Ps : List (List UInt8)) (p : Nat), ∀ f ∈ mkF k p Ps, gd (k : Int) f = true := by
  intro Ps
  induction Ps with
  | nil => intro p f hf; cases hf
  | cons P r ih =>
    intro p f hf
    rcases List.mem_cons.1 hf with rfl | h
    · simp [gd, rfK]
    · exact ih _ f h
theorem mkF_texts (k : Nat) : ∀ (Ps : List (List UInt8)) (p : Nat), (mkF k p Ps).map rfB = Ps.map fun P => (⟨P.toArray⟩ : ByteArray) := by
  intro Ps
  induction Ps with
  | nil => intro p; rfl
  | cons P r ih => intro p; simp only [mkF, List.map_cons, ih]; rfl
theorem mkF_last (k : Nat) : ∀ (Ps : List (List UInt8)) (p : Nat), Ps ≠ [] → lastN (mkF k p Ps) = p + pgs Ps := by
  intro Ps
  induction Ps with
  | nil => intro p h; exact absurd rfl h
  | cons P r ih =>
    intro p _
    rw [pgs_cons]
    cases r with
    | nil => simp [mkF, lastN, rfN, pgs]
    | cons Q r2 =>
      have := ih (p + pagesN (8 + P.length)) (by simp)
      rw [← Nat.add_assoc, ← this]
      simp only [mkF, lastN, List.getLast?_cons_cons]
/-- ReadLog of whole frames, and of frames with what is none behind them. -/
theorem rl_frames {s : ByteArray} {k : Nat} {Ps : List (List UInt8)} {rest : List Fr} (h : frs s 0 = mkF k 0 Ps ++ rest) (hr : rest = [] ∨ ∃ r, rest = none :: r) : rlL s k = mkF k 0 Ps := by
  rcases hr with rfl | ⟨r, rfl⟩
  · exact rl_done (by rw [h, List.append_nil]) (mkF_gd k Ps 0)
  · exact rl_stop h (mkF_gd k Ps 0) rfl
/-- A frame of which bytes are lacking at its end is none. -/
theorem rf_cut {s : ByteArray} {A P : List UInt8} {k p m : Nat} (hs : s.data.toList = A ++ (frB k P).take m) (hA : A.length = p * 64) (hm : m < 64 * pagesN (8 + P.length)) (hP : P.length ≤ 1048576) : rf s p = none := by
  have h1 := pages_pos P.length
  have hl : s.size = p * 64 + m := by rw [← len_data, hs, List.length_append, hA, List.length_take, frB_lenR]; omega
  by_cases h64 : 64 ≤ m
  · refine rf_at (by omega) (rfAt_none ?_)
    have hlie := lies_of A [] P k
    rw [hA, List.append_nil] at hlie
    have hcb : ∀ i, i < 4 → cb s.data.toList (p * 64) (0 + i) = (four P.length).getD i 0 := fun i hi => by
      have hc := hlie.cell i (by omega)
      rw [body_get, if_pos hi] at hc
      rw [Nat.zero_add, ← hc]
      unfold cb
      have e : i / 63 = 0 := by omega
      have e2 : i % 63 = i := by omega
      rw [e, e2, hs, show p * 64 + 1 + 0 * 64 + i = p * 64 + (1 + i) by omega, getD_skip _ _ hA, getD_skip _ _ hA]
      simp only [List.getD]
      rw [List.getElem?_take_of_lt (by omega)]
    have hw := word_of (L := s.data.toList) (F := p * 64) (j := 0) (n := P.length) (by omega) hcb
    rw [hw]
    rintro ⟨-, -, h3, -⟩
    rw [len_data] at h3
    omega
  · unfold rf
    rw [if_neg]
    rintro ⟨-, h⟩
    simp only [Int.toNat_natCast] at h
    omega
/-- A page that begins with what is no kind is none. -/
theorem rf_nokind {s : ByteArray} {p : Nat} {x : UInt8} (h : s.data.toList.getD (p * 64) 0 = x) (hx : kindOk ((x.toNat : Nat) : Int) = false) : rf s p = none := by
  by_cases hl : p * 64 + 64 ≤ s.size
  · refine rf_at hl (rfAt_none ?_)
    rw [h]
    rintro ⟨h1, -⟩
    rw [hx] at h1
    cases h1
  · unfold rf
    rw [if_neg]
    rintro ⟨-, h⟩
    simp only [Int.toNat_natCast] at h
    omega
end Go.Proofs.YtgmfjninimebmaaGreatDoor
namespace Go.Proofs.YtgmfjninimebmaaGreatDoor
open Go.RowKit Go.Maps
set_option linter.unusedVariables false
set_option linter.unusedSimpArgs false

/-- The numbers ks lie one behind the other behind a slice's address. -/
def LieI (w : World) (a : Option Addr) (ks : List Int) : Prop :=
  ks = [] ∨ ∃ b off, a = some ⟨b, off, none⟩ ∧ b < w.heap.size ∧ ∀ i, i < ks.length → w.cell? ⟨b, off + i, none⟩ = some (.int .i64 (ks.getD i 0))
theorem LieI.at {w : World} {a : Option Addr} {ks : List Int} (h : LieI w a ks) {i : Nat} (hi : i < ks.length) :
    ∃ b off, a = some ⟨b, off, none⟩ ∧ b < w.heap.size ∧ w.cell? ⟨b, off + i, none⟩ = some (.int .i64 (ks.getD i 0)) := by
  rcases h with rfl | ⟨b, off, rfl, hlt, hc⟩
  · simp at hi
  · exact ⟨b, off, rfl, hlt, hc i hi⟩
theorem LieI.kept {w w' : World} {a : Option Addr} {ks : List Int} (h : LieI w a ks) (hs : w.heap.size ≤ w'.heap.size) (hb : ∀ b off, a = some ⟨b, off, none⟩ → ks ≠ [] → b < w.heap.size → w'.heap[b]? = w.heap[b]?) : LieI w' a ks := by
  by_cases h0 : ks = []
  · exact .inl h0
  rcases h with h | ⟨b, off, rfl, hlt, hc⟩
  · exact absurd h h0
  · exact .inr ⟨b, off, rfl, by omega, fun i hi => (World.cell?_of_block (hb b off rfl h0 hlt)).trans (hc i hi)⟩
theorem LieI.lt {w : World} {a : Option Addr} {ks : List Int} (h : LieI w a ks) : ∀ b off, a = some ⟨b, off, none⟩ → ks ≠ [] → b < w.heap.size := by
  intro b off e h0
  rcases h with h | ⟨b', off', rfl, hlt, hc⟩
  · exact absurd h h0
  · cases e
    exact hlt
theorem LieI.below {w w' : World} {a : Option Addr} {ks : List Int} (h : LieI w a ks) (hb : Below w.heap.size w w') : LieI w' a ks := h.kept hb.size (fun b off _ _ hl => hb.block b hl)

/-- Block g is room for n numbers; the first k of them stand in it. -/
def PartI (w : World) (g n : Nat) (ks : List Int) (k : Nat) : Prop :=
  ∃ cs : Array Value, w.heap[g]? = some (.cells cs 3 (0, 0)) ∧ cs.size = n ∧ ∀ i, i < k → cs[i]? = some (.int .i64 (ks.getD i 0))
theorem PartI.below {w w' : World} {B g n k : Nat} {ks : List Int} (h : PartI w g n ks k) (hb : Below B w w') (hg : g < B) : PartI w' g n ks k := by
  obtain ⟨cs, h1, h2, h3⟩ := h
  exact ⟨cs, (hb.block g hg).trans h1, h2, h3⟩
theorem PartI.lt {w : World} {g n k : Nat} {ks : List Int} (h : PartI w g n ks k) : g < w.heap.size := by
  obtain ⟨cs, h1, _⟩ := h
  by_cases hg : g < w.heap.size
  · exact hg
  · rw [Array.getElem?_eq_none (by omega)] at h1; cases h1
theorem PartI.cell {w : World} {g n k : Nat} {ks : List Int} (h : PartI w g n ks k) (o : Nat) (ho : o < n) : (∃ v, w.cell? ⟨g, o, none⟩ = some v) ∧ w.frozen? ⟨g, o, none⟩ = false := by
  obtain ⟨cs, h1, h2, _⟩ := h
  exact ⟨⟨cs[o]'(by omega), by simp [World.cell?, h1]⟩, by simp [World.frozen?, h1]⟩
theorem PartI.step {w : World} {g n k : Nat} {ks : List Int} (h : PartI w g n ks k) (hk : k < n) {x : Int} (hx : ks.getD k 0 = x) : PartI (w.setCell ⟨g, k, none⟩ (.int .i64 x)) g n ks (k + 1) := by
  obtain ⟨cs, h1, h2, h3⟩ := h
  have e1 := heap_setCell_same w g k cs _ (.int .i64 x) h1
  refine ⟨_, e1, by simp [h2], fun i hi => ?_⟩
  by_cases hik : i = k
  · subst hik
    rw [hx]
    simp [Array.getElem?_setIfInBounds]; omega
  · rw [Array.getElem?_setIfInBounds_ne (by omega)]
    exact h3 i (by omega)
theorem PartI.set {w : World} {g n k : Nat} {ks : List Int} (h : PartI w g n ks k) (o : Nat) (v : Value) : PartI (w.setCell ⟨g, o, none⟩ v) g n ks 0 := by
  obtain ⟨cs, h1, h2, h3⟩ := h
  exact ⟨_, heap_setCell_same w g o cs _ v h1, by simp [h2], fun i hi => absurd hi (Nat.not_lt_zero _)⟩
theorem PartI.lie {w : World} {g : Nat} {ks : List Int} (h : PartI w g ks.length ks ks.length) : LieI w (some ⟨g, 0, none⟩) ks := by
  have hg := h.lt
  obtain ⟨cs, h1, h2, h3⟩ := h
  exact .inr ⟨g, 0, rfl, hg, fun i hi => by simpa [World.cell?, h1] using h3 i hi⟩

theorem int_info : (Tryz.prog.info? 3).map (fun i => (i.zero, i.size, i.bytes)) = some (some (.int .i64 0), 1, 8) := by kernel_rfl
theorem make_ints (n : Nat) (h : n ≤ 1048576) (w : World) : (Instr.makeSlice 205 (.int .i64 (n : Int)) (.int .i64 (n : Int))).run Tryz.prog w = .ok (.slice (some ⟨w.heap.size, 0, none⟩) n n) (w.alloc (.cells (madeCells #[.int .i64 0] n) 3)) := by
  have hi := int_info
  cases hj : Tryz.prog.info? 3 with
  | none => rw [hj] at hi; cases hi
  | some i =>
    rw [hj] at hi
    simp only [Option.map_some, Option.some.injEq, Prod.mk.injEq] at hi
    obtain ⟨hz, hs, hb⟩ := hi
    have := run_make (P := Tryz.prog) w 205 3 i _ Tryz.underlying205 hj hz .i64 .i64 (n : Int) (n : Int) (by omega) (Int.le_refl _) (by rw [hb]; omega) (by omega)
    rw [this, hs]
    simp [Value.cells]

end Go.Proofs.YtgmfjninimebmaaGreatDoor
namespace Go.Proofs.YtgmfjninimebmaaGreatDoor
open Go.RowKit Go.Maps
set_option linter.unusedVariables false
set_option linter.unusedSimpArgs false

theorem four_cellsEE {w : World} {p : Nat} {t : TypeId} {x0 x1 x2 x3 : Value} (h : w.heap[p]? = some (.cells #[x0, x1, x2, x3] t (0, 0))) :
    (w.cell? ⟨p, 0, none⟩ = some x0 ∧ w.cell? ⟨p, 1, none⟩ = some x1 ∧ w.cell? ⟨p, 2, none⟩ = some x2 ∧ w.cell? ⟨p, 3, none⟩ = some x3) ∧ w.frozen? ⟨p, 0, none⟩ = false ∧ w.frozen? ⟨p, 1, none⟩ = false ∧ w.frozen? ⟨p, 2, none⟩ = false ∧ w.frozen? ⟨p, 3, none⟩ = false := by
  refine ⟨⟨?_, ?_, ?_, ?_⟩, ?_, ?_, ?_, ?_⟩ <;> simp [World.cell?, World.frozen?, h]
/-- Rows of numbers. -/
def RowI (w : World) (g n : Nat) (ks : List Int) (k : Nat) : Prop :=
  ∃ cs : Array Value, w.heap[g]? = some (.cells cs 3 (0, 0)) ∧ n ≤ cs.size ∧ ∀ i, i < k → cs[i]? = some (.int .i64 (ks.getD i 0))
def ResI (w : World) (base : Nat) (a : Option Addr) (ks : List Int) : Prop := ks = [] ∨ ∃ g, a = some ⟨g, 0, none⟩ ∧ base ≤ g ∧ RowI w g ks.length ks ks.length
theorem RowI.block {w w' : World} {g n k : Nat} {ks : List Int} (h : RowI w g n ks k) (hb : w'.heap[g]? = w.heap[g]?) : RowI w' g n ks k := by
  obtain ⟨cs, h1, h2, h3⟩ := h
  exact ⟨cs, hb.trans h1, h2, h3⟩
theorem RowI.lt {w : World} {g n k : Nat} {ks : List Int} (h : RowI w g n ks k) : g < w.heap.size := by
  obtain ⟨cs, h1, _⟩ := h
  exact heap_lt h1
theorem ResI.kept {w w' : World} {base : Nat} {a : Option Addr} {ks : List Int} (h : ResI w base a ks) (hb : ∀ k, base ≤ k → k < w.heap.size → w'.heap[k]? = w.heap[k]?) : ResI w' base a ks := by
  rcases h with h | ⟨g, rfl, hg, hr⟩
  · exact .inl h
  · exact .inr ⟨g, rfl, hg, hr.block (hb g hg hr.lt)⟩
theorem ResI.below {w w' : World} {base : Nat} {a : Option Addr} {ks : List Int} (h : ResI w base a ks) (hb : Below w.heap.size w w') : ResI w' base a ks := h.kept (fun k _ hk => hb.block k hk)
theorem ResI.lie {w : World} {base : Nat} {a : Option Addr} {ks : List Int} (h : ResI w base a ks) : LieI w a ks := by
  rcases h with h | ⟨g, rfl, hg, hr⟩
  · exact .inl h
  · have hlt := hr.lt
    obtain ⟨cs, h1, h2, h3⟩ := hr
    exact .inr ⟨g, 0, rfl, hlt, fun i hi => by simpa [World.cell?, h1] using h3 i hi⟩
/-- The cells of numbers. -/
def ic (ks : List Int) : List Value := ks.map fun k => .int .i64 k
theorem ic_snoc (ks : List Int) (x : Int) : ic (ks ++ [x]) = ic ks ++ [.int .i64 x] := by simp [ic]
theorem resI_of_owns {w : World} {B n : Nat} {v : Value} {ks : List Int} (h : w.ownsRow B 3 1 v n (ic ks)) :
    n = ks.length ∧ ∃ a cap, v = .slice a ks.length cap ∧ ResI w B a ks := by
  obtain ⟨h1, h2⟩ := h
  have hn : n = ks.length := by simp [ic] at h1; omega
  refine ⟨hn, ?_⟩
  subst hn
  rcases h2 with ⟨rfl, h0⟩ | ⟨g, cap, cur, rfl, hg, hb, hl, hm, hsz, htk⟩
  · exact ⟨none, 0, by rw [h0], .inl (List.length_eq_zero_iff.1 h0)⟩
  · refine ⟨some ⟨g, 0, none⟩, cap, rfl, .inr ⟨g, rfl, hg, cur, hb, by rw [hsz]; omega, fun i hi => ?_⟩⟩
    have hcell : cur[i]? = (ic ks)[i]? := by
      have e1 : (cur.toList.take (ks.length * 1))[i]? = (ic ks)[i]? := by rw [htk]
      rw [List.getElem?_take_of_lt (by omega)] at e1
      simpa using e1
    rw [hcell]
    simp [ic, List.getD, hi]
theorem ownsNil (w : World) (B : Nat) (t : TypeId) (size : Nat) : w.ownsRow B t size (.slice none 0 0) 0 [] := ⟨by simp, .inl ⟨rfl, rfl⟩⟩
theorem owns_belowE {w w' : World} {B n size : Nat} {e : TypeId} {v : Value} {xs : List Value} (h : w.ownsRow B e size v n xs) (hb : Below w.heap.size w w') : w'.ownsRow B e size v n xs := by
  obtain ⟨h1, h2⟩ := h
  refine ⟨h1, ?_⟩
  rcases h2 with h2 | ⟨g, cap, cur, rfl, hg, hbk, hrest⟩
  · exact .inl h2
  · exact .inr ⟨g, cap, cur, rfl, hg, (hb.block g (heap_lt hbk)).trans hbk, hrest⟩
theorem owns_blocksE {w w' : World} {B n size : Nat} {e : TypeId} {v : Value} {xs : List Value} (h : w.ownsRow B e size v n xs) (hb : ∀ g, v.ownBlock = some g → w'.heap[g]? = w.heap[g]?) : w'.ownsRow B e size v n xs := by
  obtain ⟨h1, h2⟩ := h
  refine ⟨h1, ?_⟩
  rcases h2 with h2 | ⟨g, cap, cur, rfl, hg, hbk, hrest⟩
  · exact .inl h2
  · exact .inr ⟨g, cap, cur, rfl, hg, (hb g rfl).trans hbk, hrest⟩
theorem owns_set {w : World} {B n size p o : Nat} {e : TypeId} {v u : Value} {xs : List Value} (h : w.ownsRow B e size v n xs) (hp : p < B) : (w.setCell ⟨p, o, none⟩ u).ownsRow B e size v n xs :=
  owns_blocksE h (fun g hg => Below.heap_setCell _ _ _ _ (by have := owns_base h g hg; dsimp only; omega))
def mkI (k0 n : Nat) : List Int := (List.range n).map fun i => ((k0 + i : Nat) : Int)
theorem mkI_length (k0 n : Nat) : (mkI k0 n).length = n := by simp [mkI]
theorem mkI_at (k0 n i : Nat) (h : i < n) : (mkI k0 n).getD i 0 = ((k0 + i : Nat) : Int) := by simp [mkI, List.getD, h]
theorem RowI.zero {w : World} {g n k : Nat} {xs : List Int} (h : RowI w g n xs k) (ys : List Int) : RowI w g n ys 0 := by
  obtain ⟨cs, h1, h2, _⟩ := h
  exact ⟨cs, h1, h2, fun i hi => absurd hi (Nat.not_lt_zero _)⟩
theorem RowI.step {w : World} {g n k : Nat} {ks : List Int} {x : Int} (h : RowI w g n ks k) (hk : k < n) (hx : ks.getD k 0 = x) : RowI (w.setCell ⟨g, k, none⟩ (.int .i64 x)) g n ks (k + 1) := by
  obtain ⟨cs, h1, h2, h3⟩ := h
  refine ⟨_, heap_setCell_same w g k cs _ (.int .i64 x) h1, by simpa using h2, fun i hi => ?_⟩
  by_cases hik : i = k
  · subst hik
    rw [hx]
    simp [Array.getElem?_setIfInBounds]; omega
  · rw [Array.getElem?_setIfInBounds_ne (by omega)]
    exact h3 i (by omega)
end Go.Proofs.YtgmfjninimebmaaGreatDoor
namespace Go.Proofs.YtgmfjninimebmaaGreatDoor
set_option linter.unusedVariables false
set_option linter.unusedSimpArgs false

/-- A strict weak order. -/
structure Swo {α : Type} (lt : α → α → Bool) : Prop where
  irr : ∀ a, lt a a = false
  tr : ∀ a b c, lt a b = true → lt b c = true → lt a c = true
  neg : ∀ a b c, lt a b = false → lt b c = false → lt a c = false
variable {α : Type} {lt : α → α → Bool}
/-- Neither comes before the other. -/
def eqv (lt : α → α → Bool) (c x : α) : Bool := !lt c x && !lt x c
/-- The same members of each class in the same order. -/
def Sm (lt : α → α → Bool) (xs ys : List α) : Prop := ∀ c, xs.filter (eqv lt c) = ys.filter (eqv lt c)
def Srtd (lt : α → α → Bool) (xs : List α) : Prop := xs.Pairwise fun a b => lt b a = false
theorem Sm.refl (xs : List α) : Sm lt xs xs := fun _ => rfl
theorem Sm.symm {xs ys : List α} (h : Sm lt xs ys) : Sm lt ys xs := fun c => (h c).symm
theorem Sm.trans {xs ys zs : List α} (h : Sm lt xs ys) (k : Sm lt ys zs) : Sm lt xs zs := fun c => (h c).trans (k c)
theorem Sm.app {xs ys us vs : List α} (h : Sm lt xs ys) (k : Sm lt us vs) : Sm lt (xs ++ us) (ys ++ vs) := fun c => by rw [List.filter_append, List.filter_append, h c, k c]
theorem Sm.cons (x : α) {xs ys : List α} (h : Sm lt xs ys) : Sm lt (x :: xs) (x :: ys) := Sm.app (Sm.refl [x]) h
theorem eqv_self (h : Swo lt) (x : α) : eqv lt x x = true := by simp [eqv, h.irr]
theorem Swo.asy (h : Swo lt) {a b : α} (hab : lt a b = true) : lt b a = false := by
  cases hb : lt b a with
  | false => rfl
  | true => have := h.tr a b a hab hb; rw [h.irr] at this; cases this
theorem eqv_no (h : Swo lt) {c x y : α} (h1 : eqv lt c x = true) (h2 : eqv lt c y = true) : lt x y = false ∧ lt y x = false := by
  simp only [eqv, Bool.and_eq_true, Bool.not_eq_true'] at h1 h2
  exact ⟨h.neg x c y h1.2 h2.1, h.neg y c x h2.2 h1.1⟩
/-- Two rows change places, where each of the second comes before each of the first. -/
theorem Sm.blocks (h : Swo lt) {xs ys : List α} (hlt : ∀ x ∈ xs, ∀ y ∈ ys, lt y x = true) : Sm lt (xs ++ ys) (ys ++ xs) := fun c => by
  rw [List.filter_append, List.filter_append]
  cases hx : xs.filter (eqv lt c) with
  | nil => simp
  | cons x r =>
    have hxm : x ∈ xs.filter (eqv lt c) := by rw [hx]; simp
    obtain ⟨hx1, hx2⟩ := List.mem_filter.1 hxm
    have hy : ys.filter (eqv lt c) = [] := List.filter_eq_nil_iff.2 (fun y hy hc => by
      have := (eqv_no h hx2 hc).2
      rw [hlt x hx1 y hy] at this
      cases this)
    rw [hy]; simp
theorem Sm.mem {xs ys : List α} (hs : Swo lt) (h : Sm lt xs ys) {x : α} (hx : x ∈ xs) : x ∈ ys := by
  have h1 : x ∈ xs.filter (eqv lt x) := List.mem_filter.2 ⟨hx, eqv_self hs x⟩
  rw [h x] at h1
  exact (List.mem_filter.1 h1).1
/-- There is one order that keeps the classes as they stand. -/
theorem sm_uniq (hs : Swo lt) : ∀ {xs ys : List α}, Srtd lt xs → Srtd lt ys → Sm lt xs ys → xs = ys
  | [], [], _, _, _ => rfl
  | [], y :: ys, _, _, h => by have := h.symm.mem hs (x := y) (by simp); simp at this
  | x :: xs, [], _, _, h => by have := h.mem hs (x := x) (by simp); simp at this
  | x :: xs, y :: ys, hx, hy, h => by
    have hyx : lt y x = false := by
      have hm := h.symm.mem hs (x := y) (by simp)
      rcases List.mem_cons.1 hm with e | hm
      · rw [e]; exact hs.irr _
      · exact (List.pairwise_cons.1 hx).1 y hm
    have hxy : lt x y = false := by
      have hm := h.mem hs (x := x) (by simp)
      rcases List.mem_cons.1 hm with e | hm
      · rw [e]; exact hs.irr _
      · exact (List.pairwise_cons.1 hy).1 x hm
    have he : x = y := by
      have h1 := h x
      rw [List.filter_cons, if_pos (eqv_self hs x), List.filter_cons, if_pos (by simp [eqv, hxy, hyx])] at h1
      exact (List.cons.inj h1).1
    subst he
    have ht : Sm lt xs ys := fun c => by
      have h1 := h c
      rw [List.filter_cons, List.filter_cons] at h1
      by_cases hc : eqv lt c x = true
      · rw [if_pos hc, if_pos hc] at h1; exact (List.cons.inj h1).2
      · rw [if_neg hc, if_neg hc] at h1; exact h1
    rw [sm_uniq hs (List.pairwise_cons.1 hx).2 (List.pairwise_cons.1 hy).2 ht]
/-- One more, ahead of its equals. -/
def insE (lt : α → α → Bool) (x : α) : List α → List α
  | [] => [x]
  | y :: r => if lt y x = true then y :: insE lt x r else x :: y :: r
def srt (lt : α → α → Bool) : List α → List α
  | [] => []
  | x :: r => insE lt x (srt lt r)
theorem insE_mem {x z : α} {l : List α} (h : z ∈ insE lt x l) : z = x ∨ z ∈ l := by
  induction l with
  | nil => simp [insE] at h; exact .inl h
  | cons y r ih =>
    unfold insE at h
    split at h
    · rcases List.mem_cons.1 h with h | h
      · exact .inr (by simp [h])
      · rcases ih h with h | h
        · exact .inl h
        · exact .inr (by simp [h])
    · rcases List.mem_cons.1 h with h | h
      · exact .inl h
      · exact .inr h
theorem insE_srtd (hs : Swo lt) (x : α) {l : List α} (h : Srtd lt l) : Srtd lt (insE lt x l) := by
  induction l with
  | nil => exact List.pairwise_singleton _ _
  | cons y r ih =>
    obtain ⟨h1, h2⟩ := List.pairwise_cons.1 h
    unfold insE
    split
    · rename_i hyx
      refine List.pairwise_cons.2 ⟨fun z hz => ?_, ih h2⟩
      rcases insE_mem hz with rfl | hz
      · exact hs.asy hyx
      · exact h1 z hz
    · rename_i hyx
      have hyx' : lt y x = false := by simpa using hyx
      refine List.pairwise_cons.2 ⟨fun z hz => ?_, h⟩
      rcases List.mem_cons.1 hz with rfl | hz
      · exact hyx'
      · exact hs.neg z y x (h1 z hz) hyx'
theorem insE_sm (hs : Swo lt) (x : α) (l : List α) : Sm lt (x :: l) (insE lt x l) := by
  induction l with
  | nil => exact Sm.refl _
  | cons y r ih =>
    unfold insE
    split
    · rename_i hyx
      have h1 : Sm lt ([x] ++ [y]) ([y] ++ [x]) := Sm.blocks hs (by simpa using hyx)
      exact (Sm.app h1 (Sm.refl r)).trans (Sm.cons y ih)
    · exact Sm.refl _
theorem srt_ok (hs : Swo lt) (xs : List α) : Srtd lt (srt lt xs) ∧ Sm lt xs (srt lt xs) := by
  induction xs with
  | nil => exact ⟨List.Pairwise.nil, Sm.refl _⟩
  | cons x r ih => exact ⟨insE_srtd hs x ih.1, (Sm.cons x ih.2).trans (insE_sm hs x _)⟩
theorem srt_of (hs : Swo lt) {xs ys : List α} (h1 : Srtd lt ys) (h2 : Sm lt xs ys) : ys = srt lt xs := sm_uniq hs h1 (srt_ok hs xs).1 (h2.symm.trans (srt_ok hs xs).2)
/-- Two rows made one; of equals that of the first goes first. -/
def mrg (lt : α → α → Bool) : List α → List α → List α
  | [], b => b
  | x :: a, [] => x :: a
  | x :: a, y :: b => if lt y x = true then y :: mrg lt (x :: a) b else x :: mrg lt a (y :: b)
  termination_by a b => a.length + b.length
theorem mrg_nil (a : List α) : mrg lt a [] = a := by cases a <;> simp [mrg]
theorem mrg_mem {z : α} : ∀ (a b : List α), z ∈ mrg lt a b → z ∈ a ∨ z ∈ b
  | [], b => fun h => by rw [mrg] at h; exact .inr h
  | x :: a, [] => fun h => by rw [mrg] at h; exact .inl h
  | x :: a, y :: b => fun h => by
    rw [mrg] at h
    split at h
    · rcases List.mem_cons.1 h with h | h
      · exact .inr (by simp [h])
      · rcases mrg_mem (x :: a) b h with h | h
        · exact .inl h
        · exact .inr (by simp [h])
    · rcases List.mem_cons.1 h with h | h
      · exact .inl (by simp [h])
      · rcases mrg_mem a (y :: b) h with h | h
        · exact .inl (by simp [h])
        · exact .inr h
  termination_by a b => a.length + b.length
theorem mrg_ok (hs : Swo lt) : ∀ (a b : List α), Srtd lt a → Srtd lt b → Srtd lt (mrg lt a b) ∧ Sm lt (a ++ b) (mrg lt a b)
  | [], b => fun _ hb => by rw [mrg]; exact ⟨hb, Sm.refl _⟩
  | x :: a, [] => fun ha _ => by rw [mrg, List.append_nil]; exact ⟨ha, Sm.refl _⟩
  | x :: a, y :: b => fun ha hb => by
    obtain ⟨ha1, ha2⟩ := List.pairwise_cons.1 ha
    obtain ⟨hb1, hb2⟩ := List.pairwise_cons.1 hb
    rw [mrg]
    split
    · rename_i hyx
      obtain ⟨h1, h2⟩ := mrg_ok hs (x :: a) b ha hb2
      have hay : ∀ z ∈ x :: a, lt y z = true := fun z hz => by
        rcases List.mem_cons.1 hz with rfl | hz
        · exact hyx
        · cases hyz : lt y z with
          | true => rfl
          | false => have := hs.neg y z x hyz (ha1 z hz); rw [hyx] at this; cases this
      refine ⟨List.pairwise_cons.2 ⟨fun z hz => ?_, h1⟩, ?_⟩
      · rcases mrg_mem _ _ hz with hz | hz
        · exact hs.asy (hay z hz)
        · exact hb1 z hz
      · have e : Sm lt ((x :: a) ++ [y]) ([y] ++ (x :: a)) := Sm.blocks hs (fun z hz w hw => by
          have : w = y := by simpa using hw
          subst this; exact hay z hz)
        have e2 : (x :: a) ++ y :: b = ((x :: a) ++ [y]) ++ b := by simp
        rw [e2]
        exact (Sm.app e (Sm.refl b)).trans (Sm.cons y h2)
    · rename_i hyx
      have hyx' : lt y x = false := by simpa using hyx
      obtain ⟨h1, h2⟩ := mrg_ok hs a (y :: b) ha2 hb
      refine ⟨List.pairwise_cons.2 ⟨fun z hz => ?_, h1⟩, Sm.cons x h2⟩
      rcases mrg_mem _ _ hz with hz | hz
      · exact ha1 z hz
      · rcases List.mem_cons.1 hz with rfl | hz
        · exact hyx'
        · exact hs.neg z y x (hb1 z hz) hyx'
  termination_by a b => a.length + b.length
theorem mrg_srt (hs : Swo lt) (a b : List α) : mrg lt (srt lt a) (srt lt b) = srt lt (a ++ b) := by
  obtain ⟨h1, h2⟩ := mrg_ok hs _ _ (srt_ok hs a).1 (srt_ok hs b).1
  exact srt_of hs h1 ((Sm.app (srt_ok hs a).2 (srt_ok hs b).2).trans h2)
end Go.Proofs.YtgmfjninimebmaaGreatDoor
