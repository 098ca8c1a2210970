import Derived.Test.YtphikgobdfknkaaGreatDoorWkE
namespace Go.Proofs.YtphikgobdfknkaaGreatDoor
open Go.RowKit Go.Maps
set_option linter.unusedVariables false
set_option linter.unusedSimpArgs false

theorem hd {p : Prop} (h : p) : Hid p := h
theorem dataL (s : ByteArray) : s.data.toList.length = s.size := by rw [Array.length_toList]; rfl
theorem textL (l : List UInt8) : (⟨l.toArray⟩ : ByteArray).data.toList = l := rfl
theorem appL (a b : ByteArray) : (a ++ b).data.toList = a.data.toList ++ b.data.toList := by simp
theorem appS (a b : ByteArray) : (a ++ b).size = a.size + b.size := by simp
theorem vb_len (n : Nat) : (vb n).length ≤ 8 := vbf_length_le 7 n
theorem heap_lt {w : World} {g : Nat} {o : Obj} (h : w.heap[g]? = some o) : g < w.heap.size := by
  by_cases hlt : g < w.heap.size
  · exact hlt
  · rw [Array.getElem?_eq_none (by omega)] at h; cases h
theorem four_cells {w : World} {p : Nat} {t : TypeId} {x0 x1 x2 x3 : Value} (h : w.heap[p]? = some (.cells #[x0, x1, x2, x3] t (0, 0))) :
    w.cell? ⟨p, 0, none⟩ = some x0 ∧ w.cell? ⟨p, 1, none⟩ = some x1 ∧ w.cell? ⟨p, 2, none⟩ = some x2 ∧ w.cell? ⟨p, 3, none⟩ = some x3 := by
  refine ⟨?_, ?_, ?_, ?_⟩ <;> simp [World.cell?, h]
/-- A text with its size in front. -/
def kyB (s : ByteArray) : List UInt8 := vb s.size ++ s.data.toList
set_option maxRecDepth 100000 in
theorem l3Keyed_any (s : ByteArray) (w : World) (h : s.size ≤ 1048576) :
    Calls Tryz.prog 76 #[.string s] w fun e w' => e = .returned (.string ⟨(kyB s).toArray⟩) ∧ Below w.heap.size w w' := by
  have HP : Hid (∀ w, Calls Tryz.prog 75 #[.int .i64 s.size] w fun e w' => e = .returned (.string (vtext s.size)) ∧ Below w.heap.size w w') := fun w => specPut_any s.size w
  have HV : Hid (vtext (s.size : Int) ++ s = ⟨(kyB s).toArray⟩) := by
    show _ = _
    rw [vtext_in _ (by omega) (by omega)]
    apply ByteArray.ext
    apply Array.toList_inj.1
    rw [appL]
    simp [kyB]
  have hvs := vtext_size (s.size : Int)
  have g1 : ((vtext (s.size : Int)).size : Int) ≤ 8 := by omega
  have g2 : (s.size : Int) ≤ 1048576 := by omega
  go_enter Tryz.func76, Tryz.ntmps76
  go_wp2_with fail
  refine (HP.out _).mono ?_
  rintro e w1 ⟨rfl, hb1⟩
  generalize vtext (s.size : Int) = V at *
  go_wp2_with fail
  go_ret
  exact ⟨by rw [← HV.out]; rfl, hb1⟩

set_option maxRecDepth 100000 in
theorem validKey_any (s : ByteArray) (w : World) (h1 : s.size ≤ maxLen) :
    Calls Tryz.prog 136 #[.string s] w fun e w' => e = .returned (.bool (decide (1 ≤ s.size ∧ s.size ≤ 1000))) ∧ Below w.heap.size w w' := by
  unfold maxLen at h1
  go_enter Tryz.func136, Tryz.ntmps136
  go_wp2_with fail
  all_goals go_ret
  all_goals refine ⟨?_, Below.refl _ _⟩
  all_goals (refine ret_bool (Bool.eq_iff_iff.2 ?_); simp only [Bool.and_eq_true, decide_eq_true_eq, Bool.false_eq_true, false_iff]; omega)


/-- Whether a number is one of a store. -/
def numOk (n : Int) : Bool := decide (1 ≤ n ∧ n ≤ 999999999)
theorem numOk_iff (n : Int) : numOk n = true ↔ 1 ≤ n ∧ n ≤ 999999999 := by simp [numOk]
set_option maxRecDepth 100000 in
theorem specNum_any (n : Int) (w : World) :
    Calls Tryz.prog 77 #[.int .i64 n] w fun e w' => e = .returned (.bool (numOk n)) ∧ Below w.heap.size w w' := by
  generalize hE : numOk n = E
  have HE : Hid (numOk n = E) := hE
  clear hE
  go_enter Tryz.func77, Tryz.ntmps77
  go_wp2_with fail
  all_goals go_ret
  all_goals refine ⟨?_, Below.refl _ _⟩
  all_goals (rw [← HE.out]; refine ret_bool (Bool.eq_iff_iff.2 ?_); rw [numOk_iff]; simp only [decide_eq_true_eq, Bool.false_eq_true, false_iff]; omega)
set_option maxRecDepth 100000 in
theorem implNum_any (n : Int) (w : World) :
    Calls Tryz.prog 86 #[.int .i64 n] w fun e w' => e = .returned (.bool (numOk n)) ∧ Below w.heap.size w w' := by
  generalize hE : numOk n = E
  have HE : Hid (numOk n = E) := hE
  clear hE
  go_enter Tryz.func86, Tryz.ntmps86
  go_wp2_with fail
  all_goals go_ret
  all_goals refine ⟨?_, Below.refl _ _⟩
  all_goals (rw [← HE.out]; refine ret_bool (Bool.eq_iff_iff.2 ?_); rw [numOk_iff]; simp only [decide_eq_true_eq, Bool.false_eq_true, false_iff]; omega)

/-- Whether a reference to a table is valid. -/
def refOk (t : Tr) : Bool := numOk t.nu && (decide (0 ≤ t.lv ∧ t.lv ≤ 3) && (decide (1 ≤ t.lo.size ∧ t.lo.size ≤ 1000) && (decide (1 ≤ t.hi.size ∧ t.hi.size ≤ 1000) && !lessB t.hi t.lo)))
theorem refOk_iff (t : Tr) : refOk t = true ↔ (1 ≤ t.nu ∧ t.nu ≤ 999999999) ∧ (0 ≤ t.lv ∧ t.lv ≤ 3) ∧ (1 ≤ t.lo.size ∧ t.lo.size ≤ 1000) ∧ (1 ≤ t.hi.size ∧ t.hi.size ≤ 1000) ∧ lessB t.hi t.lo = false := by
  unfold refOk
  rw [Bool.and_eq_true, numOk_iff, Bool.and_eq_true, decide_eq_true_eq, Bool.and_eq_true, decide_eq_true_eq, Bool.and_eq_true, decide_eq_true_eq, Bool.not_eq_true']
theorem refOk_no {t : Tr} (h : ¬ ((1 ≤ t.nu ∧ t.nu ≤ 999999999) ∧ (0 ≤ t.lv ∧ t.lv ≤ 3) ∧ (1 ≤ t.lo.size ∧ t.lo.size ≤ 1000) ∧ (1 ≤ t.hi.size ∧ t.hi.size ≤ 1000))) : refOk t = false := by
  cases hr : refOk t with
  | false => rfl
  | true => obtain ⟨a, b, c, d, _⟩ := (refOk_iff t).1 hr; exact absurd ⟨a, b, c, d⟩ h
theorem refOk_yes {t : Tr} (h : (1 ≤ t.nu ∧ t.nu ≤ 999999999) ∧ (0 ≤ t.lv ∧ t.lv ≤ 3) ∧ (1 ≤ t.lo.size ∧ t.lo.size ≤ 1000) ∧ (1 ≤ t.hi.size ∧ t.hi.size ≤ 1000)) : refOk t = !lessB t.hi t.lo := by
  obtain ⟨a, b, c, d⟩ := h
  unfold refOk
  rw [(numOk_iff _).2 a, decide_eq_true b, decide_eq_true c, decide_eq_true d]
  rfl

set_option maxRecDepth 100000 in
set_option maxHeartbeats 1000000 in
theorem specRef_any (t : Tr) (w : World) (h1 : t.lo.size ≤ maxLen) (h2 : t.hi.size ≤ maxLen) :
    Calls Tryz.prog 78 #[t.agg] w fun e w' => e = .returned (.bool (refOk t)) ∧ Below w.heap.size w w' := by
  obtain ⟨n, l, lo, hi⟩ := t
  dsimp only at h1 h2
  have HL := hd (fun w => l1Less_any hi lo w h2 h1)
  have HN := hd (specNum_any n)
  have HF := hd (fun h => refOk_no (t := ⟨n, l, lo, hi⟩) h)
  have HT := hd (fun h => refOk_yes (t := ⟨n, l, lo, hi⟩) h)
  dsimp only at HF HT
  generalize refOk ⟨n, l, lo, hi⟩ = E at *
  have hP0 : (w.alloc (.cells #[.int .i64 n, .int .i64 l, .string lo, .string hi] 45)).heap[w.heap.size]? = some (.cells #[.int .i64 n, .int .i64 l, .string lo, .string hi] 45 (0, 0)) := World.heap_alloc_new _ _
  have hb0 : Below w.heap.size w (w.alloc (.cells #[.int .i64 n, .int .i64 l, .string lo, .string hi] 45)) := (Below.refl _ _).alloc (Nat.le_refl _) _
  unfold maxLen at h1 h2
  go_enter Tryz.func78, Tryz.ntmps78
  go_wp2_with fail
  refine (HN.out _).mono ?_
  rintro e w1 ⟨rfl, hb1⟩
  have hP1 := (hb1.block w.heap.size (by simp)).trans hP0
  have hb : Below w.heap.size w w1 := hb0.trans (hb1.mono hb0.size)
  obtain ⟨x0, x1, x2, x3⟩ := four_cells hP1
  have hlt1 := heap_lt hP1
  clear hP0 hb0 hP1 hb1
  have hz : numOk n = false ∨ (numOk n = true ∧ l < 0) ∨ (numOk n = true ∧ ¬ l < 0 ∧ 3 < l) ∨ (numOk n = true ∧ ¬ l < 0 ∧ ¬ 3 < l) := by
    cases numOk n
    · exact .inl rfl
    · refine .inr ?_
      simp only [true_and]
      omega
  rcases hz with hn | ⟨hn, hl⟩ | ⟨hn, hl, hl2⟩ | ⟨hn, hl, hl2⟩
  · have hE := HF.out (fun h => by rw [(numOk_iff n).2 h.1] at hn; cases hn)
    subst hE
    go_wp2_with fail
    go_ret
    exact ⟨rfl, hb⟩
  · have hE := HF.out (fun h => by omega)
    subst hE
    go_wp2_with fail
    go_ret
    exact ⟨rfl, hb⟩
  · have hE := HF.out (fun h => by omega)
    subst hE
    go_wp2_with fail
    go_ret
    exact ⟨rfl, hb⟩
  · have hnn := hd ((numOk_iff n).1 hn)
    have hz : ((lo.size : Int) < 1) ∨ (¬ (lo.size : Int) < 1 ∧ (1000 : Int) < lo.size) ∨ (¬ (lo.size : Int) < 1 ∧ ¬ (1000 : Int) < lo.size ∧ (hi.size : Int) < 1) ∨ (¬ (lo.size : Int) < 1 ∧ ¬ (1000 : Int) < lo.size ∧ ¬ (hi.size : Int) < 1 ∧ (1000 : Int) < hi.size) ∨ (¬ (lo.size : Int) < 1 ∧ ¬ (1000 : Int) < lo.size ∧ ¬ (hi.size : Int) < 1 ∧ ¬ (1000 : Int) < hi.size) := by omega
    rcases hz with z1 | ⟨z1, z2⟩ | ⟨z1, z2, z3⟩ | ⟨z1, z2, z3, z4⟩ | ⟨z1, z2, z3, z4⟩
    · have hE := HF.out (fun h => by omega)
      subst hE
      go_wp2_with fail
      go_ret
      exact ⟨rfl, hb⟩
    · have hE := HF.out (fun h => by omega)
      subst hE
      go_wp2_with fail
      go_ret
      exact ⟨rfl, hb⟩
    · have hE := HF.out (fun h => by omega)
      subst hE
      go_wp2_with fail
      go_ret
      exact ⟨rfl, hb⟩
    · have hE := HF.out (fun h => by omega)
      subst hE
      go_wp2_with fail
      go_ret
      exact ⟨rfl, hb⟩
    · have hE := hd (HT.out ⟨hnn.out, by omega, by omega, by omega⟩)
      go_wp2_with fail
      refine (HL.out _).mono ?_
      rintro e w2 ⟨rfl, k, rfl⟩
      go_wp2_with fail
      go_ret
      exact ⟨by rw [hE.out]; rfl, ⟨hb.os, hb.tape, hb.output, hb.size, fun k hk => hb.block k hk⟩⟩

theorem less_total : ∀ (a b : List UInt8), (Op.bytesLess a b || a == b) = !Op.bytesLess b a
  | [], [] => by simp [Op.bytesLess]
  | [], y :: b => by simp [Op.bytesLess]
  | x :: a, [] => by simp [Op.bytesLess]
  | x :: a, y :: b => by
    have ih := less_total a b
    by_cases hxy : x = y
    · subst hxy
      have hlt : ¬ x < x := by simp
      simp [Op.bytesLess, hlt]
      simpa using ih
    · by_cases hlt : x < y
      · have hlt2 : ¬ y < x := fun h => by rw [UInt8.lt_iff_toNat_lt] at h hlt; omega
        simp [Op.bytesLess, hxy, hlt, hlt2, Ne.symm hxy]
      · have hlt2 : y < x := by
          have : x.toNat ≠ y.toNat := fun h => hxy (UInt8.toNat_inj.1 h)
          rw [UInt8.lt_iff_toNat_lt] at hlt ⊢
          omega
        simp [Op.bytesLess, hxy, hlt, hlt2, Ne.symm hxy]

set_option maxRecDepth 100000 in
set_option maxHeartbeats 1000000 in
theorem implRef_any (t : Tr) (w : World) (h1 : t.lo.size ≤ maxLen) (h2 : t.hi.size ≤ maxLen) :
    Calls Tryz.prog 113 #[t.agg] w fun e w' => e = .returned (.bool (refOk t)) ∧ Below w.heap.size w w' := by
  obtain ⟨n, l, lo, hi⟩ := t
  dsimp only at h1 h2
  have HN := hd (implNum_any n)
  have HK1 := hd (fun w => validKey_any lo w h1)
  have HK2 := hd (fun w => validKey_any hi w h2)
  have HF := hd (fun h => refOk_no (t := ⟨n, l, lo, hi⟩) h)
  have HT := hd (fun h => refOk_yes (t := ⟨n, l, lo, hi⟩) h)
  dsimp only at HF HT
  generalize refOk ⟨n, l, lo, hi⟩ = E at *
  have hP0 : (w.alloc (.cells #[.int .i64 n, .int .i64 l, .string lo, .string hi] 45)).heap[w.heap.size]? = some (.cells #[.int .i64 n, .int .i64 l, .string lo, .string hi] 45 (0, 0)) := World.heap_alloc_new _ _
  have hb0 : Below w.heap.size w (w.alloc (.cells #[.int .i64 n, .int .i64 l, .string lo, .string hi] 45)) := (Below.refl _ _).alloc (Nat.le_refl _) _
  unfold maxLen at h1 h2
  go_enter Tryz.func113, Tryz.ntmps113
  go_wp2_with fail
  refine (HN.out _).mono ?_
  rintro e w1 ⟨rfl, hb1⟩
  have hP1 := (hb1.block w.heap.size (by simp)).trans hP0
  have hb : Below w.heap.size w w1 := hb0.trans (hb1.mono hb0.size)
  obtain ⟨x0, x1, x2, x3⟩ := four_cells hP1
  have hlt1 := heap_lt hP1
  clear hP0 hb0 hb1
  have hz : numOk n = false ∨ (numOk n = true ∧ ¬ 0 ≤ l) ∨ (numOk n = true ∧ 0 ≤ l ∧ ¬ l ≤ 3) ∨ (numOk n = true ∧ 0 ≤ l ∧ l ≤ 3) := by
    cases numOk n
    · exact .inl rfl
    · refine .inr ?_
      simp only [true_and]
      omega
  rcases hz with hn | ⟨hn, hl⟩ | ⟨hn, hl, hl2⟩ | ⟨hn, hl, hl2⟩
  · have hE := HF.out (fun h => by rw [(numOk_iff n).2 h.1] at hn; cases hn)
    subst hE
    go_wp2_with fail
    go_ret
    exact ⟨rfl, hb⟩
  · have hE := HF.out (fun h => by omega)
    subst hE
    go_wp2_with fail
    go_ret
    exact ⟨rfl, hb⟩
  · have hE := HF.out (fun h => by omega)
    subst hE
    go_wp2_with fail
    go_ret
    exact ⟨rfl, hb⟩
  · have hnn := hd ((numOk_iff n).1 hn)
    go_wp2_with fail
    refine (HK1.out _).mono ?_
    rintro e w2 ⟨rfl, hb2⟩
    have hP2 := (hb2.block w.heap.size hlt1).trans hP1
    have hbw2 : Below w.heap.size w w2 := hb.trans (hb2.mono hb.size)
    obtain ⟨y0, y1, y2, y3⟩ := four_cells hP2
    have hlt2 := heap_lt hP2
    clear x0 x1 x2 x3 hP1 hb2 hb
    by_cases k1 : 1 ≤ lo.size ∧ lo.size ≤ 1000
    · rw [decide_eq_true k1]
      go_wp2_with fail
      refine (HK2.out _).mono ?_
      rintro e w3 ⟨rfl, hb3⟩
      have hP3 := (hb3.block w.heap.size hlt2).trans hP2
      have hbw3 : Below w.heap.size w w3 := hbw2.trans (hb3.mono hbw2.size)
      obtain ⟨x0, x1, x2, x3⟩ := four_cells hP3
      have hlt3 := heap_lt hP3
      clear y0 y1 y2 y3 hP2 hb3 hbw2
      by_cases k2 : 1 ≤ hi.size ∧ hi.size ≤ 1000
      · rw [decide_eq_true k2]
        have hE := hd (HT.out ⟨hnn.out, ⟨hl, hl2⟩, k1, k2⟩)
        go_wp2_with fail
        go_ret
        refine ⟨?_, hbw3⟩
        rw [hE.out]
        exact ret_bool (less_total lo.toList hi.toList)
      · rw [decide_eq_false k2]
        have hE := HF.out (fun h => k2 h.2.2.2)
        subst hE
        go_wp2_with fail
        go_ret
        exact ⟨rfl, hbw3⟩
    · rw [decide_eq_false k1]
      have hE := HF.out (fun h => k1 h.2.2.1)
      subst hE
      go_wp2_with fail
      go_ret
      exact ⟨rfl, hbw2⟩
end Go.Proofs.YtphikgobdfknkaaGreatDoor
namespace Go.Proofs.YtphikgobdfknkaaGreatDoor
open Go.RowKit Go.Maps
set_option linter.unusedVariables false
set_option linter.unusedSimpArgs false

/-- The numbers ks lie one behind the other behind a slice's address. -/
def LieI (w : World) (a : Option Addr) (ks : List Int) : Prop :=
  ks = [] ∨ ∃ b off, a = some ⟨b, off, none⟩ ∧ b < w.heap.size ∧ ∀ i, i < ks.length → w.cell? ⟨b, off + i, none⟩ = some (.int .i64 (ks.getD i 0))
theorem LieI.at {w : World} {a : Option Addr} {ks : List Int} (h : LieI w a ks) {i : Nat} (hi : i < ks.length) :
    ∃ b off, a = some ⟨b, off, none⟩ ∧ b < w.heap.size ∧ w.cell? ⟨b, off + i, none⟩ = some (.int .i64 (ks.getD i 0)) := by
  rcases h with rfl | ⟨b, off, rfl, hlt, hc⟩
  · simp at hi
  · exact ⟨b, off, rfl, hlt, hc i hi⟩
theorem LieI.kept {w w' : World} {a : Option Addr} {ks : List Int} (h : LieI w a ks) (hs : w.heap.size ≤ w'.heap.size) (hb : ∀ b off, a = some ⟨b, off, none⟩ → ks ≠ [] → b < w.heap.size → w'.heap[b]? = w.heap[b]?) : LieI w' a ks := by
  by_cases h0 : ks = []
  · exact .inl h0
  rcases h with h | ⟨b, off, rfl, hlt, hc⟩
  · exact absurd h h0
  · exact .inr ⟨b, off, rfl, by omega, fun i hi => (World.cell?_of_block (hb b off rfl h0 hlt)).trans (hc i hi)⟩
theorem LieI.lt {w : World} {a : Option Addr} {ks : List Int} (h : LieI w a ks) : ∀ b off, a = some ⟨b, off, none⟩ → ks ≠ [] → b < w.heap.size := by
  intro b off e h0
  rcases h with h | ⟨b', off', rfl, hlt, hc⟩
  · exact absurd h h0
  · cases e
    exact hlt
theorem LieI.below {w w' : World} {a : Option Addr} {ks : List Int} (h : LieI w a ks) (hb : Below w.heap.size w w') : LieI w' a ks := h.kept hb.size (fun b off _ _ hl => hb.block b hl)

/-- Block g is room for n numbers; the first k of them stand in it. -/
def PartI (w : World) (g n : Nat) (ks : List Int) (k : Nat) : Prop :=
  ∃ cs : Array Value, w.heap[g]? = some (.cells cs 3 (0, 0)) ∧ cs.size = n ∧ ∀ i, i < k → cs[i]? = some (.int .i64 (ks.getD i 0))
theorem PartI.below {w w' : World} {B g n k : Nat} {ks : List Int} (h : PartI w g n ks k) (hb : Below B w w') (hg : g < B) : PartI w' g n ks k := by
  obtain ⟨cs, h1, h2, h3⟩ := h
  exact ⟨cs, (hb.block g hg).trans h1, h2, h3⟩
theorem PartI.lt {w : World} {g n k : Nat} {ks : List Int} (h : PartI w g n ks k) : g < w.heap.size := by
  obtain ⟨cs, h1, _⟩ := h
  by_cases hg : g < w.heap.size
  · exact hg
  · rw [Array.getElem?_eq_none (by omega)] at h1; cases h1
theorem PartI.cell {w : World} {g n k : Nat} {ks : List Int} (h : PartI w g n ks k) (o : Nat) (ho : o < n) : (∃ v, w.cell? ⟨g, o, none⟩ = some v) ∧ w.frozen? ⟨g, o, none⟩ = false := by
  obtain ⟨cs, h1, h2, _⟩ := h
  exact ⟨⟨cs[o]'(by omega), by simp [World.cell?, h1]⟩, by simp [World.frozen?, h1]⟩
theorem PartI.step {w : World} {g n k : Nat} {ks : List Int} (h : PartI w g n ks k) (hk : k < n) {x : Int} (hx : ks.getD k 0 = x) : PartI (w.setCell ⟨g, k, none⟩ (.int .i64 x)) g n ks (k + 1) := by
  obtain ⟨cs, h1, h2, h3⟩ := h
  have e1 := heap_setCell_same w g k cs _ (.int .i64 x) h1
  refine ⟨_, e1, by simp [h2], fun i hi => ?_⟩
  by_cases hik : i = k
  · subst hik
    rw [hx]
    simp [Array.getElem?_setIfInBounds]; omega
  · rw [Array.getElem?_setIfInBounds_ne (by omega)]
    exact h3 i (by omega)
theorem PartI.set {w : World} {g n k : Nat} {ks : List Int} (h : PartI w g n ks k) (o : Nat) (v : Value) : PartI (w.setCell ⟨g, o, none⟩ v) g n ks 0 := by
  obtain ⟨cs, h1, h2, h3⟩ := h
  exact ⟨_, heap_setCell_same w g o cs _ v h1, by simp [h2], fun i hi => absurd hi (Nat.not_lt_zero _)⟩
theorem PartI.lie {w : World} {g : Nat} {ks : List Int} (h : PartI w g ks.length ks ks.length) : LieI w (some ⟨g, 0, none⟩) ks := by
  have hg := h.lt
  obtain ⟨cs, h1, h2, h3⟩ := h
  exact .inr ⟨g, 0, rfl, hg, fun i hi => by simpa [World.cell?, h1] using h3 i hi⟩

theorem int_info : (Tryz.prog.info? 3).map (fun i => (i.zero, i.size, i.bytes)) = some (some (.int .i64 0), 1, 8) := by kernel_rfl
theorem make_ints (n : Nat) (h : n ≤ 1048576) (w : World) : (Instr.makeSlice 66 (.int .i64 (n : Int)) (.int .i64 (n : Int))).run Tryz.prog w = .ok (.slice (some ⟨w.heap.size, 0, none⟩) n n) (w.alloc (.cells (madeCells #[.int .i64 0] n) 3)) := by
  have hi := int_info
  cases hj : Tryz.prog.info? 3 with
  | none => rw [hj] at hi; cases hi
  | some i =>
    rw [hj] at hi
    simp only [Option.map_some, Option.some.injEq, Prod.mk.injEq] at hi
    obtain ⟨hz, hs, hb⟩ := hi
    have := run_make (P := Tryz.prog) w 66 3 i _ Tryz.underlying66 hj hz .i64 .i64 (n : Int) (n : Int) (by omega) (Int.le_refl _) (by rw [hb]; omega) (by omega)
    rw [this, hs]
    simp [Value.cells]

end Go.Proofs.YtphikgobdfknkaaGreatDoor
namespace Go.Proofs.YtphikgobdfknkaaGreatDoor
open Go.RowKit Go.Maps
set_option linter.unusedVariables false
set_option linter.unusedSimpArgs false

/-- An edit, and its value over two rows in memory. -/
structure Ed where
  ad : List Tr
  dl : List Int
  lg : Int
  nx : Int
  la : Int
abbrev edV (a : Option Addr) (ca : Nat) (d : Option Addr) (cd : Nat) (e : Ed) : Value := .agg #[.slice a e.ad.length ca, .slice d e.dl.length cd, .int .i64 e.lg, .int .i64 e.nx, .int .i64 e.la]
def edOk (e : Ed) : Bool := decide (e.ad.length ≤ 1000) && (e.ad.all refOk && (decide (e.dl.length ≤ 1000) && (e.dl.all numOk && (numOk e.lg && (numOk e.nx && decide (0 ≤ e.la ∧ e.la ≤ 72057594037927935))))))
theorem edOk_iff (e : Ed) : edOk e = true ↔ e.ad.length ≤ 1000 ∧ e.ad.all refOk = true ∧ e.dl.length ≤ 1000 ∧ e.dl.all numOk = true ∧ numOk e.lg = true ∧ numOk e.nx = true ∧ (0 ≤ e.la ∧ e.la ≤ 72057594037927935) := by
  unfold edOk
  rw [Bool.and_eq_true, decide_eq_true_eq, Bool.and_eq_true, Bool.and_eq_true, decide_eq_true_eq, Bool.and_eq_true, Bool.and_eq_true, Bool.and_eq_true, decide_eq_true_eq]
theorem edOk_no {e : Ed} (h : ¬ (e.ad.length ≤ 1000 ∧ e.ad.all refOk = true ∧ e.dl.length ≤ 1000 ∧ e.dl.all numOk = true ∧ numOk e.lg = true ∧ numOk e.nx = true ∧ (0 ≤ e.la ∧ e.la ≤ 72057594037927935))) : edOk e = false := by
  cases hr : edOk e with
  | false => rfl
  | true => exact absurd ((edOk_iff e).1 hr) h
theorem all_at {xs : List Tr} {k : Nat} (hk : k < xs.length) (h : refOk (xs.getD k tr0) = false) : xs.all refOk = false := by
  cases hr : xs.all refOk with
  | false => rfl
  | true =>
    have e : xs.getD k tr0 = xs[k] := by simp [List.getD, hk]
    rw [e] at h
    have := List.all_eq_true.1 hr xs[k] (List.getElem_mem hk)
    rw [h] at this
    cases this
theorem allI_at {xs : List Int} {k : Nat} (hk : k < xs.length) (h : numOk (xs.getD k 0) = false) : xs.all numOk = false := by
  cases hr : xs.all numOk with
  | false => rfl
  | true =>
    have e : xs.getD k 0 = xs[k] := by simp [List.getD, hk]
    rw [e] at h
    have := List.all_eq_true.1 hr xs[k] (List.getElem_mem hk)
    rw [h] at this
    cases this
theorem takeI_snoc (xs : List Int) (k : Nat) (h : k < xs.length) : xs.take (k + 1) = xs.take k ++ [xs.getD k 0] := by
  rw [List.take_succ_eq_append_getElem h]
  simp [List.getD, h]
theorem five_cells {w : World} {p : Nat} {t : TypeId} {x0 x1 x2 x3 x4 : Value} (h : w.heap[p]? = some (.cells #[x0, x1, x2, x3, x4] t (0, 0))) :
    w.cell? ⟨p, 0, none⟩ = some x0 ∧ w.cell? ⟨p, 1, none⟩ = some x1 ∧ w.cell? ⟨p, 2, none⟩ = some x2 ∧ w.cell? ⟨p, 3, none⟩ = some x3 ∧ w.cell? ⟨p, 4, none⟩ = some x4 := by
  refine ⟨?_, ?_, ?_, ?_, ?_⟩ <;> simp [World.cell?, h]

set_option maxRecDepth 100000 in
set_option maxHeartbeats 1000000 in
theorem allRefs_any (a : Option Addr) (cap : Nat) (xs : List Tr) (w : World) (hx : LieT w a xs) (hf : FitsT xs) (hlen : xs.length ≤ 1048576) :
    Calls Tryz.prog 95 #[.slice a xs.length cap, .func (.func 113) #[] #[]] w fun e w' => e = .returned (.bool (xs.all refOk)) ∧ Below w.heap.size w w' := by
  generalize hT : xs.all refOk = T
  have HT : Hid (xs.all refOk = T) := hT
  clear hT
  go_enter Tryz.func95, Tryz.ntmps95
  go_wp2_with fail
  go_loopw [9] (fun y wr => ∃ k : Nat, y = .int .i64 k ∧ k ≤ xs.length ∧ (xs.take k).all refOk = true ∧ Below w.heap.size w wr) (fun y _ => xs.length - (intOf y).toNat)
  case atStart => exact ⟨0, rfl, by omega, rfl, Below.refl _ _⟩
  case round =>
    obtain ⟨k, rfl, hk, hall, hb⟩ := hrel
    have hbs := hb.size
    by_cases hlt : k < xs.length
    · obtain ⟨b, off, rfl, hbl, c0, c1, c2, c3⟩ := (hx.below hb).at hlt
      have hfk := hf.at hlt
      have hik : (k : Int) < (xs.length : Int) := by omega
      have HB := hd (fun h => all_at hlt h)
      have HA : Hid (refOk (xs.getD k tr0) = true → (xs.take (k + 1)).all refOk = true) := fun h => by rw [takeT_snoc xs k hlt, List.all_append, hall]; simpa using h
      generalize xs.getD k tr0 = f at *
      obtain ⟨n, l, lo, hi⟩ := f
      have hba : Below w.heap.size w (wr.alloc (.cells #[.int .i64 n, .int .i64 l, .string lo, .string hi] 45)) := hb.alloc hbs _
      have HR := hd (fun w => implRef_any ⟨n, l, lo, hi⟩ w hfk.1 hfk.2)
      go_wp2_with fail
      refine (HR.out _).mono ?_
      rintro e w3 ⟨rfl, hb3⟩
      have hbw3 : Below w.heap.size w w3 := hba.trans (hb3.mono hba.size)
      cases hok : refOk ⟨n, l, lo, hi⟩ with
      | false =>
        have hTe := (HB.out hok).symm.trans HT.out
        subst hTe
        go_wp2_with fail
        go_ret
        exact ⟨rfl, hbw3⟩
      | true =>
        have hAll := HA.out hok
        go_wp2_with fail
        exact ⟨⟨k + 1, by simp, by omega, hAll, hbw3⟩, by simp only [intOf]; omega⟩
    · obtain rfl : k = xs.length := by omega
      rw [List.take_length] at hall
      have hTe := hall.symm.trans HT.out
      subst hTe
      go_wp2_with fail
      go_ret
      exact ⟨rfl, hb⟩

set_option maxRecDepth 100000 in
set_option maxHeartbeats 1000000 in
theorem allNums_any (a : Option Addr) (cap : Nat) (xs : List Int) (w : World) (hx : LieI w a xs) (hlen : xs.length ≤ 1048576) :
    Calls Tryz.prog 91 #[.slice a xs.length cap, .func (.func 86) #[] #[]] w fun e w' => e = .returned (.bool (xs.all numOk)) ∧ Below w.heap.size w w' := by
  generalize hT : xs.all numOk = T
  have HT : Hid (xs.all numOk = T) := hT
  clear hT
  go_enter Tryz.func91, Tryz.ntmps91
  go_wp2_with fail
  go_loopw [9] (fun y wr => ∃ k : Nat, y = .int .i64 k ∧ k ≤ xs.length ∧ (xs.take k).all numOk = true ∧ Below w.heap.size w wr) (fun y _ => xs.length - (intOf y).toNat)
  case atStart => exact ⟨0, rfl, by omega, rfl, Below.refl _ _⟩
  case round =>
    obtain ⟨k, rfl, hk, hall, hb⟩ := hrel
    have hbs := hb.size
    by_cases hlt : k < xs.length
    · obtain ⟨b, off, rfl, hbl, c0⟩ := (hx.below hb).at hlt
      have hik : (k : Int) < (xs.length : Int) := by omega
      have HB := hd (fun h => allI_at hlt h)
      have HA : Hid (numOk (xs.getD k 0) = true → (xs.take (k + 1)).all numOk = true) := fun h => by rw [takeI_snoc xs k hlt, List.all_append, hall]; simpa using h
      generalize xs.getD k 0 = f at *
      go_wp2_with fail
      refine (implNum_any f _).mono ?_
      rintro e w3 ⟨rfl, hb3⟩
      have hbw3 : Below w.heap.size w w3 := hb.trans (hb3.mono hb.size)
      cases hok : numOk f with
      | false =>
        have hTe := (HB.out hok).symm.trans HT.out
        subst hTe
        go_wp2_with fail
        go_ret
        exact ⟨rfl, hbw3⟩
      | true =>
        have hAll := HA.out hok
        go_wp2_with fail
        exact ⟨⟨k + 1, by simp, by omega, hAll, hbw3⟩, by simp only [intOf]; omega⟩
    · obtain rfl : k = xs.length := by omega
      rw [List.take_length] at hall
      have hTe := hall.symm.trans HT.out
      subst hTe
      go_wp2_with fail
      go_ret
      exact ⟨rfl, hb⟩
end Go.Proofs.YtphikgobdfknkaaGreatDoor
