import Derived.Test.YtgpjhlhjdafjlaaGreatDoorRefX
import Derived.Deep.RegionHeld3
namespace Go.Proofs.YtgpjhlhjdafjlaaGreatDoor
open Go.RowKit Go.Maps
set_option linter.unusedVariables false
set_option linter.unusedSimpArgs false

theorem hd {p : Prop} (h : p) : Hid p := h
theorem dataL (s : ByteArray) : s.data.toList.length = s.size := by rw [Array.length_toList]; rfl
theorem textL (l : List UInt8) : (⟨l.toArray⟩ : ByteArray).data.toList = l := rfl
theorem appL (a b : ByteArray) : (a ++ b).data.toList = a.data.toList ++ b.data.toList := by simp
theorem appS (a b : ByteArray) : (a ++ b).size = a.size + b.size := by simp
theorem vb_len (n : Nat) : (vb n).length ≤ 8 := vbf_length_le 7 n
theorem heap_lt {w : World} {g : Nat} {o : Obj} (h : w.heap[g]? = some o) : g < w.heap.size := by
  by_cases hlt : g < w.heap.size
  · exact hlt
  · rw [Array.getElem?_eq_none (by omega)] at h; cases h
theorem four_cells {w : World} {p : Nat} {t : TypeId} {x0 x1 x2 x3 : Value} (h : w.heap[p]? = some (.cells #[x0, x1, x2, x3] t (0, 0))) :
    w.cell? ⟨p, 0, none⟩ = some x0 ∧ w.cell? ⟨p, 1, none⟩ = some x1 ∧ w.cell? ⟨p, 2, none⟩ = some x2 ∧ w.cell? ⟨p, 3, none⟩ = some x3 := by
  refine ⟨?_, ?_, ?_, ?_⟩ <;> simp [World.cell?, h]
theorem ret_bool {a b : Bool} (h : a = b) : Ending.returned (.bool a) = .returned (.bool b) := by rw [h]
theorem less_at : ∀ (k : Nat) (a b : List UInt8), (∀ j, j < k → a[j]? = b[j]?) → ∀ (ha : k < a.length) (hb : k < b.length), a[k] ≠ b[k] → Op.bytesLess a b = decide (a[k] < b[k])
  | 0, x :: a, y :: b, _, _, _, hne => by
    have hxy : x ≠ y := hne
    simp [Op.bytesLess, hxy]
  | k + 1, x :: a, y :: b, h, ha, hb, hne => by
    have h0 := h 0 (Nat.succ_pos _)
    simp at h0
    subst h0
    have hlt : ¬ x < x := by simp
    simp [Op.bytesLess, hlt]
    exact less_at k a b (fun j hj => by simpa using h (j + 1) (by omega)) (by simpa using ha) (by simpa using hb) (by simpa using hne)

theorem less_end : ∀ (a b : List UInt8), (∀ j, j < a.length → j < b.length → a[j]? = b[j]?) → Op.bytesLess a b = decide (a.length < b.length)
  | [], [], _ => by simp [Op.bytesLess]
  | [], y :: b, _ => by simp [Op.bytesLess]
  | x :: a, [], _ => by simp [Op.bytesLess]
  | x :: a, y :: b, h => by
    have h0 := h 0 (by simp) (by simp)
    simp at h0
    subst h0
    have hlt : ¬ x < x := by simp
    simp [Op.bytesLess, hlt]
    rw [less_end a b (fun j h1 h2 => by simpa using h (j + 1) (by simpa using h1) (by simpa using h2))]

/-- The order of texts. -/
def lessB (a b : ByteArray) : Bool := Op.bytesLess a.toList b.toList

theorem lessB_at (a b : ByteArray) (k : Nat) (h : ∀ j, j < k → a.data.toList[j]? = b.data.toList[j]?) (ha : k < a.size) (hb : k < b.size) (hne : a[k] ≠ b[k]) : lessB a b = decide (a[k] < b[k]) := by
  unfold lessB
  rw [ByteArray.toList_eq, ByteArray.toList_eq]
  exact less_at k a.data.toList b.data.toList h (by simpa using ha) (by simpa using hb) hne

theorem lessB_end (a b : ByteArray) (h : ∀ j, j < a.size → j < b.size → a.data.toList[j]? = b.data.toList[j]?) : lessB a b = decide (a.size < b.size) := by
  unfold lessB
  rw [ByteArray.toList_eq, ByteArray.toList_eq, less_end a.data.toList b.data.toList (fun j h1 h2 => h j (by simpa using h1) (by simpa using h2))]
  simp

set_option maxHeartbeats 400000 in
theorem l1Less_any (a b : ByteArray) (w : World) (ha : a.size ≤ maxLen) (hb : b.size ≤ maxLen) :
    Calls Tryz.prog 53 #[.string a, .string b] w fun e w' => e = .returned (.bool (lessB a b)) ∧ ∃ n, w' = w.drewN n := by
  unfold maxLen at ha hb
  go_enter Tryz.func53, Tryz.ntmps53
  go_wp2
  go_loopw [5] (fun i wr => ∃ k : Nat, k ≤ a.size ∧ k ≤ b.size ∧ i = .int .i64 k ∧ (∀ j, j < k → a.data.toList[j]? = b.data.toList[j]?) ∧ ∃ n, wr = w.drewN n) (fun i _ => a.size - (intOf i).toNat)
  case atStart => exact ⟨0, Nat.zero_le _, Nat.zero_le _, rfl, fun j hj => absurd hj (Nat.not_lt_zero _), 0, rfl⟩
  case round =>
    obtain ⟨k, hka, hkb, rfl, heq, n, rfl⟩ := hrel
    have HQ : Hid (∀ j, j < k → a.data.toList[j]? = b.data.toList[j]?) := heq
    clear heq
    by_cases h1 : k < a.size
    · by_cases h2 : k < b.size
      · have i1 : (k : Int) < (a.size : Int) := by omega
        have i2 : (k : Int) < (b.size : Int) := by omega
        by_cases hc : a[k] = b[k]
        · have hcb : ((a[k].toNat : Int) != (b[k].toNat : Int)) = false := by simp [hc]
          have HQ' : Hid (∀ j, j < k + 1 → a.data.toList[j]? = b.data.toList[j]?) := by
            intro j hj
            by_cases hjk : j < k
            · exact HQ.out j hjk
            · obtain rfl : j = k := by omega
              have e1 : a.data.toList[j]? = some a[j] := by simp [ByteArray.getElem_eq_getElem_data]
              have e2 : b.data.toList[j]? = some b[j] := by simp [ByteArray.getElem_eq_getElem_data]
              rw [e1, e2, hc]
          clear hc
          go_wp2_with fail
          go_quiet (fail)
          go_wp2_with fail
          exact ⟨⟨k + 1, by omega, by omega, by go_num, HQ'.out, _, rfl⟩, by simp [intOf]; omega⟩
        · have hne : a[k].toNat ≠ b[k].toNat := fun h => hc (UInt8.toNat_inj.1 h)
          have hcb : ((a[k].toNat : Int) != (b[k].toNat : Int)) = true := by simp; omega
          have HL : Hid (lessB a b = decide (a[k].toNat < b[k].toNat)) := by
            show _ = _
            rw [lessB_at a b k HQ.out h1 h2 hc]
            simp only [UInt8.lt_iff_toNat_lt]
          clear hc hne
          go_wp2_with fail
          go_quiet (fail)
          go_wp2_with fail
          go_quiet (fail)
          go_wp2_with fail
          go_ret
          exact ⟨ret_bool HL.out.symm, _, by rw [World.drewN_drewN, World.drewN_drewN]⟩
      · have i1 : (k : Int) < (a.size : Int) := by omega
        have i2 : ¬ (k : Int) < (b.size : Int) := by omega
        have HL : Hid (lessB a b = decide (a.size < b.size)) := by
          show _ = _
          rw [lessB_end a b (fun j _ hj => HQ.out j (by omega))]
        go_wp2_with fail
        go_ret
        exact ⟨ret_bool HL.out.symm, _, rfl⟩
    · have i1 : ¬ (k : Int) < (a.size : Int) := by omega
      have HL : Hid (lessB a b = decide (a.size < b.size)) := by
        show _ = _
        rw [lessB_end a b (fun j hj _ => HQ.out j (by omega))]
      go_wp2_with fail
      go_ret
      exact ⟨ret_bool HL.out.symm, _, rfl⟩

/-- A text with its size in front. -/
def kyB (s : ByteArray) : List UInt8 := vb s.size ++ s.data.toList
set_option maxRecDepth 100000 in
theorem l3Keyed_any (s : ByteArray) (w : World) (h : s.size ≤ 1048576) :
    Calls Tryz.prog 48 #[.string s] w fun e w' => e = .returned (.string ⟨(kyB s).toArray⟩) ∧ Below w.heap.size w w' := by
  have HP : Hid (∀ w, Calls Tryz.prog 47 #[.int .i64 s.size] w fun e w' => e = .returned (.string (vtext s.size)) ∧ Below w.heap.size w w') := fun w => specPut_any s.size w
  have HV : Hid (vtext (s.size : Int) ++ s = ⟨(kyB s).toArray⟩) := by
    show _ = _
    rw [vtext_in _ (by omega) (by omega)]
    apply ByteArray.ext
    apply Array.toList_inj.1
    rw [appL]
    simp [kyB]
  have hvs := vtext_size (s.size : Int)
  have g1 : ((vtext (s.size : Int)).size : Int) ≤ 8 := by omega
  have g2 : (s.size : Int) ≤ 1048576 := by omega
  go_enter Tryz.func48, Tryz.ntmps48
  go_wp2_with fail
  refine (HP.out _).mono ?_
  rintro e w1 ⟨rfl, hb1⟩
  generalize vtext (s.size : Int) = V at *
  go_wp2_with fail
  go_ret
  exact ⟨by rw [← HV.out]; rfl, hb1⟩

set_option maxRecDepth 100000 in
theorem validKey_any (s : ByteArray) (w : World) (h1 : s.size ≤ maxLen) :
    Calls Tryz.prog 90 #[.string s] w fun e w' => e = .returned (.bool (decide (1 ≤ s.size ∧ s.size ≤ 1000))) ∧ Below w.heap.size w w' := by
  unfold maxLen at h1
  go_enter Tryz.func90, Tryz.ntmps90
  go_wp2_with fail
  all_goals go_ret
  all_goals refine ⟨?_, Below.refl _ _⟩
  all_goals (refine ret_bool (Bool.eq_iff_iff.2 ?_); simp only [Bool.and_eq_true, decide_eq_true_eq, Bool.false_eq_true, false_iff]; omega)


/-- Whether a number is one of a store. -/
def numOk (n : Int) : Bool := decide (1 ≤ n ∧ n ≤ 999999999)
theorem numOk_iff (n : Int) : numOk n = true ↔ 1 ≤ n ∧ n ≤ 999999999 := by simp [numOk]
set_option maxRecDepth 100000 in
theorem specNum_any (n : Int) (w : World) :
    Calls Tryz.prog 71 #[.int .i64 n] w fun e w' => e = .returned (.bool (numOk n)) ∧ Below w.heap.size w w' := by
  generalize hE : numOk n = E
  have HE : Hid (numOk n = E) := hE
  clear hE
  go_enter Tryz.func71, Tryz.ntmps71
  go_wp2_with fail
  all_goals go_ret
  all_goals refine ⟨?_, Below.refl _ _⟩
  all_goals (rw [← HE.out]; refine ret_bool (Bool.eq_iff_iff.2 ?_); rw [numOk_iff]; simp only [decide_eq_true_eq, Bool.false_eq_true, false_iff]; omega)
set_option maxRecDepth 100000 in
theorem implNum_any (n : Int) (w : World) :
    Calls Tryz.prog 67 #[.int .i64 n] w fun e w' => e = .returned (.bool (numOk n)) ∧ Below w.heap.size w w' := by
  generalize hE : numOk n = E
  have HE : Hid (numOk n = E) := hE
  clear hE
  go_enter Tryz.func67, Tryz.ntmps67
  go_wp2_with fail
  all_goals go_ret
  all_goals refine ⟨?_, Below.refl _ _⟩
  all_goals (rw [← HE.out]; refine ret_bool (Bool.eq_iff_iff.2 ?_); rw [numOk_iff]; simp only [decide_eq_true_eq, Bool.false_eq_true, false_iff]; omega)

/-- Whether a reference to a table is valid. -/
def refOk (t : Tr) : Bool := numOk t.nu && (decide (0 ≤ t.lv ∧ t.lv ≤ 3) && (decide (1 ≤ t.lo.size ∧ t.lo.size ≤ 1000) && (decide (1 ≤ t.hi.size ∧ t.hi.size ≤ 1000) && !lessB t.hi t.lo)))
theorem refOk_iff (t : Tr) : refOk t = true ↔ (1 ≤ t.nu ∧ t.nu ≤ 999999999) ∧ (0 ≤ t.lv ∧ t.lv ≤ 3) ∧ (1 ≤ t.lo.size ∧ t.lo.size ≤ 1000) ∧ (1 ≤ t.hi.size ∧ t.hi.size ≤ 1000) ∧ lessB t.hi t.lo = false := by
  unfold refOk
  rw [Bool.and_eq_true, numOk_iff, Bool.and_eq_true, decide_eq_true_eq, Bool.and_eq_true, decide_eq_true_eq, Bool.and_eq_true, decide_eq_true_eq, Bool.not_eq_true']
theorem refOk_no {t : Tr} (h : ¬ ((1 ≤ t.nu ∧ t.nu ≤ 999999999) ∧ (0 ≤ t.lv ∧ t.lv ≤ 3) ∧ (1 ≤ t.lo.size ∧ t.lo.size ≤ 1000) ∧ (1 ≤ t.hi.size ∧ t.hi.size ≤ 1000))) : refOk t = false := by
  cases hr : refOk t with
  | false => rfl
  | true => obtain ⟨a, b, c, d, _⟩ := (refOk_iff t).1 hr; exact absurd ⟨a, b, c, d⟩ h
theorem refOk_yes {t : Tr} (h : (1 ≤ t.nu ∧ t.nu ≤ 999999999) ∧ (0 ≤ t.lv ∧ t.lv ≤ 3) ∧ (1 ≤ t.lo.size ∧ t.lo.size ≤ 1000) ∧ (1 ≤ t.hi.size ∧ t.hi.size ≤ 1000)) : refOk t = !lessB t.hi t.lo := by
  obtain ⟨a, b, c, d⟩ := h
  unfold refOk
  rw [(numOk_iff _).2 a, decide_eq_true b, decide_eq_true c, decide_eq_true d]
  rfl

set_option maxRecDepth 100000 in
set_option maxHeartbeats 1000000 in
theorem specRef_any (t : Tr) (w : World) (h1 : t.lo.size ≤ maxLen) (h2 : t.hi.size ≤ maxLen) :
    Calls Tryz.prog 72 #[t.agg] w fun e w' => e = .returned (.bool (refOk t)) ∧ Below w.heap.size w w' := by
  obtain ⟨n, l, lo, hi⟩ := t
  dsimp only at h1 h2
  have HL := hd (fun w => l1Less_any hi lo w h2 h1)
  have HN := hd (specNum_any n)
  have HF := hd (fun h => refOk_no (t := ⟨n, l, lo, hi⟩) h)
  have HT := hd (fun h => refOk_yes (t := ⟨n, l, lo, hi⟩) h)
  dsimp only at HF HT
  generalize refOk ⟨n, l, lo, hi⟩ = E at *
  have hP0 : (w.alloc (.cells #[.int .i64 n, .int .i64 l, .string lo, .string hi] 58)).heap[w.heap.size]? = some (.cells #[.int .i64 n, .int .i64 l, .string lo, .string hi] 58 (0, 0)) := World.heap_alloc_new _ _
  have hb0 : Below w.heap.size w (w.alloc (.cells #[.int .i64 n, .int .i64 l, .string lo, .string hi] 58)) := (Below.refl _ _).alloc (Nat.le_refl _) _
  unfold maxLen at h1 h2
  go_enter Tryz.func72, Tryz.ntmps72
  go_wp2_with fail
  refine (HN.out _).mono ?_
  rintro e w1 ⟨rfl, hb1⟩
  have hP1 := (hb1.block w.heap.size (by simp)).trans hP0
  have hb : Below w.heap.size w w1 := hb0.trans (hb1.mono hb0.size)
  obtain ⟨x0, x1, x2, x3⟩ := four_cells hP1
  have hlt1 := heap_lt hP1
  clear hP0 hb0 hP1 hb1
  have hz : numOk n = false ∨ (numOk n = true ∧ l < 0) ∨ (numOk n = true ∧ ¬ l < 0 ∧ 3 < l) ∨ (numOk n = true ∧ ¬ l < 0 ∧ ¬ 3 < l) := by
    cases numOk n
    · exact .inl rfl
    · refine .inr ?_
      simp only [true_and]
      omega
  rcases hz with hn | ⟨hn, hl⟩ | ⟨hn, hl, hl2⟩ | ⟨hn, hl, hl2⟩
  · have hE := HF.out (fun h => by rw [(numOk_iff n).2 h.1] at hn; cases hn)
    subst hE
    go_wp2_with fail
    go_ret
    exact ⟨rfl, hb⟩
  · have hE := HF.out (fun h => by omega)
    subst hE
    go_wp2_with fail
    go_ret
    exact ⟨rfl, hb⟩
  · have hE := HF.out (fun h => by omega)
    subst hE
    go_wp2_with fail
    go_ret
    exact ⟨rfl, hb⟩
  · have hnn := hd ((numOk_iff n).1 hn)
    have hz : ((lo.size : Int) < 1) ∨ (¬ (lo.size : Int) < 1 ∧ (1000 : Int) < lo.size) ∨ (¬ (lo.size : Int) < 1 ∧ ¬ (1000 : Int) < lo.size ∧ (hi.size : Int) < 1) ∨ (¬ (lo.size : Int) < 1 ∧ ¬ (1000 : Int) < lo.size ∧ ¬ (hi.size : Int) < 1 ∧ (1000 : Int) < hi.size) ∨ (¬ (lo.size : Int) < 1 ∧ ¬ (1000 : Int) < lo.size ∧ ¬ (hi.size : Int) < 1 ∧ ¬ (1000 : Int) < hi.size) := by omega
    rcases hz with z1 | ⟨z1, z2⟩ | ⟨z1, z2, z3⟩ | ⟨z1, z2, z3, z4⟩ | ⟨z1, z2, z3, z4⟩
    · have hE := HF.out (fun h => by omega)
      subst hE
      go_wp2_with fail
      go_ret
      exact ⟨rfl, hb⟩
    · have hE := HF.out (fun h => by omega)
      subst hE
      go_wp2_with fail
      go_ret
      exact ⟨rfl, hb⟩
    · have hE := HF.out (fun h => by omega)
      subst hE
      go_wp2_with fail
      go_ret
      exact ⟨rfl, hb⟩
    · have hE := HF.out (fun h => by omega)
      subst hE
      go_wp2_with fail
      go_ret
      exact ⟨rfl, hb⟩
    · have hE := hd (HT.out ⟨hnn.out, by omega, by omega, by omega⟩)
      go_wp2_with fail
      refine (HL.out _).mono ?_
      rintro e w2 ⟨rfl, k, rfl⟩
      go_wp2_with fail
      go_ret
      exact ⟨by rw [hE.out]; rfl, ⟨hb.os, hb.tape, hb.output, hb.size, fun k hk => hb.block k hk⟩⟩

theorem less_total : ∀ (a b : List UInt8), (Op.bytesLess a b || a == b) = !Op.bytesLess b a
  | [], [] => by simp [Op.bytesLess]
  | [], y :: b => by simp [Op.bytesLess]
  | x :: a, [] => by simp [Op.bytesLess]
  | x :: a, y :: b => by
    have ih := less_total a b
    by_cases hxy : x = y
    · subst hxy
      have hlt : ¬ x < x := by simp
      simp [Op.bytesLess, hlt]
      simpa using ih
    · by_cases hlt : x < y
      · have hlt2 : ¬ y < x := fun h => by rw [UInt8.lt_iff_toNat_lt] at h hlt; omega
        simp [Op.bytesLess, hxy, hlt, hlt2, Ne.symm hxy]
      · have hlt2 : y < x := by
          have : x.toNat ≠ y.toNat := fun h => hxy (UInt8.toNat_inj.1 h)
          rw [UInt8.lt_iff_toNat_lt] at hlt ⊢
          omega
        simp [Op.bytesLess, hxy, hlt, hlt2, Ne.symm hxy]

set_option maxRecDepth 100000 in
set_option maxHeartbeats 1000000 in
theorem implRef_any (t : Tr) (w : World) (h1 : t.lo.size ≤ maxLen) (h2 : t.hi.size ≤ maxLen) :
    Calls Tryz.prog 66 #[t.agg] w fun e w' => e = .returned (.bool (refOk t)) ∧ Below w.heap.size w w' := by
  obtain ⟨n, l, lo, hi⟩ := t
  dsimp only at h1 h2
  have HN := hd (implNum_any n)
  have HK1 := hd (fun w => validKey_any lo w h1)
  have HK2 := hd (fun w => validKey_any hi w h2)
  have HF := hd (fun h => refOk_no (t := ⟨n, l, lo, hi⟩) h)
  have HT := hd (fun h => refOk_yes (t := ⟨n, l, lo, hi⟩) h)
  dsimp only at HF HT
  generalize refOk ⟨n, l, lo, hi⟩ = E at *
  have hP0 : (w.alloc (.cells #[.int .i64 n, .int .i64 l, .string lo, .string hi] 58)).heap[w.heap.size]? = some (.cells #[.int .i64 n, .int .i64 l, .string lo, .string hi] 58 (0, 0)) := World.heap_alloc_new _ _
  have hb0 : Below w.heap.size w (w.alloc (.cells #[.int .i64 n, .int .i64 l, .string lo, .string hi] 58)) := (Below.refl _ _).alloc (Nat.le_refl _) _
  unfold maxLen at h1 h2
  go_enter Tryz.func66, Tryz.ntmps66
  go_wp2_with fail
  refine (HN.out _).mono ?_
  rintro e w1 ⟨rfl, hb1⟩
  have hP1 := (hb1.block w.heap.size (by simp)).trans hP0
  have hb : Below w.heap.size w w1 := hb0.trans (hb1.mono hb0.size)
  obtain ⟨x0, x1, x2, x3⟩ := four_cells hP1
  have hlt1 := heap_lt hP1
  clear hP0 hb0 hb1
  have hz : numOk n = false ∨ (numOk n = true ∧ ¬ 0 ≤ l) ∨ (numOk n = true ∧ 0 ≤ l ∧ ¬ l ≤ 3) ∨ (numOk n = true ∧ 0 ≤ l ∧ l ≤ 3) := by
    cases numOk n
    · exact .inl rfl
    · refine .inr ?_
      simp only [true_and]
      omega
  rcases hz with hn | ⟨hn, hl⟩ | ⟨hn, hl, hl2⟩ | ⟨hn, hl, hl2⟩
  · have hE := HF.out (fun h => by rw [(numOk_iff n).2 h.1] at hn; cases hn)
    subst hE
    go_wp2_with fail
    go_ret
    exact ⟨rfl, hb⟩
  · have hE := HF.out (fun h => by omega)
    subst hE
    go_wp2_with fail
    go_ret
    exact ⟨rfl, hb⟩
  · have hE := HF.out (fun h => by omega)
    subst hE
    go_wp2_with fail
    go_ret
    exact ⟨rfl, hb⟩
  · have hnn := hd ((numOk_iff n).1 hn)
    go_wp2_with fail
    refine (HK1.out _).mono ?_
    rintro e w2 ⟨rfl, hb2⟩
    have hP2 := (hb2.block w.heap.size hlt1).trans hP1
    have hbw2 : Below w.heap.size w w2 := hb.trans (hb2.mono hb.size)
    obtain ⟨y0, y1, y2, y3⟩ := four_cells hP2
    have hlt2 := heap_lt hP2
    clear x0 x1 x2 x3 hP1 hb2 hb
    by_cases k1 : 1 ≤ lo.size ∧ lo.size ≤ 1000
    · rw [decide_eq_true k1]
      go_wp2_with fail
      refine (HK2.out _).mono ?_
      rintro e w3 ⟨rfl, hb3⟩
      have hP3 := (hb3.block w.heap.size hlt2).trans hP2
      have hbw3 : Below w.heap.size w w3 := hbw2.trans (hb3.mono hbw2.size)
      obtain ⟨x0, x1, x2, x3⟩ := four_cells hP3
      have hlt3 := heap_lt hP3
      clear y0 y1 y2 y3 hP2 hb3 hbw2
      by_cases k2 : 1 ≤ hi.size ∧ hi.size ≤ 1000
      · rw [decide_eq_true k2]
        have hE := hd (HT.out ⟨hnn.out, ⟨hl, hl2⟩, k1, k2⟩)
        go_wp2_with fail
        go_ret
        refine ⟨?_, hbw3⟩
        rw [hE.out]
        exact ret_bool (less_total lo.toList hi.toList)
      · rw [decide_eq_false k2]
        have hE := HF.out (fun h => k2 h.2.2.2)
        subst hE
        go_wp2_with fail
        go_ret
        exact ⟨rfl, hbw3⟩
    · rw [decide_eq_false k1]
      have hE := HF.out (fun h => k1 h.2.2.1)
      subst hE
      go_wp2_with fail
      go_ret
      exact ⟨rfl, hbw2⟩
end Go.Proofs.YtgpjhlhjdafjlaaGreatDoor
namespace Go.Proofs.YtgpjhlhjdafjlaaGreatDoor
open Go.RowKit Go.Maps
set_option linter.unusedVariables false
set_option linter.unusedSimpArgs false

set_option maxRecDepth 100000 in
set_option maxHeartbeats 1000000 in
theorem l2DrawKey_any (a : Option Addr) (cap : Nat) (bs : List UInt8) (p : Nat) (w : World) (hx : LieB w a bs) (hl : bs.length ≤ 1048576) (hp : p ≤ 100000) :
    Calls Tryz.prog 70 #[.slice a bs.length cap, .int .i64 p] w fun e w' => ∃ t : ByteArray, t.size ≤ 70 ∧ e = .returned (.tuple #[.string t, .int .i64 ((p + 1 : Nat) : Int)]) ∧ Below w.heap.size w w' := by
  have HT := hd0 (l1Take_any a cap bs p 24 w hx hl (by omega) (by omega) (by omega))
  have HLg := fun w => hd0 (l1Long_any 70 ⟨#[107]⟩ w rfl (by omega))
  generalize bs.length = len at *
  clear hx
  go_enter Tryz.func70, Tryz.ntmps70
  go_wp2_with fail
  refine HT.out.mono ?_
  rintro e w1 ⟨r, hr, rfl, hb1⟩
  by_cases h20 : r < 20
  · have h20' : (r : Int) < 20 := by omega
    go_wp2_with fail
    go_ret2
    refine ⟨_, ?_, rfl, hb1⟩
    simp only [ByteArray.size_extract]
    omega
  · have h4 : r = 20 ∨ r = 21 ∨ r = 22 ∨ r = 23 := by omega
    clear hr h20
    rcases h4 with rfl | rfl | rfl | rfl
    · go_wp2_with fail
      go_ret2
      exact ⟨_, by decide, rfl, hb1⟩
    · go_wp2_with fail
      go_ret2
      exact ⟨_, by decide, rfl, hb1⟩
    · go_wp2_with fail
      refine (HLg _).out.mono ?_
      rintro e w2 ⟨t, ht, rfl, hb2⟩
      go_wp2_with fail
      go_ret2
      exact ⟨t, by omega, rfl, hb1.trans (hb2.mono hb1.size)⟩
    · go_wp2_with fail
      go_ret2
      exact ⟨_, by decide, rfl, hb1⟩

theorem below_sets4 {B p : Nat} {w w' : World} (h : Below B w w') (hp : B ≤ p) (x0 x1 x2 x3 : Value) :
    Below B w ((((w'.setCell ⟨p, 0, none⟩ x0).setCell ⟨p, 1, none⟩ x1).setCell ⟨p, 2, none⟩ x2).setCell ⟨p, 3, none⟩ x3) :=
  (((h.setCell (p := ⟨p, 0, none⟩) hp _).setCell (p := ⟨p, 1, none⟩) hp _).setCell (p := ⟨p, 2, none⟩) hp _).setCell (p := ⟨p, 3, none⟩) hp _
/-- A small reference. -/
def SmT (t : Tr) : Prop := t.lo.size ≤ 70 ∧ t.hi.size ≤ 70 ∧ 0 ≤ t.lv ∧ t.lv ≤ 3
set_option maxRecDepth 100000 in
set_option maxHeartbeats 2000000 in
theorem l4DrawRef_any (a : Option Addr) (cap : Nat) (bs : List UInt8) (p : Nat) (num : Int) (w : World) (hx : LieB w a bs) (hl : bs.length ≤ 1048576) (hp : p ≤ 90000) :
    Calls Tryz.prog 40 #[.slice a bs.length cap, .int .i64 p, .int .i64 num] w fun e w' => ∃ t : Tr, e = .returned (.tuple #[t.agg, .int .i64 ((p + 3 : Nat) : Int)]) ∧ t.nu = num ∧ SmT t ∧ Below w.heap.size w w' := by
  have HT := hd0 (fun (w' : World) (hb : Below w.heap.size w w') => l1Take_any a cap bs p 8 w' (hx.below hb) hl (by omega) (by omega) (by omega))
  have HK := hd0 (fun (w' : World) (q : Nat) (hb : Below w.heap.size w w') (hq : q ≤ 100000) => l2DrawKey_any a cap bs q w' (hx.below hb) hl hq)
  have HLs := hd0 (fun (s t : ByteArray) (w' : World) (h1 : s.size ≤ 70) (h2 : t.size ≤ 70) => l1Less_any s t w' (by unfold maxLen; omega) (by unfold maxLen; omega))
  generalize bs.length = len at *
  clear hx
  generalize hW0 : w.alloc (.cells #[.int .i64 0, .int .i64 0, .string ⟨#[]⟩, .string ⟨#[]⟩] 58) = W0
  have hV0 : W0.heap[w.heap.size]? = some (.cells #[.int .i64 0, .int .i64 0, .string ⟨#[]⟩, .string ⟨#[]⟩] 58 (0, 0)) := by rw [← hW0]; exact World.heap_alloc_new _ _
  have hb0 : Below w.heap.size w W0 := by rw [← hW0]; exact (Below.refl _ _).alloc (Nat.le_refl _) _
  go_enter Tryz.func40, Tryz.ntmps40
  go_wp2_with fail
  refine (HT.out _ hb0).mono ?_
  rintro e w1 ⟨r, hr, rfl, hb1⟩
  clear hW0
  have hw1 := hb0.trans (hb1.mono hb0.size)
  go_wp2_with fail
  refine (HK.out _ (p + 1) hw1 (by omega)).mono ?_
  rintro e w2 ⟨lo, hlo, rfl, hb2⟩
  have hw2 := hw1.trans (hb2.mono hw1.size)
  go_wp2_with fail
  refine (HK.out _ (p + 1 + 1) hw2 (by omega)).mono ?_
  rintro e w3 ⟨hi, hhi, rfl, hb3⟩
  have hw3 := hw2.trans (hb3.mono hw2.size)
  have hb03 : Below W0.heap.size W0 w3 := hb1.trans ((hb2.mono hb1.size).trans (hb3.mono (Nat.le_trans hb1.size hb2.size)))
  have hlW := heap_lt hV0
  have HV3 := hd0 ((hb03.block w.heap.size hlW).trans hV0)
  have HB3 := hd0 hw3
  clear hb1 hb2 hb3 hw1 hw2 hw3 hb03 hV0 hb0 HK HT
  go_wp2_with fail
  refine (HLs.out hi lo _ hhi hlo).mono ?_
  rintro e w4' ⟨rfl, nq, rfl⟩
  have hb4 : Below w3.heap.size w3 (w3.drewN nq) := ⟨rfl, rfl, rfl, Nat.le_refl _, fun _ _ => rfl⟩
  generalize w3.drewN nq = w4 at *
  have HB4 := hd0 (HB3.out.trans (hb4.mono HB3.out.size))
  have hV4 := (hb4.block w.heap.size (heap_lt HV3.out)).trans HV3.out
  obtain ⟨y0, y1, y2, y3⟩ := four_cells hV4
  have z0 : w4.frozen? ⟨w.heap.size, 0, none⟩ = false := by simp [World.frozen?, hV4]
  have z1 : w4.frozen? ⟨w.heap.size, 1, none⟩ = false := by simp [World.frozen?, hV4]
  have z2 : w4.frozen? ⟨w.heap.size, 2, none⟩ = false := by simp [World.frozen?, hV4]
  have z3 : w4.frozen? ⟨w.heap.size, 3, none⟩ = false := by simp [World.frozen?, hV4]
  clear hb4 hV4 HV3 HB3 HLs
  cases hls : lessB hi lo with
  | true =>
    by_cases h5 : 5 ≤ r
    · have h5' : (5 : Int) ≤ (r : Int) := by omega
      have hw5 : wrap64 ((r : Int) - 4) = (r : Int) - 4 := by unfold wrap64; omega
      by_cases h7 : r = 7
      · subst h7
        go_wp2_with fail
        refine bodyPost_ret (v := .tuple #[Tr.agg ⟨num, 3, hi, hi⟩, .int .i64 ((p + 3 : Nat) : Int)]) (by simp [results, Tryz.results40, go_sem, y0, y1, y2, y3]; omega) rfl ⟨⟨num, 3, hi, hi⟩, rfl, rfl, ⟨by dsimp only; omega, by dsimp only; omega, by dsimp only; omega, by dsimp only; omega⟩, below_sets4 HB4.out (Nat.le_refl _) _ _ _ _⟩
      · have h7' : ((r : Int) == 7) = false := by simp; omega
        go_wp2_with fail
        refine bodyPost_ret (v := .tuple #[Tr.agg ⟨num, ((r : Int) - 4), hi, lo⟩, .int .i64 ((p + 3 : Nat) : Int)]) (by simp [results, Tryz.results40, go_sem, y0, y1, y2, y3]; omega) rfl ⟨⟨num, ((r : Int) - 4), hi, lo⟩, rfl, rfl, ⟨by dsimp only; omega, by dsimp only; omega, by dsimp only; omega, by dsimp only; omega⟩, below_sets4 HB4.out (Nat.le_refl _) _ _ _ _⟩
    · have h5' : ¬ (5 : Int) ≤ (r : Int) := by omega
      go_wp2_with fail
      refine bodyPost_ret (v := .tuple #[Tr.agg ⟨num, 0, hi, lo⟩, .int .i64 ((p + 3 : Nat) : Int)]) (by simp [results, Tryz.results40, go_sem, y0, y1, y2, y3]; omega) rfl ⟨⟨num, 0, hi, lo⟩, rfl, rfl, ⟨by dsimp only; omega, by dsimp only; omega, by dsimp only; omega, by dsimp only; omega⟩, below_sets4 HB4.out (Nat.le_refl _) _ _ _ _⟩
  | false =>
    by_cases h5 : 5 ≤ r
    · have h5' : (5 : Int) ≤ (r : Int) := by omega
      have hw5 : wrap64 ((r : Int) - 4) = (r : Int) - 4 := by unfold wrap64; omega
      by_cases h7 : r = 7
      · subst h7
        go_wp2_with fail
        refine bodyPost_ret (v := .tuple #[Tr.agg ⟨num, 3, lo, lo⟩, .int .i64 ((p + 3 : Nat) : Int)]) (by simp [results, Tryz.results40, go_sem, y0, y1, y2, y3]; omega) rfl ⟨⟨num, 3, lo, lo⟩, rfl, rfl, ⟨by dsimp only; omega, by dsimp only; omega, by dsimp only; omega, by dsimp only; omega⟩, below_sets4 HB4.out (Nat.le_refl _) _ _ _ _⟩
      · have h7' : ((r : Int) == 7) = false := by simp; omega
        go_wp2_with fail
        refine bodyPost_ret (v := .tuple #[Tr.agg ⟨num, ((r : Int) - 4), lo, hi⟩, .int .i64 ((p + 3 : Nat) : Int)]) (by simp [results, Tryz.results40, go_sem, y0, y1, y2, y3]; omega) rfl ⟨⟨num, ((r : Int) - 4), lo, hi⟩, rfl, rfl, ⟨by dsimp only; omega, by dsimp only; omega, by dsimp only; omega, by dsimp only; omega⟩, below_sets4 HB4.out (Nat.le_refl _) _ _ _ _⟩
    · have h5' : ¬ (5 : Int) ≤ (r : Int) := by omega
      go_wp2_with fail
      refine bodyPost_ret (v := .tuple #[Tr.agg ⟨num, 0, lo, hi⟩, .int .i64 ((p + 3 : Nat) : Int)]) (by simp [results, Tryz.results40, go_sem, y0, y1, y2, y3]; omega) rfl ⟨⟨num, 0, lo, hi⟩, rfl, rfl, ⟨by dsimp only; omega, by dsimp only; omega, by dsimp only; omega, by dsimp only; omega⟩, below_sets4 HB4.out (Nat.le_refl _) _ _ _ _⟩
end Go.Proofs.YtgpjhlhjdafjlaaGreatDoor
namespace Go.Proofs.YtgpjhlhjdafjlaaGreatDoor
open Go.RowKit Go.Maps
set_option linter.unusedVariables false
set_option linter.unusedSimpArgs false

theorem oneB (x : UInt8) : (⟨#[x]⟩ : ByteArray).size = 1 := rfl
set_option maxRecDepth 100000 in
set_option maxHeartbeats 1000000 in
theorem l2SpoilText_any (a : Option Addr) (cap : Nat) (bs : List UInt8) (p : Nat) (s : ByteArray) (w : World) (hx : LieB w a bs) (hl : bs.length ≤ 1048576) (hp : p ≤ 100000) (hs : s.size ≤ 1000000) :
    Calls Tryz.prog 19 #[.slice a bs.length cap, .int .i64 p, .string s] w fun e w' => ∃ t : ByteArray, t.size ≤ s.size + 1 ∧ e = .returned (.string t) ∧ Below w.heap.size w w' := by
  have HT := hd0 (fun (w' : World) (q n : Nat) (hb : Below w.heap.size w w') (hq : q ≤ 1000000) (hn : 1 ≤ n) (hn2 : n ≤ 2000000) => l1Take_wide a cap bs q n w' (hx.below hb) hl hq hn hn2)
  have HB := hd0 (fun (n : Nat) (w : World) (h : n < 256) => l2Byte_any (n : Int) w (by omega) (by omega))
  generalize bs.length = len at *
  clear hx
  go_enter Tryz.func19, Tryz.ntmps19
  go_wp2_with fail
  refine (HT.out _ p 6 (Below.refl _ _) (by omega) (by omega) (by omega)).mono ?_
  rintro e w1 ⟨r, hr, rfl, hb1⟩
  go_wp2_with fail
  refine (HT.out _ (p + 1) (s.size + 1) hb1 (by omega) (by omega) (by omega)).mono ?_
  rintro e w2 ⟨k, hk, rfl, hb2⟩
  have hw2 := hb1.trans (hb2.mono hb1.size)
  go_wp2_with fail
  refine (HT.out _ (p + 1 + 1) 256 hw2 (by omega) (by omega) (by omega)).mono ?_
  rintro e w3 ⟨x, hx3, rfl, hb3⟩
  have HB3 := hd0 (hw2.trans (hb3.mono hw2.size))
  clear hb1 hb2 hb3 hw2 HT
  have hk0 : (0 : Int) ≤ (k : Int) := by omega
  have hk1 : (k : Int) ≤ (s.size : Int) := by omega
  have hm1 : min k s.size = k := by omega
  have u1 : ¬ 9223372036854775807 < k + 1 := by omega
  have u2 : ¬ 9223372036854775807 < k + 1 + (s.size - k) := by omega
  have u3 : ¬ 9223372036854775807 < k + 1 + (s.size - (k + 1)) := by omega
  have u4 : ¬ 9223372036854775807 < k + (s.size - (k + 1)) := by omega
  have e1 : (s.extract 0 k).size ≤ k := by simp only [ByteArray.size_extract]; omega
  have e2 : (s.extract k s.size).size ≤ s.size - k := by simp only [ByteArray.size_extract]; omega
  have e3 : (s.extract (k + 1) s.size).size ≤ s.size - (k + 1) := by simp only [ByteArray.size_extract]; omega
  by_cases hks : k < s.size
  · have hks' : (k : Int) < (s.size : Int) := by omega
    have hk3 : (k : Int) + 1 ≤ (s.size : Int) := by omega
    have hk4 : (0 : Int) ≤ (k : Int) + 1 := by omega
    have hk5 : IntKind.i64.wrap ((k : Int) + 1) = (k : Int) + 1 := by rw [IntKind.wrap_i64]; omega
    have hk6 : ((k : Int) + 1).toNat = k + 1 := by omega
    have h6 : r = 0 ∨ (0 < r ∧ r < 4) ∨ r = 4 ∨ r = 5 := by omega
    rcases h6 with rfl | ⟨h0, h4⟩ | rfl | rfl
    · go_wp2_with fail
      go_region_held3 (fun w' => True) (trivial) (fail)
      all_goals go_wp2_with fail
      all_goals go_ret
      all_goals exact ⟨_, by simp only [ByteArray.size_append, oneB]; omega, rfl, HB3.out.drew⟩
    · have h0' : ((r : Int) == 0) = false := by simp; omega
      have h4' : (r : Int) < 4 := by omega
      go_wp2_with fail
      go_region_held3 (fun w' => True) (trivial) ((go_at_call 45; refine (HB.out x _ hx3).mono ?_; rintro e w4 ⟨rfl, hb4⟩; have HB4 := hd0 (HB3.out.drew.trans (hb4.mono HB3.out.size)); clear hb4))
      all_goals go_wp2_with fail
      all_goals go_ret
      all_goals exact ⟨_, by simp only [ByteArray.size_append, oneB]; omega, rfl, HB4.out⟩
    · go_wp2_with fail
      go_region_held3 (fun w' => True) (trivial) ((go_at_call 45; refine (HB.out x _ hx3).mono ?_; rintro e w4 ⟨rfl, hb4⟩; have HB4 := hd0 (HB3.out.drew.trans (hb4.mono HB3.out.size)); clear hb4))
      all_goals go_wp2_with fail
      all_goals go_ret
      all_goals exact ⟨_, by simp only [ByteArray.size_append, oneB]; omega, rfl, HB4.out⟩
    · go_wp2_with fail
      go_ret
      exact ⟨_, by omega, rfl, HB3.out⟩
  · have hks' : ¬ (k : Int) < (s.size : Int) := by omega
    have h6 : r = 0 ∨ (0 < r ∧ r < 4) ∨ r = 4 ∨ r = 5 := by omega
    rcases h6 with rfl | ⟨h0, h4⟩ | rfl | rfl
    · go_wp2_with fail
      go_ret
      exact ⟨_, by omega, rfl, HB3.out⟩
    · have h0' : ((r : Int) == 0) = false := by simp; omega
      have h4' : (r : Int) < 4 := by omega
      have h5' : ((r : Int) == 4) = false := by simp; omega
      go_wp2_with fail
      go_ret
      exact ⟨_, by omega, rfl, HB3.out⟩
    · go_wp2_with fail
      go_region_held3 (fun w' => True) (trivial) ((go_at_call 45; refine (HB.out x _ hx3).mono ?_; rintro e w4 ⟨rfl, hb4⟩; have HB4 := hd0 (HB3.out.drew.trans (hb4.mono HB3.out.size)); clear hb4))
      all_goals go_wp2_with fail
      all_goals go_ret
      all_goals exact ⟨_, by simp only [ByteArray.size_append, oneB]; omega, rfl, HB4.out⟩
    · go_wp2_with fail
      go_ret
      exact ⟨_, by omega, rfl, HB3.out⟩
end Go.Proofs.YtgpjhlhjdafjlaaGreatDoor
