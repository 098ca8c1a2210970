import Derived.Test.YtphikgobdfknkaaGreatDoorEdY
namespace Go.Proofs.YtphikgobdfknkaaGreatDoor
open Go.RowKit
set_option linter.unusedVariables false
set_option linter.unusedSimpArgs false

/-- What was read stands there as it would be written. -/
theorem gvf_bytes : ∀ (f : Nat) (l : List UInt8) (i n0 n c : Nat), gvf f l i n0 = some (n, c) →
    ∃ m, n = n0 + m * 128 ^ i ∧ c = i + (vbf (f - 1) m).length ∧ l.take (vbf (f - 1) m).length = vbf (f - 1) m ∧ (0 < i → 0 < m) ∧ (vbf (f - 1) m).length ≤ l.length := by
  intro f
  induction f with
  | zero => intro l i n0 n c h; cases h
  | succ f ih =>
    intro l i n0 n c h
    cases l with
    | nil => cases h
    | cons b r =>
      have hb := b.toNat_lt
      simp only [gvf] at h
      by_cases h1 : b.toNat < 128
      · rw [if_pos h1] at h
        by_cases h2 : b.toNat = 0 ∧ 0 < i
        · rw [if_pos h2] at h; cases h
        · rw [if_neg h2] at h
          simp only [Option.some.injEq, Prod.mk.injEq] at h
          have e : vbf (f + 1 - 1) b.toNat = [b] := by rw [vbf_lt h1]; simp
          refine ⟨b.toNat, by rw [← h.1, Nat.mod_eq_of_lt h1], by rw [e]; exact h.2.symm, by rw [e]; rfl, fun hi => by omega, by rw [e]; simp⟩
      · rw [if_neg h1] at h
        obtain ⟨m, hn, hc, ht, hm, hl⟩ := ih r (i + 1) _ n c h
        have hm' := hm (by omega)
        have e : vbf (f + 1 - 1) (b.toNat % 128 + 128 * m) = b :: vbf (f - 1) m := by
          cases f with
          | zero => simp [gvf] at h
          | succ g =>
            have e1 : (b.toNat % 128 + 128 * m) % 128 + 128 = b.toNat := by omega
            have e2 : (b.toNat % 128 + 128 * m) / 128 = m := by omega
            show vbf (g + 1) _ = b :: vbf g m
            rw [vbf_ge (by omega), e1, e2]
            simp
        refine ⟨b.toNat % 128 + 128 * m, ?_, ?_, ?_, fun _ => by omega, ?_⟩
        · rw [hn, Nat.pow_succ, Nat.add_mul, Nat.add_assoc]
          congr 2
          rw [Nat.mul_comm (128 ^ i) 128, ← Nat.mul_assoc, Nat.mul_comm m 128]
        · rw [e, hc]; simp; omega
        · rw [e]; simp [ht]
        · rw [e]; simp; exact hl

theorem gvf_le : ∀ (f : Nat) (l : List UInt8) (i n0 n c : Nat), i + f = 8 → n0 < 128 ^ i → gvf f l i n0 = some (n, c) → n ≤ 72057594037927935 := by
  intro f
  induction f with
  | zero => intro l i n0 n c _ _ h; cases h
  | succ f ih =>
    intro l i n0 n c hif hn0 h
    cases l with
    | nil => cases h
    | cons b r =>
      simp only [gvf] at h
      have hs := step_lt b.toNat hn0
      by_cases h1 : b.toNat < 128
      · rw [if_pos h1] at h
        by_cases h2 : b.toNat = 0 ∧ 0 < i
        · rw [if_pos h2] at h; cases h
        · rw [if_neg h2] at h
          simp only [Option.some.injEq, Prod.mk.injEq] at h
          have := pow128_le (i := i + 1) (by omega)
          omega
      · rw [if_neg h1] at h
        exact ih r (i + 1) _ n c (by omega) hs h

/-- A number that was read. -/
theorem gv_some {s : ByteArray} {A n c : Nat} (h : gv s (A : Int) = some (n, c)) :
    s.data.toList.take (A + c) = s.data.toList.take A ++ vb n ∧ A + c ≤ s.size ∧ n ≤ 72057594037927935 ∧ 1 ≤ c := by
  unfold gv at h
  split at h
  · rename_i hA
    simp only [Int.toNat_natCast] at h
    have hle := gvf_le 8 _ 0 0 n c rfl (by simp) h
    obtain ⟨m, hn, hc, ht, -, hl⟩ := gvf_bytes 8 _ 0 0 n c h
    obtain rfl : n = m := by simpa using hn
    have hc' : c = (vb n).length := by simpa using hc
    rw [List.length_drop, dataL] at hl
    refine ⟨?_, ?_, hle, by rw [hc']; exact vbf_pos 7 n⟩
    · have ht' : (s.data.toList.drop A).take (vb n).length = vb n := ht
      rw [List.take_add, hc', ht']
    · rw [hc']
      have := vbf_pos 7 n
      show A + (vbf 7 n).length ≤ s.size
      have hl' : (vbf 7 n).length ≤ s.size - A := hl
      omega
  · cases h

/-- A piece of a text. -/
def cut (s : ByteArray) (a b : Nat) : ByteArray := s.extract a b
theorem cut_data (s : ByteArray) (a n : Nat) (h : a + n ≤ s.size) : (cut s a (a + n)).data.toList = (s.data.toList.drop a).take n := by
  simp only [cut, ByteArray.data_extract, Array.toList_extract, List.extract]
  congr 1
  omega
theorem cut_size (s : ByteArray) (a n : Nat) (h : a + n ≤ s.size) : (cut s a (a + n)).size = n := by
  simp only [cut, ByteArray.size_extract]
  omega
theorem take_cut (s : ByteArray) (a n : Nat) (h : a + n ≤ s.size) : s.data.toList.take (a + n) = s.data.toList.take a ++ (cut s a (a + n)).data.toList := by
  rw [cut_data s a n h, List.take_add]

/-- A text with its size ahead, at place A. -/
def pc (s : ByteArray) (A : Nat) : Option (ByteArray × Nat) :=
  match gv s (A : Int) with
  | none => none
  | some (n, c) => if n ≤ s.size - (A + c) then some (cut s (A + c) (A + c + n), A + c + n) else none
theorem pc_some {s : ByteArray} {A B : Nat} {t : ByteArray} (h : pc s A = some (t, B)) :
    s.data.toList.take B = s.data.toList.take A ++ (vb t.size ++ t.data.toList) ∧ A ≤ B ∧ B ≤ s.size ∧ t.size ≤ s.size := by
  unfold pc at h
  split at h
  · cases h
  · rename_i n c hg
    obtain ⟨h1, h2, h3, h4⟩ := gv_some hg
    split at h
    · rename_i hn
      simp only [Option.some.injEq, Prod.mk.injEq] at h
      obtain ⟨rfl, rfl⟩ := h
      have hb : A + c + n ≤ s.size := by omega
      rw [take_cut s (A + c) n hb, h1, cut_size s (A + c) n hb, List.append_assoc]
      exact ⟨rfl, by omega, hb, by omega⟩
    · cases h

/-- A reference at place A; k of them; k numbers; an edit. -/
def pR (s : ByteArray) (A : Nat) : Option (Tr × Nat) :=
  match gv s (A : Int) with
  | none => none
  | some (n, c) => match gv s ((A + c : Nat) : Int) with
    | none => none
    | some (l, d) => match pc s (A + c + d) with
      | none => none
      | some (lo, B) => match pc s B with
        | none => none
        | some (hi, E) => some (⟨n, l, lo, hi⟩, E)
def pRs (s : ByteArray) : Nat → Nat → Option (List Tr × Nat)
  | 0, A => some ([], A)
  | k + 1, A => match pRs s k A with
    | none => none
    | some (xs, B) => match pR s B with
      | none => none
      | some (t, E) => some (xs ++ [t], E)
def pIs (s : ByteArray) : Nat → Nat → Option (List Int × Nat)
  | 0, A => some ([], A)
  | k + 1, A => match pIs s k A with
    | none => none
    | some (xs, B) => match gv s (B : Int) with
      | none => none
      | some (n, c) => some (xs ++ [(n : Int)], B + c)
theorem pR_some {s : ByteArray} {A E : Nat} {t : Tr} (h : pR s A = some (t, E)) :
    s.data.toList.take E = s.data.toList.take A ++ rbT t ∧ A ≤ E ∧ E ≤ s.size ∧ t.lo.size ≤ s.size ∧ t.hi.size ≤ s.size := by
  unfold pR at h
  split at h
  · cases h
  · rename_i n c hg
    obtain ⟨a1, a2, a3, a4⟩ := gv_some hg
    split at h
    · cases h
    · rename_i l d hg2
      obtain ⟨b1, b2, b3, b4⟩ := gv_some hg2
      split at h
      · cases h
      · rename_i lo B hp
        obtain ⟨c1, c2, c3, c4⟩ := pc_some hp
        split at h
        · cases h
        · rename_i hi E' hp2
          obtain ⟨d1, d2, d3, d4⟩ := pc_some hp2
          simp only [Option.some.injEq, Prod.mk.injEq] at h
          obtain ⟨rfl, rfl⟩ := h
          refine ⟨?_, by omega, d3, c4, d4⟩
          rw [d1, c1, b1, a1]
          simp [rbT, kyB]
theorem pRs_some {s : ByteArray} {k A E : Nat} {xs : List Tr} (hA : A ≤ s.size) (h : pRs s k A = some (xs, E)) :
    s.data.toList.take E = s.data.toList.take A ++ xs.flatMap rbT ∧ A ≤ E ∧ E ≤ s.size ∧ xs.length = k ∧ ∀ t ∈ xs, t.lo.size ≤ s.size ∧ t.hi.size ≤ s.size := by
  induction k generalizing xs E with
  | zero =>
    simp only [pRs, Option.some.injEq, Prod.mk.injEq] at h
    obtain ⟨rfl, rfl⟩ := h
    exact ⟨by simp, Nat.le_refl _, hA, rfl, fun t ht => absurd ht (by simp)⟩
  | succ k ih =>
    simp only [pRs] at h
    split at h
    · cases h
    · rename_i ys B hk
      obtain ⟨a1, a2, a3, a4, a5⟩ := ih hk
      split at h
      · cases h
      · rename_i t E' hp
        obtain ⟨b1, b2, b3, b4, b5⟩ := pR_some hp
        simp only [Option.some.injEq, Prod.mk.injEq] at h
        obtain ⟨rfl, rfl⟩ := h
        refine ⟨by rw [b1, a1]; simp [List.flatMap_append], by omega, b3, by simp [a4], fun u hu => ?_⟩
        rcases List.mem_append.1 hu with hu | hu
        · exact a5 u hu
        · simp only [List.mem_singleton] at hu
          subst hu
          exact ⟨b4, b5⟩
theorem pIs_some {s : ByteArray} {k A E : Nat} {xs : List Int} (hA : A ≤ s.size) (h : pIs s k A = some (xs, E)) :
    s.data.toList.take E = s.data.toList.take A ++ dlB xs ∧ A ≤ E ∧ E ≤ s.size ∧ xs.length = k := by
  induction k generalizing xs E with
  | zero =>
    simp only [pIs, Option.some.injEq, Prod.mk.injEq] at h
    obtain ⟨rfl, rfl⟩ := h
    exact ⟨by simp [dlB], Nat.le_refl _, hA, rfl⟩
  | succ k ih =>
    simp only [pIs] at h
    split at h
    · cases h
    · rename_i ys B hk
      obtain ⟨a1, a2, a3, a4⟩ := ih hk
      split at h
      · cases h
      · rename_i n c hp
        obtain ⟨b1, b2, b3, b4⟩ := gv_some hp
        simp only [Option.some.injEq, Prod.mk.injEq] at h
        obtain ⟨rfl, rfl⟩ := h
        exact ⟨by rw [b1, a1]; simp [dlB, List.flatMap_append], by omega, b2, by simp [a4]⟩
theorem pRs_none {s : ByteArray} {k A : Nat} (h : pRs s k A = none) : ∀ j, k ≤ j → pRs s j A = none := by
  intro j hj
  induction j with
  | zero => rw [show k = 0 by omega] at h; exact h
  | succ j ih =>
    by_cases he : k = j + 1
    · rw [← he]; exact h
    · simp only [pRs, ih (by omega)]
theorem pIs_none {s : ByteArray} {k A : Nat} (h : pIs s k A = none) : ∀ j, k ≤ j → pIs s j A = none := by
  intro j hj
  induction j with
  | zero => rw [show k = 0 by omega] at h; exact h
  | succ j ih =>
    by_cases he : k = j + 1
    · rw [← he]; exact h
    · simp only [pIs, ih (by omega)]
/-- The three numbers at the end. -/
def pZ (s : ByteArray) (E : Nat) : Option (Nat × Nat × Nat × Nat) :=
  match gv s (E : Int) with
  | none => none
  | some (lg, c) => match gv s ((E + c : Nat) : Int) with
    | none => none
    | some (nx, d) => match gv s ((E + c + d : Nat) : Int) with
      | none => none
      | some (la, f) => some (lg, nx, la, E + c + d + f)
theorem pZ_some {s : ByteArray} {E lg nx la Z : Nat} (h : pZ s E = some (lg, nx, la, Z)) :
    s.data.toList.take Z = s.data.toList.take E ++ vb lg ++ vb nx ++ vb la ∧ E ≤ Z ∧ Z ≤ s.size := by
  unfold pZ at h
  split at h
  · cases h
  · rename_i lg' c hg
    obtain ⟨a1, a2, a3, a4⟩ := gv_some hg
    split at h
    · cases h
    · rename_i l d hg2
      obtain ⟨b1, b2, b3, b4⟩ := gv_some hg2
      split at h
      · cases h
      · rename_i la' f hg3
        obtain ⟨c1, c2, c3, c4⟩ := gv_some hg3
        simp only [Option.some.injEq, Prod.mk.injEq] at h
        obtain ⟨rfl, rfl, rfl, rfl⟩ := h
        exact ⟨by rw [c1, b1, a1], by omega, c2⟩
/-- What an edit's text says. -/
def pE (s : ByteArray) : Option (Ed × Nat) :=
  match gv s 0 with
  | none => none
  | some (n, c) => if 1000 < n then none else match pRs s n c with
    | none => none
    | some (xs, B) => match gv s (B : Int) with
      | none => none
      | some (m, d) => if 1000 < m then none else match pIs s m (B + d) with
        | none => none
        | some (ks, E) => match pZ s E with
          | none => none
          | some (lg, nx, la, Z) => some (⟨xs, ks, lg, nx, la⟩, Z)
def decEd (s : ByteArray) : Option Ed := match pE s with
  | none => none
  | some (e, Z) => if Z = s.size ∧ edOk e = true then some e else none

theorem ed_bytes {s : ByteArray} {n c m d B E Z lg nx la : Nat} {xs : List Tr} {ks : List Int} (h1 : gv s 0 = some (n, c)) (h2 : pRs s n c = some (xs, B)) (h3 : gv s (B : Int) = some (m, d)) (h4 : pIs s m (B + d) = some (ks, E)) (h5 : pZ s E = some (lg, nx, la, Z)) :
    s.data.toList.take Z = edB ⟨xs, ks, lg, nx, la⟩ ∧ Z ≤ s.size ∧ xs.length = n ∧ ks.length = m := by
  have h1' : gv s ((0 : Nat) : Int) = some (n, c) := h1
  obtain ⟨a1, a2, a3, a4⟩ := gv_some h1'
  rw [Nat.zero_add] at a1 a2
  obtain ⟨b1, b2, b3, b4, b5⟩ := pRs_some a2 h2
  obtain ⟨c1, c2, c3, c4⟩ := gv_some h3
  obtain ⟨d1, d2, d3, d4⟩ := pIs_some c2 h4
  obtain ⟨e1, e2, e3⟩ := pZ_some h5
  refine ⟨?_, e3, b4, d4⟩
  rw [e1, d1, c1, b1, a1, edB, b4, d4]
  simp [adB]
/-- An edit that was read to its end is written as that text if it is valid and the text ends there. -/
theorem ed_same {s : ByteArray} {Z : Nat} {e : Ed} (h : s.data.toList.take Z = edB e) (hZ : Z ≤ s.size) (hok : edOk e = true) : edT e = s ↔ Z = s.size := by
  unfold edT
  rw [if_pos hok]
  constructor
  · intro h1
    have h2 : (edB e).length = s.size := by rw [← h1, txtS]
    rw [← h, List.length_take, dataL] at h2
    omega
  · intro h1
    apply txt_ext
    rw [textL, ← h, h1, List.take_of_length_le (by rw [dataL]; exact Nat.le_refl _)]
theorem edT_bad {e : Ed} (h : edOk e = false) : edT e = ⟨#[]⟩ := by unfold edT; rw [if_neg (by simp [h])]
end Go.Proofs.YtphikgobdfknkaaGreatDoor
namespace Go.Proofs.YtphikgobdfknkaaGreatDoor
open Go.RowKit Go.Maps
set_option linter.unusedVariables false
set_option linter.unusedSimpArgs false

theorem PartT.other {w : World} {g n k p o : Nat} {xs : List Tr} {v : Value} (hne : g ≠ p) (h : PartT w g n xs k) : PartT (w.setCell ⟨p, o, none⟩ v) g n xs k := by
  obtain ⟨cs, h1, h2⟩ := h
  exact ⟨cs, (Below.heap_setCell _ _ _ _ (by simpa using hne)).trans h1, h2⟩
theorem PartI.other {w : World} {g n k p o : Nat} {xs : List Int} {v : Value} (hne : g ≠ p) (h : PartI w g n xs k) : PartI (w.setCell ⟨p, o, none⟩ v) g n xs k := by
  obtain ⟨cs, h1, h2⟩ := h
  exact ⟨cs, (Below.heap_setCell _ _ _ _ (by simpa using hne)).trans h1, h2⟩
theorem below_set {B p o : Nat} {w w' : World} {v : Value} (h : B ≤ p) (hb : Below B w w') : Below B w (w'.setCell ⟨p, o, none⟩ v) := hb.setCell h _
theorem five_free {w : World} {p : Nat} {t : TypeId} {x0 x1 x2 x3 x4 : Value} (h : w.heap[p]? = some (.cells #[x0, x1, x2, x3, x4] t (0, 0))) :
    w.frozen? ⟨p, 0, none⟩ = false ∧ w.frozen? ⟨p, 1, none⟩ = false ∧ w.frozen? ⟨p, 2, none⟩ = false ∧ w.frozen? ⟨p, 3, none⟩ = false ∧ w.frozen? ⟨p, 4, none⟩ = false := by
  refine ⟨?_, ?_, ?_, ?_, ?_⟩ <;> simp [World.frozen?, h]
theorem alloc_old {w : World} {o : Obj} {k : Nat} (h : k < w.heap.size) : (w.alloc o).heap[k]? = w.heap[k]? := Below.heap_alloc _ _ _ h
theorem size_alloc (w : World) (o : Obj) : (w.alloc o).heap.size = w.heap.size + 1 := by simp

end Go.Proofs.YtphikgobdfknkaaGreatDoor
