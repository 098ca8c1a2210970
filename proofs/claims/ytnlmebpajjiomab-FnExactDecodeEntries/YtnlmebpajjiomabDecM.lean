
import Derived.Test.YtnlmebpajjiomabVarG
import Derived.Test.YtnlmebpajjiomabEntD
namespace Go.Proofs.Ytnlmebpajjiomab
open Go.RowKit
set_option linter.unusedVariables false
set_option linter.unusedSimpArgs false

/-- What was read stands there as it would be written. -/
theorem gvf_bytes : ∀ (f : Nat) (l : List UInt8) (i n0 n c : Nat), gvf f l i n0 = some (n, c) →
    ∃ m, n = n0 + m * 128 ^ i ∧ c = i + (vbf (f - 1) m).length ∧ l.take (vbf (f - 1) m).length = vbf (f - 1) m ∧ (0 < i → 0 < m) ∧ (vbf (f - 1) m).length ≤ l.length := by
  intro f
  induction f with
  | zero => intro l i n0 n c h; cases h
  | succ f ih =>
    intro l i n0 n c h
    cases l with
    | nil => cases h
    | cons b r =>
      have hb := b.toNat_lt
      simp only [gvf] at h
      by_cases h1 : b.toNat < 128
      · rw [if_pos h1] at h
        by_cases h2 : b.toNat = 0 ∧ 0 < i
        · rw [if_pos h2] at h; cases h
        · rw [if_neg h2] at h
          simp only [Option.some.injEq, Prod.mk.injEq] at h
          have e : vbf (f + 1 - 1) b.toNat = [b] := by rw [vbf_lt h1]; simp
          refine ⟨b.toNat, by rw [← h.1, Nat.mod_eq_of_lt h1], by rw [e]; exact h.2.symm, by rw [e]; rfl, fun hi => by omega, by rw [e]; simp⟩
      · rw [if_neg h1] at h
        obtain ⟨m, hn, hc, ht, hm, hl⟩ := ih r (i + 1) _ n c h
        have hm' := hm (by omega)
        have e : vbf (f + 1 - 1) (b.toNat % 128 + 128 * m) = b :: vbf (f - 1) m := by
          cases f with
          | zero => simp [gvf] at h
          | succ g =>
            have e1 : (b.toNat % 128 + 128 * m) % 128 + 128 = b.toNat := by omega
            have e2 : (b.toNat % 128 + 128 * m) / 128 = m := by omega
            show vbf (g + 1) _ = b :: vbf g m
            rw [vbf_ge (by omega), e1, e2]
            simp
        refine ⟨b.toNat % 128 + 128 * m, ?_, ?_, ?_, fun _ => by omega, ?_⟩
        · rw [hn, Nat.pow_succ, Nat.add_mul, Nat.add_assoc]
          congr 2
          rw [Nat.mul_comm (128 ^ i) 128, ← Nat.mul_assoc, Nat.mul_comm m 128]
        · rw [e, hc]; simp; omega
        · rw [e]; simp [ht]
        · rw [e]; simp; exact hl

theorem gvf_le : ∀ (f : Nat) (l : List UInt8) (i n0 n c : Nat), i + f = 8 → n0 < 128 ^ i → gvf f l i n0 = some (n, c) → n ≤ 72057594037927935 := by
  intro f
  induction f with
  | zero => intro l i n0 n c _ _ h; cases h
  | succ f ih =>
    intro l i n0 n c hif hn0 h
    cases l with
    | nil => cases h
    | cons b r =>
      simp only [gvf] at h
      have hs := step_lt b.toNat hn0
      by_cases h1 : b.toNat < 128
      · rw [if_pos h1] at h
        by_cases h2 : b.toNat = 0 ∧ 0 < i
        · rw [if_pos h2] at h; cases h
        · rw [if_neg h2] at h
          simp only [Option.some.injEq, Prod.mk.injEq] at h
          have := pow128_le (i := i + 1) (by omega)
          omega
      · rw [if_neg h1] at h
        exact ih r (i + 1) _ n c (by omega) hs h

/-- A number that was read. -/
theorem gv_some {s : ByteArray} {A n c : Nat} (h : gv s (A : Int) = some (n, c)) :
    s.data.toList.take (A + c) = s.data.toList.take A ++ vb n ∧ A + c ≤ s.size ∧ n ≤ 72057594037927935 ∧ 1 ≤ c := by
  unfold gv at h
  split at h
  · rename_i hA
    simp only [Int.toNat_natCast] at h
    have hle := gvf_le 8 _ 0 0 n c rfl (by simp) h
    obtain ⟨m, hn, hc, ht, -, hl⟩ := gvf_bytes 8 _ 0 0 n c h
    obtain rfl : n = m := by simpa using hn
    have hc' : c = (vb n).length := by simpa using hc
    rw [List.length_drop, dataL] at hl
    refine ⟨?_, ?_, hle, by rw [hc']; exact vbf_pos 7 n⟩
    · have ht' : (s.data.toList.drop A).take (vb n).length = vb n := ht
      rw [List.take_add, hc', ht']
    · rw [hc']
      have := vbf_pos 7 n
      show A + (vbf 7 n).length ≤ s.size
      have hl' : (vbf 7 n).length ≤ s.size - A := hl
      omega
  · cases h

/-- A piece of a text. -/
def cut (s : ByteArray) (a b : Nat) : ByteArray := s.extract a b
theorem cut_data (s : ByteArray) (a n : Nat) (h : a + n ≤ s.size) : (cut s a (a + n)).data.toList = (s.data.toList.drop a).take n := by
  simp only [cut, ByteArray.data_extract, Array.toList_extract, List.extract]
  congr 1
  omega
theorem cut_size (s : ByteArray) (a n : Nat) (h : a + n ≤ s.size) : (cut s a (a + n)).size = n := by
  simp only [cut, ByteArray.size_extract]
  omega
theorem take_cut (s : ByteArray) (a n : Nat) (h : a + n ≤ s.size) : s.data.toList.take (a + n) = s.data.toList.take a ++ (cut s a (a + n)).data.toList := by
  rw [cut_data s a n h, List.take_add]

/-- A text with its size ahead, at place A. -/
def pc (s : ByteArray) (A : Nat) : Option (ByteArray × Nat) :=
  match gv s (A : Int) with
  | none => none
  | some (n, c) => if n ≤ s.size - (A + c) then some (cut s (A + c) (A + c + n), A + c + n) else none
theorem pc_some {s : ByteArray} {A B : Nat} {t : ByteArray} (h : pc s A = some (t, B)) :
    s.data.toList.take B = s.data.toList.take A ++ (vb t.size ++ t.data.toList) ∧ A ≤ B ∧ B ≤ s.size ∧ t.size ≤ s.size := by
  unfold pc at h
  split at h
  · cases h
  · rename_i n c hg
    obtain ⟨h1, h2, h3, h4⟩ := gv_some hg
    split at h
    · rename_i hn
      simp only [Option.some.injEq, Prod.mk.injEq] at h
      obtain ⟨rfl, rfl⟩ := h
      have hb : A + c + n ≤ s.size := by omega
      rw [take_cut s (A + c) n hb, h1, cut_size s (A + c) n hb, List.append_assoc]
      exact ⟨rfl, by omega, hb, by omega⟩
    · cases h

/-- An entry at place A. -/
def pe (s : ByteArray) (A : Nat) : Option (En × Nat) :=
  match pc s A with
  | none => none
  | some (k, B) =>
    match gv s (B : Int) with
    | none => none
    | some (q, c) =>
      if h : B + c < s.size then
        match pc s (B + c + 1) with
        | none => none
        | some (v, E) => some (⟨k, q, s[B + c].toNat, v⟩, E)
      else none
theorem pe_some {s : ByteArray} {A E : Nat} {e : En} (h : pe s A = some (e, E)) :
    s.data.toList.take E = s.data.toList.take A ++ eb e ∧ A ≤ E ∧ E ≤ s.size ∧ e.ky.size ≤ s.size ∧ e.vl.size ≤ s.size := by
  unfold pe at h
  split at h
  · cases h
  · rename_i k B hk
    obtain ⟨k1, k2, k3, k4⟩ := pc_some hk
    split at h
    · cases h
    · rename_i q c hq
      obtain ⟨q1, q2, q3, q4⟩ := gv_some hq
      split at h
      · rename_i hlt
        split at h
        · cases h
        · rename_i v E' hv
          obtain ⟨v1, v2, v3, v4⟩ := pc_some hv
          simp only [Option.some.injEq, Prod.mk.injEq] at h
          obtain ⟨rfl, rfl⟩ := h
          have hb : s.data.toList.take (B + c + 1) = s.data.toList.take (B + c) ++ [s[B + c]] := by
            have h' : B + c < s.data.toList.length := by rw [dataL]; exact hlt
            rw [List.take_succ_eq_append_getElem h']
            rfl
          refine ⟨?_, by omega, v3, k4, v4⟩
          rw [v1, hb, q1, k1]
          simp [eb, ebA, ebB]
      · cases h
/-- k entries, one behind the other. -/
def ps (s : ByteArray) : Nat → Nat → Option (List En × Nat)
  | 0, A => some ([], A)
  | k + 1, A =>
    match ps s k A with
    | none => none
    | some (xs, B) =>
      match pe s B with
      | none => none
      | some (e, E) => some (xs ++ [e], E)
theorem ps_some {s : ByteArray} {k A E : Nat} {xs : List En} (hA : A ≤ s.size) (h : ps s k A = some (xs, E)) :
    s.data.toList.take E = s.data.toList.take A ++ xs.flatMap eb ∧ A ≤ E ∧ E ≤ s.size ∧ xs.length = k ∧ ∀ e ∈ xs, e.ky.size ≤ s.size ∧ e.vl.size ≤ s.size := by
  induction k generalizing E xs with
  | zero =>
    simp only [ps, Option.some.injEq, Prod.mk.injEq] at h
    obtain ⟨rfl, rfl⟩ := h
    exact ⟨by simp, Nat.le_refl _, hA, rfl, by simp⟩
  | succ k ih =>
    simp only [ps] at h
    split at h
    · cases h
    · rename_i ys B hy
      obtain ⟨y1, y2, y3, y4, y5⟩ := ih hy
      split at h
      · cases h
      · rename_i e E' he
        obtain ⟨e1, e2, e3, e4, e5⟩ := pe_some he
        simp only [Option.some.injEq, Prod.mk.injEq] at h
        obtain ⟨rfl, rfl⟩ := h
        refine ⟨by rw [e1, y1]; simp [List.flatMap_append], by omega, e3, by simp [y4], ?_⟩
        intro x hx
        rcases List.mem_append.1 hx with hx | hx
        · exact y5 x hx
        · simp at hx; subst hx; exact ⟨e4, e5⟩
theorem ps_none {s : ByteArray} {k A : Nat} (h : ps s k A = none) : ∀ j, k ≤ j → ps s j A = none := by
  intro j hj
  induction j with
  | zero => obtain rfl : k = 0 := by omega
            exact h
  | succ j ih =>
    rcases Nat.eq_or_lt_of_le hj with rfl | hlt
    · exact h
    · simp only [ps]; rw [ih (by omega)]
/-- The first k of them. -/
theorem ps_prefix {s : ByteArray} {k A B : Nat} {xs : List En} (h : ps s k A = some (xs, B)) : ∀ j, k ≤ j → ∀ ys E, ps s j A = some (ys, E) → ∃ zs, ys = xs ++ zs := by
  intro j hj
  induction j with
  | zero => intro ys E hy
            obtain rfl : k = 0 := by omega
            rw [h] at hy; simp at hy; exact ⟨[], by simp [hy.1]⟩
  | succ j ih =>
    intro ys E hy
    rcases Nat.eq_or_lt_of_le hj with rfl | hlt
    · rw [h] at hy; simp at hy; exact ⟨[], by simp [hy.1]⟩
    · simp only [ps] at hy
      split at hy
      · cases hy
      · rename_i ys' B' hy'
        obtain ⟨zs, rfl⟩ := ih (by omega) ys' B' hy'
        split at hy
        · cases hy
        · rename_i e E' he
          simp only [Option.some.injEq, Prod.mk.injEq] at hy
          exact ⟨zs ++ [e], by rw [← hy.1]; simp⟩

/-- What DecodeEntries gives. -/
def dec (s : ByteArray) : Option (List En) :=
  match gv s 0 with
  | none => none
  | some (n, c) => if n ≤ 1000 then (match ps s n c with
    | none => none
    | some (xs, _) => if encT xs = s then some xs else none) else none

theorem enc_of_ps {s : ByteArray} {n c E : Nat} {xs : List En} (hg : gv s 0 = some (n, c)) (hn : n ≤ 1000) (h : ps s n c = some (xs, E)) (hall : xs.all entOk = true) : encT xs = ⟨(s.data.toList.take E).toArray⟩ := by
  obtain ⟨g1, g2, g3, g4⟩ := gv_some (A := 0) hg
  obtain ⟨p1, p2, p3, p4, p5⟩ := ps_some (by omega) h
  rw [encT_ok xs (by omega) hall, p1, p4]
  congr 1
  have : s.data.toList.take c = vb n := by simpa using g1
  rw [this]
  rfl
theorem dec_end {s : ByteArray} {n c E : Nat} {xs : List En} (hg : gv s 0 = some (n, c)) (hn : n ≤ 1000) (h : ps s n c = some (xs, E)) (hall : xs.all entOk = true) : dec s = if E = s.size then some xs else none := by
  have he := enc_of_ps hg hn h hall
  obtain ⟨g1, g2, g3, g4⟩ := gv_some (A := 0) hg
  obtain ⟨p1, p2, p3, p4, p5⟩ := ps_some (by omega) h
  simp only [dec, hg, if_pos hn, h]
  by_cases hE : E = s.size
  · rw [if_pos hE, if_pos]
    rw [he, hE, List.take_of_length_le (by rw [dataL]; exact Nat.le_refl _)]
  · rw [if_neg hE, if_neg]
    intro e
    rw [e] at he
    have := congrArg ByteArray.size he
    have h2 : (⟨(s.data.toList.take E).toArray⟩ : ByteArray).size = E := by show ((s.data.toList.take E).toArray).size = E; simp [List.length_take, dataL]; omega
    omega
theorem dec_bad {s : ByteArray} {n c k B : Nat} {xs : List En} (hg : gv s 0 = some (n, c)) (h : ps s k c = some (xs, B)) (hk : k ≤ n) (hall : xs.all entOk = false) : dec s = none := by
  obtain ⟨g1, g2, g3, g4⟩ := gv_some (A := 0) hg
  simp only [dec, hg]
  split
  · rename_i hn
    split
    · rfl
    · rename_i ys E hy
      obtain ⟨zs, rfl⟩ := ps_prefix h n hk ys E hy
      rw [if_neg]
      intro e
      have : encT (xs ++ zs) = ⟨#[]⟩ := by unfold encT; rw [if_neg]; rintro ⟨-, h2⟩; rw [List.all_append, hall] at h2; cases h2
      rw [this] at e
      have := congrArg ByteArray.size e
      have h0 : (⟨#[]⟩ : ByteArray).size = 0 := rfl
      omega
  · rfl
theorem dec_none {s : ByteArray} {n c k : Nat} (hg : gv s 0 = some (n, c)) (h : ps s k c = none) (hk : k ≤ n) : dec s = none := by
  simp only [dec, hg, ps_none h n hk]
  split <;> rfl
theorem dec_none0 {s : ByteArray} (hg : gv s 0 = none) : dec s = none := by simp only [dec, hg]
theorem dec_long {s : ByteArray} {n c : Nat} (hg : gv s 0 = some (n, c)) (hn : ¬ n ≤ 1000) : dec s = none := by simp only [dec, hg, if_neg hn]
end Go.Proofs.Ytnlmebpajjiomab
