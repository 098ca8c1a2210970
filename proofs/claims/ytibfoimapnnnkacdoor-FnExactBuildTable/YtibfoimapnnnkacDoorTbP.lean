
import Derived.Test.YtibfoimapnnnkacDoorTbF
namespace Go.Proofs.YtibfoimapnnnkacDoor
open Go.RowKit Go.Maps
set_option linter.unusedVariables false
set_option linter.unusedSimpArgs false

/-- The k-th block of entries. -/
def subE (xs : List En) (k : Nat) : List En := (xs.drop (8 * k)).take 8
/-- The bytes of the first k blocks, and of the index that speaks of them. -/
def tab (xs : List En) : Nat → List UInt8 × List UInt8
  | 0 => ([], [])
  | k + 1 => ((tab xs k).1 ++ (frT 66 (encT (subE xs k))).data.toList, (tab xs k).2 ++ (vb ((tab xs k).1.length / 64) ++ vb (subE xs k).length ++ kyB ((subE xs k).getD 0 en0).ky ++ kyB ((subE xs k).getD ((subE xs k).length - 1) en0).ky))
def nbE (n : Nat) : Nat := (n + 7) / 8
def idxT (xs : List En) : ByteArray := frT 73 ⟨(vb (nbE xs.length) ++ (tab xs (nbE xs.length)).2).toArray⟩
def tabX (xs : List En) : ByteArray := if (idxT xs).size = 0 then ⟨#[]⟩ else ⟨((tab xs (nbE xs.length)).1 ++ (idxT xs).data.toList ++ (frT 70 ⟨(vb ((tab xs (nbE xs.length)).1.length / 64)).toArray⟩).data.toList).toArray⟩
def tabT (xs : List En) : ByteArray := if xs.length ≤ 300000 ∧ okTo xs xs.length = true then tabX xs else ⟨#[]⟩

theorem okTo_split (xs : List En) : ∀ n, n ≤ xs.length → (okTo xs n = true ↔ (xs.take n).all entOk = true ∧ ordTo xs (n - 1) = true)
  | 0, _ => by simp [okTo, ordTo]
  | n + 1, h => by
    have ih := okTo_split xs n (by omega)
    rw [takeE_snoc xs n (by omega), List.all_append]
    simp only [okTo, Bool.and_eq_true, List.all_cons, List.all_nil, Bool.and_true]
    rw [ih]
    cases n with
    | zero => simp [ordTo]
    | succ m =>
      have e1 : m + 1 - 1 = m := by omega
      have e2 : m + 1 + 1 - 1 = m + 1 := by omega
      have e3 : decide (m + 1 = 0) = false := by simp
      rw [e1, e2, e3]
      simp only [ordTo, Bool.and_eq_true, Bool.false_or]
      constructor
      · rintro ⟨⟨a, b⟩, c, d⟩
        exact ⟨⟨a, c⟩, b, d⟩
      · rintro ⟨⟨a, c⟩, b, d⟩
        exact ⟨⟨a, b⟩, c, d⟩
theorem okTo_all (xs : List En) : okTo xs xs.length = true ↔ xs.all entOk = true ∧ ordTo xs (xs.length - 1) = true := by
  have h := okTo_split xs xs.length (Nat.le_refl _)
  rwa [List.take_length] at h
theorem subE_len (xs : List En) (k : Nat) : (subE xs k).length = min 8 (xs.length - 8 * k) := by simp [subE]
theorem subE_all {xs : List En} (h : xs.all entOk = true) (k : Nat) : (subE xs k).all entOk = true :=
  List.all_eq_true.2 fun x hx => List.all_eq_true.1 h x (List.mem_of_mem_drop (List.mem_of_mem_take hx))
theorem subE_at (xs : List En) (k i : Nat) (hi : i < 8) (h : 8 * k + i < xs.length) : (subE xs k).getD i en0 = xs.getD (8 * k + i) en0 := by
  simp only [subE, List.getD, List.getElem?_take, List.getElem?_drop]
  rw [if_pos hi]
theorem subE_enc {xs : List En} (h : xs.all entOk = true) (k : Nat) : encT (subE xs k) = ⟨(encB (subE xs k).length (subE xs k)).toArray⟩ :=
  encT_ok _ (by rw [subE_len]; omega) (subE_all h k)
theorem subE_size {xs : List En} (h : xs.all entOk = true) (k : Nat) : (encT (subE xs k)).size ≤ 40208 := by
  rw [subE_enc h k]
  have h1 := encB_len (subE xs k).length (subE xs k) (subE_all h k)
  have h2 := subE_len xs k
  show (encB (subE xs k).length (subE xs k)).toArray.size ≤ _
  rw [List.size_toArray]
  omega
theorem frB_len (k : Nat) (p : List UInt8) : (frB k p).length = 64 * pagesN (8 + p.length) := by
  unfold frB
  rw [fby_len, body_len]
  unfold pagesN
  omega
theorem frT_size {k : Int} {p : ByteArray} (h1 : kindOk k = true) (h2 : p.size ≤ 1048576) : (frT k p).size = 64 * pagesN (8 + p.size) := by
  rw [frT_in h1 h2]
  show (frB k.toNat p.data.toList).toArray.size = _
  rw [List.size_toArray, frB_len, dataL]
theorem frT_data {k : Int} {p : ByteArray} (h1 : kindOk k = true) (h2 : p.size ≤ 1048576) : (frT k p).data.toList.length = 64 * pagesN (8 + p.size) := by
  rw [dataL, frT_size h1 h2]
theorem tab_len {xs : List En} (h : xs.all entOk = true) : ∀ k, (tab xs k).1.length ≤ 40960 * k
  | 0 => by simp [tab]
  | k + 1 => by
    have ih := tab_len h k
    have hs := subE_size h k
    simp only [tab, List.length_append]
    rw [frT_data (by decide) (by omega)]
    unfold pagesN
    omega
/-- An entry whose key is not too long. -/
theorem kyB_lenB {s : ByteArray} (h : s.size ≤ 1000) : (kyB s).length ≤ 1008 := by
  have := vb_len s.size
  simp only [kyB, List.length_append, dataL]
  omega
theorem subE_key {xs : List En} (h : xs.all entOk = true) (k i : Nat) : ((subE xs k).getD i en0).ky.size ≤ 1000 := by
  by_cases hi : i < (subE xs k).length
  · have e : (subE xs k).getD i en0 = (subE xs k)[i] := by simp [List.getD, hi]
    rw [e]
    exact ((entOk_iff _).1 (List.all_eq_true.1 (subE_all h k) _ (List.getElem_mem hi))).1.2.1
  · have e : (subE xs k).getD i en0 = en0 := by simp [List.getD, List.getElem?_eq_none (Nat.le_of_not_lt hi)]
    rw [e]
    decide
theorem tab_idx {xs : List En} (h : xs.all entOk = true) : ∀ k, (tab xs k).2.length ≤ 2032 * k
  | 0 => by simp [tab]
  | k + 1 => by
    have ih := tab_idx h k
    have a := vb_len ((tab xs k).1.length / 64)
    have b := vb_len (subE xs k).length
    have c := kyB_lenB (subE_key h k 0)
    have d := kyB_lenB (subE_key h k ((subE xs k).length - 1))
    simp only [tab, List.length_append]
    omega
end Go.Proofs.YtibfoimapnnnkacDoor
