import Derived.Test.YtohpfjpgihcmiaaGreatDoorNmI

import Derived.Lib.SplitLaws
import Derived.Lib.TrimUEq
import Derived.Shelf.GgClosure.StringsIndexFunc
namespace Go.Proofs.YtohpfjpgihcmiaaGreatDoor
open Go.RowKit Go.Maps
set_option linter.unusedVariables false
set_option linter.unusedSimpArgs false

/-- A text cut at every place where a byte stands. -/
def cutL (b : UInt8) : List UInt8 → List (List UInt8)
  | [] => [[]]
  | c :: r => if c = b then [] :: cutL b r else (c :: (cutL b r).headD []) :: (cutL b r).tail
theorem cutL_ne (b : UInt8) (l : List UInt8) : cutL b l ≠ [] := by
  cases l with
  | nil => simp [cutL]
  | cons c r => unfold cutL; split <;> simp
theorem cutL_split (b : UInt8) : ∀ (l : List UInt8), Lib.splitK [b] 0 (Lib.count l [b]) l = cutL b l
  | [] => by
    have : Lib.count ([] : List UInt8) [b] = 0 := by rw [Lib.count_one]; rfl
    rw [this]
    rfl
  | c :: r => by
    have ih := cutL_split b r
    unfold cutL
    by_cases hc : c = b
    · subst hc
      rw [if_pos rfl, Lib.count_cons_eq, Nat.add_comm]
      have hi : Lib.index (c :: r) [c] = 0 := by rw [Lib.index_one]; simp [Lib.indexByte]
      unfold Lib.splitK
      rw [hi]
      simp
      exact ih
    · rw [if_neg hc, Lib.count_cons_ne c b r hc]
      cases hk : Lib.count r [b] with
      | zero =>
        rw [hk] at ih
        have : cutL b r = [r] := by rw [← ih]; rfl
        rw [this]
        rfl
      | succ k =>
        rw [hk] at ih
        have hne : Lib.index r [b] ≠ -1 := by
          intro h
          rw [Lib.count_one] at hk
          rw [Lib.index_one] at h
          have := Lib.indexByte_none h
          have hm : b ∈ r := by
            rw [← List.count_pos_iff]
            omega
          obtain ⟨i, hi, he⟩ := List.mem_iff_getElem.1 hm
          exact this i (by rw [List.getElem?_eq_getElem hi, he])
        have hge := Lib.index_ge r [b]
        have hi : Lib.index (c :: r) [b] = Lib.index r [b] + 1 := by
          have hne2 : Lib.indexByte r b ≠ -1 := by rw [← Lib.index_one]; exact hne
          have e : Lib.indexByte (c :: r) b = if (c == b) = true then 0 else if (Lib.indexByte r b == -1) = true then -1 else Lib.indexByte r b + 1 := rfl
          rw [Lib.index_one, Lib.index_one, e, if_neg (by simpa using hc), if_neg (by simpa using hne2)]
        unfold Lib.splitK at ih ⊢
        rw [if_neg (by simpa using hne)] at ih
        rw [hi, if_neg (by simp; omega)]
        have ht : (Lib.index r [b] + 1).toNat = (Lib.index r [b]).toNat + 1 := by omega
        rw [ht, ← ih]
        simp only [List.length_singleton, Nat.add_zero, List.headD_cons, List.tail_cons]
        rw [List.take_succ_cons, show (Lib.index r [b]).toNat + 1 + 1 = ((Lib.index r [b]).toNat + 1) + 1 from rfl, List.drop_succ_cons]
/-- The pieces as texts. -/
def cutB (b : UInt8) (s : ByteArray) : List ByteArray := (cutL b s.data.toList).map fun l => ⟨l.toArray⟩
theorem cutB_split (b : UInt8) (s : ByteArray) : Lib.splitB ⟨#[b]⟩ 0 (Lib.countB s ⟨#[b]⟩) s = cutB b s := by
  have h := Lib.splitB_data ⟨#[b]⟩ 0 (Lib.countB s ⟨#[b]⟩) s
  have h2 : Lib.countB s ⟨#[b]⟩ = Lib.count s.data.toList [b] := rfl
  have h3 := cutL_split b s.data.toList
  rw [h2] at h ⊢
  have h4 : (Lib.splitB ⟨#[b]⟩ 0 (Lib.count s.data.toList [b]) s).map (fun t => t.data.toList) = cutL b s.data.toList := by rw [← h3]; exact h
  unfold cutB
  rw [← h4, List.map_map]
  have : ((fun l : List UInt8 => (⟨l.toArray⟩ : ByteArray)) ∘ fun t : ByteArray => t.data.toList) = id := by
    funext t
    cases t
    simp
  rw [this, List.map_id]
theorem cutB_count (b : UInt8) (s : ByteArray) : Lib.countB s ⟨#[b]⟩ + 1 = (cutB b s).length := by
  rw [← cutB_split, Lib.splitB_all ⟨#[b]⟩ (show 1 ≤ 1 from Nat.le_refl _) 0 _ s rfl]
/-- The same, a byte after the other. -/
def cstp (b : UInt8) (st : List (List UInt8) × List UInt8) (c : UInt8) : List (List UInt8) × List UInt8 := if c = b then (st.1 ++ [st.2], []) else (st.1, st.2 ++ [c])
def cst (b : UInt8) (l : List UInt8) : List (List UInt8) × List UInt8 := l.foldl (cstp b) ([], [])
theorem cst_snoc (b : UInt8) (l : List UInt8) (c : UInt8) : cst b (l ++ [c]) = cstp b (cst b l) c := by simp [cst]
theorem cst_gen (b : UInt8) : ∀ (l : List UInt8) (o : List (List UInt8)) (cur : List UInt8), (l.foldl (cstp b) (o, cur)).1 ++ [(l.foldl (cstp b) (o, cur)).2] = o ++ ((cur ++ (cutL b l).headD []) :: (cutL b l).tail)
  | [], o, cur => by simp [cutL]
  | c :: r, o, cur => by
    have hne := cutL_ne b r
    rw [List.foldl_cons]
    unfold cutL
    by_cases hc : c = b
    · have e : cstp b (o, cur) c = (o ++ [cur], []) := by unfold cstp; rw [if_pos hc]
      rw [e, if_pos hc]
      have ih := cst_gen b r (o ++ [cur]) []
      rw [ih]
      cases h : cutL b r with
      | nil => exact absurd h hne
      | cons p ps => simp
    · have e : cstp b (o, cur) c = (o, cur ++ [c]) := by unfold cstp; rw [if_neg hc]
      rw [e, if_neg hc]
      have ih := cst_gen b r o (cur ++ [c])
      rw [ih]
      simp
theorem cutL_cst (b : UInt8) (l : List UInt8) : cutL b l = (cst b l).1 ++ [(cst b l).2] := by
  have h := cst_gen b l [] []
  have hne := cutL_ne b l
  unfold cst
  rw [h]
  cases h : cutL b l with
  | nil => exact absurd h hne
  | cons p ps => simp

/-- A byte that may stand in a word. -/
def inW (c : UInt8) : Bool := decide (33 ≤ c.toNat) && decide (c.toNat ≤ 126)
def outR (r : Nat) : Bool := decide (r < 33) || decide (126 < r)
theorem decode_hi (s : ByteArray) (pos : Nat) (h : 128 ≤ (s.data.toList.getD pos 0).toNat) : 128 ≤ (Utf8.decode s pos).1 := by
  rw [Lib.decode_N]
  generalize (s.data.toList.getD pos 0).toNat = b0 at *
  generalize (s.data.toList.getD (pos + 1) 0).toNat = b1
  generalize (s.data.toList.getD (pos + 2) 0).toNat = b2
  generalize (s.data.toList.getD (pos + 3) 0).toNat = b3
  unfold Lib.decodeN
  rw [if_neg (by omega)]
  repeat' split
  all_goals (dsimp only; omega)
theorem decode_lo (s : ByteArray) (pos : Nat) (h : (s.data.toList.getD pos 0).toNat < 128) : Utf8.decode s pos = ((s.data.toList.getD pos 0).toNat, 1) := by
  rw [Lib.decode_N, Lib.decodeN_ascii _ _ _ _ _ h]
theorem idx_out (s : ByteArray) : ∀ (f pos : Nat), s.size ≤ pos + f → decide (0 ≤ Lib.idxFuncFrom outR true s f pos) = !((s.data.toList.drop pos).all inW)
  | 0, pos, h => by
    have : s.data.toList.drop pos = [] := List.drop_of_length_le (by rw [Array.length_toList]; show s.size ≤ pos; omega)
    rw [this]
    rfl
  | f + 1, pos, h => by
    have hl : s.data.toList.length = s.size := by rw [Array.length_toList]; rfl
    by_cases hp : pos < s.size
    · have hd : s.data.toList.drop pos = s.data.toList.getD pos 0 :: s.data.toList.drop (pos + 1) := by
        rw [List.drop_eq_getElem_cons (by omega)]
        simp [List.getD_eq_getElem?_getD, List.getElem?_eq_getElem (show pos < s.data.toList.length by omega)]
      rw [hd, List.all_cons]
      unfold Lib.idxFuncFrom
      rw [if_pos hp]
      by_cases h8 : (s.data.toList.getD pos 0).toNat < 128
      · rw [decode_lo s pos h8]
        dsimp only
        by_cases ho : outR (s.data.toList.getD pos 0).toNat = true
        · rw [if_pos ho]
          have hi : inW (s.data.toList.getD pos 0) = false := by
            unfold outR at ho
            unfold inW
            simp only [Bool.or_eq_true, decide_eq_true_eq] at ho
            rw [Bool.and_eq_false_iff]
            rcases ho with ho | ho
            · exact .inl (decide_eq_false (by omega))
            · exact .inr (decide_eq_false (by omega))
          rw [hi]
          simp
        · rw [if_neg ho, idx_out s f (pos + 1) (by omega)]
          have hi : inW (s.data.toList.getD pos 0) = true := by
            unfold outR at ho
            unfold inW
            simp only [Bool.or_eq_true, decide_eq_true_eq, not_or] at ho
            rw [Bool.and_eq_true]
            exact ⟨decide_eq_true (by omega), decide_eq_true (by omega)⟩
          rw [hi, Bool.true_and]
      · have h128 := decode_hi s pos (by omega)
        rw [if_pos (by unfold outR; rw [decide_eq_true (show 126 < (Utf8.decode s pos).1 by omega), Bool.or_true])]
        have hi : inW (s.data.toList.getD pos 0) = false := by
          unfold inW
          rw [Bool.and_eq_false_iff]
          exact .inr (decide_eq_false (by omega))
        rw [hi]
        simp
    · have : s.data.toList.drop pos = [] := List.drop_of_length_le (by omega)
      rw [this, Lib.idxFuncFrom_end _ _ _ _ _ hp]
      rfl
theorem contains_out (s : ByteArray) : decide (0 ≤ Lib.idxFunc outR true s) = !(s.data.toList.all inW) := by
  have := idx_out s s.size 0 (by omega)
  rw [List.drop_zero] at this
  exact this

/-- A number of a script. -/
def numM (l : List UInt8) : Option Int := match rd l with
  | some v => if -1 ≤ v ∧ v ≤ 99999999 then some v else none
  | none => none
def numS (l : List UInt8) : Option Int := if l = [45, 49] then some (-1) else if 1 ≤ l.length ∧ l.length ≤ 8 ∧ l.all isD = true ∧ Lib.decDigits (valD l) = l then some (valD l : Nat) else none
theorem itoa_neg1 : Lib.itoa (-1) = [45, 49] := by
  have e : Lib.decDigits 1 = [49] := by rw [Lib.decDigits, dif_pos (by omega)]; rfl
  show (if (-1 : Int) < 0 then (45 : UInt8) :: Lib.decDigits (-1 : Int).natAbs else Lib.decDigits (-1 : Int).natAbs) = [45, 49]
  rw [if_pos (by decide)]
  show 45 :: Lib.decDigits 1 = [45, 49]
  rw [e]
theorem dec_len8 {n : Nat} (h : n ≤ 99999999) : 1 ≤ (Lib.decDigits n).length ∧ (Lib.decDigits n).length ≤ 8 := by
  obtain ⟨-, -, i3⟩ := decD_all n
  refine ⟨List.length_pos_iff.2 i3, ?_⟩
  rw [Lib.decDigits_length]
  exact nDig_le 7 n (by omega)
theorem numM_S (l : List UInt8) : numM l = numS l := by
  have key : ∀ v : Int, rd l = some v → -1 ≤ v → v ≤ 99999999 → numS l = some v := fun v hr h1 h2 => by
    have hl : Lib.itoa v = l := by
      unfold rd at hr
      split at hr
      · split at hr
        · rename_i h
          cases hr
          exact h
        · cases hr
      · cases hr
    unfold numS
    by_cases hv : v = -1
    · subst hv
      rw [if_pos (by rw [← hl]; exact itoa_neg1)]
    · obtain ⟨n, rfl⟩ : ∃ n : Nat, v = n := ⟨v.toNat, by omega⟩
      rw [Lib.itoa_nonneg] at hl
      obtain ⟨i1, i2, i3⟩ := decD_all n
      have h8 := dec_len8 (n := n) (by omega)
      rw [if_neg (by
        intro e
        obtain ⟨c, r, hc, h48, -⟩ := dec_head n
        rw [hl, e] at hc
        injection hc with hc
        rw [← hc] at h48
        exact absurd h48 (by decide)), ← hl, if_pos ⟨h8.1, h8.2, i1, by rw [i2]⟩, i2]
  have key2 : ∀ v : Int, numS l = some v → rd l = some v ∧ -1 ≤ v ∧ v ≤ 99999999 := fun v hn => by
    unfold numS at hn
    split at hn
    · rename_i h
      cases hn
      refine ⟨?_, by omega, by omega⟩
      have ha : Lib.atoiAll l = .ok (-1) := by rw [h]; rfl
      unfold rd
      rw [ha]
      dsimp only
      rw [if_pos (by rw [itoa_neg1, h])]
    · split at hn
      · rename_i h
        cases hn
        obtain ⟨a1, a2, a3, a4⟩ := h
        have hlt := valD_lt l a3
        have hp : 10 ^ l.length ≤ 10 ^ 8 := Nat.pow_le_pow_right (by omega) a2
        have e8 : (10 : Nat) ^ 8 = 100000000 := by decide
        refine ⟨?_, by omega, by omega⟩
        have ha := atoi_dec (valD l) (by omega)
        rw [a4] at ha
        unfold rd
        rw [ha]
        dsimp only
        rw [if_pos (by rw [Lib.itoa_nonneg, a4])]
      · cases hn
  unfold numM
  cases hr : rd l with
  | some v =>
    dsimp only
    by_cases hv : -1 ≤ v ∧ v ≤ 99999999
    · rw [if_pos hv, key v hr hv.1 hv.2]
    · rw [if_neg hv]
      cases hn : numS l with
      | none => rfl
      | some v' =>
        obtain ⟨h1, h2, h3⟩ := key2 v' hn
        rw [hr] at h1
        cases h1
        exact absurd ⟨h2, h3⟩ hv
  | none =>
    dsimp only
    cases hn : numS l with
    | none => rfl
    | some v' =>
      obtain ⟨h1, -⟩ := key2 v' hn
      rw [hr] at h1
      cases h1
end Go.Proofs.YtohpfjpgihcmiaaGreatDoor
