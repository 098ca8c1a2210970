import Derived.Test.YtohpfjpgihcmiaaGreatDoorPsQ

namespace Go.Proofs.YtohpfjpgihcmiaaGreatDoor
open Go.RowKit Go.Maps
set_option linter.unusedVariables false
set_option linter.unusedSimpArgs false

/-- Parts put together again. -/
def jnL (b : UInt8) : List (List UInt8) → List UInt8
  | [] => []
  | [x] => x
  | x :: y :: r => x ++ b :: jnL b (y :: r)
theorem jnL_cut (b : UInt8) (l : List UInt8) : jnL b (cutL b l) = l := by
  induction l with
  | nil => rfl
  | cons c r ih =>
    unfold cutL
    have hne := cutL_ne b r
    cases hC : cutL b r with
    | nil => exact absurd hC hne
    | cons y ys =>
      rw [hC] at ih
      split
      · rename_i h
        subst h
        show [] ++ c :: jnL c (y :: ys) = _
        rw [ih]; rfl
      · show jnL b ((c :: y) :: ys) = _
        cases ys with
        | nil =>
          have : y = r := ih
          subst this; rfl
        | cons z zs =>
          have h2 : y ++ b :: jnL b (z :: zs) = r := ih
          show (c :: y) ++ b :: jnL b (z :: zs) = _
          rw [← h2]; rfl
def qPre : List UInt8 := [113, 117, 111, 116, 97, 32]
theorem cut_pre (t : List UInt8) : cutL 32 (qPre ++ t) = [113, 117, 111, 116, 97] :: cutL 32 t := by
  have e : ∀ (c : UInt8) (r : List UInt8), c ≠ 32 → cutL 32 (c :: r) = (c :: (cutL 32 r).headD []) :: (cutL 32 r).tail := fun c r h => by
    conv => lhs; unfold cutL
    rw [if_neg h]
  have e2 : ∀ r : List UInt8, cutL 32 (32 :: r) = [] :: cutL 32 r := fun r => by
    conv => lhs; unfold cutL
    rw [if_pos rfl]
  show cutL 32 (113 :: 117 :: 111 :: 116 :: 97 :: 32 :: t) = _
  rw [e 113 _ (by decide), e 117 _ (by decide), e 111 _ (by decide), e 116 _ (by decide), e 97 _ (by decide), e2]
  rfl
theorem num_space (l : List UInt8) (h : (32 : UInt8) ∈ l) : numM l = none := by
  rw [numM_S]
  unfold numS
  rw [if_neg, if_neg]
  · rintro ⟨-, -, h3, -⟩
    exact absurd (List.all_eq_true.1 h3 32 h) (by decide)
  · rintro rfl
    exact absurd h (by decide)
def fil (o : Option Int) : Option Int := match o with
  | some v => if 0 ≤ v ∧ v ≤ 1048576 then some v else none
  | none => none
def qArr (l : List UInt8) : ByteArray := ⟨l.toArray⟩
theorem quotaM_cut (s : ByteArray) : quotaM s = match (cutL 32 s.data.toList).map qArr with
  | [a, b] => if a = ⟨#[113, 117, 111, 116, 97]⟩ then fil (nuM b) else none
  | _ => none := rfl
theorem quota_S (s : ByteArray) : quotaM s = if qPre.isPrefixOf s.data.toList = true then fil (numM (s.data.toList.drop 6)) else none := by
  rw [quotaM_cut]
  generalize s.data.toList = l at *
  by_cases hp : qPre.isPrefixOf l = true
  · rw [if_pos hp]
    obtain ⟨t, rfl⟩ := List.isPrefixOf_iff_prefix.1 hp
    rw [cut_pre]
    have hd : (qPre ++ t).drop 6 = t := rfl
    rw [hd]
    have hj := jnL_cut 32 t
    cases hC : cutL 32 t with
    | nil => exact absurd hC (cutL_ne 32 t)
    | cons b r =>
      rw [hC] at hj
      cases r with
      | nil =>
        have hbt : b = t := hj
        subst hbt
        show (if qArr [113, 117, 111, 116, 97] = ⟨#[113, 117, 111, 116, 97]⟩ then fil (nuM (qArr b)) else none) = _
        rw [if_pos (show qArr [113, 117, 111, 116, 97] = ⟨#[113, 117, 111, 116, 97]⟩ from rfl)]
        have e : nuM (qArr b) = numM b := by unfold nuM qArr; simp
        rw [e]
      | cons c r =>
        have hbt : b ++ 32 :: jnL 32 (c :: r) = t := hj
        show none = _
        rw [num_space t (by rw [← hbt]; simp)]
        rfl
  · rw [if_neg hp]
    have hj := jnL_cut 32 l
    cases hC : cutL 32 l with
    | nil => rfl
    | cons a r =>
      cases r with
      | nil => rfl
      | cons b r =>
        cases r with
        | nil =>
          rw [hC] at hj
          have hl : a ++ 32 :: b = l := hj
          show (if qArr a = ⟨#[113, 117, 111, 116, 97]⟩ then fil (nuM (qArr b)) else none) = none
          rw [if_neg]
          intro h
          have ha : a = [113, 117, 111, 116, 97] := by
            have := congrArg (fun x : ByteArray => x.data.toList) h
            simpa [qArr] using this
          subst ha
          exact hp (List.isPrefixOf_iff_prefix.2 ⟨b, hl⟩)
        | cons c r => rfl
theorem ex_drop (s : ByteArray) : (s.extract 6 s.size).data.toList = s.data.toList.drop 6 := by
  rw [extract_listP, List.take_of_length_le (by rw [Array.length_toList]; exact Nat.le_refl _)]
/-- How far the model has read a script. -/
structure PsV (w W : World) (R S b off : Nat) (ls : List ByteArray) (q : Int) (B : Nat) (v : Value) (os : List OpW) : Prop where
  hb : Below w.heap.size w W
  hR : W.heap[R]? = some (.cells #[.int .i64 0, .slice none 0 0] 24 (0, 0))
  hS : W.heap[S]? = some (.cells #[.int .i64 q, v] 24 (0, 0))
  hl : LieP W (some ⟨b, off, none⟩) ls
  ho : ScR W B v os
  hB : B ≤ W.heap.size
  hRB : R < B
  hSB : S < B
  hbB : b < B
theorem PsV.below {w W W' : World} {R S b off : Nat} {ls : List ByteArray} {q : Int} {B : Nat} {v : Value} {os : List OpW} (h : PsV w W R S b off ls q B v os) (hb : Below W.heap.size W W') : PsV w W' R S b off ls q B v os :=
  ⟨h.hb.trans (hb.mono h.hb.size), (hb.block R (Nat.lt_of_lt_of_le h.hRB h.hB)).trans h.hR, (hb.block S (Nat.lt_of_lt_of_le h.hSB h.hB)).trans h.hS, h.hl.below hb, h.ho.below hb, Nat.le_trans h.hB hb.size, h.hRB, h.hSB, h.hbB⟩
theorem PsV.grow {w W W8 : World} {R S b off : Nat} {ls : List ByteArray} {q : Int} {B : Nat} {v v8 : Value} {os : List OpW} {x : OpW} {o : Obj} (h : PsV w W R S b off ls q B v os) (hRS : R ≠ S) (hbS : b ≠ S) (hws : w.heap.size ≤ S) {N : Nat} (hN : B ≤ N) (hx : RowsO W N x.ba x.bk x.o) (hf : Fresh N os) (hg : (W.alloc o).grownBy W8 v.ownBlock) (hw : W8.ownsRow B 38 6 v8 (os.length + 1) (cellsO os ++ op6 x)) :
    PsV w (W8.setCell ⟨S, 1, none⟩ v8) R S b off ls q B v8 (os ++ [x]) := by
  have hB := h.hB
  have hs8 : W.heap.size ≤ W8.heap.size := by have := hg.size; rw [size_alloc] at this; omega
  have hbl : ∀ k, k < B → W8.heap[k]? = W.heap[k]? := fun k hkB => by
    refine (hg.block k (by rw [size_alloc]; omega) (fun e => ?_)).trans (heap_alloc_oldH W o k (by omega))
    have := owns_base h.ho.row k e.symm
    omega
  have hset : ∀ k, k ≠ S → (W8.setCell ⟨S, 1, none⟩ v8).heap[k]? = W8.heap[k]? := fun k hk => Below.heap_setCell _ _ _ _ (by simpa using hk)
  have hss : (W8.setCell ⟨S, 1, none⟩ v8).heap.size = W8.heap.size := by simp [World.setCell]
  have hS8 : W8.heap[S]? = some (.cells #[.int .i64 q, v] 24 (0, 0)) := (hbl S h.hSB).trans h.hS
  refine ⟨?_, (hset R hRS).trans ((hbl R h.hRB).trans h.hR), ?_, h.hl.block ((hset b hbS).trans (hbl b h.hbB)) (by rw [hss]; exact hs8), (h.ho.grow hN hx hf hg hw).set h.hSB, by rw [hss]; omega, h.hRB, h.hSB, h.hbB⟩
  · exact belowSet (grow_below h.hb h.ho.row hg (by have := h.hSB; omega) h.hB) hws
  · rw [heap_setCell_same _ _ _ _ _ _ hS8]; rfl
theorem PsV.fin {w W : World} {S b off : Nat} {ls : List ByteArray} {q : Int} {B : Nat} {v : Value} {os : List OpW} (h : PsV w W w.heap.size S b off ls q B v os) (x0 x1 : Value) :
    ScR ((W.setCell ⟨w.heap.size, 0, none⟩ x0).setCell ⟨w.heap.size, 1, none⟩ x1) w.heap.size v os ∧ Below w.heap.size w ((W.setCell ⟨w.heap.size, 0, none⟩ x0).setCell ⟨w.heap.size, 1, none⟩ x1) ∧ ((W.setCell ⟨w.heap.size, 0, none⟩ x0).setCell ⟨w.heap.size, 1, none⟩ x1).heap[w.heap.size]? = some (.cells #[x0, x1] 24 (0, 0)) := by
  refine ⟨((h.ho.set h.hRB).set h.hRB).down (Nat.le_of_lt h.hRB), belowSet (belowSet h.hb (Nat.le_refl _)) (Nat.le_refl _), ?_⟩
  rw [heap_setCell_same _ _ _ _ _ _ (heap_setCell_same _ _ _ _ _ _ h.hR)]
  rfl
theorem fil_ok (o : Option Int) (v : Int) (h : ∀ u, o = some u → v = u) : fil o = if (o.isSome && decide (0 ≤ v) && decide (v ≤ 1048576)) = true then some v else none := by
  cases o with
  | none => rfl
  | some u =>
    obtain rfl := h u rfl
    show (if 0 ≤ v ∧ v ≤ 1048576 then some v else none) = _
    by_cases h1 : 0 ≤ v <;> by_cases h2 : v ≤ 1048576 <;> simp [h1, h2]
end Go.Proofs.YtohpfjpgihcmiaaGreatDoor
